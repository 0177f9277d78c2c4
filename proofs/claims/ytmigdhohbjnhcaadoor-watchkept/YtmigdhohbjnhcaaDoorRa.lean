import Derived.Test.YtmigdhohbjnhcaaDoorRows
import Derived.Test.YtmigdhohbjnhcaaDoorPl
import Derived.WalkKit
import Derived.WalkSpells
import Derived.Below
import Derived.PlainAid
import Derived.Deep.QuietTactic
import Derived.BigQuiet
import Derived.RowKit3
import Derived.Laws.ResultCell
import Derived.Laws.Rows
import Derived.Laws.Tables
import Derived.Laws.CopyOwn
import Derived.WalkSmall
import Derived.BigRegion
import Derived.RegionTactic
namespace Go.Proofs.YtmigdhohbjnhcaaDoor.ra
open Go.RowKit Go.PlainAid
open Go.Proofs.YtmigdhohbjnhcaaDoor.pl
set_option linter.unusedVariables false

theorem rotr (x : Int) (n : Nat) (w : World) (h0 : 0 ≤ x) (h1 : x < 4294967296) (hn : 1 ≤ n) (hn' : n ≤ 31) :
    Calls Tryd.prog 35 #[.int .u32 x, .int .u64 n] w fun e w' => e = .returned (.int .u32 (ROT x n)) ∧ w' = w := by
  go_enter Tryd.func35, Tryd.ntmps35
  go_wp2
  go_ret
  exact ⟨rfl, rfl⟩

set_option maxHeartbeats 800000 in
theorem word (B off len cap p : Nat) (c0 c1 c2 c3 : Int) (w : World) (hp : p + 3 < len) (hl : len ≤ 140737488355328)
    (b0 : 0 ≤ c0 ∧ c0 ≤ 255) (b1 : 0 ≤ c1 ∧ c1 ≤ 255) (b2 : 0 ≤ c2 ∧ c2 ≤ 255) (b3 : 0 ≤ c3 ∧ c3 ≤ 255)
    (e0 : w.cell? ⟨B, off + p, none⟩ = some (.int .u8 c0)) (e1 : w.cell? ⟨B, off + (p + 1), none⟩ = some (.int .u8 c1)) (e2 : w.cell? ⟨B, off + (p + 2), none⟩ = some (.int .u8 c2)) (e3 : w.cell? ⟨B, off + (p + 3), none⟩ = some (.int .u8 c3)) :
    Calls Tryd.prog 42 #[.slice (some ⟨B, off, none⟩) len cap, .int .i64 p] w fun e w' => e = .returned (.int .u32 (WORD c0 c1 c2 c3)) ∧ ∃ n, w' = w.drewN n := by
  have g0 : (p : Int) < len := by omega
  have g1 : (p : Int) + 1 < len := by omega
  have g2 : (p : Int) + 2 < len := by omega
  have g3 : (p : Int) + 3 < len := by omega
  go_enter Tryd.func42, Tryd.ntmps42
  go_wp2_with fail
  go_quiet (fail)
  go_wp2
  go_ret
  exact ⟨rfl, nq, rfl⟩

theorem setCell_drewN (w : World) (n : Nat) (a : Addr) (v : Value) : (w.drewN n).setCell a v = (w.setCell a v).drewN n := rfl

theorem rotr' (x : Int) (n : Nat) (N : Int) (hN : N = n) (w : World) (h0 : 0 ≤ x) (h1 : x < 4294967296) (hn : 1 ≤ n) (hn' : n ≤ 31) :
    Calls Tryd.prog 35 #[.int .u32 x, .int .u64 N] w fun e w' => e = .returned (.int .u32 (ROT x n)) ∧ w' = w := by
  subst hN
  exact rotr x n w h0 h1 hn hn'

def Bytes (w : World) (B off len : Nat) (g : Nat → Int) : Prop := B < w.heap.size ∧ ∀ j, j < len → w.cell? ⟨B, off + j, none⟩ = some (.int .u8 (g j)) ∧ 0 ≤ g j ∧ g j ≤ 255

theorem store_next (W : World) (m N : Nat) (l l' : List Int) (t : Nat) (v x : Int) (hN : N = W.heap.size) (hv : v = x) (hset : l.set t x = l') :
    ((W.alloc (.cells (row32 l) 64)).drewN m).setCell ⟨N, t, none⟩ (.int .u32 v) = (W.alloc (.cells (row32 l') 64)).drewN m := by
  rw [setCell_drewN, World.setCell_alloc_at _ _ _ _ _ hN, hv, row32_set, hset]

set_option maxHeartbeats 1600000 in
theorem schedule (B off len cap p : Nat) (g : Nat → Int) (w : World) (hp : p + 63 < len) (hl : len ≤ 140737488355328) (HB : Hid (Bytes w B off len g)) :
    Calls Tryd.prog 34 #[.slice (some ⟨B, off, none⟩) len cap, .int .i64 p] w fun e w' => e = .returned (.agg (row32 (wL g p 64))) ∧ Below w.heap.size w w' := by
  obtain ⟨hBw, hcells⟩ := HB.out
  have HC : Hid _ := hcells
  clear hcells
  go_enter Tryd.func34, Tryd.ntmps34
  go_wp2_with fail
  go_loopw [6] (fun i wr => ∃ k n : Nat, k ≤ 16 ∧ i = .int .i64 k ∧ wr = ((w.alloc (.cells z64 64)).alloc (.cells (row32 (fillW g p k)) 64)).drewN n) (fun i _ => (16 - intOf i).toNat)
  case atStart => exact ⟨0, 0, by omega, rfl, rfl⟩
  case round =>
    obtain ⟨k, n, hk, rfl, rfl⟩ := hrel
    by_cases hlt : k < 16
    · have hlt' : (k : Int) < 16 := by omega
      have hsz : k < (row32 (fillW g p k)).size := by rw [row32_size, fillW_length g p k (by omega)]; omega
      have hcr : ∀ j, j < len → (((w.alloc (.cells z64 64)).alloc (.cells (row32 (fillW g p k)) 64)).drewN n).cell? ⟨B, off + j, none⟩ = some (.int .u8 (g j)) := by
        intro j hj
        rw [World.cell?_drewN, World.cell?_alloc_lt _ _ _ (by simp; omega), World.cell?_alloc_lt _ _ _ hBw]
        exact (HC.out j hj).1
      have HCR : Hid _ := hcr
      clear hcr
      have HX : Hid _ := fillW_set g p k _ (by omega) (wL_low g p k hlt)
      go_wp2_with fail
      rw [show (p : Int) + 4 * (k : Int) = ((p + 4 * k : Nat) : Int) by omega]
      refine (word B off len cap (p + 4 * k) (g (p + 4 * k)) (g (p + 4 * k + 1)) (g (p + 4 * k + 2)) (g (p + 4 * k + 3)) _ (by omega) hl (HC.out _ (by omega)).2 (HC.out _ (by omega)).2 (HC.out _ (by omega)).2 (HC.out _ (by omega)).2 (HCR.out _ (by omega)) (HCR.out _ (by omega)) (HCR.out _ (by omega)) (HCR.out _ (by omega))).mono ?_
      rintro e w' ⟨rfl, m, rfl⟩
      go_wp2
      go_roundw
      case rel => exact ⟨k + 1, n + m, by omega, by go_num, by rw [setCell_drewN, World.setCell_alloc_at _ _ _ _ _ (by simp), row32_set, HX.out]⟩
      case measure => simp [intOf]; omega
    · have hlt' : ¬ (k : Int) < 16 := by omega
      obtain rfl : k = 16 := by omega
      go_wp2_with fail
      go_loopw [7] (fun i wr => ∃ t m : Nat, 16 ≤ t ∧ t ≤ 64 ∧ i = .int .i64 t ∧ wr = ((w.alloc (.cells z64 64)).alloc (.cells (row32 (fillW g p t)) 64)).drewN m) (fun i _ => (64 - intOf i).toNat)
      case atStart => exact ⟨16, n, by omega, by omega, rfl, rfl⟩
      case round =>
        obtain ⟨t, m, ht1, ht2, rfl, rfl⟩ := hrel
        by_cases hlt : t < 64
        · have hlt' : (t : Int) < 64 := by omega
          have HX : Hid _ := fillW_set g p t _ hlt (wL_high g p t (by omega))
          have hsz : t < (row32 (fillW g p t)).size := by rw [row32_size, fillW_length g p t (by omega)]; omega
          have get : ∀ d, 1 ≤ d → d ≤ 16 → (row32 (fillW g p t))[t - d]? = some (.int .u32 ((wL g p t).getD (t - d) 0)) := by
            intro d h1 h2
            rw [row32_get, fillW_get g p t (t - d) (by omega)]; rfl
          have g15 := get 15 (by omega) (by omega)
          have g2 := get 2 (by omega) (by omega)
          have g7 := get 7 (by omega) (by omega)
          have g16 := get 16 (by omega) (by omega)
          have r15 := wL_range g p t (t - 15)
          have r2 := wL_range g p t (t - 2)
          clear get
          have HN : Hid (nextW (wL g p t) t = (S1 ((wL g p t).getD (t - 2) 0) + (wL g p t).getD (t - 7) 0 + S0 ((wL g p t).getD (t - 15) 0) + (wL g p t).getD (t - 16) 0) % 4294967296) := rfl
          revert HN g15 g2 g7 g16 r15 r2
          generalize (wL g p t).getD (t - 15) 0 = x15
          generalize (wL g p t).getD (t - 2) 0 = x2
          generalize (wL g p t).getD (t - 7) 0 = x7
          generalize (wL g p t).getD (t - 16) 0 = x16
          intro g15 g2 g7 g16 r15 r2 HN
          obtain ⟨r15a, r15b⟩ := r15
          obtain ⟨r2a, r2b⟩ := r2
          go_wp2_with fail
          refine (rotr' x15 7 7 rfl _ r15a r15b (by omega) (by omega)).mono ?_
          rintro e w' ⟨rfl, rfl⟩
          go_wp2_with fail
          refine (rotr' x15 18 18 rfl _ r15a r15b (by omega) (by omega)).mono ?_
          rintro e w' ⟨rfl, rfl⟩
          go_wp2_with fail
          refine (rotr' x2 17 17 rfl _ r2a r2b (by omega) (by omega)).mono ?_
          rintro e w' ⟨rfl, rfl⟩
          go_wp2_with fail
          refine (rotr' x2 19 19 rfl _ r2a r2b (by omega) (by omega)).mono ?_
          rintro e w' ⟨rfl, rfl⟩
          go_wp2_with fail
          go_region
          go_wp2
          go_roundw
          case rel => exact ⟨t + 1, m + 1, by omega, by omega, by go_num, store_next _ _ _ _ _ _ _ _ (by simp) HN.out.symm HX.out⟩
          case measure => simp [intOf]; omega
        · have hlt' : ¬ (t : Int) < 64 := by omega
          obtain rfl : t = 64 := by omega
          have hf : fillW g p 64 = wL g p 64 := by simp [fillW]
          rw [hf]
          have hlen : (row32 (wL g p 64)).size = 64 := by rw [row32_size, wL_length]
          have hi : (Tryd.prog.info? 64).map (·.size) = some (row32 (wL g p 64)).size := by rw [hlen]; kernel_rfl
          have h1 : ((((w.alloc (.cells z64 64)).alloc (.cells (row32 (wL g p 64)) 64)).drewN m).heap)[w.heap.size + 1]? = some (.cells (row32 (wL g p 64)) 64 (0, 0)) := heap_alloc2_new w _ _
          have h2 : ((((w.alloc (.cells z64 64)).alloc (.cells (row32 (wL g p 64)) 64)).drewN m).heap)[w.heap.size]? = some (.cells z64 64 (0, 0)) := heap_alloc2_old w _ _
          have h3 : (row32 (wL g p 64)).all (·.oneCell') = true := by simp [row32, Value.oneCell']
          have h4 : z64.size = (row32 (wL g p 64)).size := by rw [hlen]; rfl
          have HI : Hid _ := hi; have H1 : Hid _ := h1; have H2 : Hid _ := h2; have H3 : Hid _ := h3; have H4 : Hid _ := h4
          clear hf hlen hi h1 h2 h3 h4
          go_wp2_with (first | (refine wpList_load_row rfl 64 (.tmp 5) rfl (w.heap.size + 1) rfl 64 (row32 (wL g p 64)) (0, 0) _ H1.out Tryd.underlying64 rfl HI.out ?_) | (refine wpList_store_row rfl 64 (.tmp 4) (.tmp 67) rfl w.heap.size (row32 (wL g p 64)) rfl rfl 64 z64 H2.out HI.out H4.out H3.out ?_))
          exact bodyPost_ret (v := .agg (row32 (wL g p 64))) (results_cell_row Tryd.results34 _ _ w.heap.size 64 _ (0, 0) _ rfl (setRow_heap _ _ _ _ _ _ H2.out) Tryd.underlying64 rfl HI.out) rfl ⟨rfl, below_setRow (below_drewN (((Below.refl _ _).alloc (Nat.le_refl _) _).alloc (by simp) _) m) (Nat.le_refl _) _⟩
end Go.Proofs.YtmigdhohbjnhcaaDoor.ra
