import Derived.Test.YtajfcddabkhamaaDoorY2
import Derived.Deep.WholeRow
import Derived.Test.YtajfcddabkhamaaDoorRows
import Derived.WalkKit
import Derived.WalkSpells
import Derived.Below
import Derived.PlainAid
import Derived.Deep.QuietTactic
import Derived.BigQuiet
import Derived.RowKit3
import Derived.Laws.ResultCell
import Derived.Laws.Rows
import Derived.Laws.Tables
import Derived.Laws.CopyOwn
import Derived.WalkSmall
import Derived.BigRegion
import Derived.RegionTactic
import Derived.Deep.RegionHeld3
import Derived.Deep.MidRow
import Derived.Laws.BytesString
import Derived.Laws.MakeOwn
import Derived.OwnWalk
import Derived.Laws.AppendOwn
import Derived.Deep.AppendLies
namespace Go.Proofs.YtajfcddabkhamaaDoor.rb
open Go.RowKit Go.PlainAid
open Go.Proofs.YtajfcddabkhamaaDoor.ra Go.Proofs.YtajfcddabkhamaaDoor.pl
set_option linter.unusedVariables false

theorem rotrZ (x N : Int) (w : World) (h0 : 0 ≤ x) (h1 : x < 4294967296) (hn : 1 ≤ N) (hn' : N ≤ 31) :
    Calls Tryd.prog 59 #[.int .u32 x, .int .u64 N] w fun e w' => e = .returned (.int .u32 (ROT x N.toNat)) ∧ w' = w := by
  obtain ⟨n, rfl⟩ := Int.eq_ofNat_of_zero_le (show 0 ≤ N by omega)
  exact rotr x n w h0 h1 (by omega) (by omega)

theorem size40 (s : St) : (Tryd.prog.info? 93).map (·.size) = some s.cells.size := by
  have h : (Tryd.prog.info? 93).map (·.size) = some 8 := by kernel_rfl
  exact h

theorem store8 {ops : Array Oper} {rest : List Oper} {o : Oper} {a : Act} {w : World} {Q : Exit → Act → World → Prop} (hgd : o.guard = none) (ho : o.op = .store 93 (.tmp 8) (.tmp 98)) (g : Nat) (Y X : St)
    (hx : a.eval (.tmp 8) = .pointer (some ⟨g, 0, none⟩)) (hy : a.eval (.tmp 98) = .agg Y.cells) (hg : w.heap[g]? = some (.cells X.cells 93 (0, 0)))
    (h : wpList Tryd.prog ops Q rest (a.put o.dst undef) (w.setRow g Y.cells)) : wpList Tryd.prog ops Q (o :: rest) a w :=
  wpList_store_row hgd 93 _ _ ho g Y.cells hx hy 93 X.cells hg (size40 Y) rfl (by simp [St.cells, Value.oneCell']) h

structure Lay (w w1 : World) (WL V X : Array Value) (wr : World) : Prop where
  lx : wr.heap[w1.heap.size + 1]? = some (.cells X 93 (0, 0))
  lw : wr.heap[w1.heap.size]? = some (.cells WL 97 (0, 0))
  lv : wr.heap[w.heap.size]? = some (.cells V 93 (0, 0))
  lr : wr.heap[w.heap.size + 1]? = some (.cells #[.int .u32 0, .int .u32 0, .int .u32 0, .int .u32 0, .int .u32 0, .int .u32 0, .int .u32 0, .int .u32 0] 93 (0, 0))
  lb : Below w.heap.size w wr

set_option maxHeartbeats 800000 in
set_option maxRecDepth 100000 in
theorem block (v : St) (B off len cap p : Nat) (g kk : Nat → Int) (w : World) (hp : p + 63 < len) (hl : len ≤ 140737488355328) (hv : v.ok) (HB : Hid (Bytes w B off len g)) (HK : Hid (∀ j, j < 64 → w.cell? ⟨1, j, none⟩ = some (.int .u32 (kk j)))) :
    Calls Tryd.prog 55 #[.agg v.cells, .slice (some ⟨B, off, none⟩) len cap, .int .i64 p] w fun e w' => e = .returned (.agg (blockF kk g p v).cells) ∧ Below w.heap.size w w' := by
  obtain ⟨v0, v1, v2, v3, v4, v5, v6, v7⟩ := v
  show Calls Tryd.prog 55 #[.agg #[.int .u32 v0, .int .u32 v1, .int .u32 v2, .int .u32 v3, .int .u32 v4, .int .u32 v5, .int .u32 v6, .int .u32 v7], .slice (some ⟨B, off, none⟩) len cap, .int .i64 p] w _
  go_enter Tryd.func55, Tryd.ntmps55
  go_wp2_with fail
  refine (schedule B off len cap p g _ hp hl ?_).mono ?_
  · obtain ⟨h1, h2⟩ := HB.out
    refine ⟨by simp; omega, fun j hj => ⟨?_, (h2 j hj).2⟩⟩
    rw [World.cell?_alloc_lt _ _ _ (by simp; omega), World.cell?_alloc_lt _ _ _ h1]
    exact (h2 j hj).1
  rintro e w1 ⟨rfl, hb⟩
  have hV1 := (hb.block w.heap.size (by simp; omega)).trans (heap_alloc2_old w _ _)
  have hR1 := (hb.block (w.heap.size + 1) (by simp)).trans (heap_alloc2_new w _ _)
  have hs1 : w.heap.size + 2 ≤ w1.heap.size := by have := hb.size; simp at this; omega
  have hbel : Below w.heap.size w w1 := (((Below.refl _ _).alloc (Nat.le_refl _) _).alloc (by simp) _).trans (hb.mono (by simp; omega))
  have HV1 : Hid _ := hV1
  have HR1 : Hid _ := hR1
  have HL : Hid (Below w.heap.size w w1) := hbel
  clear hV1 hR1 hb hbel
  have hlen : (row32 (wL g p 64)).size = 64 := by rw [row32_size, wL_length]
  have HI : Hid ((Tryd.prog.info? 97).map (·.size) = some (row32 (wL g p 64)).size) := by show _ = _; rw [hlen]; kernel_rfl
  have H3 : Hid ((row32 (wL g p 64)).all (·.oneCell') = true) := by show _ = _; simp [row32, Value.oneCell']
  have H4 : Hid (64 = (row32 (wL g p 64)).size) := by show _ = _; rw [hlen]
  clear hlen
  obtain ⟨x, HWX⟩ : ∃ x : Nat → Int, Hid (∀ j, j < 64 → x j = (wL g p 64).getD j 0) := ⟨fun j => (wL g p 64).getD j 0, fun _ _ => rfl⟩
  have HWL : Hid (∀ j, j < 64 → (row32 (wL g p 64))[j]? = some (.int .u32 (x j))) := fun j hj => by
    rw [row32_get, List.getElem?_eq_getElem (by rw [wL_length]; exact hj), HWX.out j hj, List.getD, List.getElem?_eq_getElem (by rw [wL_length]; exact hj)]
    rfl
  generalize row32 (wL g p 64) = WL at *
  have HW : Hid ((w1.alloc (.cells WL 97)).heap[w.heap.size]? = some (.cells #[.int .u32 v0, .int .u32 v1, .int .u32 v2, .int .u32 v3, .int .u32 v4, .int .u32 v5, .int .u32 v6, .int .u32 v7] 93 (0, 0))) := (heap_alloc_old w1 _ (by omega)).trans HV1.out
  have H40 : Hid ((Tryd.prog.info? 93).map (·.size) = some 8) := by show _ = _; kernel_rfl
  go_wp2_with (first | (refine wpList_store_row rfl 97 (.tmp 7) (.tmp 17) rfl w1.heap.size WL rfl rfl 97 _ (heap_alloc_new w1 _) HI.out H4.out H3.out ?_; rw [World.setRow_alloc_new]) | (refine wpList_load_row rfl 93 (.tmp 3) rfl w.heap.size rfl 93 #[.int .u32 v0, .int .u32 v1, .int .u32 v2, .int .u32 v3, .int .u32 v4, .int .u32 v5, .int .u32 v6, .int .u32 v7] (0, 0) _ HW.out Tryd.underlying93 rfl H40.out ?_))
  clear HW
  go_loopw [9] (fun i wr => ∃ (t : Nat) (s : St), t ≤ 64 ∧ i = .int .i64 t ∧ s = rnds kk x ⟨v0, v1, v2, v3, v4, v5, v6, v7⟩ t ∧ Lay w w1 WL #[.int .u32 v0, .int .u32 v1, .int .u32 v2, .int .u32 v3, .int .u32 v4, .int .u32 v5, .int .u32 v6, .int .u32 v7] s.cells wr ∧ s.ok) (fun i _ => (64 - intOf i).toNat)
  case atStart =>
    refine ⟨0, ⟨v0, v1, v2, v3, v4, v5, v6, v7⟩, by omega, rfl, rfl, ⟨?_, ?_, ?_, ?_, ?_⟩, hv⟩
    · exact heap_alloc2_new w1 _ _
    · exact heap_alloc2_old w1 _ _
    · rw [heap_alloc_old _ _ (by simp; omega), heap_alloc_old _ _ (by omega)]; exact HV1.out
    · rw [heap_alloc_old _ _ (by simp; omega), heap_alloc_old _ _ (by omega)]; exact HR1.out
    · exact ((HL.out.alloc (by omega) _).alloc (by simp; omega) _)
  case round =>
    obtain ⟨t, ⟨a, b, c, d, e, f, g', h'⟩, ht, rfl, hS, lay, ok⟩ := hrel
    have HS : Hid _ := hS
    have OK : Hid (St.ok _) := ok
    clear hS
    obtain ⟨lx, lw, lv, lr, lb⟩ := lay
    obtain ⟨⟨ha0, ha1⟩, ⟨hb0, hb1⟩, ⟨hc0, hc1⟩, ⟨hd0, hd1⟩, ⟨he0, he1⟩, ⟨hf0, hf1⟩, ⟨hg0, hg1⟩, ⟨hh0, hh1⟩⟩ := ok
    simp only at ha0 ha1 hb0 hb1 hc0 hc1 hd0 hd1 he0 he1 hf0 hf1 hg0 hg1 hh0 hh1
    have LX : Hid _ := lx; have LW : Hid _ := lw; have LV : Hid _ := lv; have LR : Hid _ := lr; have LB : Hid (Below _ _ _) := lb
    clear lx lw lv lr lb
    have X0 : wr.cell? ⟨w1.heap.size + 1, 0, none⟩ = some (.int .u32 a) := cell_of_row _ _ _ _ _ _ LX.out
    have X1 : wr.cell? ⟨w1.heap.size + 1, 1, none⟩ = some (.int .u32 b) := cell_of_row _ _ _ _ _ _ LX.out
    have X2 : wr.cell? ⟨w1.heap.size + 1, 2, none⟩ = some (.int .u32 c) := cell_of_row _ _ _ _ _ _ LX.out
    have X3 : wr.cell? ⟨w1.heap.size + 1, 3, none⟩ = some (.int .u32 d) := cell_of_row _ _ _ _ _ _ LX.out
    have X4 : wr.cell? ⟨w1.heap.size + 1, 4, none⟩ = some (.int .u32 e) := cell_of_row _ _ _ _ _ _ LX.out
    have X5 : wr.cell? ⟨w1.heap.size + 1, 5, none⟩ = some (.int .u32 f) := cell_of_row _ _ _ _ _ _ LX.out
    have X6 : wr.cell? ⟨w1.heap.size + 1, 6, none⟩ = some (.int .u32 g') := cell_of_row _ _ _ _ _ _ LX.out
    have X7 : wr.cell? ⟨w1.heap.size + 1, 7, none⟩ = some (.int .u32 h') := cell_of_row _ _ _ _ _ _ LX.out
    have hsg : IntKind.u32.signed = false := rfl
    by_cases hlt : t < 64
    · have hlt' : (t : Int) < 64 := by omega
      have hkt : wr.cell? ⟨1, t, none⟩ = some (.int .u32 (kk t)) := by
        have h1 := HK.out t hlt
        rw [← h1]
        exact LB.out.cell (block_lt_of_cell h1)
      have hwt : wr.cell? ⟨w1.heap.size, t, none⟩ = some (.int .u32 (x t)) := by
        rw [cell_of_row _ _ _ _ _ _ LW.out]; exact HWL.out t hlt
      go_wp2_with fail
      go_quiet ((go_at_call 59; exact Calls.quiet_of_same (rotrZ _ _ _ (by assumption) (by assumption) (by omega) (by omega))))
      generalize hW2 : wr.drewN nq = wr2
      have hc2 : ∀ a, wr2.cell? a = wr.cell? a := fun a => by subst hW2; rfl
      have HH2 : Hid (wr2.heap = wr.heap) := show _ = _ by subst hW2; rfl
      have HB2 : Hid (Below w.heap.size w wr2) := show Below _ _ _ from by subst hW2; exact below_drewN LB.out nq
      clear hW2
      go_wp2_with fail
      go_quiet ((go_at_call 59; exact Calls.quiet_of_same (rotrZ _ _ _ (by assumption) (by assumption) (by omega) (by omega))))
      generalize hW3 : wr2.drewN nq = wr3
      have hc3 : ∀ a, wr3.cell? a = wr.cell? a := fun a => by subst hW3; exact hc2 a
      have HH3 : Hid (wr3.heap = wr.heap) := show _ = _ by subst hW3; exact HH2.out
      have HB3 : Hid (Below w.heap.size w wr3) := show Below _ _ _ from by subst hW3; exact below_drewN HB2.out nq
      clear hW3 hc2 HH2 HB2
      have LX3 : Hid (wr3.heap[w1.heap.size + 1]? = some (.cells (St.mk a b c d e f g' h').cells 93 (0, 0))) := by show _ = _; rw [HH3.out]; exact LX.out
      generalize hT2 : (bits .xor .u32 (bits .xor .u32 (ROT a 2) (ROT a 13)) (ROT a 22) + bits .xor .u32 (bits .xor .u32 (bits .and .u32 a b) (bits .and .u32 a c)) (bits .and .u32 b c)) % 4294967296 = T2
      have HT2 : Hid _ := hT2
      clear hT2
      go_wp2_with (refine store8 rfl rfl (w1.heap.size + 1) ⟨_, a, b, c, _, e, f, g'⟩ ⟨a, b, c, d, e, f, g', h'⟩ rfl rfl LX3.out ?_)
      go_roundw
      case rel =>
        have hT2 := HT2.out
        subst hT2
        have e1 : rnds kk x ⟨v0, v1, v2, v3, v4, v5, v6, v7⟩ (t + 1) = rnd ⟨a, b, c, d, e, f, g', h'⟩ (kk t) (x t) := by
          show rnd _ _ _ = _
          rw [← HS.out]
        refine ⟨t + 1, rnd ⟨a, b, c, d, e, f, g', h'⟩ (kk t) (x t), by omega, by go_num, e1.symm, ⟨?_, ?_, ?_, ?_, ?_⟩, rnd_ok _ _ _ OK.out⟩
        · exact setRow_heap _ _ _ _ _ _ LX3.out
        · rw [setRow_other _ _ _ _ (by omega), HH3.out]; exact LW.out
        · rw [setRow_other _ _ _ _ (by omega), HH3.out]; exact LV.out
        · rw [setRow_other _ _ _ _ (by omega), HH3.out]; exact LR.out
        · exact below_setRow HB3.out (by omega) _
      case measure => simp [intOf]; omega
    · have hlt' : ¬ (t : Int) < 64 := by omega
      obtain rfl : t = 64 := by omega
      clear X0 X1 X2 X3 X4 X5 X6 X7
      have HV : Hid (wr.heap[w.heap.size]? = some (.cells (row32 (addL (St.mk v0 v1 v2 v3 v4 v5 v6 v7).list (St.mk a b c d e f g' h').list 0)) 93 (0, 0))) := LV.out
      generalize hVV : St.mk v0 v1 v2 v3 v4 v5 v6 v7 = VV at *
      generalize hXX : St.mk a b c d e f g' h' = XX at *
      go_wp2_with fail
      go_loopw [14] (fun i wq => ∃ k : Nat, k ≤ 8 ∧ i = .int .i64 k ∧ Lay w w1 WL (row32 (addL VV.list XX.list k)) XX.cells wq) (fun i _ => (8 - intOf i).toNat)
      case atStart => exact ⟨0, by omega, rfl, ⟨LX.out, LW.out, HV.out, LR.out, LB.out⟩⟩
      case round =>
        obtain ⟨k, hk, rfl, lay⟩ := hrel
        have LAY : Hid (Lay _ _ _ _ _ _) := lay
        clear lay
        by_cases hk8 : k < 8
        · have hk8' : (k : Int) < 8 := by omega
          have C1 : wr.cell? ⟨w.heap.size, k, none⟩ = some (.int .u32 (VV.list.getD k 0)) := by
            rw [cell_of_row _ _ _ _ _ _ LAY.out.lv, row32_get, addL_get VV XX k hk8]; rfl
          have C2 : wr.cell? ⟨w1.heap.size + 1, k, none⟩ = some (.int .u32 (XX.list.getD k 0)) := by
            rw [cell_of_row _ _ _ _ _ _ LAY.out.lx, St.get XX k hk8]
          have F1 : wr.frozen? ⟨w.heap.size, k, none⟩ = false := frozen_of_row _ _ _ _ _ LAY.out.lv
          have HA : Hid _ := addL_set VV XX k hk8
          revert HA C1 C2
          generalize VV.list.getD k 0 = vk
          generalize XX.list.getD k 0 = xk
          intro C1 C2 HA
          go_wp2_with fail
          go_region
          go_wp2
          go_roundw
          case rel =>
            refine ⟨k + 1, by omega, by go_num, ⟨?_, ?_, ?_, ?_, ?_⟩⟩
            · rw [heap_drew, heap_setCell_other _ _ _ _ (by simp; omega)]; exact LAY.out.lx
            · rw [heap_drew, heap_setCell_other _ _ _ _ (by simp; omega)]; exact LAY.out.lw
            · rw [heap_drew, heap_setCell_same _ _ _ _ _ _ LAY.out.lv, row32_set, HA.out]
            · rw [heap_drew, heap_setCell_other _ _ _ _ (by simp)]; exact LAY.out.lr
            · exact (LAY.out.lb.setCell (by simp) _).drew
          case measure => simp [intOf]; omega
        · have hk8' : ¬ (k : Int) < 8 := by omega
          obtain rfl : k = 8 := by omega
          have hlen : (row32 (addL VV.list XX.list 8)).size = 8 := by rw [row32_size, addL_length VV XX 8 (by omega)]
          have HI8 : Hid ((Tryd.prog.info? 93).map (·.size) = some (row32 (addL VV.list XX.list 8)).size) := by show _ = _; rw [hlen]; exact H40.out
          have HO8 : Hid ((row32 (addL VV.list XX.list 8)).all (·.oneCell') = true) := by show _ = _; simp [row32, Value.oneCell']
          have HS8 : Hid (8 = (row32 (addL VV.list XX.list 8)).size) := by show _ = _; rw [hlen]
          clear hlen
          go_wp2_with (first | (refine wpList_load_row rfl 93 (.tmp 3) rfl w.heap.size rfl 93 (row32 (addL VV.list XX.list 8)) (0, 0) _ LAY.out.lv Tryd.underlying93 rfl HI8.out ?_) | (refine wpList_store_row rfl 93 (.tmp 6) (.tmp 112) rfl (w.heap.size + 1) (row32 (addL VV.list XX.list 8)) rfl rfl 93 _ LAY.out.lr HI8.out HS8.out HO8.out ?_))
          refine bodyPost_ret (v := .agg (row32 (addL VV.list XX.list 8))) (results_cell_row Tryd.results55 _ _ (w.heap.size + 1) 93 _ (0, 0) _ rfl (setRow_heap _ _ _ _ _ _ LAY.out.lr) Tryd.underlying93 rfl HI8.out) rfl ⟨?_, below_setRow LAY.out.lb (by omega) _⟩
          rw [addL_full, ← St.cells_list]
          have hq : XX = rnds kk (fun j => (wL g p 64).getD j 0) VV 64 := by
            rw [HS.out]
            exact rnds_congr kk _ _ VV 64 (fun j hj => HWX.out j hj)
          subst hVV
          rw [hq]
          rfl
end Go.Proofs.YtajfcddabkhamaaDoor.rb

namespace Go.Proofs.YtajfcddabkhamaaDoor.pa
open Go.RowKit Go.PlainAid
open Go.Proofs.YtajfcddabkhamaaDoor.pl
set_option linter.unusedVariables false

theorem and31 (n m : Nat) (h1 : 1 ≤ n) (h2 : n + m = 32) (h3 : 1 ≤ m) : bits .and .u64 (IntKind.u64.wrap (-(n : Int))) 31 = (m : Int) := by
  have e : IntKind.u64.wrap (-(n : Int)) = 18446744073709551616 - (n : Int) := by
    rw [IntKind.wrap_u64]; omega
  rw [e, u64_and _ 31 (by omega) (by omega) (by omega) (by omega)]
  have h : (18446744073709551616 - (n : Int)).toNat &&& (31 : Int).toNat = (18446744073709551616 - (n : Int)).toNat % 32 := Nat.and_two_pow_sub_one_eq_mod _ 5
  rw [h]
  omega

theorem rot_flip (x : Int) (n m : Nat) (h0 : 0 ≤ x) (h1 : x < 4294967296) (h : n + m = 32) : bits .or .u32 (x * 2 ^ m % 4294967296) (x / 2 ^ n) = ROT x n := by
  have hm : 32 - n = m := by omega
  have hp : (0 : Int) < 2 ^ n := Int.pow_pos (by omega)
  have h2 : 0 ≤ x / 2 ^ n := Int.ediv_nonneg h0 (by omega)
  have h3 : x / 2 ^ n ≤ x := Int.ediv_le_self _ h0
  unfold ROT
  rw [hm, or_comm _ _ (by omega) (by omega) h2 (by omega)]

def TRN (x : Int) (i j k : Nat) : Int := bits .xor .u32 (bits .xor .u32 (ROT x i) (ROT x j)) (ROT x k)
def SPR (x : Int) (i j k : Nat) : Int := bits .xor .u32 (bits .xor .u32 (ROT x i) (ROT x j)) (x / 2 ^ k)

end Go.Proofs.YtajfcddabkhamaaDoor.pa

namespace Go.Proofs.YtajfcddabkhamaaDoor.pb
open Go.RowKit Go.PlainAid
open Go.Proofs.YtajfcddabkhamaaDoor.pl Go.Proofs.YtajfcddabkhamaaDoor.pa
set_option linter.unusedVariables false

theorem setCell_drewN (w : World) (n : Nat) (a : Addr) (v : Value) : (w.drewN n).setCell a v = (w.setCell a v).drewN n := rfl

theorem store_next (W : World) (m N : Nat) (l l' : List Int) (t : Nat) (v x : Int) (hN : N = W.heap.size) (hv : v = x) (hset : l.set t x = l') :
    ((W.alloc (.cells (row32 l) 97)).drewN m).setCell ⟨N, t, none⟩ (.int .u32 v) = (W.alloc (.cells (row32 l') 97)).drewN m := by
  rw [setCell_drewN, World.setCell_alloc_at _ _ _ _ _ hN, hv, row32_set, hset]

theorem al64 : Tryd.prog.arrayLen 111 = 64 := by kernel_rfl
theorem el64 : Tryd.prog.elem 111 = 5 := by kernel_rfl
theorem si8 (W : World) : (sizeOf 5).run Tryd.prog W = .ok 1 W := by
  have h : (Tryd.prog.info? 5).map (·.size) = some 1 := by kernel_rfl
  cases hq : Tryd.prog.info? 5 with
  | none => simp [hq] at h
  | some i => simp [hq] at h; simp [sizeOf, typeInfo, hq, h]
theorem un64 : Tryd.prog.underlying 111 = some (.array (Tryd.prog.arrayLen 111) (Tryd.prog.elem 111)) := by rw [al64, el64]; exact Tryd.underlying111

theorem sliceAt_lh (b o l h : Nat) (L H : Int) (hL : L = l) (hH : H = h) (h1 : l ≤ h) (h2 : h ≤ 64) (hl : l < 64) (W : World) :
    (Instr.sliceAt 111 (.pointer (some ⟨b, o, none⟩)) (some (.int .i64 L)) (some (.int .i64 H)) none).run Tryd.prog W = .ok (.slice (some ⟨b, o + l, none⟩) (h - l) (64 - l)) W := by
  subst hL hH
  rw [run_sliceAt_array_lh W 111 _ un64 .i64 .i64 l h (by omega) (by omega) (by rw [al64]; omega), el64, si8, al64]
  simp only [Result.andThen_ok, slicedAt, Int.toNat_natCast, Nat.mul_one]
  rw [if_neg (by omega), Addr.add_mid]
theorem sliceAt_l (b o l : Nat) (L : Int) (hL : L = l) (hl : l < 64) (W : World) :
    (Instr.sliceAt 111 (.pointer (some ⟨b, o, none⟩)) (some (.int .i64 L)) none none).run Tryd.prog W = .ok (.slice (some ⟨b, o + l, none⟩) (64 - l) (64 - l)) W := by
  subst hL
  rw [run_sliceAt_array_l W 111 _ un64 .i64 l (by omega) (by rw [al64]; omega), el64, si8, al64]
  simp only [Result.andThen_ok, slicedAt, Int.toNat_natCast, Nat.mul_one]
  rw [if_neg (by omega), Addr.add_mid]

theorem info64 : (Tryd.prog.info? 97).map (·.size) = some 64 := by kernel_rfl

theorem keep4 (wr : World) (B t : Nat) (v : Value) (n : Nat) (x2 x7 x15 x16 : Value) (g2 : wr.cell? ⟨B, t - 2, none⟩ = some x2) (g7 : wr.cell? ⟨B, t - 7, none⟩ = some x7) (g15 : wr.cell? ⟨B, t - 15, none⟩ = some x15) (g16 : wr.cell? ⟨B, t - 16, none⟩ = some x16) (h : 16 ≤ (t : Int)) :
    ((wr.drewN n).setCell ⟨B, t, none⟩ v).cell? ⟨B, t - 2, none⟩ = some x2 ∧ ((wr.drewN n).setCell ⟨B, t, none⟩ v).cell? ⟨B, t - 7, none⟩ = some x7 ∧ ((wr.drewN n).setCell ⟨B, t, none⟩ v).cell? ⟨B, t - 15, none⟩ = some x15 ∧ ((wr.drewN n).setCell ⟨B, t, none⟩ v).cell? ⟨B, t - 16, none⟩ = some x16 := by
  have e : ∀ d, 1 ≤ d → d ≤ 16 → ((wr.drewN n).setCell ⟨B, t, none⟩ v).cell? ⟨B, t - d, none⟩ = wr.cell? ⟨B, t - d, none⟩ := fun d h1 h2 => World.cell?_setCell_other _ _ _ _ (by intro hh; injection hh with _ h2 _; omega)
  exact ⟨(e 2 (by omega) (by omega)).trans g2, (e 7 (by omega) (by omega)).trans g7, (e 15 (by omega) (by omega)).trans g15, (e 16 (by omega) (by omega)).trans g16⟩

theorem wrap_sum (a b c d : Int) : IntKind.u32.wrap (IntKind.u32.wrap (IntKind.u32.wrap (a + b) + c) + d) = (a + b + c + d) % 4294967296 := by
  simp only [IntKind.wrap_u32]; omega

structure Lay (w : World) (R V X : Array Value) (wr : World) : Prop where
  lr : wr.heap[w.heap.size]? = some (.cells R 111 (0, 0))
  lv : wr.heap[w.heap.size + 1]? = some (.cells V 97 (0, 0))
  lx : wr.heap[w.heap.size + 1 + 1]? = some (.cells X 97 (0, 0))
  lb : Below w.heap.size w wr

theorem wrap_small (x : Int) (h0 : 0 ≤ x) (h1 : x < 4294967296) : IntKind.u32.wrap x = x := by
  rw [IntKind.wrap_u32]; omega

theorem fillW_at (g : Nat → Int) (p t : Nat) (h : t < 64) : (fillW g p t)[t]? = some 0 := by
  rw [fillW, List.getElem?_append_right (by rw [wL_length]; omega), wL_length, List.getElem?_replicate]
  rw [if_pos (by omega)]

theorem Lay.set {w : World} {R V : Array Value} {l l' : List Int} {wr : World} (h : Lay w R V (row32 l) wr) (t : Nat) (v : Int) (hs : l.set t v = l') (n : Nat) : Lay w R V (row32 l') ((wr.setCell ⟨w.heap.size + 1 + 1, t, none⟩ (.int .u32 v)).drewN n) := by
  refine ⟨?_, ?_, ?_, ?_⟩
  · show (wr.setCell _ _).heap[_]? = _
    rw [heap_setCell_other _ _ _ _ (by simp; omega)]; exact h.lr
  · show (wr.setCell _ _).heap[_]? = _
    rw [heap_setCell_other _ _ _ _ (by simp)]; exact h.lv
  · show (wr.setCell _ _).heap[_]? = _
    rw [heap_setCell_same _ _ _ _ _ _ h.lx, row32_set, hs]
  · exact below_drewN (h.lb.setCell (by simp; omega) _) n

end Go.Proofs.YtajfcddabkhamaaDoor.pb

namespace Go.Proofs.YtajfcddabkhamaaDoor.pc
open Go.RowKit Go.PlainAid
open Go.Proofs.YtajfcddabkhamaaDoor.pl Go.Proofs.YtajfcddabkhamaaDoor.pa Go.Proofs.YtajfcddabkhamaaDoor.pb
set_option linter.unusedVariables false

-- but for block h the world is as it was
structure Keeps (h : Nat) (w w' : World) : Prop where
  os : w'.os = w.os
  tape : w'.tape = w.tape
  output : w'.output = w.output
  size : w.heap.size ≤ w'.heap.size
  block : ∀ k, k < w.heap.size → k ≠ h → w'.heap[k]? = w.heap[k]?

theorem Keeps.refl (h : Nat) (w : World) : Keeps h w w := ⟨rfl, rfl, rfl, Nat.le_refl _, fun _ _ _ => rfl⟩
theorem Keeps.trans {h : Nat} {a b c : World} (x : Keeps h a b) (y : Keeps h b c) : Keeps h a c :=
  ⟨y.os.trans x.os, y.tape.trans x.tape, y.output.trans x.output, Nat.le_trans x.size y.size, fun k hk hn => (y.block k (Nat.lt_of_lt_of_le hk x.size) hn).trans (x.block k hk hn)⟩
theorem Keeps.of_below {h : Nat} {w w' : World} (b : Below w.heap.size w w') : Keeps h w w' := ⟨b.os, b.tape, b.output, b.size, fun k hk _ => b.block k hk⟩
theorem Keeps.setCell {h : Nat} {w w' : World} (x : Keeps h w w') (o : Nat) (v : Value) : Keeps h w (w'.setCell ⟨h, o, none⟩ v) :=
  ⟨x.os, x.tape, x.output, by simpa [World.setCell] using x.size, fun k hk hn => (Below.heap_setCell _ _ _ _ hn).trans (x.block k hk hn)⟩
theorem Keeps.drewN {h : Nat} {w w' : World} (x : Keeps h w w') (n : Nat) : Keeps h w (w'.drewN n) := ⟨x.os, x.tape, x.output, x.size, x.block⟩
theorem Keeps.alloc {h : Nat} {w w' : World} (x : Keeps h w w') (o : Obj) : Keeps h w (w'.alloc o) :=
  x.trans ⟨rfl, rfl, rfl, by simp, fun k hk _ => Below.heap_alloc _ _ _ hk⟩
theorem Keeps.setRow {h : Nat} {w w' : World} (x : Keeps h w w') (cs : Array Value) : Keeps h w (w'.setRow h cs) :=
  x.trans ⟨rfl, rfl, rfl, by simp [World.setRow], fun k hk hn => setRow_other _ _ _ _ hn⟩
theorem Keeps.setRow_new {h : Nat} {w w' : World} (x : Keeps h w w') (g : Nat) (hg : w.heap.size ≤ g) (cs : Array Value) : Keeps h w (w'.setRow g cs) :=
  ⟨x.os, x.tape, x.output, by simpa [World.setRow] using x.size, fun k hk hn => (setRow_other _ _ _ _ (by omega)).trans (x.block k hk hn)⟩
theorem Keeps.below {h B : Nat} {w w' : World} (x : Keeps h w w') (hB : B ≤ h) (hw : B ≤ w.heap.size) : Below B w w' := ⟨x.os, x.tape, x.output, x.size, fun k hk => x.block k (by omega) (by omega)⟩
theorem Keeps.cell {h : Nat} {w w' : World} (x : Keeps h w w') {p : Addr} (h1 : p.block < w.heap.size) (h2 : p.block ≠ h) : w'.cell? p = w.cell? p := World.cell?_of_block (w := w) (x.block p.block h1 h2)

-- a block that opens with words
def hc (V : List Int) (rest : List Value) : Array Value := (V.map (Value.int .u32) ++ rest).toArray
theorem hc_get (V : List Int) (rest : List Value) (i : Nat) (h : i < V.length) : (hc V rest)[i]? = some (.int .u32 (V.getD i 0)) := by
  rw [hc, List.getElem?_toArray, List.getElem?_append_left (by simpa using h)]
  simp [List.getD, h]
theorem hc_set (V : List Int) (rest : List Value) (i : Nat) (x : Int) (h : i < V.length) : (hc V rest).setIfInBounds i (.int .u32 x) = hc (V.set i x) rest := by
  simp only [hc, List.setIfInBounds_toArray]
  rw [List.set_append_left _ _ (by simpa using h), List.map_set]

theorem val_a (T U : Int) : Value.int .u32 ((T % 4294967296 + U) % 4294967296) = .int .u32 ((T + U) % 4294967296) := by congr 1; omega
theorem val_e (d T : Int) : Value.int .u32 ((d + T % 4294967296) % 4294967296) = .int .u32 ((d + T) % 4294967296) := by congr 1; omega

theorem index8 (X : St) (W : World) : ∀ k : Nat, k < 8 → (Instr.index 93 (.agg #[.int .u32 X.a, .int .u32 X.b, .int .u32 X.c, .int .u32 X.d, .int .u32 X.e, .int .u32 X.f, .int .u32 X.g, .int .u32 X.h]) (.int .i64 k)).run Tryd.prog W = .ok (.int .u32 (X.list.getD k 0)) W
  | 0, _ => by kernel_rfl
  | 1, _ => by kernel_rfl
  | 2, _ => by kernel_rfl
  | 3, _ => by kernel_rfl
  | 4, _ => by kernel_rfl
  | 5, _ => by kernel_rfl
  | 6, _ => by kernel_rfl
  | 7, _ => by kernel_rfl

structure LayT (w w1 : World) (h : Nat) (T : TypeId) (V : List Int) (rest : List Value) (WL : Array Value) (wr : World) : Prop where
  lh : wr.heap[h]? = some (.cells (hc V rest) T (0, 0))
  lw : wr.heap[w1.heap.size]? = some (.cells WL 97 (0, 0))
  lk : Keeps h w wr

end Go.Proofs.YtajfcddabkhamaaDoor.pc

namespace Go.Proofs.YtajfcddabkhamaaDoor.pd
open Go.RowKit Go.PlainAid
open Go.Proofs.YtajfcddabkhamaaDoor.pl Go.Proofs.YtajfcddabkhamaaDoor.pa Go.Proofs.YtajfcddabkhamaaDoor.pb Go.Proofs.YtajfcddabkhamaaDoor.pc
set_option linter.unusedVariables false

-- the cells of a Hash
def hcells (s : St) (L : List Int) (sz : Int) : Array Value := hc s.list (L.map (Value.int .u8) ++ [.int .i64 sz])
theorem St.len (s : St) : s.list.length = 8 := rfl

theorem hcells_at (s : St) (L : List Int) (sz : Int) (j : Nat) (h : j < L.length) : (hcells s L sz)[8 + j]? = some (.int .u8 (L.getD j 0)) := by
  rw [hcells, hc, List.getElem?_toArray, List.getElem?_append_right (by simp [St.list]), List.length_map, St.len, Nat.add_sub_cancel_left, List.getElem?_append_left (by simpa using h)]
  simp [List.getD, h]

def btL (q : ByteArray) (n : Nat) : List Int := (List.range n).map (bt q)
theorem btL_length (q : ByteArray) (n : Nat) : (btL q n).length = n := by simp [btL]
theorem btL_get (q : ByteArray) (n j : Nat) (h : j < n) : (btL q n).getD j 0 = bt q j := by simp [btL, List.getD, h]

theorem first_cells (q : ByteArray) (n : Nat) (h : n ≤ q.size) : ((q.extract 0 n).data.map fun b => Value.int .u8 b.toNat).toList = (btL q n).map (Value.int .u8) := by
  have hs : (q.extract 0 n).size = n := by rw [ByteArray.size_extract]; omega
  apply List.ext_getElem
  · simp only [Array.toList_map, List.length_map, btL_length, Array.length_toList]; exact hs
  · intro i h1 h2
    have hi : i < n := by simpa [btL_length] using h2
    have e := get_bt (q.extract 0 n) i (by omega)
    rw [bt_extract q 0 n i (by omega) h, Nat.zero_add] at e
    simp only [Array.toList_map, List.getElem_map, btL, List.getElem_range, Array.getElem_toList]
    rw [← e]
    rfl

def laidL (L : List Int) (o : Nat) (cs : List Int) : List Int := L.take o ++ cs ++ L.drop (o + cs.length)
theorem laidL_length (L : List Int) (o : Nat) (cs : List Int) (h : o + cs.length ≤ L.length) : (laidL L o cs).length = L.length := by simp [laidL]; omega
theorem laidL_old (L : List Int) (o : Nat) (cs : List Int) (h : o + cs.length ≤ L.length) (j : Nat) (hj : j < o) : (laidL L o cs).getD j 0 = L.getD j 0 := by
  rw [laidL, List.append_assoc, List.getD, List.getD, List.getElem?_append_left (by simp; omega), List.getElem?_take, if_pos hj]
theorem laidL_new (L : List Int) (o : Nat) (cs : List Int) (h : o + cs.length ≤ L.length) (j : Nat) (hj : j < cs.length) : (laidL L o cs).getD (o + j) 0 = cs.getD j 0 := by
  rw [laidL, List.getD, List.getD, List.getElem?_append_left (by simp; omega), List.getElem?_append_right (by simp; omega), List.length_take, show o + j - min o L.length = j by omega]
theorem laidL_past (L : List Int) (o : Nat) (cs : List Int) (h : o + cs.length ≤ L.length) (j : Nat) (hj : o + cs.length ≤ j) : (laidL L o cs).getD j 0 = L.getD j 0 := by
  rw [laidL, List.getD, List.getD, List.getElem?_append_right (by simp; omega), List.getElem?_drop]
  congr 2
  simp; omega

theorem hcells_copy (s : St) (L : List Int) (sz : Int) (o : Nat) (cs : List Int) (h : o + cs.length ≤ L.length) :
    ((hcells s L sz).toList.take (8 + o) ++ cs.map (Value.int .u8) ++ (hcells s L sz).toList.drop (8 + o + cs.length)).toArray = hcells s (laidL L o cs) sz := by
  have e : (hcells s L sz).toList = s.list.map (Value.int .u32) ++ (L.map (Value.int .u8) ++ [Value.int .i64 sz]) := rfl
  have l8 : (s.list.map (Value.int .u32)).length = 8 := by rw [List.length_map]; rfl
  have e2 : hcells s (laidL L o cs) sz = (s.list.map (Value.int .u32) ++ ((laidL L o cs).map (Value.int .u8) ++ [Value.int .i64 sz])).toArray := rfl
  rw [e, e2]
  congr 1
  rw [List.take_append, l8, List.take_of_length_le (by omega), Nat.add_sub_cancel_left, List.drop_append, l8, List.drop_of_length_le (by omega), List.nil_append, show 8 + o + cs.length - 8 = o + cs.length by omega, List.append_assoc, List.append_assoc]
  congr 1
  rw [List.take_append, List.length_map, show o - L.length = 0 by omega, List.take_zero, List.append_nil, List.drop_append, List.length_map, show o + cs.length - L.length = 0 by omega, List.drop_zero, laidL, List.map_append, List.map_append, List.map_take, List.map_drop]
  simp only [List.append_assoc]

theorem run_copy_str (w : World) (ty : TypeId) (g o dLen dCap n : Nat) (q : ByteArray) (cur : Array Value) (t : TypeId) (hn : n = Nat.min q.size dLen)
    (hg : w.heap[g]? = some (.cells cur t (0, 0))) (hfit : o + n ≤ cur.size) :
    (Builtin.copy_ #[65, 9] ty #[.slice (some ⟨g, o, none⟩) dLen dCap, .string q]).run Tryd.prog w =
      .ok (goInt n) (w.setRow g (cur.toList.take o ++ (btL q n).map (Value.int .u8) ++ cur.toList.drop (o + n)).toArray) := by
  have hle : n ≤ q.size := by rw [hn]; exact Nat.min_le_left _ _
  have hst := run_storeCells_at Tryd.prog g o t ((btL q n).map (Value.int .u8)) 0 cur w hg (by simpa [btL_length] using hfit) (by intro v hv; simp only [List.mem_map] at hv; obtain ⟨x, _, rfl⟩ := hv; rfl)
  simp only [Nat.add_zero, List.length_map, btL_length] at hst
  have hf := first_cells q n hle
  simp only [Builtin.copy_, Builtin.lenOf, Builtin.firstCells, List.getElem?_toArray, List.getElem?_cons_zero, List.getElem?_cons_succ, Sem.run_bind, Sem.run_pure, run_underlying Tryd.underlying65, Result.andThen_ok, si8, ← hn, hf, hst]
end Go.Proofs.YtajfcddabkhamaaDoor.pd

namespace Go.Proofs.YtajfcddabkhamaaDoor.pe
open Go.RowKit Go.PlainAid
open Go.Proofs.YtajfcddabkhamaaDoor.pl Go.Proofs.YtajfcddabkhamaaDoor.pa Go.Proofs.YtajfcddabkhamaaDoor.pb Go.Proofs.YtajfcddabkhamaaDoor.pc Go.Proofs.YtajfcddabkhamaaDoor.pd
set_option linter.unusedVariables false

structure Inv (g : Nat → Int) (N : Nat) (L : List Int) : Prop where
  len : L.length = 64
  rng : ∀ j, j < 64 → 0 ≤ L.getD j 0 ∧ L.getD j 0 ≤ 255
  eq : ∀ j, j < N % 64 → L.getD j 0 = g (64 * (N / 64) + j)

def szOf : Value → Nat | .string s => s.size | _ => 0

-- behind a copy that fills it
theorem Inv.full {g : Nat → Int} {N : Nat} {L : List Int} (x : Inv g N L) (r : ByteArray) (n : Nat) (hr : ∀ j, j < r.size → bt r j = g (N + j)) (hn : n ≤ r.size) (h : N % 64 + n = 64) :
    Inv g (N + n) (laidL L (N % 64) (btL r n)) ∧ ∀ j, j < 64 → (laidL L (N % 64) (btL r n)).getD j 0 = g (64 * (N / 64) + j) := by
  have hl : N % 64 + (btL r n).length ≤ L.length := by rw [btL_length, x.len]; omega
  have key : ∀ j, j < 64 → (laidL L (N % 64) (btL r n)).getD j 0 = g (64 * (N / 64) + j) ∧ 0 ≤ (laidL L (N % 64) (btL r n)).getD j 0 ∧ (laidL L (N % 64) (btL r n)).getD j 0 ≤ 255 := fun j hj => by
    rcases Nat.lt_or_ge j (N % 64) with h1 | h1
    · rw [laidL_old _ _ _ hl _ h1]; exact ⟨x.eq j h1, x.rng j hj⟩
    · obtain ⟨i, rfl⟩ : ∃ i, j = N % 64 + i := ⟨j - N % 64, by omega⟩
      rw [laidL_new _ _ _ hl _ (by rw [btL_length]; omega), btL_get _ _ _ (by omega)]
      refine ⟨?_, bt_nonneg _ _, bt_le _ _⟩
      rw [hr i (by omega)]; congr 1; omega
  exact ⟨⟨by rw [laidL_length _ _ _ hl, x.len], fun j hj => (key j hj).2, fun j hj => by omega⟩, fun j hj => (key j hj).1⟩

theorem rest_size (r : ByteArray) (n : Nat) (h : n ≤ r.size) : (r.extract n r.size).size = r.size - n := by rw [ByteArray.size_extract]; omega
theorem rest_bt (r : ByteArray) (n M : Nat) (g : Nat → Int) (h : n ≤ r.size) (hr : ∀ j, j < r.size → bt r j = g (M + j)) : ∀ j, j < (r.extract n r.size).size → bt (r.extract n r.size) j = g (M + n + j) := fun j hj => by
  rw [rest_size r n h] at hj
  rw [bt_extract r n r.size j (by omega) (Nat.le_refl _), hr _ (by omega)]
  congr 1; omega

theorem size64b : (Tryd.prog.info? 111).map (·.size) = some 64 := by kernel_rfl

end Go.Proofs.YtajfcddabkhamaaDoor.pe

namespace Go.Proofs.YtajfcddabkhamaaDoor.pf
open Go.RowKit Go.PlainAid
open Go.Proofs.YtajfcddabkhamaaDoor.pl Go.Proofs.YtajfcddabkhamaaDoor.pa Go.Proofs.YtajfcddabkhamaaDoor.pb Go.Proofs.YtajfcddabkhamaaDoor.pc Go.Proofs.YtajfcddabkhamaaDoor.pd Go.Proofs.YtajfcddabkhamaaDoor.pe
set_option linter.unusedVariables false

theorem info5 : (Tryd.prog.info? 5).map (fun i => (i.zero, i.size, i.bytes)) = some (some (.int .u8 0), 1, 1) := by kernel_rfl

theorem made_row (n : Nat) : madeCells (Value.int .u8 0).cells n = row (List.replicate n 0) := by
  apply Array.ext
  · simp [size_madeCells, row_size]
  · intro i h1 h2
    simp [madeCells, row, Value.cells, Nat.mod_one]

theorem make_row (n : Nat) (hn : n ≤ 1048576) (w : World) :
    (Instr.makeSlice 65 (.int .i64 n) (.int .i64 n)).run Tryd.prog w = .ok (.slice (some ⟨w.heap.size, 0, none⟩) n n) (w.alloc (.cells (row (List.replicate n 0)) 5)) := by
  obtain ⟨i, hi, hz0, hz1, hz2⟩ := info_parts info5
  have h := run_make (P := Tryd.prog) w 65 5 i (.int .u8 0) Tryd.underlying65 hi hz0 .i64 .i64 (n : Int) (n : Int) (by omega) (by omega) (by rw [hz2]; omega) (by omega)
  rw [hz1] at h
  simp only [Int.toNat_natCast, Nat.mul_one] at h
  rw [made_row] at h
  exact h

-- string(b) where b's cells are known
theorem conv_at (ns : List Int) (W : World) (g o n cap : Nat) (hn : n = ns.length) (hc : ∀ j v, (ns.map (Value.int .u8))[j]? = some v → W.cell? ((⟨g, o, none⟩ : Addr).add j) = some v) :
    (convert 65 9 (.slice (some ⟨g, o, none⟩) n cap)).run Tryd.prog W = .ok (.string (str ns)) W := by
  subst hn
  rw [run_convert_bytes_string _ 65 9 5 _ _ _ Tryd.underlying65 Tryd.underlying5 Tryd.underlying9]
  refine run_bytesToString _ _ _ _ ns ?_
  have h := run_loadCells_list (P := Tryd.prog) (w := W) ⟨g, o, none⟩ (ns.map (Value.int .u8)) hc
  simpa using h

theorem conv_row (ns : List Int) (w : World) (n : Nat) (hn : n = ns.length) :
    (convert 65 9 (.slice (some ⟨w.heap.size, 0, none⟩) n n)).run Tryd.prog (w.alloc (.cells (row ns) 5)) = .ok (.string (str ns)) (w.alloc (.cells (row ns) 5)) :=
  conv_at ns _ _ _ _ _ hn (fun j v hj => by
    have e : (Addr.add ⟨w.heap.size, 0, none⟩ j) = ⟨w.heap.size, j, none⟩ := by cases j <;> simp [Addr.add]
    rw [e, World.cell?_alloc_at _ _ _ _ rfl, row, List.getElem?_toArray]
    exact hj)

def beL (v : Int) (n k : Nat) : List Int := List.replicate (n - k) 0 ++ lowB v k
theorem beL_full (v : Int) (n : Nat) : beL v n n = lowB v n := by simp [beL]
theorem beL_length (v : Int) (n k : Nat) (h : k ≤ n) : (beL v n k).length = n := by simp [beL, lowB_length]; omega
theorem beL_set (v : Int) (n k : Nat) (h : k < n) : (beL v n k).set (n - 1 - k) (v / 256 ^ k % 256) = beL v n (k + 1) := by
  obtain ⟨m, rfl⟩ : ∃ m, n = k + 1 + m := ⟨n - (k + 1), by omega⟩
  have e1 : k + 1 + m - 1 - k = m := by omega
  have e2 : k + 1 + m - k = m + 1 := by omega
  have e3 : k + 1 + m - (k + 1) = m := by omega
  rw [beL, beL, e1, e2, e3, List.replicate_succ', List.append_assoc, List.set_append_right _ _ (by simp)]
  simp [lowB]
theorem pow256 (k : Nat) : (2 : Int) ^ (8 * k) = 256 ^ k := by rw [Int.pow_mul]; rfl

def padK (z : Nat) (c : Int) (k : Nat) : List Int := 128 :: (List.replicate z 0 ++ beL c 8 k)
theorem padK_zero (z : Nat) (c : Int) : (List.replicate (9 + z) (0 : Int)).set 0 128 = padK z c 0 := by
  rw [padK, beL, show 9 + z = (z + 8) + 1 by omega, List.replicate_succ, List.set_cons_zero]
  simp [lowB, ← List.replicate_append_replicate]
theorem padK_length (z : Nat) (c : Int) (k : Nat) (h : k ≤ 8) : (padK z c k).length = 9 + z := by simp [padK, beL_length c 8 k h]; omega
theorem padK_set (z : Nat) (c : Int) (k : Nat) (h : k < 8) : (padK z c k).set (8 + z - k) (c / 256 ^ k % 256) = padK z c (k + 1) := by
  rw [padK, padK, show 8 + z - k = (z + (8 - 1 - k)) + 1 by omega, List.set_cons_succ, List.set_append_right _ _ (by simp), List.length_replicate, Nat.add_sub_cancel_left, beL_set c 8 k h]

end Go.Proofs.YtajfcddabkhamaaDoor.pf

namespace Go.Proofs.YtajfcddabkhamaaDoor.pg
open Go.RowKit Go.PlainAid
open Go.Proofs.YtajfcddabkhamaaDoor.pl Go.Proofs.YtajfcddabkhamaaDoor.pa Go.Proofs.YtajfcddabkhamaaDoor.pb Go.Proofs.YtajfcddabkhamaaDoor.pc Go.Proofs.YtajfcddabkhamaaDoor.pd Go.Proofs.YtajfcddabkhamaaDoor.pe Go.Proofs.YtajfcddabkhamaaDoor.pf
set_option linter.unusedVariables false

theorem own_conv (W : World) (B : Nat) (v : Value) (ns : List Int) (n : Nat) (hn : n = ns.length) (h0 : 0 < n) (ho : W.ownsRow B 5 1 v n (ns.map (Value.int .u8))) :
    (convert 65 9 v).run Tryd.prog W = .ok (.string (str ns)) W := by
  obtain ⟨hl, h | ⟨g, cap, cur, rfl, hg, hh, h1, h2, h3, h4⟩⟩ := ho
  · omega
  · refine conv_at ns W g 0 n cap hn (fun j u hj => ?_)
    have hjl : j < n := by rw [hn]; simpa using (List.getElem?_eq_some_iff.1 hj).1
    rw [Addr.add_mid, Nat.zero_add, cell_of_row _ _ _ _ _ _ hh, ← hj, ← h4, List.getElem?_take, if_pos (by omega), Array.getElem?_toList]

theorem make_room (w : World) (c : Nat) (hc : c ≤ 1048576) :
    (Instr.makeSlice 65 (.int .i64 0) (.int .i64 c)).run Tryd.prog w = .ok (.slice (some ⟨w.heap.size, 0, none⟩) 0 c) (w.alloc (.cells (row (List.replicate c 0)) 5)) := by
  obtain ⟨i, hi, hz0, hz1, hz2⟩ := info_parts info5
  have h := run_make (P := Tryd.prog) w 65 5 i (.int .u8 0) Tryd.underlying65 hi hz0 .i64 .i64 0 (c : Int) (by omega) (by omega) (by rw [hz2]; omega) (by omega)
  rw [hz1] at h
  simp only [Int.toNat_natCast, Nat.mul_one, Int.toNat_zero] at h
  rw [made_row] at h
  exact h

theorem four_new (W : World) (a b c d : Value) (t : TypeId) : ∀ j u, [a, b, c, d][j]? = some u → (W.alloc (.cells #[a, b, c, d] t)).cell? ((⟨W.heap.size, 0, none⟩ : Addr).add j) = some u := by
  intro j u hj
  rw [Addr.add_mid, Nat.zero_add, World.cell?_alloc_at _ _ _ _ rfl]
  simpa using hj

theorem bytes_next (v : St) (k : Nat) (h : k < 8) : bytesL (v.list.take (k + 1)) = bytesL (v.list.take k) ++ wordB (v.list.getD k 0) := by
  have hk : k < v.list.length := h
  rw [← bytesL_snoc]
  congr 1
  rw [List.take_add_one, List.getElem?_eq_getElem hk]
  simp [List.getD, hk]

theorem St.rng (v : St) (hv : v.ok) : ∀ k, k < 8 → 0 ≤ v.list.getD k 0 ∧ v.list.getD k 0 < 4294967296
  | 0, _ => hv.1
  | 1, _ => hv.2.1
  | 2, _ => hv.2.2.1
  | 3, _ => hv.2.2.2.1
  | 4, _ => hv.2.2.2.2.1
  | 5, _ => hv.2.2.2.2.2.1
  | 6, _ => hv.2.2.2.2.2.2.1
  | 7, _ => hv.2.2.2.2.2.2.2

end Go.Proofs.YtajfcddabkhamaaDoor.pg
