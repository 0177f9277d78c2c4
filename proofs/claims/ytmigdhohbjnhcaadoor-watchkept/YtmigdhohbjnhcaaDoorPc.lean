import Derived.Test.YtmigdhohbjnhcaaDoorPb
namespace Go.Proofs.YtmigdhohbjnhcaaDoor.pc
open Go.RowKit Go.PlainAid
open Go.Proofs.YtmigdhohbjnhcaaDoor.pl Go.Proofs.YtmigdhohbjnhcaaDoor.pa Go.Proofs.YtmigdhohbjnhcaaDoor.pb
set_option linter.unusedVariables false

-- but for block h the world is as it was
structure Keeps (h : Nat) (w w' : World) : Prop where
  os : w'.os = w.os
  tape : w'.tape = w.tape
  output : w'.output = w.output
  size : w.heap.size ≤ w'.heap.size
  block : ∀ k, k < w.heap.size → k ≠ h → w'.heap[k]? = w.heap[k]?

theorem Keeps.refl (h : Nat) (w : World) : Keeps h w w := ⟨rfl, rfl, rfl, Nat.le_refl _, fun _ _ _ => rfl⟩
theorem Keeps.trans {h : Nat} {a b c : World} (x : Keeps h a b) (y : Keeps h b c) : Keeps h a c :=
  ⟨y.os.trans x.os, y.tape.trans x.tape, y.output.trans x.output, Nat.le_trans x.size y.size, fun k hk hn => (y.block k (Nat.lt_of_lt_of_le hk x.size) hn).trans (x.block k hk hn)⟩
theorem Keeps.of_below {h : Nat} {w w' : World} (b : Below w.heap.size w w') : Keeps h w w' := ⟨b.os, b.tape, b.output, b.size, fun k hk _ => b.block k hk⟩
theorem Keeps.setCell {h : Nat} {w w' : World} (x : Keeps h w w') (o : Nat) (v : Value) : Keeps h w (w'.setCell ⟨h, o, none⟩ v) :=
  ⟨x.os, x.tape, x.output, by simpa [World.setCell] using x.size, fun k hk hn => (Below.heap_setCell _ _ _ _ hn).trans (x.block k hk hn)⟩
theorem Keeps.drewN {h : Nat} {w w' : World} (x : Keeps h w w') (n : Nat) : Keeps h w (w'.drewN n) := ⟨x.os, x.tape, x.output, x.size, x.block⟩
theorem Keeps.alloc {h : Nat} {w w' : World} (x : Keeps h w w') (o : Obj) : Keeps h w (w'.alloc o) :=
  x.trans ⟨rfl, rfl, rfl, by simp, fun k hk _ => Below.heap_alloc _ _ _ hk⟩
theorem Keeps.setRow {h : Nat} {w w' : World} (x : Keeps h w w') (cs : Array Value) : Keeps h w (w'.setRow h cs) :=
  x.trans ⟨rfl, rfl, rfl, by simp [World.setRow], fun k hk hn => setRow_other _ _ _ _ hn⟩
theorem Keeps.setRow_new {h : Nat} {w w' : World} (x : Keeps h w w') (g : Nat) (hg : w.heap.size ≤ g) (cs : Array Value) : Keeps h w (w'.setRow g cs) :=
  ⟨x.os, x.tape, x.output, by simpa [World.setRow] using x.size, fun k hk hn => (setRow_other _ _ _ _ (by omega)).trans (x.block k hk hn)⟩
theorem Keeps.below {h B : Nat} {w w' : World} (x : Keeps h w w') (hB : B ≤ h) (hw : B ≤ w.heap.size) : Below B w w' := ⟨x.os, x.tape, x.output, x.size, fun k hk => x.block k (by omega) (by omega)⟩
theorem Keeps.cell {h : Nat} {w w' : World} (x : Keeps h w w') {p : Addr} (h1 : p.block < w.heap.size) (h2 : p.block ≠ h) : w'.cell? p = w.cell? p := World.cell?_of_block (w := w) (x.block p.block h1 h2)

-- a block that opens with words
def hc (V : List Int) (rest : List Value) : Array Value := (V.map (Value.int .u32) ++ rest).toArray
theorem hc_get (V : List Int) (rest : List Value) (i : Nat) (h : i < V.length) : (hc V rest)[i]? = some (.int .u32 (V.getD i 0)) := by
  rw [hc, List.getElem?_toArray, List.getElem?_append_left (by simpa using h)]
  simp [List.getD, h]
theorem hc_set (V : List Int) (rest : List Value) (i : Nat) (x : Int) (h : i < V.length) : (hc V rest).setIfInBounds i (.int .u32 x) = hc (V.set i x) rest := by
  simp only [hc, List.setIfInBounds_toArray]
  rw [List.set_append_left _ _ (by simpa using h), List.map_set]

def KT (w : World) (kk : Nat → Int) : Prop := ∀ j, j < 64 → w.cell? ⟨3, j, none⟩ = some (.int .u32 (kk j))
theorem KT.lt {w : World} {kk : Nat → Int} (h : KT w kk) : 3 < w.heap.size := World.block_lt_of_cell? w ⟨3, 0, none⟩ (h 0 (by omega))
theorem KT.keep {w w' : World} {kk : Nat → Int} {h : Nat} (x : KT w kk) (k : Keeps h w w') (hh : 4 ≤ h) : KT w' kk := fun j hj => (k.cell x.lt (show 3 ≠ h by omega)).trans (x j hj)

theorem val_a (T U : Int) : Value.int .u32 ((T % 4294967296 + U) % 4294967296) = .int .u32 ((T + U) % 4294967296) := by congr 1; omega
theorem val_e (d T : Int) : Value.int .u32 ((d + T % 4294967296) % 4294967296) = .int .u32 ((d + T) % 4294967296) := by congr 1; omega

theorem index8 (X : St) (W : World) : ∀ k : Nat, k < 8 → (Instr.index 51 (.agg #[.int .u32 X.a, .int .u32 X.b, .int .u32 X.c, .int .u32 X.d, .int .u32 X.e, .int .u32 X.f, .int .u32 X.g, .int .u32 X.h]) (.int .i64 k)).run Tryd.prog W = .ok (.int .u32 (X.list.getD k 0)) W
  | 0, _ => by kernel_rfl
  | 1, _ => by kernel_rfl
  | 2, _ => by kernel_rfl
  | 3, _ => by kernel_rfl
  | 4, _ => by kernel_rfl
  | 5, _ => by kernel_rfl
  | 6, _ => by kernel_rfl
  | 7, _ => by kernel_rfl

structure LayT (w w1 : World) (h : Nat) (T : TypeId) (V : List Int) (rest : List Value) (WL : Array Value) (wr : World) : Prop where
  lh : wr.heap[h]? = some (.cells (hc V rest) T (0, 0))
  lw : wr.heap[w1.heap.size]? = some (.cells WL 64 (0, 0))
  lk : Keeps h w wr

set_option maxHeartbeats 800000 in
set_option maxRecDepth 100000 in
theorem take (h : Nat) (v : St) (rest : List Value) (T : TypeId) (R : Array Value) (g kk : Nat → Int) (w : World) (h4 : 4 ≤ h) (hv : v.ok)
    (HH : Hid (w.heap[h]? = some (.cells (hc v.list rest) T (0, 0)))) (HRs : Hid (R.size = 64)) (HR : Hid (∀ j, j < 64 → R[j]? = some (.int .u8 (g j)) ∧ 0 ≤ g j ∧ g j ≤ 255)) (HK : Hid (KT w kk)) :
    Calls Tryd.prog 29 #[.pointer (some ⟨h, 0, none⟩), .agg R] w fun e w' => e = .returned (.tuple #[]) ∧ Keeps h w w' ∧ w'.heap[h]? = some (.cells (hc (blockF kk g 0 v).list rest) T (0, 0)) := by
  obtain ⟨v0, v1, v2, v3, v4, v5, v6, v7⟩ := v
  have hlt : h < w.heap.size := (Array.getElem?_eq_some_iff.1 HH.out).1
  have HIR : Hid ((Tryd.prog.info? 56).map (·.size) = some R.size) := by show _ = _; rw [HRs.out]; kernel_rfl
  go_enter Tryd.func29, Tryd.ntmps29
  go_wp2_with (refine wpList_load_row rfl 56 (.tmp 3) rfl w.heap.size rfl 56 R (0, 0) _ (heap_alloc_new w _) Tryd.underlying56 rfl HIR.out ?_)
  refine (schedule R g _ HRs HR).mono ?_
  rintro e w1 ⟨rfl, hb⟩
  have hs1 : w.heap.size + 1 ≤ w1.heap.size := by have := hb.size; simp at this; omega
  have hbel : Below w.heap.size w w1 := ((Below.refl _ _).alloc (Nat.le_refl _) _).trans (hb.mono (by simp))
  have HV1 : Hid _ := (hbel.block h hlt).trans HH.out
  have HL : Hid (Below w.heap.size w w1) := hbel
  clear hb hbel
  have hlen : (row32 (wL g 0 64)).size = 64 := by rw [row32_size, wL_length]
  have HI : Hid ((Tryd.prog.info? 64).map (·.size) = some (row32 (wL g 0 64)).size) := by show _ = _; rw [hlen]; kernel_rfl
  have H3 : Hid ((row32 (wL g 0 64)).all (·.oneCell') = true) := by show _ = _; simp [row32, Value.oneCell']
  have H4 : Hid (64 = (row32 (wL g 0 64)).size) := by show _ = _; rw [hlen]
  clear hlen
  obtain ⟨x, HWX⟩ : ∃ x : Nat → Int, Hid (∀ j, j < 64 → x j = (wL g 0 64).getD j 0) := ⟨fun j => (wL g 0 64).getD j 0, fun _ _ => rfl⟩
  have HWL : Hid (∀ j, j < 64 → (row32 (wL g 0 64))[j]? = some (.int .u32 (x j))) := fun j hj => by
    rw [row32_get, List.getElem?_eq_getElem (by rw [wL_length]; exact hj), HWX.out j hj, List.getD, List.getElem?_eq_getElem (by rw [wL_length]; exact hj)]
    rfl
  generalize row32 (wL g 0 64) = WL at *
  go_wp2_with (refine wpList_store_row rfl 64 (.tmp 4) (.tmp 19) rfl w1.heap.size WL rfl rfl 64 _ (heap_alloc_new w1 _) HI.out H4.out H3.out ?_; rw [World.setRow_alloc_new])
  have lay0 : LayT w w1 h T [v0, v1, v2, v3, v4, v5, v6, v7] rest WL (w1.alloc (.cells WL 64)) := ⟨(heap_alloc_old w1 _ (by omega)).trans HV1.out, heap_alloc_new w1 _, (Keeps.of_below HL.out).alloc _⟩
  generalize hw2 : w1.alloc (.cells WL 64) = w2 at *
  clear hw2
  have LAY0 : Hid (LayT _ _ _ _ _ _ _ _) := lay0
  clear lay0
  have hh : ∀ i, i < 8 → w2.cell? ⟨h, i, none⟩ = some (.int .u32 ([v0, v1, v2, v3, v4, v5, v6, v7].getD i 0)) := fun i hi => by
    rw [cell_of_row _ _ _ _ _ _ LAY0.out.lh]; exact hc_get _ _ _ hi
  have X0 : w2.cell? ⟨h, 0, none⟩ = some (.int .u32 v0) := hh 0 (by omega)
  have X1 : w2.cell? ⟨h, 1, none⟩ = some (.int .u32 v1) := hh 1 (by omega)
  have X2 : w2.cell? ⟨h, 2, none⟩ = some (.int .u32 v2) := hh 2 (by omega)
  have X3 : w2.cell? ⟨h, 3, none⟩ = some (.int .u32 v3) := hh 3 (by omega)
  have X4 : w2.cell? ⟨h, 4, none⟩ = some (.int .u32 v4) := hh 4 (by omega)
  have X5 : w2.cell? ⟨h, 5, none⟩ = some (.int .u32 v5) := hh 5 (by omega)
  have X6 : w2.cell? ⟨h, 6, none⟩ = some (.int .u32 v6) := hh 6 (by omega)
  have X7 : w2.cell? ⟨h, 7, none⟩ = some (.int .u32 v7) := hh 7 (by omega)
  clear hh
  go_wp2_with fail
  go_quiet (fail)
  go_wp2_with fail
  clear X0 X1 X2 X3 X4 X5 X6 X7
  have lay1 : LayT w w1 h T [v0, v1, v2, v3, v4, v5, v6, v7] rest WL (w2.drewN nq) := ⟨LAY0.out.lh, LAY0.out.lw, LAY0.out.lk.drewN nq⟩
  go_loopw [5, 6, 7, 8, 9, 10, 11, 12, 52] (fun A B C D E F G H i wr => ∃ (t : Nat) (s : St), t ≤ 64 ∧ i = .int .i64 t ∧ A = .int .u32 s.a ∧ B = .int .u32 s.b ∧ C = .int .u32 s.c ∧ D = .int .u32 s.d ∧ E = .int .u32 s.e ∧ F = .int .u32 s.f ∧ G = .int .u32 s.g ∧ H = .int .u32 s.h ∧ s = rnds kk x ⟨v0, v1, v2, v3, v4, v5, v6, v7⟩ t ∧ LayT w w1 h T [v0, v1, v2, v3, v4, v5, v6, v7] rest WL wr ∧ s.ok) (fun _ _ _ _ _ _ _ _ i _ => (64 - intOf i).toNat)
  case atStart => exact ⟨0, ⟨v0, v1, v2, v3, v4, v5, v6, v7⟩, by omega, rfl, rfl, rfl, rfl, rfl, rfl, rfl, rfl, rfl, rfl, lay1, hv⟩
  case round =>
    obtain ⟨t, ⟨a, b, c, d, e, f, g', h'⟩, ht, rfl, rfl, rfl, rfl, rfl, rfl, rfl, rfl, rfl, hS, lay, ok⟩ := hrel
    clear lay1 LAY0
    have HS : Hid _ := hS
    have OK : Hid (St.ok _) := ok
    have LAY : Hid (LayT _ _ _ _ _ _ _ _) := lay
    clear hS lay
    obtain ⟨⟨ha0, ha1⟩, ⟨hb0, hb1⟩, ⟨hc0, hc1⟩, ⟨hd0, hd1⟩, ⟨he0, he1⟩, ⟨hf0, hf1⟩, ⟨hg0, hg1⟩, ⟨hh0, hh1⟩⟩ := ok
    simp only at ha0 ha1 hb0 hb1 hc0 hc1 hd0 hd1 he0 he1 hf0 hf1 hg0 hg1 hh0 hh1
    have hsg : IntKind.u32.signed = false := rfl
    by_cases hlt : t < 64
    · have hlt' : (t : Int) < 64 := by omega
      have hkt : wr.cell? ⟨3, t, none⟩ = some (.int .u32 (kk t)) := HK.out.keep LAY.out.lk h4 t hlt
      have hwt : wr.cell? ⟨w1.heap.size, t, none⟩ = some (.int .u32 (x t)) := by
        rw [cell_of_row _ _ _ _ _ _ LAY.out.lw]; exact HWL.out t hlt
      go_wp2_with fail
      go_quiet ((go_at_call 40; exact Calls.quiet_of_same (turnsZ _ _ _ _ _ (by assumption) (by assumption) (by omega) (by omega) (by omega) (by omega) (by omega) (by omega))))
      generalize hW2 : wr.drewN nq = wr2
      have HL2 : Hid (LayT w w1 h T [v0, v1, v2, v3, v4, v5, v6, v7] rest WL wr2) := show LayT _ _ _ _ _ _ _ _ from by subst hW2; exact ⟨LAY.out.lh, LAY.out.lw, LAY.out.lk.drewN nq⟩
      clear hW2
      go_wp2_with fail
      refine (turnsZ a 2 13 22 _ ha0 ha1 (by omega) (by omega) (by omega) (by omega) (by omega) (by omega)).mono ?_
      rintro e w' ⟨rfl, rfl⟩
      go_wp2
      go_roundw
      case rel =>
        have e1 : rnds kk x ⟨v0, v1, v2, v3, v4, v5, v6, v7⟩ (t + 1) = rnd ⟨a, b, c, d, e, f, g', h'⟩ (kk t) (x t) := by
          show rnd _ _ _ = _
          rw [← HS.out]
        exact ⟨t + 1, rnd ⟨a, b, c, d, e, f, g', h'⟩ (kk t) (x t), by omega, by go_num, val_a _ _, rfl, rfl, rfl, val_e _ _, rfl, rfl, rfl, e1.symm, HL2.out, rnd_ok _ _ _ OK.out⟩
      case measure => simp [intOf]; omega
    · have hlt' : ¬ (t : Int) < 64 := by omega
      obtain rfl : t = 64 := by omega
      have HV : Hid (LayT w w1 h T (addL (St.mk v0 v1 v2 v3 v4 v5 v6 v7).list (St.mk a b c d e f g' h').list 0) rest WL wr) := LAY.out
      generalize hVV : St.mk v0 v1 v2 v3 v4 v5 v6 v7 = VV at *
      generalize hXX : St.mk a b c d e f g' h' = XX at *
      go_wp2_with fail
      go_loopw [112] (fun i wq => ∃ k : Nat, k ≤ 8 ∧ i = .int .i64 k ∧ LayT w w1 h T (addL VV.list XX.list k) rest WL wq) (fun i _ => (8 - intOf i).toNat)
      case atStart => exact ⟨0, by omega, rfl, HV.out⟩
      case round =>
        obtain ⟨k, hk, rfl, lay⟩ := hrel
        clear LAY HV
        have LAY : Hid (LayT _ _ _ _ _ _ _ _) := lay
        clear lay
        by_cases hk8 : k < 8
        · have hk8' : (k : Int) < 8 := by omega
          have hk0 : (0 : Int) ≤ (k : Int) := by omega
          have hal : k < (addL VV.list XX.list k).length := by rw [addL_length VV XX k (by omega)]; exact hk8
          have C1 : wr.cell? ⟨h, k, none⟩ = some (.int .u32 (VV.list.getD k 0)) := by
            rw [cell_of_row _ _ _ _ _ _ LAY.out.lh, hc_get _ _ _ hal, List.getD, addL_get VV XX k hk8]; rfl
          have F1 : wr.frozen? ⟨h, k, none⟩ = false := frozen_of_row _ _ _ _ _ LAY.out.lh
          have HA : Hid _ := addL_set VV XX k hk8
          have hi8 := fun W => index8 XX W k hk8
          revert HA C1 hi8
          generalize VV.list.getD k 0 = vk
          generalize XX.list.getD k 0 = xk
          intro C1 HA hi8
          go_wp2_with fail
          go_region
          go_wp2
          go_roundw
          case rel =>
            refine ⟨k + 1, by omega, by go_num, ⟨?_, ?_, ?_⟩⟩
            · rw [heap_drew, heap_setCell_same _ _ _ _ _ _ LAY.out.lh, hc_set _ _ _ _ hal, HA.out]
            · rw [heap_drew, heap_setCell_other _ _ _ _ (by simp; omega)]; exact LAY.out.lw
            · exact (LAY.out.lk.setCell _ _).drewN 1
          case measure => simp [intOf]; omega
        · have hk8' : ¬ (k : Int) < 8 := by omega
          obtain rfl : k = 8 := by omega
          go_wp2
          go_end0
          refine ⟨rfl, LAY.out.lk, ?_⟩
          rw [LAY.out.lh, addL_full]
          have hq : XX = rnds kk (fun j => (wL g 0 64).getD j 0) VV 64 := by
            rw [HS.out]
            exact rnds_congr kk _ _ VV 64 (fun j hj => HWX.out j hj)
          subst hVV
          rw [hq]
          rfl
end Go.Proofs.YtmigdhohbjnhcaaDoor.pc
