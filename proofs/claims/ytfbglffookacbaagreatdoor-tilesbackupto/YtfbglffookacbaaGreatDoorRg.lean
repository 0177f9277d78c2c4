import Derived.Test.YtfbglffookacbaaGreatDoorRa
namespace Go.Proofs.YtfbglffookacbaaGreatDoor.rg
open Go.RowKit Go.PlainAid Go.Shelf
open Go.Proofs.YtfbglffookacbaaGreatDoor.ta Go.Proofs.YtfbglffookacbaaGreatDoor.tb Go.Proofs.YtfbglffookacbaaGreatDoor.tc Go.Proofs.YtfbglffookacbaaGreatDoor.cp Go.Proofs.YtfbglffookacbaaGreatDoor.wa Go.Proofs.YtfbglffookacbaaGreatDoor.wb Go.Proofs.YtfbglffookacbaaGreatDoor.a2 Go.Proofs.YtfbglffookacbaaGreatDoor.r3 Go.Proofs.YtfbglffookacbaaGreatDoor.r8 Go.Proofs.YtfbglffookacbaaGreatDoor.r9 Go.Proofs.YtfbglffookacbaaGreatDoor.ra
set_option linter.unusedVariables false

theorem pts_cell (W : World) (path : ByteArray) (c : Nat) (j : Nat) (hj : j < (ptsL path).length) : (W.alloc (.cells (Lib.cellsOf (ptsL path) c) 9)).cell? ⟨W.heap.size, j, none⟩ = some (.string ((ptsL path).getD j ByteArray.empty)) := by
  rw [World.cell?_alloc_at _ _ _ _ rfl]
  unfold Lib.cellsOf
  rw [List.getElem?_toArray, List.getElem?_append_left (by rw [List.length_map]; exact hj), List.getElem?_map, List.getElem?_eq_getElem hj, List.getD_eq_getElem?_getD, List.getElem?_eq_getElem hj]
  rfl
theorem pts_four (path : ByteArray) : (ptsL path).length ≤ 4 := by
  have := Lib.splitB_length_le ⟨#[47]⟩ 0 (min 4 (path.size + 1) - 1) path
  unfold ptsL
  omega
theorem put4 (W : World) (b : Nat) (t : TypeId) (a0 a1 a2 a3 : Value) (h : W.heap[b]? = some (.cells #[a0, a1, a2, a3] t (0, 0))) (x0 x1 x2 x3 : Value) :
    ((((W.setCell ⟨b, 0, none⟩ x0).setCell ⟨b, 1, none⟩ x1).setCell ⟨b, 2, none⟩ x2).setCell ⟨b, 3, none⟩ x3).heap[b]? = some (.cells #[x0, x1, x2, x3] t (0, 0)) := by
  have h1 := heap_setCell_same W b 0 _ _ x0 h
  have h2 := heap_setCell_same _ b 1 _ _ x1 h1
  have h3 := heap_setCell_same _ b 2 _ _ x2 h2
  exact heap_setCell_same _ b 3 _ _ x3 h3
set_option maxRecDepth 100000 in
set_option maxHeartbeats 3200000 in
theorem guess_short (path : ByteArray) (hs : path.size ≤ 2097152) (h4 : (ptsL path).length < 4) (w : World) (hM : MaxW w) :
    Calls Tryz.prog 15 #[.string path] w fun e w' => e = .returned (gsV path) ∧ Below w.heap.size w w' := by
  obtain ⟨W0, HW0⟩ : ∃ W0, Hid (w.alloc (.cells #[.int .i64 0, .int .i64 0, .int .i64 0, .int .i64 0] 23) = W0) := ⟨_, rfl⟩
  have B0 : Hid (Below w.heap.size w W0) := by show Below _ _ _; rw [← HW0.out]; exact (Below.refl _ _).alloc (Nat.le_refl _) _
  have HM : Hid (MaxW w) := hM
  have HT0 : Hid (W0.heap[w.heap.size]? = some (.cells #[.int .i64 0, .int .i64 0, .int .i64 0, .int .i64 0] 23 (0, 0))) := by show _ = _; rw [← HW0.out]; exact heap_alloc_new _ _
  have SC : Hid (Calls _ _ _ _ _) := splitC path ⟨#[47]⟩ 4 W0 (HM.out.down B0.out) (by omega) (by decide) (by decide) (by decide)
  have HE : Hid (Lib.splitB ⟨#[47]⟩ 0 (min 4 (path.size + 1) - 1) path = ptsL path) := rfl
  rw [HE.out] at SC
  clear hM
  · have HV : Hid (gsV path = .agg #[.int .i64 0, .int .i64 0, .int .i64 0, .int .i64 0]) := by show _ = _; unfold gsV; rw [if_pos h4]
    obtain ⟨n, HNn⟩ : ∃ n, Hid ((ptsL path).length = n) := ⟨_, rfl⟩
    rw [HNn.out] at SC h4
    have h4' : (n : Int) < 4 := by omega
    obtain ⟨W1, HW1⟩ : ∃ W1, Hid (W0.alloc (.cells (Lib.cellsOf (ptsL path) (min 4 (path.size + 1))) 9) = W1) := ⟨_, rfl⟩
    rw [HW1.out] at SC
    have b1 : Below W0.heap.size W0 W1 := by rw [← HW1.out]; exact (Below.refl _ _).alloc (Nat.le_refl _) _
    have B1 : Hid (Below w.heap.size w W1) := B0.out.trans (b1.mono B0.out.size)
    have ht1 : W1.heap[w.heap.size]? = some (.cells #[.int .i64 0, .int .i64 0, .int .i64 0, .int .i64 0] 23 (0, 0)) := (b1.block _ (Array.getElem?_eq_some_iff.1 HT0.out).1).trans HT0.out
    have c0 : W1.cell? ⟨w.heap.size, 0, none⟩ = some (.int .i64 0) := by rw [cell_of_row _ _ _ _ _ _ ht1]; rfl
    have c1 : W1.cell? ⟨w.heap.size, 1, none⟩ = some (.int .i64 0) := by rw [cell_of_row _ _ _ _ _ _ ht1]; rfl
    have c2 : W1.cell? ⟨w.heap.size, 2, none⟩ = some (.int .i64 0) := by rw [cell_of_row _ _ _ _ _ _ ht1]; rfl
    have c3 : W1.cell? ⟨w.heap.size, 3, none⟩ = some (.int .i64 0) := by rw [cell_of_row _ _ _ _ _ _ ht1]; rfl
    have f0 := frozen_of_row W1 w.heap.size 0 _ _ ht1
    have f1 := frozen_of_row W1 w.heap.size 1 _ _ ht1
    have f2 := frozen_of_row W1 w.heap.size 2 _ _ ht1
    have f3 := frozen_of_row W1 w.heap.size 3 _ _ ht1
    have H5 : Hid (_ = _) := put4 W1 w.heap.size _ _ _ _ _ ht1 (.int .i64 0) (.int .i64 0) (.int .i64 0) (.int .i64 0)
    clear b1 ht1
    go_enter Tryz.func15, Tryz.ntmps15
    go_wp2_with fail
    rw [HW0.out]
    refine SC.out.mono ?_
    rintro e w1 ⟨rfl, hw1⟩
    subst hw1
    go_wp2
    obtain ⟨W5, HW5⟩ : ∃ W5, Hid ((((w1.setCell ⟨w.heap.size, 0, none⟩ (.int .i64 0)).setCell ⟨w.heap.size, 1, none⟩ (.int .i64 0)).setCell ⟨w.heap.size, 2, none⟩ (.int .i64 0)).setCell ⟨w.heap.size, 3, none⟩ (.int .i64 0) = W5) := ⟨_, rfl⟩
    have h5 := H5.out
    rw [HW5.out] at h5 ⊢
    have d0 : W5.cell? ⟨w.heap.size, 0, none⟩ = some (.int .i64 0) := by rw [cell_of_row _ _ _ _ _ _ h5]; rfl
    have d1 : W5.cell? ⟨w.heap.size, 1, none⟩ = some (.int .i64 0) := by rw [cell_of_row _ _ _ _ _ _ h5]; rfl
    have d2 : W5.cell? ⟨w.heap.size, 2, none⟩ = some (.int .i64 0) := by rw [cell_of_row _ _ _ _ _ _ h5]; rfl
    have d3 : W5.cell? ⟨w.heap.size, 3, none⟩ = some (.int .i64 0) := by rw [cell_of_row _ _ _ _ _ _ h5]; rfl
    have B5 : Below w.heap.size w W5 := by
      rw [← HW5.out]
      exact (((B1.out.setCell (p := ⟨w.heap.size, 0, none⟩) (Nat.le_refl _) _).setCell (p := ⟨w.heap.size, 1, none⟩) (Nat.le_refl _) _).setCell (p := ⟨w.heap.size, 2, none⟩) (Nat.le_refl _) _).setCell (p := ⟨w.heap.size, 3, none⟩) (Nat.le_refl _) _
    refine bodyPost_ret (by simp [results, Tryz.results15, go_sem, d0, d1, d2, d3]; try rfl) rfl ?_
    exact ⟨by rw [HV.out], B5⟩
end Go.Proofs.YtfbglffookacbaaGreatDoor.rg
