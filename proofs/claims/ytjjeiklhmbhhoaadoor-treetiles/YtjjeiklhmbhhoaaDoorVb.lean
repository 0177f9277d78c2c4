import Derived.Test.YtjjeiklhmbhhoaaDoorVa
import Derived.Test.YtjjeiklhmbhhoaaDoorCr
import Derived.Shelf.Abstract
namespace Go.Proofs.YtjjeiklhmbhhoaaDoor.vb
open Go.RowKit Go.PlainAid
open Go.Proofs.YtjjeiklhmbhhoaaDoor.ca Go.Proofs.YtjjeiklhmbhhoaaDoor.cp Go.Proofs.YtjjeiklhmbhhoaaDoor.cu Go.Proofs.YtjjeiklhmbhhoaaDoor.cq Go.Proofs.YtjjeiklhmbhhoaaDoor.cr Go.Proofs.YtjjeiklhmbhhoaaDoor.va
set_option linter.unusedVariables false

-- a struct that is the result, behind one block
theorem two_res (w : World) (o : Obj) (x y : Value) (t : TypeId) : ((w.alloc o).alloc (.cells #[x, y] t)).cell? ⟨w.heap.size + 1, 0, none⟩ = some x ∧ ((w.alloc o).alloc (.cells #[x, y] t)).cell? ⟨w.heap.size + 1, 1, none⟩ = some y := by
  have s1 : (w.alloc o).heap.size = w.heap.size + 1 := by simp
  rw [← s1]
  exact ⟨by rw [World.cell?_alloc_at _ _ _ _ rfl]; rfl, by rw [World.cell?_alloc_at _ _ _ _ rfl]; rfl⟩
theorem kin_form (L I L' I' : Int) : ∃ a b c, kinV L I L' I' = .tuple #[.agg #[.int .i64 a, .int .i64 b], .int .i64 c] := by
  unfold kinV
  split
  · exact ⟨_, _, _, rfl⟩
  · exact ⟨_, _, _, rfl⟩
-- kin, by way of whatever step
set_option maxHeartbeats 1600000 in
theorem kin (g : Nat) (eg : ∀ args w, (callFunc g args).run Tryd.prog w = .ok (.enter g args) w) (L I L' I' : Int)
    (hstep : okA L I → ∀ w, Calls Tryd.prog g #[.agg #[.int .i64 L, .int .i64 I]] w fun e w' => e = .returned (.agg #[.int .i64 L', .int .i64 I']) ∧ Below w.heap.size w w') (w : World) :
    Calls Tryd.prog 17 #[.agg #[.int .i64 L, .int .i64 I], .func (.func g) #[] #[]] w fun e w' => e = .returned (kinV L I L' I') ∧ Below w.heap.size w w' := by
  have V1 : Hid (∀ w, Calls _ _ _ _ _) := fun w => valid L I w
  have V2 : Hid (∀ w, Calls _ _ _ _ _) := fun w => valid L' I' w
  have s1 : (w.alloc (.cells #[.int .i64 L, .int .i64 I] 29)).heap.size = w.heap.size + 1 := by simp
  have HX : Hid (Bx ((w.alloc (.cells #[.int .i64 L, .int .i64 I] 29)).alloc (.cells #[.int .i64 0, .int .i64 0] 29)) w.heap.size L I) :=
    (bx_new w L I).later ((Below.refl _ _).alloc (Nat.le_refl _) (.cells #[.int .i64 0, .int .i64 0] 29))
  have HZ : Hid (((w.alloc (.cells #[.int .i64 L, .int .i64 I] 29)).alloc (.cells #[.int .i64 0, .int .i64 0] 29)).heap[w.heap.size + 1]? = some (.cells #[.int .i64 0, .int .i64 0] 29 (0, 0))) := by
    show _ = _
    rw [← s1]
    exact heap_alloc_new _ _
  have B0 : Hid (Below w.heap.size w ((w.alloc (.cells #[.int .i64 L, .int .i64 I] 29)).alloc (.cells #[.int .i64 0, .int .i64 0] 29))) := ((Below.refl _ _).alloc (Nat.le_refl _) _).alloc (by simp) _
  clear s1
  by_cases hok : okA L I
  · have ST : Hid (∀ w, Calls _ _ _ _ _) := fun w => hstep hok w
    rw [decide_eq_true hok] at V1
    obtain ⟨b2, HB2⟩ : ∃ b, Hid (decide (okA L' I') = b) := ⟨_, rfl⟩
    rw [HB2.out] at V2
    have HK : Hid (kinV L I L' I' = if b2 then .tuple #[.agg #[.int .i64 L', .int .i64 I'], .int .i64 0] else .tuple #[.agg #[.int .i64 0, .int .i64 0], .int .i64 50]) := by
      show _ = _
      rw [← HB2.out]
      unfold kinV
      by_cases h2 : okA L' I' <;> simp [hok, h2]
    rw [HK.out]
    clear HK hstep hok
    go_enter Tryd.func17, Tryd.ntmps17
    go_wp2_with fail
    refine (V1.out _).mono ?_
    rintro e w1 ⟨rfl, hb⟩
    have B1 : Hid (Below w.heap.size w w1) := over B0.out hb
    have HX1 : Hid (Bx w1 w.heap.size L I) := HX.out.later hb
    have HZ1 : Hid (w1.heap[w.heap.size + 1]? = some (.cells #[.int .i64 0, .int .i64 0] 29 (0, 0))) := (hb.block _ (Array.getElem?_eq_some_iff.1 HZ.out).1).trans HZ.out
    obtain ⟨c1, c2⟩ := HX1.out
    clear hb HX HZ B0
    go_wp2_with fail
    refine (ST.out _).mono ?_
    rintro e w2 ⟨rfl, hb⟩
    have B2 : Hid (Below w.heap.size w w2) := over B1.out hb
    have HZ2 : Hid (w2.heap[w.heap.size + 1]? = some (.cells #[.int .i64 0, .int .i64 0] 29 (0, 0))) := (hb.block _ (Array.getElem?_eq_some_iff.1 HZ1.out).1).trans HZ1.out
    clear hb c1 c2 HX1 HZ1 B1
    go_wp2_with fail
    refine (V2.out _).mono ?_
    rintro e w3 ⟨rfl, hb⟩
    have B3 : Hid (Below w.heap.size w w3) := over (B2.out.alloc B2.out.size _) hb
    obtain ⟨c1, c2⟩ := (bx_new w2 L' I').later hb
    have HZ3 : Hid (w3.heap[w.heap.size + 1]? = some (.cells #[.int .i64 0, .int .i64 0] 29 (0, 0))) := by
      have hlt := (Array.getElem?_eq_some_iff.1 HZ2.out).1
      exact (hb.block _ (by simp; omega)).trans ((heap_alloc_old _ _ hlt).trans HZ2.out)
    clear hb HZ2 B2
    have d1 : w3.cell? ⟨w.heap.size + 1, 0, none⟩ = some (.int .i64 0) := by rw [cell_of_row _ _ _ _ _ _ HZ3.out]; rfl
    have d2 : w3.cell? ⟨w.heap.size + 1, 1, none⟩ = some (.int .i64 0) := by rw [cell_of_row _ _ _ _ _ _ HZ3.out]; rfl
    have f1 := frozen_of_row w3 (w.heap.size + 1) 0 _ _ HZ3.out
    have f2 := frozen_of_row w3 (w.heap.size + 1) 1 _ _ HZ3.out
    have HBS : Hid (∀ x y : Value, Below w.heap.size w ((w3.setCell ⟨w.heap.size + 1, 0, none⟩ x).setCell ⟨w.heap.size + 1, 1, none⟩ y)) := fun x y => (B3.out.setCell (p := ⟨w.heap.size + 1, 0, none⟩) (by show _ ≤ w.heap.size + 1; omega) _).setCell (p := ⟨w.heap.size + 1, 1, none⟩) (by show _ ≤ w.heap.size + 1; omega) _
    have g2 : ∀ x y : Value, ((w3.setCell ⟨w.heap.size + 1, 0, none⟩ x).setCell ⟨w.heap.size + 1, 1, none⟩ y).cell? ⟨w.heap.size + 1, 1, none⟩ = some y := fun x y => by
      rw [cell_of_row _ _ _ _ _ _ (heap_setCell_same _ _ 1 _ _ y (heap_setCell_same w3 _ 0 _ _ x HZ3.out))]; rfl
    have g3 : ∀ x y : Value, ((w3.setCell ⟨w.heap.size + 1, 0, none⟩ x).setCell ⟨w.heap.size + 1, 1, none⟩ y).cell? ⟨w.heap.size + 1, 0, none⟩ = some x := fun x y => by
      rw [cell_of_row _ _ _ _ _ _ (heap_setCell_same _ _ 1 _ _ y (heap_setCell_same w3 _ 0 _ _ x HZ3.out))]; rfl
    cases b2
    all_goals (
      go_wp2
      (try simp only [Exit.inBlock, Exit.then])
      refine bodyPost_ret (by simp [results, Tryd.results17, go_sem, g2, g3]; try rfl) rfl ?_
      exact ⟨rfl, HBS.out _ _⟩)
  · rw [decide_eq_false hok] at V1
    rw [kin_no (fun h => hok h.1)]
    clear hstep hok V2
    go_enter Tryd.func17, Tryd.ntmps17
    go_wp2_with fail
    refine (V1.out _).mono ?_
    rintro e w1 ⟨rfl, hb⟩
    have B1 : Hid (Below w.heap.size w w1) := over B0.out hb
    have HZ1 : Hid (w1.heap[w.heap.size + 1]? = some (.cells #[.int .i64 0, .int .i64 0] 29 (0, 0))) := (hb.block _ (Array.getElem?_eq_some_iff.1 HZ.out).1).trans HZ.out
    clear hb HX HZ B0
    have d1 : w1.cell? ⟨w.heap.size + 1, 0, none⟩ = some (.int .i64 0) := by rw [cell_of_row _ _ _ _ _ _ HZ1.out]; rfl
    have d2 : w1.cell? ⟨w.heap.size + 1, 1, none⟩ = some (.int .i64 0) := by rw [cell_of_row _ _ _ _ _ _ HZ1.out]; rfl
    have f1 := frozen_of_row w1 (w.heap.size + 1) 0 _ _ HZ1.out
    have f2 := frozen_of_row w1 (w.heap.size + 1) 1 _ _ HZ1.out
    have HBS : Hid (∀ x y : Value, Below w.heap.size w ((w1.setCell ⟨w.heap.size + 1, 0, none⟩ x).setCell ⟨w.heap.size + 1, 1, none⟩ y)) := fun x y => (B1.out.setCell (p := ⟨w.heap.size + 1, 0, none⟩) (by show _ ≤ w.heap.size + 1; omega) _).setCell (p := ⟨w.heap.size + 1, 1, none⟩) (by show _ ≤ w.heap.size + 1; omega) _
    have g2 : ∀ x y : Value, ((w1.setCell ⟨w.heap.size + 1, 0, none⟩ x).setCell ⟨w.heap.size + 1, 1, none⟩ y).cell? ⟨w.heap.size + 1, 1, none⟩ = some y := fun x y => by
      rw [cell_of_row _ _ _ _ _ _ (heap_setCell_same _ _ 1 _ _ y (heap_setCell_same w1 _ 0 _ _ x HZ1.out))]; rfl
    have g3 : ∀ x y : Value, ((w1.setCell ⟨w.heap.size + 1, 0, none⟩ x).setCell ⟨w.heap.size + 1, 1, none⟩ y).cell? ⟨w.heap.size + 1, 0, none⟩ = some x := fun x y => by
      rw [cell_of_row _ _ _ _ _ _ (heap_setCell_same _ _ 1 _ _ y (heap_setCell_same w1 _ 0 _ _ x HZ1.out))]; rfl
    go_wp2
    (try simp only [Exit.inBlock, Exit.then])
    refine bodyPost_ret (by simp [results, Tryd.results17, go_sem, g2, g3]; try rfl) rfl ?_
    exact ⟨rfl, HBS.out _ _⟩
end Go.Proofs.YtjjeiklhmbhhoaaDoor.vb
