import Derived.Test.YtjjeiklhmbhhoaaDoorVb
namespace Go.Proofs.YtjjeiklhmbhhoaaDoor.vp
open Go.RowKit Go.PlainAid
open Go.Proofs.YtjjeiklhmbhhoaaDoor.ca Go.Proofs.YtjjeiklhmbhhoaaDoor.cp Go.Proofs.YtjjeiklhmbhhoaaDoor.cu Go.Proofs.YtjjeiklhmbhhoaaDoor.cq Go.Proofs.YtjjeiklhmbhhoaaDoor.cr Go.Proofs.YtjjeiklhmbhhoaaDoor.va Go.Proofs.YtjjeiklhmbhhoaaDoor.vb
set_option linter.unusedVariables false

set_option maxHeartbeats 800000 in
theorem stepParent (k i : Nat) (hk : k ≤ 62) (hi : i < 4611686018427387904) (w : World) :
    Calls Tryd.prog 18 #[.agg #[.int .i64 (k : Int), .int .i64 (i : Int)]] w fun e w' => e = .returned (.agg #[.int .i64 ((k : Int) + 1), .int .i64 ((i : Int) / 2)]) ∧ Below w.heap.size w w' := by
  have hg := two_res w (.cells #[.int .i64 (k : Int), .int .i64 (i : Int)] 29)
  have g2 := fun x y => (hg x y 29).1
  have g3 := fun x y => (hg x y 29).2
  have B1 : Hid (∀ x y : Value, Below w.heap.size w ((w.alloc (.cells #[.int .i64 (k : Int), .int .i64 (i : Int)] 29)).alloc (.cells #[x, y] 29))) := fun x y => ((Below.refl _ _).alloc (Nat.le_refl _) _).alloc (by simp) _
  clear hg
  go_enter Tryd.func18, Tryd.ntmps18
  go_wp2
  (try simp only [Exit.inBlock, Exit.then])
  refine bodyPost_ret (by simp [results, Tryd.results18, go_sem, g2, g3]; try rfl) rfl ?_
  exact ⟨rfl, B1.out _ _⟩
set_option maxHeartbeats 1600000 in
theorem pParent (L I : Int) (w : World) :
    Calls Tryd.prog 12 #[.agg #[.int .i64 L, .int .i64 I]] w fun e w' => e = .returned (kinV L I ((L + 1)) ((I / 2))) ∧ Below w.heap.size w w' := by
  have KN : Hid (∀ w, Calls _ _ _ _ _) := fun w => kin 18 (enters_of Tryd.func18 (by kernel_rfl) rfl) L I ((L + 1)) ((I / 2)) (fun hok w => by
    obtain ⟨k, i, rfl, rfl, hk, hf⟩ := okA_form hok
    have him : i < 4611686018427387904 := by
      have := Nat.le_mul_of_pos_right (i + 1) (p2 k)
      omega
    exact stepParent k i hk him w) w
  obtain ⟨ra, rb, rc, HK⟩ := kin_form L I ((L + 1)) ((I / 2))
  rw [HK] at KN ⊢
  clear HK
  have s1 : (w.alloc (.cells #[.int .i64 L, .int .i64 I] 29)).heap.size = w.heap.size + 1 := by simp
  have HZ : Hid (((w.alloc (.cells #[.int .i64 L, .int .i64 I] 29)).alloc (.cells #[.int .i64 0, .int .i64 0] 29)).heap[w.heap.size + 1]? = some (.cells #[.int .i64 0, .int .i64 0] 29 (0, 0))) := by
    show _ = _
    rw [← s1]
    exact heap_alloc_new _ _
  have B0 : Hid (Below w.heap.size w ((w.alloc (.cells #[.int .i64 L, .int .i64 I] 29)).alloc (.cells #[.int .i64 0, .int .i64 0] 29))) := ((Below.refl _ _).alloc (Nat.le_refl _) _).alloc (by simp) _
  clear s1
  go_enter Tryd.func12, Tryd.ntmps12
  go_wp2_with fail
  refine (KN.out _).mono ?_
  rintro e w1 ⟨rfl, hb⟩
  have B1 : Hid (Below w.heap.size w w1) := over B0.out hb
  have HZ1 : Hid (w1.heap[w.heap.size + 1]? = some (.cells #[.int .i64 0, .int .i64 0] 29 (0, 0))) := (hb.block _ (Array.getElem?_eq_some_iff.1 HZ.out).1).trans HZ.out
  clear hb HZ B0
  have d1 : w1.cell? ⟨w.heap.size + 1, 0, none⟩ = some (.int .i64 0) := by rw [cell_of_row _ _ _ _ _ _ HZ1.out]; rfl
  have d2 : w1.cell? ⟨w.heap.size + 1, 1, none⟩ = some (.int .i64 0) := by rw [cell_of_row _ _ _ _ _ _ HZ1.out]; rfl
  have f1 := frozen_of_row w1 (w.heap.size + 1) 0 _ _ HZ1.out
  have f2 := frozen_of_row w1 (w.heap.size + 1) 1 _ _ HZ1.out
  have HBS : Hid (∀ x y : Value, Below w.heap.size w ((w1.setCell ⟨w.heap.size + 1, 0, none⟩ x).setCell ⟨w.heap.size + 1, 1, none⟩ y)) := fun x y => (B1.out.setCell (p := ⟨w.heap.size + 1, 0, none⟩) (by show _ ≤ w.heap.size + 1; omega) _).setCell (p := ⟨w.heap.size + 1, 1, none⟩) (by show _ ≤ w.heap.size + 1; omega) _
  have g2 : ∀ x y : Value, ((w1.setCell ⟨w.heap.size + 1, 0, none⟩ x).setCell ⟨w.heap.size + 1, 1, none⟩ y).cell? ⟨w.heap.size + 1, 1, none⟩ = some y := fun x y => by
    rw [cell_of_row _ _ _ _ _ _ (heap_setCell_same _ _ 1 _ _ y (heap_setCell_same w1 _ 0 _ _ x HZ1.out))]; rfl
  have g3 : ∀ x y : Value, ((w1.setCell ⟨w.heap.size + 1, 0, none⟩ x).setCell ⟨w.heap.size + 1, 1, none⟩ y).cell? ⟨w.heap.size + 1, 0, none⟩ = some x := fun x y => by
    rw [cell_of_row _ _ _ _ _ _ (heap_setCell_same _ _ 1 _ _ y (heap_setCell_same w1 _ 0 _ _ x HZ1.out))]; rfl
  go_wp2
  (try simp only [Exit.inBlock, Exit.then])
  refine bodyPost_ret (by simp [results, Tryd.results12, go_sem, g2, g3]; try rfl) rfl ?_
  exact ⟨rfl, HBS.out _ _⟩
theorem parentC : ParentC := fun L I _ _ w => pParent L I w
end Go.Proofs.YtjjeiklhmbhhoaaDoor.vp
