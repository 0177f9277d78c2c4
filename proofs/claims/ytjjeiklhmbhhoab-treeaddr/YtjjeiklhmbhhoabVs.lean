import Derived.Test.YtjjeiklhmbhhoabVb
namespace Go.Proofs.Ytjjeiklhmbhhoab.vs
open Go.RowKit Go.PlainAid
open Go.Proofs.Ytjjeiklhmbhhoab.ca Go.Proofs.Ytjjeiklhmbhhoab.cp Go.Proofs.Ytjjeiklhmbhhoab.cu Go.Proofs.Ytjjeiklhmbhhoab.cq Go.Proofs.Ytjjeiklhmbhhoab.cr Go.Proofs.Ytjjeiklhmbhhoab.va Go.Proofs.Ytjjeiklhmbhhoab.vb
set_option linter.unusedVariables false

theorem xor_one (i : Nat) (h : i ≤ 4611686018427387904) : bits .xor .i64 (i : Int) 1 = sib i := by
  have h1 : (BitVec.ofInt 64 1).toNat = 1 := by decide
  have key : (BitVec.ofInt 64 (i : Int) ^^^ BitVec.ofInt 64 1).toNat = i ^^^ 1 := by
    rw [BitVec.toNat_xor, BitVec.toNat_ofInt, h1]
    congr 1
    omega
  have h2 : (i ^^^ 1 : Nat) = if i % 2 = 0 then i + 1 else i - 1 := by
    split
    · rename_i e
      obtain ⟨d, rfl⟩ : ∃ d, i = 2 * d := ⟨i / 2, by omega⟩
      apply Nat.eq_of_testBit_eq
      intro j
      rw [Nat.testBit_xor]
      cases j with
      | zero => simp [Nat.testBit_zero]
      | succ j =>
        rw [Nat.testBit_succ, Nat.testBit_succ, Nat.testBit_succ]
        rw [show 2 * d / 2 = d by omega, show (2 * d + 1) / 2 = d by omega, show 1 / 2 = 0 by decide, Nat.zero_testBit, Bool.xor_false]
    · rename_i e
      obtain ⟨d, rfl⟩ : ∃ d, i = 2 * d + 1 := ⟨i / 2, by omega⟩
      apply Nat.eq_of_testBit_eq
      intro j
      rw [Nat.testBit_xor]
      cases j with
      | zero => simp [Nat.testBit_zero]
      | succ j =>
        rw [Nat.testBit_succ, Nat.testBit_succ, Nat.testBit_succ]
        rw [show (2 * d + 1) / 2 = d by omega, show (2 * d + 1 - 1) / 2 = d by omega, show 1 / 2 = 0 by decide, Nat.zero_testBit, Bool.xor_false]
  show IntKind.i64.wrap ((BitVec.ofInt 64 (i : Int) ^^^ BitVec.ofInt 64 1).toNat : Nat) = sib i
  rw [key, h2, IntKind.wrap_i64]
  unfold sib
  split <;> split <;> omega
set_option maxHeartbeats 800000 in
theorem stepSibling (k i : Nat) (hk : k ≤ 62) (hi : i < 4611686018427387904) (w : World) :
    Calls Try.prog 20 #[.agg #[.int .i64 (k : Int), .int .i64 (i : Int)]] w fun e w' => e = .returned (.agg #[.int .i64 (k : Int), .int .i64 (sib (i : Int))]) ∧ Below w.heap.size w w' := by
  have hg := two_res w (.cells #[.int .i64 (k : Int), .int .i64 (i : Int)] 23)
  have g2 := fun x y => (hg x y 23).1
  have g3 := fun x y => (hg x y 23).2
  have B1 : Hid (∀ x y : Value, Below w.heap.size w ((w.alloc (.cells #[.int .i64 (k : Int), .int .i64 (i : Int)] 23)).alloc (.cells #[x, y] 23))) := fun x y => ((Below.refl _ _).alloc (Nat.le_refl _) _).alloc (by simp) _
  clear hg
  have hx := xor_one i (by omega)
  go_enter Try.func20, Try.ntmps20
  go_wp2
  (try simp only [Exit.inBlock, Exit.then])
  refine bodyPost_ret (by simp [results, Try.results20, go_sem, g2, g3]; try rfl) rfl ?_
  exact ⟨rfl, B1.out _ _⟩
set_option maxHeartbeats 1600000 in
theorem pSibling (L I : Int) (w : World) :
    Calls Try.prog 11 #[.agg #[.int .i64 L, .int .i64 I]] w fun e w' => e = .returned (kinV L I (L) ((sib I))) ∧ Below w.heap.size w w' := by
  have KN : Hid (∀ w, Calls _ _ _ _ _) := fun w => kin 20 (enters_of Try.func20 (by kernel_rfl) rfl) L I (L) ((sib I)) (fun hok w => by
    obtain ⟨k, i, rfl, rfl, hk, hf⟩ := okA_form hok
    have him : i < 4611686018427387904 := by
      have := Nat.le_mul_of_pos_right (i + 1) (p2 k)
      omega
    exact stepSibling k i hk him w) w
  obtain ⟨ra, rb, rc, HK⟩ := kin_form L I (L) ((sib I))
  rw [HK] at KN ⊢
  clear HK
  have s1 : (w.alloc (.cells #[.int .i64 L, .int .i64 I] 23)).heap.size = w.heap.size + 1 := by simp
  have HZ : Hid (((w.alloc (.cells #[.int .i64 L, .int .i64 I] 23)).alloc (.cells #[.int .i64 0, .int .i64 0] 23)).heap[w.heap.size + 1]? = some (.cells #[.int .i64 0, .int .i64 0] 23 (0, 0))) := by
    show _ = _
    rw [← s1]
    exact heap_alloc_new _ _
  have B0 : Hid (Below w.heap.size w ((w.alloc (.cells #[.int .i64 L, .int .i64 I] 23)).alloc (.cells #[.int .i64 0, .int .i64 0] 23))) := ((Below.refl _ _).alloc (Nat.le_refl _) _).alloc (by simp) _
  clear s1
  go_enter Try.func11, Try.ntmps11
  go_wp2_with fail
  refine (KN.out _).mono ?_
  rintro e w1 ⟨rfl, hb⟩
  have B1 : Hid (Below w.heap.size w w1) := over B0.out hb
  have HZ1 : Hid (w1.heap[w.heap.size + 1]? = some (.cells #[.int .i64 0, .int .i64 0] 23 (0, 0))) := (hb.block _ (Array.getElem?_eq_some_iff.1 HZ.out).1).trans HZ.out
  clear hb HZ B0
  have d1 : w1.cell? ⟨w.heap.size + 1, 0, none⟩ = some (.int .i64 0) := by rw [cell_of_row _ _ _ _ _ _ HZ1.out]; rfl
  have d2 : w1.cell? ⟨w.heap.size + 1, 1, none⟩ = some (.int .i64 0) := by rw [cell_of_row _ _ _ _ _ _ HZ1.out]; rfl
  have f1 := frozen_of_row w1 (w.heap.size + 1) 0 _ _ HZ1.out
  have f2 := frozen_of_row w1 (w.heap.size + 1) 1 _ _ HZ1.out
  have HBS : Hid (∀ x y : Value, Below w.heap.size w ((w1.setCell ⟨w.heap.size + 1, 0, none⟩ x).setCell ⟨w.heap.size + 1, 1, none⟩ y)) := fun x y => (B1.out.setCell (p := ⟨w.heap.size + 1, 0, none⟩) (by show _ ≤ w.heap.size + 1; omega) _).setCell (p := ⟨w.heap.size + 1, 1, none⟩) (by show _ ≤ w.heap.size + 1; omega) _
  have g2 : ∀ x y : Value, ((w1.setCell ⟨w.heap.size + 1, 0, none⟩ x).setCell ⟨w.heap.size + 1, 1, none⟩ y).cell? ⟨w.heap.size + 1, 1, none⟩ = some y := fun x y => by
    rw [cell_of_row _ _ _ _ _ _ (heap_setCell_same _ _ 1 _ _ y (heap_setCell_same w1 _ 0 _ _ x HZ1.out))]; rfl
  have g3 : ∀ x y : Value, ((w1.setCell ⟨w.heap.size + 1, 0, none⟩ x).setCell ⟨w.heap.size + 1, 1, none⟩ y).cell? ⟨w.heap.size + 1, 0, none⟩ = some x := fun x y => by
    rw [cell_of_row _ _ _ _ _ _ (heap_setCell_same _ _ 1 _ _ y (heap_setCell_same w1 _ 0 _ _ x HZ1.out))]; rfl
  go_wp2
  (try simp only [Exit.inBlock, Exit.then])
  refine bodyPost_ret (by simp [results, Try.results11, go_sem, g2, g3]; try rfl) rfl ?_
  exact ⟨rfl, HBS.out _ _⟩
theorem siblingC : SiblingC := fun L I _ _ w => pSibling L I w
set_option maxHeartbeats 800000 in
theorem stepLeft (k i : Nat) (hk : k ≤ 62) (hi : i < 4611686018427387904) (w : World) :
    Calls Try.prog 21 #[.agg #[.int .i64 (k : Int), .int .i64 (i : Int)]] w fun e w' => e = .returned (.agg #[.int .i64 ((k : Int) - 1), .int .i64 (2 * (i : Int))]) ∧ Below w.heap.size w w' := by
  have hg := two_res w (.cells #[.int .i64 (k : Int), .int .i64 (i : Int)] 23)
  have g2 := fun x y => (hg x y 23).1
  have g3 := fun x y => (hg x y 23).2
  have B1 : Hid (∀ x y : Value, Below w.heap.size w ((w.alloc (.cells #[.int .i64 (k : Int), .int .i64 (i : Int)] 23)).alloc (.cells #[x, y] 23))) := fun x y => ((Below.refl _ _).alloc (Nat.le_refl _) _).alloc (by simp) _
  clear hg
  go_enter Try.func21, Try.ntmps21
  go_wp2
  (try simp only [Exit.inBlock, Exit.then])
  refine bodyPost_ret (by simp [results, Try.results21, go_sem, g2, g3]; try rfl) rfl ?_
  exact ⟨rfl, B1.out _ _⟩
set_option maxHeartbeats 1600000 in
theorem pLeft (L I : Int) (w : World) :
    Calls Try.prog 13 #[.agg #[.int .i64 L, .int .i64 I]] w fun e w' => e = .returned (kinV L I ((L - 1)) ((2 * I))) ∧ Below w.heap.size w w' := by
  have KN : Hid (∀ w, Calls _ _ _ _ _) := fun w => kin 21 (enters_of Try.func21 (by kernel_rfl) rfl) L I ((L - 1)) ((2 * I)) (fun hok w => by
    obtain ⟨k, i, rfl, rfl, hk, hf⟩ := okA_form hok
    have him : i < 4611686018427387904 := by
      have := Nat.le_mul_of_pos_right (i + 1) (p2 k)
      omega
    exact stepLeft k i hk him w) w
  obtain ⟨ra, rb, rc, HK⟩ := kin_form L I ((L - 1)) ((2 * I))
  rw [HK] at KN ⊢
  clear HK
  have s1 : (w.alloc (.cells #[.int .i64 L, .int .i64 I] 23)).heap.size = w.heap.size + 1 := by simp
  have HZ : Hid (((w.alloc (.cells #[.int .i64 L, .int .i64 I] 23)).alloc (.cells #[.int .i64 0, .int .i64 0] 23)).heap[w.heap.size + 1]? = some (.cells #[.int .i64 0, .int .i64 0] 23 (0, 0))) := by
    show _ = _
    rw [← s1]
    exact heap_alloc_new _ _
  have B0 : Hid (Below w.heap.size w ((w.alloc (.cells #[.int .i64 L, .int .i64 I] 23)).alloc (.cells #[.int .i64 0, .int .i64 0] 23))) := ((Below.refl _ _).alloc (Nat.le_refl _) _).alloc (by simp) _
  clear s1
  go_enter Try.func13, Try.ntmps13
  go_wp2_with fail
  refine (KN.out _).mono ?_
  rintro e w1 ⟨rfl, hb⟩
  have B1 : Hid (Below w.heap.size w w1) := over B0.out hb
  have HZ1 : Hid (w1.heap[w.heap.size + 1]? = some (.cells #[.int .i64 0, .int .i64 0] 23 (0, 0))) := (hb.block _ (Array.getElem?_eq_some_iff.1 HZ.out).1).trans HZ.out
  clear hb HZ B0
  have d1 : w1.cell? ⟨w.heap.size + 1, 0, none⟩ = some (.int .i64 0) := by rw [cell_of_row _ _ _ _ _ _ HZ1.out]; rfl
  have d2 : w1.cell? ⟨w.heap.size + 1, 1, none⟩ = some (.int .i64 0) := by rw [cell_of_row _ _ _ _ _ _ HZ1.out]; rfl
  have f1 := frozen_of_row w1 (w.heap.size + 1) 0 _ _ HZ1.out
  have f2 := frozen_of_row w1 (w.heap.size + 1) 1 _ _ HZ1.out
  have HBS : Hid (∀ x y : Value, Below w.heap.size w ((w1.setCell ⟨w.heap.size + 1, 0, none⟩ x).setCell ⟨w.heap.size + 1, 1, none⟩ y)) := fun x y => (B1.out.setCell (p := ⟨w.heap.size + 1, 0, none⟩) (by show _ ≤ w.heap.size + 1; omega) _).setCell (p := ⟨w.heap.size + 1, 1, none⟩) (by show _ ≤ w.heap.size + 1; omega) _
  have g2 : ∀ x y : Value, ((w1.setCell ⟨w.heap.size + 1, 0, none⟩ x).setCell ⟨w.heap.size + 1, 1, none⟩ y).cell? ⟨w.heap.size + 1, 1, none⟩ = some y := fun x y => by
    rw [cell_of_row _ _ _ _ _ _ (heap_setCell_same _ _ 1 _ _ y (heap_setCell_same w1 _ 0 _ _ x HZ1.out))]; rfl
  have g3 : ∀ x y : Value, ((w1.setCell ⟨w.heap.size + 1, 0, none⟩ x).setCell ⟨w.heap.size + 1, 1, none⟩ y).cell? ⟨w.heap.size + 1, 0, none⟩ = some x := fun x y => by
    rw [cell_of_row _ _ _ _ _ _ (heap_setCell_same _ _ 1 _ _ y (heap_setCell_same w1 _ 0 _ _ x HZ1.out))]; rfl
  go_wp2
  (try simp only [Exit.inBlock, Exit.then])
  refine bodyPost_ret (by simp [results, Try.results13, go_sem, g2, g3]; try rfl) rfl ?_
  exact ⟨rfl, HBS.out _ _⟩
theorem leftC : LeftC := fun L I _ _ w => pLeft L I w
set_option maxHeartbeats 800000 in
theorem stepRight (k i : Nat) (hk : k ≤ 62) (hi : i < 4611686018427387904) (w : World) :
    Calls Try.prog 22 #[.agg #[.int .i64 (k : Int), .int .i64 (i : Int)]] w fun e w' => e = .returned (.agg #[.int .i64 ((k : Int) - 1), .int .i64 (2 * (i : Int) + 1)]) ∧ Below w.heap.size w w' := by
  have hg := two_res w (.cells #[.int .i64 (k : Int), .int .i64 (i : Int)] 23)
  have g2 := fun x y => (hg x y 23).1
  have g3 := fun x y => (hg x y 23).2
  have B1 : Hid (∀ x y : Value, Below w.heap.size w ((w.alloc (.cells #[.int .i64 (k : Int), .int .i64 (i : Int)] 23)).alloc (.cells #[x, y] 23))) := fun x y => ((Below.refl _ _).alloc (Nat.le_refl _) _).alloc (by simp) _
  clear hg
  go_enter Try.func22, Try.ntmps22
  go_wp2
  (try simp only [Exit.inBlock, Exit.then])
  refine bodyPost_ret (by simp [results, Try.results22, go_sem, g2, g3]; try rfl) rfl ?_
  exact ⟨rfl, B1.out _ _⟩
set_option maxHeartbeats 1600000 in
theorem pRight (L I : Int) (w : World) :
    Calls Try.prog 15 #[.agg #[.int .i64 L, .int .i64 I]] w fun e w' => e = .returned (kinV L I ((L - 1)) ((2 * I + 1))) ∧ Below w.heap.size w w' := by
  have KN : Hid (∀ w, Calls _ _ _ _ _) := fun w => kin 22 (enters_of Try.func22 (by kernel_rfl) rfl) L I ((L - 1)) ((2 * I + 1)) (fun hok w => by
    obtain ⟨k, i, rfl, rfl, hk, hf⟩ := okA_form hok
    have him : i < 4611686018427387904 := by
      have := Nat.le_mul_of_pos_right (i + 1) (p2 k)
      omega
    exact stepRight k i hk him w) w
  obtain ⟨ra, rb, rc, HK⟩ := kin_form L I ((L - 1)) ((2 * I + 1))
  rw [HK] at KN ⊢
  clear HK
  have s1 : (w.alloc (.cells #[.int .i64 L, .int .i64 I] 23)).heap.size = w.heap.size + 1 := by simp
  have HZ : Hid (((w.alloc (.cells #[.int .i64 L, .int .i64 I] 23)).alloc (.cells #[.int .i64 0, .int .i64 0] 23)).heap[w.heap.size + 1]? = some (.cells #[.int .i64 0, .int .i64 0] 23 (0, 0))) := by
    show _ = _
    rw [← s1]
    exact heap_alloc_new _ _
  have B0 : Hid (Below w.heap.size w ((w.alloc (.cells #[.int .i64 L, .int .i64 I] 23)).alloc (.cells #[.int .i64 0, .int .i64 0] 23))) := ((Below.refl _ _).alloc (Nat.le_refl _) _).alloc (by simp) _
  clear s1
  go_enter Try.func15, Try.ntmps15
  go_wp2_with fail
  refine (KN.out _).mono ?_
  rintro e w1 ⟨rfl, hb⟩
  have B1 : Hid (Below w.heap.size w w1) := over B0.out hb
  have HZ1 : Hid (w1.heap[w.heap.size + 1]? = some (.cells #[.int .i64 0, .int .i64 0] 23 (0, 0))) := (hb.block _ (Array.getElem?_eq_some_iff.1 HZ.out).1).trans HZ.out
  clear hb HZ B0
  have d1 : w1.cell? ⟨w.heap.size + 1, 0, none⟩ = some (.int .i64 0) := by rw [cell_of_row _ _ _ _ _ _ HZ1.out]; rfl
  have d2 : w1.cell? ⟨w.heap.size + 1, 1, none⟩ = some (.int .i64 0) := by rw [cell_of_row _ _ _ _ _ _ HZ1.out]; rfl
  have f1 := frozen_of_row w1 (w.heap.size + 1) 0 _ _ HZ1.out
  have f2 := frozen_of_row w1 (w.heap.size + 1) 1 _ _ HZ1.out
  have HBS : Hid (∀ x y : Value, Below w.heap.size w ((w1.setCell ⟨w.heap.size + 1, 0, none⟩ x).setCell ⟨w.heap.size + 1, 1, none⟩ y)) := fun x y => (B1.out.setCell (p := ⟨w.heap.size + 1, 0, none⟩) (by show _ ≤ w.heap.size + 1; omega) _).setCell (p := ⟨w.heap.size + 1, 1, none⟩) (by show _ ≤ w.heap.size + 1; omega) _
  have g2 : ∀ x y : Value, ((w1.setCell ⟨w.heap.size + 1, 0, none⟩ x).setCell ⟨w.heap.size + 1, 1, none⟩ y).cell? ⟨w.heap.size + 1, 1, none⟩ = some y := fun x y => by
    rw [cell_of_row _ _ _ _ _ _ (heap_setCell_same _ _ 1 _ _ y (heap_setCell_same w1 _ 0 _ _ x HZ1.out))]; rfl
  have g3 : ∀ x y : Value, ((w1.setCell ⟨w.heap.size + 1, 0, none⟩ x).setCell ⟨w.heap.size + 1, 1, none⟩ y).cell? ⟨w.heap.size + 1, 0, none⟩ = some x := fun x y => by
    rw [cell_of_row _ _ _ _ _ _ (heap_setCell_same _ _ 1 _ _ y (heap_setCell_same w1 _ 0 _ _ x HZ1.out))]; rfl
  go_wp2
  (try simp only [Exit.inBlock, Exit.then])
  refine bodyPost_ret (by simp [results, Try.results15, go_sem, g2, g3]; try rfl) rfl ?_
  exact ⟨rfl, HBS.out _ _⟩
theorem rightC : RightC := fun L I _ _ w => pRight L I w
end Go.Proofs.Ytjjeiklhmbhhoab.vs
