import Derived.Test.YtjjeiklhmbhhoabCn
import Derived.Test.YtjjeiklhmbhhoabCq
import Derived.Test.YtjjeiklhmbhhoabCr
import Derived.Deep.RegionHeld3
import Derived.Handy
import Derived.Laws.BitsAllLaws
namespace Go.Proofs.Ytjjeiklhmbhhoab.ck
open Go.RowKit Go.PlainAid
open Go.Proofs.Ytjjeiklhmbhhoab.ca Go.Proofs.Ytjjeiklhmbhhoab.cp Go.Proofs.Ytjjeiklhmbhhoab.cn Go.Proofs.Ytjjeiklhmbhhoab.cu Go.Proofs.Ytjjeiklhmbhhoab.cq Go.Proofs.Ytjjeiklhmbhhoab.cr
set_option linter.unusedVariables false

set_option maxHeartbeats 800000 in
theorem rValid (L I : Int) (w : World) :
    Calls Try.prog 7 #[.agg #[.int .i64 L, .int .i64 I]] w fun e w' => e = .returned (.bool (decide (okA L I))) ∧ Below w.heap.size w w' := by
  obtain ⟨r, HR⟩ : ∃ r, Hid (decide (okA L I) = r) := ⟨_, rfl⟩
  rw [HR.out]
  have B0 : Hid (Below w.heap.size w (w.alloc (.cells #[.int .i64 L, .int .i64 I] 23))) := (Below.refl _ _).alloc (Nat.le_refl _) _
  have HF : ¬ okA L I → Hid (r = false) := fun h => by show _ = _; rw [← HR.out]; exact decide_eq_false h
  by_cases a1 : L < 0
  · have HV : Hid (r = false) := HF (fun h => by have := h.1; omega)
    clear HF
    go_enter Try.func7, Try.ntmps7
    go_wp2
    go_ret
    exact ⟨by rw [HV.out]; rfl, B0.out⟩
  · by_cases a2 : L > 62
    · have HV : Hid (r = false) := HF (fun h => by have := h.2.1; omega)
      clear HF
      go_enter Try.func7, Try.ntmps7
      go_wp2
      go_ret
      exact ⟨by rw [HV.out]; rfl, B0.out⟩
    · by_cases a3 : I < 0
      · have HV : Hid (r = false) := HF (fun h => by have := h.2.2.1; omega)
        clear HF
        go_enter Try.func7, Try.ntmps7
        go_wp2
        go_ret
        exact ⟨by rw [HV.out]; rfl, B0.out⟩
      · obtain ⟨k, rfl⟩ : ∃ k : Nat, L = k := ⟨L.toNat, by omega⟩
        have hk : k ≤ 62 := by omega
        obtain ⟨t, HT⟩ : ∃ t : Nat, Hid (2 ^ k = t) := ⟨_, rfl⟩
        have hT : (2 : Int) ^ k = (t : Int) := by rw [cast_pow, HT.out]
        have HV : Hid (r = decide (I < 4611686018427387904 / (t : Int))) := by
          show _ = _
          rw [← HR.out]
          refine decide_eq_decide.2 ?_
          unfold okA
          rw [Int.toNat_natCast, hT]
          omega
        clear HF
        go_enter Try.func7, Try.ntmps7
        go_wp2
        go_ret
        exact ⟨by rw [HV.out]; rfl, B0.out⟩
theorem xor_one (i : Nat) (h : i ≤ 4611686018427387904) : bits .xor .i64 (i : Int) 1 = sib i := by
  have h1 : (BitVec.ofInt 64 1).toNat = 1 := by decide
  have key : (BitVec.ofInt 64 (i : Int) ^^^ BitVec.ofInt 64 1).toNat = i ^^^ 1 := by
    rw [BitVec.toNat_xor, BitVec.toNat_ofInt, h1]
    congr 1
    omega
  have h2 : (i ^^^ 1 : Nat) = if i % 2 = 0 then i + 1 else i - 1 := by
    split
    · rename_i e
      obtain ⟨d, rfl⟩ : ∃ d, i = 2 * d := ⟨i / 2, by omega⟩
      apply Nat.eq_of_testBit_eq
      intro j
      rw [Nat.testBit_xor]
      cases j with
      | zero => simp [Nat.testBit_zero]
      | succ j =>
        rw [Nat.testBit_succ, Nat.testBit_succ, Nat.testBit_succ]
        rw [show 2 * d / 2 = d by omega, show (2 * d + 1) / 2 = d by omega, show 1 / 2 = 0 by decide, Nat.zero_testBit, Bool.xor_false]
    · rename_i e
      obtain ⟨d, rfl⟩ : ∃ d, i = 2 * d + 1 := ⟨i / 2, by omega⟩
      apply Nat.eq_of_testBit_eq
      intro j
      rw [Nat.testBit_xor]
      cases j with
      | zero => simp [Nat.testBit_zero]
      | succ j =>
        rw [Nat.testBit_succ, Nat.testBit_succ, Nat.testBit_succ]
        rw [show (2 * d + 1) / 2 = d by omega, show (2 * d + 1 - 1) / 2 = d by omega, show 1 / 2 = 0 by decide, Nat.zero_testBit, Bool.xor_false]
  show IntKind.i64.wrap ((BitVec.ofInt 64 (i : Int) ^^^ BitVec.ofInt 64 1).toNat : Nat) = sib i
  rw [key, h2, IntKind.wrap_i64]
  unfold sib
  split <;> split <;> omega
set_option maxHeartbeats 800000 in
theorem rSpan (L I : Int) (w : World) :
    Calls Try.prog 5 #[.agg #[.int .i64 L, .int .i64 I]] w fun e w' => e = .returned (spV L I) ∧ Below w.heap.size w w' := by
  have V1 : Hid (∀ w, Calls _ _ _ _ _) := fun w => rValid L I w
  by_cases hok : okA L I
  · obtain ⟨k, i, rfl, rfl, hk, hf⟩ := okA_form hok
    rw [decide_eq_true hok] at V1
    rw [spV_nat hok]
    have HX : Hid (Bx (w.alloc (.cells #[.int .i64 (k : Int), .int .i64 (i : Int)] 23)) w.heap.size k i) := bx_new _ _ _
    obtain ⟨f, HF⟩ : ∃ f, Hid (i * 2 ^ k = f) := ⟨_, rfl⟩
    obtain ⟨g, HG⟩ : ∃ g, Hid ((i + 1) * 2 ^ k = g) := ⟨_, rfl⟩
    rw [HF.out, HG.out]
    rw [HG.out] at hf
    clear hok
    go_enter Try.func5, Try.ntmps5
    go_wp2_with fail
    refine (V1.out _).mono ?_
    rintro e w1 ⟨rfl, hb⟩
    have B1 : Hid (Below w.heap.size w w1) := over ((Below.refl _ _).alloc (Nat.le_refl _) _) hb
    obtain ⟨c1, c2⟩ := HX.out.later hb
    have him : i ≤ 4611686018427387904 := by
      have := Nat.le_mul_of_pos_right (i + 1) (p2 k)
      rw [HG.out] at this
      omega
    have hfg : f ≤ g := by rw [← HF.out, ← HG.out]; exact Nat.mul_le_mul_right _ (by omega)
    have hw2 : IntKind.u64.wrap (k : Int) = k := u64_is k (by omega)
    have hw3 : min (k : Int).toNat 64 = k := by omega
    have hw4 : min k 64 = k := by omega
    have hw5 : IntKind.i64.wrap ((i : Int) * 2 ^ k) = f := by rw [cast_pow, ← Int.natCast_mul, HF.out]; exact wrap_is f (by omega)
    have hw6 : IntKind.i64.wrap ((i : Int) + 1) = (i : Int) + 1 := by rw [IntKind.wrap_i64]; omega
    have hw7 : IntKind.i64.wrap (((i : Int) + 1) * 2 ^ k) = g := by rw [cast_pow, show (i : Int) + 1 = ((i + 1 : Nat) : Int) by omega, ← Int.natCast_mul, HG.out]; exact wrap_is g (by omega)
    clear hb
    go_wp2_with fail
    go_quiet (fail)
    go_wp2
    go_returns
    exact ⟨rfl, below_dN B1.out _⟩
  · rw [decide_eq_false hok] at V1
    rw [show spV L I = .tuple #[.int .i64 0, .int .i64 0, .int .i64 50] by unfold spV; rw [if_neg hok]]
    clear hok
    go_enter Try.func5, Try.ntmps5
    go_wp2_with fail
    refine (V1.out _).mono ?_
    rintro e w1 ⟨rfl, hb⟩
    have B1 : Hid (Below w.heap.size w w1) := over ((Below.refl _ _).alloc (Nat.le_refl _) _) hb
    clear hb
    go_wp2
    go_returns
    exact ⟨rfl, B1.out⟩
set_option maxHeartbeats 1600000 in
theorem rkin (L I L' I' : Int) (w : World) :
    Calls Try.prog 19 #[.agg #[.int .i64 L, .int .i64 I], .agg #[.int .i64 L', .int .i64 I']] w fun e w' => e = .returned (kinV L I L' I') ∧ Below w.heap.size w w' := by
  have V1 : Hid (∀ w, Calls _ _ _ _ _) := fun w => rValid L I w
  have V2 : Hid (∀ w, Calls _ _ _ _ _) := fun w => rValid L' I' w
  have s1 : (w.alloc (.cells #[.int .i64 L, .int .i64 I] 23)).heap.size = w.heap.size + 1 := by simp
  have s2 : ((w.alloc (.cells #[.int .i64 L, .int .i64 I] 23)).alloc (.cells #[.int .i64 L', .int .i64 I'] 23)).heap.size = w.heap.size + 1 + 1 := by simp
  have HX : Hid (Bx (((w.alloc (.cells #[.int .i64 L, .int .i64 I] 23)).alloc (.cells #[.int .i64 L', .int .i64 I'] 23)).alloc (.cells #[.int .i64 0, .int .i64 0] 23)) (w.heap.size + 1) L' I') := by
    have := (bx_new (w.alloc (.cells #[.int .i64 L, .int .i64 I] 23)) L' I').later ((Below.refl _ _).alloc (Nat.le_refl _) (.cells #[.int .i64 0, .int .i64 0] 23))
    rw [s1] at this
    exact this
  have HZ : Hid ((((w.alloc (.cells #[.int .i64 L, .int .i64 I] 23)).alloc (.cells #[.int .i64 L', .int .i64 I'] 23)).alloc (.cells #[.int .i64 0, .int .i64 0] 23)).heap[w.heap.size + 1 + 1]? = some (.cells #[.int .i64 0, .int .i64 0] 23 (0, 0))) := by
    show _ = _
    rw [← s2]
    exact heap_alloc_new _ _
  have B0 : Hid (Below w.heap.size w (((w.alloc (.cells #[.int .i64 L, .int .i64 I] 23)).alloc (.cells #[.int .i64 L', .int .i64 I'] 23)).alloc (.cells #[.int .i64 0, .int .i64 0] 23))) := (((Below.refl _ _).alloc (Nat.le_refl _) _).alloc (by simp) _).alloc (by simp; omega) _
  obtain ⟨b1, HB1⟩ : ∃ b, Hid (decide (okA L I) = b) := ⟨_, rfl⟩
  obtain ⟨b2, HB2⟩ : ∃ b, Hid (decide (okA L' I') = b) := ⟨_, rfl⟩
  rw [HB1.out] at V1
  rw [HB2.out] at V2
  have HK : Hid (kinV L I L' I' = if b1 && b2 then .tuple #[.agg #[.int .i64 L', .int .i64 I'], .int .i64 0] else .tuple #[.agg #[.int .i64 0, .int .i64 0], .int .i64 50]) := by
    show _ = _
    rw [← HB1.out, ← HB2.out]
    unfold kinV
    by_cases h1 : okA L I <;> by_cases h2 : okA L' I' <;> simp [h1, h2]
  rw [HK.out]
  clear s1 s2 HK
  go_enter Try.func19, Try.ntmps19
  go_wp2_with fail
  refine (V1.out _).mono ?_
  rintro e w1 ⟨rfl, hb⟩
  have B1 : Hid (Below w.heap.size w w1) := over B0.out hb
  have HX1 : Hid (Bx w1 (w.heap.size + 1) L' I') := HX.out.later hb
  have HZ1 : Hid (w1.heap[w.heap.size + 1 + 1]? = some (.cells #[.int .i64 0, .int .i64 0] 23 (0, 0))) := (hb.block _ (Array.getElem?_eq_some_iff.1 HZ.out).1).trans HZ.out
  obtain ⟨c1, c2⟩ := HX1.out
  clear hb HX HZ B0
  go_wp2_with fail
  refine (V2.out _).mono ?_
  rintro e w2 ⟨rfl, hb⟩
  have B2 : Hid (Below w.heap.size w w2) := over B1.out hb
  have HX2 : Hid (Bx w2 (w.heap.size + 1) L' I') := HX1.out.later hb
  have HZ2 : Hid (w2.heap[w.heap.size + 1 + 1]? = some (.cells #[.int .i64 0, .int .i64 0] 23 (0, 0))) := (hb.block _ (Array.getElem?_eq_some_iff.1 HZ1.out).1).trans HZ1.out
  clear hb c1 c2 HX1 HZ1 B1
  obtain ⟨c1, c2⟩ := HX2.out
  have d1 : w2.cell? ⟨w.heap.size + 1 + 1, 0, none⟩ = some (.int .i64 0) := by rw [cell_of_row _ _ _ _ _ _ HZ2.out]; rfl
  have d2 : w2.cell? ⟨w.heap.size + 1 + 1, 1, none⟩ = some (.int .i64 0) := by rw [cell_of_row _ _ _ _ _ _ HZ2.out]; rfl
  have f1 := frozen_of_row w2 (w.heap.size + 1 + 1) 0 _ _ HZ2.out
  have f2 := frozen_of_row w2 (w.heap.size + 1 + 1) 1 _ _ HZ2.out
  have HBS : Hid (∀ x y : Value, Below w.heap.size w ((w2.setCell ⟨w.heap.size + 1 + 1, 0, none⟩ x).setCell ⟨w.heap.size + 1 + 1, 1, none⟩ y)) := fun x y => (B2.out.setCell (p := ⟨w.heap.size + 1 + 1, 0, none⟩) (by show _ ≤ w.heap.size + 1 + 1; omega) _).setCell (p := ⟨w.heap.size + 1 + 1, 1, none⟩) (by show _ ≤ w.heap.size + 1 + 1; omega) _
  have g2 : ∀ x y : Value, ((w2.setCell ⟨w.heap.size + 1 + 1, 0, none⟩ x).setCell ⟨w.heap.size + 1 + 1, 1, none⟩ y).cell? ⟨w.heap.size + 1 + 1, 1, none⟩ = some y := fun x y => by
    rw [cell_of_row _ _ _ _ _ _ (heap_setCell_same _ _ 1 _ _ y (heap_setCell_same w2 _ 0 _ _ x HZ2.out))]; rfl
  have g3 : ∀ x y : Value, ((w2.setCell ⟨w.heap.size + 1 + 1, 0, none⟩ x).setCell ⟨w.heap.size + 1 + 1, 1, none⟩ y).cell? ⟨w.heap.size + 1 + 1, 0, none⟩ = some x := fun x y => by
    rw [cell_of_row _ _ _ _ _ _ (heap_setCell_same _ _ 1 _ _ y (heap_setCell_same w2 _ 0 _ _ x HZ2.out))]; rfl
  cases b1 <;> cases b2
  all_goals (
    go_wp2
    (try simp only [Exit.inBlock, Exit.then])
    refine bodyPost_ret (by simp [results, Try.results19, go_sem, g2, g3]; try rfl) rfl ?_
    exact ⟨rfl, HBS.out _ _⟩)
theorem kin_form (L I L' I' : Int) : ∃ a b c, kinV L I L' I' = .tuple #[.agg #[.int .i64 a, .int .i64 b], .int .i64 c] := by
  unfold kinV
  split
  · exact ⟨_, _, _, rfl⟩
  · exact ⟨_, _, _, rfl⟩
set_option maxHeartbeats 1600000 in
theorem rParent (L I : Int) (h0 : i64 L) (h1 : i64 I) (w : World) :
    Calls Try.prog 10 #[.agg #[.int .i64 L, .int .i64 I]] w fun e w' => e = .returned (kinV L I (L + 1) (I / 2)) ∧ Below w.heap.size w w' := by
  by_cases hok : okA L I
  · obtain ⟨k, i, rfl, rfl, hk, hf⟩ := okA_form hok
    have him : i < 4611686018427387904 := by
      have := Nat.le_mul_of_pos_right (i + 1) (p2 k)
      omega
    have KN : Hid (∀ w, Calls _ _ _ _ _) := fun w => rkin k i ((k : Int) + 1) ((i : Int) / 2) w
    obtain ⟨ra, rb, rc, HK⟩ := kin_form k i ((k : Int) + 1) ((i : Int) / 2)

    rw [HK] at KN ⊢
    clear hok hf HK h0 h1
    have s1 : (w.alloc (.cells #[.int .i64 (k : Int), .int .i64 (i : Int)] 23)).heap.size = w.heap.size + 1 := by simp
    have HZ : Hid (((w.alloc (.cells #[.int .i64 (k : Int), .int .i64 (i : Int)] 23)).alloc (.cells #[.int .i64 0, .int .i64 0] 23)).heap[w.heap.size + 1]? = some (.cells #[.int .i64 0, .int .i64 0] 23 (0, 0))) := by
      show _ = _
      rw [← s1]
      exact heap_alloc_new _ _
    have B0 : Hid (Below w.heap.size w ((w.alloc (.cells #[.int .i64 (k : Int), .int .i64 (i : Int)] 23)).alloc (.cells #[.int .i64 0, .int .i64 0] 23))) := ((Below.refl _ _).alloc (Nat.le_refl _) _).alloc (by simp) _
    clear s1
    go_enter Try.func10, Try.ntmps10
    go_wp2_with fail
    refine (KN.out _).mono ?_
    rintro e w1 ⟨rfl, hb⟩
    have B1 : Hid (Below w.heap.size w w1) := over B0.out hb
    have HZ1 : Hid (w1.heap[w.heap.size + 1]? = some (.cells #[.int .i64 0, .int .i64 0] 23 (0, 0))) := (hb.block _ (Array.getElem?_eq_some_iff.1 HZ.out).1).trans HZ.out
    clear hb HZ B0
    have d1 : w1.cell? ⟨w.heap.size + 1, 0, none⟩ = some (.int .i64 0) := by rw [cell_of_row _ _ _ _ _ _ HZ1.out]; rfl
    have d2 : w1.cell? ⟨w.heap.size + 1, 1, none⟩ = some (.int .i64 0) := by rw [cell_of_row _ _ _ _ _ _ HZ1.out]; rfl
    have f1 := frozen_of_row w1 (w.heap.size + 1) 0 _ _ HZ1.out
    have f2 := frozen_of_row w1 (w.heap.size + 1) 1 _ _ HZ1.out
    have HBS : Hid (∀ x y : Value, Below w.heap.size w ((w1.setCell ⟨w.heap.size + 1, 0, none⟩ x).setCell ⟨w.heap.size + 1, 1, none⟩ y)) := fun x y => (B1.out.setCell (p := ⟨w.heap.size + 1, 0, none⟩) (by show _ ≤ w.heap.size + 1; omega) _).setCell (p := ⟨w.heap.size + 1, 1, none⟩) (by show _ ≤ w.heap.size + 1; omega) _
    have g2 : ∀ x y : Value, ((w1.setCell ⟨w.heap.size + 1, 0, none⟩ x).setCell ⟨w.heap.size + 1, 1, none⟩ y).cell? ⟨w.heap.size + 1, 1, none⟩ = some y := fun x y => by
      rw [cell_of_row _ _ _ _ _ _ (heap_setCell_same _ _ 1 _ _ y (heap_setCell_same w1 _ 0 _ _ x HZ1.out))]; rfl
    have g3 : ∀ x y : Value, ((w1.setCell ⟨w.heap.size + 1, 0, none⟩ x).setCell ⟨w.heap.size + 1, 1, none⟩ y).cell? ⟨w.heap.size + 1, 0, none⟩ = some x := fun x y => by
      rw [cell_of_row _ _ _ _ _ _ (heap_setCell_same _ _ 1 _ _ y (heap_setCell_same w1 _ 0 _ _ x HZ1.out))]; rfl
    go_wp2
    (try simp only [Exit.inBlock, Exit.then])
    refine bodyPost_ret (by simp [results, Try.results10, go_sem, g2, g3]; try rfl) rfl ?_
    exact ⟨rfl, HBS.out _ _⟩
  · have KB : Hid (∀ (a b : Int) (w : World), Calls Try.prog 19 #[.agg #[.int .i64 L, .int .i64 I], .agg #[.int .i64 a, .int .i64 b]] w fun e w' => e = .returned (.tuple #[.agg #[.int .i64 0, .int .i64 0], .int .i64 50]) ∧ Below w.heap.size w w') := by
      intro a b w
      have := rkin L I a b w
      rw [kin_no (fun h => hok h.1)] at this
      exact this
    rw [kin_no (fun h => hok h.1)]
    obtain ⟨g0, g1⟩ := h0
    obtain ⟨g4, g5⟩ := h1
    clear hok
    have s1 : (w.alloc (.cells #[.int .i64 L, .int .i64 I] 23)).heap.size = w.heap.size + 1 := by simp
    have HZ : Hid (((w.alloc (.cells #[.int .i64 L, .int .i64 I] 23)).alloc (.cells #[.int .i64 0, .int .i64 0] 23)).heap[w.heap.size + 1]? = some (.cells #[.int .i64 0, .int .i64 0] 23 (0, 0))) := by
      show _ = _
      rw [← s1]
      exact heap_alloc_new _ _
    have B0 : Hid (Below w.heap.size w ((w.alloc (.cells #[.int .i64 L, .int .i64 I] 23)).alloc (.cells #[.int .i64 0, .int .i64 0] 23))) := ((Below.refl _ _).alloc (Nat.le_refl _) _).alloc (by simp) _
    clear s1
    go_enter Try.func10, Try.ntmps10
    go_wp2_with fail
    refine (KB.out _ _ _).mono ?_
    rintro e w1 ⟨rfl, hb⟩
    have B1 : Hid (Below w.heap.size w w1) := over B0.out hb
    have HZ1 : Hid (w1.heap[w.heap.size + 1]? = some (.cells #[.int .i64 0, .int .i64 0] 23 (0, 0))) := (hb.block _ (Array.getElem?_eq_some_iff.1 HZ.out).1).trans HZ.out
    clear hb HZ B0
    have d1 : w1.cell? ⟨w.heap.size + 1, 0, none⟩ = some (.int .i64 0) := by rw [cell_of_row _ _ _ _ _ _ HZ1.out]; rfl
    have d2 : w1.cell? ⟨w.heap.size + 1, 1, none⟩ = some (.int .i64 0) := by rw [cell_of_row _ _ _ _ _ _ HZ1.out]; rfl
    have f1 := frozen_of_row w1 (w.heap.size + 1) 0 _ _ HZ1.out
    have f2 := frozen_of_row w1 (w.heap.size + 1) 1 _ _ HZ1.out
    have HBS : Hid (∀ x y : Value, Below w.heap.size w ((w1.setCell ⟨w.heap.size + 1, 0, none⟩ x).setCell ⟨w.heap.size + 1, 1, none⟩ y)) := fun x y => (B1.out.setCell (p := ⟨w.heap.size + 1, 0, none⟩) (by show _ ≤ w.heap.size + 1; omega) _).setCell (p := ⟨w.heap.size + 1, 1, none⟩) (by show _ ≤ w.heap.size + 1; omega) _
    have g2 : ∀ x y : Value, ((w1.setCell ⟨w.heap.size + 1, 0, none⟩ x).setCell ⟨w.heap.size + 1, 1, none⟩ y).cell? ⟨w.heap.size + 1, 1, none⟩ = some y := fun x y => by
      rw [cell_of_row _ _ _ _ _ _ (heap_setCell_same _ _ 1 _ _ y (heap_setCell_same w1 _ 0 _ _ x HZ1.out))]; rfl
    have g3 : ∀ x y : Value, ((w1.setCell ⟨w.heap.size + 1, 0, none⟩ x).setCell ⟨w.heap.size + 1, 1, none⟩ y).cell? ⟨w.heap.size + 1, 0, none⟩ = some x := fun x y => by
      rw [cell_of_row _ _ _ _ _ _ (heap_setCell_same _ _ 1 _ _ y (heap_setCell_same w1 _ 0 _ _ x HZ1.out))]; rfl
    go_wp2
    (try simp only [Exit.inBlock, Exit.then])
    refine bodyPost_ret (by simp [results, Try.results10, go_sem, g2, g3]; try rfl) rfl ?_
    exact ⟨rfl, HBS.out _ _⟩
set_option maxHeartbeats 1600000 in
theorem rSibling (L I : Int) (h0 : i64 L) (h1 : i64 I) (w : World) :
    Calls Try.prog 12 #[.agg #[.int .i64 L, .int .i64 I]] w fun e w' => e = .returned (kinV L I (L) (sib I)) ∧ Below w.heap.size w w' := by
  by_cases hok : okA L I
  · obtain ⟨k, i, rfl, rfl, hk, hf⟩ := okA_form hok
    have him : i < 4611686018427387904 := by
      have := Nat.le_mul_of_pos_right (i + 1) (p2 k)
      omega
    have KN : Hid (∀ w, Calls _ _ _ _ _) := fun w => rkin k i ((k : Int)) (sib (i : Int)) w
    obtain ⟨ra, rb, rc, HK⟩ := kin_form k i ((k : Int)) (sib (i : Int))
    have hx := xor_one i (by omega)
    rw [HK] at KN ⊢
    clear hok hf HK h0 h1
    have s1 : (w.alloc (.cells #[.int .i64 (k : Int), .int .i64 (i : Int)] 23)).heap.size = w.heap.size + 1 := by simp
    have HZ : Hid (((w.alloc (.cells #[.int .i64 (k : Int), .int .i64 (i : Int)] 23)).alloc (.cells #[.int .i64 0, .int .i64 0] 23)).heap[w.heap.size + 1]? = some (.cells #[.int .i64 0, .int .i64 0] 23 (0, 0))) := by
      show _ = _
      rw [← s1]
      exact heap_alloc_new _ _
    have B0 : Hid (Below w.heap.size w ((w.alloc (.cells #[.int .i64 (k : Int), .int .i64 (i : Int)] 23)).alloc (.cells #[.int .i64 0, .int .i64 0] 23))) := ((Below.refl _ _).alloc (Nat.le_refl _) _).alloc (by simp) _
    clear s1
    go_enter Try.func12, Try.ntmps12
    go_wp2_with fail
    refine (KN.out _).mono ?_
    rintro e w1 ⟨rfl, hb⟩
    have B1 : Hid (Below w.heap.size w w1) := over B0.out hb
    have HZ1 : Hid (w1.heap[w.heap.size + 1]? = some (.cells #[.int .i64 0, .int .i64 0] 23 (0, 0))) := (hb.block _ (Array.getElem?_eq_some_iff.1 HZ.out).1).trans HZ.out
    clear hb HZ B0
    have d1 : w1.cell? ⟨w.heap.size + 1, 0, none⟩ = some (.int .i64 0) := by rw [cell_of_row _ _ _ _ _ _ HZ1.out]; rfl
    have d2 : w1.cell? ⟨w.heap.size + 1, 1, none⟩ = some (.int .i64 0) := by rw [cell_of_row _ _ _ _ _ _ HZ1.out]; rfl
    have f1 := frozen_of_row w1 (w.heap.size + 1) 0 _ _ HZ1.out
    have f2 := frozen_of_row w1 (w.heap.size + 1) 1 _ _ HZ1.out
    have HBS : Hid (∀ x y : Value, Below w.heap.size w ((w1.setCell ⟨w.heap.size + 1, 0, none⟩ x).setCell ⟨w.heap.size + 1, 1, none⟩ y)) := fun x y => (B1.out.setCell (p := ⟨w.heap.size + 1, 0, none⟩) (by show _ ≤ w.heap.size + 1; omega) _).setCell (p := ⟨w.heap.size + 1, 1, none⟩) (by show _ ≤ w.heap.size + 1; omega) _
    have g2 : ∀ x y : Value, ((w1.setCell ⟨w.heap.size + 1, 0, none⟩ x).setCell ⟨w.heap.size + 1, 1, none⟩ y).cell? ⟨w.heap.size + 1, 1, none⟩ = some y := fun x y => by
      rw [cell_of_row _ _ _ _ _ _ (heap_setCell_same _ _ 1 _ _ y (heap_setCell_same w1 _ 0 _ _ x HZ1.out))]; rfl
    have g3 : ∀ x y : Value, ((w1.setCell ⟨w.heap.size + 1, 0, none⟩ x).setCell ⟨w.heap.size + 1, 1, none⟩ y).cell? ⟨w.heap.size + 1, 0, none⟩ = some x := fun x y => by
      rw [cell_of_row _ _ _ _ _ _ (heap_setCell_same _ _ 1 _ _ y (heap_setCell_same w1 _ 0 _ _ x HZ1.out))]; rfl
    go_wp2
    (try simp only [Exit.inBlock, Exit.then])
    refine bodyPost_ret (by simp [results, Try.results12, go_sem, g2, g3]; try rfl) rfl ?_
    exact ⟨rfl, HBS.out _ _⟩
  · have KB : Hid (∀ (a b : Int) (w : World), Calls Try.prog 19 #[.agg #[.int .i64 L, .int .i64 I], .agg #[.int .i64 a, .int .i64 b]] w fun e w' => e = .returned (.tuple #[.agg #[.int .i64 0, .int .i64 0], .int .i64 50]) ∧ Below w.heap.size w w') := by
      intro a b w
      have := rkin L I a b w
      rw [kin_no (fun h => hok h.1)] at this
      exact this
    rw [kin_no (fun h => hok h.1)]
    obtain ⟨g0, g1⟩ := h0
    obtain ⟨g4, g5⟩ := h1
    clear hok
    have s1 : (w.alloc (.cells #[.int .i64 L, .int .i64 I] 23)).heap.size = w.heap.size + 1 := by simp
    have HZ : Hid (((w.alloc (.cells #[.int .i64 L, .int .i64 I] 23)).alloc (.cells #[.int .i64 0, .int .i64 0] 23)).heap[w.heap.size + 1]? = some (.cells #[.int .i64 0, .int .i64 0] 23 (0, 0))) := by
      show _ = _
      rw [← s1]
      exact heap_alloc_new _ _
    have B0 : Hid (Below w.heap.size w ((w.alloc (.cells #[.int .i64 L, .int .i64 I] 23)).alloc (.cells #[.int .i64 0, .int .i64 0] 23))) := ((Below.refl _ _).alloc (Nat.le_refl _) _).alloc (by simp) _
    clear s1
    go_enter Try.func12, Try.ntmps12
    go_wp2_with fail
    refine (KB.out _ _ _).mono ?_
    rintro e w1 ⟨rfl, hb⟩
    have B1 : Hid (Below w.heap.size w w1) := over B0.out hb
    have HZ1 : Hid (w1.heap[w.heap.size + 1]? = some (.cells #[.int .i64 0, .int .i64 0] 23 (0, 0))) := (hb.block _ (Array.getElem?_eq_some_iff.1 HZ.out).1).trans HZ.out
    clear hb HZ B0
    have d1 : w1.cell? ⟨w.heap.size + 1, 0, none⟩ = some (.int .i64 0) := by rw [cell_of_row _ _ _ _ _ _ HZ1.out]; rfl
    have d2 : w1.cell? ⟨w.heap.size + 1, 1, none⟩ = some (.int .i64 0) := by rw [cell_of_row _ _ _ _ _ _ HZ1.out]; rfl
    have f1 := frozen_of_row w1 (w.heap.size + 1) 0 _ _ HZ1.out
    have f2 := frozen_of_row w1 (w.heap.size + 1) 1 _ _ HZ1.out
    have HBS : Hid (∀ x y : Value, Below w.heap.size w ((w1.setCell ⟨w.heap.size + 1, 0, none⟩ x).setCell ⟨w.heap.size + 1, 1, none⟩ y)) := fun x y => (B1.out.setCell (p := ⟨w.heap.size + 1, 0, none⟩) (by show _ ≤ w.heap.size + 1; omega) _).setCell (p := ⟨w.heap.size + 1, 1, none⟩) (by show _ ≤ w.heap.size + 1; omega) _
    have g2 : ∀ x y : Value, ((w1.setCell ⟨w.heap.size + 1, 0, none⟩ x).setCell ⟨w.heap.size + 1, 1, none⟩ y).cell? ⟨w.heap.size + 1, 1, none⟩ = some y := fun x y => by
      rw [cell_of_row _ _ _ _ _ _ (heap_setCell_same _ _ 1 _ _ y (heap_setCell_same w1 _ 0 _ _ x HZ1.out))]; rfl
    have g3 : ∀ x y : Value, ((w1.setCell ⟨w.heap.size + 1, 0, none⟩ x).setCell ⟨w.heap.size + 1, 1, none⟩ y).cell? ⟨w.heap.size + 1, 0, none⟩ = some x := fun x y => by
      rw [cell_of_row _ _ _ _ _ _ (heap_setCell_same _ _ 1 _ _ y (heap_setCell_same w1 _ 0 _ _ x HZ1.out))]; rfl
    go_wp2
    (try simp only [Exit.inBlock, Exit.then])
    refine bodyPost_ret (by simp [results, Try.results12, go_sem, g2, g3]; try rfl) rfl ?_
    exact ⟨rfl, HBS.out _ _⟩
set_option maxHeartbeats 1600000 in
theorem rLeft (L I : Int) (h0 : i64 L) (h1 : i64 I) (w : World) :
    Calls Try.prog 14 #[.agg #[.int .i64 L, .int .i64 I]] w fun e w' => e = .returned (kinV L I (L - 1) (2 * I)) ∧ Below w.heap.size w w' := by
  by_cases hok : okA L I
  · obtain ⟨k, i, rfl, rfl, hk, hf⟩ := okA_form hok
    have him : i < 4611686018427387904 := by
      have := Nat.le_mul_of_pos_right (i + 1) (p2 k)
      omega
    have KN : Hid (∀ w, Calls _ _ _ _ _) := fun w => rkin k i ((k : Int) - 1) (2 * (i : Int)) w
    obtain ⟨ra, rb, rc, HK⟩ := kin_form k i ((k : Int) - 1) (2 * (i : Int))

    rw [HK] at KN ⊢
    clear hok hf HK h0 h1
    have s1 : (w.alloc (.cells #[.int .i64 (k : Int), .int .i64 (i : Int)] 23)).heap.size = w.heap.size + 1 := by simp
    have HZ : Hid (((w.alloc (.cells #[.int .i64 (k : Int), .int .i64 (i : Int)] 23)).alloc (.cells #[.int .i64 0, .int .i64 0] 23)).heap[w.heap.size + 1]? = some (.cells #[.int .i64 0, .int .i64 0] 23 (0, 0))) := by
      show _ = _
      rw [← s1]
      exact heap_alloc_new _ _
    have B0 : Hid (Below w.heap.size w ((w.alloc (.cells #[.int .i64 (k : Int), .int .i64 (i : Int)] 23)).alloc (.cells #[.int .i64 0, .int .i64 0] 23))) := ((Below.refl _ _).alloc (Nat.le_refl _) _).alloc (by simp) _
    clear s1
    go_enter Try.func14, Try.ntmps14
    go_wp2_with fail
    refine (KN.out _).mono ?_
    rintro e w1 ⟨rfl, hb⟩
    have B1 : Hid (Below w.heap.size w w1) := over B0.out hb
    have HZ1 : Hid (w1.heap[w.heap.size + 1]? = some (.cells #[.int .i64 0, .int .i64 0] 23 (0, 0))) := (hb.block _ (Array.getElem?_eq_some_iff.1 HZ.out).1).trans HZ.out
    clear hb HZ B0
    have d1 : w1.cell? ⟨w.heap.size + 1, 0, none⟩ = some (.int .i64 0) := by rw [cell_of_row _ _ _ _ _ _ HZ1.out]; rfl
    have d2 : w1.cell? ⟨w.heap.size + 1, 1, none⟩ = some (.int .i64 0) := by rw [cell_of_row _ _ _ _ _ _ HZ1.out]; rfl
    have f1 := frozen_of_row w1 (w.heap.size + 1) 0 _ _ HZ1.out
    have f2 := frozen_of_row w1 (w.heap.size + 1) 1 _ _ HZ1.out
    have HBS : Hid (∀ x y : Value, Below w.heap.size w ((w1.setCell ⟨w.heap.size + 1, 0, none⟩ x).setCell ⟨w.heap.size + 1, 1, none⟩ y)) := fun x y => (B1.out.setCell (p := ⟨w.heap.size + 1, 0, none⟩) (by show _ ≤ w.heap.size + 1; omega) _).setCell (p := ⟨w.heap.size + 1, 1, none⟩) (by show _ ≤ w.heap.size + 1; omega) _
    have g2 : ∀ x y : Value, ((w1.setCell ⟨w.heap.size + 1, 0, none⟩ x).setCell ⟨w.heap.size + 1, 1, none⟩ y).cell? ⟨w.heap.size + 1, 1, none⟩ = some y := fun x y => by
      rw [cell_of_row _ _ _ _ _ _ (heap_setCell_same _ _ 1 _ _ y (heap_setCell_same w1 _ 0 _ _ x HZ1.out))]; rfl
    have g3 : ∀ x y : Value, ((w1.setCell ⟨w.heap.size + 1, 0, none⟩ x).setCell ⟨w.heap.size + 1, 1, none⟩ y).cell? ⟨w.heap.size + 1, 0, none⟩ = some x := fun x y => by
      rw [cell_of_row _ _ _ _ _ _ (heap_setCell_same _ _ 1 _ _ y (heap_setCell_same w1 _ 0 _ _ x HZ1.out))]; rfl
    go_wp2
    (try simp only [Exit.inBlock, Exit.then])
    refine bodyPost_ret (by simp [results, Try.results14, go_sem, g2, g3]; try rfl) rfl ?_
    exact ⟨rfl, HBS.out _ _⟩
  · have KB : Hid (∀ (a b : Int) (w : World), Calls Try.prog 19 #[.agg #[.int .i64 L, .int .i64 I], .agg #[.int .i64 a, .int .i64 b]] w fun e w' => e = .returned (.tuple #[.agg #[.int .i64 0, .int .i64 0], .int .i64 50]) ∧ Below w.heap.size w w') := by
      intro a b w
      have := rkin L I a b w
      rw [kin_no (fun h => hok h.1)] at this
      exact this
    rw [kin_no (fun h => hok h.1)]
    obtain ⟨g0, g1⟩ := h0
    obtain ⟨g4, g5⟩ := h1
    clear hok
    have s1 : (w.alloc (.cells #[.int .i64 L, .int .i64 I] 23)).heap.size = w.heap.size + 1 := by simp
    have HZ : Hid (((w.alloc (.cells #[.int .i64 L, .int .i64 I] 23)).alloc (.cells #[.int .i64 0, .int .i64 0] 23)).heap[w.heap.size + 1]? = some (.cells #[.int .i64 0, .int .i64 0] 23 (0, 0))) := by
      show _ = _
      rw [← s1]
      exact heap_alloc_new _ _
    have B0 : Hid (Below w.heap.size w ((w.alloc (.cells #[.int .i64 L, .int .i64 I] 23)).alloc (.cells #[.int .i64 0, .int .i64 0] 23))) := ((Below.refl _ _).alloc (Nat.le_refl _) _).alloc (by simp) _
    clear s1
    go_enter Try.func14, Try.ntmps14
    go_wp2_with fail
    refine (KB.out _ _ _).mono ?_
    rintro e w1 ⟨rfl, hb⟩
    have B1 : Hid (Below w.heap.size w w1) := over B0.out hb
    have HZ1 : Hid (w1.heap[w.heap.size + 1]? = some (.cells #[.int .i64 0, .int .i64 0] 23 (0, 0))) := (hb.block _ (Array.getElem?_eq_some_iff.1 HZ.out).1).trans HZ.out
    clear hb HZ B0
    have d1 : w1.cell? ⟨w.heap.size + 1, 0, none⟩ = some (.int .i64 0) := by rw [cell_of_row _ _ _ _ _ _ HZ1.out]; rfl
    have d2 : w1.cell? ⟨w.heap.size + 1, 1, none⟩ = some (.int .i64 0) := by rw [cell_of_row _ _ _ _ _ _ HZ1.out]; rfl
    have f1 := frozen_of_row w1 (w.heap.size + 1) 0 _ _ HZ1.out
    have f2 := frozen_of_row w1 (w.heap.size + 1) 1 _ _ HZ1.out
    have HBS : Hid (∀ x y : Value, Below w.heap.size w ((w1.setCell ⟨w.heap.size + 1, 0, none⟩ x).setCell ⟨w.heap.size + 1, 1, none⟩ y)) := fun x y => (B1.out.setCell (p := ⟨w.heap.size + 1, 0, none⟩) (by show _ ≤ w.heap.size + 1; omega) _).setCell (p := ⟨w.heap.size + 1, 1, none⟩) (by show _ ≤ w.heap.size + 1; omega) _
    have g2 : ∀ x y : Value, ((w1.setCell ⟨w.heap.size + 1, 0, none⟩ x).setCell ⟨w.heap.size + 1, 1, none⟩ y).cell? ⟨w.heap.size + 1, 1, none⟩ = some y := fun x y => by
      rw [cell_of_row _ _ _ _ _ _ (heap_setCell_same _ _ 1 _ _ y (heap_setCell_same w1 _ 0 _ _ x HZ1.out))]; rfl
    have g3 : ∀ x y : Value, ((w1.setCell ⟨w.heap.size + 1, 0, none⟩ x).setCell ⟨w.heap.size + 1, 1, none⟩ y).cell? ⟨w.heap.size + 1, 0, none⟩ = some x := fun x y => by
      rw [cell_of_row _ _ _ _ _ _ (heap_setCell_same _ _ 1 _ _ y (heap_setCell_same w1 _ 0 _ _ x HZ1.out))]; rfl
    go_wp2
    (try simp only [Exit.inBlock, Exit.then])
    refine bodyPost_ret (by simp [results, Try.results14, go_sem, g2, g3]; try rfl) rfl ?_
    exact ⟨rfl, HBS.out _ _⟩
set_option maxHeartbeats 1600000 in
theorem rRight (L I : Int) (h0 : i64 L) (h1 : i64 I) (w : World) :
    Calls Try.prog 16 #[.agg #[.int .i64 L, .int .i64 I]] w fun e w' => e = .returned (kinV L I (L - 1) (2 * I + 1)) ∧ Below w.heap.size w w' := by
  by_cases hok : okA L I
  · obtain ⟨k, i, rfl, rfl, hk, hf⟩ := okA_form hok
    have him : i < 4611686018427387904 := by
      have := Nat.le_mul_of_pos_right (i + 1) (p2 k)
      omega
    have KN : Hid (∀ w, Calls _ _ _ _ _) := fun w => rkin k i ((k : Int) - 1) (2 * (i : Int) + 1) w
    obtain ⟨ra, rb, rc, HK⟩ := kin_form k i ((k : Int) - 1) (2 * (i : Int) + 1)

    rw [HK] at KN ⊢
    clear hok hf HK h0 h1
    have s1 : (w.alloc (.cells #[.int .i64 (k : Int), .int .i64 (i : Int)] 23)).heap.size = w.heap.size + 1 := by simp
    have HZ : Hid (((w.alloc (.cells #[.int .i64 (k : Int), .int .i64 (i : Int)] 23)).alloc (.cells #[.int .i64 0, .int .i64 0] 23)).heap[w.heap.size + 1]? = some (.cells #[.int .i64 0, .int .i64 0] 23 (0, 0))) := by
      show _ = _
      rw [← s1]
      exact heap_alloc_new _ _
    have B0 : Hid (Below w.heap.size w ((w.alloc (.cells #[.int .i64 (k : Int), .int .i64 (i : Int)] 23)).alloc (.cells #[.int .i64 0, .int .i64 0] 23))) := ((Below.refl _ _).alloc (Nat.le_refl _) _).alloc (by simp) _
    clear s1
    go_enter Try.func16, Try.ntmps16
    go_wp2_with fail
    refine (KN.out _).mono ?_
    rintro e w1 ⟨rfl, hb⟩
    have B1 : Hid (Below w.heap.size w w1) := over B0.out hb
    have HZ1 : Hid (w1.heap[w.heap.size + 1]? = some (.cells #[.int .i64 0, .int .i64 0] 23 (0, 0))) := (hb.block _ (Array.getElem?_eq_some_iff.1 HZ.out).1).trans HZ.out
    clear hb HZ B0
    have d1 : w1.cell? ⟨w.heap.size + 1, 0, none⟩ = some (.int .i64 0) := by rw [cell_of_row _ _ _ _ _ _ HZ1.out]; rfl
    have d2 : w1.cell? ⟨w.heap.size + 1, 1, none⟩ = some (.int .i64 0) := by rw [cell_of_row _ _ _ _ _ _ HZ1.out]; rfl
    have f1 := frozen_of_row w1 (w.heap.size + 1) 0 _ _ HZ1.out
    have f2 := frozen_of_row w1 (w.heap.size + 1) 1 _ _ HZ1.out
    have HBS : Hid (∀ x y : Value, Below w.heap.size w ((w1.setCell ⟨w.heap.size + 1, 0, none⟩ x).setCell ⟨w.heap.size + 1, 1, none⟩ y)) := fun x y => (B1.out.setCell (p := ⟨w.heap.size + 1, 0, none⟩) (by show _ ≤ w.heap.size + 1; omega) _).setCell (p := ⟨w.heap.size + 1, 1, none⟩) (by show _ ≤ w.heap.size + 1; omega) _
    have g2 : ∀ x y : Value, ((w1.setCell ⟨w.heap.size + 1, 0, none⟩ x).setCell ⟨w.heap.size + 1, 1, none⟩ y).cell? ⟨w.heap.size + 1, 1, none⟩ = some y := fun x y => by
      rw [cell_of_row _ _ _ _ _ _ (heap_setCell_same _ _ 1 _ _ y (heap_setCell_same w1 _ 0 _ _ x HZ1.out))]; rfl
    have g3 : ∀ x y : Value, ((w1.setCell ⟨w.heap.size + 1, 0, none⟩ x).setCell ⟨w.heap.size + 1, 1, none⟩ y).cell? ⟨w.heap.size + 1, 0, none⟩ = some x := fun x y => by
      rw [cell_of_row _ _ _ _ _ _ (heap_setCell_same _ _ 1 _ _ y (heap_setCell_same w1 _ 0 _ _ x HZ1.out))]; rfl
    go_wp2
    (try simp only [Exit.inBlock, Exit.then])
    refine bodyPost_ret (by simp [results, Try.results16, go_sem, g2, g3]; try rfl) rfl ?_
    exact ⟨rfl, HBS.out _ _⟩
  · have KB : Hid (∀ (a b : Int) (w : World), Calls Try.prog 19 #[.agg #[.int .i64 L, .int .i64 I], .agg #[.int .i64 a, .int .i64 b]] w fun e w' => e = .returned (.tuple #[.agg #[.int .i64 0, .int .i64 0], .int .i64 50]) ∧ Below w.heap.size w w') := by
      intro a b w
      have := rkin L I a b w
      rw [kin_no (fun h => hok h.1)] at this
      exact this
    rw [kin_no (fun h => hok h.1)]
    obtain ⟨g0, g1⟩ := h0
    obtain ⟨g4, g5⟩ := h1
    clear hok
    have s1 : (w.alloc (.cells #[.int .i64 L, .int .i64 I] 23)).heap.size = w.heap.size + 1 := by simp
    have HZ : Hid (((w.alloc (.cells #[.int .i64 L, .int .i64 I] 23)).alloc (.cells #[.int .i64 0, .int .i64 0] 23)).heap[w.heap.size + 1]? = some (.cells #[.int .i64 0, .int .i64 0] 23 (0, 0))) := by
      show _ = _
      rw [← s1]
      exact heap_alloc_new _ _
    have B0 : Hid (Below w.heap.size w ((w.alloc (.cells #[.int .i64 L, .int .i64 I] 23)).alloc (.cells #[.int .i64 0, .int .i64 0] 23))) := ((Below.refl _ _).alloc (Nat.le_refl _) _).alloc (by simp) _
    clear s1
    go_enter Try.func16, Try.ntmps16
    go_wp2_with fail
    refine (KB.out _ _ _).mono ?_
    rintro e w1 ⟨rfl, hb⟩
    have B1 : Hid (Below w.heap.size w w1) := over B0.out hb
    have HZ1 : Hid (w1.heap[w.heap.size + 1]? = some (.cells #[.int .i64 0, .int .i64 0] 23 (0, 0))) := (hb.block _ (Array.getElem?_eq_some_iff.1 HZ.out).1).trans HZ.out
    clear hb HZ B0
    have d1 : w1.cell? ⟨w.heap.size + 1, 0, none⟩ = some (.int .i64 0) := by rw [cell_of_row _ _ _ _ _ _ HZ1.out]; rfl
    have d2 : w1.cell? ⟨w.heap.size + 1, 1, none⟩ = some (.int .i64 0) := by rw [cell_of_row _ _ _ _ _ _ HZ1.out]; rfl
    have f1 := frozen_of_row w1 (w.heap.size + 1) 0 _ _ HZ1.out
    have f2 := frozen_of_row w1 (w.heap.size + 1) 1 _ _ HZ1.out
    have HBS : Hid (∀ x y : Value, Below w.heap.size w ((w1.setCell ⟨w.heap.size + 1, 0, none⟩ x).setCell ⟨w.heap.size + 1, 1, none⟩ y)) := fun x y => (B1.out.setCell (p := ⟨w.heap.size + 1, 0, none⟩) (by show _ ≤ w.heap.size + 1; omega) _).setCell (p := ⟨w.heap.size + 1, 1, none⟩) (by show _ ≤ w.heap.size + 1; omega) _
    have g2 : ∀ x y : Value, ((w1.setCell ⟨w.heap.size + 1, 0, none⟩ x).setCell ⟨w.heap.size + 1, 1, none⟩ y).cell? ⟨w.heap.size + 1, 1, none⟩ = some y := fun x y => by
      rw [cell_of_row _ _ _ _ _ _ (heap_setCell_same _ _ 1 _ _ y (heap_setCell_same w1 _ 0 _ _ x HZ1.out))]; rfl
    have g3 : ∀ x y : Value, ((w1.setCell ⟨w.heap.size + 1, 0, none⟩ x).setCell ⟨w.heap.size + 1, 1, none⟩ y).cell? ⟨w.heap.size + 1, 0, none⟩ = some x := fun x y => by
      rw [cell_of_row _ _ _ _ _ _ (heap_setCell_same _ _ 1 _ _ y (heap_setCell_same w1 _ 0 _ _ x HZ1.out))]; rfl
    go_wp2
    (try simp only [Exit.inBlock, Exit.then])
    refine bodyPost_ret (by simp [results, Try.results16, go_sem, g2, g3]; try rfl) rfl ?_
    exact ⟨rfl, HBS.out _ _⟩
end Go.Proofs.Ytjjeiklhmbhhoab.ck
