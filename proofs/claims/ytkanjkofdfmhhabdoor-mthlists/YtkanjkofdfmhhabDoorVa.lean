import Derived.Test.YtkanjkofdfmhhabDoorCq
import Derived.Deep.RegionHeld3
import Derived.Handy
import Derived.Laws.BitsAllLaws
namespace Go.Proofs.YtkanjkofdfmhhabDoor.va
open Go.RowKit Go.PlainAid
open Go.Proofs.YtkanjkofdfmhhabDoor.ca Go.Proofs.YtkanjkofdfmhhabDoor.cp Go.Proofs.YtkanjkofdfmhhabDoor.cu Go.Proofs.YtkanjkofdfmhhabDoor.cq
set_option linter.unusedVariables false

set_option maxHeartbeats 800000 in
theorem valid (L I : Int) (w : World) :
    Calls Tryd.prog 31 #[.agg #[.int .i64 L, .int .i64 I]] w fun e w' => e = .returned (.bool (decide (okA L I))) ∧ Below w.heap.size w w' := by
  obtain ⟨r, HR⟩ : ∃ r, Hid (decide (okA L I) = r) := ⟨_, rfl⟩
  rw [HR.out]
  have B0 : Hid (Below w.heap.size w (w.alloc (.cells #[.int .i64 L, .int .i64 I] 32))) := (Below.refl _ _).alloc (Nat.le_refl _) _
  have HF : ¬ okA L I → Hid (r = false) := fun h => by show _ = _; rw [← HR.out]; exact decide_eq_false h
  by_cases a1 : L < 0
  · have HV : Hid (r = false) := HF (fun h => by have := h.1; omega)
    clear HF
    go_enter Tryd.func31, Tryd.ntmps31
    go_wp2
    go_ret
    exact ⟨by rw [HV.out]; rfl, B0.out⟩
  · by_cases a2 : L > 62
    · have HV : Hid (r = false) := HF (fun h => by have := h.2.1; omega)
      clear HF
      go_enter Tryd.func31, Tryd.ntmps31
      go_wp2
      go_ret
      exact ⟨by rw [HV.out]; rfl, B0.out⟩
    · by_cases a3 : 0 ≤ I
      · obtain ⟨k, rfl⟩ : ∃ k : Nat, L = k := ⟨L.toNat, by omega⟩
        have hk : k ≤ 62 := by omega
        obtain ⟨t, HT⟩ : ∃ t : Nat, Hid (2 ^ k = t) := ⟨_, rfl⟩
        have hT : (2 : Int) ^ k = (t : Int) := by rw [cast_pow, HT.out]
        have HV : Hid (r = decide (I < 4611686018427387904 / (t : Int))) := by
          show _ = _
          rw [← HR.out]
          refine decide_eq_decide.2 ?_
          unfold okA
          rw [Int.toNat_natCast, hT]
          omega
        have hw3 : min (k : Int).toNat 64 = k := by omega
        have hw4 : min k 64 = k := by omega
        clear HF
        go_enter Tryd.func31, Tryd.ntmps31
        go_wp2_with fail
        go_quiet (fail)
        go_wp2
        go_ret
        exact ⟨by rw [HV.out]; rfl, below_dN B0.out _⟩
      · have HV : Hid (r = false) := HF (fun h => by have := h.2.2.1; omega)
        have a4 : decide (0 ≤ I) = false := decide_eq_false a3
        clear HF
        go_enter Tryd.func31, Tryd.ntmps31
        go_wp2_with fail
        go_quiet (fail)
        go_wp2
        go_ret
        exact ⟨by rw [HV.out]; rfl, below_dN B0.out _⟩
theorem validC : ValidC := fun L I _ _ w => valid L I w
set_option maxHeartbeats 800000 in
theorem span (L I : Int) (w : World) :
    Calls Tryd.prog 21 #[.agg #[.int .i64 L, .int .i64 I]] w fun e w' => e = .returned (spV L I) ∧ Below w.heap.size w w' := by
  have V1 : Hid (∀ w, Calls _ _ _ _ _) := fun w => valid L I w
  by_cases hok : okA L I
  · obtain ⟨k, i, rfl, rfl, hk, hf⟩ := okA_form hok
    rw [decide_eq_true hok] at V1
    rw [spV_nat hok]
    have HX : Hid (Bx (w.alloc (.cells #[.int .i64 (k : Int), .int .i64 (i : Int)] 32)) w.heap.size k i) := bx_new _ _ _
    obtain ⟨f, HF⟩ : ∃ f, Hid (i * 2 ^ k = f) := ⟨_, rfl⟩
    obtain ⟨g, HG⟩ : ∃ g, Hid ((i + 1) * 2 ^ k = g) := ⟨_, rfl⟩
    rw [HF.out, HG.out]
    rw [HG.out] at hf
    clear hok
    go_enter Tryd.func21, Tryd.ntmps21
    go_wp2_with fail
    refine (V1.out _).mono ?_
    rintro e w1 ⟨rfl, hb⟩
    have B1 : Hid (Below w.heap.size w w1) := over ((Below.refl _ _).alloc (Nat.le_refl _) _) hb
    obtain ⟨c1, c2⟩ := HX.out.later hb
    have him : i ≤ 4611686018427387904 := by
      have := Nat.le_mul_of_pos_right (i + 1) (p2 k)
      rw [HG.out] at this
      omega
    have hfg : f ≤ g := by rw [← HF.out, ← HG.out]; exact Nat.mul_le_mul_right _ (by omega)
    have hw2 : IntKind.u64.wrap (k : Int) = k := u64_is k (by omega)
    have hw3 : min (k : Int).toNat 64 = k := by omega
    have hw4 : min k 64 = k := by omega
    have hw5 : IntKind.i64.wrap ((i : Int) * 2 ^ k) = f := by rw [cast_pow, ← Int.natCast_mul, HF.out]; exact wrap_is f (by omega)
    have hw6 : IntKind.i64.wrap ((i : Int) + 1) = (i : Int) + 1 := by rw [IntKind.wrap_i64]; omega
    have hw7 : IntKind.i64.wrap (((i : Int) + 1) * 2 ^ k) = g := by rw [cast_pow, show (i : Int) + 1 = ((i + 1 : Nat) : Int) by omega, ← Int.natCast_mul, HG.out]; exact wrap_is g (by omega)
    clear hb
    go_wp2_with fail
    go_quiet (fail)
    go_wp2
    go_returns
    exact ⟨rfl, below_dN B1.out _⟩
  · rw [decide_eq_false hok] at V1
    rw [show spV L I = .tuple #[.int .i64 0, .int .i64 0, .int .i64 50] by unfold spV; rw [if_neg hok]]
    clear hok
    go_enter Tryd.func21, Tryd.ntmps21
    go_wp2_with fail
    refine (V1.out _).mono ?_
    rintro e w1 ⟨rfl, hb⟩
    have B1 : Hid (Below w.heap.size w w1) := over ((Below.refl _ _).alloc (Nat.le_refl _) _) hb
    clear hb
    go_wp2
    go_returns
    exact ⟨rfl, B1.out⟩
theorem spanC : SpanC := fun L I _ _ w => span L I w
end Go.Proofs.YtkanjkofdfmhhabDoor.va
