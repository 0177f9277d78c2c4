import Derived.Test.YtkanjkofdfmhhaaDoorGs
namespace Go.Proofs.YtkanjkofdfmhhaaDoor.gl
open Go.RowKit Go.PlainAid
open Go.Proofs.YtkanjkofdfmhhaaDoor.ca Go.Proofs.YtkanjkofdfmhhaaDoor.cb Go.Proofs.YtkanjkofdfmhhaaDoor.cp Go.Proofs.YtkanjkofdfmhhaaDoor.ga
set_option linter.unusedVariables false

theorem half_of {n t j : Nat} (hj : 2 ^ j = t) (h1 : t < n) (h2 : ¬ 2 * t < n) : half n = t := by
  rw [← hj]
  exact half_eq (by rw [hj]; exact h1) (by rw [p2s, hj]; omega)
-- the law's own split
theorem split (n : Nat) (h : 2 ≤ n) (hn : n ≤ 4611686018427387904) (w : World) :
    Calls Tryd.prog 14 #[.int .i64 n] w fun e w' => e = .returned (.int .i64 (half n : Nat)) ∧ w' = w := by
  go_enter Tryd.func14, Tryd.ntmps14
  go_wp2
  go_loopw [3] (fun k wr => ∃ (t j : Nat), k = .int .i64 t ∧ t < n ∧ Hid (2 ^ j = t) ∧ wr = w) (fun k _ => (n - intOf k).toNat)
  case atStart => exact ⟨1, 0, rfl, by omega, rfl, rfl⟩
  case round =>
    obtain ⟨t, j, rfl, ht, HJ, rfl⟩ := hrel
    have ht0 : 0 < t := by rw [← HJ.out]; exact p2 j
    by_cases hlt : 2 * t < n
    · have hlt' : 2 * (t : Int) < n := by omega
      have HJ2 : Hid (2 ^ (j + 1) = 2 * t) := by show _ = _; rw [p2s, HJ.out]
      go_wp2
      go_roundw
      case rel => exact ⟨2 * t, j + 1, by go_num, hlt, HJ2.out, by first | rfl | trivial⟩
      case measure => simp [intOf]; omega
    · have hlt' : ¬ 2 * (t : Int) < n := by omega
      have HE : Hid (half n = t) := half_of HJ.out ht hlt
      go_wp2
      go_ret
      exact ⟨by rw [HE.out]; rfl, by first | rfl | trivial⟩
end Go.Proofs.YtkanjkofdfmhhaaDoor.gl
