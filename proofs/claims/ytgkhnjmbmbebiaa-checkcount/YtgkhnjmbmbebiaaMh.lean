import Derived.Test.YtgkhnjmbmbebiaaGa
import Derived.Test.YtgkhnjmbmbebiaaXa
import Derived.Test.YtgkhnjmbmbebiaaXb
import Derived.Test.YtgkhnjmbmbebiaaCp
namespace Go.Proofs.Ytgkhnjmbmbebiaa.mh
open Go.RowKit Go.PlainAid
open Go.Proofs.Ytgkhnjmbmbebiaa.ca Go.Proofs.Ytgkhnjmbmbebiaa.cb Go.Proofs.Ytgkhnjmbmbebiaa.cp Go.Proofs.Ytgkhnjmbmbebiaa.ga Go.Proofs.Ytgkhnjmbmbebiaa.xa Go.Proofs.Ytgkhnjmbmbebiaa.xb
set_option linter.unusedVariables false

theorem half_len {n : Nat} (h : 2 ≤ n) (hn : n ≤ 4611686018427387904) : ∃ l, Lib.bitLen (n - 1) = l + 1 ∧ half n = 2 ^ l ∧ l ≤ 62 := by
  obtain ⟨g1, g2⟩ := len_spec (n - 1) (by omega)
  obtain ⟨g3, g4⟩ := g2 (by omega)
  have g5 := len_le63 (n - 1) (by omega)
  obtain ⟨l, hl⟩ : ∃ l, Lib.bitLen (n - 1) = l + 1 := ⟨Lib.bitLen (n - 1) - 1, by omega⟩
  rw [hl] at g1 g3 g5
  rw [Nat.add_sub_cancel] at g3
  exact ⟨l, hl, half_eq (by omega) (by omega), by omega⟩
end Go.Proofs.Ytgkhnjmbmbebiaa.mh
