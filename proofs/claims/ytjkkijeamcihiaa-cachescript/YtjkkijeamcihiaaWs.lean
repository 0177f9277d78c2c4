import Derived.Test.YtjkkijeamcihiaaLs
import Derived.Lib.SmallJoins
namespace Go.Proofs.Ytjkkijeamcihiaa.ws
open Go.RowKit Go.PlainAid Go.Maps
open Go.Proofs.Ytjkkijeamcihiaa.lc Go.Proofs.Ytjkkijeamcihiaa.ls
set_option linter.unusedVariables false
theorem script_walk (a : Int) (wa : (Lit.int .i64 a).wf = true) (b : Int) (wb : (Lit.int .i64 b).wf = true) (v : Value) (l : List Opc) (w : World) (hr : ReadsC w v l) (hno : v.ownBlock = none → v = .slice none 0 0) (hz : l.length * 32 ≤ 140737488351232) :
    Calls Try.prog 7 #[.int .i64 a, .int .i64 b, v] w fun e w' => e = .returned (.bool true) ∧ Below w.heap.size w w' := by
  by_cases h1 : 0 ≤ a ∧ a ≤ 4096
  · obtain ⟨p, rfl⟩ : ∃ p : Nat, a = p := ⟨a.toNat, by omega⟩
    by_cases h2 : 0 ≤ b ∧ b ≤ 4096
    · obtain ⟨q, rfl⟩ : ∃ p : Nat, b = p := ⟨b.toNat, by omega⟩
      exact script11 p (by omega) q (by omega) v l w hr hz
    · exact script10 p (by omega) b (by omega) v l w hr hz
  · by_cases h2 : 0 ≤ b ∧ b ≤ 4096
    · obtain ⟨q, rfl⟩ : ∃ p : Nat, b = p := ⟨b.toNat, by omega⟩
      exact script01 a (by omega) q (by omega) v l w hr hz
    · exact script00 a (by omega) b (by omega) v l w hr hz
end Go.Proofs.Ytjkkijeamcihiaa.ws
