import Derived.Test.YtjkkijeamcihiaaLx
import Derived.Lib.SmallJoins
namespace Go.Proofs.Ytjkkijeamcihiaa.wx
open Go.RowKit Go.PlainAid Go.Maps
open Go.Proofs.Ytjkkijeamcihiaa.lx
set_option linter.unusedVariables false
theorem keys_walk {w : World} (a : Int) (wa : (Lit.int .i64 a).wf = true) (v : Value) (xs : List Int) (hr : ReadsN w v xs) (hw : ∀ x ∈ xs, -9223372036854775808 ≤ x ∧ x ≤ 9223372036854775807) (hz : xs.length * 8 ≤ 140737488351232) (b : Int) (wb : (Lit.int .i64 b).wf = true) :
    Calls Try.prog 5 #[.int .i64 a, v, .int .i64 b] w fun e w' => e = .returned (.bool true) ∧ Below w.heap.size w w' :=
  keysL a (bounds_i64 wa).1 (bounds_i64 wa).2 v xs b (bounds_i64 wb).1 (bounds_i64 wb).2 w hr hz
end Go.Proofs.Ytjkkijeamcihiaa.wx
