import Derived.Test.YtkanjkofdfmhhaaDoorCu
namespace Go.Proofs.YtkanjkofdfmhhaaDoor.cq
open Go.RowKit Go.PlainAid
open Go.Proofs.YtkanjkofdfmhhaaDoor.cp
set_option linter.unusedVariables false

-- what the program's Valid promises
def ValidC : Prop := ∀ (L I : Int), i64 L → i64 I → ∀ w, Calls Tryd.prog 27 #[.agg #[.int .i64 L, .int .i64 I]] w fun e w' => e = .returned (.bool (decide (okA L I))) ∧ Below w.heap.size w w'
end Go.Proofs.YtkanjkofdfmhhaaDoor.cq
