import Derived.Test.YtkanjkofdfmhhabDoorCu
namespace Go.Proofs.YtkanjkofdfmhhabDoor.cq
open Go.RowKit Go.PlainAid
open Go.Proofs.YtkanjkofdfmhhabDoor.cp
set_option linter.unusedVariables false

-- what the program's Valid promises
def ValidC : Prop := ∀ (L I : Int), i64 L → i64 I → ∀ w, Calls Tryd.prog 31 #[.agg #[.int .i64 L, .int .i64 I]] w fun e w' => e = .returned (.bool (decide (okA L I))) ∧ Below w.heap.size w w'
end Go.Proofs.YtkanjkofdfmhhabDoor.cq
