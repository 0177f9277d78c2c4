import Derived.Test.YtkanjkofdfmhhabDoorCp
namespace Go.Proofs.YtkanjkofdfmhhabDoor.cu
open Go.RowKit Go.PlainAid
open Go.Proofs.YtkanjkofdfmhhabDoor.cp
set_option linter.unusedVariables false

-- what the program's Span promises
def SpanC : Prop := ∀ (L I : Int), i64 L → i64 I → ∀ w, Calls Tryd.prog 21 #[.agg #[.int .i64 L, .int .i64 I]] w fun e w' => e = .returned (spV L I) ∧ Below w.heap.size w w'
end Go.Proofs.YtkanjkofdfmhhabDoor.cu
