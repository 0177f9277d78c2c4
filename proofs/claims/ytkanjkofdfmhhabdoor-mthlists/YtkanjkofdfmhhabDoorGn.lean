import Derived.Test.YtkanjkofdfmhhabDoorGb
namespace Go.Proofs.YtkanjkofdfmhhabDoor.gn
open Go.RowKit Go.PlainAid
open Go.Proofs.YtkanjkofdfmhhabDoor.cp Go.Proofs.YtkanjkofdfmhhabDoor.ka Go.Proofs.YtkanjkofdfmhhabDoor.gb
set_option linter.unusedVariables false

-- what mth.Node promises (T: what it asks of the world)
def NodeC (T : World → Prop) : Prop := ∀ (wd L I : Int) (v : Value) (xs : List ByteArray) (w : World), i64 wd → i64 L → i64 I → T w → ReadsT w v xs → Fits xs → Calls Tryd.prog 11 #[.int .i64 wd, .agg #[.int .i64 L, .int .i64 I], v] w fun e w' => e = .returned (.tuple #[.string (NT wd L I xs), .int .i64 (NE L I xs)]) ∧ Below w.heap.size w w'
end Go.Proofs.YtkanjkofdfmhhabDoor.gn
