import Derived.Test.YtkanjkofdfmhhabDoorGb
namespace Go.Proofs.YtkanjkofdfmhhabDoor.gp
open Go.RowKit Go.PlainAid
open Go.Proofs.YtkanjkofdfmhhabDoor.cp Go.Proofs.YtkanjkofdfmhhabDoor.ka Go.Proofs.YtkanjkofdfmhhabDoor.gb
set_option linter.unusedVariables false

-- what mth.Path promises (T: what it asks of the world)
def PathC (T : World → Prop) : Prop := ∀ (wd i : Int) (v : Value) (xs : List ByteArray) (w : World), i64 wd → i64 i → T w → ReadsT w v xs → Fits xs → Calls Tryd.prog 14 #[.int .i64 wd, .int .i64 i, v] w fun e w' => Listed w w' e (PT wd i xs) (PE i xs) ∧ Below w.heap.size w w'
end Go.Proofs.YtkanjkofdfmhhabDoor.gp
