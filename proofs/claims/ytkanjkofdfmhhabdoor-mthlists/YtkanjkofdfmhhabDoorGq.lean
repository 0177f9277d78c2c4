import Derived.Test.YtkanjkofdfmhhabDoorGb
namespace Go.Proofs.YtkanjkofdfmhhabDoor.gq
open Go.RowKit Go.PlainAid
open Go.Proofs.YtkanjkofdfmhhabDoor.cp Go.Proofs.YtkanjkofdfmhhabDoor.ka Go.Proofs.YtkanjkofdfmhhabDoor.gb
set_option linter.unusedVariables false

-- what mth.Proof promises (T: what it asks of the world)
def ProofC (T : World → Prop) : Prop := ∀ (wd m : Int) (v : Value) (xs : List ByteArray) (w : World), i64 wd → i64 m → T w → ReadsT w v xs → Fits xs → Calls Tryd.prog 7 #[.int .i64 wd, .int .i64 m, v] w fun e w' => Listed w w' e (QT wd m xs) (QE m xs) ∧ Below w.heap.size w w'
end Go.Proofs.YtkanjkofdfmhhabDoor.gq
