import Derived.Test.YtkanjkofdfmhhaaDoorGb
namespace Go.Proofs.YtkanjkofdfmhhaaDoor.gq
open Go.RowKit Go.PlainAid
open Go.Proofs.YtkanjkofdfmhhaaDoor.cp Go.Proofs.YtkanjkofdfmhhaaDoor.ka Go.Proofs.YtkanjkofdfmhhaaDoor.gb
set_option linter.unusedVariables false

-- what mth.Proof promises (T: what it asks of the world)
def ProofC (T : World → Prop) : Prop := ∀ (wd m : Int) (v : Value) (xs : List ByteArray) (w : World), i64 wd → i64 m → T w → ReadsT w v xs → Fits xs → Calls Tryd.prog 20 #[.int .i64 wd, .int .i64 m, v] w fun e w' => Listed w w' e (QT wd m xs) (QE m xs) ∧ Below w.heap.size w w'
end Go.Proofs.YtkanjkofdfmhhaaDoor.gq
