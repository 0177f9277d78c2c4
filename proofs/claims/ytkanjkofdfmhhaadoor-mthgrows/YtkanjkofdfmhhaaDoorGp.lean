import Derived.Test.YtkanjkofdfmhhaaDoorGb
namespace Go.Proofs.YtkanjkofdfmhhaaDoor.gp
open Go.RowKit Go.PlainAid
open Go.Proofs.YtkanjkofdfmhhaaDoor.cp Go.Proofs.YtkanjkofdfmhhaaDoor.ka Go.Proofs.YtkanjkofdfmhhaaDoor.gb
set_option linter.unusedVariables false

-- what mth.Path promises (T: what it asks of the world)
def PathC (T : World → Prop) : Prop := ∀ (wd i : Int) (v : Value) (xs : List ByteArray) (w : World), i64 wd → i64 i → T w → ReadsT w v xs → Fits xs → Calls Tryd.prog 18 #[.int .i64 wd, .int .i64 i, v] w fun e w' => Listed w w' e (PT wd i xs) (PE i xs) ∧ Below w.heap.size w w'
end Go.Proofs.YtkanjkofdfmhhaaDoor.gp
