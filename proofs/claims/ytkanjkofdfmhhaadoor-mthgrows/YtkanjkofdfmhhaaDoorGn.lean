import Derived.Test.YtkanjkofdfmhhaaDoorGb
namespace Go.Proofs.YtkanjkofdfmhhaaDoor.gn
open Go.RowKit Go.PlainAid
open Go.Proofs.YtkanjkofdfmhhaaDoor.cp Go.Proofs.YtkanjkofdfmhhaaDoor.ka Go.Proofs.YtkanjkofdfmhhaaDoor.gb
set_option linter.unusedVariables false

-- what mth.Node promises (T: what it asks of the world)
def NodeC (T : World → Prop) : Prop := ∀ (wd L I : Int) (v : Value) (xs : List ByteArray) (w : World), i64 wd → i64 L → i64 I → T w → ReadsT w v xs → Fits xs → Calls Tryd.prog 11 #[.int .i64 wd, .agg #[.int .i64 L, .int .i64 I], v] w fun e w' => e = .returned (.tuple #[.string (NT wd L I xs), .int .i64 (NE L I xs)]) ∧ Below w.heap.size w w'
end Go.Proofs.YtkanjkofdfmhhaaDoor.gn
