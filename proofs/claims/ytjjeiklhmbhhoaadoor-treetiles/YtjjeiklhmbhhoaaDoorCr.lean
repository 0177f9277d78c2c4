import Derived.Test.YtjjeiklhmbhhoaaDoorCp
namespace Go.Proofs.YtjjeiklhmbhhoaaDoor.cr
open Go.RowKit Go.PlainAid
open Go.Proofs.YtjjeiklhmbhhoaaDoor.cp
set_option linter.unusedVariables false

-- what the program's ways with kin promise
def ParentC : Prop := ∀ (L I : Int), i64 L → i64 I → ∀ w, Calls Tryd.prog 12 #[.agg #[.int .i64 L, .int .i64 I]] w fun e w' => e = .returned (kinV L I (L + 1) (I / 2)) ∧ Below w.heap.size w w'
end Go.Proofs.YtjjeiklhmbhhoaaDoor.cr
