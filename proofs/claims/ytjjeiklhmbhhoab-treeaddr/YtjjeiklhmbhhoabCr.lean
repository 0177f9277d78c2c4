import Derived.Test.YtjjeiklhmbhhoabCp
namespace Go.Proofs.Ytjjeiklhmbhhoab.cr
open Go.RowKit Go.PlainAid
open Go.Proofs.Ytjjeiklhmbhhoab.cp
set_option linter.unusedVariables false

-- what the program's ways with kin promise
def ParentC : Prop := ∀ (L I : Int), i64 L → i64 I → ∀ w, Calls Try.prog 9 #[.agg #[.int .i64 L, .int .i64 I]] w fun e w' => e = .returned (kinV L I (L + 1) (I / 2)) ∧ Below w.heap.size w w'
def SiblingC : Prop := ∀ (L I : Int), i64 L → i64 I → ∀ w, Calls Try.prog 11 #[.agg #[.int .i64 L, .int .i64 I]] w fun e w' => e = .returned (kinV L I L (sib I)) ∧ Below w.heap.size w w'
def LeftC : Prop := ∀ (L I : Int), i64 L → i64 I → ∀ w, Calls Try.prog 13 #[.agg #[.int .i64 L, .int .i64 I]] w fun e w' => e = .returned (kinV L I (L - 1) (2 * I)) ∧ Below w.heap.size w w'
def RightC : Prop := ∀ (L I : Int), i64 L → i64 I → ∀ w, Calls Try.prog 15 #[.agg #[.int .i64 L, .int .i64 I]] w fun e w' => e = .returned (kinV L I (L - 1) (2 * I + 1)) ∧ Below w.heap.size w w'
end Go.Proofs.Ytjjeiklhmbhhoab.cr
