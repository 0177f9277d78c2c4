import Derived.Test.YtjjeiklhmbhhoabCp
namespace Go.Proofs.Ytjjeiklhmbhhoab.cn
open Go.RowKit Go.PlainAid
open Go.Proofs.Ytjjeiklhmbhhoab.cp
set_option linter.unusedVariables false

theorem num (x : Int) (w : World) : Calls Try.prog 8 #[.int .i64 x] w fun e w' => e = .returned (.int .i64 x) ∧ w' = w := by
  go_enter Try.func8, Try.ntmps8
  go_wp2
  go_ret
  exact ⟨rfl, rfl⟩
end Go.Proofs.Ytjjeiklhmbhhoab.cn
