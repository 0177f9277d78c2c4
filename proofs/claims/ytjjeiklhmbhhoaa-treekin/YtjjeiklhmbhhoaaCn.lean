import Derived.Test.YtjjeiklhmbhhoaaCp
namespace Go.Proofs.Ytjjeiklhmbhhoaa.cn
open Go.RowKit Go.PlainAid
open Go.Proofs.Ytjjeiklhmbhhoaa.cp
set_option linter.unusedVariables false

theorem num (x : Int) (w : World) : Calls Try.prog 7 #[.int .i64 x] w fun e w' => e = .returned (.int .i64 x) ∧ w' = w := by
  go_enter Try.func7, Try.ntmps7
  go_wp2
  go_ret
  exact ⟨rfl, rfl⟩
end Go.Proofs.Ytjjeiklhmbhhoaa.cn
