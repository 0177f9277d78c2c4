import Derived.Test.YtjjeiklhmbhhoaaDoorCp
namespace Go.Proofs.YtjjeiklhmbhhoaaDoor.cn
open Go.RowKit Go.PlainAid
open Go.Proofs.YtjjeiklhmbhhoaaDoor.cp
set_option linter.unusedVariables false

theorem num (x : Int) (w : World) : Calls Tryd.prog 8 #[.int .i64 x] w fun e w' => e = .returned (.int .i64 x) ∧ w' = w := by
  go_enter Tryd.func8, Tryd.ntmps8
  go_wp2
  go_ret
  exact ⟨rfl, rfl⟩
end Go.Proofs.YtjjeiklhmbhhoaaDoor.cn
