import Derived.Test.YtjjeiklhmbhhoabDoorCp
namespace Go.Proofs.YtjjeiklhmbhhoabDoor.cn
open Go.RowKit Go.PlainAid
open Go.Proofs.YtjjeiklhmbhhoabDoor.cp
set_option linter.unusedVariables false

theorem num (x : Int) (w : World) : Calls Tryd.prog 7 #[.int .i64 x] w fun e w' => e = .returned (.int .i64 x) ∧ w' = w := by
  go_enter Tryd.func7, Tryd.ntmps7
  go_wp2
  go_ret
  exact ⟨rfl, rfl⟩
end Go.Proofs.YtjjeiklhmbhhoabDoor.cn
