import Derived.Test.YthgieagebcjafaaDoorUb
namespace Go.Proofs.YthgieagebcjafaaDoor.uc
open Go.RowKit Go.PlainAid
open Go.Proofs.YthgieagebcjafaaDoor.ta Go.Proofs.YthgieagebcjafaaDoor.tb Go.Proofs.YthgieagebcjafaaDoor.tc Go.Proofs.YthgieagebcjafaaDoor.td Go.Proofs.YthgieagebcjafaaDoor.te Go.Proofs.YthgieagebcjafaaDoor.tf Go.Proofs.YthgieagebcjafaaDoor.tg Go.Proofs.YthgieagebcjafaaDoor.th Go.Proofs.YthgieagebcjafaaDoor.ti Go.Proofs.YthgieagebcjafaaDoor.tj Go.Proofs.YthgieagebcjafaaDoor.tk Go.Proofs.YthgieagebcjafaaDoor.ue Go.Proofs.YthgieagebcjafaaDoor.ub
set_option linter.unusedVariables false

def pr (b : Int) : Bool := decide (33 ≤ b) && decide (b ≤ 126)
theorem pl_pr (b : Int) : pl b = (pr b && !(b == 37)) := rfl
set_option maxHeartbeats 400000 in
theorem printed (b : Int) (w : World) : Calls Tryd.prog 59 #[.int .u8 b] w fun e w' => e = .returned (.bool (pr b)) ∧ w' = w := by
  by_cases h1 : 33 ≤ b
  · by_cases h2 : b ≤ 126
    · have HE : Hid (pr b = true) := by show _ = _; simp [pr, h1, h2]
      rw [HE.out]
      go_enter Tryd.func59, Tryd.ntmps59
      go_wp2
      go_ret
      exact ⟨rfl, rfl⟩
    · have HE : Hid (pr b = false) := by show _ = _; simp [pr, h2]
      rw [HE.out]
      go_enter Tryd.func59, Tryd.ntmps59
      go_wp2
      go_ret
      exact ⟨rfl, rfl⟩
  · have HE : Hid (pr b = false) := by show _ = _; simp [pr, h1]
    rw [HE.out]
    go_enter Tryd.func59, Tryd.ntmps59
    go_wp2
    go_ret
    exact ⟨rfl, rfl⟩
theorem flush84 (b : Int) (h : 0 ≤ b ∧ b < 256) : flush 4 (0 + 8) (0 * 2 ^ 8 + b) (0 + 8) = ([b / 16, b % 16], 0, 0) := by
  have := stp84 [] b h
  simpa [stp, Prod.ext_iff] using this
section
variable {w0 : World} {B bo C bh bc : Nat} {cs : List (Nat × Obj)}
end

end Go.Proofs.YthgieagebcjafaaDoor.uc
