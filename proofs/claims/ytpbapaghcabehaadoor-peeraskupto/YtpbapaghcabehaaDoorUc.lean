import Derived.Test.YtpbapaghcabehaaDoorUb
namespace Go.Proofs.YtpbapaghcabehaaDoor.uc
open Go.RowKit Go.PlainAid
open Go.Proofs.YtpbapaghcabehaaDoor.ta Go.Proofs.YtpbapaghcabehaaDoor.tb Go.Proofs.YtpbapaghcabehaaDoor.tc Go.Proofs.YtpbapaghcabehaaDoor.td Go.Proofs.YtpbapaghcabehaaDoor.te Go.Proofs.YtpbapaghcabehaaDoor.tf Go.Proofs.YtpbapaghcabehaaDoor.tg Go.Proofs.YtpbapaghcabehaaDoor.th Go.Proofs.YtpbapaghcabehaaDoor.ti Go.Proofs.YtpbapaghcabehaaDoor.tj Go.Proofs.YtpbapaghcabehaaDoor.tk Go.Proofs.YtpbapaghcabehaaDoor.ue Go.Proofs.YtpbapaghcabehaaDoor.ub
set_option linter.unusedVariables false

def pr (b : Int) : Bool := decide (33 ≤ b) && decide (b ≤ 126)
theorem pl_pr (b : Int) : pl b = (pr b && !(b == 37)) := rfl
theorem flush84 (b : Int) (h : 0 ≤ b ∧ b < 256) : flush 4 (0 + 8) (0 * 2 ^ 8 + b) (0 + 8) = ([b / 16, b % 16], 0, 0) := by
  have := stp84 [] b h
  simpa [stp, Prod.ext_iff] using this
section
variable {w0 : World} {B bo C bh bc : Nat} {cs : List (Nat × Obj)}
end

end Go.Proofs.YtpbapaghcabehaaDoor.uc
