import Derived.Test.YtpbapaghcabehaaDoorTk
namespace Go.Proofs.YtpbapaghcabehaaDoor.ue
open Go.RowKit Go.PlainAid
open Go.Proofs.YtpbapaghcabehaaDoor.ta Go.Proofs.YtpbapaghcabehaaDoor.tb Go.Proofs.YtpbapaghcabehaaDoor.tc Go.Proofs.YtpbapaghcabehaaDoor.td Go.Proofs.YtpbapaghcabehaaDoor.te Go.Proofs.YtpbapaghcabehaaDoor.tf Go.Proofs.YtpbapaghcabehaaDoor.tg Go.Proofs.YtpbapaghcabehaaDoor.th Go.Proofs.YtpbapaghcabehaaDoor.ti Go.Proofs.YtpbapaghcabehaaDoor.tj Go.Proofs.YtpbapaghcabehaaDoor.tk
set_option linter.unusedVariables false

section
variable {w0 : World} {B bo C bh bc : Nat} {cs : List (Nat × Obj)}
end
end Go.Proofs.YtpbapaghcabehaaDoor.ue
