import Derived.Test.YtoakkoalkpfkmaaDoorTc
namespace Go.Proofs.YtoakkoalkpfkmaaDoor.td
open Go.RowKit Go.PlainAid
open Go.Proofs.YtoakkoalkpfkmaaDoor.ta Go.Proofs.YtoakkoalkpfkmaaDoor.tb Go.Proofs.YtoakkoalkpfkmaaDoor.tc
set_option linter.unusedVariables false

end Go.Proofs.YtoakkoalkpfkmaaDoor.td
