import Derived.Test.YtfkpfmaphjeakaaDoorRe
import Derived.Test.YtfkpfmaphjeakaaDoorPj
namespace Go.Proofs.YtfkpfmaphjeakaaDoor.rf
open Go.RowKit Go.PlainAid
open Go.Proofs.YtfkpfmaphjeakaaDoor.pl Go.Proofs.YtfkpfmaphjeakaaDoor.pc Go.Proofs.YtfkpfmaphjeakaaDoor.ph Go.Proofs.YtfkpfmaphjeakaaDoor.pi Go.Proofs.YtfkpfmaphjeakaaDoor.ft Go.Proofs.YtfkpfmaphjeakaaDoor.pj Go.Proofs.YtfkpfmaphjeakaaDoor.re
set_option linter.unusedVariables false
set_option maxRecDepth 4000

end Go.Proofs.YtfkpfmaphjeakaaDoor.rf
