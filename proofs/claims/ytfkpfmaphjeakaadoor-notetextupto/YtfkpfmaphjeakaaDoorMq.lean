import Derived.Test.YtfkpfmaphjeakaaDoorMp
namespace Go.Proofs.YtfkpfmaphjeakaaDoor.mq
open Go.RowKit Go.PlainAid
open Go.Proofs.YtfkpfmaphjeakaaDoor.pl Go.Proofs.YtfkpfmaphjeakaaDoor.pc Go.Proofs.YtfkpfmaphjeakaaDoor.pf Go.Proofs.YtfkpfmaphjeakaaDoor.pg Go.Proofs.YtfkpfmaphjeakaaDoor.ph Go.Proofs.YtfkpfmaphjeakaaDoor.pi Go.Proofs.YtfkpfmaphjeakaaDoor.ft Go.Proofs.YtfkpfmaphjeakaaDoor.pj Go.Proofs.YtfkpfmaphjeakaaDoor.re Go.Proofs.YtfkpfmaphjeakaaDoor.rf Go.Proofs.YtfkpfmaphjeakaaDoor.mo Go.Proofs.YtfkpfmaphjeakaaDoor.mp
set_option linter.unusedVariables false
set_option maxRecDepth 4000

end Go.Proofs.YtfkpfmaphjeakaaDoor.mq
