import Derived.Test.YtfbglffookacbaaGreatDoorTc
namespace Go.Proofs.YtfbglffookacbaaGreatDoor.td
open Go.RowKit Go.PlainAid
open Go.Proofs.YtfbglffookacbaaGreatDoor.ta Go.Proofs.YtfbglffookacbaaGreatDoor.tb Go.Proofs.YtfbglffookacbaaGreatDoor.tc
set_option linter.unusedVariables false
set_option maxRecDepth 4000

end Go.Proofs.YtfbglffookacbaaGreatDoor.td
