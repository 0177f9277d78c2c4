import Derived.Test.YtfpkjmhhddmhnaaGreatDoorTc
namespace Go.Proofs.YtfpkjmhhddmhnaaGreatDoor.td
open Go.RowKit Go.PlainAid
open Go.Proofs.YtfpkjmhhddmhnaaGreatDoor.ta Go.Proofs.YtfpkjmhhddmhnaaGreatDoor.tb Go.Proofs.YtfpkjmhhddmhnaaGreatDoor.tc
set_option linter.unusedVariables false

end Go.Proofs.YtfpkjmhhddmhnaaGreatDoor.td
