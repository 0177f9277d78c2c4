import Derived.Test.YtkanjkofdfmhhabDoorMd
namespace Go.Proofs.YtkanjkofdfmhhabDoor.mg
open Go.RowKit Go.PlainAid
open Go.Proofs.YtkanjkofdfmhhabDoor.pj Go.Proofs.YtkanjkofdfmhhabDoor.rf Go.Proofs.YtkanjkofdfmhhabDoor.gr Go.Proofs.YtkanjkofdfmhhabDoor.gp Go.Proofs.YtkanjkofdfmhhabDoor.gq Go.Proofs.YtkanjkofdfmhhabDoor.mb Go.Proofs.YtkanjkofdfmhhabDoor.mc Go.Proofs.YtkanjkofdfmhhabDoor.md
set_option linter.unusedVariables false

theorem rootC4 : RootC Tab4 := fun wd v xs w h t => rootC wd v xs w h t.t
theorem pathC4 : PathC Tab4 := fun wd i v xs w h h1 t => pathC wd i v xs w h h1 t.t
theorem proofC4 : ProofC Tab4 := fun wd i v xs w h h1 t => proofC wd i v xs w h h1 t.t
end Go.Proofs.YtkanjkofdfmhhabDoor.mg
