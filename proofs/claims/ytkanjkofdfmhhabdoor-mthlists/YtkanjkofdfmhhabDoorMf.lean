import Derived.Test.YtkanjkofdfmhhabDoorMd
import Derived.Test.YtkanjkofdfmhhabDoorMe
namespace Go.Proofs.YtkanjkofdfmhhabDoor.mf
open Go.RowKit Go.PlainAid
open Go.Proofs.YtkanjkofdfmhhabDoor.pj Go.Proofs.YtkanjkofdfmhhabDoor.rf Go.Proofs.YtkanjkofdfmhhabDoor.gr Go.Proofs.YtkanjkofdfmhhabDoor.gp Go.Proofs.YtkanjkofdfmhhabDoor.gq Go.Proofs.YtkanjkofdfmhhabDoor.gn Go.Proofs.YtkanjkofdfmhhabDoor.mb Go.Proofs.YtkanjkofdfmhhabDoor.mc Go.Proofs.YtkanjkofdfmhhabDoor.md Go.Proofs.YtkanjkofdfmhhabDoor.me
set_option linter.unusedVariables false

theorem rootC4 : RootC Tab4 := fun wd v xs w h t => rootC wd v xs w h t.t
theorem pathC4 : PathC Tab4 := fun wd i v xs w h h1 t => pathC wd i v xs w h h1 t.t
theorem proofC4 : ProofC Tab4 := fun wd i v xs w h h1 t => proofC wd i v xs w h h1 t.t
theorem nodeC4 : NodeC Tab4 := fun wd L I v xs w h h1 h2 t => nodeC wd L I v xs w h h1 h2 t.t
end Go.Proofs.YtkanjkofdfmhhabDoor.mf
