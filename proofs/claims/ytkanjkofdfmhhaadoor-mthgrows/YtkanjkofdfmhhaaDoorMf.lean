import Derived.Test.YtkanjkofdfmhhaaDoorMd
import Derived.Test.YtkanjkofdfmhhaaDoorMe
namespace Go.Proofs.YtkanjkofdfmhhaaDoor.mf
open Go.RowKit Go.PlainAid
open Go.Proofs.YtkanjkofdfmhhaaDoor.pj Go.Proofs.YtkanjkofdfmhhaaDoor.rf Go.Proofs.YtkanjkofdfmhhaaDoor.gr Go.Proofs.YtkanjkofdfmhhaaDoor.gp Go.Proofs.YtkanjkofdfmhhaaDoor.gq Go.Proofs.YtkanjkofdfmhhaaDoor.gn Go.Proofs.YtkanjkofdfmhhaaDoor.mb Go.Proofs.YtkanjkofdfmhhaaDoor.mc Go.Proofs.YtkanjkofdfmhhaaDoor.md Go.Proofs.YtkanjkofdfmhhaaDoor.me
set_option linter.unusedVariables false

theorem rootC4 : RootC Tab4 := fun wd v xs w h t => rootC wd v xs w h t.t
theorem pathC4 : PathC Tab4 := fun wd i v xs w h h1 t => pathC wd i v xs w h h1 t.t
theorem proofC4 : ProofC Tab4 := fun wd i v xs w h h1 t => proofC wd i v xs w h h1 t.t
theorem nodeC4 : NodeC Tab4 := fun wd L I v xs w h h1 h2 t => nodeC wd L I v xs w h h1 h2 t.t
end Go.Proofs.YtkanjkofdfmhhaaDoor.mf
