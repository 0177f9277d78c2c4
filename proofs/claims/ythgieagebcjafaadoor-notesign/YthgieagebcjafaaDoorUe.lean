import Derived.Test.YthgieagebcjafaaDoorTk
namespace Go.Proofs.YthgieagebcjafaaDoor.ue
open Go.RowKit Go.PlainAid
open Go.Proofs.YthgieagebcjafaaDoor.ta Go.Proofs.YthgieagebcjafaaDoor.tb Go.Proofs.YthgieagebcjafaaDoor.tc Go.Proofs.YthgieagebcjafaaDoor.td Go.Proofs.YthgieagebcjafaaDoor.te Go.Proofs.YthgieagebcjafaaDoor.tf Go.Proofs.YthgieagebcjafaaDoor.tg Go.Proofs.YthgieagebcjafaaDoor.th Go.Proofs.YthgieagebcjafaaDoor.ti Go.Proofs.YthgieagebcjafaaDoor.tj Go.Proofs.YthgieagebcjafaaDoor.tk
set_option linter.unusedVariables false

section
variable {w0 : World} {B bo C bh bc : Nat} {cs : List (Nat × Obj)}
end
end Go.Proofs.YthgieagebcjafaaDoor.ue
