import Derived.Test.YthpfgdhmpeadeaaH1
import Derived.Test.YthpfgdhmpeadeaaH2
import Derived.Test.YthpfgdhmpeadeaaH3
import Derived.Test.YthpfgdhmpeadeaaH4
import Derived.Test.YthpfgdhmpeadeaaH5
import Derived.Test.YthpfgdhmpeadeaaH6
namespace Go.Proofs.Ythpfgdhmpeadeaa.fo
open Go.RowKit Go.PlainAid Go.Shelf
open Go.Proofs.Ythpfgdhmpeadeaa.fi Go.Proofs.Ythpfgdhmpeadeaa.fj Go.Proofs.Ythpfgdhmpeadeaa.fk Go.Proofs.Ythpfgdhmpeadeaa.fl Go.Proofs.Ythpfgdhmpeadeaa.fm Go.Proofs.Ythpfgdhmpeadeaa.fn Go.Proofs.Ythpfgdhmpeadeaa.fh Go.Proofs.Ythpfgdhmpeadeaa.ca Go.Proofs.Ythpfgdhmpeadeaa.cb Go.Proofs.Ythpfgdhmpeadeaa.cp Go.Proofs.Ythpfgdhmpeadeaa.ga Go.Proofs.Ythpfgdhmpeadeaa.kp Go.Proofs.Ythpfgdhmpeadeaa.na Go.Proofs.Ythpfgdhmpeadeaa.nb Go.Proofs.Ythpfgdhmpeadeaa.nc Go.Proofs.Ythpfgdhmpeadeaa.mi Go.Proofs.Ythpfgdhmpeadeaa.co Go.Proofs.Ythpfgdhmpeadeaa.cn Go.Proofs.Ythpfgdhmpeadeaa.df Go.Proofs.Ythpfgdhmpeadeaa.ea Go.Proofs.Ythpfgdhmpeadeaa.eb Go.Proofs.Ythpfgdhmpeadeaa.ec Go.Proofs.Ythpfgdhmpeadeaa.ed Go.Proofs.Ythpfgdhmpeadeaa.ee Go.Proofs.Ythpfgdhmpeadeaa.ef Go.Proofs.Ythpfgdhmpeadeaa.eg Go.Proofs.Ythpfgdhmpeadeaa.eh Go.Proofs.Ythpfgdhmpeadeaa.eo Go.Proofs.Ythpfgdhmpeadeaa.ep Go.Proofs.Ythpfgdhmpeadeaa.eq Go.Proofs.Ythpfgdhmpeadeaa.er Go.Proofs.Ythpfgdhmpeadeaa.es Go.Proofs.Ythpfgdhmpeadeaa.ka Go.Proofs.Ythpfgdhmpeadeaa.bn Go.Proofs.Ythpfgdhmpeadeaa.fa Go.Proofs.Ythpfgdhmpeadeaa.fb Go.Proofs.Ythpfgdhmpeadeaa.fc Go.Proofs.Ythpfgdhmpeadeaa.fg
set_option linter.unusedVariables false

theorem rUnProof (b : ByteArray) (w : World) (hb : b.size ≤ 140737488355328) : Calls Try.prog 16 #[.string b] w (ReadP w (upR b) (pE b)) := by
  by_cases h1 : (dK b).1 < 1
  · exact rUnD1 b w hb h1
  by_cases h2 : 4 < (dK b).1
  · exact rUnD2 b w hb h2
  by_cases h3 : (dK b).1 = 1
  · exact rUnA1 b w hb h3
  by_cases h4 : (dK b).1 = 2
  · exact rUnA2 b w hb h4
  by_cases h5 : (dK b).1 = 3
  · exact rUnB b w hb h5
  exact rUnC b w hb (by omega)
end Go.Proofs.Ythpfgdhmpeadeaa.fo
