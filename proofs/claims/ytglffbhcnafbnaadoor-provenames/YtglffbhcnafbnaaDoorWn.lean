import Derived.Test.YtglffbhcnafbnaaDoorLn
import Derived.Test.YtglffbhcnafbnaaDoorCv
import Derived.Test.YtglffbhcnafbnaaDoorTb
namespace Go.Proofs.YtglffbhcnafbnaaDoor.wn
open Go.RowKit Go.PlainAid
open Go.Proofs.YtglffbhcnafbnaaDoor.pl Go.Proofs.YtglffbhcnafbnaaDoor.ft Go.Proofs.YtglffbhcnafbnaaDoor.pj Go.Proofs.YtglffbhcnafbnaaDoor.cp Go.Proofs.YtglffbhcnafbnaaDoor.xc Go.Proofs.YtglffbhcnafbnaaDoor.tb
set_option linter.unusedVariables false

theorem names_call (W : World) (tabs : TabB W ∧ St8 W 4 ∧ K64 W 6) : Calls Tryd.prog 3 #[] W fun e w' => e = .returned (.bool true) ∧ Below W.heap.size W w' := ln.names W
end Go.Proofs.YtglffbhcnafbnaaDoor.wn
