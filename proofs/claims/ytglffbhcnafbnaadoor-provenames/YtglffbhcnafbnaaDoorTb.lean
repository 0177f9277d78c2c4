import Derived.Test.YtglffbhcnafbnaaDoorRf
import Derived.Test.YtglffbhcnafbnaaDoorXc
import Derived.Test.YtglffbhcnafbnaaDoorCv
namespace Go.Proofs.YtglffbhcnafbnaaDoor.tb
open Go.RowKit Go.PlainAid
open Go.Proofs.YtglffbhcnafbnaaDoor.pl Go.Proofs.YtglffbhcnafbnaaDoor.ft Go.Proofs.YtglffbhcnafbnaaDoor.pj Go.Proofs.YtglffbhcnafbnaaDoor.rf Go.Proofs.YtglffbhcnafbnaaDoor.cp Go.Proofs.YtglffbhcnafbnaaDoor.cv Go.Proofs.YtglffbhcnafbnaaDoor.xc
set_option linter.unusedVariables false

-- the tables that layer 7 asks for: sha's two and bits' one; the document's two besides
structure TB (w : World) : Prop where
  t : Tab w
  d : TabB w
theorem TB.down {w w' : World} (h : TB w) (b : Below w.heap.size w w') : TB w' := ⟨h.t.down b, h.d.later b⟩
structure TB4 (w : World) : Prop where
  t : Tab4 w
  d : TabB w
theorem TB4.down {w w' : World} (h : TB4 w) (b : Below w.heap.size w w') : TB4 w' := ⟨h.t.down b, h.d.later b⟩
theorem TB4.tb {w : World} (h : TB4 w) : TB w := ⟨h.t.t, h.d⟩
theorem TB.of {w : World} (h : TabB w ∧ St8 w 4 ∧ K64 w 6) : TB w := ⟨Tab.of ⟨h.2.1, h.2.2⟩, h.1⟩
theorem TB4.of {w : World} (h : St8 w 0 ∧ K64 w 1 ∧ TabB w ∧ St8 w 4 ∧ K64 w 6) : TB4 w := ⟨Tab4.of ⟨h.2.2.2.1, h.2.2.2.2, h.1, h.2.1⟩, h.2.2.1⟩
end Go.Proofs.YtglffbhcnafbnaaDoor.tb
