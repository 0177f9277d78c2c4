import Derived.Test.YtmigdhohbjnhcaaDoorRe
import Derived.Test.YtmigdhohbjnhcaaDoorPj
namespace Go.Proofs.YtmigdhohbjnhcaaDoor.rf
open Go.RowKit Go.PlainAid
open Go.Proofs.YtmigdhohbjnhcaaDoor.pl Go.Proofs.YtmigdhohbjnhcaaDoor.pc Go.Proofs.YtmigdhohbjnhcaaDoor.ph Go.Proofs.YtmigdhohbjnhcaaDoor.pi Go.Proofs.YtmigdhohbjnhcaaDoor.ft Go.Proofs.YtmigdhohbjnhcaaDoor.pj Go.Proofs.YtmigdhohbjnhcaaDoor.re
set_option linter.unusedVariables false

structure Tab4 (w : World) : Prop where
  t : Tab w
  ft : FT w v0
  tt : TT w kF
theorem Tab4.of {w : World} (h : St8 w 1 ∧ K64 w 3 ∧ St8 w 0 ∧ K64 w 2) : Tab4 w := ⟨⟨h.1, h.2.1⟩, h.2.2.1, h.2.2.2⟩
theorem Tab4.big {w : World} (h : Tab4 w) : 4 ≤ w.heap.size := by have h1 := tt_lt h.tt; have h2 := h.t.big; omega
theorem Tab4.below {w w' : World} {B : Nat} (h : Tab4 w) (b : Below B w w') (hB : 4 ≤ B) : Tab4 w' := ⟨h.t.below b (by omega), ft_below h.ft b (by omega), tt_below h.tt b (by omega)⟩
theorem Tab4.down {w w' : World} (h : Tab4 w) (b : Below w.heap.size w w') : Tab4 w' := h.below b h.big

theorem RSum (s : ByteArray) (w : World) (hs : s.size ≤ 140737488352256) (T : Tab4 w) :
    Calls Tryd.prog 11 #[.string s] w fun e w' => e = .returned (.string (sha s)) ∧ Below w.heap.size w w' := rsum kF v0 s w v0_ok hs T.ft T.tt

end Go.Proofs.YtmigdhohbjnhcaaDoor.rf
