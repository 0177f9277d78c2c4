import Derived.Test.YtgbachojkbfeoabDoorRe
import Derived.Test.YtgbachojkbfeoabDoorPj
namespace Go.Proofs.YtgbachojkbfeoabDoor.rf
open Go.RowKit Go.PlainAid
open Go.Proofs.YtgbachojkbfeoabDoor.pl Go.Proofs.YtgbachojkbfeoabDoor.pc Go.Proofs.YtgbachojkbfeoabDoor.ph Go.Proofs.YtgbachojkbfeoabDoor.pi Go.Proofs.YtgbachojkbfeoabDoor.ft Go.Proofs.YtgbachojkbfeoabDoor.pj Go.Proofs.YtgbachojkbfeoabDoor.re
set_option linter.unusedVariables false

structure Tab4 (w : World) : Prop where
  t : Tab w
  ft : FT w v0
  tt : TT w kF
theorem Tab4.of {w : World} (h : St8 w 0 ∧ K64 w 2 ∧ St8 w 1 ∧ K64 w 3) : Tab4 w := ⟨⟨h.1, h.2.1⟩, h.2.2.1, h.2.2.2⟩
theorem Tab4.big {w : World} (h : Tab4 w) : 4 ≤ w.heap.size := tt_lt h.tt
theorem Tab4.below {w w' : World} {B : Nat} (h : Tab4 w) (b : Below B w w') (hB : 4 ≤ B) : Tab4 w' := ⟨h.t.below b (by omega), ft_below h.ft b (by omega), tt_below h.tt b (by omega)⟩
theorem Tab4.down {w w' : World} (h : Tab4 w) (b : Below w.heap.size w w') : Tab4 w' := h.below b h.big

theorem RSum (s : ByteArray) (w : World) (hs : s.size ≤ 140737488351232) (T : Tab4 w) :
    Calls Tryd.prog 21 #[.string s] w fun e w' => e = .returned (.string (sha s)) ∧ Below w.heap.size w w' := rsum kF v0 s w v0_ok hs T.ft T.tt

end Go.Proofs.YtgbachojkbfeoabDoor.rf
