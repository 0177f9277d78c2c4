import Derived.Test.YtnjkjmkhpdioaabDoorRows
import Derived.Test.YtnjkjmkhpdioaabDoorA
import Derived.ProofKit
import Derived.LaidMore
import Derived.OpenShut
import Derived.Stop.Joined
import Derived.Lib.LaidTab
namespace Go.Proofs.YtnjkjmkhpdioaabDoor.f
open Go.ChangeShapes Go.WideShapes Go.ChangeAt Go.WideMaps Go.WideElems Go.RowKit
open Go.Proofs.YtnjkjmkhpdioaabDoor.pl Go.Proofs.YtnjkjmkhpdioaabDoor.a

theorem own : ownKnob Tryd.prog.godebug = none := by kernel_rfl
theorem gOnes : Tryd.prog.globalNamed "annals/nums.halfOnes" = some 0 := by kernel_rfl
theorem gTab : Tryd.prog.globalNamed "math/bits.deBruijn64tab" = some 1 := by kernel_rfl
theorem tOnes : (Tryd.prog.globals[0]?).map (·.type) = some 32 := by kernel_rfl
theorem tTab : (Tryd.prog.globals[1]?).map (·.type) = some 33 := by kernel_rfl
theorem c32 : Tryd.prog.cellsOf 32 = 16 := by kernel_rfl
theorem c33 : Tryd.prog.cellsOf 33 = 64 := by kernel_rfl
theorem c3 : Tryd.prog.cellsOf 3 = 1 := by kernel_rfl
theorem c5 : Tryd.prog.cellsOf 5 = 1 := by kernel_rfl

def laid2 : List (String × DataW Unit) := [("math/bits.deBruijn64tab", Rows.laid_math_bits_deBruijn64tab), ("annals/nums.halfOnes", Rows.laid_annals_nums_halfOnes)]

def dbL : List Int := Lib.deBruijn64tab.map fun z : Nat => (z : Int)

theorem dbData : (Rows.laid_math_bits_deBruijn64tab : DataW Unit) = Lib.tabData .u8 dbL := by kernel_rfl
theorem hoData : (Rows.laid_annals_nums_halfOnes : DataW Unit) = Lib.tabData .i64 hoL := by kernel_rfl

theorem of_laid {W : World} (h : laidMetH Tryd.prog laid2 W) : TabH W ∧ TabB W := by
  rw [MakeChecks.laidMetH_plain _ _ _ (by kernel_rfl)] at h
  obtain ⟨ps, ⟨g1, t1, cs1, f1, p1, q1, hg1, ht1, hv1, hd1, ⟨g0, t0, cs0, f0, p0, q0, hg0, ht0, hv0, hd0, _, _⟩, _⟩, _, _⟩ := h
  obtain rfl := Option.some.inj (gTab.symm.trans hg1)
  obtain rfl := Option.some.inj (gOnes.symm.trans hg0)
  obtain rfl := Option.some.inj (tTab.symm.trans ht1)
  obtain rfl := Option.some.inj (tOnes.symm.trans ht0)
  rw [dbData] at hd1
  rw [hoData] at hd0
  have e1 := Lib.cells_of_tab Tryd.underlying33 Tryd.underlying5 c5 c33 hd1
  have e0 := Lib.cells_of_tab Tryd.underlying32 Tryd.underlying3 c3 c32 hd0
  refine ⟨fun j hj => ?_, fun j hj => ?_⟩
  · have hl : hoL.length = 16 := rfl
    have hc := World.var?_cell hg0 hv0 j
    rw [hc, ← Array.getElem?_toList, e0]
    simp [List.getD, List.getElem?_eq_getElem (show j < hoL.length by omega)]
  · have hl : Lib.deBruijn64tab.length = 64 := rfl
    have hc := World.var?_cell hg1 hv1 j
    rw [hc, ← Array.getElem?_toList, e1]
    unfold dbL
    simp [List.getD, List.getElem?_eq_getElem (show j < Lib.deBruijn64tab.length by omega)]

theorem door_met (os : Os) (args : Array Value) : laidMetH Tryd.prog laid2 ((World.doorLaid Tryd.prog 400 os).forCall (fun _ _ => 0) ⟨#[], args, []⟩).memory :=
  laidMetH_of_parts3 (fuel := 8) (laidMet_of_run' 8 (by kernel_rfl) (by kernel_rfl)) (by kernel_rfl) (by kernel_rfl)
end Go.Proofs.YtnjkjmkhpdioaabDoor.f
