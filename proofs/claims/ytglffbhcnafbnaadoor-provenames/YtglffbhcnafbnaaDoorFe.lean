import Derived.Test.YtglffbhcnafbnaaDoorFt
import Derived.Test.YtglffbhcnafbnaaDoorXc
namespace Go.Proofs.YtglffbhcnafbnaaDoor.fe
open Go.ChangeShapes Go.WideShapes Go.ChangeAt Go.WideMaps Go.WideElems Go.RowKit
open Go.Proofs.YtglffbhcnafbnaaDoor.pl Go.Proofs.YtglffbhcnafbnaaDoor.ft Go.Proofs.YtglffbhcnafbnaaDoor.xc

theorem gD : Tryd.prog.globalNamed "math/bits.deBruijn64tab" = some 3 := by kernel_rfl
theorem tD : (Tryd.prog.globals[3]?).map (·.type) = some 155 := by kernel_rfl
theorem c64b : Tryd.prog.cellsOf 155 = 64 := by kernel_rfl
theorem cb : Tryd.prog.cellsOf 5 = 1 := by kernel_rfl
def laid3 : List (String × DataW Unit) := [("math/bits.deBruijn64tab", Rows.laid_math_bits_deBruijn64tab), ("annals/sha.starts", Rows.laid_annals_sha_starts), ("annals/sha.rounds", Rows.laid_annals_sha_rounds)]
def dbL : List Int := Lib.deBruijn64tab.map fun z : Nat => (z : Int)
theorem dbData : (Rows.laid_math_bits_deBruijn64tab : DataW Unit) = Lib.tabData .u8 dbL := by kernel_rfl
theorem atD {W : World} {cs : Array Value} (e : cs.toList = dbL.map (Value.int .u8)) (hc : ∀ j, W.cell? ⟨3, j, none⟩ = cs[j]?) : TabB W := fun j hj => by
  have hl : Lib.deBruijn64tab.length = 64 := rfl
  rw [hc j, ← Array.getElem?_toList, e]
  unfold dbL
  simp [List.getD, List.getElem?_eq_getElem (show j < Lib.deBruijn64tab.length by omega)]
theorem of_laid3 {W : World} (h : laidMetH Tryd.prog laid3 W) : TabB W ∧ St8 W 4 ∧ K64 W 6 := by
  rw [MakeChecks.laidMetH_plain _ _ _ (by kernel_rfl)] at h
  obtain ⟨ps, ⟨g2, t2, cs2, f2, p2, q2, hg2, ht2, hv2, hd2, ⟨g1, t1, cs1, f1, p1, q1, hg1, ht1, hv1, hd1, ⟨g0, t0, cs0, f0, p0, q0, hg0, ht0, hv0, hd0, _, _⟩, _⟩, _⟩, _, _⟩ := h
  obtain rfl := Option.some.inj (gD.symm.trans hg2)
  obtain rfl := Option.some.inj (gS.symm.trans hg1)
  obtain rfl := Option.some.inj (gR.symm.trans hg0)
  obtain rfl := Option.some.inj (tD.symm.trans ht2)
  obtain rfl := Option.some.inj (tS.symm.trans ht1)
  obtain rfl := Option.some.inj (tR.symm.trans ht0)
  rw [dbData] at hd2
  rw [sData] at hd1
  rw [rData] at hd0
  have e2 := Lib.cells_of_tab Tryd.underlying155 Tryd.underlying5 cb c64b hd2
  have e1 := Lib.cells_of_tab Tryd.underlying156 Tryd.underlying122 c1 cW hd1
  have e0 := Lib.cells_of_tab Tryd.underlying129 Tryd.underlying122 c1 c64 hd0
  exact ⟨atD e2 (World.var?_cell hg2 hv2), at8 e1 (World.var?_cell hg1 hv1), at64 e0 (World.var?_cell hg0 hv0)⟩
theorem door_met3 (os : Os) (args : Array Value) : laidMetH Tryd.prog laid3 ((World.doorLaid Tryd.prog 400 os).forCall (fun _ _ => 0) ⟨#[], args, []⟩).memory :=
  laidMetH_of_parts3 (fuel := 8) (laidMet_of_run' 8 (by kernel_rfl) (by kernel_rfl)) (by kernel_rfl) (by kernel_rfl)
end Go.Proofs.YtglffbhcnafbnaaDoor.fe
