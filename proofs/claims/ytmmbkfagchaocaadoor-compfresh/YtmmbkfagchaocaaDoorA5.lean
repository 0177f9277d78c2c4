import Derived.Test.YtmmbkfagchaocaaDoorA1
import Derived.Test.YtmmbkfagchaocaaDoorB1
namespace Go.Proofs.YtmmbkfagchaocaaDoor.fu
open Go.ChangeShapes Go.WideShapes Go.ChangeAt Go.WideMaps Go.WideElems Go.RowKit
open Go.Proofs.YtmmbkfagchaocaaDoor.pl Go.Proofs.YtmmbkfagchaocaaDoor.ft

theorem gF : Tryd.prog.globalNamed "annals/annalsref2.first" = some 0 := by kernel_rfl
theorem gT : Tryd.prog.globalNamed "annals/annalsref2.table" = some 2 := by kernel_rfl
theorem tF : (Tryd.prog.globals[0]?).map (·.type) = some 142 := by kernel_rfl
theorem tT : (Tryd.prog.globals[2]?).map (·.type) = some 149 := by kernel_rfl
theorem c8 : Tryd.prog.cellsOf 142 = 8 := by kernel_rfl

def laid4 : List (String × DataW Unit) := [("annals/annalsref2.first", Rows.laid_annals_annalsref2_first), ("annals/annalsref2.table", Rows.laid_annals_annalsref2_table), ("annals/sha.starts", Rows.laid_annals_sha_starts), ("annals/sha.rounds", Rows.laid_annals_sha_rounds)]

theorem fData : (Rows.laid_annals_annalsref2_first : DataW Unit) = Lib.tabData .u32 v0.list := by kernel_rfl
theorem tData : (Rows.laid_annals_annalsref2_table : DataW Unit) = Lib.tabData .u32 kL := by kernel_rfl

theorem of_laid4 {W : World} (h : laidMetH Tryd.prog laid4 W) : St8 W 3 ∧ K64 W 5 ∧ St8 W 0 ∧ K64 W 2 := by
  rw [MakeChecks.laidMetH_plain _ _ _ (by kernel_rfl)] at h
  obtain ⟨ps, ⟨g3, t3, cs3, f3, p3, q3, hg3, ht3, hv3, hd3, ⟨g2, t2, cs2, f2, p2, q2, hg2, ht2, hv2, hd2, ⟨g1, t1, cs1, f1, p1, q1, hg1, ht1, hv1, hd1, ⟨g0, t0, cs0, f0, p0, q0, hg0, ht0, hv0, hd0, _, _⟩, _⟩, _⟩, _⟩, _, _⟩ := h
  obtain rfl := Option.some.inj (gF.symm.trans hg3)
  obtain rfl := Option.some.inj (gT.symm.trans hg2)
  obtain rfl := Option.some.inj (gS.symm.trans hg1)
  obtain rfl := Option.some.inj (gR.symm.trans hg0)
  obtain rfl := Option.some.inj (tF.symm.trans ht3)
  obtain rfl := Option.some.inj (tT.symm.trans ht2)
  obtain rfl := Option.some.inj (tS.symm.trans ht1)
  obtain rfl := Option.some.inj (tR.symm.trans ht0)
  rw [fData] at hd3
  rw [tData] at hd2
  rw [sData] at hd1
  rw [rData] at hd0
  have e3 := Lib.cells_of_tab Tryd.underlying142 Tryd.underlying141 c1 c8 hd3
  have e2 := Lib.cells_of_tab Tryd.underlying149 Tryd.underlying141 c1 c64 hd2
  have e1 := Lib.cells_of_tab Tryd.underlying171 Tryd.underlying141 c1 cW hd1
  have e0 := Lib.cells_of_tab Tryd.underlying149 Tryd.underlying141 c1 c64 hd0
  exact ⟨at8 e1 (World.var?_cell hg1 hv1), at64 e0 (World.var?_cell hg0 hv0), at8 e3 (World.var?_cell hg3 hv3), at64 e2 (World.var?_cell hg2 hv2)⟩

theorem door_met4 (os : Os) (args : Array Value) : laidMetH Tryd.prog laid4 ((World.doorLaid Tryd.prog 400 os).forCall (fun _ _ => 0) ⟨#[], args, []⟩).memory :=
  laidMetH_of_parts3 (fuel := 8) (laidMet_of_run' 8 (by kernel_rfl) (by kernel_rfl)) (by kernel_rfl) (by kernel_rfl)
end Go.Proofs.YtmmbkfagchaocaaDoor.fu

namespace Go.Proofs.YtmmbkfagchaocaaDoor.fe
open Go.ChangeShapes Go.WideShapes Go.ChangeAt Go.WideMaps Go.WideElems Go.RowKit
open Go.Proofs.YtmmbkfagchaocaaDoor.pl Go.Proofs.YtmmbkfagchaocaaDoor.ft Go.Proofs.YtmmbkfagchaocaaDoor.xc

theorem gD : Tryd.prog.globalNamed "math/bits.deBruijn64tab" = some 1 := by kernel_rfl
theorem tD : (Tryd.prog.globals[1]?).map (·.type) = some 147 := by kernel_rfl
theorem c64b : Tryd.prog.cellsOf 147 = 64 := by kernel_rfl
theorem cb : Tryd.prog.cellsOf 5 = 1 := by kernel_rfl
def laid3 : List (String × DataW Unit) := [("math/bits.deBruijn64tab", Rows.laid_math_bits_deBruijn64tab), ("annals/sha.starts", Rows.laid_annals_sha_starts), ("annals/sha.rounds", Rows.laid_annals_sha_rounds)]
def dbL : List Int := Lib.deBruijn64tab.map fun z : Nat => (z : Int)
theorem dbData : (Rows.laid_math_bits_deBruijn64tab : DataW Unit) = Lib.tabData .u8 dbL := by kernel_rfl
theorem atD {W : World} {cs : Array Value} (e : cs.toList = dbL.map (Value.int .u8)) (hc : ∀ j, W.cell? ⟨1, j, none⟩ = cs[j]?) : TabB W := fun j hj => by
  have hl : Lib.deBruijn64tab.length = 64 := rfl
  rw [hc j, ← Array.getElem?_toList, e]
  unfold dbL
  simp [List.getD, List.getElem?_eq_getElem (show j < Lib.deBruijn64tab.length by omega)]
theorem of_laid3 {W : World} (h : laidMetH Tryd.prog laid3 W) : TabB W ∧ St8 W 3 ∧ K64 W 5 := by
  rw [MakeChecks.laidMetH_plain _ _ _ (by kernel_rfl)] at h
  obtain ⟨ps, ⟨g2, t2, cs2, f2, p2, q2, hg2, ht2, hv2, hd2, ⟨g1, t1, cs1, f1, p1, q1, hg1, ht1, hv1, hd1, ⟨g0, t0, cs0, f0, p0, q0, hg0, ht0, hv0, hd0, _, _⟩, _⟩, _⟩, _, _⟩ := h
  obtain rfl := Option.some.inj (gD.symm.trans hg2)
  obtain rfl := Option.some.inj (gS.symm.trans hg1)
  obtain rfl := Option.some.inj (gR.symm.trans hg0)
  obtain rfl := Option.some.inj (tD.symm.trans ht2)
  obtain rfl := Option.some.inj (tS.symm.trans ht1)
  obtain rfl := Option.some.inj (tR.symm.trans ht0)
  rw [dbData] at hd2
  rw [sData] at hd1
  rw [rData] at hd0
  have e2 := Lib.cells_of_tab Tryd.underlying147 Tryd.underlying5 cb c64b hd2
  have e1 := Lib.cells_of_tab Tryd.underlying171 Tryd.underlying141 c1 cW hd1
  have e0 := Lib.cells_of_tab Tryd.underlying149 Tryd.underlying141 c1 c64 hd0
  exact ⟨atD e2 (World.var?_cell hg2 hv2), at8 e1 (World.var?_cell hg1 hv1), at64 e0 (World.var?_cell hg0 hv0)⟩
theorem door_met3 (os : Os) (args : Array Value) : laidMetH Tryd.prog laid3 ((World.doorLaid Tryd.prog 400 os).forCall (fun _ _ => 0) ⟨#[], args, []⟩).memory :=
  laidMetH_of_parts3 (fuel := 8) (laidMet_of_run' 8 (by kernel_rfl) (by kernel_rfl)) (by kernel_rfl) (by kernel_rfl)
end Go.Proofs.YtmmbkfagchaocaaDoor.fe

namespace Go.Proofs.YtmmbkfagchaocaaDoor.fg
open Go.ChangeShapes Go.WideShapes Go.ChangeAt Go.WideMaps Go.WideElems Go.RowKit
open Go.Proofs.YtmmbkfagchaocaaDoor.pl Go.Proofs.YtmmbkfagchaocaaDoor.ft Go.Proofs.YtmmbkfagchaocaaDoor.fu Go.Proofs.YtmmbkfagchaocaaDoor.fe Go.Proofs.YtmmbkfagchaocaaDoor.xc

def laid5 : List (String × DataW Unit) := [("annals/annalsref2.first", Rows.laid_annals_annalsref2_first), ("annals/annalsref2.table", Rows.laid_annals_annalsref2_table), ("math/bits.deBruijn64tab", Rows.laid_math_bits_deBruijn64tab), ("annals/sha.starts", Rows.laid_annals_sha_starts), ("annals/sha.rounds", Rows.laid_annals_sha_rounds)]
theorem of_laid5 {W : World} (h : laidMetH Tryd.prog laid5 W) : St8 W 0 ∧ K64 W 2 ∧ TabB W ∧ St8 W 3 ∧ K64 W 5 := by
  rw [MakeChecks.laidMetH_plain _ _ _ (by kernel_rfl)] at h
  obtain ⟨ps, ⟨g4, t4, cs4, f4, p4, q4, hg4, ht4, hv4, hd4, ⟨g3, t3, cs3, f3, p3, q3, hg3, ht3, hv3, hd3, ⟨g2, t2, cs2, f2, p2, q2, hg2, ht2, hv2, hd2, ⟨g1, t1, cs1, f1, p1, q1, hg1, ht1, hv1, hd1, ⟨g0, t0, cs0, f0, p0, q0, hg0, ht0, hv0, hd0, _, _⟩, _⟩, _⟩, _⟩, _⟩, _, _⟩ := h
  obtain rfl := Option.some.inj (gF.symm.trans hg4)
  obtain rfl := Option.some.inj (gT.symm.trans hg3)
  obtain rfl := Option.some.inj (gD.symm.trans hg2)
  obtain rfl := Option.some.inj (gS.symm.trans hg1)
  obtain rfl := Option.some.inj (gR.symm.trans hg0)
  obtain rfl := Option.some.inj (tF.symm.trans ht4)
  obtain rfl := Option.some.inj (tT.symm.trans ht3)
  obtain rfl := Option.some.inj (tD.symm.trans ht2)
  obtain rfl := Option.some.inj (tS.symm.trans ht1)
  obtain rfl := Option.some.inj (tR.symm.trans ht0)
  rw [fData] at hd4
  rw [tData] at hd3
  rw [dbData] at hd2
  rw [sData] at hd1
  rw [rData] at hd0
  have e4 := Lib.cells_of_tab Tryd.underlying142 Tryd.underlying141 c1 c8 hd4
  have e3 := Lib.cells_of_tab Tryd.underlying149 Tryd.underlying141 c1 c64 hd3
  have e2 := Lib.cells_of_tab Tryd.underlying147 Tryd.underlying5 cb c64b hd2
  have e1 := Lib.cells_of_tab Tryd.underlying171 Tryd.underlying141 c1 cW hd1
  have e0 := Lib.cells_of_tab Tryd.underlying149 Tryd.underlying141 c1 c64 hd0
  exact ⟨at8 e4 (World.var?_cell hg4 hv4), at64 e3 (World.var?_cell hg3 hv3), atD e2 (World.var?_cell hg2 hv2), at8 e1 (World.var?_cell hg1 hv1), at64 e0 (World.var?_cell hg0 hv0)⟩
theorem door_met5 (os : Os) (args : Array Value) : laidMetH Tryd.prog laid5 ((World.doorLaid Tryd.prog 400 os).forCall (fun _ _ => 0) ⟨#[], args, []⟩).memory :=
  laidMetH_of_parts3 (fuel := 8) (laidMet_of_run' 8 (by kernel_rfl) (by kernel_rfl)) (by kernel_rfl) (by kernel_rfl)
end Go.Proofs.YtmmbkfagchaocaaDoor.fg

namespace Go.Proofs.YtmmbkfagchaocaaDoor.tb
open Go.RowKit Go.PlainAid
open Go.Proofs.YtmmbkfagchaocaaDoor.pl Go.Proofs.YtmmbkfagchaocaaDoor.ft Go.Proofs.YtmmbkfagchaocaaDoor.pj Go.Proofs.YtmmbkfagchaocaaDoor.rf Go.Proofs.YtmmbkfagchaocaaDoor.cp Go.Proofs.YtmmbkfagchaocaaDoor.cv Go.Proofs.YtmmbkfagchaocaaDoor.xc
set_option linter.unusedVariables false

-- the tables that layer 7 asks for: sha's two and bits' one; the document's two besides
structure TB (w : World) : Prop where
  t : Tab w
  d : TabB w
theorem TB.down {w w' : World} (h : TB w) (b : Below w.heap.size w w') : TB w' := ⟨h.t.down b, h.d.later b⟩
structure TB4 (w : World) : Prop where
  t : Tab4 w
  d : TabB w
theorem TB4.down {w w' : World} (h : TB4 w) (b : Below w.heap.size w w') : TB4 w' := ⟨h.t.down b, h.d.later b⟩
theorem TB4.tb {w : World} (h : TB4 w) : TB w := ⟨h.t.t, h.d⟩
theorem TB.of {w : World} (h : TabB w ∧ St8 w 3 ∧ K64 w 5) : TB w := ⟨Tab.of ⟨h.2.1, h.2.2⟩, h.1⟩
theorem TB4.of {w : World} (h : St8 w 0 ∧ K64 w 2 ∧ TabB w ∧ St8 w 3 ∧ K64 w 5) : TB4 w := ⟨Tab4.of ⟨h.2.2.2.1, h.2.2.2.2, h.1, h.2.1⟩, h.2.2.1⟩
end Go.Proofs.YtmmbkfagchaocaaDoor.tb
