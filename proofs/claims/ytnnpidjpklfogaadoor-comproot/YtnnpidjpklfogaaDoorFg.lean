import Derived.Test.YtnnpidjpklfogaaDoorFt
import Derived.Test.YtnnpidjpklfogaaDoorFu
import Derived.Test.YtnnpidjpklfogaaDoorFe
namespace Go.Proofs.YtnnpidjpklfogaaDoor.fg
open Go.ChangeShapes Go.WideShapes Go.ChangeAt Go.WideMaps Go.WideElems Go.RowKit
open Go.Proofs.YtnnpidjpklfogaaDoor.pl Go.Proofs.YtnnpidjpklfogaaDoor.ft Go.Proofs.YtnnpidjpklfogaaDoor.fu Go.Proofs.YtnnpidjpklfogaaDoor.fe Go.Proofs.YtnnpidjpklfogaaDoor.xc

def laid5 : List (String × DataW Unit) := [("annals/annalsref2.first", Rows.laid_annals_annalsref2_first), ("annals/annalsref2.table", Rows.laid_annals_annalsref2_table), ("math/bits.deBruijn64tab", Rows.laid_math_bits_deBruijn64tab), ("annals/sha.starts", Rows.laid_annals_sha_starts), ("annals/sha.rounds", Rows.laid_annals_sha_rounds)]
theorem of_laid5 {W : World} (h : laidMetH Tryd.prog laid5 W) : St8 W 3 ∧ K64 W 6 ∧ TabB W ∧ St8 W 2 ∧ K64 W 4 := by
  rw [MakeChecks.laidMetH_plain _ _ _ (by kernel_rfl)] at h
  obtain ⟨ps, ⟨g4, t4, cs4, f4, p4, q4, hg4, ht4, hv4, hd4, ⟨g3, t3, cs3, f3, p3, q3, hg3, ht3, hv3, hd3, ⟨g2, t2, cs2, f2, p2, q2, hg2, ht2, hv2, hd2, ⟨g1, t1, cs1, f1, p1, q1, hg1, ht1, hv1, hd1, ⟨g0, t0, cs0, f0, p0, q0, hg0, ht0, hv0, hd0, _, _⟩, _⟩, _⟩, _⟩, _⟩, _, _⟩ := h
  obtain rfl := Option.some.inj (gF.symm.trans hg4)
  obtain rfl := Option.some.inj (gT.symm.trans hg3)
  obtain rfl := Option.some.inj (gD.symm.trans hg2)
  obtain rfl := Option.some.inj (gS.symm.trans hg1)
  obtain rfl := Option.some.inj (gR.symm.trans hg0)
  obtain rfl := Option.some.inj (tF.symm.trans ht4)
  obtain rfl := Option.some.inj (tT.symm.trans ht3)
  obtain rfl := Option.some.inj (tD.symm.trans ht2)
  obtain rfl := Option.some.inj (tS.symm.trans ht1)
  obtain rfl := Option.some.inj (tR.symm.trans ht0)
  rw [fData] at hd4
  rw [tData] at hd3
  rw [dbData] at hd2
  rw [sData] at hd1
  rw [rData] at hd0
  have e4 := Lib.cells_of_tab Tryd.underlying129 Tryd.underlying122 c1 c8 hd4
  have e3 := Lib.cells_of_tab Tryd.underlying142 Tryd.underlying122 c1 c64 hd3
  have e2 := Lib.cells_of_tab Tryd.underlying102 Tryd.underlying5 cb c64b hd2
  have e1 := Lib.cells_of_tab Tryd.underlying130 Tryd.underlying122 c1 cW hd1
  have e0 := Lib.cells_of_tab Tryd.underlying142 Tryd.underlying122 c1 c64 hd0
  exact ⟨at8 e4 (World.var?_cell hg4 hv4), at64 e3 (World.var?_cell hg3 hv3), atD e2 (World.var?_cell hg2 hv2), at8 e1 (World.var?_cell hg1 hv1), at64 e0 (World.var?_cell hg0 hv0)⟩
theorem door_met5 (os : Os) (args : Array Value) : laidMetH Tryd.prog laid5 ((World.doorLaid Tryd.prog 400 os).forCall (fun _ _ => 0) ⟨#[], args, []⟩).memory :=
  laidMetH_of_parts3 (fuel := 8) (laidMet_of_run' 8 (by kernel_rfl) (by kernel_rfl)) (by kernel_rfl) (by kernel_rfl)
end Go.Proofs.YtnnpidjpklfogaaDoor.fg
