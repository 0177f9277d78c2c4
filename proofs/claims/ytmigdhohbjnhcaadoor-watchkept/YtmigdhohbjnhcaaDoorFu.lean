import Derived.Test.YtmigdhohbjnhcaaDoorFt
namespace Go.Proofs.YtmigdhohbjnhcaaDoor.fu
open Go.ChangeShapes Go.WideShapes Go.ChangeAt Go.WideMaps Go.WideElems Go.RowKit
open Go.Proofs.YtmigdhohbjnhcaaDoor.pl Go.Proofs.YtmigdhohbjnhcaaDoor.ft

theorem gF : Tryd.prog.globalNamed "annals/annalsref2.first" = some 0 := by kernel_rfl
theorem gT : Tryd.prog.globalNamed "annals/annalsref2.table" = some 2 := by kernel_rfl
theorem tF : (Tryd.prog.globals[0]?).map (·.type) = some 51 := by kernel_rfl
theorem tT : (Tryd.prog.globals[2]?).map (·.type) = some 64 := by kernel_rfl
theorem c8 : Tryd.prog.cellsOf 51 = 8 := by kernel_rfl

def laid4 : List (String × DataW Unit) := [("annals/annalsref2.first", Rows.laid_annals_annalsref2_first), ("annals/annalsref2.table", Rows.laid_annals_annalsref2_table), ("annals/sha.starts", Rows.laid_annals_sha_starts), ("annals/sha.rounds", Rows.laid_annals_sha_rounds)]

theorem fData : (Rows.laid_annals_annalsref2_first : DataW Unit) = Lib.tabData .u32 v0.list := by kernel_rfl
theorem tData : (Rows.laid_annals_annalsref2_table : DataW Unit) = Lib.tabData .u32 kL := by kernel_rfl

theorem of_laid4 {W : World} (h : laidMetH Tryd.prog laid4 W) : St8 W 1 ∧ K64 W 3 ∧ St8 W 0 ∧ K64 W 2 := by
  rw [MakeChecks.laidMetH_plain _ _ _ (by kernel_rfl)] at h
  obtain ⟨ps, ⟨g3, t3, cs3, f3, p3, q3, hg3, ht3, hv3, hd3, ⟨g2, t2, cs2, f2, p2, q2, hg2, ht2, hv2, hd2, ⟨g1, t1, cs1, f1, p1, q1, hg1, ht1, hv1, hd1, ⟨g0, t0, cs0, f0, p0, q0, hg0, ht0, hv0, hd0, _, _⟩, _⟩, _⟩, _⟩, _, _⟩ := h
  obtain rfl := Option.some.inj (gF.symm.trans hg3)
  obtain rfl := Option.some.inj (gT.symm.trans hg2)
  obtain rfl := Option.some.inj (gS.symm.trans hg1)
  obtain rfl := Option.some.inj (gR.symm.trans hg0)
  obtain rfl := Option.some.inj (tF.symm.trans ht3)
  obtain rfl := Option.some.inj (tT.symm.trans ht2)
  obtain rfl := Option.some.inj (tS.symm.trans ht1)
  obtain rfl := Option.some.inj (tR.symm.trans ht0)
  rw [fData] at hd3
  rw [tData] at hd2
  rw [sData] at hd1
  rw [rData] at hd0
  have e3 := Lib.cells_of_tab Tryd.underlying51 Tryd.underlying50 c1 c8 hd3
  have e2 := Lib.cells_of_tab Tryd.underlying64 Tryd.underlying50 c1 c64 hd2
  have e1 := Lib.cells_of_tab Tryd.underlying55 Tryd.underlying50 c1 cW hd1
  have e0 := Lib.cells_of_tab Tryd.underlying64 Tryd.underlying50 c1 c64 hd0
  exact ⟨at8 e1 (World.var?_cell hg1 hv1), at64 e0 (World.var?_cell hg0 hv0), at8 e3 (World.var?_cell hg3 hv3), at64 e2 (World.var?_cell hg2 hv2)⟩

theorem door_met4 (os : Os) (args : Array Value) : laidMetH Tryd.prog laid4 ((World.doorLaid Tryd.prog 400 os).forCall (fun _ _ => 0) ⟨#[], args, []⟩).memory :=
  laidMetH_of_parts3 (fuel := 8) (laidMet_of_run' 8 (by kernel_rfl) (by kernel_rfl)) (by kernel_rfl) (by kernel_rfl)
end Go.Proofs.YtmigdhohbjnhcaaDoor.fu
