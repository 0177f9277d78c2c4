import Derived.Test.YtmldkecaghokeaaDoorV1
import Derived.Test.YtmldkecaghokeaaDoorFu
import Derived.Lib.LaidTab
import Derived.Stop.LaidErr
import Derived.Stop.Joined
namespace Go.Proofs.YtmldkecaghokeaaDoor.f7
open Go.ChangeShapes Go.WideShapes Go.ChangeAt Go.WideMaps Go.WideElems Go.RowKit
open Go.Proofs.YtmldkecaghokeaaDoor.ft Go.Proofs.YtmldkecaghokeaaDoor.fu Go.Proofs.YtmldkecaghokeaaDoor.u1
set_option linter.unusedVariables false
set_option maxRecDepth 4000

theorem gP : Tryd.prog.globalNamed "internal/strconv.uint64pow10" = some 5 := by kernel_rfl
theorem tP : (Tryd.prog.globals[5]?).map (·.type) = some 92 := by kernel_rfl
theorem c20 : Tryd.prog.cellsOf 92 = 20 := by kernel_rfl
theorem cu1 : Tryd.prog.cellsOf 64 = 1 := by kernel_rfl
def laid7 : List (String × DataW Unit) := [("annals/annalsref2.first", Rows.laid_annals_annalsref2_first), ("annals/annalsref2.table", Rows.laid_annals_annalsref2_table), ("math/bits.deBruijn32tab", Rows.laid_math_bits_deBruijn32tab), ("math/bits.deBruijn64tab", Rows.laid_math_bits_deBruijn64tab), ("annals/sha.starts", Rows.laid_annals_sha_starts), ("annals/sha.rounds", Rows.laid_annals_sha_rounds), ("internal/strconv.uint64pow10", Rows.laid_internal_strconv_uint64pow10)]
theorem pData : (Rows.laid_internal_strconv_uint64pow10 : DataW Unit) = Lib.tabData .u64 Lib.pow10Tab := by kernel_rfl
theorem of_laid7 {W : World} (h : laidMetH Tryd.prog laid7 W) : (St8 W 1 ∧ K64 W 3 ∧ St8 W 0 ∧ K64 W 2) ∧ PowT W := by
  rw [MakeChecks.laidMetH_plain _ _ _ (by kernel_rfl)] at h
  have h1 := h.tail
  have h4 := h1.tail.tail.tail
  have h5 := h4.tail
  have h6 := h5.tail
  obtain ⟨ps3, ⟨g3, t3, cs3, f3, p3, q3, hg3, ht3, hv3, hd3, _, _⟩, _, _⟩ := h
  obtain ⟨ps2, ⟨g2, t2, cs2, f2, p2, q2, hg2, ht2, hv2, hd2, _, _⟩, _, _⟩ := h1
  obtain ⟨psb, ⟨gb, tb, csb, fb, pb, qb, hgb, htb, hvb, hdb, _, _⟩, _, _⟩ := h4
  obtain ⟨psa, ⟨ga, ta, csa, fa, pa, qa, hga, hta, hva, hda, _, _⟩, _, _⟩ := h5
  obtain ⟨psp, ⟨gp, tp, csp, fp, pp, qp, hgp, htp, hvp, hdp, _, _⟩, _, _⟩ := h6
  obtain rfl := Option.some.inj (gF.symm.trans hg3)
  obtain rfl := Option.some.inj (gT.symm.trans hg2)
  obtain rfl := Option.some.inj (gS.symm.trans hgb)
  obtain rfl := Option.some.inj (gR.symm.trans hga)
  obtain rfl := Option.some.inj (gP.symm.trans hgp)
  obtain rfl := Option.some.inj (tF.symm.trans ht3)
  obtain rfl := Option.some.inj (tT.symm.trans ht2)
  obtain rfl := Option.some.inj (tS.symm.trans htb)
  obtain rfl := Option.some.inj (tR.symm.trans hta)
  obtain rfl := Option.some.inj (tP.symm.trans htp)
  rw [fData] at hd3
  rw [tData] at hd2
  rw [sData] at hdb
  rw [rData] at hda
  rw [pData] at hdp
  have e3 := Lib.cells_of_tab Tryd.underlying41 Tryd.underlying40 c1 c8 hd3
  have e2 := Lib.cells_of_tab Tryd.underlying65 Tryd.underlying40 c1 c64 hd2
  have e1 := Lib.cells_of_tab Tryd.underlying46 Tryd.underlying40 c1 cW hdb
  have e0 := Lib.cells_of_tab Tryd.underlying65 Tryd.underlying40 c1 c64 hda
  have ep := Lib.cells_of_tab Tryd.underlying92 Tryd.underlying64 cu1 c20 hdp
  refine ⟨⟨at8 e1 (World.var?_cell hgb hvb), at64 e0 (World.var?_cell hga hva), at8 e3 (World.var?_cell hg3 hv3), at64 e2 (World.var?_cell hg2 hv2)⟩, ?_⟩
  show W.var? Tryd.prog _ = _
  rw [hvp, ← ep]
end Go.Proofs.YtmldkecaghokeaaDoor.f7
