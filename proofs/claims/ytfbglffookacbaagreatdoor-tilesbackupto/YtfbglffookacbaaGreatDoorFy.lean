import Derived.Test.YtfbglffookacbaaGreatDoorRows
import Derived.Test.YtfbglffookacbaaGreatDoorWb
import Derived.ProofKit
import Derived.LaidMore
import Derived.OpenShut
import Derived.Stop.Joined
import Derived.Stop.LaidErr
import Derived.Lib.LaidTab
namespace Go.Proofs.YtfbglffookacbaaGreatDoor.fy
open Go.ChangeShapes Go.WideShapes Go.ChangeAt Go.WideMaps Go.WideElems Go.RowKit
open Go.Proofs.YtfbglffookacbaaGreatDoor.wb
set_option linter.unusedVariables false
set_option maxRecDepth 4000

theorem gP : Tryz.prog.globalNamed "internal/strconv.uint64pow10" = some 1 := by kernel_rfl
theorem gES : Tryz.prog.globalNamed "strconv.ErrSyntax" = some 2 := by kernel_rfl
theorem gER : Tryz.prog.globalNamed "strconv.ErrRange" = some 3 := by kernel_rfl
theorem tP : (Tryz.prog.globals[1]?).map (·.type) = some 104 := by kernel_rfl
theorem tES : (Tryz.prog.globals[2]?).map (·.type) = some 56 := by kernel_rfl
theorem tER : (Tryz.prog.globals[3]?).map (·.type) = some 56 := by kernel_rfl
theorem c20 : Tryz.prog.cellsOf 104 = 20 := by kernel_rfl
theorem cu1 : Tryz.prog.cellsOf 78 = 1 := by kernel_rfl
theorem cE : Tryz.prog.cellsOf 150 = 1 := by kernel_rfl
theorem cS : Tryz.prog.cellsOf 9 = 1 := by kernel_rfl
theorem star : "*errors.errorString" = "*" ++ "errors.errorString" := by decide
theorem rowE (u : TypeId) (h : Tryz.prog.typeName? 3 u = some "*errors.errorString") : u = 148 :=
  typeName_ptr_named (nm := "errors.errorString") (by rw [← star]; kernel_rfl) (by kernel_rfl) (by decide) u (by rw [← star]; exact h)

def laidP : List (String × DataW Unit) := [("math/bits.deBruijn32tab", Rows.laid_math_bits_deBruijn32tab), ("math/bits.deBruijn64tab", Rows.laid_math_bits_deBruijn64tab), ("internal/strconv.uint64pow10", Rows.laid_internal_strconv_uint64pow10), ("unicode/utf8.acceptRanges", Rows.laid_unicode_utf8_acceptRanges), ("strconv.ErrRange", Rows.laid_strconv_ErrRange), ("strconv.ErrSyntax", Rows.laid_strconv_ErrSyntax), ("unicode/utf8.first", Rows.laid_unicode_utf8_first)]
theorem pData : (Rows.laid_internal_strconv_uint64pow10 : DataW Unit) = Lib.tabData .u64 Lib.pow10Tab := by kernel_rfl
theorem of_laidP {W : World} (h : laidMetH Tryz.prog laidP W) : NumW W := by
  rw [MakeChecks.laidMetH_plain _ _ _ (by kernel_rfl)] at h
  have h3 := h.tail.tail
  have h4 := h3.tail.tail
  have h5 := h4.tail
  have HN : NumW W := by
    obtain ⟨a1, s1, v1, _⟩ := laid_sentinel h4 gER tER Tryz.underlying56 rowE Tryz.underlying148 Tryz.underlying150 rfl rfl Tryz.underlying9 cE cS
    obtain ⟨a0, s0, v0, _⟩ := laid_sentinel h5 gES tES Tryz.underlying56 rowE Tryz.underlying148 Tryz.underlying150 rfl rfl Tryz.underlying9 cE cS
    refine ⟨?_, ⟨_, _, v0⟩, ⟨_, _, v1⟩⟩
    obtain ⟨ps, ⟨g1, t1, cs1, f1, p1, q1, hg1, ht1, hv1, hd1, _, _⟩, _, _⟩ := h3
    obtain rfl := Option.some.inj (gP.symm.trans hg1)
    obtain rfl := Option.some.inj (tP.symm.trans ht1)
    rw [pData] at hd1
    have e1 := Lib.cells_of_tab Tryz.underlying104 Tryz.underlying78 cu1 c20 hd1
    show W.var? Tryz.prog _ = _
    rw [hv1, ← e1]
  exact HN
end Go.Proofs.YtfbglffookacbaaGreatDoor.fy
