import Derived.Test.YtpbapaghcabehaaDoorRows
import Derived.Test.YtpbapaghcabehaaDoorWb
import Derived.ProofKit
import Derived.LaidMore
import Derived.OpenShut
import Derived.Stop.Joined
import Derived.Stop.LaidErr
import Derived.Lib.LaidTab
namespace Go.Proofs.YtpbapaghcabehaaDoor.fn
open Go.ChangeShapes Go.WideShapes Go.ChangeAt Go.WideMaps Go.WideElems Go.RowKit
open Go.Proofs.YtpbapaghcabehaaDoor.wb
set_option linter.unusedVariables false

theorem own : ownKnob Tryd.prog.godebug = none := by kernel_rfl
theorem gP : Tryd.prog.globalNamed "internal/strconv.uint64pow10" = some 1 := by kernel_rfl
theorem gES : Tryd.prog.globalNamed "strconv.ErrSyntax" = some 2 := by kernel_rfl
theorem gER : Tryd.prog.globalNamed "strconv.ErrRange" = some 3 := by kernel_rfl
theorem tP : (Tryd.prog.globals[1]?).map (·.type) = some 101 := by kernel_rfl
theorem tES : (Tryd.prog.globals[2]?).map (·.type) = some 43 := by kernel_rfl
theorem tER : (Tryd.prog.globals[3]?).map (·.type) = some 43 := by kernel_rfl
theorem c20 : Tryd.prog.cellsOf 101 = 20 := by kernel_rfl
theorem c1 : Tryd.prog.cellsOf 87 = 1 := by kernel_rfl
theorem cE : Tryd.prog.cellsOf 117 = 1 := by kernel_rfl
theorem cS : Tryd.prog.cellsOf 9 = 1 := by kernel_rfl
theorem star : "*errors.errorString" = "*" ++ "errors.errorString" := by decide
theorem rowE (u : TypeId) (h : Tryd.prog.typeName? 3 u = some "*errors.errorString") : u = 115 :=
  typeName_ptr_named (nm := "errors.errorString") (by rw [← star]; kernel_rfl) (by kernel_rfl) (by decide) u (by rw [← star]; exact h)

def laid5 : List (String × DataW Unit) := [("math/bits.deBruijn32tab", Rows.laid_math_bits_deBruijn32tab), ("math/bits.deBruijn64tab", Rows.laid_math_bits_deBruijn64tab), ("internal/strconv.uint64pow10", Rows.laid_internal_strconv_uint64pow10), ("strconv.ErrRange", Rows.laid_strconv_ErrRange), ("strconv.ErrSyntax", Rows.laid_strconv_ErrSyntax)]
theorem pData : (Rows.laid_internal_strconv_uint64pow10 : DataW Unit) = Lib.tabData .u64 Lib.pow10Tab := by kernel_rfl

theorem of_laid5 {W : World} (h : laidMetH Tryd.prog laid5 W) : NumW W := by
  rw [MakeChecks.laidMetH_plain _ _ _ (by kernel_rfl)] at h
  have h3 := h.tail.tail
  have h4 := h3.tail
  have h5 := h4.tail
  obtain ⟨a1, s1, v1, _⟩ := laid_sentinel h4 gER tER Tryd.underlying43 rowE Tryd.underlying115 Tryd.underlying117 rfl rfl Tryd.underlying9 cE cS
  obtain ⟨a0, s0, v0, _⟩ := laid_sentinel h5 gES tES Tryd.underlying43 rowE Tryd.underlying115 Tryd.underlying117 rfl rfl Tryd.underlying9 cE cS
  refine ⟨?_, ⟨_, _, v0⟩, ⟨_, _, v1⟩⟩
  obtain ⟨ps, ⟨g1, t1, cs1, f1, p1, q1, hg1, ht1, hv1, hd1, _, _⟩, _, _⟩ := h3
  obtain rfl := Option.some.inj (gP.symm.trans hg1)
  obtain rfl := Option.some.inj (tP.symm.trans ht1)
  rw [pData] at hd1
  have e1 := Lib.cells_of_tab Tryd.underlying101 Tryd.underlying87 c1 c20 hd1
  show W.var? Tryd.prog _ = _
  rw [hv1, ← e1]

set_option maxRecDepth 100000 in
theorem door_met5 (os : Os) (args : Array Value) : laidMetH Tryd.prog laid5 ((World.doorLaid Tryd.prog 4000 os).forCall (fun _ _ => 0) ⟨#[], args, []⟩).memory :=
  laidMetH_of_parts3 (fuel := 8) (laidMet_of_run' 8 (by kernel_rfl) (by kernel_rfl)) (by kernel_rfl) (by kernel_rfl)
end Go.Proofs.YtpbapaghcabehaaDoor.fn
