import Derived.Test.YtoakkoalkpfkmaaDoorRows
import Derived.Test.YtoakkoalkpfkmaaDoorA3
import Derived.ProofKit
import Derived.LaidMore
import Derived.OpenShut
import Derived.Stop.Joined
import Derived.Lib.LaidTab
import Derived.Stop.LaidErr
namespace Go.Proofs.YtoakkoalkpfkmaaDoor.f9
open Go.ChangeShapes Go.WideShapes Go.ChangeAt Go.WideMaps Go.WideElems Go.RowKit
open Go.Proofs.YtoakkoalkpfkmaaDoor.a3
set_option linter.unusedVariables false

theorem own : ownKnob Tryd.prog.godebug = none := by kernel_rfl
theorem gP : Tryd.prog.globalNamed "internal/strconv.uint64pow10" = some 1 := by kernel_rfl
theorem tP : (Tryd.prog.globals[1]?).map (·.type) = some 100 := by kernel_rfl
theorem c20 : Tryd.prog.cellsOf 100 = 20 := by kernel_rfl
theorem cu1 : Tryd.prog.cellsOf 84 = 1 := by kernel_rfl
def laid3 : List (String × DataW Unit) := [("math/bits.deBruijn32tab", Rows.laid_math_bits_deBruijn32tab), ("math/bits.deBruijn64tab", Rows.laid_math_bits_deBruijn64tab), ("internal/strconv.uint64pow10", Rows.laid_internal_strconv_uint64pow10)]
theorem pData : (Rows.laid_internal_strconv_uint64pow10 : DataW Unit) = Lib.tabData .u64 Lib.pow10Tab := by kernel_rfl
theorem of_laid3 {W : World} (h : laidMetH Tryd.prog laid3 W) : PowT W := by
  rw [MakeChecks.laidMetH_plain _ _ _ (by kernel_rfl)] at h
  have h6 := h.tail.tail
  obtain ⟨psp, ⟨gp, tp, csp, fp, pp, qp, hgp, htp, hvp, hdp, _, _⟩, _, _⟩ := h6
  obtain rfl := Option.some.inj (gP.symm.trans hgp)
  obtain rfl := Option.some.inj (tP.symm.trans htp)
  rw [pData] at hdp
  have ep := Lib.cells_of_tab Tryd.underlying100 Tryd.underlying84 cu1 c20 hdp
  show W.var? Tryd.prog _ = _
  rw [hvp, ← ep]
theorem door_met3 (os : Os) (args : Array Value) : laidMetH Tryd.prog laid3 ((World.doorLaid Tryd.prog 400 os).forCall (fun _ _ => 0) ⟨#[], args, []⟩).memory :=
  laidMetH_of_parts3 (fuel := 8) (laidMet_of_run' 8 (by kernel_rfl) (by kernel_rfl)) (by kernel_rfl) (by kernel_rfl)
end Go.Proofs.YtoakkoalkpfkmaaDoor.f9
