import Derived.Test.YtmigdhohbjnhcaaDoorCp
namespace Go.Proofs.YtmigdhohbjnhcaaDoor.cv
open Go.RowKit Go.PlainAid
open Go.Proofs.YtmigdhohbjnhcaaDoor.cp
theorem fits64 (a : Int) (h : (Lit.int .i64 a).wf = true) : -9223372036854775808 ≤ a ∧ a ≤ 9223372036854775807 := by
  simp only [Lit.wf, Bool.and_eq_true, decide_eq_true_eq] at h
  obtain ⟨h1, h2⟩ := h
  have e1 : IntKind.i64.min = -9223372036854775808 := by decide
  have e2 : IntKind.i64.max = 9223372036854775807 := by decide
  omega
set_option maxRecDepth 100000 in
theorem i64_of {a : Int} (h : (Lit.int .i64 a).wf = true) : i64 a := fits64 a h
end Go.Proofs.YtmigdhohbjnhcaaDoor.cv
