import Derived.Test.YthgieagebcjafaaDoorN4
namespace Go.Proofs.YthgieagebcjafaaDoor.n5
open Go.RowKit Go.PlainAid
open Go.Proofs.YthgieagebcjafaaDoor.pl Go.Proofs.YthgieagebcjafaaDoor.ft Go.Proofs.YthgieagebcjafaaDoor.pj Go.Proofs.YthgieagebcjafaaDoor.rf Go.Proofs.YthgieagebcjafaaDoor.mo Go.Proofs.YthgieagebcjafaaDoor.nd Go.Proofs.YthgieagebcjafaaDoor.nh Go.Proofs.YthgieagebcjafaaDoor.n3 Go.Proofs.YthgieagebcjafaaDoor.n4
set_option linter.unusedVariables false
set_option maxRecDepth 4000

theorem build0 (W : World) : (Instr.build 27 #[]).run Tryd.prog W = .ok (.agg #[.string ⟨#[]⟩, .string ⟨#[]⟩]) W := by kernel_rfl
set_option maxHeartbeats 800000 in
theorem law_names (w : World) (tabs : St8 w 2 ∧ K64 w 4) :
    Calls Tryd.prog 3 #[] w fun e w' => e = .returned (.bool true) ∧ Below w.heap.size w w' := by
  have T : Hid (Tab w) := Tab.of tabs
  clear tabs
  have hv : idV ByteArray.empty ByteArray.empty = .tuple #[.string ByteArray.empty, .int .i64 203] := by unfold idV nm; rfl
  have C1 : Hid (Calls Tryd.prog 9 #[.agg #[.string ⟨#[]⟩, .string ⟨#[]⟩]] w fun e w' => e = .returned (idV ByteArray.empty ByteArray.empty) ∧ Below w.heap.size w w') := idC ByteArray.empty ByteArray.empty (by decide) (by decide) w T
  rw [hv] at C1
  go_enter Tryd.func3, Tryd.ntmps3
  go_wp2_with (go_at_call 8; refine (numC _ _).mono ?_; rintro e w3 ⟨rfl, h3⟩; rw [h3]; clear h3 w3)
  refine C1.out.mono ?_
  rintro e w1 ⟨rfl, hb1⟩
  have B1 : Hid (Below w.heap.size w w1) := hb1
  clear hb1
  go_wp2_with (go_at_call 8; refine (numC _ _).mono ?_; rintro e w3 ⟨rfl, h3⟩; rw [h3]; clear h3 w3)
  go_ret
  exact ⟨rfl, B1.out⟩
end Go.Proofs.YthgieagebcjafaaDoor.n5
