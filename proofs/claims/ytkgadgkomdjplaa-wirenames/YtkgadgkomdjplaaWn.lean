import Derived.Test.YtkgadgkomdjplaaEg
import Derived.Test.YtkgadgkomdjplaaBn
namespace Go.Proofs.Ytkgadgkomdjplaa.wn
open Go.RowKit Go.PlainAid
open Go.Proofs.Ytkgadgkomdjplaa.ca Go.Proofs.Ytkgadgkomdjplaa.cb Go.Proofs.Ytkgadgkomdjplaa.cp Go.Proofs.Ytkgadgkomdjplaa.ga Go.Proofs.Ytkgadgkomdjplaa.kp Go.Proofs.Ytkgadgkomdjplaa.ea Go.Proofs.Ytkgadgkomdjplaa.eb Go.Proofs.Ytkgadgkomdjplaa.ec Go.Proofs.Ytkgadgkomdjplaa.ee Go.Proofs.Ytkgadgkomdjplaa.ef Go.Proofs.Ytkgadgkomdjplaa.eg Go.Proofs.Ytkgadgkomdjplaa.ka Go.Proofs.Ytkgadgkomdjplaa.bn
set_option linter.unusedVariables false

theorem leavesV_nil : leavesV [] = .tuple #[.string ⟨#[76, 0]⟩, .int .i64 0] := by
  have h : leavesB [] = [76, 0] := by decide +kernel
  unfold leavesV
  rw [show leavesE [] = 0 from rfl, if_pos rfl, h]
set_option maxHeartbeats 1600000 in
theorem wireNames {w : World} : Calls Try.prog 3 #[] w fun e w' => e = .returned (.bool true) ∧ Below w.heap.size w w' := by
  have LC : Hid (Calls _ _ _ _ _) := leavesC (.slice none 0 0) [] w ⟨none, 0, rfl, Nat.le_refl _, .inl rfl⟩ (by decide)
  rw [leavesV_nil] at LC
  go_enter Try.func3, Try.ntmps3
  go_wp2_with (first
    | (go_at_call 10; refine LC.out.mono ?_; rintro _ w1 ⟨rfl, k1⟩; have B1 : Hid (Below w.heap.size w w1) := k1; clear k1)
    | (go_at_call 9; refine (num _ _).mono ?_; rintro _ wz ⟨rfl, hz⟩; rw [hz]; clear hz))
  go_ret
  exact ⟨rfl, B1.out⟩
end Go.Proofs.Ytkgadgkomdjplaa.wn
