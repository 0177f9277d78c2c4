import Derived.Test.YtnjkjmkhpdioaabPutsR
import Derived.Test.YtnjkjmkhpdioaabRows
import Derived.WalkKit
import Derived.ProofKit
import Derived.OpenShut
import Derived.ShutString
import Derived.Below
namespace Go.Proofs.Ytnjkjmkhpdioaab.numsPuts
open Go.ChangeShapes Go.WideShapes Go.ChangeAt Go.RowKit
open Go.ChangeMaps (open_string shut_string)
set_option linter.unusedVariables false

theorem own : ownKnob Try.prog.godebug = none := by kernel_rfl

theorem grown_trans {a b c : World} (h : Grown a b) (g : Grown b c) : Grown a c :=
  ⟨World.keptBut_trans h.1 g.1, fun x => (g.2.1 x).trans (h.2.1 x), Nat.le_trans h.2.2 g.2.2⟩

open Go.Proofs.Ytnjkjmkhpdioaab.plain Go.Proofs.Ytnjkjmkhpdioaab.rowb Go.Proofs.Ytnjkjmkhpdioaab.putbe Go.Proofs.Ytnjkjmkhpdioaab.putsr in
theorem be_both (v n : Int) (v0 : 0 ≤ v) (v1 : v ≤ 18446744073709551615) : ∃ (s : ByteArray) (c : Int),
    (∀ w, Calls Try.prog 4 #[.int .u64 v, .int .i64 n] w fun e w' => e = .returned (.tuple #[.string s, .int .i64 c]) ∧ Grown w w') ∧
    (∀ w, Calls Try.prog 5 #[.int .u64 v, .int .i64 n] w fun e w' => e = .returned (.tuple #[.string s, .int .i64 c]) ∧ Grown w w') := by
  by_cases h : n < 1 ∨ 8 < n
  · refine ⟨ByteArray.empty, 10, fun w => (put_range v n w h).mono ?_, fun w => (rput_range v n w h).mono ?_⟩
    · rintro e w' ⟨rfl, rfl⟩
      exact ⟨rfl, Grown.refl _⟩
    · rintro e w' ⟨rfl, rfl⟩
      exact ⟨rfl, Grown.refl _⟩
  · obtain ⟨k, rfl⟩ := Int.eq_ofNat_of_zero_le (show 0 ≤ n by omega)
    by_cases hz : v / 256 ^ k = 0
    · refine ⟨str (lowB v k), 0, fun w => (put_any v k w (by omega) (by omega) hz).mono ?_, fun w => rput_any v k w v0 v1 (by omega) (by omega) _ _ (.inl ⟨hz, rfl, rfl⟩)⟩
      rintro e w' ⟨rfl, rfl⟩
      exact ⟨rfl, (Grown.refl _).alloc _ _⟩
    · refine ⟨ByteArray.empty, 11, fun w => (put_over v k w (by omega) (by omega) hz).mono ?_, fun w => rput_any v k w v0 v1 (by omega) (by omega) _ _ (.inr ⟨hz, rfl, rfl⟩)⟩
      rintro e w' ⟨rfl, rfl⟩
      exact ⟨rfl, Grown.refl _⟩

open Go.Proofs.Ytnjkjmkhpdioaab.plain Go.Proofs.Ytnjkjmkhpdioaab.rowb Go.Proofs.Ytnjkjmkhpdioaab.varp Go.Proofs.Ytnjkjmkhpdioaab.putvar Go.Proofs.Ytnjkjmkhpdioaab.putsr in
theorem walk (a0 : Int) (a1 : Int) (w0 : (Lit.int .u64 a0).wf = true) (w1 : (Lit.int .i64 a1).wf = true) (w : World) :
    Calls Try.prog 3 #[.int .u64 a0, .int .i64 a1] w fun e w' => e = .returned (.bool true) ∧ Grown w w' := by
  have k0 := bounds_u64 w0
  obtain ⟨s, c, s1, s2⟩ := be_both a0 a1 k0.1 k0.2
  obtain ⟨m, hw, p1⟩ := pv_any a0 k0.1 k0.2
  have p2 := fun w => rpv_any a0 m w k0.1 k0.2 hw.1 hw.2.1 hw
  generalize str (putL a0 m) = t at *
  have S1 : Hid _ := s1
  have S2 : Hid _ := s2
  have P1 : Hid _ := p1
  have P2 : Hid _ := p2
  clear s1 s2 p1 p2 hw
  go_enter Try.func3, Try.ntmps3
  go_wp2_with fail
  refine (S1.out _).mono ?_
  rintro e w1 ⟨rfl, g1⟩
  have G1 : Hid (Grown _ _) := g1
  clear g1
  go_wp2_with fail
  refine (S2.out _).mono ?_
  rintro e w2 ⟨rfl, g2⟩
  have G2 : Hid (Grown _ _) := grown_trans G1.out g2
  clear g2
  go_wp2_with fail
  refine (P1.out _).mono ?_
  rintro e w3 ⟨rfl, rfl⟩
  go_wp2_with fail
  refine (P2.out _).mono ?_
  rintro e w4 ⟨rfl, g4⟩
  have G4 : Hid (Grown _ _) := grown_trans (G2.out.alloc _ _) g4
  clear g4
  go_wp2
  go_ret
  exact ⟨by simp, G4.out⟩

set_option maxRecDepth 100000 in
theorem lifted (os : Os) (started : os.Started) (H : Type) (enc : TypeId × Value → H) :
    ReturnsInHanded {} Try.checked os 3 .any (Rows.numsPutsSpec.pre6 enc Try.prog Try.f3 Rows.numsPutsRow.domain false) (Rows.numsPutsSpec.post enc Try.prog Try.f3 false true false false) := by
  refine returnsInHanded_of_change (C := Try.checked) own started (by kernel_rfl) Try.func3
    (ChangeSpec.witness6 (enc := enc) (C := Try.checked) false ⟨#[], #[.int .u64 0, .int .i64 0], []⟩ 8 (by kernel_rfl) (by kernel_rfl) (by kernel_rfl) (by kernel_rfl)) ?_
  intro W base args ds gs before hval0 hW hcnd _
  have hval : ∀ (j : Nat) t v, Try.f3.params[j]? = some t → args[j]? = some v → Value.okWide Try.prog W .any base t v := hval0
  have hW' := hW
  obtain ⟨p, q, hA0, hV, rfl, hfz, hnd⟩ := hW
  have hA : DataW.TrodAll enc Try.prog W 0 (fun _ => true) true Try.f3.params.toList args.toList ds p := hA0
  rw [Try.params3] at hA hval
  obtain ⟨v0, vs0, d0, ds0, p0, q0, hargs, rfl, rfl, h0, r0⟩ := trodAll_cons hA
  obtain ⟨v1, vs1, d1, ds1, p1, q1, rfl, rfl, rfl, h1, r1⟩ := trodAll_cons r0
  obtain ⟨rfl, rfl, rfl⟩ := trodAll_nil r1
  obtain rfl : args = #[v0, v1] := by cases args; simp_all
  obtain ⟨rfl, rfl⟩ := trodVars_none hV
  obtain ⟨a0, rfl, rfl, rfl, w0⟩ := open_int Try.underlying22 (hval 0 22 v0 rfl rfl) h0
  obtain ⟨a1, rfl, rfl, rfl, w1⟩ := open_int Try.underlying3 (hval 1 3 v1 rfl rfl) h1
  clear hA0 hval0
  simp only [List.append_nil] at hW'
  refine (walk a0 a1 w0 w1 W).mono fun e W' ⟨he, hg⟩ => ?_
  subst he
  exact ⟨_, rfl, post_of_same (pa := []) (pv := []) hW' (fun _ _ _ => (trodAll_cons_mk (shut_bool Try.underlying4 _) trodAll_mk0)) (fun sp _ => (trodAll_cons_mk (shut_int Try.underlying22 w0) (trodAll_cons_mk (shut_int Try.underlying3 w1) trodAll_mk0))) (fun _ _ => rfl) rfl
    (hg.frame _) hg.2.1 (ok_one (by kernel_rfl) rfl (okWide_bool_mk Try.underlying4 _))⟩

theorem over : Rows.numsPutsRow.holds Try.pinned (OpenSpec.ofChange Rows.numsPutsSpec) :=
  OpenClaim.holds_of_wide 3 Try.f3 rfl rfl rfl rfl rfl rfl rfl ⟨rfl, rfl, rfl, rfl, rfl⟩ rfl rfl rfl rfl rfl (by kernel_rfl) Try.func3 (by kernel_rfl)
    (of_decide_eq_true (by kernel_rfl)) (by unfold Func.isWrapper; first | (rw [if_pos (by decide +kernel)]; kernel_rfl) | (rw [if_neg (by decide +kernel)]; exact ⟨rfl, rfl⟩))
    (fun os started H enc _ => lifted os started H enc)

theorem proved : Rows.NumsPutsSaid :=
  over
end Go.Proofs.Ytnjkjmkhpdioaab.numsPuts
namespace Go.Proofs.Ytnjkjmkhpdioaab
theorem numsPuts_holds : Rows.NumsPutsSaid := numsPuts.proved
#print axioms numsPuts_holds
end Go.Proofs.Ytnjkjmkhpdioaab
