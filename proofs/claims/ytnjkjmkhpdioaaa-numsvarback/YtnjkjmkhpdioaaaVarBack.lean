import Derived.Test.YtnjkjmkhpdioaaaPutVar
import Derived.SizedLaws
import Derived.Test.YtnjkjmkhpdioaaaRows
import Derived.WalkKit
import Derived.ProofKit
import Derived.OpenShut
import Derived.ShutString
namespace Go.Proofs.Ytnjkjmkhpdioaaa.numsVarBack
open Go.ChangeShapes Go.WideShapes Go.ChangeAt Go.RowKit
open Go.ChangeMaps (open_string shut_string)
set_option linter.unusedVariables false

theorem own : ownKnob Try.prog.godebug = none := by kernel_rfl

open Go.Proofs.Ytnjkjmkhpdioaaa.plain Go.Proofs.Ytnjkjmkhpdioaaa.rowb Go.Proofs.Ytnjkjmkhpdioaaa.varp Go.Proofs.Ytnjkjmkhpdioaaa.putvar in
theorem quo_zero (v : Int) (m : Nat) (h0 : 0 ≤ v) (hw : Wants v m) : v / 128 ^ m = 0 := Int.ediv_eq_zero_of_lt h0 hw.2.2.1

open Go.Proofs.Ytnjkjmkhpdioaaa.plain Go.Proofs.Ytnjkjmkhpdioaaa.rowb Go.Proofs.Ytnjkjmkhpdioaaa.varp Go.Proofs.Ytnjkjmkhpdioaaa.putvar in
theorem quo_pos (v : Int) (m k : Nat) (hk : 1 ≤ k) (hw : Wants v m) (h : k < m) : 0 < v / 128 ^ k := by
  have hc : (0 : Int) < 128 ^ k := Int.pow_pos (by omega)
  have h1 := hw.2.2.2 (by omega)
  have h2 : (128 : Int) ^ k ≤ 128 ^ (m - 1) := ipow_le 128 (by omega) (show k ≤ m - 1 by omega)
  have h3 : 1 ≤ v / 128 ^ k := (Int.le_ediv_iff_mul_le hc).2 (by omega)
  omega

theorem quo_step (v : Int) (k : Nat) : v / 128 ^ k / 128 = v / 128 ^ (k + 1) := by
  have hc : (0 : Int) ≤ 128 ^ k := Int.pow_nonneg (by omega)
  rw [Int.pow_succ, Int.ediv_ediv_of_nonneg hc]

set_option maxHeartbeats 800000 in
open Go.Proofs.Ytnjkjmkhpdioaaa.varp in
theorem core (v : Int) (A B s : ByteArray) (m : Nat) (w : World) (h0 : 0 ≤ v) (h1 : v ≤ 18446744073709551615) (m1 : 1 ≤ m) (m2 : m ≤ 10) (hA : A.size ≤ 140737488351232) (hB : B.size ≤ 140737488351232) (hs : s.size = m)
    (HW : Hid (Wants v m))
    (HP : Hid (∀ w, Calls Try.prog 9 #[.int .u64 v] w fun e w' => e = .returned (.string s) ∧ Grown w w'))
    (HV : Hid (∀ w, Calls Try.prog 10 #[.string (A ++ s ++ B), .int .i64 A.size] w fun e w' => e = .returned (.tuple #[.int .u64 v, .int .i64 (A.size + m), .int .i64 0]) ∧ w' = w)) :
    Calls Try.prog 3 #[.int .u64 v, .string A, .string B] w fun e w' => e = .returned (.bool true) ∧ Grown w w' := by
  go_enter Try.func3, Try.ntmps3
  go_wp2_with fail
  refine (HP.out _).mono ?_
  rintro e w1 ⟨rfl, g1⟩
  have G : Hid _ := g1
  clear g1
  go_wp2_with fail
  refine (HV.out _).mono ?_
  rintro e w2 ⟨rfl, rfl⟩
  go_wp2
  go_loop [11, 12] (fun n r => ∃ k : Nat, 1 ≤ k ∧ k ≤ m ∧ n = .int .i64 k ∧ r = .int .u64 (v / 128 ^ k)) (fun n _ => (m - intOf n).toNat)
  case atStart => exact ⟨1, by omega, by omega, rfl, rfl⟩
  case round =>
    obtain ⟨k, hk1, hk, rfl, rfl⟩ := hrel
    by_cases hlt : k < m
    · have hq := quo_pos v m k hk1 HW.out hlt
      have HS : Hid _ := quo_step v k
      have hq1 : v / 128 ^ k ≤ 18446744073709551615 := Int.le_trans (Int.ediv_le_self _ h0) h1
      have hq2 : 0 ≤ v / 128 ^ k := by omega
      go_wp2
      go_round
      case rel => exact ⟨k + 1, by omega, by omega, by go_num, by rw [HS.out]⟩
      case measure => simp [intOf]; omega
    · have e : k = m := by omega
      subst e
      have hq : ¬ 0 < v / 128 ^ k := by rw [quo_zero v k h0 HW.out]; omega
      go_wp2
      go_ret
      exact ⟨by simp, G.out⟩

open Go.Proofs.Ytnjkjmkhpdioaaa.plain Go.Proofs.Ytnjkjmkhpdioaaa.rowb Go.Proofs.Ytnjkjmkhpdioaaa.varp Go.Proofs.Ytnjkjmkhpdioaaa.putvar Go.Proofs.Ytnjkjmkhpdioaaa.readw in
theorem walk (a0 : Int) (a1 : ByteArray) (a2 : ByteArray) (w0 : (Lit.int .u64 a0).wf = true) (w1 : a1.size ≤ maxLen) (w2 : a2.size ≤ maxLen) (z1 : a1.size ≤ 140737488351232) (z2 : a2.size ≤ 140737488351232) (w : World) :
    Calls Try.prog 3 #[.int .u64 a0, .string a1, .string a2] w fun e w' => e = .returned (.bool true) ∧ Grown w w' := by
  have k0 := bounds_u64 w0
  obtain ⟨m, hw, hp⟩ := pv_any a0 k0.1 k0.2
  have hsz : (str (putL a0 m)).size = m := by rw [str_size, putL_length a0 m hw.1]
  refine core a0 a1 a2 (str (putL a0 m)) m w k0.1 k0.2 hw.1 hw.2.1 z1 z2 hsz hw (fun w => (hp w).mono ?_) (fun w => ?_)
  · rintro e w' ⟨rfl, rfl⟩
    exact ⟨rfl, (Grown.refl _).alloc _ _⟩
  · have hsz2 : (a1 ++ str (putL a0 m)).size = a1.size + m := by rw [ByteArray.size_append, hsz]
    have hsz3 : (a1 ++ str (putL a0 m) ++ a2).size = a1.size + m + a2.size := by rw [ByteArray.size_append, hsz2]
    have m10 := hw.2.1
    have m1 := hw.1
    have hv := var_any (a1 ++ str (putL a0 m) ++ a2) a1.size w (by omega) (by omega)
    have hr := varR_back (a1 ++ str (putL a0 m) ++ a2) a1.size m a0 k0.1 k0.2 hw (by omega)
      (fun i hi => by rw [bt_append_left _ _ _ (by omega), Go.Proofs.Ytnjkjmkhpdioaaa.rowb.bt_append_right]; exact put_bt a0 m i hi)
      (by rw [bt_append_left _ _ _ (by omega), Go.Proofs.Ytnjkjmkhpdioaaa.rowb.bt_append_right]; exact put_bt_last a0 m m1)
    rw [hr] at hv
    exact hv

set_option maxRecDepth 100000 in
theorem lifted (os : Os) (started : os.Started) (H : Type) (enc : TypeId × Value → H) :
    ReturnsInHanded {} Try.checked os 3 .any (Rows.numsVarBackSpec.pre6 enc Try.prog Try.f3 Rows.numsVarBackRow.domain false) (Rows.numsVarBackSpec.post enc Try.prog Try.f3 false true false false) := by
  refine returnsInHanded_of_change_sized (C := Try.checked) own started (by kernel_rfl) Try.func3
    (ChangeSpec.witness6 (enc := enc) (C := Try.checked) false ⟨#[], #[.int .u64 0, .string ByteArray.empty, .string ByteArray.empty], []⟩ 8 (by kernel_rfl) (by kernel_rfl) (by kernel_rfl) (by kernel_rfl)) ?_
  intro W base args ds gs before hval0 hW hcnd hsz0 _
  have hval : ∀ (j : Nat) t v, Try.f3.params[j]? = some t → args[j]? = some v → Value.okWide Try.prog W .any base t v := hval0
  have hW' := hW
  obtain ⟨p, q, hA0, hV, rfl, hfz, hnd⟩ := hW
  have hA : DataW.TrodAll enc Try.prog W 0 (fun _ => true) true Try.f3.params.toList args.toList ds p := hA0
  have hsz : (DataW.weightsEach Try.prog (Try.f3.params.toList ++ Rows.numsVarBackSpec.plain.varTypes Try.prog) (ds ++ gs)).all (· ≤ reachBytes) = true := hsz0
  rw [Try.params3] at hA hval hsz
  obtain ⟨v0, vs0, d0, ds0, p0, q0, hargs, rfl, rfl, h0, r0⟩ := trodAll_cons hA
  obtain ⟨v1, vs1, d1, ds1, p1, q1, rfl, rfl, rfl, h1, r1⟩ := trodAll_cons r0
  obtain ⟨v2, vs2, d2, ds2, p2, q2, rfl, rfl, rfl, h2, r2⟩ := trodAll_cons r1
  obtain ⟨rfl, rfl, rfl⟩ := trodAll_nil r2
  obtain rfl : args = #[v0, v1, v2] := by cases args; simp_all
  obtain ⟨rfl, rfl⟩ := trodVars_none hV
  obtain ⟨a0, rfl, rfl, rfl, w0⟩ := open_int Try.underlying22 (hval 0 22 v0 rfl rfl) h0
  obtain ⟨a1, rfl, rfl, rfl, w1⟩ := open_string Try.underlying9 (hval 1 9 v1 rfl rfl) h1
  obtain ⟨a2, rfl, rfl, rfl, w2⟩ := open_string Try.underlying9 (hval 2 9 v2 rfl rfl) h2
  have z1 : a1.size ≤ 140737488351232 := by
    have h := sized_string hsz (j := 1) (t := 9) (bytes := a1.data.toList) rfl rfl
    have e : a1.data.toList.length = a1.size := Array.length_toList
    unfold reachBytes at h
    omega
  have z2 : a2.size ≤ 140737488351232 := by
    have h := sized_string hsz (j := 2) (t := 9) (bytes := a2.data.toList) rfl rfl
    have e : a2.data.toList.length = a2.size := Array.length_toList
    unfold reachBytes at h
    omega
  clear hA0 hval0 hsz0 hsz
  simp only [List.append_nil] at hW'
  refine (walk a0 a1 a2 w0 w1 w2 z1 z2 W).mono fun e W' ⟨he, hg⟩ => ?_
  subst he
  exact ⟨_, rfl, post_of_same (pa := []) (pv := []) hW' (fun _ _ _ => (trodAll_cons_mk (shut_bool Try.underlying4 _) trodAll_mk0)) (fun sp _ => (trodAll_cons_mk (shut_int Try.underlying22 w0) (trodAll_cons_mk (shut_string Try.underlying9 w1) (trodAll_cons_mk (shut_string Try.underlying9 w2) trodAll_mk0)))) (fun _ _ => rfl) rfl
    (hg.frame _) hg.2.1 (ok_one (by kernel_rfl) rfl (okWide_bool_mk Try.underlying4 _))⟩

theorem over : Rows.numsVarBackRow.holds Try.pinned (OpenSpec.ofChange Rows.numsVarBackSpec) :=
  OpenClaim.holds_of_wide 3 Try.f3 rfl rfl rfl rfl rfl rfl rfl ⟨rfl, rfl, rfl, rfl, rfl⟩ rfl rfl rfl rfl rfl (by kernel_rfl) Try.func3 (by kernel_rfl)
    (of_decide_eq_true (by kernel_rfl)) (by unfold Func.isWrapper; first | (rw [if_pos (by decide +kernel)]; kernel_rfl) | (rw [if_neg (by decide +kernel)]; exact ⟨rfl, rfl⟩))
    (fun os started H enc _ => lifted os started H enc)

theorem proved : Rows.NumsVarBackSaid :=
  over
end Go.Proofs.Ytnjkjmkhpdioaaa.numsVarBack
namespace Go.Proofs.Ytnjkjmkhpdioaaa
theorem numsVarBack_holds : Rows.NumsVarBackSaid := numsVarBack.proved
#print axioms numsVarBack_holds
end Go.Proofs.Ytnjkjmkhpdioaaa
