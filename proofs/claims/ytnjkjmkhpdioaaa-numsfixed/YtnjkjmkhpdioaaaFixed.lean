import Derived.Test.YtnjkjmkhpdioaaaFixW
import Derived.SizedLaws
import Derived.Test.YtnjkjmkhpdioaaaRows
import Derived.WalkKit
import Derived.ProofKit
import Derived.OpenShut
import Derived.ShutString
namespace Go.Proofs.Ytnjkjmkhpdioaaa.numsFixed
open Go.ChangeShapes Go.WideShapes Go.ChangeAt Go.RowKit
open Go.ChangeMaps (open_string shut_string)
set_option linter.unusedVariables false

theorem own : ownKnob Try.prog.godebug = none := by kernel_rfl

open Go.Proofs.Ytnjkjmkhpdioaaa.plain Go.Proofs.Ytnjkjmkhpdioaaa.rowb Go.Proofs.Ytnjkjmkhpdioaaa.readr Go.Proofs.Ytnjkjmkhpdioaaa.putbe Go.Proofs.Ytnjkjmkhpdioaaa.fixp Go.Proofs.Ytnjkjmkhpdioaaa.fixw in
theorem walk (a0 : Int) (a1 : Int) (a2 : Int) (a3 : ByteArray) (a4 : ByteArray) (w0 : (Lit.int .u64 a0).wf = true) (w1 : (Lit.int .u64 a1).wf = true) (w2 : (Lit.int .i64 a2).wf = true) (w3 : a3.size ≤ maxLen) (w4 : a4.size ≤ maxLen) (z3 : a3.size ≤ 140737488351232) (z4 : a4.size ≤ 140737488351232) (w : World) :
    Calls Try.prog 6 #[.int .u64 a0, .int .u64 a1, .int .i64 a2, .string a3, .string a4] w fun e w' => e = .returned (.bool true) ∧ Grown w w' := by
  have k0 := bounds_u64 w0
  have k1 := bounds_u64 w1
  have k2 := bounds_i64 w2
  obtain ⟨n, n1, n2, hn⟩ := size_any a2 k2.1 k2.2
  obtain ⟨s, c, hS, cs⟩ := put_both a0 n n1 n2
  obtain ⟨t, d, hT, ct⟩ := put_both a1 n n1 n2
  have pw : ∀ x : Int, 0 ≤ x → n ≠ 8 → (x < IntKind.u64.wrap (2 ^ (8 * n)) ↔ x / 256 ^ n = 0) := by
    intro x hx h8
    have h1 := ipow_le 256 (by omega) (show n ≤ 7 by omega)
    have h2 : ((256 : Nat) : Int) ^ 7 = 72057594037927936 := by decide
    have h4 : (256 : Int) ^ n ≤ 72057594037927936 := Int.le_trans h1 (Int.le_of_eq h2)
    have h3 : (0 : Int) < 256 ^ n := Int.pow_pos (by omega)
    rw [pow256, Go.PlainAid.u64_nonneg (n := 256 ^ n) (by omega) (by omega), fits_iff x n hx]
  have p8 : ∀ x : Int, 0 ≤ x → x ≤ 18446744073709551615 → n = 8 → x / 256 ^ n = 0 := by
    intro x hx hx' h8
    subst h8
    rw [fits_iff x 8 hx]
    have h2 : (256 : Int) ^ 8 = 18446744073709551616 := by decide
    omega
  have hB : a0 / 256 ^ n = 0 → ∀ w, Calls Try.prog 11 #[.string (a3 ++ str (lowB a0 n) ++ a4), .int .i64 a3.size, .int .i64 n] w fun e w' => e = .returned (.tuple #[.int .u64 a0, .int .i64 0]) ∧ w' = w := by
    intro hv w
    have hsz : (a3 ++ str (lowB a0 n) ++ a4).size = a3.size + n + a4.size := by rw [ByteArray.size_append, ByteArray.size_append, str_size, lowB_length]
    have h := be_any (a3 ++ str (lowB a0 n) ++ a4) a3.size n w (by omega) n1 n2 (by omega)
    rw [read_mid a3 a4 a0 n hv] at h
    exact h
  rcases cs with ⟨hv, rfl, rfl⟩ | ⟨hv, rfl, rfl⟩
  · rcases ct with ⟨hu, rfl, rfl⟩ | ⟨hu, rfl, rfl⟩
    · refine walk_yy a0 a1 a2 a3 a4 _ _ n w n1 n2 z3 z4 hn hS hT (hB hv) (by rw [str_size, lowB_length]) (less_iff a0 a1 n hv hu) (same_iff a0 a1 n hv hu) ?_
      by_cases h8 : n = 8
      · exact .inl (by rw [beq_iff_eq]; omega)
      · exact .inr ⟨by rw [beq_eq_false_iff_ne]; omega, decide_eq_true ((pw a0 k0.1 h8).2 hv), decide_eq_true ((pw a1 k1.1 h8).2 hu)⟩
    · have h8 : n ≠ 8 := fun h => hu (p8 a1 k1.1 k1.2 h)
      exact walk_yn a0 a1 a2 a3 a4 _ _ n w n1 n2 z3 z4 hn hS hT (hB hv) (by rw [str_size, lowB_length]) (by rw [ByteArray.toList_eq]; rfl) (by rw [beq_eq_false_iff_ne]; omega) (decide_eq_true ((pw a0 k0.1 h8).2 hv)) (decide_eq_false (fun h => hu ((pw a1 k1.1 h8).1 h)))
  · have h8 : n ≠ 8 := fun h => hv (p8 a0 k0.1 k0.2 h)
    exact walk_no a0 a1 a2 d a3 a4 _ t n w n1 n2 hn hS hT (by rw [ByteArray.toList_eq]; rfl) (by rw [beq_eq_false_iff_ne]; omega) (decide_eq_false (fun h => hv ((pw a0 k0.1 h8).1 h)))

set_option maxRecDepth 100000 in
theorem lifted (os : Os) (started : os.Started) (H : Type) (enc : TypeId × Value → H) :
    ReturnsInHanded {} Try.checked os 6 .any (Rows.numsFixedSpec.pre6 enc Try.prog Try.f6 Rows.numsFixedRow.domain false) (Rows.numsFixedSpec.post enc Try.prog Try.f6 false true false false) := by
  refine returnsInHanded_of_change_sized (C := Try.checked) own started (by kernel_rfl) Try.func6
    (ChangeSpec.witness6 (enc := enc) (C := Try.checked) false ⟨#[], #[.int .u64 0, .int .u64 0, .int .i64 0, .string ByteArray.empty, .string ByteArray.empty], []⟩ 8 (by kernel_rfl) (by kernel_rfl) (by kernel_rfl) (by kernel_rfl)) ?_
  intro W base args ds gs before hval0 hW hcnd hsz0 _
  have hval : ∀ (j : Nat) t v, Try.f6.params[j]? = some t → args[j]? = some v → Value.okWide Try.prog W .any base t v := hval0
  have hW' := hW
  obtain ⟨p, q, hA0, hV, rfl, hfz, hnd⟩ := hW
  have hA : DataW.TrodAll enc Try.prog W 0 (fun _ => true) true Try.f6.params.toList args.toList ds p := hA0
  have hsz : (DataW.weightsEach Try.prog (Try.f6.params.toList ++ Rows.numsFixedSpec.plain.varTypes Try.prog) (ds ++ gs)).all (· ≤ reachBytes) = true := hsz0
  rw [Try.params6] at hA hval hsz
  obtain ⟨v0, vs0, d0, ds0, p0, q0, hargs, rfl, rfl, h0, r0⟩ := trodAll_cons hA
  obtain ⟨v1, vs1, d1, ds1, p1, q1, rfl, rfl, rfl, h1, r1⟩ := trodAll_cons r0
  obtain ⟨v2, vs2, d2, ds2, p2, q2, rfl, rfl, rfl, h2, r2⟩ := trodAll_cons r1
  obtain ⟨v3, vs3, d3, ds3, p3, q3, rfl, rfl, rfl, h3, r3⟩ := trodAll_cons r2
  obtain ⟨v4, vs4, d4, ds4, p4, q4, rfl, rfl, rfl, h4, r4⟩ := trodAll_cons r3
  obtain ⟨rfl, rfl, rfl⟩ := trodAll_nil r4
  obtain rfl : args = #[v0, v1, v2, v3, v4] := by cases args; simp_all
  obtain ⟨rfl, rfl⟩ := trodVars_none hV
  obtain ⟨a0, rfl, rfl, rfl, w0⟩ := open_int Try.underlying22 (hval 0 22 v0 rfl rfl) h0
  obtain ⟨a1, rfl, rfl, rfl, w1⟩ := open_int Try.underlying22 (hval 1 22 v1 rfl rfl) h1
  obtain ⟨a2, rfl, rfl, rfl, w2⟩ := open_int Try.underlying3 (hval 2 3 v2 rfl rfl) h2
  obtain ⟨a3, rfl, rfl, rfl, w3⟩ := open_string Try.underlying9 (hval 3 9 v3 rfl rfl) h3
  obtain ⟨a4, rfl, rfl, rfl, w4⟩ := open_string Try.underlying9 (hval 4 9 v4 rfl rfl) h4
  have z3 : a3.size ≤ 140737488351232 := by
    have h := sized_string hsz (j := 3) (t := 9) (bytes := a3.data.toList) rfl rfl
    have e : a3.data.toList.length = a3.size := Array.length_toList
    unfold reachBytes at h
    omega
  have z4 : a4.size ≤ 140737488351232 := by
    have h := sized_string hsz (j := 4) (t := 9) (bytes := a4.data.toList) rfl rfl
    have e : a4.data.toList.length = a4.size := Array.length_toList
    unfold reachBytes at h
    omega
  clear hA0 hval0 hsz0 hsz
  simp only [List.append_nil] at hW'
  refine (walk a0 a1 a2 a3 a4 w0 w1 w2 w3 w4 z3 z4 W).mono fun e W' ⟨he, hg⟩ => ?_
  subst he
  exact ⟨_, rfl, post_of_same (pa := []) (pv := []) hW' (fun _ _ _ => (trodAll_cons_mk (shut_bool Try.underlying4 _) trodAll_mk0)) (fun sp _ => (trodAll_cons_mk (shut_int Try.underlying22 w0) (trodAll_cons_mk (shut_int Try.underlying22 w1) (trodAll_cons_mk (shut_int Try.underlying3 w2) (trodAll_cons_mk (shut_string Try.underlying9 w3) (trodAll_cons_mk (shut_string Try.underlying9 w4) trodAll_mk0)))))) (fun _ _ => rfl) rfl
    (hg.frame _) hg.2.1 (ok_one (by kernel_rfl) rfl (okWide_bool_mk Try.underlying4 _))⟩

theorem over : Rows.numsFixedRow.holds Try.pinned (OpenSpec.ofChange Rows.numsFixedSpec) :=
  OpenClaim.holds_of_wide 6 Try.f6 rfl rfl rfl rfl rfl rfl rfl ⟨rfl, rfl, rfl, rfl, rfl⟩ rfl rfl rfl rfl rfl (by kernel_rfl) Try.func6 (by kernel_rfl)
    (of_decide_eq_true (by kernel_rfl)) (by unfold Func.isWrapper; first | (rw [if_pos (by decide +kernel)]; kernel_rfl) | (rw [if_neg (by decide +kernel)]; exact ⟨rfl, rfl⟩))
    (fun os started H enc _ => lifted os started H enc)

theorem proved : Rows.NumsFixedSaid :=
  over
end Go.Proofs.Ytnjkjmkhpdioaaa.numsFixed
namespace Go.Proofs.Ytnjkjmkhpdioaaa
theorem numsFixed_holds : Rows.NumsFixedSaid := numsFixed.proved
#print axioms numsFixed_holds
end Go.Proofs.Ytnjkjmkhpdioaaa
