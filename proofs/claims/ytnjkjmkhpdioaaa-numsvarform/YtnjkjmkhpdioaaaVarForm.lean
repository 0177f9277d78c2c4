import Derived.Test.YtnjkjmkhpdioaaaForW
import Derived.Test.YtnjkjmkhpdioaaaRows
import Derived.WalkKit
import Derived.ProofKit
import Derived.OpenShut
import Derived.ShutString
namespace Go.Proofs.Ytnjkjmkhpdioaaa.numsVarForm
open Go.ChangeShapes Go.WideShapes Go.ChangeAt Go.RowKit
open Go.ChangeMaps (open_string shut_string)
set_option linter.unusedVariables false

theorem own : ownKnob Try.prog.godebug = none := by kernel_rfl

open Go.Proofs.Ytnjkjmkhpdioaaa.plain Go.Proofs.Ytnjkjmkhpdioaaa.rowb Go.Proofs.Ytnjkjmkhpdioaaa.varp Go.Proofs.Ytnjkjmkhpdioaaa.putvar Go.Proofs.Ytnjkjmkhpdioaaa.readw Go.Proofs.Ytnjkjmkhpdioaaa.forp Go.Proofs.Ytnjkjmkhpdioaaa.forw Go.PlainAid in
theorem walk (a0 : ByteArray) (a1 : Int) (a2 : Int) (w0 : a0.size ≤ maxLen) (w1 : (Lit.int .i64 a1).wf = true) (w2 : (Lit.int .u64 a2).wf = true) (w : World) :
    Calls Try.prog 4 #[.string a0, .int .i64 a1, .int .u64 a2] w fun e w' => e = .returned (.bool true) ∧ Grown w w' := by
  unfold maxLen at w0
  have hb : a0.size ≤ 9223372036854775807 := by omega
  have k2 := bounds_u64 w2
  obtain ⟨m, hw, hp⟩ := pv_any a2 k2.1 k2.2
  have m1 := hw.1
  have m10 := hw.2.1
  have hsz : (str (putL a2 m)).size = m := by rw [str_size, putL_length a2 m m1]
  have hP : ∀ w, Calls Try.prog 9 #[.int .u64 a2] w fun e w' => e = .returned (.string (str (putL a2 m))) ∧ Grown w w' := fun w => (hp w).mono (by
    rintro e w' ⟨rfl, rfl⟩
    exact ⟨rfl, (Grown.refl _).alloc _ _⟩)
  have hz0 : ((0 : Nat) : Int) = 0 := rfl
  have H1 : ∀ w, Calls Try.prog 10 #[.string ((str (putL a2 m)).extract 0 (m - 1)), .int .i64 0] w fun e w' => e = .returned (.tuple #[.int .u64 0, .int .i64 0, .int .i64 12]) ∧ w' = w := by
    intro w
    have es : ((str (putL a2 m)).extract 0 (m - 1)).size = min (m - 1) (str (putL a2 m)).size - 0 := ByteArray.size_extract
    have hv := var_any ((str (putL a2 m)).extract 0 (m - 1)) 0 w (by omega) (by omega)
    have hr := varR_cut ((str (putL a2 m)).extract 0 (m - 1)) 0 (m - 1) (by omega) (by omega) (fun i hi => by
      rw [Nat.zero_add, bt_extract _ 0 (m - 1) i (by omega) (by omega), Nat.zero_add, put_bt a2 m i (by omega)]
      exact (gB_byte a2 i).1)
    rw [hr] at hv
    exact hv
  have H2 : m < 10 → ∀ w, Calls Try.prog 10 #[.string ((str (putL a2 m)).extract 0 (m - 1) ++ str [bits BinOp.or IntKind.u8 (bt (str (putL a2 m)) (m - 1)) 128, 0]), .int .i64 0] w fun e w' => e = .returned (.tuple #[.int .u64 0, .int .i64 0, .int .i64 13]) ∧ w' = w := by
    intro hm w
    have es : ((str (putL a2 m)).extract 0 (m - 1)).size = min (m - 1) (str (putL a2 m)).size - 0 := ByteArray.size_extract
    have es1 : ((str (putL a2 m)).extract 0 (m - 1)).size = m - 1 := by omega
    have ho : bits BinOp.or IntKind.u8 (bt (str (putL a2 m)) (m - 1)) 128 = a2 / 128 ^ (m - 1) % 128 + 128 := by
      rw [put_bt_last a2 m m1, u8_or _ _ (by omega) (by omega) (by omega) (by omega), Nat.or_comm, ← u8_or _ _ (by omega) (by omega) (by omega) (by omega), or128 _ (by omega) (by omega)]
      omega
    rw [ho]
    generalize hc : a2 / 128 ^ (m - 1) % 128 + 128 = c
    have c0 : 128 ≤ c := by omega
    have c1 : c ≤ 255 := by omega
    generalize hX : (str (putL a2 m)).extract 0 (m - 1) = X at *
    have et : (str [c, 0]).size = 2 := str_size [c, 0]
    have ea : (X ++ str [c, 0]).size = m - 1 + 2 := by rw [ByteArray.size_append, es1, et]
    have hv := var_any (X ++ str [c, 0]) 0 w (by omega) (by omega)
    have b0 : bt (str [c, 0]) 0 = c := str_get [c, 0] 0 c rfl (by omega) c1
    have b1 : bt (str [c, 0]) 1 = 0 := str_get [c, 0] 1 0 rfl (by omega) (by omega)
    have hr := varR_zero (X ++ str [c, 0]) 0 m (by omega) m1 (by omega) (fun i hi => by
      rw [Nat.zero_add]
      by_cases hi2 : i + 1 < m
      · rw [bt_append_left _ _ _ (by omega), ← hX, bt_extract _ 0 (m - 1) i (by omega) (by omega), Nat.zero_add, put_bt a2 m i hi2]
        exact (gB_byte a2 i).1
      · have e := Go.Proofs.Ytnjkjmkhpdioaaa.rowb.bt_append_right X (str [c, 0]) 0
        rw [es1, b0, show m - 1 + 0 = i by omega] at e
        omega) (by
      have e := Go.Proofs.Ytnjkjmkhpdioaaa.rowb.bt_append_right X (str [c, 0]) 1
      rw [es1, b1, show m - 1 + 1 = m by omega] at e
      rw [Nat.zero_add]; exact e)
    rw [hr] at hv
    exact hv
  by_cases h : a1 < 0 ∨ (a0.size : Int) < a1
  · exact core_no a2 10 a0 _ a1 m w m1 m10 hsz hb hP H1 H2 (fun w => var_range a0 a1 w hb h) (by decide)
  · obtain ⟨p, rfl⟩ := Int.eq_ofNat_of_zero_le (show 0 ≤ a1 by omega)
    have hv := fun w => var_any a0 p w hb (by omega)
    have ht := tells_all a0 p (by omega)
    generalize varR a0 p 10 0 0 = r at *
    obtain ⟨x, n, e⟩ := r
    rcases ht with ⟨t1, t2, t3, t4⟩ | ⟨q, t1, t2, t3, t4, t5, t6, t7, t8⟩
    · simp only at t1 t2 t3 t4
      subst t1 t2
      exact core_no a2 e a0 _ p m w m1 m10 hsz hb hP H1 H2 hv (by rw [bne_iff_ne]; omega)
    · simp only at t1 t2 t3 t4 t5 t6 t7 t8
      subst t1 t2
      obtain ⟨q', hq, hp4⟩ := pv_any x t3 t4
      obtain rfl : q = q' := wants_one x q q' t5 hq
      have q1 := hq.1
      have hn : ((p : Int) + (q : Int)) = ((p + q : Nat) : Int) := by omega
      rw [hn] at hv
      refine core_yes a2 x a0 _ (str (putL x q)) p (p + q) m w m1 m10 hsz hb (by omega) t6 hP H1 H2 hv (fun w => (hp4 w).mono ?_) ?_
      · rintro e w' ⟨rfl, rfl⟩
        exact ⟨rfl, (Grown.refl _).alloc _ _⟩
      · rw [same_form a0 p q x t5 t6 t7 t8]; simp

set_option maxRecDepth 100000 in
theorem lifted (os : Os) (started : os.Started) (H : Type) (enc : TypeId × Value → H) :
    ReturnsInHanded {} Try.checked os 4 .any (Rows.numsVarFormSpec.pre6 enc Try.prog Try.f4 Rows.numsVarFormRow.domain false) (Rows.numsVarFormSpec.post enc Try.prog Try.f4 false true false false) := by
  refine returnsInHanded_of_change (C := Try.checked) own started (by kernel_rfl) Try.func4
    (ChangeSpec.witness6 (enc := enc) (C := Try.checked) false ⟨#[], #[.string ByteArray.empty, .int .i64 0, .int .u64 0], []⟩ 8 (by kernel_rfl) (by kernel_rfl) (by kernel_rfl) (by kernel_rfl)) ?_
  intro W base args ds gs before hval0 hW hcnd _
  have hval : ∀ (j : Nat) t v, Try.f4.params[j]? = some t → args[j]? = some v → Value.okWide Try.prog W .any base t v := hval0
  have hW' := hW
  obtain ⟨p, q, hA0, hV, rfl, hfz, hnd⟩ := hW
  have hA : DataW.TrodAll enc Try.prog W 0 (fun _ => true) true Try.f4.params.toList args.toList ds p := hA0
  rw [Try.params4] at hA hval
  obtain ⟨v0, vs0, d0, ds0, p0, q0, hargs, rfl, rfl, h0, r0⟩ := trodAll_cons hA
  obtain ⟨v1, vs1, d1, ds1, p1, q1, rfl, rfl, rfl, h1, r1⟩ := trodAll_cons r0
  obtain ⟨v2, vs2, d2, ds2, p2, q2, rfl, rfl, rfl, h2, r2⟩ := trodAll_cons r1
  obtain ⟨rfl, rfl, rfl⟩ := trodAll_nil r2
  obtain rfl : args = #[v0, v1, v2] := by cases args; simp_all
  obtain ⟨rfl, rfl⟩ := trodVars_none hV
  obtain ⟨a0, rfl, rfl, rfl, w0⟩ := open_string Try.underlying9 (hval 0 9 v0 rfl rfl) h0
  obtain ⟨a1, rfl, rfl, rfl, w1⟩ := open_int Try.underlying3 (hval 1 3 v1 rfl rfl) h1
  obtain ⟨a2, rfl, rfl, rfl, w2⟩ := open_int Try.underlying22 (hval 2 22 v2 rfl rfl) h2
  clear hA0 hval0
  simp only [List.append_nil] at hW'
  refine (walk a0 a1 a2 w0 w1 w2 W).mono fun e W' ⟨he, hg⟩ => ?_
  subst he
  exact ⟨_, rfl, post_of_same (pa := []) (pv := []) hW' (fun _ _ _ => (trodAll_cons_mk (shut_bool Try.underlying4 _) trodAll_mk0)) (fun sp _ => (trodAll_cons_mk (shut_string Try.underlying9 w0) (trodAll_cons_mk (shut_int Try.underlying3 w1) (trodAll_cons_mk (shut_int Try.underlying22 w2) trodAll_mk0)))) (fun _ _ => rfl) rfl
    (hg.frame _) hg.2.1 (ok_one (by kernel_rfl) rfl (okWide_bool_mk Try.underlying4 _))⟩

theorem over : Rows.numsVarFormRow.holds Try.pinned (OpenSpec.ofChange Rows.numsVarFormSpec) :=
  OpenClaim.holds_of_wide 4 Try.f4 rfl rfl rfl rfl rfl rfl rfl ⟨rfl, rfl, rfl, rfl, rfl⟩ rfl rfl rfl rfl rfl (by kernel_rfl) Try.func4 (by kernel_rfl)
    (of_decide_eq_true (by kernel_rfl)) (by unfold Func.isWrapper; first | (rw [if_pos (by decide +kernel)]; kernel_rfl) | (rw [if_neg (by decide +kernel)]; exact ⟨rfl, rfl⟩))
    (fun os started H enc _ => lifted os started H enc)

theorem proved : Rows.NumsVarFormSaid :=
  over
end Go.Proofs.Ytnjkjmkhpdioaaa.numsVarForm
namespace Go.Proofs.Ytnjkjmkhpdioaaa
theorem numsVarForm_holds : Rows.NumsVarFormSaid := numsVarForm.proved
#print axioms numsVarForm_holds
end Go.Proofs.Ytnjkjmkhpdioaaa
