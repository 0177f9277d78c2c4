import Derived.Test.YtgioekepoebibaaQb
namespace Go.Proofs.Ytgioekepoebibaa.qc
open Go.RowKit Go.PlainAid
open Go.Proofs.Ytgioekepoebibaa.na Go.Proofs.Ytgioekepoebibaa.nb Go.Proofs.Ytgioekepoebibaa.pa Go.Proofs.Ytgioekepoebibaa.pd Go.Proofs.Ytgioekepoebibaa.ra Go.Proofs.Ytgioekepoebibaa.rb Go.Proofs.Ytgioekepoebibaa.qa Go.Proofs.Ytgioekepoebibaa.qb
set_option linter.unusedVariables false
set_option linter.unusedSimpArgs false

def wi (n : Int) : Int := if n < 0 then 0 else n
def kd (k : Int) : Int := k % 255 + 1
theorem wi_ok (n : Int) (h : n ≤ 9223372036854775807) : 0 ≤ wi n ∧ wi n ≤ 9223372036854775807 := by unfold wi; split <;> omega
theorem kd_ok (k : Int) : 1 ≤ kd k ∧ kd k ≤ 255 := by unfold kd; omega
theorem withinC (n : Int) (w : World) : Calls Try.prog 10 #[.int .i64 n] w fun e w' => e = .returned (.int .i64 (wi n)) ∧ w' = w := by
  by_cases h : n < 0
  · rw [wi, if_pos h]
    go_enter Try.func10, Try.ntmps10
    go_wp2
    go_ret
    exact ⟨rfl, rfl⟩
  · rw [wi, if_neg h]
    go_enter Try.func10, Try.ntmps10
    go_wp2
    go_ret
    exact ⟨rfl, rfl⟩
theorem ret_i (x y : Int) (h : x = y) : Ending.returned (.int .i64 x) = .returned (.int .i64 y) := by rw [h]
theorem kindOfC (k : Int) (w : World) (h0 : -9223372036854775808 ≤ k) (h1 : k ≤ 9223372036854775807) : Calls Try.prog 11 #[.int .i64 k] w fun e w' => e = .returned (.int .i64 (kd k)) ∧ w' = w := by
  obtain ⟨m, hm⟩ : ∃ m, k.tmod 255 = m := ⟨_, rfl⟩
  have hb : -255 < m ∧ m < 255 := by
    rw [← hm, Int.tmod_eq_emod]; split <;> omega
  have hk : kd k = if m < 0 then m + 255 + 1 else m + 1 := by
    rw [← hm, kd, Int.tmod_eq_emod]; split <;> split <;> omega
  have hw : IntKind.i64.wrap m = m := by rw [IntKind.wrap_i64]; omega
  rw [hk]
  have b1 := hb.1
  have b2 := hb.2
  clear hk hb
  by_cases h : m < 0
  · rw [if_pos h]
    go_enter Try.func11, Try.ntmps11
    go_wp2
    go_ret
    exact ⟨rfl, rfl⟩
  · rw [if_neg h]
    go_enter Try.func11, Try.ntmps11
    go_wp2
    go_ret
    exact ⟨rfl, rfl⟩

-- a key as a number
theorem beR_split (b : ByteArray) (p k m : Nat) : beR b p (k + m) = beR b p k * 256 ^ m + beR b (p + k) m := by
  induction m with
  | zero => simp [beR]
  | succ m ih =>
    have e : beR b p (k + (m + 1)) = beR b p (k + m) * 256 + bt b (p + (k + m)) := rfl
    have e2 : beR b (p + k) (m + 1) = beR b (p + k) m * 256 + bt b (p + k + m) := rfl
    rw [e, e2, ih, Int.pow_succ, Nat.add_assoc]
    rw [Int.add_mul, Int.mul_assoc, Int.add_assoc]
theorem keyT_space (s k n : Int) (h0 : 0 ≤ s) (h1 : s ≤ 18446744073709551615) : beR (keyT s k n) 1 8 = s := by
  have h := read_mid (str [66]) (str [k] ++ str (lowB n 8)) s 8 (fit8 s h0 h1)
  rw [keyT_parts, app_assoc (str [66] ++ str (lowB s 8))]
  exact h
theorem keyT_kind (s k n : Int) (h0 : 0 ≤ k) (h1 : k ≤ 255) : beR (keyT s k n) 9 1 = k := by
  have e := app_size (str [66]) (str (lowB s 8))
  have e66 := str_size [(66 : Int)]
  have e8 := str_size (lowB s 8)
  have ek := str_size [k]
  rw [lowB_length] at e8
  have e2 := app_size (str [66] ++ str (lowB s 8)) (str [k])
  simp only [List.length_cons, List.length_nil] at e66 ek
  rw [e66, e8] at e
  rw [e, ek] at e2
  rw [beR_one, keyT_parts, bt_append_left _ _ _ (by omega)]
  have h := bt_append_right (str [66] ++ str (lowB s 8)) (str [k]) 0
  rw [e] at h
  rw [h]
  exact one_bt k h0 h1
theorem keyT_number (s k n : Int) (h0 : 0 ≤ n) (h1 : n ≤ 18446744073709551615) : beR (keyT s k n) 10 8 = n := by
  have e := app_size (str [66]) (str (lowB s 8))
  have e66 := str_size [(66 : Int)]
  have e8 := str_size (lowB s 8)
  have ek := str_size [k]
  rw [lowB_length] at e8
  have e2 := app_size (str [66] ++ str (lowB s 8)) (str [k])
  simp only [List.length_cons, List.length_nil] at e66 ek
  rw [e66, e8] at e
  rw [e, ek] at e2
  have h := read_mid (str [66] ++ str (lowB s 8) ++ str [k]) ByteArray.empty n 8 (fit8 n h0 h1)
  rw [e2, ByteArray.append_empty] at h
  rw [keyT_parts]
  exact h
theorem keyT_letter (s k n : Int) : beR (keyT s k n) 0 1 = 66 := by
  have e := app_size (str [66]) (str (lowB s 8))
  have e0 := str_size [(66 : Int)]
  simp at e0
  have e2 := app_size (str [66] ++ str (lowB s 8)) (str [k])
  rw [beR_one, keyT_parts, bt_append_left _ _ _ (by omega), bt_append_left _ _ _ (by omega), bt_append_left _ _ _ (by omega)]
  exact one_bt 66 (by omega) (by omega)
def keyV (s k n : Int) : Int := ((66 * 18446744073709551616 + s) * 256 + k) * 18446744073709551616 + n
theorem keyT_val (s k n : Int) (s0 : 0 ≤ s) (s1 : s ≤ 18446744073709551615) (k0 : 0 ≤ k) (k1 : k ≤ 255) (n0 : 0 ≤ n) (n1 : n ≤ 18446744073709551615) : beR (keyT s k n) 0 18 = keyV s k n := by
  rw [beR_split (keyT s k n) 0 10 8, beR_split (keyT s k n) 0 9 1, beR_split (keyT s k n) 0 1 8, Nat.zero_add, Nat.zero_add, Nat.zero_add, keyT_letter, keyT_space s k n s0 s1, keyT_kind s k n k0 k1, keyT_number s k n n0 n1]
  rfl
theorem keyT_low (s k n : Int) (s0 : 0 ≤ s) (s1 : s ≤ 18446744073709551615) (k0 : 0 ≤ k) (k1 : k ≤ 255) (n0 : 0 ≤ n) (n1 : n ≤ 18446744073709551615) : keyT s k n = str (lowB (keyV s k n) 18) ∧ keyV s k n / 256 ^ 18 = 0 := by
  rw [← keyT_val s k n s0 s1 k0 k1 n0 n1]
  have hz := keyT_size s k n
  refine ⟨?_, read_fits _ _ _⟩
  rw [put_read (keyT s k n) 0 18 (by omega), ext_all _ _ (by omega)]
theorem key_same (s k n t l m : Int) (s0 : 0 ≤ s) (s1 : s ≤ 9223372036854775807) (k0 : 0 ≤ k) (k1 : k ≤ 255) (n0 : 0 ≤ n) (n1 : n ≤ 9223372036854775807) (t0 : 0 ≤ t) (t1 : t ≤ 9223372036854775807) (l0 : 0 ≤ l) (l1 : l ≤ 255) (m0 : 0 ≤ m) (m1 : m ≤ 9223372036854775807) :
    ((keyT s k n).toList == (keyT t l m).toList) = ((s == t) && (k == l) && (n == m)) := by
  obtain ⟨e1, f1⟩ := keyT_low s k n s0 (by omega) k0 k1 n0 (by omega)
  obtain ⟨e2, f2⟩ := keyT_low t l m t0 (by omega) l0 l1 m0 (by omega)
  rw [e1, e2, same_iff _ _ 18 f1 f2]
  rw [Bool.eq_iff_iff]
  simp only [beq_iff_eq, Bool.and_eq_true]
  unfold keyV
  omega
theorem key_less (s k n t l m : Int) (s0 : 0 ≤ s) (s1 : s ≤ 9223372036854775807) (k0 : 0 ≤ k) (k1 : k ≤ 255) (n0 : 0 ≤ n) (n1 : n ≤ 9223372036854775807) (t0 : 0 ≤ t) (t1 : t ≤ 9223372036854775807) (l0 : 0 ≤ l) (l1 : l ≤ 255) (m0 : 0 ≤ m) (m1 : m ≤ 9223372036854775807) :
    Op.bytesLess (keyT s k n).toList (keyT t l m).toList = decide (s < t ∨ s = t ∧ (k < l ∨ k = l ∧ n < m)) := by
  obtain ⟨e1, f1⟩ := keyT_low s k n s0 (by omega) k0 k1 n0 (by omega)
  obtain ⟨e2, f2⟩ := keyT_low t l m t0 (by omega) l0 l1 m0 (by omega)
  rw [e1, e2, less_iff _ _ 18 f1 f2, decide_eq_decide]
  unfold keyV
  omega

set_option maxHeartbeats 6400000 in
theorem law_core (s k n t l m S K M T L O : Int) (a b : ByteArray) (w : World) (ha : a.size = 18) (hb : b.size = 18)
    (W : Hid (∀ w, (Calls Try.prog 10 #[.int .i64 s] w fun e w' => e = .returned (.int .i64 S) ∧ w' = w) ∧ (Calls Try.prog 10 #[.int .i64 n] w fun e w' => e = .returned (.int .i64 M) ∧ w' = w) ∧ (Calls Try.prog 10 #[.int .i64 t] w fun e w' => e = .returned (.int .i64 T) ∧ w' = w) ∧ (Calls Try.prog 10 #[.int .i64 m] w fun e w' => e = .returned (.int .i64 O) ∧ w' = w)))
    (W2 : Hid (∀ w, (Calls Try.prog 11 #[.int .i64 k] w fun e w' => e = .returned (.int .i64 K) ∧ w' = w) ∧ (Calls Try.prog 11 #[.int .i64 l] w fun e w' => e = .returned (.int .i64 L) ∧ w' = w)))
    (A : Hid (∀ w, Calls Try.prog 9 #[.int .i64 S, .int .i64 K, .int .i64 M] w fun e w' => e = .returned (.tuple #[.string a, .int .i64 0]) ∧ Below w.heap.size w w'))
    (B : Hid (∀ w, Calls Try.prog 9 #[.int .i64 T, .int .i64 L, .int .i64 O] w fun e w' => e = .returned (.tuple #[.string b, .int .i64 0]) ∧ Below w.heap.size w w'))
    (p q r x y z : Bool) (hp : (S == T) = p) (hq : (K == L) = q) (hr : (M == O) = r) (hx : decide (S < T) = x) (hy : decide (K < L) = y) (hz : decide (M < O) = z)
    (hs : (a.toList == b.toList) = (p && q && r)) (hl : Op.bytesLess a.toList b.toList = (if p then if q then z else y else x)) :
    Calls Try.prog 3 #[.int .i64 s, .int .i64 k, .int .i64 n, .int .i64 t, .int .i64 l, .int .i64 m] w fun e w' => e = .returned (.bool true) ∧ Below w.heap.size w w' := by
  cases p <;> cases q <;> cases r <;> simp only [Bool.and_true, Bool.and_false, Bool.true_and, Bool.false_and, if_true, Bool.false_eq_true, if_false] at hs hl
  all_goals
    go_enter Try.func3, Try.ntmps3
    go_wp2_with fail
    refine (W.out _).1.mono ?_
    rintro _ _ ⟨rfl, hw⟩; rw [hw]; clear hw
    go_wp2_with fail
    refine (W2.out _).1.mono ?_
    rintro _ _ ⟨rfl, hw⟩; rw [hw]; clear hw
    go_wp2_with fail
    refine (W.out _).2.1.mono ?_
    rintro _ _ ⟨rfl, hw⟩; rw [hw]; clear hw
    go_wp2_with fail
    refine (A.out _).mono ?_
    rintro _ w1 ⟨rfl, hb1⟩
    go_wp2_with fail
    refine (W.out _).2.2.1.mono ?_
    rintro _ _ ⟨rfl, hw⟩; rw [hw]; clear hw
    go_wp2_with fail
    refine (W2.out _).2.mono ?_
    rintro _ _ ⟨rfl, hw⟩; rw [hw]; clear hw
    go_wp2_with fail
    refine (W.out _).2.2.2.mono ?_
    rintro _ _ ⟨rfl, hw⟩; rw [hw]; clear hw
    go_wp2_with fail
    refine (B.out _).mono ?_
    rintro _ w2 ⟨rfl, hb2⟩
    have HB : Hid (Below w.heap.size w w2) := over hb1 hb2
    clear hb1 hb2 A B
    go_wp2_with (first
      | (go_at_call 10; (first | (with_reducible refine (W.out _).1.mono ?_) | (with_reducible refine (W.out _).2.1.mono ?_) | (with_reducible refine (W.out _).2.2.1.mono ?_) | (with_reducible refine (W.out _).2.2.2.mono ?_)); rintro _ _ ⟨rfl, hw⟩; rw [hw]; clear hw)
      | (go_at_call 11; (first | (with_reducible refine (W2.out _).1.mono ?_) | (with_reducible refine (W2.out _).2.mono ?_)); rintro _ _ ⟨rfl, hw⟩; rw [hw]; clear hw))
    go_ret
    exact ⟨by first | rfl | (congr 1; congr 1; simp [hs, hl, hp, hq, hr, hx, hy, hz]), HB.out⟩
theorem book_keys (s k n t l m : Int) (w : World) (hs : -9223372036854775808 ≤ s ∧ s ≤ 9223372036854775807) (hk : -9223372036854775808 ≤ k ∧ k ≤ 9223372036854775807) (hn : -9223372036854775808 ≤ n ∧ n ≤ 9223372036854775807) (ht : -9223372036854775808 ≤ t ∧ t ≤ 9223372036854775807) (hl : -9223372036854775808 ≤ l ∧ l ≤ 9223372036854775807) (hm : -9223372036854775808 ≤ m ∧ m ≤ 9223372036854775807) :
    Calls Try.prog 3 #[.int .i64 s, .int .i64 k, .int .i64 n, .int .i64 t, .int .i64 l, .int .i64 m] w fun e w' => e = .returned (.bool true) ∧ Below w.heap.size w w' := by
  have ha := wi_ok s hs.2
  have an := wi_ok n hn.2
  have at' := wi_ok t ht.2
  have am := wi_ok m hm.2
  have ak := kd_ok k
  have al := kd_ok l
  refine law_core s k n t l m (wi s) (kd k) (wi n) (wi t) (kd l) (wi m) (keyT (wi s) (kd k) (wi n)) (keyT (wi t) (kd l) (wi m)) w (keyT_size _ _ _) (keyT_size _ _ _) (fun w => ⟨withinC s w, withinC n w, withinC t w, withinC m w⟩) (fun w => ⟨kindOfC k w hk.1 hk.2, kindOfC l w hl.1 hl.2⟩)
    (fun w => keyC _ _ _ w ha.1 ha.2 ak.1 ak.2 an.1 an.2) (fun w => keyC _ _ _ w at'.1 at'.2 al.1 al.2 am.1 am.2) _ _ _ _ _ _ rfl rfl rfl rfl rfl rfl (key_same _ _ _ _ _ _ ha.1 ha.2 (by omega) ak.2 an.1 an.2 at'.1 at'.2 (by omega) al.2 am.1 am.2) ?_
  rw [key_less _ _ _ _ _ _ ha.1 ha.2 (by omega) ak.2 an.1 an.2 at'.1 at'.2 (by omega) al.2 am.1 am.2]
  generalize wi s = S
  generalize wi t = T
  generalize kd k = K
  generalize kd l = L
  generalize wi n = M
  generalize wi m = O
  by_cases e1 : S = T
  · subst e1
    by_cases e2 : K = L
    · subst e2; simp
    · simp [e2]
  · simp [e1]
end Go.Proofs.Ytgioekepoebibaa.qc
