import Derived.Test.YtpbapaghcabehaaDoorWb
namespace Go.Proofs.YtpbapaghcabehaaDoor.wc
open Go.RowKit Go.PlainAid Go.Shelf
open Go.Proofs.YtpbapaghcabehaaDoor.ta Go.Proofs.YtpbapaghcabehaaDoor.tb Go.Proofs.YtpbapaghcabehaaDoor.tc Go.Proofs.YtpbapaghcabehaaDoor.tj Go.Proofs.YtpbapaghcabehaaDoor.wa Go.Proofs.YtpbapaghcabehaaDoor.wb
set_option linter.unusedVariables false

theorem one_str (q : ByteArray) (k : Nat) (h : k < q.size) : q.extract k (k + 1) = str [bt q k] := by
  apply bs_inj
  have h0 := bt_nonneg q k; have h1 := bt_le q k
  rw [bs_str _ (fun x hx => by rw [List.mem_singleton.1 hx]; omega), bs_extract q k (k + 1) (by omega) (by omega)]
  apply List.ext_getElem
  · rw [List.length_drop, List.length_take, bs_length]; simp; omega
  · intro i h2 h3
    have : i = 0 := by simpa using h3
    subst this
    rw [List.getElem_drop, List.getElem_take, bs_get q _ (by omega)]
    simp

set_option maxHeartbeats 400000 in
theorem sign (al : ByteArray) (v : Int) (h0 : 0 ≤ v) (h1 : v < al.size) (hz : al.size ≤ 64) (w : World) :
    Calls Tryd.prog 32 #[.string al, .int .i64 v] w fun e w' => e = .returned (.string (str [bt al v.toNat])) ∧ w' = w := by
  obtain ⟨n, rfl⟩ := Int.eq_ofNat_of_zero_le h0
  have hn : n < al.size := by omega
  have HE : Hid (al.extract n (n + 1) = str [bt al n]) := one_str al n hn
  have hk : ((n : Int) + 1).toNat = n + 1 := by omega
  have hk1 : (n : Int) + 1 ≤ al.size := by omega
  have hk2 : (n : Int) ≤ (n : Int) + 1 := by omega
  have hk3 : (n : Int) < al.size := by omega
  go_enter Tryd.func32, Tryd.ntmps32
  go_wp2
  go_ret
  exact ⟨by rw [show ((n : Int).toNat) = n from rfl, ← HE.out]; rfl, rfl⟩
theorem small_at : ∀ i : Fin 10, bt (⟨#[48, 49, 50, 51, 52, 53, 54, 55, 56, 57, 97, 98, 99, 100, 101, 102]⟩ : ByteArray) i.val = 48 + (i.val : Int) := by decide +kernel
theorem digit (v : Int) (h0 : 0 ≤ v) (h1 : v ≤ 9) (w : World) :
    Calls Tryd.prog 32 #[.string ⟨#[48, 49, 50, 51, 52, 53, 54, 55, 56, 57, 97, 98, 99, 100, 101, 102]⟩, .int .i64 v] w fun e w' => e = .returned (.string (str [48 + v])) ∧ w' = w := by
  have h := sign ⟨#[48, 49, 50, 51, 52, 53, 54, 55, 56, 57, 97, 98, 99, 100, 101, 102]⟩ v h0 (by show v < 16; omega) (by decide) w
  have e := small_at ⟨v.toNat, by omega⟩
  simp only at e
  rw [e, show ((v.toNat : Nat) : Int) = v by omega] at h
  exact h

set_option maxHeartbeats 1600000 in
theorem rDec (k : Nat) : ∀ (n : Int), I64 n → n.natAbs < k → ∀ w, Calls Tryd.prog 18 #[.int .i64 n] w fun e w' => e = .returned (.string (decS n)) ∧ w' = w := by
  induction k with
  | zero => intro n _ h; omega
  | succ k ih =>
    intro n hn hk w
    obtain ⟨h0, h1⟩ := hn
    by_cases a : 0 ≤ n ∧ n ≤ 9
    · obtain ⟨a0, a1⟩ := a
      have D : Hid (Calls _ _ _ _ _) := digit n a0 a1 w
      rw [← dec_one n a0 a1] at D
      clear ih hk
      generalize decS n = X at *
      go_enter Tryd.func18, Tryd.ntmps18
      go_wp2_with fail
      refine D.out.mono ?_
      rintro e w1 ⟨rfl, rfl⟩
      go_wp2
      go_ret
      exact ⟨rfl, rfl⟩
    · by_cases b : 0 < n
      · have b' : n > 0 := b
        have b9 : ¬ n ≤ 9 := by omega
        have b0 : 0 ≤ n := by omega
        have e1 : n.tdiv 10 = n / 10 := Int.tdiv_eq_ediv_of_nonneg (by omega)
        have e2 : n.tmod 10 = n % 10 := Int.tmod_eq_emod_of_nonneg (by omega)
        have R : Hid (Calls _ _ _ _ _) := ih (n.tdiv 10) (by rw [e1]; constructor <;> omega) (by rw [e1]; omega) w
        have D : Hid (Calls _ _ _ _ _) := digit (n.tmod 10) (by rw [e2]; omega) (by rw [e2]; omega) w
        have HE : Hid (decS n = decS (n.tdiv 10) ++ str [48 + n.tmod 10]) := dec_up n (by omega)
        have w1 : IntKind.i64.wrap (n.tdiv 10) = n.tdiv 10 := wrap_id (by rw [e1]; constructor <;> omega)
        have w2 : IntKind.i64.wrap (n.tmod 10) = n.tmod 10 := wrap_id (by rw [e2]; constructor <;> omega)
        have hX : (decS (n.tdiv 10)).size ≤ 20 := dec_size _ (by rw [e1]; constructor <;> omega)
        have hY : (str [48 + n % 10]).size ≤ 1 := by rw [str_size]; simp
        rw [e2] at D HE w2
        clear ih hk e1 e2 a
        generalize decS (n.tdiv 10) = X at *
        generalize str [48 + n % 10] = Y at *
        obtain ⟨Z, HZ⟩ : ∃ Z, Hid (decS n = Z) := ⟨_, rfl⟩
        rw [HZ.out] at HE ⊢
        go_enter Tryd.func18, Tryd.ntmps18
        go_wp2_with fail
        refine R.out.mono ?_
        rintro e w1 ⟨rfl, rfl⟩
        go_wp2_with fail
        refine D.out.mono ?_
        rintro e w1 ⟨rfl, rfl⟩
        go_wp2
        go_ret
        exact ⟨by rw [HE.out]; rfl, rfl⟩
      · have b' : ¬ n > 0 := b
        have b0 : ¬ 0 ≤ n := fun h => a ⟨h, by omega⟩
        by_cases c : -10 < n
        · have c' : n > -10 := c
          have D : Hid (Calls _ _ _ _ _) := digit (-n) (by omega) (by omega) w
          have HE : Hid (decS n = (⟨#[45]⟩ : ByteArray) ++ str [48 + -n]) := dec_neg1 n (by omega) c
          have w1 : IntKind.i64.wrap (-n) = -n := wrap_id (by constructor <;> omega)
          have hY : (str [48 + -n]).size ≤ 1 := by rw [str_size]; simp
          have h45 : (⟨#[45]⟩ : ByteArray).size = 1 := rfl
          clear ih hk a
          generalize str [48 + -n] = Y at *
          obtain ⟨Z, HZ⟩ : ∃ Z, Hid (decS n = Z) := ⟨_, rfl⟩
          rw [HZ.out] at HE ⊢
          go_enter Tryd.func18, Tryd.ntmps18
          go_wp2_with fail
          refine D.out.mono ?_
          rintro e w1 ⟨rfl, rfl⟩
          go_wp2
          go_ret
          exact ⟨by rw [HE.out]; rfl, rfl⟩
        · have c' : ¬ n > -10 := c
          obtain ⟨m, hm⟩ : ∃ m : Int, n = -m := ⟨-n, by omega⟩
          have e1 : n.tdiv 10 = -(m / 10) := by rw [hm, Int.neg_tdiv, Int.tdiv_eq_ediv_of_nonneg (by omega)]
          have e2 : n.tmod 10 = -(m % 10) := by rw [hm, Int.neg_tmod, Int.tmod_eq_emod_of_nonneg (by omega)]
          have R : Hid (Calls _ _ _ _ _) := ih (n.tdiv 10) (by rw [e1]; constructor <;> omega) (by rw [e1]; omega) w
          have D : Hid (Calls _ _ _ _ _) := digit (-(n.tmod 10)) (by rw [e2]; omega) (by rw [e2]; omega) w
          have HE : Hid (decS n = decS (n.tdiv 10) ++ str [48 + -(n.tmod 10)]) := dec_down n (by omega)
          have w1 : IntKind.i64.wrap (n.tdiv 10) = n.tdiv 10 := wrap_id (by rw [e1]; constructor <;> omega)
          have w2 : IntKind.i64.wrap (n.tmod 10) = n.tmod 10 := wrap_id (by rw [e2]; constructor <;> omega)
          have w3 : IntKind.i64.wrap (-(n.tmod 10)) = -(n.tmod 10) := wrap_id (by rw [e2]; constructor <;> omega)
          have hX : (decS (n.tdiv 10)).size ≤ 20 := dec_size _ (by rw [e1]; constructor <;> omega)
          have hY : (str [48 + -(n.tmod 10)]).size ≤ 1 := by rw [str_size]; simp
          clear ih hk e1 e2 a hm
          generalize decS (n.tdiv 10) = X at *
          generalize str [48 + -(n.tmod 10)] = Y at *
          obtain ⟨Z, HZ⟩ : ∃ Z, Hid (decS n = Z) := ⟨_, rfl⟩
          rw [HZ.out] at HE ⊢
          go_enter Tryd.func18, Tryd.ntmps18
          go_wp2_with fail
          refine R.out.mono ?_
          rintro e w1 ⟨rfl, rfl⟩
          go_wp2_with fail
          refine D.out.mono ?_
          rintro e w1 ⟨rfl, rfl⟩
          go_wp2
          go_ret
          exact ⟨by rw [HE.out]; rfl, rfl⟩

theorem take_step (s : ByteArray) (k : Nat) (h : k < s.size) : unD ((bs s).take (k + 1)) = stpD (unD ((bs s).take k)) (bt s k) := by
  unfold unD
  rw [List.take_add_one, List.getElem?_eq_getElem (by rw [bs_length]; exact h), bs_get s k h]
  simp [List.foldl_append]

set_option maxHeartbeats 3200000 in
theorem rUnDec (s : ByteArray) (hs : s.size ≤ 281474976710656) (w : World) : Calls Tryd.prog 21 #[.string s] w fun e w' => e = .returned (unDecV s) ∧ w' = w := by
  have hgb := get_bt s
  obtain ⟨R, HR⟩ : ∃ R, Hid (unDecV s = R) := ⟨_, rfl⟩
  rw [HR.out]
  by_cases h20 : s.size ≤ 20
  · have h20' : (s.size : Int) ≤ 20 := by omega
    have HE1 : Hid (decS (unN s) = s → R = .tuple #[.int .i64 (unN s), .int .i64 0]) := by
      intro h
      rw [← HR.out]
      unfold unDecV
      rw [if_pos ⟨unN s, unN_in s, h⟩]
    have HE2 : Hid (decS (unN s) ≠ s → R = .tuple #[.int .i64 0, .int .i64 42]) := by
      intro h
      rw [← HR.out]
      unfold unDecV
      rw [if_neg]
      rintro ⟨m, hm, rfl⟩
      exact h (by rw [unN_dec m hm])
    have D : Hid (∀ w, Calls _ _ _ _ _) := fun w => rDec ((unN s).natAbs + 1) (unN s) (unN_in s) (by omega) w
    obtain ⟨F, HF⟩ : ∃ F, Hid (unD (bs s) = F) := ⟨_, rfl⟩
    obtain ⟨U, HU⟩ : ∃ U, Hid (unN s = U) := ⟨_, rfl⟩
    rw [HU.out] at HE1 HE2 D
    obtain ⟨X, HX⟩ : ∃ X, Hid (decS U = X) := ⟨_, rfl⟩
    rw [HX.out] at HE1 HE2 D
    go_enter Tryd.func21, Tryd.ntmps21
    go_wp2
    go_loopw [4, 5] (fun a i wr => ∃ (k : Nat) (A : Int), k ≤ s.size ∧ i = .int .i64 k ∧ a = .int .i64 A ∧ Hid (A = unD ((bs s).take k)) ∧ wr = w) (fun _ i _ => (s.size - intOf i).toNat)
    case atStart => exact ⟨0, 0, by omega, rfl, rfl, rfl, rfl⟩
    case round =>
      obtain ⟨k, A, hk, rfl, rfl, HA, rfl⟩ := hrel
      by_cases hlt : k < s.size
      · have hlt' : (k : Int) < s.size := by omega
        have c0 := bt_nonneg s k; have c1 := bt_le s k
        have HST := take_step s k hlt
        obtain ⟨c, HC⟩ : ∃ c, Hid (bt s k = c) := ⟨_, rfl⟩
        have hga : ∀ (h : k < s.size), ((s[k]'h).toNat : Int) = c := fun h => (hgb k h).trans HC.out
        rw [HC.out] at c0 c1 HST
        rw [← HA.out] at HST
        have HS : Hid (unD ((bs s).take (k + 1)) = stpD A c) := HST
        clear HST hgb
        by_cases hd : 48 ≤ c ∧ c ≤ 57
        · obtain ⟨d0, d1⟩ := hd
          have HN : Hid (stpD A c = IntKind.i64.wrap (IntKind.i64.wrap (10 * A) - (c - 48))) := by show _ = _; unfold stpD; rw [if_pos ⟨d0, d1⟩]
          have wc : IntKind.u8.wrap (c - 48) = c - 48 := by rw [IntKind.wrap_u8]; omega
          have wd : IntKind.i64.wrap (c - 48) = c - 48 := by rw [IntKind.wrap_i64]; omega
          have g1 : c ≥ 48 := d0
          go_wp2
          go_roundw
          case rel => exact ⟨k + 1, _, by omega, by go_num, rfl, by show _ = _; rw [HS.out, HN.out]; simp only [IntWalk.i64_left], by first | rfl | trivial⟩
          case measure => simp [intOf]; omega
        · have HN : Hid (stpD A c = A) := by show _ = _; unfold stpD; rw [if_neg hd]
          rcases Int.lt_or_le c 48 with d | d
          · have g1 : ¬ c ≥ 48 := by omega
            clear hd
            go_wp2
            go_roundw
            case rel => exact ⟨k + 1, _, by omega, by go_num, rfl, by show _ = _; rw [HS.out, HN.out], by first | rfl | trivial⟩
            case measure => simp [intOf]; omega
          · have g1 : c ≥ 48 := by omega
            have g2 : ¬ c ≤ 57 := fun h => hd ⟨d, h⟩
            clear hd
            go_wp2
            go_roundw
            case rel => exact ⟨k + 1, _, by omega, by go_num, rfl, by show _ = _; rw [HS.out, HN.out], by first | rfl | trivial⟩
            case measure => simp [intOf]; omega
      · have hlt' : ¬ (k : Int) < s.size := by omega
        have hA : A = F := by rw [HA.out, List.take_of_length_le (by rw [bs_length]; omega), HF.out]
        subst hA
        have HUN : Hid (U = if s.size = 0 ∨ bt s 0 ≠ 45 then IntKind.i64.wrap (-A) else A) := by
          show _ = _
          rw [← HU.out]
          unfold unN
          rw [HF.out]
        clear HA
        by_cases h0 : s.size = 0
        · have HV : Hid (U = IntKind.i64.wrap (-A)) := by show _ = _; rw [HUN.out, if_pos (.inl h0)]
          rw [IntWalk.i64_left] at HV
          rw [HV.out] at D
          clear HUN
          have h0' : ((s.size : Int) == 0) = true := by rw [h0]; rfl
          clear h0
          go_wp2_with fail
          refine (D.out _).mono ?_
          rintro e w1 ⟨rfl, rfl⟩
          by_cases hX : X = s
          · have hE := HE1.out hX
            rw [HV.out] at hE
            have HE : Hid (R = _) := hE
            have hq : (X.toList == s.toList) = true := by rw [toList_bs]; exact decide_eq_true hX
            clear hE hX
            go_wp2
            go_ret2
            exact ⟨by rw [HE.out]; rfl, rfl⟩
          · have HE : Hid (R = _) := HE2.out hX
            have hq : (X.toList == s.toList) = false := by rw [toList_bs]; exact decide_eq_false hX
            clear hX
            go_wp2
            go_ret2
            exact ⟨by rw [HE.out]; rfl, rfl⟩
        · have h0' : ((s.size : Int) == 0) = false := beq_eq_false_iff_ne.2 (by omega)
          have hpos : 0 < s.size := by omega
          have hpos' : (0 : Int) < s.size := by omega
          obtain ⟨c, HC⟩ : ∃ c, Hid (bt s 0 = c) := ⟨_, rfl⟩
          have hga : ∀ (h : 0 < s.size), ((s[0]'h).toNat : Int) = c := fun h => (hgb 0 h).trans HC.out
          clear hgb
          by_cases h45 : c = 45
          · have HV : Hid (U = A) := by show _ = _; rw [HUN.out, if_neg (by rw [HC.out]; simp [h0, h45])]
            rw [HV.out] at D
            clear HUN h0
            have h45' : (c == 45) = true := beq_iff_eq.2 h45
            clear h45
            go_wp2_with fail
            refine (D.out _).mono ?_
            rintro e w1 ⟨rfl, rfl⟩
            by_cases hX : X = s
            · have hE := HE1.out hX
              rw [HV.out] at hE
              have HE : Hid (R = _) := hE
              have hq : (X.toList == s.toList) = true := by rw [toList_bs]; exact decide_eq_true hX
              clear hE hX
              go_wp2
              go_ret2
              exact ⟨by rw [HE.out]; rfl, rfl⟩
            · have HE : Hid (R = _) := HE2.out hX
              have hq : (X.toList == s.toList) = false := by rw [toList_bs]; exact decide_eq_false hX
              clear hX
              go_wp2
              go_ret2
              exact ⟨by rw [HE.out]; rfl, rfl⟩
          · have HV : Hid (U = IntKind.i64.wrap (-A)) := by show _ = _; rw [HUN.out, if_pos (.inr (by rw [HC.out]; exact h45))]
            rw [IntWalk.i64_left] at HV
            rw [HV.out] at D
            clear HUN h0
            have h45' : (c == 45) = false := beq_eq_false_iff_ne.2 h45
            clear h45
            go_wp2_with fail
            refine (D.out _).mono ?_
            rintro e w1 ⟨rfl, rfl⟩
            by_cases hX : X = s
            · have hE := HE1.out hX
              rw [HV.out] at hE
              have HE : Hid (R = _) := hE
              have hq : (X.toList == s.toList) = true := by rw [toList_bs]; exact decide_eq_true hX
              clear hE hX
              go_wp2
              go_ret2
              exact ⟨by rw [HE.out]; rfl, rfl⟩
            · have HE : Hid (R = _) := HE2.out hX
              have hq : (X.toList == s.toList) = false := by rw [toList_bs]; exact decide_eq_false hX
              clear hX
              go_wp2
              go_ret2
              exact ⟨by rw [HE.out]; rfl, rfl⟩
  · have h20' : ¬ (s.size : Int) ≤ 20 := by omega
    have HE : Hid (R = .tuple #[.int .i64 0, .int .i64 42]) := by
      show _ = _
      rw [← HR.out]
      unfold unDecV
      rw [if_neg]
      rintro ⟨m, hm, rfl⟩
      exact h20 (dec_size m hm)
    clear hgb
    go_enter Tryd.func21, Tryd.ntmps21
    go_wp2
    go_ret2
    exact ⟨by rw [HE.out]; rfl, rfl⟩
end Go.Proofs.YtpbapaghcabehaaDoor.wc
