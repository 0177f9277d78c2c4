import Derived.Test.YtkgadgkomdjplaaNf
namespace Go.Proofs.Ytkgadgkomdjplaa.ng
open Go.RowKit Go.PlainAid
open Go.Proofs.Ytkgadgkomdjplaa.na Go.Proofs.Ytkgadgkomdjplaa.nf
set_option linter.unusedVariables false

set_option maxHeartbeats 800000 in
theorem rvar_any (b : ByteArray) (p : Nat) (w : World) (hb : b.size ≤ 9223372036854775807) (hp : p ≤ b.size) :
    Calls Try.prog 71 #[.string b, .int .i64 p] w fun e w' => e = .returned (.tuple #[.int .u64 (varR b p 10 0 0).1, .int .i64 (varR b p 10 0 0).2.1, .int .i64 (varR b p 10 0 0).2.2]) ∧ w' = w := by
  have hbt := get_bt b
  have hd0 : decide ((p : Int) < 0) = false := by simp
  have hd1 : decide (b.size < p) = false := by simp; omega
  go_enter Try.func71, Try.ntmps71
  go_wp2_with fail
  go_loop [7, 8, 9] (fun v u i => ∃ (k : Nat) (x y : Int), k ≤ 10 ∧ p + k ≤ b.size ∧ v = .int .u64 x ∧ u = .int .u64 y ∧ i = .int .i64 k ∧ 0 ≤ x ∧ x < 128 ^ k ∧ (k ≤ 9 → y = 128 ^ k) ∧ varR b p 10 0 0 = varR b p (10 - k) k x) (fun _ _ i => (10 - intOf i).toNat)
  case atStart => exact ⟨0, 0, 1, by omega, by omega, rfl, rfl, rfl, by omega, by decide, fun _ => rfl, rfl⟩
  case round =>
    obtain ⟨k, x, y, hk, hpk, rfl, rfl, rfl, hx0, hx1, hy, hR⟩ := hrel
    by_cases h10 : k = 10
    · have HR : Hid (varR b p 10 0 0 = (0, 0, 11)) := by subst h10; exact hR
      have g : ¬ (k : Int) < 10 := by omega
      clear hR h10 hy
      go_wp2
      go_ret3
      exact ⟨fin3 _ _ _ _ HR.out, rfl⟩
    have g : (k : Int) < 10 := by omega
    have HY : Hid _ := hy (by omega)
    clear hy
    obtain ⟨f, hf⟩ : ∃ f, 10 - k = f + 1 := ⟨9 - k, by omega⟩
    rw [hf] at hR
    by_cases hs : b.size ≤ p + k
    · have HR : Hid _ := hR.trans (varR_short b p f k x hs)
      clear hR hf h10
      go_wp2
      go_ret3
      exact ⟨fin3 _ _ _ _ HR.out, rfl⟩
    have gs : ¬ (b.size : Int) ≤ (p : Int) + k := by omega
    have hlt : p + k < b.size := by omega
    have hc0 := bt_nonneg b (p + k)
    have hc1 := bt_le b (p + k)
    by_cases ho : k = 9 ∧ 1 < bt b (p + k)
    · have HR : Hid _ := hR.trans (varR_over b p f k x hs ho)
      have g9 : ((k : Int) == 9) = true := by rw [beq_iff_eq]; omega
      have g1 := ho.2
      clear hR hf h10 ho
      go_wp2
      go_ret3
      exact ⟨fin3 _ _ _ _ HR.out, rfl⟩
    by_cases hz : 0 < k ∧ bt b (p + k) = 0
    · have HR : Hid _ := hR.trans (varR_form b p f k x hs ho hz)
      have gz : (bt b (p + k) == 0) = true := by rw [beq_iff_eq]; exact hz.2
      have g0 : (0 : Int) < k := by omega
      have gl : ¬ 1 < bt b (p + k) := by omega
      clear hR hf h10 ho hz
      go_wp2
      all_goals
        go_ret3
        exact ⟨fin3 _ _ _ _ HR.out, rfl⟩
    have h9 : k = 9 → bt b (p + k) ≤ 1 := fun e => Int.not_lt.mp fun h => ho ⟨e, h⟩
    have h0 : 0 < k → bt b (p + k) ≠ 0 := fun e h => hz ⟨e, h⟩
    have hmax := group_max x (bt b (p + k)) k (by omega) hx1 h9 hc0
    have hnn := group_nonneg (bt b (p + k)) k
    have hlt2 := group_lt x (bt b (p + k)) k hx1
    have H9 : Hid _ := h9
    have H0 : Hid _ := h0
    have hyu : IntKind.u64.wrap (bt b (p + k) % 128 * y) = bt b (p + k) % 128 * 128 ^ k := by
      rw [HY.out]; exact u64_nonneg hnn (by omega)
    have HV : Hid (IntKind.u64.wrap (x + IntKind.u64.wrap (bt b (p + k) % 128 * y)) = x + bt b (p + k) % 128 * 128 ^ k) := by
      show _ = _
      rw [hyu]; exact u64_nonneg (by omega) hmax
    have key : (((k : Int) == 9) = true ∧ ¬ 1 < bt b (p + k) ∧ (0 : Int) < k ∧ (bt b (p + k) == 0) = false) ∨ (((k : Int) == 9) = false ∧ (0 : Int) < k ∧ (bt b (p + k) == 0) = false) ∨ (((k : Int) == 9) = false ∧ ¬ (0 : Int) < k) := by
      by_cases e9 : k = 9
      · exact .inl ⟨by rw [beq_iff_eq]; omega, by have := h9 e9; omega, by omega, by rw [beq_eq_false_iff_ne]; exact h0 (by omega)⟩
      by_cases e0 : k = 0
      · exact .inr (.inr ⟨by rw [beq_eq_false_iff_ne]; omega, by omega⟩)
      exact .inr (.inl ⟨by rw [beq_eq_false_iff_ne]; omega, by omega, by rw [beq_eq_false_iff_ne]; exact h0 (by omega)⟩)
    by_cases hl : bt b (p + k) < 128
    · have HR : Hid _ := hR.trans (varR_last b p f k x hs ho hz hl)
      clear hR hf h10 ho hz h9 h0 hlt2 hyu
      rcases key with ⟨k1, k2, k3, k4⟩ | ⟨k1, k3, k4⟩ | ⟨k1, k3⟩
      all_goals
        go_wp2
        go_ret3
        exact ⟨fin3 (varR b p 10 0 0) _ _ _ (by rw [HV.out]; exact HR.out), rfl⟩
    · have HR : Hid _ := hR.trans (varR_next b p f k x hs ho hz hl)
      have HF : Hid _ := hf
      have HL : Hid _ := hlt2
      clear hR hf h10 ho hz h9 h0 hyu hlt2
      rcases key with ⟨k1, k2, k3, k4⟩ | ⟨k1, k3, k4⟩ | ⟨k1, k3⟩
      · exfalso; omega
      all_goals
        go_wp2
        go_round
        case rel =>
          refine ⟨k + 1, _, _, by omega, by omega, rfl, rfl, by go_num, ?_, ?_, ?_, ?_⟩
          · rw [HV.out]; omega
          · rw [HV.out]; exact HL.out
          · intro hk9
            have h1 := pow_nine (k + 1) hk9
            have h2 := pow_pos (k + 1)
            rw [HY.out]
            rw [Int.pow_succ] at h1 h2 ⊢
            exact u64_nonneg (by omega) (by omega)
          · rw [HV.out, HR.out]; congr 1; have := HF.out; omega
        case measure => simp [intOf]; omega

theorem len_yes (n : Int) (w : World) (h1 : 1 ≤ n) (h2 : n ≤ 8) :
    Calls Try.prog 119 #[.int .i64 n] w fun e w' => e = .returned (.bool true) ∧ w' = w := by
  go_enter Try.func119, Try.ntmps119
  go_wp2
  go_ret
  exact ⟨rfl, rfl⟩

theorem len_no (n : Int) (w : World) (h : n < 1 ∨ 8 < n) :
    Calls Try.prog 119 #[.int .i64 n] w fun e w' => e = .returned (.bool false) ∧ w' = w := by
  by_cases h1 : 1 ≤ n
  · have h2 : ¬ n ≤ 8 := by omega
    go_enter Try.func119, Try.ntmps119
    go_wp2
    go_ret
    exact ⟨rfl, rfl⟩
  · go_enter Try.func119, Try.ntmps119
    go_wp2
    go_ret
    exact ⟨rfl, rfl⟩

theorem sum_over (a b m : Int) (w : World) (ha : 0 ≤ a) (hm : 0 ≤ m) (hm' : m ≤ 9223372036854775807) (h : m - a < b) :
    Calls Try.prog 120 #[.int .i64 a, .int .i64 b, .int .i64 m] w fun e w' => e = .returned (.tuple #[.int .i64 0, .int .i64 11]) ∧ w' = w := by
  by_cases h1 : m < a
  · go_enter Try.func120, Try.ntmps120
    go_wp2
    go_ret2
    exact ⟨rfl, rfl⟩
  · go_enter Try.func120, Try.ntmps120
    go_wp2
    go_ret2
    exact ⟨rfl, rfl⟩

theorem sum_ok (a b m : Int) (w : World) (ha : 0 ≤ a) (hb : 0 ≤ b) (hm : a ≤ m) (hm' : m ≤ 9223372036854775807) (h : ¬ m - a < b) :
    Calls Try.prog 120 #[.int .i64 a, .int .i64 b, .int .i64 m] w fun e w' => e = .returned (.tuple #[.int .i64 (a + b), .int .i64 0]) ∧ w' = w := by
  have h1 : ¬ m < a := by omega
  go_enter Try.func120, Try.ntmps120
  go_wp2
  go_ret2
  exact ⟨rfl, rfl⟩

theorem be_range (b : ByteArray) (p n : Int) (w : World) (hb : b.size ≤ 9223372036854775807) (h : n < 1 ∨ 8 < n ∨ p < 0 ∨ (b.size : Int) - p < n) :
    Calls Try.prog 102 #[.string b, .int .i64 p, .int .i64 n] w fun e w' => e = .returned (.tuple #[.int .u64 0, .int .i64 10]) ∧ w' = w := by
  by_cases h1 : n < 1 ∨ 8 < n
  · have H1 : Hid _ := h1
    clear h1 h
    go_enter Try.func102, Try.ntmps102
    go_wp2_with (go_at_call 119; refine (len_no n _ H1.out).mono ?_; rintro e w' ⟨rfl, rfl⟩)
    go_ret2
    exact ⟨rfl, rfl⟩
  by_cases h2 : p < 0
  · have g1 : 1 ≤ n := by omega
    have g2 : n ≤ 8 := by omega
    clear h1 h
    go_enter Try.func102, Try.ntmps102
    go_wp2_with (go_at_call 119; refine (len_yes n _ g1 g2).mono ?_; rintro e w' ⟨rfl, rfl⟩)
    go_ret2
    exact ⟨rfl, rfl⟩
  have g1 : 1 ≤ n := by omega
  have g2 : n ≤ 8 := by omega
  have g3 : (b.size : Int) - p < n := by omega
  clear h1 h
  go_enter Try.func102, Try.ntmps102
  go_wp2_with (first | (go_at_call 119; refine (len_yes n _ g1 g2).mono ?_; rintro e w' ⟨rfl, rfl⟩) | (go_at_call 120; refine (sum_over p n _ _ (by omega) (by omega) (by omega) g3).mono ?_; rintro e w' ⟨rfl, rfl⟩))
  go_ret2
  exact ⟨rfl, rfl⟩

theorem ret2_u (x y z : Int) (h : x = y) : Ending.returned (.tuple #[.int .u64 x, .int .i64 z]) = .returned (.tuple #[.int .u64 y, .int .i64 z]) := by
  subst h; rfl

set_option maxHeartbeats 800000 in
theorem be_any (b : ByteArray) (p n : Nat) (w : World) (hb : b.size ≤ 9223372036854775807) (h1 : 1 ≤ n) (h2 : n ≤ 8) (hp : p + n ≤ b.size) :
    Calls Try.prog 102 #[.string b, .int .i64 p, .int .i64 n] w fun e w' => e = .returned (.tuple #[.int .u64 (beR b p n), .int .i64 0]) ∧ w' = w := by
  have hbt := get_bt b
  have hd0 : decide ((p : Int) < 0) = false := by simp
  go_enter Try.func102, Try.ntmps102
  go_wp2_with (first | (go_at_call 119; refine (len_yes n _ (by omega) (by omega)).mono ?_; rintro e w' ⟨rfl, rfl⟩) | (go_at_call 120; refine (sum_ok p n _ _ (by omega) (by omega) (by omega) (by omega) (by omega)).mono ?_; rintro e w' ⟨rfl, rfl⟩))
  go_loop [10, 30] (fun v i => ∃ (k : Nat), k ≤ n ∧ v = .int .u64 (beR b p k) ∧ i = .int .i64 k) (fun _ i => (n - intOf i).toNat)
  case atStart => exact ⟨0, by omega, rfl, rfl⟩
  case round =>
    obtain ⟨k, hk, rfl, rfl⟩ := hrel
    by_cases hlt : k < n
    · have hlt' : (k : Int) < n := by omega
      have hpk : p + k < b.size := by omega
      have hc0 := bt_nonneg b (p + k)
      have hc1 := bt_le b (p + k)
      have hv0 := beR_nonneg b p k
      have hv1 := beR_seven b p k (by omega)
      have HO : Hid _ := or_low (beR b p k) (bt b (p + k)) hv0 hv1 hc0 hc1
      go_wp2
      go_round
      case rel => exact ⟨k + 1, by omega, by rw [HO.out]; rfl, by go_num⟩
      case measure => simp [intOf]; omega
    · have hlt' : ¬ (k : Int) < n := by omega
      have e : k = n := by omega
      have HE : Hid _ := e
      clear e
      go_wp2
      go_ret2
      exact ⟨ret2_u _ _ _ (by rw [HE.out]), rfl⟩

end Go.Proofs.Ytkgadgkomdjplaa.ng
