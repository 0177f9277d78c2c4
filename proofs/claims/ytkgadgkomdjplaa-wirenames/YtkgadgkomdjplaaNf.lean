import Derived.Test.YtkgadgkomdjplaaProg
import Derived.Test.YtkgadgkomdjplaaNa
import Derived.WalkKit
import Derived.WalkSpells
import Derived.ProofKit
import Derived.Below
import Derived.PlainAid
namespace Go.Proofs.Ytkgadgkomdjplaa.nf
open Go.RowKit Go.PlainAid
open Go.Proofs.Ytkgadgkomdjplaa.na
set_option linter.unusedVariables false

theorem sumu_ok (a b m : Int) (w : World) (ha : 0 ≤ a) (hb : 0 ≤ b) (hm : a ≤ m) (hm' : m ≤ 18446744073709551615) (h : ¬ m - a < b) :
    Calls Try.prog 124 #[.int .u64 a, .int .u64 b, .int .u64 m] w fun e w' => e = .returned (.tuple #[.int .u64 (a + b), .int .i64 0]) ∧ w' = w := by
  have h1 : ¬ m < a := by omega
  go_enter Try.func124, Try.ntmps124
  go_wp2
  go_ret2
  exact ⟨rfl, rfl⟩

theorem shifted (c : Int) (k : Nat) (hk : k ≤ 9) (h0 : 0 ≤ c) (h1 : c ≤ 255) (h9 : k = 9 → c ≤ 1) :
    IntKind.u64.wrap (IntKind.u64.wrap (bits BinOp.and IntKind.u8 c 127) * 2 ^ (7 * k)) = c % 128 * 128 ^ k := by
  have h := group_max 0 c k hk (by have := pow_pos k; omega) h9 h0
  have h' := group_nonneg c k
  rw [and127 c h0 h1, pow128, u64_nonneg (n := c % 128) (by omega) (by omega), u64_nonneg h' (by omega)]

theorem join_over (v c : Int) (k : Nat) (w : World) (hk : k = 9) (h : 1 < c) :
    Calls Try.prog 121 #[.int .u64 v, .int .i64 k, .int .u8 c] w fun e w' => e = .returned (.tuple #[.int .u64 0, .int .i64 11]) ∧ w' = w := by
  subst hk
  go_enter Try.func121, Try.ntmps121
  go_wp2
  go_ret2
  exact ⟨rfl, rfl⟩

theorem join_form (v c : Int) (k : Nat) (w : World) (hk : k ≤ 9) (h : 0 < k) (hc : c = 0) :
    Calls Try.prog 121 #[.int .u64 v, .int .i64 k, .int .u8 c] w fun e w' => e = .returned (.tuple #[.int .u64 0, .int .i64 13]) ∧ w' = w := by
  subst hc
  by_cases e9 : k = 9
  · subst e9
    go_enter Try.func121, Try.ntmps121
    go_wp2
    go_ret2
    exact ⟨rfl, rfl⟩
  have g9 : ((k : Int) == 9) = false := by rw [beq_eq_false_iff_ne]; omega
  have g0 : (0 : Int) < k := by omega
  go_enter Try.func121, Try.ntmps121
  go_wp2
  go_ret2
  exact ⟨rfl, rfl⟩

theorem join_ok (v c : Int) (k : Nat) (w : World) (hv : 0 ≤ v) (hk : k ≤ 9) (hc : 0 ≤ c) (hc' : c ≤ 255) (h9 : k = 9 → c ≤ 1) (h0 : 0 < k → c ≠ 0) (hs : v + c % 128 * 128 ^ k ≤ 18446744073709551615) :
    Calls Try.prog 121 #[.int .u64 v, .int .i64 k, .int .u8 c] w fun e w' => e = .returned (.tuple #[.int .u64 (v + c % 128 * 128 ^ k), .int .i64 0]) ∧ w' = w := by
  have HS : Hid _ := shifted c k hk hc hc' h9
  have hn := group_nonneg c k
  by_cases e9 : k = 9
  · have g9 : ((k : Int) == 9) = true := by rw [beq_iff_eq]; omega
    have g1 : ¬ 1 < c := by have := h9 e9; omega
    have g0 : (0 : Int) < k := by omega
    have gc : (c == 0) = false := by rw [beq_eq_false_iff_ne]; exact h0 (by omega)
    clear e9 h9 h0
    go_enter Try.func121, Try.ntmps121
    go_wp2_with fail
    rw [HS.out]
    refine (sumu_ok v (c % 128 * 128 ^ k) _ w hv hn (by omega) (by omega) (by omega)).mono ?_
    rintro e w' ⟨rfl, rfl⟩
    go_wp2
    go_ret2
    exact ⟨rfl, rfl⟩
  have g9 : ((k : Int) == 9) = false := by rw [beq_eq_false_iff_ne]; omega
  by_cases e0 : k = 0
  · have g0 : ¬ (0 : Int) < k := by omega
    clear e9 h9 h0 e0
    go_enter Try.func121, Try.ntmps121
    go_wp2_with fail
    rw [HS.out]
    refine (sumu_ok v (c % 128 * 128 ^ k) _ w hv hn (by omega) (by omega) (by omega)).mono ?_
    rintro e w' ⟨rfl, rfl⟩
    go_wp2
    go_ret2
    exact ⟨rfl, rfl⟩
  have g0 : (0 : Int) < k := by omega
  have gc : (c == 0) = false := by rw [beq_eq_false_iff_ne]; exact h0 (by omega)
  clear e9 h9 h0 e0
  go_enter Try.func121, Try.ntmps121
  go_wp2_with fail
  rw [HS.out]
  refine (sumu_ok v (c % 128 * 128 ^ k) _ w hv hn (by omega) (by omega) (by omega)).mono ?_
  rintro e w' ⟨rfl, rfl⟩
  go_wp2
  go_ret2
  exact ⟨rfl, rfl⟩

theorem var_range (b : ByteArray) (p : Int) (w : World) (hb : b.size ≤ 9223372036854775807) (h : p < 0 ∨ (b.size : Int) < p) :
    Calls Try.prog 108 #[.string b, .int .i64 p] w fun e w' => e = .returned (.tuple #[.int .u64 0, .int .i64 0, .int .i64 10]) ∧ w' = w := by
  by_cases h0 : p < 0
  · go_enter Try.func108, Try.ntmps108
    go_wp2
    go_ret3
    exact ⟨rfl, rfl⟩
  · have h1 : (b.size : Int) < p := by omega
    go_enter Try.func108, Try.ntmps108
    go_wp2
    go_ret3
    exact ⟨rfl, rfl⟩

theorem fin3 (r : Int × Int × Int) (x y z : Int) (h : r = (x, y, z)) :
    Ending.returned (.tuple #[.int .u64 x, .int .i64 y, .int .i64 z]) = .returned (.tuple #[.int .u64 r.1, .int .i64 r.2.1, .int .i64 r.2.2]) := by
  subst h; rfl

set_option maxHeartbeats 800000 in
theorem var_any (b : ByteArray) (p : Nat) (w : World) (hb : b.size ≤ 9223372036854775807) (hp : p ≤ b.size) :
    Calls Try.prog 108 #[.string b, .int .i64 p] w fun e w' => e = .returned (.tuple #[.int .u64 (varR b p 10 0 0).1, .int .i64 (varR b p 10 0 0).2.1, .int .i64 (varR b p 10 0 0).2.2]) ∧ w' = w := by
  have hbt := get_bt b
  have hd0 : decide ((p : Int) < 0) = false := by simp
  have hd1 : decide (b.size < p) = false := by simp; omega
  go_enter Try.func108, Try.ntmps108
  go_wp2_with fail
  go_loop [7, 8, 19] (fun v e i => ∃ (k : Nat) (x : Int), k ≤ 10 ∧ p + k ≤ b.size ∧ v = .int .u64 x ∧ e = .int .i64 0 ∧ i = .int .i64 k ∧ 0 ≤ x ∧ x < 128 ^ k ∧ varR b p 10 0 0 = varR b p (10 - k) k x) (fun _ _ i => (10 - intOf i).toNat)
  case atStart => exact ⟨0, 0, by omega, by omega, rfl, rfl, rfl, by omega, by decide, rfl⟩
  case round =>
    obtain ⟨k, x, hk, hpk, rfl, rfl, rfl, hx0, hx1, hR⟩ := hrel
    by_cases h10 : k = 10
    · have HR : Hid (varR b p 10 0 0 = (0, 0, 11)) := by subst h10; exact hR
      have g : ¬ (k : Int) < 10 := by omega
      clear hR h10
      go_wp2
      go_ret3
      exact ⟨fin3 _ _ _ _ HR.out, rfl⟩
    have g : (k : Int) < 10 := by omega
    obtain ⟨f, hf⟩ : ∃ f, 10 - k = f + 1 := ⟨9 - k, by omega⟩
    rw [hf] at hR
    by_cases hs : b.size ≤ p + k
    · have HR : Hid _ := hR.trans (varR_short b p f k x hs)
      have gs : ((k : Int) == (b.size : Int) - p) = true := by rw [beq_iff_eq]; omega
      clear hR hf h10
      go_wp2
      go_ret3
      exact ⟨fin3 _ _ _ _ HR.out, rfl⟩
    have gs : ((k : Int) == (b.size : Int) - p) = false := by rw [beq_eq_false_iff_ne]; omega
    have hlt : p + k < b.size := by omega
    have hc0 := bt_nonneg b (p + k)
    have hc1 := bt_le b (p + k)
    by_cases ho : k = 9 ∧ 1 < bt b (p + k)
    · have HR : Hid _ := hR.trans (varR_over b p f k x hs ho)
      have HO : Hid _ := ho
      clear hR hf h10 ho
      go_wp2_with (go_at_call 121; refine (join_over x (bt b (p + k)) k _ HO.out.1 HO.out.2).mono ?_; rintro e w' ⟨rfl, rfl⟩)
      go_ret3
      exact ⟨fin3 _ _ _ _ HR.out, rfl⟩
    by_cases hz : 0 < k ∧ bt b (p + k) = 0
    · have HR : Hid _ := hR.trans (varR_form b p f k x hs ho hz)
      have HZ : Hid _ := hz
      clear hR hf h10 ho hz
      go_wp2_with (go_at_call 121; refine (join_form x (bt b (p + k)) k _ (by omega) HZ.out.1 HZ.out.2).mono ?_; rintro e w' ⟨rfl, rfl⟩)
      go_ret3
      exact ⟨fin3 _ _ _ _ HR.out, rfl⟩
    have h9 : k = 9 → bt b (p + k) ≤ 1 := fun e => Int.not_lt.mp fun h => ho ⟨e, h⟩
    have h0 : 0 < k → bt b (p + k) ≠ 0 := fun e h => hz ⟨e, h⟩
    have hmax := group_max x (bt b (p + k)) k (by omega) hx1 h9 hc0
    have hnn := group_nonneg (bt b (p + k)) k
    have hlt2 := group_lt x (bt b (p + k)) k hx1
    have H9 : Hid _ := h9
    have H0 : Hid _ := h0
    by_cases hl : bt b (p + k) < 128
    · have HR : Hid _ := hR.trans (varR_last b p f k x hs ho hz hl)
      clear hR hf h10 ho hz h9 h0 hlt2
      go_wp2_with (go_at_call 121; refine (join_ok x (bt b (p + k)) k _ hx0 (by omega) hc0 hc1 H9.out H0.out hmax).mono ?_; rintro e w' ⟨rfl, rfl⟩)
      go_ret3
      exact ⟨fin3 _ _ _ _ HR.out, rfl⟩
    · have HR : Hid _ := hR.trans (varR_next b p f k x hs ho hz hl)
      have HF : Hid _ := hf
      clear hR hf h10 ho hz h9 h0
      go_wp2_with (go_at_call 121; refine (join_ok x (bt b (p + k)) k _ hx0 (by omega) hc0 hc1 H9.out H0.out hmax).mono ?_; rintro e w' ⟨rfl, rfl⟩)
      go_round
      case rel => exact ⟨k + 1, _, by omega, by omega, rfl, rfl, by go_num, by omega, hlt2, by rw [HR.out]; congr 1; have := HF.out; omega⟩
      case measure => simp [intOf]; omega
end Go.Proofs.Ytkgadgkomdjplaa.nf
