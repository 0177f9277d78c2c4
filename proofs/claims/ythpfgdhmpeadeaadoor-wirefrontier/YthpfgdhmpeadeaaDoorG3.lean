import Derived.Test.YthpfgdhmpeadeaaDoorProg
import Derived.Test.YthpfgdhmpeadeaaDoorG1
import Derived.WalkKit
import Derived.WalkSpells
import Derived.ProofKit
import Derived.Below
import Derived.PlainAid
import Derived.Shelf.Strings.Builder1
import Derived.Shelf.Strings.BuilderF
import Derived.Shelf.Strings.BuilderK
import Derived.Shelf.Pu.Clone
import Derived.BigQuiet
import Derived.Deep.DeepCutAuto
import Derived.Deep.RegionHeld3
import Derived.Laws.AppendOwnNone
import Derived.Lib.SliceRun
import Derived.Handy
import Derived.Deep.AppendLies
import Derived.RowKit3
namespace Go.Proofs.YthpfgdhmpeadeaaDoor.nf
open Go.RowKit Go.PlainAid
open Go.Proofs.YthpfgdhmpeadeaaDoor.na
set_option linter.unusedVariables false

theorem sumu_ok (a b m : Int) (w : World) (ha : 0 ≤ a) (hb : 0 ≤ b) (hm : a ≤ m) (hm' : m ≤ 18446744073709551615) (h : ¬ m - a < b) :
    Calls Tryd.prog 117 #[.int .u64 a, .int .u64 b, .int .u64 m] w fun e w' => e = .returned (.tuple #[.int .u64 (a + b), .int .i64 0]) ∧ w' = w := by
  have h1 : ¬ m < a := by omega
  go_enter Tryd.func117, Tryd.ntmps117
  go_wp2
  go_ret2
  exact ⟨rfl, rfl⟩

theorem shifted (c : Int) (k : Nat) (hk : k ≤ 9) (h0 : 0 ≤ c) (h1 : c ≤ 255) (h9 : k = 9 → c ≤ 1) :
    IntKind.u64.wrap (IntKind.u64.wrap (bits BinOp.and IntKind.u8 c 127) * 2 ^ (7 * k)) = c % 128 * 128 ^ k := by
  have h := group_max 0 c k hk (by have := pow_pos k; omega) h9 h0
  have h' := group_nonneg c k
  rw [and127 c h0 h1, pow128, u64_nonneg (n := c % 128) (by omega) (by omega), u64_nonneg h' (by omega)]

theorem join_over (v c : Int) (k : Nat) (w : World) (hk : k = 9) (h : 1 < c) :
    Calls Tryd.prog 115 #[.int .u64 v, .int .i64 k, .int .u8 c] w fun e w' => e = .returned (.tuple #[.int .u64 0, .int .i64 11]) ∧ w' = w := by
  subst hk
  go_enter Tryd.func115, Tryd.ntmps115
  go_wp2
  go_ret2
  exact ⟨rfl, rfl⟩

theorem join_form (v c : Int) (k : Nat) (w : World) (hk : k ≤ 9) (h : 0 < k) (hc : c = 0) :
    Calls Tryd.prog 115 #[.int .u64 v, .int .i64 k, .int .u8 c] w fun e w' => e = .returned (.tuple #[.int .u64 0, .int .i64 13]) ∧ w' = w := by
  subst hc
  by_cases e9 : k = 9
  · subst e9
    go_enter Tryd.func115, Tryd.ntmps115
    go_wp2
    go_ret2
    exact ⟨rfl, rfl⟩
  have g9 : ((k : Int) == 9) = false := by rw [beq_eq_false_iff_ne]; omega
  have g0 : (0 : Int) < k := by omega
  go_enter Tryd.func115, Tryd.ntmps115
  go_wp2
  go_ret2
  exact ⟨rfl, rfl⟩

theorem join_ok (v c : Int) (k : Nat) (w : World) (hv : 0 ≤ v) (hk : k ≤ 9) (hc : 0 ≤ c) (hc' : c ≤ 255) (h9 : k = 9 → c ≤ 1) (h0 : 0 < k → c ≠ 0) (hs : v + c % 128 * 128 ^ k ≤ 18446744073709551615) :
    Calls Tryd.prog 115 #[.int .u64 v, .int .i64 k, .int .u8 c] w fun e w' => e = .returned (.tuple #[.int .u64 (v + c % 128 * 128 ^ k), .int .i64 0]) ∧ w' = w := by
  have HS : Hid _ := shifted c k hk hc hc' h9
  have hn := group_nonneg c k
  by_cases e9 : k = 9
  · have g9 : ((k : Int) == 9) = true := by rw [beq_iff_eq]; omega
    have g1 : ¬ 1 < c := by have := h9 e9; omega
    have g0 : (0 : Int) < k := by omega
    have gc : (c == 0) = false := by rw [beq_eq_false_iff_ne]; exact h0 (by omega)
    clear e9 h9 h0
    go_enter Tryd.func115, Tryd.ntmps115
    go_wp2_with fail
    rw [HS.out]
    refine (sumu_ok v (c % 128 * 128 ^ k) _ w hv hn (by omega) (by omega) (by omega)).mono ?_
    rintro e w' ⟨rfl, rfl⟩
    go_wp2
    go_ret2
    exact ⟨rfl, rfl⟩
  have g9 : ((k : Int) == 9) = false := by rw [beq_eq_false_iff_ne]; omega
  by_cases e0 : k = 0
  · have g0 : ¬ (0 : Int) < k := by omega
    clear e9 h9 h0 e0
    go_enter Tryd.func115, Tryd.ntmps115
    go_wp2_with fail
    rw [HS.out]
    refine (sumu_ok v (c % 128 * 128 ^ k) _ w hv hn (by omega) (by omega) (by omega)).mono ?_
    rintro e w' ⟨rfl, rfl⟩
    go_wp2
    go_ret2
    exact ⟨rfl, rfl⟩
  have g0 : (0 : Int) < k := by omega
  have gc : (c == 0) = false := by rw [beq_eq_false_iff_ne]; exact h0 (by omega)
  clear e9 h9 h0 e0
  go_enter Tryd.func115, Tryd.ntmps115
  go_wp2_with fail
  rw [HS.out]
  refine (sumu_ok v (c % 128 * 128 ^ k) _ w hv hn (by omega) (by omega) (by omega)).mono ?_
  rintro e w' ⟨rfl, rfl⟩
  go_wp2
  go_ret2
  exact ⟨rfl, rfl⟩

theorem var_range (b : ByteArray) (p : Int) (w : World) (hb : b.size ≤ 9223372036854775807) (h : p < 0 ∨ (b.size : Int) < p) :
    Calls Tryd.prog 104 #[.string b, .int .i64 p] w fun e w' => e = .returned (.tuple #[.int .u64 0, .int .i64 0, .int .i64 10]) ∧ w' = w := by
  by_cases h0 : p < 0
  · go_enter Tryd.func104, Tryd.ntmps104
    go_wp2
    go_ret3
    exact ⟨rfl, rfl⟩
  · have h1 : (b.size : Int) < p := by omega
    go_enter Tryd.func104, Tryd.ntmps104
    go_wp2
    go_ret3
    exact ⟨rfl, rfl⟩

theorem fin3 (r : Int × Int × Int) (x y z : Int) (h : r = (x, y, z)) :
    Ending.returned (.tuple #[.int .u64 x, .int .i64 y, .int .i64 z]) = .returned (.tuple #[.int .u64 r.1, .int .i64 r.2.1, .int .i64 r.2.2]) := by
  subst h; rfl

set_option maxHeartbeats 800000 in
theorem var_any (b : ByteArray) (p : Nat) (w : World) (hb : b.size ≤ 9223372036854775807) (hp : p ≤ b.size) :
    Calls Tryd.prog 104 #[.string b, .int .i64 p] w fun e w' => e = .returned (.tuple #[.int .u64 (varR b p 10 0 0).1, .int .i64 (varR b p 10 0 0).2.1, .int .i64 (varR b p 10 0 0).2.2]) ∧ w' = w := by
  have hbt := get_bt b
  have hd0 : decide ((p : Int) < 0) = false := by simp
  have hd1 : decide (b.size < p) = false := by simp; omega
  go_enter Tryd.func104, Tryd.ntmps104
  go_wp2_with fail
  go_loop [7, 8, 19] (fun v e i => ∃ (k : Nat) (x : Int), k ≤ 10 ∧ p + k ≤ b.size ∧ v = .int .u64 x ∧ e = .int .i64 0 ∧ i = .int .i64 k ∧ 0 ≤ x ∧ x < 128 ^ k ∧ varR b p 10 0 0 = varR b p (10 - k) k x) (fun _ _ i => (10 - intOf i).toNat)
  case atStart => exact ⟨0, 0, by omega, by omega, rfl, rfl, rfl, by omega, by decide, rfl⟩
  case round =>
    obtain ⟨k, x, hk, hpk, rfl, rfl, rfl, hx0, hx1, hR⟩ := hrel
    by_cases h10 : k = 10
    · have HR : Hid (varR b p 10 0 0 = (0, 0, 11)) := by subst h10; exact hR
      have g : ¬ (k : Int) < 10 := by omega
      clear hR h10
      go_wp2
      go_ret3
      exact ⟨fin3 _ _ _ _ HR.out, rfl⟩
    have g : (k : Int) < 10 := by omega
    obtain ⟨f, hf⟩ : ∃ f, 10 - k = f + 1 := ⟨9 - k, by omega⟩
    rw [hf] at hR
    by_cases hs : b.size ≤ p + k
    · have HR : Hid _ := hR.trans (varR_short b p f k x hs)
      have gs : ((k : Int) == (b.size : Int) - p) = true := by rw [beq_iff_eq]; omega
      clear hR hf h10
      go_wp2
      go_ret3
      exact ⟨fin3 _ _ _ _ HR.out, rfl⟩
    have gs : ((k : Int) == (b.size : Int) - p) = false := by rw [beq_eq_false_iff_ne]; omega
    have hlt : p + k < b.size := by omega
    have hc0 := bt_nonneg b (p + k)
    have hc1 := bt_le b (p + k)
    by_cases ho : k = 9 ∧ 1 < bt b (p + k)
    · have HR : Hid _ := hR.trans (varR_over b p f k x hs ho)
      have HO : Hid _ := ho
      clear hR hf h10 ho
      go_wp2_with (go_at_call 115; refine (join_over x (bt b (p + k)) k _ HO.out.1 HO.out.2).mono ?_; rintro e w' ⟨rfl, rfl⟩)
      go_ret3
      exact ⟨fin3 _ _ _ _ HR.out, rfl⟩
    by_cases hz : 0 < k ∧ bt b (p + k) = 0
    · have HR : Hid _ := hR.trans (varR_form b p f k x hs ho hz)
      have HZ : Hid _ := hz
      clear hR hf h10 ho hz
      go_wp2_with (go_at_call 115; refine (join_form x (bt b (p + k)) k _ (by omega) HZ.out.1 HZ.out.2).mono ?_; rintro e w' ⟨rfl, rfl⟩)
      go_ret3
      exact ⟨fin3 _ _ _ _ HR.out, rfl⟩
    have h9 : k = 9 → bt b (p + k) ≤ 1 := fun e => Int.not_lt.mp fun h => ho ⟨e, h⟩
    have h0 : 0 < k → bt b (p + k) ≠ 0 := fun e h => hz ⟨e, h⟩
    have hmax := group_max x (bt b (p + k)) k (by omega) hx1 h9 hc0
    have hnn := group_nonneg (bt b (p + k)) k
    have hlt2 := group_lt x (bt b (p + k)) k hx1
    have H9 : Hid _ := h9
    have H0 : Hid _ := h0
    by_cases hl : bt b (p + k) < 128
    · have HR : Hid _ := hR.trans (varR_last b p f k x hs ho hz hl)
      clear hR hf h10 ho hz h9 h0 hlt2
      go_wp2_with (go_at_call 115; refine (join_ok x (bt b (p + k)) k _ hx0 (by omega) hc0 hc1 H9.out H0.out hmax).mono ?_; rintro e w' ⟨rfl, rfl⟩)
      go_ret3
      exact ⟨fin3 _ _ _ _ HR.out, rfl⟩
    · have HR : Hid _ := hR.trans (varR_next b p f k x hs ho hz hl)
      have HF : Hid _ := hf
      clear hR hf h10 ho hz h9 h0
      go_wp2_with (go_at_call 115; refine (join_ok x (bt b (p + k)) k _ hx0 (by omega) hc0 hc1 H9.out H0.out hmax).mono ?_; rintro e w' ⟨rfl, rfl⟩)
      go_round
      case rel => exact ⟨k + 1, _, by omega, by omega, rfl, rfl, by go_num, by omega, hlt2, by rw [HR.out]; congr 1; have := HF.out; omega⟩
      case measure => simp [intOf]; omega
end Go.Proofs.YthpfgdhmpeadeaaDoor.nf

namespace Go.Proofs.YthpfgdhmpeadeaaDoor.ng
open Go.RowKit Go.PlainAid
open Go.Proofs.YthpfgdhmpeadeaaDoor.na Go.Proofs.YthpfgdhmpeadeaaDoor.nf
set_option linter.unusedVariables false

set_option maxHeartbeats 800000 in
theorem rvar_any (b : ByteArray) (p : Nat) (w : World) (hb : b.size ≤ 9223372036854775807) (hp : p ≤ b.size) :
    Calls Tryd.prog 69 #[.string b, .int .i64 p] w fun e w' => e = .returned (.tuple #[.int .u64 (varR b p 10 0 0).1, .int .i64 (varR b p 10 0 0).2.1, .int .i64 (varR b p 10 0 0).2.2]) ∧ w' = w := by
  have hbt := get_bt b
  have hd0 : decide ((p : Int) < 0) = false := by simp
  have hd1 : decide (b.size < p) = false := by simp; omega
  go_enter Tryd.func69, Tryd.ntmps69
  go_wp2_with fail
  go_loop [7, 8, 9] (fun v u i => ∃ (k : Nat) (x y : Int), k ≤ 10 ∧ p + k ≤ b.size ∧ v = .int .u64 x ∧ u = .int .u64 y ∧ i = .int .i64 k ∧ 0 ≤ x ∧ x < 128 ^ k ∧ (k ≤ 9 → y = 128 ^ k) ∧ varR b p 10 0 0 = varR b p (10 - k) k x) (fun _ _ i => (10 - intOf i).toNat)
  case atStart => exact ⟨0, 0, 1, by omega, by omega, rfl, rfl, rfl, by omega, by decide, fun _ => rfl, rfl⟩
  case round =>
    obtain ⟨k, x, y, hk, hpk, rfl, rfl, rfl, hx0, hx1, hy, hR⟩ := hrel
    by_cases h10 : k = 10
    · have HR : Hid (varR b p 10 0 0 = (0, 0, 11)) := by subst h10; exact hR
      have g : ¬ (k : Int) < 10 := by omega
      clear hR h10 hy
      go_wp2
      go_ret3
      exact ⟨fin3 _ _ _ _ HR.out, rfl⟩
    have g : (k : Int) < 10 := by omega
    have HY : Hid _ := hy (by omega)
    clear hy
    obtain ⟨f, hf⟩ : ∃ f, 10 - k = f + 1 := ⟨9 - k, by omega⟩
    rw [hf] at hR
    by_cases hs : b.size ≤ p + k
    · have HR : Hid _ := hR.trans (varR_short b p f k x hs)
      clear hR hf h10
      go_wp2
      go_ret3
      exact ⟨fin3 _ _ _ _ HR.out, rfl⟩
    have gs : ¬ (b.size : Int) ≤ (p : Int) + k := by omega
    have hlt : p + k < b.size := by omega
    have hc0 := bt_nonneg b (p + k)
    have hc1 := bt_le b (p + k)
    by_cases ho : k = 9 ∧ 1 < bt b (p + k)
    · have HR : Hid _ := hR.trans (varR_over b p f k x hs ho)
      have g9 : ((k : Int) == 9) = true := by rw [beq_iff_eq]; omega
      have g1 := ho.2
      clear hR hf h10 ho
      go_wp2
      go_ret3
      exact ⟨fin3 _ _ _ _ HR.out, rfl⟩
    by_cases hz : 0 < k ∧ bt b (p + k) = 0
    · have HR : Hid _ := hR.trans (varR_form b p f k x hs ho hz)
      have gz : (bt b (p + k) == 0) = true := by rw [beq_iff_eq]; exact hz.2
      have g0 : (0 : Int) < k := by omega
      have gl : ¬ 1 < bt b (p + k) := by omega
      clear hR hf h10 ho hz
      go_wp2
      all_goals
        go_ret3
        exact ⟨fin3 _ _ _ _ HR.out, rfl⟩
    have h9 : k = 9 → bt b (p + k) ≤ 1 := fun e => Int.not_lt.mp fun h => ho ⟨e, h⟩
    have h0 : 0 < k → bt b (p + k) ≠ 0 := fun e h => hz ⟨e, h⟩
    have hmax := group_max x (bt b (p + k)) k (by omega) hx1 h9 hc0
    have hnn := group_nonneg (bt b (p + k)) k
    have hlt2 := group_lt x (bt b (p + k)) k hx1
    have H9 : Hid _ := h9
    have H0 : Hid _ := h0
    have hyu : IntKind.u64.wrap (bt b (p + k) % 128 * y) = bt b (p + k) % 128 * 128 ^ k := by
      rw [HY.out]; exact u64_nonneg hnn (by omega)
    have HV : Hid (IntKind.u64.wrap (x + IntKind.u64.wrap (bt b (p + k) % 128 * y)) = x + bt b (p + k) % 128 * 128 ^ k) := by
      show _ = _
      rw [hyu]; exact u64_nonneg (by omega) hmax
    have key : (((k : Int) == 9) = true ∧ ¬ 1 < bt b (p + k) ∧ (0 : Int) < k ∧ (bt b (p + k) == 0) = false) ∨ (((k : Int) == 9) = false ∧ (0 : Int) < k ∧ (bt b (p + k) == 0) = false) ∨ (((k : Int) == 9) = false ∧ ¬ (0 : Int) < k) := by
      by_cases e9 : k = 9
      · exact .inl ⟨by rw [beq_iff_eq]; omega, by have := h9 e9; omega, by omega, by rw [beq_eq_false_iff_ne]; exact h0 (by omega)⟩
      by_cases e0 : k = 0
      · exact .inr (.inr ⟨by rw [beq_eq_false_iff_ne]; omega, by omega⟩)
      exact .inr (.inl ⟨by rw [beq_eq_false_iff_ne]; omega, by omega, by rw [beq_eq_false_iff_ne]; exact h0 (by omega)⟩)
    by_cases hl : bt b (p + k) < 128
    · have HR : Hid _ := hR.trans (varR_last b p f k x hs ho hz hl)
      clear hR hf h10 ho hz h9 h0 hlt2 hyu
      rcases key with ⟨k1, k2, k3, k4⟩ | ⟨k1, k3, k4⟩ | ⟨k1, k3⟩
      all_goals
        go_wp2
        go_ret3
        exact ⟨fin3 (varR b p 10 0 0) _ _ _ (by rw [HV.out]; exact HR.out), rfl⟩
    · have HR : Hid _ := hR.trans (varR_next b p f k x hs ho hz hl)
      have HF : Hid _ := hf
      have HL : Hid _ := hlt2
      clear hR hf h10 ho hz h9 h0 hyu hlt2
      rcases key with ⟨k1, k2, k3, k4⟩ | ⟨k1, k3, k4⟩ | ⟨k1, k3⟩
      · exfalso; omega
      all_goals
        go_wp2
        go_round
        case rel =>
          refine ⟨k + 1, _, _, by omega, by omega, rfl, rfl, by go_num, ?_, ?_, ?_, ?_⟩
          · rw [HV.out]; omega
          · rw [HV.out]; exact HL.out
          · intro hk9
            have h1 := pow_nine (k + 1) hk9
            have h2 := pow_pos (k + 1)
            rw [HY.out]
            rw [Int.pow_succ] at h1 h2 ⊢
            exact u64_nonneg (by omega) (by omega)
          · rw [HV.out, HR.out]; congr 1; have := HF.out; omega
        case measure => simp [intOf]; omega

theorem len_yes (n : Int) (w : World) (h1 : 1 ≤ n) (h2 : n ≤ 8) :
    Calls Tryd.prog 102 #[.int .i64 n] w fun e w' => e = .returned (.bool true) ∧ w' = w := by
  go_enter Tryd.func102, Tryd.ntmps102
  go_wp2
  go_ret
  exact ⟨rfl, rfl⟩

theorem len_no (n : Int) (w : World) (h : n < 1 ∨ 8 < n) :
    Calls Tryd.prog 102 #[.int .i64 n] w fun e w' => e = .returned (.bool false) ∧ w' = w := by
  by_cases h1 : 1 ≤ n
  · have h2 : ¬ n ≤ 8 := by omega
    go_enter Tryd.func102, Tryd.ntmps102
    go_wp2
    go_ret
    exact ⟨rfl, rfl⟩
  · go_enter Tryd.func102, Tryd.ntmps102
    go_wp2
    go_ret
    exact ⟨rfl, rfl⟩

theorem sum_over (a b m : Int) (w : World) (ha : 0 ≤ a) (hm : 0 ≤ m) (hm' : m ≤ 9223372036854775807) (h : m - a < b) :
    Calls Tryd.prog 103 #[.int .i64 a, .int .i64 b, .int .i64 m] w fun e w' => e = .returned (.tuple #[.int .i64 0, .int .i64 11]) ∧ w' = w := by
  by_cases h1 : m < a
  · go_enter Tryd.func103, Tryd.ntmps103
    go_wp2
    go_ret2
    exact ⟨rfl, rfl⟩
  · go_enter Tryd.func103, Tryd.ntmps103
    go_wp2
    go_ret2
    exact ⟨rfl, rfl⟩

theorem sum_ok (a b m : Int) (w : World) (ha : 0 ≤ a) (hb : 0 ≤ b) (hm : a ≤ m) (hm' : m ≤ 9223372036854775807) (h : ¬ m - a < b) :
    Calls Tryd.prog 103 #[.int .i64 a, .int .i64 b, .int .i64 m] w fun e w' => e = .returned (.tuple #[.int .i64 (a + b), .int .i64 0]) ∧ w' = w := by
  have h1 : ¬ m < a := by omega
  go_enter Tryd.func103, Tryd.ntmps103
  go_wp2
  go_ret2
  exact ⟨rfl, rfl⟩

theorem be_range (b : ByteArray) (p n : Int) (w : World) (hb : b.size ≤ 9223372036854775807) (h : n < 1 ∨ 8 < n ∨ p < 0 ∨ (b.size : Int) - p < n) :
    Calls Tryd.prog 87 #[.string b, .int .i64 p, .int .i64 n] w fun e w' => e = .returned (.tuple #[.int .u64 0, .int .i64 10]) ∧ w' = w := by
  by_cases h1 : n < 1 ∨ 8 < n
  · have H1 : Hid _ := h1
    clear h1 h
    go_enter Tryd.func87, Tryd.ntmps87
    go_wp2_with (go_at_call 102; refine (len_no n _ H1.out).mono ?_; rintro e w' ⟨rfl, rfl⟩)
    go_ret2
    exact ⟨rfl, rfl⟩
  by_cases h2 : p < 0
  · have g1 : 1 ≤ n := by omega
    have g2 : n ≤ 8 := by omega
    clear h1 h
    go_enter Tryd.func87, Tryd.ntmps87
    go_wp2_with (go_at_call 102; refine (len_yes n _ g1 g2).mono ?_; rintro e w' ⟨rfl, rfl⟩)
    go_ret2
    exact ⟨rfl, rfl⟩
  have g1 : 1 ≤ n := by omega
  have g2 : n ≤ 8 := by omega
  have g3 : (b.size : Int) - p < n := by omega
  clear h1 h
  go_enter Tryd.func87, Tryd.ntmps87
  go_wp2_with (first | (go_at_call 102; refine (len_yes n _ g1 g2).mono ?_; rintro e w' ⟨rfl, rfl⟩) | (go_at_call 103; refine (sum_over p n _ _ (by omega) (by omega) (by omega) g3).mono ?_; rintro e w' ⟨rfl, rfl⟩))
  go_ret2
  exact ⟨rfl, rfl⟩

theorem ret2_u (x y z : Int) (h : x = y) : Ending.returned (.tuple #[.int .u64 x, .int .i64 z]) = .returned (.tuple #[.int .u64 y, .int .i64 z]) := by
  subst h; rfl

set_option maxHeartbeats 800000 in
theorem be_any (b : ByteArray) (p n : Nat) (w : World) (hb : b.size ≤ 9223372036854775807) (h1 : 1 ≤ n) (h2 : n ≤ 8) (hp : p + n ≤ b.size) :
    Calls Tryd.prog 87 #[.string b, .int .i64 p, .int .i64 n] w fun e w' => e = .returned (.tuple #[.int .u64 (beR b p n), .int .i64 0]) ∧ w' = w := by
  have hbt := get_bt b
  have hd0 : decide ((p : Int) < 0) = false := by simp
  go_enter Tryd.func87, Tryd.ntmps87
  go_wp2_with (first | (go_at_call 102; refine (len_yes n _ (by omega) (by omega)).mono ?_; rintro e w' ⟨rfl, rfl⟩) | (go_at_call 103; refine (sum_ok p n _ _ (by omega) (by omega) (by omega) (by omega) (by omega)).mono ?_; rintro e w' ⟨rfl, rfl⟩))
  go_loop [10, 30] (fun v i => ∃ (k : Nat), k ≤ n ∧ v = .int .u64 (beR b p k) ∧ i = .int .i64 k) (fun _ i => (n - intOf i).toNat)
  case atStart => exact ⟨0, by omega, rfl, rfl⟩
  case round =>
    obtain ⟨k, hk, rfl, rfl⟩ := hrel
    by_cases hlt : k < n
    · have hlt' : (k : Int) < n := by omega
      have hpk : p + k < b.size := by omega
      have hc0 := bt_nonneg b (p + k)
      have hc1 := bt_le b (p + k)
      have hv0 := beR_nonneg b p k
      have hv1 := beR_seven b p k (by omega)
      have HO : Hid _ := or_low (beR b p k) (bt b (p + k)) hv0 hv1 hc0 hc1
      go_wp2
      go_round
      case rel => exact ⟨k + 1, by omega, by rw [HO.out]; rfl, by go_num⟩
      case measure => simp [intOf]; omega
    · have hlt' : ¬ (k : Int) < n := by omega
      have e : k = n := by omega
      have HE : Hid _ := e
      clear e
      go_wp2
      go_ret2
      exact ⟨ret2_u _ _ _ (by rw [HE.out]), rfl⟩

end Go.Proofs.YthpfgdhmpeadeaaDoor.ng

namespace Go.Proofs.YthpfgdhmpeadeaaDoor.sb
open Go.Shelf
set_option linter.unusedVariables false
def ren : Go.Shelf.Ren := ⟨fun | 166 => 55 | 240 => 84 | 276 => 100 | 169 => 56 | n => n, fun | 0 => 0 | 3 => 3 | 4 => 4 | 5 => 5 | 9 => 9 | 20 => 20 | 37 => 45 | 70 => 101 | 72 => 103 | 75 => 105 | 76 => 106 | 80 => 108 | 164 => 148 | 127 => 132 | n => n, fun | n => n⟩
theorem lays166 : Go.Proofs.Lays.n166 Tryd.prog ren := {
  mixed := by kernel_rfl
  f166 := Tryd.func55.trans (congrArg some (by kernel_rfl))
  f240 := Tryd.func84.trans (congrArg some (by kernel_rfl))
  f276 := Tryd.func100.trans (congrArg some (by kernel_rfl))
  t0 := Tryd.underlying0
  a0 := Tryd.isAgg0
  z0 := Tryd.sizeOf0
  v0 := Tryd.zeroValue0
  t3 := Tryd.underlying3
  a3 := Tryd.isAgg3
  z3 := Tryd.sizeOf3
  v3 := Tryd.zeroValue3
  t4 := Tryd.underlying4
  a4 := Tryd.isAgg4
  z4 := Tryd.sizeOf4
  v4 := Tryd.zeroValue4
  t9 := Tryd.underlying9
  a9 := Tryd.isAgg9
  z9 := Tryd.sizeOf9
  v9 := Tryd.zeroValue9
  t20 := Tryd.underlying20
  a20 := Tryd.isAgg20
  z20 := Tryd.sizeOf20
  v20 := Tryd.zeroValue20
  t37 := Tryd.underlying45
  a37 := Tryd.isAgg45
  z37 := Tryd.sizeOf45
  v37 := Tryd.zeroValue45
  t70 := Tryd.underlying101
  a70 := Tryd.isAgg101
  z70 := Tryd.sizeOf101
  v70 := Tryd.zeroValue101
  t72 := Tryd.underlying103
  a72 := Tryd.isAgg103
  z72 := Tryd.sizeOf103
  v72 := Tryd.zeroValue103
  t75 := Tryd.underlying105
  a75 := Tryd.isAgg105
  z75 := Tryd.sizeOf105
  v75 := Tryd.zeroValue105
  t164 := Tryd.underlying148
  a164 := Tryd.isAgg148
  z164 := Tryd.sizeOf148
  v164 := Tryd.zeroValue148 }
theorem lays169 : Go.Proofs.Lays.n169 Tryd.prog ren := {
  mixed := by kernel_rfl
  f169 := Tryd.func56.trans (congrArg some (by kernel_rfl))
  t0 := Tryd.underlying0
  a0 := Tryd.isAgg0
  z0 := Tryd.sizeOf0
  v0 := Tryd.zeroValue0
  t3 := Tryd.underlying3
  a3 := Tryd.isAgg3
  z3 := Tryd.sizeOf3
  v3 := Tryd.zeroValue3
  t9 := Tryd.underlying9
  a9 := Tryd.isAgg9
  z9 := Tryd.sizeOf9
  v9 := Tryd.zeroValue9
  t37 := Tryd.underlying45
  a37 := Tryd.isAgg45
  z37 := Tryd.sizeOf45
  v37 := Tryd.zeroValue45
  t70 := Tryd.underlying101
  a70 := Tryd.isAgg101
  z70 := Tryd.sizeOf101
  v70 := Tryd.zeroValue101
  t72 := Tryd.underlying103
  a72 := Tryd.isAgg103
  z72 := Tryd.sizeOf103
  v72 := Tryd.zeroValue103
  t127 := Tryd.underlying132
  a127 := Tryd.isAgg132
  z127 := Tryd.sizeOf132
  v127 := Tryd.zeroValue132 }
theorem extra : Builder.Extra Tryd.prog ren := {
  sizeBuilder := by kernel_rfl
  liesBuilder := by kernel_rfl
  t5 := Tryd.underlying5
  a5 := Tryd.isAgg5
  z5 := Tryd.sizeOf5
  v5 := Tryd.zeroValue5
  infoByte := by kernel_rfl
  cellsByte := by kernel_rfl
  sizeByte := by kernel_rfl
  neB5 := by decide }
def renC : Go.Shelf.Ren := ⟨fun | 25 => 105 | n => n, fun | 0 => 0 | 3 => 3 | 4 => 4 | 5 => 5 | 9 => 9 | 37 => 45 | 47 => 132 | n => n, fun | n => n⟩
theorem laysC : Go.Proofs.LaysPu.n25 Tryd.prog renC := {
  mixed := by kernel_rfl
  f25 := Tryd.func105.trans (congrArg some (by kernel_rfl))
  t0 := Tryd.underlying0
  a0 := Tryd.isAgg0
  z0 := Tryd.sizeOf0
  v0 := Tryd.zeroValue0
  i0 := by kernel_rfl
  t3 := Tryd.underlying3
  a3 := Tryd.isAgg3
  z3 := Tryd.sizeOf3
  v3 := Tryd.zeroValue3
  i3 := by kernel_rfl
  t4 := Tryd.underlying4
  a4 := Tryd.isAgg4
  z4 := Tryd.sizeOf4
  v4 := Tryd.zeroValue4
  i4 := by kernel_rfl
  t5 := Tryd.underlying5
  a5 := Tryd.isAgg5
  z5 := Tryd.sizeOf5
  v5 := Tryd.zeroValue5
  i5 := by kernel_rfl
  t9 := Tryd.underlying9
  a9 := Tryd.isAgg9
  z9 := Tryd.sizeOf9
  v9 := Tryd.zeroValue9
  i9 := by kernel_rfl
  t37 := Tryd.underlying45
  a37 := Tryd.isAgg45
  z37 := Tryd.sizeOf45
  v37 := Tryd.zeroValue45
  i37 := by kernel_rfl
  t47 := Tryd.underlying132
  a47 := Tryd.isAgg132
  z47 := Tryd.sizeOf132
  v47 := Tryd.zeroValue132
  i47 := by kernel_rfl }
end Go.Proofs.YthpfgdhmpeadeaaDoor.sb

namespace Go.Proofs.YthpfgdhmpeadeaaDoor.eb
open Go.RowKit Go.PlainAid
open Go.Proofs.YthpfgdhmpeadeaaDoor.ca Go.Proofs.YthpfgdhmpeadeaaDoor.cb Go.Proofs.YthpfgdhmpeadeaaDoor.cp Go.Proofs.YthpfgdhmpeadeaaDoor.ga Go.Proofs.YthpfgdhmpeadeaaDoor.kp Go.Proofs.YthpfgdhmpeadeaaDoor.na Go.Proofs.YthpfgdhmpeadeaaDoor.nb Go.Proofs.YthpfgdhmpeadeaaDoor.nc Go.Proofs.YthpfgdhmpeadeaaDoor.nf Go.Proofs.YthpfgdhmpeadeaaDoor.ng Go.Proofs.YthpfgdhmpeadeaaDoor.ea
set_option linter.unusedVariables false

-- a reader's state in memory; behind it stands what the reader makes
def rdL (b : ByteArray) (p : Nat) (e : Int) (rest : List Value) : List Value := .string b :: .int .i64 p :: .int .i64 e :: rest
def Rd (T g : Nat) (b : ByteArray) (p : Nat) (e : Int) (rest : List Value) (w : World) : Prop := w.heap[g]? = some (.cells (rdL b p e rest).toArray T (0, 0))
theorem Rd.lt {T g : Nat} {b : ByteArray} {p : Nat} {e : Int} {rest : List Value} {w : World} (h : Rd T g b p e rest w) : g < w.heap.size := (Array.getElem?_eq_some_iff.1 h).1
theorem Rd.keep {T g : Nat} {b : ByteArray} {p : Nat} {e : Int} {rest : List Value} {w w' : World} {A : Nat → Prop} (h : Rd T g b p e rest w) (k : Kp A w w') (hn : ¬ A g) : Rd T g b p e rest w' := (k.block _ h.lt hn).trans h
theorem Rd.b {T g : Nat} {b : ByteArray} {p : Nat} {e : Int} {rest : List Value} {w : World} (h : Rd T g b p e rest w) : w.cell? ⟨g, 0, none⟩ = some (.string b) := cell_of_row _ _ 0 _ _ _ h
theorem Rd.p {T g : Nat} {b : ByteArray} {p : Nat} {e : Int} {rest : List Value} {w : World} (h : Rd T g b p e rest w) : w.cell? ⟨g, 1, none⟩ = some (.int .i64 p) := cell_of_row _ _ 1 _ _ _ h
theorem Rd.e {T g : Nat} {b : ByteArray} {p : Nat} {e : Int} {rest : List Value} {w : World} (h : Rd T g b p e rest w) : w.cell? ⟨g, 2, none⟩ = some (.int .i64 e) := cell_of_row _ _ 2 _ _ _ h
theorem Rd.setp {T g : Nat} {b : ByteArray} {p : Nat} {e : Int} {rest : List Value} {w : World} (h : Rd T g b p e rest w) (q : Nat) : Rd T g b q e rest (w.setCell ⟨g, 1, none⟩ (.int .i64 q)) := heap_setCell_same _ _ 1 _ _ _ h
theorem Rd.sete {T g : Nat} {b : ByteArray} {p : Nat} {e : Int} {rest : List Value} {w : World} (h : Rd T g b p e rest w) (f : Int) : Rd T g b p f rest (w.setCell ⟨g, 2, none⟩ (.int .i64 f)) := heap_setCell_same _ _ 2 _ _ _ h

theorem refuseC (T g : Nat) (b : ByteArray) (p : Nat) (e f : Int) (rest : List Value) (w : World) (h : Rd T g b p e rest w) :
    Calls Tryd.prog 67 #[.pointer (some ⟨g, 0, none⟩), .int .i64 f] w fun x w' => x = .returned (.tuple #[]) ∧ Rd T g b p (refu e f) rest w' ∧ Kp (fun k => k = g) w w' := by
  have c2 := h.e
  have f2 := frozen_of_row _ _ 2 _ _ h
  by_cases he : e = 0
  · subst he
    have HR : Hid (Rd T g b p f rest (w.setCell ⟨g, 2, none⟩ (.int .i64 f))) := h.sete f
    have HK : Hid (Kp (fun k => k = g) w (w.setCell ⟨g, 2, none⟩ (.int .i64 f))) := Kp.setCell _ _ _ _ rfl
    clear h
    go_enter Tryd.func67, Tryd.ntmps67
    go_wp2
    go_end0
    exact ⟨rfl, HR.out, HK.out⟩
  · have he' : (e == 0) = false := by rw [beq_eq_false_iff_ne]; exact he
    have HE : Hid (refu e f = e) := refu_not e f he
    have H : Hid (Rd T g b p e rest w) := h
    clear h he
    go_enter Tryd.func67, Tryd.ntmps67
    go_wp2
    go_end0
    exact ⟨rfl, by rw [HE.out]; exact H.out, Kp.refl _ _⟩

theorem ret_v {a b : Value} (h : a = b) : Ending.returned a = .returned b := by rw [h]

theorem Rd.dN {T g : Nat} {b : ByteArray} {p : Nat} {e : Int} {rest : List Value} {w : World} (h : Rd T g b p e rest w) (n : Nat) : Rd T g b p e rest (w.drewN n) := h.keep (A := fun _ => False) (Kp.of_below (below_dN (Below.refl _ _) n)) (fun e => e)
theorem Kp.dN {A : Nat → Prop} (w : World) (n : Nat) : Kp A w (w.drewN n) := Kp.of_below (below_dN (Below.refl _ _) n)
set_option maxHeartbeats 1600000 in
theorem numberC (T g : Nat) (b : ByteArray) (p : Nat) (e : Int) (rest : List Value) (w : World) (h : Rd T g b p e rest w) (hb : b.size ≤ 140737488355328) (hp : Ok b p e) :
    Calls Tryd.prog 88 #[.pointer (some ⟨g, 0, none⟩)] w fun x w' => x = .returned (.int .u64 (numS b p e).1) ∧ Rd T g b (numS b p e).2.1 (numS b p e).2.2 rest w' ∧ Kp (fun k => k = g) w w' := by
  have c0 := h.b
  have c1 := h.p
  have c2 := h.e
  by_cases he : e = 0
  · subst he
    have CV : Hid (∀ w, Calls _ _ _ _ _) := fun w => var_any b p w (by omega) hp.1
    have H : Hid (Rd T g b p 0 rest w) := h
    by_cases hv : (varR b p 10 0 0).2.2 = 0
    · obtain ⟨q, hq, hq2⟩ : ∃ q : Nat, (varR b p 10 0 0).2.1 = q ∧ q ≤ b.size := by
        rcases var_in b p hp.1 with ⟨_, ⟨q, h1, h2, _⟩, _⟩ | ⟨h1, _⟩
        · exact ⟨q, h1, h2⟩
        · exact absurd hv h1
      have HN : Hid (numS b p 0 = ((varR b p 10 0 0).1, q, 0)) := by
        show _ = _
        rw [numS_yes b p hv, hq]; rfl
      rw [HN.out]
      obtain ⟨x, HX⟩ : ∃ x, Hid ((varR b p 10 0 0).1 = x) := ⟨_, rfl⟩
      rw [HX.out, hq, hv] at CV
      rw [HX.out]
      clear h hp hv hq
      go_enter Tryd.func88, Tryd.ntmps88
      go_upto_region 3 with fail
      go_quiet ((go_at_call 104; exact Calls.quiet_of_same (CV.out _)))
      obtain ⟨w1, HW⟩ : ∃ w1, w1 = w.drewN nq := ⟨_, rfl⟩
      have H1 : Hid (Rd T g b p 0 rest w1) := by rw [HW]; exact H.out.dN nq
      have K1 : Hid (Kp (fun k => k = g) w w1) := by rw [HW]; exact Kp.dN w nq
      rw [← HW]
      have f1 := frozen_of_row _ _ 1 _ _ H1.out
      clear HW c0 c1 c2
      have c1 := H1.out.p
      go_wp2
      go_ret
      exact ⟨rfl, H1.out.setp q, K1.out.trans (Kp.setCell _ _ _ _ rfl)⟩
    · have HN : Hid (numS b p 0 = (0, p, (varR b p 10 0 0).2.2)) := numS_bad b p hv
      rw [HN.out]
      obtain ⟨x, y, z, HX⟩ : ∃ x y z, Hid (varR b p 10 0 0 = (x, y, z)) := ⟨_, _, _, rfl⟩
      rw [HX.out] at CV hv ⊢
      have hv' : (z != 0) = true := by rw [bne_iff_ne]; exact hv
      have HZ : Hid (refu 0 z = z) := refu_zero z
      clear h hp hv
      go_enter Tryd.func88, Tryd.ntmps88
      go_upto_region 3 with fail
      go_quiet ((go_at_call 104; exact Calls.quiet_of_same (CV.out _)))
      obtain ⟨w1, HW⟩ : ∃ w1, w1 = w.drewN nq := ⟨_, rfl⟩
      have H1 : Hid (Rd T g b p 0 rest w1) := by rw [HW]; exact H.out.dN nq
      have K1 : Hid (Kp (fun k => k = g) w w1) := by rw [HW]; exact Kp.dN w nq
      rw [← HW]
      clear HW c0 c1 c2
      go_wp2_with (go_at_call 67; refine (refuseC T g b p 0 z rest _ H1.out).mono ?_; rintro _ w2 ⟨rfl, r2, k2⟩; have R2 : Hid (Rd T g b p (refu 0 z) rest w2) := r2; have K2 : Hid (Kp _ _ _) := k2; clear r2 k2)
      go_ret
      exact ⟨rfl, R2.out, K1.out.trans K2.out⟩
  · have he' : (e != 0) = true := by rw [bne_iff_ne]; exact he
    have HE : Hid (numS b p e = (0, p, e)) := numS_not b p e he
    have H : Hid (Rd T g b p e rest w) := h
    clear h he hp
    rw [HE.out]
    go_enter Tryd.func88, Tryd.ntmps88
    go_wp2
    go_ret
    exact ⟨rfl, H.out, Kp.refl _ _⟩

theorem atMostC (T g : Nat) (b : ByteArray) (p : Nat) (e m f : Int) (rest : List Value) (w : World) (h : Rd T g b p e rest w) (hb : b.size ≤ 140737488355328) (hp : Ok b p e) (hm : -4611686018427387904 ≤ m) (hm' : m ≤ 4611686018427387904) :
    Calls Tryd.prog 71 #[.pointer (some ⟨g, 0, none⟩), .int .i64 m, .int .i64 f] w fun x w' => x = .returned (.int .i64 (mostS b m f p e).1) ∧ Rd T g b (mostS b m f p e).2.1 (mostS b m f p e).2.2 rest w' ∧ Kp (fun k => k = g) w w' := by
  obtain ⟨hn1, hn2, hn3⟩ := num_ok b p e hp
  have CN : Hid (Calls _ _ _ _ _) := numberC T g b p e rest w h hb hp
  have HM : Hid (mostS b m f p e = if m < 0 ∨ m < (numS b p e).1 then (0, (numS b p e).2.1, refu (numS b p e).2.2 f) else numS b p e) := rfl
  obtain ⟨x, q, z, HX⟩ : ∃ x q z, Hid (numS b p e = (x, q, z)) := ⟨_, _, _, rfl⟩
  rw [HX.out] at CN HM hn1 hn2 hn3
  clear h hp
  by_cases h0 : m < 0
  · have HO : Hid (mostS b m f p e = (0, q, refu z f)) := by show _ = _; rw [HM.out, if_pos (.inl h0)]
    rw [HO.out]
    have g0 : decide (m < 0) = true := by simpa using h0
    go_enter Tryd.func71, Tryd.ntmps71
    go_wp2_with (first | (go_at_call 88; refine CN.out.mono ?_; rintro _ w1 ⟨rfl, r1, k1⟩; have R1 : Hid (Rd T g b q z rest w1) := r1; have K1 : Hid (Kp _ _ _) := k1; clear r1 k1) | (go_at_call 67; refine (refuseC T g b q z f rest _ R1.out).mono ?_; rintro _ w2 ⟨rfl, r2, k2⟩; have R2 : Hid (Rd T g b q (refu z f) rest w2) := r2; have K2 : Hid (Kp _ _ _) := k2; clear r2 k2))
    go_ret
    exact ⟨rfl, R2.out, K1.out.trans K2.out⟩
  have g0 : decide (m < 0) = false := by simpa using h0
  have gu : IntKind.u64.wrap m = m := u64_nonneg (by omega) (by omega)
  by_cases h1 : m < x
  · have HO : Hid (mostS b m f p e = (0, q, refu z f)) := by show _ = _; rw [HM.out, if_pos (.inr h1)]
    rw [HO.out]
    go_enter Tryd.func71, Tryd.ntmps71
    go_wp2_with (first | (go_at_call 88; refine CN.out.mono ?_; rintro _ w1 ⟨rfl, r1, k1⟩; have R1 : Hid (Rd T g b q z rest w1) := r1; have K1 : Hid (Kp _ _ _) := k1; clear r1 k1) | (go_at_call 67; refine (refuseC T g b q z f rest _ R1.out).mono ?_; rintro _ w2 ⟨rfl, r2, k2⟩; have R2 : Hid (Rd T g b q (refu z f) rest w2) := r2; have K2 : Hid (Kp _ _ _) := k2; clear r2 k2))
    go_ret
    exact ⟨rfl, R2.out, K1.out.trans K2.out⟩
  · have HO : Hid (mostS b m f p e = (x, q, z)) := by
      show _ = _
      have h2 : ¬ (m < 0 ∨ m < x) := by omega
      rw [HM.out, if_neg h2]
    rw [HO.out]
    go_enter Tryd.func71, Tryd.ntmps71
    go_wp2_with (first | (go_at_call 88; refine CN.out.mono ?_; rintro _ w1 ⟨rfl, r1, k1⟩; have R1 : Hid (Rd T g b q z rest w1) := r1; have K1 : Hid (Kp _ _ _) := k1; clear r1 k1))
    go_ret
    exact ⟨rfl, R1.out, K1.out⟩

theorem sizeC (T g : Nat) (b : ByteArray) (p : Nat) (e : Int) (rest : List Value) (w : World) (h : Rd T g b p e rest w) (hb : b.size ≤ 140737488355328) (hp : Ok b p e) :
    Calls Tryd.prog 64 #[.pointer (some ⟨g, 0, none⟩)] w fun x w' => x = .returned (.int .i64 (mostS b 4611686018427387904 10 p e).1) ∧ Rd T g b (mostS b 4611686018427387904 10 p e).2.1 (mostS b 4611686018427387904 10 p e).2.2 rest w' ∧ Kp (fun k => k = g) w w' := by
  have CN : Hid (Calls _ _ _ _ _) := atMostC T g b p e 4611686018427387904 10 rest w h hb hp (by decide) (by decide)
  go_enter Tryd.func64, Tryd.ntmps64
  go_wp2_with (go_at_call 71; refine CN.out.mono ?_; rintro _ w1 ⟨rfl, r1, k1⟩; have R1 : Hid (Rd T g b _ _ rest w1) := r1; have K1 : Hid (Kp _ _ _) := k1; clear r1 k1)
  go_ret
  exact ⟨rfl, R1.out, K1.out⟩

theorem endC (T g : Nat) (b : ByteArray) (p : Nat) (e : Int) (rest : List Value) (w : World) (h : Rd T g b p e rest w) (hb : b.size ≤ 140737488355328) (hp : Ok b p e) :
    Calls Tryd.prog 40 #[.pointer (some ⟨g, 0, none⟩)] w fun x w' => x = .returned (.int .i64 (endS b p e)) ∧ Rd T g b p (endS b p e) rest w' ∧ Kp (fun k => k = g) w w' := by
  have c0 := h.b
  have c1 := h.p
  have hp1 : p ≤ b.size := hp.1
  have H : Hid (Rd T g b p e rest w) := h
  by_cases hlt : p < b.size
  · have HE : Hid (endS b p e = refu e 111) := if_pos hlt
    have hlt' : (p : Int) < b.size := by omega
    clear h hp
    rw [HE.out]
    go_enter Tryd.func40, Tryd.ntmps40
    go_upto_region 1 with fail
    go_quiet (fail)
    obtain ⟨w1, HW⟩ : ∃ w1, w1 = w.drewN nq := ⟨_, rfl⟩
    have H1 : Hid (Rd T g b p e rest w1) := by rw [HW]; exact H.out.dN nq
    have K1 : Hid (Kp (fun k => k = g) w w1) := by rw [HW]; exact Kp.dN w nq
    rw [← HW]
    clear HW c0 c1
    go_wp2_with (go_at_call 67; refine (refuseC T g b p e 111 rest _ H1.out).mono ?_; rintro _ w2 ⟨rfl, r2, k2⟩; have R2 : Hid (Rd T g b p (refu e 111) rest w2) := r2; have K2 : Hid (Kp _ _ _) := k2; have c2 := r2.e; clear r2 k2)
    go_ret
    exact ⟨rfl, R2.out, K1.out.trans K2.out⟩
  · have HE : Hid (endS b p e = e) := if_neg hlt
    have hlt' : ¬ (p : Int) < b.size := by omega
    clear h hp
    rw [HE.out]
    go_enter Tryd.func40, Tryd.ntmps40
    go_upto_region 1 with fail
    go_quiet (fail)
    obtain ⟨w1, HW⟩ : ∃ w1, w1 = w.drewN nq := ⟨_, rfl⟩
    have H1 : Hid (Rd T g b p e rest w1) := by rw [HW]; exact H.out.dN nq
    have K1 : Hid (Kp (fun k => k = g) w w1) := by rw [HW]; exact Kp.dN w nq
    rw [← HW]
    clear HW c0 c1
    have c2 := H1.out.e
    go_wp2
    go_ret
    exact ⟨rfl, H1.out, K1.out⟩
end Go.Proofs.YthpfgdhmpeadeaaDoor.eb

namespace Go.Proofs.YthpfgdhmpeadeaaDoor.ec
open Go.RowKit Go.PlainAid Go.Shelf
open Go.Proofs.YthpfgdhmpeadeaaDoor.ca Go.Proofs.YthpfgdhmpeadeaaDoor.cb Go.Proofs.YthpfgdhmpeadeaaDoor.cp Go.Proofs.YthpfgdhmpeadeaaDoor.ga Go.Proofs.YthpfgdhmpeadeaaDoor.kp Go.Proofs.YthpfgdhmpeadeaaDoor.na Go.Proofs.YthpfgdhmpeadeaaDoor.nb Go.Proofs.YthpfgdhmpeadeaaDoor.nc Go.Proofs.YthpfgdhmpeadeaaDoor.nf Go.Proofs.YthpfgdhmpeadeaaDoor.ng Go.Proofs.YthpfgdhmpeadeaaDoor.ea Go.Proofs.YthpfgdhmpeadeaaDoor.eb Go.Proofs.YthpfgdhmpeadeaaDoor.sb
set_option linter.unusedVariables false

theorem cloneC (s : ByteArray) (w : World) (h : s.size ≤ 140737488355328) :
    Calls Tryd.prog 89 #[.string s] w fun e w' => e = .returned (.string s) ∧ Below w.heap.size w w' := by
  have CC : Hid (∀ w, Calls Tryd.prog 105 #[.string s] w fun e w' => e = .returned (.string s) ∧ Below w.heap.size w w') := fun w => AnyPu.stringslite_Clone laysC s w (by omega)
  go_enter Tryd.func89, Tryd.ntmps89
  go_wp2_with (go_at_call 105; refine (CC.out _).mono ?_; rintro _ w1 ⟨rfl, k1⟩; have K1 : Hid (Below w.heap.size w w1) := k1; clear k1)
  go_ret
  exact ⟨rfl, K1.out⟩

theorem below_dr {B : Nat} {w w' : World} (h : Below B w w') : Below B w w'.drew := below_dN h 1
set_option maxHeartbeats 1600000 in
theorem takeC (T g : Nat) (b : ByteArray) (p : Nat) (e : Int) (rest : List Value) (c : Nat) (w : World) (h : Rd T g b p e rest w) (hb : b.size ≤ 140737488355328) (hp : Ok b p e) (hc : c ≤ 140737488355328) :
    Calls Tryd.prog 72 #[.pointer (some ⟨g, 0, none⟩), .int .i64 c] w fun x w' => x = .returned (.string (takeS b c p e).1) ∧ Rd T g b (takeS b c p e).2.1 (takeS b c p e).2.2 rest w' ∧ Kp (fun k => k = g) w w' := by
  have c0 := h.b
  have c1 := h.p
  have hp1 : p ≤ b.size := hp.1
  have H : Hid (Rd T g b p e rest w) := h
  by_cases hs : b.size < p + c
  · have hs' : (b.size : Int) - p < c := by omega
    obtain ⟨f, hf, HT⟩ : ∃ f, (f != 0) = true ∧ Hid (takeS b c p e = (ByteArray.empty, p, f) ∧ refu e 12 = f) := by
      by_cases he : e = 0
      · subst he
        exact ⟨12, by decide, takeS_short b c p hs, rfl⟩
      · exact ⟨e, by rw [bne_iff_ne]; exact he, takeS_not b c p e he, refu_not e 12 he⟩
    rw [HT.out.1]
    clear h hp
    go_enter Tryd.func72, Tryd.ntmps72
    go_upto_region 1 with fail
    go_quiet (fail)
    obtain ⟨w1, HW⟩ : ∃ w1, w1 = w.drewN nq := ⟨_, rfl⟩
    have H1 : Hid (Rd T g b p e rest w1) := by rw [HW]; exact H.out.dN nq
    have K1 : Hid (Kp (fun k => k = g) w w1) := by rw [HW]; exact Kp.dN w nq
    rw [← HW]
    clear HW c0 c1
    go_wp2_with (go_at_call 67; refine (refuseC T g b p e 12 rest _ H1.out).mono ?_; rintro _ w2 ⟨rfl, r2, k2⟩; rw [HT.out.2] at r2; have R2 : Hid (Rd T g b p f rest w2) := r2; have K2 : Hid (Kp _ _ _) := k2; have c2 := r2.e; clear r2 k2)
    go_ret
    exact ⟨rfl, R2.out, K1.out.trans K2.out⟩
  have hs' : ¬ (b.size : Int) - p < c := by omega
  by_cases he : e = 0
  · subst he
    have HT : Hid (takeS b c p 0 = (b.extract p (p + c), p + c, 0)) := takeS_yes b c p (by omega)
    rw [HT.out]
    have hcs : (b.extract p (p + c)).size = c := by rw [ByteArray.size_extract]; omega
    have CC : Hid (∀ w, Calls _ _ _ _ _) := fun w => cloneC (b.extract p (p + c)) w (by omega)
    have hpc : p + c ≤ b.size := by omega
    clear h hp
    go_enter Tryd.func72, Tryd.ntmps72
    go_upto_region 1 with fail
    go_quiet (fail)
    obtain ⟨w1, HW⟩ : ∃ w1, w1 = w.drewN nq := ⟨_, rfl⟩
    have H1 : Hid (Rd T g b p 0 rest w1) := by rw [HW]; exact H.out.dN nq
    have K1 : Hid (Kp (fun k => k = g) w w1) := by rw [HW]; exact Kp.dN w nq
    rw [← HW]
    clear HW c0 c1
    have c1 := H1.out.p
    have c2 := H1.out.e
    have f1 := frozen_of_row _ _ 1 _ _ H1.out
    have e1 : ((p + c : Nat) : Int) = (p : Int) + c := by omega
    have H2 : Hid (Rd T g b (p + c) 0 rest (w1.setCell ⟨g, 1, none⟩ (.int .i64 ((p : Int) + c)))) := by have := H1.out.setp (p + c); rw [e1] at this; exact this
    have K2 : Hid (Kp (fun k => k = g) w (w1.setCell ⟨g, 1, none⟩ (.int .i64 ((p : Int) + c)))) := K1.out.trans (Kp.setCell _ _ _ _ rfl)
    go_upto_region 7 with fail
    obtain ⟨w2, HW⟩ : ∃ w2, w2 = w1.setCell ⟨g, 1, none⟩ (.int .i64 ((p : Int) + c)) := ⟨_, rfl⟩
    rw [← HW] at H2 K2 ⊢
    clear HW c1 c2 f1 H1 K1
    have R2 : Hid (Rd T g b (p + c) 0 rest w2.drew) := H2.out
    have K2d : Hid (Kp (fun k => k = g) w w2.drew) := K2.out.trans (Kp.of_below (below_dr (Below.refl _ _)))
    have SX : Hid (∀ w', Rd T g b (p + c) 0 rest w' → Kp (fun k => k = g) w w' → w'.cell? ⟨g, 0, none⟩ = some (.string b) ∧ w'.cell? ⟨g, 1, none⟩ = some (.int .i64 ((p : Int) + c)) ∧ Rd T g b (p + c) 0 rest w' ∧ Kp (fun k => k = g) w w') := fun w' r k => ⟨r.b, by have := r.p; rw [e1] at this; exact this, r, k⟩
    have RX : Hid (∀ w', Below w2.drew.heap.size w2.drew w' → Rd T g b (p + c) 0 rest w' ∧ Kp (fun k => k = g) w w') := fun w' hb' => ⟨R2.out.keep (A := fun _ => False) (Kp.of_below hb') (fun e => e), K2d.out.trans (Kp.of_below hb')⟩
    have hb1 : (0 : Int) ≤ (p : Int) + c ∧ (p : Int) + c ≤ b.size := by omega
    have hb2 : (p : Int) ≤ (p : Int) + c := by omega
    go_region_held3 (fun w' => w'.cell? ⟨g, 0, none⟩ = some (.string b) ∧ w'.cell? ⟨g, 1, none⟩ = some (.int .i64 ((p : Int) + c)) ∧ Rd T g b (p + c) 0 rest w' ∧ Kp (fun k => k = g) w w') (first | exact SX.out _ R2.out K2d.out | exact SX.out _ R3.out.1 R3.out.2) ((go_at_call 89; refine (CC.out _).mono ?_; rintro _ w3 ⟨rfl, k3⟩; have R3 : Hid (Rd T g b (p + c) 0 rest w3 ∧ Kp (fun k => k = g) w w3) := RX.out _ k3; clear k3))
    go_wp2
    go_ret
    exact ⟨rfl, R3.out.1, R3.out.2⟩
  · have he' : (e != 0) = true := by rw [bne_iff_ne]; exact he
    have HE : Hid (takeS b c p e = (ByteArray.empty, p, e)) := takeS_not b c p e he
    clear h he hp
    rw [HE.out]
    go_enter Tryd.func72, Tryd.ntmps72
    go_upto_region 1 with fail
    go_quiet (fail)
    obtain ⟨w1, HW⟩ : ∃ w1, w1 = w.drewN nq := ⟨_, rfl⟩
    have H1 : Hid (Rd T g b p e rest w1) := by rw [HW]; exact H.out.dN nq
    have K1 : Hid (Kp (fun k => k = g) w w1) := by rw [HW]; exact Kp.dN w nq
    rw [← HW]
    clear HW c0 c1
    have c2 := H1.out.e
    go_wp2
    go_ret
    exact ⟨rfl, H1.out, K1.out⟩
end Go.Proofs.YthpfgdhmpeadeaaDoor.ec

namespace Go.Proofs.YthpfgdhmpeadeaaDoor.ed
open Go.RowKit Go.PlainAid Go.Shelf
open Go.Proofs.YthpfgdhmpeadeaaDoor.ca Go.Proofs.YthpfgdhmpeadeaaDoor.cb Go.Proofs.YthpfgdhmpeadeaaDoor.cp Go.Proofs.YthpfgdhmpeadeaaDoor.ga Go.Proofs.YthpfgdhmpeadeaaDoor.kp Go.Proofs.YthpfgdhmpeadeaaDoor.na Go.Proofs.YthpfgdhmpeadeaaDoor.nb Go.Proofs.YthpfgdhmpeadeaaDoor.nc Go.Proofs.YthpfgdhmpeadeaaDoor.nf Go.Proofs.YthpfgdhmpeadeaaDoor.ng Go.Proofs.YthpfgdhmpeadeaaDoor.ea Go.Proofs.YthpfgdhmpeadeaaDoor.eb Go.Proofs.YthpfgdhmpeadeaaDoor.ec Go.Proofs.YthpfgdhmpeadeaaDoor.ka Go.Proofs.YthpfgdhmpeadeaaDoor.bn
set_option linter.unusedVariables false

set_option maxHeartbeats 1600000 in
theorem markC (T g : Nat) (b : ByteArray) (p : Nat) (e c : Int) (s : ByteArray) (rest : List Value) (w : World) (h : Rd T g b p e rest w) (hb : b.size ≤ 140737488355328) (hp : Ok b p e) (hs : str [c] = s) :
    Calls Tryd.prog 62 #[.pointer (some ⟨g, 0, none⟩), .string s] w fun x w' => x = .returned (.tuple #[]) ∧ Rd T g b (markS b c p e).1 (markS b c p e).2 rest w' ∧ Kp (fun k => k = g) w w' := by
  have hs1 : s.size = 1 := by rw [← hs, str_size]; rfl
  have CT : Hid (Calls _ _ _ _ _) := takeC T g b p e rest 1 w h hb hp (by omega)
  have HM : Hid (markS b c p e = ((takeS b 1 p e).2.1, if (takeS b 1 p e).1 = s then (takeS b 1 p e).2.2 else refu (takeS b 1 p e).2.2 110)) := by show _ = _; rw [← hs]; rfl
  rw [HM.out]
  obtain ⟨x, q, z, HX⟩ : ∃ x q z, Hid (takeS b 1 p e = (x, q, z)) := ⟨_, _, _, rfl⟩
  rw [HX.out] at CT ⊢
  clear h hp hs
  by_cases hq : x = s
  · have g1 : (x.toList == s.toList) = true := by rw [beqL, decide_eq_true hq]
    have HI : Hid ((if x = s then z else refu z 110) = z) := if_pos hq
    rw [HI.out]
    clear hq
    go_enter Tryd.func62, Tryd.ntmps62
    go_wp2_with (go_at_call 72; refine CT.out.mono ?_; rintro _ w1 ⟨rfl, r1, k1⟩; have R1 : Hid (Rd T g b q z rest w1) := r1; have K1 : Hid (Kp _ _ _) := k1; clear r1 k1)
    go_end0
    exact ⟨rfl, R1.out, K1.out⟩
  · have g1 : (x.toList == s.toList) = false := by rw [beqL, decide_eq_false hq]
    have HI : Hid ((if x = s then z else refu z 110) = refu z 110) := if_neg hq
    rw [HI.out]
    clear hq
    go_enter Tryd.func62, Tryd.ntmps62
    go_wp2_with (first | (go_at_call 72; refine CT.out.mono ?_; rintro _ w1 ⟨rfl, r1, k1⟩; have R1 : Hid (Rd T g b q z rest w1) := r1; have K1 : Hid (Kp _ _ _) := k1; clear r1 k1) | (go_at_call 67; refine (refuseC T g b q z 110 rest _ R1.out).mono ?_; rintro _ w2 ⟨rfl, r2, k2⟩; have R2 : Hid (Rd T g b q (refu z 110) rest w2) := r2; have K2 : Hid (Kp _ _ _) := k2; clear r2 k2))
    go_end0
    exact ⟨rfl, R2.out, K1.out.trans K2.out⟩

theorem isWidthC (x : Int) (w : World) : Calls Tryd.prog 57 #[.int .i64 x] w fun e w' => e = .returned (.bool (decide (1 ≤ x ∧ x ≤ 32))) ∧ w' = w := by
  by_cases h1 : 1 ≤ x
  · by_cases h2 : x ≤ 32
    · rw [decide_eq_true (show 1 ≤ x ∧ x ≤ 32 from ⟨h1, h2⟩)]
      go_enter Tryd.func57, Tryd.ntmps57
      go_wp2
      go_ret
      exact ⟨rfl, rfl⟩
    · rw [decide_eq_false (show ¬ (1 ≤ x ∧ x ≤ 32) from fun h => h2 h.2)]
      go_enter Tryd.func57, Tryd.ntmps57
      go_wp2
      go_ret
      exact ⟨rfl, rfl⟩
  · rw [decide_eq_false (show ¬ (1 ≤ x ∧ x ≤ 32) from fun h => h1 h.1)]
    go_enter Tryd.func57, Tryd.ntmps57
    go_wp2
    go_ret
    exact ⟨rfl, rfl⟩

theorem beC (x : ByteArray) (h : x.size ≤ 1) (w : World) : Calls Tryd.prog 87 #[.string x, .int .i64 0, .int .i64 1] w fun e w' => (∃ z : Int, e = .returned (.tuple #[.int .u64 (if x.size = 1 then bt x 0 else 0), .int .i64 z])) ∧ w' = w := by
  by_cases h1 : x.size = 1
  · rw [if_pos h1]
    refine (be_any x 0 1 w (by omega) (by omega) (by omega) (by omega)).mono ?_
    rintro e w' ⟨rfl, rfl⟩
    have e : beR x 0 1 = bt x 0 := by rw [beR, beR]; simp
    rw [e]
    exact ⟨⟨0, rfl⟩, rfl⟩
  · rw [if_neg h1]
    refine (be_range x 0 1 w (by omega) (by omega)).mono ?_
    rintro e w' ⟨rfl, rfl⟩
    exact ⟨⟨10, rfl⟩, rfl⟩

set_option maxHeartbeats 1600000 in
theorem widthC (T g : Nat) (b : ByteArray) (p : Nat) (e : Int) (rest : List Value) (w : World) (h : Rd T g b p e rest w) (hb : b.size ≤ 140737488355328) (hp : Ok b p e) :
    Calls Tryd.prog 63 #[.pointer (some ⟨g, 0, none⟩)] w fun x w' => x = .returned (.int .i64 (widthS b p e).1) ∧ Rd T g b (widthS b p e).2.1 (widthS b p e).2.2 rest w' ∧ Kp (fun k => k = g) w w' := by
  have CT : Hid (Calls _ _ _ _ _) := takeC T g b p e rest 1 w h hb hp (by omega)
  have hx1 : (takeS b 1 p e).1.size ≤ 1 := by
    unfold takeS
    split
    · exact Nat.zero_le _
    · split
      · exact Nat.zero_le _
      · show (b.extract p (p + 1)).size ≤ 1
        rw [ByteArray.size_extract]; omega
  have CB : Hid (∀ w, Calls _ _ _ _ _) := fun w => beC _ hx1 w
  have hv := byte_in b p e
  have HW : Hid (widthS b p e = (byteS b p e, (takeS b 1 p e).2.1, if 1 ≤ byteS b p e ∧ byteS b p e ≤ 32 then (takeS b 1 p e).2.2 else refu (takeS b 1 p e).2.2 10)) := rfl
  have HV : Hid ((if (takeS b 1 p e).1.size = 1 then bt (takeS b 1 p e).1 0 else 0) = byteS b p e) := rfl
  rw [HV.out] at CB
  rw [HW.out]
  obtain ⟨v, HVV⟩ : ∃ v, Hid (byteS b p e = v) := ⟨_, rfl⟩
  rw [HVV.out] at CB hv ⊢
  obtain ⟨x, q, z, HX⟩ : ∃ x q z, Hid (takeS b 1 p e = (x, q, z)) := ⟨_, _, _, rfl⟩
  rw [HX.out] at CT CB ⊢
  have CW : Hid (∀ w, Calls _ _ _ _ _) := fun w => isWidthC v w
  clear h hp hx1
  by_cases hq : 1 ≤ v ∧ v ≤ 32
  · rw [decide_eq_true hq] at CW
    have HI : Hid ((if 1 ≤ v ∧ v ≤ 32 then z else refu z 10) = z) := if_pos hq
    rw [HI.out]
    clear hq
    go_enter Tryd.func63, Tryd.ntmps63
    go_wp2_with (first | (go_at_call 72; refine CT.out.mono ?_; rintro _ w1 ⟨rfl, r1, k1⟩; have R1 : Hid (Rd T g b q z rest w1) := r1; have K1 : Hid (Kp _ _ _) := k1; clear r1 k1) | (go_at_call 87; refine (CB.out _).mono ?_; rintro _ _ ⟨⟨zz, rfl⟩, rfl⟩) | (go_at_call 57; refine (CW.out _).mono ?_; rintro _ _ ⟨rfl, rfl⟩))
    go_ret
    exact ⟨rfl, R1.out, K1.out⟩
  · rw [decide_eq_false hq] at CW
    have HI : Hid ((if 1 ≤ v ∧ v ≤ 32 then z else refu z 10) = refu z 10) := if_neg hq
    rw [HI.out]
    clear hq
    go_enter Tryd.func63, Tryd.ntmps63
    go_wp2_with (first | (go_at_call 72; refine CT.out.mono ?_; rintro _ w1 ⟨rfl, r1, k1⟩; have R1 : Hid (Rd T g b q z rest w1) := r1; have K1 : Hid (Kp _ _ _) := k1; clear r1 k1) | (go_at_call 87; refine (CB.out _).mono ?_; rintro _ _ ⟨⟨zz, rfl⟩, rfl⟩) | (go_at_call 57; refine (CW.out _).mono ?_; rintro _ _ ⟨rfl, rfl⟩) | (go_at_call 67; refine (refuseC T g b q z 10 rest _ R1.out).mono ?_; rintro _ w2 ⟨rfl, r2, k2⟩; have R2 : Hid (Rd T g b q (refu z 10) rest w2) := r2; have K2 : Hid (Kp _ _ _) := k2; clear r2 k2))
    go_ret
    exact ⟨rfl, R2.out, K1.out.trans K2.out⟩
end Go.Proofs.YthpfgdhmpeadeaaDoor.ed

namespace Go.Proofs.YthpfgdhmpeadeaaDoor.ee
open Go.RowKit Go.PlainAid Go.Shelf
open Go.Proofs.YthpfgdhmpeadeaaDoor.ca Go.Proofs.YthpfgdhmpeadeaaDoor.cb Go.Proofs.YthpfgdhmpeadeaaDoor.cp Go.Proofs.YthpfgdhmpeadeaaDoor.ga Go.Proofs.YthpfgdhmpeadeaaDoor.kp Go.Proofs.YthpfgdhmpeadeaaDoor.na Go.Proofs.YthpfgdhmpeadeaaDoor.nb Go.Proofs.YthpfgdhmpeadeaaDoor.nc Go.Proofs.YthpfgdhmpeadeaaDoor.nf Go.Proofs.YthpfgdhmpeadeaaDoor.ng Go.Proofs.YthpfgdhmpeadeaaDoor.ea Go.Proofs.YthpfgdhmpeadeaaDoor.eb Go.Proofs.YthpfgdhmpeadeaaDoor.ec Go.Proofs.YthpfgdhmpeadeaaDoor.ed Go.Proofs.YthpfgdhmpeadeaaDoor.ka Go.Proofs.YthpfgdhmpeadeaaDoor.bn
set_option linter.unusedVariables false

theorem own_kp {A : Nat → Prop} {w w' : World} {B t s n : Nat} {v : Value} {xs : List Value} (h : w.ownsRow B t s v n xs) (k : Kp A w w') (hA : ∀ j, A j → j < B) : w'.ownsRow B t s v n xs := by
  refine ⟨h.1, ?_⟩
  rcases h.2 with h2 | ⟨g, cap, cur, h1, h2, h3, h4⟩
  · exact .inl h2
  · exact .inr ⟨g, cap, cur, h1, h2, (k.block g (Array.getElem?_eq_some_iff.1 h3).1 (fun a => by have := hA g a; omega)).trans h3, h4⟩
theorem kp_below {A : Nat → Prop} {w w1 w2 : World} (k : Kp A w w1) (b : Below w.heap.size w1 w2) : Kp A w w2 :=
  ⟨b.os.trans k.os, b.tape.trans k.tape, b.output.trans k.output, Nat.le_trans k.size b.size, fun j hj hn => (b.block j hj).trans (k.block j hj hn)⟩
theorem Rd.below {T g B : Nat} {b : ByteArray} {p : Nat} {e : Int} {rest : List Value} {w w' : World} (h : Rd T g b p e rest w) (k : Below B w w') (hg : g < B) : Rd T g b p e rest w' := (k.block _ hg).trans h
def lenV : Value → Nat
  | .slice _ n _ => n
  | _ => 0
theorem own_len {w : World} {B t s n : Nat} {v : Value} {xs : List Value} (h : w.ownsRow B t s v n xs) : lenV v = n := by
  rcases h.2 with ⟨rfl, rfl⟩ | ⟨g, cap, cur, rfl, _⟩
  · rfl
  · rfl
theorem hashesS_next (b : ByteArray) (w n p : Nat) : hashesS b w (n + 1) p 0 = ((takeS b w p 0).1 :: (hashesS b w n (takeS b w p 0).2.1 (takeS b w p 0).2.2).1, (hashesS b w n (takeS b w p 0).2.1 (takeS b w p 0).2.2).2) := by
  rw [hashesS, if_neg (by omega)]
-- what the reader of hashes has made so far
structure HI (T g : Nat) (b : ByteArray) (wd n p : Nat) (e : Int) (rest : List Value) (w : World) (v : Value) (xs : List ByteArray) (q : Nat) (z : Int) (wr : World) : Prop where
  rd : Rd T g b q z rest wr
  ok : Ok b q z
  kp : Kp (fun k => k = g) w wr
  own : wr.ownsRow w.heap.size 9 1 v xs.length (xs.map Value.string)
  len : xs.length ≤ n
  eq : hashesS b wd n p e = (xs ++ (hashesS b wd (n - xs.length) q z).1, (hashesS b wd (n - xs.length) q z).2)
theorem HI.step {T g : Nat} {b : ByteArray} {wd n p : Nat} {e : Int} {rest : List Value} {w wr w1 w3 : World} {v v' : Value} {xs : List ByteArray} {q : Nat}
    (h : HI T g b wd n p e rest w v xs q 0 wr) (hg : g < w.heap.size) (hlt : xs.length < n) (k1 : Kp (fun k => k = g) wr w1) (r1 : Rd T g b (takeS b wd q 0).2.1 (takeS b wd q 0).2.2 rest w1) (b3 : Below w.heap.size w1 w3)
    (o3 : w3.ownsRow w.heap.size 9 1 v' (xs.length + 1) (xs.map Value.string ++ [.string (takeS b wd q 0).1])) : HI T g b wd n p e rest w v' (xs ++ [(takeS b wd q 0).1]) (takeS b wd q 0).2.1 (takeS b wd q 0).2.2 w3 := by
  refine ⟨Rd.below r1 b3 hg, take_ok b wd q 0 h.ok, kp_below (h.kp.trans k1) b3, ?_, by rw [List.length_append]; simp; omega, ?_⟩
  · rw [List.length_append, List.map_append]; exact o3
  · rw [h.eq, List.length_append, show n - xs.length = (n - (xs.length + 1)) + 1 by omega, hashesS_next]
    simp
set_option maxHeartbeats 1600000 in
theorem hashesC (T g : Nat) (b : ByteArray) (p : Nat) (e : Int) (rest : List Value) (wd n : Nat) (w : World) (h : Rd T g b p e rest w) (hb : b.size ≤ 140737488355328) (hp : Ok b p e) (hw : wd ≤ 1000) (hn : n ≤ 1000000) :
    Calls Tryd.prog 65 #[.pointer (some ⟨g, 0, none⟩), .int .i64 wd, .int .i64 n] w fun x w' => (∃ v, x = .returned v ∧ w'.ownsRow w.heap.size 9 1 v (hashesS b wd n p e).1.length ((hashesS b wd n p e).1.map Value.string)) ∧ Rd T g b (hashesS b wd n p e).2.1 (hashesS b wd n p e).2.2 rest w' ∧ Kp (fun k => k = g) w w' := by
  obtain ⟨i9, hi, hz0, hz1, hz2⟩ := info_parts hi9
  have HIN : Hid (_ ∧ _ ∧ _ ∧ _) := ⟨hi, hz0, hz1, hz2⟩
  clear hi hz0 hz1 hz2
  have hg := h.lt
  have H0 : Hid (HI T g b wd n p e rest w (.slice none 0 0) [] p e w) := ⟨h, hp, Kp.refl _ _, World.ownsRow_nil _ _ _ _, by simp, by simp⟩
  obtain ⟨R, HR⟩ : ∃ R, Hid (hashesS b wd n p e = R) := ⟨_, rfl⟩
  rw [HR.out]
  clear h hp
  go_enter Tryd.func65, Tryd.ntmps65
  go_wp2
  go_loopw [7] (fun v wr => ∃ (xs : List ByteArray) (q : Nat) (z : Int), lenV v ≤ n ∧ Hid (HI T g b wd n p e rest w v xs q z wr)) (fun v _ => n - lenV v)
  case atStart => exact ⟨[], p, e, by simp [lenV], H0.out⟩
  case round =>
    clear H0
    obtain ⟨xs, q, z, hlv, HH⟩ := hrel
    obtain ⟨a, c, hv⟩ := own_formS HH.out.own
    subst hv
    obtain ⟨m, HM⟩ : ∃ m, Hid (xs.length = m) := ⟨_, rfl⟩
    rw [HM.out] at hlv ⊢
    have hm : m ≤ n := by have := HH.out.len; rw [HM.out] at this; exact this
    rw [HM.out] at HH
    have c2 := HH.out.rd.e
    by_cases hlt : m < n
    · have hlt' : (m : Int) < n := by omega
      by_cases hz : z = 0
      · subst hz
        have CT : Hid (Calls _ _ _ _ _) := takeC T g b q 0 rest wd wr HH.out.rd hb HH.out.ok (by omega)
        obtain ⟨x, HX⟩ : ∃ x, Hid ((takeS b wd q 0).1 = x) := ⟨_, rfl⟩
        rw [HX.out] at CT
        have HO : Hid (wr.ownsRow w.heap.size 9 1 (.slice a m c) m (xs.map Value.string)) := by have := HH.out.own; rw [HM.out] at this; exact this
        have hsz : w.heap.size ≤ wr.heap.size := HH.out.kp.size
        go_wp2_with (first | (go_at_call 72; refine CT.out.mono ?_; rintro _ w1 ⟨rfl, r1, k1⟩; have R1 : Hid (Rd T g b _ _ rest w1) := r1; have K1 : Hid (Kp (fun k => k = g) wr w1) := k1; have O1 : Hid (w1.ownsRow w.heap.size 9 1 (.slice a m c) m (xs.map Value.string)) := own_kp HO.out k1 (fun j hj => by omega); have hsz1 : w.heap.size ≤ w1.heap.size := Nat.le_trans hsz k1.size; clear r1 k1) | (at_builtin; refine wpList_append_own _ rfl _ _ 22 rfl w.heap.size 9 i9 (.string ByteArray.empty) 1 16 Tryd.underlying22 HIN.out.1 HIN.out.2.1 HIN.out.2.2.1 HIN.out.2.2.2 rfl (by decide) _ m _ rfl (O1.out.alloc _) ⟨w1.heap.size, 0, none⟩ 1 1 [.string x] rfl rfl (new_text _ _ _) (one_text _) (by unfold maxLen; omega) (by omega) (by simp; omega) ?_; intro v' w3 hown' hgrow3 hnil3; have O3 : Hid (w3.ownsRow w.heap.size 9 1 v' (m + 1) (xs.map Value.string ++ [.string x])) := hown'; have B3 : Hid (Below w.heap.size w1 w3) := Below.grown ((Below.refl _ _).alloc hsz1 _) hgrow3 (by simp; omega) (fun j hj => (O1.out.lt _ hj).1); clear hown' hgrow3 hnil3))
        go_roundw
        case rel =>
          refine ⟨xs ++ [x], (takeS b wd q 0).2.1, (takeS b wd q 0).2.2, by rw [own_len O3.out]; omega, ?_⟩
          have := HH.out.step hg (by rw [HM.out]; exact hlt) K1.out R1.out B3.out (by rw [HM.out, HX.out]; exact O3.out)
          rw [HX.out] at this
          exact this
        case measure => rw [own_len O3.out]; simp [lenV]; omega
      · have hz' : (z == 0) = false := by rw [beq_eq_false_iff_ne]; exact hz
        have HE : Hid (R = (xs, q, z)) := by show _ = _; rw [← HR.out, HH.out.eq, hashesS_not b wd _ q z hz]; simp
        have HO : Hid (wr.ownsRow w.heap.size 9 1 (.slice a m c) xs.length (xs.map Value.string) ∧ Rd T g b q z rest wr ∧ Kp (fun k => k = g) w wr) := ⟨HH.out.own, HH.out.rd, HH.out.kp⟩
        clear hz
        go_wp2
        go_ret
        rw [HE.out]
        exact ⟨⟨_, rfl, HO.out.1⟩, HO.out.2⟩
    · have hlt' : ¬ (m : Int) < n := by omega
      have HE : Hid (R = (xs, q, z)) := by
        show _ = _
        rw [← HR.out, HH.out.eq, HM.out, show n - m = 0 by omega]
        simp [hashesS]
      have HO : Hid (wr.ownsRow w.heap.size 9 1 (.slice a m c) xs.length (xs.map Value.string) ∧ Rd T g b q z rest wr ∧ Kp (fun k => k = g) w wr) := ⟨HH.out.own, HH.out.rd, HH.out.kp⟩
      go_wp2
      go_ret
      rw [HE.out]
      exact ⟨⟨_, rfl, HO.out.1⟩, HO.out.2⟩
end Go.Proofs.YthpfgdhmpeadeaaDoor.ee
