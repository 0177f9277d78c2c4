import Derived.PlainAid
import Derived.Laws.BitsAllLaws
import Derived.WalkKit
namespace Go.Proofs.YtlkkibiedlakfaaGreat.na
open Go.PlainAid

theorem and127 (c : Int) (h0 : 0 ≤ c) (h1 : c ≤ 255) : bits .and .u8 c 127 = c % 128 := by
  rw [u8_and c 127 h0 (by omega) (by omega) (by omega)]
  have h : c.toNat &&& (127 : Int).toNat = c.toNat % 128 := Nat.and_two_pow_sub_one_eq_mod c.toNat 7
  rw [h]; omega

theorem or128 (c : Int) (h0 : 0 ≤ c) (h1 : c ≤ 255) : bits .or .u8 128 c = c % 128 + 128 := by
  rw [u8_or 128 c (by omega) (by omega) h0 (by omega)]
  have key : ∀ x : Fin 256, 128 ||| x.val = x.val % 128 + 128 := by decide +kernel
  have h : (128 : Int).toNat ||| c.toNat = c.toNat % 128 + 128 := key ⟨c.toNat, by omega⟩
  rw [h]; omega

theorem or_low (v c : Int) (h0 : 0 ≤ v) (h1 : v < 72057594037927936) (c0 : 0 ≤ c) (c1 : c ≤ 255) : bits .or .u64 (v * 256) c = v * 256 + c := by
  rw [u64_or (v * 256) c (by omega) (by omega) c0 (by omega)]
  have h : (v * 256).toNat ||| c.toNat = 2 ^ 8 * v.toNat + c.toNat := by
    rw [Nat.two_pow_add_eq_or_of_lt (by omega)]
    congr 1
    omega
  rw [h]; omega

theorem pow128 (k : Nat) : (2 : Int) ^ (7 * k) = 128 ^ k := by rw [Int.pow_mul]; rfl

theorem pow_pos (k : Nat) : (1 : Int) ≤ 128 ^ k := by
  have : (0 : Int) < 128 ^ k := Int.pow_pos (by omega)
  omega

theorem ipow_le (a : Nat) (ha : 0 < a) {m n : Nat} (h : m ≤ n) : (a : Int) ^ m ≤ (a : Int) ^ n := by
  exact_mod_cast Nat.pow_le_pow_right ha h

theorem pow_nine (k : Nat) (h : k ≤ 9) : (128 : Int) ^ k ≤ 9223372036854775808 := by
  have h1 := ipow_le 128 (by omega) h
  have h2 : ((128 : Nat) : Int) ^ 9 = 9223372036854775808 := by decide
  rw [h2] at h1
  exact h1

theorem pow_eight (k : Nat) (h : k ≤ 8) : (128 : Int) ^ k ≤ 72057594037927936 := by
  have h1 := ipow_le 128 (by omega) h
  have h2 : ((128 : Nat) : Int) ^ 8 = 72057594037927936 := by decide
  rw [h2] at h1
  exact h1

theorem group_lt (v c : Int) (k : Nat) (hv : v < 128 ^ k) : v + c % 128 * 128 ^ k < 128 ^ (k + 1) := by
  have h1 := pow_pos k
  have h2 : c % 128 * 128 ^ k ≤ 127 * 128 ^ k := Int.mul_le_mul_of_nonneg_right (by omega) (by omega)
  rw [Int.pow_succ]; omega

theorem group_nonneg (c : Int) (k : Nat) : 0 ≤ c % 128 * 128 ^ k := by
  have h1 := pow_pos k
  exact Int.mul_nonneg (by omega) (by omega)

theorem group_max (v c : Int) (k : Nat) (hk : k ≤ 9) (hv : v < 128 ^ k) (h9 : k = 9 → c ≤ 1) (hc : 0 ≤ c) : v + c % 128 * 128 ^ k ≤ 18446744073709551615 := by
  by_cases e : k = 9
  · subst e
    have h := h9 rfl
    have h9' : (128 : Int) ^ 9 = 9223372036854775808 := by decide
    rw [h9'] at hv ⊢
    omega
  · have h := group_lt v c k hv
    have h' := pow_nine (k + 1) (by omega)
    omega

def varR (b : ByteArray) (p : Nat) : Nat → Nat → Int → Int × Int × Int
  | 0, _, _ => (0, 0, 11)
  | f + 1, k, x =>
    if b.size ≤ p + k then (0, 0, 12)
    else if k = 9 ∧ 1 < bt b (p + k) then (0, 0, 11)
    else if 0 < k ∧ bt b (p + k) = 0 then (0, 0, 13)
    else if bt b (p + k) < 128 then (x + bt b (p + k) % 128 * 128 ^ k, (p : Int) + k + 1, 0)
    else varR b p f (k + 1) (x + bt b (p + k) % 128 * 128 ^ k)

theorem varR_end (b : ByteArray) (p k : Nat) (x : Int) : varR b p 0 k x = (0, 0, 11) := rfl
theorem varR_short (b : ByteArray) (p f k : Nat) (x : Int) (h : b.size ≤ p + k) : varR b p (f + 1) k x = (0, 0, 12) := by
  rw [varR, if_pos h]
theorem varR_over (b : ByteArray) (p f k : Nat) (x : Int) (h : ¬ b.size ≤ p + k) (h1 : k = 9 ∧ 1 < bt b (p + k)) : varR b p (f + 1) k x = (0, 0, 11) := by
  rw [varR, if_neg h, if_pos h1]
theorem varR_form (b : ByteArray) (p f k : Nat) (x : Int) (h : ¬ b.size ≤ p + k) (h1 : ¬ (k = 9 ∧ 1 < bt b (p + k))) (h2 : 0 < k ∧ bt b (p + k) = 0) : varR b p (f + 1) k x = (0, 0, 13) := by
  rw [varR, if_neg h, if_neg h1, if_pos h2]
theorem varR_last (b : ByteArray) (p f k : Nat) (x : Int) (h : ¬ b.size ≤ p + k) (h1 : ¬ (k = 9 ∧ 1 < bt b (p + k))) (h2 : ¬ (0 < k ∧ bt b (p + k) = 0)) (h3 : bt b (p + k) < 128) :
    varR b p (f + 1) k x = (x + bt b (p + k) % 128 * 128 ^ k, (p : Int) + k + 1, 0) := by
  rw [varR, if_neg h, if_neg h1, if_neg h2, if_pos h3]
theorem varR_next (b : ByteArray) (p f k : Nat) (x : Int) (h : ¬ b.size ≤ p + k) (h1 : ¬ (k = 9 ∧ 1 < bt b (p + k))) (h2 : ¬ (0 < k ∧ bt b (p + k) = 0)) (h3 : ¬ bt b (p + k) < 128) :
    varR b p (f + 1) k x = varR b p f (k + 1) (x + bt b (p + k) % 128 * 128 ^ k) := by
  rw [varR, if_neg h, if_neg h1, if_neg h2, if_neg h3]

def beR (b : ByteArray) (p : Nat) : Nat → Int
  | 0 => 0
  | k + 1 => beR b p k * 256 + bt b (p + k)

theorem beR_nonneg (b : ByteArray) (p k : Nat) : 0 ≤ beR b p k := by
  induction k with
  | zero => exact Int.le_refl 0
  | succ k ih => have := bt_nonneg b (p + k); rw [beR]; omega

theorem beR_lt (b : ByteArray) (p k : Nat) : beR b p k < 256 ^ k := by
  induction k with
  | zero => show (0 : Int) < 1; omega
  | succ k ih => have := bt_le b (p + k); rw [beR, Int.pow_succ]; omega

theorem beR_seven (b : ByteArray) (p k : Nat) (h : k ≤ 7) : beR b p k < 72057594037927936 := by
  have h1 := beR_lt b p k
  have h2 := ipow_le 256 (by omega) h
  have h3 : ((256 : Nat) : Int) ^ 7 = 72057594037927936 := by decide
  rw [h3] at h2
  exact Int.lt_of_lt_of_le h1 h2

end Go.Proofs.YtlkkibiedlakfaaGreat.na
