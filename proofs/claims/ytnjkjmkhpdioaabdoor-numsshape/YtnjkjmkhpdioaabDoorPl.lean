import Derived.Lib.BitFns
import Derived.Lib.TrailingZeros
import Derived.PlainAid
import Derived.Laws.BitsAllLaws
import Derived.WalkKit
namespace Go.Proofs.YtnjkjmkhpdioaabDoor.pl
open Go.Lib

theorem bitLen_zero : Lib.bitLen 0 = 0 := by decide

theorem bitLen_lt : ∀ (f x : Nat), x < 2 ^ f → f ≤ 64 → x < 2 ^ Lib.bitLen x ∧ (x ≠ 0 → 2 ^ (Lib.bitLen x - 1) ≤ x ∧ 1 ≤ Lib.bitLen x)
  | 0, x, h, _ => by
    have : x = 0 := by simpa using h
    subst this
    rw [bitLen_zero]; exact ⟨by decide, fun h => absurd rfl h⟩
  | f + 1, x, h, hf => by
    by_cases hx : x = 0
    · subst hx; rw [bitLen_zero]; exact ⟨by decide, fun h => absurd rfl h⟩
    · have hp := Nat.pow_le_pow_right (n := 2) (by omega) hf
      have e := Lib.bitLen_half x hx (Nat.lt_of_lt_of_le h hp)
      have ih := bitLen_lt f (x / 2) (by rw [Nat.pow_succ] at h; omega) (by omega)
      rw [e]
      refine ⟨?_, fun _ => ⟨?_, by omega⟩⟩
      · rw [Nat.add_comm, Nat.pow_succ]; omega
      · by_cases h2 : x / 2 = 0
        · rw [h2, bitLen_zero]; simp; omega
        · obtain ⟨h3, h4⟩ := ih.2 h2
          obtain ⟨l, hl⟩ : ∃ l, Lib.bitLen (x / 2) = l + 1 := ⟨Lib.bitLen (x / 2) - 1, by omega⟩
          rw [hl] at h3 ⊢
          rw [show 1 + (l + 1) - 1 = l + 1 by omega, Nat.pow_succ]
          rw [show l + 1 - 1 = l by omega] at h3
          omega

theorem len_spec (x : Nat) (h : x < 18446744073709551616) : x < 2 ^ Lib.bitLen x ∧ (x ≠ 0 → 2 ^ (Lib.bitLen x - 1) ≤ x ∧ 1 ≤ Lib.bitLen x) :=
  bitLen_lt 64 x h (by omega)

theorem len_le63 (x : Nat) (h : x ≤ 9223372036854775807) : Lib.bitLen x ≤ 63 := bitLenAux_le 64 x 63 (by omega)

theorem half (x : Int) (h0 : 0 < x) (h1 : x ≤ 9223372036854775807) : Lib.bitLen x.toNat = 1 + Lib.bitLen (x / 2).toNat := by
  rw [Lib.bitLen_half x.toNat (by omega) (by omega)]
  congr 2
  omega

theorem bits_out (x : Int) (h : x ≤ 0) : Lib.bitLen x.toNat = 0 := by
  rw [show x.toNat = 0 by omega]; exact bitLen_zero

theorem pop_add : ∀ (a b x : Nat), popAux (a + b) x = popAux a x + popAux b (x / 2 ^ a)
  | 0, b, x => by simp [popAux]
  | a + 1, b, x => by
    rw [show a + 1 + b = (a + b) + 1 by omega, popAux, popAux, pop_add a b (x / 2), Nat.div_div_eq_div_mul, Nat.pow_succ, Nat.mul_comm 2]
    omega

theorem pop_zero : ∀ a : Nat, popAux a 0 = 0
  | 0 => rfl
  | a + 1 => by rw [popAux, pop_zero a]

theorem pop_le : ∀ (a x : Nat), popAux a x ≤ a
  | 0, _ => by simp [popAux]
  | a + 1, x => by have := pop_le a (x / 2); rw [popAux]; omega

theorem pop_more (a b x : Nat) (h : x < 2 ^ a) : popAux (a + b) x = popAux a x := by
  rw [pop_add, Nat.div_eq_of_lt h, pop_zero]; omega

def hoL : List Int := [0, 1, 1, 2, 1, 2, 2, 3, 1, 2, 2, 3, 2, 3, 3, 4]

theorem pop_four (y : Nat) : ((popAux 4 y : Nat) : Int) = hoL.getD (y % 16) 0 := by
  have key : ∀ z : Fin 16, ((popAux 4 z.val : Nat) : Int) = hoL.getD z.val 0 := by decide
  have e : popAux 4 y = popAux 4 (y % 16) := by
    simp only [popAux]
    omega
  rw [e]
  exact key ⟨y % 16, by omega⟩

theorem ones_half (x : Nat) (h : x < 18446744073709551616) : onesCount x = x % 2 + onesCount (x / 2) := by
  unfold onesCount
  have e := pop_more 63 1 (x / 2) (by omega)
  rw [show (64 : Nat) = 63 + 1 from rfl, e, popAux]

theorem ones_le (x : Nat) : onesCount x ≤ 64 := pop_le 64 x
theorem ones_zero : onesCount 0 = 0 := pop_zero 64

theorem ones_pow : ∀ k : Nat, k ≤ 63 → onesCount (2 ^ k) = 1
  | 0, _ => by decide
  | k + 1, h => by
    have hp := Nat.pow_lt_pow_right (a := 2) (by omega) (show k + 1 < 64 by omega)
    have e64 : (2 : Nat) ^ 64 = 18446744073709551616 := by decide
    rw [ones_half _ (by omega), Nat.pow_succ, Nat.mul_mod_left, Nat.mul_div_cancel _ (by omega), ones_pow k (by omega)]

theorem ctz_spec (x : Nat) (h0 : 0 < x) (h : x < 9223372036854775808) : ∃ m, x = 2 ^ ctz 64 x * (2 * m + 1) ∧ ctz 64 x ≤ 62 := by
  have hx : x ≠ 0 := by omega
  obtain ⟨m, hm, hk⟩ := ctzFrom_spec 64 x h0 (by omega)
  have e : ctz 64 x = ctzFrom 64 x := by unfold ctz; rw [if_neg hx]
  rw [e]
  refine ⟨m, hm, ?_⟩
  apply Nat.le_of_not_lt
  intro hlt
  have hp := Nat.pow_le_pow_right (n := 2) (by omega) (show 63 ≤ ctzFrom 64 x by omega)
  have e63 : (2 : Nat) ^ 63 = 9223372036854775808 := by decide
  have : 2 ^ ctzFrom 64 x ≤ x := by
    conv => rhs; rw [hm]
    exact Nat.le_mul_of_pos_right _ (by omega)
  omega

theorem odd_one : ∀ (i j m n : Nat), 2 ^ i * (2 * m + 1) = 2 ^ j * (2 * n + 1) → i = j
  | 0, 0, _, _, _ => rfl
  | 0, j + 1, m, n, h => by rw [Nat.pow_succ, Nat.mul_comm (2 ^ j), Nat.mul_assoc] at h; omega
  | i + 1, 0, m, n, h => by rw [Nat.pow_succ, Nat.mul_comm (2 ^ i), Nat.mul_assoc] at h; omega
  | i + 1, j + 1, m, n, h => by
    rw [Nat.pow_succ, Nat.pow_succ, Nat.mul_comm (2 ^ i), Nat.mul_comm (2 ^ j), Nat.mul_assoc, Nat.mul_assoc] at h
    rw [odd_one i j m n (by omega)]

theorem ctz_even (x : Nat) (h0 : 0 < x) (h : x < 9223372036854775808) (he : x % 2 = 0) : ctz 64 x = 1 + ctz 64 (x / 2) := by
  obtain ⟨m, hm, _⟩ := ctz_spec x h0 h
  obtain ⟨n, hn, _⟩ := ctz_spec (x / 2) (by omega) (by omega)
  rw [Nat.add_comm]
  refine odd_one _ _ m n ?_
  rw [← hm, Nat.pow_succ, Nat.mul_comm (2 ^ _) 2, Nat.mul_assoc, ← hn]
  omega

theorem ctz_odd (x : Nat) (h : x % 2 = 1) : ctz 64 x = 0 := by
  unfold ctz
  rw [if_neg (by omega), show (64 : Nat) = 63 + 1 from rfl, ctzFrom, if_pos h]

theorem ctz_pow (k : Nat) (h : k ≤ 62) : ctz 64 (2 ^ k) = k := by
  have hp := Nat.pow_lt_pow_right (a := 2) (by omega) (show k < 63 by omega)
  have e63 : (2 : Nat) ^ 63 = 9223372036854775808 := by decide
  obtain ⟨m, hm, _⟩ := ctz_spec (2 ^ k) (Nat.two_pow_pos k) (by omega)
  refine odd_one _ _ m 0 ?_
  rw [← hm]; simp
end Go.Proofs.YtnjkjmkhpdioaabDoor.pl
