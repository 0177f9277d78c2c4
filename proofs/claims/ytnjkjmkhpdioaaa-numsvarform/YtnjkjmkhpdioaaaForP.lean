import Derived.Test.YtnjkjmkhpdioaaaVarP
namespace Go.Proofs.Ytnjkjmkhpdioaaa.forp
open Go.RowKit Go.PlainAid
open Go.Proofs.Ytnjkjmkhpdioaaa.plain Go.Proofs.Ytnjkjmkhpdioaaa.rowb Go.Proofs.Ytnjkjmkhpdioaaa.varp
set_option linter.unusedVariables false

theorem add_low (v c : Int) (k i : Nat) (hi : i < k) : (v + c * 128 ^ k) / 128 ^ i % 128 = v / 128 ^ i % 128 := by
  have hc : (0 : Int) < 128 ^ i := Int.pow_pos (by omega)
  obtain ⟨j, rfl⟩ : ∃ j, k = i + 1 + j := ⟨k - (i + 1), by omega⟩
  have e : c * (128 : Int) ^ (i + 1 + j) = c * 128 ^ j * 128 * 128 ^ i := by
    rw [Int.pow_add, Int.pow_succ]
    simp only [Int.mul_assoc, Int.mul_comm, Int.mul_left_comm]
  rw [e, Int.add_mul_ediv_right _ _ (by omega), Int.add_mul_emod_self_right]

theorem add_top (v c : Int) (k : Nat) (h0 : 0 ≤ v) (h1 : v < 128 ^ k) (c0 : 0 ≤ c) (c1 : c < 128) : (v + c * 128 ^ k) / 128 ^ k % 128 = c := by
  have hc : (0 : Int) < 128 ^ k := Int.pow_pos (by omega)
  rw [Int.add_mul_ediv_right _ _ (by omega), Int.ediv_eq_zero_of_lt h0 h1]
  omega

def Tells (b : ByteArray) (p : Nat) (r : Int × Int × Int) : Prop :=
  (r.1 = 0 ∧ r.2.1 = 0 ∧ 11 ≤ r.2.2 ∧ r.2.2 ≤ 13) ∨
  ∃ m : Nat, r.2.2 = 0 ∧ r.2.1 = (p : Int) + m ∧ 0 ≤ r.1 ∧ r.1 ≤ 18446744073709551615 ∧ Wants r.1 m ∧ p + m ≤ b.size ∧ (∀ i, i + 1 < m → bt b (p + i) = gB r.1 i) ∧ bt b (p + (m - 1)) = r.1 / 128 ^ (m - 1) % 128

theorem tells (b : ByteArray) (p : Nat) : ∀ (f k : Nat) (v : Int), f + k = 10 → 0 ≤ v → v < 128 ^ k → p + k ≤ b.size → (∀ i, i < k → bt b (p + i) = gB v i) → Tells b p (varR b p f k v)
  | 0, k, v, _, _, _, _, _ => by rw [varR_end]; exact .inl ⟨rfl, rfl, by decide, by decide⟩
  | f + 1, k, v, hf, h0, h1, hs, hb => by
    by_cases c1 : b.size ≤ p + k
    · rw [varR_short _ _ _ _ _ c1]; exact .inl ⟨rfl, rfl, by decide, by decide⟩
    by_cases c2 : k = 9 ∧ 1 < bt b (p + k)
    · rw [varR_over _ _ _ _ _ c1 c2]; exact .inl ⟨rfl, rfl, by decide, by decide⟩
    by_cases c3 : 0 < k ∧ bt b (p + k) = 0
    · rw [varR_form _ _ _ _ _ c1 c2 c3]; exact .inl ⟨rfl, rfl, by decide, by decide⟩
    have b0 := bt_nonneg b (p + k)
    have b1 := bt_le b (p + k)
    have hg := group_nonneg (bt b (p + k)) k
    have hl := group_lt v (bt b (p + k)) k h1
    have hm := group_max v (bt b (p + k)) k (by omega) h1 (fun e => Int.not_lt.mp fun h => c2 ⟨e, h⟩) b0
    have hc : (0 : Int) < 128 ^ k := Int.pow_pos (by omega)
    by_cases c4 : bt b (p + k) < 128
    · rw [varR_last _ _ _ _ _ c1 c2 c3 c4]
      refine .inr ⟨k + 1, rfl, by show (p : Int) + k + 1 = _; omega, by show 0 ≤ _; omega, hm, ⟨by omega, by omega, hl, ?_⟩, by omega, ?_, ?_⟩
      · intro hk
        show (128 : Int) ^ (k + 1 - 1) ≤ v + _
        rw [Nat.add_sub_cancel]
        have hne : bt b (p + k) ≠ 0 := fun h => c3 ⟨by omega, h⟩
        have : 1 * 128 ^ k ≤ bt b (p + k) % 128 * 128 ^ k := Int.mul_le_mul_of_nonneg_right (by omega) (by omega)
        omega
      · intro i hi
        rw [hb i (by omega)]
        show gB v i = gB (v + bt b (p + k) % 128 * 128 ^ k) i
        unfold gB
        rw [add_low _ _ _ _ (by omega)]
      · show bt b (p + (k + 1 - 1)) = (v + bt b (p + k) % 128 * 128 ^ k) / 128 ^ (k + 1 - 1) % 128
        rw [Nat.add_sub_cancel, add_top _ _ _ h0 h1 (by omega) (by omega)]
        omega
    · rw [varR_next _ _ _ _ _ c1 c2 c3 c4]
      refine tells b p f (k + 1) _ (by omega) (by omega) hl (by omega) ?_
      intro i hi
      by_cases hik : i < k
      · rw [hb i hik]; unfold gB; rw [add_low _ _ _ _ hik]
      · obtain rfl : i = k := by omega
        unfold gB
        rw [add_top _ _ _ h0 h1 (by omega) (by omega)]
        omega

theorem tells_all (b : ByteArray) (p : Nat) (h : p ≤ b.size) : Tells b p (varR b p 10 0 0) :=
  tells b p 10 0 0 rfl (by omega) (by decide) (by omega) (fun i hi => absurd hi (by omega))

theorem same_form (b : ByteArray) (p m : Nat) (x : Int) (hw : Wants x m) (hs : p + m ≤ b.size) (hb : ∀ i, i + 1 < m → bt b (p + i) = gB x i) (hl : bt b (p + (m - 1)) = x / 128 ^ (m - 1) % 128) :
    b.extract p (p + m) = str (putL x m) := by
  have h1 := hw.1
  have hsz : (b.extract p (p + m)).size = min (p + m) b.size - p := ByteArray.size_extract
  refine ext_bt _ _ (by rw [hsz, str_size, putL_length x m h1]; omega) ?_
  intro k hk
  rw [bt_extract b p (p + m) k (by omega) hs]
  by_cases hkm : k + 1 < m
  · rw [hb k hkm, put_bt x m k hkm]
  · obtain rfl : k = m - 1 := by omega
    rw [hl, put_bt_last x m h1]
end Go.Proofs.Ytnjkjmkhpdioaaa.forp
