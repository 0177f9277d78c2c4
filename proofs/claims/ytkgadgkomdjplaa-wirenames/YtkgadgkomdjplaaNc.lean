import Derived.Test.YtkgadgkomdjplaaNa
import Derived.Test.YtkgadgkomdjplaaNb
import Derived.Lib.BitFns
namespace Go.Proofs.Ytkgadgkomdjplaa.nc
open Go.RowKit Go.PlainAid
open Go.Proofs.Ytkgadgkomdjplaa.na Go.Proofs.Ytkgadgkomdjplaa.nb
set_option linter.unusedVariables false

theorem bitLen_zero : Lib.bitLen 0 = 0 := by decide

theorem bitLen_lt : ∀ (f x : Nat), x < 2 ^ f → f ≤ 64 → x < 2 ^ Lib.bitLen x ∧ (x ≠ 0 → 2 ^ (Lib.bitLen x - 1) ≤ x ∧ 1 ≤ Lib.bitLen x)
  | 0, x, h, _ => by
    have : x = 0 := by simpa using h
    subst this
    rw [bitLen_zero]; exact ⟨by decide, fun h => absurd rfl h⟩
  | f + 1, x, h, hf => by
    by_cases hx : x = 0
    · subst hx; rw [bitLen_zero]; exact ⟨by decide, fun h => absurd rfl h⟩
    · have hp := Nat.pow_le_pow_right (n := 2) (by omega) hf
      have e := Lib.bitLen_half x hx (Nat.lt_of_lt_of_le h hp)
      have ih := bitLen_lt f (x / 2) (by rw [Nat.pow_succ] at h; omega) (by omega)
      rw [e]
      refine ⟨?_, fun _ => ⟨?_, by omega⟩⟩
      · rw [Nat.add_comm, Nat.pow_succ]; omega
      · by_cases h2 : x / 2 = 0
        · rw [h2, bitLen_zero]; simp; omega
        · obtain ⟨h3, h4⟩ := ih.2 h2
          obtain ⟨l, hl⟩ : ∃ l, Lib.bitLen (x / 2) = l + 1 := ⟨Lib.bitLen (x / 2) - 1, by omega⟩
          rw [hl] at h3 ⊢
          rw [show 1 + (l + 1) - 1 = l + 1 by omega, Nat.pow_succ]
          rw [show l + 1 - 1 = l by omega] at h3
          omega

theorem bitLen_spec (x : Nat) (h : x < 18446744073709551616) : x < 2 ^ Lib.bitLen x ∧ (x ≠ 0 → 2 ^ (Lib.bitLen x - 1) ≤ x ∧ 1 ≤ Lib.bitLen x) :=
  bitLen_lt 64 x h (by omega)

def Wants (v : Int) (m : Nat) : Prop := 1 ≤ m ∧ m ≤ 10 ∧ v < 128 ^ m ∧ (m ≠ 1 → 128 ^ (m - 1) ≤ v)

theorem cast_pow (k : Nat) : ((2 ^ k : Nat) : Int) = 2 ^ k := by simp

theorem wants_len (v : Int) (h0 : 0 ≤ v) (h1 : v ≤ 18446744073709551615) : Wants v ((Lib.bitLen v.toNat + 6) / 7 + (if v = 0 then 1 else 0)) := by
  obtain ⟨hs1, hs2⟩ := bitLen_spec v.toNat (by omega)
  by_cases hv : v = 0
  · subst hv
    have e : Lib.bitLen (0 : Int).toNat = 0 := bitLen_zero
    rw [e]
    exact ⟨by decide, by decide, by decide, fun h => absurd rfl h⟩
  · rw [if_neg hv, Nat.add_zero]
    obtain ⟨hs3, hs4⟩ := hs2 (by omega)
    generalize hl : Lib.bitLen v.toNat = l at *
    have hl64 : l ≤ 64 := by
      apply Nat.le_of_not_lt
      intro h
      have := Nat.pow_le_pow_right (n := 2) (by omega) (show 64 ≤ l - 1 by omega)
      have e64 : (2 : Nat) ^ 64 = 18446744073709551616 := by decide
      omega
    refine ⟨by omega, by omega, ?_, ?_⟩
    · have h2 : v < 2 ^ l := by have := cast_pow l; omega
      have h3 := ipow_le 2 (by omega) (show l ≤ 7 * ((l + 6) / 7) by omega)
      rw [← pow128]
      exact Int.lt_of_lt_of_le h2 h3
    · intro hm
      have h2 : 2 ^ (l - 1) ≤ v := by have := cast_pow (l - 1); omega
      have h3 := ipow_le 2 (by omega) (show 7 * ((l + 6) / 7 - 1) ≤ l - 1 by omega)
      rw [← pow128]
      exact Int.le_trans h3 h2

theorem wants_one (v : Int) (m n : Nat) (h : Wants v m) (g : Wants v n) : m = n := by
  obtain ⟨m1, m2, m3, m4⟩ := h
  obtain ⟨n1, n2, n3, n4⟩ := g
  rcases Nat.lt_trichotomy m n with hl | hl | hl
  · have := ipow_le 128 (by omega) (show m ≤ n - 1 by omega)
    have h5 : (128 : Int) ^ m ≤ 128 ^ (n - 1) := this
    have := n4 (by omega)
    omega
  · exact hl
  · have := ipow_le 128 (by omega) (show n ≤ m - 1 by omega)
    have h5 : (128 : Int) ^ n ≤ 128 ^ (m - 1) := this
    have := m4 (by omega)
    omega

def gB (v : Int) (i : Nat) : Int := v / 128 ^ i % 128 + 128
def varL (v : Int) (m k : Nat) : List Int := (List.range k).map (gB v) ++ List.replicate (m - k) 0
def putL (v : Int) (m : Nat) : List Int := (List.range (m - 1)).map (gB v) ++ [v / 128 ^ (m - 1) % 128]

theorem gB_byte (v : Int) (i : Nat) : 128 ≤ gB v i ∧ gB v i ≤ 255 := by unfold gB; omega

theorem varL_zero (v : Int) (m : Nat) : varL v m 0 = List.replicate m 0 := by simp [varL]
theorem varL_length (v : Int) (m k : Nat) (h : k ≤ m) : (varL v m k).length = m := by simp [varL]; omega
theorem varL_set (v : Int) (m k : Nat) (h : k < m) : (varL v m k).set k (gB v k) = varL v m (k + 1) := by
  obtain ⟨j, rfl⟩ : ∃ j, m = k + 1 + j := ⟨m - (k + 1), by omega⟩
  rw [varL, varL, show k + 1 + j - k = j + 1 by omega, show k + 1 + j - (k + 1) = j by omega, List.set_append_right _ _ (by simp), List.range_succ]
  simp [List.replicate_succ]

theorem varL_last (v : Int) (m : Nat) (h : 1 ≤ m) : (varL v m m)[m - 1]? = some (gB v (m - 1)) := by
  rw [varL, List.getElem?_append_left (by simp; omega), List.getElem?_map, List.getElem?_range (by omega)]
  rfl

theorem varL_put (v : Int) (m : Nat) (h : 1 ≤ m) : (varL v m m).set (m - 1) (v / 128 ^ (m - 1) % 128) = putL v m := by
  obtain ⟨j, rfl⟩ : ∃ j, m = j + 1 := ⟨m - 1, by omega⟩
  simp [varL, putL, List.range_succ, List.set_append_right]

theorem putL_length (v : Int) (m : Nat) (h : 1 ≤ m) : (putL v m).length = m := by simp [putL]; omega

theorem putL_get (v : Int) (m i : Nat) (h : i + 1 < m) : (putL v m)[i]? = some (gB v i) := by
  rw [putL, List.getElem?_append_left (by simp; omega), List.getElem?_map, List.getElem?_range (by omega)]
  rfl

theorem putL_get_last (v : Int) (m : Nat) (h : 1 ≤ m) : (putL v m)[m - 1]? = some (v / 128 ^ (m - 1) % 128) := by
  simp [putL]

theorem str_get (ns : List Int) (i : Nat) (x : Int) (h : ns[i]? = some x) (h0 : 0 ≤ x) (h1 : x ≤ 255) : bt (str ns) i = x := by
  obtain ⟨hi, he⟩ := List.getElem?_eq_some_iff.1 h
  rw [str_bt ns i hi (by rw [he]; exact h0) (by rw [he]; exact h1), he]

theorem put_bt (v : Int) (m i : Nat) (h : i + 1 < m) : bt (str (putL v m)) i = gB v i := by
  have := gB_byte v i
  exact str_get _ _ _ (putL_get v m i h) (by omega) (by omega)

theorem put_bt_last (v : Int) (m : Nat) (h : 1 ≤ m) : bt (str (putL v m)) (m - 1) = v / 128 ^ (m - 1) % 128 :=
  str_get _ _ _ (putL_get_last v m h) (by omega) (by omega)

theorem split128 (v : Int) (n : Nat) : v % 128 ^ (n + 1) = v % 128 ^ n + v / 128 ^ n % 128 * 128 ^ n := by
  have hc : (0 : Int) < 128 ^ n := Int.pow_pos (by omega)
  have e : (128 : Int) ^ (n + 1) = 128 ^ n * 128 := Int.pow_succ ..
  rw [e]
  generalize (128 : Int) ^ n = c at *
  have h1 := Int.emod_add_mul_ediv v c
  have h2 := Int.emod_nonneg v (Int.ne_of_gt hc)
  have h3 := Int.emod_lt_of_pos v hc
  have h4 := Int.emod_add_mul_ediv (v / c) 128
  have key : v = (v % c + v / c % 128 * c) + c * 128 * (v / c / 128) := by
    have : c * (v / c) = v / c % 128 * c + c * 128 * (v / c / 128) := by
      conv => lhs; rw [← h4]
      rw [Int.mul_add, Int.mul_comm c (v / c % 128), Int.mul_assoc]
    omega
  have hb0 : 0 ≤ v % c + v / c % 128 * c := by
    have : 0 ≤ v / c % 128 * c := Int.mul_nonneg (by omega) (by omega)
    omega
  have hb1 : v % c + v / c % 128 * c < c * 128 := by
    have : v / c % 128 * c ≤ 127 * c := Int.mul_le_mul_of_nonneg_right (by omega) (by omega)
    omega
  conv => lhs; rw [key]
  rw [Int.add_mul_emod_self_left]
  exact Int.emod_eq_of_lt hb0 hb1

theorem varR_upto (b : ByteArray) (p : Nat) (v : Int) (n : Nat) (hn : n ≤ 9) (hs : p + n ≤ b.size) (hb : ∀ i, i < n → bt b (p + i) % 128 = v / 128 ^ i % 128 ∧ 128 ≤ bt b (p + i)) :
    ∀ k, k ≤ n → varR b p 10 0 0 = varR b p (10 - k) k (v % 128 ^ k) := by
  intro k
  induction k with
  | zero => intro _; simp [Int.emod_one]
  | succ k ih =>
    intro hk
    obtain ⟨h1, h2⟩ := hb k (by omega)
    rw [ih (by omega), show 10 - k = (10 - (k + 1)) + 1 by omega, varR_next b p _ k _ (by omega) (by omega) (by omega) (by omega), h1, ← split128]

theorem varR_back (b : ByteArray) (p m : Nat) (v : Int) (h0 : 0 ≤ v) (h1 : v ≤ 18446744073709551615) (hw : Wants v m) (hs : p + m ≤ b.size)
    (hb : ∀ i, i + 1 < m → bt b (p + i) = gB v i) (hl : bt b (p + (m - 1)) = v / 128 ^ (m - 1) % 128) : varR b p 10 0 0 = (v, (p : Int) + m, 0) := by
  obtain ⟨m1, m2, m3, m4⟩ := hw
  have hup := varR_upto b p v (m - 1) (by omega) (by omega) (fun i hi => by rw [hb i (by omega)]; unfold gB; omega) (m - 1) (Nat.le_refl _)
  have hsplit := split128 v (m - 1)
  rw [show m - 1 + 1 = m by omega, Int.emod_eq_of_lt h0 m3] at hsplit
  have hc : (0 : Int) < 128 ^ (m - 1) := Int.pow_pos (by omega)
  have hpos : m ≠ 1 → 1 ≤ v / 128 ^ (m - 1) := fun h => by
    have := m4 h
    exact (Int.le_ediv_iff_mul_le hc).2 (by omega)
  have hlt : v / 128 ^ (m - 1) < 128 := by
    apply Int.ediv_lt_of_lt_mul hc
    have e : (128 : Int) * 128 ^ (m - 1) = 128 ^ m := by
      rw [Int.mul_comm, ← Int.pow_succ]; congr 1; omega
    rw [e]; exact m3
  have hnn : 0 ≤ v / 128 ^ (m - 1) := Int.ediv_nonneg h0 (by omega)
  have h9 : m = 10 → v / 128 ^ (m - 1) ≤ 1 := fun h => by
    subst h
    have e : (128 : Int) ^ (10 - 1) = 9223372036854775808 := by decide
    rw [e]; omega
  rw [hup, show 10 - (m - 1) = (10 - m) + 1 by omega, varR_last b p _ (m - 1) _ (by omega) ?_ ?_ (by rw [hl]; omega), hl]
  · rw [show v / 128 ^ (m - 1) % 128 % 128 = v / 128 ^ (m - 1) % 128 by omega, ← hsplit]
    congr 2; omega
  · rintro ⟨e, h⟩
    have := h9 (by omega)
    rw [hl] at h; omega
  · rintro ⟨e, h⟩
    have := hpos (by omega)
    rw [hl] at h; omega

theorem varR_cut (b : ByteArray) (p n : Nat) (hn : n ≤ 9) (hs : p + n = b.size) (hb : ∀ i, i < n → 128 ≤ bt b (p + i)) : varR b p 10 0 0 = (0, 0, 12) := by
  have key : ∀ k (x : Int), k ≤ n → ∃ y, varR b p 10 0 0 = varR b p (10 - k) k y := by
    intro k
    induction k with
    | zero => intro x _; exact ⟨0, rfl⟩
    | succ k ih =>
      intro x hk
      obtain ⟨y, hy⟩ := ih x (by omega)
      have h2 := hb k (by omega)
      refine ⟨y + bt b (p + k) % 128 * 128 ^ k, ?_⟩
      rw [hy, show 10 - k = (10 - (k + 1)) + 1 by omega, varR_next b p _ k _ (by omega) (by omega) (by omega) (by omega)]
  obtain ⟨y, hy⟩ := key n 0 (Nat.le_refl _)
  rw [hy, show 10 - n = (9 - n) + 1 by omega, varR_short b p _ n _ (by omega)]

theorem varR_zero (b : ByteArray) (p n : Nat) (hn : n ≤ 9) (hn1 : 1 ≤ n) (hs : p + n < b.size) (hb : ∀ i, i < n → 128 ≤ bt b (p + i)) (hz : bt b (p + n) = 0) : varR b p 10 0 0 = (0, 0, 13) := by
  have key : ∀ k (x : Int), k ≤ n → ∃ y, varR b p 10 0 0 = varR b p (10 - k) k y := by
    intro k
    induction k with
    | zero => intro x _; exact ⟨0, rfl⟩
    | succ k ih =>
      intro x hk
      obtain ⟨y, hy⟩ := ih x (by omega)
      have h2 := hb k (by omega)
      refine ⟨y + bt b (p + k) % 128 * 128 ^ k, ?_⟩
      rw [hy, show 10 - k = (10 - (k + 1)) + 1 by omega, varR_next b p _ k _ (by omega) (by omega) (by omega) (by omega)]
  obtain ⟨y, hy⟩ := key n 0 (Nat.le_refl _)
  rw [hy, show 10 - n = (9 - n) + 1 by omega, varR_form b p _ n _ (by omega) (by omega) ⟨by omega, hz⟩]
end Go.Proofs.Ytkgadgkomdjplaa.nc
