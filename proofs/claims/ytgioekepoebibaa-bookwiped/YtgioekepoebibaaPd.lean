import Derived.Test.YtgioekepoebibaaPa
import Derived.RowKit3
import Derived.Laws.Strings
namespace Go.Proofs.Ytgioekepoebibaa.pd
open Go.RowKit Go.PlainAid
open Go.Proofs.Ytgioekepoebibaa.na Go.Proofs.Ytgioekepoebibaa.nb Go.Proofs.Ytgioekepoebibaa.pa
set_option linter.unusedVariables false

theorem lowB_get (v : Int) (n i : Nat) (h : i < n) : (lowB v n)[i]'(by rw [lowB_length]; exact h) = v / 256 ^ (n - 1 - i) % 256 := by
  induction n generalizing i with
  | zero => omega
  | succ n ih =>
    cases i with
    | zero => simp [lowB]
    | succ i =>
      have e : n + 1 - 1 - (i + 1) = n - 1 - i := by omega
      rw [e]
      exact ih i (by omega)

theorem lowB_byte (v : Int) (n i : Nat) (h : i < n) : 0 ≤ (lowB v n)[i]'(by rw [lowB_length]; exact h) ∧ (lowB v n)[i]'(by rw [lowB_length]; exact h) ≤ 255 := by
  rw [lowB_get v n i h]; omega

theorem str_lowB (v : Int) (n i : Nat) (h : i < n) : bt (str (lowB v n)) i = v / 256 ^ (n - 1 - i) % 256 := by
  have h' : i < (lowB v n).length := by rw [lowB_length]; exact h
  have hb := lowB_byte v n i h
  rw [str_bt _ _ h' hb.1 hb.2, lowB_get v n i h]

theorem beR_div (b : ByteArray) (p k m : Nat) : beR b p (k + m) / 256 ^ m = beR b p k := by
  induction m with
  | zero => simp
  | succ m ih =>
    have c0 := bt_nonneg b (p + (k + m))
    have c1 := bt_le b (p + (k + m))
    have e : beR b p (k + (m + 1)) = beR b p (k + m) * 256 + bt b (p + (k + m)) := rfl
    have e2 : (256 : Int) ^ (m + 1) = 256 * 256 ^ m := by rw [Int.pow_succ, Int.mul_comm]
    rw [e, e2, ← Int.ediv_ediv_of_nonneg (by omega)]
    have e3 : (beR b p (k + m) * 256 + bt b (p + (k + m))) / 256 = beR b p (k + m) := by omega
    rw [e3, ih]

theorem put_read (b : ByteArray) (p n : Nat) (h : p + n ≤ b.size) : str (lowB (beR b p n) n) = b.extract p (p + n) := by
  have hs : (b.extract p (p + n)).size = min (p + n) b.size - p := ByteArray.size_extract
  refine ext_bt _ _ ?_ ?_
  · rw [str_size, lowB_length, hs]; omega
  · intro k hk
    rw [str_size, lowB_length] at hk
    rw [str_lowB _ n k hk, bt_extract b p (p + n) k (by omega) h]
    have e := beR_div b p (k + 1) (n - 1 - k)
    rw [show k + 1 + (n - 1 - k) = n by omega] at e
    rw [e]
    have c0 := bt_nonneg b (p + k)
    have c1 := bt_le b (p + k)
    show (beR b p k * 256 + bt b (p + k)) % 256 = _
    omega

theorem read_fits (b : ByteArray) (p n : Nat) : beR b p n / 256 ^ n = 0 := by
  have h := beR_div b p 0 n
  rw [Nat.zero_add] at h
  exact h
theorem read_upto (b : ByteArray) (p n : Nat) (v : Int) (hv : v / 256 ^ n = 0) (hb : ∀ i, i < n → bt b (p + i) = v / 256 ^ (n - 1 - i) % 256) :
    ∀ k, k ≤ n → beR b p k = v / 256 ^ (n - k) := by
  intro k
  induction k with
  | zero => intro _; exact hv.symm
  | succ k ih =>
    intro hk
    have e : beR b p (k + 1) = beR b p k * 256 + bt b (p + k) := rfl
    rw [e, ih (by omega), hb k (by omega)]
    have e1 : n - (k + 1) = n - 1 - k := by omega
    have e2 : (256 : Int) ^ (n - k) = 256 ^ (n - 1 - k) * 256 := by rw [← Int.pow_succ]; congr 1; omega
    have h0 : (0 : Int) ≤ 256 ^ (n - 1 - k) := Int.pow_nonneg (by omega)
    rw [e1, e2, ← Int.ediv_ediv_of_nonneg h0]
    omega

theorem read_put (b : ByteArray) (p n : Nat) (v : Int) (hv : v / 256 ^ n = 0) (hb : ∀ i, i < n → bt b (p + i) = v / 256 ^ (n - 1 - i) % 256) : beR b p n = v := by
  rw [read_upto b p n v hv hb n (Nat.le_refl _)]; simp

theorem read_str (v : Int) (n : Nat) (hv : v / 256 ^ n = 0) : beR (str (lowB v n)) 0 n = v :=
  read_put _ _ _ _ hv (fun i hi => by rw [Nat.zero_add]; exact str_lowB v n i hi)

theorem read_mid (a c : ByteArray) (v : Int) (n : Nat) (hv : v / 256 ^ n = 0) : beR (a ++ str (lowB v n) ++ c) a.size n = v := by
  refine read_put _ _ _ _ hv (fun i hi => ?_)
  have hs : (a ++ str (lowB v n)).size = a.size + n := by rw [ByteArray.size_append, str_size, lowB_length]
  rw [bt_append_left _ _ _ (by omega), bt_append_right]
  exact str_lowB v n i hi

theorem same_iff (v u : Int) (n : Nat) (hv : v / 256 ^ n = 0) (hu : u / 256 ^ n = 0) : ((str (lowB v n)).toList == (str (lowB u n)).toList) = (v == u) := by
  by_cases h : v = u
  · subst h; simp
  · have h1 : (v == u) = false := by simpa using h
    rw [h1, beq_eq_false_iff_ne]
    intro he
    rw [ByteArray.toList_eq, ByteArray.toList_eq] at he
    have he2 : (str (lowB v n)) = (str (lowB u n)) := ByteArray.ext (Array.toList_inj.1 he)
    apply h
    rw [← read_str v n hv, ← read_str u n hu, he2]

def L (ns : List Int) : List UInt8 := ns.map fun n => UInt8.ofNat n.toNat

theorem str_toList (ns : List Int) : (str ns).toList = L ns := by
  rw [ByteArray.toList_eq, str_data]; simp [L]

theorem split_pow (v : Int) (n : Nat) : v % 256 ^ (n + 1) = v / 256 ^ n % 256 * 256 ^ n + v % 256 ^ n := by
  have hc : (0 : Int) < 256 ^ n := Int.pow_pos (by omega)
  have e : (256 : Int) ^ (n + 1) = 256 ^ n * 256 := Int.pow_succ ..
  rw [e]
  generalize (256 : Int) ^ n = c at *
  have h1 := Int.emod_add_mul_ediv v c
  have h2 := Int.emod_nonneg v (Int.ne_of_gt hc)
  have h3 := Int.emod_lt_of_pos v hc
  have h4 := Int.emod_add_mul_ediv (v / c) 256
  have key : v = (v / c % 256 * c + v % c) + c * 256 * (v / c / 256) := by
    have : c * (v / c) = v / c % 256 * c + c * 256 * (v / c / 256) := by
      conv => lhs; rw [← h4]
      rw [Int.mul_add, Int.mul_comm c (v / c % 256), Int.mul_assoc]
    omega
  have hb0 : 0 ≤ v / c % 256 * c + v % c := by
    have : 0 ≤ v / c % 256 * c := Int.mul_nonneg (by omega) (by omega)
    omega
  have hb1 : v / c % 256 * c + v % c < c * 256 := by
    have : v / c % 256 * c ≤ 255 * c := Int.mul_le_mul_of_nonneg_right (by omega) (by omega)
    omega
  conv => lhs; rw [key]
  rw [Int.add_mul_emod_self_left]
  exact Int.emod_eq_of_lt hb0 hb1

theorem u8_lt (x y : Int) (h0 : 0 ≤ x) (h1 : x < 256) (h2 : 0 ≤ y) (h3 : y < 256) : (UInt8.ofNat x.toNat < UInt8.ofNat y.toNat) ↔ x < y := by
  rw [UInt8.lt_iff_toNat_lt]
  simp
  omega

theorem u8_eq (x y : Int) (h0 : 0 ≤ x) (h1 : x < 256) (h2 : 0 ≤ y) (h3 : y < 256) : (UInt8.ofNat x.toNat == UInt8.ofNat y.toNat) = (x == y) := by
  rw [Bool.eq_iff_iff, beq_iff_eq, beq_iff_eq, ← UInt8.toNat_inj]
  simp
  omega

theorem less_low (v u : Int) (n : Nat) : Op.bytesLess (L (lowB v n)) (L (lowB u n)) = decide (v % 256 ^ n < u % 256 ^ n) := by
  induction n with
  | zero => simp [lowB, L, Op.bytesLess, Int.emod_one]
  | succ n ih =>
    have hc : (0 : Int) < 256 ^ n := Int.pow_pos (by omega)
    have hl : ∀ z : Int, L (lowB z (n + 1)) = UInt8.ofNat (z / 256 ^ n % 256).toNat :: L (lowB z n) := fun z => rfl
    rw [hl, hl, Op.bytesLess, ih, split_pow v n, split_pow u n, u8_eq _ _ (by omega) (by omega) (by omega) (by omega)]
    have hlt := u8_lt (v / 256 ^ n % 256) (u / 256 ^ n % 256) (by omega) (by omega) (by omega) (by omega)
    have a1 := Int.emod_nonneg v (Int.ne_of_gt hc)
    have a2 := Int.emod_lt_of_pos v hc
    have a3 := Int.emod_nonneg u (Int.ne_of_gt hc)
    have a4 := Int.emod_lt_of_pos u hc
    generalize v / 256 ^ n % 256 = x at *
    generalize u / 256 ^ n % 256 = y at *
    generalize v % 256 ^ n = r at *
    generalize u % 256 ^ n = q at *
    generalize (256 : Int) ^ n = c at *
    have hd : decide (UInt8.ofNat x.toNat < UInt8.ofNat y.toNat) = decide (x < y) := decide_eq_decide.2 hlt
    rw [hd]
    by_cases h1 : x < y
    · have : (x + 1) * c ≤ y * c := Int.mul_le_mul_of_nonneg_right (by omega) (by omega)
      rw [Int.add_mul] at this
      have : x * c + r < y * c + q := by omega
      simp [h1, this]
    · by_cases h2 : x = y
      · subst h2; simp
      · have h3 : (y + 1) * c ≤ x * c := Int.mul_le_mul_of_nonneg_right (by omega) (by omega)
        rw [Int.add_mul] at h3
        have h4 : ¬ x * c + r < y * c + q := by omega
        have h5 : (x == y) = false := by simpa using h2
        simp [h1, h4, h5]

theorem fits_mod (v : Int) (n : Nat) (hv : v / 256 ^ n = 0) : v % 256 ^ n = v := by
  have h := Int.emod_add_mul_ediv v (256 ^ n)
  rw [hv] at h; omega

theorem less_iff (v u : Int) (n : Nat) (hv : v / 256 ^ n = 0) (hu : u / 256 ^ n = 0) : Op.bytesLess (str (lowB v n)).toList (str (lowB u n)).toList = decide (v < u) := by
  rw [str_toList, str_toList, less_low, fits_mod v n hv, fits_mod u n hu]

theorem fits_iff (v : Int) (n : Nat) (h0 : 0 ≤ v) : v / 256 ^ n = 0 ↔ v < 256 ^ n := by
  have hc : (0 : Int) < 256 ^ n := Int.pow_pos (by omega)
  constructor
  · intro h
    have := fits_mod v n h
    have := Int.emod_lt_of_pos v hc
    omega
  · intro h; exact Int.ediv_eq_zero_of_lt h0 h
end Go.Proofs.Ytgioekepoebibaa.pd
