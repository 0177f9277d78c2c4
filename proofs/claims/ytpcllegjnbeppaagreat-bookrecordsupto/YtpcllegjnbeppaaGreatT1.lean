import Derived.Below
import Derived.ProofKit
import Derived.Test.YtpcllegjnbeppaaGreatG1
import Derived.RowKit3
import Derived.Laws.Strings
import Derived.PlainAid
import Derived.Test.YtpcllegjnbeppaaGreatRows
import Derived.WalkKit
import Derived.WalkSpells
import Derived.Laws.BitsAllLaws
import Derived.BigRegion
import Derived.RegionTactic
import Derived.Deep.QuietTactic
import Derived.Laws.Rows
import Derived.Laws.Tables
import Derived.Laws.CopyOwn
import Derived.Laws.BytesString
import Derived.Laws.BytesArg
import Derived.Laws.MakeOwn
import Derived.OwnWalk
import Derived.Laws.AppendOwn
import Derived.Deep.AppendLies
import Derived.Deep.MidRow
import Derived.Deep.RegionHeld3
import Derived.WalkSmall
import Derived.BigQuiet
import Derived.ArgAppend
import Derived.Laws.IdiomStrings
import Derived.Deep.WholeRow
import Derived.Laws.ResultCell
import Derived.WalkLawsBesides
import Derived.Laws.Strings2
namespace Go.Proofs.YtpcllegjnbeppaaGreat.tpa
open Go.RowKit Go.PlainAid
open Go.Proofs.YtpcllegjnbeppaaGreat.na Go.Proofs.YtpcllegjnbeppaaGreat.nb
set_option linter.unusedVariables false

theorem len_yes (n : Int) (w : World) (h1 : 1 ≤ n) (h2 : n ≤ 8) :
    Calls Tryz.prog 153 #[.int .i64 n] w fun e w' => e = .returned (.bool true) ∧ w' = w := by
  go_enter Tryz.func153, Tryz.ntmps153
  go_wp2
  go_ret
  exact ⟨rfl, rfl⟩

theorem len_no (n : Int) (w : World) (h : n < 1 ∨ 8 < n) :
    Calls Tryz.prog 153 #[.int .i64 n] w fun e w' => e = .returned (.bool false) ∧ w' = w := by
  by_cases h1 : 1 ≤ n
  · have h2 : ¬ n ≤ 8 := by omega
    go_enter Tryz.func153, Tryz.ntmps153
    go_wp2
    go_ret
    exact ⟨rfl, rfl⟩
  · go_enter Tryz.func153, Tryz.ntmps153
    go_wp2
    go_ret
    exact ⟨rfl, rfl⟩

def lowB (v : Int) : Nat → List Int
  | 0 => []
  | k + 1 => (v / 256 ^ k % 256) :: lowB v k

theorem lowB_length (v : Int) (k : Nat) : (lowB v k).length = k := by
  induction k with
  | zero => rfl
  | succ k ih => simp [lowB, ih]

def beL (v : Int) (n k : Nat) : List Int := List.replicate (n - k) 0 ++ lowB v k

theorem beL_zero (v : Int) (n : Nat) : beL v n 0 = List.replicate n 0 := by simp [beL, lowB]
theorem beL_full (v : Int) (n : Nat) : beL v n n = lowB v n := by simp [beL]
theorem beL_length (v : Int) (n k : Nat) (h : k ≤ n) : (beL v n k).length = n := by simp [beL, lowB_length]; omega

theorem beL_set (v : Int) (n k : Nat) (h : k < n) : (beL v n k).set (n - 1 - k) (v / 256 ^ k % 256) = beL v n (k + 1) := by
  obtain ⟨m, rfl⟩ : ∃ m, n = k + 1 + m := ⟨n - (k + 1), by omega⟩
  have e1 : k + 1 + m - 1 - k = m := by omega
  have e2 : k + 1 + m - k = m + 1 := by omega
  have e3 : k + 1 + m - (k + 1) = m := by omega
  rw [beL, beL, e1, e2, e3, List.replicate_succ', List.append_assoc, List.set_append_right _ _ (by simp)]
  simp [lowB]

theorem pow256 (k : Nat) : (2 : Int) ^ (8 * k) = 256 ^ k := by rw [Int.pow_mul]; rfl

theorem put_range (v n : Int) (w : World) (h : n < 1 ∨ 8 < n) :
    Calls Tryz.prog 125 #[.int .u64 v, .int .i64 n] w fun e w' => e = .returned (.tuple #[.string ByteArray.empty, .int .i64 10]) ∧ w' = w := by
  have H : Hid _ := h
  clear h
  go_enter Tryz.func125, Tryz.ntmps125
  go_wp2_with (go_at_call 153; refine (len_no n _ H.out).mono ?_; rintro e w' ⟨rfl, rfl⟩)
  go_ret2
  exact ⟨rfl, rfl⟩

theorem put_over (v : Int) (n : Nat) (w : World) (h1 : 1 ≤ n) (h2 : n ≤ 8) (h : v / 256 ^ n ≠ 0) :
    Calls Tryz.prog 125 #[.int .u64 v, .int .i64 n] w fun e w' => e = .returned (.tuple #[.string ByteArray.empty, .int .i64 11]) ∧ w' = w := by
  have h' : (v / 2 ^ (8 * n) != 0) = true := by rw [bne_iff_ne, pow256]; exact h
  clear h
  go_enter Tryz.func125, Tryz.ntmps125
  go_wp2_with (go_at_call 153; refine (len_yes n _ (by omega) (by omega)).mono ?_; rintro e w' ⟨rfl, rfl⟩)
  go_ret2
  exact ⟨rfl, rfl⟩

set_option maxHeartbeats 800000 in
theorem put_any (v : Int) (n : Nat) (w : World) (h1 : 1 ≤ n) (h2 : n ≤ 8) (h : v / 256 ^ n = 0) :
    Calls Tryz.prog 125 #[.int .u64 v, .int .i64 n] w fun e w' => e = .returned (.tuple #[.string (str (lowB v n)), .int .i64 0]) ∧ w' = w.alloc (.cells (row (lowB v n)) 5) := by
  have h' : (v / 2 ^ (8 * n) != 0) = false := by rw [pow256]; simp [h]
  have hmk := make_row n (by omega)
  clear h
  go_enter Tryz.func125, Tryz.ntmps125
  go_wp2_with (go_at_call 153; refine (len_yes n _ (by omega) (by omega)).mono ?_; rintro e w' ⟨rfl, rfl⟩)
  go_loopw [19] (fun i wr => ∃ k : Nat, k ≤ n ∧ i = .int .i64 k ∧ wr = w'.alloc (.cells (row (beL v n k)) 5)) (fun i _ => (n - intOf i).toNat)
  case atStart => exact ⟨0, by omega, rfl, by rw [beL_zero]⟩
  case round =>
    obtain ⟨k, hk, rfl, rfl⟩ := hrel
    have HL : Hid _ := beL_length v n k hk
    by_cases hlt : k < n
    · have hlt' : (k : Int) < n := by omega
      have hix : ((n : Int) - 1 - k).toNat = n - 1 - k := by omega
      have hsz : n - 1 - k < (row (beL v n k)).size := by rw [row_size, HL.out]; omega
      go_wp2
      go_roundw
      case rel => exact ⟨k + 1, by omega, by go_num, by rw [pow256, row_set, beL_set v n k hlt]⟩
      case measure => simp [intOf]; omega
    · have hlt' : ¬ (k : Int) < n := by omega
      have e : k = n := by omega
      subst e
      rw [beL_full]
      have hcv := conv_row (lowB v k) w' k (lowB_length v k).symm
      go_wp2
      go_ret2
      exact ⟨rfl, rfl⟩

end Go.Proofs.YtpcllegjnbeppaaGreat.tpa

namespace Go.Proofs.YtpcllegjnbeppaaGreat.tpd
open Go.RowKit Go.PlainAid
open Go.Proofs.YtpcllegjnbeppaaGreat.na Go.Proofs.YtpcllegjnbeppaaGreat.nb Go.Proofs.YtpcllegjnbeppaaGreat.tpa
set_option linter.unusedVariables false

theorem lowB_get (v : Int) (n i : Nat) (h : i < n) : (lowB v n)[i]'(by rw [lowB_length]; exact h) = v / 256 ^ (n - 1 - i) % 256 := by
  induction n generalizing i with
  | zero => omega
  | succ n ih =>
    cases i with
    | zero => simp [lowB]
    | succ i =>
      have e : n + 1 - 1 - (i + 1) = n - 1 - i := by omega
      rw [e]
      exact ih i (by omega)

theorem lowB_byte (v : Int) (n i : Nat) (h : i < n) : 0 ≤ (lowB v n)[i]'(by rw [lowB_length]; exact h) ∧ (lowB v n)[i]'(by rw [lowB_length]; exact h) ≤ 255 := by
  rw [lowB_get v n i h]; omega

theorem str_lowB (v : Int) (n i : Nat) (h : i < n) : bt (str (lowB v n)) i = v / 256 ^ (n - 1 - i) % 256 := by
  have h' : i < (lowB v n).length := by rw [lowB_length]; exact h
  have hb := lowB_byte v n i h
  rw [str_bt _ _ h' hb.1 hb.2, lowB_get v n i h]

theorem beR_div (b : ByteArray) (p k m : Nat) : beR b p (k + m) / 256 ^ m = beR b p k := by
  induction m with
  | zero => simp
  | succ m ih =>
    have c0 := bt_nonneg b (p + (k + m))
    have c1 := bt_le b (p + (k + m))
    have e : beR b p (k + (m + 1)) = beR b p (k + m) * 256 + bt b (p + (k + m)) := rfl
    have e2 : (256 : Int) ^ (m + 1) = 256 * 256 ^ m := by rw [Int.pow_succ, Int.mul_comm]
    rw [e, e2, ← Int.ediv_ediv_of_nonneg (by omega)]
    have e3 : (beR b p (k + m) * 256 + bt b (p + (k + m))) / 256 = beR b p (k + m) := by omega
    rw [e3, ih]

theorem put_read (b : ByteArray) (p n : Nat) (h : p + n ≤ b.size) : str (lowB (beR b p n) n) = b.extract p (p + n) := by
  have hs : (b.extract p (p + n)).size = min (p + n) b.size - p := ByteArray.size_extract
  refine ext_bt _ _ ?_ ?_
  · rw [str_size, lowB_length, hs]; omega
  · intro k hk
    rw [str_size, lowB_length] at hk
    rw [str_lowB _ n k hk, bt_extract b p (p + n) k (by omega) h]
    have e := beR_div b p (k + 1) (n - 1 - k)
    rw [show k + 1 + (n - 1 - k) = n by omega] at e
    rw [e]
    have c0 := bt_nonneg b (p + k)
    have c1 := bt_le b (p + k)
    show (beR b p k * 256 + bt b (p + k)) % 256 = _
    omega

theorem read_fits (b : ByteArray) (p n : Nat) : beR b p n / 256 ^ n = 0 := by
  have h := beR_div b p 0 n
  rw [Nat.zero_add] at h
  exact h
theorem read_upto (b : ByteArray) (p n : Nat) (v : Int) (hv : v / 256 ^ n = 0) (hb : ∀ i, i < n → bt b (p + i) = v / 256 ^ (n - 1 - i) % 256) :
    ∀ k, k ≤ n → beR b p k = v / 256 ^ (n - k) := by
  intro k
  induction k with
  | zero => intro _; exact hv.symm
  | succ k ih =>
    intro hk
    have e : beR b p (k + 1) = beR b p k * 256 + bt b (p + k) := rfl
    rw [e, ih (by omega), hb k (by omega)]
    have e1 : n - (k + 1) = n - 1 - k := by omega
    have e2 : (256 : Int) ^ (n - k) = 256 ^ (n - 1 - k) * 256 := by rw [← Int.pow_succ]; congr 1; omega
    have h0 : (0 : Int) ≤ 256 ^ (n - 1 - k) := Int.pow_nonneg (by omega)
    rw [e1, e2, ← Int.ediv_ediv_of_nonneg h0]
    omega

theorem read_put (b : ByteArray) (p n : Nat) (v : Int) (hv : v / 256 ^ n = 0) (hb : ∀ i, i < n → bt b (p + i) = v / 256 ^ (n - 1 - i) % 256) : beR b p n = v := by
  rw [read_upto b p n v hv hb n (Nat.le_refl _)]; simp

theorem read_str (v : Int) (n : Nat) (hv : v / 256 ^ n = 0) : beR (str (lowB v n)) 0 n = v :=
  read_put _ _ _ _ hv (fun i hi => by rw [Nat.zero_add]; exact str_lowB v n i hi)

theorem read_mid (a c : ByteArray) (v : Int) (n : Nat) (hv : v / 256 ^ n = 0) : beR (a ++ str (lowB v n) ++ c) a.size n = v := by
  refine read_put _ _ _ _ hv (fun i hi => ?_)
  have hs : (a ++ str (lowB v n)).size = a.size + n := by rw [ByteArray.size_append, str_size, lowB_length]
  rw [bt_append_left _ _ _ (by omega), bt_append_right]
  exact str_lowB v n i hi

theorem same_iff (v u : Int) (n : Nat) (hv : v / 256 ^ n = 0) (hu : u / 256 ^ n = 0) : ((str (lowB v n)).toList == (str (lowB u n)).toList) = (v == u) := by
  by_cases h : v = u
  · subst h; simp
  · have h1 : (v == u) = false := by simpa using h
    rw [h1, beq_eq_false_iff_ne]
    intro he
    rw [ByteArray.toList_eq, ByteArray.toList_eq] at he
    have he2 : (str (lowB v n)) = (str (lowB u n)) := ByteArray.ext (Array.toList_inj.1 he)
    apply h
    rw [← read_str v n hv, ← read_str u n hu, he2]

def L (ns : List Int) : List UInt8 := ns.map fun n => UInt8.ofNat n.toNat

theorem str_toList (ns : List Int) : (str ns).toList = L ns := by
  rw [ByteArray.toList_eq, str_data]; simp [L]

theorem split_pow (v : Int) (n : Nat) : v % 256 ^ (n + 1) = v / 256 ^ n % 256 * 256 ^ n + v % 256 ^ n := by
  have hc : (0 : Int) < 256 ^ n := Int.pow_pos (by omega)
  have e : (256 : Int) ^ (n + 1) = 256 ^ n * 256 := Int.pow_succ ..
  rw [e]
  generalize (256 : Int) ^ n = c at *
  have h1 := Int.emod_add_mul_ediv v c
  have h2 := Int.emod_nonneg v (Int.ne_of_gt hc)
  have h3 := Int.emod_lt_of_pos v hc
  have h4 := Int.emod_add_mul_ediv (v / c) 256
  have key : v = (v / c % 256 * c + v % c) + c * 256 * (v / c / 256) := by
    have : c * (v / c) = v / c % 256 * c + c * 256 * (v / c / 256) := by
      conv => lhs; rw [← h4]
      rw [Int.mul_add, Int.mul_comm c (v / c % 256), Int.mul_assoc]
    omega
  have hb0 : 0 ≤ v / c % 256 * c + v % c := by
    have : 0 ≤ v / c % 256 * c := Int.mul_nonneg (by omega) (by omega)
    omega
  have hb1 : v / c % 256 * c + v % c < c * 256 := by
    have : v / c % 256 * c ≤ 255 * c := Int.mul_le_mul_of_nonneg_right (by omega) (by omega)
    omega
  conv => lhs; rw [key]
  rw [Int.add_mul_emod_self_left]
  exact Int.emod_eq_of_lt hb0 hb1

theorem u8_lt (x y : Int) (h0 : 0 ≤ x) (h1 : x < 256) (h2 : 0 ≤ y) (h3 : y < 256) : (UInt8.ofNat x.toNat < UInt8.ofNat y.toNat) ↔ x < y := by
  rw [UInt8.lt_iff_toNat_lt]
  simp
  omega

theorem u8_eq (x y : Int) (h0 : 0 ≤ x) (h1 : x < 256) (h2 : 0 ≤ y) (h3 : y < 256) : (UInt8.ofNat x.toNat == UInt8.ofNat y.toNat) = (x == y) := by
  rw [Bool.eq_iff_iff, beq_iff_eq, beq_iff_eq, ← UInt8.toNat_inj]
  simp
  omega

theorem less_low (v u : Int) (n : Nat) : Op.bytesLess (L (lowB v n)) (L (lowB u n)) = decide (v % 256 ^ n < u % 256 ^ n) := by
  induction n with
  | zero => simp [lowB, L, Op.bytesLess, Int.emod_one]
  | succ n ih =>
    have hc : (0 : Int) < 256 ^ n := Int.pow_pos (by omega)
    have hl : ∀ z : Int, L (lowB z (n + 1)) = UInt8.ofNat (z / 256 ^ n % 256).toNat :: L (lowB z n) := fun z => rfl
    rw [hl, hl, Op.bytesLess, ih, split_pow v n, split_pow u n, u8_eq _ _ (by omega) (by omega) (by omega) (by omega)]
    have hlt := u8_lt (v / 256 ^ n % 256) (u / 256 ^ n % 256) (by omega) (by omega) (by omega) (by omega)
    have a1 := Int.emod_nonneg v (Int.ne_of_gt hc)
    have a2 := Int.emod_lt_of_pos v hc
    have a3 := Int.emod_nonneg u (Int.ne_of_gt hc)
    have a4 := Int.emod_lt_of_pos u hc
    generalize v / 256 ^ n % 256 = x at *
    generalize u / 256 ^ n % 256 = y at *
    generalize v % 256 ^ n = r at *
    generalize u % 256 ^ n = q at *
    generalize (256 : Int) ^ n = c at *
    have hd : decide (UInt8.ofNat x.toNat < UInt8.ofNat y.toNat) = decide (x < y) := decide_eq_decide.2 hlt
    rw [hd]
    by_cases h1 : x < y
    · have : (x + 1) * c ≤ y * c := Int.mul_le_mul_of_nonneg_right (by omega) (by omega)
      rw [Int.add_mul] at this
      have : x * c + r < y * c + q := by omega
      simp [h1, this]
    · by_cases h2 : x = y
      · subst h2; simp
      · have h3 : (y + 1) * c ≤ x * c := Int.mul_le_mul_of_nonneg_right (by omega) (by omega)
        rw [Int.add_mul] at h3
        have h4 : ¬ x * c + r < y * c + q := by omega
        have h5 : (x == y) = false := by simpa using h2
        simp [h1, h4, h5]

theorem fits_mod (v : Int) (n : Nat) (hv : v / 256 ^ n = 0) : v % 256 ^ n = v := by
  have h := Int.emod_add_mul_ediv v (256 ^ n)
  rw [hv] at h; omega

theorem less_iff (v u : Int) (n : Nat) (hv : v / 256 ^ n = 0) (hu : u / 256 ^ n = 0) : Op.bytesLess (str (lowB v n)).toList (str (lowB u n)).toList = decide (v < u) := by
  rw [str_toList, str_toList, less_low, fits_mod v n hv, fits_mod u n hu]

theorem fits_iff (v : Int) (n : Nat) (h0 : 0 ≤ v) : v / 256 ^ n = 0 ↔ v < 256 ^ n := by
  have hc : (0 : Int) < 256 ^ n := Int.pow_pos (by omega)
  constructor
  · intro h
    have := fits_mod v n h
    have := Int.emod_lt_of_pos v hc
    omega
  · intro h; exact Int.ediv_eq_zero_of_lt h0 h
end Go.Proofs.YtpcllegjnbeppaaGreat.tpd

namespace Go.Proofs.YtpcllegjnbeppaaGreat.tra
set_option linter.unusedVariables false

-- one step of the register
def PO : Nat := 3988292384
def st (r : Nat) : Nat := if r % 2 = 1 then (r / 2) ^^^ PO else r / 2

theorem par (a b : Nat) : (a ^^^ b) % 2 = (a + b) % 2 := by
  have h : (a ^^^ b) % 2 ^ 1 = (a % 2 ^ 1) ^^^ (b % 2 ^ 1) := Nat.xor_mod_two_pow
  rw [Nat.pow_one] at h
  rw [h]
  rcases Nat.mod_two_eq_zero_or_one a with ha | ha <;> rcases Nat.mod_two_eq_zero_or_one b with hb | hb <;> rw [ha, hb, Nat.add_mod, ha, hb] <;> rfl
theorem xor_zero_eq (x y : Nat) (h : x ^^^ y = 0) : x = y := by
  have e : (x ^^^ y) ^^^ y = x := by rw [Nat.xor_assoc, Nat.xor_self, Nat.xor_zero]
  rw [h, Nat.zero_xor] at e
  exact e.symm
theorem mul_xor (a b n : Nat) : (a ^^^ b) * 2 ^ n = (a * 2 ^ n) ^^^ (b * 2 ^ n) := by
  rw [← Nat.shiftLeft_eq, ← Nat.shiftLeft_eq, ← Nat.shiftLeft_eq, Nat.shiftLeft_xor_distrib]

theorem st_xor (a b : Nat) : st (a ^^^ b) = st a ^^^ st b := by
  have h1 : (a ^^^ b) % 2 = (a + b) % 2 := par a b
  have h2 : (a ^^^ b) / 2 = (a / 2) ^^^ (b / 2) := Nat.xor_div_two
  unfold st
  rw [h1, h2]
  rcases Nat.mod_two_eq_zero_or_one a with ha | ha <;> rcases Nat.mod_two_eq_zero_or_one b with hb | hb
  · rw [if_neg (by omega), if_neg (by omega), if_neg (by omega)]
  · rw [if_pos (by omega), if_neg (by omega), if_pos (by omega), Nat.xor_assoc]
  · rw [if_pos (by omega), if_pos (by omega), if_neg (by omega), Nat.xor_assoc, Nat.xor_assoc, Nat.xor_comm (b / 2) PO]
  · rw [if_neg (by omega), if_pos (by omega), if_pos (by omega)]
    rw [Nat.xor_assoc, Nat.xor_comm PO, Nat.xor_assoc, Nat.xor_self, Nat.xor_zero]

def sts : Nat → Nat → Nat
  | 0, r => r
  | k + 1, r => sts k (st r)
theorem sts_xor (k a b : Nat) : sts k (a ^^^ b) = sts k a ^^^ sts k b := by
  induction k generalizing a b with
  | zero => rfl
  | succ k ih => rw [sts, sts, sts, st_xor, ih]
theorem sts_add (m n r : Nat) : sts (m + n) r = sts n (sts m r) := by
  induction m generalizing r with
  | zero => rw [Nat.zero_add]; rfl
  | succ m ih => rw [show m + 1 + n = (m + n) + 1 by omega, sts, sts, ih]
theorem st_two (r : Nat) : st (r * 2) = r := by unfold st; rw [if_neg (by omega)]; omega
theorem sts_shift (k r : Nat) : sts k (r * 2 ^ k) = r := by
  induction k generalizing r with
  | zero => simp [sts]
  | succ k ih => rw [sts, show r * 2 ^ (k + 1) = (r * 2 ^ k) * 2 by rw [Nat.pow_succ, Nat.mul_assoc], st_two, ih]

theorem st_lt (r : Nat) (h : r < 4294967296) : st r < 4294967296 := by
  unfold st
  split
  · exact Nat.xor_lt_two_pow (n := 32) (by omega) (by decide)
  · omega
theorem sts_lt (k r : Nat) (h : r < 4294967296) : sts k r < 4294967296 := by
  induction k generalizing r with
  | zero => exact h
  | succ k ih => exact ih _ (st_lt r h)
theorem st_zero (r : Nat) (h : r < 4294967296) (hz : st r = 0) : r = 0 := by
  unfold st at hz
  split at hz
  · have e : r / 2 = PO := xor_zero_eq _ _ hz
    unfold PO at e
    omega
  · omega
theorem sts_zero (k r : Nat) (h : r < 4294967296) (hz : sts k r = 0) : r = 0 := by
  induction k generalizing r with
  | zero => exact hz
  | succ k ih => exact st_zero r h (ih _ (st_lt r h) hz)

-- bytes
def bs (r c : Nat) : Nat := sts 8 (r ^^^ c)
def crcR (r : Nat) (l : List Nat) : Nat := l.foldl bs r
theorem crcR_append (r : Nat) (a b : List Nat) : crcR r (a ++ b) = crcR (crcR r a) b := List.foldl_append
theorem crcR_snoc (r : Nat) (a : List Nat) (c : Nat) : crcR r (a ++ [c]) = bs (crcR r a) c := by rw [crcR_append]; rfl
theorem bs_lt (r c : Nat) (h : r < 4294967296) (hc : c < 256) : bs r c < 4294967296 := sts_lt 8 _ (Nat.xor_lt_two_pow (n := 32) h (by omega))

-- the text as one number, its lowest bit first
def le : List Nat → Nat
  | [] => 0
  | c :: l => c ^^^ (le l * 2 ^ 8)

theorem crc_le (l : List Nat) (r : Nat) : crcR r l = sts (8 * l.length) (r ^^^ le l) := by
  induction l generalizing r with
  | nil => simp [crcR, le, sts]
  | cons c l ih =>
    show crcR (bs r c) l = _
    rw [ih, List.length_cons, show 8 * (l.length + 1) = 8 + 8 * l.length by omega, sts_add, le, ← Nat.xor_assoc, sts_xor 8, sts_shift]
    rfl

theorem le_zip (a b : List Nat) (h : a.length = b.length) : le (List.zipWith (· ^^^ ·) a b) = le a ^^^ le b := by
  induction a generalizing b with
  | nil => cases b with
    | nil => rfl
    | cons => simp at h
  | cons x a ih => cases b with
    | nil => simp at h
    | cons y b =>
      have hl : a.length = b.length := by simpa using h
      rw [List.zipWith_cons_cons, le, le, le, ih b hl, mul_xor]
      rw [Nat.xor_assoc, Nat.xor_assoc, ← Nat.xor_assoc y, Nat.xor_comm y (le a * 2 ^ 8), Nat.xor_assoc]

-- three texts xored (one length)
theorem crc_three (r : Nat) (a b c : List Nat) (h1 : a.length = b.length) (h2 : b.length = c.length) :
    crcR r (List.zipWith (· ^^^ ·) (List.zipWith (· ^^^ ·) a b) c) = crcR r a ^^^ crcR r b ^^^ crcR r c := by
  have hz : (List.zipWith (· ^^^ ·) a b).length = a.length := by simp; omega
  have hz2 : (List.zipWith (· ^^^ ·) (List.zipWith (· ^^^ ·) a b) c).length = a.length := by simp; omega
  rw [crc_le, crc_le, crc_le, crc_le, hz2, ← h2, ← h1, le_zip _ _ (by omega), le_zip _ _ h1, ← sts_xor, ← sts_xor]
  congr 1
  rw [show (r ^^^ le a) ^^^ (r ^^^ le b) = le a ^^^ le b by rw [Nat.xor_comm r (le a), Nat.xor_assoc, ← Nat.xor_assoc r, Nat.xor_self, Nat.zero_xor]]
  rw [← Nat.xor_assoc, Nat.xor_comm r (le a ^^^ le b), Nat.xor_assoc]

-- a bit turned
theorem le_set (l : List Nat) (i x : Nat) (h : i < l.length) : le (l.set i (l[i] ^^^ x)) = le l ^^^ (x * 2 ^ (8 * i)) := by
  induction l generalizing i with
  | nil => simp at h
  | cons c l ih =>
    cases i with
    | zero =>
      rw [List.set_cons_zero, le, le]
      simp only [List.getElem_cons_zero, Nat.mul_zero, Nat.pow_zero, Nat.mul_one]
      rw [Nat.xor_assoc, Nat.xor_comm x, Nat.xor_assoc]
    | succ i =>
      have hi : i < l.length := by simpa using h
      rw [List.set_cons_succ, le, le]
      simp only [List.getElem_cons_succ]
      rw [ih i hi, mul_xor, Nat.xor_assoc, Nat.mul_assoc, ← Nat.pow_add, show 8 * i + 8 = 8 * (i + 1) by omega]

-- some bits turned within 32: another sum
theorem burst (r : Nat) (a b : List Nat) (hl : a.length = b.length) (p at_ : Nat) (h0 : p ≠ 0) (h1 : p < 4294967296) (ha : at_ ≤ 8 * a.length) (he : le b = le a ^^^ (p * 2 ^ at_)) : crcR r a ≠ crcR r b := by
  intro e
  rw [crc_le, crc_le, ← hl, he, ← Nat.xor_assoc, sts_xor _ (r ^^^ le a)] at e
  have e2 : sts (8 * a.length) (p * 2 ^ at_) = 0 := by
    have h := congrArg (fun z => sts (8 * a.length) (r ^^^ le a) ^^^ z) e
    simp only [Nat.xor_self, ← Nat.xor_assoc, Nat.zero_xor] at h
    exact h.symm
  rw [show 8 * a.length = at_ + (8 * a.length - at_) by omega, sts_add, sts_shift] at e2
  exact h0 (sts_zero _ p h1 e2)

-- by a table: one look-up a byte
theorem split_low (x : Nat) : x = (x % 256) ^^^ ((x / 256) * 2 ^ 8) := by
  have h : x = x % 256 + 2 ^ 8 * (x / 256) := by omega
  have h2 : 2 ^ 8 * (x / 256) + x % 256 = 2 ^ 8 * (x / 256) ||| x % 256 := Nat.two_pow_add_eq_or_of_lt (by omega) _
  apply Nat.eq_of_testBit_eq
  intro i
  rw [Nat.testBit_xor, Nat.testBit_mul_two_pow]
  by_cases hi : i < 8
  · have h3 : (x % 2 ^ 8).testBit i = (decide (i < 8) && x.testBit i) := Nat.testBit_mod_two_pow x 8 i
    have h4 : (x % 256).testBit i = x.testBit i := by rw [show (256 : Nat) = 2 ^ 8 by rfl, h3]; simp [hi]
    rw [h4]
    simp [show ¬ 8 ≤ i by omega]
  · have h3 : (x % 2 ^ 8).testBit i = (decide (i < 8) && x.testBit i) := Nat.testBit_mod_two_pow x 8 i
    have h4 : (x % 256).testBit i = false := by rw [show (256 : Nat) = 2 ^ 8 by rfl, h3]; simp [hi]
    have h5 : (x / 2 ^ 8).testBit (i - 8) = x.testBit (i - 8 + 8) := Nat.testBit_div_two_pow x (i - 8)
    rw [h4, show (256 : Nat) = 2 ^ 8 by rfl, h5, show i - 8 + 8 = i by omega]
    simp [show 8 ≤ i by omega]
theorem bs_table (r c : Nat) (hc : c < 256) : bs r c = sts 8 ((r ^^^ c) % 256) ^^^ (r / 256) := by
  have e : (r ^^^ c) / 256 = r / 256 := by
    have h : (r ^^^ c) / 2 ^ 8 = (r / 2 ^ 8) ^^^ (c / 2 ^ 8) := Nat.xor_div_two_pow
    rw [show (256 : Nat) = 2 ^ 8 by rfl, h, Nat.div_eq_of_lt (show c < 2 ^ 8 by omega), Nat.xor_zero]
  have h : sts 8 (r ^^^ c) = sts 8 (((r ^^^ c) % 256) ^^^ (((r ^^^ c) / 256) * 2 ^ 8)) := congrArg (sts 8) (split_low (r ^^^ c))
  unfold bs
  rw [h, sts_xor, sts_shift, e]

-- the sum of a text
def FF : Nat := 4294967295
def onF (crc : Nat) (l : List Nat) : Nat := crcR (crc ^^^ FF) l ^^^ FF
theorem ff_ff (x : Nat) : (x ^^^ FF) ^^^ FF = x := by rw [Nat.xor_assoc, Nat.xor_self, Nat.xor_zero]
theorem onF_append (crc : Nat) (a b : List Nat) : onF (onF crc a) b = onF crc (a ++ b) := by
  unfold onF
  rw [ff_ff, crcR_append]
theorem onF_ne (crc : Nat) (a b : List Nat) (h : crcR (crc ^^^ FF) a ≠ crcR (crc ^^^ FF) b) : onF crc a ≠ onF crc b := by
  intro e
  have := congrArg (· ^^^ FF) e
  simp only [onF, ff_ff] at this
  exact h this
theorem onF_three (crc : Nat) (a b c : List Nat) (h1 : a.length = b.length) (h2 : b.length = c.length) : onF crc (List.zipWith (· ^^^ ·) (List.zipWith (· ^^^ ·) a b) c) = onF crc a ^^^ onF crc b ^^^ onF crc c := by
  unfold onF
  rw [crc_three _ a b c h1 h2]
  generalize crcR (crc ^^^ FF) a = x
  generalize crcR (crc ^^^ FF) b = y
  generalize crcR (crc ^^^ FF) c = z
  rw [show (x ^^^ FF) ^^^ (y ^^^ FF) = x ^^^ y by rw [Nat.xor_comm y FF, Nat.xor_assoc, ← Nat.xor_assoc FF, Nat.xor_self, Nat.zero_xor], Nat.xor_assoc]
theorem crcR_lt (r : Nat) (l : List Nat) (h : r < 4294967296) (hl : ∀ c ∈ l, c < 256) : crcR r l < 4294967296 := by
  induction l generalizing r with
  | nil => exact h
  | cons c l ih => exact ih _ (bs_lt r c h (hl c (List.mem_cons_self ..))) (fun x hx => hl x (List.mem_cons_of_mem _ hx))
theorem xor_ff_lt (x : Nat) (h : x < 4294967296) : x ^^^ FF < 4294967296 := Nat.xor_lt_two_pow (n := 32) h (by decide)
theorem onF_lt (crc : Nat) (l : List Nat) (h : crc < 4294967296) (hl : ∀ c ∈ l, c < 256) : onF crc l < 4294967296 := xor_ff_lt _ (crcR_lt _ l (xor_ff_lt crc h) hl)
end Go.Proofs.YtpcllegjnbeppaaGreat.tra

namespace Go.Proofs.YtpcllegjnbeppaaGreat.trb
open Go.RowKit Go.PlainAid
open Go.Proofs.YtpcllegjnbeppaaGreat.tra
set_option linter.unusedVariables false

def nt (q : ByteArray) (k : Nat) : Nat := (bt q k).toNat
def nl (q : ByteArray) (k : Nat) : List Nat := (List.range k).map (nt q)
theorem nt_bt (q : ByteArray) (k : Nat) : bt q k = (nt q k : Int) := by
  have := bt_nonneg q k
  unfold nt; omega
theorem nt_lt (q : ByteArray) (k : Nat) : nt q k < 256 := by
  have := bt_le q k
  unfold nt; omega
theorem nl_succ (q : ByteArray) (k : Nat) : nl q (k + 1) = nl q k ++ [nt q k] := by
  unfold nl; rw [List.range_succ, List.map_append]; rfl
theorem nl_lt (q : ByteArray) (k : Nat) : ∀ c ∈ nl q k, c < 256 := by
  intro c h
  obtain ⟨j, _, rfl⟩ := List.mem_map.1 h
  exact nt_lt q j

theorem and_one (r : Nat) (h : r < 4294967296) : bits .and .u32 (r : Int) 1 = ((r % 2 : Nat) : Int) := by
  rw [show (1 : Int) = ((1 : Nat) : Int) by rfl, u32_and_nat r 1 h (by omega), Nat.and_one_is_mod]
theorem xor_po (r : Nat) (h : r < 4294967296) : bits .xor .u32 (r : Int) 3988292384 = ((r ^^^ PO : Nat) : Int) := by
  rw [show (3988292384 : Int) = ((3988292384 : Nat) : Int) by rfl, u32_xor_nat r _ h (by omega)]; rfl
theorem xor_ff (r : Nat) (h : r < 4294967296) : bits .xor .u32 (r : Int) 4294967295 = ((r ^^^ FF : Nat) : Int) := by
  rw [show (4294967295 : Int) = ((4294967295 : Nat) : Int) by rfl, u32_xor_nat r _ h (by omega)]; rfl
theorem st0 (X : Nat) (h : X % 2 = 0) : X / 2 = st X := by unfold st; rw [if_neg (by omega)]
theorem st1 (X : Nat) (h : X % 2 = 1) : (X / 2) ^^^ PO = st X := by unfold st; rw [if_pos h]
theorem sts_succ (k r : Nat) : sts (k + 1) r = st (sts k r) := by rw [sts_add]; rfl

def crcF (s : ByteArray) : Nat := onF 0 (nl s s.size)
def crcOnF (c : Nat) (s : ByteArray) : Nat := onF c (nl s s.size)
theorem crcF_lt (s : ByteArray) : crcF s < 4294967296 := onF_lt 0 _ (by omega) (nl_lt s _)
end Go.Proofs.YtpcllegjnbeppaaGreat.trb

namespace Go.Proofs.YtpcllegjnbeppaaGreat.tqa
open Go.RowKit Go.PlainAid
open Go.Proofs.YtpcllegjnbeppaaGreat.na Go.Proofs.YtpcllegjnbeppaaGreat.nb Go.Proofs.YtpcllegjnbeppaaGreat.tpa Go.Proofs.YtpcllegjnbeppaaGreat.tpd Go.Proofs.YtpcllegjnbeppaaGreat.tra Go.Proofs.YtpcllegjnbeppaaGreat.trb
set_option linter.unusedVariables false

theorem str_app (xs ys : List Int) : str xs ++ str ys = str (xs ++ ys) := by
  apply ByteArray.ext
  rw [ByteArray.data_append, str_data, str_data, str_data]
  simp
theorem app_size (a b : ByteArray) : (a ++ b).size = a.size + b.size := ByteArray.size_append
theorem app_assoc (a b c : ByteArray) : a ++ b ++ c = a ++ (b ++ c) := by
  apply ByteArray.ext
  simp [ByteArray.data_append]
theorem ext_size (a : ByteArray) (i j : Nat) : (a.extract i j).size = min j a.size - i := ByteArray.size_extract
theorem one_bt (k : Int) (h0 : 0 ≤ k) (h1 : k ≤ 255) : bt (str [k]) 0 = k := str_bt [k] 0 (by simp) h0 h1
theorem bt_one (b : ByteArray) (i : Nat) (h : i < b.size) : str [bt b i] = b.extract i (i + 1) := by
  have h2 := ext_size b i (i + 1)
  refine ext_bt _ _ ?_ ?_
  · rw [str_size, h2]; simp; omega
  · intro k hk
    rw [str_size] at hk
    simp at hk
    subst hk
    rw [one_bt _ (bt_nonneg _ _) (bt_le _ _), bt_extract b i (i + 1) 0 (by omega) (by omega)]
    rfl
theorem ext_join (b : ByteArray) (i j k : Nat) (h1 : i ≤ j) (h2 : j ≤ k) (h3 : k ≤ b.size) : b.extract i j ++ b.extract j k = b.extract i k := by
  have e1 := ext_size b i j
  have e2 := ext_size b j k
  have e3 := ext_size b i k
  refine ext_bt _ _ ?_ ?_
  · rw [app_size]; omega
  · intro m hm
    rw [app_size] at hm
    rw [bt_extract b i k m (by omega) h3]
    rcases Nat.lt_or_ge m (j - i) with h | h
    · rw [bt_append_left _ _ _ (by omega), bt_extract b i j m (by omega) (by omega)]
    · obtain ⟨q, rfl⟩ : ∃ q, m = (b.extract i j).size + q := ⟨m - (b.extract i j).size, by omega⟩
      rw [bt_append_right, bt_extract b j k q (by omega) h3]
      congr 1; omega
theorem ext_all (b : ByteArray) (n : Nat) (h : n = b.size) : b.extract 0 n = b := by
  subst h
  refine ext_bt _ _ (by rw [ext_size]; omega) ?_
  intro k hk
  rw [ext_size] at hk
  rw [bt_extract b 0 b.size k (by omega) (Nat.le_refl _), Nat.zero_add]
theorem app_left (a c : ByteArray) : (a ++ c).extract 0 a.size = a := by
  have h := app_size a c
  refine ext_bt _ _ (by rw [ext_size]; omega) ?_
  intro k hk
  rw [ext_size] at hk
  rw [bt_extract _ 0 a.size k (by omega) (by omega), Nat.zero_add, bt_append_left _ _ _ (by omega)]
theorem app_mid (a c d : ByteArray) : (a ++ c ++ d).extract a.size (a.size + c.size) = c := by
  have h := app_size (a ++ c) d
  have h2 := app_size a c
  refine ext_bt _ _ (by rw [ext_size]; omega) ?_
  intro k hk
  rw [ext_size] at hk
  rw [bt_extract _ _ _ k (by omega) (by omega), bt_append_left _ _ _ (by omega), bt_append_right]

-- numbers read out of a part
theorem beR_congr (a b : ByteArray) (p q n : Nat) (h : ∀ i, i < n → bt a (p + i) = bt b (q + i)) : beR a p n = beR b q n := by
  induction n with
  | zero => rfl
  | succ n ih => rw [beR, beR, ih (fun i hi => h i (by omega)), h n (by omega)]
theorem beR_ext (b : ByteArray) (i j p n : Nat) (h : i + p + n ≤ j) (hj : j ≤ b.size) : beR (b.extract i j) p n = beR b (i + p) n :=
  beR_congr _ _ _ _ _ (fun k hk => by rw [bt_extract b i j (p + k) (by omega) hj]; congr 1; omega)
theorem beR_left (a c : ByteArray) (p n : Nat) (h : p + n ≤ a.size) : beR (a ++ c) p n = beR a p n :=
  beR_congr _ _ _ _ _ (fun k hk => bt_append_left _ _ _ (by omega))
theorem beR_one (b : ByteArray) (p : Nat) : beR b p 1 = bt b p := by
  show (0 : Int) * 256 + bt b (p + 0) = _
  simp

-- keys
def keyT (s k n : Int) : ByteArray := str (66 :: (lowB s 8 ++ k :: lowB n 8))
theorem keyT_size (s k n : Int) : (keyT s k n).size = 18 := by rw [keyT, str_size]; simp [lowB_length]
theorem keyT_parts (s k n : Int) : keyT s k n = str [66] ++ str (lowB s 8) ++ str [k] ++ str (lowB n 8) := by
  rw [str_app, str_app, str_app, keyT]; simp

-- frames
def headT (k n : Int) (l : Nat) : ByteArray := str (165 :: k :: (lowB n 8 ++ lowB (l : Int) 4))
theorem headT_size (k n : Int) (l : Nat) : (headT k n l).size = 14 := by rw [headT, str_size]; simp [lowB_length]
theorem headT_parts (k n : Int) (l : Nat) : headT k n l = str [165] ++ str [k] ++ str (lowB n 8) ++ str (lowB (l : Int) 4) := by
  rw [str_app, str_app, str_app, headT]; simp
def bodyT (k n : Int) (p : ByteArray) : ByteArray := headT k n p.size ++ p
theorem bodyT_size (k n : Int) (p : ByteArray) : (bodyT k n p).size = p.size + 14 := by rw [bodyT, app_size, headT_size]; omega
def frameT (k n : Int) (p : ByteArray) : ByteArray := bodyT k n p ++ str (lowB ((crcF (bodyT k n p) : Nat) : Int) 4)
theorem frameT_size (k n : Int) (p : ByteArray) : (frameT k n p).size = p.size + 18 := by rw [frameT, app_size, bodyT_size, str_size, lowB_length]

theorem fit8 (n : Int) (h0 : 0 ≤ n) (h1 : n ≤ 18446744073709551615) : n / 256 ^ 8 = 0 := by
  rw [fits_iff n 8 h0]; have : (256 : Int) ^ 8 = 18446744073709551616 := by decide
  omega
theorem fit4 (n : Int) (h0 : 0 ≤ n) (h1 : n < 4294967296) : n / 256 ^ 4 = 0 := by
  rw [fits_iff n 4 h0]; have : (256 : Int) ^ 4 = 4294967296 := by decide
  omega
-- what stands in a head, whatever comes behind it
theorem head_mark (k n : Int) (l : Nat) (r : ByteArray) : bt (headT k n l ++ r) 0 = 165 := by
  rw [bt_append_left _ _ _ (by rw [headT_size]; omega), headT_parts]
  have h1 := str_size [(165 : Int)]
  have h2 := app_size (str [165]) (str [k])
  have h3 := app_size (str [165] ++ str [k]) (str (lowB n 8))
  simp at h1
  rw [bt_append_left _ _ _ (by omega), bt_append_left _ _ _ (by omega), bt_append_left _ _ _ (by omega)]
  exact one_bt 165 (by omega) (by omega)
theorem head_kind (k n : Int) (l : Nat) (r : ByteArray) (h0 : 0 ≤ k) (h1 : k ≤ 255) : bt (headT k n l ++ r) 1 = k := by
  rw [bt_append_left _ _ _ (by rw [headT_size]; omega), headT_parts]
  have e1 := str_size [(165 : Int)]
  have e1' := str_size [k]
  have h2 := app_size (str [165]) (str [k])
  have h3 := app_size (str [165] ++ str [k]) (str (lowB n 8))
  simp at e1 e1'
  rw [bt_append_left _ _ _ (by omega), bt_append_left _ _ _ (by omega)]
  have := bt_append_right (str [165]) (str [k]) 0
  rw [e1] at this
  rw [this]
  exact one_bt k h0 h1
theorem head_number (k n : Int) (l : Nat) (r : ByteArray) (h0 : 0 ≤ n) (h1 : n ≤ 18446744073709551615) : beR (headT k n l ++ r) 2 8 = n := by
  rw [beR_left _ _ _ _ (by rw [headT_size]; omega), headT_parts]
  have e1 := str_size [(165 : Int)]
  have e1' := str_size [k]
  have h2 := app_size (str [165]) (str [k])
  simp at e1 e1'
  have h := read_mid (str [165] ++ str [k]) (str (lowB (l : Int) 4)) n 8 (fit8 n h0 h1)
  rw [h2, e1, e1'] at h
  exact h
theorem head_length (k n : Int) (l : Nat) (r : ByteArray) (h : l < 4294967296) : beR (headT k n l ++ r) 10 4 = l := by
  have e1 := str_size [(165 : Int)]
  have e1' := str_size [k]
  have e2 := str_size (lowB n 8)
  rw [lowB_length] at e2
  have h2 := app_size (str [165]) (str [k])
  have h3 := app_size (str [165] ++ str [k]) (str (lowB n 8))
  simp at e1 e1'
  have h := read_mid (str [165] ++ str [k] ++ str (lowB n 8)) r l 4 (fit4 l (by omega) (by omega))
  rw [h3, h2, e1, e1', e2] at h
  rw [headT_parts]
  exact h

-- reading
def parseE (b : ByteArray) : Int :=
  if b.size = 0 then 12
  else if bt b 0 ≠ 165 then 130
  else if b.size < 14 then 12
  else if bt b 1 = 0 then 110
  else if 9223372036854775807 < beR b 2 8 then 10
  else if 524288 < beR b 10 4 then 121
  else if (b.size : Int) < 18 + beR b 10 4 then 12
  else if 18 + beR b 10 4 < b.size then 111
  else if beR b (b.size - 4) 4 ≠ (crcF (b.extract 0 (b.size - 4)) : Nat) then 131
  else 0
def parseK (b : ByteArray) : Int := if parseE b = 0 then bt b 1 else 0
def parseN (b : ByteArray) : Int := if parseE b = 0 then beR b 2 8 else 0
def parseP (b : ByteArray) : ByteArray := if parseE b = 0 then b.extract 14 (b.size - 4) else ByteArray.empty

theorem parse_ok (b : ByteArray) (h : parseE b = 0) : 18 ≤ b.size ∧ bt b 0 = 165 ∧ 1 ≤ bt b 1 ∧ beR b 2 8 ≤ 9223372036854775807 ∧ beR b 10 4 ≤ 524288 ∧ (b.size : Int) = 18 + beR b 10 4 ∧ beR b (b.size - 4) 4 = (crcF (b.extract 0 (b.size - 4)) : Nat) := by
  unfold parseE at h
  have hn := beR_nonneg b 10 4
  have hk := bt_nonneg b 1
  repeat' split at h
  all_goals first | cases h | skip
  refine ⟨by omega, by omega, by omega, by omega, by omega, by omega, ?_⟩
  rename_i hx
  exact Decidable.not_not.1 hx
theorem parse_frame (k n : Int) (p : ByteArray) (k0 : 1 ≤ k) (k1 : k ≤ 255) (n0 : 0 ≤ n) (n1 : n ≤ 9223372036854775807) (hp : p.size ≤ 524288) :
    parseE (frameT k n p) = 0 ∧ parseK (frameT k n p) = k ∧ parseN (frameT k n p) = n ∧ parseP (frameT k n p) = p := by
  have hz := frameT_size k n p
  have hbz := bodyT_size k n p
  have hh : frameT k n p = headT k n p.size ++ (p ++ str (lowB ((crcF (bodyT k n p) : Nat) : Int) 4)) := by rw [frameT, bodyT, app_assoc]
  have e0 : bt (frameT k n p) 0 = 165 := by rw [hh]; exact head_mark _ _ _ _
  have e1 : bt (frameT k n p) 1 = k := by rw [hh]; exact head_kind _ _ _ _ (by omega) k1
  have e2 : beR (frameT k n p) 2 8 = n := by rw [hh]; exact head_number _ _ _ _ n0 (by omega)
  have e3 : beR (frameT k n p) 10 4 = p.size := by rw [hh]; exact head_length _ _ _ _ (by omega)
  have e4 : (frameT k n p).extract 0 ((frameT k n p).size - 4) = bodyT k n p := by
    rw [show (frameT k n p).size - 4 = (bodyT k n p).size by omega]
    exact app_left _ _
  have e5 : beR (frameT k n p) ((frameT k n p).size - 4) 4 = (crcF (bodyT k n p) : Nat) := by
    have h := read_mid (bodyT k n p) ByteArray.empty ((crcF (bodyT k n p) : Nat) : Int) 4 (fit4 _ (by omega) (by have := crcF_lt (bodyT k n p); omega))
    rw [show (frameT k n p).size - 4 = (bodyT k n p).size by omega]
    rw [← frameT, ByteArray.append_empty] at h
    exact h
  have e : parseE (frameT k n p) = 0 := by
    unfold parseE
    rw [if_neg (by omega), if_neg (by rw [e0]; omega), if_neg (by omega), if_neg (by rw [e1]; omega), if_neg (by rw [e2]; omega), if_neg (by rw [e3]; omega), if_neg (by rw [e3]; omega), if_neg (by rw [e3]; omega), e4, if_neg (by rw [e5]; simp)]
  refine ⟨e, ?_, ?_, ?_⟩
  · rw [parseK, if_pos e, e1]
  · rw [parseN, if_pos e, e2]
  · rw [parseP, if_pos e]
    have h := app_mid (headT k n p.size) p (str (lowB ((crcF (bodyT k n p) : Nat) : Int) 4))
    rw [headT_size, ← bodyT, ← frameT] at h
    rw [show (frameT k n p).size - 4 = 14 + p.size by omega]
    exact h
-- what is read would be framed so
theorem frame_parse (b : ByteArray) (h : parseE b = 0) : frameT (parseK b) (parseN b) (parseP b) = b ∧ 1 ≤ parseK b ∧ parseK b ≤ 255 ∧ 0 ≤ parseN b ∧ parseN b ≤ 9223372036854775807 ∧ (parseP b).size ≤ 524288 ∧ (parseP b).size + 18 = b.size := by
  obtain ⟨h1, h2, h3, h4, h5, h6, h7⟩ := parse_ok b h
  have hb := bt_le b 1
  have hn := beR_nonneg b 2 8
  have hl := beR_nonneg b 10 4
  have eP : parseP b = b.extract 14 (b.size - 4) := by rw [parseP, if_pos h]
  have zP : (parseP b).size = b.size - 18 := by rw [eP, ext_size]; omega
  have eK : parseK b = bt b 1 := by rw [parseK, if_pos h]
  have eN : parseN b = beR b 2 8 := by rw [parseN, if_pos h]
  have eH : headT (parseK b) (parseN b) (parseP b).size = b.extract 0 14 := by
    rw [headT_parts, eK, eN, zP]
    have g1 := bt_one b 0 (by omega)
    rw [h2] at g1
    rw [g1, bt_one b 1 (by omega), ext_join b 0 1 2 (by omega) (by omega) (by omega), put_read b 2 8 (by omega), ext_join b 0 2 10 (by omega) (by omega) (by omega)]
    have e : ((b.size - 18 : Nat) : Int) = beR b 10 4 := by omega
    rw [e, put_read b 10 4 (by omega), ext_join b 0 10 14 (by omega) (by omega) (by omega)]
  have eB : bodyT (parseK b) (parseN b) (parseP b) = b.extract 0 (b.size - 4) := by
    rw [bodyT, eH, eP, ext_join b 0 14 (b.size - 4) (by omega) (by omega) (by omega)]
  refine ⟨?_, by omega, by omega, by omega, by omega, by omega, by omega⟩
  rw [frameT, eB, ← h7, put_read b (b.size - 4) 4 (by omega), ext_join b 0 (b.size - 4) (b.size - 4 + 4) (by omega) (by omega) (by omega)]
  exact ext_all _ _ (by omega)
theorem parse_long (k n : Int) (p r : ByteArray) (k0 : 1 ≤ k) (k1 : k ≤ 255) (n0 : 0 ≤ n) (n1 : n ≤ 9223372036854775807) (hp : p.size ≤ 524288) (hr : r.size ≠ 0) : parseE (frameT k n p ++ r) = 111 := by
  have hz := frameT_size k n p
  have hh : frameT k n p ++ r = headT k n p.size ++ (p ++ str (lowB ((crcF (bodyT k n p) : Nat) : Int) 4) ++ r) := by rw [frameT, bodyT, app_assoc, app_assoc, app_assoc]
  have e0 : bt (frameT k n p ++ r) 0 = 165 := by rw [hh]; exact head_mark _ _ _ _
  have e1 : bt (frameT k n p ++ r) 1 = k := by rw [hh]; exact head_kind _ _ _ _ (by omega) k1
  have e2 : beR (frameT k n p ++ r) 2 8 = n := by rw [hh]; exact head_number _ _ _ _ n0 (by omega)
  have e3 : beR (frameT k n p ++ r) 10 4 = p.size := by rw [hh]; exact head_length _ _ _ _ (by omega)
  have hs := app_size (frameT k n p) r
  unfold parseE
  rw [if_neg (by omega), if_neg (by rw [e0]; omega), if_neg (by omega), if_neg (by rw [e1]; omega), if_neg (by rw [e2]; omega), if_neg (by rw [e3]; omega), if_neg (by rw [e3]; omega), if_pos (by rw [e3]; omega)]
theorem parse_cut (k n : Int) (p : ByteArray) (c : Nat) (k0 : 1 ≤ k) (k1 : k ≤ 255) (n0 : 0 ≤ n) (n1 : n ≤ 9223372036854775807) (hp : p.size ≤ 524288) (hc : c < p.size + 18) : parseE ((frameT k n p).extract 0 c) = 12 := by
  have hz := frameT_size k n p
  have hh : frameT k n p = headT k n p.size ++ (p ++ str (lowB ((crcF (bodyT k n p) : Nat) : Int) 4)) := by rw [frameT, bodyT, app_assoc]
  have e0 : bt (frameT k n p) 0 = 165 := by rw [hh]; exact head_mark _ _ _ _
  have e1 : bt (frameT k n p) 1 = k := by rw [hh]; exact head_kind _ _ _ _ (by omega) k1
  have e2 : beR (frameT k n p) 2 8 = n := by rw [hh]; exact head_number _ _ _ _ n0 (by omega)
  have e3 : beR (frameT k n p) 10 4 = p.size := by rw [hh]; exact head_length _ _ _ _ (by omega)
  have hs := ext_size (frameT k n p) 0 c
  unfold parseE
  rcases Nat.eq_zero_or_pos c with h | h
  · rw [if_pos (by omega)]
  have g0 : bt ((frameT k n p).extract 0 c) 0 = 165 := by rw [bt_extract _ 0 c 0 (by omega) (by omega)]; exact e0
  rw [if_neg (by omega), if_neg (by rw [g0]; omega)]
  rcases Nat.lt_or_ge c 14 with h14 | h14
  · rw [if_pos (by omega)]
  have g1 : bt ((frameT k n p).extract 0 c) 1 = k := by rw [bt_extract _ 0 c 1 (by omega) (by omega)]; exact e1
  have g2 : beR ((frameT k n p).extract 0 c) 2 8 = n := by rw [beR_ext _ 0 c 2 8 (by omega) (by omega)]; exact e2
  have g3 : beR ((frameT k n p).extract 0 c) 10 4 = p.size := by rw [beR_ext _ 0 c 10 4 (by omega) (by omega)]; exact e3
  rw [if_neg (by omega), if_neg (by rw [g1]; omega), if_neg (by rw [g2]; omega), if_neg (by rw [g3]; omega), if_pos (by rw [g3]; omega)]
end Go.Proofs.YtpcllegjnbeppaaGreat.tqa

namespace Go.Proofs.YtpcllegjnbeppaaGreat.trc
open Go.RowKit Go.PlainAid
open Go.Proofs.YtpcllegjnbeppaaGreat.tra Go.Proofs.YtpcllegjnbeppaaGreat.trb Go.Proofs.YtpcllegjnbeppaaGreat.nb
set_option linter.unusedVariables false

def btL (q : ByteArray) (n : Nat) : List Int := (List.range n).map (bt q)
theorem btL_length (q : ByteArray) (n : Nat) : (btL q n).length = n := by simp [btL]
theorem btL_get (q : ByteArray) (n j : Nat) (h : j < n) : (btL q n).getD j 0 = bt q j := by simp [btL, List.getD, h]

-- string(b) where b's cells are known
theorem conv_at (ns : List Int) (W : World) (g o n cap : Nat) (hn : n = ns.length) (hc : ∀ j v, (ns.map (Value.int .u8))[j]? = some v → W.cell? ((⟨g, o, none⟩ : Addr).add j) = some v) :
    (convert 84 9 (.slice (some ⟨g, o, none⟩) n cap)).run Tryz.prog W = .ok (.string (str ns)) W := by
  subst hn
  rw [run_convert_bytes_string _ 84 9 5 _ _ _ Tryz.underlying84 Tryz.underlying5 Tryz.underlying9]
  refine run_bytesToString _ _ _ _ ns ?_
  have h := run_loadCells_list (P := Tryz.prog) (w := W) ⟨g, o, none⟩ (ns.map (Value.int .u8)) hc
  simpa using h

theorem own_conv (W : World) (B : Nat) (v : Value) (ns : List Int) (n : Nat) (hn : n = ns.length) (ho : W.ownsRow B 5 1 v n (ns.map (Value.int .u8))) :
    (convert 84 9 v).run Tryz.prog W = .ok (.string (str ns)) W := by
  obtain ⟨hl, ⟨rfl, h⟩ | ⟨g, cap, cur, rfl, hg, hh, h1, h2, h3, h4⟩⟩ := ho
  · have e : ns = [] := List.length_eq_zero_iff.1 (by omega)
    subst e
    exact run_convert_bytes_nil W 84 5 Tryz.underlying84 Tryz.underlying5 0 0 9 Tryz.underlying9
  · refine conv_at ns W g 0 n cap hn (fun j u hj => ?_)
    have hjl : j < n := by rw [hn]; simpa using (List.getElem?_eq_some_iff.1 hj).1
    rw [Addr.add_mid, Nat.zero_add, cell_of_row _ _ _ _ _ _ hh, ← hj, ← h4, List.getElem?_take, if_pos (by omega), Array.getElem?_toList]

theorem one_new (W : World) (u : Value) (t : TypeId) : (W.alloc (.cells #[u] t)).cell? ⟨W.heap.size, 0, none⟩ = some u := by
  rw [World.cell?_alloc_at _ _ _ _ rfl]; rfl

-- a slice of bytes of our own, by its cells
structure OwnM (w : World) (base : Nat) (v : Value) (n : Nat) (ns : List Int) : Prop where
  len : ns.length = n
  ex : ∃ g cap, v = .slice (some ⟨g, 0, none⟩) n cap ∧ base ≤ g ∧ g < w.heap.size ∧ (∀ j, j < n → w.cell? ⟨g, j, none⟩ = some (.int .u8 (ns.getD j 0))) ∧ (∀ j, n ≤ j → j < cap → (w.cell? ⟨g, j, none⟩).isSome = true ∧ w.frozen? ⟨g, j, none⟩ = false)

theorem OwnM.alloc {w : World} {base : Nat} {v : Value} {n : Nat} {ns : List Int} (h : OwnM w base v n ns) (o : Obj) : OwnM (w.alloc o) base v n ns := by
  obtain ⟨hl, g, cap, rfl, hb, hg, h1, h2⟩ := h
  refine ⟨hl, g, cap, rfl, hb, by simp; omega, fun j hj => ?_, fun j ha hc => ?_⟩
  · rw [World.cell?_alloc_lt _ _ _ hg]; exact h1 j hj
  · rw [World.cell?_alloc_lt _ _ _ hg, World.frozen?_alloc_past _ _ _ hg]; exact h2 j ha hc

-- []byte(s)
theorem of_string (w : World) (s : ByteArray) (hs : s.size ≤ 140737488351232) : ∃ v w', (convert 9 84 (.string s)).run Tryz.prog w = .ok v w' ∧ OwnM w' w.heap.size v s.size (btL s s.size) ∧ Below w.heap.size w w' := by
  refine ⟨_, _, run_bytes_of_string w 9 84 5 s Tryz.underlying9 Tryz.underlying84 Tryz.underlying5, ⟨btL_length _ _, _, _, rfl, Nat.le_refl _, by simp, fun j hj => ?_, fun j ha hc => ?_⟩, ((Below.refl _ _).drew).alloc (Nat.le_refl _) _⟩
  · have hh : (w.drew.alloc (.cells (bytesRow s (grownCap w s.size 0 5)) 5 ((bytesRow s (grownCap w s.size 0 5)).size, (bytesRow s (grownCap w s.size 0 5)).size + 1))).heap[w.heap.size]? = some (.cells (bytesRow s (grownCap w s.size 0 5)) 5 ((bytesRow s (grownCap w s.size 0 5)).size, (bytesRow s (grownCap w s.size 0 5)).size + 1)) := heap_alloc_new w.drew _
    rw [cell_of_row _ _ _ _ _ _ hh, bytesRow, Array.getElem?_append_left (by simpa using hj), btL_get _ _ _ hj]
    have hj' : j < s.data.size := hj
    rw [Array.getElem?_map, Array.getElem?_eq_getElem hj']
    simp only [Option.map_some]
    rw [← get_bt s j hj]
    rfl
  · have hh : (w.drew.alloc (.cells (bytesRow s (grownCap w s.size 0 5)) 5 ((bytesRow s (grownCap w s.size 0 5)).size, (bytesRow s (grownCap w s.size 0 5)).size + 1))).heap[w.heap.size]? = some (.cells (bytesRow s (grownCap w s.size 0 5)) 5 ((bytesRow s (grownCap w s.size 0 5)).size, (bytesRow s (grownCap w s.size 0 5)).size + 1)) := heap_alloc_new w.drew _
    have hsz : (bytesRow s (grownCap w s.size 0 5)).size = grownCap w s.size 0 5 := by
      have := grownCap_ge w s.size 0 5
      have e : s.data.size = s.size := rfl
      simp [bytesRow, e]; omega
    refine ⟨?_, ?_⟩
    · rw [cell_of_row _ _ _ _ _ _ hh, Array.getElem?_eq_getElem (by omega)]; rfl
    · unfold World.frozen?
      rw [hh]
      simp only [hsz]
      simp; omega
end Go.Proofs.YtpcllegjnbeppaaGreat.trc

namespace Go.Proofs.YtpcllegjnbeppaaGreat.trg
open Go.RowKit Go.PlainAid
open Go.Proofs.YtpcllegjnbeppaaGreat.tra Go.Proofs.YtpcllegjnbeppaaGreat.trb Go.Proofs.YtpcllegjnbeppaaGreat.nb Go.Proofs.YtpcllegjnbeppaaGreat.trc
set_option linter.unusedVariables false

-- rows of numbers of 32 bits
def row32 (ns : List Int) : Array Value := (ns.map (Value.int .u32)).toArray
theorem row32_size (ns : List Int) : (row32 ns).size = ns.length := by simp [row32]
theorem row32_set (ns : List Int) (i : Nat) (x : Int) : (row32 ns).setIfInBounds i (.int .u32 x) = row32 (ns.set i x) := by simp [row32]
theorem row32_get (ns : List Int) (i : Nat) : (row32 ns)[i]? = (ns[i]?).map (Value.int .u32) := by simp [row32]

-- the table as far as it is filled
def tabL (m : Nat) : List Int := (List.range 256).map fun j => if j < m then ((sts 8 j : Nat) : Int) else 0
theorem tabL_length (m : Nat) : (tabL m).length = 256 := by simp [tabL]
theorem tabL_get (m j : Nat) (h : j < 256) : (tabL m)[j]? = some (if j < m then ((sts 8 j : Nat) : Int) else 0) := by
  simp [tabL, h]
theorem tabL_low (m j : Nat) (h : j < 256) (hm : j < m) : (tabL m)[j]? = some ((sts 8 j : Nat) : Int) := by
  rw [tabL_get m j h, if_pos hm]
theorem tabL_set (m : Nat) (x : Int) (h : m < 256) (hx : x = ((sts 8 m : Nat) : Int)) : (tabL m).set m x = tabL (m + 1) := by
  apply List.ext_getElem?
  intro j
  by_cases hj : j < 256
  · rw [tabL_get (m + 1) j hj, List.getElem?_set]
    by_cases e : m = j
    · subst e
      rw [if_pos rfl, if_pos (by rw [tabL_length]; exact h), if_pos (by omega), hx]
    · rw [if_neg e, tabL_get m j hj]
      by_cases h2 : j < m
      · rw [if_pos h2, if_pos (by omega)]
      · rw [if_neg h2, if_neg (by omega)]
  · rw [List.getElem?_eq_none (by rw [List.length_set, tabL_length]; omega), List.getElem?_eq_none (by rw [tabL_length]; omega)]
def zT : Array Value := row32 (List.replicate 256 0)
theorem tabL_rep : List.replicate 256 (0 : Int) = tabL 1 := by
  apply List.ext_getElem?
  intro j
  by_cases hj : j < 256
  · rw [tabL_get 1 j hj, List.getElem?_replicate, if_pos hj]
    by_cases h0 : j < 1
    · obtain rfl : j = 0 := by omega
      rw [if_pos h0]; rfl
    · rw [if_neg h0]
  · rw [List.getElem?_eq_none (by rw [List.length_replicate]; omega), List.getElem?_eq_none (by rw [tabL_length]; omega)]
theorem tabL_one : zT = row32 (tabL 1) := by rw [zT, tabL_rep]
theorem top_xor (k r : Nat) (h : r < 2 ^ k) : 2 ^ k + r = 2 ^ k ^^^ r := by
  have h1 : 2 ^ k * 1 + r = 2 ^ k * 1 ||| r := Nat.two_pow_add_eq_or_of_lt h 1
  rw [Nat.mul_one] at h1
  rw [h1]
  apply Nat.eq_of_testBit_eq
  intro i
  rw [Nat.testBit_or, Nat.testBit_xor, Nat.testBit_two_pow]
  by_cases e : k = i
  · subst e
    have : r.testBit k = false := Nat.testBit_lt_two_pow h
    rw [this]; simp
  · simp [e]
theorem sts_top (k r : Nat) (h : r < 2 ^ k) : sts 8 (2 ^ k + r) = sts 8 (2 ^ k) ^^^ sts 8 r := by
  rw [top_xor k r h, sts_xor]

-- one byte by the table
theorem low_xor (R c : Nat) (hc : c < 256) : (R % 256) ^^^ c = (R ^^^ c) % 256 := by
  have h : (R ^^^ c) % 2 ^ 8 = (R % 2 ^ 8) ^^^ (c % 2 ^ 8) := Nat.xor_mod_two_pow
  rw [show (256 : Nat) = 2 ^ 8 by rfl, h, Nat.mod_eq_of_lt (show c < 2 ^ 8 by omega)]
theorem bs_look (R c : Nat) (hc : c < 256) : bs R c = (R / 256) ^^^ sts 8 ((R % 256) ^^^ c) := by
  rw [bs_table R c hc, low_xor R c hc, Nat.xor_comm]

-- a row of 256 in memory
structure LayT (w : World) (B : Nat) (X : Array Value) (wr : World) : Prop where
  lx : wr.heap[B]? = some (.cells X 203 (0, 0))
  lb : Below w.heap.size w wr
theorem LayT.set {w : World} {B : Nat} {l l' : List Int} {wr : World} (h : LayT w B (row32 l) wr) (hB : w.heap.size ≤ B) (t : Nat) (v : Int) (hs : l.set t v = l') (n : Nat) : LayT w B (row32 l') ((wr.setCell ⟨B, t, none⟩ (.int .u32 v)).drewN n) := by
  refine ⟨?_, ?_⟩
  · show (wr.setCell _ _).heap[_]? = _
    rw [heap_setCell_same _ _ _ _ _ _ h.lx, row32_set, hs]
  · exact below_drewN (h.lb.setCell hB _) n
end Go.Proofs.YtpcllegjnbeppaaGreat.trg

namespace Go.Proofs.YtpcllegjnbeppaaGreat.trh
open Go.RowKit Go.PlainAid
open Go.Proofs.YtpcllegjnbeppaaGreat.tra Go.Proofs.YtpcllegjnbeppaaGreat.trb Go.Proofs.YtpcllegjnbeppaaGreat.nb Go.Proofs.YtpcllegjnbeppaaGreat.trc Go.Proofs.YtpcllegjnbeppaaGreat.trg
set_option linter.unusedVariables false

set_option maxHeartbeats 800000 in
theorem shifted (r : Nat) (w : World) (hr : r < 4294967296) :
    Calls Tryz.prog 162 #[.int .u32 r] w fun e w' => e = .returned (.int .u32 (sts 8 r : Nat)) ∧ w' = w := by
  go_enter Tryz.func162, Tryz.ntmps162
  go_wp2
  go_loop [0, 4] (fun x j => ∃ t X : Nat, t ≤ 8 ∧ j = .int .i64 t ∧ x = .int .u32 X ∧ X < 4294967296 ∧ Hid (X = sts t r)) (fun _ j => (8 - intOf j).toNat)
  case atStart => exact ⟨0, r, by omega, rfl, rfl, hr, rfl⟩
  case round =>
    obtain ⟨t, X, ht, rfl, rfl, hX, HT⟩ := hrel
    by_cases hl8 : t < 8
    · have hl8' : (t : Int) < 8 := by omega
      have HA : Hid _ := and_one X hX
      have HP : Hid _ := xor_po (X / 2) (by omega)
      rcases Nat.mod_two_eq_zero_or_one X with hm | hm
      · have HS : Hid (X / 2 = st X) := st0 X hm
        rw [hm] at HA
        have h01 : (bits .and .u32 (X : Int) 1 == 1) = false := by rw [HA.out]; rfl
        go_wp2
        go_round
        case rel => exact ⟨t + 1, X / 2, by omega, by go_num, by go_num, by omega, by rw [sts_succ, ← HT.out]; exact HS.out⟩
        case measure => simp [intOf]; omega
      · have HS : Hid ((X / 2) ^^^ PO = st X) := st1 X hm
        rw [hm] at HA
        have h01 : (bits .and .u32 (X : Int) 1 == 1) = true := by rw [HA.out]; rfl
        go_wp2
        go_round
        case rel => exact ⟨t + 1, (X / 2) ^^^ PO, by omega, by go_num, by rw [← HP.out]; go_num, by rw [HS.out]; exact st_lt X hX, by rw [sts_succ, ← HT.out]; exact HS.out⟩
        case measure => simp [intOf]; omega
    · have hl8' : ¬ (t : Int) < 8 := by omega
      obtain rfl : t = 8 := by omega
      go_wp2
      go_ret
      exact ⟨by rw [HT.out]; rfl, rfl⟩

theorem wpList_alloc {P : Program} {ops : Array Oper} {rest : List Oper} {o : Oper} {a : Act} {w : World} {Q : Exit → Act → World → Prop} (hgd : o.guard = none) (t : TypeId) (ho : o.op = .alloc t) (v : Value) (w' : World)
    (hrun : (Instr.alloc t true (.tuple #[])).run P w = .ok v w') (h : wpList P ops Q rest (a.put o.dst v) w') : wpList P ops Q (o :: rest) a w := by
  refine wpList_plain hgd fun K hK => ?_
  unfold Oper.wp execOp
  simp only [ho, Sem.run_bind, hrun, Result.andThen_ok, Sem.run_pure]
  exact hK _ _ h
set_option maxRecDepth 100000 in
theorem alloc256 (W : World) : (Instr.alloc 203 true (.tuple #[])).run Tryz.prog W = .ok (.pointer (some ⟨W.heap.size, 0, none⟩)) (W.alloc (.cells zT 203)) := by kernel_rfl
theorem info256 : (Tryz.prog.info? 203).map (·.size) = some 256 := by kernel_rfl

structure LayB (w : World) (X : Array Value) (wr : World) : Prop where
  lr : wr.heap[w.heap.size]? = some (.cells zT 203 (0, 0))
  lx : wr.heap[w.heap.size + 1]? = some (.cells X 203 (0, 0))
  lb : Below w.heap.size w wr
theorem LayB.set {w : World} {l l' : List Int} {wr : World} (h : LayB w (row32 l) wr) (t : Nat) (v : Int) (hs : l.set t v = l') : LayB w (row32 l') (wr.setCell ⟨w.heap.size + 1, t, none⟩ (.int .u32 v)) := by
  refine ⟨?_, ?_, ?_⟩
  · rw [heap_setCell_other _ _ _ _ (by simp)]; exact h.lr
  · rw [heap_setCell_same _ _ _ _ _ _ h.lx, row32_set, hs]
  · exact h.lb.setCell (by simp) _

set_option maxHeartbeats 1600000 in
set_option maxRecDepth 100000 in
theorem byteSums (w : World) : Calls Tryz.prog 154 #[] w fun e w' => e = .returned (.agg (row32 (tabL 256))) ∧ Below w.heap.size w w' := by
  go_enter Tryz.func154, Tryz.ntmps154
  go_wp2_with (refine wpList_alloc rfl 203 rfl _ _ (alloc256 _) ?_)
  go_loopw [2] (fun i wr => ∃ k T : Nat, k ≤ 8 ∧ Hid (T = 2 ^ k) ∧ 1 ≤ T ∧ T ≤ 256 ∧ i = .int .i64 T ∧ Hid (LayB w (row32 (tabL T)) wr)) (fun i _ => (256 - intOf i).toNat)
  case atStart =>
    refine ⟨0, 1, by omega, rfl, by omega, by omega, rfl, ⟨?_, ?_, ?_⟩⟩
    · rw [heap_alloc_old _ _ (by simp)]; exact heap_alloc_new w _
    · rw [← tabL_one]; exact heap_alloc2_new w _ _
    · exact ((Below.refl _ _).alloc (Nat.le_refl _) _).alloc (by simp) _
  case round =>
    obtain ⟨k, T, hk, HT, t1, t2, rfl, LAY⟩ := hrel
    by_cases hlt : T < 256
    · have hlt' : (T : Int) < 256 := by omega
      have hk8 : k < 8 := by
        have := HT.out
        rcases Nat.lt_or_ge k 8 with h | h
        · exact h
        · obtain rfl : k = 8 := by omega
          rw [this] at hlt; omega
      have t32 : IntKind.u32.wrap (T : Int) = (T : Int) := by rw [IntKind.wrap_u32]; omega
      go_wp2_with fail
      refine (shifted T _ (by omega)).mono ?_
      rintro e w1 ⟨rfl, rfl⟩
      have sT := sts_lt 8 T (by omega)
      go_wp2_with fail
      go_loopw [13] (fun j wr => ∃ r : Nat, r ≤ T ∧ j = .int .i64 r ∧ Hid (LayB w (row32 (tabL (T + r))) wr)) (fun j _ => (T - intOf j).toNat)
      case atStart => exact ⟨0, by omega, rfl, LAY.out⟩
      case round =>
        obtain ⟨r, hr, rfl, LAY2⟩ := hrel
        clear LAY
        by_cases hrt : r < T
        · have hrt' : (r : Int) < T := by omega
          have hT2 : T + r < 256 := by
            have h1 : T ≤ 128 := by
              rw [HT.out]
              exact Nat.pow_le_pow_right (n := 2) (i := k) (j := 7) (by omega) (by omega)
            omega
          have a1 : IntKind.i64.wrap ((T : Int) + (r : Int)) = (T : Int) + (r : Int) := by rw [IntKind.wrap_i64]; omega
          have a2 : (T : Int) + (r : Int) < 256 := by omega
          have a3 : ((T : Int) + (r : Int)).toNat = T + r := by omega
          have a4 : (0 : Int) ≤ (T : Int) + (r : Int) := by omega
          have a5 : (r : Int) < 256 := by omega
          have C1 : wr.cell? ⟨w.heap.size + 1, r, none⟩ = some (.int .u32 ((sts 8 r : Nat) : Int)) := by
            rw [cell_of_row _ _ _ _ _ _ LAY2.out.lx, row32_get, tabL_low _ _ (by omega) (by omega)]; rfl
          have C2 : wr.cell? ⟨w.heap.size + 1, T + r, none⟩ = some (.int .u32 0) := by
            rw [cell_of_row _ _ _ _ _ _ LAY2.out.lx, row32_get, tabL_get _ _ (by omega), if_neg (by omega)]; rfl
          have F2 : wr.frozen? ⟨w.heap.size + 1, T + r, none⟩ = false := frozen_of_row _ _ _ _ _ LAY2.out.lx
          have HX : Hid (bits .xor .u32 ((sts 8 T : Nat) : Int) ((sts 8 r : Nat) : Int) = ((sts 8 (T + r) : Nat) : Int)) := by
            show _ = _
            have e : sts 8 (T + r) = sts 8 T ^^^ sts 8 r := by rw [HT.out]; exact sts_top k r (by rw [← HT.out]; exact hrt)
            rw [u32_xor_nat _ _ sT (sts_lt 8 r (by omega)), e]
          go_wp2
          go_roundw
          case rel => exact ⟨r + 1, by omega, by go_num, LAY2.out.set (T + r) _ (tabL_set (T + r) _ hT2 HX.out)⟩
          case measure => simp [intOf]; omega
        · have hrt' : ¬ (r : Int) < T := by omega
          obtain rfl : r = T := by omega
          go_wp2
          go_roundw
          case rel =>
            refine ⟨k + 1, r * 2, by omega, ?_, by omega, ?_, by go_num, ?_⟩
            · show _ = _; rw [HT.out, Nat.pow_succ]
            · have := Nat.pow_le_pow_right (n := 2) (i := k + 1) (j := 8) (by omega) (by omega)
              rw [HT.out, ← Nat.pow_succ]; omega
            · rw [show r * 2 = r + r by omega]; exact LAY2.out
          case measure => simp [intOf]; omega
    · have hlt' : ¬ (T : Int) < 256 := by omega
      obtain rfl : T = 256 := by omega
      have hlen : (row32 (tabL 256)).size = 256 := by rw [row32_size, tabL_length]
      have HI : Hid ((Tryz.prog.info? 203).map (·.size) = some (row32 (tabL 256)).size) := by show _ = _; rw [hlen]; exact info256
      have H3 : Hid ((row32 (tabL 256)).all (·.oneCell') = true) := by show _ = _; simp [row32, Value.oneCell']
      have H4 : Hid (zT.size = (row32 (tabL 256)).size) := by show _ = _; rw [hlen, tabL_one, row32_size, tabL_length]
      clear hlen
      obtain ⟨WL, HW⟩ : ∃ WL, Hid (row32 (tabL 256) = WL) := ⟨_, rfl⟩
      rw [HW.out] at HI H3 H4 LAY
      go_wp2_with (first | (refine wpList_load_row rfl 203 (.tmp 1) rfl (w.heap.size + 1) rfl 203 WL (0, 0) _ LAY.out.lx Tryz.underlying203 rfl HI.out ?_) | (refine wpList_store_row rfl 203 (.tmp 0) (.tmp 26) rfl w.heap.size WL rfl rfl 203 zT LAY.out.lr HI.out H4.out H3.out ?_))
      exact bodyPost_ret (v := .agg WL) (results_cell_row Tryz.results154 _ _ w.heap.size 203 _ (0, 0) _ rfl (setRow_heap _ _ _ _ _ _ LAY.out.lr) Tryz.underlying203 rfl HI.out) rfl ⟨by rw [HW.out], below_setRow LAY.out.lb (by omega) _⟩
end Go.Proofs.YtpcllegjnbeppaaGreat.trh

namespace Go.Proofs.YtpcllegjnbeppaaGreat.tri
open Go.RowKit Go.PlainAid
open Go.Proofs.YtpcllegjnbeppaaGreat.tra Go.Proofs.YtpcllegjnbeppaaGreat.trb Go.Proofs.YtpcllegjnbeppaaGreat.nb Go.Proofs.YtpcllegjnbeppaaGreat.trc Go.Proofs.YtpcllegjnbeppaaGreat.trg Go.Proofs.YtpcllegjnbeppaaGreat.trh
set_option linter.unusedVariables false

theorem not_ff (r : Nat) (h : r < 4294967296) : bits .xor .u32 IntKind.u32.max (r : Int) = ((r ^^^ FF : Nat) : Int) := by
  rw [show IntKind.u32.max = ((4294967295 : Nat) : Int) by rfl, u32_xor_nat _ r (by omega) h, Nat.xor_comm]; rfl
theorem u8_xor (a b : Nat) (ha : a < 256) (hb : b < 256) : bits .xor .u8 (a : Int) (b : Int) = ((a ^^^ b : Nat) : Int) := by
  first | exact u8_xor_nat a b ha hb | exact u8_xor_nat a b (by omega) (by omega)

set_option maxHeartbeats 1600000 in
set_option maxRecDepth 100000 in
theorem CrcOn (crc : Nat) (s : ByteArray) (w : World) (hs : s.size ≤ 281474976710656) (hc : crc < 4294967296) :
    Calls Tryz.prog 126 #[.int .u32 crc, .string s] w fun e w' => e = .returned (.int .u32 (crcOnF crc s : Nat)) ∧ Below w.heap.size w w' := by
  have hsg : IntKind.u32.signed = false := rfl
  have hlen : (row32 (tabL 256)).size = 256 := by rw [row32_size, tabL_length]
  have HI : Hid ((Tryz.prog.info? 203).map (·.size) = some (row32 (tabL 256)).size) := by show _ = _; rw [hlen]; exact info256
  have H3 : Hid ((row32 (tabL 256)).all (·.oneCell') = true) := by show _ = _; simp [row32, Value.oneCell']
  have H4 : Hid (zT.size = (row32 (tabL 256)).size) := by show _ = _; rw [hlen, tabL_one, row32_size, tabL_length]
  have HW : Hid (∀ j, j < 256 → (row32 (tabL 256))[j]? = some (.int .u32 ((sts 8 j : Nat) : Int))) := fun j hj => by
    rw [row32_get, tabL_low _ _ hj hj]; rfl
  have X : Hid (Calls _ _ _ _ _) := byteSums w
  clear hlen
  generalize row32 (tabL 256) = WL at *
  go_enter Tryz.func126, Tryz.ntmps126
  go_wp2_with fail
  refine X.out.mono ?_
  rintro e w1 ⟨rfl, hb1⟩
  have HB : Hid (Below w.heap.size w (w1.alloc (.cells WL 203))) := hb1.alloc hb1.size _
  clear hb1 X
  go_wp2_with (first | (refine wpList_alloc rfl 203 rfl _ _ (alloc256 _) ?_) | (refine wpList_store_row rfl 203 (.tmp 5) (.tmp 8) rfl w1.heap.size WL rfl rfl 203 zT (heap_alloc_new w1 _) HI.out H4.out H3.out ?_; rw [World.setRow_alloc_new]))
  rw [(not_ff crc hc)]
  go_loop [6, 13] (fun r i => ∃ k R : Nat, k ≤ s.size ∧ i = .int .i64 k ∧ r = .int .u32 R ∧ R < 4294967296 ∧ Hid (R = crcR (crc ^^^ FF) (nl s k))) (fun _ i => (s.size - intOf i).toNat)
  case atStart => exact ⟨0, crc ^^^ FF, by omega, rfl, rfl, xor_ff_lt crc hc, rfl⟩
  case round =>
    obtain ⟨k, R, hk, rfl, rfl, hR, HR⟩ := hrel
    by_cases hlt : k < s.size
    · have hlt' : (k : Int) < s.size := by omega
      have hbt := get_bt s
      have b0 := bt_nonneg s k
      have b1 := bt_le s k
      have hn := nt_lt s k
      obtain ⟨J, HJ⟩ : ∃ J, Hid (J = (R % 256) ^^^ nt s k) := ⟨_, rfl⟩
      have hJ : J < 256 := by rw [HJ.out]; exact Nat.xor_lt_two_pow (n := 8) (by omega) (by omega)
      have hJ' : (J : Int) < 256 := by omega
      have hidx : bits .xor .u8 ((R : Int) % 256) (bt s k) = (J : Int) := by
        rw [nt_bt s k, show (R : Int) % 256 = ((R % 256 : Nat) : Int) by omega, u8_xor _ _ (by omega) hn, HJ.out]
      have C1 : (w1.alloc (.cells WL 203)).cell? ⟨w1.heap.size, J, none⟩ = some (.int .u32 ((sts 8 J : Nat) : Int)) := by
        rw [cell_of_row _ _ _ _ _ _ (heap_alloc_new w1 _)]; exact HW.out J hJ
      have sJ := sts_lt 8 J (by omega)
      have HX : Hid (bits .xor .u32 ((R : Int) / 256) ((sts 8 J : Nat) : Int) = ((bs R (nt s k) : Nat) : Int)) := by
        show _ = _
        rw [show (R : Int) / 256 = ((R / 256 : Nat) : Int) by omega, u32_xor_nat _ _ (by omega) sJ, bs_look R _ hn, HJ.out]
      clear hn
      have hb := bs_lt R (nt s k) hR (nt_lt s k)
      go_wp2
      go_round
      case rel => exact ⟨k + 1, bs R (nt s k), by omega, by go_num, by rw [HX.out], hb, by rw [nl_succ, crcR_snoc, ← HR.out]; exact rfl⟩
      case measure => simp [intOf]; omega
    · have hlt' : ¬ (k : Int) < s.size := by omega
      obtain rfl : k = s.size := by omega
      have HX : Hid _ := not_ff R hR
      go_wp2
      rw [HX.out]
      go_ret
      exact ⟨by rw [HR.out]; rfl, HB.out⟩

theorem Crc (s : ByteArray) (w : World) (hs : s.size ≤ 281474976710656) :
    Calls Tryz.prog 104 #[.string s] w fun e w' => e = .returned (.int .u32 (crcF s : Nat)) ∧ Below w.heap.size w w' := by
  have X : Hid (Calls _ _ _ _ _) := CrcOn 0 s w hs (by omega)
  go_enter Tryz.func104, Tryz.ntmps104
  go_wp2_with fail
  refine X.out.mono ?_
  rintro e w' ⟨rfl, hb⟩
  go_wp2
  go_ret
  exact ⟨rfl, hb⟩
end Go.Proofs.YtpcllegjnbeppaaGreat.tri

namespace Go.Proofs.YtpcllegjnbeppaaGreat.tpe
open Go.RowKit Go.PlainAid
open Go.Proofs.YtpcllegjnbeppaaGreat.na Go.Proofs.YtpcllegjnbeppaaGreat.nb Go.Proofs.YtpcllegjnbeppaaGreat.tpa
set_option linter.unusedVariables false

theorem sum_over (a b m : Int) (w : World) (ha : 0 ≤ a) (hm : 0 ≤ m) (hm' : m ≤ 9223372036854775807) (h : m - a < b) :
    Calls Tryz.prog 155 #[.int .i64 a, .int .i64 b, .int .i64 m] w fun e w' => e = .returned (.tuple #[.int .i64 0, .int .i64 11]) ∧ w' = w := by
  by_cases h1 : m < a
  · go_enter Tryz.func155, Tryz.ntmps155
    go_wp2
    go_ret2
    exact ⟨rfl, rfl⟩
  · go_enter Tryz.func155, Tryz.ntmps155
    go_wp2
    go_ret2
    exact ⟨rfl, rfl⟩

theorem sum_ok (a b m : Int) (w : World) (ha : 0 ≤ a) (hb : 0 ≤ b) (hm : a ≤ m) (hm' : m ≤ 9223372036854775807) (h : ¬ m - a < b) :
    Calls Tryz.prog 155 #[.int .i64 a, .int .i64 b, .int .i64 m] w fun e w' => e = .returned (.tuple #[.int .i64 (a + b), .int .i64 0]) ∧ w' = w := by
  have h1 : ¬ m < a := by omega
  go_enter Tryz.func155, Tryz.ntmps155
  go_wp2
  go_ret2
  exact ⟨rfl, rfl⟩

theorem be_range (b : ByteArray) (p n : Int) (w : World) (hb : b.size ≤ 9223372036854775807) (h : n < 1 ∨ 8 < n ∨ p < 0 ∨ (b.size : Int) - p < n) :
    Calls Tryz.prog 140 #[.string b, .int .i64 p, .int .i64 n] w fun e w' => e = .returned (.tuple #[.int .u64 0, .int .i64 10]) ∧ w' = w := by
  by_cases h1 : n < 1 ∨ 8 < n
  · have H1 : Hid _ := h1
    clear h1 h
    go_enter Tryz.func140, Tryz.ntmps140
    go_wp2_with (go_at_call 153; refine (len_no n _ H1.out).mono ?_; rintro e w' ⟨rfl, rfl⟩)
    go_ret2
    exact ⟨rfl, rfl⟩
  by_cases h2 : p < 0
  · have g1 : 1 ≤ n := by omega
    have g2 : n ≤ 8 := by omega
    clear h1 h
    go_enter Tryz.func140, Tryz.ntmps140
    go_wp2_with (go_at_call 153; refine (len_yes n _ g1 g2).mono ?_; rintro e w' ⟨rfl, rfl⟩)
    go_ret2
    exact ⟨rfl, rfl⟩
  have g1 : 1 ≤ n := by omega
  have g2 : n ≤ 8 := by omega
  have g3 : (b.size : Int) - p < n := by omega
  clear h1 h
  go_enter Tryz.func140, Tryz.ntmps140
  go_wp2_with (first | (go_at_call 153; refine (len_yes n _ g1 g2).mono ?_; rintro e w' ⟨rfl, rfl⟩) | (go_at_call 155; refine (sum_over p n _ _ (by omega) (by omega) (by omega) g3).mono ?_; rintro e w' ⟨rfl, rfl⟩))
  go_ret2
  exact ⟨rfl, rfl⟩

theorem ret2_u (x y z : Int) (h : x = y) : Ending.returned (.tuple #[.int .u64 x, .int .i64 z]) = .returned (.tuple #[.int .u64 y, .int .i64 z]) := by
  subst h; rfl

set_option maxHeartbeats 800000 in
theorem be_any (b : ByteArray) (p n : Nat) (w : World) (hb : b.size ≤ 9223372036854775807) (h1 : 1 ≤ n) (h2 : n ≤ 8) (hp : p + n ≤ b.size) :
    Calls Tryz.prog 140 #[.string b, .int .i64 p, .int .i64 n] w fun e w' => e = .returned (.tuple #[.int .u64 (beR b p n), .int .i64 0]) ∧ w' = w := by
  have hbt := get_bt b
  have hd0 : decide ((p : Int) < 0) = false := by simp
  go_enter Tryz.func140, Tryz.ntmps140
  go_wp2_with (first | (go_at_call 153; refine (len_yes n _ (by omega) (by omega)).mono ?_; rintro e w' ⟨rfl, rfl⟩) | (go_at_call 155; refine (sum_ok p n _ _ (by omega) (by omega) (by omega) (by omega) (by omega)).mono ?_; rintro e w' ⟨rfl, rfl⟩))
  go_loop [10, 30] (fun v i => ∃ (k : Nat), k ≤ n ∧ v = .int .u64 (beR b p k) ∧ i = .int .i64 k) (fun _ i => (n - intOf i).toNat)
  case atStart => exact ⟨0, by omega, rfl, rfl⟩
  case round =>
    obtain ⟨k, hk, rfl, rfl⟩ := hrel
    by_cases hlt : k < n
    · have hlt' : (k : Int) < n := by omega
      have hpk : p + k < b.size := by omega
      have hc0 := bt_nonneg b (p + k)
      have hc1 := bt_le b (p + k)
      have hv0 := beR_nonneg b p k
      have hv1 := beR_seven b p k (by omega)
      have HO : Hid _ := or_low (beR b p k) (bt b (p + k)) hv0 hv1 hc0 hc1
      go_wp2
      go_round
      case rel => exact ⟨k + 1, by omega, by rw [HO.out]; rfl, by go_num⟩
      case measure => simp [intOf]; omega
    · have hlt' : ¬ (k : Int) < n := by omega
      have e : k = n := by omega
      have HE : Hid _ := e
      clear e
      go_wp2
      go_ret2
      exact ⟨ret2_u _ _ _ (by rw [HE.out]), rfl⟩

end Go.Proofs.YtpcllegjnbeppaaGreat.tpe

namespace Go.Proofs.YtpcllegjnbeppaaGreat.tqb
open Go.RowKit Go.PlainAid
open Go.Proofs.YtpcllegjnbeppaaGreat.na Go.Proofs.YtpcllegjnbeppaaGreat.nb Go.Proofs.YtpcllegjnbeppaaGreat.tpa Go.Proofs.YtpcllegjnbeppaaGreat.tpd Go.Proofs.YtpcllegjnbeppaaGreat.tra Go.Proofs.YtpcllegjnbeppaaGreat.trb Go.Proofs.YtpcllegjnbeppaaGreat.tqa
set_option linter.unusedVariables false

theorem over {w w1 w2 : World} (h : Below w.heap.size w w1) (b : Below w1.heap.size w1 w2) : Below w.heap.size w w2 := h.trans (b.mono h.size)
theorem conv_one (W : World) (c : Int) :
    (convert 84 9 (.slice (some ⟨W.heap.size, 0, none⟩) 1 1)).run Tryz.prog (W.alloc (.cells #[.int .u8 c] 5)) = .ok (.string (str [c])) (W.alloc (.cells #[.int .u8 c] 5)) :=
  conv_row [c] W 1 rfl
theorem isKindC (k : Int) (w : World) : Calls Tryz.prog 66 #[.int .i64 k] w fun e w' => e = .returned (.bool (decide (1 ≤ k ∧ k ≤ 255))) ∧ w' = w := by
  by_cases h1 : 1 ≤ k
  · by_cases h2 : k ≤ 255
    · rw [decide_eq_true ⟨h1, h2⟩]
      go_enter Tryz.func66, Tryz.ntmps66
      go_wp2
      go_ret
      exact ⟨rfl, rfl⟩
    · rw [decide_eq_false (fun h => h2 h.2)]
      go_enter Tryz.func66, Tryz.ntmps66
      go_wp2
      go_ret
      exact ⟨rfl, rfl⟩
  · rw [decide_eq_false (fun h => h1 h.1)]
    go_enter Tryz.func66, Tryz.ntmps66
    go_wp2
    go_ret
    exact ⟨rfl, rfl⟩
theorem oneByteC (v : Int) (w : World) (h0 : 0 ≤ v) (h1 : v ≤ 255) : Calls Tryz.prog 102 #[.int .i64 v] w fun e w' => e = .returned (.string (str [v])) ∧ Below w.heap.size w w' := by
  have hcv := conv_one w v
  have hw : IntKind.u8.wrap v = v := by rw [IntKind.wrap_u8]; omega
  go_enter Tryz.func102, Tryz.ntmps102
  go_wp2
  go_ret
  exact ⟨rfl, (Below.refl _ _).alloc (Nat.le_refl _) _⟩
theorem put8 (v : Int) (w : World) (h0 : 0 ≤ v) (h1 : v ≤ 18446744073709551615) :
    Calls Tryz.prog 125 #[.int .u64 v, .int .i64 8] w fun e w' => e = .returned (.tuple #[.string (str (lowB v 8)), .int .i64 0]) ∧ Below w.heap.size w w' :=
  (put_any v 8 w (by omega) (by omega) (fit8 v h0 h1)).mono (by rintro e w' ⟨rfl, rfl⟩; exact ⟨rfl, (Below.refl _ _).alloc (Nat.le_refl _) _⟩)
theorem put4 (v : Int) (w : World) (h0 : 0 ≤ v) (h1 : v < 4294967296) :
    Calls Tryz.prog 125 #[.int .u64 v, .int .i64 4] w fun e w' => e = .returned (.tuple #[.string (str (lowB v 4)), .int .i64 0]) ∧ Below w.heap.size w w' :=
  (put_any v 4 w (by omega) (by omega) (fit4 v h0 h1)).mono (by rintro e w' ⟨rfl, rfl⟩; exact ⟨rfl, (Below.refl _ _).alloc (Nat.le_refl _) _⟩)
theorem big8C (v : Int) (w : World) (h0 : 0 ≤ v) (h1 : v ≤ 9223372036854775807) : Calls Tryz.prog 101 #[.int .i64 v] w fun e w' => e = .returned (.string (str (lowB v 8))) ∧ Below w.heap.size w w' := by
  have hw : IntKind.u64.wrap v = v := u64_nonneg h0 (by omega)
  go_enter Tryz.func101, Tryz.ntmps101
  go_wp2_with fail
  refine (put8 v w h0 (by omega)).mono ?_
  rintro e w1 ⟨rfl, hb⟩
  go_wp2
  go_ret
  exact ⟨rfl, hb⟩
theorem big4C (v : Int) (w : World) (h0 : 0 ≤ v) (h1 : v < 4294967296) : Calls Tryz.prog 103 #[.int .u32 v] w fun e w' => e = .returned (.string (str (lowB v 4))) ∧ Below w.heap.size w w' := by
  have hw : IntKind.u64.wrap v = v := u64_nonneg h0 (by omega)
  go_enter Tryz.func103, Tryz.ntmps103
  go_wp2_with fail
  refine (put4 v w h0 (by omega)).mono ?_
  rintro e w1 ⟨rfl, hb⟩
  go_wp2
  go_ret
  exact ⟨rfl, hb⟩
theorem letterB : (⟨#[66]⟩ : ByteArray) = str [66] := rfl
def spaceT (s : Int) : ByteArray := str (66 :: lowB s 8)
theorem spaceT_size (s : Int) : (spaceT s).size = 9 := by rw [spaceT, str_size]; simp [lowB_length]
theorem spaceC (v : Int) (w : World) (h0 : 0 ≤ v) (h1 : v ≤ 9223372036854775807) : Calls Tryz.prog 72 #[.int .i64 v] w fun e w' => e = .returned (.string (spaceT v)) ∧ Below w.heap.size w w' := by
  have C : Hid (Calls _ _ _ _ _) := big8C v w h0 h1
  have HE : Hid (spaceT v = ⟨#[66]⟩ ++ str (lowB v 8)) := by show _ = _; rw [letterB, str_app]; rfl
  have hz : (str (lowB v 8)).size = 8 := by rw [str_size, lowB_length]
  rw [HE.out]
  generalize str (lowB v 8) = t at *
  go_enter Tryz.func72, Tryz.ntmps72
  go_wp2_with fail
  refine C.out.mono ?_
  rintro e w1 ⟨rfl, hb⟩
  go_wp2
  go_ret
  exact ⟨rfl, hb⟩
def kindT (s k : Int) : ByteArray := str (66 :: (lowB s 8 ++ [k]))
theorem kindT_size (s k : Int) : (kindT s k).size = 10 := by rw [kindT, str_size]; simp [lowB_length]
theorem kindKeysC (s k : Int) (w : World) (h0 : 0 ≤ s) (h1 : s ≤ 9223372036854775807) (k0 : 0 ≤ k) (k1 : k ≤ 255) : Calls Tryz.prog 68 #[.int .i64 s, .int .i64 k] w fun e w' => e = .returned (.string (kindT s k)) ∧ Below w.heap.size w w' := by
  have C : Hid (Calls _ _ _ _ _) := spaceC s w h0 h1
  have C2 : Hid (∀ w, Calls _ _ _ _ _) := fun w => oneByteC k w k0 k1
  have HE : Hid (kindT s k = spaceT s ++ str [k]) := by show _ = _; rw [spaceT, str_app]; rfl
  have hz := spaceT_size s
  have hz2 : (str [k]).size = 1 := str_size [k]
  rw [HE.out]
  generalize spaceT s = t at *
  generalize str [k] = t2 at *
  go_enter Tryz.func68, Tryz.ntmps68
  go_wp2_with fail
  refine C.out.mono ?_
  rintro e w1 ⟨rfl, hb⟩
  go_wp2_with fail
  refine (C2.out w1).mono ?_
  rintro e w2 ⟨rfl, hb2⟩
  go_wp2
  go_ret
  exact ⟨rfl, over hb hb2⟩
def keyOk (s k n : Int) : Bool := decide (0 ≤ s ∧ 1 ≤ k ∧ k ≤ 255 ∧ 0 ≤ n)
theorem key_is (s k n : Int) : keyT s k n = kindT s k ++ str (lowB n 8) := by
  rw [kindT, str_app, keyT]; simp
theorem keyC (s k n : Int) (w : World) (h0 : 0 ≤ s) (h1 : s ≤ 9223372036854775807) (k0 : 1 ≤ k) (k1 : k ≤ 255) (n0 : 0 ≤ n) (n1 : n ≤ 9223372036854775807) :
    Calls Tryz.prog 58 #[.int .i64 s, .int .i64 k, .int .i64 n] w fun e w' => e = .returned (.tuple #[.string (keyT s k n), .int .i64 0]) ∧ Below w.heap.size w w' := by
  have C : Hid (∀ w, Calls _ _ _ _ _) := fun w => kindKeysC s k w h0 h1 (by omega) k1
  have C2 : Hid (∀ w, Calls _ _ _ _ _) := fun w => big8C n w n0 n1
  have C3 : Hid (∀ w, Calls _ _ _ _ _) := fun w => isKindC k w
  rw [decide_eq_true ⟨k0, k1⟩] at C3
  have HE : Hid _ := key_is s k n
  have hz := kindT_size s k
  have hz2 : (str (lowB n 8)).size = 8 := by rw [str_size, lowB_length]
  rw [HE.out]
  generalize kindT s k = t at *
  generalize str (lowB n 8) = t2 at *
  clear HE
  go_enter Tryz.func58, Tryz.ntmps58
  go_wp2_with fail
  refine (C3.out _).mono ?_
  rintro e w0 ⟨rfl, hw⟩
  rw [hw]; clear hw
  go_wp2_with fail
  refine (C.out _).mono ?_
  rintro e w1 ⟨rfl, hb⟩
  go_wp2_with fail
  refine (C2.out w1).mono ?_
  rintro e w2 ⟨rfl, hb2⟩
  go_wp2
  go_ret2
  exact ⟨rfl, over hb hb2⟩
theorem keyNo (s k n : Int) (w : World) (h : ¬ (0 ≤ s ∧ 1 ≤ k ∧ k ≤ 255 ∧ 0 ≤ n)) :
    Calls Tryz.prog 58 #[.int .i64 s, .int .i64 k, .int .i64 n] w fun e w' => e = .returned (.tuple #[.string ByteArray.empty, .int .i64 10]) ∧ w' = w := by
  have C3 : Hid (∀ w, Calls _ _ _ _ _) := fun w => isKindC k w
  by_cases h1 : s < 0
  · clear h
    go_enter Tryz.func58, Tryz.ntmps58
    go_wp2
    go_ret2
    exact ⟨rfl, rfl⟩
  by_cases h2 : 1 ≤ k ∧ k ≤ 255
  · rw [decide_eq_true h2] at C3
    have h3 : n < 0 := by omega
    clear h h2
    go_enter Tryz.func58, Tryz.ntmps58
    go_wp2_with fail
    refine (C3.out _).mono ?_
    rintro e w0 ⟨rfl, hw⟩
    rw [hw]; clear hw
    go_wp2
    go_ret2
    exact ⟨rfl, rfl⟩
  · rw [decide_eq_false h2] at C3
    clear h h2
    go_enter Tryz.func58, Tryz.ntmps58
    go_wp2_with fail
    refine (C3.out _).mono ?_
    rintro e w0 ⟨rfl, hw⟩
    rw [hw]; clear hw
    go_wp2
    go_ret2
    exact ⟨rfl, rfl⟩
end Go.Proofs.YtpcllegjnbeppaaGreat.tqb

namespace Go.Proofs.YtpcllegjnbeppaaGreat.tpb
open Go.RowKit Go.PlainAid
open Go.Proofs.YtpcllegjnbeppaaGreat.na Go.Proofs.YtpcllegjnbeppaaGreat.nb Go.Proofs.YtpcllegjnbeppaaGreat.tpa
set_option linter.unusedVariables false

theorem str_app (xs ys : List Int) : str xs ++ str ys = str (xs ++ ys) := by
  apply ByteArray.ext
  rw [ByteArray.data_append, str_data, str_data, str_data]
  simp

theorem conv_one (W : World) (c : Int) :
    (convert 84 9 (.slice (some ⟨W.heap.size, 0, none⟩) 1 1)).run Tryz.prog (W.alloc (.cells #[.int .u8 c] 5)) = .ok (.string (str [c])) (W.alloc (.cells #[.int .u8 c] 5)) :=
  conv_row [c] W 1 rfl

theorem quo256 (v : Int) (k : Nat) : v / 256 ^ k / 256 = v / 256 ^ (k + 1) := by
  have hc : (0 : Int) ≤ 256 ^ k := Int.pow_nonneg (by omega)
  rw [Int.pow_succ, Int.ediv_ediv_of_nonneg hc]

theorem quo128 (v : Int) (k : Nat) : v / 128 ^ k / 128 = v / 128 ^ (k + 1) := by
  have hc : (0 : Int) ≤ 128 ^ k := Int.pow_nonneg (by omega)
  rw [Int.pow_succ, Int.ediv_ediv_of_nonneg hc]

theorem rput_range (v n : Int) (w : World) (h : n < 1 ∨ 8 < n) :
    Calls Tryz.prog 113 #[.int .u64 v, .int .i64 n] w fun e w' => e = .returned (.tuple #[.string ByteArray.empty, .int .i64 10]) ∧ w' = w := by
  by_cases h1 : n < 1
  · clear h
    go_enter Tryz.func113, Tryz.ntmps113
    go_wp2
    go_ret2
    exact ⟨rfl, rfl⟩
  · have h2 : 8 < n := by omega
    clear h
    go_enter Tryz.func113, Tryz.ntmps113
    go_wp2
    go_ret2
    exact ⟨rfl, rfl⟩

theorem ret_si (s t : ByteArray) (c : Int) (h : s = t) : Ending.returned (.tuple #[.string s, .int .i64 c]) = .returned (.tuple #[.string t, .int .i64 c]) := by rw [h]

set_option maxHeartbeats 800000 in
theorem rput_any (v : Int) (n : Nat) (w : World) (v0 : 0 ≤ v) (v1 : v ≤ 18446744073709551615) (h1 : 1 ≤ n) (h2 : n ≤ 8) (s : ByteArray) (c : Int)
    (HC : Hid ((v / 256 ^ n = 0 ∧ s = str (lowB v n) ∧ c = 0) ∨ (v / 256 ^ n ≠ 0 ∧ s = ByteArray.empty ∧ c = 11))) :
    Calls Tryz.prog 113 #[.int .u64 v, .int .i64 n] w fun e w' => e = .returned (.tuple #[.string s, .int .i64 c]) ∧ Below w.heap.size w w' := by
  have d1 : decide ((n : Int) < 1) = false := by simp; omega
  have d2 : decide (8 < (n : Int)) = false := by simp; omega
  have hcv := conv_one
  have hst : ∀ c : Int, (str [c]).size = 1 := fun c => str_size [c]
  go_enter Tryz.func113, Tryz.ntmps113
  go_wp2
  go_loopw [0, 6, 7] (fun x t i wr => ∃ k : Nat, k ≤ n ∧ x = .int .u64 (v / 256 ^ k) ∧ t = .string (str (lowB v k)) ∧ i = .int .i64 k ∧ Below w.heap.size w wr) (fun _ _ i _ => (n - intOf i).toNat)
  case atStart => exact ⟨0, by omega, by simp, rfl, rfl, Below.refl _ _⟩
  case round =>
    obtain ⟨k, hk, rfl, rfl, rfl, hg⟩ := hrel
    have G : Hid (Below w.heap.size w wr) := hg
    clear hg
    have hlen : (str (lowB v k)).size = k := by rw [str_size, lowB_length]
    have q0 : 0 ≤ v / 256 ^ k := Int.ediv_nonneg v0 (Int.pow_nonneg (by omega))
    have q1 : v / 256 ^ k ≤ 18446744073709551615 := Int.le_trans (Int.ediv_le_self _ v0) v1
    by_cases hlt : k < n
    · have hlt' : (k : Int) < n := by omega
      go_wp2
      go_roundw
      case rel => exact ⟨k + 1, by omega, by rw [quo256], by rw [str_app]; rfl, by go_num, G.out.alloc G.out.size _⟩
      case measure => simp [intOf]; omega
    · have hlt' : ¬ (k : Int) < n := by omega
      have e : k = n := by omega
      subst e
      rcases HC.out with ⟨hz, hs, hc⟩ | ⟨hz, hs, hc⟩
      · have hz' : (v / 256 ^ k != 0) = false := by simp [hz]
        subst hs hc
        clear hz
        go_wp2
        go_ret2
        exact ⟨rfl, G.out⟩
      · have hz' : (v / 256 ^ k != 0) = true := by rw [bne_iff_ne]; exact hz
        subst hs hc
        clear hz
        go_wp2
        go_ret2
        exact ⟨rfl, G.out⟩

end Go.Proofs.YtpcllegjnbeppaaGreat.tpb

namespace Go.Proofs.YtpcllegjnbeppaaGreat.tpf
open Go.RowKit Go.PlainAid
open Go.Proofs.YtpcllegjnbeppaaGreat.na Go.Proofs.YtpcllegjnbeppaaGreat.nb Go.Proofs.YtpcllegjnbeppaaGreat.tpa Go.Proofs.YtpcllegjnbeppaaGreat.tpe
set_option linter.unusedVariables false

theorem rbe_range (b : ByteArray) (p n : Int) (w : World) (hb : b.size ≤ 9223372036854775807) (h : n < 1 ∨ 8 < n ∨ p < 0 ∨ (b.size : Int) - p < n) :
    Calls Tryz.prog 108 #[.string b, .int .i64 p, .int .i64 n] w fun e w' => e = .returned (.tuple #[.int .u64 0, .int .i64 10]) ∧ w' = w := by
  by_cases h1 : n < 1
  · clear h
    go_enter Tryz.func108, Tryz.ntmps108
    go_wp2
    go_ret2
    exact ⟨rfl, rfl⟩
  by_cases h2 : 8 < n
  · clear h
    go_enter Tryz.func108, Tryz.ntmps108
    go_wp2
    go_ret2
    exact ⟨rfl, rfl⟩
  by_cases h3 : p < 0
  · clear h
    go_enter Tryz.func108, Tryz.ntmps108
    go_wp2
    go_ret2
    exact ⟨rfl, rfl⟩
  by_cases h4 : (b.size : Int) < n
  · clear h
    go_enter Tryz.func108, Tryz.ntmps108
    go_wp2
    go_ret2
    exact ⟨rfl, rfl⟩
  have h5 : (b.size : Int) - n < p := by omega
  clear h
  go_enter Tryz.func108, Tryz.ntmps108
  go_wp2
  go_ret2
  exact ⟨rfl, rfl⟩

set_option maxHeartbeats 800000 in
theorem rbe_any (b : ByteArray) (p n : Nat) (w : World) (hb : b.size ≤ 9223372036854775807) (h1 : 1 ≤ n) (h2 : n ≤ 8) (hp : p + n ≤ b.size) :
    Calls Tryz.prog 108 #[.string b, .int .i64 p, .int .i64 n] w fun e w' => e = .returned (.tuple #[.int .u64 (beR b p n), .int .i64 0]) ∧ w' = w := by
  have hbt := get_bt b
  have d1 : decide ((n : Int) < 1) = false := by simp; omega
  have d2 : decide (8 < (n : Int)) = false := by simp; omega
  have d3 : decide ((p : Int) < 0) = false := by simp
  have d4 : decide (b.size < n) = false := by simp; omega
  have d5 : decide ((b.size : Int) - n < p) = false := by simp; omega
  go_enter Tryz.func108, Tryz.ntmps108
  go_wp2
  go_loop [8, 9] (fun v i => ∃ (k : Nat), k ≤ n ∧ v = .int .u64 (beR b p k) ∧ i = .int .i64 k) (fun _ i => (n - intOf i).toNat)
  case atStart => exact ⟨0, by omega, rfl, rfl⟩
  case round =>
    obtain ⟨k, hk, rfl, rfl⟩ := hrel
    by_cases hlt : k < n
    · have hlt' : (k : Int) < n := by omega
      have hpk : p + k < b.size := by omega
      have hc0 := bt_nonneg b (p + k)
      have hc1 := bt_le b (p + k)
      have hv0 := beR_nonneg b p k
      have hv1 := beR_seven b p k (by omega)
      go_wp2
      go_round
      case rel => exact ⟨k + 1, by omega, rfl, by go_num⟩
      case measure => simp [intOf]; omega
    · have hlt' : ¬ (k : Int) < n := by omega
      have e : k = n := by omega
      have HE : Hid _ := e
      clear e
      go_wp2
      go_ret2
      exact ⟨ret2_u _ _ _ (by rw [HE.out]), rfl⟩

end Go.Proofs.YtpcllegjnbeppaaGreat.tpf

namespace Go.Proofs.YtpcllegjnbeppaaGreat.trq
open Go.RowKit Go.PlainAid
open Go.Proofs.YtpcllegjnbeppaaGreat.tra Go.Proofs.YtpcllegjnbeppaaGreat.trb
set_option linter.unusedVariables false

set_option maxHeartbeats 800000 in
theorem rcrcOn (crc : Nat) (s : ByteArray) (w : World) (hs : s.size ≤ 281474976710656) (hc : crc < 4294967296) :
    Calls Tryz.prog 141 #[.int .u32 crc, .string s] w fun e w' => e = .returned (.int .u32 (onF crc (nl s s.size) : Nat)) ∧ w' = w := by
  have HF : Hid _ := xor_ff crc hc
  go_enter Tryz.func141, Tryz.ntmps141
  go_wp2
  rw [HF.out]
  go_loop [5, 6] (fun r i => ∃ k R : Nat, k ≤ s.size ∧ i = .int .i64 k ∧ r = .int .u32 R ∧ R < 4294967296 ∧ Hid (R = crcR (crc ^^^ FF) (nl s k))) (fun _ i => (s.size - intOf i).toNat)
  case atStart => exact ⟨0, crc ^^^ FF, by omega, rfl, rfl, xor_ff_lt crc hc, rfl⟩
  case round =>
    obtain ⟨k, R, hk, rfl, rfl, hR, HR⟩ := hrel
    by_cases hlt : k < s.size
    · have hlt' : (k : Int) < s.size := by omega
      have hbt := get_bt s
      have b0 := bt_nonneg s k
      have b1 := bt_le s k
      have HXC : Hid _ := u32_xor_nat R (nt s k) hR (by have := nt_lt s k; omega)
      have HN : Hid _ := nt_bt s k
      have HRX : Hid (R ^^^ nt s k < 4294967296) := Nat.xor_lt_two_pow (n := 32) hR (by have := nt_lt s k; omega)
      go_wp2
      rw [HN.out, HXC.out]
      go_loop [5, 7] (fun r j => ∃ t X : Nat, t ≤ 8 ∧ j = .int .i64 t ∧ r = .int .u32 X ∧ X < 4294967296 ∧ Hid (X = sts t (R ^^^ nt s k))) (fun _ j => (8 - intOf j).toNat)
      case atStart => exact ⟨0, R ^^^ nt s k, by omega, rfl, rfl, HRX.out, rfl⟩
      case round =>
        obtain ⟨t, X, ht, rfl, rfl, hX, HT⟩ := hrel
        by_cases hl8 : t < 8
        · have hl8' : (t : Int) < 8 := by omega
          have HA : Hid _ := and_one X hX
          have HP : Hid _ := xor_po (X / 2) (by omega)
          rcases Nat.mod_two_eq_zero_or_one X with hm | hm
          · have HS : Hid (X / 2 = st X) := st0 X hm
            rw [hm] at HA
            have h01 : (bits .and .u32 (X : Int) 1 == 1) = false := by rw [HA.out]; rfl
            go_wp2
            go_round
            case rel => exact ⟨t + 1, X / 2, by omega, by go_num, by go_num, by omega, by rw [sts_succ, ← HT.out]; exact HS.out⟩
            case measure => simp [intOf]; omega
          · have HS : Hid ((X / 2) ^^^ PO = st X) := st1 X hm
            rw [hm] at HA
            have h01 : (bits .and .u32 (X : Int) 1 == 1) = true := by rw [HA.out]; rfl
            go_wp2
            go_round
            case rel => exact ⟨t + 1, (X / 2) ^^^ PO, by omega, by go_num, by rw [← HP.out]; go_num, by rw [HS.out]; exact st_lt X hX, by rw [sts_succ, ← HT.out]; exact HS.out⟩
            case measure => simp [intOf]; omega
        · have hl8' : ¬ (t : Int) < 8 := by omega
          obtain rfl : t = 8 := by omega
          go_wp2
          go_round
          case rel => exact ⟨k + 1, X, by omega, by go_num, rfl, hX, by rw [nl_succ, crcR_snoc, ← HR.out]; exact HT.out⟩
          case measure => simp [intOf]; omega
    · have hlt' : ¬ (k : Int) < s.size := by omega
      obtain rfl : k = s.size := by omega
      have HX : Hid _ := xor_ff R hR
      go_wp2
      rw [HX.out]
      go_ret
      exact ⟨by rw [HR.out]; rfl, rfl⟩

theorem rcrc (s : ByteArray) (w : World) (hs : s.size ≤ 281474976710656) :
    Calls Tryz.prog 116 #[.string s] w fun e w' => e = .returned (.int .u32 (onF 0 (nl s s.size) : Nat)) ∧ w' = w := by
  have X : Hid (Calls _ _ _ _ _) := rcrcOn 0 s w hs (by omega)
  go_enter Tryz.func116, Tryz.ntmps116
  go_wp2_with fail
  refine X.out.mono ?_
  rintro e w' ⟨rfl, rfl⟩
  go_wp2
  go_ret
  exact ⟨rfl, rfl⟩
end Go.Proofs.YtpcllegjnbeppaaGreat.trq
