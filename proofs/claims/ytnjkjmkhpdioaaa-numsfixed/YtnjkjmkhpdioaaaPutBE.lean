import Derived.Test.YtnjkjmkhpdioaaaReadR
import Derived.Test.YtnjkjmkhpdioaaaRowB
namespace Go.Proofs.Ytnjkjmkhpdioaaa.putbe
open Go.RowKit Go.PlainAid
open Go.Proofs.Ytnjkjmkhpdioaaa.plain Go.Proofs.Ytnjkjmkhpdioaaa.rowb Go.Proofs.Ytnjkjmkhpdioaaa.readr
set_option linter.unusedVariables false

def lowB (v : Int) : Nat → List Int
  | 0 => []
  | k + 1 => (v / 256 ^ k % 256) :: lowB v k

theorem lowB_length (v : Int) (k : Nat) : (lowB v k).length = k := by
  induction k with
  | zero => rfl
  | succ k ih => simp [lowB, ih]

def beL (v : Int) (n k : Nat) : List Int := List.replicate (n - k) 0 ++ lowB v k

theorem beL_zero (v : Int) (n : Nat) : beL v n 0 = List.replicate n 0 := by simp [beL, lowB]
theorem beL_full (v : Int) (n : Nat) : beL v n n = lowB v n := by simp [beL]
theorem beL_length (v : Int) (n k : Nat) (h : k ≤ n) : (beL v n k).length = n := by simp [beL, lowB_length]; omega

theorem beL_set (v : Int) (n k : Nat) (h : k < n) : (beL v n k).set (n - 1 - k) (v / 256 ^ k % 256) = beL v n (k + 1) := by
  obtain ⟨m, rfl⟩ : ∃ m, n = k + 1 + m := ⟨n - (k + 1), by omega⟩
  have e1 : k + 1 + m - 1 - k = m := by omega
  have e2 : k + 1 + m - k = m + 1 := by omega
  have e3 : k + 1 + m - (k + 1) = m := by omega
  rw [beL, beL, e1, e2, e3, List.replicate_succ', List.append_assoc, List.set_append_right _ _ (by simp)]
  simp [lowB]

theorem pow256 (k : Nat) : (2 : Int) ^ (8 * k) = 256 ^ k := by rw [Int.pow_mul]; rfl

theorem put_range (v n : Int) (w : World) (h : n < 1 ∨ 8 < n) :
    Calls Try.prog 15 #[.int .u64 v, .int .i64 n] w fun e w' => e = .returned (.tuple #[.string ByteArray.empty, .int .i64 10]) ∧ w' = w := by
  have H : Hid _ := h
  clear h
  go_enter Try.func15, Try.ntmps15
  go_wp2_with (go_at_call 22; refine (len_no n _ H.out).mono ?_; rintro e w' ⟨rfl, rfl⟩)
  go_ret2
  exact ⟨rfl, rfl⟩

theorem put_over (v : Int) (n : Nat) (w : World) (h1 : 1 ≤ n) (h2 : n ≤ 8) (h : v / 256 ^ n ≠ 0) :
    Calls Try.prog 15 #[.int .u64 v, .int .i64 n] w fun e w' => e = .returned (.tuple #[.string ByteArray.empty, .int .i64 11]) ∧ w' = w := by
  have h' : (v / 2 ^ (8 * n) != 0) = true := by rw [bne_iff_ne, pow256]; exact h
  clear h
  go_enter Try.func15, Try.ntmps15
  go_wp2_with (go_at_call 22; refine (len_yes n _ (by omega) (by omega)).mono ?_; rintro e w' ⟨rfl, rfl⟩)
  go_ret2
  exact ⟨rfl, rfl⟩

set_option maxHeartbeats 800000 in
theorem put_any (v : Int) (n : Nat) (w : World) (h1 : 1 ≤ n) (h2 : n ≤ 8) (h : v / 256 ^ n = 0) :
    Calls Try.prog 15 #[.int .u64 v, .int .i64 n] w fun e w' => e = .returned (.tuple #[.string (str (lowB v n)), .int .i64 0]) ∧ w' = w.alloc (.cells (row (lowB v n)) 5) := by
  have h' : (v / 2 ^ (8 * n) != 0) = false := by rw [pow256]; simp [h]
  have hmk := make_row n (by omega)
  clear h
  go_enter Try.func15, Try.ntmps15
  go_wp2_with (go_at_call 22; refine (len_yes n _ (by omega) (by omega)).mono ?_; rintro e w' ⟨rfl, rfl⟩)
  go_loopw [19] (fun i wr => ∃ k : Nat, k ≤ n ∧ i = .int .i64 k ∧ wr = w'.alloc (.cells (row (beL v n k)) 5)) (fun i _ => (n - intOf i).toNat)
  case atStart => exact ⟨0, by omega, rfl, by rw [beL_zero]⟩
  case round =>
    obtain ⟨k, hk, rfl, rfl⟩ := hrel
    have HL : Hid _ := beL_length v n k hk
    by_cases hlt : k < n
    · have hlt' : (k : Int) < n := by omega
      have hix : ((n : Int) - 1 - k).toNat = n - 1 - k := by omega
      have hsz : n - 1 - k < (row (beL v n k)).size := by rw [row_size, HL.out]; omega
      go_wp2
      go_roundw
      case rel => exact ⟨k + 1, by omega, by go_num, by rw [pow256, row_set, beL_set v n k hlt]⟩
      case measure => simp [intOf]; omega
    · have hlt' : ¬ (k : Int) < n := by omega
      have e : k = n := by omega
      subst e
      rw [beL_full]
      have hcv := conv_row (lowB v k) w' k (lowB_length v k).symm
      go_wp2
      go_ret2
      exact ⟨rfl, rfl⟩

theorem size_any (n : Int) (h0 : -9223372036854775808 ≤ n) (h1 : n ≤ 9223372036854775807) : ∃ k : Nat, 1 ≤ k ∧ k ≤ 8 ∧
    ∀ w, Calls Try.prog 14 #[.int .i64 n] w fun e w' => e = .returned (.int .i64 k) ∧ w' = w := by
  have b1 : -8 < n.tmod 8 := by rw [Int.tmod_eq_emod, show Int.natAbs 8 = 8 from rfl]; split <;> omega
  have b2 : n.tmod 8 < 8 := by rw [Int.tmod_eq_emod, show Int.natAbs 8 = 8 from rfl]; split <;> omega
  by_cases h : n.tmod 8 < 0
  · refine ⟨(n.tmod 8 + 8 + 1).toNat, by omega, by omega, fun w => ?_⟩
    have e : ((n.tmod 8 + 8 + 1).toNat : Int) = n.tmod 8 + 8 + 1 := by omega
    rw [e]
    clear e
    go_enter Try.func14, Try.ntmps14
    go_wp2
    go_ret
    exact ⟨rfl, rfl⟩
  · refine ⟨(n.tmod 8 + 1).toNat, by omega, by omega, fun w => ?_⟩
    have e : ((n.tmod 8 + 1).toNat : Int) = n.tmod 8 + 1 := by omega
    rw [e]
    clear e
    go_enter Try.func14, Try.ntmps14
    go_wp2
    go_ret
    exact ⟨rfl, rfl⟩

theorem lowB_get (v : Int) (n i : Nat) (h : i < n) : (lowB v n)[i]'(by rw [lowB_length]; exact h) = v / 256 ^ (n - 1 - i) % 256 := by
  induction n generalizing i with
  | zero => omega
  | succ n ih =>
    cases i with
    | zero => simp [lowB]
    | succ i =>
      have e : n + 1 - 1 - (i + 1) = n - 1 - i := by omega
      rw [e]
      exact ih i (by omega)

theorem lowB_byte (v : Int) (n i : Nat) (h : i < n) : 0 ≤ (lowB v n)[i]'(by rw [lowB_length]; exact h) ∧ (lowB v n)[i]'(by rw [lowB_length]; exact h) ≤ 255 := by
  rw [lowB_get v n i h]; omega

theorem str_lowB (v : Int) (n i : Nat) (h : i < n) : bt (str (lowB v n)) i = v / 256 ^ (n - 1 - i) % 256 := by
  have h' : i < (lowB v n).length := by rw [lowB_length]; exact h
  have hb := lowB_byte v n i h
  rw [str_bt _ _ h' hb.1 hb.2, lowB_get v n i h]

theorem beR_div (b : ByteArray) (p k m : Nat) : beR b p (k + m) / 256 ^ m = beR b p k := by
  induction m with
  | zero => simp
  | succ m ih =>
    have c0 := bt_nonneg b (p + (k + m))
    have c1 := bt_le b (p + (k + m))
    have e : beR b p (k + (m + 1)) = beR b p (k + m) * 256 + bt b (p + (k + m)) := rfl
    have e2 : (256 : Int) ^ (m + 1) = 256 * 256 ^ m := by rw [Int.pow_succ, Int.mul_comm]
    rw [e, e2, ← Int.ediv_ediv_of_nonneg (by omega)]
    have e3 : (beR b p (k + m) * 256 + bt b (p + (k + m))) / 256 = beR b p (k + m) := by omega
    rw [e3, ih]

theorem put_read (b : ByteArray) (p n : Nat) (h : p + n ≤ b.size) : str (lowB (beR b p n) n) = b.extract p (p + n) := by
  have hs : (b.extract p (p + n)).size = min (p + n) b.size - p := ByteArray.size_extract
  refine ext_bt _ _ ?_ ?_
  · rw [str_size, lowB_length, hs]; omega
  · intro k hk
    rw [str_size, lowB_length] at hk
    rw [str_lowB _ n k hk, bt_extract b p (p + n) k (by omega) h]
    have e := beR_div b p (k + 1) (n - 1 - k)
    rw [show k + 1 + (n - 1 - k) = n by omega] at e
    rw [e]
    have c0 := bt_nonneg b (p + k)
    have c1 := bt_le b (p + k)
    show (beR b p k * 256 + bt b (p + k)) % 256 = _
    omega

theorem read_fits (b : ByteArray) (p n : Nat) : beR b p n / 256 ^ n = 0 := by
  have h := beR_div b p 0 n
  rw [Nat.zero_add] at h
  exact h
end Go.Proofs.Ytnjkjmkhpdioaaa.putbe
