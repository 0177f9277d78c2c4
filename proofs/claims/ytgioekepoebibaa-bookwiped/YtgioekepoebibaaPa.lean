import Derived.Below
import Derived.ProofKit
import Derived.Test.YtgioekepoebibaaNb
namespace Go.Proofs.Ytgioekepoebibaa.pa
open Go.RowKit Go.PlainAid
open Go.Proofs.Ytgioekepoebibaa.na Go.Proofs.Ytgioekepoebibaa.nb
set_option linter.unusedVariables false

theorem len_yes (n : Int) (w : World) (h1 : 1 ≤ n) (h2 : n ≤ 8) :
    Calls Try.prog 82 #[.int .i64 n] w fun e w' => e = .returned (.bool true) ∧ w' = w := by
  go_enter Try.func82, Try.ntmps82
  go_wp2
  go_ret
  exact ⟨rfl, rfl⟩

theorem len_no (n : Int) (w : World) (h : n < 1 ∨ 8 < n) :
    Calls Try.prog 82 #[.int .i64 n] w fun e w' => e = .returned (.bool false) ∧ w' = w := by
  by_cases h1 : 1 ≤ n
  · have h2 : ¬ n ≤ 8 := by omega
    go_enter Try.func82, Try.ntmps82
    go_wp2
    go_ret
    exact ⟨rfl, rfl⟩
  · go_enter Try.func82, Try.ntmps82
    go_wp2
    go_ret
    exact ⟨rfl, rfl⟩

def lowB (v : Int) : Nat → List Int
  | 0 => []
  | k + 1 => (v / 256 ^ k % 256) :: lowB v k

theorem lowB_length (v : Int) (k : Nat) : (lowB v k).length = k := by
  induction k with
  | zero => rfl
  | succ k ih => simp [lowB, ih]

def beL (v : Int) (n k : Nat) : List Int := List.replicate (n - k) 0 ++ lowB v k

theorem beL_zero (v : Int) (n : Nat) : beL v n 0 = List.replicate n 0 := by simp [beL, lowB]
theorem beL_full (v : Int) (n : Nat) : beL v n n = lowB v n := by simp [beL]
theorem beL_length (v : Int) (n k : Nat) (h : k ≤ n) : (beL v n k).length = n := by simp [beL, lowB_length]; omega

theorem beL_set (v : Int) (n k : Nat) (h : k < n) : (beL v n k).set (n - 1 - k) (v / 256 ^ k % 256) = beL v n (k + 1) := by
  obtain ⟨m, rfl⟩ : ∃ m, n = k + 1 + m := ⟨n - (k + 1), by omega⟩
  have e1 : k + 1 + m - 1 - k = m := by omega
  have e2 : k + 1 + m - k = m + 1 := by omega
  have e3 : k + 1 + m - (k + 1) = m := by omega
  rw [beL, beL, e1, e2, e3, List.replicate_succ', List.append_assoc, List.set_append_right _ _ (by simp)]
  simp [lowB]

theorem pow256 (k : Nat) : (2 : Int) ^ (8 * k) = 256 ^ k := by rw [Int.pow_mul]; rfl

theorem put_range (v n : Int) (w : World) (h : n < 1 ∨ 8 < n) :
    Calls Try.prog 53 #[.int .u64 v, .int .i64 n] w fun e w' => e = .returned (.tuple #[.string ByteArray.empty, .int .i64 10]) ∧ w' = w := by
  have H : Hid _ := h
  clear h
  go_enter Try.func53, Try.ntmps53
  go_wp2_with (go_at_call 82; refine (len_no n _ H.out).mono ?_; rintro e w' ⟨rfl, rfl⟩)
  go_ret2
  exact ⟨rfl, rfl⟩

theorem put_over (v : Int) (n : Nat) (w : World) (h1 : 1 ≤ n) (h2 : n ≤ 8) (h : v / 256 ^ n ≠ 0) :
    Calls Try.prog 53 #[.int .u64 v, .int .i64 n] w fun e w' => e = .returned (.tuple #[.string ByteArray.empty, .int .i64 11]) ∧ w' = w := by
  have h' : (v / 2 ^ (8 * n) != 0) = true := by rw [bne_iff_ne, pow256]; exact h
  clear h
  go_enter Try.func53, Try.ntmps53
  go_wp2_with (go_at_call 82; refine (len_yes n _ (by omega) (by omega)).mono ?_; rintro e w' ⟨rfl, rfl⟩)
  go_ret2
  exact ⟨rfl, rfl⟩

set_option maxHeartbeats 800000 in
theorem put_any (v : Int) (n : Nat) (w : World) (h1 : 1 ≤ n) (h2 : n ≤ 8) (h : v / 256 ^ n = 0) :
    Calls Try.prog 53 #[.int .u64 v, .int .i64 n] w fun e w' => e = .returned (.tuple #[.string (str (lowB v n)), .int .i64 0]) ∧ w' = w.alloc (.cells (row (lowB v n)) 5) := by
  have h' : (v / 2 ^ (8 * n) != 0) = false := by rw [pow256]; simp [h]
  have hmk := make_row n (by omega)
  clear h
  go_enter Try.func53, Try.ntmps53
  go_wp2_with (go_at_call 82; refine (len_yes n _ (by omega) (by omega)).mono ?_; rintro e w' ⟨rfl, rfl⟩)
  go_loopw [19] (fun i wr => ∃ k : Nat, k ≤ n ∧ i = .int .i64 k ∧ wr = w'.alloc (.cells (row (beL v n k)) 5)) (fun i _ => (n - intOf i).toNat)
  case atStart => exact ⟨0, by omega, rfl, by rw [beL_zero]⟩
  case round =>
    obtain ⟨k, hk, rfl, rfl⟩ := hrel
    have HL : Hid _ := beL_length v n k hk
    by_cases hlt : k < n
    · have hlt' : (k : Int) < n := by omega
      have hix : ((n : Int) - 1 - k).toNat = n - 1 - k := by omega
      have hsz : n - 1 - k < (row (beL v n k)).size := by rw [row_size, HL.out]; omega
      go_wp2
      go_roundw
      case rel => exact ⟨k + 1, by omega, by go_num, by rw [pow256, row_set, beL_set v n k hlt]⟩
      case measure => simp [intOf]; omega
    · have hlt' : ¬ (k : Int) < n := by omega
      have e : k = n := by omega
      subst e
      rw [beL_full]
      have hcv := conv_row (lowB v k) w' k (lowB_length v k).symm
      go_wp2
      go_ret2
      exact ⟨rfl, rfl⟩

end Go.Proofs.Ytgioekepoebibaa.pa
