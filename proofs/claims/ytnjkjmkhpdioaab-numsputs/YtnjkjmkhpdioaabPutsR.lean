import Derived.Test.YtnjkjmkhpdioaabPutBE
import Derived.Test.YtnjkjmkhpdioaabPutVar
import Derived.RowKit3
import Derived.WalkLawsBesides
namespace Go.Proofs.Ytnjkjmkhpdioaab.putsr
open Go.RowKit Go.PlainAid
open Go.Proofs.Ytnjkjmkhpdioaab.plain Go.Proofs.Ytnjkjmkhpdioaab.rowb Go.Proofs.Ytnjkjmkhpdioaab.putbe Go.Proofs.Ytnjkjmkhpdioaab.varp
set_option linter.unusedVariables false

theorem str_app (xs ys : List Int) : str xs ++ str ys = str (xs ++ ys) := by
  apply ByteArray.ext
  rw [ByteArray.data_append, str_data, str_data, str_data]
  simp

theorem conv_one (W : World) (c : Int) :
    (convert 31 9 (.slice (some ⟨W.heap.size, 0, none⟩) 1 1)).run Try.prog (W.alloc (.cells #[.int .u8 c] 5)) = .ok (.string (str [c])) (W.alloc (.cells #[.int .u8 c] 5)) :=
  conv_row [c] W 1 rfl

theorem quo256 (v : Int) (k : Nat) : v / 256 ^ k / 256 = v / 256 ^ (k + 1) := by
  have hc : (0 : Int) ≤ 256 ^ k := Int.pow_nonneg (by omega)
  rw [Int.pow_succ, Int.ediv_ediv_of_nonneg hc]

theorem quo128 (v : Int) (k : Nat) : v / 128 ^ k / 128 = v / 128 ^ (k + 1) := by
  have hc : (0 : Int) ≤ 128 ^ k := Int.pow_nonneg (by omega)
  rw [Int.pow_succ, Int.ediv_ediv_of_nonneg hc]

theorem rput_range (v n : Int) (w : World) (h : n < 1 ∨ 8 < n) :
    Calls Try.prog 5 #[.int .u64 v, .int .i64 n] w fun e w' => e = .returned (.tuple #[.string ByteArray.empty, .int .i64 10]) ∧ w' = w := by
  by_cases h1 : n < 1
  · clear h
    go_enter Try.func5, Try.ntmps5
    go_wp2
    go_ret2
    exact ⟨rfl, rfl⟩
  · have h2 : 8 < n := by omega
    clear h
    go_enter Try.func5, Try.ntmps5
    go_wp2
    go_ret2
    exact ⟨rfl, rfl⟩

theorem ret_si (s t : ByteArray) (c : Int) (h : s = t) : Ending.returned (.tuple #[.string s, .int .i64 c]) = .returned (.tuple #[.string t, .int .i64 c]) := by rw [h]

set_option maxHeartbeats 800000 in
theorem rput_any (v : Int) (n : Nat) (w : World) (v0 : 0 ≤ v) (v1 : v ≤ 18446744073709551615) (h1 : 1 ≤ n) (h2 : n ≤ 8) (s : ByteArray) (c : Int)
    (HC : Hid ((v / 256 ^ n = 0 ∧ s = str (lowB v n) ∧ c = 0) ∨ (v / 256 ^ n ≠ 0 ∧ s = ByteArray.empty ∧ c = 11))) :
    Calls Try.prog 5 #[.int .u64 v, .int .i64 n] w fun e w' => e = .returned (.tuple #[.string s, .int .i64 c]) ∧ Grown w w' := by
  have d1 : decide ((n : Int) < 1) = false := by simp; omega
  have d2 : decide (8 < (n : Int)) = false := by simp; omega
  have hcv := conv_one
  have hst : ∀ c : Int, (str [c]).size = 1 := fun c => str_size [c]
  go_enter Try.func5, Try.ntmps5
  go_wp2
  go_loopw [0, 6, 7] (fun x t i wr => ∃ k : Nat, k ≤ n ∧ x = .int .u64 (v / 256 ^ k) ∧ t = .string (str (lowB v k)) ∧ i = .int .i64 k ∧ Grown w wr) (fun _ _ i _ => (n - intOf i).toNat)
  case atStart => exact ⟨0, by omega, by simp, rfl, rfl, Grown.refl _⟩
  case round =>
    obtain ⟨k, hk, rfl, rfl, rfl, hg⟩ := hrel
    have G : Hid (Grown w wr) := hg
    clear hg
    have hlen : (str (lowB v k)).size = k := by rw [str_size, lowB_length]
    have q0 : 0 ≤ v / 256 ^ k := Int.ediv_nonneg v0 (Int.pow_nonneg (by omega))
    have q1 : v / 256 ^ k ≤ 18446744073709551615 := Int.le_trans (Int.ediv_le_self _ v0) v1
    by_cases hlt : k < n
    · have hlt' : (k : Int) < n := by omega
      go_wp2
      go_roundw
      case rel => exact ⟨k + 1, by omega, by rw [quo256], by rw [str_app]; rfl, by go_num, G.out.alloc _ _⟩
      case measure => simp [intOf]; omega
    · have hlt' : ¬ (k : Int) < n := by omega
      have e : k = n := by omega
      subst e
      rcases HC.out with ⟨hz, hs, hc⟩ | ⟨hz, hs, hc⟩
      · have hz' : (v / 256 ^ k != 0) = false := by simp [hz]
        subst hs hc
        clear hz
        go_wp2
        go_ret2
        exact ⟨rfl, G.out⟩
      · have hz' : (v / 256 ^ k != 0) = true := by rw [bne_iff_ne]; exact hz
        subst hs hc
        clear hz
        go_wp2
        go_ret2
        exact ⟨rfl, G.out⟩

theorem wants_ge (v : Int) (m k : Nat) (hw : Wants v m) (h : k + 1 < m) : 128 ≤ v / 128 ^ k := by
  have hc : (0 : Int) < 128 ^ k := Int.pow_pos (by omega)
  have h1 := hw.2.2.2 (by omega)
  have h2 : (128 : Int) ^ (k + 1) ≤ 128 ^ (m - 1) := ipow_le 128 (by omega) (show k + 1 ≤ m - 1 by omega)
  rw [Int.pow_succ] at h2
  exact (Int.le_ediv_iff_mul_le hc).2 (by omega)

theorem wants_lt (v : Int) (m : Nat) (hw : Wants v m) : v / 128 ^ (m - 1) < 128 := by
  have hc : (0 : Int) < 128 ^ (m - 1) := Int.pow_pos (by omega)
  apply Int.ediv_lt_of_lt_mul hc
  have e : (128 : Int) * 128 ^ (m - 1) = 128 ^ m := by
    have := hw.1
    rw [Int.mul_comm, ← Int.pow_succ]; congr 1; omega
  rw [e]; exact hw.2.2.1

def gs (v : Int) (k : Nat) : List Int := (List.range k).map (gB v)
theorem gs_length (v : Int) (k : Nat) : (gs v k).length = k := by simp [gs]
theorem gs_next (v : Int) (k : Nat) : gs v k ++ [v / 128 ^ k % 128 + 128] = gs v (k + 1) := by simp [gs, List.range_succ, gB]
theorem gs_last (v : Int) (m : Nat) (h0 : 0 ≤ v) (hw : Wants v m) : gs v (m - 1) ++ [v / 128 ^ (m - 1)] = putL v m := by
  have h1 := wants_lt v m hw
  have h2 : 0 ≤ v / 128 ^ (m - 1) := Int.ediv_nonneg h0 (Int.pow_nonneg (by omega))
  have e : v / 128 ^ (m - 1) % 128 = v / 128 ^ (m - 1) := Int.emod_eq_of_lt h2 h1
  simp [gs, putL, e]

theorem ret_s (s t : ByteArray) (h : s = t) : Ending.returned (.string s) = .returned (.string t) := by rw [h]

set_option maxHeartbeats 800000 in
theorem rpv_any (v : Int) (m : Nat) (w : World) (v0 : 0 ≤ v) (v1 : v ≤ 18446744073709551615) (m1 : 1 ≤ m) (m2 : m ≤ 10) (HW : Hid (Wants v m)) :
    Calls Try.prog 7 #[.int .u64 v] w fun e w' => e = .returned (.string (str (putL v m))) ∧ Grown w w' := by
  have hcv := conv_one
  have hst : ∀ c : Int, (str [c]).size = 1 := fun c => str_size [c]
  go_enter Try.func7, Try.ntmps7
  go_wp2
  go_loopw [0, 3] (fun x t wr => ∃ k : Nat, k + 1 ≤ m ∧ x = .int .u64 (v / 128 ^ k) ∧ t = .string (str (gs v k)) ∧ Grown w wr) (fun x _ _ => (intOf x).toNat)
  case atStart => exact ⟨0, by omega, by simp, rfl, Grown.refl _⟩
  case round =>
    obtain ⟨k, hk, rfl, rfl, hg⟩ := hrel
    have G : Hid (Grown w wr) := hg
    clear hg
    have hlen : (str (gs v k)).size = k := by rw [str_size, gs_length]
    have q0 : 0 ≤ v / 128 ^ k := Int.ediv_nonneg v0 (Int.pow_nonneg (by omega))
    have q1 : v / 128 ^ k ≤ 18446744073709551615 := Int.le_trans (Int.ediv_le_self _ v0) v1
    by_cases hlt : k + 1 < m
    · have hq := wants_ge v m k HW.out hlt
      go_wp2
      go_roundw
      case rel => exact ⟨k + 1, by omega, by rw [quo128], by rw [str_app, gs_next], G.out.alloc _ _⟩
      case measure => simp [intOf]; omega
    · obtain rfl : k = m - 1 := by omega
      have hq := wants_lt v m HW.out
      have HL : Hid _ := gs_last v m v0 HW.out
      go_wp2
      go_ret
      exact ⟨ret_s _ _ (by rw [str_app, HL.out]), G.out.alloc _ _⟩
end Go.Proofs.Ytnjkjmkhpdioaab.putsr
