import Derived.Test.YtgioekepoebibaaPa
import Derived.RowKit3
import Derived.WalkLawsBesides
namespace Go.Proofs.Ytgioekepoebibaa.pb
open Go.RowKit Go.PlainAid
open Go.Proofs.Ytgioekepoebibaa.na Go.Proofs.Ytgioekepoebibaa.nb Go.Proofs.Ytgioekepoebibaa.pa
set_option linter.unusedVariables false

theorem str_app (xs ys : List Int) : str xs ++ str ys = str (xs ++ ys) := by
  apply ByteArray.ext
  rw [ByteArray.data_append, str_data, str_data, str_data]
  simp

theorem conv_one (W : World) (c : Int) :
    (convert 33 9 (.slice (some ⟨W.heap.size, 0, none⟩) 1 1)).run Try.prog (W.alloc (.cells #[.int .u8 c] 5)) = .ok (.string (str [c])) (W.alloc (.cells #[.int .u8 c] 5)) :=
  conv_row [c] W 1 rfl

theorem quo256 (v : Int) (k : Nat) : v / 256 ^ k / 256 = v / 256 ^ (k + 1) := by
  have hc : (0 : Int) ≤ 256 ^ k := Int.pow_nonneg (by omega)
  rw [Int.pow_succ, Int.ediv_ediv_of_nonneg hc]

theorem quo128 (v : Int) (k : Nat) : v / 128 ^ k / 128 = v / 128 ^ (k + 1) := by
  have hc : (0 : Int) ≤ 128 ^ k := Int.pow_nonneg (by omega)
  rw [Int.pow_succ, Int.ediv_ediv_of_nonneg hc]

theorem rput_range (v n : Int) (w : World) (h : n < 1 ∨ 8 < n) :
    Calls Try.prog 71 #[.int .u64 v, .int .i64 n] w fun e w' => e = .returned (.tuple #[.string ByteArray.empty, .int .i64 10]) ∧ w' = w := by
  by_cases h1 : n < 1
  · clear h
    go_enter Try.func71, Try.ntmps71
    go_wp2
    go_ret2
    exact ⟨rfl, rfl⟩
  · have h2 : 8 < n := by omega
    clear h
    go_enter Try.func71, Try.ntmps71
    go_wp2
    go_ret2
    exact ⟨rfl, rfl⟩

theorem ret_si (s t : ByteArray) (c : Int) (h : s = t) : Ending.returned (.tuple #[.string s, .int .i64 c]) = .returned (.tuple #[.string t, .int .i64 c]) := by rw [h]

set_option maxHeartbeats 800000 in
theorem rput_any (v : Int) (n : Nat) (w : World) (v0 : 0 ≤ v) (v1 : v ≤ 18446744073709551615) (h1 : 1 ≤ n) (h2 : n ≤ 8) (s : ByteArray) (c : Int)
    (HC : Hid ((v / 256 ^ n = 0 ∧ s = str (lowB v n) ∧ c = 0) ∨ (v / 256 ^ n ≠ 0 ∧ s = ByteArray.empty ∧ c = 11))) :
    Calls Try.prog 71 #[.int .u64 v, .int .i64 n] w fun e w' => e = .returned (.tuple #[.string s, .int .i64 c]) ∧ Below w.heap.size w w' := by
  have d1 : decide ((n : Int) < 1) = false := by simp; omega
  have d2 : decide (8 < (n : Int)) = false := by simp; omega
  have hcv := conv_one
  have hst : ∀ c : Int, (str [c]).size = 1 := fun c => str_size [c]
  go_enter Try.func71, Try.ntmps71
  go_wp2
  go_loopw [0, 6, 7] (fun x t i wr => ∃ k : Nat, k ≤ n ∧ x = .int .u64 (v / 256 ^ k) ∧ t = .string (str (lowB v k)) ∧ i = .int .i64 k ∧ Below w.heap.size w wr) (fun _ _ i _ => (n - intOf i).toNat)
  case atStart => exact ⟨0, by omega, by simp, rfl, rfl, Below.refl _ _⟩
  case round =>
    obtain ⟨k, hk, rfl, rfl, rfl, hg⟩ := hrel
    have G : Hid (Below w.heap.size w wr) := hg
    clear hg
    have hlen : (str (lowB v k)).size = k := by rw [str_size, lowB_length]
    have q0 : 0 ≤ v / 256 ^ k := Int.ediv_nonneg v0 (Int.pow_nonneg (by omega))
    have q1 : v / 256 ^ k ≤ 18446744073709551615 := Int.le_trans (Int.ediv_le_self _ v0) v1
    by_cases hlt : k < n
    · have hlt' : (k : Int) < n := by omega
      go_wp2
      go_roundw
      case rel => exact ⟨k + 1, by omega, by rw [quo256], by rw [str_app]; rfl, by go_num, G.out.alloc G.out.size _⟩
      case measure => simp [intOf]; omega
    · have hlt' : ¬ (k : Int) < n := by omega
      have e : k = n := by omega
      subst e
      rcases HC.out with ⟨hz, hs, hc⟩ | ⟨hz, hs, hc⟩
      · have hz' : (v / 256 ^ k != 0) = false := by simp [hz]
        subst hs hc
        clear hz
        go_wp2
        go_ret2
        exact ⟨rfl, G.out⟩
      · have hz' : (v / 256 ^ k != 0) = true := by rw [bne_iff_ne]; exact hz
        subst hs hc
        clear hz
        go_wp2
        go_ret2
        exact ⟨rfl, G.out⟩

end Go.Proofs.Ytgioekepoebibaa.pb
