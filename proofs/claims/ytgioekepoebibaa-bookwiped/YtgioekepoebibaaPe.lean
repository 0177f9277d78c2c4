import Derived.Test.YtgioekepoebibaaPa
namespace Go.Proofs.Ytgioekepoebibaa.pe
open Go.RowKit Go.PlainAid
open Go.Proofs.Ytgioekepoebibaa.na Go.Proofs.Ytgioekepoebibaa.nb Go.Proofs.Ytgioekepoebibaa.pa
set_option linter.unusedVariables false

theorem sum_over (a b m : Int) (w : World) (ha : 0 ≤ a) (hm : 0 ≤ m) (hm' : m ≤ 9223372036854775807) (h : m - a < b) :
    Calls Try.prog 92 #[.int .i64 a, .int .i64 b, .int .i64 m] w fun e w' => e = .returned (.tuple #[.int .i64 0, .int .i64 11]) ∧ w' = w := by
  by_cases h1 : m < a
  · go_enter Try.func92, Try.ntmps92
    go_wp2
    go_ret2
    exact ⟨rfl, rfl⟩
  · go_enter Try.func92, Try.ntmps92
    go_wp2
    go_ret2
    exact ⟨rfl, rfl⟩

theorem sum_ok (a b m : Int) (w : World) (ha : 0 ≤ a) (hb : 0 ≤ b) (hm : a ≤ m) (hm' : m ≤ 9223372036854775807) (h : ¬ m - a < b) :
    Calls Try.prog 92 #[.int .i64 a, .int .i64 b, .int .i64 m] w fun e w' => e = .returned (.tuple #[.int .i64 (a + b), .int .i64 0]) ∧ w' = w := by
  have h1 : ¬ m < a := by omega
  go_enter Try.func92, Try.ntmps92
  go_wp2
  go_ret2
  exact ⟨rfl, rfl⟩

theorem be_range (b : ByteArray) (p n : Int) (w : World) (hb : b.size ≤ 9223372036854775807) (h : n < 1 ∨ 8 < n ∨ p < 0 ∨ (b.size : Int) - p < n) :
    Calls Try.prog 85 #[.string b, .int .i64 p, .int .i64 n] w fun e w' => e = .returned (.tuple #[.int .u64 0, .int .i64 10]) ∧ w' = w := by
  by_cases h1 : n < 1 ∨ 8 < n
  · have H1 : Hid _ := h1
    clear h1 h
    go_enter Try.func85, Try.ntmps85
    go_wp2_with (go_at_call 82; refine (len_no n _ H1.out).mono ?_; rintro e w' ⟨rfl, rfl⟩)
    go_ret2
    exact ⟨rfl, rfl⟩
  by_cases h2 : p < 0
  · have g1 : 1 ≤ n := by omega
    have g2 : n ≤ 8 := by omega
    clear h1 h
    go_enter Try.func85, Try.ntmps85
    go_wp2_with (go_at_call 82; refine (len_yes n _ g1 g2).mono ?_; rintro e w' ⟨rfl, rfl⟩)
    go_ret2
    exact ⟨rfl, rfl⟩
  have g1 : 1 ≤ n := by omega
  have g2 : n ≤ 8 := by omega
  have g3 : (b.size : Int) - p < n := by omega
  clear h1 h
  go_enter Try.func85, Try.ntmps85
  go_wp2_with (first | (go_at_call 82; refine (len_yes n _ g1 g2).mono ?_; rintro e w' ⟨rfl, rfl⟩) | (go_at_call 92; refine (sum_over p n _ _ (by omega) (by omega) (by omega) g3).mono ?_; rintro e w' ⟨rfl, rfl⟩))
  go_ret2
  exact ⟨rfl, rfl⟩

theorem ret2_u (x y z : Int) (h : x = y) : Ending.returned (.tuple #[.int .u64 x, .int .i64 z]) = .returned (.tuple #[.int .u64 y, .int .i64 z]) := by
  subst h; rfl

set_option maxHeartbeats 800000 in
theorem be_any (b : ByteArray) (p n : Nat) (w : World) (hb : b.size ≤ 9223372036854775807) (h1 : 1 ≤ n) (h2 : n ≤ 8) (hp : p + n ≤ b.size) :
    Calls Try.prog 85 #[.string b, .int .i64 p, .int .i64 n] w fun e w' => e = .returned (.tuple #[.int .u64 (beR b p n), .int .i64 0]) ∧ w' = w := by
  have hbt := get_bt b
  have hd0 : decide ((p : Int) < 0) = false := by simp
  go_enter Try.func85, Try.ntmps85
  go_wp2_with (first | (go_at_call 82; refine (len_yes n _ (by omega) (by omega)).mono ?_; rintro e w' ⟨rfl, rfl⟩) | (go_at_call 92; refine (sum_ok p n _ _ (by omega) (by omega) (by omega) (by omega) (by omega)).mono ?_; rintro e w' ⟨rfl, rfl⟩))
  go_loop [10, 30] (fun v i => ∃ (k : Nat), k ≤ n ∧ v = .int .u64 (beR b p k) ∧ i = .int .i64 k) (fun _ i => (n - intOf i).toNat)
  case atStart => exact ⟨0, by omega, rfl, rfl⟩
  case round =>
    obtain ⟨k, hk, rfl, rfl⟩ := hrel
    by_cases hlt : k < n
    · have hlt' : (k : Int) < n := by omega
      have hpk : p + k < b.size := by omega
      have hc0 := bt_nonneg b (p + k)
      have hc1 := bt_le b (p + k)
      have hv0 := beR_nonneg b p k
      have hv1 := beR_seven b p k (by omega)
      have HO : Hid _ := or_low (beR b p k) (bt b (p + k)) hv0 hv1 hc0 hc1
      go_wp2
      go_round
      case rel => exact ⟨k + 1, by omega, by rw [HO.out]; rfl, by go_num⟩
      case measure => simp [intOf]; omega
    · have hlt' : ¬ (k : Int) < n := by omega
      have e : k = n := by omega
      have HE : Hid _ := e
      clear e
      go_wp2
      go_ret2
      exact ⟨ret2_u _ _ _ (by rw [HE.out]), rfl⟩

end Go.Proofs.Ytgioekepoebibaa.pe
