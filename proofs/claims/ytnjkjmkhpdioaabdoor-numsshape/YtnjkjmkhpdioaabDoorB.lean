import Derived.Test.YtnjkjmkhpdioaabDoorA
import Derived.Test.YtnjkjmkhpdioaabDoorLen
namespace Go.Proofs.YtnjkjmkhpdioaabDoor.b
open Go.RowKit Go.PlainAid
open Go.Proofs.YtnjkjmkhpdioaabDoor.pl Go.Proofs.YtnjkjmkhpdioaabDoor.a Go.Proofs.YtnjkjmkhpdioaabDoor.len
set_option linter.unusedVariables false

theorem bits_any (n : Int) (w : World) (h0 : -9223372036854775808 ≤ n) (h1 : n ≤ 9223372036854775807) :
    Calls Tryd.prog 7 #[.int .i64 n] w fun e w' => e = .returned (.int .i64 (Lib.bitLen n.toNat)) ∧ w' = w := by
  by_cases h : n ≤ 0
  · have HB : Hid _ := bits_out n h
    go_enter Tryd.func7, Tryd.ntmps7
    go_wp2
    go_ret
    exact ⟨Go.Proofs.YtnjkjmkhpdioaabDoor.a.ret_i64 (by rw [HB.out]; rfl), rfl⟩
  · go_enter Tryd.func7, Tryd.ntmps7
    go_wp2_with (go_at_call 15; refine (len_any n _ (by omega) (by omega)).mono ?_; rintro e w' ⟨rfl, rfl⟩)
    go_ret
    exact ⟨rfl, rfl⟩

theorem zeros_no (n : Int) (w : World) (h : n ≤ 0) :
    Calls Tryd.prog 8 #[.int .i64 n] w fun e w' => e = .returned (.int .i64 63) ∧ w' = w := by
  go_enter Tryd.func8, Tryd.ntmps8
  go_wp2
  go_ret
  exact ⟨rfl, rfl⟩

theorem zeros_yes (m : Nat) (w : World) (h0 : 0 < m) (h1 : m ≤ 9223372036854775807) (HT : Hid (TabB w)) :
    Calls Tryd.prog 8 #[.int .i64 m] w fun e w' => e = .returned (.int .i64 (Lib.ctz 64 m)) ∧ w' = w := by
  have d0 : decide ((m : Int) ≤ 0) = false := by simp; omega
  have d1 : decide (m = 0) = false := by simp; omega
  have hn : ¬ (m : Int) ≤ 0 := by omega
  go_enter Tryd.func8, Tryd.ntmps8
  go_wp2_with (go_at_call 16; refine (tz m _ (by omega) (by omega) HT.out).mono ?_; rintro e w' ⟨rfl, rfl⟩)
  go_ret
  exact ⟨rfl, rfl⟩

theorem below_no (n : Int) (w : World) (h : n < 2) :
    Calls Tryd.prog 5 #[.int .i64 n] w fun e w' => e = .returned (.tuple #[.int .i64 0, .int .i64 10]) ∧ w' = w := by
  go_enter Tryd.func5, Tryd.ntmps5
  go_wp2
  go_ret2
  exact ⟨rfl, rfl⟩

theorem below_yes (n : Int) (l : Nat) (w : World) (h : 2 ≤ n) (h1 : n ≤ 9223372036854775807) (hl : l ≤ 62)
    (HB : Hid (∀ w, Calls Tryd.prog 7 #[.int .i64 (n - 1)] w fun e w' => e = .returned (.int .i64 (l + 1)) ∧ w' = w)) :
    Calls Tryd.prog 5 #[.int .i64 n] w fun e w' => e = .returned (.tuple #[.int .i64 (2 ^ l), .int .i64 0]) ∧ w' = w := by
  have hp : (2 : Int) ^ l ≤ 4611686018427387904 := by
    have := pow_le l 62 hl
    have e : (2 : Int) ^ 62 = 4611686018427387904 := by decide
    rw [e] at this; exact this
  have hq : (0 : Int) < 2 ^ l := Int.pow_pos (by omega)
  go_enter Tryd.func5, Tryd.ntmps5
  go_wp2_with fail
  refine (HB.out _).mono ?_
  rintro e w' ⟨rfl, rfl⟩
  go_wp2
  go_ret2
  exact ⟨ret2 (by first | rfl | exact IntWalk.wrap64_in _ ⟨by omega, by omega⟩), rfl⟩

theorem ceil_any (n : Int) (w : World) (h0 : -9223372036854775808 ≤ n) (h1 : n ≤ 9223372036854775807) :
    Calls Tryd.prog 6 #[.int .i64 n] w fun e w' => e = .returned (.int .i64 (Lib.bitLen (n - 1).toNat)) ∧ w' = w := by
  by_cases h : n ≤ 1
  · have HB : Hid _ := bits_out (n - 1) (by omega)
    go_enter Tryd.func6, Tryd.ntmps6
    go_wp2
    go_ret
    exact ⟨Go.Proofs.YtnjkjmkhpdioaabDoor.a.ret_i64 (by rw [HB.out]; rfl), rfl⟩
  · have HN : Hid ((n - 1).toNat = n.toNat - 1) := show _ = _ by omega
    go_enter Tryd.func6, Tryd.ntmps6
    go_wp2_with (go_at_call 7; refine (bits_any (n - 1) _ (by omega) (by omega)).mono ?_; rintro e w' ⟨rfl, rfl⟩)
    go_ret
    exact ⟨Go.Proofs.YtnjkjmkhpdioaabDoor.a.ret_i64 (by rw [HN.out]), rfl⟩

theorem below_both (n : Int) (h0 : -9223372036854775808 ≤ n) (h1 : n ≤ 9223372036854775807) : ∃ p c : Int,
    (∀ w, Calls Tryd.prog 5 #[.int .i64 n] w fun e w' => e = .returned (.tuple #[.int .i64 p, .int .i64 c]) ∧ w' = w) ∧
    (∀ w, Calls Tryd.prog 10 #[.int .i64 n] w fun e w' => e = .returned (.tuple #[.int .i64 p, .int .i64 c]) ∧ w' = w) := by
  by_cases h : n < 2
  · exact ⟨0, 10, fun w => below_no n w h, fun w => rbelow_no n w h⟩
  · obtain ⟨l, e, g0, g1, g2⟩ := len_int n (by omega) h1
    refine ⟨2 ^ l, 0, fun w => below_yes n l w (by omega) h1 g0 (fun w => ?_), fun w => rbelow n l w (by omega) h1 g0 g1 g2⟩
    have hb := bits_any (n - 1) w (by omega) (by omega)
    rw [e] at hb
    simpa using hb

theorem ones_both (n : Int) (h0 : -9223372036854775808 ≤ n) (h1 : n ≤ 9223372036854775807) (w : World) (hH : TabH w) : ∃ r : Int,
    (Calls Tryd.prog 9 #[.int .i64 n] w fun e w' => e = .returned (.int .i64 r) ∧ w' = w) ∧
    (Calls Tryd.prog 12 #[.int .i64 n] w fun e w' => e = .returned (.int .i64 r) ∧ w' = w) := by
  by_cases h : n ≤ 0
  · have hr := rones n w h0 h1
    rw [show n.toNat = 0 by omega, ones_zero] at hr
    exact ⟨0, ones_no n w h, hr⟩
  · obtain ⟨m, rfl⟩ := Int.eq_ofNat_of_zero_le (show 0 ≤ n by omega)
    exact ⟨_, ones_yes m w (by omega) (by omega) hH, rones m w h0 h1⟩

theorem zeros_both (n : Int) (h1 : n ≤ 9223372036854775807) (w : World) (hB : TabB w) : ∃ r : Int,
    (Calls Tryd.prog 8 #[.int .i64 n] w fun e w' => e = .returned (.int .i64 r) ∧ w' = w) ∧
    (Calls Tryd.prog 13 #[.int .i64 n] w fun e w' => e = .returned (.int .i64 r) ∧ w' = w) := by
  by_cases h : n ≤ 0
  · exact ⟨63, zeros_no n w h, rzeros_no n w h⟩
  · obtain ⟨m, rfl⟩ := Int.eq_ofNat_of_zero_le (show 0 ≤ n by omega)
    exact ⟨_, zeros_yes m w (by omega) (by omega) hB, rzeros m w (by omega) h1⟩

set_option maxHeartbeats 1600000 in
theorem digits (n : Int) (w : World) (h0 : -9223372036854775808 ≤ n) (h1 : n ≤ 9223372036854775807) (hH : TabH w) (hB : TabB w) :
    Calls Tryd.prog 4 #[.int .i64 n] w fun e w' => e = .returned (.bool true) ∧ w' = w := by
  obtain ⟨p, c, b1, b2⟩ := below_both n h0 h1
  obtain ⟨o, o1, o2⟩ := ones_both n h0 h1 w hH
  obtain ⟨z, z1, z2⟩ := zeros_both n h1 w hB
  have i1 := bits_any n w h0 h1
  have i2 := rbits n w h0 h1
  have c1 := ceil_any n w h0 h1
  have c2 := rceil n w h0 h1
  generalize Lib.bitLen n.toNat = i at *
  generalize Lib.bitLen (n - 1).toNat = q at *
  have B1 : Hid (Calls _ _ _ _ _) := b1 w; have B2 : Hid (Calls _ _ _ _ _) := b2 w; have O1 : Hid (Calls _ _ _ _ _) := o1; have O2 : Hid (Calls _ _ _ _ _) := o2; have Z1 : Hid (Calls _ _ _ _ _) := z1; have Z2 : Hid (Calls _ _ _ _ _) := z2
  have I1 : Hid (Calls _ _ _ _ _) := i1; have I2 : Hid (Calls _ _ _ _ _) := i2; have C1 : Hid (Calls _ _ _ _ _) := c1; have C2 : Hid (Calls _ _ _ _ _) := c2
  clear b1 b2 o1 o2 z1 z2 i1 i2 c1 c2 hH hB
  go_enter Tryd.func4, Tryd.ntmps4
  go_wp2_with fail
  refine B1.out.mono ?_
  rintro e w' ⟨rfl, hw⟩; subst hw
  go_wp2_with fail
  refine B2.out.mono ?_
  rintro e w' ⟨rfl, hw⟩; subst hw
  go_wp2_with fail
  refine I1.out.mono ?_
  rintro e w' ⟨rfl, hw⟩; subst hw
  go_wp2_with fail
  refine I2.out.mono ?_
  rintro e w' ⟨rfl, hw⟩; subst hw
  go_wp2_with fail
  refine O1.out.mono ?_
  rintro e w' ⟨rfl, hw⟩; subst hw
  go_wp2_with fail
  refine O2.out.mono ?_
  rintro e w' ⟨rfl, hw⟩; subst hw
  go_wp2_with fail
  refine Z1.out.mono ?_
  rintro e w' ⟨rfl, hw⟩; subst hw
  go_wp2_with fail
  refine Z2.out.mono ?_
  rintro e w' ⟨rfl, hw⟩; subst hw
  go_wp2_with fail
  refine C1.out.mono ?_
  rintro e w' ⟨rfl, hw⟩; subst hw
  go_wp2_with fail
  refine C2.out.mono ?_
  rintro e w' ⟨rfl, hw⟩; subst hw
  go_wp2
  go_ret
  exact ⟨by simp, rfl⟩
end Go.Proofs.YtnjkjmkhpdioaabDoor.b
