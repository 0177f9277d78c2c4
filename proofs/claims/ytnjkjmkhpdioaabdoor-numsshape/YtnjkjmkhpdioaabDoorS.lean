import Derived.Test.YtnjkjmkhpdioaabDoorB
namespace Go.Proofs.YtnjkjmkhpdioaabDoor.s
open Go.RowKit Go.PlainAid
open Go.Proofs.YtnjkjmkhpdioaabDoor.pl Go.Proofs.YtnjkjmkhpdioaabDoor.a Go.Proofs.YtnjkjmkhpdioaabDoor.b
set_option linter.unusedVariables false

theorem ceil_no (n : Int) (w : World) (h : n ≤ 1) :
    Calls Tryd.prog 6 #[.int .i64 n] w fun e w' => e = .returned (.int .i64 0) ∧ w' = w := by
  go_enter Tryd.func6, Tryd.ntmps6
  go_wp2
  go_ret
  exact ⟨rfl, rfl⟩

theorem bits_one (w : World) : Calls Tryd.prog 7 #[.int .i64 1] w fun e w' => e = .returned (.int .i64 1) ∧ w' = w := by
  have h := bits_any 1 w (by omega) (by omega)
  have e : Lib.bitLen (1 : Int).toNat = 1 := by decide
  rw [e] at h
  exact h

set_option maxHeartbeats 800000 in
theorem shape_no (n : Int) (w : World) (h : n < 2) :
    Calls Tryd.prog 3 #[.int .i64 n] w fun e w' => e = .returned (.bool true) ∧ w' = w := by
  go_enter Tryd.func3, Tryd.ntmps3
  go_wp2_with fail
  refine (below_no n _ h).mono ?_
  rintro e w' ⟨rfl, rfl⟩
  go_wp2_with fail
  refine (ceil_no n _ (by omega)).mono ?_
  rintro e w' ⟨rfl, rfl⟩
  go_wp2_with fail
  refine (bits_one _).mono ?_
  rintro e w' ⟨rfl, rfl⟩
  go_wp2_with fail
  refine (zeros_no 0 _ (by omega)).mono ?_
  rintro e w' ⟨rfl, rfl⟩
  go_wp2
  go_ret
  exact ⟨rfl, rfl⟩

set_option maxHeartbeats 1600000 in
theorem shape_core (n o o2 c : Int) (l L z : Nat) (w : World) (h : 2 ≤ n) (h1 : n ≤ 9223372036854775807) (hl : l ≤ 62) (hL : L ≤ 62) (hz : z ≤ 62)
    (B5 : Hid (Calls Tryd.prog 5 #[.int .i64 n] w fun e w' => e = .returned (.tuple #[.int .i64 (2 ^ l), .int .i64 0]) ∧ w' = w))
    (O1 : Hid (Calls Tryd.prog 9 #[.int .i64 (2 ^ l)] w fun e w' => e = .returned (.int .i64 1) ∧ w' = w))
    (K1 : Hid (Calls Tryd.prog 7 #[.int .i64 n] w fun e w' => e = .returned (.int .i64 (L + 1)) ∧ w' = w))
    (Z1 : Hid (Calls Tryd.prog 8 #[.int .i64 n] w fun e w' => e = .returned (.int .i64 z) ∧ w' = w))
    (C1 : Hid (Calls Tryd.prog 6 #[.int .i64 n] w fun e w' => e = .returned (.int .i64 c) ∧ w' = w))
    (K2 : Hid (Calls Tryd.prog 7 #[.int .i64 (n - 1)] w fun e w' => e = .returned (.int .i64 c) ∧ w' = w))
    (Z2 : Hid (Calls Tryd.prog 8 #[.int .i64 (2 ^ l)] w fun e w' => e = .returned (.int .i64 l) ∧ w' = w))
    (O2 : Hid (Calls Tryd.prog 9 #[.int .i64 n] w fun e w' => e = .returned (.int .i64 o) ∧ w' = w))
    (O3 : Hid (Calls Tryd.prog 9 #[.int .i64 (n / 2)] w fun e w' => e = .returned (.int .i64 o2) ∧ w' = w))
    (p1 : (1 : Int) ≤ 2 ^ l) (p2 : (2 : Int) ^ l < n) (p3 : n - 2 ^ l ≤ 2 ^ l) (t0 : (0 : Int) < 2 ^ L) (t1 : (2 : Int) ^ L ≤ n) (t2 : n - 2 ^ L < 2 ^ L) (u0 : (0 : Int) < 2 ^ z) (u1 : (2 : Int) ^ z ≤ 4611686018427387904)
    (q0 : 0 ≤ n / 2 ^ z) (q1 : n / 2 ^ z ≤ 9223372036854775807) (u2 : (n % 2 ^ z != 0) = false) (u3 : (n / 2 ^ z % 2 != 1) = false) (ho : 0 ≤ o2 ∧ o2 ≤ 64) (HO : Hid (o = o2 + n % 2)) :
    Calls Tryd.prog 3 #[.int .i64 n] w fun e w' => e = .returned (.bool true) ∧ w' = w := by
  obtain ⟨ho0, ho1⟩ := ho
  go_enter Tryd.func3, Tryd.ntmps3
  go_wp2_with fail
  refine B5.out.mono ?_
  rintro e w' ⟨rfl, hw⟩; subst hw
  go_wp2_with fail
  refine O1.out.mono ?_
  rintro e w' ⟨rfl, hw⟩; subst hw
  go_wp2_with fail
  refine K1.out.mono ?_
  rintro e w' ⟨rfl, hw⟩; subst hw
  go_wp2_with fail
  refine Z1.out.mono ?_
  rintro e w' ⟨rfl, hw⟩; subst hw
  go_wp2_with fail
  refine C1.out.mono ?_
  rintro e w' ⟨rfl, hw⟩; subst hw
  go_wp2_with fail
  refine K2.out.mono ?_
  rintro e w' ⟨rfl, hw⟩; subst hw
  go_wp2_with fail
  refine Z2.out.mono ?_
  rintro e w' ⟨rfl, hw⟩; subst hw
  go_wp2_with fail
  refine O2.out.mono ?_
  rintro e w' ⟨rfl, hw⟩; subst hw
  go_wp2_with fail
  refine O3.out.mono ?_
  rintro e w' ⟨rfl, hw⟩; subst hw
  go_wp2
  go_ret
  have ho := HO.out
  refine ⟨congrArg (fun x : Bool => Ending.returned (.bool x)) (?_ : (o == o2 + n % 2) = true), rfl⟩
  rw [beq_iff_eq]; exact ho

theorem two62 (k : Nat) (h : k ≤ 62) : (2 : Int) ^ k ≤ 4611686018427387904 := by
  have h1 := pow_le k 62 h
  have e : (2 : Int) ^ 62 = 4611686018427387904 := by decide
  rw [e] at h1; exact h1

theorem shape (n : Int) (w : World) (h0 : -9223372036854775808 ≤ n) (h1 : n ≤ 9223372036854775807) (hH : TabH w) (hB : TabB w) :
    Calls Tryd.prog 3 #[.int .i64 n] w fun e w' => e = .returned (.bool true) ∧ w' = w := by
  by_cases h : n < 2
  · exact shape_no n w h
  obtain ⟨m, rfl⟩ := Int.eq_ofNat_of_zero_le (show 0 ≤ n by omega)
  obtain ⟨l, e, g0, g1, g2⟩ := len_int m (by omega) h1
  have cl : ((2 ^ l : Nat) : Int) = 2 ^ l := by simp
  have pl := two62 l g0
  have ql : (0 : Int) < 2 ^ l := Int.pow_pos (by omega)

  obtain ⟨s1, s2⟩ := len_spec m (by omega)
  obtain ⟨s3, s4⟩ := s2 (by omega)
  have s5 := len_le63 m (by omega)
  obtain ⟨L, hL⟩ : ∃ L, Lib.bitLen m = L + 1 := ⟨Lib.bitLen m - 1, by omega⟩
  rw [hL] at s1 s3 s5
  rw [Nat.add_sub_cancel] at s3
  have c1 : ((2 ^ L : Nat) : Int) = 2 ^ L := by simp
  have c2 : (2 : Nat) ^ (L + 1) = 2 ^ L * 2 := Nat.pow_succ 2 L

  obtain ⟨j, hj, hz⟩ := ctz_spec m (by omega) (by omega)
  generalize hzz : Lib.ctz 64 m = z at *
  have cz : ((2 ^ z : Nat) : Int) = 2 ^ z := by simp
  have qz : 0 < 2 ^ z := Nat.two_pow_pos z
  have pz := two62 z hz
  have d1 : m % 2 ^ z = 0 := by rw [hj]; exact Nat.mul_mod_right ..
  have d2 : m / 2 ^ z = 2 * j + 1 := by rw [hj, Nat.mul_div_cancel_left _ qz]
  have d3 : ((m : Int) % 2 ^ z) = 0 := by rw [← cz]; omega
  have d4 : ((m : Int) / 2 ^ z) = 2 * (j : Int) + 1 := by rw [← cz]; omega
  have jm : 2 * j + 1 ≤ m := by rw [← d2]; exact Nat.div_le_self ..
  have hb1 := bits_any (m : Int) w h0 h1
  rw [Int.toNat_natCast, hL, show ((L + 1 : Nat) : Int) = (L : Int) + 1 by omega] at hb1
  have hb2 := bits_any ((m : Int) - 1) w (by omega) (by omega)
  have hc := ceil_any (m : Int) w h0 h1
  rw [e] at hb2 hc
  have o1 := ones_yes (2 ^ l) w (Nat.two_pow_pos l) (by omega) hH
  rw [ones_pow l (by omega), cl] at o1
  have z2 := zeros_yes (2 ^ l) w (Nat.two_pow_pos l) (by omega) hB
  rw [ctz_pow l g0, cl] at z2
  have z1 := zeros_yes m w (by omega) (by omega) hB
  rw [hzz] at z1
  have o2 := ones_yes m w (by omega) (by omega) hH
  have o3 := ones_yes (m / 2) w (by omega) (by omega) hH
  have e3 : (((m / 2 : Nat)) : Int) = (m : Int) / 2 := by omega
  rw [e3] at o3
  have ho := ones_half m (by omega)
  have hle := ones_le (m / 2)
  refine shape_core m _ _ _ l L z w (by omega) h1 g0 (by omega) hz ?_ o1 hb1 z1 hc hb2 z2 o2 o3 (by omega) (by omega) ?_ (by omega) (by omega) (by omega) (by omega) pz (by omega) (by omega) ?_ ?_ ⟨by omega, by omega⟩ ?_
  · refine below_yes m l w (by omega) h1 g0 (fun w => ?_)
    have hb := bits_any ((m : Int) - 1) w (by omega) (by omega)
    rw [e] at hb
    simpa using hb
  · have : (2 : Int) ^ (l + 1) = 2 ^ l * 2 := Int.pow_succ ..
    omega
  · rw [d3]; rfl
  · rw [d4]; simp
  · show _ = _
    omega
end Go.Proofs.YtnjkjmkhpdioaabDoor.s
