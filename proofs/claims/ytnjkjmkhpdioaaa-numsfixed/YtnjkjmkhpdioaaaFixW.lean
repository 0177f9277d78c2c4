import Derived.Test.YtnjkjmkhpdioaaaFixP
import Derived.WalkLawsBesides
namespace Go.Proofs.Ytnjkjmkhpdioaaa.fixw
open Go.RowKit Go.PlainAid
open Go.Proofs.Ytnjkjmkhpdioaaa.plain Go.Proofs.Ytnjkjmkhpdioaaa.rowb Go.Proofs.Ytnjkjmkhpdioaaa.readr Go.Proofs.Ytnjkjmkhpdioaaa.putbe Go.Proofs.Ytnjkjmkhpdioaaa.fixp
set_option linter.unusedVariables false

set_option maxHeartbeats 1600000 in
theorem walk_no (v u m d : Int) (A B s t : ByteArray) (n : Nat) (w : World) (n1 : 1 ≤ n) (n2 : n ≤ 8)
    (HN : Hid (∀ w, Calls Try.prog 14 #[.int .i64 m] w fun e w' => e = .returned (.int .i64 n) ∧ w' = w))
    (HS : Hid (∀ w, Calls Try.prog 15 #[.int .u64 v, .int .i64 n] w fun e w' => e = .returned (.tuple #[.string s, .int .i64 11]) ∧ Grown w w'))
    (HT : Hid (∀ w, Calls Try.prog 15 #[.int .u64 u, .int .i64 n] w fun e w' => e = .returned (.tuple #[.string t, .int .i64 d]) ∧ Grown w w'))
    (hs : s.toList = []) (e8 : ((n : Int) == 8) = false) (hv : decide (v < IntKind.u64.wrap (2 ^ (8 * n))) = false) :
    Calls Try.prog 6 #[.int .u64 v, .int .u64 u, .int .i64 m, .string A, .string B] w fun e w' => e = .returned (.bool true) ∧ Grown w w' := by
  go_enter Try.func6, Try.ntmps6
  go_wp2_with fail
  refine (HN.out _).mono ?_
  rintro e w1 ⟨rfl, rfl⟩
  go_wp2_with fail
  refine (HS.out _).mono ?_
  rintro e w2 ⟨rfl, g2⟩
  go_wp2_with fail
  refine (HT.out _).mono ?_
  rintro e w3 ⟨rfl, g3⟩
  have g : Hid _ := grown_trans g2 g3
  clear g2 g3
  go_wp2_with fail
  all_goals
    go_ret
    exact ⟨by simp [*], g.out⟩

set_option maxHeartbeats 1600000 in
theorem walk_yn (v u m : Int) (A B s t : ByteArray) (n : Nat) (w : World) (n1 : 1 ≤ n) (n2 : n ≤ 8) (hA : A.size ≤ 140737488351232) (hB : B.size ≤ 140737488351232)
    (HN : Hid (∀ w, Calls Try.prog 14 #[.int .i64 m] w fun e w' => e = .returned (.int .i64 n) ∧ w' = w))
    (HS : Hid (∀ w, Calls Try.prog 15 #[.int .u64 v, .int .i64 n] w fun e w' => e = .returned (.tuple #[.string s, .int .i64 0]) ∧ Grown w w'))
    (HT : Hid (∀ w, Calls Try.prog 15 #[.int .u64 u, .int .i64 n] w fun e w' => e = .returned (.tuple #[.string t, .int .i64 11]) ∧ Grown w w'))
    (HB : Hid (∀ w, Calls Try.prog 11 #[.string (A ++ s ++ B), .int .i64 A.size, .int .i64 n] w fun e w' => e = .returned (.tuple #[.int .u64 v, .int .i64 0]) ∧ w' = w))
    (hs : s.size = n) (ht : t.toList = []) (e8 : ((n : Int) == 8) = false) (hv : decide (v < IntKind.u64.wrap (2 ^ (8 * n))) = true) (hu : decide (u < IntKind.u64.wrap (2 ^ (8 * n))) = false) :
    Calls Try.prog 6 #[.int .u64 v, .int .u64 u, .int .i64 m, .string A, .string B] w fun e w' => e = .returned (.bool true) ∧ Grown w w' := by
  go_enter Try.func6, Try.ntmps6
  go_wp2_with fail
  refine (HN.out _).mono ?_
  rintro e w1 ⟨rfl, rfl⟩
  go_wp2_with fail
  refine (HS.out _).mono ?_
  rintro e w2 ⟨rfl, g2⟩
  go_wp2_with fail
  refine (HT.out _).mono ?_
  rintro e w3 ⟨rfl, g3⟩
  have g : Hid _ := grown_trans g2 g3
  clear g2 g3
  go_wp2_with fail
  refine (HB.out _).mono ?_
  rintro e w4 ⟨rfl, rfl⟩
  go_wp2_with fail
  all_goals
    go_ret
    exact ⟨by simp [*], g.out⟩

set_option maxHeartbeats 1600000 in
theorem walk_yy (v u m : Int) (A B s t : ByteArray) (n : Nat) (w : World) (n1 : 1 ≤ n) (n2 : n ≤ 8) (hA : A.size ≤ 140737488351232) (hB : B.size ≤ 140737488351232)
    (HN : Hid (∀ w, Calls Try.prog 14 #[.int .i64 m] w fun e w' => e = .returned (.int .i64 n) ∧ w' = w))
    (HS : Hid (∀ w, Calls Try.prog 15 #[.int .u64 v, .int .i64 n] w fun e w' => e = .returned (.tuple #[.string s, .int .i64 0]) ∧ Grown w w'))
    (HT : Hid (∀ w, Calls Try.prog 15 #[.int .u64 u, .int .i64 n] w fun e w' => e = .returned (.tuple #[.string t, .int .i64 0]) ∧ Grown w w'))
    (HB : Hid (∀ w, Calls Try.prog 11 #[.string (A ++ s ++ B), .int .i64 A.size, .int .i64 n] w fun e w' => e = .returned (.tuple #[.int .u64 v, .int .i64 0]) ∧ w' = w))
    (hs : s.size = n) (hl : Op.bytesLess s.toList t.toList = decide (v < u)) (hq : (s.toList == t.toList) = (v == u))
    (h8 : ((n : Int) == 8) = true ∨ (((n : Int) == 8) = false ∧ decide (v < IntKind.u64.wrap (2 ^ (8 * n))) = true ∧ decide (u < IntKind.u64.wrap (2 ^ (8 * n))) = true)) :
    Calls Try.prog 6 #[.int .u64 v, .int .u64 u, .int .i64 m, .string A, .string B] w fun e w' => e = .returned (.bool true) ∧ Grown w w' := by
  rcases h8 with e8 | ⟨e8, hv, hu⟩
  all_goals
    go_enter Try.func6, Try.ntmps6
    go_wp2_with fail
    refine (HN.out _).mono ?_
    rintro e w1 ⟨rfl, rfl⟩
    go_wp2_with fail
    refine (HS.out _).mono ?_
    rintro e w2 ⟨rfl, g2⟩
    go_wp2_with fail
    refine (HT.out _).mono ?_
    rintro e w3 ⟨rfl, g3⟩
    have g : Hid _ := grown_trans g2 g3
    clear g2 g3
    go_wp2_with fail
    refine (HB.out _).mono ?_
    rintro e w4 ⟨rfl, rfl⟩
    go_wp2_with fail
    all_goals
      go_ret
      exact ⟨by simp [*], g.out⟩
end Go.Proofs.Ytnjkjmkhpdioaaa.fixw
