import Derived.Test.YtfbglffookacbaaGreatDoorA1
import Derived.Test.YtfbglffookacbaaGreatDoorCp
namespace Go.Proofs.YtfbglffookacbaaGreatDoor.a2
open Go.RowKit Go.PlainAid Go.Shelf
open Go.Proofs.YtfbglffookacbaaGreatDoor.ca Go.Proofs.YtfbglffookacbaaGreatDoor.cp Go.Proofs.YtfbglffookacbaaGreatDoor.a1
set_option linter.unusedVariables false
set_option maxRecDepth 4000

-- a tile in its box
theorem box4 (w w' : World) (a b c d : Value) (t : TypeId) (h : Below (w.heap.size + 1) (w.alloc (.cells #[a, b, c, d] t)) w') : w'.cell? ⟨w.heap.size, 0, none⟩ = some a ∧ w'.cell? ⟨w.heap.size, 1, none⟩ = some b ∧ w'.cell? ⟨w.heap.size, 2, none⟩ = some c ∧ w'.cell? ⟨w.heap.size, 3, none⟩ = some d := by
  have hA := heap_alloc_new w (.cells #[a, b, c, d] t)
  have hA2 := (h.block w.heap.size (by omega)).trans hA
  exact ⟨by rw [cell_of_row _ _ 0 _ _ _ hA2]; rfl, by rw [cell_of_row _ _ 1 _ _ _ hA2]; rfl, by rw [cell_of_row _ _ 2 _ _ _ hA2]; rfl, by rw [cell_of_row _ _ 3 _ _ _ hA2]; rfl⟩
theorem fullC (k : Nat) (hk : k ≤ 62) (w : World) : Calls Tryz.prog 14 #[.int .i64 (k : Int)] w fun e w' => e = .returned (.int .i64 ((2 ^ k : Nat) : Int)) ∧ w' = w := by
  have hp : IntKind.i64.wrap ((2 : Int) ^ k) = ((2 ^ k : Nat) : Int) := by
    have := pow_int hk
    rwa [Int.toNat_natCast, Nat.min_eq_left (by omega), Int.one_mul] at this
  have d0 : decide ((k : Int) < 0) = false := decide_eq_false (by omega)
  go_enter Tryz.func14, Tryz.ntmps14
  go_wp2
  go_ret
  exact ⟨rfl, rfl⟩
theorem highC (h : Int) (w : World) : Calls Tryz.prog 18 #[.int .i64 h] w fun e w' => e = .returned (.bool (decide (1 ≤ h) && decide (h ≤ 8))) ∧ w' = w := by
  by_cases h1 : (1 : Int) ≤ h
  · have d1 : decide ((1 : Int) ≤ h) = true := decide_eq_true h1
    clear h1
    go_enter Tryz.func18, Tryz.ntmps18
    go_wp2
    go_ret
    exact ⟨by rw [d1]; rfl, rfl⟩
  · have d1 : decide ((1 : Int) ≤ h) = false := decide_eq_false h1
    clear h1
    go_enter Tryz.func18, Tryz.ntmps18
    go_wp2
    go_ret
    exact ⟨by rw [d1]; rfl, rfl⟩
-- a product
def mulE (a : Int) (b : Nat) : Int × Int := if a < 0 then (0, 10) else if 9223372036854775807 < a * b then (0, 11) else (a * b, 0)
theorem over_div {a b : Nat} (h : 0 < a) : 9223372036854775807 / a < b ↔ 9223372036854775807 < a * b := by
  rw [Nat.div_lt_iff_lt_mul h, Nat.mul_comm]
theorem over_int {a y : Int} (h : 0 < a) (hy : 0 ≤ y) : 9223372036854775807 / a < y ↔ 9223372036854775807 < a * y := by
  obtain ⟨n, rfl⟩ : ∃ n : Nat, a = (n : Int) := ⟨a.toNat, by omega⟩
  obtain ⟨b, rfl⟩ : ∃ n : Nat, y = (n : Int) := ⟨y.toNat, by omega⟩
  have key := @over_div n b (by omega)
  have e0 : (9223372036854775807 : Int) / (n : Int) = ((9223372036854775807 / n : Nat) : Int) := rfl
  rw [e0, ← Int.natCast_mul]
  generalize 9223372036854775807 / n = q at *
  generalize n * b = p at *
  omega
theorem mulI (a y : Int) (a1 : -9223372036854775808 ≤ a) (a2 : a ≤ 9223372036854775807) (y0 : 0 ≤ y) (y1 : y ≤ 9223372036854775807) (w : World) : Calls Tryz.prog 19 #[.int .i64 a, .int .i64 y] w fun e w' => e = .returned (.tuple #[.int .i64 (if a < 0 then 0 else if 9223372036854775807 < a * y then 0 else a * y), .int .i64 (if a < 0 then 10 else if 9223372036854775807 < a * y then 11 else 0)]) ∧ w' = w := by
  by_cases h : a < 0
  · rw [if_pos h, if_pos h]
    go_enter Tryz.func19, Tryz.ntmps19
    go_wp2
    go_ret2
    exact ⟨rfl, rfl⟩
  · rw [if_neg h, if_neg h]
    have h2 : ¬ y < 0 := by omega
    by_cases h0 : 0 < a
    · have hn : (a != 0) = true := by rw [bne_iff_ne]; omega
      have hq0 : 0 ≤ 9223372036854775807 / a := Int.ediv_nonneg (by omega) (by omega)
      have hq1 : 9223372036854775807 / a ≤ 9223372036854775807 := Int.ediv_le_self _ (by omega)
      have key := over_int h0 y0
      by_cases h3 : 9223372036854775807 / a < y
      · have h4 := key.1 h3
        rw [if_pos h4, if_pos h4]
        clear key h4
        go_enter Tryz.func19, Tryz.ntmps19
        go_wp2
        go_ret2
        exact ⟨rfl, rfl⟩
      · have h4 : ¬ 9223372036854775807 < a * y := fun x => h3 (key.2 x)
        rw [if_neg h4, if_neg h4]
        have hp : 0 ≤ a * y := Int.mul_nonneg (by omega) y0
        have wr : IntKind.i64.wrap (a * y) = a * y := by
          rw [IntKind.wrap_i64]; omega
        clear key h4 hp
        go_enter Tryz.func19, Tryz.ntmps19
        go_wp2
        go_ret2
        exact ⟨rfl, rfl⟩
    · obtain rfl : a = 0 := by omega
      rw [Int.zero_mul, if_neg (by omega), if_neg (by omega)]
      go_enter Tryz.func19, Tryz.ntmps19
      go_wp2
      go_ret2
      exact ⟨rfl, rfl⟩
theorem mulC (a : Int) (ha : i64 a) (b : Nat) (hb : (b : Int) ≤ 9223372036854775807) (w : World) : Calls Tryz.prog 19 #[.int .i64 a, .int .i64 (b : Int)] w fun e w' => e = .returned (.tuple #[.int .i64 (mulE a b).1, .int .i64 (mulE a b).2]) ∧ w' = w := by
  have := mulI a b ha.1 ha.2 (by omega) hb w
  refine this.mono ?_
  rintro e w' ⟨rfl, rfl⟩
  refine ⟨?_, rfl⟩
  unfold mulE
  by_cases h : a < 0
  · simp only [if_pos h]
  · simp only [if_neg h]
    by_cases h' : 9223372036854775807 < a * b
    · simp only [if_pos h']
    · simp only [if_neg h']
-- the sum (none below 0)
theorem sumC (a b : Int) (ha : 0 ≤ a ∧ a ≤ 9223372036854775807) (hb : 0 ≤ b ∧ b ≤ 9223372036854775807) (w : World) : Calls Tryz.prog 33 #[.int .i64 a, .int .i64 b, .int .i64 9223372036854775807] w fun e w' => e = .returned (.tuple #[.int .i64 (if 9223372036854775807 - a < b then 0 else a + b), .int .i64 (if 9223372036854775807 - a < b then 11 else 0)]) ∧ w' = w := by
  have d1 : decide (9223372036854775807 < a) = false := decide_eq_false (by omega)
  have hw : IntKind.i64.wrap (9223372036854775807 - a) = 9223372036854775807 - a := by rw [IntKind.wrap_i64]; omega
  by_cases h : 9223372036854775807 - a < b
  · rw [if_pos h, if_pos h]
    have d2 : decide (9223372036854775807 - a < b) = true := decide_eq_true h
    clear h
    go_enter Tryz.func33, Tryz.ntmps33
    go_wp2
    go_ret2
    exact ⟨rfl, rfl⟩
  · rw [if_neg h, if_neg h]
    have d2 : decide (9223372036854775807 - a < b) = false := decide_eq_false h
    have hw2 : IntKind.i64.wrap (a + b) = a + b := by rw [IntKind.wrap_i64]; omega
    clear h
    go_enter Tryz.func33, Tryz.ntmps33
    go_wp2
    go_ret2
    exact ⟨rfl, rfl⟩
theorem addC (a b : Int) (ha : 0 ≤ a ∧ a ≤ 9223372036854775807) (hb : 0 ≤ b ∧ b ≤ 9223372036854775807) (w : World) : Calls Tryz.prog 20 #[.int .i64 a, .int .i64 b] w fun e w' => e = .returned (.tuple #[.int .i64 (if 9223372036854775807 - a < b then 0 else a + b), .int .i64 (if 9223372036854775807 - a < b then 11 else 0)]) ∧ w' = w := by
  have d1 : decide (a < 0) = false := decide_eq_false (by omega)
  have d2 : decide (b < 0) = false := decide_eq_false (by omega)
  have SC : Hid (∀ w, Calls _ _ _ _ _) := fun w => sumC a b ha hb w
  generalize (if 9223372036854775807 - a < b then (0 : Int) else a + b) = r at SC ⊢
  generalize (if 9223372036854775807 - a < b then (11 : Int) else 0) = q at SC ⊢
  clear ha hb
  go_enter Tryz.func20, Tryz.ntmps20
  go_wp2_with fail
  refine (SC.out _).mono ?_
  rintro e w1 ⟨rfl, rfl⟩
  go_wp2
  go_ret2
  exact ⟨rfl, rfl⟩
end Go.Proofs.YtfbglffookacbaaGreatDoor.a2
