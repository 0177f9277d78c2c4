import Derived.RangeFuncNested
import Derived.RangeFuncBound
import Derived.RangeFuncCalls
import Derived.RangeFuncLeaves
import Derived.RangeFuncBox
import Derived.Shelf.Abstract
import Derived.Shelf.RegionOpen
import Derived.OwnWalkIn
import Derived.TacticsInMore
import Derived.LoopNIn
import Derived.LoopIn
import Derived.Sort.QuietIn
import Derived.Maps.AppendAt
import Derived.Test.YtoakkoalkpfkmaaCp
import Derived.Test.YtoakkoalkpfkmaaD1
namespace Go.Proofs.Ytoakkoalkpfkmaa.d2
open Go.RowKit Go.PlainAid Go.Shelf
open Go.Proofs.Ytoakkoalkpfkmaa.ca Go.Proofs.Ytoakkoalkpfkmaa.cp Go.Proofs.Ytoakkoalkpfkmaa.d1
set_option linter.unusedVariables false

theorem full8 (k : Nat) (hk : k ≤ 62) (w : World) : Calls Try.prog 12 #[.int .i64 (k : Int)] w fun e w' => e = .returned (.int .i64 ((2 ^ k : Nat) : Int)) ∧ w' = w := by
  have hp : IntKind.i64.wrap ((2 : Int) ^ k) = ((2 ^ k : Nat) : Int) := by
    have := pow_int hk
    rwa [Int.toNat_natCast, Nat.min_eq_left (by omega), Int.one_mul] at this
  have d0 : decide ((k : Int) < 0) = false := decide_eq_false (by omega)
  go_enter Try.func12, Try.ntmps12
  go_wp2
  go_ret
  exact ⟨rfl, rfl⟩
theorem high8 (h : Int) (w : World) : Calls Try.prog 8 #[.int .i64 h] w fun e w' => e = .returned (.bool (decide (1 ≤ h) && decide (h ≤ 8))) ∧ w' = w := by
  by_cases h1 : (1 : Int) ≤ h
  · have d1 : decide ((1 : Int) ≤ h) = true := decide_eq_true h1
    clear h1
    go_enter Try.func8, Try.ntmps8
    go_wp2
    go_ret
    exact ⟨by rw [d1]; rfl, rfl⟩
  · have d1 : decide ((1 : Int) ≤ h) = false := decide_eq_false h1
    clear h1
    go_enter Try.func8, Try.ntmps8
    go_wp2
    go_ret
    exact ⟨by rw [d1]; rfl, rfl⟩
theorem size8 (n : Int) (w : World) : Calls Try.prog 9 #[.int .i64 n] w fun e w' => e = .returned (.bool (decide (0 ≤ n) && decide (n ≤ 4611686018427387904))) ∧ w' = w := by
  by_cases h1 : (0 : Int) ≤ n
  · have d1 : decide ((0 : Int) ≤ n) = true := decide_eq_true h1
    clear h1
    go_enter Try.func9, Try.ntmps9
    go_wp2
    go_ret
    exact ⟨by rw [d1]; rfl, rfl⟩
  · have d1 : decide ((0 : Int) ≤ n) = false := decide_eq_false h1
    clear h1
    go_enter Try.func9, Try.ntmps9
    go_wp2
    go_ret
    exact ⟨by rw [d1]; rfl, rfl⟩
theorem box4d (w w' : World) (a b c d : Value) (t : TypeId) (h : Below (w.heap.size + 1) (w.alloc (.cells #[a, b, c, d] t)) w') : w'.cell? ⟨w.heap.size, 0, none⟩ = some a ∧ w'.cell? ⟨w.heap.size, 1, none⟩ = some b ∧ w'.cell? ⟨w.heap.size, 2, none⟩ = some c ∧ w'.cell? ⟨w.heap.size, 3, none⟩ = some d := by
  have hA := heap_alloc_new w (.cells #[a, b, c, d] t)
  have hA2 := (h.block w.heap.size (by omega)).trans hA
  exact ⟨by rw [cell_of_row _ _ 0 _ _ _ hA2]; rfl, by rw [cell_of_row _ _ 1 _ _ _ hA2]; rfl, by rw [cell_of_row _ _ 2 _ _ _ hA2]; rfl, by rw [cell_of_row _ _ 3 _ _ _ hA2]; rfl⟩
def tl (t : Tl) : Value := .agg #[.int .i64 t.1, .int .i64 t.2.1, .int .i64 t.2.2.1, .int .i64 t.2.2.2]
set_option maxHeartbeats 1600000 in
theorem partial8 (k l m : Nat) (hk0 : 1 ≤ k) (hk : k ≤ 8) (hl : l ≤ 62) (hm : m ≤ 4611686018427387904) (w : World) : Calls Try.prog 13 #[.int .i64 (k : Int), .int .i64 (l : Int), .int .i64 (m : Int)] w fun e w' => e = .returned (.tuple #[tl ((k : Int), (l : Int), ((m / 2 ^ k : Nat) : Int), ((m % 2 ^ k : Nat) : Int)), .bool (decide (0 < m % 2 ^ k))]) ∧ Below w.heap.size w w' := by
  have C : Hid (∀ w, Calls _ _ _ _ _) := fun w => full8 k (by omega) w
  have hF := p2 k
  have hF2 : 2 ^ k ≤ 256 := Nat.le_trans (p2le hk) (by decide)
  have hq : m / 2 ^ k ≤ m := Nat.div_le_self _ _
  have hr : m % 2 ^ k < 2 ^ k := Nat.mod_lt _ hF
  have eq' : ((m / 2 ^ k : Nat) : Int) = (m : Int) / ((2 ^ k : Nat) : Int) := Int.natCast_ediv _ _
  have er : ((m % 2 ^ k : Nat) : Int) = (m : Int) % ((2 ^ k : Nat) : Int) := Int.natCast_emod _ _
  have HD : Hid (decide (0 < m % 2 ^ k) = decide ((0 : Int) < ((m % 2 ^ k : Nat) : Int))) := by show _ = _; congr 1; rw [eq_iff_iff]; omega
  rw [HD.out]
  generalize m % 2 ^ k = r at *
  generalize m / 2 ^ k = q at *
  generalize 2 ^ k = F at *
  have hFi : (F : Int) ≠ 0 := by omega
  have ht : IntKind.i64.wrap (Int.tdiv (m : Int) (F : Int)) = (q : Int) := by rw [Int.tdiv_eq_ediv_of_nonneg (by omega), ← eq', IntKind.wrap_i64]; omega
  have hm' : IntKind.i64.wrap (Int.tmod (m : Int) (F : Int)) = (r : Int) := by rw [Int.tmod_eq_emod_of_nonneg (by omega), ← er, IntKind.wrap_i64]; omega
  have hb : ((F : Int) == 0) = false := beq_eq_false_iff_ne.2 hFi
  have hn : ((F : Int) != 0) = true := by rw [bne_iff_ne]; exact hFi
  clear HD
  go_enter Try.func13, Try.ntmps13
  go_wp2_with fail
  refine (C.out _).mono ?_
  rintro e w1 ⟨rfl, hw⟩
  subst hw
  go_wp2_with fail
  refine (C.out _).mono ?_
  rintro e w1 ⟨rfl, hw⟩
  subst hw
  go_wp2
  have G := box4d w _ (.int .i64 (k : Int)) (.int .i64 (l : Int)) (.int .i64 ((m : Int) / (F : Int))) (.int .i64 ((m : Int) % (F : Int))) 31 (Below.refl _ _)
  refine bodyPost_ret (by simp [results, Try.results13, go_sem, G.1, G.2.1, G.2.2.1, G.2.2.2]; try rfl) rfl ?_
  exact ⟨by rw [eq', er]; rfl, (Below.refl _ _).alloc (Nat.le_refl _) _⟩
end Go.Proofs.Ytoakkoalkpfkmaa.d2
