import Derived.Test.YtgkhnjmbmbebiaaLm
import Derived.Test.YtgkhnjmbmbebiaaTl
import Derived.Test.YtgkhnjmbmbebiaaMj
namespace Go.Proofs.Ytgkhnjmbmbebiaa.co
open Go.RowKit Go.PlainAid
open Go.Proofs.Ytgkhnjmbmbebiaa.ca Go.Proofs.Ytgkhnjmbmbebiaa.cb Go.Proofs.Ytgkhnjmbmbebiaa.cp Go.Proofs.Ytgkhnjmbmbebiaa.ga Go.Proofs.Ytgkhnjmbmbebiaa.aa Go.Proofs.Ytgkhnjmbmbebiaa.ba Go.Proofs.Ytgkhnjmbmbebiaa.bb Go.Proofs.Ytgkhnjmbmbebiaa.kp Go.Proofs.Ytgkhnjmbmbebiaa.lk Go.Proofs.Ytgkhnjmbmbebiaa.mi Go.Proofs.Ytgkhnjmbmbebiaa.mj Go.Proofs.Ytgkhnjmbmbebiaa.lm Go.Proofs.Ytgkhnjmbmbebiaa.tl
set_option linter.unusedVariables false

-- what is refused, and how many hashes there are
def ref9 (kind a b n : Int) (xs : List Int) : Int :=
  if kind < 1 ∨ 4 < kind then 110 else if n < 0 ∨ 4611686018427387904 < n then 80 else
  if kind = 1 then (if a < 0 ∨ n ≤ a then 81 else 0) else if kind = 2 then (if a < 0 ∨ n < a then 80 else 0) else
  if kind = 3 then (if a < 0 ∨ b ≤ a ∨ n < b then 81 else 0) else places xs n
def num9 (kind a b n : Int) (xs : List Int) : Nat :=
  if kind = 1 then (WL (lkI a.toNat) 0 n.toNat).length else if kind = 2 then (if a = 0 then 0 else (WL (lkC a.toNat) 0 n.toNat).length) else
  if kind = 3 then (WL (lkR a.toNat b.toNat) 0 n.toNat).length else (WL (lkM (natL xs)) 0 n.toNat).length
def cnt9 (kind a b n : Int) (xs : List Int) : Int × Int := if ref9 kind a b n xs = 0 then (((num9 kind a b n xs : Nat) : Int), 0) else (0, ref9 kind a b n xs)
set_option maxHeartbeats 1600000 in
theorem refuseC (kind a b n : Int) (v : Value) (xs : List Int) (w : World) (hR : ReadsI w v xs) (hz : xs.length ≤ 140737488355328) :
    Calls Try.prog 12 #[.int .i64 kind, .int .i64 a, .int .i64 b, .int .i64 n, v] w fun e w' => e = .returned (.int .i64 (ref9 kind a b n xs)) ∧ w' = w := by
  have PC : Hid (Calls _ _ _ _ _) := checkP v xs n w hR hz
  obtain ⟨r, HR⟩ : ∃ r, Hid (ref9 kind a b n xs = r) := ⟨_, rfl⟩
  rw [HR.out]
  have hr := HR.out
  unfold ref9 at hr
  clear hR
  by_cases k1 : kind < 1
  · obtain rfl : 110 = r := by rw [← hr, if_pos (.inl k1)]
    have d1 : decide (kind < 1) = true := decide_eq_true k1
    clear hr k1
    go_enter Try.func12, Try.ntmps12
    go_wp2
    go_ret
    exact ⟨rfl, rfl⟩
  have d1 : decide (kind < 1) = false := decide_eq_false k1
  by_cases k2 : 4 < kind
  · obtain rfl : 110 = r := by rw [← hr, if_pos (.inr k2)]
    have d2 : decide (4 < kind) = true := decide_eq_true k2
    clear hr k1 k2
    go_enter Try.func12, Try.ntmps12
    go_wp2
    go_ret
    exact ⟨rfl, rfl⟩
  have d2 : decide (4 < kind) = false := decide_eq_false k2
  rw [if_neg (by omega)] at hr
  by_cases n1 : n < 0
  · obtain rfl : 80 = r := by rw [← hr, if_pos (.inl n1)]
    have d3 : decide (n < 0) = true := decide_eq_true n1
    clear hr k1 k2 n1
    go_enter Try.func12, Try.ntmps12
    go_wp2
    go_ret
    exact ⟨rfl, rfl⟩
  have d3 : decide (n < 0) = false := decide_eq_false n1
  by_cases n2 : 4611686018427387904 < n
  · obtain rfl : 80 = r := by rw [← hr, if_pos (.inr n2)]
    have d4 : decide (4611686018427387904 < n) = true := decide_eq_true n2
    clear hr k1 k2 n1 n2
    go_enter Try.func12, Try.ntmps12
    go_wp2
    go_ret
    exact ⟨rfl, rfl⟩
  have d4 : decide (4611686018427387904 < n) = false := decide_eq_false n2
  rw [if_neg (by omega)] at hr
  rcases (show kind = 1 ∨ kind = 2 ∨ kind = 3 ∨ kind = 4 by omega) with rfl | rfl | rfl | rfl
  · rw [if_pos rfl] at hr
    by_cases a1 : a < 0
    · obtain rfl : 81 = r := by rw [← hr, if_pos (.inl a1)]
      have d5 : decide (a < 0) = true := decide_eq_true a1
      clear hr k1 k2 n1 n2 a1
      go_enter Try.func12, Try.ntmps12
      go_wp2
      go_ret
      exact ⟨rfl, rfl⟩
    have d5 : decide (a < 0) = false := decide_eq_false a1
    by_cases a2 : n ≤ a
    · obtain rfl : 81 = r := by rw [← hr, if_pos (.inr a2)]
      have d6 : decide (n ≤ a) = true := decide_eq_true a2
      clear hr k1 k2 n1 n2 a1 a2
      go_enter Try.func12, Try.ntmps12
      go_wp2
      go_ret
      exact ⟨rfl, rfl⟩
    have d6 : decide (n ≤ a) = false := decide_eq_false a2
    obtain rfl : 0 = r := by rw [← hr, if_neg (by omega)]
    clear hr k1 k2 n1 n2 a1 a2
    go_enter Try.func12, Try.ntmps12
    go_wp2
    go_ret
    exact ⟨rfl, rfl⟩
  · rw [if_neg (by omega), if_pos rfl] at hr
    by_cases a1 : a < 0
    · obtain rfl : 80 = r := by rw [← hr, if_pos (.inl a1)]
      have d5 : decide (a < 0) = true := decide_eq_true a1
      clear hr k1 k2 n1 n2 a1
      go_enter Try.func12, Try.ntmps12
      go_wp2
      go_ret
      exact ⟨rfl, rfl⟩
    have d5 : decide (a < 0) = false := decide_eq_false a1
    by_cases a2 : n < a
    · obtain rfl : 80 = r := by rw [← hr, if_pos (.inr a2)]
      have d6 : decide (n < a) = true := decide_eq_true a2
      clear hr k1 k2 n1 n2 a1 a2
      go_enter Try.func12, Try.ntmps12
      go_wp2
      go_ret
      exact ⟨rfl, rfl⟩
    have d6 : decide (n < a) = false := decide_eq_false a2
    obtain rfl : 0 = r := by rw [← hr, if_neg (by omega)]
    clear hr k1 k2 n1 n2 a1 a2
    go_enter Try.func12, Try.ntmps12
    go_wp2
    go_ret
    exact ⟨rfl, rfl⟩
  · rw [if_neg (by omega), if_neg (by omega), if_pos rfl] at hr
    by_cases a1 : a < 0
    · obtain rfl : 81 = r := by rw [← hr, if_pos (.inl a1)]
      have d5 : decide (a < 0) = true := decide_eq_true a1
      clear hr k1 k2 n1 n2 a1
      go_enter Try.func12, Try.ntmps12
      go_wp2
      go_ret
      exact ⟨rfl, rfl⟩
    have d5 : decide (a < 0) = false := decide_eq_false a1
    by_cases a2 : b ≤ a
    · obtain rfl : 81 = r := by rw [← hr, if_pos (.inr (.inl a2))]
      have d6 : decide (b ≤ a) = true := decide_eq_true a2
      clear hr k1 k2 n1 n2 a1 a2
      go_enter Try.func12, Try.ntmps12
      go_wp2
      go_ret
      exact ⟨rfl, rfl⟩
    have d6 : decide (b ≤ a) = false := decide_eq_false a2
    by_cases a3 : n < b
    · obtain rfl : 81 = r := by rw [← hr, if_pos (.inr (.inr a3))]
      have d7 : decide (n < b) = true := decide_eq_true a3
      clear hr k1 k2 n1 n2 a1 a2 a3
      go_enter Try.func12, Try.ntmps12
      go_wp2
      go_ret
      exact ⟨rfl, rfl⟩
    have d7 : decide (n < b) = false := decide_eq_false a3
    obtain rfl : 0 = r := by rw [← hr, if_neg (by omega)]
    clear hr k1 k2 n1 n2 a1 a2 a3
    go_enter Try.func12, Try.ntmps12
    go_wp2
    go_ret
    exact ⟨rfl, rfl⟩
  · rw [if_neg (by omega), if_neg (by omega), if_neg (by omega)] at hr
    rw [hr] at PC
    clear hr k1 k2 n1 n2
    go_enter Try.func12, Try.ntmps12
    go_wp2_with fail
    refine PC.out.mono ?_
    rintro e w1 ⟨rfl, rfl⟩
    go_wp2
    go_ret
    exact ⟨rfl, rfl⟩
-- the shapes are made
theorem inclusionC (i : Int) (w : World) : Calls Try.prog 25 #[.int .i64 i] w fun e w' => e = .returned (.func (.func 33) #[] #[.pointer (some ⟨w.heap.size, 0, none⟩)]) ∧ w' = w.alloc (.cells #[.int .i64 i] 3) := by
  go_enter Try.func25, Try.ntmps25
  go_wp2
  go_ret
  exact ⟨rfl, rfl⟩
theorem consistencyC (m : Int) (w : World) : Calls Try.prog 26 #[.int .i64 m] w fun e w' => e = .returned (.func (.func 37) #[] #[.pointer (some ⟨w.heap.size, 0, none⟩), .pointer (some ⟨w.heap.size + 1, 0, none⟩)]) ∧ w' = (w.alloc (.cells #[.int .i64 m] 3)).alloc (.cells #[.int .i64 0, .int .i64 m] 47) := by
  go_enter Try.func26, Try.ntmps26
  go_wp2
  go_ret
  exact ⟨by simp, rfl⟩
theorem rangedC (lo hi : Int) (w : World) : Calls Try.prog 27 #[.int .i64 lo, .int .i64 hi] w fun e w' => e = .returned (.func (.func 38) #[] #[.pointer (some ⟨w.heap.size, 0, none⟩), .pointer (some ⟨w.heap.size + 1, 0, none⟩)]) ∧ w' = (w.alloc (.cells #[.int .i64 lo] 3)).alloc (.cells #[.int .i64 hi] 3) := by
  go_enter Try.func27, Try.ntmps27
  go_wp2
  go_ret
  exact ⟨by simp, rfl⟩
theorem multiC (a : Option Addr) (l c : Nat) (w : World) : Calls Try.prog 28 #[.slice a l c] w fun e w' => e = .returned (.func (.func 39) #[] #[.pointer (some ⟨w.heap.size, 0, none⟩)]) ∧ w' = w.alloc (.cells #[.slice a l c] 22) := by
  go_enter Try.func28, Try.ntmps28
  go_wp2
  go_ret
  exact ⟨rfl, rfl⟩
end Go.Proofs.Ytgkhnjmbmbebiaa.co
