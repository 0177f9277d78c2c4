import Derived.Test.YtgkhnjmbmbebiaaCn
import Derived.Test.YtgkhnjmbmbebiaaAe
namespace Go.Proofs.Ytgkhnjmbmbebiaa.sr
open Go.RowKit Go.PlainAid
open Go.Proofs.Ytgkhnjmbmbebiaa.ca Go.Proofs.Ytgkhnjmbmbebiaa.cb Go.Proofs.Ytgkhnjmbmbebiaa.cp Go.Proofs.Ytgkhnjmbmbebiaa.ga Go.Proofs.Ytgkhnjmbmbebiaa.aa Go.Proofs.Ytgkhnjmbmbebiaa.ab Go.Proofs.Ytgkhnjmbmbebiaa.ae Go.Proofs.Ytgkhnjmbmbebiaa.xa Go.Proofs.Ytgkhnjmbmbebiaa.xb Go.Proofs.Ytgkhnjmbmbebiaa.xc Go.Proofs.Ytgkhnjmbmbebiaa.mi Go.Proofs.Ytgkhnjmbmbebiaa.lm Go.Proofs.Ytgkhnjmbmbebiaa.co Go.Proofs.Ytgkhnjmbmbebiaa.cn
set_option linter.unusedVariables false

def cl2 (n : Nat) : Nat := Lib.bitLen (n - 1)
theorem cl2_spec {n : Nat} (h : 1 ≤ n) (hn : n ≤ 4611686018427387904) : cl2 n ≤ 62 ∧ n ≤ 2 ^ cl2 n ∧ (n = 1 ∨ (1 ≤ cl2 n ∧ 2 ^ (cl2 n - 1) < n)) := by
  unfold cl2
  obtain ⟨h1, h2⟩ := len_spec (n - 1) (by omega)
  refine ⟨?_, by omega, ?_⟩
  · rcases Nat.eq_or_lt_of_le h with e | e
    · rw [← e, Nat.sub_self, bitLen_zero]; omega
    · obtain ⟨g1, g2⟩ := h2 (by omega)
      refine Nat.le_of_not_lt fun g => ?_
      have : 2 ^ 62 ≤ 2 ^ (Lib.bitLen (n - 1) - 1) := Nat.pow_le_pow_right (by decide) (by omega)
      have e62 : (2 : Nat) ^ 62 = 4611686018427387904 := by decide
      omega
  · rcases Nat.eq_or_lt_of_le h with e | e
    · exact .inl e.symm
    · obtain ⟨g1, g2⟩ := h2 (by omega)
      exact .inr ⟨g2, by omega⟩
-- the ceiling of whatever number
def clI (n : Int) : Int := if n ≤ 1 then 0 else (Lib.bitLen (n - 1).toNat : Nat)
theorem clI_is {n : Nat} (h : 1 ≤ n) : clI n = (cl2 n : Nat) := by
  unfold clI cl2
  by_cases h1 : n = 1
  · subst h1; rw [if_pos (by omega), show 1 - 1 = 0 from rfl, bitLen_zero]; rfl
  · rw [if_neg (by omega), show ((n : Int) - 1).toNat = n - 1 by omega]
theorem clI_zero : clI 0 = 0 := rfl
theorem ceilI (n : Int) (hn : i64 n) (w : World) : Calls Try.prog 6 #[.int .i64 n] w fun e w' => e = .returned (.int .i64 (clI n)) ∧ w' = w := by
  obtain ⟨n1, n2⟩ := hn
  by_cases h1 : n ≤ 1
  · rw [show clI n = 0 by unfold clI; rw [if_pos h1]]
    have d1 : decide (n ≤ 1) = true := decide_eq_true h1
    clear h1
    go_enter Try.func6, Try.ntmps6
    go_wp2
    go_ret
    exact ⟨by first | rfl | simp, rfl⟩
  · have BC : Hid (∀ w, Calls _ _ _ _ _) := fun w => bits_any (n - 1) w (by omega) (by omega)
    have d1 : decide (n ≤ 1) = false := decide_eq_false h1
    rw [show clI n = (Lib.bitLen (n - 1).toNat : Nat) by unfold clI; rw [if_neg h1]]
    obtain ⟨r, HR⟩ : ∃ r, Hid (Lib.bitLen (n - 1).toNat = r) := ⟨_, rfl⟩
    rw [HR.out] at BC ⊢
    go_enter Try.func6, Try.ntmps6
    go_wp2_with fail
    refine (BC.out _).mono ?_
    rintro e w1 ⟨rfl, rfl⟩
    go_wp2
    go_ret
    exact ⟨rfl, rfl⟩
-- how many at most
theorem ref_n {kind a b n : Int} {xs : List Int} (h : ref9 kind a b n xs = 0) : 0 ≤ n ∧ n ≤ 4611686018427387904 := by
  unfold ref9 at h
  by_cases k1 : kind < 1 ∨ 4 < kind
  · rw [if_pos k1] at h; omega
  rw [if_neg k1] at h
  by_cases k2 : n < 0 ∨ 4611686018427387904 < n
  · rw [if_pos k2] at h; omega
  omega
theorem most2 {a n : Int} (h : ref9 2 a 0 n [] = 0) : ((num9 2 a 0 n [] : Nat) : Int) ≤ clI n + 1 ∧ clI n ≤ 62 ∧ 0 ≤ clI n := by
  obtain ⟨n1, n2⟩ := ref_n h
  obtain ⟨N, rfl⟩ : ∃ N : Nat, n = N := ⟨n.toNat, by omega⟩
  unfold ref9 at h
  rw [if_neg (by omega), if_neg (by omega), if_neg (by omega), if_pos rfl] at h
  by_cases g : a < 0 ∨ (N : Int) < a
  · rw [if_pos g] at h; omega
  obtain ⟨A, rfl⟩ : ∃ A : Nat, a = A := ⟨a.toNat, by omega⟩
  unfold num9
  rw [if_neg (by omega), if_pos rfl, Int.toNat_natCast, Int.toNat_natCast]
  by_cases hN : N = 0
  · subst hN
    rw [if_pos (by omega)]
    simp [clI]
  · have hc := cl2_spec (n := N) (by omega) (by omega)
    rw [clI_is (by omega)]
    by_cases hA : A = 0
    · rw [if_pos (by omega)]; omega
    · rw [if_neg (by omega)]
      have := cons_len A (cl2 N) 0 N (by omega) (by omega) (by omega)
      omega
theorem most3 {a b n : Int} (h : ref9 3 a b n [] = 0) : ((num9 3 a b n [] : Nat) : Int) ≤ 2 * clI n ∧ clI n ≤ 62 ∧ 0 ≤ clI n := by
  obtain ⟨n1, n2⟩ := ref_n h
  obtain ⟨N, rfl⟩ : ∃ N : Nat, n = N := ⟨n.toNat, by omega⟩
  unfold ref9 at h
  rw [if_neg (by omega), if_neg (by omega), if_neg (by omega), if_neg (by omega), if_pos rfl] at h
  by_cases g : a < 0 ∨ b ≤ a ∨ (N : Int) < b
  · rw [if_pos g] at h; omega
  obtain ⟨A, rfl⟩ : ∃ A : Nat, a = A := ⟨a.toNat, by omega⟩
  obtain ⟨B, rfl⟩ : ∃ B : Nat, b = B := ⟨b.toNat, by omega⟩
  have hc := cl2_spec (n := N) (by omega) (by omega)
  rw [clI_is (by omega)]
  unfold num9
  rw [if_neg (by omega), if_neg (by omega), if_pos rfl, Int.toNat_natCast, Int.toNat_natCast, Int.toNat_natCast]
  have := out_len A B (cl2 N) 0 N (by omega) (by omega) (by omega) (by omega)
  omega
theorem most4 {n : Int} {xs : List Int} (h : ref9 4 0 0 n xs = 0) : ((num9 4 0 0 n xs : Nat) : Int) ≤ xs.length * clI n ∧ clI n ≤ 62 ∧ 0 ≤ clI n ∧ xs.length ≤ 1024 := by
  obtain ⟨n1, n2⟩ := ref_n h
  obtain ⟨N, rfl⟩ : ∃ N : Nat, n = N := ⟨n.toNat, by omega⟩
  unfold ref9 at h
  rw [if_neg (by omega), if_neg (by omega), if_neg (by omega), if_neg (by omega), if_neg (by omega)] at h
  obtain ⟨z1, z2, z3, z4⟩ := places_ok h
  have hN : 1 ≤ N := by have := z3 0 (by omega); omega
  have hc := cl2_spec (n := N) hN (by omega)
  rw [clI_is hN]
  unfold num9
  rw [if_neg (by omega), if_neg (by omega), if_neg (by omega), Int.toNat_natCast]
  have hne : inM (natL xs) 0 N ≠ [] := by
    intro e
    refine (inM_nil _ _ _).1 e ?_
    have h0 := z3 0 (by omega)
    exact ⟨_, natL_mem (j := 0) (by omega), by omega, by omega⟩
  have hl := multi_len (natL xs) (cl2 N) 0 N (by omega) (by omega) hne
  have h5 : (inM (natL xs) 0 N).length ≤ xs.length := by
    unfold inM
    refine Nat.le_trans (List.length_filter_le _ _) ?_
    unfold natL
    rw [List.length_map]
    exact Nat.le_refl _
  have h6 := Nat.le_trans hl (Nat.mul_le_mul_right _ h5)
  refine ⟨by exact_mod_cast h6, by omega, by omega, z2⟩
-- one leaf, three ways
theorem alike {a n : Int} (h : ref9 1 a 0 n [] = 0) : 0 ≤ a ∧ a < n ∧ n ≤ 4611686018427387904 ∧ ref9 3 a (a + 1) n [] = 0 ∧ ref9 4 0 0 n [a] = 0 ∧ num9 3 a (a + 1) n [] = num9 1 a 0 n [] ∧ num9 4 0 0 n [a] = num9 1 a 0 n [] := by
  obtain ⟨n1, n2⟩ := ref_n h
  obtain ⟨N, rfl⟩ : ∃ N : Nat, n = N := ⟨n.toNat, by omega⟩
  unfold ref9 at h
  rw [if_neg (by omega), if_neg (by omega), if_pos rfl] at h
  by_cases g : a < 0 ∨ (N : Int) ≤ a
  · rw [if_pos g] at h; omega
  obtain ⟨A, rfl⟩ : ∃ A : Nat, a = A := ⟨a.toNat, by omega⟩
  have hp := (incl_multi A N 0 N rfl (by omega)).length_eq
  refine ⟨by omega, by omega, by omega, ?_, ?_, ?_, ?_⟩
  · unfold ref9
    rw [if_neg (by omega), if_neg (by omega), if_neg (by omega), if_neg (by omega), if_pos rfl, if_neg (by omega)]
  · unfold ref9
    rw [if_neg (by omega), if_neg (by omega), if_neg (by omega), if_neg (by omega), if_neg (by omega)]
    simp [places, scan, bad]
    omega
  · unfold num9
    rw [if_neg (by omega), if_neg (by omega), if_pos rfl, if_pos rfl, show ((A : Int) + 1).toNat = A + 1 by omega, Int.toNat_natCast, Int.toNat_natCast, range_multi [A] A (A + 1) (by omega) (fun p => by simp; omega) N 0 N rfl (by omega), hp]
  · unfold num9
    rw [if_neg (by omega), if_neg (by omega), if_neg (by omega), if_pos rfl, Int.toNat_natCast, Int.toNat_natCast, hp]
    unfold natL
    rw [List.map_cons, Int.toNat_natCast, List.map_nil]
end Go.Proofs.Ytgkhnjmbmbebiaa.sr
