import Derived.Test.YtgkhnjmbmbebiaaSr
import Derived.Test.YtgkhnjmbmbebiaaCv
namespace Go.Proofs.Ytgkhnjmbmbebiaa.ls
open Go.RowKit Go.PlainAid
open Go.Proofs.Ytgkhnjmbmbebiaa.cv Go.Proofs.Ytgkhnjmbmbebiaa.ca Go.Proofs.Ytgkhnjmbmbebiaa.cb Go.Proofs.Ytgkhnjmbmbebiaa.cp Go.Proofs.Ytgkhnjmbmbebiaa.ga Go.Proofs.Ytgkhnjmbmbebiaa.aa Go.Proofs.Ytgkhnjmbmbebiaa.mi Go.Proofs.Ytgkhnjmbmbebiaa.lm Go.Proofs.Ytgkhnjmbmbebiaa.co Go.Proofs.Ytgkhnjmbmbebiaa.cn Go.Proofs.Ytgkhnjmbmbebiaa.sr
set_option linter.unusedVariables false

theorem half7 : half 7 = 4 := by decide
theorem half4 : half 4 = 2 := by decide
theorem half2 : half 2 = 1 := by decide
theorem seven : cnt9 1 3 0 7 [] = (3, 0) := by
  have h : ref9 1 3 0 7 [] = 0 := by decide
  unfold cnt9
  rw [if_pos h]
  unfold num9
  rw [if_pos rfl, show (3 : Int).toNat = 3 from rfl, show (7 : Int).toNat = 7 from rfl, incl_is 3 7 0 7 rfl (by omega) (by omega), List.length_reverse,
    dnI_low (i := 3) (a := 0) (b := 7) (by omega) (by rw [half7]; omega), half7, dnI_high (i := 3) (a := 0) (b := 0 + 4) (by omega) (by rw [show 0 + 4 - 0 = 4 from rfl, half4]; omega), show 0 + 4 - 0 = 4 from rfl, half4,
    dnI_high (i := 3) (a := 0 + 2) (b := 0 + 4) (by omega) (by rw [show 0 + 4 - (0 + 2) = 2 from rfl, half2]; omega), show 0 + 4 - (0 + 2) = 2 from rfl, half2, dnI_one (by omega)]
  rfl
theorem reads_nil (w : World) : ReadsI w (.slice none 0 0) [] := ⟨none, 0, rfl, Nat.le_refl _, .inl rfl⟩
theorem begunC (w : World) : Calls Try.prog 5 #[] w fun e w' => e = .returned (.bool true) ∧ Below w.heap.size w w' := by
  have C : Hid (Calls _ _ _ _ _) := countC 1 3 0 7 (.slice none 0 0) [] w (reads_nil w) (by simp)
  rw [seven] at C
  go_enter Try.func5, Try.ntmps5
  go_wp2_with fail
  refine C.out.mono ?_
  rintro e w1 ⟨rfl, hb⟩
  have B : Hid (Below w.heap.size w w1) := hb
  clear hb
  go_wp2
  go_ret
  exact ⟨rfl, B.out⟩
theorem cnt_cases (kind a b n : Int) (xs : List Int) : (ref9 kind a b n xs = 0 ∧ cnt9 kind a b n xs = (((num9 kind a b n xs : Nat) : Int), 0)) ∨ (ref9 kind a b n xs ≠ 0 ∧ cnt9 kind a b n xs = (0, ref9 kind a b n xs)) := by
  by_cases h : ref9 kind a b n xs = 0
  · exact .inl ⟨h, by unfold cnt9; rw [if_pos h]⟩
  · exact .inr ⟨h, by unfold cnt9; rw [if_neg h]⟩
def Ans (c e top : Int) : Prop := ((e == 0) = true ∧ decide (c < 0) = false ∧ decide (top < c) = false ∧ -1000000 ≤ top ∧ top ≤ 1000000) ∨ (e == 0) = false
theorem ref_fits (kind a b n : Int) (xs : List Int) : ref9 kind a b n xs ≠ 0 → (ref9 kind a b n xs == 0) = false := fun h => by rw [beq_eq_false_iff_ne]; exact h
set_option maxHeartbeats 6400000 in
theorem short (a b n : Int) (v : Value) (xs : List Int) (ha : i64 a) (hb : i64 b) (hn : i64 n) (w : World) (hR : ReadsI w v xs) (hz : xs.length * 8 ≤ 140737488351232) :
    Calls Try.prog 3 #[.int .i64 a, .int .i64 b, .int .i64 n, v] w fun e w' => e = .returned (.bool true) ∧ Below w.heap.size w w' := by
  have BC : Hid (∀ w, Calls _ _ _ _ _) := fun w => begunC w
  have TC : Hid (∀ w, Calls _ _ _ _ _) := fun w => ceilI n hn w
  have C2 : Hid (∀ w, Calls _ _ _ _ _) := fun w => countC 2 a 0 n (.slice none 0 0) [] w (reads_nil w) (by simp)
  have C3 : Hid (∀ w, Calls _ _ _ _ _) := fun w => countC 3 a b n (.slice none 0 0) [] w (reads_nil w) (by simp)
  have C4 : Hid (∀ w, ReadsI w v xs → Calls _ _ _ _ _) := fun w h => countC 4 0 0 n v xs w h (by omega)
  have C1 : Hid (∀ w, Calls _ _ _ _ _) := fun w => countC 1 a 0 n (.slice none 0 0) [] w (reads_nil w) (by simp)
  have C5 : Hid (∀ w, Calls _ _ _ _ _) := fun w => countC 3 a (a + 1) n (.slice none 0 0) [] w (reads_nil w) (by simp)
  have C6 : Hid (∀ w v, ReadsI w v [a] → Calls _ _ _ _ _) := fun w v h => countC 4 0 0 n v [a] w h (by simp)
  have HR : Hid (ReadsI w v xs) := hR
  obtain ⟨va, vc, rfl, hvl, _⟩ := hR
  obtain ⟨l, HL⟩ : ∃ l, Hid (xs.length = l) := ⟨_, rfl⟩
  have A2 : Ans (cnt9 2 a 0 n []).1 (cnt9 2 a 0 n []).2 (clI n + 1) := by
    rcases cnt_cases 2 a 0 n [] with ⟨h, e⟩ | ⟨h, e⟩
    · rw [e]; obtain ⟨m1, m2, m3⟩ := most2 h; exact .inl ⟨rfl, decide_eq_false (by simp), decide_eq_false (by omega), by omega, by omega⟩
    · rw [e]; exact .inr (ref_fits _ _ _ _ _ h)
  have A3 : Ans (cnt9 3 a b n []).1 (cnt9 3 a b n []).2 (2 * clI n) := by
    rcases cnt_cases 3 a b n [] with ⟨h, e⟩ | ⟨h, e⟩
    · rw [e]; obtain ⟨m1, m2, m3⟩ := most3 h; exact .inl ⟨rfl, decide_eq_false (by simp), decide_eq_false (by omega), by omega, by omega⟩
    · rw [e]; exact .inr (ref_fits _ _ _ _ _ h)
  have A4 : Ans (cnt9 4 0 0 n xs).1 (cnt9 4 0 0 n xs).2 (l * clI n) := by
    rcases cnt_cases 4 0 0 n xs with ⟨h, e⟩ | ⟨h, e⟩
    · rw [e, ← HL.out]
      obtain ⟨m1, m2, m3, m4⟩ := most4 h
      have p1 : (xs.length : Int) * clI n ≤ 1024 * 62 := Int.mul_le_mul (by omega) m2 m3 (by omega)
      have p2 : 0 ≤ (xs.length : Int) * clI n := Int.mul_nonneg (by omega) m3
      exact .inl ⟨rfl, decide_eq_false (by simp), decide_eq_false (by omega), by omega, by omega⟩
    · rw [e]; exact .inr (ref_fits _ _ _ _ _ h)
  rw [HL.out] at HR C4 ⊢
  have A1 := cnt_cases 1 a 0 n []
  obtain ⟨c2, e2, H2⟩ : ∃ c e, Hid ((cnt9 2 a 0 n []).1 = c ∧ (cnt9 2 a 0 n []).2 = e) := ⟨_, _, ⟨rfl, rfl⟩⟩
  obtain ⟨c3, e3, H3⟩ : ∃ c e, Hid ((cnt9 3 a b n []).1 = c ∧ (cnt9 3 a b n []).2 = e) := ⟨_, _, ⟨rfl, rfl⟩⟩
  obtain ⟨c4, e4, H4⟩ : ∃ c e, Hid ((cnt9 4 0 0 n xs).1 = c ∧ (cnt9 4 0 0 n xs).2 = e) := ⟨_, _, ⟨rfl, rfl⟩⟩
  rw [H2.out.1, H2.out.2] at C2 A2
  rw [H3.out.1, H3.out.2] at C3 A3
  rw [H4.out.1, H4.out.2] at C4 A4
  obtain ⟨t, HT⟩ : ∃ t, Hid (clI n = t) := ⟨_, rfl⟩
  rw [HT.out] at TC A2 A3 A4
  have X2 : ((e2 == 0) = true ∧ decide (c2 < 0) = false ∧ decide (IntKind.i64.wrap (t + 1) < c2) = false) ∨ (e2 == 0) = false := by
    rcases A2 with ⟨q1, q2, q3, q4, q5⟩ | q
    · exact .inl ⟨q1, q2, by rw [show IntKind.i64.wrap (t + 1) = t + 1 by rw [IntKind.wrap_i64]; omega]; exact q3⟩
    · exact .inr q
  have X3 : ((e3 == 0) = true ∧ decide (c3 < 0) = false ∧ decide (IntKind.i64.wrap (2 * t) < c3) = false) ∨ (e3 == 0) = false := by
    rcases A3 with ⟨q1, q2, q3, q4, q5⟩ | q
    · exact .inl ⟨q1, q2, by rw [show IntKind.i64.wrap (2 * t) = 2 * t by rw [IntKind.wrap_i64]; omega]; exact q3⟩
    · exact .inr q
  have X4 : ((e4 == 0) = true ∧ decide (c4 < 0) = false ∧ decide (IntKind.i64.wrap ((l : Int) * t) < c4) = false) ∨ (e4 == 0) = false := by
    rcases A4 with ⟨q1, q2, q3, q4, q5⟩ | q
    · refine .inl ⟨q1, q2, ?_⟩
      obtain ⟨y, HY⟩ : ∃ y, (l : Int) * t = y := ⟨_, rfl⟩
      rw [HY] at q3 q4 q5 ⊢
      rw [show IntKind.i64.wrap y = y by rw [IntKind.wrap_i64]; omega]; exact q3
    · exact .inr q
  obtain ⟨t2, HT2⟩ : ∃ y, IntKind.i64.wrap (t + 1) = y := ⟨_, rfl⟩
  obtain ⟨t3, HT3⟩ : ∃ y, IntKind.i64.wrap (2 * t) = y := ⟨_, rfl⟩
  obtain ⟨t4, HT4⟩ : ∃ y, IntKind.i64.wrap ((l : Int) * t) = y := ⟨_, rfl⟩
  rw [HT2] at X2
  rw [HT3] at X3
  rw [HT4] at X4
  have HA1 : Hid (_ ∨ _) := A1
  have HAL : Hid (ref9 1 a 0 n [] = 0 → _) := alike (a := a) (n := n)
  clear A1 A2 A3 A4 H2 H3 H4 hz hvl
  have E1 : Hid ((ref9 1 a 0 n [] ≠ 0 → a < 0 ∨ n ≤ a ∨ 4611686018427387904 < n)) := fun h => by
    refine Classical.byContradiction fun g => h ?_
    unfold ref9
    rw [if_neg (by omega), if_neg (by omega), if_pos rfl, if_neg (by omega)]
  go_enter Try.func3, Try.ntmps3
  go_wp2_with fail
  refine (BC.out _).mono ?_
  rintro e w1 ⟨rfl, hb1⟩
  have B1 : Hid (Below w.heap.size w w1) := hb1
  clear hb1
  go_wp2_with fail
  refine (TC.out _).mono ?_
  rintro e w1' ⟨rfl, hw1⟩
  subst hw1
  go_wp2_with fail
  refine (C2.out _).mono ?_
  rintro e w2 ⟨rfl, hb2⟩
  have B2 : Hid (Below w.heap.size w w2) := over B1.out hb2
  clear hb2
  rcases X2 with ⟨x1, x2, x3⟩ | x1
  all_goals (
    go_wp2_with fail
    refine (C3.out _).mono ?_
    rintro e w3 ⟨rfl, hb3⟩
    have B3 : Hid (Below w.heap.size w w3) := over B2.out hb3
    clear hb3
    rcases X3 with ⟨x4, x5, x6⟩ | x4)
  all_goals (
    go_wp2_with fail
    refine (C4.out _ (HR.out.later B3.out)).mono ?_
    rintro e w4 ⟨rfl, hb4⟩
    have B4 : Hid (Below w.heap.size w w4) := over B3.out hb4
    clear hb4
    rcases X4 with ⟨x7, x8, x9⟩ | x7)
  all_goals (
    go_wp2_with fail
    refine (C1.out _).mono ?_
    rintro e w5 ⟨rfl, hb5⟩
    have B5 : Hid (Below w.heap.size w w5) := over B4.out hb5
    clear hb5
    rcases HA1.out with ⟨h1, e1⟩ | ⟨h1, e1⟩)
  all_goals (
    first
    | (have hr : (ref9 1 a 0 n [] == 0) = false := by rw [beq_eq_false_iff_ne]; exact h1
       have g := E1.out h1
       rw [e1]
       obtain ⟨r, HRR⟩ : ∃ r, ref9 1 a 0 n [] = r := ⟨_, rfl⟩
       rw [HRR] at hr ⊢
       clear h1 e1
       by_cases g1 : a < 0
       · have d1 : decide (a < 0) = true := decide_eq_true g1
         go_wp2
         go_ret
         exact ⟨by first | rfl | simp, B5.out⟩
       · have d1 : decide (a < 0) = false := decide_eq_false g1
         by_cases g2 : n ≤ a
         · have d2 : decide (n ≤ a) = true := decide_eq_true g2
           go_wp2
           go_ret
           exact ⟨by first | rfl | simp, B5.out⟩
         · have d2 : decide (n ≤ a) = false := decide_eq_false g2
           have d3 : decide (4611686018427387904 < n) = true := decide_eq_true (by omega)
           go_wp2
           go_ret
           exact ⟨by first | rfl | simp, B5.out⟩)
    | (obtain ⟨k1, k2, k3, k4, k5, k6, k7⟩ := HAL.out h1
       rw [e1]
       have hw : IntKind.i64.wrap (a + 1) = a + 1 := by rw [IntKind.wrap_i64]; omega
       have D5 : Hid (∀ w, Calls _ _ _ _ _) := C5.out
       have D6 : Hid (∀ w v, ReadsI w v [a] → Calls _ _ _ _ _) := C6.out
       have z5 : cnt9 3 a (a + 1) n [] = (((num9 1 a 0 n [] : Nat) : Int), 0) := by unfold cnt9; rw [if_pos k4, k6]
       have z6 : cnt9 4 0 0 n [a] = (((num9 1 a 0 n [] : Nat) : Int), 0) := by unfold cnt9; rw [if_pos k5, k7]
       rw [z5] at D5
       rw [z6] at D6
       obtain ⟨m, HM⟩ : ∃ m, num9 1 a 0 n [] = m := ⟨_, rfl⟩
       rw [HM] at D5 D6 ⊢
       clear h1 e1 z5 z6 k6 k7 C5 C6
       go_wp2_with fail
       refine (D5.out _).mono ?_
       rintro e w6 ⟨rfl, hb6⟩
       have B6 : Hid (Below w.heap.size w w6) := over B5.out hb6
       clear hb6
       go_wp2_with fail
       refine (D6.out _ _ ⟨_, 1, rfl, Nat.le_refl _, .inr ⟨w6.heap.size, 0, rfl, fun i hi => by
         obtain rfl : i = 0 := by simp at hi; omega
         rw [World.cell?_alloc_at _ _ _ _ rfl]; rfl⟩⟩).mono ?_
       rintro e w7 ⟨rfl, hb7⟩
       have B7 : Hid (Below w.heap.size w w7) := over (B6.out.alloc B6.out.size _) hb7
       clear hb7
       go_wp2
       go_ret
       exact ⟨by simp, B7.out⟩))
theorem short_walk (a : Int) (wa : (Lit.int .i64 a).wf = true) (b : Int) (wb : (Lit.int .i64 b).wf = true) (n : Int) (wn : (Lit.int .i64 n).wf = true) {w : World} (v : Value) (xs : List Int) (hR : ReadsI w v xs) (hno : ∀ k c, v = .slice none k c → c = 0) (hz : xs.length * 8 ≤ 140737488351232) :
    Calls Try.prog 3 #[.int .i64 a, .int .i64 b, .int .i64 n, v] w fun e w' => e = .returned (.bool true) ∧ Below w.heap.size w w' := short a b n v xs (i64_of wa) (i64_of wb) (i64_of wn) w hR hz
end Go.Proofs.Ytgkhnjmbmbebiaa.ls
