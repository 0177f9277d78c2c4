import Derived.Test.YtgkhnjmbmbebiaaCo
import Derived.Test.YtgkhnjmbmbebiaaMk
import Derived.Test.YtgkhnjmbmbebiaaTi
import Derived.Deep.DeepCutAuto
namespace Go.Proofs.Ytgkhnjmbmbebiaa.dc
open Go.RowKit Go.PlainAid
open Go.Proofs.Ytgkhnjmbmbebiaa.ca Go.Proofs.Ytgkhnjmbmbebiaa.cb Go.Proofs.Ytgkhnjmbmbebiaa.cp Go.Proofs.Ytgkhnjmbmbebiaa.ga Go.Proofs.Ytgkhnjmbmbebiaa.aa Go.Proofs.Ytgkhnjmbmbebiaa.ab Go.Proofs.Ytgkhnjmbmbebiaa.kp Go.Proofs.Ytgkhnjmbmbebiaa.lk Go.Proofs.Ytgkhnjmbmbebiaa.mi Go.Proofs.Ytgkhnjmbmbebiaa.mk Go.Proofs.Ytgkhnjmbmbebiaa.lm Go.Proofs.Ytgkhnjmbmbebiaa.tl Go.Proofs.Ytgkhnjmbmbebiaa.co Go.Proofs.Ytgkhnjmbmbebiaa.ti
set_option linter.unusedVariables false

theorem half_of {n t j : Nat} (hj : 2 ^ j = t) (h1 : t < n) (h2 : ¬ 2 * t < n) : half n = t := by
  rw [← hj]
  exact half_eq (by rw [hj]; exact h1) (by rw [p2s, hj]; omega)
theorem rSplit (n : Nat) (h : 2 ≤ n) (hn : n ≤ 4611686018427387904) (w : World) :
    Calls Try.prog 30 #[.int .i64 n] w fun e w' => e = .returned (.int .i64 (half n : Nat)) ∧ w' = w := by
  obtain ⟨d, HD⟩ : ∃ d, Hid ((n - 1) / 2 = d) := ⟨_, rfl⟩
  have hd2 : ((n : Int) - 1) / 2 = (d : Int) := by have := HD.out; omega
  go_enter Try.func30, Try.ntmps30
  go_wp2
  go_loopw [3] (fun k wr => ∃ (t j : Nat), k = .int .i64 t ∧ t < n ∧ Hid (2 ^ j = t) ∧ wr = w) (fun k _ => (n - intOf k).toNat)
  case atStart => exact ⟨1, 0, rfl, by omega, rfl, rfl⟩
  case round =>
    obtain ⟨t, j, rfl, ht, HJ, rfl⟩ := hrel
    have ht0 : 0 < t := by rw [← HJ.out]; exact p2 j
    by_cases hlt : t ≤ d
    · have hlt' : (t : Int) ≤ d := by omega
      have HJ2 : Hid (2 ^ (j + 1) = 2 * t) := by show _ = _; rw [p2s, HJ.out]
      have hlt2 : 2 * t < n := by have := HD.out; omega
      go_wp2
      go_roundw
      case rel => exact ⟨2 * t, j + 1, by go_num, hlt2, HJ2.out, by first | rfl | trivial⟩
      case measure => simp [intOf]; omega
    · have hlt' : ¬ (t : Int) ≤ d := by omega
      have HE : Hid (half n = t) := half_of HJ.out ht (by have := HD.out; omega)
      go_wp2
      go_ret
      exact ⟨by rw [HE.out]; rfl, by first | rfl | trivial⟩
-- lists that begin elsewhere are as long
theorem dnI_shift (n : Nat) : ∀ i a b, b - a = n → a ≤ i → i < b → (dnI i a b).length = (dnI (i - a) 0 (b - a)).length := by
  induction n using Nat.strongRecOn with
  | ind n ih =>
    intro i a b hn h1 h2
    by_cases h : 2 ≤ b - a
    · have hh := half_lt h
      by_cases hi : i < a + half (b - a)
      · rw [dnI_low h hi, dnI_low (i := i - a) (a := 0) (b := b - a) (by omega) (by rw [Nat.sub_zero]; omega), List.length_cons, List.length_cons, ih (half (b - a)) (by omega) i a (a + half (b - a)) (by omega) h1 hi]
        rw [Nat.sub_zero, Nat.zero_add, Nat.add_sub_cancel_left]
      · rw [dnI_high h hi, dnI_high (i := i - a) (a := 0) (b := b - a) (by omega) (by rw [Nat.sub_zero]; omega), List.length_cons, List.length_cons, ih (b - a - half (b - a)) (by omega) i (a + half (b - a)) b (by omega) (by omega) h2]
        rw [Nat.sub_zero, Nat.zero_add, ih (b - a - half (b - a)) (by omega) (i - a) (half (b - a)) (b - a) (by omega) (by omega) (by omega), show i - (a + half (b - a)) = i - a - half (b - a) by omega, show b - (a + half (b - a)) = b - a - half (b - a) by omega]
    · rw [dnI_one h, dnI_one (by omega)]
theorem subL_shift (n : Nat) : ∀ m a b wh, b - a = n → a < m → m ≤ b → (subL m a b wh).length = (subL (m - a) 0 (b - a) wh).length := by
  induction n using Nat.strongRecOn with
  | ind n ih =>
    intro m a b wh hn h1 h2
    by_cases hb : m = b
    · rw [subL_all hb, subL_all (by omega)]
      cases wh <;> rfl
    · have h : 2 ≤ b - a := by omega
      have hh := half_lt h
      by_cases hm : m ≤ a + half (b - a)
      · rw [subL_low hb h hm, subL_low (m := m - a) (a := 0) (b := b - a) (by omega) (by omega) (by rw [Nat.sub_zero]; omega), List.length_append, List.length_append, ih (half (b - a)) (by omega) m a (a + half (b - a)) wh (by omega) h1 hm]
        rw [Nat.sub_zero, Nat.zero_add, Nat.add_sub_cancel_left]
        rfl
      · rw [subL_high hb h hm, subL_high (m := m - a) (a := 0) (b := b - a) (by omega) (by omega) (by rw [Nat.sub_zero]; omega), List.length_append, List.length_append, ih (b - a - half (b - a)) (by omega) m (a + half (b - a)) b false (by omega) (by omega) h2]
        rw [Nat.sub_zero, Nat.zero_add, ih (b - a - half (b - a)) (by omega) (m - a) (half (b - a)) (b - a) false (by omega) (by omega) (by omega), show m - (a + half (b - a)) = m - a - half (b - a) by omega, show b - (a + half (b - a)) = b - a - half (b - a) by omega]
        rfl
def cI (i n : Nat) : Nat := (dnI i 0 n).length
def cG (m n : Nat) (wh : Bool) : Nat := (subL m 0 n wh).length
theorem cI_one {i n : Nat} (h : ¬ 2 ≤ n) : cI i n = 0 := by unfold cI; rw [dnI_one (by omega)]; rfl
theorem cI_low {i n : Nat} (h : 2 ≤ n) (hi : i < half n) : cI i n = cI i (half n) + 1 := by
  unfold cI
  rw [dnI_low (i := i) (a := 0) (b := n) (by omega) (by rw [Nat.sub_zero]; omega), List.length_cons, Nat.sub_zero, Nat.zero_add]
theorem cI_high {i n : Nat} (h : 2 ≤ n) (hn : i < n) (hi : ¬ i < half n) : cI i n = cI (i - half n) (n - half n) + 1 := by
  have hh := half_lt h
  unfold cI
  rw [dnI_high (i := i) (a := 0) (b := n) (by omega) (by rw [Nat.sub_zero]; omega), List.length_cons, Nat.sub_zero, Nat.zero_add, dnI_shift (n - half n) i (half n) n rfl (by omega) hn]
theorem cG_all {n : Nat} {wh : Bool} : cG n n wh = if wh then 0 else 1 := by unfold cG; rw [subL_all rfl]; cases wh <;> rfl
theorem cG_low {m n : Nat} {wh : Bool} (h1 : m ≠ n) (h2 : 2 ≤ n) (hm : m ≤ half n) : cG m n wh = cG m (half n) wh + 1 := by
  unfold cG
  rw [subL_low (m := m) (a := 0) (b := n) h1 (by omega) (by rw [Nat.sub_zero]; omega), List.length_append, Nat.sub_zero, Nat.zero_add]
  rfl
theorem cG_high {m n : Nat} {wh : Bool} (h0 : m ≤ n) (h1 : m ≠ n) (h2 : 2 ≤ n) (hm : ¬ m ≤ half n) : cG m n wh = cG (m - half n) (n - half n) false + 1 := by
  have hh := half_lt h2
  unfold cG
  rw [subL_high (m := m) (a := 0) (b := n) h1 (by omega) (by rw [Nat.sub_zero]; omega), List.length_append, Nat.sub_zero, Nat.zero_add, subL_shift (n - half n) m (half n) n false rfl (by omega) h0]
  rfl
theorem cI_is {i n : Nat} (h : i < n) : (WL (lkI i) 0 n).length = cI i n := by rw [incl_is i n 0 n rfl (Nat.zero_le _) h, List.length_reverse]; rfl
theorem cG_is {m n : Nat} (h0 : 1 ≤ m) (h : m ≤ n) : (WL (lkC m) 0 n).length = cG m n true := by rw [cons_is m n 0 n rfl (by omega) h]; rfl
theorem cI_le {i n : Nat} (h : i < n) (hn : n ≤ 4611686018427387904) : cI i n ≤ 62 := by
  rw [← cI_is h]
  exact incl_len i 62 0 n (by rw [p62]; omega) (Nat.zero_le _) h
set_option maxHeartbeats 1600000 in
theorem rIncl (i n : Nat) (h : i < n) (hn : n ≤ 4611686018427387904) (w : World) :
    Calls Try.prog 16 #[.int .i64 i, .int .i64 n] w fun e w' => e = .returned (.int .i64 (cI i n : Nat)) ∧ w' = w := by
  have hle := cI_le h hn
  obtain ⟨t, HT⟩ : ∃ t, Hid (cI i n = t) := ⟨_, rfl⟩
  rw [HT.out] at hle ⊢
  have HSP : Hid (∀ n w, 2 ≤ n → n ≤ 4611686018427387904 → Calls _ _ _ _ _) := fun n w h1 h2 => rSplit n h1 h2 w
  go_enter Try.func16, Try.ntmps16
  go_wp2
  go_loopw [0, 1, 5] (fun i' n' c wr => ∃ (I N C : Nat), i' = .int .i64 I ∧ n' = .int .i64 N ∧ c = .int .i64 C ∧ I < N ∧ N ≤ 4611686018427387904 ∧ Hid (C + cI I N = t) ∧ C ≤ t ∧ wr = w) (fun _ n' _ _ => (intOf n').toNat)
  case atStart => exact ⟨i, n, 0, rfl, rfl, rfl, h, hn, by show _ = _; rw [Nat.zero_add]; exact HT.out, Nat.zero_le _, rfl⟩
  case round =>
    obtain ⟨I, N, C, rfl, rfl, rfl, h1, h2, HS, hC, rfl⟩ := hrel
    by_cases hN : 2 ≤ N
    · have d1 : decide ((1 : Int) < N) = true := decide_eq_true (by omega)
      have hh := half_lt hN
      have SP : Hid (∀ w, Calls _ _ _ _ _) := fun w => HSP.out N w hN h2
      obtain ⟨k, HK⟩ : ∃ k, Hid (half N = k) := ⟨_, rfl⟩
      rw [HK.out] at SP hh
      by_cases hi : I < k
      · have d2 : decide ((I : Int) < k) = true := decide_eq_true (by omega)
        have H1 : Hid (C + 1 + cI I k = t) := by
          show _ = _
          have := cI_low (i := I) hN (by rw [HK.out]; exact hi)
          rw [HK.out] at this
          have := HS.out
          omega
        have hC1 : C + 1 ≤ t := by have := H1.out; omega
        go_wp2_with fail
        refine (SP.out _).mono ?_
        rintro e w1 ⟨rfl, hw⟩
        subst hw
        go_wp2
        go_roundw
        case rel => exact ⟨I, k, C + 1, rfl, rfl, by go_num, hi, by omega, H1.out, hC1, by first | rfl | trivial⟩
        case measure => simp [intOf]; omega
      · have d2 : decide ((I : Int) < k) = false := decide_eq_false (by omega)
        have H1 : Hid (C + 1 + cI (I - k) (N - k) = t) := by
          show _ = _
          have := cI_high (i := I) hN h1 (by rw [HK.out]; exact hi)
          rw [HK.out] at this
          have := HS.out
          omega
        have hC1 : C + 1 ≤ t := by have := H1.out; omega
        go_wp2_with fail
        refine (SP.out _).mono ?_
        rintro e w1 ⟨rfl, hw⟩
        subst hw
        go_wp2
        go_roundw
        case rel => exact ⟨I - k, N - k, C + 1, by go_num, by go_num, by go_num, by omega, by omega, H1.out, hC1, by first | rfl | trivial⟩
        case measure => simp [intOf]; omega
    · have d1 : decide ((1 : Int) < N) = false := decide_eq_false (by omega)
      have HE : Hid (C = t) := by
        show _ = _
        have := HS.out
        rw [cI_one hN] at this
        omega
      go_wp2
      go_ret
      exact ⟨by have z := HE.out; subst z; rfl, rfl⟩
theorem cG_le {m n : Nat} (h0 : 1 ≤ m) (h : m ≤ n) (hn : n ≤ 4611686018427387904) : cG m n true ≤ 63 := by
  rw [← cG_is h0 h]
  exact cons_len m 62 0 n (by rw [p62]; omega) h0 h
set_option maxHeartbeats 1600000 in
theorem rGrow (m n : Nat) (h0 : 1 ≤ m) (h : m ≤ n) (hn : n ≤ 4611686018427387904) (w : World) :
    Calls Try.prog 17 #[.int .i64 m, .int .i64 n] w fun e w' => e = .returned (.int .i64 (cG m n true : Nat)) ∧ w' = w := by
  have hle := cG_le h0 h hn
  obtain ⟨t, HT⟩ : ∃ t, Hid (cG m n true = t) := ⟨_, rfl⟩
  rw [HT.out] at hle ⊢
  have HSP : Hid (∀ n w, 2 ≤ n → n ≤ 4611686018427387904 → Calls _ _ _ _ _) := fun n w h1 h2 => rSplit n h1 h2 w
  go_enter Try.func17, Try.ntmps17
  go_wp2
  go_loopw [0, 1, 5, 6] (fun m' n' c wh wr => ∃ (M N C : Nat) (q : Bool), m' = .int .i64 M ∧ n' = .int .i64 N ∧ c = .int .i64 C ∧ wh = .bool q ∧ 1 ≤ M ∧ M ≤ N ∧ N ≤ 4611686018427387904 ∧ Hid (C + cG M N q = t) ∧ C ≤ t ∧ wr = w) (fun _ n' _ _ _ => (intOf n').toNat)
  case atStart => exact ⟨m, n, 0, true, rfl, rfl, rfl, rfl, h0, h, hn, by show _ = _; rw [Nat.zero_add]; exact HT.out, Nat.zero_le _, rfl⟩
  case round =>
    obtain ⟨M, N, C, q, rfl, rfl, rfl, rfl, h1, h2, h3, HS, hC, rfl⟩ := hrel
    by_cases hN : M = N
    · subst hN
      have d1 : decide ((M : Int) < M) = false := decide_eq_false (by omega)
      cases q
      · have HE : Hid (C + 1 = t) := by show _ = _; have := HS.out; rw [cG_all] at this; exact this
        go_wp2
        go_ret
        exact ⟨by have z := HE.out; subst z; go_num, rfl⟩
      · have HE : Hid (C = t) := by show _ = _; have := HS.out; rw [cG_all] at this; exact this
        go_wp2
        go_ret
        exact ⟨by have z := HE.out; subst z; rfl, rfl⟩
    · have hN2 : 2 ≤ N := by omega
      have d1 : decide ((M : Int) < N) = true := decide_eq_true (by omega)
      have hh := half_lt hN2
      have SP : Hid (∀ w, Calls _ _ _ _ _) := fun w => HSP.out N w hN2 h3
      obtain ⟨k, HK⟩ : ∃ k, Hid (half N = k) := ⟨_, rfl⟩
      rw [HK.out] at SP hh
      by_cases hi : M ≤ k
      · have d2 : decide ((M : Int) ≤ k) = true := decide_eq_true (by omega)
        have H1 : Hid (C + 1 + cG M k q = t) := by
          show _ = _
          have := cG_low (m := M) (wh := q) hN hN2 (by rw [HK.out]; exact hi)
          rw [HK.out] at this
          have := HS.out
          omega
        have hC1 : C + 1 ≤ t := by have := H1.out; omega
        go_wp2_with fail
        refine (SP.out _).mono ?_
        rintro e w1 ⟨rfl, hw⟩
        subst hw
        go_wp2
        go_roundw
        case rel => exact ⟨M, k, C + 1, q, rfl, rfl, by go_num, rfl, h1, hi, by omega, H1.out, hC1, by first | rfl | trivial⟩
        case measure => simp [intOf]; omega
      · have d2 : decide ((M : Int) ≤ k) = false := decide_eq_false (by omega)
        have H1 : Hid (C + 1 + cG (M - k) (N - k) false = t) := by
          show _ = _
          have := cG_high (m := M) (wh := q) h2 hN hN2 (by rw [HK.out]; exact hi)
          rw [HK.out] at this
          have := HS.out
          omega
        have hC1 : C + 1 ≤ t := by have := H1.out; omega
        go_wp2_with fail
        refine (SP.out _).mono ?_
        rintro e w1 ⟨rfl, hw⟩
        subst hw
        go_wp2
        go_roundw
        case rel => exact ⟨M - k, N - k, C + 1, false, by go_num, by go_num, by go_num, rfl, by omega, by omega, by omega, H1.out, hC1, by first | rfl | trivial⟩
        case measure => simp [intOf]; omega
end Go.Proofs.Ytgkhnjmbmbebiaa.dc
