import Derived.Test.YtgkhnjmbmbebiaaDe
import Derived.Test.YtgkhnjmbmbebiaaCn
namespace Go.Proofs.Ytgkhnjmbmbebiaa.df
open Go.RowKit Go.PlainAid
open Go.Proofs.Ytgkhnjmbmbebiaa.ca Go.Proofs.Ytgkhnjmbmbebiaa.cb Go.Proofs.Ytgkhnjmbmbebiaa.cp Go.Proofs.Ytgkhnjmbmbebiaa.ga Go.Proofs.Ytgkhnjmbmbebiaa.aa Go.Proofs.Ytgkhnjmbmbebiaa.ab Go.Proofs.Ytgkhnjmbmbebiaa.kp Go.Proofs.Ytgkhnjmbmbebiaa.lk Go.Proofs.Ytgkhnjmbmbebiaa.mi Go.Proofs.Ytgkhnjmbmbebiaa.mk Go.Proofs.Ytgkhnjmbmbebiaa.lm Go.Proofs.Ytgkhnjmbmbebiaa.tl Go.Proofs.Ytgkhnjmbmbebiaa.co Go.Proofs.Ytgkhnjmbmbebiaa.cn Go.Proofs.Ytgkhnjmbmbebiaa.ti Go.Proofs.Ytgkhnjmbmbebiaa.dc Go.Proofs.Ytgkhnjmbmbebiaa.de
set_option linter.unusedVariables false

theorem WL_agree {ps qs : List Nat} {a b : Nat} (h : ∀ p, a ≤ p → p < b → (p ∈ ps ↔ p ∈ qs)) : WL (lkM ps) a b = WL (lkM qs) a b := by
  rw [multi_is (b - a) ps qs a b rfl h, multi_is (b - a) qs qs a b rfl (fun _ _ _ => Iff.rfl)]
def Within (xs : List Int) (a b : Nat) : Prop := ∀ p ∈ xs, (a : Int) ≤ p ∧ p < b
theorem inX_within (xs : List Int) (a b : Nat) : Within (inX xs a b) a b := fun p hp => by
  unfold inX at hp
  have := (List.mem_filter.1 hp).2
  rw [Bool.and_eq_true, decide_eq_true_eq, decide_eq_true_eq] at this
  exact this
theorem inX_len (xs : List Int) (a b : Nat) : (inX xs a b).length ≤ xs.length := List.length_filter_le _ _
theorem WL_in {xs : List Int} {a b c d : Nat} (h : ∀ p ∈ xs, (0 : Int) ≤ p) : WL (lkM (natL xs)) c d = WL (lkM (natL (inX xs c d))) c d := by
  refine WL_agree fun p h1 h2 => ?_
  unfold natL inX
  rw [List.mem_map, List.mem_map]
  constructor
  · rintro ⟨x, hx, rfl⟩
    have := h x hx
    exact ⟨x, List.mem_filter.2 ⟨hx, by rw [Bool.and_eq_true, decide_eq_true_eq, decide_eq_true_eq]; omega⟩, rfl⟩
  · rintro ⟨x, hx, rfl⟩
    exact ⟨x, (List.mem_filter.1 hx).1, rfl⟩
theorem lkM_nil (a b : Nat) : lkM (natL []) a b = 1 := by unfold lkM natL; rw [if_neg (by rintro ⟨p, hp, _⟩; cases hp)]
theorem lkM_has {xs : List Int} {a b : Nat} (h : Within xs a b) (h1 : xs ≠ []) : lkM (natL xs) a b = if b - a = 1 then 0 else 2 := by
  obtain ⟨x, t, rfl⟩ := List.exists_cons_of_ne_nil h1
  have := h x (by simp)
  unfold lkM natL
  rw [if_pos ⟨x.toNat, by simp, by omega, by omega⟩]
set_option maxHeartbeats 1600000 in
theorem rGaps (n : Nat) : ∀ (a b : Nat) (v : Value) (xs : List Int) (w : World), b - a = n → a < b → b ≤ 4611686018427387904 → Within xs a b → xs.length ≤ 1024 → ReadsI w v xs →
    Calls Try.prog 19 #[.int .i64 a, .int .i64 b, v] w fun e w' => e = .returned (.int .i64 ((WL (lkM (natL xs)) a b).length : Nat)) ∧ Below w.heap.size w w' := by
  induction n using Nat.strongRecOn with
  | ind n ih =>
    intro a b v xs w hn hab hb hW hz hR
    have hlen := lenM (natL xs) a b hab hb
    obtain ⟨t, HT⟩ : ∃ t, Hid ((WL (lkM (natL xs)) a b).length = t) := ⟨_, rfl⟩
    rw [HT.out] at hlen ⊢
    have HR : Hid (ReadsI w v xs) := hR
    obtain ⟨va, cap, rfl, hcap, _⟩ := hR
    by_cases h0 : xs = []
    · obtain rfl : 1 = t := by rw [← HT.out, h0, WL_take (lkM_nil a b)]; rfl
      subst h0
      simp only [List.length_nil] at HR hcap hz ⊢
      clear ih HR
      go_enter Try.func19, Try.ntmps19
      go_wp2
      go_ret
      exact ⟨rfl, Below.refl _ _⟩
    have hlk := lkM_has hW h0
    have hl0 : xs.length ≠ 0 := fun h => h0 (List.length_eq_zero_iff.1 h)
    have HWI : Hid (∀ p ∈ xs, (0 : Int) ≤ p) := fun p hp => by have := hW p hp; omega
    have WN : Hid (∀ w c d, ReadsI w (.slice va xs.length cap) xs → Calls _ _ _ _ _) := fun w c d h => withinC (.slice va xs.length cap) xs c d w h hz
    have IX : Hid (∀ c d, (inX xs c d).length ≤ 1024) := fun c d => Nat.le_trans (inX_len _ _ _) hz
    obtain ⟨l, HL⟩ : ∃ l, Hid (xs.length = l) := ⟨_, rfl⟩
    rw [HL.out] at HR WN hl0 ⊢
    have q0 : ((l : Int) == 0) = false := by rw [beq_eq_false_iff_ne]; omega
    by_cases h1 : b - a = 1
    · obtain rfl : 0 = t := by rw [← HT.out, WL_pass (by rw [hlk, if_pos h1])]; rfl
      have q1 : ((b : Int) - a == 1) = true := by rw [beq_iff_eq]; omega
      have hw2 : IntKind.i64.wrap ((b : Int) - a) = (b : Int) - a := by rw [IntKind.wrap_i64]; omega
      clear ih HR WN hlk
      go_enter Try.func19, Try.ntmps19
      go_wp2
      go_ret
      exact ⟨rfl, Below.refl _ _⟩
    have q1 : ((b : Int) - a == 1) = false := by rw [beq_eq_false_iff_ne]; omega
    have h2n : 2 ≤ b - a := by omega
    have hh := half_lt h2n
    have HWL : Hid (t = (WL (lkM (natL (inX xs a (a + half (b - a))))) a (a + half (b - a))).length + (WL (lkM (natL (inX xs (a + half (b - a)) b))) (a + half (b - a)) b).length) := by
      show _ = _
      rw [← HT.out, WL_left (by rw [hlk, if_neg h1]) h2n, List.length_append, ← WL_in (a := a) (b := b) HWI.out, ← WL_in (a := a) (b := b) HWI.out]
    have SP : Hid (∀ w, Calls _ _ _ _ _) := fun w => rSplit (b - a) h2n (by omega) w
    have I1 : Hid (∀ w v, ReadsI w v (inX xs a (a + half (b - a))) → Calls _ _ _ _ _) := fun w v h => ih (half (b - a)) (by omega) a (a + half (b - a)) v _ w (by omega) (by omega) (by omega) (inX_within _ _ _) (IX.out _ _) h
    have I2 : Hid (∀ w v, ReadsI w v (inX xs (a + half (b - a)) b) → Calls _ _ _ _ _) := fun w v h => ih (b - a - half (b - a)) (by omega) (a + half (b - a)) b v _ w (by omega) (by omega) hb (inX_within _ _ _) (IX.out _ _) h
    have l1 := lenM (natL (inX xs a (a + half (b - a)))) a (a + half (b - a)) (by omega) (by omega)
    have l2 := lenM (natL (inX xs (a + half (b - a)) b)) (a + half (b - a)) b (by omega) hb
    have W1 : Hid (∀ w, ReadsI w (.slice va l cap) xs → Calls _ _ _ _ _) := fun w h => WN.out w a (a + half (b - a)) h
    have W2 : Hid (∀ w, ReadsI w (.slice va l cap) xs → Calls _ _ _ _ _) := fun w h => WN.out w (a + half (b - a)) b h
    obtain ⟨k, HK⟩ : ∃ k, Hid (half (b - a) = k) := ⟨_, rfl⟩
    rw [HK.out] at SP I1 I2 HWL hh l1 l2 W1 W2
    obtain ⟨x, HX⟩ : ∃ x, Hid ((WL (lkM (natL (inX xs a (a + k)))) a (a + k)).length = x) := ⟨_, rfl⟩
    obtain ⟨y, HY⟩ : ∃ y, Hid ((WL (lkM (natL (inX xs (a + k) b))) (a + k) b).length = y) := ⟨_, rfl⟩
    rw [HX.out] at I1 HWL l1
    rw [HY.out] at I2 HWL l2
    obtain ⟨xs1, HX1⟩ : ∃ z, Hid (inX xs a (a + k) = z) := ⟨_, rfl⟩
    obtain ⟨xs2, HX2⟩ : ∃ z, Hid (inX xs (a + k) b = z) := ⟨_, rfl⟩
    rw [HX1.out] at I1 W1
    rw [HX2.out] at I2 W2
    have z1 : ((b - a : Nat) : Int) = (b : Int) - a := by omega
    have z2 : ((a + k : Nat) : Int) = (a : Int) + k := by omega
    have z3 : ((x + y : Nat) : Int) = (x : Int) + y := by omega
    rw [z1] at SP
    rw [z2] at I1 I2 W1 W2
    have HE := HWL.out
    subst HE
    rw [z3]
    have hw1 : IntKind.i64.wrap ((a : Int) + k) = (a : Int) + k := by rw [IntKind.wrap_i64]; omega
    have hw2 : IntKind.i64.wrap ((b : Int) - a) = (b : Int) - a := by rw [IntKind.wrap_i64]; omega
    have hw3 : IntKind.i64.wrap ((x : Int) + y) = (x : Int) + y := by rw [IntKind.wrap_i64]; omega
    clear ih HT HWL HX HY HK h1 h2n hh hn l1 l2 hlen hlk WN hl0 hz hcap
    go_enter Try.func19, Try.ntmps19
    go_wp2_with fail
    refine (SP.out _).mono ?_
    rintro e w1 ⟨rfl, hw⟩
    subst hw
    go_wp2_with fail
    refine (W1.out _ HR.out).mono ?_
    rintro e w2 ⟨⟨p1, l1, c1, rfl, hr1⟩, hb2⟩
    have B2 : Hid (Below w1.heap.size w1 w2) := hb2
    have R1 : Hid (ReadsI w2 (.slice p1 l1 c1) xs1) := hr1
    clear hb2 hr1
    go_wp2_with fail
    refine (I1.out _ _ R1.out).mono ?_
    rintro e w3 ⟨rfl, hb3⟩
    have B3 : Hid (Below w1.heap.size w1 w3) := over B2.out hb3
    clear hb3
    go_wp2_with fail
    refine (W2.out _ (HR.out.later B3.out)).mono ?_
    rintro e w4 ⟨⟨p2, l2, c2, rfl, hr2⟩, hb4⟩
    have B4 : Hid (Below w1.heap.size w1 w4) := over B3.out hb4
    have R2 : Hid (ReadsI w4 (.slice p2 l2 c2) xs2) := hr2
    clear hb4 hr2
    go_wp2_with fail
    refine (I2.out _ _ R2.out).mono ?_
    rintro e w5 ⟨rfl, hb5⟩
    have B5 : Hid (Below w1.heap.size w1 w5) := over B4.out hb5
    clear hb5
    go_wp2
    go_ret
    exact ⟨rfl, B5.out⟩
theorem below_dw (w : World) (m : Nat) : Below w.heap.size w (w.drewN m) := below_dN (Below.refl _ _) m
-- the shape's refusals
set_option maxHeartbeats 1600000 in
theorem rShape (kind a b n : Int) (v : Value) (xs : List Int) (w : World) (hk : 1 ≤ kind ∧ kind ≤ 4) (hn : 0 ≤ n ∧ n ≤ 4611686018427387904) (hR : ReadsI w v xs) (hz : xs.length ≤ 140737488355328) :
    Calls Try.prog 15 #[.int .i64 kind, .int .i64 a, .int .i64 b, .int .i64 n, v] w fun e w' => e = .returned (.int .i64 (ref9 kind a b n xs)) ∧ ∃ m, w' = w.drewN m := by
  have PC : Hid (Calls _ _ _ _ _) := placesD v xs n w hR hz
  obtain ⟨va, cap, rfl, _⟩ := hR
  obtain ⟨r, HR⟩ : ∃ r, Hid (ref9 kind a b n xs = r) := ⟨_, rfl⟩
  rw [HR.out]
  have hr := HR.out
  unfold ref9 at hr
  rw [if_neg (by omega), if_neg (by omega)] at hr
  rcases (show kind = 1 ∨ kind = 2 ∨ kind = 3 ∨ kind = 4 by omega) with rfl | rfl | rfl | rfl
  · rw [if_pos rfl] at hr
    by_cases a1 : a < 0
    · obtain rfl : 81 = r := by rw [← hr, if_pos (.inl a1)]
      have d5 : decide (a < 0) = true := decide_eq_true a1
      clear hr hn a1
      go_enter Try.func15, Try.ntmps15
      go_wp2
      go_ret
      exact ⟨rfl, 0, rfl⟩
    have d5 : decide (a < 0) = false := decide_eq_false a1
    by_cases a2 : n ≤ a
    · obtain rfl : 81 = r := by rw [← hr, if_pos (.inr a2)]
      have d6 : decide (n ≤ a) = true := decide_eq_true a2
      clear hr hn a1 a2
      go_enter Try.func15, Try.ntmps15
      go_wp2
      go_ret
      exact ⟨rfl, 0, rfl⟩
    have d6 : decide (n ≤ a) = false := decide_eq_false a2
    obtain rfl : 0 = r := by rw [← hr, if_neg (by omega)]
    clear hr hn a1 a2
    go_enter Try.func15, Try.ntmps15
    go_wp2
    go_ret
    exact ⟨rfl, 0, rfl⟩
  · rw [if_neg (by omega), if_pos rfl] at hr
    by_cases a1 : a < 0
    · obtain rfl : 80 = r := by rw [← hr, if_pos (.inl a1)]
      have d5 : decide (a < 0) = true := decide_eq_true a1
      clear hr hn a1
      go_enter Try.func15, Try.ntmps15
      go_wp2
      go_ret
      exact ⟨rfl, 0, rfl⟩
    have d5 : decide (a < 0) = false := decide_eq_false a1
    by_cases a2 : n < a
    · obtain rfl : 80 = r := by rw [← hr, if_pos (.inr a2)]
      have d6 : decide (n < a) = true := decide_eq_true a2
      clear hr hn a1 a2
      go_enter Try.func15, Try.ntmps15
      go_wp2
      go_ret
      exact ⟨rfl, 0, rfl⟩
    have d6 : decide (n < a) = false := decide_eq_false a2
    obtain rfl : 0 = r := by rw [← hr, if_neg (by omega)]
    clear hr hn a1 a2
    go_enter Try.func15, Try.ntmps15
    go_wp2
    go_ret
    exact ⟨rfl, 0, rfl⟩
  · rw [if_neg (by omega), if_neg (by omega), if_pos rfl] at hr
    by_cases a1 : a < 0
    · obtain rfl : 81 = r := by rw [← hr, if_pos (.inl a1)]
      have d5 : decide (a < 0) = true := decide_eq_true a1
      clear hr hn a1
      go_enter Try.func15, Try.ntmps15
      go_wp2
      go_ret
      exact ⟨rfl, 0, rfl⟩
    have d5 : decide (a < 0) = false := decide_eq_false a1
    by_cases a2 : b ≤ a
    · obtain rfl : 81 = r := by rw [← hr, if_pos (.inr (.inl a2))]
      have d6 : decide (b ≤ a) = true := decide_eq_true a2
      clear hr hn a1 a2
      go_enter Try.func15, Try.ntmps15
      go_wp2
      go_ret
      exact ⟨rfl, 0, rfl⟩
    have d6 : decide (b ≤ a) = false := decide_eq_false a2
    by_cases a3 : n < b
    · obtain rfl : 81 = r := by rw [← hr, if_pos (.inr (.inr a3))]
      have d7 : decide (n < b) = true := decide_eq_true a3
      clear hr hn a1 a2 a3
      go_enter Try.func15, Try.ntmps15
      go_wp2
      go_ret
      exact ⟨rfl, 0, rfl⟩
    have d7 : decide (n < b) = false := decide_eq_false a3
    obtain rfl : 0 = r := by rw [← hr, if_neg (by omega)]
    clear hr hn a1 a2 a3
    go_enter Try.func15, Try.ntmps15
    go_wp2
    go_ret
    exact ⟨rfl, 0, rfl⟩
  · rw [if_neg (by omega), if_neg (by omega), if_neg (by omega)] at hr
    rw [hr] at PC
    clear hr hn
    go_enter Try.func15, Try.ntmps15
    go_wp2_with fail
    refine PC.out.mono ?_
    rintro e w1 ⟨rfl, m, rfl⟩
    go_wp2
    go_ret
    exact ⟨rfl, m, rfl⟩
def Counted (w : World) (c : Int × Int) (e : Ending) (w' : World) : Prop := e = .returned (.tuple #[.int .i64 c.1, .int .i64 c.2]) ∧ Below w.heap.size w w'
set_option maxHeartbeats 3200000 in
theorem rCount (kind a b n : Int) (v : Value) (xs : List Int) (w : World) (hR : ReadsI w v xs) (hz : xs.length ≤ 140737488355328) :
    Calls Try.prog 9 #[.int .i64 kind, .int .i64 a, .int .i64 b, .int .i64 n, v] w (Counted w (cnt9 kind a b n xs)) := by
  have HRD : Hid (ReadsI w v xs) := hR
  have hR2 := hR
  obtain ⟨va, cap, rfl, _⟩ := hR
  by_cases k1 : kind < 1
  · have e : cnt9 kind a b n xs = (0, 110) := by
      have : ref9 kind a b n xs = 110 := by unfold ref9; rw [if_pos (.inl k1)]
      unfold cnt9; rw [this, if_neg (by omega)]
    rw [e]
    have d1 : decide (kind < 1) = true := decide_eq_true k1
    clear k1 e hR2
    go_enter Try.func9, Try.ntmps9
    go_wp2
    go_ret2
    exact ⟨rfl, Below.refl _ _⟩
  have d1 : decide (kind < 1) = false := decide_eq_false k1
  by_cases k2 : 4 < kind
  · have e : cnt9 kind a b n xs = (0, 110) := by
      have : ref9 kind a b n xs = 110 := by unfold ref9; rw [if_pos (.inr k2)]
      unfold cnt9; rw [this, if_neg (by omega)]
    rw [e]
    have d2 : decide (4 < kind) = true := decide_eq_true k2
    clear k1 k2 e hR2
    go_enter Try.func9, Try.ntmps9
    go_wp2
    go_ret2
    exact ⟨rfl, Below.refl _ _⟩
  have d2 : decide (4 < kind) = false := decide_eq_false k2
  by_cases n1 : n < 0
  · have e : cnt9 kind a b n xs = (0, 80) := by
      have : ref9 kind a b n xs = 80 := by unfold ref9; rw [if_neg (by omega), if_pos (.inl n1)]
      unfold cnt9; rw [this, if_neg (by omega)]
    rw [e]
    have d3 : decide (n < 0) = true := decide_eq_true n1
    clear k1 k2 n1 e hR2
    go_enter Try.func9, Try.ntmps9
    go_wp2
    go_ret2
    exact ⟨rfl, Below.refl _ _⟩
  have d3 : decide (n < 0) = false := decide_eq_false n1
  by_cases n2 : 4611686018427387904 < n
  · have e : cnt9 kind a b n xs = (0, 80) := by
      have : ref9 kind a b n xs = 80 := by unfold ref9; rw [if_neg (by omega), if_pos (.inr n2)]
      unfold cnt9; rw [this, if_neg (by omega)]
    rw [e]
    have d4 : decide (4611686018427387904 < n) = true := decide_eq_true n2
    clear k1 k2 n1 n2 e hR2
    go_enter Try.func9, Try.ntmps9
    go_wp2
    go_ret2
    exact ⟨rfl, Below.refl _ _⟩
  have d4 : decide (4611686018427387904 < n) = false := decide_eq_false n2
  have SC : Hid (Calls _ _ _ _ _) := rShape kind a b n _ xs w (by omega) (by omega) hR2 hz
  by_cases h0 : ref9 kind a b n xs = 0
  · have hc : cnt9 kind a b n xs = (((num9 kind a b n xs : Nat) : Int), 0) := by unfold cnt9; rw [if_pos h0]
    rw [hc]
    rw [h0] at SC
    obtain ⟨N, rfl⟩ : ∃ N : Nat, n = N := ⟨n.toNat, by omega⟩
    have hr := h0
    unfold ref9 at hr
    rw [if_neg (by omega), if_neg (by omega)] at hr
    unfold num9
    rw [Int.toNat_natCast]
    rcases (show kind = 1 ∨ kind = 2 ∨ kind = 3 ∨ kind = 4 by omega) with rfl | rfl | rfl | rfl
    · rw [if_pos rfl] at hr ⊢
      by_cases g : a < 0 ∨ (N : Int) ≤ a
      · rw [if_pos g] at hr; omega
      obtain ⟨A, rfl⟩ : ∃ A : Nat, a = A := ⟨a.toNat, by omega⟩
      rw [Int.toNat_natCast, cI_is (by omega)]
      have C : Hid (∀ w, Calls _ _ _ _ _) := fun w => rIncl A N (by omega) (by omega) w
      obtain ⟨t, HT⟩ : ∃ t, Hid (cI A N = t) := ⟨_, rfl⟩
      rw [HT.out] at C ⊢
      clear hr g h0 hc hR2 k1 k2 n1 n2
      go_enter Try.func9, Try.ntmps9
      go_wp2_with fail
      refine SC.out.mono ?_
      rintro e w1 ⟨rfl, m, rfl⟩
      go_wp2_with fail
      refine (C.out _).mono ?_
      rintro e w2 ⟨rfl, hw⟩
      subst hw
      go_wp2
      go_ret2
      exact ⟨rfl, below_dw w m⟩
    · rw [if_neg (by omega), if_pos rfl] at hr ⊢
      by_cases g : a < 0 ∨ (N : Int) < a
      · rw [if_pos g] at hr; omega
      obtain ⟨A, rfl⟩ : ∃ A : Nat, a = A := ⟨a.toNat, by omega⟩
      by_cases hA : A = 0
      · subst hA
        rw [if_pos (by rfl)]
        clear hr g h0 hc hR2 k1 k2 n1 n2
        go_enter Try.func9, Try.ntmps9
        go_wp2_with fail
        refine SC.out.mono ?_
        rintro e w1 ⟨rfl, m, rfl⟩
        go_wp2
        go_ret2
        exact ⟨rfl, below_dw w m⟩
      · rw [if_neg (by omega), Int.toNat_natCast, cG_is (by omega) (by omega)]
        have C : Hid (∀ w, Calls _ _ _ _ _) := fun w => rGrow A N (by omega) (by omega) (by omega) w
        obtain ⟨t, HT⟩ : ∃ t, Hid (cG A N true = t) := ⟨_, rfl⟩
        rw [HT.out] at C ⊢
        have q0 : ((A : Int) == 0) = false := by rw [beq_eq_false_iff_ne]; omega
        clear hr g h0 hc hR2 k1 k2 n1 n2
        go_enter Try.func9, Try.ntmps9
        go_wp2_with fail
        refine SC.out.mono ?_
        rintro e w1 ⟨rfl, m, rfl⟩
        go_wp2_with fail
        refine (C.out _).mono ?_
        rintro e w2 ⟨rfl, hw⟩
        subst hw
        go_wp2
        go_ret2
        exact ⟨rfl, below_dw w m⟩
    · rw [if_neg (by omega), if_neg (by omega), if_pos rfl] at hr ⊢
      by_cases g : a < 0 ∨ b ≤ a ∨ (N : Int) < b
      · rw [if_pos g] at hr; omega
      obtain ⟨A, rfl⟩ : ∃ A : Nat, a = A := ⟨a.toNat, by omega⟩
      obtain ⟨B, rfl⟩ : ∃ B : Nat, b = B := ⟨b.toNat, by omega⟩
      rw [Int.toNat_natCast, Int.toNat_natCast]
      have C : Hid (∀ w, Calls _ _ _ _ _) := fun w => rRange A B (by omega) (by omega) N 0 N w rfl (by omega) (by omega)
      obtain ⟨t, HT⟩ : ∃ t, Hid ((WL (lkR A B) 0 N).length = t) := ⟨_, rfl⟩
      rw [HT.out] at C ⊢
      clear hr g h0 hc hR2 k1 k2 n1 n2
      go_enter Try.func9, Try.ntmps9
      go_wp2_with fail
      refine SC.out.mono ?_
      rintro e w1 ⟨rfl, m, rfl⟩
      go_wp2_with fail
      refine (C.out _).mono ?_
      rintro e w2 ⟨rfl, hw⟩
      subst hw
      go_wp2
      go_ret2
      exact ⟨rfl, below_dw w m⟩
    · rw [if_neg (by omega), if_neg (by omega), if_neg (by omega)] at hr ⊢
      obtain ⟨p1, p2, p3, p4⟩ := places_ok hr
      have hN : 1 ≤ N := by have := p3 0 (by omega); omega
      have hWi : Within xs 0 N := fun p hp => by
        obtain ⟨j, hj, rfl⟩ := List.getElem_of_mem hp
        have := p3 j hj
        rw [List.getD_eq_getElem?_getD, List.getElem?_eq_getElem hj] at this
        exact this
      have C : Hid (∀ w, ReadsI w (.slice va xs.length cap) xs → Calls _ _ _ _ _) := fun w h => rGaps N 0 N _ xs w rfl (by omega) (by omega) hWi p2 h
      obtain ⟨t, HT⟩ : ∃ t, Hid ((WL (lkM (natL xs)) 0 N).length = t) := ⟨_, rfl⟩
      obtain ⟨l, HL⟩ : ∃ l, Hid (xs.length = l) := ⟨_, rfl⟩
      rw [HT.out] at C ⊢
      rw [HL.out] at C HRD SC ⊢
      clear hr h0 hc hR2 k1 k2 n1 n2 hWi p1 p2 p3 p4
      go_enter Try.func9, Try.ntmps9
      go_wp2_with fail
      refine SC.out.mono ?_
      rintro e w1 ⟨rfl, m, rfl⟩
      go_wp2_with fail
      refine (C.out _ (HRD.out.later (below_dw w m))).mono ?_
      rintro e w2 ⟨rfl, hb2⟩
      have B2 : Hid (Below w.heap.size w w2) := over (below_dw w m) hb2
      clear hb2
      go_wp2
      go_ret2
      exact ⟨rfl, B2.out⟩
  · have hc : cnt9 kind a b n xs = (0, ref9 kind a b n xs) := by unfold cnt9; rw [if_neg h0]
    rw [hc]
    have q : (ref9 kind a b n xs == 0) = false := by rw [beq_eq_false_iff_ne]; exact h0
    obtain ⟨r, HT⟩ : ∃ r, Hid (ref9 kind a b n xs = r) := ⟨_, rfl⟩
    rw [HT.out] at SC q ⊢
    clear h0 hc hR2 k1 k2 n1 n2
    go_enter Try.func9, Try.ntmps9
    go_wp2_with fail
    refine SC.out.mono ?_
    rintro e w1 ⟨rfl, m, rfl⟩
    go_wp2
    go_ret2
    exact ⟨rfl, below_dw w m⟩
end Go.Proofs.Ytgkhnjmbmbebiaa.df
