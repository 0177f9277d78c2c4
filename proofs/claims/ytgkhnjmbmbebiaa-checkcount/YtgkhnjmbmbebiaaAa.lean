import Derived.Test.YtgkhnjmbmbebiaaGa
namespace Go.Proofs.Ytgkhnjmbmbebiaa.aa
open Go.Proofs.Ytgkhnjmbmbebiaa.ca Go.Proofs.Ytgkhnjmbmbebiaa.cb Go.Proofs.Ytgkhnjmbmbebiaa.ga
set_option linter.unusedVariables false

-- a walk down the parts: 0 nothing, 1 its hash, 2 left half first, else right half first
def WL (lk : Nat → Nat → Nat) (a b : Nat) : List (Nat × Nat) :=
  if lk a b = 0 then [] else if lk a b = 1 then [(a, b)] else
  if h : 2 ≤ b - a then
    if lk a b = 2 then WL lk a (a + half (b - a)) ++ WL lk (a + half (b - a)) b
    else WL lk (a + half (b - a)) b ++ WL lk a (a + half (b - a))
  else []
termination_by b - a
decreasing_by all_goals (have := half_lt h; omega)
theorem WL_pass {lk : Nat → Nat → Nat} {a b : Nat} (h : lk a b = 0) : WL lk a b = [] := by rw [WL, if_pos h]
theorem WL_take {lk : Nat → Nat → Nat} {a b : Nat} (h : lk a b = 1) : WL lk a b = [(a, b)] := by rw [WL, if_neg (by omega), if_pos h]
theorem WL_left {lk : Nat → Nat → Nat} {a b : Nat} (h : lk a b = 2) (h2 : 2 ≤ b - a) : WL lk a b = WL lk a (a + half (b - a)) ++ WL lk (a + half (b - a)) b := by rw [WL, if_neg (by omega), if_neg (by omega), dif_pos h2, if_pos h]
theorem WL_right {lk : Nat → Nat → Nat} {a b : Nat} (h : 3 ≤ lk a b) (h2 : 2 ≤ b - a) : WL lk a b = WL lk (a + half (b - a)) b ++ WL lk a (a + half (b - a)) := by rw [WL, if_neg (by omega), if_neg (by omega), dif_pos h2, if_neg (by omega)]
-- inclusion
def lkI (i a b : Nat) : Nat := if a ≤ i ∧ i < b then (if b - a = 1 then 0 else if i < a + half (b - a) then 2 else 3) else 1
def dnI (i a b : Nat) : List (Nat × Nat) :=
  if h : 2 ≤ b - a then
    if i < a + half (b - a) then (a + half (b - a), b) :: dnI i a (a + half (b - a))
    else (a, a + half (b - a)) :: dnI i (a + half (b - a)) b
  else []
termination_by b - a
decreasing_by all_goals (have := half_lt h; omega)
theorem dnI_one {i a b : Nat} (h : ¬ 2 ≤ b - a) : dnI i a b = [] := by rw [dnI, dif_neg h]
theorem dnI_low {i a b : Nat} (h : 2 ≤ b - a) (hi : i < a + half (b - a)) : dnI i a b = (a + half (b - a), b) :: dnI i a (a + half (b - a)) := by rw [dnI, dif_pos h, if_pos hi]
theorem dnI_high {i a b : Nat} (h : 2 ≤ b - a) (hi : ¬ i < a + half (b - a)) : dnI i a b = (a, a + half (b - a)) :: dnI i (a + half (b - a)) b := by rw [dnI, dif_pos h, if_neg hi]
theorem incl_is (i : Nat) (n : Nat) : ∀ a b, b - a = n → a ≤ i → i < b → WL (lkI i) a b = (dnI i a b).reverse := by
  induction n using Nat.strongRecOn with
  | ind n ih =>
    intro a b hn h1 h2
    by_cases h : 2 ≤ b - a
    · have hh := half_lt h
      by_cases hi : i < a + half (b - a)
      · rw [WL_left (by unfold lkI; rw [if_pos ⟨h1, h2⟩, if_neg (by omega), if_pos hi]) h, dnI_low h hi, List.reverse_cons, ih (half (b - a)) (by omega) a (a + half (b - a)) (by omega) h1 hi, WL_take (lk := lkI i) (a := a + half (b - a)) (by unfold lkI; rw [if_neg (by omega)])]
      · rw [WL_right (by unfold lkI; rw [if_pos ⟨h1, h2⟩, if_neg (by omega), if_neg hi]; omega) h, dnI_high h hi, List.reverse_cons, ih (b - a - half (b - a)) (by omega) (a + half (b - a)) b (by omega) (by omega) h2, WL_take (lk := lkI i) (a := a) (by unfold lkI; rw [if_neg (by omega)])]
    · rw [WL_pass (by unfold lkI; rw [if_pos ⟨h1, h2⟩, if_pos (by omega)]), dnI_one h]
      rfl
-- consistency
def lkC (m a b : Nat) : Nat := if a = 0 ∧ b = m then 0 else if b ≤ m ∨ m ≤ a then 1 else if a ≤ m - 1 ∧ m - 1 < a + half (b - a) then 2 else 3
def subL (m a b : Nat) (whole : Bool) : List (Nat × Nat) :=
  if m = b then (if whole then [] else [(a, b)]) else
  if h : 2 ≤ b - a then
    if m ≤ a + half (b - a) then subL m a (a + half (b - a)) whole ++ [(a + half (b - a), b)]
    else subL m (a + half (b - a)) b false ++ [(a, a + half (b - a))]
  else []
termination_by b - a
decreasing_by all_goals (have := half_lt h; omega)
theorem subL_all {m a b : Nat} {wh : Bool} (h : m = b) : subL m a b wh = if wh then [] else [(a, b)] := by rw [subL, if_pos h]
theorem subL_low {m a b : Nat} {wh : Bool} (h : m ≠ b) (h2 : 2 ≤ b - a) (hm : m ≤ a + half (b - a)) : subL m a b wh = subL m a (a + half (b - a)) wh ++ [(a + half (b - a), b)] := by rw [subL, if_neg h, dif_pos h2, if_pos hm]
theorem subL_high {m a b : Nat} {wh : Bool} (h : m ≠ b) (h2 : 2 ≤ b - a) (hm : ¬ m ≤ a + half (b - a)) : subL m a b wh = subL m (a + half (b - a)) b false ++ [(a, a + half (b - a))] := by rw [subL, if_neg h, dif_pos h2, if_neg hm]
theorem cons_is (m : Nat) (n : Nat) : ∀ a b, b - a = n → a < m → m ≤ b → WL (lkC m) a b = subL m a b (a == 0) := by
  induction n using Nat.strongRecOn with
  | ind n ih =>
    intro a b hn h1 h2
    by_cases hb : m = b
    · rw [subL_all hb]
      by_cases ha : a = 0
      · rw [WL_pass (by unfold lkC; rw [if_pos ⟨ha, hb.symm⟩]), ha]
        rfl
      · rw [WL_take (by unfold lkC; rw [if_neg (by omega), if_pos (by omega)]), if_neg (by simpa using ha)]
    · have h : 2 ≤ b - a := by omega
      have hh := half_lt h
      by_cases hm : m ≤ a + half (b - a)
      · rw [WL_left (by unfold lkC; rw [if_neg (by omega), if_neg (by omega), if_pos (by omega)]) h, subL_low hb h hm, ih (half (b - a)) (by omega) a (a + half (b - a)) (by omega) h1 hm, WL_take (lk := lkC m) (a := a + half (b - a)) (by unfold lkC; rw [if_neg (by omega), if_pos (by omega)])]
      · rw [WL_right (by unfold lkC; rw [if_neg (by omega), if_neg (by omega), if_neg (by omega)]; omega) h, subL_high hb h hm, ih (b - a - half (b - a)) (by omega) (a + half (b - a)) b (by omega) (by omega) h2, WL_take (lk := lkC m) (a := a) (by unfold lkC; rw [if_neg (by omega), if_pos (by omega)]), show (a + half (b - a) == 0) = false by rw [beq_eq_false_iff_ne]; omega]
-- a range
def lkR (lo hi a b : Nat) : Nat := if b ≤ lo ∨ hi ≤ a then 1 else if lo ≤ a ∧ b ≤ hi then 0 else 2
def outL (lo hi a b : Nat) : List (Nat × Nat) := WL (lkR lo hi) a b
-- places
def lkM (ps : List Nat) (a b : Nat) : Nat := if ∃ p ∈ ps, a ≤ p ∧ p < b then (if b - a = 1 then 0 else 2) else 1
def inM (ps : List Nat) (a b : Nat) : List Nat := ps.filter fun p => decide (a ≤ p) && decide (p < b)
def amL (ps : List Nat) (a b : Nat) : List (Nat × Nat) :=
  if inM ps a b = [] then [(a, b)] else
  if h : 2 ≤ b - a then amL (inM ps a b) a (a + half (b - a)) ++ amL (inM ps a b) (a + half (b - a)) b else []
termination_by b - a
decreasing_by all_goals (have := half_lt h; omega)
theorem inM_nil (ps : List Nat) (a b : Nat) : inM ps a b = [] ↔ ¬ ∃ p ∈ ps, a ≤ p ∧ p < b := by
  unfold inM
  rw [List.filter_eq_nil_iff]
  constructor
  · rintro h ⟨p, h1, h2, h3⟩
    exact h p h1 (by simp [h2, h3])
  · rintro h p h1 h2
    simp only [Bool.and_eq_true, decide_eq_true_eq] at h2
    exact h ⟨p, h1, h2.1, h2.2⟩
theorem multi_is (n : Nat) : ∀ ps qs a b, b - a = n → (∀ p, a ≤ p → p < b → (p ∈ ps ↔ p ∈ qs)) → WL (lkM ps) a b = amL qs a b := by
  induction n using Nat.strongRecOn with
  | ind n ih =>
    intro ps qs a b hn hp
    have hex : (∃ p ∈ ps, a ≤ p ∧ p < b) ↔ (∃ p ∈ qs, a ≤ p ∧ p < b) :=
      ⟨fun ⟨p, h1, h2, h3⟩ => ⟨p, (hp p h2 h3).1 h1, h2, h3⟩, fun ⟨p, h1, h2, h3⟩ => ⟨p, (hp p h2 h3).2 h1, h2, h3⟩⟩
    by_cases he : ∃ p ∈ ps, a ≤ p ∧ p < b
    · have hq : inM qs a b ≠ [] := fun h => (inM_nil qs a b).1 h (hex.1 he)
      by_cases h : 2 ≤ b - a
      · have hh := half_lt h
        have hf : ∀ p, a ≤ p → p < b → (p ∈ ps ↔ p ∈ inM qs a b) := by
          intro p h1 h2
          rw [hp p h1 h2]
          unfold inM
          rw [List.mem_filter]
          simp [h1, h2]
        rw [WL_left (by unfold lkM; rw [if_pos he, if_neg (by omega)]) h, amL, if_neg hq, dif_pos h, ih (half (b - a)) (by omega) ps (inM qs a b) a (a + half (b - a)) (by omega) (fun p h1 h2 => hf p h1 (by omega)), ih (b - a - half (b - a)) (by omega) ps (inM qs a b) (a + half (b - a)) b (by omega) (fun p h1 h2 => hf p (by omega) h2)]
      · obtain ⟨p, _, h1, h2⟩ := he
        rw [WL_pass (by unfold lkM; rw [if_pos ⟨p, by assumption, h1, h2⟩, if_pos (by omega)]), amL, if_neg hq, dif_neg h]
    · have hq : inM qs a b = [] := (inM_nil qs a b).2 (fun h => he (hex.2 h))
      rw [WL_take (by unfold lkM; rw [if_neg he]), amL, if_pos hq]
end Go.Proofs.Ytgkhnjmbmbebiaa.aa
