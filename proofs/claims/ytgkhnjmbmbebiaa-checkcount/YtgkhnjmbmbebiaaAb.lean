import Derived.Test.YtgkhnjmbmbebiaaAa
namespace Go.Proofs.Ytgkhnjmbmbebiaa.ab
open Go.Proofs.Ytgkhnjmbmbebiaa.ca Go.Proofs.Ytgkhnjmbmbebiaa.cb Go.Proofs.Ytgkhnjmbmbebiaa.ga Go.Proofs.Ytgkhnjmbmbebiaa.aa
set_option linter.unusedVariables false

-- asking: ok: has it the width? fo: the fold; ask: the answer of the ask of this number
section
variable (ok : ByteArray → Bool) (fo : List ByteArray → ByteArray) (ask : Nat → Nat × Nat → ByteArray × Int)
def tell (l : List (Nat × Nat)) : List (Nat × Nat) → List ByteArray × Int × List (Nat × Nat)
  | [] => ([], 0, l)
  | a :: r =>
    if (ask (l.length + 1) a).2 = 0 then
      if ok (ask (l.length + 1) a).1 = true then ((ask (l.length + 1) a).1 :: (tell (l ++ [a]) r).1, (tell (l ++ [a]) r).2)
      else ([], 72, l ++ [a])
    else ([], (ask (l.length + 1) a).2, l ++ [a])
theorem tell_no {l : List (Nat × Nat)} {a : Nat × Nat} {r : List (Nat × Nat)} (h : (ask (l.length + 1) a).2 ≠ 0) : tell ok ask l (a :: r) = ([], (ask (l.length + 1) a).2, l ++ [a]) := by unfold tell; rw [if_neg h]
theorem tell_len {l : List (Nat × Nat)} {a : Nat × Nat} {r : List (Nat × Nat)} (h : (ask (l.length + 1) a).2 = 0) (h2 : ok (ask (l.length + 1) a).1 = false) : tell ok ask l (a :: r) = ([], 72, l ++ [a]) := by unfold tell; rw [if_pos h, if_neg (by rw [h2]; decide)]
theorem tell_yes {l : List (Nat × Nat)} {a : Nat × Nat} {r : List (Nat × Nat)} (h : (ask (l.length + 1) a).2 = 0) (h2 : ok (ask (l.length + 1) a).1 = true) : tell ok ask l (a :: r) = ((ask (l.length + 1) a).1 :: (tell ok ask (l ++ [a]) r).1, (tell ok ask (l ++ [a]) r).2) := by rw [tell, if_pos h, if_pos h2]
theorem tell_size (cs : List (Nat × Nat)) : ∀ l, (tell ok ask l cs).2.2.length ≤ l.length + cs.length ∧ (tell ok ask l cs).1.length ≤ cs.length ∧ ∀ x ∈ (tell ok ask l cs).1, ok x = true := by
  induction cs with
  | nil => intro l; exact ⟨Nat.le_refl _, Nat.le_refl _, fun x hx => by cases hx⟩
  | cons a r ih =>
    intro l
    by_cases h : (ask (l.length + 1) a).2 = 0
    · by_cases h2 : ok (ask (l.length + 1) a).1 = true
      · rw [tell_yes ok ask h h2]
        have := ih (l ++ [a])
        rw [List.length_append] at this
        simp only [List.length_cons, List.length_nil] at this ⊢
        refine ⟨by omega, by omega, ?_⟩
        intro x hx
        rcases List.mem_cons.1 hx with rfl | hx
        · exact h2
        · exact this.2.2 x hx
      · rw [tell_len ok ask h (by simpa using h2)]
        refine ⟨by simp, by simp, fun x hx => by cases hx⟩
    · rw [tell_no ok ask h]
      refine ⟨by simp, by simp, fun x hx => by cases hx⟩
-- the hash of a part
def hashP (l : List (Nat × Nat)) (p : Nat × Nat) : ByteArray × Int × List (Nat × Nat) :=
  (if (tell ok ask l (cov p.1 p.2)).2.1 = 0 then fo (tell ok ask l (cov p.1 p.2)).1 else ByteArray.empty, (tell ok ask l (cov p.1 p.2)).2)
theorem hashP_size {l : List (Nat × Nat)} {p : Nat × Nat} (h1 : p.1 ≤ p.2) (h2 : p.2 ≤ 4611686018427387904) : (hashP ok fo ask l p).2.2.length ≤ l.length + 122 := by
  have := (tell_size ok ask (cov p.1 p.2) l).1
  have := cov_len p.1 p.2 h1 (by have : (2 : Nat) ^ 62 = 4611686018427387904 := by decide
                                 omega)
  show (tell ok ask l (cov p.1 p.2)).2.2.length ≤ _
  omega
-- the hashes of parts
def told (l : List (Nat × Nat)) : List (Nat × Nat) → List ByteArray × Int × List (Nat × Nat)
  | [] => ([], 0, l)
  | p :: r =>
    if (hashP ok fo ask l p).2.1 = 0 then ((hashP ok fo ask l p).1 :: (told (hashP ok fo ask l p).2.2 r).1, (told (hashP ok fo ask l p).2.2 r).2)
    else ([], (hashP ok fo ask l p).2)
theorem told_no {l : List (Nat × Nat)} {p : Nat × Nat} {r : List (Nat × Nat)} (h : (hashP ok fo ask l p).2.1 ≠ 0) : told ok fo ask l (p :: r) = ([], (hashP ok fo ask l p).2) := by unfold told; rw [if_neg h]
theorem told_yes {l : List (Nat × Nat)} {p : Nat × Nat} {r : List (Nat × Nat)} (h : (hashP ok fo ask l p).2.1 = 0) : told ok fo ask l (p :: r) = ((hashP ok fo ask l p).1 :: (told ok fo ask (hashP ok fo ask l p).2.2 r).1, (told ok fo ask (hashP ok fo ask l p).2.2 r).2) := by rw [told, if_pos h]
theorem told_app_no (ps qs : List (Nat × Nat)) : ∀ l, (told ok fo ask l ps).2.1 ≠ 0 → told ok fo ask l (ps ++ qs) = told ok fo ask l ps := by
  induction ps with
  | nil => intro l h; exact absurd rfl h
  | cons p r ih =>
    intro l h
    by_cases hp : (hashP ok fo ask l p).2.1 = 0
    · rw [told_yes ok fo ask hp] at h
      rw [List.cons_append, told_yes ok fo ask hp, told_yes ok fo ask hp, ih _ h]
    · rw [List.cons_append, told_no ok fo ask hp, told_no ok fo ask hp]
theorem told_app_yes (ps qs : List (Nat × Nat)) : ∀ l, (told ok fo ask l ps).2.1 = 0 → told ok fo ask l (ps ++ qs) = ((told ok fo ask l ps).1 ++ (told ok fo ask (told ok fo ask l ps).2.2 qs).1, (told ok fo ask (told ok fo ask l ps).2.2 qs).2) := by
  induction ps with
  | nil => intro l h; rfl
  | cons p r ih =>
    intro l h
    by_cases hp : (hashP ok fo ask l p).2.1 = 0
    · rw [told_yes ok fo ask hp] at h
      rw [List.cons_append, told_yes ok fo ask hp, told_yes ok fo ask hp, ih _ h]
      rfl
    · rw [told_no ok fo ask hp] at h
      exact absurd h hp
theorem told_size (ps : List (Nat × Nat)) : ∀ l, (∀ p ∈ ps, p.1 ≤ p.2 ∧ p.2 ≤ 4611686018427387904) → (told ok fo ask l ps).2.2.length ≤ l.length + 122 * ps.length ∧ (told ok fo ask l ps).1.length ≤ ps.length := by
  induction ps with
  | nil => intro l _; exact ⟨Nat.le_refl _, Nat.le_refl _⟩
  | cons p r ih =>
    intro l h
    have hp := h p (List.mem_cons_self ..)
    have hs := hashP_size ok fo ask (l := l) hp.1 hp.2
    by_cases he : (hashP ok fo ask l p).2.1 = 0
    · rw [told_yes ok fo ask he]
      have := ih (hashP ok fo ask l p).2.2 (fun q hq => h q (List.mem_cons_of_mem _ hq))
      simp only [List.length_cons]
      omega
    · rw [told_no ok fo ask he]
      simp only [List.length_cons, List.length_nil]
      omega
end
-- parts lie within, and how many there are
theorem WL_in (lk : Nat → Nat → Nat) (n : Nat) : ∀ a b, b - a = n → a ≤ b → ∀ p ∈ WL lk a b, a ≤ p.1 ∧ p.1 ≤ p.2 ∧ p.2 ≤ b := by
  induction n using Nat.strongRecOn with
  | ind n ih =>
    intro a b hn hab p hp
    by_cases h0 : lk a b = 0
    · rw [WL_pass h0] at hp; cases hp
    · by_cases h1 : lk a b = 1
      · rw [WL_take h1] at hp
        rcases List.mem_cons.1 hp with rfl | hp
        · exact ⟨Nat.le_refl _, hab, Nat.le_refl _⟩
        · cases hp
      · by_cases h : 2 ≤ b - a
        · have hh := half_lt h
          have key : p ∈ WL lk a (a + half (b - a)) ∨ p ∈ WL lk (a + half (b - a)) b := by
            by_cases h2 : lk a b = 2
            · rw [WL_left h2 h] at hp
              exact List.mem_append.1 hp
            · rw [WL_right (by omega) h] at hp
              exact (List.mem_append.1 hp).symm
          rcases key with g | g
          · have := ih (half (b - a)) (by omega) a (a + half (b - a)) (by omega) (by omega) p g
            omega
          · have := ih (b - a - half (b - a)) (by omega) (a + half (b - a)) b (by omega) (by omega) p g
            omega
        · rw [WL, if_neg h0, if_neg h1, dif_neg h] at hp
          cases hp
theorem half_d {n d : Nat} (h : 2 ≤ n) (hd : n ≤ 2 ^ d) : ∃ c, d = c + 1 ∧ half n ≤ 2 ^ c ∧ n - half n ≤ 2 ^ c := by
  obtain ⟨i, e, g1, g2⟩ := half_is h
  have hid : i < d := p2lt (by omega)
  obtain ⟨c, rfl⟩ : ∃ c, d = c + 1 := ⟨d - 1, by omega⟩
  have := p2le (show i ≤ c by omega)
  rw [p2s] at g2
  exact ⟨c, rfl, by omega, by omega⟩
theorem incl_len (i : Nat) (d : Nat) : ∀ a b, b - a ≤ 2 ^ d → a ≤ i → i < b → (WL (lkI i) a b).length ≤ d := by
  induction d with
  | zero =>
    intro a b hd h1 h2
    rw [WL_pass (by unfold lkI; rw [if_pos ⟨h1, h2⟩, if_pos (by have : (2 : Nat) ^ 0 = 1 := rfl; omega)])]
    exact Nat.le_refl _
  | succ d ih =>
    intro a b hd h1 h2
    by_cases h : 2 ≤ b - a
    · have hh := half_lt h
      obtain ⟨c, e, g1, g2⟩ := half_d h hd
      obtain rfl : c = d := by omega
      by_cases hi : i < a + half (b - a)
      · rw [WL_left (by unfold lkI; rw [if_pos ⟨h1, h2⟩, if_neg (by omega), if_pos hi]) h, WL_take (lk := lkI i) (a := a + half (b - a)) (by unfold lkI; rw [if_neg (by omega)]), List.length_append]
        have := ih a (a + half (b - a)) (by omega) h1 hi
        simp
        omega
      · rw [WL_right (by unfold lkI; rw [if_pos ⟨h1, h2⟩, if_neg (by omega), if_neg hi]; omega) h, WL_take (lk := lkI i) (a := a) (by unfold lkI; rw [if_neg (by omega)]), List.length_append]
        have := ih (a + half (b - a)) b (by omega) (by omega) h2
        simp
        omega
    · rw [WL_pass (by unfold lkI; rw [if_pos ⟨h1, h2⟩, if_pos (by omega)])]
      exact Nat.zero_le _
theorem cons_len (m : Nat) (d : Nat) : ∀ a b, b - a ≤ 2 ^ d → a < m → m ≤ b → (WL (lkC m) a b).length ≤ d + 1 := by
  induction d with
  | zero =>
    intro a b hd h1 h2
    have : (2 : Nat) ^ 0 = 1 := rfl
    by_cases ha : a = 0
    · rw [WL_pass (by unfold lkC; rw [if_pos ⟨ha, by omega⟩])]
      exact Nat.zero_le _
    · rw [WL_take (by unfold lkC; rw [if_neg (by omega), if_pos (by omega)])]
      exact Nat.le_refl _
  | succ d ih =>
    intro a b hd h1 h2
    by_cases hb : m = b
    · by_cases ha : a = 0
      · rw [WL_pass (by unfold lkC; rw [if_pos ⟨ha, by omega⟩])]
        exact Nat.zero_le _
      · rw [WL_take (by unfold lkC; rw [if_neg (by omega), if_pos (by omega)])]
        simp
    · have h : 2 ≤ b - a := by omega
      have hh := half_lt h
      obtain ⟨c, e, g1, g2⟩ := half_d h hd
      obtain rfl : c = d := by omega
      by_cases hm : m ≤ a + half (b - a)
      · rw [WL_left (by unfold lkC; rw [if_neg (by omega), if_neg (by omega), if_pos (by omega)]) h, WL_take (lk := lkC m) (a := a + half (b - a)) (by unfold lkC; rw [if_neg (by omega), if_pos (by omega)]), List.length_append]
        have := ih a (a + half (b - a)) (by omega) h1 hm
        simp
        omega
      · rw [WL_right (by unfold lkC; rw [if_neg (by omega), if_neg (by omega), if_neg (by omega)]; omega) h, WL_take (lk := lkC m) (a := a) (by unfold lkC; rw [if_neg (by omega), if_pos (by omega)]), List.length_append]
        have := ih (a + half (b - a)) b (by omega) (by omega) h2
        simp
        omega
-- one end of the range within
theorem out_len1 (lo hi : Nat) (d : Nat) : ∀ a b, b - a ≤ 2 ^ d → (lo ≤ a ∨ b ≤ hi) → lo < hi → a < b → ¬ (b ≤ lo ∨ hi ≤ a) → (WL (lkR lo hi) a b).length ≤ d := by
  induction d with
  | zero =>
    intro a b hd h1 h2 h3 h4
    have : (2 : Nat) ^ 0 = 1 := rfl
    rw [WL_pass (by unfold lkR; rw [if_neg h4, if_pos (by omega)])]
    exact Nat.le_refl _
  | succ d ih =>
    intro a b hd h1 h2 h3 h4
    by_cases hw : lo ≤ a ∧ b ≤ hi
    · rw [WL_pass (by unfold lkR; rw [if_neg h4, if_pos hw])]
      exact Nat.zero_le _
    · have h : 2 ≤ b - a := by omega
      have hh := half_lt h
      obtain ⟨c, e, g1, g2⟩ := half_d h hd
      obtain rfl : c = d := by omega
      rw [WL_left (by unfold lkR; rw [if_neg h4, if_neg hw]) h, List.length_append]
      obtain ⟨k, hk⟩ : ∃ k, a + half (b - a) = k := ⟨_, rfl⟩
      rw [hk]
      rcases h1 with h1 | h1
      · by_cases hm : hi ≤ k
        · rw [WL_take (lk := lkR lo hi) (a := k) (by unfold lkR; rw [if_pos (by omega)])]
          have := ih a k (by omega) (by omega) h2 (by omega) (by omega)
          simp
          omega
        · rw [WL_pass (lk := lkR lo hi) (a := a) (b := k) (by unfold lkR; rw [if_neg (by omega), if_pos (by omega)])]
          have := ih k b (by omega) (by omega) h2 (by omega) (by omega)
          simp
          omega
      · by_cases hm : k ≤ lo
        · rw [WL_take (lk := lkR lo hi) (a := a) (b := k) (by unfold lkR; rw [if_pos (by omega)])]
          have := ih k b (by omega) (by omega) h2 (by omega) (by omega)
          simp
          omega
        · rw [WL_pass (lk := lkR lo hi) (a := k) (b := b) (by unfold lkR; rw [if_neg (by omega), if_pos (by omega)])]
          have := ih a k (by omega) (by omega) h2 (by omega) (by omega)
          simp
          omega
theorem out_len (lo hi : Nat) (d : Nat) : ∀ a b, b - a ≤ 2 ^ d → lo < hi → a < b → ¬ (b ≤ lo ∨ hi ≤ a) → (WL (lkR lo hi) a b).length ≤ 2 * d := by
  induction d with
  | zero =>
    intro a b hd h2 h3 h4
    have : (2 : Nat) ^ 0 = 1 := rfl
    rw [WL_pass (by unfold lkR; rw [if_neg h4, if_pos (by omega)])]
    exact Nat.le_refl _
  | succ d ih =>
    intro a b hd h2 h3 h4
    by_cases hw : lo ≤ a ∧ b ≤ hi
    · rw [WL_pass (by unfold lkR; rw [if_neg h4, if_pos hw])]
      exact Nat.zero_le _
    · have h : 2 ≤ b - a := by omega
      have hh := half_lt h
      obtain ⟨c, e, g1, g2⟩ := half_d h hd
      obtain rfl : c = d := by omega
      rw [WL_left (by unfold lkR; rw [if_neg h4, if_neg hw]) h, List.length_append]
      obtain ⟨k, hk⟩ : ∃ k, a + half (b - a) = k := ⟨_, rfl⟩
      rw [hk]
      by_cases hm : hi ≤ k
      · rw [WL_take (lk := lkR lo hi) (a := k) (by unfold lkR; rw [if_pos (by omega)])]
        have := ih a k (by omega) h2 (by omega) (by omega)
        simp
        omega
      · by_cases hm2 : k ≤ lo
        · rw [WL_take (lk := lkR lo hi) (a := a) (b := k) (by unfold lkR; rw [if_pos (by omega)])]
          have := ih k b (by omega) h2 (by omega) (by omega)
          simp
          omega
        · have := out_len1 lo hi c a k (by omega) (by omega) h2 (by omega) (by omega)
          have := out_len1 lo hi c k b (by omega) (by omega) h2 (by omega) (by omega)
          omega
theorem inM_cut (ps : List Nat) (a k b : Nat) (h1 : a ≤ k) (h2 : k ≤ b) : (inM ps a k).length + (inM ps k b).length = (inM ps a b).length := by
  induction ps with
  | nil => rfl
  | cons p ps ih =>
    unfold inM at *
    simp only [List.filter_cons]
    by_cases g1 : a ≤ p <;> by_cases g2 : p < k <;> by_cases g3 : p < b <;> by_cases g4 : k ≤ p <;> simp [g1, g2, g3, g4] <;> omega
theorem multi_len (ps : List Nat) (d : Nat) : ∀ a b, b - a ≤ 2 ^ d → a < b → inM ps a b ≠ [] → (WL (lkM ps) a b).length ≤ (inM ps a b).length * d := by
  have ex : ∀ a b, inM ps a b ≠ [] → ∃ p ∈ ps, a ≤ p ∧ p < b := by
    intro a b h
    refine Classical.byContradiction fun hn => h ((inM_nil ps a b).2 hn)
  induction d with
  | zero =>
    intro a b hd h1 h2
    have : (2 : Nat) ^ 0 = 1 := rfl
    rw [WL_pass (by unfold lkM; rw [if_pos (ex a b h2), if_pos (by omega)])]
    exact Nat.zero_le _
  | succ d ih =>
    intro a b hd h1 h2
    by_cases h : 2 ≤ b - a
    · have hh := half_lt h
      obtain ⟨c, e, g1, g2⟩ := half_d h hd
      obtain rfl : c = d := by omega
      rw [WL_left (by unfold lkM; rw [if_pos (ex a b h2), if_neg (by omega)]) h, List.length_append]
      obtain ⟨k, hk⟩ : ∃ k, a + half (b - a) = k := ⟨_, rfl⟩
      rw [hk]
      have hc := inM_cut ps a k b (by omega) (by omega)
      have hq : 1 ≤ (inM ps a b).length := by
        rcases Nat.eq_zero_or_pos (inM ps a b).length with z | z
        · exact absurd (List.length_eq_zero_iff.1 z) h2
        · exact z
      rw [Nat.mul_succ]
      by_cases hl : inM ps a k = []
      · rw [WL_take (lk := lkM ps) (a := a) (b := k) (by unfold lkM; rw [if_neg ((inM_nil ps a k).1 hl)])]
        rw [hl, List.length_nil, Nat.zero_add] at hc
        have := ih k b (by omega) (by omega) (by intro z; rw [z] at hc; simp at hc; omega)
        rw [hc] at this
        simp
        omega
      · by_cases hr : inM ps k b = []
        · rw [WL_take (lk := lkM ps) (a := k) (b := b) (by unfold lkM; rw [if_neg ((inM_nil ps k b).1 hr)])]
          rw [hr, List.length_nil, Nat.add_zero] at hc
          have := ih a k (by omega) (by omega) hl
          rw [hc] at this
          simp
          omega
        · have i1 := ih a k (by omega) (by omega) hl
          have i2 := ih k b (by omega) (by omega) hr
          rw [← hc, Nat.add_mul]
          omega
    · rw [WL_pass (by unfold lkM; rw [if_pos (ex a b h2), if_pos (by omega)])]
      exact Nat.zero_le _
end Go.Proofs.Ytgkhnjmbmbebiaa.ab
