import Derived.PlainAid
namespace Go.Proofs.YtmigdhohbjnhcaaDoor.ca
set_option linter.unusedVariables false

-- the level of the piece at p, h leaves being left
def Lv (p h k : Nat) : Prop := k ≤ 62 ∧ 2 ^ k ∣ p ∧ 2 ^ k ≤ h ∧ (k = 62 ∨ ¬ 2 ^ (k + 1) ∣ p ∨ h < 2 ^ (k + 1))
theorem p2 (k : Nat) : 0 < 2 ^ k := Nat.two_pow_pos k
theorem p2s (k : Nat) : 2 ^ (k + 1) = 2 * 2 ^ k := by rw [Nat.pow_succ, Nat.mul_comm]
theorem p2le {j k : Nat} (h : j ≤ k) : 2 ^ j ≤ 2 ^ k := Nat.pow_le_pow_right (by decide) h
theorem p2dvd {j k : Nat} (h : j ≤ k) : 2 ^ j ∣ 2 ^ k := Nat.pow_dvd_pow 2 h
theorem p2lt {j k : Nat} (h : 2 ^ j < 2 ^ k) : j < k := by
  rcases Nat.lt_or_ge j k with e | e
  · exact e
  · have := p2le e; omega
theorem Lv.unique {p h k k' : Nat} (a : Lv p h k) (b : Lv p h k') : k = k' := by
  have key : ∀ {k k' : Nat}, Lv p h k → Lv p h k' → ¬ k < k' := by
    intro k k' a b hlt
    have h1 : 2 ^ (k + 1) ∣ p := Nat.dvd_trans (p2dvd hlt) b.2.1
    have h2 : 2 ^ (k + 1) ≤ h := Nat.le_trans (p2le hlt) b.2.2.1
    rcases a.2.2.2 with e | e | e
    · have := b.1; omega
    · exact e h1
    · omega
  have := key a b
  have := key b a
  omega
def lvF (p h : Nat) : Nat → Nat → Nat
  | 0, k => k
  | f + 1, k => if 2 ^ (k + 1) ∣ p ∧ 2 ^ (k + 1) ≤ h then lvF p h f (k + 1) else k
theorem lvF_lv (p h f k : Nat) (hf : f + k = 62) (h1 : 2 ^ k ∣ p) (h2 : 2 ^ k ≤ h) : Lv p h (lvF p h f k) := by
  induction f generalizing k with
  | zero => exact ⟨by show k ≤ 62; omega, h1, h2, .inl (by show k = 62; omega)⟩
  | succ f ih =>
    unfold lvF
    split
    · rename_i hh
      exact ih (k + 1) (by omega) hh.1 hh.2
    · rename_i hh
      refine ⟨by omega, h1, h2, .inr ?_⟩
      rcases Decidable.em (2 ^ (k + 1) ∣ p) with e | e
      · exact .inr (Nat.lt_of_not_le fun e' => hh ⟨e, e'⟩)
      · exact .inl e
def lv (p h : Nat) : Nat := lvF p h 62 0
theorem lv_lv (p h : Nat) (hh : 0 < h) : Lv p h (lv p h) := lvF_lv p h 62 0 rfl (Nat.one_dvd p) hh
-- the pieces from p up to hi
def cov (p hi : Nat) : List (Nat × Nat) :=
  if h : p < hi then (lv p (hi - p), p / 2 ^ lv p (hi - p)) :: cov (p + 2 ^ lv p (hi - p)) hi else []
termination_by hi - p
decreasing_by have := p2 (lv p (hi - p)); omega
theorem cov_end {p hi : Nat} (h : ¬ p < hi) : cov p hi = [] := by rw [cov, dif_neg h]
theorem cov_at {p hi k : Nat} (h : p < hi) (hk : Lv p (hi - p) k) : cov p hi = (k, p / 2 ^ k) :: cov (p + 2 ^ k) hi := by
  rw [cov, dif_pos h, Lv.unique (lv_lv p (hi - p) (by omega)) hk]
theorem cov_fold {p hi : Nat} (P : Nat → Nat → Prop) (h0 : ∀ p, ¬ p < hi → P p hi) (h1 : ∀ p k, p < hi → Lv p (hi - p) k → P (p + 2 ^ k) hi → P p hi) : P p hi := by
  generalize hn : hi - p = n
  induction n using Nat.strongRecOn generalizing p with
  | ind n ih =>
    rcases Nat.lt_or_ge p hi with e | e
    · have hl := lv_lv p (hi - p) (by omega)
      refine h1 p _ e hl (ih (hi - (p + 2 ^ lv p (hi - p))) ?_ rfl)
      have := p2 (lv p (hi - p))
      omega
    · exact h0 p (by omega)
-- below a place that 2^j divides, with fewer than 2^j leaves: the greatest power that fits
theorem lv_low {p h k j : Nat} (hj : 2 ^ j ∣ p) (hh : h < 2 ^ j) (hk : k < j) (h62 : k ≤ 62) (h1 : 2 ^ k ≤ h) (h2 : h < 2 ^ (k + 1)) : Lv p h k :=
  ⟨h62, Nat.dvd_trans (p2dvd (Nat.le_of_lt hk)) hj, h1, .inr (.inr h2)⟩
theorem low_is {p h k j : Nat} (hj : 2 ^ j ∣ p) (hh : h < 2 ^ j) (hl : Lv p h k) (hb : h < 2 ^ 63) : k < j ∧ h < 2 ^ (k + 1) := by
  have hkj : k < j := p2lt (Nat.lt_of_le_of_lt hl.2.2.1 hh)
  refine ⟨hkj, ?_⟩
  rcases hl.2.2.2 with e | e | e
  · subst e; exact hb
  · exact absurd (Nat.dvd_trans (p2dvd hkj) hj) e
  · exact e
theorem down_len (j : Nat) : ∀ (p h : Nat), 2 ^ j ∣ p → h < 2 ^ j → h < 2 ^ 63 → (cov p (p + h)).length ≤ j := by
  induction j using Nat.strongRecOn with
  | ind j ih =>
    intro p h hj hh hb
    rcases Nat.eq_zero_or_pos h with e | e
    · subst e; rw [cov_end (by omega)]; exact Nat.zero_le _
    · have hl : Lv p (p + h - p) (lv p (p + h - p)) := lv_lv _ _ (by omega)
      rw [Nat.add_sub_cancel_left] at hl
      obtain ⟨k, hk⟩ : ∃ k, lv p h = k := ⟨_, rfl⟩
      rw [hk] at hl
      obtain ⟨h1, h2⟩ := low_is hj hh hl hb
      have hs := p2s k
      rw [cov_at (by omega) (by rw [Nat.add_sub_cancel_left]; exact hl), List.length_cons]
      have := ih k h1 (p + 2 ^ k) (h - 2 ^ k) (Nat.dvd_add (Nat.dvd_trans (p2dvd (Nat.le_of_lt h1)) hj) (Nat.dvd_refl _)) (by omega) (by omega)
      rw [show p + 2 ^ k + (h - 2 ^ k) = p + h by have := hl.2.2.1; omega] at this
      omega
theorem dvd_pos_le {k p : Nat} (h : 2 ^ k ∣ p) (hp : 0 < p) : 2 ^ k ≤ p := Nat.le_of_dvd hp h
theorem up_len (n : Nat) : ∀ (j p h : Nat), 61 - j = n → j ≤ 61 → 0 < p → 2 ^ j ∣ p → p + h ≤ 2 ^ 62 → (cov p (p + h)).length ≤ 122 - j := by
  induction n using Nat.strongRecOn with
  | ind n ih =>
    intro j p h hn hj61 hp hj hb
    have hb63 : h < 2 ^ 63 := by have : (2 : Nat) ^ 63 = 2 * 2 ^ 62 := p2s 62; have := p2 62; omega
    rcases Nat.lt_or_ge h (2 ^ j) with e | e
    · have := down_len j p h hj e hb63; omega
    · have h0 : 0 < h := Nat.lt_of_lt_of_le (p2 j) e
      have hl := lv_lv p h h0
      obtain ⟨k, hk⟩ : ∃ k, lv p h = k := ⟨_, rfl⟩
      rw [hk] at hl
      have hs := p2s k
      have hpk := dvd_pos_le hl.2.1 hp
      have hcov := cov_at (p := p) (hi := p + h) (k := k) (by omega) (by rw [Nat.add_sub_cancel_left]; exact hl)
      have hk61 : k ≤ 61 := by
        rcases Nat.lt_or_ge k 62 with g | g
        · omega
        · have := p2le g; have := p2 62; have := hl.2.2.1; omega
      have heq : p + 2 ^ k + (h - 2 ^ k) = p + h := by have := hl.2.2.1; omega
      rw [hcov, List.length_cons]
      rcases Nat.lt_or_ge h (2 ^ (k + 1)) with g | g
      · have hd := down_len k (p + 2 ^ k) (h - 2 ^ k) (Nat.dvd_add hl.2.1 (Nat.dvd_refl _)) (by omega) (by omega)
        rw [heq] at hd
        rcases Nat.lt_or_ge j 61 with q | q
        · omega
        · -- j = 61: the whole upper half
          have q : j = 61 := by omega
          subst q
          have h61 := dvd_pos_le hj hp
          have e62 : (2 : Nat) ^ 62 = 2 * 2 ^ 61 := p2s 61
          have hh : h = 2 ^ 61 := by omega
          have : k = 61 := by
            rcases Nat.lt_or_ge k 61 with q | q
            · have := p2le (show k + 1 ≤ 61 from q); omega
            · omega
          subst this
          rw [cov_end (by omega)]
          simp
      · -- as much as divides p
        have hnd : ¬ 2 ^ (k + 1) ∣ p := by
          rcases hl.2.2.2 with q | q | q
          · omega
          · exact q
          · omega
        have hk60 : k ≤ 60 := by
          rcases Nat.lt_or_ge k 61 with q | q
          · omega
          · have : k = 61 := by omega
            subst this
            have e62 : (2 : Nat) ^ 62 = 2 * 2 ^ 61 := p2s 61
            have := p2 61
            omega
        have hjk : j ≤ k := by
          rcases Nat.lt_or_ge k j with q | q
          · exact absurd (Nat.dvd_trans (p2dvd q) hj) hnd
          · exact q
        have hd : 2 ^ (k + 1) ∣ p + 2 ^ k := by
          obtain ⟨c, hc⟩ := hl.2.1
          rcases Nat.mod_two_eq_zero_or_one c with q | q
          · exact absurd ⟨c / 2, by rw [hs, Nat.mul_assoc, Nat.mul_left_comm, show 2 * (c / 2) = c by omega]; exact hc⟩ hnd
          · exact ⟨(c + 1) / 2, by rw [hs, Nat.mul_assoc, Nat.mul_left_comm, show 2 * ((c + 1) / 2) = c + 1 by omega, Nat.mul_add, ← hc, Nat.mul_one]⟩
        have := ih (61 - (k + 1)) (by omega) (k + 1) (p + 2 ^ k) (h - 2 ^ k) rfl (by omega) (by omega) hd (by omega)
        rw [heq] at this
        omega
theorem cov_len (lo hi : Nat) (h : lo ≤ hi) (hb : hi ≤ 2 ^ 62) : (cov lo hi).length ≤ 122 := by
  obtain ⟨n, rfl⟩ : ∃ n, hi = lo + n := ⟨hi - lo, by omega⟩
  rcases Nat.eq_zero_or_pos lo with e | e
  · subst e
    have e63 : (2 : Nat) ^ 63 = 2 * 2 ^ 62 := p2s 62
    have := p2 62
    have := down_len 63 0 n (Nat.dvd_zero _) (by omega) (by omega)
    omega
  · exact up_len 61 0 lo n rfl (by omega) e (Nat.one_dvd _) hb
-- no piece's parent lies within the range
def Inv (lo hi p : Nat) : Prop := lo ≤ p ∧ ∀ m, 2 ^ m ∣ p → ¬ 2 ^ (m + 1) ∣ p → lo + 2 ^ m ≤ p → hi < p + 2 ^ m
theorem Inv.start (lo hi : Nat) : Inv lo hi lo := ⟨Nat.le_refl _, fun m _ _ h => by have := p2 m; omega⟩
theorem odd_of {k p : Nat} (h1 : 2 ^ k ∣ p) (h2 : ¬ 2 ^ (k + 1) ∣ p) : ∃ c, p = 2 ^ (k + 1) * c + 2 ^ k := by
  obtain ⟨c, hc⟩ := h1
  rcases Nat.mod_two_eq_zero_or_one c with q | q
  · exact absurd ⟨c / 2, by rw [p2s, Nat.mul_assoc, Nat.mul_left_comm, show 2 * (c / 2) = c by omega]; exact hc⟩ h2
  · refine ⟨c / 2, ?_⟩
    rw [p2s, Nat.mul_assoc, Nat.mul_left_comm, hc]
    generalize 2 ^ k = z
    obtain ⟨d, rfl⟩ : ∃ d, c = 2 * d + 1 := ⟨c / 2, by omega⟩
    rw [show (2 * d + 1) / 2 = d by omega, Nat.mul_add, Nat.mul_one]
theorem Inv.step {lo hi p k : Nat} (h : Inv lo hi p) (hlt : p < hi) (hb : hi ≤ 2 ^ 62) (hl : Lv p (hi - p) k) : Inv lo hi (p + 2 ^ k) := by
  refine ⟨by have := h.1; have := p2 k; omega, fun m m1 m2 m3 => ?_⟩
  rcases Nat.lt_or_ge hi (p + 2 ^ k + 2 ^ m) with g | g
  · exact g
  · exfalso
    have hs := p2s k
    have hkm : k ≤ m := by
      rcases Nat.lt_or_ge m k with q | q
      · exact absurd (Nat.dvd_add (Nat.dvd_trans (p2dvd q) hl.2.1) (p2dvd q)) m2
      · exact q
    rcases Nat.lt_or_ge k m with q | q
    · -- p is just divided by 2^k
      have hnd : ¬ 2 ^ (k + 1) ∣ p := by
        intro hd
        have h1 : 2 ^ (k + 1) ∣ p + 2 ^ k := Nat.dvd_trans (p2dvd q) m1
        have h2 : 2 ^ (k + 1) ∣ 2 ^ k := (Nat.dvd_add_iff_right hd).2 h1
        have := Nat.le_of_dvd (p2 k) h2
        have := p2 k
        omega
      have hno : ¬ lo + 2 ^ k ≤ p := fun e => by
        have := h.2 k hl.2.1 hnd e
        have := hl.2.2.1
        omega
      have := p2le q
      omega
    · have e : m = k := by omega
      subst e
      obtain ⟨c, hc⟩ := odd_of m1 m2
      have hd : 2 ^ (m + 1) ∣ p := ⟨c, by omega⟩
      rcases hl.2.2.2 with e | e | e
      · subst e
        have := p2 62
        omega
      · exact e hd
      · omega
theorem Inv.up {lo hi p k : Nat} (h : Inv lo hi p) (hlt : p < hi) (hl : Lv p (hi - p) k) (hk : k < 62) : ¬ (lo ≤ p / 2 ^ (k + 1) * 2 ^ (k + 1) ∧ (p / 2 ^ (k + 1) + 1) * 2 ^ (k + 1) ≤ hi) := by
  rintro ⟨g1, g2⟩
  have hs := p2s k
  rcases Decidable.em (2 ^ (k + 1) ∣ p) with e | e
  · have e1 := Nat.div_mul_cancel e
    rw [Nat.add_mul, e1] at g2
    rcases hl.2.2.2 with q | q | q
    · omega
    · exact q e
    · omega
  · obtain ⟨c, hc⟩ := odd_of hl.2.1 e
    have hq : p / 2 ^ (k + 1) = c := by
      rw [hc, Nat.mul_add_div (p2 _), Nat.div_eq_of_lt (by have := p2 k; omega), Nat.add_zero]
    rw [hq, Nat.mul_comm] at g1
    have hno : ¬ lo + 2 ^ k ≤ p := fun e' => by
      have := h.2 k hl.2.1 e e'
      have := hl.2.2.1
      omega
    omega
end Go.Proofs.YtmigdhohbjnhcaaDoor.ca
