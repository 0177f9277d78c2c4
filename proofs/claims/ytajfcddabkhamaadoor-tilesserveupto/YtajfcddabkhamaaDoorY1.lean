import Derived.PlainAid
namespace Go.Proofs.YtajfcddabkhamaaDoor.ca
set_option linter.unusedVariables false

-- the level of the piece at p, h leaves being left
def Lv (p h k : Nat) : Prop := k ≤ 62 ∧ 2 ^ k ∣ p ∧ 2 ^ k ≤ h ∧ (k = 62 ∨ ¬ 2 ^ (k + 1) ∣ p ∨ h < 2 ^ (k + 1))
theorem p2 (k : Nat) : 0 < 2 ^ k := Nat.two_pow_pos k
theorem p2s (k : Nat) : 2 ^ (k + 1) = 2 * 2 ^ k := by rw [Nat.pow_succ, Nat.mul_comm]
theorem p2le {j k : Nat} (h : j ≤ k) : 2 ^ j ≤ 2 ^ k := Nat.pow_le_pow_right (by decide) h
theorem p2dvd {j k : Nat} (h : j ≤ k) : 2 ^ j ∣ 2 ^ k := Nat.pow_dvd_pow 2 h
theorem p2lt {j k : Nat} (h : 2 ^ j < 2 ^ k) : j < k := by
  rcases Nat.lt_or_ge j k with e | e
  · exact e
  · have := p2le e; omega
theorem Lv.unique {p h k k' : Nat} (a : Lv p h k) (b : Lv p h k') : k = k' := by
  have key : ∀ {k k' : Nat}, Lv p h k → Lv p h k' → ¬ k < k' := by
    intro k k' a b hlt
    have h1 : 2 ^ (k + 1) ∣ p := Nat.dvd_trans (p2dvd hlt) b.2.1
    have h2 : 2 ^ (k + 1) ≤ h := Nat.le_trans (p2le hlt) b.2.2.1
    rcases a.2.2.2 with e | e | e
    · have := b.1; omega
    · exact e h1
    · omega
  have := key a b
  have := key b a
  omega
def lvF (p h : Nat) : Nat → Nat → Nat
  | 0, k => k
  | f + 1, k => if 2 ^ (k + 1) ∣ p ∧ 2 ^ (k + 1) ≤ h then lvF p h f (k + 1) else k
theorem lvF_lv (p h f k : Nat) (hf : f + k = 62) (h1 : 2 ^ k ∣ p) (h2 : 2 ^ k ≤ h) : Lv p h (lvF p h f k) := by
  induction f generalizing k with
  | zero => exact ⟨by show k ≤ 62; omega, h1, h2, .inl (by show k = 62; omega)⟩
  | succ f ih =>
    unfold lvF
    split
    · rename_i hh
      exact ih (k + 1) (by omega) hh.1 hh.2
    · rename_i hh
      refine ⟨by omega, h1, h2, .inr ?_⟩
      rcases Decidable.em (2 ^ (k + 1) ∣ p) with e | e
      · exact .inr (Nat.lt_of_not_le fun e' => hh ⟨e, e'⟩)
      · exact .inl e
def lv (p h : Nat) : Nat := lvF p h 62 0
theorem lv_lv (p h : Nat) (hh : 0 < h) : Lv p h (lv p h) := lvF_lv p h 62 0 rfl (Nat.one_dvd p) hh
-- the pieces from p up to hi
def cov (p hi : Nat) : List (Nat × Nat) :=
  if h : p < hi then (lv p (hi - p), p / 2 ^ lv p (hi - p)) :: cov (p + 2 ^ lv p (hi - p)) hi else []
termination_by hi - p
decreasing_by have := p2 (lv p (hi - p)); omega
theorem cov_end {p hi : Nat} (h : ¬ p < hi) : cov p hi = [] := by rw [cov, dif_neg h]
theorem cov_at {p hi k : Nat} (h : p < hi) (hk : Lv p (hi - p) k) : cov p hi = (k, p / 2 ^ k) :: cov (p + 2 ^ k) hi := by
  rw [cov, dif_pos h, Lv.unique (lv_lv p (hi - p) (by omega)) hk]
theorem cov_fold {p hi : Nat} (P : Nat → Nat → Prop) (h0 : ∀ p, ¬ p < hi → P p hi) (h1 : ∀ p k, p < hi → Lv p (hi - p) k → P (p + 2 ^ k) hi → P p hi) : P p hi := by
  generalize hn : hi - p = n
  induction n using Nat.strongRecOn generalizing p with
  | ind n ih =>
    rcases Nat.lt_or_ge p hi with e | e
    · have hl := lv_lv p (hi - p) (by omega)
      refine h1 p _ e hl (ih (hi - (p + 2 ^ lv p (hi - p))) ?_ rfl)
      have := p2 (lv p (hi - p))
      omega
    · exact h0 p (by omega)
-- below a place that 2^j divides, with fewer than 2^j leaves: the greatest power that fits
theorem lv_low {p h k j : Nat} (hj : 2 ^ j ∣ p) (hh : h < 2 ^ j) (hk : k < j) (h62 : k ≤ 62) (h1 : 2 ^ k ≤ h) (h2 : h < 2 ^ (k + 1)) : Lv p h k :=
  ⟨h62, Nat.dvd_trans (p2dvd (Nat.le_of_lt hk)) hj, h1, .inr (.inr h2)⟩
theorem low_is {p h k j : Nat} (hj : 2 ^ j ∣ p) (hh : h < 2 ^ j) (hl : Lv p h k) (hb : h < 2 ^ 63) : k < j ∧ h < 2 ^ (k + 1) := by
  have hkj : k < j := p2lt (Nat.lt_of_le_of_lt hl.2.2.1 hh)
  refine ⟨hkj, ?_⟩
  rcases hl.2.2.2 with e | e | e
  · subst e; exact hb
  · exact absurd (Nat.dvd_trans (p2dvd hkj) hj) e
  · exact e
theorem down_len (j : Nat) : ∀ (p h : Nat), 2 ^ j ∣ p → h < 2 ^ j → h < 2 ^ 63 → (cov p (p + h)).length ≤ j := by
  induction j using Nat.strongRecOn with
  | ind j ih =>
    intro p h hj hh hb
    rcases Nat.eq_zero_or_pos h with e | e
    · subst e; rw [cov_end (by omega)]; exact Nat.zero_le _
    · have hl : Lv p (p + h - p) (lv p (p + h - p)) := lv_lv _ _ (by omega)
      rw [Nat.add_sub_cancel_left] at hl
      obtain ⟨k, hk⟩ : ∃ k, lv p h = k := ⟨_, rfl⟩
      rw [hk] at hl
      obtain ⟨h1, h2⟩ := low_is hj hh hl hb
      have hs := p2s k
      rw [cov_at (by omega) (by rw [Nat.add_sub_cancel_left]; exact hl), List.length_cons]
      have := ih k h1 (p + 2 ^ k) (h - 2 ^ k) (Nat.dvd_add (Nat.dvd_trans (p2dvd (Nat.le_of_lt h1)) hj) (Nat.dvd_refl _)) (by omega) (by omega)
      rw [show p + 2 ^ k + (h - 2 ^ k) = p + h by have := hl.2.2.1; omega] at this
      omega
theorem dvd_pos_le {k p : Nat} (h : 2 ^ k ∣ p) (hp : 0 < p) : 2 ^ k ≤ p := Nat.le_of_dvd hp h
theorem up_len (n : Nat) : ∀ (j p h : Nat), 61 - j = n → j ≤ 61 → 0 < p → 2 ^ j ∣ p → p + h ≤ 2 ^ 62 → (cov p (p + h)).length ≤ 122 - j := by
  induction n using Nat.strongRecOn with
  | ind n ih =>
    intro j p h hn hj61 hp hj hb
    have hb63 : h < 2 ^ 63 := by have : (2 : Nat) ^ 63 = 2 * 2 ^ 62 := p2s 62; have := p2 62; omega
    rcases Nat.lt_or_ge h (2 ^ j) with e | e
    · have := down_len j p h hj e hb63; omega
    · have h0 : 0 < h := Nat.lt_of_lt_of_le (p2 j) e
      have hl := lv_lv p h h0
      obtain ⟨k, hk⟩ : ∃ k, lv p h = k := ⟨_, rfl⟩
      rw [hk] at hl
      have hs := p2s k
      have hpk := dvd_pos_le hl.2.1 hp
      have hcov := cov_at (p := p) (hi := p + h) (k := k) (by omega) (by rw [Nat.add_sub_cancel_left]; exact hl)
      have hk61 : k ≤ 61 := by
        rcases Nat.lt_or_ge k 62 with g | g
        · omega
        · have := p2le g; have := p2 62; have := hl.2.2.1; omega
      have heq : p + 2 ^ k + (h - 2 ^ k) = p + h := by have := hl.2.2.1; omega
      rw [hcov, List.length_cons]
      rcases Nat.lt_or_ge h (2 ^ (k + 1)) with g | g
      · have hd := down_len k (p + 2 ^ k) (h - 2 ^ k) (Nat.dvd_add hl.2.1 (Nat.dvd_refl _)) (by omega) (by omega)
        rw [heq] at hd
        rcases Nat.lt_or_ge j 61 with q | q
        · omega
        · -- j = 61: the whole upper half
          have q : j = 61 := by omega
          subst q
          have h61 := dvd_pos_le hj hp
          have e62 : (2 : Nat) ^ 62 = 2 * 2 ^ 61 := p2s 61
          have hh : h = 2 ^ 61 := by omega
          have : k = 61 := by
            rcases Nat.lt_or_ge k 61 with q | q
            · have := p2le (show k + 1 ≤ 61 from q); omega
            · omega
          subst this
          rw [cov_end (by omega)]
          simp
      · -- as much as divides p
        have hnd : ¬ 2 ^ (k + 1) ∣ p := by
          rcases hl.2.2.2 with q | q | q
          · omega
          · exact q
          · omega
        have hk60 : k ≤ 60 := by
          rcases Nat.lt_or_ge k 61 with q | q
          · omega
          · have : k = 61 := by omega
            subst this
            have e62 : (2 : Nat) ^ 62 = 2 * 2 ^ 61 := p2s 61
            have := p2 61
            omega
        have hjk : j ≤ k := by
          rcases Nat.lt_or_ge k j with q | q
          · exact absurd (Nat.dvd_trans (p2dvd q) hj) hnd
          · exact q
        have hd : 2 ^ (k + 1) ∣ p + 2 ^ k := by
          obtain ⟨c, hc⟩ := hl.2.1
          rcases Nat.mod_two_eq_zero_or_one c with q | q
          · exact absurd ⟨c / 2, by rw [hs, Nat.mul_assoc, Nat.mul_left_comm, show 2 * (c / 2) = c by omega]; exact hc⟩ hnd
          · exact ⟨(c + 1) / 2, by rw [hs, Nat.mul_assoc, Nat.mul_left_comm, show 2 * ((c + 1) / 2) = c + 1 by omega, Nat.mul_add, ← hc, Nat.mul_one]⟩
        have := ih (61 - (k + 1)) (by omega) (k + 1) (p + 2 ^ k) (h - 2 ^ k) rfl (by omega) (by omega) hd (by omega)
        rw [heq] at this
        omega
theorem cov_len (lo hi : Nat) (h : lo ≤ hi) (hb : hi ≤ 2 ^ 62) : (cov lo hi).length ≤ 122 := by
  obtain ⟨n, rfl⟩ : ∃ n, hi = lo + n := ⟨hi - lo, by omega⟩
  rcases Nat.eq_zero_or_pos lo with e | e
  · subst e
    have e63 : (2 : Nat) ^ 63 = 2 * 2 ^ 62 := p2s 62
    have := p2 62
    have := down_len 63 0 n (Nat.dvd_zero _) (by omega) (by omega)
    omega
  · exact up_len 61 0 lo n rfl (by omega) e (Nat.one_dvd _) hb
-- no piece's parent lies within the range
def Inv (lo hi p : Nat) : Prop := lo ≤ p ∧ ∀ m, 2 ^ m ∣ p → ¬ 2 ^ (m + 1) ∣ p → lo + 2 ^ m ≤ p → hi < p + 2 ^ m
theorem Inv.start (lo hi : Nat) : Inv lo hi lo := ⟨Nat.le_refl _, fun m _ _ h => by have := p2 m; omega⟩
theorem odd_of {k p : Nat} (h1 : 2 ^ k ∣ p) (h2 : ¬ 2 ^ (k + 1) ∣ p) : ∃ c, p = 2 ^ (k + 1) * c + 2 ^ k := by
  obtain ⟨c, hc⟩ := h1
  rcases Nat.mod_two_eq_zero_or_one c with q | q
  · exact absurd ⟨c / 2, by rw [p2s, Nat.mul_assoc, Nat.mul_left_comm, show 2 * (c / 2) = c by omega]; exact hc⟩ h2
  · refine ⟨c / 2, ?_⟩
    rw [p2s, Nat.mul_assoc, Nat.mul_left_comm, hc]
    generalize 2 ^ k = z
    obtain ⟨d, rfl⟩ : ∃ d, c = 2 * d + 1 := ⟨c / 2, by omega⟩
    rw [show (2 * d + 1) / 2 = d by omega, Nat.mul_add, Nat.mul_one]
theorem Inv.step {lo hi p k : Nat} (h : Inv lo hi p) (hlt : p < hi) (hb : hi ≤ 2 ^ 62) (hl : Lv p (hi - p) k) : Inv lo hi (p + 2 ^ k) := by
  refine ⟨by have := h.1; have := p2 k; omega, fun m m1 m2 m3 => ?_⟩
  rcases Nat.lt_or_ge hi (p + 2 ^ k + 2 ^ m) with g | g
  · exact g
  · exfalso
    have hs := p2s k
    have hkm : k ≤ m := by
      rcases Nat.lt_or_ge m k with q | q
      · exact absurd (Nat.dvd_add (Nat.dvd_trans (p2dvd q) hl.2.1) (p2dvd q)) m2
      · exact q
    rcases Nat.lt_or_ge k m with q | q
    · -- p is just divided by 2^k
      have hnd : ¬ 2 ^ (k + 1) ∣ p := by
        intro hd
        have h1 : 2 ^ (k + 1) ∣ p + 2 ^ k := Nat.dvd_trans (p2dvd q) m1
        have h2 : 2 ^ (k + 1) ∣ 2 ^ k := (Nat.dvd_add_iff_right hd).2 h1
        have := Nat.le_of_dvd (p2 k) h2
        have := p2 k
        omega
      have hno : ¬ lo + 2 ^ k ≤ p := fun e => by
        have := h.2 k hl.2.1 hnd e
        have := hl.2.2.1
        omega
      have := p2le q
      omega
    · have e : m = k := by omega
      subst e
      obtain ⟨c, hc⟩ := odd_of m1 m2
      have hd : 2 ^ (m + 1) ∣ p := ⟨c, by omega⟩
      rcases hl.2.2.2 with e | e | e
      · subst e
        have := p2 62
        omega
      · exact e hd
      · omega
theorem Inv.up {lo hi p k : Nat} (h : Inv lo hi p) (hlt : p < hi) (hl : Lv p (hi - p) k) (hk : k < 62) : ¬ (lo ≤ p / 2 ^ (k + 1) * 2 ^ (k + 1) ∧ (p / 2 ^ (k + 1) + 1) * 2 ^ (k + 1) ≤ hi) := by
  rintro ⟨g1, g2⟩
  have hs := p2s k
  rcases Decidable.em (2 ^ (k + 1) ∣ p) with e | e
  · have e1 := Nat.div_mul_cancel e
    rw [Nat.add_mul, e1] at g2
    rcases hl.2.2.2 with q | q | q
    · omega
    · exact q e
    · omega
  · obtain ⟨c, hc⟩ := odd_of hl.2.1 e
    have hq : p / 2 ^ (k + 1) = c := by
      rw [hc, Nat.mul_add_div (p2 _), Nat.div_eq_of_lt (by have := p2 k; omega), Nat.add_zero]
    rw [hq, Nat.mul_comm] at g1
    have hno : ¬ lo + 2 ^ k ≤ p := fun e' => by
      have := h.2 k hl.2.1 e e'
      have := hl.2.2.1
      omega
    omega
end Go.Proofs.YtajfcddabkhamaaDoor.ca

namespace Go.Proofs.YtajfcddabkhamaaDoor.cb
open Go.Proofs.YtajfcddabkhamaaDoor.ca
set_option linter.unusedVariables false

-- the binary digits 1 below j, the greatest first
def digs : Nat → Nat → List Nat
  | 0, _ => []
  | j + 1, h => if h / 2 ^ j % 2 = 1 then j :: digs j h else digs j h
theorem digs_add (i r : Nat) : ∀ j, j ≤ i → digs j (2 ^ i + r) = digs j r := by
  intro j
  induction j with
  | zero => intro _; rfl
  | succ j ih =>
    intro h
    have e : (2 ^ i + r) / 2 ^ j % 2 = r / 2 ^ j % 2 := by
      obtain ⟨d, rfl⟩ : ∃ d, i = j + (d + 1) := ⟨i - j - 1, by omega⟩
      rw [Nat.pow_add, Nat.mul_add_div (p2 j), p2s d]
      omega
    unfold digs
    rw [e, ih (by omega)]
theorem digs_low {j h : Nat} (hh : h < 2 ^ j) : digs (j + 1) h = digs j h := by
  show (if h / 2 ^ j % 2 = 1 then _ else _) = _
  rw [Nat.div_eq_of_lt hh, if_neg (by decide)]
theorem cov_digs (j : Nat) : ∀ (p h : Nat), 2 ^ j ∣ p → h < 2 ^ j → j ≤ 63 → (cov p (p + h)).map Prod.fst = digs j h := by
  induction j with
  | zero =>
    intro p h _ hh _
    have : h = 0 := by have : (2 : Nat) ^ 0 = 1 := rfl; omega
    subst this
    rw [cov_end (by omega)]
    rfl
  | succ j ih =>
    intro p h hd hh hj
    have hs := p2s j
    have hd' : 2 ^ j ∣ p := Nat.dvd_trans (p2dvd (Nat.le_succ j)) hd
    rcases Nat.lt_or_ge h (2 ^ j) with g | g
    · rw [digs_low g]
      exact ih p h hd' g (by omega)
    · rw [cov_at (k := j) (by have := p2 j; omega) (by rw [Nat.add_sub_cancel_left]; exact ⟨by omega, hd', g, .inr (.inr hh)⟩), List.map_cons]
      have := ih (p + 2 ^ j) (h - 2 ^ j) (Nat.dvd_add hd' (Nat.dvd_refl _)) (by omega) (by omega)
      rw [show p + 2 ^ j + (h - 2 ^ j) = p + h by omega] at this
      rw [this]
      have e : digs j h = digs j (h - 2 ^ j) := by
        have := digs_add j (h - 2 ^ j) j (Nat.le_refl _)
        rwa [show 2 ^ j + (h - 2 ^ j) = h by omega] at this
      show _ = (if h / 2 ^ j % 2 = 1 then _ else _)
      have q : h / 2 ^ j = 1 := by
        have : h = 2 ^ j * 1 + (h - 2 ^ j) := by omega
        rw [this, Nat.mul_add_div (p2 j), Nat.div_eq_of_lt (by omega)]
      rw [q, if_pos rfl, e]
-- the greatest power of two below n
def halfF (n : Nat) : Nat → Nat → Nat
  | 0, k => k
  | f + 1, k => if 2 * k < n then halfF n f (2 * k) else k
theorem halfF_is (n : Nat) : ∀ f j, n ≤ 2 ^ (f + j) → 2 ^ j < n → ∃ i, halfF n f (2 ^ j) = 2 ^ i ∧ 2 ^ i < n ∧ n ≤ 2 ^ (i + 1) := by
  intro f
  induction f with
  | zero => intro j h1 h2; rw [Nat.zero_add] at h1; omega
  | succ f ih =>
    intro j h1 h2
    unfold halfF
    split
    · rename_i hh
      rw [← p2s] at hh ⊢
      exact ih (j + 1) (by rw [show f + (j + 1) = f + 1 + j by omega]; exact h1) hh
    · rename_i hh
      exact ⟨j, rfl, h2, by rw [p2s]; omega⟩
def half (n : Nat) : Nat := halfF n n 1
theorem half_is {n : Nat} (h : 2 ≤ n) : ∃ i, half n = 2 ^ i ∧ 2 ^ i < n ∧ n ≤ 2 ^ (i + 1) :=
  halfF_is n n 0 (by rw [Nat.add_zero]; exact Nat.le_of_lt Nat.lt_two_pow_self) (by show 1 < n; omega)
theorem half_eq {n j : Nat} (h1 : 2 ^ j < n) (h2 : n ≤ 2 ^ (j + 1)) : half n = 2 ^ j := by
  have := p2 j
  obtain ⟨i, e, g1, g2⟩ := half_is (n := n) (by omega)
  have a : j < i + 1 := p2lt (by omega)
  have b : i < j + 1 := p2lt (by omega)
  rw [e, show i = j by omega]
section
variable {α : Type} (E : α) (N : α → α → α)
def foldP : List α → α
  | [] => E
  | [x] => x
  | x :: y :: r => N x (foldP (y :: r))
def rootP (l : List α) : α :=
  if h : 2 ≤ l.length then N (rootP (l.take (half l.length))) (rootP (l.drop (half l.length))) else l.headD E
termination_by l.length
decreasing_by
  · obtain ⟨i, e, g1, g2⟩ := half_is h
    rw [List.length_take, e]
    omega
  · obtain ⟨i, e, g1, g2⟩ := half_is h
    have := p2 i
    rw [List.length_drop, e]
    omega
theorem rootP_nil : rootP E N [] = E := by rw [rootP, dif_neg (by simp)]; rfl
theorem rootP_one (x : α) : rootP E N [x] = x := by rw [rootP, dif_neg (by simp)]; rfl
theorem rootP_two {l : List α} {j : Nat} (h1 : 2 ^ j < l.length) (h2 : l.length ≤ 2 ^ (j + 1)) : rootP E N l = N (rootP E N (l.take (2 ^ j))) (rootP E N (l.drop (2 ^ j))) := by
  have := p2 j
  rw [rootP, dif_pos (by omega), half_eq h1 h2]
theorem rootP_half {l : List α} (h : 2 ≤ l.length) : rootP E N l = N (rootP E N (l.take (half l.length))) (rootP E N (l.drop (half l.length))) := by
  rw [rootP, dif_pos h]
def piece (L : List α) (a : Nat × Nat) : List α := (L.drop (a.2 * 2 ^ a.1)).take (2 ^ a.1)
theorem fold_roots (L : List α) (h : Nat) : ∀ (j p : Nat), 2 ^ j ∣ p → h < 2 ^ j → j ≤ 63 → p + h ≤ L.length → foldP E N ((cov p (p + h)).map fun a => rootP E N (piece L a)) = rootP E N ((L.drop p).take h) := by
  induction h using Nat.strongRecOn with
  | ind h ih =>
    intro j p hd hh hj hL
    have hb : h < 2 ^ 63 := Nat.lt_of_lt_of_le hh (p2le hj)
    rcases Nat.eq_zero_or_pos h with e | e
    · subst e
      rw [cov_end (by omega), List.take_zero, rootP_nil]
      rfl
    · have hl := lv_lv p h e
      obtain ⟨k, hk⟩ : ∃ k, lv p h = k := ⟨_, rfl⟩
      rw [hk] at hl
      obtain ⟨h1, h2⟩ := low_is hd hh hl hb
      have hs := p2s k
      have h3 := hl.2.2.1
      rw [cov_at (p := p) (k := k) (by omega) (by rw [Nat.add_sub_cancel_left]; exact hl), List.map_cons]
      have hp : piece L (k, p / 2 ^ k) = (L.drop p).take (2 ^ k) := by
        show (L.drop (p / 2 ^ k * 2 ^ k)).take (2 ^ k) = _
        rw [Nat.div_mul_cancel hl.2.1]
      rw [hp]
      rcases Nat.lt_or_ge (2 ^ k) h with g | g
      · have hne : p + 2 ^ k < p + h := by omega
        have hi := ih (h - 2 ^ k) (by have := p2 k; omega) k (p + 2 ^ k) (Nat.dvd_add hl.2.1 (Nat.dvd_refl _)) (by omega) (by omega) (by omega)
        rw [show p + 2 ^ k + (h - 2 ^ k) = p + h by omega] at hi
        have hll : ((L.drop p).take h).length = h := by rw [List.length_take, List.length_drop]; omega
        rw [rootP_two E N (l := (L.drop p).take h) (j := k) (by rw [hll]; exact g) (by rw [hll]; omega), List.take_take, Nat.min_eq_left (by omega), List.drop_take, List.drop_drop, ← hi]
        obtain ⟨y, r, hy⟩ : ∃ y r, (cov (p + 2 ^ k) (p + h)).map (fun a => rootP E N (piece L a)) = y :: r := by
          rw [cov_at hne (lv_lv _ _ (by omega)), List.map_cons]
          exact ⟨_, _, rfl⟩
        rw [hy]
        rfl
      · obtain rfl : h = 2 ^ k := by omega
        rw [cov_end (by omega)]
        rfl
theorem fold_all (L : List α) (hL : L.length < 2 ^ 63) : foldP E N ((cov 0 L.length).map fun a => rootP E N (piece L a)) = rootP E N L := by
  have := fold_roots E N L L.length 63 0 (Nat.dvd_zero _) hL (Nat.le_refl _) (by omega)
  rw [Nat.zero_add, List.drop_zero, List.take_length] at this
  exact this
end
end Go.Proofs.YtajfcddabkhamaaDoor.cb

namespace Go.Proofs.YtajfcddabkhamaaDoor.ga
open Go.Proofs.YtajfcddabkhamaaDoor.ca Go.Proofs.YtajfcddabkhamaaDoor.cb
set_option linter.unusedVariables false

theorem half_lt {n : Nat} (h : 2 ≤ n) : 1 ≤ half n ∧ half n < n ∧ n ≤ 2 * half n := by
  obtain ⟨i, e, g1, g2⟩ := half_is h
  have := p2 i
  rw [p2s] at g2
  rw [e]
  omega
section
variable {α : Type} (E : α) (N : α → α → α)
-- the inclusion proof of place i; the consistency proof
def pathP (i : Nat) (l : List α) : List α :=
  if h : 2 ≤ l.length then
    if i < half l.length then pathP i (l.take (half l.length)) ++ [rootP E N (l.drop (half l.length))]
    else pathP (i - half l.length) (l.drop (half l.length)) ++ [rootP E N (l.take (half l.length))]
  else []
termination_by l.length
decreasing_by
  · have := half_lt h; rw [List.length_take]; omega
  · have := half_lt h; rw [List.length_drop]; omega
theorem pathP_one {i : Nat} {l : List α} (h : ¬ 2 ≤ l.length) : pathP E N i l = [] := by rw [pathP, dif_neg h]
theorem pathP_low {i : Nat} {l : List α} (h : 2 ≤ l.length) (hi : i < half l.length) : pathP E N i l = pathP E N i (l.take (half l.length)) ++ [rootP E N (l.drop (half l.length))] := by rw [pathP, dif_pos h, if_pos hi]
theorem pathP_high {i : Nat} {l : List α} (h : 2 ≤ l.length) (hi : ¬ i < half l.length) : pathP E N i l = pathP E N (i - half l.length) (l.drop (half l.length)) ++ [rootP E N (l.take (half l.length))] := by rw [pathP, dif_pos h, if_neg hi]
theorem pathP_len (n : Nat) : ∀ (i : Nat) (l : List α), l.length = n → (pathP E N i l).length ≤ n - 1 := by
  induction n using Nat.strongRecOn with
  | ind n ih =>
    intro i l hl
    by_cases h : 2 ≤ l.length
    · have hh := half_lt h
      by_cases hi : i < half l.length
      · rw [pathP_low E N h hi, List.length_append]
        have := ih (half l.length) (by omega) i (l.take (half l.length)) (by rw [List.length_take]; omega)
        simp
        omega
      · rw [pathP_high E N h hi, List.length_append]
        have := ih (l.length - half l.length) (by omega) (i - half l.length) (l.drop (half l.length)) (by rw [List.length_drop])
        simp
        omega
    · rw [pathP_one E N h]; simp
def subP (m : Nat) (l : List α) (b : Bool) : List α :=
  if h : m < l.length ∧ 2 ≤ l.length then
    if m ≤ half l.length then subP m (l.take (half l.length)) b ++ [rootP E N (l.drop (half l.length))]
    else subP (m - half l.length) (l.drop (half l.length)) false ++ [rootP E N (l.take (half l.length))]
  else if b then [] else [rootP E N l]
termination_by l.length
decreasing_by
  · have := half_lt h.2; rw [List.length_take]; omega
  · have := half_lt h.2; rw [List.length_drop]; omega
theorem subP_all {m : Nat} {l : List α} {b : Bool} (h : ¬ m < l.length) : subP E N m l b = if b then [] else [rootP E N l] := by rw [subP, dif_neg (fun hh => h hh.1)]
theorem subP_low {m : Nat} {l : List α} {b : Bool} (h : m < l.length) (h2 : 2 ≤ l.length) (hm : m ≤ half l.length) : subP E N m l b = subP E N m (l.take (half l.length)) b ++ [rootP E N (l.drop (half l.length))] := by rw [subP, dif_pos ⟨h, h2⟩, if_pos hm]
theorem subP_high {m : Nat} {l : List α} {b : Bool} (h : m < l.length) (h2 : 2 ≤ l.length) (hm : ¬ m ≤ half l.length) : subP E N m l b = subP E N (m - half l.length) (l.drop (half l.length)) false ++ [rootP E N (l.take (half l.length))] := by rw [subP, dif_pos ⟨h, h2⟩, if_neg hm]
theorem subP_len (n : Nat) : ∀ (m : Nat) (l : List α) (b : Bool), l.length = n → 1 ≤ n → (subP E N m l b).length ≤ n := by
  induction n using Nat.strongRecOn with
  | ind n ih =>
    intro m l b hl hn
    by_cases h : m < l.length ∧ 2 ≤ l.length
    · have hh := half_lt h.2
      by_cases hm : m ≤ half l.length
      · rw [subP_low E N h.1 h.2 hm, List.length_append]
        have := ih (half l.length) (by omega) m (l.take (half l.length)) b (by rw [List.length_take]; omega) (by omega)
        simp
        omega
      · rw [subP_high E N h.1 h.2 hm, List.length_append]
        have := ih (l.length - half l.length) (by omega) (m - half l.length) (l.drop (half l.length)) false (by rw [List.length_drop]) (by omega)
        simp
        omega
    · rw [subP, dif_neg h]
      split <;> simp <;> omega
-- parts of a part
theorem root_take {l : List α} {m : Nat} (h2 : 2 ≤ l.length) (h : half l.length < m) (hm : m < l.length) : rootP E N (l.take m) = N (rootP E N (l.take (half l.length))) (rootP E N ((l.drop (half l.length)).take (m - half l.length))) := by
  obtain ⟨i, e, g1, g2⟩ := half_is h2
  have hl : (l.take m).length = m := by rw [List.length_take]; omega
  have hk : half (l.take m).length = half l.length := by rw [hl, e]; exact half_eq (by omega) (by omega)
  rw [rootP_half E N (l := l.take m) (by rw [hl]; have := p2 i; omega), hk, List.take_take, Nat.min_eq_left (by omega), List.drop_take]
end
end Go.Proofs.YtajfcddabkhamaaDoor.ga

namespace Go.Proofs.YtajfcddabkhamaaDoor.aa
open Go.Proofs.YtajfcddabkhamaaDoor.ca Go.Proofs.YtajfcddabkhamaaDoor.cb Go.Proofs.YtajfcddabkhamaaDoor.ga
set_option linter.unusedVariables false

-- a walk down the parts: 0 nothing, 1 its hash, 2 left half first, else right half first
def WL (lk : Nat → Nat → Nat) (a b : Nat) : List (Nat × Nat) :=
  if lk a b = 0 then [] else if lk a b = 1 then [(a, b)] else
  if h : 2 ≤ b - a then
    if lk a b = 2 then WL lk a (a + half (b - a)) ++ WL lk (a + half (b - a)) b
    else WL lk (a + half (b - a)) b ++ WL lk a (a + half (b - a))
  else []
termination_by b - a
decreasing_by all_goals (have := half_lt h; omega)
theorem WL_pass {lk : Nat → Nat → Nat} {a b : Nat} (h : lk a b = 0) : WL lk a b = [] := by rw [WL, if_pos h]
theorem WL_take {lk : Nat → Nat → Nat} {a b : Nat} (h : lk a b = 1) : WL lk a b = [(a, b)] := by rw [WL, if_neg (by omega), if_pos h]
theorem WL_left {lk : Nat → Nat → Nat} {a b : Nat} (h : lk a b = 2) (h2 : 2 ≤ b - a) : WL lk a b = WL lk a (a + half (b - a)) ++ WL lk (a + half (b - a)) b := by rw [WL, if_neg (by omega), if_neg (by omega), dif_pos h2, if_pos h]
theorem WL_right {lk : Nat → Nat → Nat} {a b : Nat} (h : 3 ≤ lk a b) (h2 : 2 ≤ b - a) : WL lk a b = WL lk (a + half (b - a)) b ++ WL lk a (a + half (b - a)) := by rw [WL, if_neg (by omega), if_neg (by omega), dif_pos h2, if_neg (by omega)]
-- inclusion
def lkI (i a b : Nat) : Nat := if a ≤ i ∧ i < b then (if b - a = 1 then 0 else if i < a + half (b - a) then 2 else 3) else 1
def dnI (i a b : Nat) : List (Nat × Nat) :=
  if h : 2 ≤ b - a then
    if i < a + half (b - a) then (a + half (b - a), b) :: dnI i a (a + half (b - a))
    else (a, a + half (b - a)) :: dnI i (a + half (b - a)) b
  else []
termination_by b - a
decreasing_by all_goals (have := half_lt h; omega)
theorem dnI_one {i a b : Nat} (h : ¬ 2 ≤ b - a) : dnI i a b = [] := by rw [dnI, dif_neg h]
theorem dnI_low {i a b : Nat} (h : 2 ≤ b - a) (hi : i < a + half (b - a)) : dnI i a b = (a + half (b - a), b) :: dnI i a (a + half (b - a)) := by rw [dnI, dif_pos h, if_pos hi]
theorem dnI_high {i a b : Nat} (h : 2 ≤ b - a) (hi : ¬ i < a + half (b - a)) : dnI i a b = (a, a + half (b - a)) :: dnI i (a + half (b - a)) b := by rw [dnI, dif_pos h, if_neg hi]
theorem incl_is (i : Nat) (n : Nat) : ∀ a b, b - a = n → a ≤ i → i < b → WL (lkI i) a b = (dnI i a b).reverse := by
  induction n using Nat.strongRecOn with
  | ind n ih =>
    intro a b hn h1 h2
    by_cases h : 2 ≤ b - a
    · have hh := half_lt h
      by_cases hi : i < a + half (b - a)
      · rw [WL_left (by unfold lkI; rw [if_pos ⟨h1, h2⟩, if_neg (by omega), if_pos hi]) h, dnI_low h hi, List.reverse_cons, ih (half (b - a)) (by omega) a (a + half (b - a)) (by omega) h1 hi, WL_take (lk := lkI i) (a := a + half (b - a)) (by unfold lkI; rw [if_neg (by omega)])]
      · rw [WL_right (by unfold lkI; rw [if_pos ⟨h1, h2⟩, if_neg (by omega), if_neg hi]; omega) h, dnI_high h hi, List.reverse_cons, ih (b - a - half (b - a)) (by omega) (a + half (b - a)) b (by omega) (by omega) h2, WL_take (lk := lkI i) (a := a) (by unfold lkI; rw [if_neg (by omega)])]
    · rw [WL_pass (by unfold lkI; rw [if_pos ⟨h1, h2⟩, if_pos (by omega)]), dnI_one h]
      rfl
-- consistency
def lkC (m a b : Nat) : Nat := if a = 0 ∧ b = m then 0 else if b ≤ m ∨ m ≤ a then 1 else if a ≤ m - 1 ∧ m - 1 < a + half (b - a) then 2 else 3
def subL (m a b : Nat) (whole : Bool) : List (Nat × Nat) :=
  if m = b then (if whole then [] else [(a, b)]) else
  if h : 2 ≤ b - a then
    if m ≤ a + half (b - a) then subL m a (a + half (b - a)) whole ++ [(a + half (b - a), b)]
    else subL m (a + half (b - a)) b false ++ [(a, a + half (b - a))]
  else []
termination_by b - a
decreasing_by all_goals (have := half_lt h; omega)
theorem subL_all {m a b : Nat} {wh : Bool} (h : m = b) : subL m a b wh = if wh then [] else [(a, b)] := by rw [subL, if_pos h]
theorem subL_low {m a b : Nat} {wh : Bool} (h : m ≠ b) (h2 : 2 ≤ b - a) (hm : m ≤ a + half (b - a)) : subL m a b wh = subL m a (a + half (b - a)) wh ++ [(a + half (b - a), b)] := by rw [subL, if_neg h, dif_pos h2, if_pos hm]
theorem subL_high {m a b : Nat} {wh : Bool} (h : m ≠ b) (h2 : 2 ≤ b - a) (hm : ¬ m ≤ a + half (b - a)) : subL m a b wh = subL m (a + half (b - a)) b false ++ [(a, a + half (b - a))] := by rw [subL, if_neg h, dif_pos h2, if_neg hm]
theorem cons_is (m : Nat) (n : Nat) : ∀ a b, b - a = n → a < m → m ≤ b → WL (lkC m) a b = subL m a b (a == 0) := by
  induction n using Nat.strongRecOn with
  | ind n ih =>
    intro a b hn h1 h2
    by_cases hb : m = b
    · rw [subL_all hb]
      by_cases ha : a = 0
      · rw [WL_pass (by unfold lkC; rw [if_pos ⟨ha, hb.symm⟩]), ha]
        rfl
      · rw [WL_take (by unfold lkC; rw [if_neg (by omega), if_pos (by omega)]), if_neg (by simpa using ha)]
    · have h : 2 ≤ b - a := by omega
      have hh := half_lt h
      by_cases hm : m ≤ a + half (b - a)
      · rw [WL_left (by unfold lkC; rw [if_neg (by omega), if_neg (by omega), if_pos (by omega)]) h, subL_low hb h hm, ih (half (b - a)) (by omega) a (a + half (b - a)) (by omega) h1 hm, WL_take (lk := lkC m) (a := a + half (b - a)) (by unfold lkC; rw [if_neg (by omega), if_pos (by omega)])]
      · rw [WL_right (by unfold lkC; rw [if_neg (by omega), if_neg (by omega), if_neg (by omega)]; omega) h, subL_high hb h hm, ih (b - a - half (b - a)) (by omega) (a + half (b - a)) b (by omega) (by omega) h2, WL_take (lk := lkC m) (a := a) (by unfold lkC; rw [if_neg (by omega), if_pos (by omega)]), show (a + half (b - a) == 0) = false by rw [beq_eq_false_iff_ne]; omega]
-- a range
def lkR (lo hi a b : Nat) : Nat := if b ≤ lo ∨ hi ≤ a then 1 else if lo ≤ a ∧ b ≤ hi then 0 else 2
def outL (lo hi a b : Nat) : List (Nat × Nat) := WL (lkR lo hi) a b
-- places
def lkM (ps : List Nat) (a b : Nat) : Nat := if ∃ p ∈ ps, a ≤ p ∧ p < b then (if b - a = 1 then 0 else 2) else 1
def inM (ps : List Nat) (a b : Nat) : List Nat := ps.filter fun p => decide (a ≤ p) && decide (p < b)
def amL (ps : List Nat) (a b : Nat) : List (Nat × Nat) :=
  if inM ps a b = [] then [(a, b)] else
  if h : 2 ≤ b - a then amL (inM ps a b) a (a + half (b - a)) ++ amL (inM ps a b) (a + half (b - a)) b else []
termination_by b - a
decreasing_by all_goals (have := half_lt h; omega)
theorem inM_nil (ps : List Nat) (a b : Nat) : inM ps a b = [] ↔ ¬ ∃ p ∈ ps, a ≤ p ∧ p < b := by
  unfold inM
  rw [List.filter_eq_nil_iff]
  constructor
  · rintro h ⟨p, h1, h2, h3⟩
    exact h p h1 (by simp [h2, h3])
  · rintro h p h1 h2
    simp only [Bool.and_eq_true, decide_eq_true_eq] at h2
    exact h ⟨p, h1, h2.1, h2.2⟩
theorem multi_is (n : Nat) : ∀ ps qs a b, b - a = n → (∀ p, a ≤ p → p < b → (p ∈ ps ↔ p ∈ qs)) → WL (lkM ps) a b = amL qs a b := by
  induction n using Nat.strongRecOn with
  | ind n ih =>
    intro ps qs a b hn hp
    have hex : (∃ p ∈ ps, a ≤ p ∧ p < b) ↔ (∃ p ∈ qs, a ≤ p ∧ p < b) :=
      ⟨fun ⟨p, h1, h2, h3⟩ => ⟨p, (hp p h2 h3).1 h1, h2, h3⟩, fun ⟨p, h1, h2, h3⟩ => ⟨p, (hp p h2 h3).2 h1, h2, h3⟩⟩
    by_cases he : ∃ p ∈ ps, a ≤ p ∧ p < b
    · have hq : inM qs a b ≠ [] := fun h => (inM_nil qs a b).1 h (hex.1 he)
      by_cases h : 2 ≤ b - a
      · have hh := half_lt h
        have hf : ∀ p, a ≤ p → p < b → (p ∈ ps ↔ p ∈ inM qs a b) := by
          intro p h1 h2
          rw [hp p h1 h2]
          unfold inM
          rw [List.mem_filter]
          simp [h1, h2]
        rw [WL_left (by unfold lkM; rw [if_pos he, if_neg (by omega)]) h, amL, if_neg hq, dif_pos h, ih (half (b - a)) (by omega) ps (inM qs a b) a (a + half (b - a)) (by omega) (fun p h1 h2 => hf p h1 (by omega)), ih (b - a - half (b - a)) (by omega) ps (inM qs a b) (a + half (b - a)) b (by omega) (fun p h1 h2 => hf p (by omega) h2)]
      · obtain ⟨p, _, h1, h2⟩ := he
        rw [WL_pass (by unfold lkM; rw [if_pos ⟨p, by assumption, h1, h2⟩, if_pos (by omega)]), amL, if_neg hq, dif_neg h]
    · have hq : inM qs a b = [] := (inM_nil qs a b).2 (fun h => he (hex.2 h))
      rw [WL_take (by unfold lkM; rw [if_neg he]), amL, if_pos hq]
end Go.Proofs.YtajfcddabkhamaaDoor.aa
