import Derived.PlainAid
import Derived.WalkKit
import Derived.Tactics
import Derived.Below
import Derived.BigQuiet
import Derived.Laws.AppendOwn
import Derived.Laws.OwnMore
import Derived.Test.YtmmbkfagchaocaaDoorProg
import Derived.Lib.BitFns
import Derived.Lib.TrailingZeros
import Derived.Laws.BitsAllLaws
import Derived.WalkSpells
import Derived.Shelf.Spec.TrailingZeros
namespace Go.Proofs.YtmmbkfagchaocaaDoor.ca
set_option linter.unusedVariables false

-- the level of the piece at p, h leaves being left
def Lv (p h k : Nat) : Prop := k ≤ 62 ∧ 2 ^ k ∣ p ∧ 2 ^ k ≤ h ∧ (k = 62 ∨ ¬ 2 ^ (k + 1) ∣ p ∨ h < 2 ^ (k + 1))
theorem p2 (k : Nat) : 0 < 2 ^ k := Nat.two_pow_pos k
theorem p2s (k : Nat) : 2 ^ (k + 1) = 2 * 2 ^ k := by rw [Nat.pow_succ, Nat.mul_comm]
theorem p2le {j k : Nat} (h : j ≤ k) : 2 ^ j ≤ 2 ^ k := Nat.pow_le_pow_right (by decide) h
theorem p2dvd {j k : Nat} (h : j ≤ k) : 2 ^ j ∣ 2 ^ k := Nat.pow_dvd_pow 2 h
theorem p2lt {j k : Nat} (h : 2 ^ j < 2 ^ k) : j < k := by
  rcases Nat.lt_or_ge j k with e | e
  · exact e
  · have := p2le e; omega
theorem Lv.unique {p h k k' : Nat} (a : Lv p h k) (b : Lv p h k') : k = k' := by
  have key : ∀ {k k' : Nat}, Lv p h k → Lv p h k' → ¬ k < k' := by
    intro k k' a b hlt
    have h1 : 2 ^ (k + 1) ∣ p := Nat.dvd_trans (p2dvd hlt) b.2.1
    have h2 : 2 ^ (k + 1) ≤ h := Nat.le_trans (p2le hlt) b.2.2.1
    rcases a.2.2.2 with e | e | e
    · have := b.1; omega
    · exact e h1
    · omega
  have := key a b
  have := key b a
  omega
def lvF (p h : Nat) : Nat → Nat → Nat
  | 0, k => k
  | f + 1, k => if 2 ^ (k + 1) ∣ p ∧ 2 ^ (k + 1) ≤ h then lvF p h f (k + 1) else k
theorem lvF_lv (p h f k : Nat) (hf : f + k = 62) (h1 : 2 ^ k ∣ p) (h2 : 2 ^ k ≤ h) : Lv p h (lvF p h f k) := by
  induction f generalizing k with
  | zero => exact ⟨by show k ≤ 62; omega, h1, h2, .inl (by show k = 62; omega)⟩
  | succ f ih =>
    unfold lvF
    split
    · rename_i hh
      exact ih (k + 1) (by omega) hh.1 hh.2
    · rename_i hh
      refine ⟨by omega, h1, h2, .inr ?_⟩
      rcases Decidable.em (2 ^ (k + 1) ∣ p) with e | e
      · exact .inr (Nat.lt_of_not_le fun e' => hh ⟨e, e'⟩)
      · exact .inl e
def lv (p h : Nat) : Nat := lvF p h 62 0
theorem lv_lv (p h : Nat) (hh : 0 < h) : Lv p h (lv p h) := lvF_lv p h 62 0 rfl (Nat.one_dvd p) hh
-- the pieces from p up to hi
def cov (p hi : Nat) : List (Nat × Nat) :=
  if h : p < hi then (lv p (hi - p), p / 2 ^ lv p (hi - p)) :: cov (p + 2 ^ lv p (hi - p)) hi else []
termination_by hi - p
decreasing_by have := p2 (lv p (hi - p)); omega
theorem cov_end {p hi : Nat} (h : ¬ p < hi) : cov p hi = [] := by rw [cov, dif_neg h]
theorem cov_at {p hi k : Nat} (h : p < hi) (hk : Lv p (hi - p) k) : cov p hi = (k, p / 2 ^ k) :: cov (p + 2 ^ k) hi := by
  rw [cov, dif_pos h, Lv.unique (lv_lv p (hi - p) (by omega)) hk]
theorem cov_fold {p hi : Nat} (P : Nat → Nat → Prop) (h0 : ∀ p, ¬ p < hi → P p hi) (h1 : ∀ p k, p < hi → Lv p (hi - p) k → P (p + 2 ^ k) hi → P p hi) : P p hi := by
  generalize hn : hi - p = n
  induction n using Nat.strongRecOn generalizing p with
  | ind n ih =>
    rcases Nat.lt_or_ge p hi with e | e
    · have hl := lv_lv p (hi - p) (by omega)
      refine h1 p _ e hl (ih (hi - (p + 2 ^ lv p (hi - p))) ?_ rfl)
      have := p2 (lv p (hi - p))
      omega
    · exact h0 p (by omega)
-- below a place that 2^j divides, with fewer than 2^j leaves: the greatest power that fits
theorem lv_low {p h k j : Nat} (hj : 2 ^ j ∣ p) (hh : h < 2 ^ j) (hk : k < j) (h62 : k ≤ 62) (h1 : 2 ^ k ≤ h) (h2 : h < 2 ^ (k + 1)) : Lv p h k :=
  ⟨h62, Nat.dvd_trans (p2dvd (Nat.le_of_lt hk)) hj, h1, .inr (.inr h2)⟩
theorem low_is {p h k j : Nat} (hj : 2 ^ j ∣ p) (hh : h < 2 ^ j) (hl : Lv p h k) (hb : h < 2 ^ 63) : k < j ∧ h < 2 ^ (k + 1) := by
  have hkj : k < j := p2lt (Nat.lt_of_le_of_lt hl.2.2.1 hh)
  refine ⟨hkj, ?_⟩
  rcases hl.2.2.2 with e | e | e
  · subst e; exact hb
  · exact absurd (Nat.dvd_trans (p2dvd hkj) hj) e
  · exact e
theorem down_len (j : Nat) : ∀ (p h : Nat), 2 ^ j ∣ p → h < 2 ^ j → h < 2 ^ 63 → (cov p (p + h)).length ≤ j := by
  induction j using Nat.strongRecOn with
  | ind j ih =>
    intro p h hj hh hb
    rcases Nat.eq_zero_or_pos h with e | e
    · subst e; rw [cov_end (by omega)]; exact Nat.zero_le _
    · have hl : Lv p (p + h - p) (lv p (p + h - p)) := lv_lv _ _ (by omega)
      rw [Nat.add_sub_cancel_left] at hl
      obtain ⟨k, hk⟩ : ∃ k, lv p h = k := ⟨_, rfl⟩
      rw [hk] at hl
      obtain ⟨h1, h2⟩ := low_is hj hh hl hb
      have hs := p2s k
      rw [cov_at (by omega) (by rw [Nat.add_sub_cancel_left]; exact hl), List.length_cons]
      have := ih k h1 (p + 2 ^ k) (h - 2 ^ k) (Nat.dvd_add (Nat.dvd_trans (p2dvd (Nat.le_of_lt h1)) hj) (Nat.dvd_refl _)) (by omega) (by omega)
      rw [show p + 2 ^ k + (h - 2 ^ k) = p + h by have := hl.2.2.1; omega] at this
      omega
theorem dvd_pos_le {k p : Nat} (h : 2 ^ k ∣ p) (hp : 0 < p) : 2 ^ k ≤ p := Nat.le_of_dvd hp h
theorem up_len (n : Nat) : ∀ (j p h : Nat), 61 - j = n → j ≤ 61 → 0 < p → 2 ^ j ∣ p → p + h ≤ 2 ^ 62 → (cov p (p + h)).length ≤ 122 - j := by
  induction n using Nat.strongRecOn with
  | ind n ih =>
    intro j p h hn hj61 hp hj hb
    have hb63 : h < 2 ^ 63 := by have : (2 : Nat) ^ 63 = 2 * 2 ^ 62 := p2s 62; have := p2 62; omega
    rcases Nat.lt_or_ge h (2 ^ j) with e | e
    · have := down_len j p h hj e hb63; omega
    · have h0 : 0 < h := Nat.lt_of_lt_of_le (p2 j) e
      have hl := lv_lv p h h0
      obtain ⟨k, hk⟩ : ∃ k, lv p h = k := ⟨_, rfl⟩
      rw [hk] at hl
      have hs := p2s k
      have hpk := dvd_pos_le hl.2.1 hp
      have hcov := cov_at (p := p) (hi := p + h) (k := k) (by omega) (by rw [Nat.add_sub_cancel_left]; exact hl)
      have hk61 : k ≤ 61 := by
        rcases Nat.lt_or_ge k 62 with g | g
        · omega
        · have := p2le g; have := p2 62; have := hl.2.2.1; omega
      have heq : p + 2 ^ k + (h - 2 ^ k) = p + h := by have := hl.2.2.1; omega
      rw [hcov, List.length_cons]
      rcases Nat.lt_or_ge h (2 ^ (k + 1)) with g | g
      · have hd := down_len k (p + 2 ^ k) (h - 2 ^ k) (Nat.dvd_add hl.2.1 (Nat.dvd_refl _)) (by omega) (by omega)
        rw [heq] at hd
        rcases Nat.lt_or_ge j 61 with q | q
        · omega
        · -- j = 61: the whole upper half
          have q : j = 61 := by omega
          subst q
          have h61 := dvd_pos_le hj hp
          have e62 : (2 : Nat) ^ 62 = 2 * 2 ^ 61 := p2s 61
          have hh : h = 2 ^ 61 := by omega
          have : k = 61 := by
            rcases Nat.lt_or_ge k 61 with q | q
            · have := p2le (show k + 1 ≤ 61 from q); omega
            · omega
          subst this
          rw [cov_end (by omega)]
          simp
      · -- as much as divides p
        have hnd : ¬ 2 ^ (k + 1) ∣ p := by
          rcases hl.2.2.2 with q | q | q
          · omega
          · exact q
          · omega
        have hk60 : k ≤ 60 := by
          rcases Nat.lt_or_ge k 61 with q | q
          · omega
          · have : k = 61 := by omega
            subst this
            have e62 : (2 : Nat) ^ 62 = 2 * 2 ^ 61 := p2s 61
            have := p2 61
            omega
        have hjk : j ≤ k := by
          rcases Nat.lt_or_ge k j with q | q
          · exact absurd (Nat.dvd_trans (p2dvd q) hj) hnd
          · exact q
        have hd : 2 ^ (k + 1) ∣ p + 2 ^ k := by
          obtain ⟨c, hc⟩ := hl.2.1
          rcases Nat.mod_two_eq_zero_or_one c with q | q
          · exact absurd ⟨c / 2, by rw [hs, Nat.mul_assoc, Nat.mul_left_comm, show 2 * (c / 2) = c by omega]; exact hc⟩ hnd
          · exact ⟨(c + 1) / 2, by rw [hs, Nat.mul_assoc, Nat.mul_left_comm, show 2 * ((c + 1) / 2) = c + 1 by omega, Nat.mul_add, ← hc, Nat.mul_one]⟩
        have := ih (61 - (k + 1)) (by omega) (k + 1) (p + 2 ^ k) (h - 2 ^ k) rfl (by omega) (by omega) hd (by omega)
        rw [heq] at this
        omega
theorem cov_len (lo hi : Nat) (h : lo ≤ hi) (hb : hi ≤ 2 ^ 62) : (cov lo hi).length ≤ 122 := by
  obtain ⟨n, rfl⟩ : ∃ n, hi = lo + n := ⟨hi - lo, by omega⟩
  rcases Nat.eq_zero_or_pos lo with e | e
  · subst e
    have e63 : (2 : Nat) ^ 63 = 2 * 2 ^ 62 := p2s 62
    have := p2 62
    have := down_len 63 0 n (Nat.dvd_zero _) (by omega) (by omega)
    omega
  · exact up_len 61 0 lo n rfl (by omega) e (Nat.one_dvd _) hb
-- no piece's parent lies within the range
def Inv (lo hi p : Nat) : Prop := lo ≤ p ∧ ∀ m, 2 ^ m ∣ p → ¬ 2 ^ (m + 1) ∣ p → lo + 2 ^ m ≤ p → hi < p + 2 ^ m
theorem Inv.start (lo hi : Nat) : Inv lo hi lo := ⟨Nat.le_refl _, fun m _ _ h => by have := p2 m; omega⟩
theorem odd_of {k p : Nat} (h1 : 2 ^ k ∣ p) (h2 : ¬ 2 ^ (k + 1) ∣ p) : ∃ c, p = 2 ^ (k + 1) * c + 2 ^ k := by
  obtain ⟨c, hc⟩ := h1
  rcases Nat.mod_two_eq_zero_or_one c with q | q
  · exact absurd ⟨c / 2, by rw [p2s, Nat.mul_assoc, Nat.mul_left_comm, show 2 * (c / 2) = c by omega]; exact hc⟩ h2
  · refine ⟨c / 2, ?_⟩
    rw [p2s, Nat.mul_assoc, Nat.mul_left_comm, hc]
    generalize 2 ^ k = z
    obtain ⟨d, rfl⟩ : ∃ d, c = 2 * d + 1 := ⟨c / 2, by omega⟩
    rw [show (2 * d + 1) / 2 = d by omega, Nat.mul_add, Nat.mul_one]
theorem Inv.step {lo hi p k : Nat} (h : Inv lo hi p) (hlt : p < hi) (hb : hi ≤ 2 ^ 62) (hl : Lv p (hi - p) k) : Inv lo hi (p + 2 ^ k) := by
  refine ⟨by have := h.1; have := p2 k; omega, fun m m1 m2 m3 => ?_⟩
  rcases Nat.lt_or_ge hi (p + 2 ^ k + 2 ^ m) with g | g
  · exact g
  · exfalso
    have hs := p2s k
    have hkm : k ≤ m := by
      rcases Nat.lt_or_ge m k with q | q
      · exact absurd (Nat.dvd_add (Nat.dvd_trans (p2dvd q) hl.2.1) (p2dvd q)) m2
      · exact q
    rcases Nat.lt_or_ge k m with q | q
    · -- p is just divided by 2^k
      have hnd : ¬ 2 ^ (k + 1) ∣ p := by
        intro hd
        have h1 : 2 ^ (k + 1) ∣ p + 2 ^ k := Nat.dvd_trans (p2dvd q) m1
        have h2 : 2 ^ (k + 1) ∣ 2 ^ k := (Nat.dvd_add_iff_right hd).2 h1
        have := Nat.le_of_dvd (p2 k) h2
        have := p2 k
        omega
      have hno : ¬ lo + 2 ^ k ≤ p := fun e => by
        have := h.2 k hl.2.1 hnd e
        have := hl.2.2.1
        omega
      have := p2le q
      omega
    · have e : m = k := by omega
      subst e
      obtain ⟨c, hc⟩ := odd_of m1 m2
      have hd : 2 ^ (m + 1) ∣ p := ⟨c, by omega⟩
      rcases hl.2.2.2 with e | e | e
      · subst e
        have := p2 62
        omega
      · exact e hd
      · omega
theorem Inv.up {lo hi p k : Nat} (h : Inv lo hi p) (hlt : p < hi) (hl : Lv p (hi - p) k) (hk : k < 62) : ¬ (lo ≤ p / 2 ^ (k + 1) * 2 ^ (k + 1) ∧ (p / 2 ^ (k + 1) + 1) * 2 ^ (k + 1) ≤ hi) := by
  rintro ⟨g1, g2⟩
  have hs := p2s k
  rcases Decidable.em (2 ^ (k + 1) ∣ p) with e | e
  · have e1 := Nat.div_mul_cancel e
    rw [Nat.add_mul, e1] at g2
    rcases hl.2.2.2 with q | q | q
    · omega
    · exact q e
    · omega
  · obtain ⟨c, hc⟩ := odd_of hl.2.1 e
    have hq : p / 2 ^ (k + 1) = c := by
      rw [hc, Nat.mul_add_div (p2 _), Nat.div_eq_of_lt (by have := p2 k; omega), Nat.add_zero]
    rw [hq, Nat.mul_comm] at g1
    have hno : ¬ lo + 2 ^ k ≤ p := fun e' => by
      have := h.2 k hl.2.1 e e'
      have := hl.2.2.1
      omega
    omega
end Go.Proofs.YtmmbkfagchaocaaDoor.ca

namespace Go.Proofs.YtmmbkfagchaocaaDoor.cb
open Go.Proofs.YtmmbkfagchaocaaDoor.ca
set_option linter.unusedVariables false

-- the binary digits 1 below j, the greatest first
def digs : Nat → Nat → List Nat
  | 0, _ => []
  | j + 1, h => if h / 2 ^ j % 2 = 1 then j :: digs j h else digs j h
theorem digs_add (i r : Nat) : ∀ j, j ≤ i → digs j (2 ^ i + r) = digs j r := by
  intro j
  induction j with
  | zero => intro _; rfl
  | succ j ih =>
    intro h
    have e : (2 ^ i + r) / 2 ^ j % 2 = r / 2 ^ j % 2 := by
      obtain ⟨d, rfl⟩ : ∃ d, i = j + (d + 1) := ⟨i - j - 1, by omega⟩
      rw [Nat.pow_add, Nat.mul_add_div (p2 j), p2s d]
      omega
    unfold digs
    rw [e, ih (by omega)]
theorem digs_low {j h : Nat} (hh : h < 2 ^ j) : digs (j + 1) h = digs j h := by
  show (if h / 2 ^ j % 2 = 1 then _ else _) = _
  rw [Nat.div_eq_of_lt hh, if_neg (by decide)]
theorem cov_digs (j : Nat) : ∀ (p h : Nat), 2 ^ j ∣ p → h < 2 ^ j → j ≤ 63 → (cov p (p + h)).map Prod.fst = digs j h := by
  induction j with
  | zero =>
    intro p h _ hh _
    have : h = 0 := by have : (2 : Nat) ^ 0 = 1 := rfl; omega
    subst this
    rw [cov_end (by omega)]
    rfl
  | succ j ih =>
    intro p h hd hh hj
    have hs := p2s j
    have hd' : 2 ^ j ∣ p := Nat.dvd_trans (p2dvd (Nat.le_succ j)) hd
    rcases Nat.lt_or_ge h (2 ^ j) with g | g
    · rw [digs_low g]
      exact ih p h hd' g (by omega)
    · rw [cov_at (k := j) (by have := p2 j; omega) (by rw [Nat.add_sub_cancel_left]; exact ⟨by omega, hd', g, .inr (.inr hh)⟩), List.map_cons]
      have := ih (p + 2 ^ j) (h - 2 ^ j) (Nat.dvd_add hd' (Nat.dvd_refl _)) (by omega) (by omega)
      rw [show p + 2 ^ j + (h - 2 ^ j) = p + h by omega] at this
      rw [this]
      have e : digs j h = digs j (h - 2 ^ j) := by
        have := digs_add j (h - 2 ^ j) j (Nat.le_refl _)
        rwa [show 2 ^ j + (h - 2 ^ j) = h by omega] at this
      show _ = (if h / 2 ^ j % 2 = 1 then _ else _)
      have q : h / 2 ^ j = 1 := by
        have : h = 2 ^ j * 1 + (h - 2 ^ j) := by omega
        rw [this, Nat.mul_add_div (p2 j), Nat.div_eq_of_lt (by omega)]
      rw [q, if_pos rfl, e]
-- the greatest power of two below n
def halfF (n : Nat) : Nat → Nat → Nat
  | 0, k => k
  | f + 1, k => if 2 * k < n then halfF n f (2 * k) else k
theorem halfF_is (n : Nat) : ∀ f j, n ≤ 2 ^ (f + j) → 2 ^ j < n → ∃ i, halfF n f (2 ^ j) = 2 ^ i ∧ 2 ^ i < n ∧ n ≤ 2 ^ (i + 1) := by
  intro f
  induction f with
  | zero => intro j h1 h2; rw [Nat.zero_add] at h1; omega
  | succ f ih =>
    intro j h1 h2
    unfold halfF
    split
    · rename_i hh
      rw [← p2s] at hh ⊢
      exact ih (j + 1) (by rw [show f + (j + 1) = f + 1 + j by omega]; exact h1) hh
    · rename_i hh
      exact ⟨j, rfl, h2, by rw [p2s]; omega⟩
def half (n : Nat) : Nat := halfF n n 1
theorem half_is {n : Nat} (h : 2 ≤ n) : ∃ i, half n = 2 ^ i ∧ 2 ^ i < n ∧ n ≤ 2 ^ (i + 1) :=
  halfF_is n n 0 (by rw [Nat.add_zero]; exact Nat.le_of_lt Nat.lt_two_pow_self) (by show 1 < n; omega)
theorem half_eq {n j : Nat} (h1 : 2 ^ j < n) (h2 : n ≤ 2 ^ (j + 1)) : half n = 2 ^ j := by
  have := p2 j
  obtain ⟨i, e, g1, g2⟩ := half_is (n := n) (by omega)
  have a : j < i + 1 := p2lt (by omega)
  have b : i < j + 1 := p2lt (by omega)
  rw [e, show i = j by omega]
section
variable {α : Type} (E : α) (N : α → α → α)
def foldP : List α → α
  | [] => E
  | [x] => x
  | x :: y :: r => N x (foldP (y :: r))
def rootP (l : List α) : α :=
  if h : 2 ≤ l.length then N (rootP (l.take (half l.length))) (rootP (l.drop (half l.length))) else l.headD E
termination_by l.length
decreasing_by
  · obtain ⟨i, e, g1, g2⟩ := half_is h
    rw [List.length_take, e]
    omega
  · obtain ⟨i, e, g1, g2⟩ := half_is h
    have := p2 i
    rw [List.length_drop, e]
    omega
theorem rootP_nil : rootP E N [] = E := by rw [rootP, dif_neg (by simp)]; rfl
theorem rootP_one (x : α) : rootP E N [x] = x := by rw [rootP, dif_neg (by simp)]; rfl
theorem rootP_two {l : List α} {j : Nat} (h1 : 2 ^ j < l.length) (h2 : l.length ≤ 2 ^ (j + 1)) : rootP E N l = N (rootP E N (l.take (2 ^ j))) (rootP E N (l.drop (2 ^ j))) := by
  have := p2 j
  rw [rootP, dif_pos (by omega), half_eq h1 h2]
theorem rootP_half {l : List α} (h : 2 ≤ l.length) : rootP E N l = N (rootP E N (l.take (half l.length))) (rootP E N (l.drop (half l.length))) := by
  rw [rootP, dif_pos h]
def piece (L : List α) (a : Nat × Nat) : List α := (L.drop (a.2 * 2 ^ a.1)).take (2 ^ a.1)
theorem fold_roots (L : List α) (h : Nat) : ∀ (j p : Nat), 2 ^ j ∣ p → h < 2 ^ j → j ≤ 63 → p + h ≤ L.length → foldP E N ((cov p (p + h)).map fun a => rootP E N (piece L a)) = rootP E N ((L.drop p).take h) := by
  induction h using Nat.strongRecOn with
  | ind h ih =>
    intro j p hd hh hj hL
    have hb : h < 2 ^ 63 := Nat.lt_of_lt_of_le hh (p2le hj)
    rcases Nat.eq_zero_or_pos h with e | e
    · subst e
      rw [cov_end (by omega), List.take_zero, rootP_nil]
      rfl
    · have hl := lv_lv p h e
      obtain ⟨k, hk⟩ : ∃ k, lv p h = k := ⟨_, rfl⟩
      rw [hk] at hl
      obtain ⟨h1, h2⟩ := low_is hd hh hl hb
      have hs := p2s k
      have h3 := hl.2.2.1
      rw [cov_at (p := p) (k := k) (by omega) (by rw [Nat.add_sub_cancel_left]; exact hl), List.map_cons]
      have hp : piece L (k, p / 2 ^ k) = (L.drop p).take (2 ^ k) := by
        show (L.drop (p / 2 ^ k * 2 ^ k)).take (2 ^ k) = _
        rw [Nat.div_mul_cancel hl.2.1]
      rw [hp]
      rcases Nat.lt_or_ge (2 ^ k) h with g | g
      · have hne : p + 2 ^ k < p + h := by omega
        have hi := ih (h - 2 ^ k) (by have := p2 k; omega) k (p + 2 ^ k) (Nat.dvd_add hl.2.1 (Nat.dvd_refl _)) (by omega) (by omega) (by omega)
        rw [show p + 2 ^ k + (h - 2 ^ k) = p + h by omega] at hi
        have hll : ((L.drop p).take h).length = h := by rw [List.length_take, List.length_drop]; omega
        rw [rootP_two E N (l := (L.drop p).take h) (j := k) (by rw [hll]; exact g) (by rw [hll]; omega), List.take_take, Nat.min_eq_left (by omega), List.drop_take, List.drop_drop, ← hi]
        obtain ⟨y, r, hy⟩ : ∃ y r, (cov (p + 2 ^ k) (p + h)).map (fun a => rootP E N (piece L a)) = y :: r := by
          rw [cov_at hne (lv_lv _ _ (by omega)), List.map_cons]
          exact ⟨_, _, rfl⟩
        rw [hy]
        rfl
      · obtain rfl : h = 2 ^ k := by omega
        rw [cov_end (by omega)]
        rfl
theorem fold_all (L : List α) (hL : L.length < 2 ^ 63) : foldP E N ((cov 0 L.length).map fun a => rootP E N (piece L a)) = rootP E N L := by
  have := fold_roots E N L L.length 63 0 (Nat.dvd_zero _) hL (Nat.le_refl _) (by omega)
  rw [Nat.zero_add, List.drop_zero, List.take_length] at this
  exact this
end
end Go.Proofs.YtmmbkfagchaocaaDoor.cb

namespace Go.Proofs.YtmmbkfagchaocaaDoor.cp
open Go.RowKit Go.PlainAid
open Go.Proofs.YtmmbkfagchaocaaDoor.ca
set_option linter.unusedVariables false

theorem cast_pow (k : Nat) : ((2 : Int) ^ k) = ((2 ^ k : Nat) : Int) := by rw [Int.natCast_pow]; rfl
theorem p62 : (2 : Nat) ^ 62 = 4611686018427387904 := by decide
theorem p63 : (2 : Nat) ^ 63 = 9223372036854775808 := by decide
theorem wrap_is (n : Nat) (h : n < 9223372036854775808) : IntKind.i64.wrap (n : Int) = n := by
  rw [IntKind.wrap_i64]
  omega
theorem u64_is (k : Nat) (h : k ≤ 64) : IntKind.u64.wrap (k : Int) = k := by
  rw [IntKind.wrap_u64]
  omega
-- 2 to the k as the walk has it
theorem pow_int {k : Nat} (h : k ≤ 62) : IntKind.i64.wrap (1 * 2 ^ min (k : Int).toNat 64) = ((2 ^ k : Nat) : Int) := by
  rw [Int.toNat_natCast, Nat.min_eq_left (by omega), Int.one_mul, cast_pow, wrap_is]
  have := p2le h
  rw [p62] at this
  omega
def i64 (x : Int) : Prop := -9223372036854775808 ≤ x ∧ x ≤ 9223372036854775807
-- may there be such a node?
def okA (L I : Int) : Prop := 0 ≤ L ∧ L ≤ 62 ∧ 0 ≤ I ∧ I < 4611686018427387904 / 2 ^ L.toNat
instance (L I : Int) : Decidable (okA L I) := by unfold okA; infer_instance
theorem okA_nat (k i : Nat) : okA k i ↔ k ≤ 62 ∧ (i + 1) * 2 ^ k ≤ 4611686018427387904 := by
  have e : (4611686018427387904 : Int) / 2 ^ (k : Int).toNat = ((4611686018427387904 / 2 ^ k : Nat) : Int) := by
    rw [Int.toNat_natCast, cast_pow, Int.natCast_ediv]
    rfl
  have key : i < 4611686018427387904 / 2 ^ k ↔ (i + 1) * 2 ^ k ≤ 4611686018427387904 := Nat.le_div_iff_mul_le (p2 k)
  unfold okA
  rw [e, ← key]
  omega
theorem okA_form {L I : Int} (h : okA L I) : ∃ k i : Nat, L = k ∧ I = i ∧ k ≤ 62 ∧ (i + 1) * 2 ^ k ≤ 4611686018427387904 := by
  obtain ⟨k, rfl⟩ : ∃ k : Nat, L = k := ⟨L.toNat, by have := h.1; omega⟩
  obtain ⟨i, rfl⟩ : ∃ i : Nat, I = i := ⟨I.toNat, by have := h.2.2.1; omega⟩
  exact ⟨k, i, rfl, rfl, ((okA_nat k i).1 h).1, ((okA_nat k i).1 h).2⟩
def av (L I : Int) : Value := .agg #[.int .i64 L, .int .i64 I]
def spV (L I : Int) : Value := if okA L I then .tuple #[.int .i64 (I * 2 ^ L.toNat), .int .i64 ((I + 1) * 2 ^ L.toNat), .int .i64 0] else .tuple #[.int .i64 0, .int .i64 0, .int .i64 50]
def kinV (L I L' I' : Int) : Value := if okA L I ∧ okA L' I' then .tuple #[.agg #[.int .i64 L', .int .i64 I'], .int .i64 0] else .tuple #[.agg #[.int .i64 0, .int .i64 0], .int .i64 50]
def sib (I : Int) : Int := if I % 2 = 0 then I + 1 else I - 1
theorem spV_nat {k i : Nat} (h : okA k i) : spV k i = .tuple #[.int .i64 ((i * 2 ^ k : Nat) : Int), .int .i64 (((i + 1) * 2 ^ k : Nat) : Int), .int .i64 0] := by
  unfold spV
  rw [if_pos h, Int.toNat_natCast, cast_pow]
  simp
theorem up_fits {k i : Nat} (hk : k < 62) (h : (i + 1) * 2 ^ k ≤ 4611686018427387904) : (i / 2 + 1) * 2 ^ (k + 1) ≤ 4611686018427387904 := by
  obtain ⟨z, hz⟩ : ∃ z, 4611686018427387904 = 2 * z * 2 ^ k := by
    refine ⟨2 ^ (61 - k), ?_⟩
    rw [← p2s, ← Nat.pow_add, show 61 - k + 1 + k = 62 by omega]
  rw [hz] at h ⊢
  have h1 : i + 1 ≤ 2 * z := Nat.le_of_mul_le_mul_right h (p2 k)
  rw [p2s, ← Nat.mul_assoc]
  exact Nat.mul_le_mul_right _ (by omega)
theorem i64_nat {n : Nat} (h : n ≤ 4611686018427387904) : i64 (n : Int) := ⟨by omega, by omega⟩
theorem below_dN {B : Nat} {a w : World} (h : Below B a w) (n : Nat) : Below B a (w.drewN n) := ⟨h.os, h.tape, h.output, h.size, h.block⟩
theorem over {w w1 w2 : World} (h : Below w.heap.size w w1) (b : Below w1.heap.size w1 w2) : Below w.heap.size w w2 := h.trans (b.mono h.size)
theorem own_later {w w' : World} {B e size n : Nat} {v : Value} {xs : List Value} (h : w.ownsRow B e size v n xs) (hb : Below w.heap.size w w') : w'.ownsRow B e size v n xs := by
  refine ⟨h.1, ?_⟩
  rcases h.2 with hn | ⟨g, cap, cur, rfl, hg, hgg, rest⟩
  · exact .inl hn
  · exact .inr ⟨g, cap, cur, rfl, hg, by rw [hb.block g (Array.getElem?_eq_some_iff.1 hgg).1]; exact hgg, rest⟩
theorem own_down {w : World} {B B' e size n : Nat} {v : Value} {xs : List Value} (h : w.ownsRow B' e size v n xs) (hB : B ≤ B') : w.ownsRow B e size v n xs :=
  ⟨h.1, h.2.imp id fun ⟨g, cap, cur, h1, h2, h3⟩ => ⟨g, cap, cur, h1, Nat.le_trans hB h2, h3⟩⟩
-- an address in a block of its own
structure Bx (w : World) (b : Nat) (L I : Int) : Prop where
  one : w.cell? ⟨b, 0, none⟩ = some (.int .i64 L)
  two : w.cell? ⟨b, 1, none⟩ = some (.int .i64 I)
theorem Bx.later {w w' : World} {b : Nat} {L I : Int} (h : Bx w b L I) (hb : Below w.heap.size w w') : Bx w' b L I :=
  ⟨(hb.cell (p := ⟨b, 0, none⟩) (World.block_lt_of_cell? _ _ h.one)).trans h.one, (hb.cell (p := ⟨b, 1, none⟩) (World.block_lt_of_cell? _ _ h.two)).trans h.two⟩
theorem bx_new (w : World) (L I : Int) : Bx (w.alloc (.cells #[.int .i64 L, .int .i64 I] 36)) w.heap.size L I :=
  ⟨by rw [World.cell?_alloc_at _ _ _ _ rfl]; rfl, by rw [World.cell?_alloc_at _ _ _ _ rfl]; rfl⟩
theorem kin_no {L I L' I' : Int} (h : ¬ (okA L I ∧ okA L' I')) : kinV L I L' I' = .tuple #[.agg #[.int .i64 0, .int .i64 0], .int .i64 50] := by unfold kinV; rw [if_neg h]
theorem kin_yes {L I L' I' : Int} (h1 : okA L I) (h2 : okA L' I') : kinV L I L' I' = .tuple #[.agg #[.int .i64 L', .int .i64 I'], .int .i64 0] := by unfold kinV; rw [if_pos ⟨h1, h2⟩]
end Go.Proofs.YtmmbkfagchaocaaDoor.cp

namespace Go.Proofs.YtmmbkfagchaocaaDoor.cs
open Go.RowKit Go.PlainAid
open Go.Proofs.YtmmbkfagchaocaaDoor.ca Go.Proofs.YtmmbkfagchaocaaDoor.cb Go.Proofs.YtmmbkfagchaocaaDoor.cp
set_option linter.unusedVariables false

-- an address; a list of them in memory
def ad (a : Nat × Nat) : Value := .agg #[.int .i64 (a.1 : Nat), .int .i64 (a.2 : Nat)]
def cl (a : Nat × Nat) : List Value := [.int .i64 (a.1 : Nat), .int .i64 (a.2 : Nat)]
def cls (L : List (Nat × Nat)) : List Value := L.flatMap cl
theorem cls_len (L : List (Nat × Nat)) : (cls L).length = L.length * 2 := by
  induction L with
  | nil => rfl
  | cons a L ih =>
    show (cl a ++ cls L).length = _
    rw [List.length_append, ih, List.length_cons]
    show 2 + _ = _
    omega
theorem cls_app (L M : List (Nat × Nat)) : cls (L ++ M) = cls L ++ cls M := by unfold cls; exact List.flatMap_append
theorem cls_get (L : List (Nat × Nat)) (i : Nat) (a : Nat × Nat) (h : L[i]? = some a) : (cls L)[i * 2]? = some (.int .i64 (a.1 : Nat)) ∧ (cls L)[i * 2 + 1]? = some (.int .i64 (a.2 : Nat)) := by
  induction L generalizing i with
  | nil => simp at h
  | cons b L ih =>
    cases i with
    | zero =>
      obtain rfl : b = a := by simpa using h
      exact ⟨rfl, rfl⟩
    | succ i =>
      have := ih i (by simpa using h)
      show (cl b ++ cls L)[(i + 1) * 2]? = _ ∧ (cl b ++ cls L)[(i + 1) * 2 + 1]? = _
      have hl : (cl b).length = 2 := rfl
      rw [List.getElem?_append_right (by omega), List.getElem?_append_right (by omega), hl, show (i + 1) * 2 - 2 = i * 2 by omega, show (i + 1) * 2 + 1 - 2 = i * 2 + 1 by omega]
      exact this
theorem hiA : (Tryd.prog.info? 36).map (fun i => (i.zero, i.size, i.bytes)) = some (some (.agg #[.int .i64 0, .int .i64 0]), 2, 16) := by kernel_rfl
theorem info_parts {t : TypeId} {z : Value} {n b : Nat} (h : (Tryd.prog.info? t).map (fun i => (i.zero, i.size, i.bytes)) = some (some z, n, b)) : ∃ i, Tryd.prog.info? t = some i ∧ i.zero = some z ∧ i.size = n ∧ i.bytes = b := by
  obtain ⟨i, hi, he⟩ := Option.map_eq_some_iff.1 h
  injection he with e1 e2
  injection e2 with e2 e3
  exact ⟨i, hi, e1, e2, e3⟩
-- what Cover answers
def okR (lo hi : Int) : Prop := 0 ≤ lo ∧ lo ≤ hi ∧ hi ≤ 4611686018427387904
instance (lo hi : Int) : Decidable (okR lo hi) := by unfold okR; infer_instance
def covI (lo hi : Int) : List (Nat × Nat) := if okR lo hi then cov lo.toNat hi.toNat else []
def covE (lo hi : Int) : Int := if okR lo hi then 0 else 10
theorem covI_len (lo hi : Int) : (covI lo hi).length ≤ 122 := by
  unfold covI
  split
  · rename_i h
    exact cov_len _ _ (by have := h.2.1; have := h.1; omega) (by rw [p62]; have := h.2.2; omega)
  · simp
def Rowed (w w' : World) (e : Ending) (lo hi : Int) : Prop := ∃ v, e = .returned (.tuple #[v, .int .i64 (covE lo hi)]) ∧ w'.ownsRow w.heap.size 36 2 v (covI lo hi).length (cls (covI lo hi))
theorem two_cells (W : World) (x y : Value) (t : TypeId) : ∀ (j : Nat) (u : Value), [x, y][j]? = some u → (W.alloc (.cells #[x, y] t)).cell? (Addr.add ⟨W.heap.size, 0, none⟩ j) = some u := by
  intro j u hu
  rw [show (Addr.add ⟨W.heap.size, 0, none⟩ j) = ⟨W.heap.size, j, none⟩ by cases j <;> simp [Addr.add], World.cell?_alloc_at _ _ _ _ rfl]
  simpa using hu
-- a list of addresses, wherever it lies
def ReadsA (w : World) (v : Value) (L : List (Nat × Nat)) : Prop :=
  ∃ a cap, v = .slice a L.length cap ∧ (L.length = 0 ∨ ∃ b, a = some ⟨b, 0, none⟩ ∧ ∀ (i : Nat) (x : Nat × Nat), L[i]? = some x → w.cell? ⟨b, i * 2, none⟩ = some (.int .i64 (x.1 : Nat)) ∧ w.cell? ⟨b, i * 2 + 1, none⟩ = some (.int .i64 (x.2 : Nat)))
theorem ReadsA.later {w w' : World} {v : Value} {L : List (Nat × Nat)} (h : ReadsA w v L) (hb : Below w.heap.size w w') : ReadsA w' v L := by
  obtain ⟨a, cap, rfl, h0 | ⟨b, rfl, hc⟩⟩ := h
  · exact ⟨a, cap, rfl, .inl h0⟩
  · refine ⟨_, cap, rfl, .inr ⟨b, rfl, fun i x hx => ?_⟩⟩
    obtain ⟨c1, c2⟩ := hc i x hx
    exact ⟨(hb.cell (p := ⟨b, i * 2, none⟩) (World.block_lt_of_cell? _ _ c1)).trans c1, (hb.cell (p := ⟨b, i * 2 + 1, none⟩) (World.block_lt_of_cell? _ _ c2)).trans c2⟩
theorem own_readsA {w : World} {B n : Nat} {v : Value} {L : List (Nat × Nat)} (h : w.ownsRow B 36 2 v n (cls L)) : ReadsA w v L := by
  have hn : L.length = n := by have := h.1; rw [cls_len] at this; omega
  subst hn
  rcases h.2 with ⟨rfl, h0⟩ | ⟨g, cap, cur, rfl, _, hg, _⟩
  · refine ⟨none, 0, by rw [h0], .inl h0⟩
  · refine ⟨_, cap, rfl, .inr ⟨g, rfl, fun i x hx => ?_⟩⟩
    have hi := (List.getElem?_eq_some_iff.1 hx).1
    obtain ⟨c1, c2⟩ := cls_get L i x hx
    exact ⟨(h.cellAt (i * 2) (by omega)).trans c1, (h.cellAt (i * 2 + 1) (by omega)).trans c2⟩
theorem formA {w : World} {v : Value} {L : List (Nat × Nat)} (h : ReadsA w v L) : ∃ a cap, v = .slice a L.length cap := by
  obtain ⟨a, cap, h, _⟩ := h
  exact ⟨a, cap, h⟩
theorem row_at {L : List (Nat × Nat)} {w : World} {a : Option Addr} {cap n : Nat} {k i : Nat} {j : Nat} (h : ReadsA w (.slice a n cap) L) (hx : L[j]? = some (k, i)) : ∃ b, a = some ⟨b, 0, none⟩ ∧ w.cell? ⟨b, j * 2, none⟩ = some (.int .i64 (k : Nat)) ∧ w.cell? ⟨b, j * 2 + 1, none⟩ = some (.int .i64 (i : Nat)) := by
  obtain ⟨a', cap', e1, hc⟩ := h
  injection e1 with e1 e2 e3
  subst e1
  have := (List.getElem?_eq_some_iff.1 hx).1
  rcases hc with h0 | ⟨b, e4, hc⟩
  · omega
  · exact ⟨b, e4, hc j _ hx⟩
end Go.Proofs.YtmmbkfagchaocaaDoor.cs

namespace Go.Proofs.YtmmbkfagchaocaaDoor.ct
open Go.RowKit Go.PlainAid
open Go.Proofs.YtmmbkfagchaocaaDoor.cp Go.Proofs.YtmmbkfagchaocaaDoor.cs
set_option linter.unusedVariables false

-- what the program's Cover promises (T: what it asks of the world)
structure CoverC (T : World → Prop) : Prop where
  later : ∀ {w w' : World}, T w → Below w.heap.size w w' → T w'
  covers : ∀ (lo hi : Int), i64 lo → i64 hi → ∀ w, T w → Calls Tryd.prog 49 #[.int .i64 lo, .int .i64 hi] w fun e w' => Rowed w w' e lo hi ∧ Below w.heap.size w w'
end Go.Proofs.YtmmbkfagchaocaaDoor.ct

namespace Go.Proofs.YtmmbkfagchaocaaDoor.cu
open Go.RowKit Go.PlainAid
open Go.Proofs.YtmmbkfagchaocaaDoor.cp
set_option linter.unusedVariables false

-- what the program's Span promises
def SpanC : Prop := ∀ (L I : Int), i64 L → i64 I → ∀ w, Calls Tryd.prog 64 #[.agg #[.int .i64 L, .int .i64 I]] w fun e w' => e = .returned (spV L I) ∧ Below w.heap.size w w'
end Go.Proofs.YtmmbkfagchaocaaDoor.cu

namespace Go.Proofs.YtmmbkfagchaocaaDoor.cq
open Go.RowKit Go.PlainAid
open Go.Proofs.YtmmbkfagchaocaaDoor.cp
set_option linter.unusedVariables false

-- what the program's Valid promises
def ValidC : Prop := ∀ (L I : Int), i64 L → i64 I → ∀ w, Calls Tryd.prog 77 #[.agg #[.int .i64 L, .int .i64 I]] w fun e w' => e = .returned (.bool (decide (okA L I))) ∧ Below w.heap.size w w'
end Go.Proofs.YtmmbkfagchaocaaDoor.cq

namespace Go.Proofs.YtmmbkfagchaocaaDoor.cr
open Go.RowKit Go.PlainAid
open Go.Proofs.YtmmbkfagchaocaaDoor.cp
set_option linter.unusedVariables false

-- what the program's ways with kin promise
def ParentC : Prop := ∀ (L I : Int), i64 L → i64 I → ∀ w, Calls Tryd.prog 79 #[.agg #[.int .i64 L, .int .i64 I]] w fun e w' => e = .returned (kinV L I (L + 1) (I / 2)) ∧ Below w.heap.size w w'
def LeftC : Prop := ∀ (L I : Int), i64 L → i64 I → ∀ w, Calls Tryd.prog 87 #[.agg #[.int .i64 L, .int .i64 I]] w fun e w' => e = .returned (kinV L I (L - 1) (2 * I)) ∧ Below w.heap.size w w'
def RightC : Prop := ∀ (L I : Int), i64 L → i64 I → ∀ w, Calls Tryd.prog 88 #[.agg #[.int .i64 L, .int .i64 I]] w fun e w' => e = .returned (kinV L I (L - 1) (2 * I + 1)) ∧ Below w.heap.size w w'
end Go.Proofs.YtmmbkfagchaocaaDoor.cr

namespace Go.Proofs.YtmmbkfagchaocaaDoor.cv
open Go.RowKit Go.PlainAid
open Go.Proofs.YtmmbkfagchaocaaDoor.cp
theorem fits64 (a : Int) (h : (Lit.int .i64 a).wf = true) : -9223372036854775808 ≤ a ∧ a ≤ 9223372036854775807 := by
  simp only [Lit.wf, Bool.and_eq_true, decide_eq_true_eq] at h
  obtain ⟨h1, h2⟩ := h
  have e1 : IntKind.i64.min = -9223372036854775808 := by decide
  have e2 : IntKind.i64.max = 9223372036854775807 := by decide
  omega
set_option maxRecDepth 100000 in
theorem i64_of {a : Int} (h : (Lit.int .i64 a).wf = true) : i64 a := fits64 a h
end Go.Proofs.YtmmbkfagchaocaaDoor.cv

namespace Go.Proofs.YtmmbkfagchaocaaDoor.xa
open Go.Lib Go.Proofs.YtmmbkfagchaocaaDoor.ca
set_option linter.unusedVariables false

theorem bitLen_zero : Lib.bitLen 0 = 0 := by decide

theorem bitLen_lt : ∀ (f x : Nat), x < 2 ^ f → f ≤ 64 → x < 2 ^ Lib.bitLen x ∧ (x ≠ 0 → 2 ^ (Lib.bitLen x - 1) ≤ x ∧ 1 ≤ Lib.bitLen x)
  | 0, x, h, _ => by
    have : x = 0 := by simpa using h
    subst this
    rw [bitLen_zero]; exact ⟨by decide, fun h => absurd rfl h⟩
  | f + 1, x, h, hf => by
    by_cases hx : x = 0
    · subst hx; rw [bitLen_zero]; exact ⟨by decide, fun h => absurd rfl h⟩
    · have hp := Nat.pow_le_pow_right (n := 2) (by omega) hf
      have e := Lib.bitLen_half x hx (Nat.lt_of_lt_of_le h hp)
      have ih := bitLen_lt f (x / 2) (by rw [Nat.pow_succ] at h; omega) (by omega)
      rw [e]
      refine ⟨?_, fun _ => ⟨?_, by omega⟩⟩
      · rw [Nat.add_comm, Nat.pow_succ]; omega
      · by_cases h2 : x / 2 = 0
        · rw [h2, bitLen_zero]; simp; omega
        · obtain ⟨h3, h4⟩ := ih.2 h2
          obtain ⟨l, hl⟩ : ∃ l, Lib.bitLen (x / 2) = l + 1 := ⟨Lib.bitLen (x / 2) - 1, by omega⟩
          rw [hl] at h3 ⊢
          rw [show 1 + (l + 1) - 1 = l + 1 by omega, Nat.pow_succ]
          rw [show l + 1 - 1 = l by omega] at h3
          omega

theorem len_spec (x : Nat) (h : x < 18446744073709551616) : x < 2 ^ Lib.bitLen x ∧ (x ≠ 0 → 2 ^ (Lib.bitLen x - 1) ≤ x ∧ 1 ≤ Lib.bitLen x) :=
  bitLen_lt 64 x h (by omega)

theorem len_le63 (x : Nat) (h : x ≤ 9223372036854775807) : Lib.bitLen x ≤ 63 := bitLenAux_le 64 x 63 (by omega)

theorem bits_out (x : Int) (h : x ≤ 0) : Lib.bitLen x.toNat = 0 := by
  rw [show x.toNat = 0 by omega]; exact bitLen_zero

theorem ctz_spec (x : Nat) (h0 : 0 < x) (h : x < 9223372036854775808) : ∃ m, x = 2 ^ ctz 64 x * (2 * m + 1) ∧ ctz 64 x ≤ 62 := by
  have hx : x ≠ 0 := by omega
  obtain ⟨m, hm, hk⟩ := ctzFrom_spec 64 x h0 (by omega)
  have e : ctz 64 x = ctzFrom 64 x := by unfold ctz; rw [if_neg hx]
  rw [e]
  refine ⟨m, hm, ?_⟩
  apply Nat.le_of_not_lt
  intro hlt
  have hp := Nat.pow_le_pow_right (n := 2) (by omega) (show 63 ≤ ctzFrom 64 x by omega)
  have e63 : (2 : Nat) ^ 63 = 9223372036854775808 := by decide
  have : 2 ^ ctzFrom 64 x ≤ x := by
    conv => rhs; rw [hm]
    exact Nat.le_mul_of_pos_right _ (by omega)
  omega

-- the noughts behind p, as the program counts them
def zer (p : Nat) : Nat := if p = 0 then 63 else ctz 64 p
theorem level (p d : Nat) (hp : p < 9223372036854775808) (h0 : 0 < d) (hd : d ≤ 4611686018427387904) : Lv p d (min (zer p) (Lib.bitLen d - 1)) ∧ 1 ≤ Lib.bitLen d ∧ Lib.bitLen d ≤ 63 ∧ zer p ≤ 63 := by
  obtain ⟨l1, l2⟩ := len_spec d (by omega)
  obtain ⟨l3, l4⟩ := l2 (by omega)
  have l5 := len_le63 d (by omega)
  obtain ⟨b, hb⟩ : ∃ b, Lib.bitLen d = b + 1 := ⟨Lib.bitLen d - 1, by omega⟩
  rw [hb] at l1 l3 l5 ⊢
  rw [Nat.add_sub_cancel] at l3 ⊢
  have key : 2 ^ min (zer p) b ∣ p ∧ (zer p < b → ¬ 2 ^ (zer p + 1) ∣ p) ∧ zer p ≤ 63 := by
    unfold zer
    split
    · rename_i h
      subst h
      exact ⟨Nat.dvd_zero _, fun h => by omega, by omega⟩
    · rename_i h
      obtain ⟨m, hm, hk⟩ := ctz_spec p (by omega) hp
      refine ⟨?_, fun _ => ?_, by omega⟩
      · refine Nat.dvd_trans (p2dvd (Nat.min_le_left _ _)) ?_
        exact ⟨_, hm⟩
      · rintro ⟨c, hc⟩
        rw [p2s] at hc
        have e : 2 ^ ctz 64 p * (2 * m + 1) = 2 ^ ctz 64 p * (2 * c) := by
          rw [← hm]
          conv => lhs; rw [hc]
          rw [Nat.mul_comm 2 (2 ^ ctz 64 p), Nat.mul_assoc]
        have := Nat.eq_of_mul_eq_mul_left (p2 _) e
        omega
  have hmin : min (zer p) b ≤ b := Nat.min_le_right _ _
  refine ⟨⟨by omega, key.1, Nat.le_trans (p2le hmin) l3, ?_⟩, by omega, l5, key.2.2⟩
  rcases Nat.lt_or_ge (zer p) b with e | e
  · rw [Nat.min_eq_left (by omega)]
    exact .inr (.inl (key.2.1 e))
  · rw [Nat.min_eq_right e]
    exact .inr (.inr l1)
end Go.Proofs.YtmmbkfagchaocaaDoor.xa

namespace Go.Proofs.YtmmbkfagchaocaaDoor.xb
open Go.RowKit Go.PlainAid
set_option linter.unusedVariables false

theorem ret_i64 {a b : Int} (h : a = b) : Ending.returned (.int .i64 a) = .returned (.int .i64 b) := by rw [h]

theorem bt_len8 (k : Nat) (h : k < 256) : bt Lib.len8tab k = Lib.bitLen k := by
  have key : ∀ n : Fin 256, bt Lib.len8tab n.val = Lib.bitLen n.val := by decide +kernel
  exact key ⟨k, h⟩

theorem sh (x : Int) (k : Nat) (y n : Int) (h0 : 0 ≤ x) (h1 : x ≤ 18446744073709551615) (hy : y = x / 2 ^ k) (hk : 2 ^ k ≤ x.toNat) (hn : n = k) (hk' : k ≤ 64) (hb : y ≤ 255) (hy0 : 0 ≤ y) :
    wrap64 (n + wrap64 (bt Lib.len8tab y.toNat)) = Lib.bitLen x.toNat := by
  have e : y.toNat = x.toNat / 2 ^ k := by
    subst hy
    obtain ⟨m, rfl⟩ := Int.eq_ofNat_of_zero_le h0
    simp only [Int.toNat_natCast]
    have : ((m : Int) / 2 ^ k) = ((m / 2 ^ k : Nat) : Int) := by simp
    rw [this, Int.toNat_natCast]
  have l := Lib.bitLen_le8' y hy0 hb
  rw [bt_len8 y.toNat (by omega), Lib.bitLen_shift k x.toNat hk (by omega), hn, ← e, IntWalk.wrap64_in (Lib.bitLen y.toNat) ⟨by omega, by omega⟩, IntWalk.wrap64_in _ ⟨by omega, by omega⟩]
  omega

theorem sh0 (x : Int) (h0 : 0 ≤ x) (hb : x ≤ 255) : wrap64 (wrap64 (bt Lib.len8tab x.toNat)) = Lib.bitLen x.toNat := by
  have l := Lib.bitLen_le8' x h0 hb
  rw [bt_len8 x.toNat (by omega), IntWalk.wrap64_in (Lib.bitLen x.toNat) ⟨by omega, by omega⟩, IntWalk.wrap64_in _ ⟨by omega, by omega⟩]

set_option maxHeartbeats 1600000 in
set_option maxRecDepth 100000 in
theorem len_any (x : Int) (w : World) (h0 : 0 ≤ x) (h1 : x ≤ 18446744073709551615) :
    Calls Tryd.prog 86 #[.int .u64 x] w fun e w' => e = .returned (.int .i64 (Lib.bitLen x.toNat)) ∧ w' = w := by
  have hsz : Lib.len8tab.size = 256 ∧ True := ⟨Lib.len8tab_size, trivial⟩
  have hbt := get_bt Lib.len8tab
  go_enter Tryd.func86, Tryd.ntmps86
  go_wp2
  all_goals
    go_ret
    refine ⟨ret_i64 ?_, rfl⟩
    first
      | exact sh x 56 _ _ h0 h1 (by omega) (by omega) (by omega) (by omega) (by omega) (by omega)
      | exact sh x 48 _ _ h0 h1 (by omega) (by omega) (by omega) (by omega) (by omega) (by omega)
      | exact sh x 40 _ _ h0 h1 (by omega) (by omega) (by omega) (by omega) (by omega) (by omega)
      | exact sh x 32 _ _ h0 h1 (by omega) (by omega) (by omega) (by omega) (by omega) (by omega)
      | exact sh x 24 _ _ h0 h1 (by omega) (by omega) (by omega) (by omega) (by omega) (by omega)
      | exact sh x 16 _ _ h0 h1 (by omega) (by omega) (by omega) (by omega) (by omega) (by omega)
      | exact sh x 8 _ _ h0 h1 (by omega) (by omega) (by omega) (by omega) (by omega) (by omega)
      | exact sh0 x h0 (by omega)
end Go.Proofs.YtmmbkfagchaocaaDoor.xb

namespace Go.Proofs.YtmmbkfagchaocaaDoor.xc
open Go.RowKit Go.PlainAid
open Go.Proofs.YtmmbkfagchaocaaDoor.ca Go.Proofs.YtmmbkfagchaocaaDoor.cp Go.Proofs.YtmmbkfagchaocaaDoor.xa Go.Proofs.YtmmbkfagchaocaaDoor.xb
set_option linter.unusedVariables false

def TabB (w : World) : Prop := ∀ j, j < 64 → w.cell? ⟨1, j, none⟩ = some (.int .u8 (Lib.deBruijn64tab.getD j 0))

set_option maxHeartbeats 1000000 in
theorem tz_core (x k idx : Nat) (w : World) (hx : x < 18446744073709551616) (hx0 : ((x : Int) == 0) = false)
    (key : IntKind.u64.wrap (bits BinOp.and IntKind.u64 (x : Int) (IntKind.u64.wrap (-(x : Int))) * 285870213051353865) / 288230376151711744 = (idx : Int))
    (hi : idx < 64) (hk : k < 64) (hcell : w.cell? ⟨1, idx, none⟩ = some (.int .u8 k)) :
    Calls Tryd.prog 85 #[.int .u64 x] w fun e w' => e = .returned (.int .i64 k) ∧ w' = w := by
  go_enter Tryd.func85, Tryd.ntmps85
  go_wp2_with (simp only [key])
  go_ret
  exact ⟨rfl, rfl⟩

theorem tz (x : Nat) (w : World) (hx : x < 18446744073709551616) (hx0 : x ≠ 0) (hT : TabB w) :
    Calls Tryd.prog 85 #[.int .u64 x] w fun e w' => e = .returned (.int .i64 (Lib.ctz 64 x)) ∧ w' = w := by
  obtain ⟨hlow, hk⟩ := Lib.lowest_bit 64 x hx0 hx
  obtain ⟨hi, htab⟩ := Lib.deBruijn64_at _ hk
  have hcell := hT _ hi
  rw [htab] at hcell
  exact tz_core x _ _ w hx (by simp; omega) (Go.Proofs.tz64_key x _ hx hx0 hlow) hi hk hcell
theorem bits_any (n : Int) (w : World) (h0 : -9223372036854775808 ≤ n) (h1 : n ≤ 9223372036854775807) :
    Calls Tryd.prog 76 #[.int .i64 n] w fun e w' => e = .returned (.int .i64 (Lib.bitLen n.toNat)) ∧ w' = w := by
  by_cases h : n ≤ 0
  · have HB : Hid _ := bits_out n h
    go_enter Tryd.func76, Tryd.ntmps76
    go_wp2
    go_ret
    exact ⟨Go.Proofs.YtmmbkfagchaocaaDoor.xb.ret_i64 (by rw [HB.out]; rfl), rfl⟩
  · go_enter Tryd.func76, Tryd.ntmps76
    go_wp2_with (go_at_call 86; refine (len_any n _ (by omega) (by omega)).mono ?_; rintro e w' ⟨rfl, rfl⟩)
    go_ret
    exact ⟨rfl, rfl⟩

theorem zeros_no (n : Int) (w : World) (h : n ≤ 0) :
    Calls Tryd.prog 75 #[.int .i64 n] w fun e w' => e = .returned (.int .i64 63) ∧ w' = w := by
  go_enter Tryd.func75, Tryd.ntmps75
  go_wp2
  go_ret
  exact ⟨rfl, rfl⟩

theorem zeros_yes (m : Nat) (w : World) (h0 : 0 < m) (h1 : m ≤ 9223372036854775807) (HT : Hid (TabB w)) :
    Calls Tryd.prog 75 #[.int .i64 m] w fun e w' => e = .returned (.int .i64 (Lib.ctz 64 m)) ∧ w' = w := by
  have d0 : decide ((m : Int) ≤ 0) = false := by simp; omega
  have d1 : decide (m = 0) = false := by simp; omega
  have hn : ¬ (m : Int) ≤ 0 := by omega
  go_enter Tryd.func75, Tryd.ntmps75
  go_wp2_with (go_at_call 85; refine (tz m _ (by omega) (by omega) HT.out).mono ?_; rintro e w' ⟨rfl, rfl⟩)
  go_ret
  exact ⟨rfl, rfl⟩

theorem TabB.later {w w' : World} (h : TabB w) (hb : Below w.heap.size w w') : TabB w' := fun j hj => by
  have := h j hj
  exact (hb.cell (p := ⟨1, j, none⟩) (World.block_lt_of_cell? _ _ this)).trans this
theorem zeros (m : Nat) (w : World) (h1 : m ≤ 9223372036854775807) (HT : Hid (TabB w)) :
    Calls Tryd.prog 75 #[.int .i64 m] w fun e w' => e = .returned (.int .i64 (zer m : Nat)) ∧ w' = w := by
  unfold zer
  by_cases h : m = 0
  · subst h
    exact zeros_no 0 w (by omega)
  · rw [if_neg h]
    exact zeros_yes m w (by omega) h1 HT
theorem bitsN (m : Nat) (w : World) (h1 : m ≤ 9223372036854775807) :
    Calls Tryd.prog 76 #[.int .i64 m] w fun e w' => e = .returned (.int .i64 (Lib.bitLen m : Nat)) ∧ w' = w := by
  have := bits_any m w (by omega) (by omega)
  rw [Int.toNat_natCast] at this
  exact this
end Go.Proofs.YtmmbkfagchaocaaDoor.xc
