import Derived.PlainAid
import Derived.WalkKit
import Derived.Tactics
import Derived.Below
import Derived.BigQuiet
import Derived.Laws.AppendOwn
import Derived.Laws.OwnMore
import Derived.Test.YtmmbkfagchaocaaDoorProg
import Derived.Lib.BitFns
import Derived.Lib.TrailingZeros
import Derived.Laws.BitsAllLaws
import Derived.WalkSpells
import Derived.Shelf.Spec.TrailingZeros
namespace Go.Proofs.YtmmbkfagchaocaaDoor.ca
set_option linter.unusedVariables false

-- the level of the piece at p, h leaves being left
def Lv (p h k : Nat) : Prop := k ≤ 62 ∧ 2 ^ k ∣ p ∧ 2 ^ k ≤ h ∧ (k = 62 ∨ ¬ 2 ^ (k + 1) ∣ p ∨ h < 2 ^ (k + 1))
theorem p2 (k : Nat) : 0 < 2 ^ k := Nat.two_pow_pos k
theorem p2s (k : Nat) : 2 ^ (k + 1) = 2 * 2 ^ k := by rw [Nat.pow_succ, Nat.mul_comm]
theorem p2le {j k : Nat} (h : j ≤ k) : 2 ^ j ≤ 2 ^ k := Nat.pow_le_pow_right (by decide) h
theorem p2dvd {j k : Nat} (h : j ≤ k) : 2 ^ j ∣ 2 ^ k := Nat.pow_dvd_pow 2 h
theorem p2lt {j k : Nat} (h : 2 ^ j < 2 ^ k) : j < k := by
  rcases Nat.lt_or_ge j k with e | e
  · exact e
  · have := p2le e; omega
theorem Lv.unique {p h k k' : Nat} (a : Lv p h k) (b : Lv p h k') : k = k' := by
  have key : ∀ {k k' : Nat}, Lv p h k → Lv p h k' → ¬ k < k' := by
    intro k k' a b hlt
    have h1 : 2 ^ (k + 1) ∣ p := Nat.dvd_trans (p2dvd hlt) b.2.1
    have h2 : 2 ^ (k + 1) ≤ h := Nat.le_trans (p2le hlt) b.2.2.1
    rcases a.2.2.2 with e | e | e
    · have := b.1; omega
    · exact e h1
    · omega
  have := key a b
  have := key b a
  omega
def lvF (p h : Nat) : Nat → Nat → Nat
  | 0, k => k
  | f + 1, k => if 2 ^ (k + 1) ∣ p ∧ 2 ^ (k + 1) ≤ h then lvF p h f (k + 1) else k
theorem lvF_lv (p h f k : Nat) (hf : f + k = 62) (h1 : 2 ^ k ∣ p) (h2 : 2 ^ k ≤ h) : Lv p h (lvF p h f k) := by
  induction f generalizing k with
  | zero => exact ⟨by show k ≤ 62; omega, h1, h2, .inl (by show k = 62; omega)⟩
  | succ f ih =>
    unfold lvF
    split
    · rename_i hh
      exact ih (k + 1) (by omega) hh.1 hh.2
    · rename_i hh
      refine ⟨by omega, h1, h2, .inr ?_⟩
      rcases Decidable.em (2 ^ (k + 1) ∣ p) with e | e
      · exact .inr (Nat.lt_of_not_le fun e' => hh ⟨e, e'⟩)
      · exact .inl e
def lv (p h : Nat) : Nat := lvF p h 62 0
theorem lv_lv (p h : Nat) (hh : 0 < h) : Lv p h (lv p h) := lvF_lv p h 62 0 rfl (Nat.one_dvd p) hh
-- the pieces from p up to hi
def cov (p hi : Nat) : List (Nat × Nat) :=
  if h : p < hi then (lv p (hi - p), p / 2 ^ lv p (hi - p)) :: cov (p + 2 ^ lv p (hi - p)) hi else []
termination_by hi - p
decreasing_by have := p2 (lv p (hi - p)); omega
theorem cov_end {p hi : Nat} (h : ¬ p < hi) : cov p hi = [] := by rw [cov, dif_neg h]
theorem cov_at {p hi k : Nat} (h : p < hi) (hk : Lv p (hi - p) k) : cov p hi = (k, p / 2 ^ k) :: cov (p + 2 ^ k) hi := by
  rw [cov, dif_pos h, Lv.unique (lv_lv p (hi - p) (by omega)) hk]
theorem cov_fold {p hi : Nat} (P : Nat → Nat → Prop) (h0 : ∀ p, ¬ p < hi → P p hi) (h1 : ∀ p k, p < hi → Lv p (hi - p) k → P (p + 2 ^ k) hi → P p hi) : P p hi := by
  generalize hn : hi - p = n
  induction n using Nat.strongRecOn generalizing p with
  | ind n ih =>
    rcases Nat.lt_or_ge p hi with e | e
    · have hl := lv_lv p (hi - p) (by omega)
      refine h1 p _ e hl (ih (hi - (p + 2 ^ lv p (hi - p))) ?_ rfl)
      have := p2 (lv p (hi - p))
      omega
    · exact h0 p (by omega)
-- below a place that 2^j divides, with fewer than 2^j leaves: the greatest power that fits
theorem lv_low {p h k j : Nat} (hj : 2 ^ j ∣ p) (hh : h < 2 ^ j) (hk : k < j) (h62 : k ≤ 62) (h1 : 2 ^ k ≤ h) (h2 : h < 2 ^ (k + 1)) : Lv p h k :=
  ⟨h62, Nat.dvd_trans (p2dvd (Nat.le_of_lt hk)) hj, h1, .inr (.inr h2)⟩
theorem low_is {p h k j : Nat} (hj : 2 ^ j ∣ p) (hh : h < 2 ^ j) (hl : Lv p h k) (hb : h < 2 ^ 63) : k < j ∧ h < 2 ^ (k + 1) := by
  have hkj : k < j := p2lt (Nat.lt_of_le_of_lt hl.2.2.1 hh)
  refine ⟨hkj, ?_⟩
  rcases hl.2.2.2 with e | e | e
  · subst e; exact hb
  · exact absurd (Nat.dvd_trans (p2dvd hkj) hj) e
  · exact e
theorem down_len (j : Nat) : ∀ (p h : Nat), 2 ^ j ∣ p → h < 2 ^ j → h < 2 ^ 63 → (cov p (p + h)).length ≤ j := by
  induction j using Nat.strongRecOn with
  | ind j ih =>
    intro p h hj hh hb
    rcases Nat.eq_zero_or_pos h with e | e
    · subst e; rw [cov_end (by omega)]; exact Nat.zero_le _
    · have hl : Lv p (p + h - p) (lv p (p + h - p)) := lv_lv _ _ (by omega)
      rw [Nat.add_sub_cancel_left] at hl
      obtain ⟨k, hk⟩ : ∃ k, lv p h = k := ⟨_, rfl⟩
      rw [hk] at hl
      obtain ⟨h1, h2⟩ := low_is hj hh hl hb
      have hs := p2s k
      rw [cov_at (by omega) (by rw [Nat.add_sub_cancel_left]; exact hl), List.length_cons]
      have := ih k h1 (p + 2 ^ k) (h - 2 ^ k) (Nat.dvd_add (Nat.dvd_trans (p2dvd (Nat.le_of_lt h1)) hj) (Nat.dvd_refl _)) (by omega) (by omega)
      rw [show p + 2 ^ k + (h - 2 ^ k) = p + h by have := hl.2.2.1; omega] at this
      omega
theorem dvd_pos_le {k p : Nat} (h : 2 ^ k ∣ p) (hp : 0 < p) : 2 ^ k ≤ p := Nat.le_of_dvd hp h
theorem up_len (n : Nat) : ∀ (j p h : Nat), 61 - j = n → j ≤ 61 → 0 < p → 2 ^ j ∣ p → p + h ≤ 2 ^ 62 → (cov p (p + h)).length ≤ 122 - j := by
  induction n using Nat.strongRecOn with
  | ind n ih =>
    intro j p h hn hj61 hp hj hb
    have hb63 : h < 2 ^ 63 := by have : (2 : Nat) ^ 63 = 2 * 2 ^ 62 := p2s 62; have := p2 62; omega
    rcases Nat.lt_or_ge h (2 ^ j) with e | e
    · have := down_len j p h hj e hb63; omega
    · have h0 : 0 < h := Nat.lt_of_lt_of_le (p2 j) e
      have hl := lv_lv p h h0
      obtain ⟨k, hk⟩ : ∃ k, lv p h = k := ⟨_, rfl⟩
      rw [hk] at hl
      have hs := p2s k
      have hpk := dvd_pos_le hl.2.1 hp
      have hcov := cov_at (p := p) (hi := p + h) (k := k) (by omega) (by rw [Nat.add_sub_cancel_left]; exact hl)
      have hk61 : k ≤ 61 := by
        rcases Nat.lt_or_ge k 62 with g | g
        · omega
        · have := p2le g; have := p2 62; have := hl.2.2.1; omega
      have heq : p + 2 ^ k + (h - 2 ^ k) = p + h := by have := hl.2.2.1; omega
      rw [hcov, List.length_cons]
      rcases Nat.lt_or_ge h (2 ^ (k + 1)) with g | g
      · have hd := down_len k (p + 2 ^ k) (h - 2 ^ k) (Nat.dvd_add hl.2.1 (Nat.dvd_refl _)) (by omega) (by omega)
        rw [heq] at hd
        rcases Nat.lt_or_ge j 61 with q | q
        · omega
        · -- j = 61: the whole upper half
          have q : j = 61 := by omega
          subst q
          have h61 := dvd_pos_le hj hp
          have e62 : (2 : Nat) ^ 62 = 2 * 2 ^ 61 := p2s 61
          have hh : h = 2 ^ 61 := by omega
          have : k = 61 := by
            rcases Nat.lt_or_ge k 61 with q | q
            · have := p2le (show k + 1 ≤ 61 from q); omega
            · omega
          subst this
          rw [cov_end (by omega)]
          simp
      · -- as much as divides p
        have hnd : ¬ 2 ^ (k + 1) ∣ p := by
          rcases hl.2.2.2 with q | q | q
          · omega
          · exact q
          · omega
        have hk60 : k ≤ 60 := by
          rcases Nat.lt_or_ge k 61 with q | q
          · omega
          · have : k = 61 := by omega
            subst this
            have e62 : (2 : Nat) ^ 62 = 2 * 2 ^ 61 := p2s 61
            have := p2 61
            omega
        have hjk : j ≤ k := by
          rcases Nat.lt_or_ge k j with q | q
          · exact absurd (Nat.dvd_trans (p2dvd q) hj) hnd
          · exact q
        have hd : 2 ^ (k + 1) ∣ p + 2 ^ k := by
          obtain ⟨c, hc⟩ := hl.2.1
          rcases Nat.mod_two_eq_zero_or_one c with q | q
          · exact absurd ⟨c / 2, by rw [hs, Nat.mul_assoc, Nat.mul_left_comm, show 2 * (c / 2) = c by omega]; exact hc⟩ hnd
          · exact ⟨(c + 1) / 2, by rw [hs, Nat.mul_assoc, Nat.mul_left_comm, show 2 * ((c + 1) / 2) = c + 1 by omega, Nat.mul_add, ← hc, Nat.mul_one]⟩
        have := ih (61 - (k + 1)) (by omega) (k + 1) (p + 2 ^ k) (h - 2 ^ k) rfl (by omega) (by omega) hd (by omega)
        rw [heq] at this
        omega
theorem cov_len (lo hi : Nat) (h : lo ≤ hi) (hb : hi ≤ 2 ^ 62) : (cov lo hi).length ≤ 122 := by
  obtain ⟨n, rfl⟩ : ∃ n, hi = lo + n := ⟨hi - lo, by omega⟩
  rcases Nat.eq_zero_or_pos lo with e | e
  · subst e
    have e63 : (2 : Nat) ^ 63 = 2 * 2 ^ 62 := p2s 62
    have := p2 62
    have := down_len 63 0 n (Nat.dvd_zero _) (by omega) (by omega)
    omega
  · exact up_len 61 0 lo n rfl (by omega) e (Nat.one_dvd _) hb
-- no piece's parent lies within the range
def Inv (lo hi p : Nat) : Prop := lo ≤ p ∧ ∀ m, 2 ^ m ∣ p → ¬ 2 ^ (m + 1) ∣ p → lo + 2 ^ m ≤ p → hi < p + 2 ^ m
theorem Inv.start (lo hi : Nat) : Inv lo hi lo := ⟨Nat.le_refl _, fun m _ _ h => by have := p2 m; omega⟩
theorem odd_of {k p : Nat} (h1 : 2 ^ k ∣ p) (h2 : ¬ 2 ^ (k + 1) ∣ p) : ∃ c, p = 2 ^ (k + 1) * c + 2 ^ k := by
  obtain ⟨c, hc⟩ := h1
  rcases Nat.mod_two_eq_zero_or_one c with q | q
  · exact absurd ⟨c / 2, by rw [p2s, Nat.mul_assoc, Nat.mul_left_comm, show 2 * (c / 2) = c by omega]; exact hc⟩ h2
  · refine ⟨c / 2, ?_⟩
    rw [p2s, Nat.mul_assoc, Nat.mul_left_comm, hc]
    generalize 2 ^ k = z
    obtain ⟨d, rfl⟩ : ∃ d, c = 2 * d + 1 := ⟨c / 2, by omega⟩
    rw [show (2 * d + 1) / 2 = d by omega, Nat.mul_add, Nat.mul_one]
theorem Inv.step {lo hi p k : Nat} (h : Inv lo hi p) (hlt : p < hi) (hb : hi ≤ 2 ^ 62) (hl : Lv p (hi - p) k) : Inv lo hi (p + 2 ^ k) := by
  refine ⟨by have := h.1; have := p2 k; omega, fun m m1 m2 m3 => ?_⟩
  rcases Nat.lt_or_ge hi (p + 2 ^ k + 2 ^ m) with g | g
  · exact g
  · exfalso
    have hs := p2s k
    have hkm : k ≤ m := by
      rcases Nat.lt_or_ge m k with q | q
      · exact absurd (Nat.dvd_add (Nat.dvd_trans (p2dvd q) hl.2.1) (p2dvd q)) m2
      · exact q
    rcases Nat.lt_or_ge k m with q | q
    · -- p is just divided by 2^k
      have hnd : ¬ 2 ^ (k + 1) ∣ p := by
        intro hd
        have h1 : 2 ^ (k + 1) ∣ p + 2 ^ k := Nat.dvd_trans (p2dvd q) m1
        have h2 : 2 ^ (k + 1) ∣ 2 ^ k := (Nat.dvd_add_iff_right hd).2 h1
        have := Nat.le_of_dvd (p2 k) h2
        have := p2 k
        omega
      have hno : ¬ lo + 2 ^ k ≤ p := fun e => by
        have := h.2 k hl.2.1 hnd e
        have := hl.2.2.1
        omega
      have := p2le q
      omega
    · have e : m = k := by omega
      subst e
      obtain ⟨c, hc⟩ := odd_of m1 m2
      have hd : 2 ^ (m + 1) ∣ p := ⟨c, by omega⟩
      rcases hl.2.2.2 with e | e | e
      · subst e
        have := p2 62
        omega
      · exact e hd
      · omega
theorem Inv.up {lo hi p k : Nat} (h : Inv lo hi p) (hlt : p < hi) (hl : Lv p (hi - p) k) (hk : k < 62) : ¬ (lo ≤ p / 2 ^ (k + 1) * 2 ^ (k + 1) ∧ (p / 2 ^ (k + 1) + 1) * 2 ^ (k + 1) ≤ hi) := by
  rintro ⟨g1, g2⟩
  have hs := p2s k
  rcases Decidable.em (2 ^ (k + 1) ∣ p) with e | e
  · have e1 := Nat.div_mul_cancel e
    rw [Nat.add_mul, e1] at g2
    rcases hl.2.2.2 with q | q | q
    · omega
    · exact q e
    · omega
  · obtain ⟨c, hc⟩ := odd_of hl.2.1 e
    have hq : p / 2 ^ (k + 1) = c := by
      rw [hc, Nat.mul_add_div (p2 _), Nat.div_eq_of_lt (by have := p2 k; omega), Nat.add_zero]
    rw [hq, Nat.mul_comm] at g1
    have hno : ¬ lo + 2 ^ k ≤ p := fun e' => by
      have := h.2 k hl.2.1 e e'
      have := hl.2.2.1
      omega
    omega
end Go.Proofs.YtmmbkfagchaocaaDoor.ca

namespace Go.Proofs.YtmmbkfagchaocaaDoor.cb
open Go.Proofs.YtmmbkfagchaocaaDoor.ca
set_option linter.unusedVariables false

-- the binary digits 1 below j, the greatest first
def digs : Nat → Nat → List Nat
  | 0, _ => []
  | j + 1, h => if h / 2 ^ j % 2 = 1 then j :: digs j h else digs j h
theorem digs_add (i r : Nat) : ∀ j, j ≤ i → digs j (2 ^ i + r) = digs j r := by
  intro j
  induction j with
  | zero => intro _; rfl
  | succ j ih =>
    intro h
    have e : (2 ^ i + r) / 2 ^ j % 2 = r / 2 ^ j % 2 := by
      obtain ⟨d, rfl⟩ : ∃ d, i = j + (d + 1) := ⟨i - j - 1, by omega⟩
      rw [Nat.pow_add, Nat.mul_add_div (p2 j), p2s d]
      omega
    unfold digs
    rw [e, ih (by omega)]
theorem digs_low {j h : Nat} (hh : h < 2 ^ j) : digs (j + 1) h = digs j h := by
  show (if h / 2 ^ j % 2 = 1 then _ else _) = _
  rw [Nat.div_eq_of_lt hh, if_neg (by decide)]
theorem cov_digs (j : Nat) : ∀ (p h : Nat), 2 ^ j ∣ p → h < 2 ^ j → j ≤ 63 → (cov p (p + h)).map Prod.fst = digs j h := by
  induction j with
  | zero =>
    intro p h _ hh _
    have : h = 0 := by have : (2 : Nat) ^ 0 = 1 := rfl; omega
    subst this
    rw [cov_end (by omega)]
    rfl
  | succ j ih =>
    intro p h hd hh hj
    have hs := p2s j
    have hd' : 2 ^ j ∣ p := Nat.dvd_trans (p2dvd (Nat.le_succ j)) hd
    rcases Nat.lt_or_ge h (2 ^ j) with g | g
    · rw [digs_low g]
      exact ih p h hd' g (by omega)
    · rw [cov_at (k := j) (by have := p2 j; omega) (by rw [Nat.add_sub_cancel_left]; exact ⟨by omega, hd', g, .inr (.inr hh)⟩), List.map_cons]
      have := ih (p + 2 ^ j) (h - 2 ^ j) (Nat.dvd_add hd' (Nat.dvd_refl _)) (by omega) (by omega)
      rw [show p + 2 ^ j + (h - 2 ^ j) = p + h by omega] at this
      rw [this]
      have e : digs j h = digs j (h - 2 ^ j) := by
        have := digs_add j (h - 2 ^ j) j (Nat.le_refl _)
        rwa [show 2 ^ j + (h - 2 ^ j) = h by omega] at this
      show _ = (if h / 2 ^ j % 2 = 1 then _ else _)
      have q : h / 2 ^ j = 1 := by
        have : h = 2 ^ j * 1 + (h - 2 ^ j) := by omega
        rw [this, Nat.mul_add_div (p2 j), Nat.div_eq_of_lt (by omega)]
      rw [q, if_pos rfl, e]
-- the greatest power of two below n
def halfF (n : Nat) : Nat → Nat → Nat
  | 0, k => k
  | f + 1, k => if 2 * k < n then halfF n f (2 * k) else k
theorem halfF_is (n : Nat) : ∀ f j, n ≤ 2 ^ (f + j) → 2 ^ j < n → ∃ i, halfF n f (2 ^ j) = 2 ^ i ∧ 2 ^ i < n ∧ n ≤ 2 ^ (i + 1) := by
  intro f
  induction f with
  | zero => intro j h1 h2; rw [Nat.zero_add] at h1; omega
  | succ f ih =>
    intro j h1 h2
    unfold halfF
    split
    · rename_i hh
      rw [← p2s] at hh ⊢
      exact ih (j + 1) (by rw [show f + (j + 1) = f + 1 + j by omega]; exact h1) hh
    · rename_i hh
      exact ⟨j, rfl, h2, by rw [p2s]; omega⟩
def half (n : Nat) : Nat := halfF n n 1
theorem half_is {n : Nat} (h : 2 ≤ n) : ∃ i, half n = 2 ^ i ∧ 2 ^ i < n ∧ n ≤ 2 ^ (i + 1) :=
  halfF_is n n 0 (by rw [Nat.add_zero]; exact Nat.le_of_lt Nat.lt_two_pow_self) (by show 1 < n; omega)
theorem half_eq {n j : Nat} (h1 : 2 ^ j < n) (h2 : n ≤ 2 ^ (j + 1)) : half n = 2 ^ j := by
  have := p2 j
  obtain ⟨i, e, g1, g2⟩ := half_is (n := n) (by omega)
  have a : j < i + 1 := p2lt (by omega)
  have b : i < j + 1 := p2lt (by omega)
  rw [e, show i = j by omega]
section
variable {α : Type} (E : α) (N : α → α → α)
def foldP : List α → α
  | [] => E
  | [x] => x
  | x :: y :: r => N x (foldP (y :: r))
def rootP (l : List α) : α :=
  if h : 2 ≤ l.length then N (rootP (l.take (half l.length))) (rootP (l.drop (half l.length))) else l.headD E
termination_by l.length
decreasing_by
  · obtain ⟨i, e, g1, g2⟩ := half_is h
    rw [List.length_take, e]
    omega
  · obtain ⟨i, e, g1, g2⟩ := half_is h
    have := p2 i
    rw [List.length_drop, e]
    omega
theorem rootP_nil : rootP E N [] = E := by rw [rootP, dif_neg (by simp)]; rfl
theorem rootP_one (x : α) : rootP E N [x] = x := by rw [rootP, dif_neg (by simp)]; rfl
theorem rootP_two {l : List α} {j : Nat} (h1 : 2 ^ j < l.length) (h2 : l.length ≤ 2 ^ (j + 1)) : rootP E N l = N (rootP E N (l.take (2 ^ j))) (rootP E N (l.drop (2 ^ j))) := by
  have := p2 j
  rw [rootP, dif_pos (by omega), half_eq h1 h2]
theorem rootP_half {l : List α} (h : 2 ≤ l.length) : rootP E N l = N (rootP E N (l.take (half l.length))) (rootP E N (l.drop (half l.length))) := by
  rw [rootP, dif_pos h]
def piece (L : List α) (a : Nat × Nat) : List α := (L.drop (a.2 * 2 ^ a.1)).take (2 ^ a.1)
theorem fold_roots (L : List α) (h : Nat) : ∀ (j p : Nat), 2 ^ j ∣ p → h < 2 ^ j → j ≤ 63 → p + h ≤ L.length → foldP E N ((cov p (p + h)).map fun a => rootP E N (piece L a)) = rootP E N ((L.drop p).take h) := by
  induction h using Nat.strongRecOn with
  | ind h ih =>
    intro j p hd hh hj hL
    have hb : h < 2 ^ 63 := Nat.lt_of_lt_of_le hh (p2le hj)
    rcases Nat.eq_zero_or_pos h with e | e
    · subst e
      rw [cov_end (by omega), List.take_zero, rootP_nil]
      rfl
    · have hl := lv_lv p h e
      obtain ⟨k, hk⟩ : ∃ k, lv p h = k := ⟨_, rfl⟩
      rw [hk] at hl
      obtain ⟨h1, h2⟩ := low_is hd hh hl hb
      have hs := p2s k
      have h3 := hl.2.2.1
      rw [cov_at (p := p) (k := k) (by omega) (by rw [Nat.add_sub_cancel_left]; exact hl), List.map_cons]
      have hp : piece L (k, p / 2 ^ k) = (L.drop p).take (2 ^ k) := by
        show (L.drop (p / 2 ^ k * 2 ^ k)).take (2 ^ k) = _
        rw [Nat.div_mul_cancel hl.2.1]
      rw [hp]
      rcases Nat.lt_or_ge (2 ^ k) h with g | g
      · have hne : p + 2 ^ k < p + h := by omega
        have hi := ih (h - 2 ^ k) (by have := p2 k; omega) k (p + 2 ^ k) (Nat.dvd_add hl.2.1 (Nat.dvd_refl _)) (by omega) (by omega) (by omega)
        rw [show p + 2 ^ k + (h - 2 ^ k) = p + h by omega] at hi
        have hll : ((L.drop p).take h).length = h := by rw [List.length_take, List.length_drop]; omega
        rw [rootP_two E N (l := (L.drop p).take h) (j := k) (by rw [hll]; exact g) (by rw [hll]; omega), List.take_take, Nat.min_eq_left (by omega), List.drop_take, List.drop_drop, ← hi]
        obtain ⟨y, r, hy⟩ : ∃ y r, (cov (p + 2 ^ k) (p + h)).map (fun a => rootP E N (piece L a)) = y :: r := by
          rw [cov_at hne (lv_lv _ _ (by omega)), List.map_cons]
          exact ⟨_, _, rfl⟩
        rw [hy]
        rfl
      · obtain rfl : h = 2 ^ k := by omega
        rw [cov_end (by omega)]
        rfl
theorem fold_all (L : List α) (hL : L.length < 2 ^ 63) : foldP E N ((cov 0 L.length).map fun a => rootP E N (piece L a)) = rootP E N L := by
  have := fold_roots E N L L.length 63 0 (Nat.dvd_zero _) hL (Nat.le_refl _) (by omega)
  rw [Nat.zero_add, List.drop_zero, List.take_length] at this
  exact this
end
end Go.Proofs.YtmmbkfagchaocaaDoor.cb

namespace Go.Proofs.YtmmbkfagchaocaaDoor.ga
open Go.Proofs.YtmmbkfagchaocaaDoor.ca Go.Proofs.YtmmbkfagchaocaaDoor.cb
set_option linter.unusedVariables false

theorem half_lt {n : Nat} (h : 2 ≤ n) : 1 ≤ half n ∧ half n < n ∧ n ≤ 2 * half n := by
  obtain ⟨i, e, g1, g2⟩ := half_is h
  have := p2 i
  rw [p2s] at g2
  rw [e]
  omega
section
variable {α : Type} (E : α) (N : α → α → α)
-- the inclusion proof of place i; the consistency proof
def pathP (i : Nat) (l : List α) : List α :=
  if h : 2 ≤ l.length then
    if i < half l.length then pathP i (l.take (half l.length)) ++ [rootP E N (l.drop (half l.length))]
    else pathP (i - half l.length) (l.drop (half l.length)) ++ [rootP E N (l.take (half l.length))]
  else []
termination_by l.length
decreasing_by
  · have := half_lt h; rw [List.length_take]; omega
  · have := half_lt h; rw [List.length_drop]; omega
theorem pathP_one {i : Nat} {l : List α} (h : ¬ 2 ≤ l.length) : pathP E N i l = [] := by rw [pathP, dif_neg h]
theorem pathP_low {i : Nat} {l : List α} (h : 2 ≤ l.length) (hi : i < half l.length) : pathP E N i l = pathP E N i (l.take (half l.length)) ++ [rootP E N (l.drop (half l.length))] := by rw [pathP, dif_pos h, if_pos hi]
theorem pathP_high {i : Nat} {l : List α} (h : 2 ≤ l.length) (hi : ¬ i < half l.length) : pathP E N i l = pathP E N (i - half l.length) (l.drop (half l.length)) ++ [rootP E N (l.take (half l.length))] := by rw [pathP, dif_pos h, if_neg hi]
theorem pathP_len (n : Nat) : ∀ (i : Nat) (l : List α), l.length = n → (pathP E N i l).length ≤ n - 1 := by
  induction n using Nat.strongRecOn with
  | ind n ih =>
    intro i l hl
    by_cases h : 2 ≤ l.length
    · have hh := half_lt h
      by_cases hi : i < half l.length
      · rw [pathP_low E N h hi, List.length_append]
        have := ih (half l.length) (by omega) i (l.take (half l.length)) (by rw [List.length_take]; omega)
        simp
        omega
      · rw [pathP_high E N h hi, List.length_append]
        have := ih (l.length - half l.length) (by omega) (i - half l.length) (l.drop (half l.length)) (by rw [List.length_drop])
        simp
        omega
    · rw [pathP_one E N h]; simp
def subP (m : Nat) (l : List α) (b : Bool) : List α :=
  if h : m < l.length ∧ 2 ≤ l.length then
    if m ≤ half l.length then subP m (l.take (half l.length)) b ++ [rootP E N (l.drop (half l.length))]
    else subP (m - half l.length) (l.drop (half l.length)) false ++ [rootP E N (l.take (half l.length))]
  else if b then [] else [rootP E N l]
termination_by l.length
decreasing_by
  · have := half_lt h.2; rw [List.length_take]; omega
  · have := half_lt h.2; rw [List.length_drop]; omega
theorem subP_all {m : Nat} {l : List α} {b : Bool} (h : ¬ m < l.length) : subP E N m l b = if b then [] else [rootP E N l] := by rw [subP, dif_neg (fun hh => h hh.1)]
theorem subP_low {m : Nat} {l : List α} {b : Bool} (h : m < l.length) (h2 : 2 ≤ l.length) (hm : m ≤ half l.length) : subP E N m l b = subP E N m (l.take (half l.length)) b ++ [rootP E N (l.drop (half l.length))] := by rw [subP, dif_pos ⟨h, h2⟩, if_pos hm]
theorem subP_high {m : Nat} {l : List α} {b : Bool} (h : m < l.length) (h2 : 2 ≤ l.length) (hm : ¬ m ≤ half l.length) : subP E N m l b = subP E N (m - half l.length) (l.drop (half l.length)) false ++ [rootP E N (l.take (half l.length))] := by rw [subP, dif_pos ⟨h, h2⟩, if_neg hm]
theorem subP_len (n : Nat) : ∀ (m : Nat) (l : List α) (b : Bool), l.length = n → 1 ≤ n → (subP E N m l b).length ≤ n := by
  induction n using Nat.strongRecOn with
  | ind n ih =>
    intro m l b hl hn
    by_cases h : m < l.length ∧ 2 ≤ l.length
    · have hh := half_lt h.2
      by_cases hm : m ≤ half l.length
      · rw [subP_low E N h.1 h.2 hm, List.length_append]
        have := ih (half l.length) (by omega) m (l.take (half l.length)) b (by rw [List.length_take]; omega) (by omega)
        simp
        omega
      · rw [subP_high E N h.1 h.2 hm, List.length_append]
        have := ih (l.length - half l.length) (by omega) (m - half l.length) (l.drop (half l.length)) false (by rw [List.length_drop]) (by omega)
        simp
        omega
    · rw [subP, dif_neg h]
      split <;> simp <;> omega
-- parts of a part
theorem root_take {l : List α} {m : Nat} (h2 : 2 ≤ l.length) (h : half l.length < m) (hm : m < l.length) : rootP E N (l.take m) = N (rootP E N (l.take (half l.length))) (rootP E N ((l.drop (half l.length)).take (m - half l.length))) := by
  obtain ⟨i, e, g1, g2⟩ := half_is h2
  have hl : (l.take m).length = m := by rw [List.length_take]; omega
  have hk : half (l.take m).length = half l.length := by rw [hl, e]; exact half_eq (by omega) (by omega)
  rw [rootP_half E N (l := l.take m) (by rw [hl]; have := p2 i; omega), hk, List.take_take, Nat.min_eq_left (by omega), List.drop_take]
end
end Go.Proofs.YtmmbkfagchaocaaDoor.ga

namespace Go.Proofs.YtmmbkfagchaocaaDoor.aa
open Go.Proofs.YtmmbkfagchaocaaDoor.ca Go.Proofs.YtmmbkfagchaocaaDoor.cb Go.Proofs.YtmmbkfagchaocaaDoor.ga
set_option linter.unusedVariables false

-- a walk down the parts: 0 nothing, 1 its hash, 2 left half first, else right half first
def WL (lk : Nat → Nat → Nat) (a b : Nat) : List (Nat × Nat) :=
  if lk a b = 0 then [] else if lk a b = 1 then [(a, b)] else
  if h : 2 ≤ b - a then
    if lk a b = 2 then WL lk a (a + half (b - a)) ++ WL lk (a + half (b - a)) b
    else WL lk (a + half (b - a)) b ++ WL lk a (a + half (b - a))
  else []
termination_by b - a
decreasing_by all_goals (have := half_lt h; omega)
theorem WL_pass {lk : Nat → Nat → Nat} {a b : Nat} (h : lk a b = 0) : WL lk a b = [] := by rw [WL, if_pos h]
theorem WL_take {lk : Nat → Nat → Nat} {a b : Nat} (h : lk a b = 1) : WL lk a b = [(a, b)] := by rw [WL, if_neg (by omega), if_pos h]
theorem WL_left {lk : Nat → Nat → Nat} {a b : Nat} (h : lk a b = 2) (h2 : 2 ≤ b - a) : WL lk a b = WL lk a (a + half (b - a)) ++ WL lk (a + half (b - a)) b := by rw [WL, if_neg (by omega), if_neg (by omega), dif_pos h2, if_pos h]
theorem WL_right {lk : Nat → Nat → Nat} {a b : Nat} (h : 3 ≤ lk a b) (h2 : 2 ≤ b - a) : WL lk a b = WL lk (a + half (b - a)) b ++ WL lk a (a + half (b - a)) := by rw [WL, if_neg (by omega), if_neg (by omega), dif_pos h2, if_neg (by omega)]
-- inclusion
def lkI (i a b : Nat) : Nat := if a ≤ i ∧ i < b then (if b - a = 1 then 0 else if i < a + half (b - a) then 2 else 3) else 1
def dnI (i a b : Nat) : List (Nat × Nat) :=
  if h : 2 ≤ b - a then
    if i < a + half (b - a) then (a + half (b - a), b) :: dnI i a (a + half (b - a))
    else (a, a + half (b - a)) :: dnI i (a + half (b - a)) b
  else []
termination_by b - a
decreasing_by all_goals (have := half_lt h; omega)
theorem dnI_one {i a b : Nat} (h : ¬ 2 ≤ b - a) : dnI i a b = [] := by rw [dnI, dif_neg h]
theorem dnI_low {i a b : Nat} (h : 2 ≤ b - a) (hi : i < a + half (b - a)) : dnI i a b = (a + half (b - a), b) :: dnI i a (a + half (b - a)) := by rw [dnI, dif_pos h, if_pos hi]
theorem dnI_high {i a b : Nat} (h : 2 ≤ b - a) (hi : ¬ i < a + half (b - a)) : dnI i a b = (a, a + half (b - a)) :: dnI i (a + half (b - a)) b := by rw [dnI, dif_pos h, if_neg hi]
theorem incl_is (i : Nat) (n : Nat) : ∀ a b, b - a = n → a ≤ i → i < b → WL (lkI i) a b = (dnI i a b).reverse := by
  induction n using Nat.strongRecOn with
  | ind n ih =>
    intro a b hn h1 h2
    by_cases h : 2 ≤ b - a
    · have hh := half_lt h
      by_cases hi : i < a + half (b - a)
      · rw [WL_left (by unfold lkI; rw [if_pos ⟨h1, h2⟩, if_neg (by omega), if_pos hi]) h, dnI_low h hi, List.reverse_cons, ih (half (b - a)) (by omega) a (a + half (b - a)) (by omega) h1 hi, WL_take (lk := lkI i) (a := a + half (b - a)) (by unfold lkI; rw [if_neg (by omega)])]
      · rw [WL_right (by unfold lkI; rw [if_pos ⟨h1, h2⟩, if_neg (by omega), if_neg hi]; omega) h, dnI_high h hi, List.reverse_cons, ih (b - a - half (b - a)) (by omega) (a + half (b - a)) b (by omega) (by omega) h2, WL_take (lk := lkI i) (a := a) (by unfold lkI; rw [if_neg (by omega)])]
    · rw [WL_pass (by unfold lkI; rw [if_pos ⟨h1, h2⟩, if_pos (by omega)]), dnI_one h]
      rfl
-- consistency
def lkC (m a b : Nat) : Nat := if a = 0 ∧ b = m then 0 else if b ≤ m ∨ m ≤ a then 1 else if a ≤ m - 1 ∧ m - 1 < a + half (b - a) then 2 else 3
def subL (m a b : Nat) (whole : Bool) : List (Nat × Nat) :=
  if m = b then (if whole then [] else [(a, b)]) else
  if h : 2 ≤ b - a then
    if m ≤ a + half (b - a) then subL m a (a + half (b - a)) whole ++ [(a + half (b - a), b)]
    else subL m (a + half (b - a)) b false ++ [(a, a + half (b - a))]
  else []
termination_by b - a
decreasing_by all_goals (have := half_lt h; omega)
theorem subL_all {m a b : Nat} {wh : Bool} (h : m = b) : subL m a b wh = if wh then [] else [(a, b)] := by rw [subL, if_pos h]
theorem subL_low {m a b : Nat} {wh : Bool} (h : m ≠ b) (h2 : 2 ≤ b - a) (hm : m ≤ a + half (b - a)) : subL m a b wh = subL m a (a + half (b - a)) wh ++ [(a + half (b - a), b)] := by rw [subL, if_neg h, dif_pos h2, if_pos hm]
theorem subL_high {m a b : Nat} {wh : Bool} (h : m ≠ b) (h2 : 2 ≤ b - a) (hm : ¬ m ≤ a + half (b - a)) : subL m a b wh = subL m (a + half (b - a)) b false ++ [(a, a + half (b - a))] := by rw [subL, if_neg h, dif_pos h2, if_neg hm]
theorem cons_is (m : Nat) (n : Nat) : ∀ a b, b - a = n → a < m → m ≤ b → WL (lkC m) a b = subL m a b (a == 0) := by
  induction n using Nat.strongRecOn with
  | ind n ih =>
    intro a b hn h1 h2
    by_cases hb : m = b
    · rw [subL_all hb]
      by_cases ha : a = 0
      · rw [WL_pass (by unfold lkC; rw [if_pos ⟨ha, hb.symm⟩]), ha]
        rfl
      · rw [WL_take (by unfold lkC; rw [if_neg (by omega), if_pos (by omega)]), if_neg (by simpa using ha)]
    · have h : 2 ≤ b - a := by omega
      have hh := half_lt h
      by_cases hm : m ≤ a + half (b - a)
      · rw [WL_left (by unfold lkC; rw [if_neg (by omega), if_neg (by omega), if_pos (by omega)]) h, subL_low hb h hm, ih (half (b - a)) (by omega) a (a + half (b - a)) (by omega) h1 hm, WL_take (lk := lkC m) (a := a + half (b - a)) (by unfold lkC; rw [if_neg (by omega), if_pos (by omega)])]
      · rw [WL_right (by unfold lkC; rw [if_neg (by omega), if_neg (by omega), if_neg (by omega)]; omega) h, subL_high hb h hm, ih (b - a - half (b - a)) (by omega) (a + half (b - a)) b (by omega) (by omega) h2, WL_take (lk := lkC m) (a := a) (by unfold lkC; rw [if_neg (by omega), if_pos (by omega)]), show (a + half (b - a) == 0) = false by rw [beq_eq_false_iff_ne]; omega]
-- a range
def lkR (lo hi a b : Nat) : Nat := if b ≤ lo ∨ hi ≤ a then 1 else if lo ≤ a ∧ b ≤ hi then 0 else 2
def outL (lo hi a b : Nat) : List (Nat × Nat) := WL (lkR lo hi) a b
-- places
def lkM (ps : List Nat) (a b : Nat) : Nat := if ∃ p ∈ ps, a ≤ p ∧ p < b then (if b - a = 1 then 0 else 2) else 1
def inM (ps : List Nat) (a b : Nat) : List Nat := ps.filter fun p => decide (a ≤ p) && decide (p < b)
def amL (ps : List Nat) (a b : Nat) : List (Nat × Nat) :=
  if inM ps a b = [] then [(a, b)] else
  if h : 2 ≤ b - a then amL (inM ps a b) a (a + half (b - a)) ++ amL (inM ps a b) (a + half (b - a)) b else []
termination_by b - a
decreasing_by all_goals (have := half_lt h; omega)
theorem inM_nil (ps : List Nat) (a b : Nat) : inM ps a b = [] ↔ ¬ ∃ p ∈ ps, a ≤ p ∧ p < b := by
  unfold inM
  rw [List.filter_eq_nil_iff]
  constructor
  · rintro h ⟨p, h1, h2, h3⟩
    exact h p h1 (by simp [h2, h3])
  · rintro h p h1 h2
    simp only [Bool.and_eq_true, decide_eq_true_eq] at h2
    exact h ⟨p, h1, h2.1, h2.2⟩
theorem multi_is (n : Nat) : ∀ ps qs a b, b - a = n → (∀ p, a ≤ p → p < b → (p ∈ ps ↔ p ∈ qs)) → WL (lkM ps) a b = amL qs a b := by
  induction n using Nat.strongRecOn with
  | ind n ih =>
    intro ps qs a b hn hp
    have hex : (∃ p ∈ ps, a ≤ p ∧ p < b) ↔ (∃ p ∈ qs, a ≤ p ∧ p < b) :=
      ⟨fun ⟨p, h1, h2, h3⟩ => ⟨p, (hp p h2 h3).1 h1, h2, h3⟩, fun ⟨p, h1, h2, h3⟩ => ⟨p, (hp p h2 h3).2 h1, h2, h3⟩⟩
    by_cases he : ∃ p ∈ ps, a ≤ p ∧ p < b
    · have hq : inM qs a b ≠ [] := fun h => (inM_nil qs a b).1 h (hex.1 he)
      by_cases h : 2 ≤ b - a
      · have hh := half_lt h
        have hf : ∀ p, a ≤ p → p < b → (p ∈ ps ↔ p ∈ inM qs a b) := by
          intro p h1 h2
          rw [hp p h1 h2]
          unfold inM
          rw [List.mem_filter]
          simp [h1, h2]
        rw [WL_left (by unfold lkM; rw [if_pos he, if_neg (by omega)]) h, amL, if_neg hq, dif_pos h, ih (half (b - a)) (by omega) ps (inM qs a b) a (a + half (b - a)) (by omega) (fun p h1 h2 => hf p h1 (by omega)), ih (b - a - half (b - a)) (by omega) ps (inM qs a b) (a + half (b - a)) b (by omega) (fun p h1 h2 => hf p (by omega) h2)]
      · obtain ⟨p, _, h1, h2⟩ := he
        rw [WL_pass (by unfold lkM; rw [if_pos ⟨p, by assumption, h1, h2⟩, if_pos (by omega)]), amL, if_neg hq, dif_neg h]
    · have hq : inM qs a b = [] := (inM_nil qs a b).2 (fun h => he (hex.2 h))
      rw [WL_take (by unfold lkM; rw [if_neg he]), amL, if_pos hq]
end Go.Proofs.YtmmbkfagchaocaaDoor.aa

namespace Go.Proofs.YtmmbkfagchaocaaDoor.ab
open Go.Proofs.YtmmbkfagchaocaaDoor.ca Go.Proofs.YtmmbkfagchaocaaDoor.cb Go.Proofs.YtmmbkfagchaocaaDoor.ga Go.Proofs.YtmmbkfagchaocaaDoor.aa
set_option linter.unusedVariables false

-- asking: ok: has it the width? fo: the fold; ask: the answer of the ask of this number
section
variable (ok : ByteArray → Bool) (fo : List ByteArray → ByteArray) (ask : Nat → Nat × Nat → ByteArray × Int)
def tell (l : List (Nat × Nat)) : List (Nat × Nat) → List ByteArray × Int × List (Nat × Nat)
  | [] => ([], 0, l)
  | a :: r =>
    if (ask (l.length + 1) a).2 = 0 then
      if ok (ask (l.length + 1) a).1 = true then ((ask (l.length + 1) a).1 :: (tell (l ++ [a]) r).1, (tell (l ++ [a]) r).2)
      else ([], 72, l ++ [a])
    else ([], (ask (l.length + 1) a).2, l ++ [a])
theorem tell_no {l : List (Nat × Nat)} {a : Nat × Nat} {r : List (Nat × Nat)} (h : (ask (l.length + 1) a).2 ≠ 0) : tell ok ask l (a :: r) = ([], (ask (l.length + 1) a).2, l ++ [a]) := by unfold tell; rw [if_neg h]
theorem tell_len {l : List (Nat × Nat)} {a : Nat × Nat} {r : List (Nat × Nat)} (h : (ask (l.length + 1) a).2 = 0) (h2 : ok (ask (l.length + 1) a).1 = false) : tell ok ask l (a :: r) = ([], 72, l ++ [a]) := by unfold tell; rw [if_pos h, if_neg (by rw [h2]; decide)]
theorem tell_yes {l : List (Nat × Nat)} {a : Nat × Nat} {r : List (Nat × Nat)} (h : (ask (l.length + 1) a).2 = 0) (h2 : ok (ask (l.length + 1) a).1 = true) : tell ok ask l (a :: r) = ((ask (l.length + 1) a).1 :: (tell ok ask (l ++ [a]) r).1, (tell ok ask (l ++ [a]) r).2) := by rw [tell, if_pos h, if_pos h2]
theorem tell_size (cs : List (Nat × Nat)) : ∀ l, (tell ok ask l cs).2.2.length ≤ l.length + cs.length ∧ (tell ok ask l cs).1.length ≤ cs.length ∧ ∀ x ∈ (tell ok ask l cs).1, ok x = true := by
  induction cs with
  | nil => intro l; exact ⟨Nat.le_refl _, Nat.le_refl _, fun x hx => by cases hx⟩
  | cons a r ih =>
    intro l
    by_cases h : (ask (l.length + 1) a).2 = 0
    · by_cases h2 : ok (ask (l.length + 1) a).1 = true
      · rw [tell_yes ok ask h h2]
        have := ih (l ++ [a])
        rw [List.length_append] at this
        simp only [List.length_cons, List.length_nil] at this ⊢
        refine ⟨by omega, by omega, ?_⟩
        intro x hx
        rcases List.mem_cons.1 hx with rfl | hx
        · exact h2
        · exact this.2.2 x hx
      · rw [tell_len ok ask h (by simpa using h2)]
        refine ⟨by simp, by simp, fun x hx => by cases hx⟩
    · rw [tell_no ok ask h]
      refine ⟨by simp, by simp, fun x hx => by cases hx⟩
-- the hash of a part
def hashP (l : List (Nat × Nat)) (p : Nat × Nat) : ByteArray × Int × List (Nat × Nat) :=
  (if (tell ok ask l (cov p.1 p.2)).2.1 = 0 then fo (tell ok ask l (cov p.1 p.2)).1 else ByteArray.empty, (tell ok ask l (cov p.1 p.2)).2)
theorem hashP_size {l : List (Nat × Nat)} {p : Nat × Nat} (h1 : p.1 ≤ p.2) (h2 : p.2 ≤ 4611686018427387904) : (hashP ok fo ask l p).2.2.length ≤ l.length + 122 := by
  have := (tell_size ok ask (cov p.1 p.2) l).1
  have := cov_len p.1 p.2 h1 (by have : (2 : Nat) ^ 62 = 4611686018427387904 := by decide
                                 omega)
  show (tell ok ask l (cov p.1 p.2)).2.2.length ≤ _
  omega
-- the hashes of parts
def told (l : List (Nat × Nat)) : List (Nat × Nat) → List ByteArray × Int × List (Nat × Nat)
  | [] => ([], 0, l)
  | p :: r =>
    if (hashP ok fo ask l p).2.1 = 0 then ((hashP ok fo ask l p).1 :: (told (hashP ok fo ask l p).2.2 r).1, (told (hashP ok fo ask l p).2.2 r).2)
    else ([], (hashP ok fo ask l p).2)
theorem told_no {l : List (Nat × Nat)} {p : Nat × Nat} {r : List (Nat × Nat)} (h : (hashP ok fo ask l p).2.1 ≠ 0) : told ok fo ask l (p :: r) = ([], (hashP ok fo ask l p).2) := by unfold told; rw [if_neg h]
theorem told_yes {l : List (Nat × Nat)} {p : Nat × Nat} {r : List (Nat × Nat)} (h : (hashP ok fo ask l p).2.1 = 0) : told ok fo ask l (p :: r) = ((hashP ok fo ask l p).1 :: (told ok fo ask (hashP ok fo ask l p).2.2 r).1, (told ok fo ask (hashP ok fo ask l p).2.2 r).2) := by rw [told, if_pos h]
theorem told_app_no (ps qs : List (Nat × Nat)) : ∀ l, (told ok fo ask l ps).2.1 ≠ 0 → told ok fo ask l (ps ++ qs) = told ok fo ask l ps := by
  induction ps with
  | nil => intro l h; exact absurd rfl h
  | cons p r ih =>
    intro l h
    by_cases hp : (hashP ok fo ask l p).2.1 = 0
    · rw [told_yes ok fo ask hp] at h
      rw [List.cons_append, told_yes ok fo ask hp, told_yes ok fo ask hp, ih _ h]
    · rw [List.cons_append, told_no ok fo ask hp, told_no ok fo ask hp]
theorem told_app_yes (ps qs : List (Nat × Nat)) : ∀ l, (told ok fo ask l ps).2.1 = 0 → told ok fo ask l (ps ++ qs) = ((told ok fo ask l ps).1 ++ (told ok fo ask (told ok fo ask l ps).2.2 qs).1, (told ok fo ask (told ok fo ask l ps).2.2 qs).2) := by
  induction ps with
  | nil => intro l h; rfl
  | cons p r ih =>
    intro l h
    by_cases hp : (hashP ok fo ask l p).2.1 = 0
    · rw [told_yes ok fo ask hp] at h
      rw [List.cons_append, told_yes ok fo ask hp, told_yes ok fo ask hp, ih _ h]
      rfl
    · rw [told_no ok fo ask hp] at h
      exact absurd h hp
theorem told_size (ps : List (Nat × Nat)) : ∀ l, (∀ p ∈ ps, p.1 ≤ p.2 ∧ p.2 ≤ 4611686018427387904) → (told ok fo ask l ps).2.2.length ≤ l.length + 122 * ps.length ∧ (told ok fo ask l ps).1.length ≤ ps.length := by
  induction ps with
  | nil => intro l _; exact ⟨Nat.le_refl _, Nat.le_refl _⟩
  | cons p r ih =>
    intro l h
    have hp := h p (List.mem_cons_self ..)
    have hs := hashP_size ok fo ask (l := l) hp.1 hp.2
    by_cases he : (hashP ok fo ask l p).2.1 = 0
    · rw [told_yes ok fo ask he]
      have := ih (hashP ok fo ask l p).2.2 (fun q hq => h q (List.mem_cons_of_mem _ hq))
      simp only [List.length_cons]
      omega
    · rw [told_no ok fo ask he]
      simp only [List.length_cons, List.length_nil]
      omega
end
-- parts lie within, and how many there are
theorem WL_in (lk : Nat → Nat → Nat) (n : Nat) : ∀ a b, b - a = n → a ≤ b → ∀ p ∈ WL lk a b, a ≤ p.1 ∧ p.1 ≤ p.2 ∧ p.2 ≤ b := by
  induction n using Nat.strongRecOn with
  | ind n ih =>
    intro a b hn hab p hp
    by_cases h0 : lk a b = 0
    · rw [WL_pass h0] at hp; cases hp
    · by_cases h1 : lk a b = 1
      · rw [WL_take h1] at hp
        rcases List.mem_cons.1 hp with rfl | hp
        · exact ⟨Nat.le_refl _, hab, Nat.le_refl _⟩
        · cases hp
      · by_cases h : 2 ≤ b - a
        · have hh := half_lt h
          have key : p ∈ WL lk a (a + half (b - a)) ∨ p ∈ WL lk (a + half (b - a)) b := by
            by_cases h2 : lk a b = 2
            · rw [WL_left h2 h] at hp
              exact List.mem_append.1 hp
            · rw [WL_right (by omega) h] at hp
              exact (List.mem_append.1 hp).symm
          rcases key with g | g
          · have := ih (half (b - a)) (by omega) a (a + half (b - a)) (by omega) (by omega) p g
            omega
          · have := ih (b - a - half (b - a)) (by omega) (a + half (b - a)) b (by omega) (by omega) p g
            omega
        · rw [WL, if_neg h0, if_neg h1, dif_neg h] at hp
          cases hp
theorem half_d {n d : Nat} (h : 2 ≤ n) (hd : n ≤ 2 ^ d) : ∃ c, d = c + 1 ∧ half n ≤ 2 ^ c ∧ n - half n ≤ 2 ^ c := by
  obtain ⟨i, e, g1, g2⟩ := half_is h
  have hid : i < d := p2lt (by omega)
  obtain ⟨c, rfl⟩ : ∃ c, d = c + 1 := ⟨d - 1, by omega⟩
  have := p2le (show i ≤ c by omega)
  rw [p2s] at g2
  exact ⟨c, rfl, by omega, by omega⟩
theorem incl_len (i : Nat) (d : Nat) : ∀ a b, b - a ≤ 2 ^ d → a ≤ i → i < b → (WL (lkI i) a b).length ≤ d := by
  induction d with
  | zero =>
    intro a b hd h1 h2
    rw [WL_pass (by unfold lkI; rw [if_pos ⟨h1, h2⟩, if_pos (by have : (2 : Nat) ^ 0 = 1 := rfl; omega)])]
    exact Nat.le_refl _
  | succ d ih =>
    intro a b hd h1 h2
    by_cases h : 2 ≤ b - a
    · have hh := half_lt h
      obtain ⟨c, e, g1, g2⟩ := half_d h hd
      obtain rfl : c = d := by omega
      by_cases hi : i < a + half (b - a)
      · rw [WL_left (by unfold lkI; rw [if_pos ⟨h1, h2⟩, if_neg (by omega), if_pos hi]) h, WL_take (lk := lkI i) (a := a + half (b - a)) (by unfold lkI; rw [if_neg (by omega)]), List.length_append]
        have := ih a (a + half (b - a)) (by omega) h1 hi
        simp
        omega
      · rw [WL_right (by unfold lkI; rw [if_pos ⟨h1, h2⟩, if_neg (by omega), if_neg hi]; omega) h, WL_take (lk := lkI i) (a := a) (by unfold lkI; rw [if_neg (by omega)]), List.length_append]
        have := ih (a + half (b - a)) b (by omega) (by omega) h2
        simp
        omega
    · rw [WL_pass (by unfold lkI; rw [if_pos ⟨h1, h2⟩, if_pos (by omega)])]
      exact Nat.zero_le _
theorem cons_len (m : Nat) (d : Nat) : ∀ a b, b - a ≤ 2 ^ d → a < m → m ≤ b → (WL (lkC m) a b).length ≤ d + 1 := by
  induction d with
  | zero =>
    intro a b hd h1 h2
    have : (2 : Nat) ^ 0 = 1 := rfl
    by_cases ha : a = 0
    · rw [WL_pass (by unfold lkC; rw [if_pos ⟨ha, by omega⟩])]
      exact Nat.zero_le _
    · rw [WL_take (by unfold lkC; rw [if_neg (by omega), if_pos (by omega)])]
      exact Nat.le_refl _
  | succ d ih =>
    intro a b hd h1 h2
    by_cases hb : m = b
    · by_cases ha : a = 0
      · rw [WL_pass (by unfold lkC; rw [if_pos ⟨ha, by omega⟩])]
        exact Nat.zero_le _
      · rw [WL_take (by unfold lkC; rw [if_neg (by omega), if_pos (by omega)])]
        simp
    · have h : 2 ≤ b - a := by omega
      have hh := half_lt h
      obtain ⟨c, e, g1, g2⟩ := half_d h hd
      obtain rfl : c = d := by omega
      by_cases hm : m ≤ a + half (b - a)
      · rw [WL_left (by unfold lkC; rw [if_neg (by omega), if_neg (by omega), if_pos (by omega)]) h, WL_take (lk := lkC m) (a := a + half (b - a)) (by unfold lkC; rw [if_neg (by omega), if_pos (by omega)]), List.length_append]
        have := ih a (a + half (b - a)) (by omega) h1 hm
        simp
        omega
      · rw [WL_right (by unfold lkC; rw [if_neg (by omega), if_neg (by omega), if_neg (by omega)]; omega) h, WL_take (lk := lkC m) (a := a) (by unfold lkC; rw [if_neg (by omega), if_pos (by omega)]), List.length_append]
        have := ih (a + half (b - a)) b (by omega) (by omega) h2
        simp
        omega
-- one end of the range within
theorem out_len1 (lo hi : Nat) (d : Nat) : ∀ a b, b - a ≤ 2 ^ d → (lo ≤ a ∨ b ≤ hi) → lo < hi → a < b → ¬ (b ≤ lo ∨ hi ≤ a) → (WL (lkR lo hi) a b).length ≤ d := by
  induction d with
  | zero =>
    intro a b hd h1 h2 h3 h4
    have : (2 : Nat) ^ 0 = 1 := rfl
    rw [WL_pass (by unfold lkR; rw [if_neg h4, if_pos (by omega)])]
    exact Nat.le_refl _
  | succ d ih =>
    intro a b hd h1 h2 h3 h4
    by_cases hw : lo ≤ a ∧ b ≤ hi
    · rw [WL_pass (by unfold lkR; rw [if_neg h4, if_pos hw])]
      exact Nat.zero_le _
    · have h : 2 ≤ b - a := by omega
      have hh := half_lt h
      obtain ⟨c, e, g1, g2⟩ := half_d h hd
      obtain rfl : c = d := by omega
      rw [WL_left (by unfold lkR; rw [if_neg h4, if_neg hw]) h, List.length_append]
      obtain ⟨k, hk⟩ : ∃ k, a + half (b - a) = k := ⟨_, rfl⟩
      rw [hk]
      rcases h1 with h1 | h1
      · by_cases hm : hi ≤ k
        · rw [WL_take (lk := lkR lo hi) (a := k) (by unfold lkR; rw [if_pos (by omega)])]
          have := ih a k (by omega) (by omega) h2 (by omega) (by omega)
          simp
          omega
        · rw [WL_pass (lk := lkR lo hi) (a := a) (b := k) (by unfold lkR; rw [if_neg (by omega), if_pos (by omega)])]
          have := ih k b (by omega) (by omega) h2 (by omega) (by omega)
          simp
          omega
      · by_cases hm : k ≤ lo
        · rw [WL_take (lk := lkR lo hi) (a := a) (b := k) (by unfold lkR; rw [if_pos (by omega)])]
          have := ih k b (by omega) (by omega) h2 (by omega) (by omega)
          simp
          omega
        · rw [WL_pass (lk := lkR lo hi) (a := k) (b := b) (by unfold lkR; rw [if_neg (by omega), if_pos (by omega)])]
          have := ih a k (by omega) (by omega) h2 (by omega) (by omega)
          simp
          omega
theorem out_len (lo hi : Nat) (d : Nat) : ∀ a b, b - a ≤ 2 ^ d → lo < hi → a < b → ¬ (b ≤ lo ∨ hi ≤ a) → (WL (lkR lo hi) a b).length ≤ 2 * d := by
  induction d with
  | zero =>
    intro a b hd h2 h3 h4
    have : (2 : Nat) ^ 0 = 1 := rfl
    rw [WL_pass (by unfold lkR; rw [if_neg h4, if_pos (by omega)])]
    exact Nat.le_refl _
  | succ d ih =>
    intro a b hd h2 h3 h4
    by_cases hw : lo ≤ a ∧ b ≤ hi
    · rw [WL_pass (by unfold lkR; rw [if_neg h4, if_pos hw])]
      exact Nat.zero_le _
    · have h : 2 ≤ b - a := by omega
      have hh := half_lt h
      obtain ⟨c, e, g1, g2⟩ := half_d h hd
      obtain rfl : c = d := by omega
      rw [WL_left (by unfold lkR; rw [if_neg h4, if_neg hw]) h, List.length_append]
      obtain ⟨k, hk⟩ : ∃ k, a + half (b - a) = k := ⟨_, rfl⟩
      rw [hk]
      by_cases hm : hi ≤ k
      · rw [WL_take (lk := lkR lo hi) (a := k) (by unfold lkR; rw [if_pos (by omega)])]
        have := ih a k (by omega) h2 (by omega) (by omega)
        simp
        omega
      · by_cases hm2 : k ≤ lo
        · rw [WL_take (lk := lkR lo hi) (a := a) (b := k) (by unfold lkR; rw [if_pos (by omega)])]
          have := ih k b (by omega) h2 (by omega) (by omega)
          simp
          omega
        · have := out_len1 lo hi c a k (by omega) (by omega) h2 (by omega) (by omega)
          have := out_len1 lo hi c k b (by omega) (by omega) h2 (by omega) (by omega)
          omega
theorem inM_cut (ps : List Nat) (a k b : Nat) (h1 : a ≤ k) (h2 : k ≤ b) : (inM ps a k).length + (inM ps k b).length = (inM ps a b).length := by
  induction ps with
  | nil => rfl
  | cons p ps ih =>
    unfold inM at *
    simp only [List.filter_cons]
    by_cases g1 : a ≤ p <;> by_cases g2 : p < k <;> by_cases g3 : p < b <;> by_cases g4 : k ≤ p <;> simp [g1, g2, g3, g4] <;> omega
theorem multi_len (ps : List Nat) (d : Nat) : ∀ a b, b - a ≤ 2 ^ d → a < b → inM ps a b ≠ [] → (WL (lkM ps) a b).length ≤ (inM ps a b).length * d := by
  have ex : ∀ a b, inM ps a b ≠ [] → ∃ p ∈ ps, a ≤ p ∧ p < b := by
    intro a b h
    refine Classical.byContradiction fun hn => h ((inM_nil ps a b).2 hn)
  induction d with
  | zero =>
    intro a b hd h1 h2
    have : (2 : Nat) ^ 0 = 1 := rfl
    rw [WL_pass (by unfold lkM; rw [if_pos (ex a b h2), if_pos (by omega)])]
    exact Nat.zero_le _
  | succ d ih =>
    intro a b hd h1 h2
    by_cases h : 2 ≤ b - a
    · have hh := half_lt h
      obtain ⟨c, e, g1, g2⟩ := half_d h hd
      obtain rfl : c = d := by omega
      rw [WL_left (by unfold lkM; rw [if_pos (ex a b h2), if_neg (by omega)]) h, List.length_append]
      obtain ⟨k, hk⟩ : ∃ k, a + half (b - a) = k := ⟨_, rfl⟩
      rw [hk]
      have hc := inM_cut ps a k b (by omega) (by omega)
      have hq : 1 ≤ (inM ps a b).length := by
        rcases Nat.eq_zero_or_pos (inM ps a b).length with z | z
        · exact absurd (List.length_eq_zero_iff.1 z) h2
        · exact z
      rw [Nat.mul_succ]
      by_cases hl : inM ps a k = []
      · rw [WL_take (lk := lkM ps) (a := a) (b := k) (by unfold lkM; rw [if_neg ((inM_nil ps a k).1 hl)])]
        rw [hl, List.length_nil, Nat.zero_add] at hc
        have := ih k b (by omega) (by omega) (by intro z; rw [z] at hc; simp at hc; omega)
        rw [hc] at this
        simp
        omega
      · by_cases hr : inM ps k b = []
        · rw [WL_take (lk := lkM ps) (a := k) (b := b) (by unfold lkM; rw [if_neg ((inM_nil ps k b).1 hr)])]
          rw [hr, List.length_nil, Nat.add_zero] at hc
          have := ih a k (by omega) (by omega) hl
          rw [hc] at this
          simp
          omega
        · have i1 := ih a k (by omega) (by omega) hl
          have i2 := ih k b (by omega) (by omega) hr
          rw [← hc, Nat.add_mul]
          omega
    · rw [WL_pass (by unfold lkM; rw [if_pos (ex a b h2), if_pos (by omega)])]
      exact Nat.zero_le _
end Go.Proofs.YtmmbkfagchaocaaDoor.ab

namespace Go.Proofs.YtmmbkfagchaocaaDoor.ad
open Go.Proofs.YtmmbkfagchaocaaDoor.ca Go.Proofs.YtmmbkfagchaocaaDoor.cb Go.Proofs.YtmmbkfagchaocaaDoor.ga Go.Proofs.YtmmbkfagchaocaaDoor.aa Go.Proofs.YtmmbkfagchaocaaDoor.ab
set_option linter.unusedVariables false

section
variable (ok : ByteArray → Bool) (fo : List ByteArray → ByteArray) (ask : Nat → Nat × Nat → ByteArray × Int)
-- all is answered
theorem tell_all (hs : Nat × Nat → ByteArray) (cs : List (Nat × Nat)) : ∀ l, (∀ a ∈ cs, ∀ k, ask k a = (hs a, 0) ∧ ok (hs a) = true) → tell ok ask l cs = (cs.map hs, 0, l ++ cs) := by
  induction cs with
  | nil => intro l _; rw [List.append_nil]; rfl
  | cons a r ih =>
    intro l h
    have ha := fun k => h a (List.mem_cons_self ..) k
    rw [tell_yes ok ask (by rw [(ha _).1]) (by rw [(ha _).1]; exact (ha 0).2), (ha _).1, ih _ (fun b hb => h b (List.mem_cons_of_mem _ hb)), List.append_assoc]
    rfl
theorem hash_all (hs : Nat × Nat → ByteArray) (p : Nat × Nat) (l : List (Nat × Nat)) (h : ∀ a ∈ cov p.1 p.2, ∀ k, ask k a = (hs a, 0) ∧ ok (hs a) = true) : hashP ok fo ask l p = (fo ((cov p.1 p.2).map hs), 0, l ++ cov p.1 p.2) := by
  unfold hashP
  rw [tell_all ok ask hs _ l h]
  rfl
theorem told_all (hs : Nat × Nat → ByteArray) (ps : List (Nat × Nat)) : ∀ l, (∀ p ∈ ps, ∀ a ∈ cov p.1 p.2, ∀ k, ask k a = (hs a, 0) ∧ ok (hs a) = true) → told ok fo ask l ps = (ps.map (fun p => fo ((cov p.1 p.2).map hs)), 0, l ++ ps.flatMap (fun p => cov p.1 p.2)) := by
  induction ps with
  | nil => intro l _; simp [told]
  | cons p r ih =>
    intro l h
    have hp := hash_all ok fo ask hs p l (h p (List.mem_cons_self ..))
    rw [told_yes ok fo ask (by rw [hp]), hp, ih _ (fun q hq => h q (List.mem_cons_of_mem _ hq))]
    simp
end
section
variable {α : Type} (E : α) (N : α → α → α)
-- parts of a tree: they begin at a multiple of a power that they do not pass
def Pt (a b : Nat) : Prop := ∃ j, j ≤ 62 ∧ 2 ^ j ∣ a ∧ b - a ≤ 2 ^ j
theorem pt_top {n : Nat} (h : n ≤ 4611686018427387904) : Pt 0 n := ⟨62, Nat.le_refl _, Nat.dvd_zero _, by rw [show (2 : Nat) ^ 62 = 4611686018427387904 from by decide]; omega⟩
theorem pt_half {a b : Nat} (h : Pt a b) (h2 : 2 ≤ b - a) : Pt a (a + half (b - a)) ∧ Pt (a + half (b - a)) b := by
  obtain ⟨j, hj, hd, hl⟩ := h
  obtain ⟨i, e, g1, g2⟩ := half_is h2
  have hij : i < j := p2lt (by omega)
  rw [e]
  have hd' : 2 ^ i ∣ a := Nat.dvd_trans (p2dvd (by omega)) hd
  refine ⟨⟨i, by omega, hd', by omega⟩, ⟨i, by omega, Nat.dvd_add hd' (Nat.dvd_refl _), ?_⟩⟩
  rw [p2s] at g2
  omega
theorem part_root (L : List α) {a b : Nat} (h : Pt a b) (hab : a ≤ b) (hL : b ≤ L.length) : foldP E N ((cov a b).map fun x => rootP E N (piece L x)) = rootP E N ((L.drop a).take (b - a)) := by
  obtain ⟨j, hj, hd, hl⟩ := h
  rcases Nat.lt_or_ge (b - a) (2 ^ j) with g | g
  · have := fold_roots E N L (b - a) j a hd g (by omega) (by omega)
    rwa [show a + (b - a) = b by omega] at this
  · have hlt : a < b := by have := p2 j; omega
    have e : b - a = 2 ^ j := by omega
    have e2 : cov a b = [(j, a / 2 ^ j)] := by
      rw [cov_at (k := j) hlt ⟨hj, hd, by omega, .inr (.inr (by rw [p2s]; have := p2 j; omega))⟩, cov_end (by omega)]
    rw [e2, e]
    show rootP E N (piece L (j, a / 2 ^ j)) = _
    show rootP E N ((L.drop (a / 2 ^ j * 2 ^ j)).take (2 ^ j)) = _
    rw [Nat.div_mul_cancel hd]
def rt (L : List α) (p : Nat × Nat) : α := rootP E N ((L.drop p.1).take (p.2 - p.1))
theorem mid_len (L : List α) {a b : Nat} (hL : b ≤ L.length) : ((L.drop a).take (b - a)).length = b - a := by rw [List.length_take, List.length_drop]; omega
theorem mid_front (L : List α) {a k b : Nat} (h : k ≤ b) : ((L.drop a).take (b - a)).take (k - a) = (L.drop a).take (k - a) := by rw [List.take_take, Nat.min_eq_left (by omega)]
theorem mid_back (L : List α) {a k b : Nat} (h1 : a ≤ k) (h : k ≤ b) : ((L.drop a).take (b - a)).drop (k - a) = (L.drop k).take (b - k) := by
  rw [List.drop_take, List.drop_drop, show a + (k - a) = k by omega, show b - a - (k - a) = b - k by omega]
theorem path_parts (L : List α) (i : Nat) (n : Nat) : ∀ a b, b - a = n → a ≤ i → i < b → b ≤ L.length → (WL (lkI i) a b).map (rt E N L) = pathP E N (i - a) ((L.drop a).take (b - a)) := by
  induction n using Nat.strongRecOn with
  | ind n ih =>
    intro a b hn h1 h2 hL
    have hl := mid_len L (a := a) hL
    by_cases h : 2 ≤ b - a
    · have hh := half_lt h
      by_cases hi : i < a + half (b - a)
      · rw [WL_left (by unfold lkI; rw [if_pos ⟨h1, h2⟩, if_neg (by omega), if_pos hi]) h, List.map_append, ih (half (b - a)) (by omega) a (a + half (b - a)) (by omega) h1 hi (by omega), WL_take (lk := lkI i) (a := a + half (b - a)) (by unfold lkI; rw [if_neg (by omega)]), pathP_low E N (l := (L.drop a).take (b - a)) (by rw [hl]; exact h) (by rw [hl]; omega), hl]
        have e1 := mid_front L (a := a) (k := a + half (b - a)) (b := b) (by omega)
        have e2 := mid_back L (a := a) (k := a + half (b - a)) (b := b) (by omega) (by omega)
        rw [Nat.add_sub_cancel_left] at e1 e2
        rw [e1, e2, Nat.add_sub_cancel_left]
        rfl
      · rw [WL_right (by unfold lkI; rw [if_pos ⟨h1, h2⟩, if_neg (by omega), if_neg hi]; omega) h, List.map_append, ih (b - a - half (b - a)) (by omega) (a + half (b - a)) b (by omega) (by omega) h2 hL, WL_take (lk := lkI i) (a := a) (by unfold lkI; rw [if_neg (by omega)]), pathP_high E N (l := (L.drop a).take (b - a)) (by rw [hl]; exact h) (by rw [hl]; omega), hl]
        have e1 := mid_front L (a := a) (k := a + half (b - a)) (b := b) (by omega)
        have e2 := mid_back L (a := a) (k := a + half (b - a)) (b := b) (by omega) (by omega)
        rw [Nat.add_sub_cancel_left] at e1 e2
        rw [e1, e2, show i - a - half (b - a) = i - (a + half (b - a)) by omega]
        show _ ++ [rt E N L (a, a + half (b - a))] = _
        unfold rt
        rw [Nat.add_sub_cancel_left]
    · rw [WL_pass (by unfold lkI; rw [if_pos ⟨h1, h2⟩, if_pos (by omega)]), pathP_one E N (by rw [hl]; exact h)]
      rfl
theorem sub_parts (L : List α) (m : Nat) (n : Nat) : ∀ a b, b - a = n → a < m → m ≤ b → b ≤ L.length → (WL (lkC m) a b).map (rt E N L) = subP E N (m - a) ((L.drop a).take (b - a)) (a == 0) := by
  induction n using Nat.strongRecOn with
  | ind n ih =>
    intro a b hn h1 h2 hL
    have hl := mid_len L (a := a) hL
    by_cases hb : m = b
    · rw [subP_all E N (by rw [hl]; omega)]
      by_cases ha : a = 0
      · rw [WL_pass (by unfold lkC; rw [if_pos ⟨ha, hb.symm⟩]), ha]
        rfl
      · rw [WL_take (by unfold lkC; rw [if_neg (by omega), if_pos (by omega)]), if_neg (by simpa using ha)]
        rfl
    · have h : 2 ≤ b - a := by omega
      have hh := half_lt h
      have e1 := mid_front L (a := a) (k := a + half (b - a)) (b := b) (by omega)
      have e2 := mid_back L (a := a) (k := a + half (b - a)) (b := b) (by omega) (by omega)
      rw [Nat.add_sub_cancel_left] at e1 e2
      by_cases hm : m ≤ a + half (b - a)
      · rw [WL_left (by unfold lkC; rw [if_neg (by omega), if_neg (by omega), if_pos (by omega)]) h, List.map_append, ih (half (b - a)) (by omega) a (a + half (b - a)) (by omega) h1 hm (by omega), WL_take (lk := lkC m) (a := a + half (b - a)) (by unfold lkC; rw [if_neg (by omega), if_pos (by omega)]), subP_low E N (l := (L.drop a).take (b - a)) (by rw [hl]; omega) (by rw [hl]; exact h) (by rw [hl]; omega), hl, e1, e2, Nat.add_sub_cancel_left]
        rfl
      · rw [WL_right (by unfold lkC; rw [if_neg (by omega), if_neg (by omega), if_neg (by omega)]; omega) h, List.map_append, ih (b - a - half (b - a)) (by omega) (a + half (b - a)) b (by omega) (by omega) h2 hL, WL_take (lk := lkC m) (a := a) (by unfold lkC; rw [if_neg (by omega), if_pos (by omega)]), show (a + half (b - a) == 0) = false by rw [beq_eq_false_iff_ne]; omega, subP_high E N (l := (L.drop a).take (b - a)) (by rw [hl]; omega) (by rw [hl]; exact h) (by rw [hl]; omega), hl, e1, e2, show m - a - half (b - a) = m - (a + half (b - a)) by omega]
        show _ ++ [rt E N L (a, a + half (b - a))] = _
        unfold rt
        rw [Nat.add_sub_cancel_left]
end
-- every part of the walk is a part of the tree
theorem WL_pt (lk : Nat → Nat → Nat) (n : Nat) : ∀ a b, b - a = n → a ≤ b → Pt a b → ∀ p ∈ WL lk a b, Pt p.1 p.2 ∧ p.1 ≤ p.2 ∧ p.2 ≤ b := by
  induction n using Nat.strongRecOn with
  | ind n ih =>
    intro a b hn hab hpt p hp
    by_cases h0 : lk a b = 0
    · rw [WL_pass h0] at hp; cases hp
    · by_cases h1 : lk a b = 1
      · rw [WL_take h1] at hp
        rcases List.mem_cons.1 hp with rfl | hp
        · exact ⟨hpt, hab, Nat.le_refl _⟩
        · cases hp
      · by_cases h : 2 ≤ b - a
        · have hh := half_lt h
          obtain ⟨p1, p2⟩ := pt_half hpt h
          have key : p ∈ WL lk a (a + half (b - a)) ∨ p ∈ WL lk (a + half (b - a)) b := by
            by_cases h2 : lk a b = 2
            · rw [WL_left h2 h] at hp
              exact List.mem_append.1 hp
            · rw [WL_right (by omega) h] at hp
              exact (List.mem_append.1 hp).symm
          rcases key with g | g
          · have := ih (half (b - a)) (by omega) a (a + half (b - a)) (by omega) (by omega) p1 p g
            exact ⟨this.1, this.2.1, by omega⟩
          · exact ih (b - a - half (b - a)) (by omega) (a + half (b - a)) b (by omega) (by omega) p2 p g
        · rw [WL, if_neg h0, if_neg h1, dif_neg h] at hp
          cases hp
end Go.Proofs.YtmmbkfagchaocaaDoor.ad

namespace Go.Proofs.YtmmbkfagchaocaaDoor.ae
open Go.Proofs.YtmmbkfagchaocaaDoor.ca Go.Proofs.YtmmbkfagchaocaaDoor.cb Go.Proofs.YtmmbkfagchaocaaDoor.ga Go.Proofs.YtmmbkfagchaocaaDoor.aa Go.Proofs.YtmmbkfagchaocaaDoor.ab Go.Proofs.YtmmbkfagchaocaaDoor.ad
set_option linter.unusedVariables false

-- a part of a walk is covered by 62 nodes at most
theorem digs_len (j : Nat) : ∀ h, (digs j h).length ≤ j := by
  induction j with
  | zero => intro h; simp [digs]
  | succ j ih =>
    intro h
    show (if h / 2 ^ j % 2 = 1 then _ else _ : List Nat).length ≤ _
    split
    · simp only [List.length_cons]; have := ih h; omega
    · have := ih h; omega
theorem cov62 {a b : Nat} (h : Pt a b) (hab : a ≤ b) : (cov a b).length ≤ 62 := by
  obtain ⟨j, hj, hd, hl⟩ := h
  rcases Nat.lt_or_ge (b - a) (2 ^ j) with g | g
  · have e := congrArg List.length (cov_digs j a (b - a) hd g (by omega))
    rw [List.length_map, show a + (b - a) = b by omega] at e
    have := digs_len j (b - a)
    omega
  · have hlt : a < b := by have := p2 j; omega
    have e : b - a = 2 ^ j := by omega
    have e2 : cov a b = [(j, a / 2 ^ j)] := by
      rw [cov_at (k := j) hlt ⟨hj, hd, by omega, .inr (.inr (by rw [p2s]; have := p2 j; omega))⟩, cov_end (by omega)]
    rw [e2]
    simp
section
variable (ok : ByteArray → Bool) (fo : List ByteArray → ByteArray) (ask : Nat → Nat × Nat → ByteArray × Int)
-- all is answered, whatever its number from 1 on
theorem tell_all1 (hs : Nat × Nat → ByteArray) (cs : List (Nat × Nat)) : ∀ l, (∀ a ∈ cs, ∀ k, ask (k + 1) a = (hs a, 0) ∧ ok (hs a) = true) → tell ok ask l cs = (cs.map hs, 0, l ++ cs) := by
  induction cs with
  | nil => intro l _; rw [List.append_nil]; rfl
  | cons a r ih =>
    intro l h
    have ha := fun k => h a (List.mem_cons_self ..) k
    rw [tell_yes ok ask (by rw [(ha _).1]) (by rw [(ha _).1]; exact (ha 0).2), (ha _).1, ih _ (fun b hb => h b (List.mem_cons_of_mem _ hb)), List.append_assoc]
    rfl
theorem hash_all1 (hs : Nat × Nat → ByteArray) (p : Nat × Nat) (l : List (Nat × Nat)) (h : ∀ a ∈ cov p.1 p.2, ∀ k, ask (k + 1) a = (hs a, 0) ∧ ok (hs a) = true) : hashP ok fo ask l p = (fo ((cov p.1 p.2).map hs), 0, l ++ cov p.1 p.2) := by
  unfold hashP
  rw [tell_all1 ok ask hs _ l h]
  rfl
theorem told_all1 (hs : Nat × Nat → ByteArray) (ps : List (Nat × Nat)) : ∀ l, (∀ p ∈ ps, ∀ a ∈ cov p.1 p.2, ∀ k, ask (k + 1) a = (hs a, 0) ∧ ok (hs a) = true) → told ok fo ask l ps = (ps.map (fun p => fo ((cov p.1 p.2).map hs)), 0, l ++ ps.flatMap (fun p => cov p.1 p.2)) := by
  induction ps with
  | nil => intro l _; simp [told]
  | cons p r ih =>
    intro l h
    have hp := hash_all1 ok fo ask hs p l (h p (List.mem_cons_self ..))
    rw [told_yes ok fo ask (by rw [hp]), hp, ih _ (fun q hq => h q (List.mem_cons_of_mem _ hq))]
    simp
theorem asked62 (hs : Nat × Nat → ByteArray) (lk : Nat → Nat → Nat) (n : Nat) (hn : n ≤ 4611686018427387904) (h : ∀ p ∈ WL lk 0 n, ∀ a ∈ cov p.1 p.2, ∀ k, ask (k + 1) a = (hs a, 0) ∧ ok (hs a) = true) :
    (told ok fo ask [] (WL lk 0 n)).2.1 = 0 ∧ (told ok fo ask [] (WL lk 0 n)).1.length = (WL lk 0 n).length ∧ (told ok fo ask [] (WL lk 0 n)).2.2.length ≤ 62 * (WL lk 0 n).length := by
  rw [told_all1 ok fo ask hs _ _ h]
  refine ⟨rfl, by simp, ?_⟩
  have hp := WL_pt lk n 0 n rfl (Nat.zero_le _) (pt_top hn)
  generalize WL lk 0 n = ps at hp
  induction ps with
  | nil => simp
  | cons p r ih =>
    have h1 := hp p (List.mem_cons_self ..)
    have h2 := cov62 h1.1 h1.2.1
    have h3 := ih (fun q hq => hp q (List.mem_cons_of_mem _ hq))
    simp only [List.nil_append, List.flatMap_cons, List.length_append, List.length_cons] at h3 ⊢
    omega
end
-- a range's walk is that of its places
theorem all_in (ps : List Nat) (n : Nat) : ∀ a b, b - a = n → a < b → (∀ p, a ≤ p → p < b → p ∈ ps) → WL (lkM ps) a b = [] := by
  induction n using Nat.strongRecOn with
  | ind n ih =>
    intro a b hn hab hp
    have hex : ∃ p ∈ ps, a ≤ p ∧ p < b := ⟨a, hp a (Nat.le_refl _) hab, Nat.le_refl _, hab⟩
    by_cases h : 2 ≤ b - a
    · have hh := half_lt h
      rw [WL_left (by unfold lkM; rw [if_pos hex, if_neg (by omega)]) h, ih (half (b - a)) (by omega) a (a + half (b - a)) (by omega) (by omega) (fun p h1 h2 => hp p h1 (by omega)), ih (b - a - half (b - a)) (by omega) (a + half (b - a)) b (by omega) (by omega) (fun p h1 h2 => hp p (by omega) h2)]
      rfl
    · rw [WL_pass (by unfold lkM; rw [if_pos hex, if_pos (by omega)])]
theorem range_multi (ps : List Nat) (lo hi : Nat) (hlh : lo < hi) (hps : ∀ p, p ∈ ps ↔ lo ≤ p ∧ p < hi) (n : Nat) : ∀ a b, b - a = n → a < b → WL (lkR lo hi) a b = WL (lkM ps) a b := by
  induction n using Nat.strongRecOn with
  | ind n ih =>
    intro a b hn hab
    by_cases h1 : b ≤ lo ∨ hi ≤ a
    · rw [WL_take (by unfold lkR; rw [if_pos h1]), WL_take (by
        unfold lkM
        rw [if_neg]
        rintro ⟨p, hp, g1, g2⟩
        have := (hps p).1 hp
        omega)]
    · by_cases h2 : lo ≤ a ∧ b ≤ hi
      · rw [WL_pass (by unfold lkR; rw [if_neg h1, if_pos h2]), all_in ps (b - a) a b rfl hab (fun p g1 g2 => (hps p).2 ⟨by omega, by omega⟩)]
      · have h : 2 ≤ b - a := by omega
        have hh := half_lt h
        have hex : ∃ p ∈ ps, a ≤ p ∧ p < b := ⟨max a lo, (hps _).2 ⟨by omega, by omega⟩, by omega, by omega⟩
        rw [WL_left (by unfold lkR; rw [if_neg h1, if_neg h2]) h, WL_left (lk := lkM ps) (by unfold lkM; rw [if_pos hex, if_neg (by omega)]) h, ih (half (b - a)) (by omega) a (a + half (b - a)) (by omega) (by omega), ih (b - a - half (b - a)) (by omega) (a + half (b - a)) b (by omega) (by omega)]
-- an inclusion proof's walk is that of one place, in another order
theorem incl_multi (i : Nat) (n : Nat) : ∀ a b, b - a = n → a < b → (WL (lkI i) a b).Perm (WL (lkM [i]) a b) := by
  induction n using Nat.strongRecOn with
  | ind n ih =>
    intro a b hn hab
    by_cases h1 : a ≤ i ∧ i < b
    · have hex : ∃ p ∈ [i], a ≤ p ∧ p < b := ⟨i, List.mem_singleton_self _, h1⟩
      by_cases h : 2 ≤ b - a
      · have hh := half_lt h
        have i1 := ih (half (b - a)) (by omega) a (a + half (b - a)) (by omega) (by omega)
        have i2 := ih (b - a - half (b - a)) (by omega) (a + half (b - a)) b (by omega) (by omega)
        rw [WL_left (lk := lkM [i]) (by unfold lkM; rw [if_pos hex, if_neg (by omega)]) h]
        by_cases h2 : i < a + half (b - a)
        · rw [WL_left (by unfold lkI; rw [if_pos h1, if_neg (by omega), if_pos h2]) h]
          exact i1.append i2
        · rw [WL_right (by unfold lkI; rw [if_pos h1, if_neg (by omega), if_neg h2]; exact Nat.le_refl _) h]
          exact (List.perm_append_comm).trans (i1.append i2)
      · rw [WL_pass (by unfold lkI; rw [if_pos h1, if_pos (by omega)]), WL_pass (by unfold lkM; rw [if_pos hex, if_pos (by omega)])]
    · rw [WL_take (by unfold lkI; rw [if_neg h1]), WL_take (by
        unfold lkM
        rw [if_neg]
        rintro ⟨p, hp, g1, g2⟩
        obtain rfl := List.mem_singleton.1 hp
        exact h1 ⟨g1, g2⟩)]
-- how often a text stands in two lists of which one is the other in another order
theorem perm_count {α : Type} [BEq α] {l r : List α} (h : l.Perm r) (x : α) : l.countP (· == x) = r.countP (· == x) := h.countP_eq _
end Go.Proofs.YtmmbkfagchaocaaDoor.ae

namespace Go.Proofs.YtmmbkfagchaocaaDoor.cp
open Go.RowKit Go.PlainAid
open Go.Proofs.YtmmbkfagchaocaaDoor.ca
set_option linter.unusedVariables false

theorem cast_pow (k : Nat) : ((2 : Int) ^ k) = ((2 ^ k : Nat) : Int) := by rw [Int.natCast_pow]; rfl
theorem p62 : (2 : Nat) ^ 62 = 4611686018427387904 := by decide
theorem p63 : (2 : Nat) ^ 63 = 9223372036854775808 := by decide
theorem wrap_is (n : Nat) (h : n < 9223372036854775808) : IntKind.i64.wrap (n : Int) = n := by
  rw [IntKind.wrap_i64]
  omega
theorem u64_is (k : Nat) (h : k ≤ 64) : IntKind.u64.wrap (k : Int) = k := by
  rw [IntKind.wrap_u64]
  omega
-- 2 to the k as the walk has it
theorem pow_int {k : Nat} (h : k ≤ 62) : IntKind.i64.wrap (1 * 2 ^ min (k : Int).toNat 64) = ((2 ^ k : Nat) : Int) := by
  rw [Int.toNat_natCast, Nat.min_eq_left (by omega), Int.one_mul, cast_pow, wrap_is]
  have := p2le h
  rw [p62] at this
  omega
def i64 (x : Int) : Prop := -9223372036854775808 ≤ x ∧ x ≤ 9223372036854775807
-- may there be such a node?
def okA (L I : Int) : Prop := 0 ≤ L ∧ L ≤ 62 ∧ 0 ≤ I ∧ I < 4611686018427387904 / 2 ^ L.toNat
instance (L I : Int) : Decidable (okA L I) := by unfold okA; infer_instance
theorem okA_nat (k i : Nat) : okA k i ↔ k ≤ 62 ∧ (i + 1) * 2 ^ k ≤ 4611686018427387904 := by
  have e : (4611686018427387904 : Int) / 2 ^ (k : Int).toNat = ((4611686018427387904 / 2 ^ k : Nat) : Int) := by
    rw [Int.toNat_natCast, cast_pow, Int.natCast_ediv]
    rfl
  have key : i < 4611686018427387904 / 2 ^ k ↔ (i + 1) * 2 ^ k ≤ 4611686018427387904 := Nat.le_div_iff_mul_le (p2 k)
  unfold okA
  rw [e, ← key]
  omega
theorem okA_form {L I : Int} (h : okA L I) : ∃ k i : Nat, L = k ∧ I = i ∧ k ≤ 62 ∧ (i + 1) * 2 ^ k ≤ 4611686018427387904 := by
  obtain ⟨k, rfl⟩ : ∃ k : Nat, L = k := ⟨L.toNat, by have := h.1; omega⟩
  obtain ⟨i, rfl⟩ : ∃ i : Nat, I = i := ⟨I.toNat, by have := h.2.2.1; omega⟩
  exact ⟨k, i, rfl, rfl, ((okA_nat k i).1 h).1, ((okA_nat k i).1 h).2⟩
def av (L I : Int) : Value := .agg #[.int .i64 L, .int .i64 I]
def spV (L I : Int) : Value := if okA L I then .tuple #[.int .i64 (I * 2 ^ L.toNat), .int .i64 ((I + 1) * 2 ^ L.toNat), .int .i64 0] else .tuple #[.int .i64 0, .int .i64 0, .int .i64 50]
def kinV (L I L' I' : Int) : Value := if okA L I ∧ okA L' I' then .tuple #[.agg #[.int .i64 L', .int .i64 I'], .int .i64 0] else .tuple #[.agg #[.int .i64 0, .int .i64 0], .int .i64 50]
def sib (I : Int) : Int := if I % 2 = 0 then I + 1 else I - 1
theorem spV_nat {k i : Nat} (h : okA k i) : spV k i = .tuple #[.int .i64 ((i * 2 ^ k : Nat) : Int), .int .i64 (((i + 1) * 2 ^ k : Nat) : Int), .int .i64 0] := by
  unfold spV
  rw [if_pos h, Int.toNat_natCast, cast_pow]
  simp
theorem up_fits {k i : Nat} (hk : k < 62) (h : (i + 1) * 2 ^ k ≤ 4611686018427387904) : (i / 2 + 1) * 2 ^ (k + 1) ≤ 4611686018427387904 := by
  obtain ⟨z, hz⟩ : ∃ z, 4611686018427387904 = 2 * z * 2 ^ k := by
    refine ⟨2 ^ (61 - k), ?_⟩
    rw [← p2s, ← Nat.pow_add, show 61 - k + 1 + k = 62 by omega]
  rw [hz] at h ⊢
  have h1 : i + 1 ≤ 2 * z := Nat.le_of_mul_le_mul_right h (p2 k)
  rw [p2s, ← Nat.mul_assoc]
  exact Nat.mul_le_mul_right _ (by omega)
theorem i64_nat {n : Nat} (h : n ≤ 4611686018427387904) : i64 (n : Int) := ⟨by omega, by omega⟩
theorem below_dN {B : Nat} {a w : World} (h : Below B a w) (n : Nat) : Below B a (w.drewN n) := ⟨h.os, h.tape, h.output, h.size, h.block⟩
theorem over {w w1 w2 : World} (h : Below w.heap.size w w1) (b : Below w1.heap.size w1 w2) : Below w.heap.size w w2 := h.trans (b.mono h.size)
theorem own_later {w w' : World} {B e size n : Nat} {v : Value} {xs : List Value} (h : w.ownsRow B e size v n xs) (hb : Below w.heap.size w w') : w'.ownsRow B e size v n xs := by
  refine ⟨h.1, ?_⟩
  rcases h.2 with hn | ⟨g, cap, cur, rfl, hg, hgg, rest⟩
  · exact .inl hn
  · exact .inr ⟨g, cap, cur, rfl, hg, by rw [hb.block g (Array.getElem?_eq_some_iff.1 hgg).1]; exact hgg, rest⟩
theorem own_down {w : World} {B B' e size n : Nat} {v : Value} {xs : List Value} (h : w.ownsRow B' e size v n xs) (hB : B ≤ B') : w.ownsRow B e size v n xs :=
  ⟨h.1, h.2.imp id fun ⟨g, cap, cur, h1, h2, h3⟩ => ⟨g, cap, cur, h1, Nat.le_trans hB h2, h3⟩⟩
-- an address in a block of its own
structure Bx (w : World) (b : Nat) (L I : Int) : Prop where
  one : w.cell? ⟨b, 0, none⟩ = some (.int .i64 L)
  two : w.cell? ⟨b, 1, none⟩ = some (.int .i64 I)
theorem Bx.later {w w' : World} {b : Nat} {L I : Int} (h : Bx w b L I) (hb : Below w.heap.size w w') : Bx w' b L I :=
  ⟨(hb.cell (p := ⟨b, 0, none⟩) (World.block_lt_of_cell? _ _ h.one)).trans h.one, (hb.cell (p := ⟨b, 1, none⟩) (World.block_lt_of_cell? _ _ h.two)).trans h.two⟩
theorem bx_new (w : World) (L I : Int) : Bx (w.alloc (.cells #[.int .i64 L, .int .i64 I] 36)) w.heap.size L I :=
  ⟨by rw [World.cell?_alloc_at _ _ _ _ rfl]; rfl, by rw [World.cell?_alloc_at _ _ _ _ rfl]; rfl⟩
theorem kin_no {L I L' I' : Int} (h : ¬ (okA L I ∧ okA L' I')) : kinV L I L' I' = .tuple #[.agg #[.int .i64 0, .int .i64 0], .int .i64 50] := by unfold kinV; rw [if_neg h]
theorem kin_yes {L I L' I' : Int} (h1 : okA L I) (h2 : okA L' I') : kinV L I L' I' = .tuple #[.agg #[.int .i64 L', .int .i64 I'], .int .i64 0] := by unfold kinV; rw [if_pos ⟨h1, h2⟩]
end Go.Proofs.YtmmbkfagchaocaaDoor.cp

namespace Go.Proofs.YtmmbkfagchaocaaDoor.cs
open Go.RowKit Go.PlainAid
open Go.Proofs.YtmmbkfagchaocaaDoor.ca Go.Proofs.YtmmbkfagchaocaaDoor.cb Go.Proofs.YtmmbkfagchaocaaDoor.cp
set_option linter.unusedVariables false

-- an address; a list of them in memory
def ad (a : Nat × Nat) : Value := .agg #[.int .i64 (a.1 : Nat), .int .i64 (a.2 : Nat)]
def cl (a : Nat × Nat) : List Value := [.int .i64 (a.1 : Nat), .int .i64 (a.2 : Nat)]
def cls (L : List (Nat × Nat)) : List Value := L.flatMap cl
theorem cls_len (L : List (Nat × Nat)) : (cls L).length = L.length * 2 := by
  induction L with
  | nil => rfl
  | cons a L ih =>
    show (cl a ++ cls L).length = _
    rw [List.length_append, ih, List.length_cons]
    show 2 + _ = _
    omega
theorem cls_app (L M : List (Nat × Nat)) : cls (L ++ M) = cls L ++ cls M := by unfold cls; exact List.flatMap_append
theorem cls_get (L : List (Nat × Nat)) (i : Nat) (a : Nat × Nat) (h : L[i]? = some a) : (cls L)[i * 2]? = some (.int .i64 (a.1 : Nat)) ∧ (cls L)[i * 2 + 1]? = some (.int .i64 (a.2 : Nat)) := by
  induction L generalizing i with
  | nil => simp at h
  | cons b L ih =>
    cases i with
    | zero =>
      obtain rfl : b = a := by simpa using h
      exact ⟨rfl, rfl⟩
    | succ i =>
      have := ih i (by simpa using h)
      show (cl b ++ cls L)[(i + 1) * 2]? = _ ∧ (cl b ++ cls L)[(i + 1) * 2 + 1]? = _
      have hl : (cl b).length = 2 := rfl
      rw [List.getElem?_append_right (by omega), List.getElem?_append_right (by omega), hl, show (i + 1) * 2 - 2 = i * 2 by omega, show (i + 1) * 2 + 1 - 2 = i * 2 + 1 by omega]
      exact this
theorem hiA : (Tryd.prog.info? 36).map (fun i => (i.zero, i.size, i.bytes)) = some (some (.agg #[.int .i64 0, .int .i64 0]), 2, 16) := by kernel_rfl
theorem info_parts {t : TypeId} {z : Value} {n b : Nat} (h : (Tryd.prog.info? t).map (fun i => (i.zero, i.size, i.bytes)) = some (some z, n, b)) : ∃ i, Tryd.prog.info? t = some i ∧ i.zero = some z ∧ i.size = n ∧ i.bytes = b := by
  obtain ⟨i, hi, he⟩ := Option.map_eq_some_iff.1 h
  injection he with e1 e2
  injection e2 with e2 e3
  exact ⟨i, hi, e1, e2, e3⟩
-- what Cover answers
def okR (lo hi : Int) : Prop := 0 ≤ lo ∧ lo ≤ hi ∧ hi ≤ 4611686018427387904
instance (lo hi : Int) : Decidable (okR lo hi) := by unfold okR; infer_instance
def covI (lo hi : Int) : List (Nat × Nat) := if okR lo hi then cov lo.toNat hi.toNat else []
def covE (lo hi : Int) : Int := if okR lo hi then 0 else 10
theorem covI_len (lo hi : Int) : (covI lo hi).length ≤ 122 := by
  unfold covI
  split
  · rename_i h
    exact cov_len _ _ (by have := h.2.1; have := h.1; omega) (by rw [p62]; have := h.2.2; omega)
  · simp
def Rowed (w w' : World) (e : Ending) (lo hi : Int) : Prop := ∃ v, e = .returned (.tuple #[v, .int .i64 (covE lo hi)]) ∧ w'.ownsRow w.heap.size 36 2 v (covI lo hi).length (cls (covI lo hi))
theorem two_cells (W : World) (x y : Value) (t : TypeId) : ∀ (j : Nat) (u : Value), [x, y][j]? = some u → (W.alloc (.cells #[x, y] t)).cell? (Addr.add ⟨W.heap.size, 0, none⟩ j) = some u := by
  intro j u hu
  rw [show (Addr.add ⟨W.heap.size, 0, none⟩ j) = ⟨W.heap.size, j, none⟩ by cases j <;> simp [Addr.add], World.cell?_alloc_at _ _ _ _ rfl]
  simpa using hu
-- a list of addresses, wherever it lies
def ReadsA (w : World) (v : Value) (L : List (Nat × Nat)) : Prop :=
  ∃ a cap, v = .slice a L.length cap ∧ (L.length = 0 ∨ ∃ b, a = some ⟨b, 0, none⟩ ∧ ∀ (i : Nat) (x : Nat × Nat), L[i]? = some x → w.cell? ⟨b, i * 2, none⟩ = some (.int .i64 (x.1 : Nat)) ∧ w.cell? ⟨b, i * 2 + 1, none⟩ = some (.int .i64 (x.2 : Nat)))
theorem ReadsA.later {w w' : World} {v : Value} {L : List (Nat × Nat)} (h : ReadsA w v L) (hb : Below w.heap.size w w') : ReadsA w' v L := by
  obtain ⟨a, cap, rfl, h0 | ⟨b, rfl, hc⟩⟩ := h
  · exact ⟨a, cap, rfl, .inl h0⟩
  · refine ⟨_, cap, rfl, .inr ⟨b, rfl, fun i x hx => ?_⟩⟩
    obtain ⟨c1, c2⟩ := hc i x hx
    exact ⟨(hb.cell (p := ⟨b, i * 2, none⟩) (World.block_lt_of_cell? _ _ c1)).trans c1, (hb.cell (p := ⟨b, i * 2 + 1, none⟩) (World.block_lt_of_cell? _ _ c2)).trans c2⟩
theorem own_readsA {w : World} {B n : Nat} {v : Value} {L : List (Nat × Nat)} (h : w.ownsRow B 36 2 v n (cls L)) : ReadsA w v L := by
  have hn : L.length = n := by have := h.1; rw [cls_len] at this; omega
  subst hn
  rcases h.2 with ⟨rfl, h0⟩ | ⟨g, cap, cur, rfl, _, hg, _⟩
  · refine ⟨none, 0, by rw [h0], .inl h0⟩
  · refine ⟨_, cap, rfl, .inr ⟨g, rfl, fun i x hx => ?_⟩⟩
    have hi := (List.getElem?_eq_some_iff.1 hx).1
    obtain ⟨c1, c2⟩ := cls_get L i x hx
    exact ⟨(h.cellAt (i * 2) (by omega)).trans c1, (h.cellAt (i * 2 + 1) (by omega)).trans c2⟩
theorem formA {w : World} {v : Value} {L : List (Nat × Nat)} (h : ReadsA w v L) : ∃ a cap, v = .slice a L.length cap := by
  obtain ⟨a, cap, h, _⟩ := h
  exact ⟨a, cap, h⟩
theorem row_at {L : List (Nat × Nat)} {w : World} {a : Option Addr} {cap n : Nat} {k i : Nat} {j : Nat} (h : ReadsA w (.slice a n cap) L) (hx : L[j]? = some (k, i)) : ∃ b, a = some ⟨b, 0, none⟩ ∧ w.cell? ⟨b, j * 2, none⟩ = some (.int .i64 (k : Nat)) ∧ w.cell? ⟨b, j * 2 + 1, none⟩ = some (.int .i64 (i : Nat)) := by
  obtain ⟨a', cap', e1, hc⟩ := h
  injection e1 with e1 e2 e3
  subst e1
  have := (List.getElem?_eq_some_iff.1 hx).1
  rcases hc with h0 | ⟨b, e4, hc⟩
  · omega
  · exact ⟨b, e4, hc j _ hx⟩
end Go.Proofs.YtmmbkfagchaocaaDoor.cs

namespace Go.Proofs.YtmmbkfagchaocaaDoor.ct
open Go.RowKit Go.PlainAid
open Go.Proofs.YtmmbkfagchaocaaDoor.cp Go.Proofs.YtmmbkfagchaocaaDoor.cs
set_option linter.unusedVariables false

-- what the program's Cover promises (T: what it asks of the world)
structure CoverC (T : World → Prop) : Prop where
  later : ∀ {w w' : World}, T w → Below w.heap.size w w' → T w'
  covers : ∀ (lo hi : Int), i64 lo → i64 hi → ∀ w, T w → Calls Tryd.prog 49 #[.int .i64 lo, .int .i64 hi] w fun e w' => Rowed w w' e lo hi ∧ Below w.heap.size w w'
end Go.Proofs.YtmmbkfagchaocaaDoor.ct

namespace Go.Proofs.YtmmbkfagchaocaaDoor.cv
open Go.RowKit Go.PlainAid
open Go.Proofs.YtmmbkfagchaocaaDoor.cp
theorem fits64 (a : Int) (h : (Lit.int .i64 a).wf = true) : -9223372036854775808 ≤ a ∧ a ≤ 9223372036854775807 := by
  simp only [Lit.wf, Bool.and_eq_true, decide_eq_true_eq] at h
  obtain ⟨h1, h2⟩ := h
  have e1 : IntKind.i64.min = -9223372036854775808 := by decide
  have e2 : IntKind.i64.max = 9223372036854775807 := by decide
  omega
set_option maxRecDepth 100000 in
theorem i64_of {a : Int} (h : (Lit.int .i64 a).wf = true) : i64 a := fits64 a h
end Go.Proofs.YtmmbkfagchaocaaDoor.cv

namespace Go.Proofs.YtmmbkfagchaocaaDoor.xa
open Go.Lib Go.Proofs.YtmmbkfagchaocaaDoor.ca
set_option linter.unusedVariables false

theorem bitLen_zero : Lib.bitLen 0 = 0 := by decide

theorem bitLen_lt : ∀ (f x : Nat), x < 2 ^ f → f ≤ 64 → x < 2 ^ Lib.bitLen x ∧ (x ≠ 0 → 2 ^ (Lib.bitLen x - 1) ≤ x ∧ 1 ≤ Lib.bitLen x)
  | 0, x, h, _ => by
    have : x = 0 := by simpa using h
    subst this
    rw [bitLen_zero]; exact ⟨by decide, fun h => absurd rfl h⟩
  | f + 1, x, h, hf => by
    by_cases hx : x = 0
    · subst hx; rw [bitLen_zero]; exact ⟨by decide, fun h => absurd rfl h⟩
    · have hp := Nat.pow_le_pow_right (n := 2) (by omega) hf
      have e := Lib.bitLen_half x hx (Nat.lt_of_lt_of_le h hp)
      have ih := bitLen_lt f (x / 2) (by rw [Nat.pow_succ] at h; omega) (by omega)
      rw [e]
      refine ⟨?_, fun _ => ⟨?_, by omega⟩⟩
      · rw [Nat.add_comm, Nat.pow_succ]; omega
      · by_cases h2 : x / 2 = 0
        · rw [h2, bitLen_zero]; simp; omega
        · obtain ⟨h3, h4⟩ := ih.2 h2
          obtain ⟨l, hl⟩ : ∃ l, Lib.bitLen (x / 2) = l + 1 := ⟨Lib.bitLen (x / 2) - 1, by omega⟩
          rw [hl] at h3 ⊢
          rw [show 1 + (l + 1) - 1 = l + 1 by omega, Nat.pow_succ]
          rw [show l + 1 - 1 = l by omega] at h3
          omega

theorem len_spec (x : Nat) (h : x < 18446744073709551616) : x < 2 ^ Lib.bitLen x ∧ (x ≠ 0 → 2 ^ (Lib.bitLen x - 1) ≤ x ∧ 1 ≤ Lib.bitLen x) :=
  bitLen_lt 64 x h (by omega)

theorem len_le63 (x : Nat) (h : x ≤ 9223372036854775807) : Lib.bitLen x ≤ 63 := bitLenAux_le 64 x 63 (by omega)

theorem bits_out (x : Int) (h : x ≤ 0) : Lib.bitLen x.toNat = 0 := by
  rw [show x.toNat = 0 by omega]; exact bitLen_zero

theorem ctz_spec (x : Nat) (h0 : 0 < x) (h : x < 9223372036854775808) : ∃ m, x = 2 ^ ctz 64 x * (2 * m + 1) ∧ ctz 64 x ≤ 62 := by
  have hx : x ≠ 0 := by omega
  obtain ⟨m, hm, hk⟩ := ctzFrom_spec 64 x h0 (by omega)
  have e : ctz 64 x = ctzFrom 64 x := by unfold ctz; rw [if_neg hx]
  rw [e]
  refine ⟨m, hm, ?_⟩
  apply Nat.le_of_not_lt
  intro hlt
  have hp := Nat.pow_le_pow_right (n := 2) (by omega) (show 63 ≤ ctzFrom 64 x by omega)
  have e63 : (2 : Nat) ^ 63 = 9223372036854775808 := by decide
  have : 2 ^ ctzFrom 64 x ≤ x := by
    conv => rhs; rw [hm]
    exact Nat.le_mul_of_pos_right _ (by omega)
  omega

-- the noughts behind p, as the program counts them
def zer (p : Nat) : Nat := if p = 0 then 63 else ctz 64 p
theorem level (p d : Nat) (hp : p < 9223372036854775808) (h0 : 0 < d) (hd : d ≤ 4611686018427387904) : Lv p d (min (zer p) (Lib.bitLen d - 1)) ∧ 1 ≤ Lib.bitLen d ∧ Lib.bitLen d ≤ 63 ∧ zer p ≤ 63 := by
  obtain ⟨l1, l2⟩ := len_spec d (by omega)
  obtain ⟨l3, l4⟩ := l2 (by omega)
  have l5 := len_le63 d (by omega)
  obtain ⟨b, hb⟩ : ∃ b, Lib.bitLen d = b + 1 := ⟨Lib.bitLen d - 1, by omega⟩
  rw [hb] at l1 l3 l5 ⊢
  rw [Nat.add_sub_cancel] at l3 ⊢
  have key : 2 ^ min (zer p) b ∣ p ∧ (zer p < b → ¬ 2 ^ (zer p + 1) ∣ p) ∧ zer p ≤ 63 := by
    unfold zer
    split
    · rename_i h
      subst h
      exact ⟨Nat.dvd_zero _, fun h => by omega, by omega⟩
    · rename_i h
      obtain ⟨m, hm, hk⟩ := ctz_spec p (by omega) hp
      refine ⟨?_, fun _ => ?_, by omega⟩
      · refine Nat.dvd_trans (p2dvd (Nat.min_le_left _ _)) ?_
        exact ⟨_, hm⟩
      · rintro ⟨c, hc⟩
        rw [p2s] at hc
        have e : 2 ^ ctz 64 p * (2 * m + 1) = 2 ^ ctz 64 p * (2 * c) := by
          rw [← hm]
          conv => lhs; rw [hc]
          rw [Nat.mul_comm 2 (2 ^ ctz 64 p), Nat.mul_assoc]
        have := Nat.eq_of_mul_eq_mul_left (p2 _) e
        omega
  have hmin : min (zer p) b ≤ b := Nat.min_le_right _ _
  refine ⟨⟨by omega, key.1, Nat.le_trans (p2le hmin) l3, ?_⟩, by omega, l5, key.2.2⟩
  rcases Nat.lt_or_ge (zer p) b with e | e
  · rw [Nat.min_eq_left (by omega)]
    exact .inr (.inl (key.2.1 e))
  · rw [Nat.min_eq_right e]
    exact .inr (.inr l1)
end Go.Proofs.YtmmbkfagchaocaaDoor.xa

namespace Go.Proofs.YtmmbkfagchaocaaDoor.xb
open Go.RowKit Go.PlainAid
set_option linter.unusedVariables false

theorem ret_i64 {a b : Int} (h : a = b) : Ending.returned (.int .i64 a) = .returned (.int .i64 b) := by rw [h]

theorem bt_len8 (k : Nat) (h : k < 256) : bt Lib.len8tab k = Lib.bitLen k := by
  have key : ∀ n : Fin 256, bt Lib.len8tab n.val = Lib.bitLen n.val := by decide +kernel
  exact key ⟨k, h⟩

theorem sh (x : Int) (k : Nat) (y n : Int) (h0 : 0 ≤ x) (h1 : x ≤ 18446744073709551615) (hy : y = x / 2 ^ k) (hk : 2 ^ k ≤ x.toNat) (hn : n = k) (hk' : k ≤ 64) (hb : y ≤ 255) (hy0 : 0 ≤ y) :
    wrap64 (n + wrap64 (bt Lib.len8tab y.toNat)) = Lib.bitLen x.toNat := by
  have e : y.toNat = x.toNat / 2 ^ k := by
    subst hy
    obtain ⟨m, rfl⟩ := Int.eq_ofNat_of_zero_le h0
    simp only [Int.toNat_natCast]
    have : ((m : Int) / 2 ^ k) = ((m / 2 ^ k : Nat) : Int) := by simp
    rw [this, Int.toNat_natCast]
  have l := Lib.bitLen_le8' y hy0 hb
  rw [bt_len8 y.toNat (by omega), Lib.bitLen_shift k x.toNat hk (by omega), hn, ← e, IntWalk.wrap64_in (Lib.bitLen y.toNat) ⟨by omega, by omega⟩, IntWalk.wrap64_in _ ⟨by omega, by omega⟩]
  omega

theorem sh0 (x : Int) (h0 : 0 ≤ x) (hb : x ≤ 255) : wrap64 (wrap64 (bt Lib.len8tab x.toNat)) = Lib.bitLen x.toNat := by
  have l := Lib.bitLen_le8' x h0 hb
  rw [bt_len8 x.toNat (by omega), IntWalk.wrap64_in (Lib.bitLen x.toNat) ⟨by omega, by omega⟩, IntWalk.wrap64_in _ ⟨by omega, by omega⟩]

set_option maxHeartbeats 1600000 in
set_option maxRecDepth 100000 in
theorem len_any (x : Int) (w : World) (h0 : 0 ≤ x) (h1 : x ≤ 18446744073709551615) :
    Calls Tryd.prog 86 #[.int .u64 x] w fun e w' => e = .returned (.int .i64 (Lib.bitLen x.toNat)) ∧ w' = w := by
  have hsz : Lib.len8tab.size = 256 ∧ True := ⟨Lib.len8tab_size, trivial⟩
  have hbt := get_bt Lib.len8tab
  go_enter Tryd.func86, Tryd.ntmps86
  go_wp2
  all_goals
    go_ret
    refine ⟨ret_i64 ?_, rfl⟩
    first
      | exact sh x 56 _ _ h0 h1 (by omega) (by omega) (by omega) (by omega) (by omega) (by omega)
      | exact sh x 48 _ _ h0 h1 (by omega) (by omega) (by omega) (by omega) (by omega) (by omega)
      | exact sh x 40 _ _ h0 h1 (by omega) (by omega) (by omega) (by omega) (by omega) (by omega)
      | exact sh x 32 _ _ h0 h1 (by omega) (by omega) (by omega) (by omega) (by omega) (by omega)
      | exact sh x 24 _ _ h0 h1 (by omega) (by omega) (by omega) (by omega) (by omega) (by omega)
      | exact sh x 16 _ _ h0 h1 (by omega) (by omega) (by omega) (by omega) (by omega) (by omega)
      | exact sh x 8 _ _ h0 h1 (by omega) (by omega) (by omega) (by omega) (by omega) (by omega)
      | exact sh0 x h0 (by omega)
end Go.Proofs.YtmmbkfagchaocaaDoor.xb

namespace Go.Proofs.YtmmbkfagchaocaaDoor.mh
open Go.RowKit Go.PlainAid
open Go.Proofs.YtmmbkfagchaocaaDoor.ca Go.Proofs.YtmmbkfagchaocaaDoor.cb Go.Proofs.YtmmbkfagchaocaaDoor.cp Go.Proofs.YtmmbkfagchaocaaDoor.ga Go.Proofs.YtmmbkfagchaocaaDoor.xa Go.Proofs.YtmmbkfagchaocaaDoor.xb
set_option linter.unusedVariables false

theorem half_len {n : Nat} (h : 2 ≤ n) (hn : n ≤ 4611686018427387904) : ∃ l, Lib.bitLen (n - 1) = l + 1 ∧ half n = 2 ^ l ∧ l ≤ 62 := by
  obtain ⟨g1, g2⟩ := len_spec (n - 1) (by omega)
  obtain ⟨g3, g4⟩ := g2 (by omega)
  have g5 := len_le63 (n - 1) (by omega)
  obtain ⟨l, hl⟩ : ∃ l, Lib.bitLen (n - 1) = l + 1 := ⟨Lib.bitLen (n - 1) - 1, by omega⟩
  rw [hl] at g1 g3 g5
  rw [Nat.add_sub_cancel] at g3
  exact ⟨l, hl, half_eq (by omega) (by omega), by omega⟩
end Go.Proofs.YtmmbkfagchaocaaDoor.mh

namespace Go.Proofs.YtmmbkfagchaocaaDoor.xc
open Go.RowKit Go.PlainAid
open Go.Proofs.YtmmbkfagchaocaaDoor.ca Go.Proofs.YtmmbkfagchaocaaDoor.cp Go.Proofs.YtmmbkfagchaocaaDoor.xa Go.Proofs.YtmmbkfagchaocaaDoor.xb
set_option linter.unusedVariables false

def TabB (w : World) : Prop := ∀ j, j < 64 → w.cell? ⟨1, j, none⟩ = some (.int .u8 (Lib.deBruijn64tab.getD j 0))

set_option maxHeartbeats 1000000 in
theorem tz_core (x k idx : Nat) (w : World) (hx : x < 18446744073709551616) (hx0 : ((x : Int) == 0) = false)
    (key : IntKind.u64.wrap (bits BinOp.and IntKind.u64 (x : Int) (IntKind.u64.wrap (-(x : Int))) * 285870213051353865) / 288230376151711744 = (idx : Int))
    (hi : idx < 64) (hk : k < 64) (hcell : w.cell? ⟨1, idx, none⟩ = some (.int .u8 k)) :
    Calls Tryd.prog 85 #[.int .u64 x] w fun e w' => e = .returned (.int .i64 k) ∧ w' = w := by
  go_enter Tryd.func85, Tryd.ntmps85
  go_wp2_with (simp only [key])
  go_ret
  exact ⟨rfl, rfl⟩

theorem tz (x : Nat) (w : World) (hx : x < 18446744073709551616) (hx0 : x ≠ 0) (hT : TabB w) :
    Calls Tryd.prog 85 #[.int .u64 x] w fun e w' => e = .returned (.int .i64 (Lib.ctz 64 x)) ∧ w' = w := by
  obtain ⟨hlow, hk⟩ := Lib.lowest_bit 64 x hx0 hx
  obtain ⟨hi, htab⟩ := Lib.deBruijn64_at _ hk
  have hcell := hT _ hi
  rw [htab] at hcell
  exact tz_core x _ _ w hx (by simp; omega) (Go.Proofs.tz64_key x _ hx hx0 hlow) hi hk hcell
theorem bits_any (n : Int) (w : World) (h0 : -9223372036854775808 ≤ n) (h1 : n ≤ 9223372036854775807) :
    Calls Tryd.prog 76 #[.int .i64 n] w fun e w' => e = .returned (.int .i64 (Lib.bitLen n.toNat)) ∧ w' = w := by
  by_cases h : n ≤ 0
  · have HB : Hid _ := bits_out n h
    go_enter Tryd.func76, Tryd.ntmps76
    go_wp2
    go_ret
    exact ⟨Go.Proofs.YtmmbkfagchaocaaDoor.xb.ret_i64 (by rw [HB.out]; rfl), rfl⟩
  · go_enter Tryd.func76, Tryd.ntmps76
    go_wp2_with (go_at_call 86; refine (len_any n _ (by omega) (by omega)).mono ?_; rintro e w' ⟨rfl, rfl⟩)
    go_ret
    exact ⟨rfl, rfl⟩

theorem zeros_no (n : Int) (w : World) (h : n ≤ 0) :
    Calls Tryd.prog 75 #[.int .i64 n] w fun e w' => e = .returned (.int .i64 63) ∧ w' = w := by
  go_enter Tryd.func75, Tryd.ntmps75
  go_wp2
  go_ret
  exact ⟨rfl, rfl⟩

theorem zeros_yes (m : Nat) (w : World) (h0 : 0 < m) (h1 : m ≤ 9223372036854775807) (HT : Hid (TabB w)) :
    Calls Tryd.prog 75 #[.int .i64 m] w fun e w' => e = .returned (.int .i64 (Lib.ctz 64 m)) ∧ w' = w := by
  have d0 : decide ((m : Int) ≤ 0) = false := by simp; omega
  have d1 : decide (m = 0) = false := by simp; omega
  have hn : ¬ (m : Int) ≤ 0 := by omega
  go_enter Tryd.func75, Tryd.ntmps75
  go_wp2_with (go_at_call 85; refine (tz m _ (by omega) (by omega) HT.out).mono ?_; rintro e w' ⟨rfl, rfl⟩)
  go_ret
  exact ⟨rfl, rfl⟩

theorem TabB.later {w w' : World} (h : TabB w) (hb : Below w.heap.size w w') : TabB w' := fun j hj => by
  have := h j hj
  exact (hb.cell (p := ⟨1, j, none⟩) (World.block_lt_of_cell? _ _ this)).trans this
theorem zeros (m : Nat) (w : World) (h1 : m ≤ 9223372036854775807) (HT : Hid (TabB w)) :
    Calls Tryd.prog 75 #[.int .i64 m] w fun e w' => e = .returned (.int .i64 (zer m : Nat)) ∧ w' = w := by
  unfold zer
  by_cases h : m = 0
  · subst h
    exact zeros_no 0 w (by omega)
  · rw [if_neg h]
    exact zeros_yes m w (by omega) h1 HT
theorem bitsN (m : Nat) (w : World) (h1 : m ≤ 9223372036854775807) :
    Calls Tryd.prog 76 #[.int .i64 m] w fun e w' => e = .returned (.int .i64 (Lib.bitLen m : Nat)) ∧ w' = w := by
  have := bits_any m w (by omega) (by omega)
  rw [Int.toNat_natCast] at this
  exact this
end Go.Proofs.YtmmbkfagchaocaaDoor.xc
