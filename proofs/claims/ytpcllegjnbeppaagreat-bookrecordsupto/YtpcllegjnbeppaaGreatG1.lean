import Derived.PlainAid
import Derived.WalkKit
import Derived.Tactics
import Derived.Below
import Derived.BigQuiet
import Derived.Laws.AppendOwn
import Derived.Laws.OwnMore
import Derived.Test.YtpcllegjnbeppaaGreatProg
import Derived.Deep.MidRow
import Derived.Laws.BitsAllLaws
import Derived.WalkSpells
import Derived.Laws.BytesString
import Derived.Laws.MakeOwn
import Derived.OwnWalk
namespace Go.Proofs.YtpcllegjnbeppaaGreat.ca
set_option linter.unusedVariables false

-- the level of the piece at p, h leaves being left
def Lv (p h k : Nat) : Prop := k ≤ 62 ∧ 2 ^ k ∣ p ∧ 2 ^ k ≤ h ∧ (k = 62 ∨ ¬ 2 ^ (k + 1) ∣ p ∨ h < 2 ^ (k + 1))
theorem p2 (k : Nat) : 0 < 2 ^ k := Nat.two_pow_pos k
theorem p2s (k : Nat) : 2 ^ (k + 1) = 2 * 2 ^ k := by rw [Nat.pow_succ, Nat.mul_comm]
theorem p2le {j k : Nat} (h : j ≤ k) : 2 ^ j ≤ 2 ^ k := Nat.pow_le_pow_right (by decide) h
theorem p2dvd {j k : Nat} (h : j ≤ k) : 2 ^ j ∣ 2 ^ k := Nat.pow_dvd_pow 2 h
theorem p2lt {j k : Nat} (h : 2 ^ j < 2 ^ k) : j < k := by
  rcases Nat.lt_or_ge j k with e | e
  · exact e
  · have := p2le e; omega
theorem Lv.unique {p h k k' : Nat} (a : Lv p h k) (b : Lv p h k') : k = k' := by
  have key : ∀ {k k' : Nat}, Lv p h k → Lv p h k' → ¬ k < k' := by
    intro k k' a b hlt
    have h1 : 2 ^ (k + 1) ∣ p := Nat.dvd_trans (p2dvd hlt) b.2.1
    have h2 : 2 ^ (k + 1) ≤ h := Nat.le_trans (p2le hlt) b.2.2.1
    rcases a.2.2.2 with e | e | e
    · have := b.1; omega
    · exact e h1
    · omega
  have := key a b
  have := key b a
  omega
def lvF (p h : Nat) : Nat → Nat → Nat
  | 0, k => k
  | f + 1, k => if 2 ^ (k + 1) ∣ p ∧ 2 ^ (k + 1) ≤ h then lvF p h f (k + 1) else k
theorem lvF_lv (p h f k : Nat) (hf : f + k = 62) (h1 : 2 ^ k ∣ p) (h2 : 2 ^ k ≤ h) : Lv p h (lvF p h f k) := by
  induction f generalizing k with
  | zero => exact ⟨by show k ≤ 62; omega, h1, h2, .inl (by show k = 62; omega)⟩
  | succ f ih =>
    unfold lvF
    split
    · rename_i hh
      exact ih (k + 1) (by omega) hh.1 hh.2
    · rename_i hh
      refine ⟨by omega, h1, h2, .inr ?_⟩
      rcases Decidable.em (2 ^ (k + 1) ∣ p) with e | e
      · exact .inr (Nat.lt_of_not_le fun e' => hh ⟨e, e'⟩)
      · exact .inl e
def lv (p h : Nat) : Nat := lvF p h 62 0
theorem lv_lv (p h : Nat) (hh : 0 < h) : Lv p h (lv p h) := lvF_lv p h 62 0 rfl (Nat.one_dvd p) hh
-- the pieces from p up to hi
def cov (p hi : Nat) : List (Nat × Nat) :=
  if h : p < hi then (lv p (hi - p), p / 2 ^ lv p (hi - p)) :: cov (p + 2 ^ lv p (hi - p)) hi else []
termination_by hi - p
decreasing_by have := p2 (lv p (hi - p)); omega
theorem cov_end {p hi : Nat} (h : ¬ p < hi) : cov p hi = [] := by rw [cov, dif_neg h]
theorem cov_at {p hi k : Nat} (h : p < hi) (hk : Lv p (hi - p) k) : cov p hi = (k, p / 2 ^ k) :: cov (p + 2 ^ k) hi := by
  rw [cov, dif_pos h, Lv.unique (lv_lv p (hi - p) (by omega)) hk]
theorem cov_fold {p hi : Nat} (P : Nat → Nat → Prop) (h0 : ∀ p, ¬ p < hi → P p hi) (h1 : ∀ p k, p < hi → Lv p (hi - p) k → P (p + 2 ^ k) hi → P p hi) : P p hi := by
  generalize hn : hi - p = n
  induction n using Nat.strongRecOn generalizing p with
  | ind n ih =>
    rcases Nat.lt_or_ge p hi with e | e
    · have hl := lv_lv p (hi - p) (by omega)
      refine h1 p _ e hl (ih (hi - (p + 2 ^ lv p (hi - p))) ?_ rfl)
      have := p2 (lv p (hi - p))
      omega
    · exact h0 p (by omega)
-- below a place that 2^j divides, with fewer than 2^j leaves: the greatest power that fits
theorem lv_low {p h k j : Nat} (hj : 2 ^ j ∣ p) (hh : h < 2 ^ j) (hk : k < j) (h62 : k ≤ 62) (h1 : 2 ^ k ≤ h) (h2 : h < 2 ^ (k + 1)) : Lv p h k :=
  ⟨h62, Nat.dvd_trans (p2dvd (Nat.le_of_lt hk)) hj, h1, .inr (.inr h2)⟩
theorem low_is {p h k j : Nat} (hj : 2 ^ j ∣ p) (hh : h < 2 ^ j) (hl : Lv p h k) (hb : h < 2 ^ 63) : k < j ∧ h < 2 ^ (k + 1) := by
  have hkj : k < j := p2lt (Nat.lt_of_le_of_lt hl.2.2.1 hh)
  refine ⟨hkj, ?_⟩
  rcases hl.2.2.2 with e | e | e
  · subst e; exact hb
  · exact absurd (Nat.dvd_trans (p2dvd hkj) hj) e
  · exact e
theorem down_len (j : Nat) : ∀ (p h : Nat), 2 ^ j ∣ p → h < 2 ^ j → h < 2 ^ 63 → (cov p (p + h)).length ≤ j := by
  induction j using Nat.strongRecOn with
  | ind j ih =>
    intro p h hj hh hb
    rcases Nat.eq_zero_or_pos h with e | e
    · subst e; rw [cov_end (by omega)]; exact Nat.zero_le _
    · have hl : Lv p (p + h - p) (lv p (p + h - p)) := lv_lv _ _ (by omega)
      rw [Nat.add_sub_cancel_left] at hl
      obtain ⟨k, hk⟩ : ∃ k, lv p h = k := ⟨_, rfl⟩
      rw [hk] at hl
      obtain ⟨h1, h2⟩ := low_is hj hh hl hb
      have hs := p2s k
      rw [cov_at (by omega) (by rw [Nat.add_sub_cancel_left]; exact hl), List.length_cons]
      have := ih k h1 (p + 2 ^ k) (h - 2 ^ k) (Nat.dvd_add (Nat.dvd_trans (p2dvd (Nat.le_of_lt h1)) hj) (Nat.dvd_refl _)) (by omega) (by omega)
      rw [show p + 2 ^ k + (h - 2 ^ k) = p + h by have := hl.2.2.1; omega] at this
      omega
theorem dvd_pos_le {k p : Nat} (h : 2 ^ k ∣ p) (hp : 0 < p) : 2 ^ k ≤ p := Nat.le_of_dvd hp h
theorem up_len (n : Nat) : ∀ (j p h : Nat), 61 - j = n → j ≤ 61 → 0 < p → 2 ^ j ∣ p → p + h ≤ 2 ^ 62 → (cov p (p + h)).length ≤ 122 - j := by
  induction n using Nat.strongRecOn with
  | ind n ih =>
    intro j p h hn hj61 hp hj hb
    have hb63 : h < 2 ^ 63 := by have : (2 : Nat) ^ 63 = 2 * 2 ^ 62 := p2s 62; have := p2 62; omega
    rcases Nat.lt_or_ge h (2 ^ j) with e | e
    · have := down_len j p h hj e hb63; omega
    · have h0 : 0 < h := Nat.lt_of_lt_of_le (p2 j) e
      have hl := lv_lv p h h0
      obtain ⟨k, hk⟩ : ∃ k, lv p h = k := ⟨_, rfl⟩
      rw [hk] at hl
      have hs := p2s k
      have hpk := dvd_pos_le hl.2.1 hp
      have hcov := cov_at (p := p) (hi := p + h) (k := k) (by omega) (by rw [Nat.add_sub_cancel_left]; exact hl)
      have hk61 : k ≤ 61 := by
        rcases Nat.lt_or_ge k 62 with g | g
        · omega
        · have := p2le g; have := p2 62; have := hl.2.2.1; omega
      have heq : p + 2 ^ k + (h - 2 ^ k) = p + h := by have := hl.2.2.1; omega
      rw [hcov, List.length_cons]
      rcases Nat.lt_or_ge h (2 ^ (k + 1)) with g | g
      · have hd := down_len k (p + 2 ^ k) (h - 2 ^ k) (Nat.dvd_add hl.2.1 (Nat.dvd_refl _)) (by omega) (by omega)
        rw [heq] at hd
        rcases Nat.lt_or_ge j 61 with q | q
        · omega
        · -- j = 61: the whole upper half
          have q : j = 61 := by omega
          subst q
          have h61 := dvd_pos_le hj hp
          have e62 : (2 : Nat) ^ 62 = 2 * 2 ^ 61 := p2s 61
          have hh : h = 2 ^ 61 := by omega
          have : k = 61 := by
            rcases Nat.lt_or_ge k 61 with q | q
            · have := p2le (show k + 1 ≤ 61 from q); omega
            · omega
          subst this
          rw [cov_end (by omega)]
          simp
      · -- as much as divides p
        have hnd : ¬ 2 ^ (k + 1) ∣ p := by
          rcases hl.2.2.2 with q | q | q
          · omega
          · exact q
          · omega
        have hk60 : k ≤ 60 := by
          rcases Nat.lt_or_ge k 61 with q | q
          · omega
          · have : k = 61 := by omega
            subst this
            have e62 : (2 : Nat) ^ 62 = 2 * 2 ^ 61 := p2s 61
            have := p2 61
            omega
        have hjk : j ≤ k := by
          rcases Nat.lt_or_ge k j with q | q
          · exact absurd (Nat.dvd_trans (p2dvd q) hj) hnd
          · exact q
        have hd : 2 ^ (k + 1) ∣ p + 2 ^ k := by
          obtain ⟨c, hc⟩ := hl.2.1
          rcases Nat.mod_two_eq_zero_or_one c with q | q
          · exact absurd ⟨c / 2, by rw [hs, Nat.mul_assoc, Nat.mul_left_comm, show 2 * (c / 2) = c by omega]; exact hc⟩ hnd
          · exact ⟨(c + 1) / 2, by rw [hs, Nat.mul_assoc, Nat.mul_left_comm, show 2 * ((c + 1) / 2) = c + 1 by omega, Nat.mul_add, ← hc, Nat.mul_one]⟩
        have := ih (61 - (k + 1)) (by omega) (k + 1) (p + 2 ^ k) (h - 2 ^ k) rfl (by omega) (by omega) hd (by omega)
        rw [heq] at this
        omega
theorem cov_len (lo hi : Nat) (h : lo ≤ hi) (hb : hi ≤ 2 ^ 62) : (cov lo hi).length ≤ 122 := by
  obtain ⟨n, rfl⟩ : ∃ n, hi = lo + n := ⟨hi - lo, by omega⟩
  rcases Nat.eq_zero_or_pos lo with e | e
  · subst e
    have e63 : (2 : Nat) ^ 63 = 2 * 2 ^ 62 := p2s 62
    have := p2 62
    have := down_len 63 0 n (Nat.dvd_zero _) (by omega) (by omega)
    omega
  · exact up_len 61 0 lo n rfl (by omega) e (Nat.one_dvd _) hb
-- no piece's parent lies within the range
def Inv (lo hi p : Nat) : Prop := lo ≤ p ∧ ∀ m, 2 ^ m ∣ p → ¬ 2 ^ (m + 1) ∣ p → lo + 2 ^ m ≤ p → hi < p + 2 ^ m
theorem Inv.start (lo hi : Nat) : Inv lo hi lo := ⟨Nat.le_refl _, fun m _ _ h => by have := p2 m; omega⟩
theorem odd_of {k p : Nat} (h1 : 2 ^ k ∣ p) (h2 : ¬ 2 ^ (k + 1) ∣ p) : ∃ c, p = 2 ^ (k + 1) * c + 2 ^ k := by
  obtain ⟨c, hc⟩ := h1
  rcases Nat.mod_two_eq_zero_or_one c with q | q
  · exact absurd ⟨c / 2, by rw [p2s, Nat.mul_assoc, Nat.mul_left_comm, show 2 * (c / 2) = c by omega]; exact hc⟩ h2
  · refine ⟨c / 2, ?_⟩
    rw [p2s, Nat.mul_assoc, Nat.mul_left_comm, hc]
    generalize 2 ^ k = z
    obtain ⟨d, rfl⟩ : ∃ d, c = 2 * d + 1 := ⟨c / 2, by omega⟩
    rw [show (2 * d + 1) / 2 = d by omega, Nat.mul_add, Nat.mul_one]
theorem Inv.step {lo hi p k : Nat} (h : Inv lo hi p) (hlt : p < hi) (hb : hi ≤ 2 ^ 62) (hl : Lv p (hi - p) k) : Inv lo hi (p + 2 ^ k) := by
  refine ⟨by have := h.1; have := p2 k; omega, fun m m1 m2 m3 => ?_⟩
  rcases Nat.lt_or_ge hi (p + 2 ^ k + 2 ^ m) with g | g
  · exact g
  · exfalso
    have hs := p2s k
    have hkm : k ≤ m := by
      rcases Nat.lt_or_ge m k with q | q
      · exact absurd (Nat.dvd_add (Nat.dvd_trans (p2dvd q) hl.2.1) (p2dvd q)) m2
      · exact q
    rcases Nat.lt_or_ge k m with q | q
    · -- p is just divided by 2^k
      have hnd : ¬ 2 ^ (k + 1) ∣ p := by
        intro hd
        have h1 : 2 ^ (k + 1) ∣ p + 2 ^ k := Nat.dvd_trans (p2dvd q) m1
        have h2 : 2 ^ (k + 1) ∣ 2 ^ k := (Nat.dvd_add_iff_right hd).2 h1
        have := Nat.le_of_dvd (p2 k) h2
        have := p2 k
        omega
      have hno : ¬ lo + 2 ^ k ≤ p := fun e => by
        have := h.2 k hl.2.1 hnd e
        have := hl.2.2.1
        omega
      have := p2le q
      omega
    · have e : m = k := by omega
      subst e
      obtain ⟨c, hc⟩ := odd_of m1 m2
      have hd : 2 ^ (m + 1) ∣ p := ⟨c, by omega⟩
      rcases hl.2.2.2 with e | e | e
      · subst e
        have := p2 62
        omega
      · exact e hd
      · omega
theorem Inv.up {lo hi p k : Nat} (h : Inv lo hi p) (hlt : p < hi) (hl : Lv p (hi - p) k) (hk : k < 62) : ¬ (lo ≤ p / 2 ^ (k + 1) * 2 ^ (k + 1) ∧ (p / 2 ^ (k + 1) + 1) * 2 ^ (k + 1) ≤ hi) := by
  rintro ⟨g1, g2⟩
  have hs := p2s k
  rcases Decidable.em (2 ^ (k + 1) ∣ p) with e | e
  · have e1 := Nat.div_mul_cancel e
    rw [Nat.add_mul, e1] at g2
    rcases hl.2.2.2 with q | q | q
    · omega
    · exact q e
    · omega
  · obtain ⟨c, hc⟩ := odd_of hl.2.1 e
    have hq : p / 2 ^ (k + 1) = c := by
      rw [hc, Nat.mul_add_div (p2 _), Nat.div_eq_of_lt (by have := p2 k; omega), Nat.add_zero]
    rw [hq, Nat.mul_comm] at g1
    have hno : ¬ lo + 2 ^ k ≤ p := fun e' => by
      have := h.2 k hl.2.1 e e'
      have := hl.2.2.1
      omega
    omega
end Go.Proofs.YtpcllegjnbeppaaGreat.ca

namespace Go.Proofs.YtpcllegjnbeppaaGreat.cb
open Go.Proofs.YtpcllegjnbeppaaGreat.ca
set_option linter.unusedVariables false

-- the binary digits 1 below j, the greatest first
def digs : Nat → Nat → List Nat
  | 0, _ => []
  | j + 1, h => if h / 2 ^ j % 2 = 1 then j :: digs j h else digs j h
theorem digs_add (i r : Nat) : ∀ j, j ≤ i → digs j (2 ^ i + r) = digs j r := by
  intro j
  induction j with
  | zero => intro _; rfl
  | succ j ih =>
    intro h
    have e : (2 ^ i + r) / 2 ^ j % 2 = r / 2 ^ j % 2 := by
      obtain ⟨d, rfl⟩ : ∃ d, i = j + (d + 1) := ⟨i - j - 1, by omega⟩
      rw [Nat.pow_add, Nat.mul_add_div (p2 j), p2s d]
      omega
    unfold digs
    rw [e, ih (by omega)]
theorem digs_low {j h : Nat} (hh : h < 2 ^ j) : digs (j + 1) h = digs j h := by
  show (if h / 2 ^ j % 2 = 1 then _ else _) = _
  rw [Nat.div_eq_of_lt hh, if_neg (by decide)]
theorem cov_digs (j : Nat) : ∀ (p h : Nat), 2 ^ j ∣ p → h < 2 ^ j → j ≤ 63 → (cov p (p + h)).map Prod.fst = digs j h := by
  induction j with
  | zero =>
    intro p h _ hh _
    have : h = 0 := by have : (2 : Nat) ^ 0 = 1 := rfl; omega
    subst this
    rw [cov_end (by omega)]
    rfl
  | succ j ih =>
    intro p h hd hh hj
    have hs := p2s j
    have hd' : 2 ^ j ∣ p := Nat.dvd_trans (p2dvd (Nat.le_succ j)) hd
    rcases Nat.lt_or_ge h (2 ^ j) with g | g
    · rw [digs_low g]
      exact ih p h hd' g (by omega)
    · rw [cov_at (k := j) (by have := p2 j; omega) (by rw [Nat.add_sub_cancel_left]; exact ⟨by omega, hd', g, .inr (.inr hh)⟩), List.map_cons]
      have := ih (p + 2 ^ j) (h - 2 ^ j) (Nat.dvd_add hd' (Nat.dvd_refl _)) (by omega) (by omega)
      rw [show p + 2 ^ j + (h - 2 ^ j) = p + h by omega] at this
      rw [this]
      have e : digs j h = digs j (h - 2 ^ j) := by
        have := digs_add j (h - 2 ^ j) j (Nat.le_refl _)
        rwa [show 2 ^ j + (h - 2 ^ j) = h by omega] at this
      show _ = (if h / 2 ^ j % 2 = 1 then _ else _)
      have q : h / 2 ^ j = 1 := by
        have : h = 2 ^ j * 1 + (h - 2 ^ j) := by omega
        rw [this, Nat.mul_add_div (p2 j), Nat.div_eq_of_lt (by omega)]
      rw [q, if_pos rfl, e]
-- the greatest power of two below n
def halfF (n : Nat) : Nat → Nat → Nat
  | 0, k => k
  | f + 1, k => if 2 * k < n then halfF n f (2 * k) else k
theorem halfF_is (n : Nat) : ∀ f j, n ≤ 2 ^ (f + j) → 2 ^ j < n → ∃ i, halfF n f (2 ^ j) = 2 ^ i ∧ 2 ^ i < n ∧ n ≤ 2 ^ (i + 1) := by
  intro f
  induction f with
  | zero => intro j h1 h2; rw [Nat.zero_add] at h1; omega
  | succ f ih =>
    intro j h1 h2
    unfold halfF
    split
    · rename_i hh
      rw [← p2s] at hh ⊢
      exact ih (j + 1) (by rw [show f + (j + 1) = f + 1 + j by omega]; exact h1) hh
    · rename_i hh
      exact ⟨j, rfl, h2, by rw [p2s]; omega⟩
def half (n : Nat) : Nat := halfF n n 1
theorem half_is {n : Nat} (h : 2 ≤ n) : ∃ i, half n = 2 ^ i ∧ 2 ^ i < n ∧ n ≤ 2 ^ (i + 1) :=
  halfF_is n n 0 (by rw [Nat.add_zero]; exact Nat.le_of_lt Nat.lt_two_pow_self) (by show 1 < n; omega)
theorem half_eq {n j : Nat} (h1 : 2 ^ j < n) (h2 : n ≤ 2 ^ (j + 1)) : half n = 2 ^ j := by
  have := p2 j
  obtain ⟨i, e, g1, g2⟩ := half_is (n := n) (by omega)
  have a : j < i + 1 := p2lt (by omega)
  have b : i < j + 1 := p2lt (by omega)
  rw [e, show i = j by omega]
section
variable {α : Type} (E : α) (N : α → α → α)
def foldP : List α → α
  | [] => E
  | [x] => x
  | x :: y :: r => N x (foldP (y :: r))
def rootP (l : List α) : α :=
  if h : 2 ≤ l.length then N (rootP (l.take (half l.length))) (rootP (l.drop (half l.length))) else l.headD E
termination_by l.length
decreasing_by
  · obtain ⟨i, e, g1, g2⟩ := half_is h
    rw [List.length_take, e]
    omega
  · obtain ⟨i, e, g1, g2⟩ := half_is h
    have := p2 i
    rw [List.length_drop, e]
    omega
theorem rootP_nil : rootP E N [] = E := by rw [rootP, dif_neg (by simp)]; rfl
theorem rootP_one (x : α) : rootP E N [x] = x := by rw [rootP, dif_neg (by simp)]; rfl
theorem rootP_two {l : List α} {j : Nat} (h1 : 2 ^ j < l.length) (h2 : l.length ≤ 2 ^ (j + 1)) : rootP E N l = N (rootP E N (l.take (2 ^ j))) (rootP E N (l.drop (2 ^ j))) := by
  have := p2 j
  rw [rootP, dif_pos (by omega), half_eq h1 h2]
theorem rootP_half {l : List α} (h : 2 ≤ l.length) : rootP E N l = N (rootP E N (l.take (half l.length))) (rootP E N (l.drop (half l.length))) := by
  rw [rootP, dif_pos h]
def piece (L : List α) (a : Nat × Nat) : List α := (L.drop (a.2 * 2 ^ a.1)).take (2 ^ a.1)
theorem fold_roots (L : List α) (h : Nat) : ∀ (j p : Nat), 2 ^ j ∣ p → h < 2 ^ j → j ≤ 63 → p + h ≤ L.length → foldP E N ((cov p (p + h)).map fun a => rootP E N (piece L a)) = rootP E N ((L.drop p).take h) := by
  induction h using Nat.strongRecOn with
  | ind h ih =>
    intro j p hd hh hj hL
    have hb : h < 2 ^ 63 := Nat.lt_of_lt_of_le hh (p2le hj)
    rcases Nat.eq_zero_or_pos h with e | e
    · subst e
      rw [cov_end (by omega), List.take_zero, rootP_nil]
      rfl
    · have hl := lv_lv p h e
      obtain ⟨k, hk⟩ : ∃ k, lv p h = k := ⟨_, rfl⟩
      rw [hk] at hl
      obtain ⟨h1, h2⟩ := low_is hd hh hl hb
      have hs := p2s k
      have h3 := hl.2.2.1
      rw [cov_at (p := p) (k := k) (by omega) (by rw [Nat.add_sub_cancel_left]; exact hl), List.map_cons]
      have hp : piece L (k, p / 2 ^ k) = (L.drop p).take (2 ^ k) := by
        show (L.drop (p / 2 ^ k * 2 ^ k)).take (2 ^ k) = _
        rw [Nat.div_mul_cancel hl.2.1]
      rw [hp]
      rcases Nat.lt_or_ge (2 ^ k) h with g | g
      · have hne : p + 2 ^ k < p + h := by omega
        have hi := ih (h - 2 ^ k) (by have := p2 k; omega) k (p + 2 ^ k) (Nat.dvd_add hl.2.1 (Nat.dvd_refl _)) (by omega) (by omega) (by omega)
        rw [show p + 2 ^ k + (h - 2 ^ k) = p + h by omega] at hi
        have hll : ((L.drop p).take h).length = h := by rw [List.length_take, List.length_drop]; omega
        rw [rootP_two E N (l := (L.drop p).take h) (j := k) (by rw [hll]; exact g) (by rw [hll]; omega), List.take_take, Nat.min_eq_left (by omega), List.drop_take, List.drop_drop, ← hi]
        obtain ⟨y, r, hy⟩ : ∃ y r, (cov (p + 2 ^ k) (p + h)).map (fun a => rootP E N (piece L a)) = y :: r := by
          rw [cov_at hne (lv_lv _ _ (by omega)), List.map_cons]
          exact ⟨_, _, rfl⟩
        rw [hy]
        rfl
      · obtain rfl : h = 2 ^ k := by omega
        rw [cov_end (by omega)]
        rfl
theorem fold_all (L : List α) (hL : L.length < 2 ^ 63) : foldP E N ((cov 0 L.length).map fun a => rootP E N (piece L a)) = rootP E N L := by
  have := fold_roots E N L L.length 63 0 (Nat.dvd_zero _) hL (Nat.le_refl _) (by omega)
  rw [Nat.zero_add, List.drop_zero, List.take_length] at this
  exact this
end
end Go.Proofs.YtpcllegjnbeppaaGreat.cb

namespace Go.Proofs.YtpcllegjnbeppaaGreat.cp
open Go.RowKit Go.PlainAid
open Go.Proofs.YtpcllegjnbeppaaGreat.ca
set_option linter.unusedVariables false

theorem cast_pow (k : Nat) : ((2 : Int) ^ k) = ((2 ^ k : Nat) : Int) := by rw [Int.natCast_pow]; rfl
theorem p62 : (2 : Nat) ^ 62 = 4611686018427387904 := by decide
theorem p63 : (2 : Nat) ^ 63 = 9223372036854775808 := by decide
theorem wrap_is (n : Nat) (h : n < 9223372036854775808) : IntKind.i64.wrap (n : Int) = n := by
  rw [IntKind.wrap_i64]
  omega
theorem u64_is (k : Nat) (h : k ≤ 64) : IntKind.u64.wrap (k : Int) = k := by
  rw [IntKind.wrap_u64]
  omega
-- 2 to the k as the walk has it
theorem pow_int {k : Nat} (h : k ≤ 62) : IntKind.i64.wrap (1 * 2 ^ min (k : Int).toNat 64) = ((2 ^ k : Nat) : Int) := by
  rw [Int.toNat_natCast, Nat.min_eq_left (by omega), Int.one_mul, cast_pow, wrap_is]
  have := p2le h
  rw [p62] at this
  omega
def i64 (x : Int) : Prop := -9223372036854775808 ≤ x ∧ x ≤ 9223372036854775807
-- may there be such a node?
def okA (L I : Int) : Prop := 0 ≤ L ∧ L ≤ 62 ∧ 0 ≤ I ∧ I < 4611686018427387904 / 2 ^ L.toNat
instance (L I : Int) : Decidable (okA L I) := by unfold okA; infer_instance
theorem okA_nat (k i : Nat) : okA k i ↔ k ≤ 62 ∧ (i + 1) * 2 ^ k ≤ 4611686018427387904 := by
  have e : (4611686018427387904 : Int) / 2 ^ (k : Int).toNat = ((4611686018427387904 / 2 ^ k : Nat) : Int) := by
    rw [Int.toNat_natCast, cast_pow, Int.natCast_ediv]
    rfl
  have key : i < 4611686018427387904 / 2 ^ k ↔ (i + 1) * 2 ^ k ≤ 4611686018427387904 := Nat.le_div_iff_mul_le (p2 k)
  unfold okA
  rw [e, ← key]
  omega
theorem okA_form {L I : Int} (h : okA L I) : ∃ k i : Nat, L = k ∧ I = i ∧ k ≤ 62 ∧ (i + 1) * 2 ^ k ≤ 4611686018427387904 := by
  obtain ⟨k, rfl⟩ : ∃ k : Nat, L = k := ⟨L.toNat, by have := h.1; omega⟩
  obtain ⟨i, rfl⟩ : ∃ i : Nat, I = i := ⟨I.toNat, by have := h.2.2.1; omega⟩
  exact ⟨k, i, rfl, rfl, ((okA_nat k i).1 h).1, ((okA_nat k i).1 h).2⟩
def av (L I : Int) : Value := .agg #[.int .i64 L, .int .i64 I]
def spV (L I : Int) : Value := if okA L I then .tuple #[.int .i64 (I * 2 ^ L.toNat), .int .i64 ((I + 1) * 2 ^ L.toNat), .int .i64 0] else .tuple #[.int .i64 0, .int .i64 0, .int .i64 50]
def kinV (L I L' I' : Int) : Value := if okA L I ∧ okA L' I' then .tuple #[.agg #[.int .i64 L', .int .i64 I'], .int .i64 0] else .tuple #[.agg #[.int .i64 0, .int .i64 0], .int .i64 50]
def sib (I : Int) : Int := if I % 2 = 0 then I + 1 else I - 1
theorem spV_nat {k i : Nat} (h : okA k i) : spV k i = .tuple #[.int .i64 ((i * 2 ^ k : Nat) : Int), .int .i64 (((i + 1) * 2 ^ k : Nat) : Int), .int .i64 0] := by
  unfold spV
  rw [if_pos h, Int.toNat_natCast, cast_pow]
  simp
theorem up_fits {k i : Nat} (hk : k < 62) (h : (i + 1) * 2 ^ k ≤ 4611686018427387904) : (i / 2 + 1) * 2 ^ (k + 1) ≤ 4611686018427387904 := by
  obtain ⟨z, hz⟩ : ∃ z, 4611686018427387904 = 2 * z * 2 ^ k := by
    refine ⟨2 ^ (61 - k), ?_⟩
    rw [← p2s, ← Nat.pow_add, show 61 - k + 1 + k = 62 by omega]
  rw [hz] at h ⊢
  have h1 : i + 1 ≤ 2 * z := Nat.le_of_mul_le_mul_right h (p2 k)
  rw [p2s, ← Nat.mul_assoc]
  exact Nat.mul_le_mul_right _ (by omega)
theorem i64_nat {n : Nat} (h : n ≤ 4611686018427387904) : i64 (n : Int) := ⟨by omega, by omega⟩
theorem below_dN {B : Nat} {a w : World} (h : Below B a w) (n : Nat) : Below B a (w.drewN n) := ⟨h.os, h.tape, h.output, h.size, h.block⟩
theorem over {w w1 w2 : World} (h : Below w.heap.size w w1) (b : Below w1.heap.size w1 w2) : Below w.heap.size w w2 := h.trans (b.mono h.size)
theorem own_later {w w' : World} {B e size n : Nat} {v : Value} {xs : List Value} (h : w.ownsRow B e size v n xs) (hb : Below w.heap.size w w') : w'.ownsRow B e size v n xs := by
  refine ⟨h.1, ?_⟩
  rcases h.2 with hn | ⟨g, cap, cur, rfl, hg, hgg, rest⟩
  · exact .inl hn
  · exact .inr ⟨g, cap, cur, rfl, hg, by rw [hb.block g (Array.getElem?_eq_some_iff.1 hgg).1]; exact hgg, rest⟩
theorem own_down {w : World} {B B' e size n : Nat} {v : Value} {xs : List Value} (h : w.ownsRow B' e size v n xs) (hB : B ≤ B') : w.ownsRow B e size v n xs :=
  ⟨h.1, h.2.imp id fun ⟨g, cap, cur, h1, h2, h3⟩ => ⟨g, cap, cur, h1, Nat.le_trans hB h2, h3⟩⟩
-- an address in a block of its own
structure Bx (w : World) (b : Nat) (L I : Int) : Prop where
  one : w.cell? ⟨b, 0, none⟩ = some (.int .i64 L)
  two : w.cell? ⟨b, 1, none⟩ = some (.int .i64 I)
theorem Bx.later {w w' : World} {b : Nat} {L I : Int} (h : Bx w b L I) (hb : Below w.heap.size w w') : Bx w' b L I :=
  ⟨(hb.cell (p := ⟨b, 0, none⟩) (World.block_lt_of_cell? _ _ h.one)).trans h.one, (hb.cell (p := ⟨b, 1, none⟩) (World.block_lt_of_cell? _ _ h.two)).trans h.two⟩
theorem kin_no {L I L' I' : Int} (h : ¬ (okA L I ∧ okA L' I')) : kinV L I L' I' = .tuple #[.agg #[.int .i64 0, .int .i64 0], .int .i64 50] := by unfold kinV; rw [if_neg h]
theorem kin_yes {L I L' I' : Int} (h1 : okA L I) (h2 : okA L' I') : kinV L I L' I' = .tuple #[.agg #[.int .i64 L', .int .i64 I'], .int .i64 0] := by unfold kinV; rw [if_pos ⟨h1, h2⟩]
end Go.Proofs.YtpcllegjnbeppaaGreat.cp

namespace Go.Proofs.YtpcllegjnbeppaaGreat.cv
open Go.RowKit Go.PlainAid
open Go.Proofs.YtpcllegjnbeppaaGreat.cp
theorem fits64 (a : Int) (h : (Lit.int .i64 a).wf = true) : -9223372036854775808 ≤ a ∧ a ≤ 9223372036854775807 := by
  simp only [Lit.wf, Bool.and_eq_true, decide_eq_true_eq] at h
  obtain ⟨h1, h2⟩ := h
  have e1 : IntKind.i64.min = -9223372036854775808 := by decide
  have e2 : IntKind.i64.max = 9223372036854775807 := by decide
  omega
set_option maxRecDepth 100000 in
theorem i64_of {a : Int} (h : (Lit.int .i64 a).wf = true) : i64 a := fits64 a h
end Go.Proofs.YtpcllegjnbeppaaGreat.cv

namespace Go.Proofs.YtpcllegjnbeppaaGreat.ga
open Go.Proofs.YtpcllegjnbeppaaGreat.ca Go.Proofs.YtpcllegjnbeppaaGreat.cb
set_option linter.unusedVariables false

theorem half_lt {n : Nat} (h : 2 ≤ n) : 1 ≤ half n ∧ half n < n ∧ n ≤ 2 * half n := by
  obtain ⟨i, e, g1, g2⟩ := half_is h
  have := p2 i
  rw [p2s] at g2
  rw [e]
  omega
section
variable {α : Type} (E : α) (N : α → α → α)
-- the inclusion proof of place i; the consistency proof
def pathP (i : Nat) (l : List α) : List α :=
  if h : 2 ≤ l.length then
    if i < half l.length then pathP i (l.take (half l.length)) ++ [rootP E N (l.drop (half l.length))]
    else pathP (i - half l.length) (l.drop (half l.length)) ++ [rootP E N (l.take (half l.length))]
  else []
termination_by l.length
decreasing_by
  · have := half_lt h; rw [List.length_take]; omega
  · have := half_lt h; rw [List.length_drop]; omega
theorem pathP_one {i : Nat} {l : List α} (h : ¬ 2 ≤ l.length) : pathP E N i l = [] := by rw [pathP, dif_neg h]
theorem pathP_low {i : Nat} {l : List α} (h : 2 ≤ l.length) (hi : i < half l.length) : pathP E N i l = pathP E N i (l.take (half l.length)) ++ [rootP E N (l.drop (half l.length))] := by rw [pathP, dif_pos h, if_pos hi]
theorem pathP_high {i : Nat} {l : List α} (h : 2 ≤ l.length) (hi : ¬ i < half l.length) : pathP E N i l = pathP E N (i - half l.length) (l.drop (half l.length)) ++ [rootP E N (l.take (half l.length))] := by rw [pathP, dif_pos h, if_neg hi]
theorem pathP_len (n : Nat) : ∀ (i : Nat) (l : List α), l.length = n → (pathP E N i l).length ≤ n - 1 := by
  induction n using Nat.strongRecOn with
  | ind n ih =>
    intro i l hl
    by_cases h : 2 ≤ l.length
    · have hh := half_lt h
      by_cases hi : i < half l.length
      · rw [pathP_low E N h hi, List.length_append]
        have := ih (half l.length) (by omega) i (l.take (half l.length)) (by rw [List.length_take]; omega)
        simp
        omega
      · rw [pathP_high E N h hi, List.length_append]
        have := ih (l.length - half l.length) (by omega) (i - half l.length) (l.drop (half l.length)) (by rw [List.length_drop])
        simp
        omega
    · rw [pathP_one E N h]; simp
def subP (m : Nat) (l : List α) (b : Bool) : List α :=
  if h : m < l.length ∧ 2 ≤ l.length then
    if m ≤ half l.length then subP m (l.take (half l.length)) b ++ [rootP E N (l.drop (half l.length))]
    else subP (m - half l.length) (l.drop (half l.length)) false ++ [rootP E N (l.take (half l.length))]
  else if b then [] else [rootP E N l]
termination_by l.length
decreasing_by
  · have := half_lt h.2; rw [List.length_take]; omega
  · have := half_lt h.2; rw [List.length_drop]; omega
theorem subP_all {m : Nat} {l : List α} {b : Bool} (h : ¬ m < l.length) : subP E N m l b = if b then [] else [rootP E N l] := by rw [subP, dif_neg (fun hh => h hh.1)]
theorem subP_low {m : Nat} {l : List α} {b : Bool} (h : m < l.length) (h2 : 2 ≤ l.length) (hm : m ≤ half l.length) : subP E N m l b = subP E N m (l.take (half l.length)) b ++ [rootP E N (l.drop (half l.length))] := by rw [subP, dif_pos ⟨h, h2⟩, if_pos hm]
theorem subP_high {m : Nat} {l : List α} {b : Bool} (h : m < l.length) (h2 : 2 ≤ l.length) (hm : ¬ m ≤ half l.length) : subP E N m l b = subP E N (m - half l.length) (l.drop (half l.length)) false ++ [rootP E N (l.take (half l.length))] := by rw [subP, dif_pos ⟨h, h2⟩, if_neg hm]
theorem subP_len (n : Nat) : ∀ (m : Nat) (l : List α) (b : Bool), l.length = n → 1 ≤ n → (subP E N m l b).length ≤ n := by
  induction n using Nat.strongRecOn with
  | ind n ih =>
    intro m l b hl hn
    by_cases h : m < l.length ∧ 2 ≤ l.length
    · have hh := half_lt h.2
      by_cases hm : m ≤ half l.length
      · rw [subP_low E N h.1 h.2 hm, List.length_append]
        have := ih (half l.length) (by omega) m (l.take (half l.length)) b (by rw [List.length_take]; omega) (by omega)
        simp
        omega
      · rw [subP_high E N h.1 h.2 hm, List.length_append]
        have := ih (l.length - half l.length) (by omega) (m - half l.length) (l.drop (half l.length)) false (by rw [List.length_drop]) (by omega)
        simp
        omega
    · rw [subP, dif_neg h]
      split <;> simp <;> omega
-- parts of a part
theorem root_take {l : List α} {m : Nat} (h2 : 2 ≤ l.length) (h : half l.length < m) (hm : m < l.length) : rootP E N (l.take m) = N (rootP E N (l.take (half l.length))) (rootP E N ((l.drop (half l.length)).take (m - half l.length))) := by
  obtain ⟨i, e, g1, g2⟩ := half_is h2
  have hl : (l.take m).length = m := by rw [List.length_take]; omega
  have hk : half (l.take m).length = half l.length := by rw [hl, e]; exact half_eq (by omega) (by omega)
  rw [rootP_half E N (l := l.take m) (by rw [hl]; have := p2 i; omega), hk, List.take_take, Nat.min_eq_left (by omega), List.drop_take]
end
end Go.Proofs.YtpcllegjnbeppaaGreat.ga

namespace Go.Proofs.YtpcllegjnbeppaaGreat.kp
open Go.RowKit Go.PlainAid
open Go.Proofs.YtpcllegjnbeppaaGreat.ca Go.Proofs.YtpcllegjnbeppaaGreat.cb Go.Proofs.YtpcllegjnbeppaaGreat.cp Go.Proofs.YtpcllegjnbeppaaGreat.ga
set_option linter.unusedVariables false

-- but for the blocks of A the world is as it was
structure Kp (A : Nat → Prop) (w w' : World) : Prop where
  os : w'.os = w.os
  tape : w'.tape = w.tape
  output : w'.output = w.output
  size : w.heap.size ≤ w'.heap.size
  block : ∀ k, k < w.heap.size → ¬ A k → w'.heap[k]? = w.heap[k]?
theorem Kp.refl (A : Nat → Prop) (w : World) : Kp A w w := ⟨rfl, rfl, rfl, Nat.le_refl _, fun _ _ _ => rfl⟩
theorem Kp.trans {A : Nat → Prop} {a b c : World} (x : Kp A a b) (y : Kp A b c) : Kp A a c :=
  ⟨y.os.trans x.os, y.tape.trans x.tape, y.output.trans x.output, Nat.le_trans x.size y.size, fun k hk hn => (y.block k (Nat.lt_of_lt_of_le hk x.size) hn).trans (x.block k hk hn)⟩
theorem Kp.mono {A B : Nat → Prop} {w w' : World} (x : Kp A w w') (h : ∀ k, A k → B k) : Kp B w w' := ⟨x.os, x.tape, x.output, x.size, fun k hk hn => x.block k hk (fun a => hn (h k a))⟩
theorem Kp.of_below {A : Nat → Prop} {w w' : World} (x : Below w.heap.size w w') : Kp A w w' := ⟨x.os, x.tape, x.output, x.size, fun k hk _ => x.block k hk⟩
theorem Kp.setCell {A : Nat → Prop} (w : World) (b o : Nat) (v : Value) (hb : A b) : Kp A w (w.setCell ⟨b, o, none⟩ v) :=
  ⟨rfl, rfl, rfl, by simp [World.setCell], fun k hk hn => Below.heap_setCell _ _ _ _ (fun e => hn (e ▸ hb))⟩
theorem Kp.below {A : Nat → Prop} {B : Nat} {w w' : World} (x : Kp A w w') (hA : ∀ k, A k → B ≤ k) (hB : B ≤ w.heap.size) : Below B w w' :=
  ⟨x.os, x.tape, x.output, x.size, fun k hk => x.block k (by omega) (fun a => by have := hA k a; omega)⟩
theorem Kp.cell {A : Nat → Prop} {w w' : World} (x : Kp A w w') {b o : Nat} {v : Value} (h : w.cell? ⟨b, o, none⟩ = some v) (hn : ¬ A b) : w'.cell? ⟨b, o, none⟩ = some v := by
  have hlt := World.block_lt_of_cell? _ _ h
  have := x.block b hlt hn
  rw [← h]
  unfold World.cell?
  rw [show (⟨b, o, none⟩ : Addr).block = b from rfl, this]
-- a walk down the parts that keeps something in mind: what it does at a part, what stands there, how two halves are joined
structure Wy (X V : Type) where
  lk : X → Nat → Nat → Nat × X
  hv : X → Nat → Nat → Nat → V × X
  jn : V → V → V
def go {X V : Type} (W : Wy X V) (x : X) (a b : Nat) : V × X :=
  if (W.lk x a b).1 < 2 then W.hv (W.lk x a b).2 a b (W.lk x a b).1
  else if h : 2 ≤ b - a then
    if (W.lk x a b).1 = 2 then
      (W.jn (go W (W.lk x a b).2 a (a + half (b - a))).1 (go W (go W (W.lk x a b).2 a (a + half (b - a))).2 (a + half (b - a)) b).1, (go W (go W (W.lk x a b).2 a (a + half (b - a))).2 (a + half (b - a)) b).2)
    else
      (W.jn (go W (go W (W.lk x a b).2 (a + half (b - a)) b).2 a (a + half (b - a))).1 (go W (W.lk x a b).2 (a + half (b - a)) b).1, (go W (go W (W.lk x a b).2 (a + half (b - a)) b).2 a (a + half (b - a))).2)
  else W.hv (W.lk x a b).2 a b 0
termination_by b - a
decreasing_by all_goals (have := half_lt h; omega)
theorem go_stop {X V : Type} {W : Wy X V} {x : X} {a b : Nat} (h : (W.lk x a b).1 < 2) : go W x a b = W.hv (W.lk x a b).2 a b (W.lk x a b).1 := by rw [go, if_pos h]
theorem go_left {X V : Type} {W : Wy X V} {x : X} {a b : Nat} (h : (W.lk x a b).1 = 2) (h2 : 2 ≤ b - a) : go W x a b = (W.jn (go W (W.lk x a b).2 a (a + half (b - a))).1 (go W (go W (W.lk x a b).2 a (a + half (b - a))).2 (a + half (b - a)) b).1, (go W (go W (W.lk x a b).2 a (a + half (b - a))).2 (a + half (b - a)) b).2) := by rw [go, if_neg (by omega), dif_pos h2, if_pos h]
theorem go_right {X V : Type} {W : Wy X V} {x : X} {a b : Nat} (h : 3 ≤ (W.lk x a b).1) (h2 : 2 ≤ b - a) : go W x a b = (W.jn (go W (go W (W.lk x a b).2 (a + half (b - a)) b).2 a (a + half (b - a))).1 (go W (W.lk x a b).2 (a + half (b - a)) b).1, (go W (go W (W.lk x a b).2 (a + half (b - a)) b).2 a (a + half (b - a))).2) := by rw [go, if_neg (by omega), dif_pos h2, if_neg (by omega)]
-- F: the blocks that are written; P: what is asked of a part ahead of its walk; Q: what holds of what is made
structure Wk {X V : Type} (F : Nat → Prop) (St : X → World → Prop) (enc : V → Value) (W : Wy X V) (P : X → Nat → Nat → Prop) (Q : V → Prop) (lg hg jg : Nat) (lv hv jv : Array Value) : Prop where
  lent : ∀ args w, (callFunc lg args).run Tryz.prog w = .ok (.enter lg args) w
  hent : ∀ args w, (callFunc hg args).run Tryz.prog w = .ok (.enter hg args) w
  jent : ∀ args w, (callFunc jg args).run Tryz.prog w = .ok (.enter jg args) w
  later : ∀ {x w w'}, St x w → Below w.heap.size w w' → St x w'
  fl : ∀ {x w}, St x w → ∀ b, F b → b < w.heap.size
  look : ∀ x (a b : Nat) w, a < b → b ≤ 4611686018427387904 → P x a b → St x w → Calls Tryz.prog lg (#[.agg #[.int .i64 a, .int .i64 b]] ++ lv) w fun e w' => e = .returned (.int .i64 ((W.lk x a b).1 : Nat)) ∧ St (W.lk x a b).2 w' ∧ Kp F w w'
  have' : ∀ x (a b : Nat) w, a < b → b ≤ 4611686018427387904 → P x a b → (W.lk x a b).1 < 2 → St (W.lk x a b).2 w → Calls Tryz.prog hg (#[.agg #[.int .i64 a, .int .i64 b], .int .i64 ((W.lk x a b).1 : Nat)] ++ hv) w fun e w' => e = .returned (enc (W.hv (W.lk x a b).2 a b (W.lk x a b).1).1) ∧ St (W.hv (W.lk x a b).2 a b (W.lk x a b).1).2 w' ∧ Kp F w w'
  join : ∀ l r x w, Q l → Q r → St x w → Calls Tryz.prog jg (#[enc l, enc r] ++ jv) w fun e w' => e = .returned (enc (W.jn l r)) ∧ Below w.heap.size w w'
  qh : ∀ {x a b}, a < b → P x a b → (W.lk x a b).1 < 2 → Q (W.hv (W.lk x a b).2 a b (W.lk x a b).1).1
  qj : ∀ {l r}, Q l → Q r → Q (W.jn l r)
  wide : ∀ {x a b}, a < b → P x a b → 2 ≤ (W.lk x a b).1 → 2 ≤ b - a
  four : ∀ {x a b}, a < b → P x a b → (W.lk x a b).1 ≤ 3
  left : ∀ {x a b}, a < b → P x a b → (W.lk x a b).1 = 2 → P (W.lk x a b).2 a (a + half (b - a)) ∧ P (go W (W.lk x a b).2 a (a + half (b - a))).2 (a + half (b - a)) b
  right : ∀ {x a b}, a < b → P x a b → (W.lk x a b).1 = 3 → P (W.lk x a b).2 (a + half (b - a)) b ∧ P (go W (W.lk x a b).2 (a + half (b - a)) b).2 a (a + half (b - a))
end Go.Proofs.YtpcllegjnbeppaaGreat.kp

namespace Go.Proofs.YtpcllegjnbeppaaGreat.ka
open Go.RowKit Go.PlainAid
open Go.Proofs.YtpcllegjnbeppaaGreat.ca Go.Proofs.YtpcllegjnbeppaaGreat.cp
set_option linter.unusedVariables false

-- a list of texts, wherever it lies
def ReadsT (w : World) (v : Value) (xs : List ByteArray) : Prop :=
  ∃ a cap, v = .slice a xs.length cap ∧ xs.length ≤ cap ∧ (xs.length = 0 ∨ ∃ b off, a = some ⟨b, off, none⟩ ∧ ∀ i, i < xs.length → w.cell? ⟨b, off + i, none⟩ = some (.string (xs.getD i ByteArray.empty)))
theorem ReadsT.later {w w' : World} {v : Value} {xs : List ByteArray} (h : ReadsT w v xs) (hb : Below w.heap.size w w') : ReadsT w' v xs := by
  obtain ⟨a, cap, rfl, hc, h0 | ⟨b, off, rfl, hh⟩⟩ := h
  · exact ⟨a, cap, rfl, hc, .inl h0⟩
  · refine ⟨_, cap, rfl, hc, .inr ⟨b, off, rfl, fun i hi => ?_⟩⟩
    have := hh i hi
    exact (hb.cell (p := ⟨b, off + i, none⟩) (World.block_lt_of_cell? _ _ this)).trans this
theorem ReadsT.front {w : World} {b off n cap k : Nat} {xs : List ByteArray} (h : ReadsT w (.slice (some ⟨b, off, none⟩) n cap) xs) (hk : k ≤ xs.length) : ReadsT w (.slice (some ⟨b, off, none⟩) k cap) (xs.take k) := by
  obtain ⟨a, cap', e, hc, hh⟩ := h
  injection e with e1 e2 e3
  subst e1 e3
  have hl : (xs.take k).length = k := by rw [List.length_take]; omega
  refine ⟨_, cap, by rw [hl], by omega, ?_⟩
  rcases hh with h0 | ⟨b', off', e4, hh⟩
  · left; omega
  · injection e4 with e4
    injection e4 with e5 e6
    subst e5 e6
    refine .inr ⟨b, off, rfl, fun i hi => ?_⟩
    rw [hl] at hi
    rw [hh i (by omega), List.getD_eq_getElem?_getD, List.getD_eq_getElem?_getD, List.getElem?_take, if_pos hi]
theorem ReadsT.back {w : World} {b off n cap k : Nat} {xs : List ByteArray} (h : ReadsT w (.slice (some ⟨b, off, none⟩) n cap) xs) (hk : k ≤ xs.length) : ReadsT w (.slice (some ⟨b, off + k, none⟩) (n - k) (cap - k)) (xs.drop k) := by
  obtain ⟨a, cap', e, hc, hh⟩ := h
  injection e with e1 e2 e3
  subst e1 e2 e3
  have hl : (xs.drop k).length = xs.length - k := List.length_drop
  refine ⟨_, cap - k, by rw [hl], by omega, ?_⟩
  rcases hh with h0 | ⟨b', off', e4, hh⟩
  · left; omega
  · injection e4 with e4
    injection e4 with e5 e6
    subst e5 e6
    refine .inr ⟨b, off + k, rfl, fun i hi => ?_⟩
    rw [hl] at hi
    rw [Nat.add_assoc, hh (k + i) (by omega), List.getD_eq_getElem?_getD, List.getD_eq_getElem?_getD, List.getElem?_drop]
theorem ReadsT.mid {w : World} {b off n cap f k : Nat} {xs : List ByteArray} (h : ReadsT w (.slice (some ⟨b, off, none⟩) n cap) xs) (hk : f + k ≤ xs.length) : ReadsT w (.slice (some ⟨b, off + f, none⟩) k (cap - f)) ((xs.drop f).take k) := by
  have h1 := h.back (k := f) (by omega)
  exact ReadsT.front (n := n - f) h1 (by rw [List.length_drop]; omega)
theorem own_readsT {w : World} {B n : Nat} {v : Value} {xs : List ByteArray} (h : w.ownsRow B 9 1 v n (xs.map Value.string)) : ReadsT w v xs := by
  have hn : xs.length = n := by have := h.1; simpa using this
  subst hn
  rcases h.2 with ⟨rfl, h0⟩ | ⟨g, cap, cur, rfl, _, hg, hc, _⟩
  · exact ⟨none, 0, by rw [h0], by omega, .inl h0⟩
  · refine ⟨_, cap, rfl, hc, .inr ⟨g, 0, rfl, fun i hi => ?_⟩⟩
    rw [Nat.zero_add, h.cellAt i (by omega), List.getElem?_map, List.getElem?_eq_getElem hi, List.getD_eq_getElem?_getD, List.getElem?_eq_getElem hi]
    rfl
theorem hi9 : (Tryz.prog.info? 9).map (fun i => (i.zero, i.size, i.bytes)) = some (some (.string ByteArray.empty), 1, 16) := by kernel_rfl
theorem info_parts {t : TypeId} {z : Value} {n b : Nat} (h : (Tryz.prog.info? t).map (fun i => (i.zero, i.size, i.bytes)) = some (some z, n, b)) : ∃ i, Tryz.prog.info? t = some i ∧ i.zero = some z ∧ i.size = n ∧ i.bytes = b := by
  obtain ⟨i, hi, he⟩ := Option.map_eq_some_iff.1 h
  injection he with e1 e2
  injection e2 with e2 e3
  exact ⟨i, hi, e1, e2, e3⟩
theorem own_formS {w : World} {B e size n : Nat} {v : Value} {xs : List Value} (h : w.ownsRow B e size v n xs) : ∃ a c, v = .slice a n c := by
  rcases h.2 with ⟨rfl, rfl⟩ | ⟨g, cap, cur, rfl, _⟩
  · exact ⟨_, _, rfl⟩
  · exact ⟨_, _, rfl⟩
theorem new_text (W : World) (u : Value) (t : TypeId) : ∀ (j : Nat) (x : Value), [u][j]? = some x → (W.alloc (.cells #[u] t)).cell? (Addr.add ⟨W.heap.size, 0, none⟩ j) = some x := by
  intro j x hx
  rw [show (Addr.add ⟨W.heap.size, 0, none⟩ j) = ⟨W.heap.size, j, none⟩ by cases j <;> simp [Addr.add], World.cell?_alloc_at _ _ _ _ rfl]
  simpa using hx
theorem one_text (x : ByteArray) : ∀ u ∈ [Value.string x], u.oneCell' = true := by
  intro u hu
  simp only [List.mem_cons, List.not_mem_nil, or_false] at hu
  subst hu
  rfl
theorem own_first {w : World} {B g n cap : Nat} {ys : List ByteArray} {z : Value} (h : w.ownsRow B 9 1 (.slice (some ⟨g, 0, none⟩) (n + 1) cap) (n + 1) (ys.map Value.string ++ [z])) (hn : ys.length = n) : ReadsT w (.slice (some ⟨g, 0, none⟩) n cap) ys := by
  have hc : n + 1 ≤ cap := by
    rcases h.2 with ⟨e, _⟩ | ⟨g', cap', cur, e, _, _, hc, _⟩
    · cases e
    · injection e with _ _ e3; omega
  refine ⟨_, cap, by rw [hn], by omega, .inr ⟨g, 0, rfl, fun i hi => ?_⟩⟩
  rw [Nat.zero_add, h.cellAt i (by omega), List.getElem?_append_left (by rw [List.length_map]; exact hi), List.getElem?_map, List.getElem?_eq_getElem hi, List.getD_eq_getElem?_getD, List.getElem?_eq_getElem hi]
  rfl
theorem own_behind {w : World} {B g n cap : Nat} {ys : List ByteArray} {z : Value} (h : w.ownsRow B 9 1 (.slice (some ⟨g, 0, none⟩) (n + 1) cap) (n + 1) (ys.map Value.string ++ [z])) (hn : ys.length = n) : w.cell? ⟨g, n, none⟩ = some z := by
  rw [h.cellAt n (by omega), List.getElem?_append_right (by rw [List.length_map]; omega), List.length_map, hn, Nat.sub_self]
  rfl
theorem reads_news {w : World} {ad : Addr} {n cap : Nat} {xs : List ByteArray} (h : ReadsT w (.slice (some ad) n cap) xs) : ∀ (j : Nat) (u : Value), (xs.map Value.string)[j]? = some u → w.cell? (ad.add j) = some u := by
  intro j u hu
  have hj : j < xs.length := by have := (List.getElem?_eq_some_iff.1 hu).1; simpa using this
  obtain ⟨a', cap', e, _, h0 | ⟨b, off, e4, hc⟩⟩ := h
  · omega
  · injection e with e1 e2 e3
    rw [← e1] at e4
    obtain rfl := Option.some.inj e4
    rw [Addr.add_mid, hc j hj, ← hu, List.getElem?_map, List.getElem?_eq_getElem hj, List.getD_eq_getElem?_getD, List.getElem?_eq_getElem hj]
    rfl
end Go.Proofs.YtpcllegjnbeppaaGreat.ka

namespace Go.Proofs.YtpcllegjnbeppaaGreat.pj
theorem stub_pj : True := trivial
end Go.Proofs.YtpcllegjnbeppaaGreat.pj
namespace Go.Proofs.YtpcllegjnbeppaaGreat.gb
theorem stub_gb : True := trivial
end Go.Proofs.YtpcllegjnbeppaaGreat.gb

namespace Go.Proofs.YtpcllegjnbeppaaGreat.na
open Go.PlainAid

theorem and127 (c : Int) (h0 : 0 ≤ c) (h1 : c ≤ 255) : bits .and .u8 c 127 = c % 128 := by
  rw [u8_and c 127 h0 (by omega) (by omega) (by omega)]
  have h : c.toNat &&& (127 : Int).toNat = c.toNat % 128 := Nat.and_two_pow_sub_one_eq_mod c.toNat 7
  rw [h]; omega

theorem or128 (c : Int) (h0 : 0 ≤ c) (h1 : c ≤ 255) : bits .or .u8 128 c = c % 128 + 128 := by
  rw [u8_or 128 c (by omega) (by omega) h0 (by omega)]
  have key : ∀ x : Fin 256, 128 ||| x.val = x.val % 128 + 128 := by decide +kernel
  have h : (128 : Int).toNat ||| c.toNat = c.toNat % 128 + 128 := key ⟨c.toNat, by omega⟩
  rw [h]; omega

theorem or_low (v c : Int) (h0 : 0 ≤ v) (h1 : v < 72057594037927936) (c0 : 0 ≤ c) (c1 : c ≤ 255) : bits .or .u64 (v * 256) c = v * 256 + c := by
  rw [u64_or (v * 256) c (by omega) (by omega) c0 (by omega)]
  have h : (v * 256).toNat ||| c.toNat = 2 ^ 8 * v.toNat + c.toNat := by
    rw [Nat.two_pow_add_eq_or_of_lt (by omega)]
    congr 1
    omega
  rw [h]; omega

theorem pow128 (k : Nat) : (2 : Int) ^ (7 * k) = 128 ^ k := by rw [Int.pow_mul]; rfl

theorem pow_pos (k : Nat) : (1 : Int) ≤ 128 ^ k := by
  have : (0 : Int) < 128 ^ k := Int.pow_pos (by omega)
  omega

theorem ipow_le (a : Nat) (ha : 0 < a) {m n : Nat} (h : m ≤ n) : (a : Int) ^ m ≤ (a : Int) ^ n := by
  exact_mod_cast Nat.pow_le_pow_right ha h

theorem pow_nine (k : Nat) (h : k ≤ 9) : (128 : Int) ^ k ≤ 9223372036854775808 := by
  have h1 := ipow_le 128 (by omega) h
  have h2 : ((128 : Nat) : Int) ^ 9 = 9223372036854775808 := by decide
  rw [h2] at h1
  exact h1

theorem pow_eight (k : Nat) (h : k ≤ 8) : (128 : Int) ^ k ≤ 72057594037927936 := by
  have h1 := ipow_le 128 (by omega) h
  have h2 : ((128 : Nat) : Int) ^ 8 = 72057594037927936 := by decide
  rw [h2] at h1
  exact h1

theorem group_lt (v c : Int) (k : Nat) (hv : v < 128 ^ k) : v + c % 128 * 128 ^ k < 128 ^ (k + 1) := by
  have h1 := pow_pos k
  have h2 : c % 128 * 128 ^ k ≤ 127 * 128 ^ k := Int.mul_le_mul_of_nonneg_right (by omega) (by omega)
  rw [Int.pow_succ]; omega

theorem group_nonneg (c : Int) (k : Nat) : 0 ≤ c % 128 * 128 ^ k := by
  have h1 := pow_pos k
  exact Int.mul_nonneg (by omega) (by omega)

theorem group_max (v c : Int) (k : Nat) (hk : k ≤ 9) (hv : v < 128 ^ k) (h9 : k = 9 → c ≤ 1) (hc : 0 ≤ c) : v + c % 128 * 128 ^ k ≤ 18446744073709551615 := by
  by_cases e : k = 9
  · subst e
    have h := h9 rfl
    have h9' : (128 : Int) ^ 9 = 9223372036854775808 := by decide
    rw [h9'] at hv ⊢
    omega
  · have h := group_lt v c k hv
    have h' := pow_nine (k + 1) (by omega)
    omega

def varR (b : ByteArray) (p : Nat) : Nat → Nat → Int → Int × Int × Int
  | 0, _, _ => (0, 0, 11)
  | f + 1, k, x =>
    if b.size ≤ p + k then (0, 0, 12)
    else if k = 9 ∧ 1 < bt b (p + k) then (0, 0, 11)
    else if 0 < k ∧ bt b (p + k) = 0 then (0, 0, 13)
    else if bt b (p + k) < 128 then (x + bt b (p + k) % 128 * 128 ^ k, (p : Int) + k + 1, 0)
    else varR b p f (k + 1) (x + bt b (p + k) % 128 * 128 ^ k)

theorem varR_end (b : ByteArray) (p k : Nat) (x : Int) : varR b p 0 k x = (0, 0, 11) := rfl
theorem varR_short (b : ByteArray) (p f k : Nat) (x : Int) (h : b.size ≤ p + k) : varR b p (f + 1) k x = (0, 0, 12) := by
  rw [varR, if_pos h]
theorem varR_over (b : ByteArray) (p f k : Nat) (x : Int) (h : ¬ b.size ≤ p + k) (h1 : k = 9 ∧ 1 < bt b (p + k)) : varR b p (f + 1) k x = (0, 0, 11) := by
  rw [varR, if_neg h, if_pos h1]
theorem varR_form (b : ByteArray) (p f k : Nat) (x : Int) (h : ¬ b.size ≤ p + k) (h1 : ¬ (k = 9 ∧ 1 < bt b (p + k))) (h2 : 0 < k ∧ bt b (p + k) = 0) : varR b p (f + 1) k x = (0, 0, 13) := by
  rw [varR, if_neg h, if_neg h1, if_pos h2]
theorem varR_last (b : ByteArray) (p f k : Nat) (x : Int) (h : ¬ b.size ≤ p + k) (h1 : ¬ (k = 9 ∧ 1 < bt b (p + k))) (h2 : ¬ (0 < k ∧ bt b (p + k) = 0)) (h3 : bt b (p + k) < 128) :
    varR b p (f + 1) k x = (x + bt b (p + k) % 128 * 128 ^ k, (p : Int) + k + 1, 0) := by
  rw [varR, if_neg h, if_neg h1, if_neg h2, if_pos h3]
theorem varR_next (b : ByteArray) (p f k : Nat) (x : Int) (h : ¬ b.size ≤ p + k) (h1 : ¬ (k = 9 ∧ 1 < bt b (p + k))) (h2 : ¬ (0 < k ∧ bt b (p + k) = 0)) (h3 : ¬ bt b (p + k) < 128) :
    varR b p (f + 1) k x = varR b p f (k + 1) (x + bt b (p + k) % 128 * 128 ^ k) := by
  rw [varR, if_neg h, if_neg h1, if_neg h2, if_neg h3]

def beR (b : ByteArray) (p : Nat) : Nat → Int
  | 0 => 0
  | k + 1 => beR b p k * 256 + bt b (p + k)

theorem beR_nonneg (b : ByteArray) (p k : Nat) : 0 ≤ beR b p k := by
  induction k with
  | zero => exact Int.le_refl 0
  | succ k ih => have := bt_nonneg b (p + k); rw [beR]; omega

theorem beR_lt (b : ByteArray) (p k : Nat) : beR b p k < 256 ^ k := by
  induction k with
  | zero => show (0 : Int) < 1; omega
  | succ k ih => have := bt_le b (p + k); rw [beR, Int.pow_succ]; omega

theorem beR_seven (b : ByteArray) (p k : Nat) (h : k ≤ 7) : beR b p k < 72057594037927936 := by
  have h1 := beR_lt b p k
  have h2 := ipow_le 256 (by omega) h
  have h3 : ((256 : Nat) : Int) ^ 7 = 72057594037927936 := by decide
  rw [h3] at h2
  exact Int.lt_of_lt_of_le h1 h2

end Go.Proofs.YtpcllegjnbeppaaGreat.na

namespace Go.Proofs.YtpcllegjnbeppaaGreat.nb
open Go.RowKit Go.PlainAid
open Go.Proofs.YtpcllegjnbeppaaGreat.na
set_option linter.unusedVariables false

def row (ns : List Int) : Array Value := (ns.map (Value.int .u8)).toArray
def str (ns : List Int) : ByteArray := ns.foldl (fun r n => r.push (UInt8.ofNat n.toNat)) ByteArray.empty

theorem row_size (ns : List Int) : (row ns).size = ns.length := by simp [row]
theorem row_set (ns : List Int) (i : Nat) (x : Int) : (row ns).setIfInBounds i (.int .u8 x) = row (ns.set i x) := by
  simp [row]
theorem row_get (ns : List Int) (i : Nat) : (row ns)[i]? = (ns[i]?).map (Value.int .u8) := by simp [row]

theorem info5 : (Tryz.prog.info? 5).map (fun i => (i.zero, i.size, i.bytes)) = some (some (.int .u8 0), 1, 1) := by kernel_rfl

theorem made_row (n : Nat) : madeCells (Value.int .u8 0).cells n = row (List.replicate n 0) := by
  apply Array.ext
  · simp [size_madeCells, row_size]
  · intro i h1 h2
    simp [madeCells, row, Value.cells, Nat.mod_one]

theorem make_row (n : Nat) (hn : n ≤ 1048576) (w : World) :
    (Instr.makeSlice 84 (.int .i64 n) (.int .i64 n)).run Tryz.prog w = .ok (.slice (some ⟨w.heap.size, 0, none⟩) n n) (w.alloc (.cells (row (List.replicate n 0)) 5)) := by
  obtain ⟨i, hi, hz0, hz1, hz2⟩ := info_parts info5
  have h := run_make (P := Tryz.prog) w 84 5 i (.int .u8 0) Tryz.underlying84 hi hz0 .i64 .i64 (n : Int) (n : Int) (by omega) (by omega) (by rw [hz2]; omega) (by omega)
  rw [hz1] at h
  simp only [Int.toNat_natCast, Nat.mul_one] at h
  rw [made_row] at h
  exact h

theorem conv_row (ns : List Int) (w : World) (n : Nat) (hn : n = ns.length) :
    (convert 84 9 (.slice (some ⟨w.heap.size, 0, none⟩) n n)).run Tryz.prog (w.alloc (.cells (row ns) 5)) = .ok (.string (str ns)) (w.alloc (.cells (row ns) 5)) := by
  subst hn
  rw [run_convert_bytes_string _ 84 9 5 _ _ _ Tryz.underlying84 Tryz.underlying5 Tryz.underlying9]
  refine run_bytesToString _ _ _ _ ns ?_
  have h := run_loadCells_list (P := Tryz.prog) (w := w.alloc (.cells (row ns) 5)) ⟨w.heap.size, 0, none⟩ (ns.map (Value.int .u8)) ?_
  · simpa using h
  · intro j v hj
    have e : (Addr.add ⟨w.heap.size, 0, none⟩ j) = ⟨w.heap.size, j, none⟩ := by cases j <;> simp [Addr.add]
    rw [e, World.cell?_alloc_at _ _ _ _ rfl, row, List.getElem?_toArray]
    exact hj

theorem str_snoc (ns : List Int) (x : Int) : str (ns ++ [x]) = (str ns).push (UInt8.ofNat x.toNat) := by simp [str]

theorem foldl_data (ns : List Int) : ∀ r : ByteArray, (ns.foldl (fun r n => r.push (UInt8.ofNat n.toNat)) r).data = r.data ++ (ns.map fun n => UInt8.ofNat n.toNat).toArray := by
  induction ns with
  | nil => intro r; simp
  | cons x ns ih =>
    intro r
    rw [List.foldl_cons, ih]
    show r.data.push _ ++ _ = _
    simp

theorem str_data (ns : List Int) : (str ns).data = (ns.map fun n => UInt8.ofNat n.toNat).toArray := by
  have h := foldl_data ns ByteArray.empty
  simpa [str] using h

theorem str_size (ns : List Int) : (str ns).size = ns.length := by
  show (str ns).data.size = _
  rw [str_data]; simp

theorem str_bt (ns : List Int) (k : Nat) (hk : k < ns.length) (h0 : 0 ≤ ns[k]) (h1 : ns[k] ≤ 255) : bt (str ns) k = ns[k] := by
  unfold bt
  rw [dif_pos (by rw [str_size]; exact hk)]
  have e : (str ns)[k]'(by rw [str_size]; exact hk) = UInt8.ofNat (ns[k]).toNat := by
    show (str ns).data[k]'_ = _
    simp [str_data]
  rw [e]
  have : (UInt8.ofNat (ns[k]).toNat).toNat = (ns[k]).toNat := by simp; omega
  omega

theorem ext_bt (a b : ByteArray) (hs : a.size = b.size) (h : ∀ k, k < a.size → bt a k = bt b k) : a = b := by
  apply ByteArray.ext
  apply Array.ext
  · exact hs
  · intro i h1 h2
    have e := h i h1
    unfold bt at e
    rw [dif_pos (show i < a.size from h1), dif_pos (show i < b.size from h2)] at e
    have e2 : (a[i]'h1).toNat = (b[i]'h2).toNat := by omega
    exact UInt8.toNat_inj.1 e2

theorem bt_append_left (a b : ByteArray) (k : Nat) (h : k < a.size) : bt (a ++ b) k = bt a k := by
  have hs : (a ++ b).size = a.size + b.size := ByteArray.size_append
  unfold bt
  rw [dif_pos h, dif_pos (by omega)]
  rw [ByteArray.getElem_append_left h]

theorem bt_append_right (a b : ByteArray) (k : Nat) : bt (a ++ b) (a.size + k) = bt b k := by
  have hs : (a ++ b).size = a.size + b.size := ByteArray.size_append
  unfold bt
  by_cases h : k < b.size
  · rw [dif_pos h, dif_pos (by omega)]
    rw [ByteArray.getElem_append_right (by omega)]
    simp
  · rw [dif_neg h, dif_neg (by omega)]

theorem bt_extract (a : ByteArray) (i j k : Nat) (h : i + k < j) (hj : j ≤ a.size) : bt (a.extract i j) k = bt a (i + k) := by
  have hs : (a.extract i j).size = min j a.size - i := ByteArray.size_extract
  unfold bt
  rw [dif_pos (by omega), dif_pos (by omega)]
  rw [ByteArray.getElem_extract]
end Go.Proofs.YtpcllegjnbeppaaGreat.nb
