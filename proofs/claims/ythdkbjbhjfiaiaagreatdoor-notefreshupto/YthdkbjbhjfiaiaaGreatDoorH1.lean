import Derived.PlainAid
import Derived.WalkKit
import Derived.Tactics
import Derived.Below
import Derived.BigQuiet
import Derived.Laws.AppendOwn
import Derived.Laws.OwnMore
import Derived.Test.YthdkbjbhjfiaiaaGreatDoorProg
import Derived.Laws.RangeAny
import Derived.Test.YthdkbjbhjfiaiaaGreatDoorK3
import Derived.Test.YthdkbjbhjfiaiaaGreatDoorK2
import Derived.Test.YthdkbjbhjfiaiaaGreatDoorTk
import Derived.Test.YthdkbjbhjfiaiaaGreatDoorXB
import Derived.Test.YthdkbjbhjfiaiaaGreatDoorTj
import Derived.Laws.RangeString
import Derived.Deep.QuietTactic
import Derived.Laws.EntriesVeiled
import Derived.Deep.RegionHeldLaw
import Derived.Deep.RegionHeld3
namespace Go.Proofs.YthdkbjbhjfiaiaaGreatDoor.ca
set_option linter.unusedVariables false
set_option maxRecDepth 4000

-- the level of the piece at p, h leaves being left
def Lv (p h k : Nat) : Prop := k ≤ 62 ∧ 2 ^ k ∣ p ∧ 2 ^ k ≤ h ∧ (k = 62 ∨ ¬ 2 ^ (k + 1) ∣ p ∨ h < 2 ^ (k + 1))
theorem p2 (k : Nat) : 0 < 2 ^ k := Nat.two_pow_pos k
theorem p2s (k : Nat) : 2 ^ (k + 1) = 2 * 2 ^ k := by rw [Nat.pow_succ, Nat.mul_comm]
theorem p2le {j k : Nat} (h : j ≤ k) : 2 ^ j ≤ 2 ^ k := Nat.pow_le_pow_right (by decide) h
theorem p2dvd {j k : Nat} (h : j ≤ k) : 2 ^ j ∣ 2 ^ k := Nat.pow_dvd_pow 2 h
theorem p2lt {j k : Nat} (h : 2 ^ j < 2 ^ k) : j < k := by
  rcases Nat.lt_or_ge j k with e | e
  · exact e
  · have := p2le e; omega
theorem Lv.unique {p h k k' : Nat} (a : Lv p h k) (b : Lv p h k') : k = k' := by
  have key : ∀ {k k' : Nat}, Lv p h k → Lv p h k' → ¬ k < k' := by
    intro k k' a b hlt
    have h1 : 2 ^ (k + 1) ∣ p := Nat.dvd_trans (p2dvd hlt) b.2.1
    have h2 : 2 ^ (k + 1) ≤ h := Nat.le_trans (p2le hlt) b.2.2.1
    rcases a.2.2.2 with e | e | e
    · have := b.1; omega
    · exact e h1
    · omega
  have := key a b
  have := key b a
  omega
def lvF (p h : Nat) : Nat → Nat → Nat
  | 0, k => k
  | f + 1, k => if 2 ^ (k + 1) ∣ p ∧ 2 ^ (k + 1) ≤ h then lvF p h f (k + 1) else k
theorem lvF_lv (p h f k : Nat) (hf : f + k = 62) (h1 : 2 ^ k ∣ p) (h2 : 2 ^ k ≤ h) : Lv p h (lvF p h f k) := by
  induction f generalizing k with
  | zero => exact ⟨by show k ≤ 62; omega, h1, h2, .inl (by show k = 62; omega)⟩
  | succ f ih =>
    unfold lvF
    split
    · rename_i hh
      exact ih (k + 1) (by omega) hh.1 hh.2
    · rename_i hh
      refine ⟨by omega, h1, h2, .inr ?_⟩
      rcases Decidable.em (2 ^ (k + 1) ∣ p) with e | e
      · exact .inr (Nat.lt_of_not_le fun e' => hh ⟨e, e'⟩)
      · exact .inl e
def lv (p h : Nat) : Nat := lvF p h 62 0
theorem lv_lv (p h : Nat) (hh : 0 < h) : Lv p h (lv p h) := lvF_lv p h 62 0 rfl (Nat.one_dvd p) hh
-- the pieces from p up to hi
def cov (p hi : Nat) : List (Nat × Nat) :=
  if h : p < hi then (lv p (hi - p), p / 2 ^ lv p (hi - p)) :: cov (p + 2 ^ lv p (hi - p)) hi else []
termination_by hi - p
decreasing_by have := p2 (lv p (hi - p)); omega
theorem cov_end {p hi : Nat} (h : ¬ p < hi) : cov p hi = [] := by rw [cov, dif_neg h]
theorem cov_at {p hi k : Nat} (h : p < hi) (hk : Lv p (hi - p) k) : cov p hi = (k, p / 2 ^ k) :: cov (p + 2 ^ k) hi := by
  rw [cov, dif_pos h, Lv.unique (lv_lv p (hi - p) (by omega)) hk]
theorem cov_fold {p hi : Nat} (P : Nat → Nat → Prop) (h0 : ∀ p, ¬ p < hi → P p hi) (h1 : ∀ p k, p < hi → Lv p (hi - p) k → P (p + 2 ^ k) hi → P p hi) : P p hi := by
  generalize hn : hi - p = n
  induction n using Nat.strongRecOn generalizing p with
  | ind n ih =>
    rcases Nat.lt_or_ge p hi with e | e
    · have hl := lv_lv p (hi - p) (by omega)
      refine h1 p _ e hl (ih (hi - (p + 2 ^ lv p (hi - p))) ?_ rfl)
      have := p2 (lv p (hi - p))
      omega
    · exact h0 p (by omega)
-- below a place that 2^j divides, with fewer than 2^j leaves: the greatest power that fits
theorem lv_low {p h k j : Nat} (hj : 2 ^ j ∣ p) (hh : h < 2 ^ j) (hk : k < j) (h62 : k ≤ 62) (h1 : 2 ^ k ≤ h) (h2 : h < 2 ^ (k + 1)) : Lv p h k :=
  ⟨h62, Nat.dvd_trans (p2dvd (Nat.le_of_lt hk)) hj, h1, .inr (.inr h2)⟩
theorem low_is {p h k j : Nat} (hj : 2 ^ j ∣ p) (hh : h < 2 ^ j) (hl : Lv p h k) (hb : h < 2 ^ 63) : k < j ∧ h < 2 ^ (k + 1) := by
  have hkj : k < j := p2lt (Nat.lt_of_le_of_lt hl.2.2.1 hh)
  refine ⟨hkj, ?_⟩
  rcases hl.2.2.2 with e | e | e
  · subst e; exact hb
  · exact absurd (Nat.dvd_trans (p2dvd hkj) hj) e
  · exact e
theorem down_len (j : Nat) : ∀ (p h : Nat), 2 ^ j ∣ p → h < 2 ^ j → h < 2 ^ 63 → (cov p (p + h)).length ≤ j := by
  induction j using Nat.strongRecOn with
  | ind j ih =>
    intro p h hj hh hb
    rcases Nat.eq_zero_or_pos h with e | e
    · subst e; rw [cov_end (by omega)]; exact Nat.zero_le _
    · have hl : Lv p (p + h - p) (lv p (p + h - p)) := lv_lv _ _ (by omega)
      rw [Nat.add_sub_cancel_left] at hl
      obtain ⟨k, hk⟩ : ∃ k, lv p h = k := ⟨_, rfl⟩
      rw [hk] at hl
      obtain ⟨h1, h2⟩ := low_is hj hh hl hb
      have hs := p2s k
      rw [cov_at (by omega) (by rw [Nat.add_sub_cancel_left]; exact hl), List.length_cons]
      have := ih k h1 (p + 2 ^ k) (h - 2 ^ k) (Nat.dvd_add (Nat.dvd_trans (p2dvd (Nat.le_of_lt h1)) hj) (Nat.dvd_refl _)) (by omega) (by omega)
      rw [show p + 2 ^ k + (h - 2 ^ k) = p + h by have := hl.2.2.1; omega] at this
      omega
theorem dvd_pos_le {k p : Nat} (h : 2 ^ k ∣ p) (hp : 0 < p) : 2 ^ k ≤ p := Nat.le_of_dvd hp h
theorem up_len (n : Nat) : ∀ (j p h : Nat), 61 - j = n → j ≤ 61 → 0 < p → 2 ^ j ∣ p → p + h ≤ 2 ^ 62 → (cov p (p + h)).length ≤ 122 - j := by
  induction n using Nat.strongRecOn with
  | ind n ih =>
    intro j p h hn hj61 hp hj hb
    have hb63 : h < 2 ^ 63 := by have : (2 : Nat) ^ 63 = 2 * 2 ^ 62 := p2s 62; have := p2 62; omega
    rcases Nat.lt_or_ge h (2 ^ j) with e | e
    · have := down_len j p h hj e hb63; omega
    · have h0 : 0 < h := Nat.lt_of_lt_of_le (p2 j) e
      have hl := lv_lv p h h0
      obtain ⟨k, hk⟩ : ∃ k, lv p h = k := ⟨_, rfl⟩
      rw [hk] at hl
      have hs := p2s k
      have hpk := dvd_pos_le hl.2.1 hp
      have hcov := cov_at (p := p) (hi := p + h) (k := k) (by omega) (by rw [Nat.add_sub_cancel_left]; exact hl)
      have hk61 : k ≤ 61 := by
        rcases Nat.lt_or_ge k 62 with g | g
        · omega
        · have := p2le g; have := p2 62; have := hl.2.2.1; omega
      have heq : p + 2 ^ k + (h - 2 ^ k) = p + h := by have := hl.2.2.1; omega
      rw [hcov, List.length_cons]
      rcases Nat.lt_or_ge h (2 ^ (k + 1)) with g | g
      · have hd := down_len k (p + 2 ^ k) (h - 2 ^ k) (Nat.dvd_add hl.2.1 (Nat.dvd_refl _)) (by omega) (by omega)
        rw [heq] at hd
        rcases Nat.lt_or_ge j 61 with q | q
        · omega
        · -- j = 61: the whole upper half
          have q : j = 61 := by omega
          subst q
          have h61 := dvd_pos_le hj hp
          have e62 : (2 : Nat) ^ 62 = 2 * 2 ^ 61 := p2s 61
          have hh : h = 2 ^ 61 := by omega
          have : k = 61 := by
            rcases Nat.lt_or_ge k 61 with q | q
            · have := p2le (show k + 1 ≤ 61 from q); omega
            · omega
          subst this
          rw [cov_end (by omega)]
          simp
      · -- as much as divides p
        have hnd : ¬ 2 ^ (k + 1) ∣ p := by
          rcases hl.2.2.2 with q | q | q
          · omega
          · exact q
          · omega
        have hk60 : k ≤ 60 := by
          rcases Nat.lt_or_ge k 61 with q | q
          · omega
          · have : k = 61 := by omega
            subst this
            have e62 : (2 : Nat) ^ 62 = 2 * 2 ^ 61 := p2s 61
            have := p2 61
            omega
        have hjk : j ≤ k := by
          rcases Nat.lt_or_ge k j with q | q
          · exact absurd (Nat.dvd_trans (p2dvd q) hj) hnd
          · exact q
        have hd : 2 ^ (k + 1) ∣ p + 2 ^ k := by
          obtain ⟨c, hc⟩ := hl.2.1
          rcases Nat.mod_two_eq_zero_or_one c with q | q
          · exact absurd ⟨c / 2, by rw [hs, Nat.mul_assoc, Nat.mul_left_comm, show 2 * (c / 2) = c by omega]; exact hc⟩ hnd
          · exact ⟨(c + 1) / 2, by rw [hs, Nat.mul_assoc, Nat.mul_left_comm, show 2 * ((c + 1) / 2) = c + 1 by omega, Nat.mul_add, ← hc, Nat.mul_one]⟩
        have := ih (61 - (k + 1)) (by omega) (k + 1) (p + 2 ^ k) (h - 2 ^ k) rfl (by omega) (by omega) hd (by omega)
        rw [heq] at this
        omega
theorem cov_len (lo hi : Nat) (h : lo ≤ hi) (hb : hi ≤ 2 ^ 62) : (cov lo hi).length ≤ 122 := by
  obtain ⟨n, rfl⟩ : ∃ n, hi = lo + n := ⟨hi - lo, by omega⟩
  rcases Nat.eq_zero_or_pos lo with e | e
  · subst e
    have e63 : (2 : Nat) ^ 63 = 2 * 2 ^ 62 := p2s 62
    have := p2 62
    have := down_len 63 0 n (Nat.dvd_zero _) (by omega) (by omega)
    omega
  · exact up_len 61 0 lo n rfl (by omega) e (Nat.one_dvd _) hb
-- no piece's parent lies within the range
def Inv (lo hi p : Nat) : Prop := lo ≤ p ∧ ∀ m, 2 ^ m ∣ p → ¬ 2 ^ (m + 1) ∣ p → lo + 2 ^ m ≤ p → hi < p + 2 ^ m
theorem Inv.start (lo hi : Nat) : Inv lo hi lo := ⟨Nat.le_refl _, fun m _ _ h => by have := p2 m; omega⟩
theorem odd_of {k p : Nat} (h1 : 2 ^ k ∣ p) (h2 : ¬ 2 ^ (k + 1) ∣ p) : ∃ c, p = 2 ^ (k + 1) * c + 2 ^ k := by
  obtain ⟨c, hc⟩ := h1
  rcases Nat.mod_two_eq_zero_or_one c with q | q
  · exact absurd ⟨c / 2, by rw [p2s, Nat.mul_assoc, Nat.mul_left_comm, show 2 * (c / 2) = c by omega]; exact hc⟩ h2
  · refine ⟨c / 2, ?_⟩
    rw [p2s, Nat.mul_assoc, Nat.mul_left_comm, hc]
    generalize 2 ^ k = z
    obtain ⟨d, rfl⟩ : ∃ d, c = 2 * d + 1 := ⟨c / 2, by omega⟩
    rw [show (2 * d + 1) / 2 = d by omega, Nat.mul_add, Nat.mul_one]
theorem Inv.step {lo hi p k : Nat} (h : Inv lo hi p) (hlt : p < hi) (hb : hi ≤ 2 ^ 62) (hl : Lv p (hi - p) k) : Inv lo hi (p + 2 ^ k) := by
  refine ⟨by have := h.1; have := p2 k; omega, fun m m1 m2 m3 => ?_⟩
  rcases Nat.lt_or_ge hi (p + 2 ^ k + 2 ^ m) with g | g
  · exact g
  · exfalso
    have hs := p2s k
    have hkm : k ≤ m := by
      rcases Nat.lt_or_ge m k with q | q
      · exact absurd (Nat.dvd_add (Nat.dvd_trans (p2dvd q) hl.2.1) (p2dvd q)) m2
      · exact q
    rcases Nat.lt_or_ge k m with q | q
    · -- p is just divided by 2^k
      have hnd : ¬ 2 ^ (k + 1) ∣ p := by
        intro hd
        have h1 : 2 ^ (k + 1) ∣ p + 2 ^ k := Nat.dvd_trans (p2dvd q) m1
        have h2 : 2 ^ (k + 1) ∣ 2 ^ k := (Nat.dvd_add_iff_right hd).2 h1
        have := Nat.le_of_dvd (p2 k) h2
        have := p2 k
        omega
      have hno : ¬ lo + 2 ^ k ≤ p := fun e => by
        have := h.2 k hl.2.1 hnd e
        have := hl.2.2.1
        omega
      have := p2le q
      omega
    · have e : m = k := by omega
      subst e
      obtain ⟨c, hc⟩ := odd_of m1 m2
      have hd : 2 ^ (m + 1) ∣ p := ⟨c, by omega⟩
      rcases hl.2.2.2 with e | e | e
      · subst e
        have := p2 62
        omega
      · exact e hd
      · omega
theorem Inv.up {lo hi p k : Nat} (h : Inv lo hi p) (hlt : p < hi) (hl : Lv p (hi - p) k) (hk : k < 62) : ¬ (lo ≤ p / 2 ^ (k + 1) * 2 ^ (k + 1) ∧ (p / 2 ^ (k + 1) + 1) * 2 ^ (k + 1) ≤ hi) := by
  rintro ⟨g1, g2⟩
  have hs := p2s k
  rcases Decidable.em (2 ^ (k + 1) ∣ p) with e | e
  · have e1 := Nat.div_mul_cancel e
    rw [Nat.add_mul, e1] at g2
    rcases hl.2.2.2 with q | q | q
    · omega
    · exact q e
    · omega
  · obtain ⟨c, hc⟩ := odd_of hl.2.1 e
    have hq : p / 2 ^ (k + 1) = c := by
      rw [hc, Nat.mul_add_div (p2 _), Nat.div_eq_of_lt (by have := p2 k; omega), Nat.add_zero]
    rw [hq, Nat.mul_comm] at g1
    have hno : ¬ lo + 2 ^ k ≤ p := fun e' => by
      have := h.2 k hl.2.1 e e'
      have := hl.2.2.1
      omega
    omega
end Go.Proofs.YthdkbjbhjfiaiaaGreatDoor.ca

namespace Go.Proofs.YthdkbjbhjfiaiaaGreatDoor.cp
open Go.RowKit Go.PlainAid
open Go.Proofs.YthdkbjbhjfiaiaaGreatDoor.ca
set_option linter.unusedVariables false
set_option maxRecDepth 4000

theorem cast_pow (k : Nat) : ((2 : Int) ^ k) = ((2 ^ k : Nat) : Int) := by rw [Int.natCast_pow]; rfl
theorem p62 : (2 : Nat) ^ 62 = 4611686018427387904 := by decide
theorem p63 : (2 : Nat) ^ 63 = 9223372036854775808 := by decide
theorem wrap_is (n : Nat) (h : n < 9223372036854775808) : IntKind.i64.wrap (n : Int) = n := by
  rw [IntKind.wrap_i64]
  omega
theorem u64_is (k : Nat) (h : k ≤ 64) : IntKind.u64.wrap (k : Int) = k := by
  rw [IntKind.wrap_u64]
  omega
-- 2 to the k as the walk has it
theorem pow_int {k : Nat} (h : k ≤ 62) : IntKind.i64.wrap (1 * 2 ^ min (k : Int).toNat 64) = ((2 ^ k : Nat) : Int) := by
  rw [Int.toNat_natCast, Nat.min_eq_left (by omega), Int.one_mul, cast_pow, wrap_is]
  have := p2le h
  rw [p62] at this
  omega
def i64 (x : Int) : Prop := -9223372036854775808 ≤ x ∧ x ≤ 9223372036854775807
-- may there be such a node?
def okA (L I : Int) : Prop := 0 ≤ L ∧ L ≤ 62 ∧ 0 ≤ I ∧ I < 4611686018427387904 / 2 ^ L.toNat
instance (L I : Int) : Decidable (okA L I) := by unfold okA; infer_instance
theorem okA_nat (k i : Nat) : okA k i ↔ k ≤ 62 ∧ (i + 1) * 2 ^ k ≤ 4611686018427387904 := by
  have e : (4611686018427387904 : Int) / 2 ^ (k : Int).toNat = ((4611686018427387904 / 2 ^ k : Nat) : Int) := by
    rw [Int.toNat_natCast, cast_pow, Int.natCast_ediv]
    rfl
  have key : i < 4611686018427387904 / 2 ^ k ↔ (i + 1) * 2 ^ k ≤ 4611686018427387904 := Nat.le_div_iff_mul_le (p2 k)
  unfold okA
  rw [e, ← key]
  omega
theorem okA_form {L I : Int} (h : okA L I) : ∃ k i : Nat, L = k ∧ I = i ∧ k ≤ 62 ∧ (i + 1) * 2 ^ k ≤ 4611686018427387904 := by
  obtain ⟨k, rfl⟩ : ∃ k : Nat, L = k := ⟨L.toNat, by have := h.1; omega⟩
  obtain ⟨i, rfl⟩ : ∃ i : Nat, I = i := ⟨I.toNat, by have := h.2.2.1; omega⟩
  exact ⟨k, i, rfl, rfl, ((okA_nat k i).1 h).1, ((okA_nat k i).1 h).2⟩
def av (L I : Int) : Value := .agg #[.int .i64 L, .int .i64 I]
def spV (L I : Int) : Value := if okA L I then .tuple #[.int .i64 (I * 2 ^ L.toNat), .int .i64 ((I + 1) * 2 ^ L.toNat), .int .i64 0] else .tuple #[.int .i64 0, .int .i64 0, .int .i64 50]
def kinV (L I L' I' : Int) : Value := if okA L I ∧ okA L' I' then .tuple #[.agg #[.int .i64 L', .int .i64 I'], .int .i64 0] else .tuple #[.agg #[.int .i64 0, .int .i64 0], .int .i64 50]
def sib (I : Int) : Int := if I % 2 = 0 then I + 1 else I - 1
theorem spV_nat {k i : Nat} (h : okA k i) : spV k i = .tuple #[.int .i64 ((i * 2 ^ k : Nat) : Int), .int .i64 (((i + 1) * 2 ^ k : Nat) : Int), .int .i64 0] := by
  unfold spV
  rw [if_pos h, Int.toNat_natCast, cast_pow]
  simp
theorem up_fits {k i : Nat} (hk : k < 62) (h : (i + 1) * 2 ^ k ≤ 4611686018427387904) : (i / 2 + 1) * 2 ^ (k + 1) ≤ 4611686018427387904 := by
  obtain ⟨z, hz⟩ : ∃ z, 4611686018427387904 = 2 * z * 2 ^ k := by
    refine ⟨2 ^ (61 - k), ?_⟩
    rw [← p2s, ← Nat.pow_add, show 61 - k + 1 + k = 62 by omega]
  rw [hz] at h ⊢
  have h1 : i + 1 ≤ 2 * z := Nat.le_of_mul_le_mul_right h (p2 k)
  rw [p2s, ← Nat.mul_assoc]
  exact Nat.mul_le_mul_right _ (by omega)
theorem i64_nat {n : Nat} (h : n ≤ 4611686018427387904) : i64 (n : Int) := ⟨by omega, by omega⟩
theorem below_dN {B : Nat} {a w : World} (h : Below B a w) (n : Nat) : Below B a (w.drewN n) := ⟨h.os, h.tape, h.output, h.size, h.block⟩
theorem over {w w1 w2 : World} (h : Below w.heap.size w w1) (b : Below w1.heap.size w1 w2) : Below w.heap.size w w2 := h.trans (b.mono h.size)
theorem own_later {w w' : World} {B e size n : Nat} {v : Value} {xs : List Value} (h : w.ownsRow B e size v n xs) (hb : Below w.heap.size w w') : w'.ownsRow B e size v n xs := by
  refine ⟨h.1, ?_⟩
  rcases h.2 with hn | ⟨g, cap, cur, rfl, hg, hgg, rest⟩
  · exact .inl hn
  · exact .inr ⟨g, cap, cur, rfl, hg, by rw [hb.block g (Array.getElem?_eq_some_iff.1 hgg).1]; exact hgg, rest⟩
theorem own_down {w : World} {B B' e size n : Nat} {v : Value} {xs : List Value} (h : w.ownsRow B' e size v n xs) (hB : B ≤ B') : w.ownsRow B e size v n xs :=
  ⟨h.1, h.2.imp id fun ⟨g, cap, cur, h1, h2, h3⟩ => ⟨g, cap, cur, h1, Nat.le_trans hB h2, h3⟩⟩
-- an address in a block of its own
structure Bx (w : World) (b : Nat) (L I : Int) : Prop where
  one : w.cell? ⟨b, 0, none⟩ = some (.int .i64 L)
  two : w.cell? ⟨b, 1, none⟩ = some (.int .i64 I)
theorem Bx.later {w w' : World} {b : Nat} {L I : Int} (h : Bx w b L I) (hb : Below w.heap.size w w') : Bx w' b L I :=
  ⟨(hb.cell (p := ⟨b, 0, none⟩) (World.block_lt_of_cell? _ _ h.one)).trans h.one, (hb.cell (p := ⟨b, 1, none⟩) (World.block_lt_of_cell? _ _ h.two)).trans h.two⟩
theorem kin_no {L I L' I' : Int} (h : ¬ (okA L I ∧ okA L' I')) : kinV L I L' I' = .tuple #[.agg #[.int .i64 0, .int .i64 0], .int .i64 50] := by unfold kinV; rw [if_neg h]
theorem kin_yes {L I L' I' : Int} (h1 : okA L I) (h2 : okA L' I') : kinV L I L' I' = .tuple #[.agg #[.int .i64 L', .int .i64 I'], .int .i64 0] := by unfold kinV; rw [if_pos ⟨h1, h2⟩]
end Go.Proofs.YthdkbjbhjfiaiaaGreatDoor.cp

namespace Go.Proofs.YthdkbjbhjfiaiaaGreatDoor.cb
open Go.Proofs.YthdkbjbhjfiaiaaGreatDoor.ca
set_option linter.unusedVariables false
set_option maxRecDepth 4000

-- the binary digits 1 below j, the greatest first
def digs : Nat → Nat → List Nat
  | 0, _ => []
  | j + 1, h => if h / 2 ^ j % 2 = 1 then j :: digs j h else digs j h
theorem digs_add (i r : Nat) : ∀ j, j ≤ i → digs j (2 ^ i + r) = digs j r := by
  intro j
  induction j with
  | zero => intro _; rfl
  | succ j ih =>
    intro h
    have e : (2 ^ i + r) / 2 ^ j % 2 = r / 2 ^ j % 2 := by
      obtain ⟨d, rfl⟩ : ∃ d, i = j + (d + 1) := ⟨i - j - 1, by omega⟩
      rw [Nat.pow_add, Nat.mul_add_div (p2 j), p2s d]
      omega
    unfold digs
    rw [e, ih (by omega)]
theorem digs_low {j h : Nat} (hh : h < 2 ^ j) : digs (j + 1) h = digs j h := by
  show (if h / 2 ^ j % 2 = 1 then _ else _) = _
  rw [Nat.div_eq_of_lt hh, if_neg (by decide)]
theorem cov_digs (j : Nat) : ∀ (p h : Nat), 2 ^ j ∣ p → h < 2 ^ j → j ≤ 63 → (cov p (p + h)).map Prod.fst = digs j h := by
  induction j with
  | zero =>
    intro p h _ hh _
    have : h = 0 := by have : (2 : Nat) ^ 0 = 1 := rfl; omega
    subst this
    rw [cov_end (by omega)]
    rfl
  | succ j ih =>
    intro p h hd hh hj
    have hs := p2s j
    have hd' : 2 ^ j ∣ p := Nat.dvd_trans (p2dvd (Nat.le_succ j)) hd
    rcases Nat.lt_or_ge h (2 ^ j) with g | g
    · rw [digs_low g]
      exact ih p h hd' g (by omega)
    · rw [cov_at (k := j) (by have := p2 j; omega) (by rw [Nat.add_sub_cancel_left]; exact ⟨by omega, hd', g, .inr (.inr hh)⟩), List.map_cons]
      have := ih (p + 2 ^ j) (h - 2 ^ j) (Nat.dvd_add hd' (Nat.dvd_refl _)) (by omega) (by omega)
      rw [show p + 2 ^ j + (h - 2 ^ j) = p + h by omega] at this
      rw [this]
      have e : digs j h = digs j (h - 2 ^ j) := by
        have := digs_add j (h - 2 ^ j) j (Nat.le_refl _)
        rwa [show 2 ^ j + (h - 2 ^ j) = h by omega] at this
      show _ = (if h / 2 ^ j % 2 = 1 then _ else _)
      have q : h / 2 ^ j = 1 := by
        have : h = 2 ^ j * 1 + (h - 2 ^ j) := by omega
        rw [this, Nat.mul_add_div (p2 j), Nat.div_eq_of_lt (by omega)]
      rw [q, if_pos rfl, e]
-- the greatest power of two below n
def halfF (n : Nat) : Nat → Nat → Nat
  | 0, k => k
  | f + 1, k => if 2 * k < n then halfF n f (2 * k) else k
theorem halfF_is (n : Nat) : ∀ f j, n ≤ 2 ^ (f + j) → 2 ^ j < n → ∃ i, halfF n f (2 ^ j) = 2 ^ i ∧ 2 ^ i < n ∧ n ≤ 2 ^ (i + 1) := by
  intro f
  induction f with
  | zero => intro j h1 h2; rw [Nat.zero_add] at h1; omega
  | succ f ih =>
    intro j h1 h2
    unfold halfF
    split
    · rename_i hh
      rw [← p2s] at hh ⊢
      exact ih (j + 1) (by rw [show f + (j + 1) = f + 1 + j by omega]; exact h1) hh
    · rename_i hh
      exact ⟨j, rfl, h2, by rw [p2s]; omega⟩
def half (n : Nat) : Nat := halfF n n 1
theorem half_is {n : Nat} (h : 2 ≤ n) : ∃ i, half n = 2 ^ i ∧ 2 ^ i < n ∧ n ≤ 2 ^ (i + 1) :=
  halfF_is n n 0 (by rw [Nat.add_zero]; exact Nat.le_of_lt Nat.lt_two_pow_self) (by show 1 < n; omega)
theorem half_eq {n j : Nat} (h1 : 2 ^ j < n) (h2 : n ≤ 2 ^ (j + 1)) : half n = 2 ^ j := by
  have := p2 j
  obtain ⟨i, e, g1, g2⟩ := half_is (n := n) (by omega)
  have a : j < i + 1 := p2lt (by omega)
  have b : i < j + 1 := p2lt (by omega)
  rw [e, show i = j by omega]
section
variable {α : Type} (E : α) (N : α → α → α)
def foldP : List α → α
  | [] => E
  | [x] => x
  | x :: y :: r => N x (foldP (y :: r))
def rootP (l : List α) : α :=
  if h : 2 ≤ l.length then N (rootP (l.take (half l.length))) (rootP (l.drop (half l.length))) else l.headD E
termination_by l.length
decreasing_by
  · obtain ⟨i, e, g1, g2⟩ := half_is h
    rw [List.length_take, e]
    omega
  · obtain ⟨i, e, g1, g2⟩ := half_is h
    have := p2 i
    rw [List.length_drop, e]
    omega
theorem rootP_nil : rootP E N [] = E := by rw [rootP, dif_neg (by simp)]; rfl
theorem rootP_one (x : α) : rootP E N [x] = x := by rw [rootP, dif_neg (by simp)]; rfl
theorem rootP_two {l : List α} {j : Nat} (h1 : 2 ^ j < l.length) (h2 : l.length ≤ 2 ^ (j + 1)) : rootP E N l = N (rootP E N (l.take (2 ^ j))) (rootP E N (l.drop (2 ^ j))) := by
  have := p2 j
  rw [rootP, dif_pos (by omega), half_eq h1 h2]
theorem rootP_half {l : List α} (h : 2 ≤ l.length) : rootP E N l = N (rootP E N (l.take (half l.length))) (rootP E N (l.drop (half l.length))) := by
  rw [rootP, dif_pos h]
def piece (L : List α) (a : Nat × Nat) : List α := (L.drop (a.2 * 2 ^ a.1)).take (2 ^ a.1)
theorem fold_roots (L : List α) (h : Nat) : ∀ (j p : Nat), 2 ^ j ∣ p → h < 2 ^ j → j ≤ 63 → p + h ≤ L.length → foldP E N ((cov p (p + h)).map fun a => rootP E N (piece L a)) = rootP E N ((L.drop p).take h) := by
  induction h using Nat.strongRecOn with
  | ind h ih =>
    intro j p hd hh hj hL
    have hb : h < 2 ^ 63 := Nat.lt_of_lt_of_le hh (p2le hj)
    rcases Nat.eq_zero_or_pos h with e | e
    · subst e
      rw [cov_end (by omega), List.take_zero, rootP_nil]
      rfl
    · have hl := lv_lv p h e
      obtain ⟨k, hk⟩ : ∃ k, lv p h = k := ⟨_, rfl⟩
      rw [hk] at hl
      obtain ⟨h1, h2⟩ := low_is hd hh hl hb
      have hs := p2s k
      have h3 := hl.2.2.1
      rw [cov_at (p := p) (k := k) (by omega) (by rw [Nat.add_sub_cancel_left]; exact hl), List.map_cons]
      have hp : piece L (k, p / 2 ^ k) = (L.drop p).take (2 ^ k) := by
        show (L.drop (p / 2 ^ k * 2 ^ k)).take (2 ^ k) = _
        rw [Nat.div_mul_cancel hl.2.1]
      rw [hp]
      rcases Nat.lt_or_ge (2 ^ k) h with g | g
      · have hne : p + 2 ^ k < p + h := by omega
        have hi := ih (h - 2 ^ k) (by have := p2 k; omega) k (p + 2 ^ k) (Nat.dvd_add hl.2.1 (Nat.dvd_refl _)) (by omega) (by omega) (by omega)
        rw [show p + 2 ^ k + (h - 2 ^ k) = p + h by omega] at hi
        have hll : ((L.drop p).take h).length = h := by rw [List.length_take, List.length_drop]; omega
        rw [rootP_two E N (l := (L.drop p).take h) (j := k) (by rw [hll]; exact g) (by rw [hll]; omega), List.take_take, Nat.min_eq_left (by omega), List.drop_take, List.drop_drop, ← hi]
        obtain ⟨y, r, hy⟩ : ∃ y r, (cov (p + 2 ^ k) (p + h)).map (fun a => rootP E N (piece L a)) = y :: r := by
          rw [cov_at hne (lv_lv _ _ (by omega)), List.map_cons]
          exact ⟨_, _, rfl⟩
        rw [hy]
        rfl
      · obtain rfl : h = 2 ^ k := by omega
        rw [cov_end (by omega)]
        rfl
theorem fold_all (L : List α) (hL : L.length < 2 ^ 63) : foldP E N ((cov 0 L.length).map fun a => rootP E N (piece L a)) = rootP E N L := by
  have := fold_roots E N L L.length 63 0 (Nat.dvd_zero _) hL (Nat.le_refl _) (by omega)
  rw [Nat.zero_add, List.drop_zero, List.take_length] at this
  exact this
end
end Go.Proofs.YthdkbjbhjfiaiaaGreatDoor.cb

namespace Go.Proofs.YthdkbjbhjfiaiaaGreatDoor.ga
open Go.Proofs.YthdkbjbhjfiaiaaGreatDoor.ca Go.Proofs.YthdkbjbhjfiaiaaGreatDoor.cb
set_option linter.unusedVariables false
set_option maxRecDepth 4000

theorem half_lt {n : Nat} (h : 2 ≤ n) : 1 ≤ half n ∧ half n < n ∧ n ≤ 2 * half n := by
  obtain ⟨i, e, g1, g2⟩ := half_is h
  have := p2 i
  rw [p2s] at g2
  rw [e]
  omega
section
variable {α : Type} (E : α) (N : α → α → α)
-- the inclusion proof of place i; the consistency proof
def pathP (i : Nat) (l : List α) : List α :=
  if h : 2 ≤ l.length then
    if i < half l.length then pathP i (l.take (half l.length)) ++ [rootP E N (l.drop (half l.length))]
    else pathP (i - half l.length) (l.drop (half l.length)) ++ [rootP E N (l.take (half l.length))]
  else []
termination_by l.length
decreasing_by
  · have := half_lt h; rw [List.length_take]; omega
  · have := half_lt h; rw [List.length_drop]; omega
theorem pathP_one {i : Nat} {l : List α} (h : ¬ 2 ≤ l.length) : pathP E N i l = [] := by rw [pathP, dif_neg h]
theorem pathP_low {i : Nat} {l : List α} (h : 2 ≤ l.length) (hi : i < half l.length) : pathP E N i l = pathP E N i (l.take (half l.length)) ++ [rootP E N (l.drop (half l.length))] := by rw [pathP, dif_pos h, if_pos hi]
theorem pathP_high {i : Nat} {l : List α} (h : 2 ≤ l.length) (hi : ¬ i < half l.length) : pathP E N i l = pathP E N (i - half l.length) (l.drop (half l.length)) ++ [rootP E N (l.take (half l.length))] := by rw [pathP, dif_pos h, if_neg hi]
theorem pathP_len (n : Nat) : ∀ (i : Nat) (l : List α), l.length = n → (pathP E N i l).length ≤ n - 1 := by
  induction n using Nat.strongRecOn with
  | ind n ih =>
    intro i l hl
    by_cases h : 2 ≤ l.length
    · have hh := half_lt h
      by_cases hi : i < half l.length
      · rw [pathP_low E N h hi, List.length_append]
        have := ih (half l.length) (by omega) i (l.take (half l.length)) (by rw [List.length_take]; omega)
        simp
        omega
      · rw [pathP_high E N h hi, List.length_append]
        have := ih (l.length - half l.length) (by omega) (i - half l.length) (l.drop (half l.length)) (by rw [List.length_drop])
        simp
        omega
    · rw [pathP_one E N h]; simp
def subP (m : Nat) (l : List α) (b : Bool) : List α :=
  if h : m < l.length ∧ 2 ≤ l.length then
    if m ≤ half l.length then subP m (l.take (half l.length)) b ++ [rootP E N (l.drop (half l.length))]
    else subP (m - half l.length) (l.drop (half l.length)) false ++ [rootP E N (l.take (half l.length))]
  else if b then [] else [rootP E N l]
termination_by l.length
decreasing_by
  · have := half_lt h.2; rw [List.length_take]; omega
  · have := half_lt h.2; rw [List.length_drop]; omega
theorem subP_all {m : Nat} {l : List α} {b : Bool} (h : ¬ m < l.length) : subP E N m l b = if b then [] else [rootP E N l] := by rw [subP, dif_neg (fun hh => h hh.1)]
theorem subP_low {m : Nat} {l : List α} {b : Bool} (h : m < l.length) (h2 : 2 ≤ l.length) (hm : m ≤ half l.length) : subP E N m l b = subP E N m (l.take (half l.length)) b ++ [rootP E N (l.drop (half l.length))] := by rw [subP, dif_pos ⟨h, h2⟩, if_pos hm]
theorem subP_high {m : Nat} {l : List α} {b : Bool} (h : m < l.length) (h2 : 2 ≤ l.length) (hm : ¬ m ≤ half l.length) : subP E N m l b = subP E N (m - half l.length) (l.drop (half l.length)) false ++ [rootP E N (l.take (half l.length))] := by rw [subP, dif_pos ⟨h, h2⟩, if_neg hm]
theorem subP_len (n : Nat) : ∀ (m : Nat) (l : List α) (b : Bool), l.length = n → 1 ≤ n → (subP E N m l b).length ≤ n := by
  induction n using Nat.strongRecOn with
  | ind n ih =>
    intro m l b hl hn
    by_cases h : m < l.length ∧ 2 ≤ l.length
    · have hh := half_lt h.2
      by_cases hm : m ≤ half l.length
      · rw [subP_low E N h.1 h.2 hm, List.length_append]
        have := ih (half l.length) (by omega) m (l.take (half l.length)) b (by rw [List.length_take]; omega) (by omega)
        simp
        omega
      · rw [subP_high E N h.1 h.2 hm, List.length_append]
        have := ih (l.length - half l.length) (by omega) (m - half l.length) (l.drop (half l.length)) false (by rw [List.length_drop]) (by omega)
        simp
        omega
    · rw [subP, dif_neg h]
      split <;> simp <;> omega
-- parts of a part
theorem root_take {l : List α} {m : Nat} (h2 : 2 ≤ l.length) (h : half l.length < m) (hm : m < l.length) : rootP E N (l.take m) = N (rootP E N (l.take (half l.length))) (rootP E N ((l.drop (half l.length)).take (m - half l.length))) := by
  obtain ⟨i, e, g1, g2⟩ := half_is h2
  have hl : (l.take m).length = m := by rw [List.length_take]; omega
  have hk : half (l.take m).length = half l.length := by rw [hl, e]; exact half_eq (by omega) (by omega)
  rw [rootP_half E N (l := l.take m) (by rw [hl]; have := p2 i; omega), hk, List.take_take, Nat.min_eq_left (by omega), List.drop_take]
end
end Go.Proofs.YthdkbjbhjfiaiaaGreatDoor.ga

namespace Go.Proofs.YthdkbjbhjfiaiaaGreatDoor.kp
open Go.RowKit Go.PlainAid
open Go.Proofs.YthdkbjbhjfiaiaaGreatDoor.ca Go.Proofs.YthdkbjbhjfiaiaaGreatDoor.cb Go.Proofs.YthdkbjbhjfiaiaaGreatDoor.cp Go.Proofs.YthdkbjbhjfiaiaaGreatDoor.ga
set_option linter.unusedVariables false
set_option maxRecDepth 4000

-- but for the blocks of A the world is as it was
structure Kp (A : Nat → Prop) (w w' : World) : Prop where
  os : w'.os = w.os
  tape : w'.tape = w.tape
  output : w'.output = w.output
  size : w.heap.size ≤ w'.heap.size
  block : ∀ k, k < w.heap.size → ¬ A k → w'.heap[k]? = w.heap[k]?
theorem Kp.refl (A : Nat → Prop) (w : World) : Kp A w w := ⟨rfl, rfl, rfl, Nat.le_refl _, fun _ _ _ => rfl⟩
theorem Kp.trans {A : Nat → Prop} {a b c : World} (x : Kp A a b) (y : Kp A b c) : Kp A a c :=
  ⟨y.os.trans x.os, y.tape.trans x.tape, y.output.trans x.output, Nat.le_trans x.size y.size, fun k hk hn => (y.block k (Nat.lt_of_lt_of_le hk x.size) hn).trans (x.block k hk hn)⟩
theorem Kp.mono {A B : Nat → Prop} {w w' : World} (x : Kp A w w') (h : ∀ k, A k → B k) : Kp B w w' := ⟨x.os, x.tape, x.output, x.size, fun k hk hn => x.block k hk (fun a => hn (h k a))⟩
theorem Kp.of_below {A : Nat → Prop} {w w' : World} (x : Below w.heap.size w w') : Kp A w w' := ⟨x.os, x.tape, x.output, x.size, fun k hk _ => x.block k hk⟩
theorem Kp.setCell {A : Nat → Prop} (w : World) (b o : Nat) (v : Value) (hb : A b) : Kp A w (w.setCell ⟨b, o, none⟩ v) :=
  ⟨rfl, rfl, rfl, by simp [World.setCell], fun k hk hn => Below.heap_setCell _ _ _ _ (fun e => hn (e ▸ hb))⟩
theorem Kp.below {A : Nat → Prop} {B : Nat} {w w' : World} (x : Kp A w w') (hA : ∀ k, A k → B ≤ k) (hB : B ≤ w.heap.size) : Below B w w' :=
  ⟨x.os, x.tape, x.output, x.size, fun k hk => x.block k (by omega) (fun a => by have := hA k a; omega)⟩
theorem Kp.cell {A : Nat → Prop} {w w' : World} (x : Kp A w w') {b o : Nat} {v : Value} (h : w.cell? ⟨b, o, none⟩ = some v) (hn : ¬ A b) : w'.cell? ⟨b, o, none⟩ = some v := by
  have hlt := World.block_lt_of_cell? _ _ h
  have := x.block b hlt hn
  rw [← h]
  unfold World.cell?
  rw [show (⟨b, o, none⟩ : Addr).block = b from rfl, this]
-- a walk down the parts that keeps something in mind: what it does at a part, what stands there, how two halves are joined
structure Wy (X V : Type) where
  lk : X → Nat → Nat → Nat × X
  hv : X → Nat → Nat → Nat → V × X
  jn : V → V → V
def go {X V : Type} (W : Wy X V) (x : X) (a b : Nat) : V × X :=
  if (W.lk x a b).1 < 2 then W.hv (W.lk x a b).2 a b (W.lk x a b).1
  else if h : 2 ≤ b - a then
    if (W.lk x a b).1 = 2 then
      (W.jn (go W (W.lk x a b).2 a (a + half (b - a))).1 (go W (go W (W.lk x a b).2 a (a + half (b - a))).2 (a + half (b - a)) b).1, (go W (go W (W.lk x a b).2 a (a + half (b - a))).2 (a + half (b - a)) b).2)
    else
      (W.jn (go W (go W (W.lk x a b).2 (a + half (b - a)) b).2 a (a + half (b - a))).1 (go W (W.lk x a b).2 (a + half (b - a)) b).1, (go W (go W (W.lk x a b).2 (a + half (b - a)) b).2 a (a + half (b - a))).2)
  else W.hv (W.lk x a b).2 a b 0
termination_by b - a
decreasing_by all_goals (have := half_lt h; omega)
theorem go_stop {X V : Type} {W : Wy X V} {x : X} {a b : Nat} (h : (W.lk x a b).1 < 2) : go W x a b = W.hv (W.lk x a b).2 a b (W.lk x a b).1 := by rw [go, if_pos h]
theorem go_left {X V : Type} {W : Wy X V} {x : X} {a b : Nat} (h : (W.lk x a b).1 = 2) (h2 : 2 ≤ b - a) : go W x a b = (W.jn (go W (W.lk x a b).2 a (a + half (b - a))).1 (go W (go W (W.lk x a b).2 a (a + half (b - a))).2 (a + half (b - a)) b).1, (go W (go W (W.lk x a b).2 a (a + half (b - a))).2 (a + half (b - a)) b).2) := by rw [go, if_neg (by omega), dif_pos h2, if_pos h]
theorem go_right {X V : Type} {W : Wy X V} {x : X} {a b : Nat} (h : 3 ≤ (W.lk x a b).1) (h2 : 2 ≤ b - a) : go W x a b = (W.jn (go W (go W (W.lk x a b).2 (a + half (b - a)) b).2 a (a + half (b - a))).1 (go W (W.lk x a b).2 (a + half (b - a)) b).1, (go W (go W (W.lk x a b).2 (a + half (b - a)) b).2 a (a + half (b - a))).2) := by rw [go, if_neg (by omega), dif_pos h2, if_neg (by omega)]
-- F: the blocks that are written; P: what is asked of a part ahead of its walk; Q: what holds of what is made
structure Wk {X V : Type} (F : Nat → Prop) (St : X → World → Prop) (enc : V → Value) (W : Wy X V) (P : X → Nat → Nat → Prop) (Q : V → Prop) (lg hg jg : Nat) (lv hv jv : Array Value) : Prop where
  lent : ∀ args w, (callFunc lg args).run Tryz.prog w = .ok (.enter lg args) w
  hent : ∀ args w, (callFunc hg args).run Tryz.prog w = .ok (.enter hg args) w
  jent : ∀ args w, (callFunc jg args).run Tryz.prog w = .ok (.enter jg args) w
  later : ∀ {x w w'}, St x w → Below w.heap.size w w' → St x w'
  fl : ∀ {x w}, St x w → ∀ b, F b → b < w.heap.size
  look : ∀ x (a b : Nat) w, a < b → b ≤ 4611686018427387904 → P x a b → St x w → Calls Tryz.prog lg (#[.agg #[.int .i64 a, .int .i64 b]] ++ lv) w fun e w' => e = .returned (.int .i64 ((W.lk x a b).1 : Nat)) ∧ St (W.lk x a b).2 w' ∧ Kp F w w'
  have' : ∀ x (a b : Nat) w, a < b → b ≤ 4611686018427387904 → P x a b → (W.lk x a b).1 < 2 → St (W.lk x a b).2 w → Calls Tryz.prog hg (#[.agg #[.int .i64 a, .int .i64 b], .int .i64 ((W.lk x a b).1 : Nat)] ++ hv) w fun e w' => e = .returned (enc (W.hv (W.lk x a b).2 a b (W.lk x a b).1).1) ∧ St (W.hv (W.lk x a b).2 a b (W.lk x a b).1).2 w' ∧ Kp F w w'
  join : ∀ l r x w, Q l → Q r → St x w → Calls Tryz.prog jg (#[enc l, enc r] ++ jv) w fun e w' => e = .returned (enc (W.jn l r)) ∧ Below w.heap.size w w'
  qh : ∀ {x a b}, a < b → P x a b → (W.lk x a b).1 < 2 → Q (W.hv (W.lk x a b).2 a b (W.lk x a b).1).1
  qj : ∀ {l r}, Q l → Q r → Q (W.jn l r)
  wide : ∀ {x a b}, a < b → P x a b → 2 ≤ (W.lk x a b).1 → 2 ≤ b - a
  four : ∀ {x a b}, a < b → P x a b → (W.lk x a b).1 ≤ 3
  left : ∀ {x a b}, a < b → P x a b → (W.lk x a b).1 = 2 → P (W.lk x a b).2 a (a + half (b - a)) ∧ P (go W (W.lk x a b).2 a (a + half (b - a))).2 (a + half (b - a)) b
  right : ∀ {x a b}, a < b → P x a b → (W.lk x a b).1 = 3 → P (W.lk x a b).2 (a + half (b - a)) b ∧ P (go W (W.lk x a b).2 (a + half (b - a)) b).2 a (a + half (b - a))
end Go.Proofs.YthdkbjbhjfiaiaaGreatDoor.kp

namespace Go.Proofs.YthdkbjbhjfiaiaaGreatDoor.n1
open Go
set_option linter.unusedVariables false
set_option maxRecDepth 4000

-- a text's runes: is it valid UTF-8?
def bad (s : ByteArray) (p : Nat) : Prop := (Utf8.decode s p).1 = 65533 ∧ s.extract p (p + 3) ≠ ⟨#[239, 191, 189]⟩
instance (s : ByteArray) (p : Nat) : Decidable (bad s p) := inferInstanceAs (Decidable (_ ∧ _))
def wh (s : ByteArray) : Nat → Nat → Bool
  | 0, _ => true
  | f + 1, p => if p < s.size then (if bad s p then false else wh s f (p + (Utf8.decode s p).2)) else true
def whole (s : ByteArray) : Bool := wh s s.size 0
-- has it no control bytes?
def okb (nl : Bool) (b : Nat) : Bool := decide (32 ≤ b) || (nl && decide (b = 10))
def plF (s : ByteArray) (nl : Bool) (p : Nat) : Prop := ∀ k, p ≤ k → (h : k < s.size) → okb nl (s[k]'h).toNat = true
-- rune by rune
def rdF (s : ByteArray) : Nat → Nat → Bool
  | 0, _ => true
  | f + 1, p => if p < s.size then (if (Utf8.decode s p).1 < 32 ∧ (Utf8.decode s p).1 ≠ 10 then false else if bad s p then false else rdF s f (p + (Utf8.decode s p).2)) else true
def readable (s : ByteArray) : Bool := rdF s s.size 0

theorem get_of (s : ByteArray) (k : Nat) (h : k < s.size) : s.get! k = s[k]'h := by
  have := get_at s k h
  simpa using this
theorem high (s : ByteArray) (p : Nat) (h : p < s.size) (hb : 128 ≤ (s[p]'h).toNat) : ∀ k, k < (Utf8.decode s p).2 → ∃ g : p + k < s.size, 128 ≤ (s[p + k]'g).toNat := by
  have e0 : s.get! (p + 0) = s[p]'h := get_of s p h
  have one : ∀ k, k < 1 → ∃ g : p + k < s.size, 128 ≤ (s[p + k]'g).toNat := by
    intro k hk
    obtain rfl : k = 0 := by omega
    exact ⟨h, hb⟩
  have cont : ∀ k, (decide (p + k < s.size) && (s.get! (p + k)).toNat / 64 == 2) = true → ∃ g : p + k < s.size, 128 ≤ (s[p + k]'g).toNat := by
    intro k hk
    rw [Bool.and_eq_true] at hk
    have g := of_decide_eq_true hk.1
    refine ⟨g, ?_⟩
    have := beq_iff_eq.1 hk.2
    rw [get_of s _ g] at this
    omega
  intro k hk
  unfold Utf8.decode at hk
  simp only [e0] at hk
  rw [if_neg (by omega)] at hk
  split at hk
  · rename_i hc
    rw [Bool.and_eq_true] at hc
    split at hk
    · match k, hk with
      | 0, _ => exact ⟨h, hb⟩
      | 1, _ => exact cont 1 hc.2
    · exact one k hk
  · split at hk
    · rename_i hc
      rw [Bool.and_eq_true, Bool.and_eq_true] at hc
      split at hk
      · match k, hk with
        | 0, _ => exact ⟨h, hb⟩
        | 1, _ => exact cont 1 hc.1.2
        | 2, _ => exact cont 2 hc.2
      · exact one k hk
    · split at hk
      · rename_i hc
        rw [Bool.and_eq_true, Bool.and_eq_true, Bool.and_eq_true] at hc
        split at hk
        · match k, hk with
          | 0, _ => exact ⟨h, hb⟩
          | 1, _ => exact cont 1 hc.1.1.2
          | 2, _ => exact cont 2 hc.1.2
          | 3, _ => exact cont 3 hc.2
        · exact one k hk
      · exact one k hk
theorem width (s : ByteArray) (p : Nat) (h : p < s.size) : 1 ≤ (Utf8.decode s p).2 := by
  by_cases ha : (s[p]'h).toNat < 128
  · rw [decode_ascii s p h ha]; exact Nat.le_refl _
  · exact (decode_high s p h (by omega)).2
theorem width_le (s : ByteArray) (p : Nat) (h : p < s.size) : p + (Utf8.decode s p).2 ≤ s.size := by
  by_cases ha : (s[p]'h).toNat < 128
  · rw [decode_ascii s p h ha]; show p + 1 ≤ _; omega
  · have hw := width s p h
    obtain ⟨g, _⟩ := high s p h (by omega) ((Utf8.decode s p).2 - 1) (by omega)
    omega
theorem rd_iff (s : ByteArray) : ∀ f p, s.size ≤ p + f → (rdF s f p = true ↔ wh s f p = true ∧ plF s true p)
  | 0, p, hf => by
    simp only [rdF, wh, true_and, true_iff]
    intro k h1 h2; omega
  | f + 1, p, hf => by
    unfold rdF wh
    by_cases hp : p < s.size
    · rw [if_pos hp, if_pos hp]
      have hw := width s p hp
      have ih := rd_iff s f (p + (Utf8.decode s p).2) (by omega)
      by_cases ha : (s[p]'hp).toNat < 128
      · have hd := decode_ascii s p hp ha
        have e1 : (Utf8.decode s p).1 = (s[p]'hp).toNat := by rw [hd]
        have e2 : (Utf8.decode s p).2 = 1 := by rw [hd]
        have step : plF s true p ↔ okb true (s[p]'hp).toNat = true ∧ plF s true (p + 1) := by
          constructor
          · exact fun h => ⟨h p (Nat.le_refl _) hp, fun k h1 h2 => h k (by omega) h2⟩
          · rintro ⟨h0, h1⟩ k hk h2
            rcases Nat.lt_or_ge p k with g | g
            · exact h1 k (by omega) h2
            · obtain rfl : k = p := by omega
              exact h0
        by_cases hc : (Utf8.decode s p).1 < 32 ∧ (Utf8.decode s p).1 ≠ 10
        · rw [if_pos hc]
          refine ⟨fun h => by simp at h, fun h => ?_⟩
          have := (step.1 h.2).1
          rw [e1] at hc
          unfold okb at this
          simp at this
          omega
        · rw [if_neg hc]
          have hok : okb true (s[p]'hp).toNat = true := by
            unfold okb
            rw [e1] at hc
            simp
            omega
          by_cases hb : bad s p
          · rw [if_pos hb, if_pos hb]; simp
          · rw [if_neg hb, if_neg hb, ih, step, e2]
            simp [hok]
      · have hh := high s p hp (by omega)
        have hd := (decode_high s p hp (by omega)).1
        have hc : ¬ ((Utf8.decode s p).1 < 32 ∧ (Utf8.decode s p).1 ≠ 10) := by omega
        rw [if_neg hc]
        have step : plF s true p ↔ plF s true (p + (Utf8.decode s p).2) := by
          constructor
          · exact fun h k h1 h2 => h k (by omega) h2
          · intro h1 k hk h2
            rcases Nat.lt_or_ge k (p + (Utf8.decode s p).2) with g | g
            · obtain ⟨_, hq⟩ := hh (k - p) (by omega)
              have ek : p + (k - p) = k := by omega
              simp only [ek] at hq
              unfold okb
              simp
              omega
            · exact h1 k g h2
        by_cases hb : bad s p
        · rw [if_pos hb, if_pos hb]; simp
        · rw [if_neg hb, if_neg hb, ih, step]
    · rw [if_neg hp, if_neg hp]
      simp only [true_and, true_iff]
      intro k h1 h2; omega
theorem readable_iff (s : ByteArray) : readable s = true ↔ whole s = true ∧ plF s true 0 := rd_iff s s.size 0 (by omega)
end Go.Proofs.YthdkbjbhjfiaiaaGreatDoor.n1

namespace Go.Proofs.YthdkbjbhjfiaiaaGreatDoor.n3
open Go.RowKit Go.PlainAid
open Go.Proofs.YthdkbjbhjfiaiaaGreatDoor.ta Go.Proofs.YthdkbjbhjfiaiaaGreatDoor.tb Go.Proofs.YthdkbjbhjfiaiaaGreatDoor.tc Go.Proofs.YthdkbjbhjfiaiaaGreatDoor.td Go.Proofs.YthdkbjbhjfiaiaaGreatDoor.te Go.Proofs.YthdkbjbhjfiaiaaGreatDoor.tg Go.Proofs.YthdkbjbhjfiaiaaGreatDoor.tj Go.Proofs.YthdkbjbhjfiaiaaGreatDoor.tk Go.Proofs.YthdkbjbhjfiaiaaGreatDoor.tm Go.Proofs.YthdkbjbhjfiaiaaGreatDoor.tn Go.Proofs.YthdkbjbhjfiaiaaGreatDoor.ub Go.Proofs.YthdkbjbhjfiaiaaGreatDoor.uc
set_option linter.unusedVariables false
set_option maxRecDepth 4000

-- names
def ok1 (b : Int) : Bool := pr b && !(b == 43)
def nm (s : ByteArray) : Bool := decide (s.size ≠ 0) && decide (s.size ≤ 64) && (bs s).all ok1
set_option maxHeartbeats 400000 in
theorem name1 (b : Int) (w : World) : Calls Tryz.prog 86 #[.int .u8 b] w fun e w' => e = .returned (.bool (ok1 b)) ∧ w' = w := by
  have C : Hid (Calls _ _ _ _ _) := printed b w
  unfold ok1
  generalize pr b = p at *
  cases p
  all_goals
    go_enter Tryz.func86, Tryz.ntmps86
    go_wp2_with fail
    refine C.out.mono ?_
    rintro e w1 ⟨rfl, rfl⟩
    go_wp2
    go_ret
    exact ⟨rfl, rfl⟩
theorem eName1 : ∀ args w, (callFunc 86 args).run Tryz.prog w = .ok (.enter 86 args) w := enters_of Tryz.func86 (by kernel_rfl) rfl
theorem all_to (s : ByteArray) (h : ∀ k, k < s.size → ok1 (bt s k) = true) : (bs s).all ok1 = true := by
  rw [List.all_eq_true]
  intro x hx
  obtain ⟨k, hk, rfl⟩ := List.getElem_of_mem hx
  rw [bs_length] at hk
  rw [bs_get s k hk]
  exact h k hk
theorem all_not (s : ByteArray) (k : Nat) (hk : k < s.size) (h : ok1 (bt s k) = false) : (bs s).all ok1 = false := by
  rw [List.all_eq_false]
  refine ⟨bt s k, ?_, by simp [h]⟩
  rw [← bs_get s k hk]
  exact List.getElem_mem _
theorem thru (s : ByteArray) (hs : s.size ≤ 4611686018427387904) (w : World) : Calls Tryz.prog 85 #[.string s, .func (.func 86) #[] #[]] w fun e w' => e = .returned (.bool ((bs s).all ok1)) ∧ w' = w := by
  refine (through s hs 86 #[] eName1 (fun k w' => w' = w ∧ ∀ j, j < k → ok1 (bt s j) = true) (fun w' => w' = w ∧ (bs s).all ok1 = false) ?_ w ⟨rfl, fun j hj => by omega⟩).mono ?_
  · rintro k w' hk ⟨rfl, hj⟩
    refine (name1 (bt s k) w').mono ?_
    rintro e w2 ⟨rfl, rfl⟩
    cases hb : ok1 (bt s k)
    · exact .inr ⟨rfl, rfl, all_not s k hk hb⟩
    · refine .inl ⟨rfl, rfl, fun j h => ?_⟩
      rcases Nat.lt_or_ge j k with h1 | h1
      · exact hj j h1
      · obtain rfl : j = k := by omega
        exact hb
  · rintro e w' (⟨rfl, rfl, h⟩ | ⟨rfl, rfl, h⟩)
    · exact ⟨by rw [all_to s h], rfl⟩
    · exact ⟨by rw [h], rfl⟩
theorem ne_empty (s : ByteArray) (h : s.size ≠ 0) : (s.toList == []) = false ∧ s.toList.isEmpty = false := by
  have h1 : (s.toList == []) = false := by rw [toList_lit]; exact decide_eq_false (fun e => h (by rw [e]; rfl))
  refine ⟨h1, ?_⟩
  cases hl : s.toList with
  | nil => rw [hl] at h1; cases h1
  | cons => rfl
theorem is_empty (s : ByteArray) (h : s.size = 0) : s = ByteArray.empty := bs_inj (by
  have : bs s = [] := List.length_eq_zero_iff.1 (by rw [bs_length]; exact h)
  rw [this]; rfl)
theorem yes_empty (s : ByteArray) (h : s.size = 0) : (s.toList == []) = true ∧ s.toList.isEmpty = true := by
  rw [is_empty s h, ByteArray.toList_eq]
  exact ⟨rfl, rfl⟩
set_option maxHeartbeats 400000 in
theorem name (s : ByteArray) (hs : s.size ≤ 4611686018427387904) (w : World) : Calls Tryz.prog 56 #[.string s] w fun e w' => e = .returned (.bool (nm s)) ∧ w' = w := by
  have T : Hid (Calls _ _ _ _ _) := thru s hs w
  by_cases h0 : s.size = 0
  · obtain ⟨h1, h2⟩ := yes_empty s h0
    have HN : Hid (nm s = false) := by show _ = _; simp [nm, h0]
    rw [HN.out]
    go_enter Tryz.func56, Tryz.ntmps56
    go_wp2
    go_ret
    exact ⟨rfl, rfl⟩
  · obtain ⟨h1, h2⟩ := ne_empty s h0
    by_cases h64 : s.size ≤ 64
    · have h64' : (s.size : Int) ≤ 64 := by omega
      have HN : Hid (nm s = (bs s).all ok1) := by show _ = _; simp [nm, h0, h64]
      rw [HN.out]
      generalize (bs s).all ok1 = A at *
      go_enter Tryz.func56, Tryz.ntmps56
      go_wp2_with fail
      refine T.out.mono ?_
      rintro e w1 ⟨rfl, rfl⟩
      go_wp2
      go_ret
      exact ⟨rfl, rfl⟩
    · have h64' : ¬ (s.size : Int) ≤ 64 := by omega
      have HN : Hid (nm s = false) := by show _ = _; simp [nm, h64]
      rw [HN.out]
      go_enter Tryz.func56, Tryz.ntmps56
      go_wp2
      go_ret
      exact ⟨rfl, rfl⟩
set_option maxHeartbeats 800000 in
theorem rName (s : ByteArray) (hs : s.size ≤ 4611686018427387904) (w : World) : Calls Tryz.prog 37 #[.string s] w fun e w' => e = .returned (.bool (nm s)) ∧ w' = w := by
  have hgb := get_bt s
  obtain ⟨R, HR⟩ : ∃ R, Hid (nm s = R) := ⟨_, rfl⟩
  rw [HR.out]
  go_enter Tryz.func37, Tryz.ntmps37
  go_wp2
  go_loop [3] (fun i => ∃ k : Nat, k ≤ s.size ∧ i = .int .i64 k ∧ Hid (∀ j, j < k → ok1 (bt s j) = true)) (fun i => (s.size - intOf i).toNat)
  case atStart => exact ⟨0, by omega, rfl, fun j hj => by omega⟩
  case round =>
    obtain ⟨k, hk, rfl, HL⟩ := hrel
    by_cases hlt : k < s.size
    · have hlt' : (k : Int) < s.size := by omega
      obtain ⟨b, HB⟩ : ∃ b, Hid (bt s k = b) := ⟨_, rfl⟩
      have hgk : ∀ (h : k < s.size), ((s[k]'h).toNat : Int) = b := fun h => (hgb k h).trans HB.out
      clear hgb
      by_cases h1 : b < 33
      · have HF : Hid (R = false) := by
          show _ = _
          rw [← HR.out]
          have := all_not s k hlt (by rw [HB.out]; simp [ok1, pr]; omega)
          simp [nm, this]
        go_wp2
        go_ret
        exact ⟨by rw [HF.out]; rfl, rfl⟩
      · by_cases h2 : b > 126
        · have HF : Hid (R = false) := by
            show _ = _
            rw [← HR.out]
            have := all_not s k hlt (by rw [HB.out]; simp [ok1, pr]; omega)
            simp [nm, this]
          go_wp2
          go_ret
          exact ⟨by rw [HF.out]; rfl, rfl⟩
        · by_cases h3 : b = 43
          · have HF : Hid (R = false) := by
              show _ = _
              rw [← HR.out]
              have := all_not s k hlt (by rw [HB.out]; simp [ok1, h3])
              simp [nm, this]
            have h3' : (b == 43) = true := by rw [h3]; rfl
            clear h3
            go_wp2
            go_ret
            exact ⟨by rw [HF.out]; rfl, rfl⟩
          · have h3' : (b == 43) = false := beq_eq_false_iff_ne.2 h3
            have HK : Hid (ok1 (bt s k) = true) := by show _ = _; rw [HB.out]; simp [ok1, pr, h3]; omega
            clear h3
            go_wp2
            go_round
            case rel =>
              refine ⟨k + 1, by omega, by go_num, fun j h => ?_⟩
              rcases Nat.lt_or_ge j k with g | g
              · exact HL.out j g
              · obtain rfl : j = k := by omega
                exact HK.out
            case measure => simp [intOf]; omega
    · have hlt' : ¬ (k : Int) < s.size := by omega
      obtain rfl : k = s.size := by omega
      have hall := all_to s HL.out
      have HT : Hid (R = (decide (s.size ≠ 0) && decide (s.size ≤ 64))) := by show _ = _; rw [← HR.out]; simp [nm, hall]
      clear hall
      by_cases h0 : s.size = 0
      · have h1 : ¬ ((s.size : Int) ≥ 1) := by omega
        go_wp2
        go_ret
        exact ⟨by rw [HT.out]; simp [h0], rfl⟩
      · have h1 : (s.size : Int) ≥ 1 := by omega
        by_cases h64 : s.size ≤ 64
        · have h64' : (s.size : Int) ≤ 64 := by omega
          go_wp2
          go_ret
          exact ⟨by rw [HT.out]; simp [h0, h64], rfl⟩
        · have h64' : ¬ (s.size : Int) ≤ 64 := by omega
          go_wp2
          go_ret
          exact ⟨by rw [HT.out]; simp [h64], rfl⟩
end Go.Proofs.YthdkbjbhjfiaiaaGreatDoor.n3

namespace Go.Proofs.YthdkbjbhjfiaiaaGreatDoor.n4
open Go.RowKit Go.PlainAid
open Go.Proofs.YthdkbjbhjfiaiaaGreatDoor.pl Go.Proofs.YthdkbjbhjfiaiaaGreatDoor.ft Go.Proofs.YthdkbjbhjfiaiaaGreatDoor.pj Go.Proofs.YthdkbjbhjfiaiaaGreatDoor.rf Go.Proofs.YthdkbjbhjfiaiaaGreatDoor.mo Go.Proofs.YthdkbjbhjfiaiaaGreatDoor.mq Go.Proofs.YthdkbjbhjfiaiaaGreatDoor.nd Go.Proofs.YthdkbjbhjfiaiaaGreatDoor.nh Go.Proofs.YthdkbjbhjfiaiaaGreatDoor.n3
set_option linter.unusedVariables false
set_option maxRecDepth 4000

theorem kid_size (a b : ByteArray) : (kidF a b).size = 4 := by unfold kidF; rw [ByteArray.size_extract, sha_size]; rfl
def keyV (a b : ByteArray) : Value := .agg #[.string a, .string b]
def idV (a b : ByteArray) : Value := if nm a = true then .tuple #[.string (kidF a b), .int .i64 0] else .tuple #[.string ByteArray.empty, .int .i64 203]
set_option maxHeartbeats 800000 in
theorem idD (a b : ByteArray) (ha : a.size ≤ 140737488351232) (hb : b.size ≤ 140737488351232) (w : World) (T : Hid (Tab4 w)) :
    Calls Tryz.prog 31 #[.agg #[.string a, .string b]] w fun e w' => e = .returned (idV a b) ∧ Below w.heap.size w w' := by
  have C1 : Hid (∀ w, Calls _ _ _ _ _) := fun w => rName a (by omega) w
  have HB0 : Hid (Below w.heap.size w (w.alloc (.cells #[.string a, .string b] 49))) := (Below.refl _ _).alloc (Nat.le_refl _) _
  have C2 : Hid (Calls _ _ _ _ _) := rkeyID a b (w.alloc (.cells #[.string a, .string b] 49)) ha hb (T.out.down HB0.out)
  obtain ⟨R, HR⟩ : ∃ R, Hid (idV a b = R) := ⟨_, rfl⟩
  rw [HR.out]
  by_cases hn : nm a = true
  · have HE : Hid (R = .tuple #[.string (kidF a b), .int .i64 0]) := by show _ = _; rw [← HR.out]; unfold idV; rw [if_pos hn]
    rw [hn] at C1
    clear HR hn
    generalize kidF a b = x at *
    go_enter Tryz.func31, Tryz.ntmps31
    go_wp2_with fail
    refine (C1.out _).mono ?_
    rintro e w1 ⟨rfl, rfl⟩
    go_wp2_with fail
    refine C2.out.mono ?_
    rintro e w2 ⟨rfl, hb2⟩
    have B2 : Hid (Below w.heap.size w w2) := HB0.out.trans (hb2.mono (by simp))
    clear hb2
    go_wp2
    go_ret2
    exact ⟨by rw [HE.out]; rfl, B2.out⟩
  · have hf : nm a = false := by simpa using hn
    have HE : Hid (R = .tuple #[.string ByteArray.empty, .int .i64 203]) := by show _ = _; rw [← HR.out]; unfold idV; rw [if_neg hn]
    rw [hf] at C1
    clear HR hn hf
    go_enter Tryz.func31, Tryz.ntmps31
    go_wp2_with fail
    refine (C1.out _).mono ?_
    rintro e w1 ⟨rfl, rfl⟩
    go_wp2
    go_ret2
    exact ⟨by rw [HE.out]; rfl, HB0.out⟩
theorem numC (n : Int) (w : World) : Calls Tryz.prog 8 #[.int .i64 n] w fun e w' => e = .returned (.int .i64 n) ∧ w' = w := by
  go_enter Tryz.func8, Tryz.ntmps8
  go_wp2
  go_ret
  exact ⟨rfl, rfl⟩
theorem id_form (a b : ByteArray) : ∃ s n, idV a b = .tuple #[.string s, .int .i64 n] := by
  unfold idV
  split <;> exact ⟨_, _, rfl⟩
end Go.Proofs.YthdkbjbhjfiaiaaGreatDoor.n4

namespace Go.Proofs.YthdkbjbhjfiaiaaGreatDoor.o2
open Go.RowKit Go.PlainAid
open Go.Proofs.YthdkbjbhjfiaiaaGreatDoor.ta Go.Proofs.YthdkbjbhjfiaiaaGreatDoor.tb Go.Proofs.YthdkbjbhjfiaiaaGreatDoor.tc Go.Proofs.YthdkbjbhjfiaiaaGreatDoor.tj Go.Proofs.YthdkbjbhjfiaiaaGreatDoor.n1
set_option linter.unusedVariables false
set_option maxRecDepth 4000

def FF : ByteArray := ⟨#[239, 191, 189]⟩
set_option maxHeartbeats 800000 in
theorem lHasP (t : ByteArray) (hs : t.size ≤ 281474976710656) (b : Bool) (hb : decide (t.extract 0 3 = FF) = b) (w : World) :
    Calls Tryz.prog 126 #[.string t, .string ⟨#[239, 191, 189]⟩] w fun e w' => e = .returned (.bool b) ∧ w' = w := by
  have h3 : (⟨#[239, 191, 189]⟩ : ByteArray).size = 3 := rfl
  by_cases h : 3 ≤ t.size
  · have hge : ((t.size : Int) ≥ 3) := by omega
    have hge2 : ((3 : Int) ≤ (t.size : Int)) := by omega
    have HB : Hid (((t.extract 0 3).toList == [239, 191, 189]) = b) := by show _ = _; rw [toList_lit]; exact hb
    clear hb
    go_enter Tryz.func126, Tryz.ntmps126
    go_wp2
    go_ret
    exact ⟨congrArg (fun b => Ending.returned (.bool b)) HB.out, rfl⟩
  · have hge : ¬ ((t.size : Int) ≥ 3) := by omega
    have hge2 : ¬ ((3 : Int) ≤ (t.size : Int)) := by omega
    have HB : Hid (b = false) := by
      show _ = _
      rw [← hb]
      refine decide_eq_false (fun e => ?_)
      have := congrArg ByteArray.size e
      rw [ByteArray.size_extract] at this
      have h4 : FF.size = 3 := rfl
      omega
    clear hb
    go_enter Tryz.func126, Tryz.ntmps126
    go_wp2
    go_ret
    exact ⟨by rw [HB.out]; rfl, rfl⟩
set_option maxHeartbeats 800000 in
theorem hasP (t : ByteArray) (hs : t.size ≤ 281474976710656) (b : Bool) (hb : decide (t.extract 0 3 = FF) = b) (w : World) :
    Calls Tryz.prog 119 #[.string t, .string ⟨#[239, 191, 189]⟩] w fun e w' => e = .returned (.bool b) ∧ w' = w := by
  have C : Hid (Calls _ _ _ _ _) := lHasP t hs b hb w
  clear hb
  go_enter Tryz.func119, Tryz.ntmps119
  go_wp2_with fail
  refine C.out.mono ?_
  rintro e w1 ⟨rfl, rfl⟩
  go_wp2
  go_ret
  exact ⟨rfl, rfl⟩
theorem ext_ext (s : ByteArray) (p : Nat) : (s.extract p s.size).extract 0 3 = s.extract p (p + 3) := by
  apply ByteArray.ext
  rw [ByteArray.data_extract, ByteArray.data_extract, ByteArray.data_extract, Array.extract_extract]
  apply Array.ext'
  simp only [Array.toList_extract, List.extract_eq_take_drop]
  have e0 : p + 0 = p := rfl
  have : s.size = s.data.toList.length := rfl
  simp only [e0]
  rw [List.take_eq_take_iff]
  simp only [List.length_drop]
  omega
set_option maxHeartbeats 1600000 in
theorem readableC (s : ByteArray) (hs : s.size ≤ 140737488355328) (w : World) :
    Calls Tryz.prog 90 #[.string s] w fun e w' => e = .returned (.bool (readable s)) ∧ Below w.heap.size w w' := by
  obtain ⟨R, HR⟩ : ∃ R, Hid (readable s = R) := ⟨_, rfl⟩
  rw [HR.out]
  have HB0 : Hid (∀ p, Below w.heap.size w (w.iter s p)) := fun p => (Below.refl _ _).alloc (Nat.le_refl _) _
  go_enter Tryz.func90, Tryz.ntmps90
  go_wp2
  go_loopw [3] (fun _ wr => ∃ pos f : Nat, wr = w.iter s pos ∧ Hid (rdF s f pos = R) ∧ s.size ≤ pos + f) (fun _ wr => s.size - wr.iterPos w.heap.size)
  case atStart => exact ⟨0, s.size, rfl, HR.out, by omega⟩
  case round =>
    obtain ⟨pos, f, rfl, HF, hf⟩ := hrel
    by_cases hp : pos < s.size
    · have hnx : ∀ ty, (Instr.next (.pointer (some ⟨w.heap.size, 0, none⟩)) true ty).run Tryz.prog (w.iter s pos) = _ := fun ty => run_next_any w s pos ty hp
      have hwd := width s pos hp
      have hwl := width_le s pos hp
      obtain ⟨g, rfl⟩ : ∃ g, f = g + 1 := ⟨f - 1, by omega⟩
      have HS : Hid (rdF s (g + 1) pos = if (Utf8.decode s pos).1 < 32 ∧ (Utf8.decode s pos).1 ≠ 10 then false else if bad s pos then false else rdF s g (pos + (Utf8.decode s pos).2)) := by
        show _ = _
        rw [rdF, if_pos hp]
      have HBD : Hid (bad s pos ↔ (Utf8.decode s pos).1 = 65533 ∧ s.extract pos (pos + 3) ≠ ⟨#[239, 191, 189]⟩) := by unfold bad; exact Iff.rfl
      generalize (Utf8.decode s pos).1 = r at *
      generalize (Utf8.decode s pos).2 = d at *
      have hp1 : (0 : Int) ≤ (pos : Int) := by omega
      have hp2 : (pos : Int) ≤ (s.size : Int) := by omega
      by_cases h1 : r < 32 ∧ r ≠ 10
      · have HE : Hid (R = false) := by show _ = _; rw [← HF.out, HS.out, if_pos h1]
        have g1 : decide ((r : Int) < 32) = true := decide_eq_true (by omega)
        have g2 : ((r : Int) == 10) = false := beq_eq_false_iff_ne.2 (by omega)
        have g3 : (r : Int) < 32 := by omega
        have g4 : r < 32 := h1.1
        have g5 : ¬ (r : Int) = 10 := by omega
        clear h1
        go_wp2
        go_ret
        exact ⟨by rw [HE.out]; rfl, HB0.out _⟩
      · by_cases h2 : r = 65533
        · have g1 : decide ((r : Int) < 32) = false := decide_eq_false (by omega)
          have g3 : ¬ (r : Int) < 32 := by omega
          have g4 : ¬ r < 32 := by omega
          have g2 : ((r : Int) == 65533) = true := beq_iff_eq.2 (by omega)
          have g5 : (r : Int) = 65533 := by omega
          by_cases h3 : s.extract pos (pos + 3) = FF
          · have C : Hid (∀ w, Calls _ _ _ _ _) := fun w => hasP (s.extract pos s.size) (by rw [ByteArray.size_extract]; omega) true (by rw [ext_ext]; exact decide_eq_true h3) w
            have HG : Hid (rdF s g (pos + d) = R) := by
              show _ = _
              rw [← HF.out, HS.out, if_neg h1, if_neg (fun hb => (HBD.out.1 hb).2 h3)]
            clear h1 h2 h3
            go_wp2_with fail
            refine (C.out _).mono ?_
            rintro e w1 ⟨rfl, rfl⟩
            go_wp2
            go_roundw
            case rel => exact ⟨pos + d, g, rfl, HG, by omega⟩
            case measure => simp; omega
          · have C : Hid (∀ w, Calls _ _ _ _ _) := fun w => hasP (s.extract pos s.size) (by rw [ByteArray.size_extract]; omega) false (by rw [ext_ext]; exact decide_eq_false h3) w
            have HE : Hid (R = false) := by
              show _ = _
              rw [← HF.out, HS.out, if_neg h1, if_pos (HBD.out.2 ⟨h2, h3⟩)]
            clear h1 h2 h3
            go_wp2_with fail
            refine (C.out _).mono ?_
            rintro e w1 ⟨rfl, rfl⟩
            go_wp2
            go_ret
            exact ⟨by rw [HE.out]; rfl, HB0.out _⟩
        · have HG : Hid (rdF s g (pos + d) = R) := by
            show _ = _
            rw [← HF.out, HS.out, if_neg h1, if_neg (fun hb => h2 (HBD.out.1 hb).1)]
          have g2 : ((r : Int) == 65533) = false := beq_eq_false_iff_ne.2 (by omega)
          have g5 : ¬ (r : Int) = 65533 := by omega
          by_cases h3 : r < 32
          · have h4 : r = 10 := by omega
            have g1 : decide ((r : Int) < 32) = true := decide_eq_true (by omega)
            have g3 : (r : Int) < 32 := by omega
            have g6 : ((r : Int) == 10) = true := beq_iff_eq.2 (by omega)
            have g7 : (r : Int) = 10 := by omega
            clear h1 h2 h4
            go_wp2
            go_roundw
            case rel => exact ⟨pos + d, g, rfl, HG, by omega⟩
            case measure => simp; omega
          · have g1 : decide ((r : Int) < 32) = false := decide_eq_false (by omega)
            have g3 : ¬ (r : Int) < 32 := by omega
            clear h1 h2
            go_wp2
            go_roundw
            case rel => exact ⟨pos + d, g, rfl, HG, by omega⟩
            case measure => simp; omega
    · have hnx : ∀ ty, (Instr.next (.pointer (some ⟨w.heap.size, 0, none⟩)) true ty).run Tryz.prog (w.iter s pos) = _ := fun ty => run_next_end w s pos ty hp
      have HE : Hid (R = true) := by
        show _ = _
        rw [← HF.out]
        cases f with
        | zero => rfl
        | succ f => rw [rdF, if_neg hp]
      go_wp2
      go_ret
      exact ⟨by rw [HE.out]; rfl, HB0.out _⟩
end Go.Proofs.YthdkbjbhjfiaiaaGreatDoor.o2

namespace Go.Proofs.YthdkbjbhjfiaiaaGreatDoor.o3
open Go.RowKit Go.PlainAid
open Go.Proofs.YthdkbjbhjfiaiaaGreatDoor.ta Go.Proofs.YthdkbjbhjfiaiaaGreatDoor.tb Go.Proofs.YthdkbjbhjfiaiaaGreatDoor.tc Go.Proofs.YthdkbjbhjfiaiaaGreatDoor.tj Go.Proofs.YthdkbjbhjfiaiaaGreatDoor.n1 Go.Proofs.YthdkbjbhjfiaiaaGreatDoor.o2
set_option linter.unusedVariables false
set_option maxRecDepth 4000

def ends (s : ByteArray) : Bool := decide (s.size ≠ 0 ∧ s.extract (s.size - 1) s.size = ⟨#[10]⟩)
def goesB (s : ByteArray) : Bool := ends s && readable s
set_option maxHeartbeats 800000 in
theorem hasS (s : ByteArray) (hs : s.size ≤ 281474976710656) (w : World) :
    Calls Tryz.prog 69 #[.string s, .string ⟨#[10]⟩] w fun e w' => e = .returned (.bool (ends s)) ∧ w' = w := by
  have C : Hid (Calls Tryz.prog 99 #[.string s, .string ⟨#[10]⟩] w fun e w' => e = .returned (.bool (ends s)) ∧ w' = w) := lHas s 10 hs w
  generalize ends s = b at *
  go_enter Tryz.func69, Tryz.ntmps69
  go_wp2_with fail
  refine C.out.mono ?_
  rintro e w1 ⟨rfl, rfl⟩
  go_wp2
  go_ret
  exact ⟨rfl, rfl⟩
set_option maxHeartbeats 800000 in
theorem goesC (s : ByteArray) (hs : s.size ≤ 140737488355328) (w : World) :
    Calls Tryz.prog 71 #[.string s] w fun e w' => e = .returned (.bool (goesB s)) ∧ Below w.heap.size w w' := by
  have C1 : Hid (Calls _ _ _ _ _) := hasS s (by omega) w
  have C2 : Hid (Calls _ _ _ _ _) := readableC s hs w
  unfold goesB
  generalize ends s = a at *
  generalize readable s = b at *
  cases a
  · go_enter Tryz.func71, Tryz.ntmps71
    go_wp2_with fail
    refine C1.out.mono ?_
    rintro e w1 ⟨rfl, rfl⟩
    go_wp2
    go_ret
    exact ⟨rfl, Below.refl _ _⟩
  · go_enter Tryz.func71, Tryz.ntmps71
    go_wp2_with fail
    refine C1.out.mono ?_
    rintro e w1 ⟨rfl, rfl⟩
    go_wp2_with fail
    refine C2.out.mono ?_
    rintro e w2 ⟨rfl, hb⟩
    have HB : Hid (Below _ _ _) := hb
    clear hb
    go_wp2
    go_ret
    exact ⟨rfl, HB.out⟩
-- the document's
def okB (nl : Bool) (b : Int) : Bool := decide (32 ≤ b) || (nl && decide (b = 10))
def plB (s : ByteArray) (nl : Bool) : Bool := (bs s).all (okB nl)
theorem pl_to (s : ByteArray) (nl : Bool) (h : ∀ k, k < s.size → okB nl (bt s k) = true) : plB s nl = true := by
  unfold plB
  rw [List.all_eq_true]
  intro x hx
  obtain ⟨k, hk, rfl⟩ := List.getElem_of_mem hx
  rw [bs_length] at hk
  rw [bs_get s k hk]
  exact h k hk
theorem pl_not (s : ByteArray) (nl : Bool) (k : Nat) (hk : k < s.size) (h : okB nl (bt s k) = false) : plB s nl = false := by
  unfold plB
  rw [List.all_eq_false]
  refine ⟨bt s k, ?_, by simp [h]⟩
  rw [← bs_get s k hk]
  exact List.getElem_mem _
theorem pl_iff (s : ByteArray) (nl : Bool) : plB s nl = true ↔ plF s nl 0 := by
  constructor
  · intro h k _ hk
    have h1 : okB nl (bt s k) = true := by
      cases hh : okB nl (bt s k)
      · rw [pl_not s nl k hk hh] at h; cases h
      · rfl
    have e := get_bt s k hk
    unfold okB at h1
    rw [← e] at h1
    unfold okb
    cases nl <;> simp at h1 ⊢ <;> omega
  · intro h
    refine pl_to s nl (fun k hk => ?_)
    have h1 := h k (Nat.zero_le _) hk
    have e := get_bt s k hk
    unfold okb at h1
    unfold okB
    rw [← e]
    cases nl <;> simp at h1 ⊢ <;> omega
set_option maxHeartbeats 1600000 in
theorem plainD (s : ByteArray) (nl : Bool) (hs : s.size ≤ 140737488355328) (w : World) :
    Calls Tryz.prog 38 #[.string s, .bool nl] w fun e w' => e = .returned (.bool (plB s nl)) ∧ w' = w := by
  have hgb := get_bt s
  obtain ⟨R, HR⟩ : ∃ R, Hid (plB s nl = R) := ⟨_, rfl⟩
  rw [HR.out]
  obtain ⟨q, HQ⟩ : ∃ q, Hid (q = nl) := ⟨_, rfl⟩
  rw [← HQ.out] at HR
  cases nl
  all_goals
    go_enter Tryz.func38, Tryz.ntmps38
    go_wp2
    go_loop [5] (fun i => ∃ k : Nat, k ≤ s.size ∧ i = .int .i64 k ∧ Hid (∀ j, j < k → okB q (bt s j) = true)) (fun i => (s.size - intOf i).toNat)
    case atStart => exact ⟨0, by omega, rfl, fun j hj => by omega⟩
    case round =>
      obtain ⟨k, hk, rfl, HL⟩ := hrel
      by_cases hlt : k < s.size
      · have hlt' : (k : Int) < s.size := by omega
        obtain ⟨b, HB⟩ : ∃ b, Hid (bt s k = b) := ⟨_, rfl⟩
        have hgk : ∀ (h : k < s.size), ((s[k]'h).toNat : Int) = b := fun h => (hgb k h).trans HB.out
        clear hgb
        have next : okB q b = true → (∀ j, j < k → okB q (bt s j) = true) → (∀ j, j < k + 1 → okB q (bt s j) = true) := fun h1 h2 j hj => by
          rcases Nat.lt_or_ge j k with g | g
          · exact h2 j g
          · obtain rfl : j = k := by omega
            rw [HB.out]; exact h1
        have NX : Hid _ := next
        clear next
        by_cases h1 : b < 32
        · have g1 : decide (b < 32) = true := decide_eq_true h1
          by_cases h2 : b = 10
          · have g2 : (b == 10) = true := beq_iff_eq.2 h2
            have HV : Hid (okB true b = true ∧ okB false b = false) := by constructor <;> simp [okB, h2]
            clear h2
            go_wp2
            first
            | (go_round
               case rel => exact ⟨k + 1, by omega, by go_num, NX.out (by rw [HQ.out]; exact HV.out.1) HL.out⟩
               case measure => simp [intOf]; omega)
            | (go_ret
               exact ⟨by rw [← HR.out, pl_not s _ k hlt (by rw [HB.out, HQ.out]; exact HV.out.2)]; rfl, rfl⟩)
          · have g2 : (b == 10) = false := beq_eq_false_iff_ne.2 h2
            have HV : Hid (∀ nl, okB nl b = false) := by intro nl; simp [okB, h2]; omega
            go_wp2
            go_ret
            exact ⟨by rw [← HR.out, pl_not s _ k hlt (by rw [HB.out]; exact HV.out _)]; rfl, rfl⟩
        · have g1 : decide (b < 32) = false := decide_eq_false h1
          have HV : Hid (∀ nl, okB nl b = true) := by intro nl; simp [okB]; omega
          go_wp2
          go_round
          case rel => exact ⟨k + 1, by omega, by go_num, NX.out (HV.out _) HL.out⟩
          case measure => simp [intOf]; omega
      · have hlt' : ¬ (k : Int) < s.size := by omega
        obtain rfl : k = s.size := by omega
        go_wp2
        go_ret
        exact ⟨by rw [← HR.out, pl_to s _ HL.out]; rfl, rfl⟩
set_option maxHeartbeats 1600000 in
theorem wholeD (s : ByteArray) (hs : s.size ≤ 140737488355328) (w : World) :
    Calls Tryz.prog 39 #[.string s] w fun e w' => e = .returned (.bool (whole s)) ∧ Below w.heap.size w w' := by
  obtain ⟨R, HR⟩ : ∃ R, Hid (whole s = R) := ⟨_, rfl⟩
  rw [HR.out]
  have HB0 : Hid (∀ p, Below w.heap.size w (w.iter s p)) := fun p => (Below.refl _ _).alloc (Nat.le_refl _) _
  go_enter Tryz.func39, Tryz.ntmps39
  go_wp2
  go_loopw [3] (fun _ wr => ∃ pos f : Nat, wr = w.iter s pos ∧ Hid (wh s f pos = R) ∧ s.size ≤ pos + f) (fun _ wr => s.size - wr.iterPos w.heap.size)
  case atStart => exact ⟨0, s.size, rfl, HR.out, by omega⟩
  case round =>
    obtain ⟨pos, f, rfl, HF, hf⟩ := hrel
    by_cases hp : pos < s.size
    · have hnx : ∀ ty, (Instr.next (.pointer (some ⟨w.heap.size, 0, none⟩)) true ty).run Tryz.prog (w.iter s pos) = _ := fun ty => run_next_any w s pos ty hp
      have hwd := width s pos hp
      have hwl := width_le s pos hp
      obtain ⟨g, rfl⟩ : ∃ g, f = g + 1 := ⟨f - 1, by omega⟩
      have HS : Hid (wh s (g + 1) pos = if bad s pos then false else wh s g (pos + (Utf8.decode s pos).2)) := by
        show _ = _
        rw [wh, if_pos hp]
      have HBD : Hid (bad s pos ↔ (Utf8.decode s pos).1 = 65533 ∧ s.extract pos (pos + 3) ≠ FF) := by unfold bad; exact Iff.rfl
      generalize (Utf8.decode s pos).1 = r at *
      generalize (Utf8.decode s pos).2 = d at *
      have hp1 : (0 : Int) ≤ (pos : Int) := by omega
      have hp2 : (pos : Int) ≤ (s.size : Int) := by omega
      by_cases h2 : r = 65533
      · have g2 : ((r : Int) == 65533) = true := beq_iff_eq.2 (by omega)
        have g5 : (r : Int) = 65533 := by omega
        by_cases h4 : pos + 3 ≤ s.size
        · have g6 : decide ((pos : Int) + 3 > (s.size : Int)) = false := decide_eq_false (by omega)
          have g7 : ¬ ((pos : Int) + 3 > (s.size : Int)) := by omega
          have g8 : ((pos : Int) + 3) ≤ (s.size : Int) := by omega
          have g9 : ((pos : Int) + 3).toNat = pos + 3 := by omega
          have hsl : ∀ W, (Instr.slice 9 (.string s) (some (.int .i64 (pos : Int))) (some (.int .i64 ((pos : Int) + 3))) none).run Tryz.prog W = .ok (.string (s.extract pos (pos + 3))) W := fun W => by
            have h := run_slice_string (P := Tryz.prog) W 9 s .i64 .i64 (pos : Int) ((pos : Int) + 3) Tryz.underlying9 (by omega) (by omega) (by omega)
            rw [Int.toNat_natCast, g9] at h
            exact h
          by_cases h3 : s.extract pos (pos + 3) = FF
          · have c1 : ((s.extract pos (pos + 3)).toList == [239, 191, 189]) = true := by rw [toList_lit]; exact decide_eq_true h3
            have HG : Hid (wh s g (pos + d) = R) := by
              show _ = _
              rw [← HF.out, HS.out, if_neg (fun hb => (HBD.out.1 hb).2 h3)]
            clear h2 h3
            go_wp2
            go_roundw
            case rel => exact ⟨pos + d, g, rfl, HG, by omega⟩
            case measure => simp; omega
          · have c1 : ((s.extract pos (pos + 3)).toList == [239, 191, 189]) = false := by rw [toList_lit]; exact decide_eq_false h3
            have HE : Hid (R = false) := by
              show _ = _
              rw [← HF.out, HS.out, if_pos (HBD.out.2 ⟨h2, h3⟩)]
            clear h2 h3
            go_wp2
            go_ret
            exact ⟨by rw [HE.out]; rfl, HB0.out _⟩
        · have g6 : decide ((pos : Int) + 3 > (s.size : Int)) = true := decide_eq_true (by omega)
          have g7 : ((pos : Int) + 3 > (s.size : Int)) := by omega
          have HE : Hid (R = false) := by
            show _ = _
            rw [← HF.out, HS.out, if_pos (HBD.out.2 ⟨h2, fun e => ?_⟩)]
            have := congrArg ByteArray.size e
            rw [ByteArray.size_extract] at this
            have h5 : FF.size = 3 := rfl
            omega
          clear h2
          go_wp2
          go_ret
          exact ⟨by rw [HE.out]; rfl, HB0.out _⟩
      · have HG : Hid (wh s g (pos + d) = R) := by
          show _ = _
          rw [← HF.out, HS.out, if_neg (fun hb => h2 (HBD.out.1 hb).1)]
        have g2 : ((r : Int) == 65533) = false := beq_eq_false_iff_ne.2 (by omega)
        have g5 : ¬ (r : Int) = 65533 := by omega
        clear h2
        go_wp2
        go_roundw
        case rel => exact ⟨pos + d, g, rfl, HG, by omega⟩
        case measure => simp; omega
    · have hnx : ∀ ty, (Instr.next (.pointer (some ⟨w.heap.size, 0, none⟩)) true ty).run Tryz.prog (w.iter s pos) = _ := fun ty => run_next_end w s pos ty hp
      have HE : Hid (R = true) := by
        show _ = _
        rw [← HF.out]
        cases f with
        | zero => rfl
        | succ f => rw [wh, if_neg hp]
      go_wp2
      go_ret
      exact ⟨by rw [HE.out]; rfl, HB0.out _⟩
theorem ends_iff (s : ByteArray) : ends s = true ↔ ∃ n, s.size = n + 1 ∧ bt s n = 10 := by
  unfold ends
  rw [decide_eq_true_iff]
  constructor
  · rintro ⟨h0, h⟩
    refine ⟨s.size - 1, by omega, ?_⟩
    have h1 : bt (s.extract (s.size - 1) s.size) 0 = 10 := by rw [h]; decide +kernel
    rw [bt_extract _ _ _ _ (by omega) (Nat.le_refl _), Nat.add_zero] at h1
    exact h1
  · rintro ⟨n, hn, hb⟩
    refine ⟨by omega, bs_inj ?_⟩
    rw [bs_extract _ _ _ (by omega) (Nat.le_refl _), hn, Nat.add_sub_cancel]
    have e : bs s = btL s n ++ [bt s n] := by unfold bs; rw [hn, btL_succ]
    rw [List.take_of_length_le (by rw [bs_length]; omega), e, List.drop_left' (btL_length s n), hb]
    decide +kernel
set_option maxHeartbeats 1600000 in
theorem goesD (s : ByteArray) (hs : s.size ≤ 140737488355328) (w : World) :
    Calls Tryz.prog 28 #[.string s] w fun e w' => e = .returned (.bool (goesB s)) ∧ Below w.heap.size w w' := by
  have hgb := get_bt s
  have C1 : Hid (∀ w, Calls _ _ _ _ _) := fun w => plainD s true hs w
  have C2 : Hid (Calls _ _ _ _ _) := wholeD s hs w
  have HRD : Hid (readable s = (plB s true && whole s)) := by
    show _ = _
    rw [Bool.eq_iff_iff, readable_iff, Bool.and_eq_true, pl_iff]
    exact And.comm
  have HG : Hid (goesB s = (ends s && readable s)) := rfl
  have HE : Hid (ends s = true ↔ ∃ n, s.size = n + 1 ∧ bt s n = 10) := ends_iff s
  generalize goesB s = G at *
  generalize readable s = Rd at *
  generalize ends s = E at *
  generalize plB s true = a at *
  generalize whole s = b at *
  by_cases h0 : s.size = 0
  · have h0' : (s.size : Int) = 0 := by omega
    have hE : E = false := by
      cases E
      · rfl
      · obtain ⟨n, hn, _⟩ := HE.out.1 rfl; omega
    have HF : Hid (G = false) := by show _ = _; rw [HG.out, hE]; rfl
    have g0 : ((s.size : Int) == 0) = true := beq_iff_eq.2 h0'
    clear hE h0 h0'
    go_enter Tryz.func28, Tryz.ntmps28
    go_wp2
    go_ret
    exact ⟨by rw [HF.out]; rfl, Below.refl _ _⟩
  · obtain ⟨n, hn⟩ : ∃ n, s.size = n + 1 := ⟨s.size - 1, by omega⟩
    have g0 : ((s.size : Int) == 0) = false := beq_eq_false_iff_ne.2 (by omega)
    have g1 : ((s.size : Int) - 1).toNat = n := by omega
    have g2 : (0 : Int) ≤ (s.size : Int) - 1 := by omega
    have g3 : (s.size : Int) - 1 < (s.size : Int) := by omega
    have g4 : (s.size : Int) - 1 = (n : Int) := by omega
    have g5 : (n : Int) < (s.size : Int) := by omega
    have hnl : n < s.size := by omega
    obtain ⟨x, HX⟩ : ∃ x, Hid (bt s n = x) := ⟨_, rfl⟩
    have hgk : ∀ (h : n < s.size), ((s[n]'h).toNat : Int) = x := fun h => (hgb n h).trans HX.out
    have HN : Hid (s.size = n + 1) := hn
    clear hgb hn
    by_cases hx : x = 10
    · have hE : E = true := HE.out.2 ⟨n, HN.out, by rw [HX.out]; exact hx⟩
      have c1 : (x == 10) = true := beq_iff_eq.2 hx
      have HF : Hid (G = (a && b)) := by show _ = _; rw [HG.out, hE, HRD.out]; rfl
      clear hx hE
      cases a
      all_goals
        go_enter Tryz.func28, Tryz.ntmps28
        go_wp2_with fail
        refine (C1.out _).mono ?_
        rintro e w1 ⟨rfl, h1⟩
        rw [h1]
        clear h1 w1
        go_wp2_with fail
        refine C2.out.mono ?_
        rintro e w2 ⟨rfl, hb⟩
        have HB : Hid (Below _ _ _) := hb
        clear hb
        go_wp2
        go_ret
        exact ⟨by rw [HF.out]; rfl, HB.out⟩
    · have hE : E = false := by
        cases E
        · rfl
        · obtain ⟨m, hm, hb⟩ := HE.out.1 rfl
          have := HN.out
          obtain rfl : m = n := by omega
          exact absurd (HX.out.symm.trans hb) hx
      have c1 : (x == 10) = false := beq_eq_false_iff_ne.2 hx
      have HF : Hid (G = false) := by show _ = _; rw [HG.out, hE]; rfl
      clear hE
      go_enter Tryz.func28, Tryz.ntmps28
      go_wp2
      go_ret
      exact ⟨by rw [HF.out]; rfl, Below.refl _ _⟩
end Go.Proofs.YthdkbjbhjfiaiaaGreatDoor.o3

namespace Go.Proofs.YthdkbjbhjfiaiaaGreatDoor.o1
open Go.RowKit Go.PlainAid
open Go.Proofs.YthdkbjbhjfiaiaaGreatDoor.pj Go.Proofs.YthdkbjbhjfiaiaaGreatDoor.mo Go.Proofs.YthdkbjbhjfiaiaaGreatDoor.nh Go.Proofs.YthdkbjbhjfiaiaaGreatDoor.tb Go.Proofs.YthdkbjbhjfiaiaaGreatDoor.tc Go.Proofs.YthdkbjbhjfiaiaaGreatDoor.tj Go.Proofs.YthdkbjbhjfiaiaaGreatDoor.n3 Go.Proofs.YthdkbjbhjfiaiaaGreatDoor.n4 Go.Proofs.YthdkbjbhjfiaiaaGreatDoor.kp
set_option linter.unusedVariables false
set_option maxRecDepth 4000

theorem own_kp {A : Nat → Prop} {w w' : World} {B t z n : Nat} {v : Value} {xs : List Value} (o : w.ownsRow B t z v n xs) (k : Kp A w w') (hn : ∀ j, some j = v.ownBlock → ¬ A j) : w'.ownsRow B t z v n xs := by
  refine ⟨o.1, ?_⟩
  rcases o.2 with h2 | ⟨g', cap, cur', rfl, h2, h3, h4⟩
  · exact .inl h2
  · exact .inr ⟨g', cap, cur', rfl, h2, (k.block g' (Array.getElem?_eq_some_iff.1 h3).1 (hn g' rfl)).trans h3, h4⟩
-- a list of keys in memory
abbrev Ky := ByteArray × ByteArray
def ReadsY (w : World) (v : Value) (ss : List Ky) : Prop := ∃ a c, v = .slice a ss.length c ∧ ss.length ≤ c ∧ (a = none → c = 0) ∧ (ss.length = 0 ∨ ∃ b off, a = some ⟨b, off, none⟩ ∧ ∀ i st, ss[i]? = some st → w.cell? ⟨b, off + i * 2, none⟩ = some (.string st.1) ∧ w.cell? ⟨b, off + i * 2 + 1, none⟩ = some (.string st.2))
theorem ReadsY.later {w w' : World} {v : Value} {l : List Ky} (h : ReadsY w v l) (b : Below w.heap.size w w') : ReadsY w' v l := by
  obtain ⟨a, c, rfl, h1, h2, h0 | ⟨b', off, rfl, hh⟩⟩ := h
  · exact ⟨a, c, rfl, h1, h2, .inl h0⟩
  · refine ⟨_, c, rfl, h1, h2, .inr ⟨b', off, rfl, fun i o hl => ?_⟩⟩
    obtain ⟨h1, h2⟩ := hh i o hl
    have k : ∀ {p : Addr} {v : Value}, w.cell? p = some v → w'.cell? p = some v := fun h => (b.cell (World.block_lt_of_cell? _ _ h)).trans h
    exact ⟨k h1, k h2⟩
theorem ReadsY.at {w : World} {a : Option Addr} {c : Nat} {l : List Ky} (h : ReadsY w (.slice a l.length c) l) (i : Nat) (k : Ky) (hi : l[i]? = some k) : ∃ b off, a = some ⟨b, off, none⟩ ∧ b < w.heap.size ∧ w.cell? ⟨b, off + i * 2, none⟩ = some (.string k.1) ∧ w.cell? ⟨b, off + i * 2 + 1, none⟩ = some (.string k.2) := by
  have hl := (List.getElem?_eq_some_iff.1 hi).1
  obtain ⟨a', c', e, _, _, h0 | ⟨b', off, rfl, hh⟩⟩ := h
  · omega
  · injection e with e1 _ _
    obtain ⟨h1, h2⟩ := hh i k hi
    exact ⟨b', off, e1, World.block_lt_of_cell? _ _ h1, h1, h2⟩
-- signatures
structure Sg where
  name : ByteArray
  id : ByteArray
  mac : ByteArray
instance : Inhabited Sg := ⟨⟨ByteArray.empty, ByteArray.empty, ByteArray.empty⟩⟩
def gc (g : Sg) : List Value := [.string g.name, .string g.id, .string g.mac]
def gcs (l : List Sg) : List Value := l.flatMap gc
theorem gcs_app (l l' : List Sg) : gcs (l ++ l') = gcs l ++ gcs l' := by simp [gcs]
theorem gcs_len (l : List Sg) : (gcs l).length = l.length * 3 := by
  induction l with
  | nil => rfl
  | cons p l ih => simp only [gcs, List.flatMap_cons, List.length_append, List.length_cons] at ih ⊢; rw [ih]; simp [gc]; omega
theorem gcs_at (l : List Sg) (j : Nat) (p : Sg) (h : l[j]? = some p) : (gcs l)[j * 3]? = some (.string p.name) ∧ (gcs l)[j * 3 + 1]? = some (.string p.id) ∧ (gcs l)[j * 3 + 2]? = some (.string p.mac) := by
  induction l generalizing j with
  | nil => simp at h
  | cons q l ih =>
    cases j with
    | zero =>
      simp at h
      subst h
      exact ⟨rfl, rfl, rfl⟩
    | succ j =>
      have := ih j (by simpa using h)
      have e1 : (j + 1) * 3 = j * 3 + 3 := by omega
      rw [e1]
      exact this
def ReadsG (w : World) (v : Value) (r : List Sg) : Prop := ∃ a c, v = .slice a r.length c ∧ (r.length = 0 ∨ ∃ b off, a = some ⟨b, off, none⟩ ∧ b < w.heap.size ∧ ∀ i g, r[i]? = some g → w.cell? ⟨b, off + i * 3, none⟩ = some (.string g.name) ∧ w.cell? ⟨b, off + i * 3 + 1, none⟩ = some (.string g.id) ∧ w.cell? ⟨b, off + i * 3 + 2, none⟩ = some (.string g.mac))
theorem ReadsG.later {w w' : World} {v : Value} {l : List Sg} (h : ReadsG w v l) (b : Below w.heap.size w w') : ReadsG w' v l := by
  obtain ⟨a, c, rfl, h0 | ⟨b', off, rfl, hb, hh⟩⟩ := h
  · exact ⟨a, c, rfl, .inl h0⟩
  · refine ⟨_, c, rfl, .inr ⟨b', off, rfl, Nat.lt_of_lt_of_le hb b.size, fun i o hl => ?_⟩⟩
    obtain ⟨h1, h2, h3⟩ := hh i o hl
    have k : ∀ {p : Addr} {v : Value}, w.cell? p = some v → w'.cell? p = some v := fun h => (b.cell (World.block_lt_of_cell? _ _ h)).trans h
    exact ⟨k h1, k h2, k h3⟩
abbrev Lg (B : Nat) (v : Value) (r : List Sg) (w : World) : Prop := w.ownsRow B 43 3 v r.length (gcs r)
theorem Lg.reads {B : Nat} {v : Value} {r : List Sg} {w : World} (o : Lg B v r w) : ReadsG w v r := by
  rcases o.2 with ⟨rfl, h0⟩ | ⟨g, cap, cur, rfl, _, h3, h4, h5, h6, h7⟩
  · exact ⟨none, 0, by rw [h0], .inl h0⟩
  · refine ⟨_, cap, rfl, .inr ⟨g, 0, rfl, (Array.getElem?_eq_some_iff.1 h3).1, fun i p hi => ?_⟩⟩
    have hl := (List.getElem?_eq_some_iff.1 hi).1
    obtain ⟨s1, s2, s3⟩ := gcs_at r i p hi
    rw [← h7, List.getElem?_take_of_lt (by omega)] at s1 s2 s3
    rw [Nat.zero_add]
    refine ⟨?_, ?_, ?_⟩
    · rw [cell_of_row _ _ _ _ _ _ h3]; simpa using s1
    · rw [cell_of_row _ _ _ _ _ _ h3]; simpa using s2
    · rw [cell_of_row _ _ _ _ _ _ h3]; simpa using s3
theorem Lg.later {B : Nat} {v : Value} {r : List Sg} {w w' : World} (h : Lg B v r w) (b : Below w.heap.size w w') : Lg B v r w' := own_kp h (Kp.of_below (A := fun _ => False) b) (fun _ _ e => e)
theorem Lg.form {B : Nat} {v : Value} {r : List Sg} {w : World} (o : Lg B v r w) : ∃ a c, v = .slice a r.length c := by
  rcases o.2 with ⟨rfl, h0⟩ | ⟨g, cap, cur, rfl, _⟩
  · exact ⟨none, 0, by rw [h0]⟩
  · exact ⟨_, cap, rfl⟩
theorem Lg.nil (w : World) (B : Nat) : Lg B (.slice none 0 0) [] w := World.ownsRow_nil w B 43 3
-- of one key
def eqB (a b : ByteArray) : Bool := decide (a = b)
def one (a g : Sg) : Bool := eqB a.name g.name && eqB a.id g.id
def amg (l : List Sg) (g : Sg) : Bool := l.any (fun a => one a g)
theorem toList_eqB (a b : ByteArray) : (a.toList == b.toList) = eqB a b := toList_bs a b
def sigOf (k : Ky) (body : ByteArray) : Sg := ⟨k.1, kidF k.1 k.2, macF k.2 body⟩
def dash : ByteArray := ⟨#[226, 128, 148, 32]⟩
def lineOf (g : Sg) : ByteArray := dash ++ g.name ++ ⟨#[32]⟩ ++ str (b64L (bs (g.id ++ g.mac))) ++ ⟨#[10]⟩
theorem line_size (g : Sg) (h1 : g.id.size = 4) (h2 : g.mac.size = 32) : (lineOf g).size = g.name.size + 54 := by
  unfold lineOf dash
  rw [ByteArray.size_append, ByteArray.size_append, ByteArray.size_append, ByteArray.size_append, str_size, b64L_length, bs_length, ByteArray.size_append, h1, h2]
  have e1 : (⟨#[226, 128, 148, 32]⟩ : ByteArray).size = 4 := rfl
  have e2 : (⟨#[32]⟩ : ByteArray).size = 1 := rfl
  have e3 : (⟨#[10]⟩ : ByteArray).size = 1 := rfl
  omega
theorem sig_line (k : Ky) (body : ByteArray) : (lineOf (sigOf k body)).size = k.1.size + 54 := line_size _ (kid_size _ _) (macF_size _ _)
def flatB : List ByteArray → ByteArray
  | [] => ByteArray.empty
  | x :: l => x ++ flatB l
theorem flat_app (a b : List ByteArray) : flatB (a ++ b) = flatB a ++ flatB b := by
  induction a with
  | nil => simp [flatB]
  | cons x a ih => simp only [List.cons_append, flatB, ih, ByteArray.append_assoc]
def noteOf (body : ByteArray) (gs : List Sg) : ByteArray := body ++ ⟨#[10]⟩ ++ flatB (gs.map lineOf)
-- may these keys sign together?
def tgF : List Sg → List Ky → Int
  | _, [] => 0
  | done, k :: ks => if nm k.1 = false then 203 else if amg done ⟨k.1, kidF k.1 k.2, ByteArray.empty⟩ then 200 else tgF (done ++ [⟨k.1, kidF k.1 k.2, ByteArray.empty⟩]) ks
theorem amg_eq (d d' : List Sg) (g g' : Sg) (hd : d.map (fun a => (a.name, a.id)) = d'.map (fun a => (a.name, a.id))) (h1 : g.name = g'.name) (h2 : g.id = g'.id) : amg d g = amg d' g' := by
  have e : ∀ (l : List Sg) (g : Sg), amg l g = (l.map (fun a => (a.name, a.id))).any (fun p => eqB p.1 g.name && eqB p.2 g.id) := by
    intro l g
    unfold amg one
    rw [List.any_map]
    rfl
  rw [e, e, hd, h1, h2]
theorem tgF_eq (ks : List Ky) : ∀ d d' : List Sg, d.map (fun a => (a.name, a.id)) = d'.map (fun a => (a.name, a.id)) → tgF d ks = tgF d' ks := by
  induction ks with
  | nil => intro d d' _; rfl
  | cons k ks ih =>
    intro d d' h
    unfold tgF
    rw [amg_eq d d' _ ⟨k.1, kidF k.1 k.2, ByteArray.empty⟩ h rfl rfl, ih _ (d' ++ [⟨k.1, kidF k.1 k.2, ByteArray.empty⟩]) (by rw [List.map_append, List.map_append, h])]
end Go.Proofs.YthdkbjbhjfiaiaaGreatDoor.o1

namespace Go.Proofs.YthdkbjbhjfiaiaaGreatDoor.o4
open Go.RowKit Go.PlainAid
open Go.Proofs.YthdkbjbhjfiaiaaGreatDoor.tc Go.Proofs.YthdkbjbhjfiaiaaGreatDoor.tj Go.Proofs.YthdkbjbhjfiaiaaGreatDoor.n3 Go.Proofs.YthdkbjbhjfiaiaaGreatDoor.n4 Go.Proofs.YthdkbjbhjfiaiaaGreatDoor.o1
set_option linter.unusedVariables false
set_option maxRecDepth 4000

theorem eOfKey1 : ∀ args w, (callFunc 74 args).run Tryz.prog w = .ok (.enter 74 args) w := enters_of Tryz.func74 (by kernel_rfl) rfl
theorem ofKeyC (name id : ByteArray) (w : World) :
    Calls Tryz.prog 45 #[.string name, .string id] w fun e w' => e = .returned (.func (.func 74) #[] #[.pointer (some ⟨w.heap.size, 0, none⟩), .pointer (some ⟨w.heap.size + 1, 0, none⟩)]) ∧ w' = (w.alloc (.cells #[.string name] 9)).alloc (.cells #[.string id] 9) := by
  go_enter Tryz.func45, Tryz.ntmps45
  go_wp2
  go_ret
  exact ⟨rfl, rfl⟩
set_option maxHeartbeats 800000 in
theorem ofKey1C (g : Sg) (name id : ByteArray) (bn bi : Nat) (W : World) (h1 : W.cell? ⟨bn, 0, none⟩ = some (.string name)) (h2 : W.cell? ⟨bi, 0, none⟩ = some (.string id)) (r : Bool) (hr : Hid ((eqB g.name name && eqB g.id id) = r)) :
    Calls Tryz.prog 74 #[.agg #[.string g.name, .string g.id, .string g.mac], .pointer (some ⟨bn, 0, none⟩), .pointer (some ⟨bi, 0, none⟩)] W fun e w' => e = .returned (.bool r) ∧ Below W.heap.size W w' := by
  obtain ⟨gn, gi, gm⟩ := g
  have hb1 := World.block_lt_of_cell? _ _ h1
  have hb2 := World.block_lt_of_cell? _ _ h2
  simp only at hb1 hb2
  have e1 := toList_eqB gn name
  have e2 := toList_eqB gi id
  generalize hx : eqB gn name = x at *
  generalize hy : eqB gi id = y at *
  have HX : Hid ((x && y) = r) := hr
  clear hx hy hr
  have HB : Hid (Below W.heap.size W (W.alloc (.cells #[.string gn, .string gi, .string gm] 43))) := (Below.refl _ _).alloc (Nat.le_refl _) _
  have k1 : (W.alloc (.cells #[.string gn, .string gi, .string gm] 43)).cell? ⟨bn, 0, none⟩ = some (.string name) := (World.cell?_alloc_lt _ _ _ hb1).trans h1
  have k2 : (W.alloc (.cells #[.string gn, .string gi, .string gm] 43)).cell? ⟨bi, 0, none⟩ = some (.string id) := (World.cell?_alloc_lt _ _ _ hb2).trans h2
  cases x
  all_goals
    go_enter Tryz.func74, Tryz.ntmps74
    go_wp2
    go_ret
    exact ⟨by rw [← HX.out]; rfl, HB.out⟩
-- slices.IndexFunc, slices.ContainsFunc of signatures
def ixF (p : Sg → Bool) : List Sg → Nat → Int
  | [], _ => -1
  | g :: l, n => if p g then n else ixF p l (n + 1)
theorem ix_ge (p : Sg → Bool) (l : List Sg) : ∀ n, (0 ≤ ixF p l n) ↔ l.any p = true := by
  induction l with
  | nil => intro n; simp [ixF]
  | cons g l ih =>
    intro n
    unfold ixF
    by_cases h : p g = true
    · rw [if_pos h]; simp [h]
    · rw [if_neg h, ih]; simp [h]
theorem ix_drop (p : Sg → Bool) (l : List Sg) (n : Nat) (h : n < l.length) : ixF p (l.drop n) n = if p (l[n]'h) then (n : Int) else ixF p (l.drop (n + 1)) (n + 1) := by
  rw [List.drop_eq_getElem_cons h, ixF]
set_option maxHeartbeats 1600000 in
theorem indexG (v : Value) (l : List Sg) (p : Sg → Bool) (g : Nat) (lb : Array Value) (eg : ∀ args w, (callFunc g args).run Tryz.prog w = .ok (.enter g args) w) (w : World) (hr : ReadsG w v l) (hz : l.length ≤ 1000000)
    (hp : ∀ (W : World) (x : Sg), Below w.heap.size w W → Calls Tryz.prog g (#[.agg #[.string x.name, .string x.id, .string x.mac]] ++ lb) W fun e w' => e = .returned (.bool (p x)) ∧ Below w.heap.size w w') :
    Calls Tryz.prog 48 #[v, .func (.func g) #[] lb] w fun e w' => e = .returned (.int .i64 (ixF p l 0)) ∧ Below w.heap.size w w' := by
  obtain ⟨a, c, rfl, hcl⟩ := hr
  have HCL : Hid _ := hcl
  have HP : Hid _ := hp
  clear hcl hp
  obtain ⟨R, HR⟩ : ∃ R, Hid (ixF p l 0 = R) := ⟨_, rfl⟩
  rw [HR.out]
  obtain ⟨n, HN⟩ : ∃ n, Hid (l.length = n) := ⟨_, rfl⟩
  have hzn : n ≤ 1000000 := by rw [← HN.out]; exact hz
  rw [HN.out]
  clear hz
  go_enter Tryz.func48, Tryz.ntmps48
  go_wp2
  go_loopw [5, 8] (fun _ i wr => ∃ k : Nat, k ≤ n ∧ i = .int .i64 k ∧ Hid (ixF p (l.drop k) k = R) ∧ Hid (Below w.heap.size w wr)) (fun _ i _ => (n - intOf i).toNat)
  case atStart => exact ⟨0, by omega, rfl, HR.out, Below.refl _ _⟩
  case round =>
    obtain ⟨k, hk, rfl, HK, HB⟩ := hrel
    by_cases hlt : k < n
    · have hlt' : (k : Int) < n := by omega
      have hkl : k < l.length := by rw [HN.out]; exact hlt
      obtain ⟨b, off, rfl, hbw, hc⟩ : ∃ b off, a = some ⟨b, off, none⟩ ∧ b < w.heap.size ∧ ∀ i g, l[i]? = some g → w.cell? ⟨b, off + i * 3, none⟩ = some (.string g.name) ∧ w.cell? ⟨b, off + i * 3 + 1, none⟩ = some (.string g.id) ∧ w.cell? ⟨b, off + i * 3 + 2, none⟩ = some (.string g.mac) := by
        rcases HCL.out with h | h
        · omega
        · exact h
      obtain ⟨x, HX⟩ : ∃ x, Hid (l[k]'hkl = x) := ⟨_, rfl⟩
      obtain ⟨q1, q2, q3⟩ := hc k x (by rw [List.getElem?_eq_getElem hkl, HX.out])
      have c1 := (HB.out.cell (p := ⟨b, off + k * 3, none⟩) hbw).trans q1
      have c2 := (HB.out.cell (p := ⟨b, off + k * 3 + 1, none⟩) hbw).trans q2
      have c3 := (HB.out.cell (p := ⟨b, off + k * 3 + 2, none⟩) hbw).trans q3
      have C1 : Hid (Calls _ _ _ _ _) := HP.out wr x HB.out
      have HS : Hid ((if p x then (k : Int) else ixF p (l.drop (k + 1)) (k + 1)) = R) := by show _ = _; rw [← HK.out, ix_drop p l k hkl, HX.out]
      clear hc q1 q2 q3 HX
      obtain ⟨xn, xi, xm⟩ := x
      simp only at c1 c2 c3 C1
      generalize hpx : p ⟨xn, xi, xm⟩ = r at *
      clear hpx
      cases r
      · have HT : Hid (ixF p (l.drop (k + 1)) (k + 1) = R) := HS.out
        clear HS
        go_wp2_with fail
        refine C1.out.mono ?_
        rintro e w1 ⟨rfl, hb1⟩
        have HB1 : Hid (Below w.heap.size w w1) := hb1
        clear hb1
        go_wp2
        go_roundw
        case rel => exact ⟨k + 1, by omega, by go_num, HT, HB1⟩
        case measure => simp [intOf]; omega
      · have HT : Hid ((k : Int) = R) := HS.out
        clear HS
        go_wp2_with fail
        refine C1.out.mono ?_
        rintro e w1 ⟨rfl, hb1⟩
        have HB1 : Hid (Below w.heap.size w w1) := hb1
        clear hb1
        go_wp2
        go_ret
        exact ⟨by rw [← HT.out]; rfl, HB1.out⟩
    · have hlt' : ¬ (k : Int) < n := by omega
      have HT : Hid (R = -1) := by
        show _ = _
        rw [← HK.out, List.drop_of_length_le (by rw [HN.out]; omega)]
        rfl
      go_wp2
      go_ret
      exact ⟨by rw [HT.out]; rfl, HB.out⟩
set_option maxHeartbeats 800000 in
theorem containsG (v : Value) (l : List Sg) (p : Sg → Bool) (g : Nat) (lb : Array Value) (eg : ∀ args w, (callFunc g args).run Tryz.prog w = .ok (.enter g args) w) (w : World) (hr : ReadsG w v l) (hz : l.length ≤ 1000000)
    (hp : ∀ (W : World) (x : Sg), Below w.heap.size w W → Calls Tryz.prog g (#[.agg #[.string x.name, .string x.id, .string x.mac]] ++ lb) W fun e w' => e = .returned (.bool (p x)) ∧ Below w.heap.size w w') :
    Calls Tryz.prog 44 #[v, .func (.func g) #[] lb] w fun e w' => e = .returned (.bool (l.any p)) ∧ Below w.heap.size w w' := by
  have C : Hid (Calls _ _ _ _ _) := indexG v l p g lb eg w hr hz hp
  have HI := ix_ge p l 0
  obtain ⟨a, c, rfl, _⟩ := hr
  generalize ixF p l 0 = i at *
  generalize l.any p = r at *
  have HR : Hid (decide (0 ≤ i) = r) := by
    show _ = _
    cases r
    · exact decide_eq_false (fun h => by have := HI.1 h; cases this)
    · exact decide_eq_true (HI.2 rfl)
  clear HI hp
  go_enter Tryz.func44, Tryz.ntmps44
  go_wp2_with fail
  refine C.out.mono ?_
  rintro e w1 ⟨rfl, hb1⟩
  have HB1 : Hid (Below w.heap.size w w1) := hb1
  clear hb1
  go_wp2
  go_ret
  exact ⟨congrArg (fun b => Ending.returned (.bool b)) HR.out, HB1.out⟩
-- is one of them of one key with name and id?
theorem hasKey (v : Value) (l : List Sg) (name id : ByteArray) (bn bi : Nat) (w : World) (hr : ReadsG w v l) (hz : l.length ≤ 1000000) (h1 : w.cell? ⟨bn, 0, none⟩ = some (.string name)) (h2 : w.cell? ⟨bi, 0, none⟩ = some (.string id)) :
    Calls Tryz.prog 44 #[v, .func (.func 74) #[] #[.pointer (some ⟨bn, 0, none⟩), .pointer (some ⟨bi, 0, none⟩)]] w fun e w' => e = .returned (.bool (amg l ⟨name, id, ByteArray.empty⟩)) ∧ Below w.heap.size w w' := by
  refine containsG v l (fun a => one a ⟨name, id, ByteArray.empty⟩) 74 _ eOfKey1 w hr hz (fun W x hb => ?_)
  have k1 := (hb.cell (p := ⟨bn, 0, none⟩) (World.block_lt_of_cell? _ _ h1)).trans h1
  have k2 := (hb.cell (p := ⟨bi, 0, none⟩) (World.block_lt_of_cell? _ _ h2)).trans h2
  refine (ofKey1C x name id bn bi W k1 k2 _ rfl).mono ?_
  rintro e w' ⟨rfl, hb'⟩
  exact ⟨rfl, hb.trans (hb'.mono hb.size)⟩
end Go.Proofs.YthdkbjbhjfiaiaaGreatDoor.o4

namespace Go.Proofs.YthdkbjbhjfiaiaaGreatDoor.o5
open Go.RowKit Go.PlainAid
open Go.Proofs.YthdkbjbhjfiaiaaGreatDoor.pj Go.Proofs.YthdkbjbhjfiaiaaGreatDoor.rf Go.Proofs.YthdkbjbhjfiaiaaGreatDoor.mo Go.Proofs.YthdkbjbhjfiaiaaGreatDoor.mp Go.Proofs.YthdkbjbhjfiaiaaGreatDoor.mq Go.Proofs.YthdkbjbhjfiaiaaGreatDoor.nd Go.Proofs.YthdkbjbhjfiaiaaGreatDoor.nh Go.Proofs.YthdkbjbhjfiaiaaGreatDoor.tb Go.Proofs.YthdkbjbhjfiaiaaGreatDoor.tc Go.Proofs.YthdkbjbhjfiaiaaGreatDoor.tj Go.Proofs.YthdkbjbhjfiaiaaGreatDoor.tp Go.Proofs.YthdkbjbhjfiaiaaGreatDoor.n3 Go.Proofs.YthdkbjbhjfiaiaaGreatDoor.n4 Go.Proofs.YthdkbjbhjfiaiaaGreatDoor.o1 Go.Proofs.YthdkbjbhjfiaiaaGreatDoor.o4 Go.Proofs.YthdkbjbhjfiaiaaGreatDoor.kp
set_option linter.unusedVariables false
set_option maxRecDepth 4000

theorem below_dr {B : Nat} {a w : World} (h : Below B a w) : Below B a w.drew := ⟨h.os, h.tape, h.output, h.size, h.block⟩
theorem box3 (w w' : World) (a b c : Value) (t : TypeId) (h : Below (w.heap.size + 1) (w.alloc (.cells #[a, b, c] t)) w') : w'.cell? ⟨w.heap.size, 0, none⟩ = some a ∧ w'.cell? ⟨w.heap.size, 1, none⟩ = some b ∧ w'.cell? ⟨w.heap.size, 2, none⟩ = some c := by
  refine ⟨?_, ?_, ?_⟩
  · rw [h.cell (p := ⟨w.heap.size, 0, none⟩) (Nat.lt_succ_self _), World.cell?_alloc_at _ _ _ _ rfl]; rfl
  · rw [h.cell (p := ⟨w.heap.size, 1, none⟩) (Nat.lt_succ_self _), World.cell?_alloc_at _ _ _ _ rfl]; rfl
  · rw [h.cell (p := ⟨w.heap.size, 2, none⟩) (Nat.lt_succ_self _), World.cell?_alloc_at _ _ _ _ rfl]; rfl
theorem put3 (w : World) (p : Nat) (a b c x y z : Value) (t : TypeId) (h : w.heap[p]? = some (.cells #[a, b, c] t (0, 0))) : ∀ W, W = ((w.setCell ⟨p, 0, none⟩ x).setCell ⟨p, 1, none⟩ y).setCell ⟨p, 2, none⟩ z → (W.cell? ⟨p, 0, none⟩ = some x ∧ W.cell? ⟨p, 1, none⟩ = some y ∧ W.cell? ⟨p, 2, none⟩ = some z) ∧ ∀ B, B ≤ p → Below B w W := by
  intro W hW
  have h1 := heap_setCell_same _ _ 0 _ _ x h
  have h2 := heap_setCell_same _ _ 1 _ _ y h1
  have h3 := heap_setCell_same _ _ 2 _ _ z h2
  rw [← hW] at h3
  refine ⟨⟨cell_of_row _ _ 0 _ _ _ h3, cell_of_row _ _ 1 _ _ _ h3, cell_of_row _ _ 2 _ _ _ h3⟩, fun B hB => ?_⟩
  have k : Kp (fun q => q = p) w W := by rw [hW]; exact ((Kp.setCell (A := fun q => q = p) _ _ _ _ rfl).trans (Kp.setCell (A := fun q => q = p) _ _ _ _ rfl)).trans (Kp.setCell (A := fun q => q = p) _ _ _ _ rfl)
  have hl := (Array.getElem?_eq_some_iff.1 h).1
  exact k.below (fun q e => by omega) (by omega)
theorem box2 (w w' : World) (a b : Value) (t : TypeId) (o : Obj) (h : Below (w.heap.size + 1) ((w.alloc (.cells #[a, b] t)).alloc o) w') : w'.cell? ⟨w.heap.size, 0, none⟩ = some a ∧ w'.cell? ⟨w.heap.size, 1, none⟩ = some b := by
  refine ⟨?_, ?_⟩
  · rw [h.cell (p := ⟨w.heap.size, 0, none⟩) (Nat.lt_succ_self _), World.cell?_alloc_lt _ _ _ (by simp), World.cell?_alloc_at _ _ _ _ rfl]; rfl
  · rw [h.cell (p := ⟨w.heap.size, 1, none⟩) (Nat.lt_succ_self _), World.cell?_alloc_lt _ _ _ (by simp), World.cell?_alloc_at _ _ _ _ rfl]; rfl
def sz : Obj := .cells #[.string ⟨#[]⟩, .string ⟨#[]⟩, .string ⟨#[]⟩] 43
theorem sig_block (w w' : World) (o : Obj) (h : Below (w.heap.size + 2) ((w.alloc o).alloc sz) w') : w'.heap[w.heap.size + 1]? = some (.cells #[.string ⟨#[]⟩, .string ⟨#[]⟩, .string ⟨#[]⟩] 43 (0, 0)) := by
  rw [h.block (w.heap.size + 1) (by omega)]
  have e : (w.alloc o).heap.size = w.heap.size + 1 := by simp
  rw [← e]
  exact heap_alloc_new (w.alloc o) sz
end Go.Proofs.YthdkbjbhjfiaiaaGreatDoor.o5

namespace Go.Proofs.YthdkbjbhjfiaiaaGreatDoor.o6
open Go.RowKit Go.PlainAid
open Go.Proofs.YthdkbjbhjfiaiaaGreatDoor.pj Go.Proofs.YthdkbjbhjfiaiaaGreatDoor.rf Go.Proofs.YthdkbjbhjfiaiaaGreatDoor.mo Go.Proofs.YthdkbjbhjfiaiaaGreatDoor.nd Go.Proofs.YthdkbjbhjfiaiaaGreatDoor.nh Go.Proofs.YthdkbjbhjfiaiaaGreatDoor.tb Go.Proofs.YthdkbjbhjfiaiaaGreatDoor.tc Go.Proofs.YthdkbjbhjfiaiaaGreatDoor.tj Go.Proofs.YthdkbjbhjfiaiaaGreatDoor.n3 Go.Proofs.YthdkbjbhjfiaiaaGreatDoor.n4 Go.Proofs.YthdkbjbhjfiaiaaGreatDoor.o1 Go.Proofs.YthdkbjbhjfiaiaaGreatDoor.o4 Go.Proofs.YthdkbjbhjfiaiaaGreatDoor.o5
set_option linter.unusedVariables false
set_option maxRecDepth 4000

theorem infoG : (Tryz.prog.info? 43).map (fun i => (i.zero, i.size, i.bytes)) = some (some (.agg #[.string ⟨#[]⟩, .string ⟨#[]⟩, .string ⟨#[]⟩]), 3, 48) := by kernel_rfl
theorem infoY : (Tryz.prog.info? 49).map (fun i => (i.zero, i.size, i.bytes)) = some (some (.agg #[.string ⟨#[]⟩, .string ⟨#[]⟩]), 2, 32) := by kernel_rfl
theorem new_three (W : World) (a b c : Value) (t : TypeId) : ∀ (j : Nat) (u : Value), [a, b, c][j]? = some u → (W.alloc (.cells #[a, b, c] t)).cell? (Addr.add ⟨W.heap.size, 0, none⟩ j) = some u := by
  intro j y h
  have hb : (W.alloc (.cells #[a, b, c] t)).heap[W.heap.size]? = some (.cells #[a, b, c] t (0, 0)) := heap_alloc_new W _
  have e : (Addr.add ⟨W.heap.size, 0, none⟩ j) = ⟨W.heap.size, j, none⟩ := by simp [Addr.add]; omega
  rw [e, cell_of_row _ _ j _ _ _ hb]
  simpa using h
theorem one_three (a b c : ByteArray) : ∀ u ∈ [Value.string a, .string b, .string c], u.oneCell' = true := by
  intro u hu; simp only [List.mem_cons, List.not_mem_nil, or_false] at hu; rcases hu with rfl | rfl | rfl <;> rfl
def bare (k : Ky) : Sg := ⟨k.1, kidF k.1 k.2, ByteArray.empty⟩
theorem tg_drop (d : List Sg) (ks : List Ky) (n : Nat) (h : n < ks.length) : tgF d (ks.drop n) = if nm (ks[n]'h).1 = false then 203 else if amg d (bare ks[n]) then 200 else tgF (d ++ [bare ks[n]]) (ks.drop (n + 1)) := by
  rw [List.drop_eq_getElem_cons h, tgF]; rfl
theorem take_snoc {α : Type} (l : List α) (n : Nat) (h : n < l.length) : l.take (n + 1) = l.take n ++ [l[n]'h] := List.take_succ_eq_append_getElem h
end Go.Proofs.YthdkbjbhjfiaiaaGreatDoor.o6
