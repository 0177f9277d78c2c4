import Derived.PlainAid
import Derived.WalkKit
import Derived.Tactics
import Derived.Below
import Derived.BigQuiet
import Derived.Laws.AppendOwn
import Derived.Laws.OwnMore
import Derived.Test.YthpfgdhmpeadeaaDoorProg
import Derived.Laws.BitsAllLaws
import Derived.WalkSpells
import Derived.Laws.BytesString
import Derived.Laws.MakeOwn
import Derived.OwnWalk
import Derived.Lib.BitFns
import Derived.Deep.MidRow
import Derived.Deep.DeepCutAuto
import Derived.Deep.AppendLies
import Derived.Laws.AppendOwnNone
import Derived.Lib.SliceRun
namespace Go.Proofs.YthpfgdhmpeadeaaDoor.ca
set_option linter.unusedVariables false

-- the level of the piece at p, h leaves being left
def Lv (p h k : Nat) : Prop := k ≤ 62 ∧ 2 ^ k ∣ p ∧ 2 ^ k ≤ h ∧ (k = 62 ∨ ¬ 2 ^ (k + 1) ∣ p ∨ h < 2 ^ (k + 1))
theorem p2 (k : Nat) : 0 < 2 ^ k := Nat.two_pow_pos k
theorem p2s (k : Nat) : 2 ^ (k + 1) = 2 * 2 ^ k := by rw [Nat.pow_succ, Nat.mul_comm]
theorem p2le {j k : Nat} (h : j ≤ k) : 2 ^ j ≤ 2 ^ k := Nat.pow_le_pow_right (by decide) h
theorem p2dvd {j k : Nat} (h : j ≤ k) : 2 ^ j ∣ 2 ^ k := Nat.pow_dvd_pow 2 h
theorem p2lt {j k : Nat} (h : 2 ^ j < 2 ^ k) : j < k := by
  rcases Nat.lt_or_ge j k with e | e
  · exact e
  · have := p2le e; omega
theorem Lv.unique {p h k k' : Nat} (a : Lv p h k) (b : Lv p h k') : k = k' := by
  have key : ∀ {k k' : Nat}, Lv p h k → Lv p h k' → ¬ k < k' := by
    intro k k' a b hlt
    have h1 : 2 ^ (k + 1) ∣ p := Nat.dvd_trans (p2dvd hlt) b.2.1
    have h2 : 2 ^ (k + 1) ≤ h := Nat.le_trans (p2le hlt) b.2.2.1
    rcases a.2.2.2 with e | e | e
    · have := b.1; omega
    · exact e h1
    · omega
  have := key a b
  have := key b a
  omega
def lvF (p h : Nat) : Nat → Nat → Nat
  | 0, k => k
  | f + 1, k => if 2 ^ (k + 1) ∣ p ∧ 2 ^ (k + 1) ≤ h then lvF p h f (k + 1) else k
theorem lvF_lv (p h f k : Nat) (hf : f + k = 62) (h1 : 2 ^ k ∣ p) (h2 : 2 ^ k ≤ h) : Lv p h (lvF p h f k) := by
  induction f generalizing k with
  | zero => exact ⟨by show k ≤ 62; omega, h1, h2, .inl (by show k = 62; omega)⟩
  | succ f ih =>
    unfold lvF
    split
    · rename_i hh
      exact ih (k + 1) (by omega) hh.1 hh.2
    · rename_i hh
      refine ⟨by omega, h1, h2, .inr ?_⟩
      rcases Decidable.em (2 ^ (k + 1) ∣ p) with e | e
      · exact .inr (Nat.lt_of_not_le fun e' => hh ⟨e, e'⟩)
      · exact .inl e
def lv (p h : Nat) : Nat := lvF p h 62 0
theorem lv_lv (p h : Nat) (hh : 0 < h) : Lv p h (lv p h) := lvF_lv p h 62 0 rfl (Nat.one_dvd p) hh
-- the pieces from p up to hi
def cov (p hi : Nat) : List (Nat × Nat) :=
  if h : p < hi then (lv p (hi - p), p / 2 ^ lv p (hi - p)) :: cov (p + 2 ^ lv p (hi - p)) hi else []
termination_by hi - p
decreasing_by have := p2 (lv p (hi - p)); omega
theorem cov_end {p hi : Nat} (h : ¬ p < hi) : cov p hi = [] := by rw [cov, dif_neg h]
theorem cov_at {p hi k : Nat} (h : p < hi) (hk : Lv p (hi - p) k) : cov p hi = (k, p / 2 ^ k) :: cov (p + 2 ^ k) hi := by
  rw [cov, dif_pos h, Lv.unique (lv_lv p (hi - p) (by omega)) hk]
theorem cov_fold {p hi : Nat} (P : Nat → Nat → Prop) (h0 : ∀ p, ¬ p < hi → P p hi) (h1 : ∀ p k, p < hi → Lv p (hi - p) k → P (p + 2 ^ k) hi → P p hi) : P p hi := by
  generalize hn : hi - p = n
  induction n using Nat.strongRecOn generalizing p with
  | ind n ih =>
    rcases Nat.lt_or_ge p hi with e | e
    · have hl := lv_lv p (hi - p) (by omega)
      refine h1 p _ e hl (ih (hi - (p + 2 ^ lv p (hi - p))) ?_ rfl)
      have := p2 (lv p (hi - p))
      omega
    · exact h0 p (by omega)
-- below a place that 2^j divides, with fewer than 2^j leaves: the greatest power that fits
theorem lv_low {p h k j : Nat} (hj : 2 ^ j ∣ p) (hh : h < 2 ^ j) (hk : k < j) (h62 : k ≤ 62) (h1 : 2 ^ k ≤ h) (h2 : h < 2 ^ (k + 1)) : Lv p h k :=
  ⟨h62, Nat.dvd_trans (p2dvd (Nat.le_of_lt hk)) hj, h1, .inr (.inr h2)⟩
theorem low_is {p h k j : Nat} (hj : 2 ^ j ∣ p) (hh : h < 2 ^ j) (hl : Lv p h k) (hb : h < 2 ^ 63) : k < j ∧ h < 2 ^ (k + 1) := by
  have hkj : k < j := p2lt (Nat.lt_of_le_of_lt hl.2.2.1 hh)
  refine ⟨hkj, ?_⟩
  rcases hl.2.2.2 with e | e | e
  · subst e; exact hb
  · exact absurd (Nat.dvd_trans (p2dvd hkj) hj) e
  · exact e
theorem down_len (j : Nat) : ∀ (p h : Nat), 2 ^ j ∣ p → h < 2 ^ j → h < 2 ^ 63 → (cov p (p + h)).length ≤ j := by
  induction j using Nat.strongRecOn with
  | ind j ih =>
    intro p h hj hh hb
    rcases Nat.eq_zero_or_pos h with e | e
    · subst e; rw [cov_end (by omega)]; exact Nat.zero_le _
    · have hl : Lv p (p + h - p) (lv p (p + h - p)) := lv_lv _ _ (by omega)
      rw [Nat.add_sub_cancel_left] at hl
      obtain ⟨k, hk⟩ : ∃ k, lv p h = k := ⟨_, rfl⟩
      rw [hk] at hl
      obtain ⟨h1, h2⟩ := low_is hj hh hl hb
      have hs := p2s k
      rw [cov_at (by omega) (by rw [Nat.add_sub_cancel_left]; exact hl), List.length_cons]
      have := ih k h1 (p + 2 ^ k) (h - 2 ^ k) (Nat.dvd_add (Nat.dvd_trans (p2dvd (Nat.le_of_lt h1)) hj) (Nat.dvd_refl _)) (by omega) (by omega)
      rw [show p + 2 ^ k + (h - 2 ^ k) = p + h by have := hl.2.2.1; omega] at this
      omega
theorem dvd_pos_le {k p : Nat} (h : 2 ^ k ∣ p) (hp : 0 < p) : 2 ^ k ≤ p := Nat.le_of_dvd hp h
theorem up_len (n : Nat) : ∀ (j p h : Nat), 61 - j = n → j ≤ 61 → 0 < p → 2 ^ j ∣ p → p + h ≤ 2 ^ 62 → (cov p (p + h)).length ≤ 122 - j := by
  induction n using Nat.strongRecOn with
  | ind n ih =>
    intro j p h hn hj61 hp hj hb
    have hb63 : h < 2 ^ 63 := by have : (2 : Nat) ^ 63 = 2 * 2 ^ 62 := p2s 62; have := p2 62; omega
    rcases Nat.lt_or_ge h (2 ^ j) with e | e
    · have := down_len j p h hj e hb63; omega
    · have h0 : 0 < h := Nat.lt_of_lt_of_le (p2 j) e
      have hl := lv_lv p h h0
      obtain ⟨k, hk⟩ : ∃ k, lv p h = k := ⟨_, rfl⟩
      rw [hk] at hl
      have hs := p2s k
      have hpk := dvd_pos_le hl.2.1 hp
      have hcov := cov_at (p := p) (hi := p + h) (k := k) (by omega) (by rw [Nat.add_sub_cancel_left]; exact hl)
      have hk61 : k ≤ 61 := by
        rcases Nat.lt_or_ge k 62 with g | g
        · omega
        · have := p2le g; have := p2 62; have := hl.2.2.1; omega
      have heq : p + 2 ^ k + (h - 2 ^ k) = p + h := by have := hl.2.2.1; omega
      rw [hcov, List.length_cons]
      rcases Nat.lt_or_ge h (2 ^ (k + 1)) with g | g
      · have hd := down_len k (p + 2 ^ k) (h - 2 ^ k) (Nat.dvd_add hl.2.1 (Nat.dvd_refl _)) (by omega) (by omega)
        rw [heq] at hd
        rcases Nat.lt_or_ge j 61 with q | q
        · omega
        · -- j = 61: the whole upper half
          have q : j = 61 := by omega
          subst q
          have h61 := dvd_pos_le hj hp
          have e62 : (2 : Nat) ^ 62 = 2 * 2 ^ 61 := p2s 61
          have hh : h = 2 ^ 61 := by omega
          have : k = 61 := by
            rcases Nat.lt_or_ge k 61 with q | q
            · have := p2le (show k + 1 ≤ 61 from q); omega
            · omega
          subst this
          rw [cov_end (by omega)]
          simp
      · -- as much as divides p
        have hnd : ¬ 2 ^ (k + 1) ∣ p := by
          rcases hl.2.2.2 with q | q | q
          · omega
          · exact q
          · omega
        have hk60 : k ≤ 60 := by
          rcases Nat.lt_or_ge k 61 with q | q
          · omega
          · have : k = 61 := by omega
            subst this
            have e62 : (2 : Nat) ^ 62 = 2 * 2 ^ 61 := p2s 61
            have := p2 61
            omega
        have hjk : j ≤ k := by
          rcases Nat.lt_or_ge k j with q | q
          · exact absurd (Nat.dvd_trans (p2dvd q) hj) hnd
          · exact q
        have hd : 2 ^ (k + 1) ∣ p + 2 ^ k := by
          obtain ⟨c, hc⟩ := hl.2.1
          rcases Nat.mod_two_eq_zero_or_one c with q | q
          · exact absurd ⟨c / 2, by rw [hs, Nat.mul_assoc, Nat.mul_left_comm, show 2 * (c / 2) = c by omega]; exact hc⟩ hnd
          · exact ⟨(c + 1) / 2, by rw [hs, Nat.mul_assoc, Nat.mul_left_comm, show 2 * ((c + 1) / 2) = c + 1 by omega, Nat.mul_add, ← hc, Nat.mul_one]⟩
        have := ih (61 - (k + 1)) (by omega) (k + 1) (p + 2 ^ k) (h - 2 ^ k) rfl (by omega) (by omega) hd (by omega)
        rw [heq] at this
        omega
theorem cov_len (lo hi : Nat) (h : lo ≤ hi) (hb : hi ≤ 2 ^ 62) : (cov lo hi).length ≤ 122 := by
  obtain ⟨n, rfl⟩ : ∃ n, hi = lo + n := ⟨hi - lo, by omega⟩
  rcases Nat.eq_zero_or_pos lo with e | e
  · subst e
    have e63 : (2 : Nat) ^ 63 = 2 * 2 ^ 62 := p2s 62
    have := p2 62
    have := down_len 63 0 n (Nat.dvd_zero _) (by omega) (by omega)
    omega
  · exact up_len 61 0 lo n rfl (by omega) e (Nat.one_dvd _) hb
-- no piece's parent lies within the range
def Inv (lo hi p : Nat) : Prop := lo ≤ p ∧ ∀ m, 2 ^ m ∣ p → ¬ 2 ^ (m + 1) ∣ p → lo + 2 ^ m ≤ p → hi < p + 2 ^ m
theorem Inv.start (lo hi : Nat) : Inv lo hi lo := ⟨Nat.le_refl _, fun m _ _ h => by have := p2 m; omega⟩
theorem odd_of {k p : Nat} (h1 : 2 ^ k ∣ p) (h2 : ¬ 2 ^ (k + 1) ∣ p) : ∃ c, p = 2 ^ (k + 1) * c + 2 ^ k := by
  obtain ⟨c, hc⟩ := h1
  rcases Nat.mod_two_eq_zero_or_one c with q | q
  · exact absurd ⟨c / 2, by rw [p2s, Nat.mul_assoc, Nat.mul_left_comm, show 2 * (c / 2) = c by omega]; exact hc⟩ h2
  · refine ⟨c / 2, ?_⟩
    rw [p2s, Nat.mul_assoc, Nat.mul_left_comm, hc]
    generalize 2 ^ k = z
    obtain ⟨d, rfl⟩ : ∃ d, c = 2 * d + 1 := ⟨c / 2, by omega⟩
    rw [show (2 * d + 1) / 2 = d by omega, Nat.mul_add, Nat.mul_one]
theorem Inv.step {lo hi p k : Nat} (h : Inv lo hi p) (hlt : p < hi) (hb : hi ≤ 2 ^ 62) (hl : Lv p (hi - p) k) : Inv lo hi (p + 2 ^ k) := by
  refine ⟨by have := h.1; have := p2 k; omega, fun m m1 m2 m3 => ?_⟩
  rcases Nat.lt_or_ge hi (p + 2 ^ k + 2 ^ m) with g | g
  · exact g
  · exfalso
    have hs := p2s k
    have hkm : k ≤ m := by
      rcases Nat.lt_or_ge m k with q | q
      · exact absurd (Nat.dvd_add (Nat.dvd_trans (p2dvd q) hl.2.1) (p2dvd q)) m2
      · exact q
    rcases Nat.lt_or_ge k m with q | q
    · -- p is just divided by 2^k
      have hnd : ¬ 2 ^ (k + 1) ∣ p := by
        intro hd
        have h1 : 2 ^ (k + 1) ∣ p + 2 ^ k := Nat.dvd_trans (p2dvd q) m1
        have h2 : 2 ^ (k + 1) ∣ 2 ^ k := (Nat.dvd_add_iff_right hd).2 h1
        have := Nat.le_of_dvd (p2 k) h2
        have := p2 k
        omega
      have hno : ¬ lo + 2 ^ k ≤ p := fun e => by
        have := h.2 k hl.2.1 hnd e
        have := hl.2.2.1
        omega
      have := p2le q
      omega
    · have e : m = k := by omega
      subst e
      obtain ⟨c, hc⟩ := odd_of m1 m2
      have hd : 2 ^ (m + 1) ∣ p := ⟨c, by omega⟩
      rcases hl.2.2.2 with e | e | e
      · subst e
        have := p2 62
        omega
      · exact e hd
      · omega
theorem Inv.up {lo hi p k : Nat} (h : Inv lo hi p) (hlt : p < hi) (hl : Lv p (hi - p) k) (hk : k < 62) : ¬ (lo ≤ p / 2 ^ (k + 1) * 2 ^ (k + 1) ∧ (p / 2 ^ (k + 1) + 1) * 2 ^ (k + 1) ≤ hi) := by
  rintro ⟨g1, g2⟩
  have hs := p2s k
  rcases Decidable.em (2 ^ (k + 1) ∣ p) with e | e
  · have e1 := Nat.div_mul_cancel e
    rw [Nat.add_mul, e1] at g2
    rcases hl.2.2.2 with q | q | q
    · omega
    · exact q e
    · omega
  · obtain ⟨c, hc⟩ := odd_of hl.2.1 e
    have hq : p / 2 ^ (k + 1) = c := by
      rw [hc, Nat.mul_add_div (p2 _), Nat.div_eq_of_lt (by have := p2 k; omega), Nat.add_zero]
    rw [hq, Nat.mul_comm] at g1
    have hno : ¬ lo + 2 ^ k ≤ p := fun e' => by
      have := h.2 k hl.2.1 e e'
      have := hl.2.2.1
      omega
    omega
end Go.Proofs.YthpfgdhmpeadeaaDoor.ca

namespace Go.Proofs.YthpfgdhmpeadeaaDoor.cp
open Go.RowKit Go.PlainAid
open Go.Proofs.YthpfgdhmpeadeaaDoor.ca
set_option linter.unusedVariables false

theorem cast_pow (k : Nat) : ((2 : Int) ^ k) = ((2 ^ k : Nat) : Int) := by rw [Int.natCast_pow]; rfl
theorem p62 : (2 : Nat) ^ 62 = 4611686018427387904 := by decide
theorem p63 : (2 : Nat) ^ 63 = 9223372036854775808 := by decide
theorem wrap_is (n : Nat) (h : n < 9223372036854775808) : IntKind.i64.wrap (n : Int) = n := by
  rw [IntKind.wrap_i64]
  omega
theorem u64_is (k : Nat) (h : k ≤ 64) : IntKind.u64.wrap (k : Int) = k := by
  rw [IntKind.wrap_u64]
  omega
-- 2 to the k as the walk has it
theorem pow_int {k : Nat} (h : k ≤ 62) : IntKind.i64.wrap (1 * 2 ^ min (k : Int).toNat 64) = ((2 ^ k : Nat) : Int) := by
  rw [Int.toNat_natCast, Nat.min_eq_left (by omega), Int.one_mul, cast_pow, wrap_is]
  have := p2le h
  rw [p62] at this
  omega
def i64 (x : Int) : Prop := -9223372036854775808 ≤ x ∧ x ≤ 9223372036854775807
-- may there be such a node?
def okA (L I : Int) : Prop := 0 ≤ L ∧ L ≤ 62 ∧ 0 ≤ I ∧ I < 4611686018427387904 / 2 ^ L.toNat
instance (L I : Int) : Decidable (okA L I) := by unfold okA; infer_instance
theorem okA_nat (k i : Nat) : okA k i ↔ k ≤ 62 ∧ (i + 1) * 2 ^ k ≤ 4611686018427387904 := by
  have e : (4611686018427387904 : Int) / 2 ^ (k : Int).toNat = ((4611686018427387904 / 2 ^ k : Nat) : Int) := by
    rw [Int.toNat_natCast, cast_pow, Int.natCast_ediv]
    rfl
  have key : i < 4611686018427387904 / 2 ^ k ↔ (i + 1) * 2 ^ k ≤ 4611686018427387904 := Nat.le_div_iff_mul_le (p2 k)
  unfold okA
  rw [e, ← key]
  omega
theorem okA_form {L I : Int} (h : okA L I) : ∃ k i : Nat, L = k ∧ I = i ∧ k ≤ 62 ∧ (i + 1) * 2 ^ k ≤ 4611686018427387904 := by
  obtain ⟨k, rfl⟩ : ∃ k : Nat, L = k := ⟨L.toNat, by have := h.1; omega⟩
  obtain ⟨i, rfl⟩ : ∃ i : Nat, I = i := ⟨I.toNat, by have := h.2.2.1; omega⟩
  exact ⟨k, i, rfl, rfl, ((okA_nat k i).1 h).1, ((okA_nat k i).1 h).2⟩
def av (L I : Int) : Value := .agg #[.int .i64 L, .int .i64 I]
def spV (L I : Int) : Value := if okA L I then .tuple #[.int .i64 (I * 2 ^ L.toNat), .int .i64 ((I + 1) * 2 ^ L.toNat), .int .i64 0] else .tuple #[.int .i64 0, .int .i64 0, .int .i64 50]
def kinV (L I L' I' : Int) : Value := if okA L I ∧ okA L' I' then .tuple #[.agg #[.int .i64 L', .int .i64 I'], .int .i64 0] else .tuple #[.agg #[.int .i64 0, .int .i64 0], .int .i64 50]
def sib (I : Int) : Int := if I % 2 = 0 then I + 1 else I - 1
theorem spV_nat {k i : Nat} (h : okA k i) : spV k i = .tuple #[.int .i64 ((i * 2 ^ k : Nat) : Int), .int .i64 (((i + 1) * 2 ^ k : Nat) : Int), .int .i64 0] := by
  unfold spV
  rw [if_pos h, Int.toNat_natCast, cast_pow]
  simp
theorem up_fits {k i : Nat} (hk : k < 62) (h : (i + 1) * 2 ^ k ≤ 4611686018427387904) : (i / 2 + 1) * 2 ^ (k + 1) ≤ 4611686018427387904 := by
  obtain ⟨z, hz⟩ : ∃ z, 4611686018427387904 = 2 * z * 2 ^ k := by
    refine ⟨2 ^ (61 - k), ?_⟩
    rw [← p2s, ← Nat.pow_add, show 61 - k + 1 + k = 62 by omega]
  rw [hz] at h ⊢
  have h1 : i + 1 ≤ 2 * z := Nat.le_of_mul_le_mul_right h (p2 k)
  rw [p2s, ← Nat.mul_assoc]
  exact Nat.mul_le_mul_right _ (by omega)
theorem i64_nat {n : Nat} (h : n ≤ 4611686018427387904) : i64 (n : Int) := ⟨by omega, by omega⟩
theorem below_dN {B : Nat} {a w : World} (h : Below B a w) (n : Nat) : Below B a (w.drewN n) := ⟨h.os, h.tape, h.output, h.size, h.block⟩
theorem over {w w1 w2 : World} (h : Below w.heap.size w w1) (b : Below w1.heap.size w1 w2) : Below w.heap.size w w2 := h.trans (b.mono h.size)
theorem own_later {w w' : World} {B e size n : Nat} {v : Value} {xs : List Value} (h : w.ownsRow B e size v n xs) (hb : Below w.heap.size w w') : w'.ownsRow B e size v n xs := by
  refine ⟨h.1, ?_⟩
  rcases h.2 with hn | ⟨g, cap, cur, rfl, hg, hgg, rest⟩
  · exact .inl hn
  · exact .inr ⟨g, cap, cur, rfl, hg, by rw [hb.block g (Array.getElem?_eq_some_iff.1 hgg).1]; exact hgg, rest⟩
theorem own_down {w : World} {B B' e size n : Nat} {v : Value} {xs : List Value} (h : w.ownsRow B' e size v n xs) (hB : B ≤ B') : w.ownsRow B e size v n xs :=
  ⟨h.1, h.2.imp id fun ⟨g, cap, cur, h1, h2, h3⟩ => ⟨g, cap, cur, h1, Nat.le_trans hB h2, h3⟩⟩
-- an address in a block of its own
structure Bx (w : World) (b : Nat) (L I : Int) : Prop where
  one : w.cell? ⟨b, 0, none⟩ = some (.int .i64 L)
  two : w.cell? ⟨b, 1, none⟩ = some (.int .i64 I)
theorem Bx.later {w w' : World} {b : Nat} {L I : Int} (h : Bx w b L I) (hb : Below w.heap.size w w') : Bx w' b L I :=
  ⟨(hb.cell (p := ⟨b, 0, none⟩) (World.block_lt_of_cell? _ _ h.one)).trans h.one, (hb.cell (p := ⟨b, 1, none⟩) (World.block_lt_of_cell? _ _ h.two)).trans h.two⟩
theorem bx_new (w : World) (L I : Int) : Bx (w.alloc (.cells #[.int .i64 L, .int .i64 I] 98)) w.heap.size L I :=
  ⟨by rw [World.cell?_alloc_at _ _ _ _ rfl]; rfl, by rw [World.cell?_alloc_at _ _ _ _ rfl]; rfl⟩
theorem kin_no {L I L' I' : Int} (h : ¬ (okA L I ∧ okA L' I')) : kinV L I L' I' = .tuple #[.agg #[.int .i64 0, .int .i64 0], .int .i64 50] := by unfold kinV; rw [if_neg h]
theorem kin_yes {L I L' I' : Int} (h1 : okA L I) (h2 : okA L' I') : kinV L I L' I' = .tuple #[.agg #[.int .i64 L', .int .i64 I'], .int .i64 0] := by unfold kinV; rw [if_pos ⟨h1, h2⟩]
end Go.Proofs.YthpfgdhmpeadeaaDoor.cp

namespace Go.Proofs.YthpfgdhmpeadeaaDoor.cb
open Go.Proofs.YthpfgdhmpeadeaaDoor.ca
set_option linter.unusedVariables false

-- the binary digits 1 below j, the greatest first
def digs : Nat → Nat → List Nat
  | 0, _ => []
  | j + 1, h => if h / 2 ^ j % 2 = 1 then j :: digs j h else digs j h
theorem digs_add (i r : Nat) : ∀ j, j ≤ i → digs j (2 ^ i + r) = digs j r := by
  intro j
  induction j with
  | zero => intro _; rfl
  | succ j ih =>
    intro h
    have e : (2 ^ i + r) / 2 ^ j % 2 = r / 2 ^ j % 2 := by
      obtain ⟨d, rfl⟩ : ∃ d, i = j + (d + 1) := ⟨i - j - 1, by omega⟩
      rw [Nat.pow_add, Nat.mul_add_div (p2 j), p2s d]
      omega
    unfold digs
    rw [e, ih (by omega)]
theorem digs_low {j h : Nat} (hh : h < 2 ^ j) : digs (j + 1) h = digs j h := by
  show (if h / 2 ^ j % 2 = 1 then _ else _) = _
  rw [Nat.div_eq_of_lt hh, if_neg (by decide)]
theorem cov_digs (j : Nat) : ∀ (p h : Nat), 2 ^ j ∣ p → h < 2 ^ j → j ≤ 63 → (cov p (p + h)).map Prod.fst = digs j h := by
  induction j with
  | zero =>
    intro p h _ hh _
    have : h = 0 := by have : (2 : Nat) ^ 0 = 1 := rfl; omega
    subst this
    rw [cov_end (by omega)]
    rfl
  | succ j ih =>
    intro p h hd hh hj
    have hs := p2s j
    have hd' : 2 ^ j ∣ p := Nat.dvd_trans (p2dvd (Nat.le_succ j)) hd
    rcases Nat.lt_or_ge h (2 ^ j) with g | g
    · rw [digs_low g]
      exact ih p h hd' g (by omega)
    · rw [cov_at (k := j) (by have := p2 j; omega) (by rw [Nat.add_sub_cancel_left]; exact ⟨by omega, hd', g, .inr (.inr hh)⟩), List.map_cons]
      have := ih (p + 2 ^ j) (h - 2 ^ j) (Nat.dvd_add hd' (Nat.dvd_refl _)) (by omega) (by omega)
      rw [show p + 2 ^ j + (h - 2 ^ j) = p + h by omega] at this
      rw [this]
      have e : digs j h = digs j (h - 2 ^ j) := by
        have := digs_add j (h - 2 ^ j) j (Nat.le_refl _)
        rwa [show 2 ^ j + (h - 2 ^ j) = h by omega] at this
      show _ = (if h / 2 ^ j % 2 = 1 then _ else _)
      have q : h / 2 ^ j = 1 := by
        have : h = 2 ^ j * 1 + (h - 2 ^ j) := by omega
        rw [this, Nat.mul_add_div (p2 j), Nat.div_eq_of_lt (by omega)]
      rw [q, if_pos rfl, e]
-- the greatest power of two below n
def halfF (n : Nat) : Nat → Nat → Nat
  | 0, k => k
  | f + 1, k => if 2 * k < n then halfF n f (2 * k) else k
theorem halfF_is (n : Nat) : ∀ f j, n ≤ 2 ^ (f + j) → 2 ^ j < n → ∃ i, halfF n f (2 ^ j) = 2 ^ i ∧ 2 ^ i < n ∧ n ≤ 2 ^ (i + 1) := by
  intro f
  induction f with
  | zero => intro j h1 h2; rw [Nat.zero_add] at h1; omega
  | succ f ih =>
    intro j h1 h2
    unfold halfF
    split
    · rename_i hh
      rw [← p2s] at hh ⊢
      exact ih (j + 1) (by rw [show f + (j + 1) = f + 1 + j by omega]; exact h1) hh
    · rename_i hh
      exact ⟨j, rfl, h2, by rw [p2s]; omega⟩
def half (n : Nat) : Nat := halfF n n 1
theorem half_is {n : Nat} (h : 2 ≤ n) : ∃ i, half n = 2 ^ i ∧ 2 ^ i < n ∧ n ≤ 2 ^ (i + 1) :=
  halfF_is n n 0 (by rw [Nat.add_zero]; exact Nat.le_of_lt Nat.lt_two_pow_self) (by show 1 < n; omega)
theorem half_eq {n j : Nat} (h1 : 2 ^ j < n) (h2 : n ≤ 2 ^ (j + 1)) : half n = 2 ^ j := by
  have := p2 j
  obtain ⟨i, e, g1, g2⟩ := half_is (n := n) (by omega)
  have a : j < i + 1 := p2lt (by omega)
  have b : i < j + 1 := p2lt (by omega)
  rw [e, show i = j by omega]
section
variable {α : Type} (E : α) (N : α → α → α)
def foldP : List α → α
  | [] => E
  | [x] => x
  | x :: y :: r => N x (foldP (y :: r))
def rootP (l : List α) : α :=
  if h : 2 ≤ l.length then N (rootP (l.take (half l.length))) (rootP (l.drop (half l.length))) else l.headD E
termination_by l.length
decreasing_by
  · obtain ⟨i, e, g1, g2⟩ := half_is h
    rw [List.length_take, e]
    omega
  · obtain ⟨i, e, g1, g2⟩ := half_is h
    have := p2 i
    rw [List.length_drop, e]
    omega
theorem rootP_nil : rootP E N [] = E := by rw [rootP, dif_neg (by simp)]; rfl
theorem rootP_one (x : α) : rootP E N [x] = x := by rw [rootP, dif_neg (by simp)]; rfl
theorem rootP_two {l : List α} {j : Nat} (h1 : 2 ^ j < l.length) (h2 : l.length ≤ 2 ^ (j + 1)) : rootP E N l = N (rootP E N (l.take (2 ^ j))) (rootP E N (l.drop (2 ^ j))) := by
  have := p2 j
  rw [rootP, dif_pos (by omega), half_eq h1 h2]
theorem rootP_half {l : List α} (h : 2 ≤ l.length) : rootP E N l = N (rootP E N (l.take (half l.length))) (rootP E N (l.drop (half l.length))) := by
  rw [rootP, dif_pos h]
def piece (L : List α) (a : Nat × Nat) : List α := (L.drop (a.2 * 2 ^ a.1)).take (2 ^ a.1)
theorem fold_roots (L : List α) (h : Nat) : ∀ (j p : Nat), 2 ^ j ∣ p → h < 2 ^ j → j ≤ 63 → p + h ≤ L.length → foldP E N ((cov p (p + h)).map fun a => rootP E N (piece L a)) = rootP E N ((L.drop p).take h) := by
  induction h using Nat.strongRecOn with
  | ind h ih =>
    intro j p hd hh hj hL
    have hb : h < 2 ^ 63 := Nat.lt_of_lt_of_le hh (p2le hj)
    rcases Nat.eq_zero_or_pos h with e | e
    · subst e
      rw [cov_end (by omega), List.take_zero, rootP_nil]
      rfl
    · have hl := lv_lv p h e
      obtain ⟨k, hk⟩ : ∃ k, lv p h = k := ⟨_, rfl⟩
      rw [hk] at hl
      obtain ⟨h1, h2⟩ := low_is hd hh hl hb
      have hs := p2s k
      have h3 := hl.2.2.1
      rw [cov_at (p := p) (k := k) (by omega) (by rw [Nat.add_sub_cancel_left]; exact hl), List.map_cons]
      have hp : piece L (k, p / 2 ^ k) = (L.drop p).take (2 ^ k) := by
        show (L.drop (p / 2 ^ k * 2 ^ k)).take (2 ^ k) = _
        rw [Nat.div_mul_cancel hl.2.1]
      rw [hp]
      rcases Nat.lt_or_ge (2 ^ k) h with g | g
      · have hne : p + 2 ^ k < p + h := by omega
        have hi := ih (h - 2 ^ k) (by have := p2 k; omega) k (p + 2 ^ k) (Nat.dvd_add hl.2.1 (Nat.dvd_refl _)) (by omega) (by omega) (by omega)
        rw [show p + 2 ^ k + (h - 2 ^ k) = p + h by omega] at hi
        have hll : ((L.drop p).take h).length = h := by rw [List.length_take, List.length_drop]; omega
        rw [rootP_two E N (l := (L.drop p).take h) (j := k) (by rw [hll]; exact g) (by rw [hll]; omega), List.take_take, Nat.min_eq_left (by omega), List.drop_take, List.drop_drop, ← hi]
        obtain ⟨y, r, hy⟩ : ∃ y r, (cov (p + 2 ^ k) (p + h)).map (fun a => rootP E N (piece L a)) = y :: r := by
          rw [cov_at hne (lv_lv _ _ (by omega)), List.map_cons]
          exact ⟨_, _, rfl⟩
        rw [hy]
        rfl
      · obtain rfl : h = 2 ^ k := by omega
        rw [cov_end (by omega)]
        rfl
theorem fold_all (L : List α) (hL : L.length < 2 ^ 63) : foldP E N ((cov 0 L.length).map fun a => rootP E N (piece L a)) = rootP E N L := by
  have := fold_roots E N L L.length 63 0 (Nat.dvd_zero _) hL (Nat.le_refl _) (by omega)
  rw [Nat.zero_add, List.drop_zero, List.take_length] at this
  exact this
end
end Go.Proofs.YthpfgdhmpeadeaaDoor.cb

namespace Go.Proofs.YthpfgdhmpeadeaaDoor.cs
open Go.RowKit Go.PlainAid
open Go.Proofs.YthpfgdhmpeadeaaDoor.ca Go.Proofs.YthpfgdhmpeadeaaDoor.cb Go.Proofs.YthpfgdhmpeadeaaDoor.cp
set_option linter.unusedVariables false

-- an address; a list of them in memory
def ad (a : Nat × Nat) : Value := .agg #[.int .i64 (a.1 : Nat), .int .i64 (a.2 : Nat)]
def cl (a : Nat × Nat) : List Value := [.int .i64 (a.1 : Nat), .int .i64 (a.2 : Nat)]
def cls (L : List (Nat × Nat)) : List Value := L.flatMap cl
theorem cls_len (L : List (Nat × Nat)) : (cls L).length = L.length * 2 := by
  induction L with
  | nil => rfl
  | cons a L ih =>
    show (cl a ++ cls L).length = _
    rw [List.length_append, ih, List.length_cons]
    show 2 + _ = _
    omega
theorem cls_app (L M : List (Nat × Nat)) : cls (L ++ M) = cls L ++ cls M := by unfold cls; exact List.flatMap_append
theorem cls_get (L : List (Nat × Nat)) (i : Nat) (a : Nat × Nat) (h : L[i]? = some a) : (cls L)[i * 2]? = some (.int .i64 (a.1 : Nat)) ∧ (cls L)[i * 2 + 1]? = some (.int .i64 (a.2 : Nat)) := by
  induction L generalizing i with
  | nil => simp at h
  | cons b L ih =>
    cases i with
    | zero =>
      obtain rfl : b = a := by simpa using h
      exact ⟨rfl, rfl⟩
    | succ i =>
      have := ih i (by simpa using h)
      show (cl b ++ cls L)[(i + 1) * 2]? = _ ∧ (cl b ++ cls L)[(i + 1) * 2 + 1]? = _
      have hl : (cl b).length = 2 := rfl
      rw [List.getElem?_append_right (by omega), List.getElem?_append_right (by omega), hl, show (i + 1) * 2 - 2 = i * 2 by omega, show (i + 1) * 2 + 1 - 2 = i * 2 + 1 by omega]
      exact this
theorem hiA : (Tryd.prog.info? 98).map (fun i => (i.zero, i.size, i.bytes)) = some (some (.agg #[.int .i64 0, .int .i64 0]), 2, 16) := by kernel_rfl
theorem info_parts {t : TypeId} {z : Value} {n b : Nat} (h : (Tryd.prog.info? t).map (fun i => (i.zero, i.size, i.bytes)) = some (some z, n, b)) : ∃ i, Tryd.prog.info? t = some i ∧ i.zero = some z ∧ i.size = n ∧ i.bytes = b := by
  obtain ⟨i, hi, he⟩ := Option.map_eq_some_iff.1 h
  injection he with e1 e2
  injection e2 with e2 e3
  exact ⟨i, hi, e1, e2, e3⟩
-- what Cover answers
def okR (lo hi : Int) : Prop := 0 ≤ lo ∧ lo ≤ hi ∧ hi ≤ 4611686018427387904
instance (lo hi : Int) : Decidable (okR lo hi) := by unfold okR; infer_instance
def covI (lo hi : Int) : List (Nat × Nat) := if okR lo hi then cov lo.toNat hi.toNat else []
def covE (lo hi : Int) : Int := if okR lo hi then 0 else 10
theorem covI_len (lo hi : Int) : (covI lo hi).length ≤ 122 := by
  unfold covI
  split
  · rename_i h
    exact cov_len _ _ (by have := h.2.1; have := h.1; omega) (by rw [p62]; have := h.2.2; omega)
  · simp
def Rowed (w w' : World) (e : Ending) (lo hi : Int) : Prop := ∃ v, e = .returned (.tuple #[v, .int .i64 (covE lo hi)]) ∧ w'.ownsRow w.heap.size 98 2 v (covI lo hi).length (cls (covI lo hi))
theorem two_cells (W : World) (x y : Value) (t : TypeId) : ∀ (j : Nat) (u : Value), [x, y][j]? = some u → (W.alloc (.cells #[x, y] t)).cell? (Addr.add ⟨W.heap.size, 0, none⟩ j) = some u := by
  intro j u hu
  rw [show (Addr.add ⟨W.heap.size, 0, none⟩ j) = ⟨W.heap.size, j, none⟩ by cases j <;> simp [Addr.add], World.cell?_alloc_at _ _ _ _ rfl]
  simpa using hu
-- a list of addresses, wherever it lies
def ReadsA (w : World) (v : Value) (L : List (Nat × Nat)) : Prop :=
  ∃ a cap, v = .slice a L.length cap ∧ (L.length = 0 ∨ ∃ b, a = some ⟨b, 0, none⟩ ∧ ∀ (i : Nat) (x : Nat × Nat), L[i]? = some x → w.cell? ⟨b, i * 2, none⟩ = some (.int .i64 (x.1 : Nat)) ∧ w.cell? ⟨b, i * 2 + 1, none⟩ = some (.int .i64 (x.2 : Nat)))
theorem ReadsA.later {w w' : World} {v : Value} {L : List (Nat × Nat)} (h : ReadsA w v L) (hb : Below w.heap.size w w') : ReadsA w' v L := by
  obtain ⟨a, cap, rfl, h0 | ⟨b, rfl, hc⟩⟩ := h
  · exact ⟨a, cap, rfl, .inl h0⟩
  · refine ⟨_, cap, rfl, .inr ⟨b, rfl, fun i x hx => ?_⟩⟩
    obtain ⟨c1, c2⟩ := hc i x hx
    exact ⟨(hb.cell (p := ⟨b, i * 2, none⟩) (World.block_lt_of_cell? _ _ c1)).trans c1, (hb.cell (p := ⟨b, i * 2 + 1, none⟩) (World.block_lt_of_cell? _ _ c2)).trans c2⟩
theorem own_readsA {w : World} {B n : Nat} {v : Value} {L : List (Nat × Nat)} (h : w.ownsRow B 98 2 v n (cls L)) : ReadsA w v L := by
  have hn : L.length = n := by have := h.1; rw [cls_len] at this; omega
  subst hn
  rcases h.2 with ⟨rfl, h0⟩ | ⟨g, cap, cur, rfl, _, hg, _⟩
  · refine ⟨none, 0, by rw [h0], .inl h0⟩
  · refine ⟨_, cap, rfl, .inr ⟨g, rfl, fun i x hx => ?_⟩⟩
    have hi := (List.getElem?_eq_some_iff.1 hx).1
    obtain ⟨c1, c2⟩ := cls_get L i x hx
    exact ⟨(h.cellAt (i * 2) (by omega)).trans c1, (h.cellAt (i * 2 + 1) (by omega)).trans c2⟩
theorem formA {w : World} {v : Value} {L : List (Nat × Nat)} (h : ReadsA w v L) : ∃ a cap, v = .slice a L.length cap := by
  obtain ⟨a, cap, h, _⟩ := h
  exact ⟨a, cap, h⟩
theorem row_at {L : List (Nat × Nat)} {w : World} {a : Option Addr} {cap n : Nat} {k i : Nat} {j : Nat} (h : ReadsA w (.slice a n cap) L) (hx : L[j]? = some (k, i)) : ∃ b, a = some ⟨b, 0, none⟩ ∧ w.cell? ⟨b, j * 2, none⟩ = some (.int .i64 (k : Nat)) ∧ w.cell? ⟨b, j * 2 + 1, none⟩ = some (.int .i64 (i : Nat)) := by
  obtain ⟨a', cap', e1, hc⟩ := h
  injection e1 with e1 e2 e3
  subst e1
  have := (List.getElem?_eq_some_iff.1 hx).1
  rcases hc with h0 | ⟨b, e4, hc⟩
  · omega
  · exact ⟨b, e4, hc j _ hx⟩
end Go.Proofs.YthpfgdhmpeadeaaDoor.cs

namespace Go.Proofs.YthpfgdhmpeadeaaDoor.ga
open Go.Proofs.YthpfgdhmpeadeaaDoor.ca Go.Proofs.YthpfgdhmpeadeaaDoor.cb
set_option linter.unusedVariables false

theorem half_lt {n : Nat} (h : 2 ≤ n) : 1 ≤ half n ∧ half n < n ∧ n ≤ 2 * half n := by
  obtain ⟨i, e, g1, g2⟩ := half_is h
  have := p2 i
  rw [p2s] at g2
  rw [e]
  omega
section
variable {α : Type} (E : α) (N : α → α → α)
-- the inclusion proof of place i; the consistency proof
def pathP (i : Nat) (l : List α) : List α :=
  if h : 2 ≤ l.length then
    if i < half l.length then pathP i (l.take (half l.length)) ++ [rootP E N (l.drop (half l.length))]
    else pathP (i - half l.length) (l.drop (half l.length)) ++ [rootP E N (l.take (half l.length))]
  else []
termination_by l.length
decreasing_by
  · have := half_lt h; rw [List.length_take]; omega
  · have := half_lt h; rw [List.length_drop]; omega
theorem pathP_one {i : Nat} {l : List α} (h : ¬ 2 ≤ l.length) : pathP E N i l = [] := by rw [pathP, dif_neg h]
theorem pathP_low {i : Nat} {l : List α} (h : 2 ≤ l.length) (hi : i < half l.length) : pathP E N i l = pathP E N i (l.take (half l.length)) ++ [rootP E N (l.drop (half l.length))] := by rw [pathP, dif_pos h, if_pos hi]
theorem pathP_high {i : Nat} {l : List α} (h : 2 ≤ l.length) (hi : ¬ i < half l.length) : pathP E N i l = pathP E N (i - half l.length) (l.drop (half l.length)) ++ [rootP E N (l.take (half l.length))] := by rw [pathP, dif_pos h, if_neg hi]
theorem pathP_len (n : Nat) : ∀ (i : Nat) (l : List α), l.length = n → (pathP E N i l).length ≤ n - 1 := by
  induction n using Nat.strongRecOn with
  | ind n ih =>
    intro i l hl
    by_cases h : 2 ≤ l.length
    · have hh := half_lt h
      by_cases hi : i < half l.length
      · rw [pathP_low E N h hi, List.length_append]
        have := ih (half l.length) (by omega) i (l.take (half l.length)) (by rw [List.length_take]; omega)
        simp
        omega
      · rw [pathP_high E N h hi, List.length_append]
        have := ih (l.length - half l.length) (by omega) (i - half l.length) (l.drop (half l.length)) (by rw [List.length_drop])
        simp
        omega
    · rw [pathP_one E N h]; simp
def subP (m : Nat) (l : List α) (b : Bool) : List α :=
  if h : m < l.length ∧ 2 ≤ l.length then
    if m ≤ half l.length then subP m (l.take (half l.length)) b ++ [rootP E N (l.drop (half l.length))]
    else subP (m - half l.length) (l.drop (half l.length)) false ++ [rootP E N (l.take (half l.length))]
  else if b then [] else [rootP E N l]
termination_by l.length
decreasing_by
  · have := half_lt h.2; rw [List.length_take]; omega
  · have := half_lt h.2; rw [List.length_drop]; omega
theorem subP_all {m : Nat} {l : List α} {b : Bool} (h : ¬ m < l.length) : subP E N m l b = if b then [] else [rootP E N l] := by rw [subP, dif_neg (fun hh => h hh.1)]
theorem subP_low {m : Nat} {l : List α} {b : Bool} (h : m < l.length) (h2 : 2 ≤ l.length) (hm : m ≤ half l.length) : subP E N m l b = subP E N m (l.take (half l.length)) b ++ [rootP E N (l.drop (half l.length))] := by rw [subP, dif_pos ⟨h, h2⟩, if_pos hm]
theorem subP_high {m : Nat} {l : List α} {b : Bool} (h : m < l.length) (h2 : 2 ≤ l.length) (hm : ¬ m ≤ half l.length) : subP E N m l b = subP E N (m - half l.length) (l.drop (half l.length)) false ++ [rootP E N (l.take (half l.length))] := by rw [subP, dif_pos ⟨h, h2⟩, if_neg hm]
theorem subP_len (n : Nat) : ∀ (m : Nat) (l : List α) (b : Bool), l.length = n → 1 ≤ n → (subP E N m l b).length ≤ n := by
  induction n using Nat.strongRecOn with
  | ind n ih =>
    intro m l b hl hn
    by_cases h : m < l.length ∧ 2 ≤ l.length
    · have hh := half_lt h.2
      by_cases hm : m ≤ half l.length
      · rw [subP_low E N h.1 h.2 hm, List.length_append]
        have := ih (half l.length) (by omega) m (l.take (half l.length)) b (by rw [List.length_take]; omega) (by omega)
        simp
        omega
      · rw [subP_high E N h.1 h.2 hm, List.length_append]
        have := ih (l.length - half l.length) (by omega) (m - half l.length) (l.drop (half l.length)) false (by rw [List.length_drop]) (by omega)
        simp
        omega
    · rw [subP, dif_neg h]
      split <;> simp <;> omega
-- parts of a part
theorem root_take {l : List α} {m : Nat} (h2 : 2 ≤ l.length) (h : half l.length < m) (hm : m < l.length) : rootP E N (l.take m) = N (rootP E N (l.take (half l.length))) (rootP E N ((l.drop (half l.length)).take (m - half l.length))) := by
  obtain ⟨i, e, g1, g2⟩ := half_is h2
  have hl : (l.take m).length = m := by rw [List.length_take]; omega
  have hk : half (l.take m).length = half l.length := by rw [hl, e]; exact half_eq (by omega) (by omega)
  rw [rootP_half E N (l := l.take m) (by rw [hl]; have := p2 i; omega), hk, List.take_take, Nat.min_eq_left (by omega), List.drop_take]
end
end Go.Proofs.YthpfgdhmpeadeaaDoor.ga

namespace Go.Proofs.YthpfgdhmpeadeaaDoor.kp
open Go.RowKit Go.PlainAid
open Go.Proofs.YthpfgdhmpeadeaaDoor.ca Go.Proofs.YthpfgdhmpeadeaaDoor.cb Go.Proofs.YthpfgdhmpeadeaaDoor.cp Go.Proofs.YthpfgdhmpeadeaaDoor.ga
set_option linter.unusedVariables false

-- but for the blocks of A the world is as it was
structure Kp (A : Nat → Prop) (w w' : World) : Prop where
  os : w'.os = w.os
  tape : w'.tape = w.tape
  output : w'.output = w.output
  size : w.heap.size ≤ w'.heap.size
  block : ∀ k, k < w.heap.size → ¬ A k → w'.heap[k]? = w.heap[k]?
theorem Kp.refl (A : Nat → Prop) (w : World) : Kp A w w := ⟨rfl, rfl, rfl, Nat.le_refl _, fun _ _ _ => rfl⟩
theorem Kp.trans {A : Nat → Prop} {a b c : World} (x : Kp A a b) (y : Kp A b c) : Kp A a c :=
  ⟨y.os.trans x.os, y.tape.trans x.tape, y.output.trans x.output, Nat.le_trans x.size y.size, fun k hk hn => (y.block k (Nat.lt_of_lt_of_le hk x.size) hn).trans (x.block k hk hn)⟩
theorem Kp.mono {A B : Nat → Prop} {w w' : World} (x : Kp A w w') (h : ∀ k, A k → B k) : Kp B w w' := ⟨x.os, x.tape, x.output, x.size, fun k hk hn => x.block k hk (fun a => hn (h k a))⟩
theorem Kp.of_below {A : Nat → Prop} {w w' : World} (x : Below w.heap.size w w') : Kp A w w' := ⟨x.os, x.tape, x.output, x.size, fun k hk _ => x.block k hk⟩
theorem Kp.setCell {A : Nat → Prop} (w : World) (b o : Nat) (v : Value) (hb : A b) : Kp A w (w.setCell ⟨b, o, none⟩ v) :=
  ⟨rfl, rfl, rfl, by simp [World.setCell], fun k hk hn => Below.heap_setCell _ _ _ _ (fun e => hn (e ▸ hb))⟩
theorem Kp.below {A : Nat → Prop} {B : Nat} {w w' : World} (x : Kp A w w') (hA : ∀ k, A k → B ≤ k) (hB : B ≤ w.heap.size) : Below B w w' :=
  ⟨x.os, x.tape, x.output, x.size, fun k hk => x.block k (by omega) (fun a => by have := hA k a; omega)⟩
theorem Kp.cell {A : Nat → Prop} {w w' : World} (x : Kp A w w') {b o : Nat} {v : Value} (h : w.cell? ⟨b, o, none⟩ = some v) (hn : ¬ A b) : w'.cell? ⟨b, o, none⟩ = some v := by
  have hlt := World.block_lt_of_cell? _ _ h
  have := x.block b hlt hn
  rw [← h]
  unfold World.cell?
  rw [show (⟨b, o, none⟩ : Addr).block = b from rfl, this]
-- a walk down the parts that keeps something in mind: what it does at a part, what stands there, how two halves are joined
structure Wy (X V : Type) where
  lk : X → Nat → Nat → Nat × X
  hv : X → Nat → Nat → Nat → V × X
  jn : V → V → V
def go {X V : Type} (W : Wy X V) (x : X) (a b : Nat) : V × X :=
  if (W.lk x a b).1 < 2 then W.hv (W.lk x a b).2 a b (W.lk x a b).1
  else if h : 2 ≤ b - a then
    if (W.lk x a b).1 = 2 then
      (W.jn (go W (W.lk x a b).2 a (a + half (b - a))).1 (go W (go W (W.lk x a b).2 a (a + half (b - a))).2 (a + half (b - a)) b).1, (go W (go W (W.lk x a b).2 a (a + half (b - a))).2 (a + half (b - a)) b).2)
    else
      (W.jn (go W (go W (W.lk x a b).2 (a + half (b - a)) b).2 a (a + half (b - a))).1 (go W (W.lk x a b).2 (a + half (b - a)) b).1, (go W (go W (W.lk x a b).2 (a + half (b - a)) b).2 a (a + half (b - a))).2)
  else W.hv (W.lk x a b).2 a b 0
termination_by b - a
decreasing_by all_goals (have := half_lt h; omega)
theorem go_stop {X V : Type} {W : Wy X V} {x : X} {a b : Nat} (h : (W.lk x a b).1 < 2) : go W x a b = W.hv (W.lk x a b).2 a b (W.lk x a b).1 := by rw [go, if_pos h]
theorem go_left {X V : Type} {W : Wy X V} {x : X} {a b : Nat} (h : (W.lk x a b).1 = 2) (h2 : 2 ≤ b - a) : go W x a b = (W.jn (go W (W.lk x a b).2 a (a + half (b - a))).1 (go W (go W (W.lk x a b).2 a (a + half (b - a))).2 (a + half (b - a)) b).1, (go W (go W (W.lk x a b).2 a (a + half (b - a))).2 (a + half (b - a)) b).2) := by rw [go, if_neg (by omega), dif_pos h2, if_pos h]
theorem go_right {X V : Type} {W : Wy X V} {x : X} {a b : Nat} (h : 3 ≤ (W.lk x a b).1) (h2 : 2 ≤ b - a) : go W x a b = (W.jn (go W (go W (W.lk x a b).2 (a + half (b - a)) b).2 a (a + half (b - a))).1 (go W (W.lk x a b).2 (a + half (b - a)) b).1, (go W (go W (W.lk x a b).2 (a + half (b - a)) b).2 a (a + half (b - a))).2) := by rw [go, if_neg (by omega), dif_pos h2, if_neg (by omega)]
-- F: the blocks that are written; P: what is asked of a part ahead of its walk; Q: what holds of what is made
structure Wk {X V : Type} (F : Nat → Prop) (St : X → World → Prop) (enc : V → Value) (W : Wy X V) (P : X → Nat → Nat → Prop) (Q : V → Prop) (lg hg jg : Nat) (lv hv jv : Array Value) : Prop where
  lent : ∀ args w, (callFunc lg args).run Tryd.prog w = .ok (.enter lg args) w
  hent : ∀ args w, (callFunc hg args).run Tryd.prog w = .ok (.enter hg args) w
  jent : ∀ args w, (callFunc jg args).run Tryd.prog w = .ok (.enter jg args) w
  later : ∀ {x w w'}, St x w → Below w.heap.size w w' → St x w'
  fl : ∀ {x w}, St x w → ∀ b, F b → b < w.heap.size
  look : ∀ x (a b : Nat) w, a < b → b ≤ 4611686018427387904 → P x a b → St x w → Calls Tryd.prog lg (#[.agg #[.int .i64 a, .int .i64 b]] ++ lv) w fun e w' => e = .returned (.int .i64 ((W.lk x a b).1 : Nat)) ∧ St (W.lk x a b).2 w' ∧ Kp F w w'
  have' : ∀ x (a b : Nat) w, a < b → b ≤ 4611686018427387904 → P x a b → (W.lk x a b).1 < 2 → St (W.lk x a b).2 w → Calls Tryd.prog hg (#[.agg #[.int .i64 a, .int .i64 b], .int .i64 ((W.lk x a b).1 : Nat)] ++ hv) w fun e w' => e = .returned (enc (W.hv (W.lk x a b).2 a b (W.lk x a b).1).1) ∧ St (W.hv (W.lk x a b).2 a b (W.lk x a b).1).2 w' ∧ Kp F w w'
  join : ∀ l r x w, Q l → Q r → St x w → Calls Tryd.prog jg (#[enc l, enc r] ++ jv) w fun e w' => e = .returned (enc (W.jn l r)) ∧ Below w.heap.size w w'
  qh : ∀ {x a b}, a < b → P x a b → (W.lk x a b).1 < 2 → Q (W.hv (W.lk x a b).2 a b (W.lk x a b).1).1
  qj : ∀ {l r}, Q l → Q r → Q (W.jn l r)
  wide : ∀ {x a b}, a < b → P x a b → 2 ≤ (W.lk x a b).1 → 2 ≤ b - a
  four : ∀ {x a b}, a < b → P x a b → (W.lk x a b).1 ≤ 3
  left : ∀ {x a b}, a < b → P x a b → (W.lk x a b).1 = 2 → P (W.lk x a b).2 a (a + half (b - a)) ∧ P (go W (W.lk x a b).2 a (a + half (b - a))).2 (a + half (b - a)) b
  right : ∀ {x a b}, a < b → P x a b → (W.lk x a b).1 = 3 → P (W.lk x a b).2 (a + half (b - a)) b ∧ P (go W (W.lk x a b).2 (a + half (b - a)) b).2 a (a + half (b - a))
end Go.Proofs.YthpfgdhmpeadeaaDoor.kp

namespace Go.Proofs.YthpfgdhmpeadeaaDoor.na
open Go.PlainAid

theorem and127 (c : Int) (h0 : 0 ≤ c) (h1 : c ≤ 255) : bits .and .u8 c 127 = c % 128 := by
  rw [u8_and c 127 h0 (by omega) (by omega) (by omega)]
  have h : c.toNat &&& (127 : Int).toNat = c.toNat % 128 := Nat.and_two_pow_sub_one_eq_mod c.toNat 7
  rw [h]; omega

theorem or128 (c : Int) (h0 : 0 ≤ c) (h1 : c ≤ 255) : bits .or .u8 128 c = c % 128 + 128 := by
  rw [u8_or 128 c (by omega) (by omega) h0 (by omega)]
  have key : ∀ x : Fin 256, 128 ||| x.val = x.val % 128 + 128 := by decide +kernel
  have h : (128 : Int).toNat ||| c.toNat = c.toNat % 128 + 128 := key ⟨c.toNat, by omega⟩
  rw [h]; omega

theorem or_low (v c : Int) (h0 : 0 ≤ v) (h1 : v < 72057594037927936) (c0 : 0 ≤ c) (c1 : c ≤ 255) : bits .or .u64 (v * 256) c = v * 256 + c := by
  rw [u64_or (v * 256) c (by omega) (by omega) c0 (by omega)]
  have h : (v * 256).toNat ||| c.toNat = 2 ^ 8 * v.toNat + c.toNat := by
    rw [Nat.two_pow_add_eq_or_of_lt (by omega)]
    congr 1
    omega
  rw [h]; omega

theorem pow128 (k : Nat) : (2 : Int) ^ (7 * k) = 128 ^ k := by rw [Int.pow_mul]; rfl

theorem pow_pos (k : Nat) : (1 : Int) ≤ 128 ^ k := by
  have : (0 : Int) < 128 ^ k := Int.pow_pos (by omega)
  omega

theorem ipow_le (a : Nat) (ha : 0 < a) {m n : Nat} (h : m ≤ n) : (a : Int) ^ m ≤ (a : Int) ^ n := by
  exact_mod_cast Nat.pow_le_pow_right ha h

theorem pow_nine (k : Nat) (h : k ≤ 9) : (128 : Int) ^ k ≤ 9223372036854775808 := by
  have h1 := ipow_le 128 (by omega) h
  have h2 : ((128 : Nat) : Int) ^ 9 = 9223372036854775808 := by decide
  rw [h2] at h1
  exact h1

theorem pow_eight (k : Nat) (h : k ≤ 8) : (128 : Int) ^ k ≤ 72057594037927936 := by
  have h1 := ipow_le 128 (by omega) h
  have h2 : ((128 : Nat) : Int) ^ 8 = 72057594037927936 := by decide
  rw [h2] at h1
  exact h1

theorem group_lt (v c : Int) (k : Nat) (hv : v < 128 ^ k) : v + c % 128 * 128 ^ k < 128 ^ (k + 1) := by
  have h1 := pow_pos k
  have h2 : c % 128 * 128 ^ k ≤ 127 * 128 ^ k := Int.mul_le_mul_of_nonneg_right (by omega) (by omega)
  rw [Int.pow_succ]; omega

theorem group_nonneg (c : Int) (k : Nat) : 0 ≤ c % 128 * 128 ^ k := by
  have h1 := pow_pos k
  exact Int.mul_nonneg (by omega) (by omega)

theorem group_max (v c : Int) (k : Nat) (hk : k ≤ 9) (hv : v < 128 ^ k) (h9 : k = 9 → c ≤ 1) (hc : 0 ≤ c) : v + c % 128 * 128 ^ k ≤ 18446744073709551615 := by
  by_cases e : k = 9
  · subst e
    have h := h9 rfl
    have h9' : (128 : Int) ^ 9 = 9223372036854775808 := by decide
    rw [h9'] at hv ⊢
    omega
  · have h := group_lt v c k hv
    have h' := pow_nine (k + 1) (by omega)
    omega

def varR (b : ByteArray) (p : Nat) : Nat → Nat → Int → Int × Int × Int
  | 0, _, _ => (0, 0, 11)
  | f + 1, k, x =>
    if b.size ≤ p + k then (0, 0, 12)
    else if k = 9 ∧ 1 < bt b (p + k) then (0, 0, 11)
    else if 0 < k ∧ bt b (p + k) = 0 then (0, 0, 13)
    else if bt b (p + k) < 128 then (x + bt b (p + k) % 128 * 128 ^ k, (p : Int) + k + 1, 0)
    else varR b p f (k + 1) (x + bt b (p + k) % 128 * 128 ^ k)

theorem varR_end (b : ByteArray) (p k : Nat) (x : Int) : varR b p 0 k x = (0, 0, 11) := rfl
theorem varR_short (b : ByteArray) (p f k : Nat) (x : Int) (h : b.size ≤ p + k) : varR b p (f + 1) k x = (0, 0, 12) := by
  rw [varR, if_pos h]
theorem varR_over (b : ByteArray) (p f k : Nat) (x : Int) (h : ¬ b.size ≤ p + k) (h1 : k = 9 ∧ 1 < bt b (p + k)) : varR b p (f + 1) k x = (0, 0, 11) := by
  rw [varR, if_neg h, if_pos h1]
theorem varR_form (b : ByteArray) (p f k : Nat) (x : Int) (h : ¬ b.size ≤ p + k) (h1 : ¬ (k = 9 ∧ 1 < bt b (p + k))) (h2 : 0 < k ∧ bt b (p + k) = 0) : varR b p (f + 1) k x = (0, 0, 13) := by
  rw [varR, if_neg h, if_neg h1, if_pos h2]
theorem varR_last (b : ByteArray) (p f k : Nat) (x : Int) (h : ¬ b.size ≤ p + k) (h1 : ¬ (k = 9 ∧ 1 < bt b (p + k))) (h2 : ¬ (0 < k ∧ bt b (p + k) = 0)) (h3 : bt b (p + k) < 128) :
    varR b p (f + 1) k x = (x + bt b (p + k) % 128 * 128 ^ k, (p : Int) + k + 1, 0) := by
  rw [varR, if_neg h, if_neg h1, if_neg h2, if_pos h3]
theorem varR_next (b : ByteArray) (p f k : Nat) (x : Int) (h : ¬ b.size ≤ p + k) (h1 : ¬ (k = 9 ∧ 1 < bt b (p + k))) (h2 : ¬ (0 < k ∧ bt b (p + k) = 0)) (h3 : ¬ bt b (p + k) < 128) :
    varR b p (f + 1) k x = varR b p f (k + 1) (x + bt b (p + k) % 128 * 128 ^ k) := by
  rw [varR, if_neg h, if_neg h1, if_neg h2, if_neg h3]

def beR (b : ByteArray) (p : Nat) : Nat → Int
  | 0 => 0
  | k + 1 => beR b p k * 256 + bt b (p + k)

theorem beR_nonneg (b : ByteArray) (p k : Nat) : 0 ≤ beR b p k := by
  induction k with
  | zero => exact Int.le_refl 0
  | succ k ih => have := bt_nonneg b (p + k); rw [beR]; omega

theorem beR_lt (b : ByteArray) (p k : Nat) : beR b p k < 256 ^ k := by
  induction k with
  | zero => show (0 : Int) < 1; omega
  | succ k ih => have := bt_le b (p + k); rw [beR, Int.pow_succ]; omega

theorem beR_seven (b : ByteArray) (p k : Nat) (h : k ≤ 7) : beR b p k < 72057594037927936 := by
  have h1 := beR_lt b p k
  have h2 := ipow_le 256 (by omega) h
  have h3 : ((256 : Nat) : Int) ^ 7 = 72057594037927936 := by decide
  rw [h3] at h2
  exact Int.lt_of_lt_of_le h1 h2

end Go.Proofs.YthpfgdhmpeadeaaDoor.na

namespace Go.Proofs.YthpfgdhmpeadeaaDoor.nb
open Go.RowKit Go.PlainAid
open Go.Proofs.YthpfgdhmpeadeaaDoor.na
set_option linter.unusedVariables false

def row (ns : List Int) : Array Value := (ns.map (Value.int .u8)).toArray
def str (ns : List Int) : ByteArray := ns.foldl (fun r n => r.push (UInt8.ofNat n.toNat)) ByteArray.empty

theorem row_size (ns : List Int) : (row ns).size = ns.length := by simp [row]
theorem row_set (ns : List Int) (i : Nat) (x : Int) : (row ns).setIfInBounds i (.int .u8 x) = row (ns.set i x) := by
  simp [row]
theorem row_get (ns : List Int) (i : Nat) : (row ns)[i]? = (ns[i]?).map (Value.int .u8) := by simp [row]

theorem info5 : (Tryd.prog.info? 5).map (fun i => (i.zero, i.size, i.bytes)) = some (some (.int .u8 0), 1, 1) := by kernel_rfl

theorem made_row (n : Nat) : madeCells (Value.int .u8 0).cells n = row (List.replicate n 0) := by
  apply Array.ext
  · simp [size_madeCells, row_size]
  · intro i h1 h2
    simp [madeCells, row, Value.cells, Nat.mod_one]

theorem make_row (n : Nat) (hn : n ≤ 1048576) (w : World) :
    (Instr.makeSlice 45 (.int .i64 n) (.int .i64 n)).run Tryd.prog w = .ok (.slice (some ⟨w.heap.size, 0, none⟩) n n) (w.alloc (.cells (row (List.replicate n 0)) 5)) := by
  obtain ⟨i, hi, hz0, hz1, hz2⟩ := info_parts info5
  have h := run_make (P := Tryd.prog) w 45 5 i (.int .u8 0) Tryd.underlying45 hi hz0 .i64 .i64 (n : Int) (n : Int) (by omega) (by omega) (by rw [hz2]; omega) (by omega)
  rw [hz1] at h
  simp only [Int.toNat_natCast, Nat.mul_one] at h
  rw [made_row] at h
  exact h

theorem conv_row (ns : List Int) (w : World) (n : Nat) (hn : n = ns.length) :
    (convert 45 9 (.slice (some ⟨w.heap.size, 0, none⟩) n n)).run Tryd.prog (w.alloc (.cells (row ns) 5)) = .ok (.string (str ns)) (w.alloc (.cells (row ns) 5)) := by
  subst hn
  rw [run_convert_bytes_string _ 45 9 5 _ _ _ Tryd.underlying45 Tryd.underlying5 Tryd.underlying9]
  refine run_bytesToString _ _ _ _ ns ?_
  have h := run_loadCells_list (P := Tryd.prog) (w := w.alloc (.cells (row ns) 5)) ⟨w.heap.size, 0, none⟩ (ns.map (Value.int .u8)) ?_
  · simpa using h
  · intro j v hj
    have e : (Addr.add ⟨w.heap.size, 0, none⟩ j) = ⟨w.heap.size, j, none⟩ := by cases j <;> simp [Addr.add]
    rw [e, World.cell?_alloc_at _ _ _ _ rfl, row, List.getElem?_toArray]
    exact hj

theorem str_snoc (ns : List Int) (x : Int) : str (ns ++ [x]) = (str ns).push (UInt8.ofNat x.toNat) := by simp [str]

theorem foldl_data (ns : List Int) : ∀ r : ByteArray, (ns.foldl (fun r n => r.push (UInt8.ofNat n.toNat)) r).data = r.data ++ (ns.map fun n => UInt8.ofNat n.toNat).toArray := by
  induction ns with
  | nil => intro r; simp
  | cons x ns ih =>
    intro r
    rw [List.foldl_cons, ih]
    show r.data.push _ ++ _ = _
    simp

theorem str_data (ns : List Int) : (str ns).data = (ns.map fun n => UInt8.ofNat n.toNat).toArray := by
  have h := foldl_data ns ByteArray.empty
  simpa [str] using h

theorem str_size (ns : List Int) : (str ns).size = ns.length := by
  show (str ns).data.size = _
  rw [str_data]; simp

theorem str_bt (ns : List Int) (k : Nat) (hk : k < ns.length) (h0 : 0 ≤ ns[k]) (h1 : ns[k] ≤ 255) : bt (str ns) k = ns[k] := by
  unfold bt
  rw [dif_pos (by rw [str_size]; exact hk)]
  have e : (str ns)[k]'(by rw [str_size]; exact hk) = UInt8.ofNat (ns[k]).toNat := by
    show (str ns).data[k]'_ = _
    simp [str_data]
  rw [e]
  have : (UInt8.ofNat (ns[k]).toNat).toNat = (ns[k]).toNat := by simp; omega
  omega

theorem ext_bt (a b : ByteArray) (hs : a.size = b.size) (h : ∀ k, k < a.size → bt a k = bt b k) : a = b := by
  apply ByteArray.ext
  apply Array.ext
  · exact hs
  · intro i h1 h2
    have e := h i h1
    unfold bt at e
    rw [dif_pos (show i < a.size from h1), dif_pos (show i < b.size from h2)] at e
    have e2 : (a[i]'h1).toNat = (b[i]'h2).toNat := by omega
    exact UInt8.toNat_inj.1 e2

theorem bt_append_left (a b : ByteArray) (k : Nat) (h : k < a.size) : bt (a ++ b) k = bt a k := by
  have hs : (a ++ b).size = a.size + b.size := ByteArray.size_append
  unfold bt
  rw [dif_pos h, dif_pos (by omega)]
  rw [ByteArray.getElem_append_left h]

theorem bt_append_right (a b : ByteArray) (k : Nat) : bt (a ++ b) (a.size + k) = bt b k := by
  have hs : (a ++ b).size = a.size + b.size := ByteArray.size_append
  unfold bt
  by_cases h : k < b.size
  · rw [dif_pos h, dif_pos (by omega)]
    rw [ByteArray.getElem_append_right (by omega)]
    simp
  · rw [dif_neg h, dif_neg (by omega)]

theorem bt_extract (a : ByteArray) (i j k : Nat) (h : i + k < j) (hj : j ≤ a.size) : bt (a.extract i j) k = bt a (i + k) := by
  have hs : (a.extract i j).size = min j a.size - i := ByteArray.size_extract
  unfold bt
  rw [dif_pos (by omega), dif_pos (by omega)]
  rw [ByteArray.getElem_extract]
end Go.Proofs.YthpfgdhmpeadeaaDoor.nb

namespace Go.Proofs.YthpfgdhmpeadeaaDoor.nc
open Go.RowKit Go.PlainAid
open Go.Proofs.YthpfgdhmpeadeaaDoor.na Go.Proofs.YthpfgdhmpeadeaaDoor.nb
set_option linter.unusedVariables false

theorem bitLen_zero : Lib.bitLen 0 = 0 := by decide

theorem bitLen_lt : ∀ (f x : Nat), x < 2 ^ f → f ≤ 64 → x < 2 ^ Lib.bitLen x ∧ (x ≠ 0 → 2 ^ (Lib.bitLen x - 1) ≤ x ∧ 1 ≤ Lib.bitLen x)
  | 0, x, h, _ => by
    have : x = 0 := by simpa using h
    subst this
    rw [bitLen_zero]; exact ⟨by decide, fun h => absurd rfl h⟩
  | f + 1, x, h, hf => by
    by_cases hx : x = 0
    · subst hx; rw [bitLen_zero]; exact ⟨by decide, fun h => absurd rfl h⟩
    · have hp := Nat.pow_le_pow_right (n := 2) (by omega) hf
      have e := Lib.bitLen_half x hx (Nat.lt_of_lt_of_le h hp)
      have ih := bitLen_lt f (x / 2) (by rw [Nat.pow_succ] at h; omega) (by omega)
      rw [e]
      refine ⟨?_, fun _ => ⟨?_, by omega⟩⟩
      · rw [Nat.add_comm, Nat.pow_succ]; omega
      · by_cases h2 : x / 2 = 0
        · rw [h2, bitLen_zero]; simp; omega
        · obtain ⟨h3, h4⟩ := ih.2 h2
          obtain ⟨l, hl⟩ : ∃ l, Lib.bitLen (x / 2) = l + 1 := ⟨Lib.bitLen (x / 2) - 1, by omega⟩
          rw [hl] at h3 ⊢
          rw [show 1 + (l + 1) - 1 = l + 1 by omega, Nat.pow_succ]
          rw [show l + 1 - 1 = l by omega] at h3
          omega

theorem bitLen_spec (x : Nat) (h : x < 18446744073709551616) : x < 2 ^ Lib.bitLen x ∧ (x ≠ 0 → 2 ^ (Lib.bitLen x - 1) ≤ x ∧ 1 ≤ Lib.bitLen x) :=
  bitLen_lt 64 x h (by omega)

def Wants (v : Int) (m : Nat) : Prop := 1 ≤ m ∧ m ≤ 10 ∧ v < 128 ^ m ∧ (m ≠ 1 → 128 ^ (m - 1) ≤ v)

theorem cast_pow (k : Nat) : ((2 ^ k : Nat) : Int) = 2 ^ k := by simp

theorem wants_len (v : Int) (h0 : 0 ≤ v) (h1 : v ≤ 18446744073709551615) : Wants v ((Lib.bitLen v.toNat + 6) / 7 + (if v = 0 then 1 else 0)) := by
  obtain ⟨hs1, hs2⟩ := bitLen_spec v.toNat (by omega)
  by_cases hv : v = 0
  · subst hv
    have e : Lib.bitLen (0 : Int).toNat = 0 := bitLen_zero
    rw [e]
    exact ⟨by decide, by decide, by decide, fun h => absurd rfl h⟩
  · rw [if_neg hv, Nat.add_zero]
    obtain ⟨hs3, hs4⟩ := hs2 (by omega)
    generalize hl : Lib.bitLen v.toNat = l at *
    have hl64 : l ≤ 64 := by
      apply Nat.le_of_not_lt
      intro h
      have := Nat.pow_le_pow_right (n := 2) (by omega) (show 64 ≤ l - 1 by omega)
      have e64 : (2 : Nat) ^ 64 = 18446744073709551616 := by decide
      omega
    refine ⟨by omega, by omega, ?_, ?_⟩
    · have h2 : v < 2 ^ l := by have := cast_pow l; omega
      have h3 := ipow_le 2 (by omega) (show l ≤ 7 * ((l + 6) / 7) by omega)
      rw [← pow128]
      exact Int.lt_of_lt_of_le h2 h3
    · intro hm
      have h2 : 2 ^ (l - 1) ≤ v := by have := cast_pow (l - 1); omega
      have h3 := ipow_le 2 (by omega) (show 7 * ((l + 6) / 7 - 1) ≤ l - 1 by omega)
      rw [← pow128]
      exact Int.le_trans h3 h2

theorem wants_one (v : Int) (m n : Nat) (h : Wants v m) (g : Wants v n) : m = n := by
  obtain ⟨m1, m2, m3, m4⟩ := h
  obtain ⟨n1, n2, n3, n4⟩ := g
  rcases Nat.lt_trichotomy m n with hl | hl | hl
  · have := ipow_le 128 (by omega) (show m ≤ n - 1 by omega)
    have h5 : (128 : Int) ^ m ≤ 128 ^ (n - 1) := this
    have := n4 (by omega)
    omega
  · exact hl
  · have := ipow_le 128 (by omega) (show n ≤ m - 1 by omega)
    have h5 : (128 : Int) ^ n ≤ 128 ^ (m - 1) := this
    have := m4 (by omega)
    omega

def gB (v : Int) (i : Nat) : Int := v / 128 ^ i % 128 + 128
def varL (v : Int) (m k : Nat) : List Int := (List.range k).map (gB v) ++ List.replicate (m - k) 0
def putL (v : Int) (m : Nat) : List Int := (List.range (m - 1)).map (gB v) ++ [v / 128 ^ (m - 1) % 128]

theorem gB_byte (v : Int) (i : Nat) : 128 ≤ gB v i ∧ gB v i ≤ 255 := by unfold gB; omega

theorem varL_zero (v : Int) (m : Nat) : varL v m 0 = List.replicate m 0 := by simp [varL]
theorem varL_length (v : Int) (m k : Nat) (h : k ≤ m) : (varL v m k).length = m := by simp [varL]; omega
theorem varL_set (v : Int) (m k : Nat) (h : k < m) : (varL v m k).set k (gB v k) = varL v m (k + 1) := by
  obtain ⟨j, rfl⟩ : ∃ j, m = k + 1 + j := ⟨m - (k + 1), by omega⟩
  rw [varL, varL, show k + 1 + j - k = j + 1 by omega, show k + 1 + j - (k + 1) = j by omega, List.set_append_right _ _ (by simp), List.range_succ]
  simp [List.replicate_succ]

theorem varL_last (v : Int) (m : Nat) (h : 1 ≤ m) : (varL v m m)[m - 1]? = some (gB v (m - 1)) := by
  rw [varL, List.getElem?_append_left (by simp; omega), List.getElem?_map, List.getElem?_range (by omega)]
  rfl

theorem varL_put (v : Int) (m : Nat) (h : 1 ≤ m) : (varL v m m).set (m - 1) (v / 128 ^ (m - 1) % 128) = putL v m := by
  obtain ⟨j, rfl⟩ : ∃ j, m = j + 1 := ⟨m - 1, by omega⟩
  simp [varL, putL, List.range_succ, List.set_append_right]

theorem putL_length (v : Int) (m : Nat) (h : 1 ≤ m) : (putL v m).length = m := by simp [putL]; omega

theorem putL_get (v : Int) (m i : Nat) (h : i + 1 < m) : (putL v m)[i]? = some (gB v i) := by
  rw [putL, List.getElem?_append_left (by simp; omega), List.getElem?_map, List.getElem?_range (by omega)]
  rfl

theorem putL_get_last (v : Int) (m : Nat) (h : 1 ≤ m) : (putL v m)[m - 1]? = some (v / 128 ^ (m - 1) % 128) := by
  simp [putL]

theorem str_get (ns : List Int) (i : Nat) (x : Int) (h : ns[i]? = some x) (h0 : 0 ≤ x) (h1 : x ≤ 255) : bt (str ns) i = x := by
  obtain ⟨hi, he⟩ := List.getElem?_eq_some_iff.1 h
  rw [str_bt ns i hi (by rw [he]; exact h0) (by rw [he]; exact h1), he]

theorem put_bt (v : Int) (m i : Nat) (h : i + 1 < m) : bt (str (putL v m)) i = gB v i := by
  have := gB_byte v i
  exact str_get _ _ _ (putL_get v m i h) (by omega) (by omega)

theorem put_bt_last (v : Int) (m : Nat) (h : 1 ≤ m) : bt (str (putL v m)) (m - 1) = v / 128 ^ (m - 1) % 128 :=
  str_get _ _ _ (putL_get_last v m h) (by omega) (by omega)

theorem split128 (v : Int) (n : Nat) : v % 128 ^ (n + 1) = v % 128 ^ n + v / 128 ^ n % 128 * 128 ^ n := by
  have hc : (0 : Int) < 128 ^ n := Int.pow_pos (by omega)
  have e : (128 : Int) ^ (n + 1) = 128 ^ n * 128 := Int.pow_succ ..
  rw [e]
  generalize (128 : Int) ^ n = c at *
  have h1 := Int.emod_add_mul_ediv v c
  have h2 := Int.emod_nonneg v (Int.ne_of_gt hc)
  have h3 := Int.emod_lt_of_pos v hc
  have h4 := Int.emod_add_mul_ediv (v / c) 128
  have key : v = (v % c + v / c % 128 * c) + c * 128 * (v / c / 128) := by
    have : c * (v / c) = v / c % 128 * c + c * 128 * (v / c / 128) := by
      conv => lhs; rw [← h4]
      rw [Int.mul_add, Int.mul_comm c (v / c % 128), Int.mul_assoc]
    omega
  have hb0 : 0 ≤ v % c + v / c % 128 * c := by
    have : 0 ≤ v / c % 128 * c := Int.mul_nonneg (by omega) (by omega)
    omega
  have hb1 : v % c + v / c % 128 * c < c * 128 := by
    have : v / c % 128 * c ≤ 127 * c := Int.mul_le_mul_of_nonneg_right (by omega) (by omega)
    omega
  conv => lhs; rw [key]
  rw [Int.add_mul_emod_self_left]
  exact Int.emod_eq_of_lt hb0 hb1

theorem varR_upto (b : ByteArray) (p : Nat) (v : Int) (n : Nat) (hn : n ≤ 9) (hs : p + n ≤ b.size) (hb : ∀ i, i < n → bt b (p + i) % 128 = v / 128 ^ i % 128 ∧ 128 ≤ bt b (p + i)) :
    ∀ k, k ≤ n → varR b p 10 0 0 = varR b p (10 - k) k (v % 128 ^ k) := by
  intro k
  induction k with
  | zero => intro _; simp [Int.emod_one]
  | succ k ih =>
    intro hk
    obtain ⟨h1, h2⟩ := hb k (by omega)
    rw [ih (by omega), show 10 - k = (10 - (k + 1)) + 1 by omega, varR_next b p _ k _ (by omega) (by omega) (by omega) (by omega), h1, ← split128]

theorem varR_back (b : ByteArray) (p m : Nat) (v : Int) (h0 : 0 ≤ v) (h1 : v ≤ 18446744073709551615) (hw : Wants v m) (hs : p + m ≤ b.size)
    (hb : ∀ i, i + 1 < m → bt b (p + i) = gB v i) (hl : bt b (p + (m - 1)) = v / 128 ^ (m - 1) % 128) : varR b p 10 0 0 = (v, (p : Int) + m, 0) := by
  obtain ⟨m1, m2, m3, m4⟩ := hw
  have hup := varR_upto b p v (m - 1) (by omega) (by omega) (fun i hi => by rw [hb i (by omega)]; unfold gB; omega) (m - 1) (Nat.le_refl _)
  have hsplit := split128 v (m - 1)
  rw [show m - 1 + 1 = m by omega, Int.emod_eq_of_lt h0 m3] at hsplit
  have hc : (0 : Int) < 128 ^ (m - 1) := Int.pow_pos (by omega)
  have hpos : m ≠ 1 → 1 ≤ v / 128 ^ (m - 1) := fun h => by
    have := m4 h
    exact (Int.le_ediv_iff_mul_le hc).2 (by omega)
  have hlt : v / 128 ^ (m - 1) < 128 := by
    apply Int.ediv_lt_of_lt_mul hc
    have e : (128 : Int) * 128 ^ (m - 1) = 128 ^ m := by
      rw [Int.mul_comm, ← Int.pow_succ]; congr 1; omega
    rw [e]; exact m3
  have hnn : 0 ≤ v / 128 ^ (m - 1) := Int.ediv_nonneg h0 (by omega)
  have h9 : m = 10 → v / 128 ^ (m - 1) ≤ 1 := fun h => by
    subst h
    have e : (128 : Int) ^ (10 - 1) = 9223372036854775808 := by decide
    rw [e]; omega
  rw [hup, show 10 - (m - 1) = (10 - m) + 1 by omega, varR_last b p _ (m - 1) _ (by omega) ?_ ?_ (by rw [hl]; omega), hl]
  · rw [show v / 128 ^ (m - 1) % 128 % 128 = v / 128 ^ (m - 1) % 128 by omega, ← hsplit]
    congr 2; omega
  · rintro ⟨e, h⟩
    have := h9 (by omega)
    rw [hl] at h; omega
  · rintro ⟨e, h⟩
    have := hpos (by omega)
    rw [hl] at h; omega

theorem varR_cut (b : ByteArray) (p n : Nat) (hn : n ≤ 9) (hs : p + n = b.size) (hb : ∀ i, i < n → 128 ≤ bt b (p + i)) : varR b p 10 0 0 = (0, 0, 12) := by
  have key : ∀ k (x : Int), k ≤ n → ∃ y, varR b p 10 0 0 = varR b p (10 - k) k y := by
    intro k
    induction k with
    | zero => intro x _; exact ⟨0, rfl⟩
    | succ k ih =>
      intro x hk
      obtain ⟨y, hy⟩ := ih x (by omega)
      have h2 := hb k (by omega)
      refine ⟨y + bt b (p + k) % 128 * 128 ^ k, ?_⟩
      rw [hy, show 10 - k = (10 - (k + 1)) + 1 by omega, varR_next b p _ k _ (by omega) (by omega) (by omega) (by omega)]
  obtain ⟨y, hy⟩ := key n 0 (Nat.le_refl _)
  rw [hy, show 10 - n = (9 - n) + 1 by omega, varR_short b p _ n _ (by omega)]

theorem varR_zero (b : ByteArray) (p n : Nat) (hn : n ≤ 9) (hn1 : 1 ≤ n) (hs : p + n < b.size) (hb : ∀ i, i < n → 128 ≤ bt b (p + i)) (hz : bt b (p + n) = 0) : varR b p 10 0 0 = (0, 0, 13) := by
  have key : ∀ k (x : Int), k ≤ n → ∃ y, varR b p 10 0 0 = varR b p (10 - k) k y := by
    intro k
    induction k with
    | zero => intro x _; exact ⟨0, rfl⟩
    | succ k ih =>
      intro x hk
      obtain ⟨y, hy⟩ := ih x (by omega)
      have h2 := hb k (by omega)
      refine ⟨y + bt b (p + k) % 128 * 128 ^ k, ?_⟩
      rw [hy, show 10 - k = (10 - (k + 1)) + 1 by omega, varR_next b p _ k _ (by omega) (by omega) (by omega) (by omega)]
  obtain ⟨y, hy⟩ := key n 0 (Nat.le_refl _)
  rw [hy, show 10 - n = (9 - n) + 1 by omega, varR_form b p _ n _ (by omega) (by omega) ⟨by omega, hz⟩]
end Go.Proofs.YthpfgdhmpeadeaaDoor.nc

namespace Go.Proofs.YthpfgdhmpeadeaaDoor.ea
open Go.RowKit Go.PlainAid
open Go.Proofs.YthpfgdhmpeadeaaDoor.na Go.Proofs.YthpfgdhmpeadeaaDoor.nb Go.Proofs.YthpfgdhmpeadeaaDoor.nc
set_option linter.unusedVariables false

-- what a reader of bytes does: p its place, e its first refusal
def refu (e f : Int) : Int := if e = 0 then f else e
theorem refu_zero (f : Int) : refu 0 f = f := rfl
theorem refu_not (e f : Int) (h : e ≠ 0) : refu e f = e := if_neg h
def takeS (b : ByteArray) (c p : Nat) (e : Int) : ByteArray × Nat × Int :=
  if e ≠ 0 then (ByteArray.empty, p, e) else if b.size < p + c then (ByteArray.empty, p, 12) else (b.extract p (p + c), p + c, 0)
theorem takeS_not (b : ByteArray) (c p : Nat) (e : Int) (h : e ≠ 0) : takeS b c p e = (ByteArray.empty, p, e) := if_pos h
theorem takeS_short (b : ByteArray) (c p : Nat) (h : b.size < p + c) : takeS b c p 0 = (ByteArray.empty, p, 12) := by
  rw [takeS, if_neg (by omega), if_pos h]
theorem takeS_yes (b : ByteArray) (c p : Nat) (h : p + c ≤ b.size) : takeS b c p 0 = (b.extract p (p + c), p + c, 0) := by
  rw [takeS, if_neg (by omega), if_neg (by omega)]
def numS (b : ByteArray) (p : Nat) (e : Int) : Int × Nat × Int :=
  if e ≠ 0 then (0, p, e) else if (varR b p 10 0 0).2.2 ≠ 0 then (0, p, (varR b p 10 0 0).2.2) else ((varR b p 10 0 0).1, (varR b p 10 0 0).2.1.toNat, 0)
theorem numS_not (b : ByteArray) (p : Nat) (e : Int) (h : e ≠ 0) : numS b p e = (0, p, e) := if_pos h
theorem numS_bad (b : ByteArray) (p : Nat) (h : (varR b p 10 0 0).2.2 ≠ 0) : numS b p 0 = (0, p, (varR b p 10 0 0).2.2) := by
  rw [numS, if_neg (by omega), if_pos h]
theorem numS_yes (b : ByteArray) (p : Nat) (h : (varR b p 10 0 0).2.2 = 0) : numS b p 0 = ((varR b p 10 0 0).1, (varR b p 10 0 0).2.1.toNat, 0) := by
  rw [numS, if_neg (by omega), if_neg (by omega)]
def mostS (b : ByteArray) (m f : Int) (p : Nat) (e : Int) : Int × Nat × Int :=
  if m < 0 ∨ m < (numS b p e).1 then (0, (numS b p e).2.1, refu (numS b p e).2.2 f) else numS b p e
theorem mostS_out (b : ByteArray) (m f : Int) (p : Nat) (e : Int) (h : m < 0 ∨ m < (numS b p e).1) : mostS b m f p e = (0, (numS b p e).2.1, refu (numS b p e).2.2 f) := if_pos h
theorem mostS_in (b : ByteArray) (m f : Int) (p : Nat) (e : Int) (h : ¬ (m < 0 ∨ m < (numS b p e).1)) : mostS b m f p e = numS b p e := if_neg h
theorem mostS_not (b : ByteArray) (m f : Int) (p : Nat) (e : Int) (h : e ≠ 0) : mostS b m f p e = (0, p, e) := by
  by_cases hm : m < 0 ∨ m < (numS b p e).1
  · rw [mostS_out b m f p e hm, numS_not b p e h]
    show (0, p, refu e f) = _
    rw [refu_not e f h]
  · rw [mostS_in b m f p e hm, numS_not b p e h]
-- the mark, the width
def markS (b : ByteArray) (c : Int) (p : Nat) (e : Int) : Nat × Int :=
  ((takeS b 1 p e).2.1, if (takeS b 1 p e).1 = str [c] then (takeS b 1 p e).2.2 else refu (takeS b 1 p e).2.2 110)
def byteS (b : ByteArray) (p : Nat) (e : Int) : Int := if (takeS b 1 p e).1.size = 1 then bt (takeS b 1 p e).1 0 else 0
def widthS (b : ByteArray) (p : Nat) (e : Int) : Int × Nat × Int :=
  (byteS b p e, (takeS b 1 p e).2.1, if 1 ≤ byteS b p e ∧ byteS b p e ≤ 32 then (takeS b 1 p e).2.2 else refu (takeS b 1 p e).2.2 10)
-- hashes side by side
def hashesS (b : ByteArray) (w : Nat) : Nat → Nat → Int → List ByteArray × Nat × Int
  | 0, p, e => ([], p, e)
  | n + 1, p, e => if e ≠ 0 then ([], p, e) else ((takeS b w p e).1 :: (hashesS b w n (takeS b w p e).2.1 (takeS b w p e).2.2).1, (hashesS b w n (takeS b w p e).2.1 (takeS b w p e).2.2).2)
def endS (b : ByteArray) (p : Nat) (e : Int) : Int := if p < b.size then refu e 111 else e
-- leaves
def leavesS (b : ByteArray) : Nat → Nat → Int → List ByteArray × Nat × Int
  | 0, p, e => ([], p, e)
  | n + 1, p, e => ((takeS b (mostS b 4096 121 p e).1.toNat (mostS b 4096 121 p e).2.1 (mostS b 4096 121 p e).2.2).1 ::
      (leavesS b n (takeS b (mostS b 4096 121 p e).1.toNat (mostS b 4096 121 p e).2.1 (mostS b 4096 121 p e).2.2).2.1 (takeS b (mostS b 4096 121 p e).1.toNat (mostS b 4096 121 p e).2.1 (mostS b 4096 121 p e).2.2).2.2).1,
      (leavesS b n (takeS b (mostS b 4096 121 p e).1.toNat (mostS b 4096 121 p e).2.1 (mostS b 4096 121 p e).2.2).2.1 (takeS b (mostS b 4096 121 p e).1.toNat (mostS b 4096 121 p e).2.1 (mostS b 4096 121 p e).2.2).2.2).2)
theorem leavesS_not (b : ByteArray) (n p : Nat) (e : Int) (h : e ≠ 0) : (leavesS b n p e).2 = (p, e) := by
  induction n with
  | zero => rfl
  | succ n ih =>
    rw [leavesS]
    show (leavesS b n _ _).2 = _
    rw [mostS_not b _ _ p e h]
    show (leavesS b n (takeS b (0 : Int).toNat p e).2.1 (takeS b (0 : Int).toNat p e).2.2).2 = _
    rw [takeS_not b _ p e h]
    exact ih
theorem hashesS_not (b : ByteArray) (w n p : Nat) (e : Int) (h : e ≠ 0) : hashesS b w n p e = ([], p, e) := by
  cases n with
  | zero => rfl
  | succ n => rw [hashesS, if_pos h]
-- the place stays within the bytes, errors are not below 0
theorem varR_in (b : ByteArray) (p : Nat) : ∀ (f k : Nat) (x : Int), p + k ≤ b.size → 0 ≤ x → x < 128 ^ k → k ≤ 10 → f = 10 - k →
    (varR b p f k x).2.2 = 0 ∧ (∃ q : Nat, (varR b p f k x).2.1 = q ∧ q ≤ b.size ∧ p < q) ∧ 0 ≤ (varR b p f k x).1 ∧ (varR b p f k x).1 ≤ 18446744073709551615 ∨
    (varR b p f k x).2.2 ≠ 0 ∧ 11 ≤ (varR b p f k x).2.2 ∧ (varR b p f k x).2.2 ≤ 13 ∧ (varR b p f k x).1 = 0 := by
  intro f
  induction f with
  | zero => intro k x _ _ _ _ _; right; rw [varR_end]; exact ⟨by decide, by decide, by decide, rfl⟩
  | succ f ih =>
    intro k x hk hx0 hx1 hk10 hf
    by_cases hs : b.size ≤ p + k
    · right; rw [varR_short b p f k x hs]; exact ⟨by decide, by decide, by decide, rfl⟩
    by_cases ho : k = 9 ∧ 1 < bt b (p + k)
    · right; rw [varR_over b p f k x hs ho]; exact ⟨by decide, by decide, by decide, rfl⟩
    by_cases hz : 0 < k ∧ bt b (p + k) = 0
    · right; rw [varR_form b p f k x hs ho hz]; exact ⟨by decide, by decide, by decide, rfl⟩
    have h9 : k = 9 → bt b (p + k) ≤ 1 := fun e => Int.not_lt.mp fun h => ho ⟨e, h⟩
    have hmax := group_max x (bt b (p + k)) k (by omega) hx1 h9 (bt_nonneg b (p + k))
    have hnn := group_nonneg (bt b (p + k)) k
    by_cases hl : bt b (p + k) < 128
    · left; rw [varR_last b p f k x hs ho hz hl]
      exact ⟨rfl, ⟨p + k + 1, by simp, by omega, by omega⟩, by show 0 ≤ x + _; omega, hmax⟩
    · rw [varR_next b p f k x hs ho hz hl]
      exact ih (k + 1) _ (by omega) (by omega) (group_lt x (bt b (p + k)) k hx1) (by omega) (by omega)
theorem var_in (b : ByteArray) (p : Nat) (hp : p ≤ b.size) : (varR b p 10 0 0).2.2 = 0 ∧ (∃ q : Nat, (varR b p 10 0 0).2.1 = q ∧ q ≤ b.size ∧ p < q) ∧ 0 ≤ (varR b p 10 0 0).1 ∧ (varR b p 10 0 0).1 ≤ 18446744073709551615 ∨
    (varR b p 10 0 0).2.2 ≠ 0 ∧ 11 ≤ (varR b p 10 0 0).2.2 ∧ (varR b p 10 0 0).2.2 ≤ 13 ∧ (varR b p 10 0 0).1 = 0 :=
  varR_in b p 10 0 0 (by omega) (by omega) (by decide) (by omega) rfl
-- a state that may be
def Ok (b : ByteArray) (p : Nat) (e : Int) : Prop := p ≤ b.size ∧ 0 ≤ e ∧ e ≤ 1000
theorem refu_ok (e f : Int) (h0 : 0 ≤ e ∧ e ≤ 1000) (h1 : 0 ≤ f ∧ f ≤ 1000) : 0 ≤ refu e f ∧ refu e f ≤ 1000 := by
  unfold refu; split <;> omega
theorem take_ok (b : ByteArray) (c p : Nat) (e : Int) (h : Ok b p e) : Ok b (takeS b c p e).2.1 (takeS b c p e).2.2 := by
  unfold takeS
  obtain ⟨h1, h2, h3⟩ := h
  split
  · exact ⟨h1, h2, h3⟩
  · split
    · exact ⟨h1, by simp, by simp⟩
    · exact ⟨by show p + c ≤ b.size; omega, by simp, by simp⟩
theorem num_ok (b : ByteArray) (p : Nat) (e : Int) (h : Ok b p e) : Ok b (numS b p e).2.1 (numS b p e).2.2 ∧ 0 ≤ (numS b p e).1 ∧ (numS b p e).1 ≤ 18446744073709551615 := by
  obtain ⟨h1, h2, h3⟩ := h
  by_cases he : e = 0
  · subst he
    rcases var_in b p h1 with ⟨v1, ⟨q, v2, v3, v5⟩, v4, v6⟩ | ⟨v1, v2, v3, v4⟩
    · rw [numS_yes b p v1]
      exact ⟨⟨by show Int.toNat _ ≤ _; omega, by simp, by simp⟩, v4, v6⟩
    · rw [numS_bad b p v1]
      exact ⟨⟨h1, by show 0 ≤ (varR b p 10 0 0).2.2; omega, by show (varR b p 10 0 0).2.2 ≤ 1000; omega⟩, by simp, by simp⟩
  · rw [numS_not b p e he]
    exact ⟨⟨h1, h2, h3⟩, by simp, by simp⟩
theorem most_ok (b : ByteArray) (m f : Int) (p : Nat) (e : Int) (h : Ok b p e) (hf : 0 ≤ f ∧ f ≤ 1000) : Ok b (mostS b m f p e).2.1 (mostS b m f p e).2.2 ∧ 0 ≤ (mostS b m f p e).1 ∧ ((mostS b m f p e).1 = 0 ∨ (mostS b m f p e).1 ≤ m) := by
  obtain ⟨h1, h2, h3⟩ := num_ok b p e h
  by_cases hm : m < 0 ∨ m < (numS b p e).1
  · rw [mostS_out b m f p e hm]
    have := refu_ok (numS b p e).2.2 f ⟨h1.2.1, h1.2.2⟩ hf
    exact ⟨⟨h1.1, this.1, this.2⟩, by simp, .inl rfl⟩
  · rw [mostS_in b m f p e hm]
    exact ⟨h1, h2, .inr (by omega)⟩
theorem mark_ok (b : ByteArray) (c : Int) (p : Nat) (e : Int) (h : Ok b p e) : Ok b (markS b c p e).1 (markS b c p e).2 := by
  have h1 := take_ok b 1 p e h
  unfold markS
  refine ⟨h1.1, ?_⟩
  show 0 ≤ ite _ _ _ ∧ ite _ _ _ ≤ (1000 : Int)
  split
  · exact ⟨h1.2.1, h1.2.2⟩
  · exact refu_ok _ _ ⟨h1.2.1, h1.2.2⟩ (by decide)
theorem byte_in (b : ByteArray) (p : Nat) (e : Int) : 0 ≤ byteS b p e ∧ byteS b p e ≤ 255 := by
  unfold byteS
  split
  · exact ⟨bt_nonneg _ _, bt_le _ _⟩
  · exact ⟨by decide, by decide⟩
theorem width_ok (b : ByteArray) (p : Nat) (e : Int) (h : Ok b p e) : Ok b (widthS b p e).2.1 (widthS b p e).2.2 := by
  have h1 := take_ok b 1 p e h
  unfold widthS
  refine ⟨h1.1, ?_⟩
  show 0 ≤ ite _ _ _ ∧ ite _ _ _ ≤ (1000 : Int)
  split
  · exact ⟨h1.2.1, h1.2.2⟩
  · exact refu_ok _ _ ⟨h1.2.1, h1.2.2⟩ (by decide)
theorem hashes_ok (b : ByteArray) (w n : Nat) : ∀ (p : Nat) (e : Int), Ok b p e → Ok b (hashesS b w n p e).2.1 (hashesS b w n p e).2.2 ∧ (hashesS b w n p e).1.length ≤ n := by
  induction n with
  | zero => intro p e h; exact ⟨h, Nat.le_refl _⟩
  | succ n ih =>
    intro p e h
    rw [hashesS]
    split
    · exact ⟨h, by simp⟩
    · have := ih _ _ (take_ok b w p e h)
      exact ⟨this.1, by show (_ :: _).length ≤ _; rw [List.length_cons]; omega⟩
theorem leaves_ok (b : ByteArray) (n : Nat) : ∀ (p : Nat) (e : Int), Ok b p e → Ok b (leavesS b n p e).2.1 (leavesS b n p e).2.2 ∧ (leavesS b n p e).1.length = n := by
  induction n with
  | zero => intro p e h; exact ⟨h, rfl⟩
  | succ n ih =>
    intro p e h
    rw [leavesS]
    have h1 := (most_ok b 4096 121 p e h (by decide)).1
    have := ih _ _ (take_ok b (mostS b 4096 121 p e).1.toNat _ _ h1)
    exact ⟨this.1, by show (_ :: _).length = _; rw [List.length_cons, this.2]⟩
-- what the readers of leaves and of a tile's hashes read
def unLeavesS (b : ByteArray) : List ByteArray × Nat × Int :=
  leavesS b (mostS b 1024 83 (markS b 76 0 0).1 (markS b 76 0 0).2).1.toNat (mostS b 1024 83 (markS b 76 0 0).1 (markS b 76 0 0).2).2.1 (mostS b 1024 83 (markS b 76 0 0).1 (markS b 76 0 0).2).2.2
def unLeavesE (b : ByteArray) : Int := endS b (unLeavesS b).2.1 (unLeavesS b).2.2
def unLeavesL (b : ByteArray) : List ByteArray := if unLeavesE b = 0 then (unLeavesS b).1 else []
-- numbers, as they are written
def mOf (v : Int) : Nat := (Lib.bitLen v.toNat + 6) / 7 + (if v = 0 then 1 else 0)
def putB (v : Int) : ByteArray := str (putL v (mOf v))
theorem putB_of (v : Int) (m : Nat) (h0 : 0 ≤ v) (h1 : v ≤ 18446744073709551615) (hw : Wants v m) : str (putL v m) = putB v := by
  rw [putB, wants_one v m _ hw (wants_len v h0 h1)]
  rfl
theorem putB_size (v : Int) (h0 : 0 ≤ v) (h1 : v ≤ 18446744073709551615) : 1 ≤ (putB v).size ∧ (putB v).size ≤ 10 := by
  have hw : Wants v (mOf v) := wants_len v h0 h1
  rw [putB, str_size, putL_length v _ hw.1]
  exact ⟨hw.1, hw.2.1⟩
def cat (l : List ByteArray) : List UInt8 := l.flatMap fun x => x.data.toList
def numsB (l : List Int) : List UInt8 := l.flatMap fun v => (putB v).data.toList
def leafB (x : ByteArray) : List UInt8 := (putB x.size).data.toList ++ x.data.toList
def leavesB (l : List ByteArray) : List UInt8 := 76 :: (putB l.length).data.toList ++ l.flatMap leafB
def hashesB (w : Nat) (l : List ByteArray) : List UInt8 := 72 :: UInt8.ofNat w :: (putB l.length).data.toList ++ cat l
end Go.Proofs.YthpfgdhmpeadeaaDoor.ea

namespace Go.Proofs.YthpfgdhmpeadeaaDoor.ka
open Go.RowKit Go.PlainAid
open Go.Proofs.YthpfgdhmpeadeaaDoor.ca Go.Proofs.YthpfgdhmpeadeaaDoor.cp
set_option linter.unusedVariables false

-- a list of texts, wherever it lies
def ReadsT (w : World) (v : Value) (xs : List ByteArray) : Prop :=
  ∃ a cap, v = .slice a xs.length cap ∧ xs.length ≤ cap ∧ (xs.length = 0 ∨ ∃ b off, a = some ⟨b, off, none⟩ ∧ ∀ i, i < xs.length → w.cell? ⟨b, off + i, none⟩ = some (.string (xs.getD i ByteArray.empty)))
theorem ReadsT.later {w w' : World} {v : Value} {xs : List ByteArray} (h : ReadsT w v xs) (hb : Below w.heap.size w w') : ReadsT w' v xs := by
  obtain ⟨a, cap, rfl, hc, h0 | ⟨b, off, rfl, hh⟩⟩ := h
  · exact ⟨a, cap, rfl, hc, .inl h0⟩
  · refine ⟨_, cap, rfl, hc, .inr ⟨b, off, rfl, fun i hi => ?_⟩⟩
    have := hh i hi
    exact (hb.cell (p := ⟨b, off + i, none⟩) (World.block_lt_of_cell? _ _ this)).trans this
theorem ReadsT.front {w : World} {b off n cap k : Nat} {xs : List ByteArray} (h : ReadsT w (.slice (some ⟨b, off, none⟩) n cap) xs) (hk : k ≤ xs.length) : ReadsT w (.slice (some ⟨b, off, none⟩) k cap) (xs.take k) := by
  obtain ⟨a, cap', e, hc, hh⟩ := h
  injection e with e1 e2 e3
  subst e1 e3
  have hl : (xs.take k).length = k := by rw [List.length_take]; omega
  refine ⟨_, cap, by rw [hl], by omega, ?_⟩
  rcases hh with h0 | ⟨b', off', e4, hh⟩
  · left; omega
  · injection e4 with e4
    injection e4 with e5 e6
    subst e5 e6
    refine .inr ⟨b, off, rfl, fun i hi => ?_⟩
    rw [hl] at hi
    rw [hh i (by omega), List.getD_eq_getElem?_getD, List.getD_eq_getElem?_getD, List.getElem?_take, if_pos hi]
theorem ReadsT.back {w : World} {b off n cap k : Nat} {xs : List ByteArray} (h : ReadsT w (.slice (some ⟨b, off, none⟩) n cap) xs) (hk : k ≤ xs.length) : ReadsT w (.slice (some ⟨b, off + k, none⟩) (n - k) (cap - k)) (xs.drop k) := by
  obtain ⟨a, cap', e, hc, hh⟩ := h
  injection e with e1 e2 e3
  subst e1 e2 e3
  have hl : (xs.drop k).length = xs.length - k := List.length_drop
  refine ⟨_, cap - k, by rw [hl], by omega, ?_⟩
  rcases hh with h0 | ⟨b', off', e4, hh⟩
  · left; omega
  · injection e4 with e4
    injection e4 with e5 e6
    subst e5 e6
    refine .inr ⟨b, off + k, rfl, fun i hi => ?_⟩
    rw [hl] at hi
    rw [Nat.add_assoc, hh (k + i) (by omega), List.getD_eq_getElem?_getD, List.getD_eq_getElem?_getD, List.getElem?_drop]
theorem ReadsT.mid {w : World} {b off n cap f k : Nat} {xs : List ByteArray} (h : ReadsT w (.slice (some ⟨b, off, none⟩) n cap) xs) (hk : f + k ≤ xs.length) : ReadsT w (.slice (some ⟨b, off + f, none⟩) k (cap - f)) ((xs.drop f).take k) := by
  have h1 := h.back (k := f) (by omega)
  exact ReadsT.front (n := n - f) h1 (by rw [List.length_drop]; omega)
theorem own_readsT {w : World} {B n : Nat} {v : Value} {xs : List ByteArray} (h : w.ownsRow B 9 1 v n (xs.map Value.string)) : ReadsT w v xs := by
  have hn : xs.length = n := by have := h.1; simpa using this
  subst hn
  rcases h.2 with ⟨rfl, h0⟩ | ⟨g, cap, cur, rfl, _, hg, hc, _⟩
  · exact ⟨none, 0, by rw [h0], by omega, .inl h0⟩
  · refine ⟨_, cap, rfl, hc, .inr ⟨g, 0, rfl, fun i hi => ?_⟩⟩
    rw [Nat.zero_add, h.cellAt i (by omega), List.getElem?_map, List.getElem?_eq_getElem hi, List.getD_eq_getElem?_getD, List.getElem?_eq_getElem hi]
    rfl
theorem hi9 : (Tryd.prog.info? 9).map (fun i => (i.zero, i.size, i.bytes)) = some (some (.string ByteArray.empty), 1, 16) := by kernel_rfl
theorem info_parts {t : TypeId} {z : Value} {n b : Nat} (h : (Tryd.prog.info? t).map (fun i => (i.zero, i.size, i.bytes)) = some (some z, n, b)) : ∃ i, Tryd.prog.info? t = some i ∧ i.zero = some z ∧ i.size = n ∧ i.bytes = b := by
  obtain ⟨i, hi, he⟩ := Option.map_eq_some_iff.1 h
  injection he with e1 e2
  injection e2 with e2 e3
  exact ⟨i, hi, e1, e2, e3⟩
theorem own_formS {w : World} {B e size n : Nat} {v : Value} {xs : List Value} (h : w.ownsRow B e size v n xs) : ∃ a c, v = .slice a n c := by
  rcases h.2 with ⟨rfl, rfl⟩ | ⟨g, cap, cur, rfl, _⟩
  · exact ⟨_, _, rfl⟩
  · exact ⟨_, _, rfl⟩
theorem new_text (W : World) (u : Value) (t : TypeId) : ∀ (j : Nat) (x : Value), [u][j]? = some x → (W.alloc (.cells #[u] t)).cell? (Addr.add ⟨W.heap.size, 0, none⟩ j) = some x := by
  intro j x hx
  rw [show (Addr.add ⟨W.heap.size, 0, none⟩ j) = ⟨W.heap.size, j, none⟩ by cases j <;> simp [Addr.add], World.cell?_alloc_at _ _ _ _ rfl]
  simpa using hx
theorem one_text (x : ByteArray) : ∀ u ∈ [Value.string x], u.oneCell' = true := by
  intro u hu
  simp only [List.mem_cons, List.not_mem_nil, or_false] at hu
  subst hu
  rfl
theorem own_first {w : World} {B g n cap : Nat} {ys : List ByteArray} {z : Value} (h : w.ownsRow B 9 1 (.slice (some ⟨g, 0, none⟩) (n + 1) cap) (n + 1) (ys.map Value.string ++ [z])) (hn : ys.length = n) : ReadsT w (.slice (some ⟨g, 0, none⟩) n cap) ys := by
  have hc : n + 1 ≤ cap := by
    rcases h.2 with ⟨e, _⟩ | ⟨g', cap', cur, e, _, _, hc, _⟩
    · cases e
    · injection e with _ _ e3; omega
  refine ⟨_, cap, by rw [hn], by omega, .inr ⟨g, 0, rfl, fun i hi => ?_⟩⟩
  rw [Nat.zero_add, h.cellAt i (by omega), List.getElem?_append_left (by rw [List.length_map]; exact hi), List.getElem?_map, List.getElem?_eq_getElem hi, List.getD_eq_getElem?_getD, List.getElem?_eq_getElem hi]
  rfl
theorem own_behind {w : World} {B g n cap : Nat} {ys : List ByteArray} {z : Value} (h : w.ownsRow B 9 1 (.slice (some ⟨g, 0, none⟩) (n + 1) cap) (n + 1) (ys.map Value.string ++ [z])) (hn : ys.length = n) : w.cell? ⟨g, n, none⟩ = some z := by
  rw [h.cellAt n (by omega), List.getElem?_append_right (by rw [List.length_map]; omega), List.length_map, hn, Nat.sub_self]
  rfl
theorem reads_news {w : World} {ad : Addr} {n cap : Nat} {xs : List ByteArray} (h : ReadsT w (.slice (some ad) n cap) xs) : ∀ (j : Nat) (u : Value), (xs.map Value.string)[j]? = some u → w.cell? (ad.add j) = some u := by
  intro j u hu
  have hj : j < xs.length := by have := (List.getElem?_eq_some_iff.1 hu).1; simpa using this
  obtain ⟨a', cap', e, _, h0 | ⟨b, off, e4, hc⟩⟩ := h
  · omega
  · injection e with e1 e2 e3
    rw [← e1] at e4
    obtain rfl := Option.some.inj e4
    rw [Addr.add_mid, hc j hj, ← hu, List.getElem?_map, List.getElem?_eq_getElem hj, List.getD_eq_getElem?_getD, List.getElem?_eq_getElem hj]
    rfl
end Go.Proofs.YthpfgdhmpeadeaaDoor.ka

namespace Go.Proofs.YthpfgdhmpeadeaaDoor.bn
open Go.RowKit Go.PlainAid
open Go.Proofs.YthpfgdhmpeadeaaDoor.ca Go.Proofs.YthpfgdhmpeadeaaDoor.cp Go.Proofs.YthpfgdhmpeadeaaDoor.ka
set_option linter.unusedVariables false

theorem getD_at (xs : List ByteArray) (k : Nat) (h : k < xs.length) : xs.getD k ByteArray.empty = xs[k] := by
  rw [List.getD_eq_getElem?_getD, List.getElem?_eq_getElem h]; rfl
theorem lists_eq {xs ys : List ByteArray} (hl : xs.length = ys.length) (h : ∀ j, j < xs.length → xs.getD j ByteArray.empty = ys.getD j ByteArray.empty) : xs = ys := by
  apply List.ext_getElem hl
  intro j h1 h2
  have := h j h1
  rwa [getD_at _ _ h1, getD_at _ _ h2] at this
theorem beqL (a b : ByteArray) : (a.toList == b.toList) = decide (a = b) := by
  by_cases h : a = b
  · subst h; simp
  · rw [decide_eq_false h, beq_eq_false_iff_ne, ByteArray.toList_eq, ByteArray.toList_eq]
    intro e
    exact h (ByteArray.ext (Array.ext' e))
theorem beqLit (a : ByteArray) (l : List UInt8) : (a.toList == l) = decide (a = ⟨l.toArray⟩) := by
  rw [← beqL, ByteArray.toList_eq, ByteArray.toList_eq]
-- two lists held against each other: nothing is written
set_option maxHeartbeats 1600000 in
theorem same (va vb : Value) (xs ys : List ByteArray) (w : World) (h1 : ReadsT w va xs) (h2 : ReadsT w vb ys) (hz : xs.length ≤ 140737488355328) :
    Calls Tryd.prog 13 #[va, vb] w fun e w' => e = .returned (.bool (decide (xs = ys))) ∧ ∃ m, w' = w.drewN m := by
  obtain ⟨a, cap, rfl, _, h1⟩ := h1
  obtain ⟨a', cap', rfl, _, h2⟩ := h2
  by_cases hl : xs.length = ys.length
  · have HC : Hid (xs.length = 0 ∨ ∃ b off, a = some ⟨b, off, none⟩ ∧ ∀ i, i < xs.length → w.cell? ⟨b, off + i, none⟩ = some (.string (xs.getD i ByteArray.empty))) := h1
    rw [← hl] at h2 ⊢
    have HC' : Hid (xs.length = 0 ∨ ∃ b off, a' = some ⟨b, off, none⟩ ∧ ∀ i, i < xs.length → w.cell? ⟨b, off + i, none⟩ = some (.string (ys.getD i ByteArray.empty))) := h2
    have HL : Hid (xs.length = ys.length) := hl
    obtain ⟨n, HN⟩ : ∃ n, Hid (xs.length = n) := ⟨_, rfl⟩
    obtain ⟨r, HR⟩ : ∃ r, Hid (decide (xs = ys) = r) := ⟨_, rfl⟩
    rw [HR.out]
    rw [HN.out] at HC HC' hz ⊢
    clear h1 h2 hl
    have hl' : ((n : Int) == (n : Int)) = true := beq_self_eq_true _
    go_enter Tryd.func13, Tryd.ntmps13
    go_wp2
    go_loopw [5] (fun i wr => ∃ k m : Nat, k ≤ n ∧ i = .int .i64 k ∧ Hid (∀ j, j < k → xs.getD j ByteArray.empty = ys.getD j ByteArray.empty) ∧ wr = w.drewN m) (fun i _ => (n - intOf i).toNat)
    case atStart => exact ⟨0, 0, by omega, rfl, fun j h => by omega, rfl⟩
    case round =>
      obtain ⟨k, m, hk, rfl, HS, rfl⟩ := hrel
      by_cases hlt : k < n
      · have hlt' : (k : Int) < n := by omega
        obtain ⟨b, off, rfl, hc⟩ : ∃ b off, a = some ⟨b, off, none⟩ ∧ ∀ i, i < n → w.cell? ⟨b, off + i, none⟩ = some (.string (xs.getD i ByteArray.empty)) := by
          rcases HC.out with h | h
          · omega
          · exact h
        obtain ⟨b', off', rfl, hc'⟩ : ∃ b off, a' = some ⟨b, off, none⟩ ∧ ∀ i, i < n → w.cell? ⟨b, off + i, none⟩ = some (.string (ys.getD i ByteArray.empty)) := by
          rcases HC'.out with h | h
          · omega
          · exact h
        obtain ⟨X, HX⟩ : ∃ X, Hid (xs.getD k ByteArray.empty = X) := ⟨_, rfl⟩
        obtain ⟨Y, HY⟩ : ∃ X, Hid (ys.getD k ByteArray.empty = X) := ⟨_, rfl⟩
        have c1 := hc k hlt
        have c2 := hc' k hlt
        rw [HX.out] at c1
        rw [HY.out] at c2
        clear hc hc'
        by_cases hxy : X = Y
        · have hb : (X.toList == Y.toList) = true := by rw [beqL]; exact decide_eq_true hxy
          have HS1 : Hid (∀ j, j < k + 1 → xs.getD j ByteArray.empty = ys.getD j ByteArray.empty) := fun j hj => by
            rcases Nat.lt_or_ge j k with h | h
            · exact HS.out j h
            · obtain rfl : j = k := by omega
              rw [HX.out, HY.out, hxy]
          clear hxy
          go_wp2_with fail
          go_quiet (fail)
          go_wp2
          go_roundw
          case rel => exact ⟨k + 1, _, by omega, by go_num, HS1.out, rfl⟩
          case measure => simp [intOf]; omega
        · have hb : (X.toList == Y.toList) = false := by rw [beqL]; exact decide_eq_false hxy
          have HE : Hid (r = false) := by
            show _ = _
            rw [← HR.out]
            apply decide_eq_false
            intro e
            apply hxy
            rw [← HX.out, ← HY.out, e]
          clear hxy
          go_wp2_with fail
          go_quiet (fail)
          go_wp2
          go_ret
          exact ⟨by rw [HE.out]; rfl, m + nq, by rw [World.drewN_drewN]⟩
      · have hlt' : ¬ (k : Int) < n := by omega
        have HE : Hid (r = true) := by
          show _ = _
          rw [← HR.out]
          apply decide_eq_true
          exact lists_eq HL.out (fun j hj => HS.out j (by rw [HN.out] at hj; omega))
        go_wp2
        go_ret
        exact ⟨by rw [HE.out]; rfl, _, rfl⟩
  · rw [decide_eq_false (fun e => hl (by rw [e]))]
    have hb : ((xs.length : Int) == (ys.length : Int)) = false := by rw [beq_eq_false_iff_ne]; omega
    clear hl h1 h2
    go_enter Tryd.func13, Tryd.ntmps13
    go_wp2
    go_ret
    exact ⟨rfl, 0, rfl⟩
-- a list held against itself
theorem same_yes (va vb : Value) (xs : List ByteArray) (w : World) (h1 : ReadsT w va xs) (h2 : ReadsT w vb xs) (hz : xs.length ≤ 140737488355328) :
    Calls Tryd.prog 13 #[va, vb] w fun e w' => e = .returned (.bool true) ∧ ∃ m, w' = w.drewN m := by
  have := same va vb xs xs w h1 h2 hz
  rwa [decide_eq_true rfl] at this
theorem num (x : Int) (w : World) : Calls Tryd.prog 9 #[.int .i64 x] w fun e w' => e = .returned (.int .i64 x) ∧ w' = w := by
  go_enter Tryd.func9, Tryd.ntmps9
  go_wp2
  go_ret
  exact ⟨rfl, rfl⟩
end Go.Proofs.YthpfgdhmpeadeaaDoor.bn

namespace Go.Proofs.YthpfgdhmpeadeaaDoor.mi
open Go.RowKit Go.PlainAid
open Go.Proofs.YthpfgdhmpeadeaaDoor.ca Go.Proofs.YthpfgdhmpeadeaaDoor.cp
set_option linter.unusedVariables false

-- a list of numbers in memory
def ReadsI (w : World) (v : Value) (xs : List Int) : Prop :=
  ∃ a cap, v = .slice a xs.length cap ∧ xs.length ≤ cap ∧ (xs.length = 0 ∨ ∃ b off, a = some ⟨b, off, none⟩ ∧ ∀ i, i < xs.length → w.cell? ⟨b, off + i, none⟩ = some (.int .i64 (xs.getD i 0)))
theorem ReadsI.keep {w w' : World} {v : Value} {xs : List Int} (h : ReadsI w v xs) (hb : ∀ p u, w.cell? p = some u → w'.cell? p = some u) : ReadsI w' v xs := by
  obtain ⟨a, cap, rfl, hc, h0 | ⟨b, off, rfl, hh⟩⟩ := h
  · exact ⟨a, cap, rfl, hc, .inl h0⟩
  · exact ⟨_, cap, rfl, hc, .inr ⟨b, off, rfl, fun i hi => hb _ _ (hh i hi)⟩⟩
theorem ReadsI.later {w w' : World} {v : Value} {xs : List Int} (h : ReadsI w v xs) (hb : Below w.heap.size w w') : ReadsI w' v xs :=
  h.keep fun p u hu => (hb.cell (World.block_lt_of_cell? _ _ hu)).trans hu
-- what is said of the places
def bad (xs : List Int) (n : Int) (k : Nat) : Int :=
  if xs.getD k 0 < 0 then 81 else if n ≤ xs.getD k 0 then 81 else if 0 < k ∧ xs.getD k 0 ≤ xs.getD (k - 1) 0 then 84 else 0
def scan (f : Nat → Int) : Nat → Nat → Int
  | 0, _ => 0
  | m + 1, k => if f k = 0 then scan f m (k + 1) else f k
def places (xs : List Int) (n : Int) : Int := if xs.length = 0 then 82 else if 1024 < xs.length then 83 else scan (bad xs n) xs.length 0
theorem scan_ok (f : Nat → Int) (m : Nat) : ∀ k, scan f m k = 0 → ∀ j, k ≤ j → j < k + m → f j = 0 := by
  induction m with
  | zero => intro k h j h1 h2; omega
  | succ m ih =>
    intro k h j h1 h2
    unfold scan at h
    split at h
    · rename_i h0
      rcases Nat.eq_or_lt_of_le h1 with e | e
      · rw [← e]; exact h0
      · exact ih (k + 1) h j (by omega) (by omega)
    · contradiction
theorem places_ok {xs : List Int} {n : Int} (h : places xs n = 0) : 1 ≤ xs.length ∧ xs.length ≤ 1024 ∧ (∀ j, j < xs.length → 0 ≤ xs.getD j 0 ∧ xs.getD j 0 < n) ∧ (∀ j, j + 1 < xs.length → xs.getD j 0 < xs.getD (j + 1) 0) := by
  unfold places at h
  split at h
  · omega
  · split at h
    · omega
    · have hs := scan_ok (bad xs n) xs.length 0 h
      refine ⟨by omega, by omega, fun j hj => ?_, fun j hj => ?_⟩
      · have := hs j (Nat.zero_le _) (by omega)
        unfold bad at this
        split at this
        · omega
        · split at this
          · omega
          · omega
      · have := hs (j + 1) (Nat.zero_le _) (by omega)
        unfold bad at this
        split at this
        · omega
        · split at this
          · omega
          · split at this
            · omega
            · rename_i g
              rw [Nat.add_sub_cancel] at g
              omega
theorem rise_lt {xs : List Int} (h : ∀ j, j + 1 < xs.length → xs.getD j 0 < xs.getD (j + 1) 0) (i d : Nat) (hd : i + d + 1 < xs.length) : xs.getD i 0 < xs.getD (i + d + 1) 0 := by
  induction d with
  | zero => exact h i hd
  | succ d ih =>
    have h1 := ih (by omega)
    have h2 := h (i + d + 1) hd
    exact Int.lt_trans h1 h2
end Go.Proofs.YthpfgdhmpeadeaaDoor.mi

namespace Go.Proofs.YthpfgdhmpeadeaaDoor.aa
open Go.Proofs.YthpfgdhmpeadeaaDoor.ca Go.Proofs.YthpfgdhmpeadeaaDoor.cb Go.Proofs.YthpfgdhmpeadeaaDoor.ga
set_option linter.unusedVariables false

-- a walk down the parts: 0 nothing, 1 its hash, 2 left half first, else right half first
def WL (lk : Nat → Nat → Nat) (a b : Nat) : List (Nat × Nat) :=
  if lk a b = 0 then [] else if lk a b = 1 then [(a, b)] else
  if h : 2 ≤ b - a then
    if lk a b = 2 then WL lk a (a + half (b - a)) ++ WL lk (a + half (b - a)) b
    else WL lk (a + half (b - a)) b ++ WL lk a (a + half (b - a))
  else []
termination_by b - a
decreasing_by all_goals (have := half_lt h; omega)
theorem WL_pass {lk : Nat → Nat → Nat} {a b : Nat} (h : lk a b = 0) : WL lk a b = [] := by rw [WL, if_pos h]
theorem WL_take {lk : Nat → Nat → Nat} {a b : Nat} (h : lk a b = 1) : WL lk a b = [(a, b)] := by rw [WL, if_neg (by omega), if_pos h]
theorem WL_left {lk : Nat → Nat → Nat} {a b : Nat} (h : lk a b = 2) (h2 : 2 ≤ b - a) : WL lk a b = WL lk a (a + half (b - a)) ++ WL lk (a + half (b - a)) b := by rw [WL, if_neg (by omega), if_neg (by omega), dif_pos h2, if_pos h]
theorem WL_right {lk : Nat → Nat → Nat} {a b : Nat} (h : 3 ≤ lk a b) (h2 : 2 ≤ b - a) : WL lk a b = WL lk (a + half (b - a)) b ++ WL lk a (a + half (b - a)) := by rw [WL, if_neg (by omega), if_neg (by omega), dif_pos h2, if_neg (by omega)]
-- inclusion
def lkI (i a b : Nat) : Nat := if a ≤ i ∧ i < b then (if b - a = 1 then 0 else if i < a + half (b - a) then 2 else 3) else 1
def dnI (i a b : Nat) : List (Nat × Nat) :=
  if h : 2 ≤ b - a then
    if i < a + half (b - a) then (a + half (b - a), b) :: dnI i a (a + half (b - a))
    else (a, a + half (b - a)) :: dnI i (a + half (b - a)) b
  else []
termination_by b - a
decreasing_by all_goals (have := half_lt h; omega)
theorem dnI_one {i a b : Nat} (h : ¬ 2 ≤ b - a) : dnI i a b = [] := by rw [dnI, dif_neg h]
theorem dnI_low {i a b : Nat} (h : 2 ≤ b - a) (hi : i < a + half (b - a)) : dnI i a b = (a + half (b - a), b) :: dnI i a (a + half (b - a)) := by rw [dnI, dif_pos h, if_pos hi]
theorem dnI_high {i a b : Nat} (h : 2 ≤ b - a) (hi : ¬ i < a + half (b - a)) : dnI i a b = (a, a + half (b - a)) :: dnI i (a + half (b - a)) b := by rw [dnI, dif_pos h, if_neg hi]
theorem incl_is (i : Nat) (n : Nat) : ∀ a b, b - a = n → a ≤ i → i < b → WL (lkI i) a b = (dnI i a b).reverse := by
  induction n using Nat.strongRecOn with
  | ind n ih =>
    intro a b hn h1 h2
    by_cases h : 2 ≤ b - a
    · have hh := half_lt h
      by_cases hi : i < a + half (b - a)
      · rw [WL_left (by unfold lkI; rw [if_pos ⟨h1, h2⟩, if_neg (by omega), if_pos hi]) h, dnI_low h hi, List.reverse_cons, ih (half (b - a)) (by omega) a (a + half (b - a)) (by omega) h1 hi, WL_take (lk := lkI i) (a := a + half (b - a)) (by unfold lkI; rw [if_neg (by omega)])]
      · rw [WL_right (by unfold lkI; rw [if_pos ⟨h1, h2⟩, if_neg (by omega), if_neg hi]; omega) h, dnI_high h hi, List.reverse_cons, ih (b - a - half (b - a)) (by omega) (a + half (b - a)) b (by omega) (by omega) h2, WL_take (lk := lkI i) (a := a) (by unfold lkI; rw [if_neg (by omega)])]
    · rw [WL_pass (by unfold lkI; rw [if_pos ⟨h1, h2⟩, if_pos (by omega)]), dnI_one h]
      rfl
-- consistency
def lkC (m a b : Nat) : Nat := if a = 0 ∧ b = m then 0 else if b ≤ m ∨ m ≤ a then 1 else if a ≤ m - 1 ∧ m - 1 < a + half (b - a) then 2 else 3
def subL (m a b : Nat) (whole : Bool) : List (Nat × Nat) :=
  if m = b then (if whole then [] else [(a, b)]) else
  if h : 2 ≤ b - a then
    if m ≤ a + half (b - a) then subL m a (a + half (b - a)) whole ++ [(a + half (b - a), b)]
    else subL m (a + half (b - a)) b false ++ [(a, a + half (b - a))]
  else []
termination_by b - a
decreasing_by all_goals (have := half_lt h; omega)
theorem subL_all {m a b : Nat} {wh : Bool} (h : m = b) : subL m a b wh = if wh then [] else [(a, b)] := by rw [subL, if_pos h]
theorem subL_low {m a b : Nat} {wh : Bool} (h : m ≠ b) (h2 : 2 ≤ b - a) (hm : m ≤ a + half (b - a)) : subL m a b wh = subL m a (a + half (b - a)) wh ++ [(a + half (b - a), b)] := by rw [subL, if_neg h, dif_pos h2, if_pos hm]
theorem subL_high {m a b : Nat} {wh : Bool} (h : m ≠ b) (h2 : 2 ≤ b - a) (hm : ¬ m ≤ a + half (b - a)) : subL m a b wh = subL m (a + half (b - a)) b false ++ [(a, a + half (b - a))] := by rw [subL, if_neg h, dif_pos h2, if_neg hm]
theorem cons_is (m : Nat) (n : Nat) : ∀ a b, b - a = n → a < m → m ≤ b → WL (lkC m) a b = subL m a b (a == 0) := by
  induction n using Nat.strongRecOn with
  | ind n ih =>
    intro a b hn h1 h2
    by_cases hb : m = b
    · rw [subL_all hb]
      by_cases ha : a = 0
      · rw [WL_pass (by unfold lkC; rw [if_pos ⟨ha, hb.symm⟩]), ha]
        rfl
      · rw [WL_take (by unfold lkC; rw [if_neg (by omega), if_pos (by omega)]), if_neg (by simpa using ha)]
    · have h : 2 ≤ b - a := by omega
      have hh := half_lt h
      by_cases hm : m ≤ a + half (b - a)
      · rw [WL_left (by unfold lkC; rw [if_neg (by omega), if_neg (by omega), if_pos (by omega)]) h, subL_low hb h hm, ih (half (b - a)) (by omega) a (a + half (b - a)) (by omega) h1 hm, WL_take (lk := lkC m) (a := a + half (b - a)) (by unfold lkC; rw [if_neg (by omega), if_pos (by omega)])]
      · rw [WL_right (by unfold lkC; rw [if_neg (by omega), if_neg (by omega), if_neg (by omega)]; omega) h, subL_high hb h hm, ih (b - a - half (b - a)) (by omega) (a + half (b - a)) b (by omega) (by omega) h2, WL_take (lk := lkC m) (a := a) (by unfold lkC; rw [if_neg (by omega), if_pos (by omega)]), show (a + half (b - a) == 0) = false by rw [beq_eq_false_iff_ne]; omega]
-- a range
def lkR (lo hi a b : Nat) : Nat := if b ≤ lo ∨ hi ≤ a then 1 else if lo ≤ a ∧ b ≤ hi then 0 else 2
def outL (lo hi a b : Nat) : List (Nat × Nat) := WL (lkR lo hi) a b
-- places
def lkM (ps : List Nat) (a b : Nat) : Nat := if ∃ p ∈ ps, a ≤ p ∧ p < b then (if b - a = 1 then 0 else 2) else 1
def inM (ps : List Nat) (a b : Nat) : List Nat := ps.filter fun p => decide (a ≤ p) && decide (p < b)
def amL (ps : List Nat) (a b : Nat) : List (Nat × Nat) :=
  if inM ps a b = [] then [(a, b)] else
  if h : 2 ≤ b - a then amL (inM ps a b) a (a + half (b - a)) ++ amL (inM ps a b) (a + half (b - a)) b else []
termination_by b - a
decreasing_by all_goals (have := half_lt h; omega)
theorem inM_nil (ps : List Nat) (a b : Nat) : inM ps a b = [] ↔ ¬ ∃ p ∈ ps, a ≤ p ∧ p < b := by
  unfold inM
  rw [List.filter_eq_nil_iff]
  constructor
  · rintro h ⟨p, h1, h2, h3⟩
    exact h p h1 (by simp [h2, h3])
  · rintro h p h1 h2
    simp only [Bool.and_eq_true, decide_eq_true_eq] at h2
    exact h ⟨p, h1, h2.1, h2.2⟩
theorem multi_is (n : Nat) : ∀ ps qs a b, b - a = n → (∀ p, a ≤ p → p < b → (p ∈ ps ↔ p ∈ qs)) → WL (lkM ps) a b = amL qs a b := by
  induction n using Nat.strongRecOn with
  | ind n ih =>
    intro ps qs a b hn hp
    have hex : (∃ p ∈ ps, a ≤ p ∧ p < b) ↔ (∃ p ∈ qs, a ≤ p ∧ p < b) :=
      ⟨fun ⟨p, h1, h2, h3⟩ => ⟨p, (hp p h2 h3).1 h1, h2, h3⟩, fun ⟨p, h1, h2, h3⟩ => ⟨p, (hp p h2 h3).2 h1, h2, h3⟩⟩
    by_cases he : ∃ p ∈ ps, a ≤ p ∧ p < b
    · have hq : inM qs a b ≠ [] := fun h => (inM_nil qs a b).1 h (hex.1 he)
      by_cases h : 2 ≤ b - a
      · have hh := half_lt h
        have hf : ∀ p, a ≤ p → p < b → (p ∈ ps ↔ p ∈ inM qs a b) := by
          intro p h1 h2
          rw [hp p h1 h2]
          unfold inM
          rw [List.mem_filter]
          simp [h1, h2]
        rw [WL_left (by unfold lkM; rw [if_pos he, if_neg (by omega)]) h, amL, if_neg hq, dif_pos h, ih (half (b - a)) (by omega) ps (inM qs a b) a (a + half (b - a)) (by omega) (fun p h1 h2 => hf p h1 (by omega)), ih (b - a - half (b - a)) (by omega) ps (inM qs a b) (a + half (b - a)) b (by omega) (fun p h1 h2 => hf p (by omega) h2)]
      · obtain ⟨p, _, h1, h2⟩ := he
        rw [WL_pass (by unfold lkM; rw [if_pos ⟨p, by assumption, h1, h2⟩, if_pos (by omega)]), amL, if_neg hq, dif_neg h]
    · have hq : inM qs a b = [] := (inM_nil qs a b).2 (fun h => he (hex.2 h))
      rw [WL_take (by unfold lkM; rw [if_neg he]), amL, if_pos hq]
end Go.Proofs.YthpfgdhmpeadeaaDoor.aa

namespace Go.Proofs.YthpfgdhmpeadeaaDoor.ab
open Go.Proofs.YthpfgdhmpeadeaaDoor.ca Go.Proofs.YthpfgdhmpeadeaaDoor.cb Go.Proofs.YthpfgdhmpeadeaaDoor.ga Go.Proofs.YthpfgdhmpeadeaaDoor.aa
set_option linter.unusedVariables false

-- asking: ok: has it the width? fo: the fold; ask: the answer of the ask of this number
section
variable (ok : ByteArray → Bool) (fo : List ByteArray → ByteArray) (ask : Nat → Nat × Nat → ByteArray × Int)
def tell (l : List (Nat × Nat)) : List (Nat × Nat) → List ByteArray × Int × List (Nat × Nat)
  | [] => ([], 0, l)
  | a :: r =>
    if (ask (l.length + 1) a).2 = 0 then
      if ok (ask (l.length + 1) a).1 = true then ((ask (l.length + 1) a).1 :: (tell (l ++ [a]) r).1, (tell (l ++ [a]) r).2)
      else ([], 72, l ++ [a])
    else ([], (ask (l.length + 1) a).2, l ++ [a])
theorem tell_no {l : List (Nat × Nat)} {a : Nat × Nat} {r : List (Nat × Nat)} (h : (ask (l.length + 1) a).2 ≠ 0) : tell ok ask l (a :: r) = ([], (ask (l.length + 1) a).2, l ++ [a]) := by unfold tell; rw [if_neg h]
theorem tell_len {l : List (Nat × Nat)} {a : Nat × Nat} {r : List (Nat × Nat)} (h : (ask (l.length + 1) a).2 = 0) (h2 : ok (ask (l.length + 1) a).1 = false) : tell ok ask l (a :: r) = ([], 72, l ++ [a]) := by unfold tell; rw [if_pos h, if_neg (by rw [h2]; decide)]
theorem tell_yes {l : List (Nat × Nat)} {a : Nat × Nat} {r : List (Nat × Nat)} (h : (ask (l.length + 1) a).2 = 0) (h2 : ok (ask (l.length + 1) a).1 = true) : tell ok ask l (a :: r) = ((ask (l.length + 1) a).1 :: (tell ok ask (l ++ [a]) r).1, (tell ok ask (l ++ [a]) r).2) := by rw [tell, if_pos h, if_pos h2]
theorem tell_size (cs : List (Nat × Nat)) : ∀ l, (tell ok ask l cs).2.2.length ≤ l.length + cs.length ∧ (tell ok ask l cs).1.length ≤ cs.length ∧ ∀ x ∈ (tell ok ask l cs).1, ok x = true := by
  induction cs with
  | nil => intro l; exact ⟨Nat.le_refl _, Nat.le_refl _, fun x hx => by cases hx⟩
  | cons a r ih =>
    intro l
    by_cases h : (ask (l.length + 1) a).2 = 0
    · by_cases h2 : ok (ask (l.length + 1) a).1 = true
      · rw [tell_yes ok ask h h2]
        have := ih (l ++ [a])
        rw [List.length_append] at this
        simp only [List.length_cons, List.length_nil] at this ⊢
        refine ⟨by omega, by omega, ?_⟩
        intro x hx
        rcases List.mem_cons.1 hx with rfl | hx
        · exact h2
        · exact this.2.2 x hx
      · rw [tell_len ok ask h (by simpa using h2)]
        refine ⟨by simp, by simp, fun x hx => by cases hx⟩
    · rw [tell_no ok ask h]
      refine ⟨by simp, by simp, fun x hx => by cases hx⟩
-- the hash of a part
def hashP (l : List (Nat × Nat)) (p : Nat × Nat) : ByteArray × Int × List (Nat × Nat) :=
  (if (tell ok ask l (cov p.1 p.2)).2.1 = 0 then fo (tell ok ask l (cov p.1 p.2)).1 else ByteArray.empty, (tell ok ask l (cov p.1 p.2)).2)
theorem hashP_size {l : List (Nat × Nat)} {p : Nat × Nat} (h1 : p.1 ≤ p.2) (h2 : p.2 ≤ 4611686018427387904) : (hashP ok fo ask l p).2.2.length ≤ l.length + 122 := by
  have := (tell_size ok ask (cov p.1 p.2) l).1
  have := cov_len p.1 p.2 h1 (by have : (2 : Nat) ^ 62 = 4611686018427387904 := by decide
                                 omega)
  show (tell ok ask l (cov p.1 p.2)).2.2.length ≤ _
  omega
-- the hashes of parts
def told (l : List (Nat × Nat)) : List (Nat × Nat) → List ByteArray × Int × List (Nat × Nat)
  | [] => ([], 0, l)
  | p :: r =>
    if (hashP ok fo ask l p).2.1 = 0 then ((hashP ok fo ask l p).1 :: (told (hashP ok fo ask l p).2.2 r).1, (told (hashP ok fo ask l p).2.2 r).2)
    else ([], (hashP ok fo ask l p).2)
theorem told_no {l : List (Nat × Nat)} {p : Nat × Nat} {r : List (Nat × Nat)} (h : (hashP ok fo ask l p).2.1 ≠ 0) : told ok fo ask l (p :: r) = ([], (hashP ok fo ask l p).2) := by unfold told; rw [if_neg h]
theorem told_yes {l : List (Nat × Nat)} {p : Nat × Nat} {r : List (Nat × Nat)} (h : (hashP ok fo ask l p).2.1 = 0) : told ok fo ask l (p :: r) = ((hashP ok fo ask l p).1 :: (told ok fo ask (hashP ok fo ask l p).2.2 r).1, (told ok fo ask (hashP ok fo ask l p).2.2 r).2) := by rw [told, if_pos h]
theorem told_app_no (ps qs : List (Nat × Nat)) : ∀ l, (told ok fo ask l ps).2.1 ≠ 0 → told ok fo ask l (ps ++ qs) = told ok fo ask l ps := by
  induction ps with
  | nil => intro l h; exact absurd rfl h
  | cons p r ih =>
    intro l h
    by_cases hp : (hashP ok fo ask l p).2.1 = 0
    · rw [told_yes ok fo ask hp] at h
      rw [List.cons_append, told_yes ok fo ask hp, told_yes ok fo ask hp, ih _ h]
    · rw [List.cons_append, told_no ok fo ask hp, told_no ok fo ask hp]
theorem told_app_yes (ps qs : List (Nat × Nat)) : ∀ l, (told ok fo ask l ps).2.1 = 0 → told ok fo ask l (ps ++ qs) = ((told ok fo ask l ps).1 ++ (told ok fo ask (told ok fo ask l ps).2.2 qs).1, (told ok fo ask (told ok fo ask l ps).2.2 qs).2) := by
  induction ps with
  | nil => intro l h; rfl
  | cons p r ih =>
    intro l h
    by_cases hp : (hashP ok fo ask l p).2.1 = 0
    · rw [told_yes ok fo ask hp] at h
      rw [List.cons_append, told_yes ok fo ask hp, told_yes ok fo ask hp, ih _ h]
      rfl
    · rw [told_no ok fo ask hp] at h
      exact absurd h hp
theorem told_size (ps : List (Nat × Nat)) : ∀ l, (∀ p ∈ ps, p.1 ≤ p.2 ∧ p.2 ≤ 4611686018427387904) → (told ok fo ask l ps).2.2.length ≤ l.length + 122 * ps.length ∧ (told ok fo ask l ps).1.length ≤ ps.length := by
  induction ps with
  | nil => intro l _; exact ⟨Nat.le_refl _, Nat.le_refl _⟩
  | cons p r ih =>
    intro l h
    have hp := h p (List.mem_cons_self ..)
    have hs := hashP_size ok fo ask (l := l) hp.1 hp.2
    by_cases he : (hashP ok fo ask l p).2.1 = 0
    · rw [told_yes ok fo ask he]
      have := ih (hashP ok fo ask l p).2.2 (fun q hq => h q (List.mem_cons_of_mem _ hq))
      simp only [List.length_cons]
      omega
    · rw [told_no ok fo ask he]
      simp only [List.length_cons, List.length_nil]
      omega
end
-- parts lie within, and how many there are
theorem WL_in (lk : Nat → Nat → Nat) (n : Nat) : ∀ a b, b - a = n → a ≤ b → ∀ p ∈ WL lk a b, a ≤ p.1 ∧ p.1 ≤ p.2 ∧ p.2 ≤ b := by
  induction n using Nat.strongRecOn with
  | ind n ih =>
    intro a b hn hab p hp
    by_cases h0 : lk a b = 0
    · rw [WL_pass h0] at hp; cases hp
    · by_cases h1 : lk a b = 1
      · rw [WL_take h1] at hp
        rcases List.mem_cons.1 hp with rfl | hp
        · exact ⟨Nat.le_refl _, hab, Nat.le_refl _⟩
        · cases hp
      · by_cases h : 2 ≤ b - a
        · have hh := half_lt h
          have key : p ∈ WL lk a (a + half (b - a)) ∨ p ∈ WL lk (a + half (b - a)) b := by
            by_cases h2 : lk a b = 2
            · rw [WL_left h2 h] at hp
              exact List.mem_append.1 hp
            · rw [WL_right (by omega) h] at hp
              exact (List.mem_append.1 hp).symm
          rcases key with g | g
          · have := ih (half (b - a)) (by omega) a (a + half (b - a)) (by omega) (by omega) p g
            omega
          · have := ih (b - a - half (b - a)) (by omega) (a + half (b - a)) b (by omega) (by omega) p g
            omega
        · rw [WL, if_neg h0, if_neg h1, dif_neg h] at hp
          cases hp
theorem half_d {n d : Nat} (h : 2 ≤ n) (hd : n ≤ 2 ^ d) : ∃ c, d = c + 1 ∧ half n ≤ 2 ^ c ∧ n - half n ≤ 2 ^ c := by
  obtain ⟨i, e, g1, g2⟩ := half_is h
  have hid : i < d := p2lt (by omega)
  obtain ⟨c, rfl⟩ : ∃ c, d = c + 1 := ⟨d - 1, by omega⟩
  have := p2le (show i ≤ c by omega)
  rw [p2s] at g2
  exact ⟨c, rfl, by omega, by omega⟩
theorem incl_len (i : Nat) (d : Nat) : ∀ a b, b - a ≤ 2 ^ d → a ≤ i → i < b → (WL (lkI i) a b).length ≤ d := by
  induction d with
  | zero =>
    intro a b hd h1 h2
    rw [WL_pass (by unfold lkI; rw [if_pos ⟨h1, h2⟩, if_pos (by have : (2 : Nat) ^ 0 = 1 := rfl; omega)])]
    exact Nat.le_refl _
  | succ d ih =>
    intro a b hd h1 h2
    by_cases h : 2 ≤ b - a
    · have hh := half_lt h
      obtain ⟨c, e, g1, g2⟩ := half_d h hd
      obtain rfl : c = d := by omega
      by_cases hi : i < a + half (b - a)
      · rw [WL_left (by unfold lkI; rw [if_pos ⟨h1, h2⟩, if_neg (by omega), if_pos hi]) h, WL_take (lk := lkI i) (a := a + half (b - a)) (by unfold lkI; rw [if_neg (by omega)]), List.length_append]
        have := ih a (a + half (b - a)) (by omega) h1 hi
        simp
        omega
      · rw [WL_right (by unfold lkI; rw [if_pos ⟨h1, h2⟩, if_neg (by omega), if_neg hi]; omega) h, WL_take (lk := lkI i) (a := a) (by unfold lkI; rw [if_neg (by omega)]), List.length_append]
        have := ih (a + half (b - a)) b (by omega) (by omega) h2
        simp
        omega
    · rw [WL_pass (by unfold lkI; rw [if_pos ⟨h1, h2⟩, if_pos (by omega)])]
      exact Nat.zero_le _
theorem cons_len (m : Nat) (d : Nat) : ∀ a b, b - a ≤ 2 ^ d → a < m → m ≤ b → (WL (lkC m) a b).length ≤ d + 1 := by
  induction d with
  | zero =>
    intro a b hd h1 h2
    have : (2 : Nat) ^ 0 = 1 := rfl
    by_cases ha : a = 0
    · rw [WL_pass (by unfold lkC; rw [if_pos ⟨ha, by omega⟩])]
      exact Nat.zero_le _
    · rw [WL_take (by unfold lkC; rw [if_neg (by omega), if_pos (by omega)])]
      exact Nat.le_refl _
  | succ d ih =>
    intro a b hd h1 h2
    by_cases hb : m = b
    · by_cases ha : a = 0
      · rw [WL_pass (by unfold lkC; rw [if_pos ⟨ha, by omega⟩])]
        exact Nat.zero_le _
      · rw [WL_take (by unfold lkC; rw [if_neg (by omega), if_pos (by omega)])]
        simp
    · have h : 2 ≤ b - a := by omega
      have hh := half_lt h
      obtain ⟨c, e, g1, g2⟩ := half_d h hd
      obtain rfl : c = d := by omega
      by_cases hm : m ≤ a + half (b - a)
      · rw [WL_left (by unfold lkC; rw [if_neg (by omega), if_neg (by omega), if_pos (by omega)]) h, WL_take (lk := lkC m) (a := a + half (b - a)) (by unfold lkC; rw [if_neg (by omega), if_pos (by omega)]), List.length_append]
        have := ih a (a + half (b - a)) (by omega) h1 hm
        simp
        omega
      · rw [WL_right (by unfold lkC; rw [if_neg (by omega), if_neg (by omega), if_neg (by omega)]; omega) h, WL_take (lk := lkC m) (a := a) (by unfold lkC; rw [if_neg (by omega), if_pos (by omega)]), List.length_append]
        have := ih (a + half (b - a)) b (by omega) (by omega) h2
        simp
        omega
-- one end of the range within
theorem out_len1 (lo hi : Nat) (d : Nat) : ∀ a b, b - a ≤ 2 ^ d → (lo ≤ a ∨ b ≤ hi) → lo < hi → a < b → ¬ (b ≤ lo ∨ hi ≤ a) → (WL (lkR lo hi) a b).length ≤ d := by
  induction d with
  | zero =>
    intro a b hd h1 h2 h3 h4
    have : (2 : Nat) ^ 0 = 1 := rfl
    rw [WL_pass (by unfold lkR; rw [if_neg h4, if_pos (by omega)])]
    exact Nat.le_refl _
  | succ d ih =>
    intro a b hd h1 h2 h3 h4
    by_cases hw : lo ≤ a ∧ b ≤ hi
    · rw [WL_pass (by unfold lkR; rw [if_neg h4, if_pos hw])]
      exact Nat.zero_le _
    · have h : 2 ≤ b - a := by omega
      have hh := half_lt h
      obtain ⟨c, e, g1, g2⟩ := half_d h hd
      obtain rfl : c = d := by omega
      rw [WL_left (by unfold lkR; rw [if_neg h4, if_neg hw]) h, List.length_append]
      obtain ⟨k, hk⟩ : ∃ k, a + half (b - a) = k := ⟨_, rfl⟩
      rw [hk]
      rcases h1 with h1 | h1
      · by_cases hm : hi ≤ k
        · rw [WL_take (lk := lkR lo hi) (a := k) (by unfold lkR; rw [if_pos (by omega)])]
          have := ih a k (by omega) (by omega) h2 (by omega) (by omega)
          simp
          omega
        · rw [WL_pass (lk := lkR lo hi) (a := a) (b := k) (by unfold lkR; rw [if_neg (by omega), if_pos (by omega)])]
          have := ih k b (by omega) (by omega) h2 (by omega) (by omega)
          simp
          omega
      · by_cases hm : k ≤ lo
        · rw [WL_take (lk := lkR lo hi) (a := a) (b := k) (by unfold lkR; rw [if_pos (by omega)])]
          have := ih k b (by omega) (by omega) h2 (by omega) (by omega)
          simp
          omega
        · rw [WL_pass (lk := lkR lo hi) (a := k) (b := b) (by unfold lkR; rw [if_neg (by omega), if_pos (by omega)])]
          have := ih a k (by omega) (by omega) h2 (by omega) (by omega)
          simp
          omega
theorem out_len (lo hi : Nat) (d : Nat) : ∀ a b, b - a ≤ 2 ^ d → lo < hi → a < b → ¬ (b ≤ lo ∨ hi ≤ a) → (WL (lkR lo hi) a b).length ≤ 2 * d := by
  induction d with
  | zero =>
    intro a b hd h2 h3 h4
    have : (2 : Nat) ^ 0 = 1 := rfl
    rw [WL_pass (by unfold lkR; rw [if_neg h4, if_pos (by omega)])]
    exact Nat.le_refl _
  | succ d ih =>
    intro a b hd h2 h3 h4
    by_cases hw : lo ≤ a ∧ b ≤ hi
    · rw [WL_pass (by unfold lkR; rw [if_neg h4, if_pos hw])]
      exact Nat.zero_le _
    · have h : 2 ≤ b - a := by omega
      have hh := half_lt h
      obtain ⟨c, e, g1, g2⟩ := half_d h hd
      obtain rfl : c = d := by omega
      rw [WL_left (by unfold lkR; rw [if_neg h4, if_neg hw]) h, List.length_append]
      obtain ⟨k, hk⟩ : ∃ k, a + half (b - a) = k := ⟨_, rfl⟩
      rw [hk]
      by_cases hm : hi ≤ k
      · rw [WL_take (lk := lkR lo hi) (a := k) (by unfold lkR; rw [if_pos (by omega)])]
        have := ih a k (by omega) h2 (by omega) (by omega)
        simp
        omega
      · by_cases hm2 : k ≤ lo
        · rw [WL_take (lk := lkR lo hi) (a := a) (b := k) (by unfold lkR; rw [if_pos (by omega)])]
          have := ih k b (by omega) h2 (by omega) (by omega)
          simp
          omega
        · have := out_len1 lo hi c a k (by omega) (by omega) h2 (by omega) (by omega)
          have := out_len1 lo hi c k b (by omega) (by omega) h2 (by omega) (by omega)
          omega
theorem inM_cut (ps : List Nat) (a k b : Nat) (h1 : a ≤ k) (h2 : k ≤ b) : (inM ps a k).length + (inM ps k b).length = (inM ps a b).length := by
  induction ps with
  | nil => rfl
  | cons p ps ih =>
    unfold inM at *
    simp only [List.filter_cons]
    by_cases g1 : a ≤ p <;> by_cases g2 : p < k <;> by_cases g3 : p < b <;> by_cases g4 : k ≤ p <;> simp [g1, g2, g3, g4] <;> omega
theorem multi_len (ps : List Nat) (d : Nat) : ∀ a b, b - a ≤ 2 ^ d → a < b → inM ps a b ≠ [] → (WL (lkM ps) a b).length ≤ (inM ps a b).length * d := by
  have ex : ∀ a b, inM ps a b ≠ [] → ∃ p ∈ ps, a ≤ p ∧ p < b := by
    intro a b h
    refine Classical.byContradiction fun hn => h ((inM_nil ps a b).2 hn)
  induction d with
  | zero =>
    intro a b hd h1 h2
    have : (2 : Nat) ^ 0 = 1 := rfl
    rw [WL_pass (by unfold lkM; rw [if_pos (ex a b h2), if_pos (by omega)])]
    exact Nat.zero_le _
  | succ d ih =>
    intro a b hd h1 h2
    by_cases h : 2 ≤ b - a
    · have hh := half_lt h
      obtain ⟨c, e, g1, g2⟩ := half_d h hd
      obtain rfl : c = d := by omega
      rw [WL_left (by unfold lkM; rw [if_pos (ex a b h2), if_neg (by omega)]) h, List.length_append]
      obtain ⟨k, hk⟩ : ∃ k, a + half (b - a) = k := ⟨_, rfl⟩
      rw [hk]
      have hc := inM_cut ps a k b (by omega) (by omega)
      have hq : 1 ≤ (inM ps a b).length := by
        rcases Nat.eq_zero_or_pos (inM ps a b).length with z | z
        · exact absurd (List.length_eq_zero_iff.1 z) h2
        · exact z
      rw [Nat.mul_succ]
      by_cases hl : inM ps a k = []
      · rw [WL_take (lk := lkM ps) (a := a) (b := k) (by unfold lkM; rw [if_neg ((inM_nil ps a k).1 hl)])]
        rw [hl, List.length_nil, Nat.zero_add] at hc
        have := ih k b (by omega) (by omega) (by intro z; rw [z] at hc; simp at hc; omega)
        rw [hc] at this
        simp
        omega
      · by_cases hr : inM ps k b = []
        · rw [WL_take (lk := lkM ps) (a := k) (b := b) (by unfold lkM; rw [if_neg ((inM_nil ps k b).1 hr)])]
          rw [hr, List.length_nil, Nat.add_zero] at hc
          have := ih a k (by omega) (by omega) hl
          rw [hc] at this
          simp
          omega
        · have i1 := ih a k (by omega) (by omega) hl
          have i2 := ih k b (by omega) (by omega) hr
          rw [← hc, Nat.add_mul]
          omega
    · rw [WL_pass (by unfold lkM; rw [if_pos (ex a b h2), if_pos (by omega)])]
      exact Nat.zero_le _
end Go.Proofs.YthpfgdhmpeadeaaDoor.ab

namespace Go.Proofs.YthpfgdhmpeadeaaDoor.ad
open Go.Proofs.YthpfgdhmpeadeaaDoor.ca Go.Proofs.YthpfgdhmpeadeaaDoor.cb Go.Proofs.YthpfgdhmpeadeaaDoor.ga Go.Proofs.YthpfgdhmpeadeaaDoor.aa Go.Proofs.YthpfgdhmpeadeaaDoor.ab
set_option linter.unusedVariables false

section
variable (ok : ByteArray → Bool) (fo : List ByteArray → ByteArray) (ask : Nat → Nat × Nat → ByteArray × Int)
-- all is answered
theorem tell_all (hs : Nat × Nat → ByteArray) (cs : List (Nat × Nat)) : ∀ l, (∀ a ∈ cs, ∀ k, ask k a = (hs a, 0) ∧ ok (hs a) = true) → tell ok ask l cs = (cs.map hs, 0, l ++ cs) := by
  induction cs with
  | nil => intro l _; rw [List.append_nil]; rfl
  | cons a r ih =>
    intro l h
    have ha := fun k => h a (List.mem_cons_self ..) k
    rw [tell_yes ok ask (by rw [(ha _).1]) (by rw [(ha _).1]; exact (ha 0).2), (ha _).1, ih _ (fun b hb => h b (List.mem_cons_of_mem _ hb)), List.append_assoc]
    rfl
theorem hash_all (hs : Nat × Nat → ByteArray) (p : Nat × Nat) (l : List (Nat × Nat)) (h : ∀ a ∈ cov p.1 p.2, ∀ k, ask k a = (hs a, 0) ∧ ok (hs a) = true) : hashP ok fo ask l p = (fo ((cov p.1 p.2).map hs), 0, l ++ cov p.1 p.2) := by
  unfold hashP
  rw [tell_all ok ask hs _ l h]
  rfl
theorem told_all (hs : Nat × Nat → ByteArray) (ps : List (Nat × Nat)) : ∀ l, (∀ p ∈ ps, ∀ a ∈ cov p.1 p.2, ∀ k, ask k a = (hs a, 0) ∧ ok (hs a) = true) → told ok fo ask l ps = (ps.map (fun p => fo ((cov p.1 p.2).map hs)), 0, l ++ ps.flatMap (fun p => cov p.1 p.2)) := by
  induction ps with
  | nil => intro l _; simp [told]
  | cons p r ih =>
    intro l h
    have hp := hash_all ok fo ask hs p l (h p (List.mem_cons_self ..))
    rw [told_yes ok fo ask (by rw [hp]), hp, ih _ (fun q hq => h q (List.mem_cons_of_mem _ hq))]
    simp
end
section
variable {α : Type} (E : α) (N : α → α → α)
-- parts of a tree: they begin at a multiple of a power that they do not pass
def Pt (a b : Nat) : Prop := ∃ j, j ≤ 62 ∧ 2 ^ j ∣ a ∧ b - a ≤ 2 ^ j
theorem pt_top {n : Nat} (h : n ≤ 4611686018427387904) : Pt 0 n := ⟨62, Nat.le_refl _, Nat.dvd_zero _, by rw [show (2 : Nat) ^ 62 = 4611686018427387904 from by decide]; omega⟩
theorem pt_half {a b : Nat} (h : Pt a b) (h2 : 2 ≤ b - a) : Pt a (a + half (b - a)) ∧ Pt (a + half (b - a)) b := by
  obtain ⟨j, hj, hd, hl⟩ := h
  obtain ⟨i, e, g1, g2⟩ := half_is h2
  have hij : i < j := p2lt (by omega)
  rw [e]
  have hd' : 2 ^ i ∣ a := Nat.dvd_trans (p2dvd (by omega)) hd
  refine ⟨⟨i, by omega, hd', by omega⟩, ⟨i, by omega, Nat.dvd_add hd' (Nat.dvd_refl _), ?_⟩⟩
  rw [p2s] at g2
  omega
theorem part_root (L : List α) {a b : Nat} (h : Pt a b) (hab : a ≤ b) (hL : b ≤ L.length) : foldP E N ((cov a b).map fun x => rootP E N (piece L x)) = rootP E N ((L.drop a).take (b - a)) := by
  obtain ⟨j, hj, hd, hl⟩ := h
  rcases Nat.lt_or_ge (b - a) (2 ^ j) with g | g
  · have := fold_roots E N L (b - a) j a hd g (by omega) (by omega)
    rwa [show a + (b - a) = b by omega] at this
  · have hlt : a < b := by have := p2 j; omega
    have e : b - a = 2 ^ j := by omega
    have e2 : cov a b = [(j, a / 2 ^ j)] := by
      rw [cov_at (k := j) hlt ⟨hj, hd, by omega, .inr (.inr (by rw [p2s]; have := p2 j; omega))⟩, cov_end (by omega)]
    rw [e2, e]
    show rootP E N (piece L (j, a / 2 ^ j)) = _
    show rootP E N ((L.drop (a / 2 ^ j * 2 ^ j)).take (2 ^ j)) = _
    rw [Nat.div_mul_cancel hd]
def rt (L : List α) (p : Nat × Nat) : α := rootP E N ((L.drop p.1).take (p.2 - p.1))
theorem mid_len (L : List α) {a b : Nat} (hL : b ≤ L.length) : ((L.drop a).take (b - a)).length = b - a := by rw [List.length_take, List.length_drop]; omega
theorem mid_front (L : List α) {a k b : Nat} (h : k ≤ b) : ((L.drop a).take (b - a)).take (k - a) = (L.drop a).take (k - a) := by rw [List.take_take, Nat.min_eq_left (by omega)]
theorem mid_back (L : List α) {a k b : Nat} (h1 : a ≤ k) (h : k ≤ b) : ((L.drop a).take (b - a)).drop (k - a) = (L.drop k).take (b - k) := by
  rw [List.drop_take, List.drop_drop, show a + (k - a) = k by omega, show b - a - (k - a) = b - k by omega]
theorem path_parts (L : List α) (i : Nat) (n : Nat) : ∀ a b, b - a = n → a ≤ i → i < b → b ≤ L.length → (WL (lkI i) a b).map (rt E N L) = pathP E N (i - a) ((L.drop a).take (b - a)) := by
  induction n using Nat.strongRecOn with
  | ind n ih =>
    intro a b hn h1 h2 hL
    have hl := mid_len L (a := a) hL
    by_cases h : 2 ≤ b - a
    · have hh := half_lt h
      by_cases hi : i < a + half (b - a)
      · rw [WL_left (by unfold lkI; rw [if_pos ⟨h1, h2⟩, if_neg (by omega), if_pos hi]) h, List.map_append, ih (half (b - a)) (by omega) a (a + half (b - a)) (by omega) h1 hi (by omega), WL_take (lk := lkI i) (a := a + half (b - a)) (by unfold lkI; rw [if_neg (by omega)]), pathP_low E N (l := (L.drop a).take (b - a)) (by rw [hl]; exact h) (by rw [hl]; omega), hl]
        have e1 := mid_front L (a := a) (k := a + half (b - a)) (b := b) (by omega)
        have e2 := mid_back L (a := a) (k := a + half (b - a)) (b := b) (by omega) (by omega)
        rw [Nat.add_sub_cancel_left] at e1 e2
        rw [e1, e2, Nat.add_sub_cancel_left]
        rfl
      · rw [WL_right (by unfold lkI; rw [if_pos ⟨h1, h2⟩, if_neg (by omega), if_neg hi]; omega) h, List.map_append, ih (b - a - half (b - a)) (by omega) (a + half (b - a)) b (by omega) (by omega) h2 hL, WL_take (lk := lkI i) (a := a) (by unfold lkI; rw [if_neg (by omega)]), pathP_high E N (l := (L.drop a).take (b - a)) (by rw [hl]; exact h) (by rw [hl]; omega), hl]
        have e1 := mid_front L (a := a) (k := a + half (b - a)) (b := b) (by omega)
        have e2 := mid_back L (a := a) (k := a + half (b - a)) (b := b) (by omega) (by omega)
        rw [Nat.add_sub_cancel_left] at e1 e2
        rw [e1, e2, show i - a - half (b - a) = i - (a + half (b - a)) by omega]
        show _ ++ [rt E N L (a, a + half (b - a))] = _
        unfold rt
        rw [Nat.add_sub_cancel_left]
    · rw [WL_pass (by unfold lkI; rw [if_pos ⟨h1, h2⟩, if_pos (by omega)]), pathP_one E N (by rw [hl]; exact h)]
      rfl
theorem sub_parts (L : List α) (m : Nat) (n : Nat) : ∀ a b, b - a = n → a < m → m ≤ b → b ≤ L.length → (WL (lkC m) a b).map (rt E N L) = subP E N (m - a) ((L.drop a).take (b - a)) (a == 0) := by
  induction n using Nat.strongRecOn with
  | ind n ih =>
    intro a b hn h1 h2 hL
    have hl := mid_len L (a := a) hL
    by_cases hb : m = b
    · rw [subP_all E N (by rw [hl]; omega)]
      by_cases ha : a = 0
      · rw [WL_pass (by unfold lkC; rw [if_pos ⟨ha, hb.symm⟩]), ha]
        rfl
      · rw [WL_take (by unfold lkC; rw [if_neg (by omega), if_pos (by omega)]), if_neg (by simpa using ha)]
        rfl
    · have h : 2 ≤ b - a := by omega
      have hh := half_lt h
      have e1 := mid_front L (a := a) (k := a + half (b - a)) (b := b) (by omega)
      have e2 := mid_back L (a := a) (k := a + half (b - a)) (b := b) (by omega) (by omega)
      rw [Nat.add_sub_cancel_left] at e1 e2
      by_cases hm : m ≤ a + half (b - a)
      · rw [WL_left (by unfold lkC; rw [if_neg (by omega), if_neg (by omega), if_pos (by omega)]) h, List.map_append, ih (half (b - a)) (by omega) a (a + half (b - a)) (by omega) h1 hm (by omega), WL_take (lk := lkC m) (a := a + half (b - a)) (by unfold lkC; rw [if_neg (by omega), if_pos (by omega)]), subP_low E N (l := (L.drop a).take (b - a)) (by rw [hl]; omega) (by rw [hl]; exact h) (by rw [hl]; omega), hl, e1, e2, Nat.add_sub_cancel_left]
        rfl
      · rw [WL_right (by unfold lkC; rw [if_neg (by omega), if_neg (by omega), if_neg (by omega)]; omega) h, List.map_append, ih (b - a - half (b - a)) (by omega) (a + half (b - a)) b (by omega) (by omega) h2 hL, WL_take (lk := lkC m) (a := a) (by unfold lkC; rw [if_neg (by omega), if_pos (by omega)]), show (a + half (b - a) == 0) = false by rw [beq_eq_false_iff_ne]; omega, subP_high E N (l := (L.drop a).take (b - a)) (by rw [hl]; omega) (by rw [hl]; exact h) (by rw [hl]; omega), hl, e1, e2, show m - a - half (b - a) = m - (a + half (b - a)) by omega]
        show _ ++ [rt E N L (a, a + half (b - a))] = _
        unfold rt
        rw [Nat.add_sub_cancel_left]
end
-- every part of the walk is a part of the tree
theorem WL_pt (lk : Nat → Nat → Nat) (n : Nat) : ∀ a b, b - a = n → a ≤ b → Pt a b → ∀ p ∈ WL lk a b, Pt p.1 p.2 ∧ p.1 ≤ p.2 ∧ p.2 ≤ b := by
  induction n using Nat.strongRecOn with
  | ind n ih =>
    intro a b hn hab hpt p hp
    by_cases h0 : lk a b = 0
    · rw [WL_pass h0] at hp; cases hp
    · by_cases h1 : lk a b = 1
      · rw [WL_take h1] at hp
        rcases List.mem_cons.1 hp with rfl | hp
        · exact ⟨hpt, hab, Nat.le_refl _⟩
        · cases hp
      · by_cases h : 2 ≤ b - a
        · have hh := half_lt h
          obtain ⟨p1, p2⟩ := pt_half hpt h
          have key : p ∈ WL lk a (a + half (b - a)) ∨ p ∈ WL lk (a + half (b - a)) b := by
            by_cases h2 : lk a b = 2
            · rw [WL_left h2 h] at hp
              exact List.mem_append.1 hp
            · rw [WL_right (by omega) h] at hp
              exact (List.mem_append.1 hp).symm
          rcases key with g | g
          · have := ih (half (b - a)) (by omega) a (a + half (b - a)) (by omega) (by omega) p1 p g
            exact ⟨this.1, this.2.1, by omega⟩
          · exact ih (b - a - half (b - a)) (by omega) (a + half (b - a)) b (by omega) (by omega) p2 p g
        · rw [WL, if_neg h0, if_neg h1, dif_neg h] at hp
          cases hp
end Go.Proofs.YthpfgdhmpeadeaaDoor.ad

namespace Go.Proofs.YthpfgdhmpeadeaaDoor.ae
open Go.Proofs.YthpfgdhmpeadeaaDoor.ca Go.Proofs.YthpfgdhmpeadeaaDoor.cb Go.Proofs.YthpfgdhmpeadeaaDoor.ga Go.Proofs.YthpfgdhmpeadeaaDoor.aa Go.Proofs.YthpfgdhmpeadeaaDoor.ab Go.Proofs.YthpfgdhmpeadeaaDoor.ad
set_option linter.unusedVariables false

-- a part of a walk is covered by 62 nodes at most
theorem digs_len (j : Nat) : ∀ h, (digs j h).length ≤ j := by
  induction j with
  | zero => intro h; simp [digs]
  | succ j ih =>
    intro h
    show (if h / 2 ^ j % 2 = 1 then _ else _ : List Nat).length ≤ _
    split
    · simp only [List.length_cons]; have := ih h; omega
    · have := ih h; omega
theorem cov62 {a b : Nat} (h : Pt a b) (hab : a ≤ b) : (cov a b).length ≤ 62 := by
  obtain ⟨j, hj, hd, hl⟩ := h
  rcases Nat.lt_or_ge (b - a) (2 ^ j) with g | g
  · have e := congrArg List.length (cov_digs j a (b - a) hd g (by omega))
    rw [List.length_map, show a + (b - a) = b by omega] at e
    have := digs_len j (b - a)
    omega
  · have hlt : a < b := by have := p2 j; omega
    have e : b - a = 2 ^ j := by omega
    have e2 : cov a b = [(j, a / 2 ^ j)] := by
      rw [cov_at (k := j) hlt ⟨hj, hd, by omega, .inr (.inr (by rw [p2s]; have := p2 j; omega))⟩, cov_end (by omega)]
    rw [e2]
    simp
section
variable (ok : ByteArray → Bool) (fo : List ByteArray → ByteArray) (ask : Nat → Nat × Nat → ByteArray × Int)
-- all is answered, whatever its number from 1 on
theorem tell_all1 (hs : Nat × Nat → ByteArray) (cs : List (Nat × Nat)) : ∀ l, (∀ a ∈ cs, ∀ k, ask (k + 1) a = (hs a, 0) ∧ ok (hs a) = true) → tell ok ask l cs = (cs.map hs, 0, l ++ cs) := by
  induction cs with
  | nil => intro l _; rw [List.append_nil]; rfl
  | cons a r ih =>
    intro l h
    have ha := fun k => h a (List.mem_cons_self ..) k
    rw [tell_yes ok ask (by rw [(ha _).1]) (by rw [(ha _).1]; exact (ha 0).2), (ha _).1, ih _ (fun b hb => h b (List.mem_cons_of_mem _ hb)), List.append_assoc]
    rfl
theorem hash_all1 (hs : Nat × Nat → ByteArray) (p : Nat × Nat) (l : List (Nat × Nat)) (h : ∀ a ∈ cov p.1 p.2, ∀ k, ask (k + 1) a = (hs a, 0) ∧ ok (hs a) = true) : hashP ok fo ask l p = (fo ((cov p.1 p.2).map hs), 0, l ++ cov p.1 p.2) := by
  unfold hashP
  rw [tell_all1 ok ask hs _ l h]
  rfl
theorem told_all1 (hs : Nat × Nat → ByteArray) (ps : List (Nat × Nat)) : ∀ l, (∀ p ∈ ps, ∀ a ∈ cov p.1 p.2, ∀ k, ask (k + 1) a = (hs a, 0) ∧ ok (hs a) = true) → told ok fo ask l ps = (ps.map (fun p => fo ((cov p.1 p.2).map hs)), 0, l ++ ps.flatMap (fun p => cov p.1 p.2)) := by
  induction ps with
  | nil => intro l _; simp [told]
  | cons p r ih =>
    intro l h
    have hp := hash_all1 ok fo ask hs p l (h p (List.mem_cons_self ..))
    rw [told_yes ok fo ask (by rw [hp]), hp, ih _ (fun q hq => h q (List.mem_cons_of_mem _ hq))]
    simp
theorem asked62 (hs : Nat × Nat → ByteArray) (lk : Nat → Nat → Nat) (n : Nat) (hn : n ≤ 4611686018427387904) (h : ∀ p ∈ WL lk 0 n, ∀ a ∈ cov p.1 p.2, ∀ k, ask (k + 1) a = (hs a, 0) ∧ ok (hs a) = true) :
    (told ok fo ask [] (WL lk 0 n)).2.1 = 0 ∧ (told ok fo ask [] (WL lk 0 n)).1.length = (WL lk 0 n).length ∧ (told ok fo ask [] (WL lk 0 n)).2.2.length ≤ 62 * (WL lk 0 n).length := by
  rw [told_all1 ok fo ask hs _ _ h]
  refine ⟨rfl, by simp, ?_⟩
  have hp := WL_pt lk n 0 n rfl (Nat.zero_le _) (pt_top hn)
  generalize WL lk 0 n = ps at hp
  induction ps with
  | nil => simp
  | cons p r ih =>
    have h1 := hp p (List.mem_cons_self ..)
    have h2 := cov62 h1.1 h1.2.1
    have h3 := ih (fun q hq => hp q (List.mem_cons_of_mem _ hq))
    simp only [List.nil_append, List.flatMap_cons, List.length_append, List.length_cons] at h3 ⊢
    omega
end
-- a range's walk is that of its places
theorem all_in (ps : List Nat) (n : Nat) : ∀ a b, b - a = n → a < b → (∀ p, a ≤ p → p < b → p ∈ ps) → WL (lkM ps) a b = [] := by
  induction n using Nat.strongRecOn with
  | ind n ih =>
    intro a b hn hab hp
    have hex : ∃ p ∈ ps, a ≤ p ∧ p < b := ⟨a, hp a (Nat.le_refl _) hab, Nat.le_refl _, hab⟩
    by_cases h : 2 ≤ b - a
    · have hh := half_lt h
      rw [WL_left (by unfold lkM; rw [if_pos hex, if_neg (by omega)]) h, ih (half (b - a)) (by omega) a (a + half (b - a)) (by omega) (by omega) (fun p h1 h2 => hp p h1 (by omega)), ih (b - a - half (b - a)) (by omega) (a + half (b - a)) b (by omega) (by omega) (fun p h1 h2 => hp p (by omega) h2)]
      rfl
    · rw [WL_pass (by unfold lkM; rw [if_pos hex, if_pos (by omega)])]
theorem range_multi (ps : List Nat) (lo hi : Nat) (hlh : lo < hi) (hps : ∀ p, p ∈ ps ↔ lo ≤ p ∧ p < hi) (n : Nat) : ∀ a b, b - a = n → a < b → WL (lkR lo hi) a b = WL (lkM ps) a b := by
  induction n using Nat.strongRecOn with
  | ind n ih =>
    intro a b hn hab
    by_cases h1 : b ≤ lo ∨ hi ≤ a
    · rw [WL_take (by unfold lkR; rw [if_pos h1]), WL_take (by
        unfold lkM
        rw [if_neg]
        rintro ⟨p, hp, g1, g2⟩
        have := (hps p).1 hp
        omega)]
    · by_cases h2 : lo ≤ a ∧ b ≤ hi
      · rw [WL_pass (by unfold lkR; rw [if_neg h1, if_pos h2]), all_in ps (b - a) a b rfl hab (fun p g1 g2 => (hps p).2 ⟨by omega, by omega⟩)]
      · have h : 2 ≤ b - a := by omega
        have hh := half_lt h
        have hex : ∃ p ∈ ps, a ≤ p ∧ p < b := ⟨max a lo, (hps _).2 ⟨by omega, by omega⟩, by omega, by omega⟩
        rw [WL_left (by unfold lkR; rw [if_neg h1, if_neg h2]) h, WL_left (lk := lkM ps) (by unfold lkM; rw [if_pos hex, if_neg (by omega)]) h, ih (half (b - a)) (by omega) a (a + half (b - a)) (by omega) (by omega), ih (b - a - half (b - a)) (by omega) (a + half (b - a)) b (by omega) (by omega)]
-- an inclusion proof's walk is that of one place, in another order
theorem incl_multi (i : Nat) (n : Nat) : ∀ a b, b - a = n → a < b → (WL (lkI i) a b).Perm (WL (lkM [i]) a b) := by
  induction n using Nat.strongRecOn with
  | ind n ih =>
    intro a b hn hab
    by_cases h1 : a ≤ i ∧ i < b
    · have hex : ∃ p ∈ [i], a ≤ p ∧ p < b := ⟨i, List.mem_singleton_self _, h1⟩
      by_cases h : 2 ≤ b - a
      · have hh := half_lt h
        have i1 := ih (half (b - a)) (by omega) a (a + half (b - a)) (by omega) (by omega)
        have i2 := ih (b - a - half (b - a)) (by omega) (a + half (b - a)) b (by omega) (by omega)
        rw [WL_left (lk := lkM [i]) (by unfold lkM; rw [if_pos hex, if_neg (by omega)]) h]
        by_cases h2 : i < a + half (b - a)
        · rw [WL_left (by unfold lkI; rw [if_pos h1, if_neg (by omega), if_pos h2]) h]
          exact i1.append i2
        · rw [WL_right (by unfold lkI; rw [if_pos h1, if_neg (by omega), if_neg h2]; exact Nat.le_refl _) h]
          exact (List.perm_append_comm).trans (i1.append i2)
      · rw [WL_pass (by unfold lkI; rw [if_pos h1, if_pos (by omega)]), WL_pass (by unfold lkM; rw [if_pos hex, if_pos (by omega)])]
    · rw [WL_take (by unfold lkI; rw [if_neg h1]), WL_take (by
        unfold lkM
        rw [if_neg]
        rintro ⟨p, hp, g1, g2⟩
        obtain rfl := List.mem_singleton.1 hp
        exact h1 ⟨g1, g2⟩)]
-- how often a text stands in two lists of which one is the other in another order
theorem perm_count {α : Type} [BEq α] {l r : List α} (h : l.Perm r) (x : α) : l.countP (· == x) = r.countP (· == x) := h.countP_eq _
end Go.Proofs.YthpfgdhmpeadeaaDoor.ae
