import Derived.Test.YtajfcddabkhamaaDoorY1
import Derived.PlainAid
import Derived.Laws.BitsAllLaws
import Derived.WalkKit
import Derived.Test.YtajfcddabkhamaaDoorRows
import Derived.WalkSpells
import Derived.Below
import Derived.Deep.QuietTactic
import Derived.BigQuiet
import Derived.RowKit3
import Derived.Laws.ResultCell
import Derived.Laws.Rows
import Derived.Laws.Tables
import Derived.Laws.CopyOwn
import Derived.WalkSmall
import Derived.BigRegion
import Derived.RegionTactic
namespace Go.Proofs.YtajfcddabkhamaaDoor.ab
open Go.Proofs.YtajfcddabkhamaaDoor.ca Go.Proofs.YtajfcddabkhamaaDoor.cb Go.Proofs.YtajfcddabkhamaaDoor.ga Go.Proofs.YtajfcddabkhamaaDoor.aa
set_option linter.unusedVariables false

-- asking: ok: has it the width? fo: the fold; ask: the answer of the ask of this number
section
variable (ok : ByteArray → Bool) (fo : List ByteArray → ByteArray) (ask : Nat → Nat × Nat → ByteArray × Int)
def tell (l : List (Nat × Nat)) : List (Nat × Nat) → List ByteArray × Int × List (Nat × Nat)
  | [] => ([], 0, l)
  | a :: r =>
    if (ask (l.length + 1) a).2 = 0 then
      if ok (ask (l.length + 1) a).1 = true then ((ask (l.length + 1) a).1 :: (tell (l ++ [a]) r).1, (tell (l ++ [a]) r).2)
      else ([], 72, l ++ [a])
    else ([], (ask (l.length + 1) a).2, l ++ [a])
theorem tell_no {l : List (Nat × Nat)} {a : Nat × Nat} {r : List (Nat × Nat)} (h : (ask (l.length + 1) a).2 ≠ 0) : tell ok ask l (a :: r) = ([], (ask (l.length + 1) a).2, l ++ [a]) := by unfold tell; rw [if_neg h]
theorem tell_len {l : List (Nat × Nat)} {a : Nat × Nat} {r : List (Nat × Nat)} (h : (ask (l.length + 1) a).2 = 0) (h2 : ok (ask (l.length + 1) a).1 = false) : tell ok ask l (a :: r) = ([], 72, l ++ [a]) := by unfold tell; rw [if_pos h, if_neg (by rw [h2]; decide)]
theorem tell_yes {l : List (Nat × Nat)} {a : Nat × Nat} {r : List (Nat × Nat)} (h : (ask (l.length + 1) a).2 = 0) (h2 : ok (ask (l.length + 1) a).1 = true) : tell ok ask l (a :: r) = ((ask (l.length + 1) a).1 :: (tell ok ask (l ++ [a]) r).1, (tell ok ask (l ++ [a]) r).2) := by rw [tell, if_pos h, if_pos h2]
theorem tell_size (cs : List (Nat × Nat)) : ∀ l, (tell ok ask l cs).2.2.length ≤ l.length + cs.length ∧ (tell ok ask l cs).1.length ≤ cs.length ∧ ∀ x ∈ (tell ok ask l cs).1, ok x = true := by
  induction cs with
  | nil => intro l; exact ⟨Nat.le_refl _, Nat.le_refl _, fun x hx => by cases hx⟩
  | cons a r ih =>
    intro l
    by_cases h : (ask (l.length + 1) a).2 = 0
    · by_cases h2 : ok (ask (l.length + 1) a).1 = true
      · rw [tell_yes ok ask h h2]
        have := ih (l ++ [a])
        rw [List.length_append] at this
        simp only [List.length_cons, List.length_nil] at this ⊢
        refine ⟨by omega, by omega, ?_⟩
        intro x hx
        rcases List.mem_cons.1 hx with rfl | hx
        · exact h2
        · exact this.2.2 x hx
      · rw [tell_len ok ask h (by simpa using h2)]
        refine ⟨by simp, by simp, fun x hx => by cases hx⟩
    · rw [tell_no ok ask h]
      refine ⟨by simp, by simp, fun x hx => by cases hx⟩
-- the hash of a part
def hashP (l : List (Nat × Nat)) (p : Nat × Nat) : ByteArray × Int × List (Nat × Nat) :=
  (if (tell ok ask l (cov p.1 p.2)).2.1 = 0 then fo (tell ok ask l (cov p.1 p.2)).1 else ByteArray.empty, (tell ok ask l (cov p.1 p.2)).2)
theorem hashP_size {l : List (Nat × Nat)} {p : Nat × Nat} (h1 : p.1 ≤ p.2) (h2 : p.2 ≤ 4611686018427387904) : (hashP ok fo ask l p).2.2.length ≤ l.length + 122 := by
  have := (tell_size ok ask (cov p.1 p.2) l).1
  have := cov_len p.1 p.2 h1 (by have : (2 : Nat) ^ 62 = 4611686018427387904 := by decide
                                 omega)
  show (tell ok ask l (cov p.1 p.2)).2.2.length ≤ _
  omega
-- the hashes of parts
def told (l : List (Nat × Nat)) : List (Nat × Nat) → List ByteArray × Int × List (Nat × Nat)
  | [] => ([], 0, l)
  | p :: r =>
    if (hashP ok fo ask l p).2.1 = 0 then ((hashP ok fo ask l p).1 :: (told (hashP ok fo ask l p).2.2 r).1, (told (hashP ok fo ask l p).2.2 r).2)
    else ([], (hashP ok fo ask l p).2)
theorem told_no {l : List (Nat × Nat)} {p : Nat × Nat} {r : List (Nat × Nat)} (h : (hashP ok fo ask l p).2.1 ≠ 0) : told ok fo ask l (p :: r) = ([], (hashP ok fo ask l p).2) := by unfold told; rw [if_neg h]
theorem told_yes {l : List (Nat × Nat)} {p : Nat × Nat} {r : List (Nat × Nat)} (h : (hashP ok fo ask l p).2.1 = 0) : told ok fo ask l (p :: r) = ((hashP ok fo ask l p).1 :: (told ok fo ask (hashP ok fo ask l p).2.2 r).1, (told ok fo ask (hashP ok fo ask l p).2.2 r).2) := by rw [told, if_pos h]
theorem told_app_no (ps qs : List (Nat × Nat)) : ∀ l, (told ok fo ask l ps).2.1 ≠ 0 → told ok fo ask l (ps ++ qs) = told ok fo ask l ps := by
  induction ps with
  | nil => intro l h; exact absurd rfl h
  | cons p r ih =>
    intro l h
    by_cases hp : (hashP ok fo ask l p).2.1 = 0
    · rw [told_yes ok fo ask hp] at h
      rw [List.cons_append, told_yes ok fo ask hp, told_yes ok fo ask hp, ih _ h]
    · rw [List.cons_append, told_no ok fo ask hp, told_no ok fo ask hp]
theorem told_app_yes (ps qs : List (Nat × Nat)) : ∀ l, (told ok fo ask l ps).2.1 = 0 → told ok fo ask l (ps ++ qs) = ((told ok fo ask l ps).1 ++ (told ok fo ask (told ok fo ask l ps).2.2 qs).1, (told ok fo ask (told ok fo ask l ps).2.2 qs).2) := by
  induction ps with
  | nil => intro l h; rfl
  | cons p r ih =>
    intro l h
    by_cases hp : (hashP ok fo ask l p).2.1 = 0
    · rw [told_yes ok fo ask hp] at h
      rw [List.cons_append, told_yes ok fo ask hp, told_yes ok fo ask hp, ih _ h]
      rfl
    · rw [told_no ok fo ask hp] at h
      exact absurd h hp
theorem told_size (ps : List (Nat × Nat)) : ∀ l, (∀ p ∈ ps, p.1 ≤ p.2 ∧ p.2 ≤ 4611686018427387904) → (told ok fo ask l ps).2.2.length ≤ l.length + 122 * ps.length ∧ (told ok fo ask l ps).1.length ≤ ps.length := by
  induction ps with
  | nil => intro l _; exact ⟨Nat.le_refl _, Nat.le_refl _⟩
  | cons p r ih =>
    intro l h
    have hp := h p (List.mem_cons_self ..)
    have hs := hashP_size ok fo ask (l := l) hp.1 hp.2
    by_cases he : (hashP ok fo ask l p).2.1 = 0
    · rw [told_yes ok fo ask he]
      have := ih (hashP ok fo ask l p).2.2 (fun q hq => h q (List.mem_cons_of_mem _ hq))
      simp only [List.length_cons]
      omega
    · rw [told_no ok fo ask he]
      simp only [List.length_cons, List.length_nil]
      omega
end
-- parts lie within, and how many there are
theorem WL_in (lk : Nat → Nat → Nat) (n : Nat) : ∀ a b, b - a = n → a ≤ b → ∀ p ∈ WL lk a b, a ≤ p.1 ∧ p.1 ≤ p.2 ∧ p.2 ≤ b := by
  induction n using Nat.strongRecOn with
  | ind n ih =>
    intro a b hn hab p hp
    by_cases h0 : lk a b = 0
    · rw [WL_pass h0] at hp; cases hp
    · by_cases h1 : lk a b = 1
      · rw [WL_take h1] at hp
        rcases List.mem_cons.1 hp with rfl | hp
        · exact ⟨Nat.le_refl _, hab, Nat.le_refl _⟩
        · cases hp
      · by_cases h : 2 ≤ b - a
        · have hh := half_lt h
          have key : p ∈ WL lk a (a + half (b - a)) ∨ p ∈ WL lk (a + half (b - a)) b := by
            by_cases h2 : lk a b = 2
            · rw [WL_left h2 h] at hp
              exact List.mem_append.1 hp
            · rw [WL_right (by omega) h] at hp
              exact (List.mem_append.1 hp).symm
          rcases key with g | g
          · have := ih (half (b - a)) (by omega) a (a + half (b - a)) (by omega) (by omega) p g
            omega
          · have := ih (b - a - half (b - a)) (by omega) (a + half (b - a)) b (by omega) (by omega) p g
            omega
        · rw [WL, if_neg h0, if_neg h1, dif_neg h] at hp
          cases hp
theorem half_d {n d : Nat} (h : 2 ≤ n) (hd : n ≤ 2 ^ d) : ∃ c, d = c + 1 ∧ half n ≤ 2 ^ c ∧ n - half n ≤ 2 ^ c := by
  obtain ⟨i, e, g1, g2⟩ := half_is h
  have hid : i < d := p2lt (by omega)
  obtain ⟨c, rfl⟩ : ∃ c, d = c + 1 := ⟨d - 1, by omega⟩
  have := p2le (show i ≤ c by omega)
  rw [p2s] at g2
  exact ⟨c, rfl, by omega, by omega⟩
theorem incl_len (i : Nat) (d : Nat) : ∀ a b, b - a ≤ 2 ^ d → a ≤ i → i < b → (WL (lkI i) a b).length ≤ d := by
  induction d with
  | zero =>
    intro a b hd h1 h2
    rw [WL_pass (by unfold lkI; rw [if_pos ⟨h1, h2⟩, if_pos (by have : (2 : Nat) ^ 0 = 1 := rfl; omega)])]
    exact Nat.le_refl _
  | succ d ih =>
    intro a b hd h1 h2
    by_cases h : 2 ≤ b - a
    · have hh := half_lt h
      obtain ⟨c, e, g1, g2⟩ := half_d h hd
      obtain rfl : c = d := by omega
      by_cases hi : i < a + half (b - a)
      · rw [WL_left (by unfold lkI; rw [if_pos ⟨h1, h2⟩, if_neg (by omega), if_pos hi]) h, WL_take (lk := lkI i) (a := a + half (b - a)) (by unfold lkI; rw [if_neg (by omega)]), List.length_append]
        have := ih a (a + half (b - a)) (by omega) h1 hi
        simp
        omega
      · rw [WL_right (by unfold lkI; rw [if_pos ⟨h1, h2⟩, if_neg (by omega), if_neg hi]; omega) h, WL_take (lk := lkI i) (a := a) (by unfold lkI; rw [if_neg (by omega)]), List.length_append]
        have := ih (a + half (b - a)) b (by omega) (by omega) h2
        simp
        omega
    · rw [WL_pass (by unfold lkI; rw [if_pos ⟨h1, h2⟩, if_pos (by omega)])]
      exact Nat.zero_le _
theorem cons_len (m : Nat) (d : Nat) : ∀ a b, b - a ≤ 2 ^ d → a < m → m ≤ b → (WL (lkC m) a b).length ≤ d + 1 := by
  induction d with
  | zero =>
    intro a b hd h1 h2
    have : (2 : Nat) ^ 0 = 1 := rfl
    by_cases ha : a = 0
    · rw [WL_pass (by unfold lkC; rw [if_pos ⟨ha, by omega⟩])]
      exact Nat.zero_le _
    · rw [WL_take (by unfold lkC; rw [if_neg (by omega), if_pos (by omega)])]
      exact Nat.le_refl _
  | succ d ih =>
    intro a b hd h1 h2
    by_cases hb : m = b
    · by_cases ha : a = 0
      · rw [WL_pass (by unfold lkC; rw [if_pos ⟨ha, by omega⟩])]
        exact Nat.zero_le _
      · rw [WL_take (by unfold lkC; rw [if_neg (by omega), if_pos (by omega)])]
        simp
    · have h : 2 ≤ b - a := by omega
      have hh := half_lt h
      obtain ⟨c, e, g1, g2⟩ := half_d h hd
      obtain rfl : c = d := by omega
      by_cases hm : m ≤ a + half (b - a)
      · rw [WL_left (by unfold lkC; rw [if_neg (by omega), if_neg (by omega), if_pos (by omega)]) h, WL_take (lk := lkC m) (a := a + half (b - a)) (by unfold lkC; rw [if_neg (by omega), if_pos (by omega)]), List.length_append]
        have := ih a (a + half (b - a)) (by omega) h1 hm
        simp
        omega
      · rw [WL_right (by unfold lkC; rw [if_neg (by omega), if_neg (by omega), if_neg (by omega)]; omega) h, WL_take (lk := lkC m) (a := a) (by unfold lkC; rw [if_neg (by omega), if_pos (by omega)]), List.length_append]
        have := ih (a + half (b - a)) b (by omega) (by omega) h2
        simp
        omega
-- one end of the range within
theorem out_len1 (lo hi : Nat) (d : Nat) : ∀ a b, b - a ≤ 2 ^ d → (lo ≤ a ∨ b ≤ hi) → lo < hi → a < b → ¬ (b ≤ lo ∨ hi ≤ a) → (WL (lkR lo hi) a b).length ≤ d := by
  induction d with
  | zero =>
    intro a b hd h1 h2 h3 h4
    have : (2 : Nat) ^ 0 = 1 := rfl
    rw [WL_pass (by unfold lkR; rw [if_neg h4, if_pos (by omega)])]
    exact Nat.le_refl _
  | succ d ih =>
    intro a b hd h1 h2 h3 h4
    by_cases hw : lo ≤ a ∧ b ≤ hi
    · rw [WL_pass (by unfold lkR; rw [if_neg h4, if_pos hw])]
      exact Nat.zero_le _
    · have h : 2 ≤ b - a := by omega
      have hh := half_lt h
      obtain ⟨c, e, g1, g2⟩ := half_d h hd
      obtain rfl : c = d := by omega
      rw [WL_left (by unfold lkR; rw [if_neg h4, if_neg hw]) h, List.length_append]
      obtain ⟨k, hk⟩ : ∃ k, a + half (b - a) = k := ⟨_, rfl⟩
      rw [hk]
      rcases h1 with h1 | h1
      · by_cases hm : hi ≤ k
        · rw [WL_take (lk := lkR lo hi) (a := k) (by unfold lkR; rw [if_pos (by omega)])]
          have := ih a k (by omega) (by omega) h2 (by omega) (by omega)
          simp
          omega
        · rw [WL_pass (lk := lkR lo hi) (a := a) (b := k) (by unfold lkR; rw [if_neg (by omega), if_pos (by omega)])]
          have := ih k b (by omega) (by omega) h2 (by omega) (by omega)
          simp
          omega
      · by_cases hm : k ≤ lo
        · rw [WL_take (lk := lkR lo hi) (a := a) (b := k) (by unfold lkR; rw [if_pos (by omega)])]
          have := ih k b (by omega) (by omega) h2 (by omega) (by omega)
          simp
          omega
        · rw [WL_pass (lk := lkR lo hi) (a := k) (b := b) (by unfold lkR; rw [if_neg (by omega), if_pos (by omega)])]
          have := ih a k (by omega) (by omega) h2 (by omega) (by omega)
          simp
          omega
theorem out_len (lo hi : Nat) (d : Nat) : ∀ a b, b - a ≤ 2 ^ d → lo < hi → a < b → ¬ (b ≤ lo ∨ hi ≤ a) → (WL (lkR lo hi) a b).length ≤ 2 * d := by
  induction d with
  | zero =>
    intro a b hd h2 h3 h4
    have : (2 : Nat) ^ 0 = 1 := rfl
    rw [WL_pass (by unfold lkR; rw [if_neg h4, if_pos (by omega)])]
    exact Nat.le_refl _
  | succ d ih =>
    intro a b hd h2 h3 h4
    by_cases hw : lo ≤ a ∧ b ≤ hi
    · rw [WL_pass (by unfold lkR; rw [if_neg h4, if_pos hw])]
      exact Nat.zero_le _
    · have h : 2 ≤ b - a := by omega
      have hh := half_lt h
      obtain ⟨c, e, g1, g2⟩ := half_d h hd
      obtain rfl : c = d := by omega
      rw [WL_left (by unfold lkR; rw [if_neg h4, if_neg hw]) h, List.length_append]
      obtain ⟨k, hk⟩ : ∃ k, a + half (b - a) = k := ⟨_, rfl⟩
      rw [hk]
      by_cases hm : hi ≤ k
      · rw [WL_take (lk := lkR lo hi) (a := k) (by unfold lkR; rw [if_pos (by omega)])]
        have := ih a k (by omega) h2 (by omega) (by omega)
        simp
        omega
      · by_cases hm2 : k ≤ lo
        · rw [WL_take (lk := lkR lo hi) (a := a) (b := k) (by unfold lkR; rw [if_pos (by omega)])]
          have := ih k b (by omega) h2 (by omega) (by omega)
          simp
          omega
        · have := out_len1 lo hi c a k (by omega) (by omega) h2 (by omega) (by omega)
          have := out_len1 lo hi c k b (by omega) (by omega) h2 (by omega) (by omega)
          omega
theorem inM_cut (ps : List Nat) (a k b : Nat) (h1 : a ≤ k) (h2 : k ≤ b) : (inM ps a k).length + (inM ps k b).length = (inM ps a b).length := by
  induction ps with
  | nil => rfl
  | cons p ps ih =>
    unfold inM at *
    simp only [List.filter_cons]
    by_cases g1 : a ≤ p <;> by_cases g2 : p < k <;> by_cases g3 : p < b <;> by_cases g4 : k ≤ p <;> simp [g1, g2, g3, g4] <;> omega
theorem multi_len (ps : List Nat) (d : Nat) : ∀ a b, b - a ≤ 2 ^ d → a < b → inM ps a b ≠ [] → (WL (lkM ps) a b).length ≤ (inM ps a b).length * d := by
  have ex : ∀ a b, inM ps a b ≠ [] → ∃ p ∈ ps, a ≤ p ∧ p < b := by
    intro a b h
    refine Classical.byContradiction fun hn => h ((inM_nil ps a b).2 hn)
  induction d with
  | zero =>
    intro a b hd h1 h2
    have : (2 : Nat) ^ 0 = 1 := rfl
    rw [WL_pass (by unfold lkM; rw [if_pos (ex a b h2), if_pos (by omega)])]
    exact Nat.zero_le _
  | succ d ih =>
    intro a b hd h1 h2
    by_cases h : 2 ≤ b - a
    · have hh := half_lt h
      obtain ⟨c, e, g1, g2⟩ := half_d h hd
      obtain rfl : c = d := by omega
      rw [WL_left (by unfold lkM; rw [if_pos (ex a b h2), if_neg (by omega)]) h, List.length_append]
      obtain ⟨k, hk⟩ : ∃ k, a + half (b - a) = k := ⟨_, rfl⟩
      rw [hk]
      have hc := inM_cut ps a k b (by omega) (by omega)
      have hq : 1 ≤ (inM ps a b).length := by
        rcases Nat.eq_zero_or_pos (inM ps a b).length with z | z
        · exact absurd (List.length_eq_zero_iff.1 z) h2
        · exact z
      rw [Nat.mul_succ]
      by_cases hl : inM ps a k = []
      · rw [WL_take (lk := lkM ps) (a := a) (b := k) (by unfold lkM; rw [if_neg ((inM_nil ps a k).1 hl)])]
        rw [hl, List.length_nil, Nat.zero_add] at hc
        have := ih k b (by omega) (by omega) (by intro z; rw [z] at hc; simp at hc; omega)
        rw [hc] at this
        simp
        omega
      · by_cases hr : inM ps k b = []
        · rw [WL_take (lk := lkM ps) (a := k) (b := b) (by unfold lkM; rw [if_neg ((inM_nil ps k b).1 hr)])]
          rw [hr, List.length_nil, Nat.add_zero] at hc
          have := ih a k (by omega) (by omega) hl
          rw [hc] at this
          simp
          omega
        · have i1 := ih a k (by omega) (by omega) hl
          have i2 := ih k b (by omega) (by omega) hr
          rw [← hc, Nat.add_mul]
          omega
    · rw [WL_pass (by unfold lkM; rw [if_pos (ex a b h2), if_pos (by omega)])]
      exact Nat.zero_le _
end Go.Proofs.YtajfcddabkhamaaDoor.ab

namespace Go.Proofs.YtajfcddabkhamaaDoor.pl
open Go.PlainAid
set_option linter.unusedVariables false

theorem bits_u32 (op : BinOp) (a b : Int) : 0 ≤ bits op .u32 a b ∧ bits op .u32 a b < 4294967296 := by
  unfold bits
  rw [IntKind.wrap_u32]
  omega

theorem or_comm (a b : Int) (h1 : 0 ≤ a) (h2 : a < 4294967296) (h3 : 0 ≤ b) (h4 : b < 4294967296) : bits .or .u32 a b = bits .or .u32 b a := by
  rw [u32_or a b h1 h2 h3 h4, u32_or b a h3 h4 h1 h2, Nat.or_comm]

def ROT (x : Int) (n : Nat) : Int := bits .or .u32 (x / 2 ^ n) (x * 2 ^ (32 - n) % 4294967296)
def WORD (c0 c1 c2 c3 : Int) : Int := bits .or .u32 (bits .or .u32 (bits .or .u32 (c0 * 16777216) (c1 * 65536)) (c2 * 256)) c3
def S0 (x : Int) : Int := bits .xor .u32 (bits .xor .u32 (ROT x 7) (ROT x 18)) (x / 8)
def S1 (x : Int) : Int := bits .xor .u32 (bits .xor .u32 (ROT x 17) (ROT x 19)) (x / 1024)
def nextW (l : List Int) (t : Nat) : Int := (S1 (l.getD (t - 2) 0) + l.getD (t - 7) 0 + S0 (l.getD (t - 15) 0) + l.getD (t - 16) 0) % 4294967296
def wL (g : Nat → Int) (p : Nat) : Nat → List Int
  | 0 => []
  | t + 1 => if t < 16 then wL g p t ++ [WORD (g (p + 4 * t)) (g (p + 4 * t + 1)) (g (p + 4 * t + 2)) (g (p + 4 * t + 3))] else wL g p t ++ [nextW (wL g p t) t]

theorem wL_length (g : Nat → Int) (p t : Nat) : (wL g p t).length = t := by
  induction t with
  | zero => rfl
  | succ t ih => unfold wL; split <;> simp [ih]

theorem wL_low (g : Nat → Int) (p t : Nat) (h : t < 16) : wL g p (t + 1) = wL g p t ++ [WORD (g (p + 4 * t)) (g (p + 4 * t + 1)) (g (p + 4 * t + 2)) (g (p + 4 * t + 3))] := by
  rw [wL, if_pos h]
theorem wL_high (g : Nat → Int) (p t : Nat) (h : ¬ t < 16) : wL g p (t + 1) = wL g p t ++ [nextW (wL g p t) t] := by
  rw [wL, if_neg h]

theorem wL_congr (g g' : Nat → Int) (p p' : Nat) (h : ∀ j, j < 64 → g (p + j) = g' (p' + j)) : ∀ t, wL g p t = wL g' p' t
  | 0 => rfl
  | t + 1 => by
    by_cases ht : t < 16
    · rw [wL_low _ _ _ ht, wL_low _ _ _ ht, wL_congr g g' p p' h t]
      simp only [Nat.add_assoc]
      rw [h (4 * t) (by omega), h (4 * t + 1) (by omega), h (4 * t + 2) (by omega), h (4 * t + 3) (by omega)]
    · rw [wL_high _ _ _ ht, wL_high _ _ _ ht, wL_congr g g' p p' h t]

def row32 (ns : List Int) : Array Value := (ns.map (Value.int .u32)).toArray
theorem row32_size (ns : List Int) : (row32 ns).size = ns.length := by simp [row32]
theorem row32_set (ns : List Int) (i : Nat) (x : Int) : (row32 ns).setIfInBounds i (.int .u32 x) = row32 (ns.set i x) := by simp [row32]

def fillW (g : Nat → Int) (p t : Nat) : List Int := wL g p t ++ List.replicate (64 - t) 0
theorem fillW_length (g : Nat → Int) (p t : Nat) (h : t ≤ 64) : (fillW g p t).length = 64 := by simp [fillW, wL_length]; omega

def z64 : Array Value := row32 (List.replicate 64 0)

theorem fillW_set (g : Nat → Int) (p t : Nat) (x : Int) (h : t < 64) (hx : wL g p (t + 1) = wL g p t ++ [x]) : (fillW g p t).set t x = fillW g p (t + 1) := by
  obtain ⟨m, hm⟩ : ∃ m, 64 - t = m + 1 := ⟨63 - t, by omega⟩
  rw [fillW, fillW, hx, hm, show 64 - (t + 1) = m by omega, List.set_append_right _ _ (by rw [wL_length]; omega), wL_length]
  simp [List.replicate_succ]

theorem fillW_get (g : Nat → Int) (p t j : Nat) (h : j < t) : (fillW g p t)[j]? = some ((wL g p t).getD j 0) := by
  have hl := wL_length g p t
  rw [fillW, List.getElem?_append_left (by omega), List.getD, List.getElem?_eq_getElem (by omega)]
  rfl

theorem row32_get (ns : List Int) (i : Nat) : (row32 ns)[i]? = (ns[i]?).map (Value.int .u32) := by simp [row32]

theorem wL_range (g : Nat → Int) (p t : Nat) : ∀ j, 0 ≤ (wL g p t).getD j 0 ∧ (wL g p t).getD j 0 < 4294967296 := by
  induction t with
  | zero => intro j; simp [wL]
  | succ t ih =>
    intro j
    have key : ∀ x : Int, 0 ≤ x → x < 4294967296 → 0 ≤ (wL g p t ++ [x]).getD j 0 ∧ (wL g p t ++ [x]).getD j 0 < 4294967296 := by
      intro x h0 h1
      have hl := wL_length g p t
      rcases Nat.lt_trichotomy j t with h | h | h
      · have := ih j
        rw [List.getD, List.getElem?_append_left (by omega)]
        exact this
      · rw [List.getD, List.getElem?_append_right (by omega), h, hl]
        simp; omega
      · rw [List.getD, List.getElem?_eq_none (by simp; omega)]
        simp
    by_cases h : t < 16
    · rw [wL_low g p t h]
      have := bits_u32 .or (bits .or .u32 (bits .or .u32 (g (p + 4 * t) * 16777216) (g (p + 4 * t + 1) * 65536)) (g (p + 4 * t + 2) * 256)) (g (p + 4 * t + 3))
      exact key _ this.1 this.2
    · rw [wL_high g p t h]
      exact key _ (by unfold nextW; omega) (by unfold nextW; omega)

structure St where
  a : Int
  b : Int
  c : Int
  d : Int
  e : Int
  f : Int
  g : Int
  h : Int

def St.ok (s : St) : Prop := (0 ≤ s.a ∧ s.a < 4294967296) ∧ (0 ≤ s.b ∧ s.b < 4294967296) ∧ (0 ≤ s.c ∧ s.c < 4294967296) ∧ (0 ≤ s.d ∧ s.d < 4294967296) ∧ (0 ≤ s.e ∧ s.e < 4294967296) ∧ (0 ≤ s.f ∧ s.f < 4294967296) ∧ (0 ≤ s.g ∧ s.g < 4294967296) ∧ (0 ≤ s.h ∧ s.h < 4294967296)
def St.cells (s : St) : Array Value := #[.int .u32 s.a, .int .u32 s.b, .int .u32 s.c, .int .u32 s.d, .int .u32 s.e, .int .u32 s.f, .int .u32 s.g, .int .u32 s.h]

def BS1 (e : Int) : Int := bits .xor .u32 (bits .xor .u32 (ROT e 6) (ROT e 11)) (ROT e 25)
def BS0 (a : Int) : Int := bits .xor .u32 (bits .xor .u32 (ROT a 2) (ROT a 13)) (ROT a 22)
def CH (e f g : Int) : Int := bits .xor .u32 (bits .and .u32 e f) (bits .and .u32 (bits .xor .u32 IntKind.u32.max e) g)
def MAJ (a b c : Int) : Int := bits .xor .u32 (bits .xor .u32 (bits .and .u32 a b) (bits .and .u32 a c)) (bits .and .u32 b c)
def rnd (s : St) (k w : Int) : St :=
  ⟨(s.h + BS1 s.e + CH s.e s.f s.g + k + w + (BS0 s.a + MAJ s.a s.b s.c) % 4294967296) % 4294967296, s.a, s.b, s.c, (s.d + (s.h + BS1 s.e + CH s.e s.f s.g + k + w)) % 4294967296, s.e, s.f, s.g⟩
def rnds (kk x : Nat → Int) (v : St) : Nat → St
  | 0 => v
  | t + 1 => rnd (rnds kk x v t) (kk t) (x t)

theorem rnd_ok (s : St) (k w : Int) (h : s.ok) : (rnd s k w).ok := by
  obtain ⟨h1, h2, h3, h4, h5, h6, h7, h8⟩ := h
  refine ⟨⟨?_, ?_⟩, h1, h2, h3, ⟨?_, ?_⟩, h5, h6, h7⟩ <;> (unfold rnd; simp only; omega)

theorem rnds_ok (kk x : Nat → Int) (v : St) (h : v.ok) : ∀ t, (rnds kk x v t).ok
  | 0 => h
  | t + 1 => rnd_ok _ _ _ (rnds_ok kk x v h t)

theorem rnds_congr (kk x y : Nat → Int) (v : St) : ∀ t, (∀ j, j < t → x j = y j) → rnds kk x v t = rnds kk y v t
  | 0, _ => rfl
  | t + 1, h => by
    show rnd _ _ _ = rnd _ _ _
    rw [rnds_congr kk x y v t (fun j hj => h j (by omega)), h t (by omega)]

def St.list (s : St) : List Int := [s.a, s.b, s.c, s.d, s.e, s.f, s.g, s.h]
theorem St.cells_list (s : St) : s.cells = row32 s.list := rfl

def addL (v x : List Int) (i : Nat) : List Int := (List.zipWith (fun a b => (a + b) % 4294967296) v x).take i ++ v.drop i

theorem addL_zero (v x : List Int) : addL v x 0 = v := by simp [addL]
theorem addL_length (v x : St) (i : Nat) (h : i ≤ 8) : (addL v.list x.list i).length = 8 := by simp [addL, St.list]; omega
theorem addL_get (v x : St) (i : Nat) (h : i < 8) : (addL v.list x.list i)[i]? = some (v.list.getD i 0) := by
  have hl : v.list.length = 8 := rfl
  have hx : x.list.length = 8 := rfl
  rw [addL, List.getElem?_append_right (by simp; omega), List.length_take, List.length_zipWith, hl, hx, List.getElem?_drop, show i + (i - min i (min 8 8)) = i by omega, List.getD, List.getElem?_eq_getElem (by omega)]
  rfl
theorem addL_set (v x : St) (i : Nat) (h : i < 8) : (addL v.list x.list i).set i ((v.list.getD i 0 + x.list.getD i 0) % 4294967296) = addL v.list x.list (i + 1) := by
  obtain ⟨a, b, c, d, e, f, g, hh⟩ := v
  obtain ⟨a', b', c', d', e', f', g', hh'⟩ := x
  match i, h with
  | 0, _ => rfl
  | 1, _ => rfl
  | 2, _ => rfl
  | 3, _ => rfl
  | 4, _ => rfl
  | 5, _ => rfl
  | 6, _ => rfl
  | 7, _ => rfl

def St.add (v x : St) : St := ⟨(v.a + x.a) % 4294967296, (v.b + x.b) % 4294967296, (v.c + x.c) % 4294967296, (v.d + x.d) % 4294967296, (v.e + x.e) % 4294967296, (v.f + x.f) % 4294967296, (v.g + x.g) % 4294967296, (v.h + x.h) % 4294967296⟩
theorem addL_full (v x : St) : addL v.list x.list 8 = (v.add x).list := rfl
theorem St.add_ok (v x : St) : (v.add x).ok := by
  refine ⟨⟨?_, ?_⟩, ⟨?_, ?_⟩, ⟨?_, ?_⟩, ⟨?_, ?_⟩, ⟨?_, ?_⟩, ⟨?_, ?_⟩, ⟨?_, ?_⟩, ⟨?_, ?_⟩⟩ <;> (unfold St.add; simp only; omega)
theorem St.get (s : St) (i : Nat) (h : i < 8) : s.cells[i]? = some (.int .u32 (s.list.getD i 0)) := by
  obtain ⟨a, b, c, d, e, f, g, hh⟩ := s
  match i, h with
  | 0, _ => rfl
  | 1, _ => rfl
  | 2, _ => rfl
  | 3, _ => rfl
  | 4, _ => rfl
  | 5, _ => rfl
  | 6, _ => rfl
  | 7, _ => rfl

def blockF (kk g : Nat → Int) (p : Nat) (v : St) : St := v.add (rnds kk (fun j => (wL g p 64).getD j 0) v 64)
theorem blockF_ok (kk g : Nat → Int) (p : Nat) (v : St) : (blockF kk g p v).ok := St.add_ok _ _
theorem blockF_congr (kk g g' : Nat → Int) (p p' : Nat) (v : St) (h : ∀ j, j < 64 → g (p + j) = g' (p' + j)) : blockF kk g p v = blockF kk g' p' v := by
  unfold blockF
  rw [wL_congr g g' p p' h 64]

-- the words behind k blocks
def hs (kk g : Nat → Int) (v : St) : Nat → St
  | 0 => v
  | k + 1 => blockF kk g (64 * k) (hs kk g v k)
theorem hs_ok (kk g : Nat → Int) (v : St) (h : v.ok) : ∀ k, (hs kk g v k).ok
  | 0 => h
  | k + 1 => blockF_ok _ _ _ _
theorem hs_congr (kk g g' : Nat → Int) (v : St) : ∀ k, (∀ j, j < 64 * k → g j = g' j) → hs kk g v k = hs kk g' v k
  | 0, _ => rfl
  | k + 1, h => by
    show blockF _ _ _ _ = blockF _ _ _ _
    rw [hs_congr kk g g' v k (fun j hj => h j (by omega))]
    exact blockF_congr _ _ _ _ _ _ (fun j hj => h _ (by omega))

-- bytes of texts
def row (ns : List Int) : Array Value := (ns.map (Value.int .u8)).toArray
def str (ns : List Int) : ByteArray := ns.foldl (fun r n => r.push (UInt8.ofNat n.toNat)) ByteArray.empty
theorem row_size (ns : List Int) : (row ns).size = ns.length := by simp [row]
theorem row_set (ns : List Int) (i : Nat) (x : Int) : (row ns).setIfInBounds i (.int .u8 x) = row (ns.set i x) := by
  simp [row]
theorem row_get (ns : List Int) (i : Nat) : (row ns)[i]? = (ns[i]?).map (Value.int .u8) := by simp [row]
theorem str_snoc (ns : List Int) (x : Int) : str (ns ++ [x]) = (str ns).push (UInt8.ofNat x.toNat) := by simp [str]

theorem foldl_data (ns : List Int) : ∀ r : ByteArray, (ns.foldl (fun r n => r.push (UInt8.ofNat n.toNat)) r).data = r.data ++ (ns.map fun n => UInt8.ofNat n.toNat).toArray := by
  induction ns with
  | nil => intro r; simp
  | cons x ns ih =>
    intro r
    rw [List.foldl_cons, ih]
    show r.data.push _ ++ _ = _
    simp

theorem str_data (ns : List Int) : (str ns).data = (ns.map fun n => UInt8.ofNat n.toNat).toArray := by
  have h := foldl_data ns ByteArray.empty
  simpa [str] using h

theorem str_size (ns : List Int) : (str ns).size = ns.length := by
  show (str ns).data.size = _
  rw [str_data]; simp

theorem str_bt (ns : List Int) (k : Nat) (hk : k < ns.length) (h0 : 0 ≤ ns[k]) (h1 : ns[k] ≤ 255) : bt (str ns) k = ns[k] := by
  unfold bt
  rw [dif_pos (by rw [str_size]; exact hk)]
  have e : (str ns)[k]'(by rw [str_size]; exact hk) = UInt8.ofNat (ns[k]).toNat := by
    show (str ns).data[k]'_ = _
    simp [str_data]
  rw [e]
  have : (UInt8.ofNat (ns[k]).toNat).toNat = (ns[k]).toNat := by simp; omega
  omega

theorem ext_bt (a b : ByteArray) (hs : a.size = b.size) (h : ∀ k, k < a.size → bt a k = bt b k) : a = b := by
  apply ByteArray.ext
  apply Array.ext
  · exact hs
  · intro i h1 h2
    have e := h i h1
    unfold bt at e
    rw [dif_pos (show i < a.size from h1), dif_pos (show i < b.size from h2)] at e
    have e2 : (a[i]'h1).toNat = (b[i]'h2).toNat := by omega
    exact UInt8.toNat_inj.1 e2

theorem bt_append_left (a b : ByteArray) (k : Nat) (h : k < a.size) : bt (a ++ b) k = bt a k := by
  have hs : (a ++ b).size = a.size + b.size := ByteArray.size_append
  unfold bt
  rw [dif_pos h, dif_pos (by omega)]
  rw [ByteArray.getElem_append_left h]

theorem bt_append_right (a b : ByteArray) (k : Nat) : bt (a ++ b) (a.size + k) = bt b k := by
  have hs : (a ++ b).size = a.size + b.size := ByteArray.size_append
  unfold bt
  by_cases h : k < b.size
  · rw [dif_pos h, dif_pos (by omega)]
    rw [ByteArray.getElem_append_right (by omega)]
    simp
  · rw [dif_neg h, dif_neg (by omega)]

theorem bt_extract (a : ByteArray) (i j k : Nat) (h : i + k < j) (hj : j ≤ a.size) : bt (a.extract i j) k = bt a (i + k) := by
  have hs : (a.extract i j).size = min j a.size - i := ByteArray.size_extract
  unfold bt
  rw [dif_pos (by omega), dif_pos (by omega)]
  rw [ByteArray.getElem_extract]

-- the number's last k bytes, the highest first
def lowB (v : Int) : Nat → List Int
  | 0 => []
  | k + 1 => (v / 256 ^ k % 256) :: lowB v k
theorem lowB_length (v : Int) (k : Nat) : (lowB v k).length = k := by
  induction k with
  | zero => rfl
  | succ k ih => simp [lowB, ih]

-- the padding
def zerosF (n : Nat) : Nat := (119 - n % 64) % 64
def bitsF (n : Nat) : Int := (n : Int) * 8 % 18446744073709551616
def padL (n : Nat) : List Int := 128 :: (List.replicate (zerosF n) 0 ++ lowB (bitsF n) 8)
theorem padL_length (n : Nat) : (padL n).length = 9 + zerosF n := by simp [padL, lowB_length]; omega
def padN (n : Nat) : Nat := (n + (9 + zerosF n)) / 64
theorem padN_mul (n : Nat) : 64 * padN n = n + (9 + zerosF n) := by unfold padN zerosF; omega
def padB (s : ByteArray) : ByteArray := s ++ str (padL s.size)
theorem padB_size (s : ByteArray) : (padB s).size = 64 * padN s.size := by
  rw [padN_mul, padB, ByteArray.size_append, str_size, padL_length]

-- the words as bytes
def wordB (x : Int) : List Int := [x / 16777216 % 256, x / 65536 % 256, x / 256 % 256, x % 256]
def bytesL : List Int → List Int
  | [] => []
  | x :: l => wordB x ++ bytesL l
theorem bytesL_snoc (l : List Int) (x : Int) : bytesL (l ++ [x]) = bytesL l ++ wordB x := by
  induction l with
  | nil => simp [bytesL]
  | cons y l ih => simp [bytesL, ih]
theorem bytesL_length (l : List Int) : (bytesL l).length = 4 * l.length := by
  induction l with
  | nil => rfl
  | cons y l ih => simp [bytesL, wordB, ih]; omega

def textF (s : St) : ByteArray := str (bytesL s.list)
theorem textF_size (s : St) : (textF s).size = 32 := by rw [textF, str_size, bytesL_length]; rfl

-- the hash
def shaF (kk : Nat → Int) (v : St) (s : ByteArray) : ByteArray := textF (hs kk (bt (padB s)) v (padN s.size))
theorem shaF_size (kk : Nat → Int) (v : St) (s : ByteArray) : (shaF kk v s).size = 32 := textF_size _
end Go.Proofs.YtajfcddabkhamaaDoor.pl

namespace Go.Proofs.YtajfcddabkhamaaDoor.ra
open Go.RowKit Go.PlainAid
open Go.Proofs.YtajfcddabkhamaaDoor.pl
set_option linter.unusedVariables false

theorem rotr (x : Int) (n : Nat) (w : World) (h0 : 0 ≤ x) (h1 : x < 4294967296) (hn : 1 ≤ n) (hn' : n ≤ 31) :
    Calls Tryd.prog 59 #[.int .u32 x, .int .u64 n] w fun e w' => e = .returned (.int .u32 (ROT x n)) ∧ w' = w := by
  go_enter Tryd.func59, Tryd.ntmps59
  go_wp2
  go_ret
  exact ⟨rfl, rfl⟩

set_option maxHeartbeats 800000 in
theorem word (B off len cap p : Nat) (c0 c1 c2 c3 : Int) (w : World) (hp : p + 3 < len) (hl : len ≤ 140737488355328)
    (b0 : 0 ≤ c0 ∧ c0 ≤ 255) (b1 : 0 ≤ c1 ∧ c1 ≤ 255) (b2 : 0 ≤ c2 ∧ c2 ≤ 255) (b3 : 0 ≤ c3 ∧ c3 ≤ 255)
    (e0 : w.cell? ⟨B, off + p, none⟩ = some (.int .u8 c0)) (e1 : w.cell? ⟨B, off + (p + 1), none⟩ = some (.int .u8 c1)) (e2 : w.cell? ⟨B, off + (p + 2), none⟩ = some (.int .u8 c2)) (e3 : w.cell? ⟨B, off + (p + 3), none⟩ = some (.int .u8 c3)) :
    Calls Tryd.prog 64 #[.slice (some ⟨B, off, none⟩) len cap, .int .i64 p] w fun e w' => e = .returned (.int .u32 (WORD c0 c1 c2 c3)) ∧ ∃ n, w' = w.drewN n := by
  have g0 : (p : Int) < len := by omega
  have g1 : (p : Int) + 1 < len := by omega
  have g2 : (p : Int) + 2 < len := by omega
  have g3 : (p : Int) + 3 < len := by omega
  go_enter Tryd.func64, Tryd.ntmps64
  go_wp2_with fail
  go_quiet (fail)
  go_wp2
  go_ret
  exact ⟨rfl, nq, rfl⟩

theorem setCell_drewN (w : World) (n : Nat) (a : Addr) (v : Value) : (w.drewN n).setCell a v = (w.setCell a v).drewN n := rfl

theorem rotr' (x : Int) (n : Nat) (N : Int) (hN : N = n) (w : World) (h0 : 0 ≤ x) (h1 : x < 4294967296) (hn : 1 ≤ n) (hn' : n ≤ 31) :
    Calls Tryd.prog 59 #[.int .u32 x, .int .u64 N] w fun e w' => e = .returned (.int .u32 (ROT x n)) ∧ w' = w := by
  subst hN
  exact rotr x n w h0 h1 hn hn'

def Bytes (w : World) (B off len : Nat) (g : Nat → Int) : Prop := B < w.heap.size ∧ ∀ j, j < len → w.cell? ⟨B, off + j, none⟩ = some (.int .u8 (g j)) ∧ 0 ≤ g j ∧ g j ≤ 255

theorem store_next (W : World) (m N : Nat) (l l' : List Int) (t : Nat) (v x : Int) (hN : N = W.heap.size) (hv : v = x) (hset : l.set t x = l') :
    ((W.alloc (.cells (row32 l) 97)).drewN m).setCell ⟨N, t, none⟩ (.int .u32 v) = (W.alloc (.cells (row32 l') 97)).drewN m := by
  rw [setCell_drewN, World.setCell_alloc_at _ _ _ _ _ hN, hv, row32_set, hset]

set_option maxHeartbeats 1600000 in
theorem schedule (B off len cap p : Nat) (g : Nat → Int) (w : World) (hp : p + 63 < len) (hl : len ≤ 140737488355328) (HB : Hid (Bytes w B off len g)) :
    Calls Tryd.prog 58 #[.slice (some ⟨B, off, none⟩) len cap, .int .i64 p] w fun e w' => e = .returned (.agg (row32 (wL g p 64))) ∧ Below w.heap.size w w' := by
  obtain ⟨hBw, hcells⟩ := HB.out
  have HC : Hid _ := hcells
  clear hcells
  go_enter Tryd.func58, Tryd.ntmps58
  go_wp2_with fail
  go_loopw [6] (fun i wr => ∃ k n : Nat, k ≤ 16 ∧ i = .int .i64 k ∧ wr = ((w.alloc (.cells z64 97)).alloc (.cells (row32 (fillW g p k)) 97)).drewN n) (fun i _ => (16 - intOf i).toNat)
  case atStart => exact ⟨0, 0, by omega, rfl, rfl⟩
  case round =>
    obtain ⟨k, n, hk, rfl, rfl⟩ := hrel
    by_cases hlt : k < 16
    · have hlt' : (k : Int) < 16 := by omega
      have hsz : k < (row32 (fillW g p k)).size := by rw [row32_size, fillW_length g p k (by omega)]; omega
      have hcr : ∀ j, j < len → (((w.alloc (.cells z64 97)).alloc (.cells (row32 (fillW g p k)) 97)).drewN n).cell? ⟨B, off + j, none⟩ = some (.int .u8 (g j)) := by
        intro j hj
        rw [World.cell?_drewN, World.cell?_alloc_lt _ _ _ (by simp; omega), World.cell?_alloc_lt _ _ _ hBw]
        exact (HC.out j hj).1
      have HCR : Hid _ := hcr
      clear hcr
      have HX : Hid _ := fillW_set g p k _ (by omega) (wL_low g p k hlt)
      go_wp2_with fail
      rw [show (p : Int) + 4 * (k : Int) = ((p + 4 * k : Nat) : Int) by omega]
      refine (word B off len cap (p + 4 * k) (g (p + 4 * k)) (g (p + 4 * k + 1)) (g (p + 4 * k + 2)) (g (p + 4 * k + 3)) _ (by omega) hl (HC.out _ (by omega)).2 (HC.out _ (by omega)).2 (HC.out _ (by omega)).2 (HC.out _ (by omega)).2 (HCR.out _ (by omega)) (HCR.out _ (by omega)) (HCR.out _ (by omega)) (HCR.out _ (by omega))).mono ?_
      rintro e w' ⟨rfl, m, rfl⟩
      go_wp2
      go_roundw
      case rel => exact ⟨k + 1, n + m, by omega, by go_num, by rw [setCell_drewN, World.setCell_alloc_at _ _ _ _ _ (by simp), row32_set, HX.out]⟩
      case measure => simp [intOf]; omega
    · have hlt' : ¬ (k : Int) < 16 := by omega
      obtain rfl : k = 16 := by omega
      go_wp2_with fail
      go_loopw [7] (fun i wr => ∃ t m : Nat, 16 ≤ t ∧ t ≤ 64 ∧ i = .int .i64 t ∧ wr = ((w.alloc (.cells z64 97)).alloc (.cells (row32 (fillW g p t)) 97)).drewN m) (fun i _ => (64 - intOf i).toNat)
      case atStart => exact ⟨16, n, by omega, by omega, rfl, rfl⟩
      case round =>
        obtain ⟨t, m, ht1, ht2, rfl, rfl⟩ := hrel
        by_cases hlt : t < 64
        · have hlt' : (t : Int) < 64 := by omega
          have HX : Hid _ := fillW_set g p t _ hlt (wL_high g p t (by omega))
          have hsz : t < (row32 (fillW g p t)).size := by rw [row32_size, fillW_length g p t (by omega)]; omega
          have get : ∀ d, 1 ≤ d → d ≤ 16 → (row32 (fillW g p t))[t - d]? = some (.int .u32 ((wL g p t).getD (t - d) 0)) := by
            intro d h1 h2
            rw [row32_get, fillW_get g p t (t - d) (by omega)]; rfl
          have g15 := get 15 (by omega) (by omega)
          have g2 := get 2 (by omega) (by omega)
          have g7 := get 7 (by omega) (by omega)
          have g16 := get 16 (by omega) (by omega)
          have r15 := wL_range g p t (t - 15)
          have r2 := wL_range g p t (t - 2)
          clear get
          have HN : Hid (nextW (wL g p t) t = (S1 ((wL g p t).getD (t - 2) 0) + (wL g p t).getD (t - 7) 0 + S0 ((wL g p t).getD (t - 15) 0) + (wL g p t).getD (t - 16) 0) % 4294967296) := rfl
          revert HN g15 g2 g7 g16 r15 r2
          generalize (wL g p t).getD (t - 15) 0 = x15
          generalize (wL g p t).getD (t - 2) 0 = x2
          generalize (wL g p t).getD (t - 7) 0 = x7
          generalize (wL g p t).getD (t - 16) 0 = x16
          intro g15 g2 g7 g16 r15 r2 HN
          obtain ⟨r15a, r15b⟩ := r15
          obtain ⟨r2a, r2b⟩ := r2
          go_wp2_with fail
          refine (rotr' x15 7 7 rfl _ r15a r15b (by omega) (by omega)).mono ?_
          rintro e w' ⟨rfl, rfl⟩
          go_wp2_with fail
          refine (rotr' x15 18 18 rfl _ r15a r15b (by omega) (by omega)).mono ?_
          rintro e w' ⟨rfl, rfl⟩
          go_wp2_with fail
          refine (rotr' x2 17 17 rfl _ r2a r2b (by omega) (by omega)).mono ?_
          rintro e w' ⟨rfl, rfl⟩
          go_wp2_with fail
          refine (rotr' x2 19 19 rfl _ r2a r2b (by omega) (by omega)).mono ?_
          rintro e w' ⟨rfl, rfl⟩
          go_wp2_with fail
          go_region
          go_wp2
          go_roundw
          case rel => exact ⟨t + 1, m + 1, by omega, by omega, by go_num, store_next _ _ _ _ _ _ _ _ (by simp) HN.out.symm HX.out⟩
          case measure => simp [intOf]; omega
        · have hlt' : ¬ (t : Int) < 64 := by omega
          obtain rfl : t = 64 := by omega
          have hf : fillW g p 64 = wL g p 64 := by simp [fillW]
          rw [hf]
          have hlen : (row32 (wL g p 64)).size = 64 := by rw [row32_size, wL_length]
          have hi : (Tryd.prog.info? 97).map (·.size) = some (row32 (wL g p 64)).size := by rw [hlen]; kernel_rfl
          have h1 : ((((w.alloc (.cells z64 97)).alloc (.cells (row32 (wL g p 64)) 97)).drewN m).heap)[w.heap.size + 1]? = some (.cells (row32 (wL g p 64)) 97 (0, 0)) := heap_alloc2_new w _ _
          have h2 : ((((w.alloc (.cells z64 97)).alloc (.cells (row32 (wL g p 64)) 97)).drewN m).heap)[w.heap.size]? = some (.cells z64 97 (0, 0)) := heap_alloc2_old w _ _
          have h3 : (row32 (wL g p 64)).all (·.oneCell') = true := by simp [row32, Value.oneCell']
          have h4 : z64.size = (row32 (wL g p 64)).size := by rw [hlen]; rfl
          have HI : Hid _ := hi; have H1 : Hid _ := h1; have H2 : Hid _ := h2; have H3 : Hid _ := h3; have H4 : Hid _ := h4
          clear hf hlen hi h1 h2 h3 h4
          go_wp2_with (first | (refine wpList_load_row rfl 97 (.tmp 5) rfl (w.heap.size + 1) rfl 97 (row32 (wL g p 64)) (0, 0) _ H1.out Tryd.underlying97 rfl HI.out ?_) | (refine wpList_store_row rfl 97 (.tmp 4) (.tmp 67) rfl w.heap.size (row32 (wL g p 64)) rfl rfl 97 z64 H2.out HI.out H4.out H3.out ?_))
          exact bodyPost_ret (v := .agg (row32 (wL g p 64))) (results_cell_row Tryd.results58 _ _ w.heap.size 97 _ (0, 0) _ rfl (setRow_heap _ _ _ _ _ _ H2.out) Tryd.underlying97 rfl HI.out) rfl ⟨rfl, below_setRow (below_drewN (((Below.refl _ _).alloc (Nat.le_refl _) _).alloc (by simp) _) m) (Nat.le_refl _) _⟩
end Go.Proofs.YtajfcddabkhamaaDoor.ra
