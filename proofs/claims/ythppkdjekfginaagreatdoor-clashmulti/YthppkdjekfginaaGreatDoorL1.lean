import Derived.Test.YthppkdjekfginaaGreatDoorG1
import Derived.Test.YthppkdjekfginaaGreatDoorG4
import Derived.Deep.RegionHeld3
import Derived.BigQuiet
import Derived.Handy
import Derived.Test.YthppkdjekfginaaGreatDoorG5
namespace Go.Proofs.YthppkdjekfginaaGreatDoor.ta
open Go.Proofs.YthppkdjekfginaaGreatDoor.ca Go.Proofs.YthppkdjekfginaaGreatDoor.cb Go.Proofs.YthppkdjekfginaaGreatDoor.ga Go.Proofs.YthppkdjekfginaaGreatDoor.aa
set_option linter.unusedVariables false

-- a part of a tree: its hash alone; a leaf with its hash; what is above two parts
inductive Pt where
  | bare (h : ByteArray)
  | leaf (s l : ByteArray)
  | node (s : ByteArray) (l r : Pt)
def Pt.sum : Pt → ByteArray
  | .bare h => h
  | .leaf s _ => s
  | .node s _ _ => s
def tx0 (l : ByteArray) : ByteArray := (⟨#[0]⟩ : ByteArray) ++ l
def tx1 (l r : ByteArray) : ByteArray := (⟨#[1]⟩ : ByteArray) ++ l ++ r
def Pt.text : Pt → ByteArray
  | .bare _ => ByteArray.empty
  | .leaf _ l => tx0 l
  | .node _ l r => tx1 l.sum r.sum
-- the first known part whose texts are unlike
def fst1 : Pt → Pt → Option (ByteArray × ByteArray)
  | .bare _, _ => none
  | .leaf s l, u => if (Pt.leaf s l).text = u.text then none else some ((Pt.leaf s l).text, u.text)
  | .node s l r, .node s' l' r' => if (Pt.node s l r).text = (Pt.node s' l' r').text then (match fst1 l l' with | some c => some c | none => fst1 r r') else some ((Pt.node s l r).text, (Pt.node s' l' r').text)
  | .node s l r, u => if (Pt.node s l r).text = u.text then none else some ((Pt.node s l r).text, u.text)
-- alike in shape
def Alike : Pt → Pt → Prop
  | .bare _, .bare _ => True
  | .leaf _ _, .leaf _ _ => True
  | .node _ l r, .node _ l' r' => Alike l l' ∧ Alike r r'
  | _, _ => False
-- the sums are the texts' hashes, k bytes each
def Right (H : ByteArray → ByteArray) (k : Nat) : Pt → Prop
  | .bare h => h.size = k
  | .leaf s l => s = H (tx0 l)
  | .node s l r => s = H (tx1 l.sum r.sum) ∧ Right H k l ∧ Right H k r
-- the leaves that are known
def lvs : Pt → List ByteArray
  | .bare _ => []
  | .leaf _ l => [l]
  | .node _ l r => lvs l ++ lvs r
-- the hashes that are bare
def brs : Pt → List ByteArray
  | .bare h => [h]
  | .leaf _ _ => []
  | .node _ l r => brs l ++ brs r
theorem Right.size {H : ByteArray → ByteArray} {k : Nat} (hk : ∀ x, (H x).size = k) : ∀ {t : Pt}, Right H k t → t.sum.size = k
  | .bare h, q => q
  | .leaf s l, q => by
    have : s = H (tx0 l) := q
    show s.size = k
    rw [this, hk]
  | .node s l r, q => by
    have : s = H (tx1 l.sum r.sum) := q.1
    show s.size = k
    rw [this, hk]
theorem tx0_inj {a b : ByteArray} (h : tx0 a = tx0 b) : a = b := by
  unfold tx0 at h
  have h2 := congrArg (fun x => x.data.toList) h
  simp only [ByteArray.data_append, Array.toList_append] at h2
  have := List.append_cancel_left h2
  exact ByteArray.ext (Array.ext' this)
theorem tx1_inj {a b c d : ByteArray} (h : tx1 a b = tx1 c d) (hs : a.size = c.size) : a = c ∧ b = d := by
  unfold tx1 at h
  have h2 := congrArg (fun x => x.data.toList) h
  simp only [ByteArray.data_append, Array.toList_append, List.append_assoc] at h2
  have h3 := List.append_cancel_left h2
  have h4 := List.append_inj h3 (by simpa using hs)
  exact ⟨ByteArray.ext (Array.ext' h4.1), ByteArray.ext (Array.ext' h4.2)⟩
-- from a hash that both have: two unlike texts with one hash, or all is alike
theorem fst_sound {H : ByteArray → ByteArray} {k : Nat} (hk : ∀ x, (H x).size = k) : ∀ (t u : Pt), Alike t u → Right H k t → Right H k u → t.sum = u.sum →
    (∃ A B, fst1 t u = some (A, B) ∧ A ≠ B ∧ H A = H B) ∨ (fst1 t u = none ∧ lvs t = lvs u ∧ brs t = brs u)
  | .bare h, .bare h', _, _, _, e => .inr ⟨by simp [fst1], rfl, by show [h] = [h']; rw [show h = h' from e]⟩
  | .leaf s l, .leaf s' l', _, q, q', e => by
    by_cases hx : (Pt.leaf s l).text = (Pt.leaf s' l').text
    · refine .inr ⟨by rw [fst1, if_pos hx], ?_, rfl⟩
      show [l] = [l']
      rw [tx0_inj (show tx0 l = tx0 l' from hx)]
    · refine .inl ⟨_, _, by rw [fst1, if_neg hx], hx, ?_⟩
      have e1 : s = H (tx0 l) := q
      have e2 : s' = H (tx0 l') := q'
      show H (tx0 l) = H (tx0 l')
      rw [← e1, ← e2]
      exact e
  | .node s l r, .node s' l' r', a, q, q', e => by
    by_cases hx : (Pt.node s l r).text = (Pt.node s' l' r').text
    · have hh := tx1_inj (show tx1 l.sum r.sum = tx1 l'.sum r'.sum from hx) ((Right.size hk q.2.1).trans (Right.size hk q'.2.1).symm)
      have i1 := fst_sound hk l l' a.1 q.2.1 q'.2.1 hh.1
      have i2 := fst_sound hk r r' a.2 q.2.2 q'.2.2 hh.2
      have e0 : fst1 (Pt.node s l r) (Pt.node s' l' r') = (match fst1 l l' with | some c => some c | none => fst1 r r') := by rw [fst1, if_pos hx]
      rw [e0]
      rcases i1 with ⟨A, B, f, g⟩ | ⟨f, g1, g2⟩
      · exact .inl ⟨A, B, by rw [f], g⟩
      · rw [f]
        rcases i2 with ⟨A, B, f2, g⟩ | ⟨f2, g3, g4⟩
        · exact .inl ⟨A, B, f2, g⟩
        · exact .inr ⟨f2, by show lvs l ++ lvs r = lvs l' ++ lvs r'; rw [g1, g3], by show brs l ++ brs r = brs l' ++ brs r'; rw [g2, g4]⟩
    · refine .inl ⟨_, _, by rw [fst1, if_neg hx], hx, ?_⟩
      have e1 : s = H (tx1 l.sum r.sum) := q.1
      have e2 : s' = H (tx1 l'.sum r'.sum) := q'.1
      show H (tx1 l.sum r.sum) = H (tx1 l'.sum r'.sum)
      rw [← e1, ← e2]
      exact e
-- a tree that is filled: lk: 0 a leaf, 1 its hash alone, 2 left half first, else right half first
section
variable {X : Type} (H : ByteArray → ByteArray) (lk : Nat → Nat → Nat) (lf : Nat → ByteArray) (hs : X → Nat → Nat → ByteArray × X)
def ab (l r : Pt) : Pt := .node (H (tx1 l.sum r.sum)) l r
def gw (x : X) (a b : Nat) : Pt × X :=
  if lk a b = 1 then (.bare (hs x a b).1, (hs x a b).2)
  else if h : 2 ≤ b - a then
    if lk a b = 2 then
      (ab H (gw x a (a + half (b - a))).1 (gw (gw x a (a + half (b - a))).2 (a + half (b - a)) b).1, (gw (gw x a (a + half (b - a))).2 (a + half (b - a)) b).2)
    else
      (ab H (gw (gw x (a + half (b - a)) b).2 a (a + half (b - a))).1 (gw x (a + half (b - a)) b).1, (gw (gw x (a + half (b - a)) b).2 a (a + half (b - a))).2)
  else (.leaf (H (tx0 (lf a))) (lf a), x)
termination_by b - a
decreasing_by all_goals (have := half_lt h; omega)
end
section
variable {X : Type} {H : ByteArray → ByteArray} {lk : Nat → Nat → Nat} {lf : Nat → ByteArray} {hs : X → Nat → Nat → ByteArray × X} {x : X} {a b : Nat}
theorem gw_bare (h : lk a b = 1) : gw H lk lf hs x a b = (.bare (hs x a b).1, (hs x a b).2) := by rw [gw, if_pos h]
theorem gw_leaf (h : lk a b ≠ 1) (h2 : ¬ 2 ≤ b - a) : gw H lk lf hs x a b = (.leaf (H (tx0 (lf a))) (lf a), x) := by rw [gw, if_neg h, dif_neg h2]
theorem gw_left (h : lk a b = 2) (h2 : 2 ≤ b - a) : gw H lk lf hs x a b = (ab H (gw H lk lf hs x a (a + half (b - a))).1 (gw H lk lf hs (gw H lk lf hs x a (a + half (b - a))).2 (a + half (b - a)) b).1, (gw H lk lf hs (gw H lk lf hs x a (a + half (b - a))).2 (a + half (b - a)) b).2) := by rw [gw, if_neg (by omega), dif_pos h2, if_pos h]
theorem gw_right (h : lk a b ≠ 1) (h3 : lk a b ≠ 2) (h2 : 2 ≤ b - a) : gw H lk lf hs x a b = (ab H (gw H lk lf hs (gw H lk lf hs x (a + half (b - a)) b).2 a (a + half (b - a))).1 (gw H lk lf hs x (a + half (b - a)) b).1, (gw H lk lf hs (gw H lk lf hs x (a + half (b - a)) b).2 a (a + half (b - a))).2) := by rw [gw, if_neg h, dif_pos h2, if_neg h3]
end
-- two fillings of one shape are alike
theorem gw_alike {X Y : Type} (H : ByteArray → ByteArray) (lk : Nat → Nat → Nat) (lf lf' : Nat → ByteArray) (hs : X → Nat → Nat → ByteArray × X) (hs' : Y → Nat → Nat → ByteArray × Y) (n : Nat) : ∀ (a b : Nat) (x : X) (y : Y), b - a = n → Alike (gw H lk lf hs x a b).1 (gw H lk lf' hs' y a b).1 := by
  induction n using Nat.strongRecOn with
  | ind n ih =>
    intro a b x y hn
    by_cases h1 : lk a b = 1
    · rw [gw_bare h1, gw_bare h1]; trivial
    by_cases h2 : 2 ≤ b - a
    · have hh := half_lt h2
      by_cases h3 : lk a b = 2
      · rw [gw_left h3 h2, gw_left h3 h2]
        exact ⟨ih (half (b - a)) (by omega) _ _ _ _ (by omega), ih (b - (a + half (b - a))) (by omega) _ _ _ _ rfl⟩
      · rw [gw_right h1 h3 h2, gw_right h1 h3 h2]
        exact ⟨ih (half (b - a)) (by omega) _ _ _ _ (by omega), ih (b - (a + half (b - a))) (by omega) _ _ _ _ rfl⟩
    · rw [gw_leaf h1 h2, gw_leaf h1 h2]; trivial
end Go.Proofs.YthppkdjekfginaaGreatDoor.ta

namespace Go.Proofs.YthppkdjekfginaaGreatDoor.tb
open Go.Proofs.YthppkdjekfginaaGreatDoor.ca Go.Proofs.YthppkdjekfginaaGreatDoor.cb Go.Proofs.YthppkdjekfginaaGreatDoor.ga Go.Proofs.YthppkdjekfginaaGreatDoor.aa Go.Proofs.YthppkdjekfginaaGreatDoor.ta
set_option linter.unusedVariables false

-- the hashes of a proof, one behind the other
def nx (x : List ByteArray) (a b : Nat) : ByteArray × List ByteArray := (x.headD ByteArray.empty, x.drop 1)
section
variable {H : ByteArray → ByteArray} {lk : Nat → Nat → Nat} {lf : Nat → ByteArray} {k : Nat}
theorem gw_nx (hz : ∀ a b, lk a b = 0 → ¬ 2 ≤ b - a) (n : Nat) : ∀ (a b : Nat) (x : List ByteArray), b - a = n → (gw H lk lf nx x a b).2 = x.drop (WL lk a b).length := by
  induction n using Nat.strongRecOn with
  | ind n ih =>
    intro a b x hn
    by_cases h1 : lk a b = 1
    · rw [gw_bare h1, WL_take h1]; rfl
    by_cases h2 : 2 ≤ b - a
    · have hh := half_lt h2
      by_cases h3 : lk a b = 2
      · rw [gw_left h3 h2, WL_left h3 h2]
        simp only
        rw [ih (half (b - a)) (by omega) a _ x (by omega), ih (b - (a + half (b - a))) (by omega) _ _ _ rfl, List.drop_drop, List.length_append]
      · have h0 : lk a b ≠ 0 := fun e => hz a b e h2
        rw [gw_right h1 h3 h2, WL_right (by omega) h2]
        simp only
        rw [ih (b - (a + half (b - a))) (by omega) _ _ x rfl, ih (half (b - a)) (by omega) a _ _ (by omega), List.drop_drop, List.length_append]
    · rw [gw_leaf h1 h2, WL, if_neg h1, dif_neg h2]
      by_cases h0 : lk a b = 0
      · rw [if_pos h0]; rfl
      · rw [if_neg h0]; rfl
theorem gw_right_nx (hk : ∀ x, (H x).size = k) (hz : ∀ a b, lk a b = 0 → ¬ 2 ≤ b - a) (n : Nat) : ∀ (a b : Nat) (x : List ByteArray), b - a = n → (WL lk a b).length ≤ x.length → (∀ h ∈ x, h.size = k) → Right H k (gw H lk lf nx x a b).1 := by
  induction n using Nat.strongRecOn with
  | ind n ih =>
    intro a b x hn hl hw
    by_cases h1 : lk a b = 1
    · rw [gw_bare h1]
      rw [WL_take h1] at hl
      cases x with
      | nil => simp at hl
      | cons y t => exact hw y (by simp)
    by_cases h2 : 2 ≤ b - a
    · have hh := half_lt h2
      by_cases h3 : lk a b = 2
      · rw [WL_left h3 h2, List.length_append] at hl
        rw [gw_left h3 h2, gw_nx hz _ _ _ _ rfl]
        exact ⟨rfl, ih (half (b - a)) (by omega) _ _ _ (by omega) (by omega) hw, ih (b - (a + half (b - a))) (by omega) _ _ _ rfl (by rw [List.length_drop]; omega) (fun h hh => hw h (List.mem_of_mem_drop hh))⟩
      · have h0 : lk a b ≠ 0 := fun e => hz a b e h2
        rw [WL_right (by omega) h2, List.length_append] at hl
        rw [gw_right h1 h3 h2, gw_nx hz _ _ _ _ rfl]
        exact ⟨rfl, ih (half (b - a)) (by omega) _ _ _ (by omega) (by rw [List.length_drop]; omega) (fun h hh => hw h (List.mem_of_mem_drop hh)), ih (b - (a + half (b - a))) (by omega) _ _ _ rfl (by omega) hw⟩
    · rw [gw_leaf h1 h2]
      exact rfl
-- the list's own parts
def ow (R : Nat → Nat → ByteArray) (x : Unit) (a b : Nat) : ByteArray × Unit := (R a b, ())
theorem gw_own {R : Nat → Nat → ByteArray} (h1 : ∀ a b, b - a = 1 → b ≤ k → R a b = H (tx0 (lf a))) (h2 : ∀ a b, 2 ≤ b - a → b ≤ k → R a b = H (tx1 (R a (a + half (b - a))) (R (a + half (b - a)) b))) (n : Nat) : ∀ (a b : Nat), b - a = n → a < b → b ≤ k → (gw H lk lf (ow R) () a b).1.sum = R a b := by
  induction n using Nat.strongRecOn with
  | ind n ih =>
    intro a b hn hab hbk
    by_cases g1 : lk a b = 1
    · rw [gw_bare g1]; rfl
    by_cases g2 : 2 ≤ b - a
    · have hh := half_lt g2
      by_cases h3 : lk a b = 2
      · rw [gw_left h3 g2, h2 a b g2 hbk, ← ih (half (b - a)) (by omega) a (a + half (b - a)) (by omega) (by omega) (by omega), ← ih (b - (a + half (b - a))) (by omega) (a + half (b - a)) b rfl (by omega) hbk]
        rfl
      · rw [gw_right g1 h3 g2, h2 a b g2 hbk, ← ih (half (b - a)) (by omega) a (a + half (b - a)) (by omega) (by omega) (by omega), ← ih (b - (a + half (b - a))) (by omega) (a + half (b - a)) b rfl (by omega) hbk]
        rfl
    · rw [gw_leaf g1 g2, h1 a b (by omega) hbk]; rfl
theorem gw_right_own {R : Nat → Nat → ByteArray} (hs : ∀ a b, (R a b).size = k) (n : Nat) : ∀ (a b : Nat), b - a = n → Right H k (gw H lk lf (ow R) () a b).1 := by
  induction n using Nat.strongRecOn with
  | ind n ih =>
    intro a b hn
    by_cases g1 : lk a b = 1
    · rw [gw_bare g1]; exact hs a b
    by_cases g2 : 2 ≤ b - a
    · have hh := half_lt g2
      by_cases h3 : lk a b = 2
      · rw [gw_left h3 g2]
        exact ⟨rfl, ih (half (b - a)) (by omega) _ _ (by omega), ih (b - (a + half (b - a))) (by omega) _ _ rfl⟩
      · rw [gw_right g1 h3 g2]
        exact ⟨rfl, ih (half (b - a)) (by omega) _ _ (by omega), ih (b - (a + half (b - a))) (by omega) _ _ rfl⟩
    · rw [gw_leaf g1 g2]; exact rfl
end
-- the places of the leaves that are known
def LP (lk : Nat → Nat → Nat) (a b : Nat) : List Nat :=
  if lk a b = 1 then [] else if h : 2 ≤ b - a then LP lk a (a + half (b - a)) ++ LP lk (a + half (b - a)) b else [a]
termination_by b - a
decreasing_by all_goals (have := half_lt h; omega)
theorem LP_bare {lk : Nat → Nat → Nat} {a b : Nat} (h : lk a b = 1) : LP lk a b = [] := by rw [LP, if_pos h]
theorem LP_two {lk : Nat → Nat → Nat} {a b : Nat} (h : lk a b ≠ 1) (h2 : 2 ≤ b - a) : LP lk a b = LP lk a (a + half (b - a)) ++ LP lk (a + half (b - a)) b := by rw [LP, if_neg h, dif_pos h2]
theorem LP_leaf {lk : Nat → Nat → Nat} {a b : Nat} (h : lk a b ≠ 1) (h2 : ¬ 2 ≤ b - a) : LP lk a b = [a] := by rw [LP, if_neg h, dif_neg h2]
theorem gw_lvs {X : Type} {H : ByteArray → ByteArray} {lk : Nat → Nat → Nat} {lf : Nat → ByteArray} {hs : X → Nat → Nat → ByteArray × X} (n : Nat) : ∀ (a b : Nat) (x : X), b - a = n → lvs (gw H lk lf hs x a b).1 = (LP lk a b).map lf := by
  induction n using Nat.strongRecOn with
  | ind n ih =>
    intro a b x hn
    by_cases g1 : lk a b = 1
    · rw [gw_bare g1, LP_bare g1]; rfl
    by_cases g2 : 2 ≤ b - a
    · have hh := half_lt g2
      by_cases h3 : lk a b = 2
      · rw [gw_left h3 g2, LP_two g1 g2, List.map_append, ← ih (half (b - a)) (by omega) a (a + half (b - a)) x (by omega), ← ih (b - (a + half (b - a))) (by omega) (a + half (b - a)) b (gw H lk lf hs x a (a + half (b - a))).2 rfl]
        rfl
      · rw [gw_right g1 h3 g2, LP_two g1 g2, List.map_append, ← ih (half (b - a)) (by omega) a (a + half (b - a)) (gw H lk lf hs x (a + half (b - a)) b).2 (by omega), ← ih (b - (a + half (b - a))) (by omega) (a + half (b - a)) b x rfl]
        rfl
    · rw [gw_leaf g1 g2, LP_leaf g1 g2]; rfl
-- one place
theorem LP_one (i : Nat) (n : Nat) : ∀ a b, b - a = n → a < b → LP (lkI i) a b = if a ≤ i ∧ i < b then [i] else [] := by
  induction n using Nat.strongRecOn with
  | ind n ih =>
    intro a b hn hab
    by_cases h : a ≤ i ∧ i < b
    · rw [if_pos h]
      have g1 : lkI i a b ≠ 1 := by
        unfold lkI
        rw [if_pos h]
        split
        · omega
        · split <;> omega
      by_cases g2 : 2 ≤ b - a
      · have hh := half_lt g2
        rw [LP_two g1 g2, ih (half (b - a)) (by omega) a _ (by omega) (by omega), ih (b - (a + half (b - a))) (by omega) _ b rfl (by omega)]
        by_cases g : i < a + half (b - a)
        · rw [if_pos ⟨h.1, g⟩, if_neg (by omega)]; rfl
        · rw [if_neg (by omega), if_pos ⟨by omega, h.2⟩]; rfl
      · rw [LP_leaf g1 g2, show a = i by omega]
    · rw [if_neg h]
      exact LP_bare (by unfold lkI; rw [if_neg h])
theorem lkI_zero (i a b : Nat) (h : lkI i a b = 0) : ¬ 2 ≤ b - a := by
  unfold lkI at h
  split at h
  · split at h
    · omega
    · split at h <;> omega
  · omega
end Go.Proofs.YthppkdjekfginaaGreatDoor.tb

namespace Go.Proofs.YthppkdjekfginaaGreatDoor.td
open Go.Proofs.YthppkdjekfginaaGreatDoor.ca Go.Proofs.YthppkdjekfginaaGreatDoor.cb Go.Proofs.YthppkdjekfginaaGreatDoor.ga Go.Proofs.YthppkdjekfginaaGreatDoor.aa Go.Proofs.YthppkdjekfginaaGreatDoor.ta Go.Proofs.YthppkdjekfginaaGreatDoor.tb
set_option linter.unusedVariables false

-- those of a rising list that stand in a part
def inn (ps : List Nat) (a b : Nat) : List Nat := ps.filter fun p => decide (a ≤ p) && decide (p < b)
theorem inn_nil {ps : List Nat} {a b : Nat} (h : ¬ ∃ p ∈ ps, a ≤ p ∧ p < b) : inn ps a b = [] := by
  unfold inn
  rw [List.filter_eq_nil_iff]
  intro p hp e
  rw [Bool.and_eq_true, decide_eq_true_eq, decide_eq_true_eq] at e
  exact h ⟨p, hp, e⟩
theorem inn_split (ps : List Nat) (h : ps.Pairwise (· < ·)) {a m b : Nat} (h1 : a ≤ m) (h2 : m ≤ b) : inn ps a b = inn ps a m ++ inn ps m b := by
  induction ps with
  | nil => rfl
  | cons p t ih =>
    rw [List.pairwise_cons] at h
    have ih := ih h.2
    unfold inn at ih ⊢
    by_cases q1 : a ≤ p ∧ p < m
    · rw [List.filter_cons_of_pos (by simp; omega), List.filter_cons_of_pos (by simp; omega), List.filter_cons_of_neg (by simp; omega), ih]; rfl
    · by_cases q2 : m ≤ p ∧ p < b
      · have e : t.filter (fun p => decide (a ≤ p) && decide (p < m)) = [] := inn_nil (ps := t) (by
          rintro ⟨x, hx, _, x2⟩
          have := h.1 x hx
          omega)
        rw [List.filter_cons_of_pos (by simp; omega), List.filter_cons_of_neg (by simp; omega), List.filter_cons_of_pos (by simp; omega), ih, e]; rfl
      · rw [List.filter_cons_of_neg (by simp; omega), List.filter_cons_of_neg (by simp; omega), List.filter_cons_of_neg (by simp; omega), ih]
theorem inn_one (ps : List Nat) (h : ps.Pairwise (· < ·)) {a : Nat} (h1 : a ∈ ps) : inn ps a (a + 1) = [a] := by
  induction ps with
  | nil => simp at h1
  | cons p t ih =>
    rw [List.pairwise_cons] at h
    by_cases q : p = a
    · subst q
      have e : t.filter (fun x => decide (p ≤ x) && decide (x < p + 1)) = [] := inn_nil (ps := t) (by
        rintro ⟨x, hx, x1, x2⟩
        have := h.1 x hx
        omega)
      unfold inn
      rw [List.filter_cons_of_pos (by simp), e]
    · have h2 : a ∈ t := by
        rcases List.mem_cons.1 h1 with e | e
        · exact absurd e.symm q
        · exact e
      have ih := ih h.2 h2
      unfold inn at ih ⊢
      rw [List.filter_cons_of_neg (by simp; omega), ih]
theorem inn_all {ps : List Nat} {n : Nat} (h : ∀ p ∈ ps, p < n) : inn ps 0 n = ps := by
  unfold inn
  rw [List.filter_eq_self]
  intro p hp
  simp [h p hp]
theorem LP_many (ps : List Nat) (h : ps.Pairwise (· < ·)) (n : Nat) : ∀ a b, b - a = n → a < b → LP (lkM ps) a b = inn ps a b := by
  induction n using Nat.strongRecOn with
  | ind n ih =>
    intro a b hn hab
    by_cases g : ∃ p ∈ ps, a ≤ p ∧ p < b
    · have g1 : lkM ps a b ≠ 1 := by
        unfold lkM
        rw [if_pos g]
        split <;> omega
      by_cases g2 : 2 ≤ b - a
      · have hh := half_lt g2
        rw [LP_two g1 g2, ih (half (b - a)) (by omega) a _ (by omega) (by omega), ih (b - (a + half (b - a))) (by omega) _ b rfl (by omega)]
        exact (inn_split ps h (by omega) (by omega)).symm
      · obtain rfl : b = a + 1 := by omega
        obtain ⟨p, hp, p1, p2⟩ := g
        obtain rfl : p = a := by omega
        rw [LP_leaf g1 g2, inn_one ps h hp]
    · rw [LP_bare (by unfold lkM; rw [if_neg g]), inn_nil g]
theorem lkM_zero (ps : List Nat) (a b : Nat) (h : lkM ps a b = 0) : ¬ 2 ≤ b - a := by
  unfold lkM at h
  split at h
  · split at h <;> omega
  · omega
-- the claimed parts of a walk from left to right are its leaves
theorem claims_LP {lk : Nat → Nat → Nat} (fl : Nat → Nat → Nat) (hf : ∀ a b, fl a b = if lk a b = 0 then 1 else if lk a b = 1 then 0 else lk a b) (hz : ∀ a b, lk a b = 0 → ¬ 2 ≤ b - a) (hw : ∀ a b, a < b → lk a b ≠ 1 → 2 ≤ b - a → lk a b = 2) (hl : ∀ a b, a < b → lk a b ≠ 1 → ¬ 2 ≤ b - a → lk a b = 0) (n : Nat) :
    ∀ a b, b - a = n → a < b → WL fl a b = (LP lk a b).map fun p => (p, p + 1) := by
  induction n using Nat.strongRecOn with
  | ind n ih =>
    intro a b hn hab
    by_cases g1 : lk a b = 1
    · rw [WL_pass (by rw [hf, if_neg (by omega), if_pos g1]), LP_bare g1]; rfl
    by_cases g2 : 2 ≤ b - a
    · have hh := half_lt g2
      have e := hw a b hab g1 g2
      rw [WL_left (by rw [hf, if_neg (by omega), if_neg g1, e]) g2, LP_two g1 g2, List.map_append, ih (half (b - a)) (by omega) a _ (by omega) (by omega), ih (b - (a + half (b - a))) (by omega) _ b rfl (by omega)]
    · rw [WL_take (by rw [hf, if_pos (hl a b hab g1 g2)]), LP_leaf g1 g2, show b = a + 1 by omega]; rfl
end Go.Proofs.YthppkdjekfginaaGreatDoor.td

namespace Go.Proofs.YthppkdjekfginaaGreatDoor.ua
open Go.RowKit Go.PlainAid
open Go.Proofs.YthppkdjekfginaaGreatDoor.pl Go.Proofs.YthppkdjekfginaaGreatDoor.pi Go.Proofs.YthppkdjekfginaaGreatDoor.pj Go.Proofs.YthppkdjekfginaaGreatDoor.ca Go.Proofs.YthppkdjekfginaaGreatDoor.cb Go.Proofs.YthppkdjekfginaaGreatDoor.cp Go.Proofs.YthppkdjekfginaaGreatDoor.ga Go.Proofs.YthppkdjekfginaaGreatDoor.aa Go.Proofs.YthppkdjekfginaaGreatDoor.ba Go.Proofs.YthppkdjekfginaaGreatDoor.bb Go.Proofs.YthppkdjekfginaaGreatDoor.ka Go.Proofs.YthppkdjekfginaaGreatDoor.kb Go.Proofs.YthppkdjekfginaaGreatDoor.kc Go.Proofs.YthppkdjekfginaaGreatDoor.kp Go.Proofs.YthppkdjekfginaaGreatDoor.lk Go.Proofs.YthppkdjekfginaaGreatDoor.ta
set_option linter.unusedVariables false

def HH (wd : Int) (x : ByteArray) : ByteArray := cutS x wd
theorem HH_size (wd : Int) (x : ByteArray) : (HH wd x).size = wid wd := cutS_size _ _
theorem HH_le (wd : Int) (x : ByteArray) : (HH wd x).size ≤ 32 := by rw [HH_size]; unfold wid; split <;> omega
theorem below_dr {B : Nat} {a w : World} (h : Below B a w) : Below B a w.drew := ⟨h.os, h.tape, h.output, h.size, h.block⟩
theorem below_al {a w : World} (h : Below a.heap.size a w) (o : Obj) : Below a.heap.size a (w.alloc o) := h.alloc h.size o
-- a part in memory; its blocks begin at B
def IsP (B : Nat) (w : World) : Value → Pt → Prop
  | v, .bare h => v = .iface 128 (.string h)
  | v, .leaf s l => ∃ b, B ≤ b ∧ v = .iface 125 (.pointer (some ⟨b, 0, none⟩)) ∧ w.heap[b]? = some (.cells #[.string s, .string l, .nilIface, .nilIface] 131 (0, 0))
  | v, .node s l r => ∃ b vl vr, B ≤ b ∧ v = .iface 125 (.pointer (some ⟨b, 0, none⟩)) ∧ w.heap[b]? = some (.cells #[.string s, .string ⟨#[]⟩, vl, vr] 131 (0, 0)) ∧ IsP B w vl l ∧ IsP B w vr r
theorem IsP.keep {B : Nat} {w w' : World} {F : Nat → Prop} (k : Kp F w w') (hF : ∀ b, F b → b < B) : ∀ {v : Value} {t : Pt}, IsP B w v t → IsP B w' v t
  | v, .bare h, q => q
  | v, .leaf s l, ⟨b, h1, h2, h3⟩ => ⟨b, h1, h2, (k.block b (Array.getElem?_eq_some_iff.1 h3).1 (fun e => by have := hF b e; omega)).trans h3⟩
  | v, .node s l r, ⟨b, vl, vr, h1, h2, h3, h4, h5⟩ => ⟨b, vl, vr, h1, h2, (k.block b (Array.getElem?_eq_some_iff.1 h3).1 (fun e => by have := hF b e; omega)).trans h3, h4.keep k hF, h5.keep k hF⟩
theorem IsP.later {B : Nat} {w w' : World} (hb : Below w.heap.size w w') {v : Value} {t : Pt} (h : IsP B w v t) : IsP B w' v t := h.keep (Kp.of_below (A := no) hb) (fun _ e => e.elim)
theorem IsP.mono {B B' : Nat} {w : World} (hB : B' ≤ B) : ∀ {v : Value} {t : Pt}, IsP B w v t → IsP B' w v t
  | v, .bare h, q => q
  | v, .leaf s l, ⟨b, h1, h2, h3⟩ => ⟨b, Nat.le_trans hB h1, h2, h3⟩
  | v, .node s l r, ⟨b, vl, vr, h1, h2, h3, h4, h5⟩ => ⟨b, vl, vr, Nat.le_trans hB h1, h2, h3, h4.mono hB, h5.mono hB⟩
-- the methods
theorem bareHash (h : ByteArray) (w : World) : Calls Tryz.prog 178 #[.string h] w fun e w' => e = .returned (.string h) ∧ w' = w := by
  go_enter Tryz.func178, Tryz.ntmps178
  go_wp2
  go_ret
  exact ⟨rfl, rfl⟩
theorem knownHash (b : Nat) (s : ByteArray) (w : World) (h : w.cell? ⟨b, 0, none⟩ = some (.string s)) : Calls Tryz.prog 175 #[.pointer (some ⟨b, 0, none⟩)] w fun e w' => e = .returned (.string s) ∧ w' = w := by
  go_enter Tryz.func175, Tryz.ntmps175
  go_wp2
  go_ret
  exact ⟨rfl, rfl⟩
theorem knownHalves (b : Nat) (l r : Value) (w : World) (h2 : w.cell? ⟨b, 2, none⟩ = some l) (h3 : w.cell? ⟨b, 3, none⟩ = some r) : Calls Tryz.prog 174 #[.pointer (some ⟨b, 0, none⟩)] w fun e w' => e = .returned (.tuple #[l, r]) ∧ Below w.heap.size w w' := by
  go_enter Tryz.func174, Tryz.ntmps174
  go_wp2_with fail
  go_quiet (fail)
  go_wp2
  go_ret2
  exact ⟨rfl, below_dN (Below.refl _ _) _⟩
theorem mHash {B : Nat} {w : World} {v : Value} {t : Pt} (h : IsP B w v t) : ∃ ty u fn, v = .iface ty u ∧ (∀ w, (method 306 ty u "annals/clash.hash").run Tryz.prog w = .ok (fn, u) w) ∧ (∀ args w, (callFunc fn args).run Tryz.prog w = .ok (.enter fn args) w) ∧ ∀ w', IsP B w' v t → Calls Tryz.prog fn #[u] w' fun e w2 => e = .returned (.string t.sum) ∧ w2 = w' := by
  cases t with
  | bare h0 =>
    obtain rfl : v = _ := h
    exact ⟨_, _, 178, rfl, fun w => by kernel_rfl, fun args w => by simp [go_sem], fun w' _ => bareHash h0 w'⟩
  | leaf s l =>
    obtain ⟨b, h1, rfl, h3⟩ := h
    refine ⟨_, _, 175, rfl, fun w => by kernel_rfl, fun args w => by simp [go_sem], fun w' q => ?_⟩
    obtain ⟨b', _, e, h3'⟩ := q
    injection e with _ e
    injection e with e
    injection e with e
    injection e with e
    subst e
    exact knownHash b s w' (cell_of_row _ _ 0 _ _ _ h3')
  | node s l r =>
    obtain ⟨b, vl, vr, h1, rfl, h3, _⟩ := h
    refine ⟨_, _, 175, rfl, fun w => by kernel_rfl, fun args w => by simp [go_sem], fun w' q => ?_⟩
    obtain ⟨b', _, _, _, e, h3', _⟩ := q
    injection e with _ e
    injection e with e
    injection e with e
    injection e with e
    subst e
    exact knownHash b s w' (cell_of_row _ _ 0 _ _ _ h3')
end Go.Proofs.YthppkdjekfginaaGreatDoor.ua

namespace Go.Proofs.YthppkdjekfginaaGreatDoor.tc
open Go.RowKit Go.PlainAid
open Go.Proofs.YthppkdjekfginaaGreatDoor.pl Go.Proofs.YthppkdjekfginaaGreatDoor.pi Go.Proofs.YthppkdjekfginaaGreatDoor.pj Go.Proofs.YthppkdjekfginaaGreatDoor.rf Go.Proofs.YthppkdjekfginaaGreatDoor.ca Go.Proofs.YthppkdjekfginaaGreatDoor.cb Go.Proofs.YthppkdjekfginaaGreatDoor.cp Go.Proofs.YthppkdjekfginaaGreatDoor.ga Go.Proofs.YthppkdjekfginaaGreatDoor.gb Go.Proofs.YthppkdjekfginaaGreatDoor.aa Go.Proofs.YthppkdjekfginaaGreatDoor.ka Go.Proofs.YthppkdjekfginaaGreatDoor.kb Go.Proofs.YthppkdjekfginaaGreatDoor.qb Go.Proofs.YthppkdjekfginaaGreatDoor.qj Go.Proofs.YthppkdjekfginaaGreatDoor.ta Go.Proofs.YthppkdjekfginaaGreatDoor.tb Go.Proofs.YthppkdjekfginaaGreatDoor.td Go.Proofs.YthppkdjekfginaaGreatDoor.ua
set_option linter.unusedVariables false

theorem take_two {α : Type} {c : List α} {m1 m2 : Nat} {L1 L2 : List α} (h : c.take (m1 + m2) = L1 ++ L2) (h1 : L1.length = m1) (h2 : L2.length = m2) : c.take m1 = L1 ∧ (c.drop m1).take m2 = L2 := by
  rw [List.take_add] at h
  have hl := congrArg List.length h
  rw [List.length_append, List.length_append, List.length_take, List.length_take, List.length_drop, h1, h2] at hl
  exact List.append_inj h (by rw [List.length_take, h1]; omega)
-- what is reckoned is the tree's sum
theorem gw_gp (wd : Int) {lk : Nat → Nat → Nat} (lf : Nat → ByteArray) (hz : ∀ a b, lk a b = 0 → ¬ 2 ≤ b - a) (hw : ∀ {a b}, a < b → 2 ≤ lk a b → 2 ≤ b - a) (hf : ∀ a b, lk a b ≤ 3) (n : Nat) : ∀ (a b : Nat) (c p : List ByteArray), b - a = n → a < b → c.take (WL (fl lk) a b).length = (WL (fl lk) a b).map (fun q => LF wd (lf q.1)) → (gp wd lk c p a b).1 = (gw (HH wd) lk lf nx p a b).1.sum := by
  induction n using Nat.strongRecOn with
  | ind n ih =>
    intro a b c p hn hab hc
    have h3 := hf a b
    rcases (show lk a b = 0 ∨ lk a b = 1 ∨ lk a b = 2 ∨ lk a b = 3 by omega) with h | h | h | h
    · have e : WL (fl lk) a b = [(a, b)] := WL_take (lk := fl lk) (by unfold fl; rw [if_pos h])
      rw [e] at hc
      rw [gp_claim h, gw_leaf (by omega) (hz a b h)]
      cases c with
      | nil => simp at hc
      | cons y t =>
        simp only [List.length_cons, List.length_nil, List.take_succ_cons, List.take_zero, List.map_cons, List.map_nil, List.cons.injEq] at hc
        exact hc.1
    · rw [gp_proof h, gw_bare h]; rfl
    · have h2 := hw hab (by omega)
      have hh := half_lt h2
      rw [WL_left (lk := fl lk) (by rw [fl_two (by omega)]; exact h) h2, List.length_append, List.map_append] at hc
      obtain ⟨c1, c2⟩ := take_two hc (List.length_map _) (List.length_map _)
      have i1 := ih (half (b - a)) (by omega) a (a + half (b - a)) c p (by omega) (by omega) c1
      have i2 := ih (b - (a + half (b - a))) (by omega) (a + half (b - a)) b (c.drop (WL (fl lk) a (a + half (b - a))).length) (p.drop (WL lk a (a + half (b - a))).length) rfl (by omega) c2
      have s1 := gp_state wd hw hf (show a < a + half (b - a) by omega) c p
      rw [gp_left h h2, gw_left h h2, s1, gw_nx hz _ _ _ _ rfl]
      show NF wd _ _ = HH wd (tx1 _ _)
      rw [i1, i2]
      rfl
    · have h2 := hw hab (by omega)
      have hh := half_lt h2
      rw [WL_right (lk := fl lk) (by rw [fl_two (by omega)]; omega) h2, List.length_append, List.map_append] at hc
      obtain ⟨c1, c2⟩ := take_two hc (List.length_map _) (List.length_map _)
      have i1 := ih (b - (a + half (b - a))) (by omega) (a + half (b - a)) b c p rfl (by omega) c1
      have i2 := ih (half (b - a)) (by omega) a (a + half (b - a)) (c.drop (WL (fl lk) (a + half (b - a)) b).length) (p.drop (WL lk (a + half (b - a)) b).length) (by omega) (by omega) c2
      have s1 := gp_state wd hw hf (show a + half (b - a) < b by omega) c p
      rw [gp_right (by omega) h2, gw_right (by omega) (by omega) h2, s1, gw_nx hz _ _ _ _ rfl]
      show NF wd _ _ = HH wd (tx1 _ _)
      rw [i1, i2]
      rfl
-- the list's own parts
def slc (xs : List ByteArray) (a b : Nat) : List ByteArray := (xs.drop a).take (b - a)
theorem slc_all (xs : List ByteArray) : slc xs 0 xs.length = xs := by unfold slc; simp
theorem slc_one {xs : List ByteArray} {a : Nat} (h : a < xs.length) : slc xs a (a + 1) = [xs.getD a ByteArray.empty] := by
  unfold slc
  rw [Nat.add_sub_cancel_left, List.drop_eq_getElem_cons h, List.take_succ_cons, List.take_zero, List.getD_eq_getElem?_getD, List.getElem?_eq_getElem h]
  rfl
theorem slc_len {xs : List ByteArray} {a b : Nat} (h : b ≤ xs.length) : (slc xs a b).length = b - a := by unfold slc; rw [List.length_take, List.length_drop]; omega
theorem slc_front {xs : List ByteArray} {a b m : Nat} (h1 : a ≤ m) (h2 : m ≤ b) : (slc xs a b).take (m - a) = slc xs a m := by unfold slc; rw [List.take_take, Nat.min_eq_left (by omega)]
theorem slc_back {xs : List ByteArray} {a b m : Nat} (h1 : a ≤ m) (h2 : m ≤ b) : (slc xs a b).drop (m - a) = slc xs m b := by
  unfold slc
  rw [List.drop_take, List.drop_drop, show a + (m - a) = m by omega, show b - a - (m - a) = b - m by omega]
def RR (wd : Int) (xs : List ByteArray) (a b : Nat) : ByteArray := RT wd (slc xs a b)
theorem RR_one (wd : Int) (xs : List ByteArray) (a b : Nat) (h : b - a = 1) (hb : b ≤ xs.length) : RR wd xs a b = HH wd (tx0 (xs.getD a ByteArray.empty)) := by
  unfold RR
  rw [show b = a + 1 by omega, slc_one (by omega), RT_one]; rfl
theorem RR_two (wd : Int) (xs : List ByteArray) (a b : Nat) (h : 2 ≤ b - a) (hb : b ≤ xs.length) : RR wd xs a b = HH wd (tx1 (RR wd xs a (a + half (b - a))) (RR wd xs (a + half (b - a)) b)) := by
  have hh := half_lt h
  unfold RR
  rw [RT_half wd (xs := slc xs a b) (by rw [slc_len hb]; exact h), slc_len hb]
  have e1 : (slc xs a b).take (half (b - a)) = slc xs a (a + half (b - a)) := by
    have := slc_front (xs := xs) (a := a) (b := b) (m := a + half (b - a)) (by omega) (by omega)
    rwa [Nat.add_sub_cancel_left] at this
  have e2 : (slc xs a b).drop (half (b - a)) = slc xs (a + half (b - a)) b := by
    have := slc_back (xs := xs) (a := a) (b := b) (m := a + half (b - a)) (by omega) (by omega)
    rwa [Nat.add_sub_cancel_left] at this
  rw [e1, e2]; rfl
def ownT (wd : Int) (lk : Nat → Nat → Nat) (xs : List ByteArray) : Pt := (gw (HH wd) lk (fun p => xs.getD p ByteArray.empty) (ow (RR wd xs)) () 0 xs.length).1
theorem own_sum (wd : Int) (lk : Nat → Nat → Nat) (xs : List ByteArray) (a b : Nat) (hab : a < b) (hb : b ≤ xs.length) : (gw (HH wd) lk (fun p => xs.getD p ByteArray.empty) (ow (RR wd xs)) () a b).1.sum = RR wd xs a b :=
  gw_own (k := xs.length) (fun a b h hb => RR_one wd xs a b h hb) (fun a b h hb => RR_two wd xs a b h hb) (b - a) a b rfl hab hb
theorem own_right (wd : Int) (lk : Nat → Nat → Nat) (xs : List ByteArray) (a b : Nat) : Right (HH wd) (wid wd) (gw (HH wd) lk (fun p => xs.getD p ByteArray.empty) (ow (RR wd xs)) () a b).1 :=
  gw_right_own (fun a b => RT_size wd _) (b - a) a b rfl
-- a claim that was accepted: two unlike texts with one hash, or it is the list's
theorem sound_gen (wd : Int) {lk : Nat → Nat → Nat} (lf : Nat → ByteArray) (xs c p : List ByteArray) (hz : ∀ a b, lk a b = 0 → ¬ 2 ≤ b - a) (hw : ∀ {a b}, a < b → 2 ≤ lk a b → 2 ≤ b - a) (hf : ∀ a b, lk a b ≤ 3) (h1 : 1 ≤ xs.length)
    (hl : (WL lk 0 xs.length).length ≤ p.length) (hp : Wide wd p) (hc : c.take (WL (fl lk) 0 xs.length).length = (WL (fl lk) 0 xs.length).map (fun q => LF wd (lf q.1))) (hg : (gp wd lk c p 0 xs.length).1 = RT wd xs) :
    (∃ A B, fst1 (gw (HH wd) lk lf nx p 0 xs.length).1 (ownT wd lk xs) = some (A, B) ∧ A ≠ B ∧ cutS A wd = cutS B wd) ∨ (fst1 (gw (HH wd) lk lf nx p 0 xs.length).1 (ownT wd lk xs) = none ∧ (LP lk 0 xs.length).map lf = (LP lk 0 xs.length).map (fun p => xs.getD p ByteArray.empty)) := by
  have s1 := gw_gp wd lf hz hw hf xs.length 0 xs.length c p rfl (by omega) hc
  have s2 := own_sum wd lk xs 0 xs.length (by omega) (Nat.le_refl _)
  have e : RR wd xs 0 xs.length = RT wd xs := by unfold RR; rw [slc_all]
  rcases fst_sound (H := HH wd) (k := wid wd) (HH_size wd) (gw (HH wd) lk lf nx p 0 xs.length).1 (ownT wd lk xs) (gw_alike _ _ _ _ _ _ _ 0 xs.length p () rfl) (gw_right_nx (HH_size wd) hz _ 0 xs.length p rfl hl hp) (own_right wd lk xs 0 xs.length) (by rw [← s1, hg]; unfold ownT; rw [s2, e]) with h | ⟨h, h2, _⟩
  · exact .inl h
  · refine .inr ⟨h, ?_⟩
    rw [← gw_lvs _ 0 xs.length p rfl, h2]
    exact gw_lvs _ 0 xs.length () rfl
end Go.Proofs.YthppkdjekfginaaGreatDoor.tc

namespace Go.Proofs.YthppkdjekfginaaGreatDoor.ub
open Go.RowKit Go.PlainAid
open Go.Proofs.YthppkdjekfginaaGreatDoor.pl Go.Proofs.YthppkdjekfginaaGreatDoor.pi Go.Proofs.YthppkdjekfginaaGreatDoor.pj Go.Proofs.YthppkdjekfginaaGreatDoor.ca Go.Proofs.YthppkdjekfginaaGreatDoor.cb Go.Proofs.YthppkdjekfginaaGreatDoor.cp Go.Proofs.YthppkdjekfginaaGreatDoor.ga Go.Proofs.YthppkdjekfginaaGreatDoor.aa Go.Proofs.YthppkdjekfginaaGreatDoor.ba Go.Proofs.YthppkdjekfginaaGreatDoor.bb Go.Proofs.YthppkdjekfginaaGreatDoor.ka Go.Proofs.YthppkdjekfginaaGreatDoor.kb Go.Proofs.YthppkdjekfginaaGreatDoor.kc Go.Proofs.YthppkdjekfginaaGreatDoor.kp Go.Proofs.YthppkdjekfginaaGreatDoor.lk Go.Proofs.YthppkdjekfginaaGreatDoor.ta Go.Proofs.YthppkdjekfginaaGreatDoor.ua
set_option linter.unusedVariables false

theorem ab_is {B : Nat} {w w' : World} {vl vr : Value} {l r : Pt} {H : ByteArray → ByteArray} (hB : B ≤ w.heap.size) (hl : IsP B w' vl l) (hr : IsP B w' vr r) (hw : w' = w.alloc (.cells #[.string (H (tx1 l.sum r.sum)), .string ⟨#[]⟩, vl, vr] 131)) : IsP B w' (.iface 125 (.pointer (some ⟨w.heap.size, 0, none⟩))) (ab H l r) :=
  ⟨w.heap.size, vl, vr, hB, rfl, by rw [hw]; exact heap_alloc_new w _, hl, hr⟩
set_option maxRecDepth 100000 in
set_option maxHeartbeats 3200000 in
theorem aboveC (B : Nat) (wd : Int) (kf lf hf : Value) (up : Bool) (vl vr : Value) (l r : Pt) (w : World) (hB : B ≤ w.heap.size) (hl : IsP B w vl l) (hr : IsP B w vr r) (zl : l.sum.size ≤ 32) (zr : r.sum.size ≤ 32) (hT : Tab w) :
    Calls Tryz.prog 89 #[.agg #[.int .i64 wd, kf, .bool up, lf, hf], vl, vr] w fun e w' => ∃ v, e = .returned v ∧ IsP B w' v (ab (HH wd) l r) ∧ Below w.heap.size w w' := by
  obtain ⟨tl, ul, fl, rfl, ml, el, cl⟩ := mHash hl
  obtain ⟨tr, ur, fr, rfl, mr, er, cr⟩ := mHash hr
  have B1 : Hid (Below w.heap.size w (w.alloc (.cells #[.int .i64 wd, kf, .bool up, lf, hf] 48))) := (Below.refl _ _).alloc (Nat.le_refl _) _
  have HL : Hid (IsP B (w.alloc (.cells #[.int .i64 wd, kf, .bool up, lf, hf] 48)) (.iface tl ul) l ∧ IsP B (w.alloc (.cells #[.int .i64 wd, kf, .bool up, lf, hf] 48)) (.iface tr ur) r ∧ Tab (w.alloc (.cells #[.int .i64 wd, kf, .bool up, lf, hf] 48)) ∧ B ≤ w.heap.size) := ⟨hl.later B1.out, hr.later B1.out, hT.down B1.out, hB⟩
  have CL : Hid (∀ w', IsP B w' (.iface tl ul) l → Calls _ _ _ _ _) := cl
  have CR : Hid (∀ w', IsP B w' (.iface tr ur) r → Calls _ _ _ _ _) := cr
  have NC : Hid (∀ w', Tab w' → Calls _ _ _ _ _) := fun w' h => pNode wd l.sum r.sum (by omega) w' h
  obtain ⟨W, HW⟩ : ∃ W, Hid (W = w.alloc (.cells #[.int .i64 wd, kf, .bool up, lf, hf] 48)) := ⟨_, rfl⟩
  have c0 : W.cell? ⟨w.heap.size, 0, none⟩ = some (.int .i64 wd) := by rw [HW.out, World.cell?_alloc_at _ _ _ _ rfl]; rfl
  have S4 : Hid (∀ w', Below W.heap.size W w' → Below W.heap.size W w' ∧ w'.cell? ⟨w.heap.size, 0, none⟩ = some (.int .i64 wd)) := fun w' h => ⟨h, (h.cell (World.block_lt_of_cell? _ _ c0)).trans c0⟩
  rw [← HW.out] at B1 HL
  have HN : Hid (NF wd l.sum r.sum = HH wd (tx1 l.sum r.sum)) := rfl
  rw [HN.out] at NC
  obtain ⟨sl, HSL⟩ : ∃ x, Hid (l.sum = x) := ⟨_, rfl⟩
  obtain ⟨sr, HSR⟩ : ∃ x, Hid (r.sum = x) := ⟨_, rfl⟩
  obtain ⟨y, HY⟩ : ∃ y, Hid (HH wd (tx1 l.sum r.sum) = y) := ⟨_, rfl⟩
  have FIN : Hid (∀ w2 w3, Below W.heap.size W w2 → w3 = w2.alloc (.cells #[.string y, .string ⟨#[]⟩, .iface tl ul, .iface tr ur] 131) → ∃ v, Ending.returned (.iface 125 (.pointer (some ⟨w2.heap.size, 0, none⟩))) = .returned v ∧ IsP B w3 v (ab (HH wd) l r) ∧ Below w.heap.size w w3) := by
    intro w2 w3 h2 h3
    have b3 : Below w2.heap.size w2 w3 := by rw [h3]; exact (Below.refl _ _).alloc (Nat.le_refl _) _
    have h12 := over B1.out h2
    refine ⟨_, rfl, ab_is (Nat.le_trans HL.out.2.2.2 h12.size) ((HL.out.1.later h2).later b3) ((HL.out.2.1.later h2).later b3) (by rw [HY.out]; exact h3), over h12 b3⟩
  rw [HY.out, HSL.out, HSR.out] at NC
  rw [HSL.out] at CL
  rw [HSR.out] at CR
  clear hl hr hT cl cr zl zr hB HN
  go_enter Tryz.func89, Tryz.ntmps89
  go_wp2_with fail
  rw [← HW.out]
  go_region_held3 (fun w' => Below W.heap.size W w' ∧ w'.cell? ⟨w.heap.size, 0, none⟩ = some (.int .i64 wd)) (first | exact S4.out _ (Below.refl _ _) | exact S4.out _ (below_dr (Below.refl _ _)) | assumption | exact S4.out _ (over (And.left (by assumption)) hb') | exact S4.out _ (below_al (And.left (by assumption)) _)) (first | (with_reducible refine (CL.out _ (HL.out.1.later (And.left (by assumption)))).mono ?_; rintro e w' ⟨rfl, hw'⟩; subst hw') | (with_reducible refine (CR.out _ (HL.out.2.1.later (And.left (by assumption)))).mono ?_; rintro e w' ⟨rfl, hw'⟩; subst hw') | (go_at_call 52; refine (NC.out _ (HL.out.2.2.1.down (And.left (by assumption)))).mono ?_; rintro e w' ⟨rfl, hb'⟩))
  have HB : Hid (Below W.heap.size W w') := over (below_dr (Below.refl _ _)) hb'
  clear hb'
  go_wp2
  go_ret
  exact FIN.out w' _ HB.out rfl
end Go.Proofs.YthppkdjekfginaaGreatDoor.ub

namespace Go.Proofs.YthppkdjekfginaaGreatDoor.uh
open Go.RowKit Go.PlainAid
open Go.Proofs.YthppkdjekfginaaGreatDoor.pl Go.Proofs.YthppkdjekfginaaGreatDoor.pi Go.Proofs.YthppkdjekfginaaGreatDoor.pj Go.Proofs.YthppkdjekfginaaGreatDoor.ca Go.Proofs.YthppkdjekfginaaGreatDoor.cb Go.Proofs.YthppkdjekfginaaGreatDoor.cp Go.Proofs.YthppkdjekfginaaGreatDoor.ga Go.Proofs.YthppkdjekfginaaGreatDoor.aa Go.Proofs.YthppkdjekfginaaGreatDoor.ba Go.Proofs.YthppkdjekfginaaGreatDoor.bb Go.Proofs.YthppkdjekfginaaGreatDoor.ka Go.Proofs.YthppkdjekfginaaGreatDoor.kb Go.Proofs.YthppkdjekfginaaGreatDoor.kc Go.Proofs.YthppkdjekfginaaGreatDoor.kp Go.Proofs.YthppkdjekfginaaGreatDoor.lk Go.Proofs.YthppkdjekfginaaGreatDoor.ta Go.Proofs.YthppkdjekfginaaGreatDoor.ua Go.Proofs.YthppkdjekfginaaGreatDoor.ma
set_option linter.unusedVariables false

-- the span's own
theorem kleaf (a b : Nat) (hab : a < b) (hb : b ≤ 4611686018427387904) (w : World) : Calls Tryz.prog 87 #[.agg #[.int .i64 a, .int .i64 b]] w fun e w' => e = .returned (.bool (decide (b - a = 1))) ∧ Below w.heap.size w w' := by
  have B1 : Hid (Below w.heap.size w (w.alloc (.cells #[.int .i64 a, .int .i64 b] 43))) := (Below.refl _ _).alloc (Nat.le_refl _) _
  have e1 : IntKind.i64.wrap ((b : Int) - a) = (b : Int) - a := by rw [IntKind.wrap_i64]; omega
  have q : ((b : Int) - a == 1) = decide (b - a = 1) := by
    by_cases h : b - a = 1
    · rw [decide_eq_true h, beq_iff_eq]; omega
    · rw [decide_eq_false h, beq_eq_false_iff_ne]; omega
  go_enter Tryz.func87, Tryz.ntmps87
  go_wp2
  go_ret
  exact ⟨by first | rw [q] | rfl, B1.out⟩
theorem khalves (a b : Nat) (h : 2 ≤ b - a) (hb : b ≤ 4611686018427387904) (w : World) :
    Calls Tryz.prog 88 #[.agg #[.int .i64 a, .int .i64 b]] w fun e w' => e = .returned (.tuple #[.agg #[.int .i64 a, .int .i64 (a + half (b - a) : Nat)], .agg #[.int .i64 (a + half (b - a) : Nat), .int .i64 b]]) ∧ Below w.heap.size w w' := by
  obtain ⟨l, hl, he, h62⟩ := half_len h (by omega : b - a ≤ 4611686018427387904)
  have hh := half_lt h
  have C : Hid (∀ w, Calls _ _ _ _ _) := fun w => len_int ((b : Int) - a - 1) w (by omega) (by omega)
  rw [show ((b : Int) - a - 1).toNat = b - a - 1 by omega, hl] at C
  obtain ⟨t, HT⟩ : ∃ t : Nat, Hid (2 ^ l = t) := ⟨_, rfl⟩
  have hT : (2 : Int) ^ l = (t : Int) := by rw [cast_pow, HT.out]
  rw [he, HT.out] at hh ⊢
  have hw1 : ((l + 1 : Nat) : Int) = (l : Int) + 1 := by omega
  have hw2 : IntKind.u64.wrap (l : Int) = l := u64_is l (by omega)
  have hw3 : min (l : Int).toNat 64 = l := by omega
  have hw4 : min l 64 = l := by omega
  have hw5 : IntKind.i64.wrap (t : Int) = t := wrap_is t (by omega)
  have e0 : IntKind.i64.wrap ((b : Int) - a) = (b : Int) - a := by rw [IntKind.wrap_i64]; omega
  have e1 : IntKind.i64.wrap ((b : Int) - a - 1) = (b : Int) - a - 1 := by rw [IntKind.wrap_i64]; omega
  have e3 : IntKind.u64.wrap ((b : Int) - a - 1) = (b : Int) - a - 1 := by rw [IntKind.wrap_u64]; omega
  have e2 : (((a + t : Nat)) : Int) = (a : Int) + t := by omega
  have hw : IntKind.i64.wrap ((a : Int) + t) = (a : Int) + t := by rw [IntKind.wrap_i64]; omega
  rw [hw1] at C
  have G : Hid (_ ∧ _ ∧ _ ∧ _) := three_cells w (.cells #[.int .i64 a, .int .i64 b] 43) (.int .i64 a) (.int .i64 ((a : Int) + t)) (.int .i64 ((a : Int) + t)) (.int .i64 b) 43 43
  have B3 : Hid (Below w.heap.size w (((w.alloc (.cells #[.int .i64 a, .int .i64 b] 43)).alloc (.cells #[.int .i64 a, .int .i64 ((a : Int) + t)] 43)).alloc (.cells #[.int .i64 ((a : Int) + t), .int .i64 b] 43)).drew) := below_dN ((((Below.refl _ _).alloc (Nat.le_refl _) _).alloc (by simp) _).alloc (by simp; omega) _) 1
  clear hl he hh h
  go_enter Tryz.func88, Tryz.ntmps88
  go_wp2_with fail
  refine (C.out _).mono ?_
  rintro e w1 ⟨rfl, hw⟩
  subst hw
  go_wp2
  go_region
  all_goals (
    go_wp2
    (try simp only [Exit.inBlock, Exit.then])
    refine bodyPost_ret (by simp [results, Tryz.results88, go_sem, G.out.1, G.out.2.1, G.out.2.2.1, G.out.2.2.2]; try rfl) rfl ?_
    exact ⟨by rw [e2], B3.out⟩)
end Go.Proofs.YthppkdjekfginaaGreatDoor.uh

namespace Go.Proofs.YthppkdjekfginaaGreatDoor.ui
open Go.RowKit Go.PlainAid
open Go.Proofs.YthppkdjekfginaaGreatDoor.pl Go.Proofs.YthppkdjekfginaaGreatDoor.pi Go.Proofs.YthppkdjekfginaaGreatDoor.pj Go.Proofs.YthppkdjekfginaaGreatDoor.ca Go.Proofs.YthppkdjekfginaaGreatDoor.cb Go.Proofs.YthppkdjekfginaaGreatDoor.cp Go.Proofs.YthppkdjekfginaaGreatDoor.ga Go.Proofs.YthppkdjekfginaaGreatDoor.aa Go.Proofs.YthppkdjekfginaaGreatDoor.ba Go.Proofs.YthppkdjekfginaaGreatDoor.bb Go.Proofs.YthppkdjekfginaaGreatDoor.ka Go.Proofs.YthppkdjekfginaaGreatDoor.kb Go.Proofs.YthppkdjekfginaaGreatDoor.kc Go.Proofs.YthppkdjekfginaaGreatDoor.kp Go.Proofs.YthppkdjekfginaaGreatDoor.lk Go.Proofs.YthppkdjekfginaaGreatDoor.ta Go.Proofs.YthppkdjekfginaaGreatDoor.ua Go.Proofs.YthppkdjekfginaaGreatDoor.ub Go.Proofs.YthppkdjekfginaaGreatDoor.ma
set_option linter.unusedVariables false

-- a filling: what it asks of the functions that it holds
structure Fl {X : Type} (F : Nat → Prop) (St : X → World → Prop) (wd : Int) (lk : Nat → Nat → Nat) (up : Bool) (lf : Nat → ByteArray) (hs : X → Nat → Nat → ByteArray × X) (P : X → Nat → Nat → Prop) (kg hg : Nat) (lv : Value) (kb kc hb hc : Array Value) : Prop where
  kent : ∀ args w, (callFunc kg args).run Tryz.prog w = .ok (.enter kg args) w
  hent : ∀ args w, (callFunc hg args).run Tryz.prog w = .ok (.enter hg args) w
  later : ∀ {x w w'}, St x w → Below w.heap.size w w' → St x w'
  fl : ∀ {x w}, St x w → ∀ b, F b → b < w.heap.size
  tab : ∀ {x w}, St x w → Tab w
  bnd : ∀ {x a b}, P x a b → b ≤ 4611686018427387904
  knows : ∀ x (a b a' b' : Nat) w, P x a' b' → a' ≤ a → a < b → b ≤ b' → St x w → Calls Tryz.prog kg (kb.push (.agg #[.int .i64 a, .int .i64 b]) ++ kc) w fun e w' => e = .returned (.bool (decide (lk a b ≠ 1))) ∧ Below w.heap.size w w'
  leaf : ∀ x (a b : Nat), b - a = 1 → P x a b → lk a b ≠ 1 → ∃ lg lb lc, lv = .func (.func lg) lb lc ∧ (∀ args w, (callFunc lg args).run Tryz.prog w = .ok (.enter lg args) w) ∧ ∀ w, St x w → Calls Tryz.prog lg (lb.push (.int .i64 a) ++ lc) w fun e w' => e = .returned (.string (lf a)) ∧ Below w.heap.size w w'
  lsz : ∀ {x a b}, b - a = 1 → P x a b → lk a b ≠ 1 → (lf a).size ≤ 140737488352000
  hash : ∀ x (a b : Nat) w, a < b → P x a b → lk a b = 1 → St x w → Calls Tryz.prog hg (hb.push (.agg #[.int .i64 a, .int .i64 b]) ++ hc) w fun e w' => e = .returned (.string (hs x a b).1) ∧ St (hs x a b).2 w' ∧ Kp F w w'
  hsz : ∀ {x a b}, P x a b → lk a b = 1 → (hs x a b).1.size ≤ 32
  dir : ∀ {x a b}, a < b → P x a b → lk a b ≠ 1 → 2 ≤ b - a → (lk a b = 2 ↔ ¬ (up = true ∧ lk (a + half (b - a)) b ≠ 1))
  left : ∀ {x a b}, a < b → P x a b → lk a b = 2 → 2 ≤ b - a → P x a (a + half (b - a)) ∧ P (gw (HH wd) lk lf hs x a (a + half (b - a))).2 (a + half (b - a)) b
  right : ∀ {x a b}, a < b → P x a b → lk a b ≠ 1 → lk a b ≠ 2 → 2 ≤ b - a → P x (a + half (b - a)) b ∧ P (gw (HH wd) lk lf hs x (a + half (b - a)) b).2 a (a + half (b - a))
section
variable {X : Type} {F : Nat → Prop} {St : X → World → Prop} {wd : Int} {lk : Nat → Nat → Nat} {up : Bool} {lf : Nat → ByteArray} {hs : X → Nat → Nat → ByteArray × X} {P : X → Nat → Nat → Prop} {kg hg : Nat} {lv : Value} {kb kc hb hc : Array Value}
theorem Fl.sum (K : Fl F St wd lk up lf hs P kg hg lv kb kc hb hc) {x : X} {a b : Nat} (h : P x a b) : (gw (HH wd) lk lf hs x a b).1.sum.size ≤ 32 := by
  by_cases h1 : lk a b = 1
  · rw [gw_bare h1]; exact K.hsz h h1
  by_cases h2 : 2 ≤ b - a
  · by_cases h3 : lk a b = 2
    · rw [gw_left h3 h2]; exact HH_le _ _
    · rw [gw_right h1 h3 h2]; exact HH_le _ _
  · rw [gw_leaf h1 h2]; exact HH_le _ _
end
end Go.Proofs.YthppkdjekfginaaGreatDoor.ui
