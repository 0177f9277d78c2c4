import Derived.Test.YthppkdjekfginaaGreatDoorL4
import Derived.Test.YthppkdjekfginaaGreatDoorG2
import Derived.Test.YthppkdjekfginaaGreatDoorO1
namespace Go.Proofs.YthppkdjekfginaaGreatDoor.us
open Go.RowKit Go.PlainAid
open Go.Proofs.YthppkdjekfginaaGreatDoor.pl Go.Proofs.YthppkdjekfginaaGreatDoor.pg Go.Proofs.YthppkdjekfginaaGreatDoor.pi Go.Proofs.YthppkdjekfginaaGreatDoor.pj Go.Proofs.YthppkdjekfginaaGreatDoor.ca Go.Proofs.YthppkdjekfginaaGreatDoor.cb Go.Proofs.YthppkdjekfginaaGreatDoor.cp Go.Proofs.YthppkdjekfginaaGreatDoor.ga Go.Proofs.YthppkdjekfginaaGreatDoor.gb Go.Proofs.YthppkdjekfginaaGreatDoor.aa Go.Proofs.YthppkdjekfginaaGreatDoor.ba Go.Proofs.YthppkdjekfginaaGreatDoor.bb Go.Proofs.YthppkdjekfginaaGreatDoor.ka Go.Proofs.YthppkdjekfginaaGreatDoor.kb Go.Proofs.YthppkdjekfginaaGreatDoor.kc Go.Proofs.YthppkdjekfginaaGreatDoor.kp Go.Proofs.YthppkdjekfginaaGreatDoor.lk Go.Proofs.YthppkdjekfginaaGreatDoor.dc Go.Proofs.YthppkdjekfginaaGreatDoor.qa Go.Proofs.YthppkdjekfginaaGreatDoor.qb Go.Proofs.YthppkdjekfginaaGreatDoor.qc Go.Proofs.YthppkdjekfginaaGreatDoor.qd Go.Proofs.YthppkdjekfginaaGreatDoor.ta Go.Proofs.YthppkdjekfginaaGreatDoor.tb Go.Proofs.YthppkdjekfginaaGreatDoor.td Go.Proofs.YthppkdjekfginaaGreatDoor.tc Go.Proofs.YthppkdjekfginaaGreatDoor.ua Go.Proofs.YthppkdjekfginaaGreatDoor.ub Go.Proofs.YthppkdjekfginaaGreatDoor.ma Go.Proofs.YthppkdjekfginaaGreatDoor.uh Go.Proofs.YthppkdjekfginaaGreatDoor.ui Go.Proofs.YthppkdjekfginaaGreatDoor.uj Go.Proofs.YthppkdjekfginaaGreatDoor.uk Go.Proofs.YthppkdjekfginaaGreatDoor.ul Go.Proofs.YthppkdjekfginaaGreatDoor.um Go.Proofs.YthppkdjekfginaaGreatDoor.un Go.Proofs.YthppkdjekfginaaGreatDoor.uo Go.Proofs.YthppkdjekfginaaGreatDoor.uq Go.Proofs.YthppkdjekfginaaGreatDoor.ur
set_option linter.unusedVariables false

end Go.Proofs.YthppkdjekfginaaGreatDoor.us

namespace Go.Proofs.YthppkdjekfginaaGreatDoor.ut
open Go.RowKit Go.PlainAid
open Go.Proofs.YthppkdjekfginaaGreatDoor.pl Go.Proofs.YthppkdjekfginaaGreatDoor.pg Go.Proofs.YthppkdjekfginaaGreatDoor.pi Go.Proofs.YthppkdjekfginaaGreatDoor.pj Go.Proofs.YthppkdjekfginaaGreatDoor.ca Go.Proofs.YthppkdjekfginaaGreatDoor.cb Go.Proofs.YthppkdjekfginaaGreatDoor.cp Go.Proofs.YthppkdjekfginaaGreatDoor.ga Go.Proofs.YthppkdjekfginaaGreatDoor.gb Go.Proofs.YthppkdjekfginaaGreatDoor.aa Go.Proofs.YthppkdjekfginaaGreatDoor.ba Go.Proofs.YthppkdjekfginaaGreatDoor.bb Go.Proofs.YthppkdjekfginaaGreatDoor.ka Go.Proofs.YthppkdjekfginaaGreatDoor.kb Go.Proofs.YthppkdjekfginaaGreatDoor.kc Go.Proofs.YthppkdjekfginaaGreatDoor.kp Go.Proofs.YthppkdjekfginaaGreatDoor.lk Go.Proofs.YthppkdjekfginaaGreatDoor.co Go.Proofs.YthppkdjekfginaaGreatDoor.dc Go.Proofs.YthppkdjekfginaaGreatDoor.qa Go.Proofs.YthppkdjekfginaaGreatDoor.qb Go.Proofs.YthppkdjekfginaaGreatDoor.qc Go.Proofs.YthppkdjekfginaaGreatDoor.qd Go.Proofs.YthppkdjekfginaaGreatDoor.ta Go.Proofs.YthppkdjekfginaaGreatDoor.tb Go.Proofs.YthppkdjekfginaaGreatDoor.td Go.Proofs.YthppkdjekfginaaGreatDoor.tc Go.Proofs.YthppkdjekfginaaGreatDoor.ua Go.Proofs.YthppkdjekfginaaGreatDoor.ub Go.Proofs.YthppkdjekfginaaGreatDoor.ma Go.Proofs.YthppkdjekfginaaGreatDoor.uh Go.Proofs.YthppkdjekfginaaGreatDoor.ui Go.Proofs.YthppkdjekfginaaGreatDoor.uj Go.Proofs.YthppkdjekfginaaGreatDoor.uk Go.Proofs.YthppkdjekfginaaGreatDoor.ul Go.Proofs.YthppkdjekfginaaGreatDoor.um Go.Proofs.YthppkdjekfginaaGreatDoor.un Go.Proofs.YthppkdjekfginaaGreatDoor.uo Go.Proofs.YthppkdjekfginaaGreatDoor.uq Go.Proofs.YthppkdjekfginaaGreatDoor.ur Go.Proofs.YthppkdjekfginaaGreatDoor.us
set_option linter.unusedVariables false

def lfS : ByteArray := ⟨#[108, 101, 97, 102]⟩
def twS (k : Nat) : ByteArray := str [((k / 256 : Nat) : Int), ((k % 256 : Nat) : Int)]
theorem twS_size (k : Nat) : (twS k).size = 2 := rfl
theorem twS_ne (k : Nat) : twS k ≠ lfS := fun e => by have := congrArg ByteArray.size e; rw [twS_size] at this; exact absurd this (by decide)
theorem hit : LF 1 (twS 478) = LF 1 lfS := by decide +kernel
theorem incA_one {s l : ByteArray} (h : LF 1 s = LF 1 l) : incA 1 0 1 (LF 1 s) [] (RT 1 [l]) = 0 := by
  have r : ref9 1 0 0 1 [] = 0 := by unfold ref9; rfl
  have c : cnt9 1 0 0 1 [] = (0, 0) := by
    unfold cnt9
    rw [if_pos r]
    unfold num9
    rw [if_pos rfl, show (0 : Int).toNat = 0 from rfl, show (1 : Int).toNat = 1 from rfl, cI_is (by omega), cI_one (by omega)]
    rfl
  have z : ∀ x, (LF 1 x).size = wid 1 := fun x => cutS_size _ _
  have i : incR 1 0 1 [] [LF 1 s, RT 1 [l]] = 0 := by
    unfold incR
    rw [c, if_pos rfl]
    unfold rH okH
    rw [RT_one]
    simp [z]
  unfold incA
  rw [if_pos i, if_pos]
  rw [RT_one, ← h]
  show (go (WS 1 (lkI 0) (fun _ => 0)) (0, [LF 1 s], []) 0 1).1 = _
  rw [go_stop (by show (lkI 0 0 1) < 2; unfold lkI; decide)]
  rfl
theorem leafX_one {s l : ByteArray} (h : LF 1 s = LF 1 l) (hne : s ≠ l) : leafX 1 0 [l] s [] = some (tx0 s, tx0 l) := by
  unfold leafX
  rw [if_pos (by exact incA_one h), if_neg (by intro e; exact hne e.symm)]
  have k1 : lkI (0 : Int).toNat 0 1 ≠ 1 := by decide
  unfold ownT
  rw [show ([l] : List ByteArray).length = 1 from rfl, gw_leaf k1 (by omega), gw_leaf k1 (by omega)]
  show (if tx0 s = tx0 l then _ else _) = _
  rw [if_neg (fun e => hne (tx0_inj e))]
  rfl
end Go.Proofs.YthppkdjekfginaaGreatDoor.ut

namespace Go.Proofs.YthppkdjekfginaaGreatDoor.ux
open Go.RowKit Go.PlainAid
open Go.Proofs.YthppkdjekfginaaGreatDoor.pl Go.Proofs.YthppkdjekfginaaGreatDoor.pg Go.Proofs.YthppkdjekfginaaGreatDoor.pi Go.Proofs.YthppkdjekfginaaGreatDoor.pj Go.Proofs.YthppkdjekfginaaGreatDoor.ca Go.Proofs.YthppkdjekfginaaGreatDoor.cb Go.Proofs.YthppkdjekfginaaGreatDoor.cp Go.Proofs.YthppkdjekfginaaGreatDoor.ga Go.Proofs.YthppkdjekfginaaGreatDoor.gb Go.Proofs.YthppkdjekfginaaGreatDoor.aa Go.Proofs.YthppkdjekfginaaGreatDoor.ba Go.Proofs.YthppkdjekfginaaGreatDoor.bb Go.Proofs.YthppkdjekfginaaGreatDoor.ka Go.Proofs.YthppkdjekfginaaGreatDoor.kb Go.Proofs.YthppkdjekfginaaGreatDoor.kc Go.Proofs.YthppkdjekfginaaGreatDoor.kp Go.Proofs.YthppkdjekfginaaGreatDoor.lk Go.Proofs.YthppkdjekfginaaGreatDoor.co Go.Proofs.YthppkdjekfginaaGreatDoor.dc Go.Proofs.YthppkdjekfginaaGreatDoor.qa Go.Proofs.YthppkdjekfginaaGreatDoor.qb Go.Proofs.YthppkdjekfginaaGreatDoor.qc Go.Proofs.YthppkdjekfginaaGreatDoor.qd Go.Proofs.YthppkdjekfginaaGreatDoor.qj Go.Proofs.YthppkdjekfginaaGreatDoor.ta Go.Proofs.YthppkdjekfginaaGreatDoor.tb Go.Proofs.YthppkdjekfginaaGreatDoor.td Go.Proofs.YthppkdjekfginaaGreatDoor.tc Go.Proofs.YthppkdjekfginaaGreatDoor.ua Go.Proofs.YthppkdjekfginaaGreatDoor.ub Go.Proofs.YthppkdjekfginaaGreatDoor.ma Go.Proofs.YthppkdjekfginaaGreatDoor.uh Go.Proofs.YthppkdjekfginaaGreatDoor.ui Go.Proofs.YthppkdjekfginaaGreatDoor.uj Go.Proofs.YthppkdjekfginaaGreatDoor.uk Go.Proofs.YthppkdjekfginaaGreatDoor.ul Go.Proofs.YthppkdjekfginaaGreatDoor.um Go.Proofs.YthppkdjekfginaaGreatDoor.un Go.Proofs.YthppkdjekfginaaGreatDoor.uo Go.Proofs.YthppkdjekfginaaGreatDoor.uq Go.Proofs.YthppkdjekfginaaGreatDoor.ur Go.Proofs.YthppkdjekfginaaGreatDoor.us Go.Proofs.YthppkdjekfginaaGreatDoor.ut
set_option linter.unusedVariables false

theorem text_size {t : Pt} (h : Sml t) : t.text.size ≤ 140737488352001 := by
  cases t with
  | bare _ => exact Nat.zero_le _
  | leaf s l =>
    show (tx0 l).size ≤ _
    unfold tx0
    rw [size1]
    have : l.size ≤ 140737488352000 := h
    omega
  | node s l r =>
    show (tx1 l.sum r.sum).size ≤ _
    unfold tx1
    rw [ByteArray.size_append, size1]
    have h1 : l.sum.size ≤ 32 := h.1
    have h2 : r.sum.size ≤ 32 := h.2.1
    omega
theorem fst_size : ∀ (t u : Pt) {A B : ByteArray}, Sml t → Sml u → fst1 t u = some (A, B) → A.size ≤ 140737488352001 ∧ B.size ≤ 140737488352001 := by
  intro t
  induction t with
  | bare h =>
    intro u A B _ _ e
    rw [show fst1 (.bare h) u = none by cases u <;> rfl] at e
    exact absurd e (by simp)
  | leaf s l =>
    intro u A B h1 h2 e
    have g1 := text_size h1
    have g2 := text_size h2
    have e' : (if (Pt.leaf s l).text = u.text then none else some ((Pt.leaf s l).text, u.text)) = some (A, B) := by rw [← e]; cases u <;> rfl
    split at e'
    · exact absurd e' (by simp)
    · injection e' with e'
      injection e' with e1 e2
      rw [← e1, ← e2]
      exact ⟨g1, g2⟩
  | node s l r ihl ihr =>
    intro u A B h1 h2 e
    have g1 := text_size h1
    have g2 := text_size h2
    cases u with
    | node s' l' r' =>
      rw [fst1] at e
      split at e
      · cases hl : fst1 l l' with
        | some c =>
          rw [hl] at e
          exact ihl l' h1.2.2.1 h2.2.2.1 (hl.trans e)
        | none =>
          rw [hl] at e
          exact ihr r' h1.2.2.2 h2.2.2.2 e
      · injection e with e
        injection e with e1 e2
        rw [← e1, ← e2]
        exact ⟨g1, g2⟩
    | bare h =>
      rw [show fst1 (.node s l r) (.bare h) = if (Pt.node s l r).text = (Pt.bare h).text then none else some ((Pt.node s l r).text, (Pt.bare h).text) from rfl] at e
      split at e
      · exact absurd e (by simp)
      · injection e with e
        injection e with e1 e2
        rw [← e1, ← e2]
        exact ⟨g1, g2⟩
    | leaf h h' =>
      rw [show fst1 (.node s l r) (.leaf h h') = if (Pt.node s l r).text = (Pt.leaf h h').text then none else some ((Pt.node s l r).text, (Pt.leaf h h').text) from rfl] at e
      split at e
      · exact absurd e (by simp)
      · injection e with e
        injection e with e1 e2
        rw [← e1, ← e2]
        exact ⟨g1, g2⟩
theorem own_sml (wd : Int) (lk : Nat → Nat → Nat) (xs : List ByteArray) (hx : Fits xs) (n : Nat) : ∀ a b, b - a = n → a < b → b ≤ xs.length → Sml (gw (HH wd) lk (fun p => xs.getD p ByteArray.empty) (ow (RR wd xs)) () a b).1 := by
  have sz : ∀ a b, a < b → b ≤ xs.length → (gw (HH wd) lk (fun p => xs.getD p ByteArray.empty) (ow (RR wd xs)) () a b).1.sum.size ≤ 32 := fun a b h1 h2 => by rw [own_sum wd lk xs a b h1 h2]; exact RT_le _ _
  induction n using Nat.strongRecOn with
  | ind n ih =>
    intro a b hn hab hb
    by_cases h1 : lk a b = 1
    · rw [gw_bare h1]; trivial
    by_cases h2 : 2 ≤ b - a
    · have hh := half_lt h2
      by_cases h3 : lk a b = 2
      · rw [gw_left h3 h2]
        exact ⟨sz _ _ (by omega) (by omega), sz _ _ (by omega) hb, ih (half (b - a)) (by omega) _ _ (by omega) (by omega) (by omega), ih (b - (a + half (b - a))) (by omega) _ _ rfl (by omega) hb⟩
      · rw [gw_right h1 h3 h2]
        exact ⟨sz _ _ (by omega) (by omega), sz _ _ (by omega) hb, ih (half (b - a)) (by omega) _ _ (by omega) (by omega) (by omega), ih (b - (a + half (b - a))) (by omega) _ _ rfl (by omega) hb⟩
    · rw [gw_leaf h1 h2]
      have h : a < xs.length := by omega
      show (xs.getD a ByteArray.empty).size ≤ _
      rw [List.getD_eq_getElem?_getD, List.getElem?_eq_getElem h]
      exact hx.each _ (List.getElem_mem h)
end Go.Proofs.YthppkdjekfginaaGreatDoor.ux

namespace Go.Proofs.YthppkdjekfginaaGreatDoor.oa
open Go.RowKit Go.PlainAid
open Go.Proofs.YthppkdjekfginaaGreatDoor.pl Go.Proofs.YthppkdjekfginaaGreatDoor.pi Go.Proofs.YthppkdjekfginaaGreatDoor.pj Go.Proofs.YthppkdjekfginaaGreatDoor.ca Go.Proofs.YthppkdjekfginaaGreatDoor.cb Go.Proofs.YthppkdjekfginaaGreatDoor.cp Go.Proofs.YthppkdjekfginaaGreatDoor.ga Go.Proofs.YthppkdjekfginaaGreatDoor.gb Go.Proofs.YthppkdjekfginaaGreatDoor.aa Go.Proofs.YthppkdjekfginaaGreatDoor.ka Go.Proofs.YthppkdjekfginaaGreatDoor.kb Go.Proofs.YthppkdjekfginaaGreatDoor.kc Go.Proofs.YthppkdjekfginaaGreatDoor.kp Go.Proofs.YthppkdjekfginaaGreatDoor.lk Go.Proofs.YthppkdjekfginaaGreatDoor.qb Go.Proofs.YthppkdjekfginaaGreatDoor.qc Go.Proofs.YthppkdjekfginaaGreatDoor.qr Go.Proofs.YthppkdjekfginaaGreatDoor.ta Go.Proofs.YthppkdjekfginaaGreatDoor.tb Go.Proofs.YthppkdjekfginaaGreatDoor.tc Go.Proofs.YthppkdjekfginaaGreatDoor.ua
set_option linter.unusedVariables false

-- the shape of an older size's claim, and its hashes
def lkO (m a b : Nat) : Nat := if lkC m a b = 0 then 1 else lkC m a b
def nxO (m : Nat) (old : ByteArray) (x : List ByteArray) (a b : Nat) : ByteArray × List ByteArray := if a = 0 ∧ b = m then (old, x) else (x.headD ByteArray.empty, x.drop 1)
theorem lkC_in {m a b : Nat} (h1 : a < m) (h2 : m < b) : lkC m a b = if m ≤ a + half (b - a) then 2 else 3 := by
  unfold lkC
  rw [if_neg (by omega), if_neg (by omega)]
  by_cases h : m ≤ a + half (b - a)
  · rw [if_pos (by omega), if_pos h]
  · rw [if_neg (by omega), if_neg h]
theorem lkC_out {m a b : Nat} (h : ¬ (a < m ∧ m < b)) (h0 : ¬ (a = 0 ∧ b = m)) : lkC m a b = 1 := by
  unfold lkC
  rw [if_neg h0, if_pos (by omega)]
theorem lkO_in {m a b : Nat} (h1 : a < m) (h2 : m < b) : lkO m a b = if m ≤ a + half (b - a) then 2 else 3 := by
  unfold lkO
  rw [lkC_in h1 h2]
  by_cases h : m ≤ a + half (b - a)
  · rw [if_pos h, if_neg (by omega)]
  · rw [if_neg h, if_neg (by omega)]
theorem lkO_out {m a b : Nat} (h : ¬ (a < m ∧ m < b)) : lkO m a b = 1 := by
  unfold lkO
  by_cases h0 : a = 0 ∧ b = m
  · rw [if_pos (by unfold lkC; rw [if_pos h0])]
  · rw [lkC_out h h0, if_neg (by omega)]
theorem lkO_ne (m a b : Nat) : lkO m a b ≠ 1 ↔ a < m ∧ m < b := by
  by_cases h : a < m ∧ m < b
  · rw [lkO_in h.1 h.2]
    refine ⟨fun _ => h, fun _ => ?_⟩
    split <;> omega
  · rw [lkO_out h]
    exact ⟨fun e => absurd rfl e, fun e => absurd e h⟩
theorem dirO (m : Nat) {a b : Nat} (h1 : lkO m a b ≠ 1) (h2 : 2 ≤ b - a) : lkO m a b = 2 ↔ ¬ (true = true ∧ lkO m (a + half (b - a)) b ≠ 1) := by
  have h := (lkO_ne m a b).1 h1
  rw [lkO_in h.1 h.2, lkO_ne]
  by_cases g : m ≤ a + half (b - a)
  · rw [if_pos g]
    exact ⟨fun _ q => by omega, fun _ => rfl⟩
  · rw [if_neg g]
    exact ⟨fun q => by omega, fun q => absurd ⟨rfl, by omega, h.2⟩ q⟩
section
variable {lf : Nat → ByteArray} {m : Nat} {old : ByteArray} {wd : Int}
theorem gwO_state (H : ByteArray → ByteArray) (n : Nat) : ∀ (a b : Nat) (x : List ByteArray), b - a = n → a < b → (gw H (lkO m) lf (nxO m old) x a b).2 = x.drop (WL (lkC m) a b).length := by
  induction n using Nat.strongRecOn with
  | ind n ih =>
    intro a b x hn hab
    by_cases h : a < m ∧ m < b
    · have h2 : 2 ≤ b - a := by omega
      have hh := half_lt h2
      have e1 := lkO_in h.1 h.2
      have e2 := lkC_in h.1 h.2
      by_cases g : m ≤ a + half (b - a)
      · rw [if_pos g] at e1 e2
        rw [gw_left e1 h2, WL_left e2 h2]
        simp only
        rw [ih (half (b - a)) (by omega) a _ x (by omega) (by omega), ih (b - (a + half (b - a))) (by omega) _ _ _ rfl (by omega), List.drop_drop, List.length_append]
      · rw [if_neg g] at e1 e2
        rw [gw_right (by omega) (by omega) h2, WL_right (by omega) h2]
        simp only
        rw [ih (b - (a + half (b - a))) (by omega) _ _ x rfl (by omega), ih (half (b - a)) (by omega) a _ _ (by omega) (by omega), List.drop_drop, List.length_append]
    · rw [gw_bare (lkO_out h)]
      unfold nxO
      by_cases h0 : a = 0 ∧ b = m
      · rw [if_pos h0, WL_pass (by unfold lkC; rw [if_pos h0])]; rfl
      · rw [if_neg h0, WL_take (lkC_out h h0)]; rfl
theorem gwO_right (ho : old.size = wid wd) (n : Nat) : ∀ (a b : Nat) (x : List ByteArray), b - a = n → a < b → (WL (lkC m) a b).length ≤ x.length → Wide wd x → Right (HH wd) (wid wd) (gw (HH wd) (lkO m) lf (nxO m old) x a b).1 := by
  induction n using Nat.strongRecOn with
  | ind n ih =>
    intro a b x hn hab hl hw
    by_cases h : a < m ∧ m < b
    · have h2 : 2 ≤ b - a := by omega
      have hh := half_lt h2
      have e1 := lkO_in h.1 h.2
      have e2 := lkC_in h.1 h.2
      by_cases g : m ≤ a + half (b - a)
      · rw [if_pos g] at e1 e2
        rw [WL_left e2 h2, List.length_append] at hl
        rw [gw_left e1 h2, gwO_state _ _ _ _ _ rfl (by omega)]
        exact ⟨rfl, ih (half (b - a)) (by omega) _ _ _ (by omega) (by omega) (by omega) hw, ih (b - (a + half (b - a))) (by omega) _ _ _ rfl (by omega) (by rw [List.length_drop]; omega) (hw.drop _)⟩
      · rw [if_neg g] at e1 e2
        rw [WL_right (by omega) h2, List.length_append] at hl
        rw [gw_right (by omega) (by omega) h2, gwO_state _ _ _ _ _ rfl (by omega)]
        exact ⟨rfl, ih (half (b - a)) (by omega) _ _ _ (by omega) (by omega) (by rw [List.length_drop]; omega) (hw.drop _), ih (b - (a + half (b - a))) (by omega) _ _ _ rfl (by omega) (by omega) hw⟩
    · rw [gw_bare (lkO_out h)]
      unfold nxO
      by_cases h0 : a = 0 ∧ b = m
      · rw [if_pos h0]; exact ho
      · rw [if_neg h0]
        rw [WL_take (lkC_out h h0)] at hl
        exact hw.head hl
-- what grow reckons: the new root is the tree's sum
theorem go_bare {a b : Nat} (x : List ByteArray) (hab : a < b) (h : ¬ (a < m ∧ m < b)) : (go (WG wd m old) x a b).1.2 = (nxO m old x a b).1 ∧ (a < m → (go (WG wd m old) x a b).1.1 = (nxO m old x a b).1) := by
  unfold nxO
  by_cases h0 : a = 0 ∧ b = m
  · obtain ⟨rfl, rfl⟩ := h0
    rw [qx.go_whole, if_pos ⟨rfl, rfl⟩]
    exact ⟨rfl, fun _ => rfl⟩
  · rw [if_neg h0]
    by_cases g : a < m
    · rw [qx.go_old wd old x h0 (by omega) g]
      exact ⟨rfl, fun _ => rfl⟩
    · rw [qx.go_new wd old x h0 (by omega)]
      exact ⟨rfl, fun q => absurd q g⟩
theorem go_two {a b : Nat} (x : List ByteArray) (h : a < m ∧ m < b) (g : m ≤ a + half (b - a)) : (go (WG wd m old) x a b).1 = (WG wd m old).jn (go (WG wd m old) x a (a + half (b - a))).1 (go (WG wd m old) (x.drop (WL (lkC m) a (a + half (b - a))).length) (a + half (b - a)) b).1 := by
  have h2 : 2 ≤ b - a := by omega
  have hh := half_lt h2
  have e2 := lkC_in h.1 h.2
  rw [if_pos g] at e2
  have e : (WG wd m old).lk x a b = (2, x) := by show (lkC m a b, x) = _; rw [e2]
  rw [go_left (by rw [e]) h2, e]
  simp only
  rw [qu.go_stateG wd m old (half (b - a)) a (a + half (b - a)) x (by omega) (by omega)]
theorem go_three {a b : Nat} (x : List ByteArray) (h : a < m ∧ m < b) (g : ¬ m ≤ a + half (b - a)) : (go (WG wd m old) x a b).1 = (WG wd m old).jn (go (WG wd m old) (x.drop (WL (lkC m) (a + half (b - a)) b).length) a (a + half (b - a))).1 (go (WG wd m old) x (a + half (b - a)) b).1 := by
  have h2 : 2 ≤ b - a := by omega
  have hh := half_lt h2
  have e2 := lkC_in h.1 h.2
  rw [if_neg g] at e2
  have e : (WG wd m old).lk x a b = (3, x) := by show (lkC m a b, x) = _; rw [e2]
  rw [go_right (by rw [e]; exact Nat.le_refl _) h2, e]
  simp only
  rw [qu.go_stateG wd m old (b - (a + half (b - a))) (a + half (b - a)) b x rfl (by omega)]
theorem gwO_sum (n : Nat) : ∀ (a b : Nat) (x : List ByteArray), b - a = n → a < b → (gw (HH wd) (lkO m) lf (nxO m old) x a b).1.sum = (go (WG wd m old) x a b).1.2 := by
  induction n using Nat.strongRecOn with
  | ind n ih =>
    intro a b x hn hab
    by_cases h : a < m ∧ m < b
    · have h2 : 2 ≤ b - a := by omega
      have hh := half_lt h2
      have e1 := lkO_in h.1 h.2
      by_cases g : m ≤ a + half (b - a)
      · rw [if_pos g] at e1
        rw [gw_left e1 h2, gwO_state _ _ _ _ _ rfl (by omega), go_two x h g]
        show HH wd (tx1 _ _) = NF wd _ _
        rw [ih (half (b - a)) (by omega) _ _ _ (by omega) (by omega), ih (b - (a + half (b - a))) (by omega) _ _ _ rfl (by omega)]
        rfl
      · rw [if_neg g] at e1
        rw [gw_right (by omega) (by omega) h2, gwO_state _ _ _ _ _ rfl (by omega), go_three x h g]
        show HH wd (tx1 _ _) = NF wd _ _
        rw [ih (half (b - a)) (by omega) _ _ _ (by omega) (by omega), ih (b - (a + half (b - a))) (by omega) _ _ _ rfl (by omega)]
        rfl
    · rw [gw_bare (lkO_out h), (go_bare x hab h).1]
      rfl
end
theorem brs_len : ∀ (t u : Pt), ta.Alike t u → (brs t).length = (brs u).length
  | .bare _, .bare _, _ => rfl
  | .leaf _ _, .leaf _ _, _ => rfl
  | .node _ l r, .node _ l' r', h => by
    show (brs l ++ brs r).length = (brs l' ++ brs r').length
    rw [List.length_append, List.length_append, brs_len l l' h.1, brs_len r r' h.2]
  | .bare _, .leaf _ _, h => h.elim
  | .bare _, .node _ _ _, h => h.elim
  | .leaf _ _, .bare _, h => h.elim
  | .leaf _ _, .node _ _ _, h => h.elim
  | .node _ _ _, .bare _, h => h.elim
  | .node _ _ _, .leaf _ _, h => h.elim
-- all bare hashes are the list's: then the older root is
theorem gwO_old {wd : Int} {m : Nat} {old : ByteArray} {lf lf' : Nat → ByteArray} (xs : List ByteArray) (n : Nat) : ∀ (a b : Nat) (x : List ByteArray), b - a = n → a < m → m ≤ b → b ≤ xs.length →
    brs (gw (HH wd) (lkO m) lf (nxO m old) x a b).1 = brs (gw (HH wd) (lkO m) lf' (ow (RR wd xs)) () a b).1 → (go (WG wd m old) x a b).1.1 = RR wd xs a m := by
  induction n using Nat.strongRecOn with
  | ind n ih =>
    intro a b x hn ha hmb hb hq
    by_cases h : a < m ∧ m < b
    · have h2 : 2 ≤ b - a := by omega
      have hh := half_lt h2
      have e1 := lkO_in h.1 h.2
      by_cases g : m ≤ a + half (b - a)
      · rw [if_pos g] at e1
        rw [gw_left e1 h2, gw_left e1 h2] at hq
        have hq' : brs _ ++ brs _ = brs _ ++ brs _ := hq
        obtain ⟨q1, q2⟩ := List.append_inj hq' (brs_len _ _ (gw_alike _ _ _ _ _ _ _ _ _ _ _ rfl))
        have i1 := ih (half (b - a)) (by omega) a (a + half (b - a)) x (by omega) ha g (by omega) q1
        rw [go_two x h g]
        have h0r : ¬ (a + half (b - a) = 0 ∧ b = m) := fun q => by omega
        rw [qx.go_new wd old _ h0r g]
        show (if (⟨#[]⟩ : ByteArray) = ⟨#[]⟩ then (go (WG wd m old) x a (a + half (b - a))).1.1 else NF wd (go (WG wd m old) x a (a + half (b - a))).1.1 ⟨#[]⟩) = _
        rw [if_pos rfl]
        exact i1
      · rw [if_neg g] at e1
        rw [gw_right (by omega) (by omega) h2, gw_right (by omega) (by omega) h2] at hq
        have hq' : brs _ ++ brs _ = brs _ ++ brs _ := hq
        obtain ⟨q1, q2⟩ := List.append_inj hq' (brs_len _ _ (gw_alike _ _ _ _ _ _ _ _ _ _ _ rfl))
        have i2 := ih (b - (a + half (b - a))) (by omega) (a + half (b - a)) b x rfl (by omega) hmb hb q2
        rw [gwO_state _ _ _ _ _ rfl (by omega)] at q1
        have hnl : ¬ (a < m ∧ m < a + half (b - a)) := fun q => by omega
        rw [gw_bare (lkO_out hnl), gw_bare (lkO_out hnl)] at q1
        have q3 : (nxO m old (x.drop (WL (lkC m) (a + half (b - a)) b).length) a (a + half (b - a))).1 = RR wd xs a (a + half (b - a)) := by
          have : [_] = [_] := q1
          injection this
        rw [go_three x h g]
        show (if (go (WG wd m old) x (a + half (b - a)) b).1.1 = ⟨#[]⟩ then _ else NF wd (go (WG wd m old) (x.drop (WL (lkC m) (a + half (b - a)) b).length) a (a + half (b - a))).1.1 (go (WG wd m old) x (a + half (b - a)) b).1.1) = _
        rw [i2, (go_bare _ (by omega) hnl).2 ha, q3, if_neg]
        · exact (zg.R_mid wd h2 (by omega) hmb hb).symm
        · intro he
          have h1 : (RR wd xs (a + half (b - a)) m).size = wid wd := RT_size wd _
          rw [he] at h1
          have h3 := pi.wid_pos wd
          have h4 : (⟨#[]⟩ : ByteArray).size = 0 := rfl
          omega
    · obtain rfl : m = b := by omega
      rw [gw_bare (lkO_out h), gw_bare (lkO_out h)] at hq
      have q3 : (nxO m old x a m).1 = RR wd xs a m := by
        have : [_] = [_] := hq
        injection this
      rw [(go_bare x (by omega) h).2 ha, q3]
-- what is accepted
theorem conA_ok {wd m n : Int} {old root : ByteArray} {proof : List ByteArray} (h : qw.conA wd m n old root proof = 0) : ∃ M N : Nat, m = M ∧ n = N ∧ M ≤ N ∧ N ≤ 4611686018427387904 ∧ (M ≠ 0 → proof.length = (WL (lkC M) 0 N).length) ∧ Wide wd proof ∧ old.size = wid wd ∧ root.size = wid wd ∧ (M = 0 → EF wd = old) ∧ (M ≠ 0 → qv.gw2 wd M N old proof = (old, root)) := by
  unfold qw.conA at h
  by_cases q : qw.conR wd m n proof [old, root] = 0
  · rw [if_pos q] at h
    obtain ⟨M, N, rfl, rfl, q1, q2, q3, q4, q5, q6⟩ := qw.conR_ok q
    refine ⟨M, N, rfl, rfl, q1, q2, fun h0 => by rw [q3, if_neg h0], q4, q5 old (by simp), q5 root (by simp), fun h0 => ?_, fun h0 => ?_⟩
    · rw [if_pos (by omega)] at h
      unfold qv.begA at h
      by_cases k1 : (N : Int) = 0 ∧ root ≠ old
      · rw [if_pos k1] at h; omega
      · rw [if_neg k1] at h
        by_cases k2 : EF wd = old
        · exact k2
        · rw [if_neg k2] at h; omega
    · rw [if_neg (by omega), Int.toNat_natCast, Int.toNat_natCast] at h
      by_cases k2 : qv.gw2 wd M N old proof = (old, root)
      · exact k2
      · rw [if_neg k2] at h; omega
  · rw [if_neg q] at h; exact absurd h q
def oldT (wd : Int) (M : Nat) (xs : List ByteArray) (old : ByteArray) (proof : List ByteArray) : Option (ByteArray × ByteArray) := fst1 (gw (HH wd) (lkO M) (fun _ => ByteArray.empty) (nxO M old) proof 0 xs.length).1 (ownT wd (lkO M) xs)
theorem old_inner {wd m : Int} {xs : List ByteArray} {old : ByteArray} {proof : List ByteArray} (h : qw.conA wd m xs.length old (RT wd xs) proof = 0) (hne : RT wd (xs.take m.toNat) ≠ old) : ∃ M : Nat, m = M ∧ 1 ≤ M ∧ M < xs.length := by
  obtain ⟨M, N, rfl, hN, h1, h2, h3, h4, h5, h6, h7, h8⟩ := conA_ok h
  obtain rfl : xs.length = N := by omega
  rw [Int.toNat_natCast] at hne
  refine ⟨M, rfl, ?_, ?_⟩
  · by_cases e : M = 0
    · subst e
      rw [List.take_zero, RT_nil] at hne
      exact absurd (h7 rfl) hne
    · omega
  · by_cases e : M = xs.length
    · rw [e, List.take_length] at hne
      by_cases e0 : M = 0
      · rw [e0] at e
        have : xs = [] := List.length_eq_zero_iff.1 e.symm
        subst this
        rw [RT_nil] at hne
        exact absurd (h7 e0) hne
      · have g := h8 e0
        unfold qv.gw2 at g
        rw [← e, qx.go_whole] at g
        have : (old, old) = (old, RT wd xs) := g
        injection this with _ e2
        exact absurd e2.symm hne
    · omega
theorem old_sound {wd m : Int} {xs : List ByteArray} {old : ByteArray} {proof : List ByteArray} (h : qw.conA wd m xs.length old (RT wd xs) proof = 0) (hne : RT wd (xs.take m.toNat) ≠ old) : ∃ A B, oldT wd m.toNat xs old proof = some (A, B) ∧ A ≠ B ∧ cutS A wd = cutS B wd := by
  obtain ⟨M, rfl, m1, m2⟩ := old_inner h hne
  obtain ⟨M', N, hM, hN, h1, h2, h3, h4, h5, h6, h7, h8⟩ := conA_ok h
  obtain rfl : M = M' := by omega
  obtain rfl : xs.length = N := by omega
  rw [Int.toNat_natCast] at hne ⊢
  have g := h8 (by omega)
  unfold qv.gw2 at g
  have s1 := gwO_sum (wd := wd) (m := M) (old := old) (lf := fun _ => ByteArray.empty) xs.length 0 xs.length proof rfl (by omega)
  rw [g] at s1
  have s2 := own_sum wd (lkO M) xs 0 xs.length (by omega) (Nat.le_refl _)
  have e : RR wd xs 0 xs.length = RT wd xs := by unfold RR; rw [slc_all]
  unfold oldT
  rcases fst_sound (H := HH wd) (k := wid wd) (HH_size wd) (gw (HH wd) (lkO M) (fun _ => ByteArray.empty) (nxO M old) proof 0 xs.length).1 (ownT wd (lkO M) xs) (gw_alike _ _ _ _ _ _ _ 0 xs.length proof () rfl) (gwO_right h5 xs.length 0 xs.length proof rfl (by omega) (by rw [h3 (by omega)]; exact Nat.le_refl _) h4) (own_right wd (lkO M) xs 0 xs.length) (by rw [s1]; unfold ownT; rw [s2, e]) with q | ⟨_, _, q⟩
  · exact q
  · exfalso
    have o := gwO_old (wd := wd) (m := M) (old := old) xs xs.length 0 xs.length proof rfl (by omega) (by omega) (Nat.le_refl _) q
    rw [g] at o
    have o2 : old = RR wd xs 0 M := o
    apply hne
    rw [o2]
    unfold RR slc
    simp
end Go.Proofs.YthppkdjekfginaaGreatDoor.oa

namespace Go.Proofs.YthppkdjekfginaaGreatDoor.ob
open Go.RowKit Go.PlainAid
open Go.Proofs.YthppkdjekfginaaGreatDoor.pl Go.Proofs.YthppkdjekfginaaGreatDoor.pi Go.Proofs.YthppkdjekfginaaGreatDoor.pj Go.Proofs.YthppkdjekfginaaGreatDoor.ca Go.Proofs.YthppkdjekfginaaGreatDoor.cb Go.Proofs.YthppkdjekfginaaGreatDoor.cp Go.Proofs.YthppkdjekfginaaGreatDoor.ga Go.Proofs.YthppkdjekfginaaGreatDoor.gb Go.Proofs.YthppkdjekfginaaGreatDoor.aa Go.Proofs.YthppkdjekfginaaGreatDoor.ba Go.Proofs.YthppkdjekfginaaGreatDoor.bb Go.Proofs.YthppkdjekfginaaGreatDoor.ka Go.Proofs.YthppkdjekfginaaGreatDoor.kb Go.Proofs.YthppkdjekfginaaGreatDoor.kc Go.Proofs.YthppkdjekfginaaGreatDoor.kp Go.Proofs.YthppkdjekfginaaGreatDoor.lk Go.Proofs.YthppkdjekfginaaGreatDoor.qa Go.Proofs.YthppkdjekfginaaGreatDoor.qb Go.Proofs.YthppkdjekfginaaGreatDoor.qc Go.Proofs.YthppkdjekfginaaGreatDoor.ta Go.Proofs.YthppkdjekfginaaGreatDoor.tb Go.Proofs.YthppkdjekfginaaGreatDoor.tc Go.Proofs.YthppkdjekfginaaGreatDoor.ua Go.Proofs.YthppkdjekfginaaGreatDoor.ui Go.Proofs.YthppkdjekfginaaGreatDoor.uk Go.Proofs.YthppkdjekfginaaGreatDoor.un Go.Proofs.YthppkdjekfginaaGreatDoor.uq Go.Proofs.YthppkdjekfginaaGreatDoor.oa
set_option linter.unusedVariables false

-- the state of a claim with an older root
structure OS (base pb mb ob M : Nat) (old : ByteArray) (x : List ByteArray) (w : World) : Prop where
  p : KPile base pb x w
  m : w.cell? ⟨mb, 0, none⟩ = some (.int .i64 M)
  o : w.cell? ⟨ob, 0, none⟩ = some (.string old)
  t : Tab w
theorem old1 (mb M a b : Nat) (w : World) (h : w.cell? ⟨mb, 0, none⟩ = some (.int .i64 M)) : Calls Tryz.prog 18 #[.agg #[.int .i64 a, .int .i64 b], .pointer (some ⟨mb, 0, none⟩)] w fun e w' => e = .returned (.bool (decide (lkO M a b ≠ 1))) ∧ Below w.heap.size w w' := by
  have e : decide (lkO M a b ≠ 1) = (decide (a < M) && decide (M < b)) := by
    by_cases q : lkO M a b ≠ 1
    · have := (lkO_ne M a b).1 q
      rw [decide_eq_true q, decide_eq_true this.1, decide_eq_true this.2]; rfl
    · rw [decide_eq_false q]
      by_cases q1 : a < M
      · rw [decide_eq_true q1, decide_eq_false (fun q2 => q ((lkO_ne M a b).2 ⟨q1, q2⟩))]; rfl
      · rw [decide_eq_false q1]; rfl
  rw [e]
  obtain ⟨W, HW⟩ : ∃ W, Hid (W = w.alloc (.cells #[.int .i64 a, .int .i64 b] 43)) := ⟨_, rfl⟩
  have hw : w.alloc (.cells #[.int .i64 a, .int .i64 b] 43) = W := HW.out.symm
  have BW : Hid (Below w.heap.size w W) := by rw [HW.out]; exact (Below.refl _ _).alloc (Nat.le_refl _) _
  have s0 : W.cell? ⟨w.heap.size, 0, none⟩ = some (.int .i64 a) := by rw [HW.out, World.cell?_alloc_at _ _ _ _ rfl]; rfl
  have s1 : W.cell? ⟨w.heap.size, 1, none⟩ = some (.int .i64 b) := by rw [HW.out, World.cell?_alloc_at _ _ _ _ rfl]; rfl
  have h' := (BW.out.cell (World.block_lt_of_cell? _ _ h)).trans h
  clear h e
  by_cases h1 : a < M
  · have d1 : decide (a < M) = true := decide_eq_true h1
    by_cases h2 : M < b
    · have d2 : decide (M < b) = true := decide_eq_true h2
      rw [d1, d2]
      clear h1 h2
      go_enter Tryz.func18, Tryz.ntmps18
      go_wp2_with (rw [hw])
      go_ret
      exact ⟨rfl, BW.out⟩
    · have d2 : decide (M < b) = false := decide_eq_false h2
      rw [d1, d2]
      clear h1 h2
      go_enter Tryz.func18, Tryz.ntmps18
      go_wp2_with (rw [hw])
      go_ret
      exact ⟨rfl, BW.out⟩
  · have d1 : decide (a < M) = false := decide_eq_false h1
    rw [d1]
    clear h1
    go_enter Tryz.func18, Tryz.ntmps18
    go_wp2_with (rw [hw])
    go_ret
    exact ⟨rfl, BW.out⟩
theorem eqS (a b M : Nat) (w : World) (c : Bool) (h : decide (a = 0 ∧ b = M) = c) : (binOp .eql 43 (.agg #[.int .i64 a, .int .i64 b]) (.agg #[.int .i64 0, .int .i64 M])).run Tryz.prog w = .ok (.bool c) w := by
  subst h
  by_cases h1 : a = 0 <;> by_cases h2 : b = M <;> simp [go_sem, h1, h2] <;> omega
theorem old2 (base pb mb ob M a b : Nat) (old : ByteArray) (x : List ByteArray) (w : World) (h : OS base pb mb ob M old x w) (hB : 4 ≤ base) (hm : mb ≠ pb) (ho : ob ≠ pb) (hx : ¬ (a = 0 ∧ b = M) → 1 ≤ x.length) :
    Calls Tryz.prog 19 #[.agg #[.int .i64 a, .int .i64 b], .pointer (some ⟨mb, 0, none⟩), .pointer (some ⟨ob, 0, none⟩), .pointer (some ⟨pb, 0, none⟩)] w fun e w' => e = .returned (.string (nxO M old x a b).1) ∧ OS base pb mb ob M old (nxO M old x a b).2 w' ∧ Kp (fun b => b = pb) w w' := by
  obtain ⟨W, HW⟩ : ∃ W, Hid (W = w.alloc (.cells #[.int .i64 a, .int .i64 b] 43)) := ⟨_, rfl⟩
  have hw : w.alloc (.cells #[.int .i64 a, .int .i64 b] 43) = W := HW.out.symm
  have BW : Hid (Below w.heap.size w W) := by rw [HW.out]; exact (Below.refl _ _).alloc (Nat.le_refl _) _
  have s0 : W.cell? ⟨w.heap.size, 0, none⟩ = some (.int .i64 a) := by rw [HW.out, World.cell?_alloc_at _ _ _ _ rfl]; rfl
  have s1 : W.cell? ⟨w.heap.size, 1, none⟩ = some (.int .i64 b) := by rw [HW.out, World.cell?_alloc_at _ _ _ _ rfl]; rfl
  have hS : OS base pb mb ob M old x W := ⟨h.p.keep (Kp.of_below (A := no) BW.out) (fun _ e => e.elim) (fun e => e), (BW.out.cell (World.block_lt_of_cell? _ _ h.m)).trans h.m, (BW.out.cell (World.block_lt_of_cell? _ _ h.o)).trans h.o, h.t.down BW.out⟩
  have HS : Hid (OS base pb mb ob M old x W) := hS
  have c1 := hS.m
  have c2 := hS.o
  by_cases h0 : a = 0 ∧ b = M
  · have e : nxO M old x a b = (old, x) := by unfold nxO; rw [if_pos h0]
    have qe := fun w => eqS a b M w true (decide_eq_true h0)
    rw [e]
    clear h hx e hS h0
    go_enter Tryz.func19, Tryz.ntmps19
    go_wp2_with (rw [hw])
    go_ret
    exact ⟨rfl, HS.out, Kp.of_below BW.out⟩
  · have hx1 := hx h0
    have e : nxO M old x a b = (x.headD ByteArray.empty, x.drop 1) := by unfold nxO; rw [if_neg h0]
    have qe := fun w => eqS a b M w false (decide_eq_false h0)
    rw [e]
    cases x with
    | nil => simp at hx1
    | cons y t =>
      have NC : Hid (Calls _ _ _ _ _) := knext base pb y t a b W hS.p
      clear h hx hx1 e hS h0
      go_enter Tryz.func19, Tryz.ntmps19
      go_wp2_with (rw [hw])
      refine NC.out.mono ?_
      rintro e w2 ⟨rfl, q1, q2⟩
      have Q : Hid (KPile base pb t w2 ∧ Kp (fun b => b = pb) W w2) := ⟨q1, q2⟩
      clear q1 q2
      go_wp2
      go_ret
      refine ⟨rfl, ⟨Q.out.1, Q.out.2.cell HS.out.m hm, Q.out.2.cell HS.out.o ho, ?_⟩, (Kp.of_below BW.out).trans Q.out.2⟩
      exact HS.out.t.below (Q.out.2.below (fun k e => by subst e; exact HS.out.p.new) (Nat.le_trans HS.out.p.new (Nat.le_of_lt HS.out.p.lt))) hB
def PO (wd : Int) (M N : Nat) (x : List ByteArray) (a b : Nat) : Prop := (WL (lkC M) a b).length ≤ x.length ∧ Wide wd x ∧ b ≤ N
theorem oldFl {base pb mb ob M N : Nat} {wd : Int} {old : ByteArray} (hN : N ≤ 4611686018427387904) (hB : 4 ≤ base) (hm : mb ≠ pb) (ho : ob ≠ pb) (hs : old.size = wid wd) :
    Fl (fun b => b = pb) (OS base pb mb ob M old) wd (lkO M) true (fun _ => ByteArray.empty) (nxO M old) (PO wd M N) 18 19 .nilFunc #[] #[.pointer (some ⟨mb, 0, none⟩)] #[] #[.pointer (some ⟨mb, 0, none⟩), .pointer (some ⟨ob, 0, none⟩), .pointer (some ⟨pb, 0, none⟩)] where
  kent := fun args w => by simp [go_sem]
  hent := fun args w => by simp [go_sem]
  later := fun h hb => ⟨h.p.keep (Kp.of_below (A := no) hb) (fun _ e => e.elim) (fun e => e), (hb.cell (World.block_lt_of_cell? _ _ h.m)).trans h.m, (hb.cell (World.block_lt_of_cell? _ _ h.o)).trans h.o, h.t.down hb⟩
  fl := fun h b e => by subst e; exact h.p.lt
  tab := fun h => h.t
  bnd := fun h => Nat.le_trans h.2.2 hN
  knows := fun x a b a' b' w _ _ _ _ hS => old1 mb M a b w hS.m
  leaf := fun x a b h1 _ h2 => by have := (lkO_ne M a b).1 h2; omega
  lsz := fun {x a b} h1 _ h2 => by have := (lkO_ne M a b).1 h2; omega
  hash := fun x a b w hab hP h1 hS => old2 base pb mb ob M a b old x w hS hB hm ho fun h0 => by
    have hk : lkC M a b = 1 := lkC_out (fun q => (lkO_ne M a b).2 q h1) h0
    have := hP.1
    rw [WL_take hk] at this
    exact this
  hsz := fun {x a b} hP h1 => by
    unfold nxO
    by_cases h0 : a = 0 ∧ b = M
    · rw [if_pos h0]
      show old.size ≤ 32
      rw [hs]
      exact qb.wid_le wd
    · rw [if_neg h0]
      have hk : lkC M a b = 1 := lkC_out (fun q => (lkO_ne M a b).2 q h1) h0
      have p1 := hP.1
      rw [WL_take hk] at p1
      have : (x.headD ByteArray.empty).size = wid wd := hP.2.1.head p1
      show (x.headD ByteArray.empty).size ≤ 32
      rw [this]
      exact qb.wid_le wd
  dir := fun _ _ h1 h2 => dirO M h1 h2
  left := fun {x a b} hab hP h3 h2 => by
    have hh := half_lt h2
    have hin := (lkO_ne M a b).1 (by omega)
    have e1 := lkO_in hin.1 hin.2
    have e2 := lkC_in hin.1 hin.2
    obtain ⟨p1, p2, p3⟩ := hP
    rw [← e1, h3] at e2
    rw [WL_left e2 h2, List.length_append] at p1
    rw [gwO_state _ _ _ _ _ rfl (by omega)]
    exact ⟨⟨by omega, p2, by omega⟩, ⟨by rw [List.length_drop]; omega, p2.drop _, p3⟩⟩
  right := fun {x a b} hab hP h1 h3 h2 => by
    have hh := half_lt h2
    have hin := (lkO_ne M a b).1 h1
    have e1 := lkO_in hin.1 hin.2
    have e2 := lkC_in hin.1 hin.2
    obtain ⟨p1, p2, p3⟩ := hP
    have e3 : lkC M a b = 3 := by
      rw [e2]
      by_cases g : M ≤ a + half (b - a)
      · rw [if_pos g] at e1; exact absurd e1 h3
      · rw [if_neg g]
    rw [WL_right (by omega) h2, List.length_append] at p1
    rw [gwO_state _ _ _ _ _ rfl (by omega)]
    exact ⟨⟨by omega, p2, p3⟩, ⟨by rw [List.length_drop]; omega, p2.drop _, by omega⟩⟩
end Go.Proofs.YthppkdjekfginaaGreatDoor.ob
