import Derived.Test.YtfaalpdeabdhcaaGreatDoorG7
import Derived.Test.YtfaalpdeabdhcaaGreatDoorG1
namespace Go.Proofs.YtfaalpdeabdhcaaGreatDoor.ux
open Go.RowKit Go.PlainAid
open Go.Proofs.YtfaalpdeabdhcaaGreatDoor.pl Go.Proofs.YtfaalpdeabdhcaaGreatDoor.pg Go.Proofs.YtfaalpdeabdhcaaGreatDoor.pi Go.Proofs.YtfaalpdeabdhcaaGreatDoor.pj Go.Proofs.YtfaalpdeabdhcaaGreatDoor.ca Go.Proofs.YtfaalpdeabdhcaaGreatDoor.cb Go.Proofs.YtfaalpdeabdhcaaGreatDoor.cp Go.Proofs.YtfaalpdeabdhcaaGreatDoor.ga Go.Proofs.YtfaalpdeabdhcaaGreatDoor.gb Go.Proofs.YtfaalpdeabdhcaaGreatDoor.aa Go.Proofs.YtfaalpdeabdhcaaGreatDoor.ba Go.Proofs.YtfaalpdeabdhcaaGreatDoor.bb Go.Proofs.YtfaalpdeabdhcaaGreatDoor.ka Go.Proofs.YtfaalpdeabdhcaaGreatDoor.kb Go.Proofs.YtfaalpdeabdhcaaGreatDoor.kc Go.Proofs.YtfaalpdeabdhcaaGreatDoor.kp Go.Proofs.YtfaalpdeabdhcaaGreatDoor.lk Go.Proofs.YtfaalpdeabdhcaaGreatDoor.co Go.Proofs.YtfaalpdeabdhcaaGreatDoor.dc Go.Proofs.YtfaalpdeabdhcaaGreatDoor.qa Go.Proofs.YtfaalpdeabdhcaaGreatDoor.qb Go.Proofs.YtfaalpdeabdhcaaGreatDoor.qc Go.Proofs.YtfaalpdeabdhcaaGreatDoor.qd Go.Proofs.YtfaalpdeabdhcaaGreatDoor.qj Go.Proofs.YtfaalpdeabdhcaaGreatDoor.ta Go.Proofs.YtfaalpdeabdhcaaGreatDoor.tb Go.Proofs.YtfaalpdeabdhcaaGreatDoor.td Go.Proofs.YtfaalpdeabdhcaaGreatDoor.tc Go.Proofs.YtfaalpdeabdhcaaGreatDoor.ua Go.Proofs.YtfaalpdeabdhcaaGreatDoor.ub Go.Proofs.YtfaalpdeabdhcaaGreatDoor.ma Go.Proofs.YtfaalpdeabdhcaaGreatDoor.uh Go.Proofs.YtfaalpdeabdhcaaGreatDoor.ui Go.Proofs.YtfaalpdeabdhcaaGreatDoor.uj Go.Proofs.YtfaalpdeabdhcaaGreatDoor.uk Go.Proofs.YtfaalpdeabdhcaaGreatDoor.ul Go.Proofs.YtfaalpdeabdhcaaGreatDoor.um Go.Proofs.YtfaalpdeabdhcaaGreatDoor.un Go.Proofs.YtfaalpdeabdhcaaGreatDoor.uo Go.Proofs.YtfaalpdeabdhcaaGreatDoor.uq Go.Proofs.YtfaalpdeabdhcaaGreatDoor.ur Go.Proofs.YtfaalpdeabdhcaaGreatDoor.us Go.Proofs.YtfaalpdeabdhcaaGreatDoor.ut
set_option linter.unusedVariables false

theorem text_size {t : Pt} (h : Sml t) : t.text.size ≤ 140737488352001 := by
  cases t with
  | bare _ => exact Nat.zero_le _
  | leaf s l =>
    show (tx0 l).size ≤ _
    unfold tx0
    rw [size1]
    have : l.size ≤ 140737488352000 := h
    omega
  | node s l r =>
    show (tx1 l.sum r.sum).size ≤ _
    unfold tx1
    rw [ByteArray.size_append, size1]
    have h1 : l.sum.size ≤ 32 := h.1
    have h2 : r.sum.size ≤ 32 := h.2.1
    omega
theorem fst_size : ∀ (t u : Pt) {A B : ByteArray}, Sml t → Sml u → fst1 t u = some (A, B) → A.size ≤ 140737488352001 ∧ B.size ≤ 140737488352001 := by
  intro t
  induction t with
  | bare h =>
    intro u A B _ _ e
    rw [show fst1 (.bare h) u = none by cases u <;> rfl] at e
    exact absurd e (by simp)
  | leaf s l =>
    intro u A B h1 h2 e
    have g1 := text_size h1
    have g2 := text_size h2
    have e' : (if (Pt.leaf s l).text = u.text then none else some ((Pt.leaf s l).text, u.text)) = some (A, B) := by rw [← e]; cases u <;> rfl
    split at e'
    · exact absurd e' (by simp)
    · injection e' with e'
      injection e' with e1 e2
      rw [← e1, ← e2]
      exact ⟨g1, g2⟩
  | node s l r ihl ihr =>
    intro u A B h1 h2 e
    have g1 := text_size h1
    have g2 := text_size h2
    cases u with
    | node s' l' r' =>
      rw [fst1] at e
      split at e
      · cases hl : fst1 l l' with
        | some c =>
          rw [hl] at e
          exact ihl l' h1.2.2.1 h2.2.2.1 (hl.trans e)
        | none =>
          rw [hl] at e
          exact ihr r' h1.2.2.2 h2.2.2.2 e
      · injection e with e
        injection e with e1 e2
        rw [← e1, ← e2]
        exact ⟨g1, g2⟩
    | bare h =>
      rw [show fst1 (.node s l r) (.bare h) = if (Pt.node s l r).text = (Pt.bare h).text then none else some ((Pt.node s l r).text, (Pt.bare h).text) from rfl] at e
      split at e
      · exact absurd e (by simp)
      · injection e with e
        injection e with e1 e2
        rw [← e1, ← e2]
        exact ⟨g1, g2⟩
    | leaf h h' =>
      rw [show fst1 (.node s l r) (.leaf h h') = if (Pt.node s l r).text = (Pt.leaf h h').text then none else some ((Pt.node s l r).text, (Pt.leaf h h').text) from rfl] at e
      split at e
      · exact absurd e (by simp)
      · injection e with e
        injection e with e1 e2
        rw [← e1, ← e2]
        exact ⟨g1, g2⟩
theorem own_sml (wd : Int) (lk : Nat → Nat → Nat) (xs : List ByteArray) (hx : Fits xs) (n : Nat) : ∀ a b, b - a = n → a < b → b ≤ xs.length → Sml (gw (HH wd) lk (fun p => xs.getD p ByteArray.empty) (ow (RR wd xs)) () a b).1 := by
  have sz : ∀ a b, a < b → b ≤ xs.length → (gw (HH wd) lk (fun p => xs.getD p ByteArray.empty) (ow (RR wd xs)) () a b).1.sum.size ≤ 32 := fun a b h1 h2 => by rw [own_sum wd lk xs a b h1 h2]; exact RT_le _ _
  induction n using Nat.strongRecOn with
  | ind n ih =>
    intro a b hn hab hb
    by_cases h1 : lk a b = 1
    · rw [gw_bare h1]; trivial
    by_cases h2 : 2 ≤ b - a
    · have hh := half_lt h2
      by_cases h3 : lk a b = 2
      · rw [gw_left h3 h2]
        exact ⟨sz _ _ (by omega) (by omega), sz _ _ (by omega) hb, ih (half (b - a)) (by omega) _ _ (by omega) (by omega) (by omega), ih (b - (a + half (b - a))) (by omega) _ _ rfl (by omega) hb⟩
      · rw [gw_right h1 h3 h2]
        exact ⟨sz _ _ (by omega) (by omega), sz _ _ (by omega) hb, ih (half (b - a)) (by omega) _ _ (by omega) (by omega) (by omega), ih (b - (a + half (b - a))) (by omega) _ _ rfl (by omega) hb⟩
    · rw [gw_leaf h1 h2]
      have h : a < xs.length := by omega
      show (xs.getD a ByteArray.empty).size ≤ _
      rw [List.getD_eq_getElem?_getD, List.getElem?_eq_getElem h]
      exact hx.each _ (List.getElem_mem h)
end Go.Proofs.YtfaalpdeabdhcaaGreatDoor.ux

namespace Go.Proofs.YtfaalpdeabdhcaaGreatDoor.vf
open Go.RowKit Go.PlainAid
open Go.Proofs.YtfaalpdeabdhcaaGreatDoor.pl Go.Proofs.YtfaalpdeabdhcaaGreatDoor.pi Go.Proofs.YtfaalpdeabdhcaaGreatDoor.pj Go.Proofs.YtfaalpdeabdhcaaGreatDoor.ca Go.Proofs.YtfaalpdeabdhcaaGreatDoor.cb Go.Proofs.YtfaalpdeabdhcaaGreatDoor.cp Go.Proofs.YtfaalpdeabdhcaaGreatDoor.ga Go.Proofs.YtfaalpdeabdhcaaGreatDoor.gb Go.Proofs.YtfaalpdeabdhcaaGreatDoor.aa Go.Proofs.YtfaalpdeabdhcaaGreatDoor.ba Go.Proofs.YtfaalpdeabdhcaaGreatDoor.bb Go.Proofs.YtfaalpdeabdhcaaGreatDoor.ka Go.Proofs.YtfaalpdeabdhcaaGreatDoor.kb Go.Proofs.YtfaalpdeabdhcaaGreatDoor.kc Go.Proofs.YtfaalpdeabdhcaaGreatDoor.kp Go.Proofs.YtfaalpdeabdhcaaGreatDoor.lk Go.Proofs.YtfaalpdeabdhcaaGreatDoor.lm Go.Proofs.YtfaalpdeabdhcaaGreatDoor.co Go.Proofs.YtfaalpdeabdhcaaGreatDoor.dc Go.Proofs.YtfaalpdeabdhcaaGreatDoor.qa Go.Proofs.YtfaalpdeabdhcaaGreatDoor.qb Go.Proofs.YtfaalpdeabdhcaaGreatDoor.qc Go.Proofs.YtfaalpdeabdhcaaGreatDoor.qj Go.Proofs.YtfaalpdeabdhcaaGreatDoor.qk Go.Proofs.YtfaalpdeabdhcaaGreatDoor.qo Go.Proofs.YtfaalpdeabdhcaaGreatDoor.qp Go.Proofs.YtfaalpdeabdhcaaGreatDoor.ta Go.Proofs.YtfaalpdeabdhcaaGreatDoor.tb Go.Proofs.YtfaalpdeabdhcaaGreatDoor.td Go.Proofs.YtfaalpdeabdhcaaGreatDoor.tc Go.Proofs.YtfaalpdeabdhcaaGreatDoor.ua Go.Proofs.YtfaalpdeabdhcaaGreatDoor.ub Go.Proofs.YtfaalpdeabdhcaaGreatDoor.ma Go.Proofs.YtfaalpdeabdhcaaGreatDoor.uh Go.Proofs.YtfaalpdeabdhcaaGreatDoor.ui Go.Proofs.YtfaalpdeabdhcaaGreatDoor.uj Go.Proofs.YtfaalpdeabdhcaaGreatDoor.uk Go.Proofs.YtfaalpdeabdhcaaGreatDoor.ul Go.Proofs.YtfaalpdeabdhcaaGreatDoor.um Go.Proofs.YtfaalpdeabdhcaaGreatDoor.un Go.Proofs.YtfaalpdeabdhcaaGreatDoor.uo Go.Proofs.YtfaalpdeabdhcaaGreatDoor.uq Go.Proofs.YtfaalpdeabdhcaaGreatDoor.va Go.Proofs.YtfaalpdeabdhcaaGreatDoor.ur Go.Proofs.YtfaalpdeabdhcaaGreatDoor.us Go.Proofs.YtfaalpdeabdhcaaGreatDoor.ut Go.Proofs.YtfaalpdeabdhcaaGreatDoor.ux Go.Proofs.YtfaalpdeabdhcaaGreatDoor.vb Go.Proofs.YtfaalpdeabdhcaaGreatDoor.vd
set_option linter.unusedVariables false

theorem LP_congr {lk lk' : Nat → Nat → Nat} (h : ∀ a b, a < b → lk a b = lk' a b) (n : Nat) : ∀ a b, b - a = n → a < b → LP lk a b = LP lk' a b := by
  induction n using Nat.strongRecOn with
  | ind n ih =>
    intro a b hn hab
    have e := h a b hab
    by_cases g1 : lk a b = 1
    · rw [LP_bare g1, LP_bare (by rw [← e]; exact g1)]
    by_cases g2 : 2 ≤ b - a
    · have hh := half_lt g2
      rw [LP_two g1 g2, LP_two (by rw [← e]; exact g1) g2, ih (half (b - a)) (by omega) a _ (by omega) (by omega), ih (b - (a + half (b - a))) (by omega) _ b rfl (by omega)]
    · rw [LP_leaf g1 g2, LP_leaf (by rw [← e]; exact g1) g2]
theorem rg_nat (lo hi : Nat) : natL (rg lo hi) = List.range' lo (hi - lo) := by
  unfold natL rg
  rw [List.map_map]
  exact List.map_id'' (fun x => rfl) _
theorem LP_S (lo hi n : Nat) (h1 : lo < hi) (h2 : hi ≤ n) : LP (lkS lo hi) 0 n = List.range' lo (hi - lo) := by
  rw [LP_congr (lk' := lkM (natL (rg lo hi))) (fun a b hab => lkS_M lo hi a b h1 hab) n 0 n rfl (by omega), rg_nat, LP_many _ (List.pairwise_lt_range' ..) n 0 n rfl (by omega)]
  exact inn_all (fun p hp => by rw [List.mem_range'_1] at hp; omega)
theorem slc_map (xs : List ByteArray) (L c : Nat) (h : L + c ≤ xs.length) : (List.range' L c).map (fun p => xs.getD p ByteArray.empty) = slc xs L (L + c) := by
  unfold slc
  apply List.ext_getElem
  · rw [List.length_map, List.length_range', List.length_take, List.length_drop]; omega
  · intro k h1 h2
    rw [List.length_map, List.length_range'] at h1
    rw [List.getElem_map, List.getElem_range', getD_at _ _ (by omega), List.getElem_take, List.getElem_drop]
    simp
theorem self_map (cs : List ByteArray) (L : Nat) : (List.range' L cs.length).map (fun p => cs.getD (p - L) ByteArray.empty) = cs := by
  apply List.ext_getElem
  · rw [List.length_map, List.length_range']
  · intro k h1 h2
    rw [List.getElem_map, List.getElem_range', getD_at _ _ (by omega)]
    congr 1
    omega
theorem rangeX_clash {wd : Int} {L : Nat} {xs cs proof : List ByteArray} (hx : Fits xs) (hf : Fits cs) (h : rngA wd L xs.length (LX wd cs) proof (RT wd xs) = 0) (hne : slc xs L (L + cs.length) ≠ cs) :
    ∃ A B, rangeX wd L xs cs proof = some (A, B) ∧ A ≠ B ∧ cutS A wd = cutS B wd ∧ A.size ≤ 140737488352001 ∧ B.size ≤ 140737488352001 := by
  obtain ⟨L', e1, q1, q2, q3, q4, q5, q6⟩ := rngA_ok h
  obtain rfl : L' = L := by omega
  rw [LX_len] at q1 q2 q4 q6
  have hsub : L' + cs.length - L' = cs.length := by omega
  have hlp := LP_S L' (L' + cs.length) xs.length (by omega) q2
  rw [hsub] at hlp
  have hwl : WL (fl (lkS L' (L' + cs.length))) 0 xs.length = (List.range' L' cs.length).map fun p => (p, p + 1) := by
    rw [← hlp]
    refine claims_LP (lk := lkS L' (L' + cs.length)) (fl (lkS L' (L' + cs.length))) (fun a b => rfl) (fun a b => lkS_zero _ _ a b) (fun a b _ g1 g2 => (dirS _ _ g1 g2 True).2 (fun e => Bool.noConfusion e.1)) (fun a b hab g1 g2 => ?_) xs.length 0 xs.length rfl (by omega)
    have := (lkS_ne _ _ a b).1 g1
    unfold lkS
    rw [if_neg (by omega), if_pos (by omega)]
  have hc : (LX wd cs).take (WL (fl (lkS L' (L' + cs.length))) 0 xs.length).length = (WL (fl (lkS L' (L' + cs.length))) 0 xs.length).map (fun q => LF wd ((fun p => cs.getD (p - L') ByteArray.empty) q.1)) := by
    rw [hwl, List.length_map, List.length_range', List.map_map, List.take_of_length_le (by rw [LX_len]; omega)]
    have e : (List.range' L' cs.length).map ((fun q : Nat × Nat => LF wd ((fun p => cs.getD (p - L') ByteArray.empty) q.1)) ∘ fun p => (p, p + 1)) = ((List.range' L' cs.length).map (fun p => cs.getD (p - L') ByteArray.empty)).map (LF wd) := by rw [List.map_map]; rfl
    rw [e, self_map]
    rfl
  have e : rangeX wd L' xs cs proof = fst1 (gw (HH wd) (lkS L' (L' + cs.length)) (fun p => cs.getD (p - L') ByteArray.empty) nx proof 0 xs.length).1 (ownT wd (lkS L' (L' + cs.length)) xs) := by
    unfold rangeX
    rw [if_pos h, Int.toNat_natCast, if_neg hne]
  have sT : Sml (gw (HH wd) (lkS L' (L' + cs.length)) (fun p => cs.getD (p - L') ByteArray.empty) nx proof 0 xs.length).1 := uq.Fl.sml (rangeFl (base := 3) (pb := 2) (cb := 1) (lb := 0) (lo := L') (hi := L' + cs.length) (N := xs.length) (n := 0) (cap := 0) (ad := none) (wd := wd) (cs := cs) q3 (Nat.le_refl _) (by decide) (by decide) rfl hf) _ 0 xs.length proof rfl (by omega) ⟨by rw [q4]; exact Nat.le_refl _, q5, Nat.le_refl _⟩
  have sU : Sml (ownT wd (lkS L' (L' + cs.length)) xs) := own_sml wd _ xs hx xs.length 0 xs.length rfl (by omega) (Nat.le_refl _)
  rw [e]
  rcases sound_gen wd (lk := lkS L' (L' + cs.length)) (fun p => cs.getD (p - L') ByteArray.empty) xs (LX wd cs) proof (fun a b => lkS_zero _ _ a b) (fun {a b} => wideS) (fourS _ _) (by omega) (by rw [q4]; exact Nat.le_refl _) q5 hc q6 with ⟨A, B, f1, f2, f3⟩ | ⟨f1, f2⟩
  · obtain ⟨z1, z2⟩ := fst_size _ _ sT sU f1
    exact ⟨A, B, f1, f2, f3, z1, z2⟩
  · rw [hlp, self_map, slc_map xs L' cs.length (by omega)] at f2
    exact absurd f2.symm hne
end Go.Proofs.YtfaalpdeabdhcaaGreatDoor.vf

namespace Go.Proofs.YtfaalpdeabdhcaaGreatDoor.vg
open Go.RowKit Go.PlainAid
open Go.Proofs.YtfaalpdeabdhcaaGreatDoor.pl Go.Proofs.YtfaalpdeabdhcaaGreatDoor.pi Go.Proofs.YtfaalpdeabdhcaaGreatDoor.pj Go.Proofs.YtfaalpdeabdhcaaGreatDoor.ca Go.Proofs.YtfaalpdeabdhcaaGreatDoor.cb Go.Proofs.YtfaalpdeabdhcaaGreatDoor.cp Go.Proofs.YtfaalpdeabdhcaaGreatDoor.ga Go.Proofs.YtfaalpdeabdhcaaGreatDoor.gb Go.Proofs.YtfaalpdeabdhcaaGreatDoor.aa Go.Proofs.YtfaalpdeabdhcaaGreatDoor.ba Go.Proofs.YtfaalpdeabdhcaaGreatDoor.bb Go.Proofs.YtfaalpdeabdhcaaGreatDoor.ka Go.Proofs.YtfaalpdeabdhcaaGreatDoor.kb Go.Proofs.YtfaalpdeabdhcaaGreatDoor.kc Go.Proofs.YtfaalpdeabdhcaaGreatDoor.kp Go.Proofs.YtfaalpdeabdhcaaGreatDoor.lk Go.Proofs.YtfaalpdeabdhcaaGreatDoor.lm Go.Proofs.YtfaalpdeabdhcaaGreatDoor.co Go.Proofs.YtfaalpdeabdhcaaGreatDoor.dc Go.Proofs.YtfaalpdeabdhcaaGreatDoor.qa Go.Proofs.YtfaalpdeabdhcaaGreatDoor.qb Go.Proofs.YtfaalpdeabdhcaaGreatDoor.qc Go.Proofs.YtfaalpdeabdhcaaGreatDoor.qj Go.Proofs.YtfaalpdeabdhcaaGreatDoor.qk Go.Proofs.YtfaalpdeabdhcaaGreatDoor.qo Go.Proofs.YtfaalpdeabdhcaaGreatDoor.qp Go.Proofs.YtfaalpdeabdhcaaGreatDoor.ta Go.Proofs.YtfaalpdeabdhcaaGreatDoor.tb Go.Proofs.YtfaalpdeabdhcaaGreatDoor.td Go.Proofs.YtfaalpdeabdhcaaGreatDoor.tc Go.Proofs.YtfaalpdeabdhcaaGreatDoor.ua Go.Proofs.YtfaalpdeabdhcaaGreatDoor.ub Go.Proofs.YtfaalpdeabdhcaaGreatDoor.ma Go.Proofs.YtfaalpdeabdhcaaGreatDoor.uh Go.Proofs.YtfaalpdeabdhcaaGreatDoor.ui Go.Proofs.YtfaalpdeabdhcaaGreatDoor.uj Go.Proofs.YtfaalpdeabdhcaaGreatDoor.uk Go.Proofs.YtfaalpdeabdhcaaGreatDoor.ul Go.Proofs.YtfaalpdeabdhcaaGreatDoor.um Go.Proofs.YtfaalpdeabdhcaaGreatDoor.un Go.Proofs.YtfaalpdeabdhcaaGreatDoor.uo Go.Proofs.YtfaalpdeabdhcaaGreatDoor.uq Go.Proofs.YtfaalpdeabdhcaaGreatDoor.va Go.Proofs.YtfaalpdeabdhcaaGreatDoor.ur Go.Proofs.YtfaalpdeabdhcaaGreatDoor.us Go.Proofs.YtfaalpdeabdhcaaGreatDoor.ut Go.Proofs.YtfaalpdeabdhcaaGreatDoor.ux Go.Proofs.YtfaalpdeabdhcaaGreatDoor.vb Go.Proofs.YtfaalpdeabdhcaaGreatDoor.vd Go.Proofs.YtfaalpdeabdhcaaGreatDoor.ve Go.Proofs.YtfaalpdeabdhcaaGreatDoor.vf Go.Proofs.YtfaalpdeabdhcaaGreatDoor.cv
set_option linter.unusedVariables false

-- is some claimed leaf ahead of k not the list's?
def mstR (xs cs : List ByteArray) (L k : Nat) : Bool := (List.range k).any fun j => (cs.getD j ByteArray.empty).toList != (xs.getD (L + j) ByteArray.empty).toList
theorem mstR_step (xs cs : List ByteArray) (L k : Nat) : mstR xs cs L (k + 1) = (mstR xs cs L k || (cs.getD k ByteArray.empty).toList != (xs.getD (L + k) ByteArray.empty).toList) := by
  unfold mstR
  rw [List.range_succ, List.any_append]
  simp
theorem mstR_all (xs cs : List ByteArray) (L : Nat) (h : L + cs.length ≤ xs.length) : mstR xs cs L cs.length = !decide (slc xs L (L + cs.length) = cs) := by
  have key : mstR xs cs L cs.length = false ↔ slc xs L (L + cs.length) = cs := by
    unfold mstR
    rw [List.any_eq_false]
    have g : ∀ j, j < cs.length → (slc xs L (L + cs.length)).getD j ByteArray.empty = xs.getD (L + j) ByteArray.empty := fun j hj => by
      unfold slc
      rw [List.getD_eq_getElem?_getD, List.getElem?_take_of_lt (by omega), List.getElem?_drop, List.getD_eq_getElem?_getD]
    constructor
    · intro q
      refine vc.lists_eq (by rw [slc_len h]; omega) (fun j hj => ?_)
      rw [slc_len h] at hj
      have hj' : j < cs.length := by omega
      have := q j (List.mem_range.2 hj')
      rw [g j hj']
      simp only [bne, Bool.not_eq_true', Bool.not_eq_false, beqL, decide_eq_true_eq] at this
      first | exact this.symm | (simp at this; exact this.symm)
    · intro q j hj
      rw [List.mem_range] at hj
      rw [← g j hj, q]
      simp
  by_cases q : slc xs L (L + cs.length) = cs
  · rw [key.2 q, decide_eq_true q]; rfl
  · rw [decide_eq_false q]
    cases hm : mstR xs cs L cs.length with
    | true => rfl
    | false => exact absurd (key.1 hm) q
set_option maxRecDepth 100000 in
set_option maxHeartbeats 12800000 in
theorem rangeSound (wd lo : Int) (hwd : i64 wd) (hlo : i64 lo) (vl : Value) (xs : List ByteArray) (vc : Value) (cs : List ByteArray) (vp : Value) (proof : List ByteArray) (w : World) (hl : ReadsT w vl xs) (hc : ReadsT w vc cs) (hp : ReadsT w vp proof) (hx : Fits xs) (hf : Fits cs) (zp : proof.length ≤ 140737488355328) (hT : Tab w) :
    Calls Tryz.prog 3 #[.int .i64 wd, vl, .int .i64 lo, vc, vp] w fun e w' => e = .returned (.bool true) ∧ Below w.heap.size w w' := by
  have GD : Hid (ReadsT w vl xs ∧ ReadsT w vp proof ∧ ReadsT w vc cs ∧ Tab w) := ⟨hl, hp, hc, hT⟩
  have BC : Hid (Calls _ _ _ _ _) := begunC w hT
  have RC : Hid (∀ w', Below w.heap.size w w' → Calls _ _ _ _ _) := fun w' b => mb.rootC wd vl xs w' hwd (GD.out.2.2.2.down b) (GD.out.1.later b) hx
  have HC : Hid (∀ w', Below w.heap.size w w' → Calls _ _ _ _ _) := fun w' b => va.leaves (T := Tab) (fun h b => h.down b) (fun h => h) wd vc cs w' (GD.out.2.2.2.down b) (GD.out.2.2.1.later b) hf
  have hfm := hf.many
  have hxm := hx.many
  have IC : Hid (∀ w' u, Below w.heap.size w w' → ReadsT w' u (LX wd cs) → Calls _ _ _ _ _) := fun w' u b h3 => RangeC wd lo xs.length hwd hlo u vp (LX wd cs) proof (RT wd xs) w' h3 (GD.out.2.1.later b) (by rw [LX_len]; omega) zp (GD.out.2.2.2.down b)
  have KC : Hid (∀ w', Below w.heap.size w w' → Calls _ _ _ _ _) := fun w' b => kRangeC wd lo hwd hlo vl xs vc cs vp proof w' (GD.out.1.later b) (GD.out.2.2.1.later b) (GD.out.2.1.later b) hx hf zp (GD.out.2.2.2.down b)
  have RN : Hid (∀ w', Calls _ _ _ _ _) := fun w' => right_no wd w'
  have HXX : Hid (Fits xs ∧ Fits cs) := ⟨hx, hf⟩
  obtain ⟨la, lc, rfl, hlc, hlh⟩ := hl
  obtain ⟨pa, pc, rfl, _⟩ := hp
  obtain ⟨ca, cc, rfl, hcc, hch⟩ := hc
  obtain ⟨E, HE⟩ : ∃ E, Hid (rngA wd lo xs.length (LX wd cs) proof (RT wd xs) = E) := ⟨_, rfl⟩
  obtain ⟨y2, HY2⟩ : ∃ y, Hid (RT wd xs = y) := ⟨_, rfl⟩
  rw [HE.out] at IC
  rw [HY2.out] at RC IC
  by_cases h : E = 0
  · subst h
    obtain ⟨L, rfl, i1, i2, i3, i4, i5, i6⟩ := rngA_ok HE.out
    rw [LX_len] at i1 i2
    have MS : Hid (∀ k, k < cs.length → mstR xs cs L (k + 1) = (mstR xs cs L k || (cs.getD k ByteArray.empty).toList != (xs.getD (L + k) ByteArray.empty).toList)) := fun k _ => mstR_step xs cs L k
    have M0 : Hid (mstR xs cs L 0 = false) := rfl
    have MC : Hid (mstR xs cs L cs.length = !decide (slc xs L (L + cs.length) = cs)) := mstR_all xs cs L i2
    obtain ⟨b, off, ha, hq⟩ := hlh.resolve_left (by omega)
    subst ha
    obtain ⟨cb, coff, ha, hq2⟩ := hch.resolve_left (by omega)
    subst ha
    have HCQ : Hid (∀ k, k < cs.length → w.cell? ⟨cb, coff + k, none⟩ = some (.string (cs.getD k ByteArray.empty))) := hq2
    have HXQ : Hid (∀ k, k < cs.length → w.cell? ⟨b, off + (L + k), none⟩ = some (.string (xs.getD (L + k) ByteArray.empty))) := fun k hk => hq (L + k) (by omega)
    by_cases hs : slc xs L (L + cs.length) = cs
    · have HO : Hid (rangeX wd L xs cs proof = none) := by show _ = _; unfold rangeX; rw [if_pos HE.out, Int.toNat_natCast, if_pos hs]
      rw [HO.out] at KC
      rw [decide_eq_true hs] at MC
      rw [show clV none = .agg #[.string ⟨#[]⟩, .string ⟨#[]⟩, .bool false] from rfl] at KC RN
      obtain ⟨mst, HMS⟩ : ∃ f, Hid (mstR xs cs L = f) := ⟨_, rfl⟩
      rw [HMS.out] at MS M0 MC
      obtain ⟨n, HN⟩ : ∃ n, Hid (xs.length = n) := ⟨_, rfl⟩
      obtain ⟨m, HM⟩ : ∃ n, Hid (proof.length = n) := ⟨_, rfl⟩
      obtain ⟨c, HCN⟩ : ∃ n, Hid (cs.length = n) := ⟨_, rfl⟩
      rw [HN.out] at RC IC KC hlc i2 i3 GD hxm ⊢
      rw [HM.out] at IC KC GD ⊢
      rw [HCN.out] at HC KC GD MS MC HCQ HXQ hcc i1 i2 hfm ⊢
      have t1 : ¬ (n : Int) < c := by omega
      have t2 : decide (n < c) = false := decide_eq_false (by omega)
      have t3 : IntKind.i64.wrap ((n : Int) - c) = (n : Int) - c := by rw [IntKind.wrap_i64]; omega
      have t4 : ¬ (n : Int) - c < L := by omega
      have t5 : decide ((n : Int) - c < L) = false := decide_eq_false t4
      have t6 : decide ((L : Int) < 0) = false := decide_eq_false (by omega)
      clear hlh hch hq hq2 hs i4 i5 i6 hT hx hf zp HE
      go_enter Tryz.func3, Tryz.ntmps3
      go_wp2_with fail
      refine BC.out.mono ?_
      rintro e w1 ⟨rfl, hb1⟩
      have B1 : Hid (Below w.heap.size w w1) := hb1
      clear hb1
      go_wp2_with fail
      refine (RC.out _ B1.out).mono ?_
      rintro e w2 ⟨rfl, hb2⟩
      have B2 : Hid (Below w.heap.size w w2) := over B1.out hb2
      clear hb2
      go_wp2_with fail
      refine (HC.out _ B2.out).mono ?_
      rintro e w3 ⟨⟨u, rfl, hu3⟩, hb3⟩
      have B3 : Hid (Below w.heap.size w w3) := over B2.out hb3
      have U3 : Hid (ReadsT w3 u (LX wd cs)) := own_readsT hu3
      clear hb3 hu3
      go_wp2_with fail
      refine (IC.out _ _ B3.out U3.out).mono ?_
      rintro e w4 ⟨rfl, hb4⟩
      have B4 : Hid (Below w.heap.size w w4) := over B3.out hb4
      clear hb4 U3
      go_wp2
      go_loopw [14, 15] (fun mu i wr => ∃ k : Nat, k ≤ c ∧ i = .int .i64 k ∧ mu = .bool (mst k) ∧ Hid (Below w.heap.size w wr)) (fun _ i _ => (c - intOf i).toNat)
      case atStart => exact ⟨0, by omega, rfl, by rw [M0.out], B4⟩
      case round =>
        obtain ⟨k, hk, rfl, rfl, BR⟩ := hrel
        by_cases hlt : k < c
        · have hlt' : (k : Int) < c := by omega
          have c1 : wr.cell? ⟨cb, coff + k, none⟩ = some (.string (cs.getD k ByteArray.empty)) := (BR.out.cell (World.block_lt_of_cell? _ _ (HCQ.out k hlt))).trans (HCQ.out k hlt)
          have c2 : wr.cell? ⟨b, off + (L + k), none⟩ = some (.string (xs.getD (L + k) ByteArray.empty)) := (BR.out.cell (World.block_lt_of_cell? _ _ (HXQ.out k hlt))).trans (HXQ.out k hlt)
          have MK : Hid (mst (k + 1) = (mst k || (cs.getD k ByteArray.empty).toList != (xs.getD (L + k) ByteArray.empty).toList)) := MS.out k hlt
          obtain ⟨X, HXX⟩ : ∃ X, Hid (cs.getD k ByteArray.empty = X) := ⟨_, rfl⟩
          obtain ⟨Y, HYY⟩ : ∃ X, Hid (xs.getD (L + k) ByteArray.empty = X) := ⟨_, rfl⟩
          rw [HXX.out] at c1 MK
          rw [HYY.out] at c2 MK
          have hw1 : IntKind.i64.wrap ((L : Int) + (k : Int)) = (L : Int) + k := by rw [IntKind.wrap_i64]; omega
          have hz0 : (0 : Int) ≤ (L : Int) + k := by omega
          have hz1 : (L : Int) + k < n := by omega
          have hz2 : ((L : Int) + (k : Int)).toNat = L + k := by omega
          have hw2 : IntKind.i64.wrap ((k : Int) + 1) = (k : Int) + 1 := by rw [IntKind.wrap_i64]; omega
          obtain ⟨r, HRR⟩ : ∃ r, Hid (mst k = r) := ⟨_, rfl⟩
          rw [HRR.out] at MK ⊢
          cases r
          · by_cases hxy : X = Y
            · have q1 : (X.toList == Y.toList) = true := by rw [beqL]; exact decide_eq_true hxy
              have q2 : (X.toList != Y.toList) = false := by rw [bne, q1]; rfl
              have HM1 : Hid (mst (k + 1) = false) := by show _ = _; rw [MK.out, q2]; rfl
              clear hxy MK
              go_wp2_with fail
              go_quiet (fail)
              obtain ⟨w5, H5⟩ : ∃ x, Hid (x = wr.drewN nq) := ⟨_, rfl⟩
              rw [← H5.out]
              have B5 : Hid (Below w.heap.size w w5) := by rw [H5.out]; exact below_dN BR.out _
              clear H5 c1 c2
              go_wp2
              go_roundw
              case rel => exact ⟨k + 1, by omega, by go_num, by rw [HM1.out], B5⟩
              case measure => simp [intOf]; omega
            · have q1 : (X.toList == Y.toList) = false := by rw [beqL]; exact decide_eq_false hxy
              have q2 : (X.toList != Y.toList) = true := by rw [bne, q1]; rfl
              have HM1 : Hid (mst (k + 1) = true) := by show _ = _; rw [MK.out, q2]; rfl
              clear hxy MK
              go_wp2_with fail
              go_quiet (fail)
              obtain ⟨w5, H5⟩ : ∃ x, Hid (x = wr.drewN nq) := ⟨_, rfl⟩
              rw [← H5.out]
              have B5 : Hid (Below w.heap.size w w5) := by rw [H5.out]; exact below_dN BR.out _
              clear H5 c1 c2
              go_wp2
              go_roundw
              case rel => exact ⟨k + 1, by omega, by go_num, by rw [HM1.out], B5⟩
              case measure => simp [intOf]; omega
          · have HM1 : Hid (mst (k + 1) = true) := by show _ = _; rw [MK.out]; rfl
            clear MK
            go_wp2_with fail
            go_quiet (fail)
            obtain ⟨w5, H5⟩ : ∃ x, Hid (x = wr.drewN nq) := ⟨_, rfl⟩
            rw [← H5.out]
            have B5 : Hid (Below w.heap.size w w5) := by rw [H5.out]; exact below_dN BR.out _
            clear H5 c1 c2
            go_wp2
            go_roundw
            case rel => exact ⟨k + 1, by omega, by go_num, by rw [HM1.out], B5⟩
            case measure => simp [intOf]; omega
        · have hlt' : ¬ (k : Int) < c := by omega
          obtain rfl : k = c := by omega
          rw [MC.out]
          go_wp2_with fail
          refine (KC.out _ BR.out).mono ?_
          rintro e w6 ⟨rfl, hb6⟩
          have B6 : Hid (Below w.heap.size w w6) := over BR.out hb6
          clear hb6
          go_wp2_with fail
          refine (RN.out _).mono ?_
          rintro e w7 ⟨rfl, hb7⟩
          have B7 : Hid (Below w.heap.size w w7) := over B6.out hb7
          clear hb7
          go_wp2
          go_ret
          exact ⟨rfl, B7.out⟩
    · obtain ⟨A, B, f1, f2, f3, f4, f5⟩ := rangeX_clash HXX.out.1 HXX.out.2 HE.out hs
      rw [f1] at KC
      have RY : Hid (∀ w', Below w.heap.size w w' → Calls _ _ _ _ _) := fun w' b => right_yes wd A B w' (GD.out.2.2.2.down b) (by omega) (by omega) f2 f3
      rw [show clV (some (A, B)) = .agg #[.string A, .string B, .bool true] from rfl] at KC RY
      rw [decide_eq_false hs] at MC
      obtain ⟨mst, HMS⟩ : ∃ f, Hid (mstR xs cs L = f) := ⟨_, rfl⟩
      rw [HMS.out] at MS M0 MC
      obtain ⟨n, HN⟩ : ∃ n, Hid (xs.length = n) := ⟨_, rfl⟩
      obtain ⟨m, HM⟩ : ∃ n, Hid (proof.length = n) := ⟨_, rfl⟩
      obtain ⟨c, HCN⟩ : ∃ n, Hid (cs.length = n) := ⟨_, rfl⟩
      rw [HN.out] at RC IC KC hlc i2 i3 GD hxm ⊢
      rw [HM.out] at IC KC GD ⊢
      rw [HCN.out] at HC KC GD MS MC HCQ HXQ hcc i1 i2 hfm ⊢
      have t1 : ¬ (n : Int) < c := by omega
      have t2 : decide (n < c) = false := decide_eq_false (by omega)
      have t3 : IntKind.i64.wrap ((n : Int) - c) = (n : Int) - c := by rw [IntKind.wrap_i64]; omega
      have t4 : ¬ (n : Int) - c < L := by omega
      have t5 : decide ((n : Int) - c < L) = false := decide_eq_false t4
      have t6 : decide ((L : Int) < 0) = false := decide_eq_false (by omega)
      clear hlh hch hq hq2 hs i4 i5 i6 hT hx hf zp HE
      clear f1 f2 f3 f4 f5
      go_enter Tryz.func3, Tryz.ntmps3
      go_wp2_with fail
      refine BC.out.mono ?_
      rintro e w1 ⟨rfl, hb1⟩
      have B1 : Hid (Below w.heap.size w w1) := hb1
      clear hb1
      go_wp2_with fail
      refine (RC.out _ B1.out).mono ?_
      rintro e w2 ⟨rfl, hb2⟩
      have B2 : Hid (Below w.heap.size w w2) := over B1.out hb2
      clear hb2
      go_wp2_with fail
      refine (HC.out _ B2.out).mono ?_
      rintro e w3 ⟨⟨u, rfl, hu3⟩, hb3⟩
      have B3 : Hid (Below w.heap.size w w3) := over B2.out hb3
      have U3 : Hid (ReadsT w3 u (LX wd cs)) := own_readsT hu3
      clear hb3 hu3
      go_wp2_with fail
      refine (IC.out _ _ B3.out U3.out).mono ?_
      rintro e w4 ⟨rfl, hb4⟩
      have B4 : Hid (Below w.heap.size w w4) := over B3.out hb4
      clear hb4 U3
      go_wp2
      go_loopw [14, 15] (fun mu i wr => ∃ k : Nat, k ≤ c ∧ i = .int .i64 k ∧ mu = .bool (mst k) ∧ Hid (Below w.heap.size w wr)) (fun _ i _ => (c - intOf i).toNat)
      case atStart => exact ⟨0, by omega, rfl, by rw [M0.out], B4⟩
      case round =>
        obtain ⟨k, hk, rfl, rfl, BR⟩ := hrel
        by_cases hlt : k < c
        · have hlt' : (k : Int) < c := by omega
          have c1 : wr.cell? ⟨cb, coff + k, none⟩ = some (.string (cs.getD k ByteArray.empty)) := (BR.out.cell (World.block_lt_of_cell? _ _ (HCQ.out k hlt))).trans (HCQ.out k hlt)
          have c2 : wr.cell? ⟨b, off + (L + k), none⟩ = some (.string (xs.getD (L + k) ByteArray.empty)) := (BR.out.cell (World.block_lt_of_cell? _ _ (HXQ.out k hlt))).trans (HXQ.out k hlt)
          have MK : Hid (mst (k + 1) = (mst k || (cs.getD k ByteArray.empty).toList != (xs.getD (L + k) ByteArray.empty).toList)) := MS.out k hlt
          obtain ⟨X, HXX⟩ : ∃ X, Hid (cs.getD k ByteArray.empty = X) := ⟨_, rfl⟩
          obtain ⟨Y, HYY⟩ : ∃ X, Hid (xs.getD (L + k) ByteArray.empty = X) := ⟨_, rfl⟩
          rw [HXX.out] at c1 MK
          rw [HYY.out] at c2 MK
          have hw1 : IntKind.i64.wrap ((L : Int) + (k : Int)) = (L : Int) + k := by rw [IntKind.wrap_i64]; omega
          have hz0 : (0 : Int) ≤ (L : Int) + k := by omega
          have hz1 : (L : Int) + k < n := by omega
          have hz2 : ((L : Int) + (k : Int)).toNat = L + k := by omega
          have hw2 : IntKind.i64.wrap ((k : Int) + 1) = (k : Int) + 1 := by rw [IntKind.wrap_i64]; omega
          obtain ⟨r, HRR⟩ : ∃ r, Hid (mst k = r) := ⟨_, rfl⟩
          rw [HRR.out] at MK ⊢
          cases r
          · by_cases hxy : X = Y
            · have q1 : (X.toList == Y.toList) = true := by rw [beqL]; exact decide_eq_true hxy
              have q2 : (X.toList != Y.toList) = false := by rw [bne, q1]; rfl
              have HM1 : Hid (mst (k + 1) = false) := by show _ = _; rw [MK.out, q2]; rfl
              clear hxy MK
              go_wp2_with fail
              go_quiet (fail)
              obtain ⟨w5, H5⟩ : ∃ x, Hid (x = wr.drewN nq) := ⟨_, rfl⟩
              rw [← H5.out]
              have B5 : Hid (Below w.heap.size w w5) := by rw [H5.out]; exact below_dN BR.out _
              clear H5 c1 c2
              go_wp2
              go_roundw
              case rel => exact ⟨k + 1, by omega, by go_num, by rw [HM1.out], B5⟩
              case measure => simp [intOf]; omega
            · have q1 : (X.toList == Y.toList) = false := by rw [beqL]; exact decide_eq_false hxy
              have q2 : (X.toList != Y.toList) = true := by rw [bne, q1]; rfl
              have HM1 : Hid (mst (k + 1) = true) := by show _ = _; rw [MK.out, q2]; rfl
              clear hxy MK
              go_wp2_with fail
              go_quiet (fail)
              obtain ⟨w5, H5⟩ : ∃ x, Hid (x = wr.drewN nq) := ⟨_, rfl⟩
              rw [← H5.out]
              have B5 : Hid (Below w.heap.size w w5) := by rw [H5.out]; exact below_dN BR.out _
              clear H5 c1 c2
              go_wp2
              go_roundw
              case rel => exact ⟨k + 1, by omega, by go_num, by rw [HM1.out], B5⟩
              case measure => simp [intOf]; omega
          · have HM1 : Hid (mst (k + 1) = true) := by show _ = _; rw [MK.out]; rfl
            clear MK
            go_wp2_with fail
            go_quiet (fail)
            obtain ⟨w5, H5⟩ : ∃ x, Hid (x = wr.drewN nq) := ⟨_, rfl⟩
            rw [← H5.out]
            have B5 : Hid (Below w.heap.size w w5) := by rw [H5.out]; exact below_dN BR.out _
            clear H5 c1 c2
            go_wp2
            go_roundw
            case rel => exact ⟨k + 1, by omega, by go_num, by rw [HM1.out], B5⟩
            case measure => simp [intOf]; omega
        · have hlt' : ¬ (k : Int) < c := by omega
          obtain rfl : k = c := by omega
          rw [MC.out]
          go_wp2_with fail
          refine (KC.out _ BR.out).mono ?_
          rintro e w6 ⟨rfl, hb6⟩
          have B6 : Hid (Below w.heap.size w w6) := over BR.out hb6
          clear hb6
          go_wp2_with fail
          refine (RY.out _ B6.out).mono ?_
          rintro e w7 ⟨rfl, hb7⟩
          have B7 : Hid (Below w.heap.size w w7) := over B6.out hb7
          clear hb7
          go_wp2
          go_ret
          exact ⟨rfl, B7.out⟩
  · have HO : Hid (rangeX wd lo xs cs proof = none) := by show _ = _; unfold rangeX; rw [if_neg (by rw [HE.out]; exact h)]
    rw [HO.out] at KC
    rw [show clV none = .agg #[.string ⟨#[]⟩, .string ⟨#[]⟩, .bool false] from rfl] at KC RN
    have q : (E == 0) = false := by rw [beq_eq_false_iff_ne]; exact h
    have q2 : (E != 0) = true := by rw [bne, q]; rfl
    obtain ⟨n, HN⟩ : ∃ n, Hid (xs.length = n) := ⟨_, rfl⟩
    obtain ⟨m, HM⟩ : ∃ n, Hid (proof.length = n) := ⟨_, rfl⟩
    obtain ⟨c, HCN⟩ : ∃ n, Hid (cs.length = n) := ⟨_, rfl⟩
    rw [HN.out] at RC IC KC GD ⊢
    rw [HM.out] at IC KC GD ⊢
    rw [HCN.out] at HC KC GD ⊢
    clear hlh hch h hT hx hf zp HO HE hlc hcc
    go_enter Tryz.func3, Tryz.ntmps3
    go_wp2_with fail
    refine BC.out.mono ?_
    rintro e w1 ⟨rfl, hb1⟩
    have B1 : Hid (Below w.heap.size w w1) := hb1
    clear hb1
    go_wp2_with fail
    refine (RC.out _ B1.out).mono ?_
    rintro e w2 ⟨rfl, hb2⟩
    have B2 : Hid (Below w.heap.size w w2) := over B1.out hb2
    clear hb2
    go_wp2_with fail
    refine (HC.out _ B2.out).mono ?_
    rintro e w3 ⟨⟨u, rfl, hu3⟩, hb3⟩
    have B3 : Hid (Below w.heap.size w w3) := over B2.out hb3
    have U3 : Hid (ReadsT w3 u (LX wd cs)) := own_readsT hu3
    clear hb3 hu3
    go_wp2_with fail
    refine (IC.out _ _ B3.out U3.out).mono ?_
    rintro e w4 ⟨rfl, hb4⟩
    have B4 : Hid (Below w.heap.size w w4) := over B3.out hb4
    clear hb4 U3
    go_wp2_with fail
    refine (KC.out _ B4.out).mono ?_
    rintro e w6 ⟨rfl, hb6⟩
    have B6 : Hid (Below w.heap.size w w6) := over B4.out hb6
    clear hb6
    go_wp2_with fail
    refine (RN.out _).mono ?_
    rintro e w7 ⟨rfl, hb7⟩
    have B7 : Hid (Below w.heap.size w w7) := over B6.out hb7
    clear hb7
    go_wp2
    go_ret
    exact ⟨rfl, B7.out⟩
theorem range_walk (w : World) (wd : Int) (w0 : (Lit.int .i64 wd).wf = true) (v : Value) (xs : List ByteArray) (hR : ReadsT w v xs) (hno : ∀ k c, v = .slice none k c → c = 0) (hxs : ∀ x ∈ xs, x.size ≤ 140737488351232) (hz : xs.length * 16 ≤ 140737488351232) (i : Int) (w2 : (Lit.int .i64 i).wf = true) (vc : Value) (cs : List ByteArray) (hC : ReadsT w vc cs) (hnc : ∀ k c, vc = .slice none k c → c = 0) (hcs : ∀ x ∈ cs, x.size ≤ 140737488351232) (hzc : cs.length * 16 ≤ 140737488351232) (vp : Value) (ps : List ByteArray) (hP : ReadsT w vp ps) (hnp : ∀ k c, vp = .slice none k c → c = 0) (hps : ∀ x ∈ ps, x.size ≤ 140737488351232) (hzp : ps.length * 16 ≤ 140737488351232) (T : Tab w) :
    Calls Tryz.prog 3 #[.int .i64 wd, v, .int .i64 i, vc, vp] w fun e w' => e = .returned (.bool true) ∧ Below w.heap.size w w' :=
  rangeSound wd i (i64_of w0) (i64_of w2) v xs vc cs vp ps w hR hC hP ⟨fun x hx => Nat.le_trans (hxs x hx) (by omega), hz⟩ ⟨fun x hx => Nat.le_trans (hcs x hx) (by omega), hzc⟩ (by omega) T
end Go.Proofs.YtfaalpdeabdhcaaGreatDoor.vg
