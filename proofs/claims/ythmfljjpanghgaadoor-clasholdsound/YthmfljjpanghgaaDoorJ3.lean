import Derived.Test.YthmfljjpanghgaaDoorJ2
import Derived.Test.YthmfljjpanghgaaDoorG8
import Derived.Test.YthmfljjpanghgaaDoorJ1
import Derived.Test.YthmfljjpanghgaaDoorH1
import Derived.Test.YthmfljjpanghgaaDoorG3
import Derived.Test.YthmfljjpanghgaaDoorG4
import Derived.Laws.AppendOwnNone
import Derived.Laws.OwnMore
namespace Go.Proofs.YthmfljjpanghgaaDoor.zg
open Go.RowKit Go.PlainAid
open Go.Proofs.YthmfljjpanghgaaDoor.pl Go.Proofs.YthmfljjpanghgaaDoor.pi Go.Proofs.YthmfljjpanghgaaDoor.pj Go.Proofs.YthmfljjpanghgaaDoor.rf Go.Proofs.YthmfljjpanghgaaDoor.ca Go.Proofs.YthmfljjpanghgaaDoor.cb Go.Proofs.YthmfljjpanghgaaDoor.cp Go.Proofs.YthmfljjpanghgaaDoor.ga Go.Proofs.YthmfljjpanghgaaDoor.gb Go.Proofs.YthmfljjpanghgaaDoor.aa Go.Proofs.YthmfljjpanghgaaDoor.ka Go.Proofs.YthmfljjpanghgaaDoor.kb Go.Proofs.YthmfljjpanghgaaDoor.kc Go.Proofs.YthmfljjpanghgaaDoor.kp Go.Proofs.YthmfljjpanghgaaDoor.lk Go.Proofs.YthmfljjpanghgaaDoor.mi Go.Proofs.YthmfljjpanghgaaDoor.lm Go.Proofs.YthmfljjpanghgaaDoor.co Go.Proofs.YthmfljjpanghgaaDoor.cn Go.Proofs.YthmfljjpanghgaaDoor.qb Go.Proofs.YthmfljjpanghgaaDoor.qc Go.Proofs.YthmfljjpanghgaaDoor.qg Go.Proofs.YthmfljjpanghgaaDoor.qj Go.Proofs.YthmfljjpanghgaaDoor.qm Go.Proofs.YthmfljjpanghgaaDoor.qr Go.Proofs.YthmfljjpanghgaaDoor.za
set_option linter.unusedVariables false

-- a part of the list, and its root
def S (l : List ByteArray) (a b : Nat) : List ByteArray := (l.drop a).take (b - a)
theorem S_len {l : List ByteArray} {a b : Nat} (h : b ≤ l.length) : (S l a b).length = b - a := by unfold S; rw [List.length_take, List.length_drop]; omega
theorem S_take {l : List ByteArray} {a k b : Nat} (h1 : a ≤ k) (h2 : k ≤ b) : (S l a b).take (k - a) = S l a k := by
  unfold S
  rw [List.take_take, Nat.min_eq_left (by omega)]
theorem S_drop {l : List ByteArray} {a k b : Nat} (h1 : a ≤ k) (h2 : k ≤ b) : (S l a b).drop (k - a) = S l k b := by
  unfold S
  rw [List.drop_take, List.drop_drop, show a + (k - a) = k by omega, show b - a - (k - a) = b - k by omega]
theorem S_all (l : List ByteArray) : S l 0 l.length = l := by unfold S; simp
theorem S_pre (l : List ByteArray) (m : Nat) : S l 0 m = l.take m := by unfold S; simp
def R (wd : Int) (l : List ByteArray) (p : Nat × Nat) : ByteArray := RT wd (S l p.1 p.2)
theorem R_in (wd : Int) {l : List ByteArray} {a b : Nat} (h2 : 2 ≤ b - a) (hb : b ≤ l.length) : R wd l (a, b) = NF wd (R wd l (a, a + half (b - a))) (R wd l (a + half (b - a), b)) := by
  have hh := half_lt h2
  unfold R
  simp only
  have e := RT_half wd (xs := S l a b) (by rw [S_len hb]; exact h2)
  rw [S_len hb] at e
  have t := S_take (l := l) (a := a) (k := a + half (b - a)) (b := b) (by omega) (by omega)
  have d := S_drop (l := l) (a := a) (k := a + half (b - a)) (b := b) (by omega) (by omega)
  rw [Nat.add_sub_cancel_left] at t d
  rw [e, t, d]
theorem R_one (wd : Int) {l : List ByteArray} {a : Nat} (h : a < l.length) : R wd l (a, a + 1) = LF wd (l.getD a ByteArray.empty) := by
  unfold R S
  simp only
  rw [Nat.add_sub_cancel_left, List.drop_eq_getElem_cons h, List.take_succ_cons, List.take_zero, RT_one, List.getD_eq_getElem?_getD, List.getElem?_eq_getElem h]
  rfl
theorem R_size (wd : Int) (l : List ByteArray) (p : Nat × Nat) : (R wd l p).size = wid wd := RT_size wd _
theorem R_wide (wd : Int) (l : List ByteArray) (ps : List (Nat × Nat)) : Wide wd (ps.map (R wd l)) := fun x hx => by
  obtain ⟨p, _, rfl⟩ := List.mem_map.1 hx
  exact R_size wd l p
-- what is reckoned from the list's own parts
theorem gp_all (wd : Int) (l : List ByteArray) {lk : Nat → Nat → Nat} (hw : ∀ {a b}, a < b → 2 ≤ lk a b → 2 ≤ b - a) (hf : ∀ a b, lk a b ≤ 3) (n : Nat) : ∀ a b c p, b - a = n → a < b → b ≤ l.length →
    gp wd lk ((WL (fl lk) a b).map (R wd l) ++ c) ((WL lk a b).map (R wd l) ++ p) a b = (R wd l (a, b), c, p) := by
  induction n using Nat.strongRecOn with
  | ind n ih =>
    intro a b c p hn hab hb
    have h3 := hf a b
    by_cases h0 : lk a b = 0
    · rw [WL_take (lk := fl lk) (by unfold fl; rw [if_pos h0]), WL_pass h0, gp_claim h0]
      rfl
    by_cases h1 : lk a b = 1
    · rw [WL_take h1, WL_pass (lk := fl lk) (by unfold fl; rw [if_neg (by omega), if_pos h1]), gp_proof h1]
      rfl
    have h2 := hw hab (by omega)
    have hh := half_lt h2
    have il := fun c p => ih (half (b - a)) (by omega) a (a + half (b - a)) c p (by omega) (by omega) (by omega)
    have ir := fun c p => ih (b - a - half (b - a)) (by omega) (a + half (b - a)) b c p (by omega) (by omega) hb
    by_cases h4 : lk a b = 2
    · rw [WL_left (lk := fl lk) (by rw [fl_two (by omega)]; exact h4) h2, WL_left h4 h2, List.map_append, List.map_append, List.append_assoc, List.append_assoc, gp_left h4 h2, il]
      simp only
      rw [ir, ← R_in wd h2 hb]
    · rw [WL_right (lk := fl lk) (by rw [fl_two (by omega)]; omega) h2, WL_right (by omega) h2, List.map_append, List.map_append, List.append_assoc, List.append_assoc, gp_right (by omega) h2, ir]
      simp only
      rw [il, ← R_in wd h2 hb]
-- one leaf
theorem wideI {i a b : Nat} (hab : a < b) (h : 2 ≤ lkI i a b) : 2 ≤ b - a := by
  unfold lkI at h
  split at h
  · split at h
    · omega
    · omega
  · omega
theorem fourI (i a b : Nat) : lkI i a b ≤ 3 := by
  unfold lkI
  split
  · split
    · omega
    · split <;> omega
  · omega
theorem lkI_out {i a b : Nat} (h : ¬ (a ≤ i ∧ i < b)) : lkI i a b = 1 := by unfold lkI; rw [if_neg h]
theorem claims_I (wd : Int) (l : List ByteArray) (i : Nat) (n : Nat) : ∀ a b, b - a = n → a ≤ i → i < b → b ≤ l.length → (WL (fl (lkI i)) a b).map (R wd l) = [LF wd (l.getD i ByteArray.empty)] ∧ (WL (lkI i) a b).map (R wd l) = PTn wd (i - a) (S l a b) := by
  induction n using Nat.strongRecOn with
  | ind n ih =>
    intro a b hn h1 h2 hb
    by_cases e : b - a = 1
    · have h0 : lkI i a b = 0 := by unfold lkI; rw [if_pos ⟨h1, h2⟩, if_pos e]
      obtain rfl : i = a := by omega
      obtain rfl : b = i + 1 := by omega
      refine ⟨?_, ?_⟩
      · rw [WL_take (lk := fl (lkI i)) (by unfold fl; rw [if_pos h0]), ← R_one wd (by omega)]
        rfl
      · rw [WL_pass h0, PTn_one wd _ (by rw [S_len hb]; omega)]
        rfl
    · have h3 : 2 ≤ b - a := by omega
      have hh := half_lt h3
      have tk := S_take (l := l) (a := a) (k := a + half (b - a)) (b := b) (by omega) (by omega)
      have dp := S_drop (l := l) (a := a) (k := a + half (b - a)) (b := b) (by omega) (by omega)
      rw [Nat.add_sub_cancel_left] at tk dp
      by_cases hi : i < a + half (b - a)
      · have hk : lkI i a b = 2 := by unfold lkI; rw [if_pos ⟨h1, h2⟩, if_neg e, if_pos hi]
        have hr : lkI i (a + half (b - a)) b = 1 := lkI_out (by omega)
        obtain ⟨i1, i2⟩ := ih (half (b - a)) (by omega) a (a + half (b - a)) (by omega) h1 hi (by omega)
        refine ⟨?_, ?_⟩
        · rw [WL_left (lk := fl (lkI i)) (by rw [fl_two (by omega)]; exact hk) h3, List.map_append, i1, WL_pass (lk := fl (lkI i)) (by unfold fl; rw [if_neg (by omega), if_pos hr])]
          rfl
        · have q := PTn_low wd (i := i - a) (xs := S l a b) (by rw [S_len hb]; exact h3) (by rw [S_len hb]; omega)
          rw [S_len hb, tk, dp] at q
          rw [q, WL_left hk h3, List.map_append, i2, WL_take hr]
          rfl
      · have hk : lkI i a b = 3 := by unfold lkI; rw [if_pos ⟨h1, h2⟩, if_neg e, if_neg hi]
        have hr : lkI i a (a + half (b - a)) = 1 := lkI_out (by omega)
        obtain ⟨i1, i2⟩ := ih (b - a - half (b - a)) (by omega) (a + half (b - a)) b (by omega) (by omega) h2 hb
        refine ⟨?_, ?_⟩
        · rw [WL_right (lk := fl (lkI i)) (by rw [fl_two (by omega)]; omega) h3, List.map_append, i1, WL_pass (lk := fl (lkI i)) (by unfold fl; rw [if_neg (by omega), if_pos hr])]
          rfl
        · have q := PTn_high wd (i := i - a) (xs := S l a b) (by rw [S_len hb]; exact h3) (by rw [S_len hb]; omega)
          rw [S_len hb, tk, dp] at q
          rw [q, WL_right (by omega) h3, List.map_append, i2, WL_take hr, Nat.sub_sub]
          rfl
-- an older size
theorem half_same {n m : Nat} (h2 : 2 ≤ n) (h : half n < m) (hm : m ≤ n) : half m = half n := by
  obtain ⟨i, e, h1, h3⟩ := half_is h2
  rw [e] at h ⊢
  exact half_eq h (by omega)
theorem R_mid (wd : Int) {l : List ByteArray} {a m b : Nat} (h2 : 2 ≤ b - a) (h : a + half (b - a) < m) (hm : m ≤ b) (hb : b ≤ l.length) : R wd l (a, m) = NF wd (R wd l (a, a + half (b - a))) (R wd l (a + half (b - a), m)) := by
  have hh := half_lt h2
  have e := half_same h2 (m := m - a) (by omega) (by omega)
  rw [R_in wd (a := a) (b := m) (by omega) (by omega), e]
theorem cons_all (wd : Int) (l : List ByteArray) (m : Nat) (n : Nat) : ∀ a b p, b - a = n → a < m → m ≤ b → b ≤ l.length → go (WG wd m (R wd l (0, m))) ((WL (lkC m) a b).map (R wd l) ++ p) a b = ((R wd l (a, m), R wd l (a, b)), p) ∧ (WL (lkC m) a b).map (R wd l) = QTn wd (m - a) (S l a b) (decide (a = 0)) := by
  induction n using Nat.strongRecOn with
  | ind n ih =>
    intro a b p hn ha hmb hb
    by_cases hbm : b = m
    · subst hbm
      have q := QTn_all wd (m := b - a) (xs := S l a b) (decide (a = 0)) (by rw [S_len hb]; omega)
      by_cases ha0 : a = 0
      · subst ha0
        have hw : WL (lkC b) 0 b = [] := WL_pass (by unfold lkC; rw [if_pos ⟨rfl, rfl⟩])
        rw [q, hw]
        exact ⟨qx.go_whole wd b _ _, rfl⟩
      · have h0 : ¬ (a = 0 ∧ b = b) := fun h => ha0 h.1
        rw [q, decide_eq_false ha0, WL_take (qx.lkC_old h0 (Nat.le_refl _))]
        exact ⟨qx.go_old wd _ _ h0 (Nat.le_refl _) ha, rfl⟩
    · have h2 : 2 ≤ b - a := by omega
      have hh := half_lt h2
      have tk := S_take (l := l) (a := a) (k := a + half (b - a)) (b := b) (by omega) (by omega)
      have dp := S_drop (l := l) (a := a) (k := a + half (b - a)) (b := b) (by omega) (by omega)
      rw [Nat.add_sub_cancel_left] at tk dp
      by_cases hmk : m ≤ a + half (b - a)
      · have hk : lkC m a b = 2 := by unfold lkC; rw [if_neg (fun h => hbm h.2), if_neg (by omega), if_pos (by omega)]
        have h0r : ¬ (a + half (b - a) = 0 ∧ b = m) := fun h => hbm h.2
        have hwr := WL_take (qx.lkC_new h0r hmk)
        have hwl := WL_left hk h2
        have il := fun p => ih (half (b - a)) (by omega) a (a + half (b - a)) p (by omega) ha hmk (by omega)
        refine ⟨?_, ?_⟩
        · rw [hwl, hwr, List.map_append, List.append_assoc]
          generalize hP : (WL (lkC m) a (a + half (b - a))).map (R wd l) ++ ([(a + half (b - a), b)].map (R wd l) ++ p) = P
          have e : (WG wd m (R wd l (0, m))).lk P a b = (2, P) := by show (lkC m a b, _) = _; rw [hk]
          rw [go_left (by rw [e]) h2, e]
          simp only
          rw [← hP, (il _).1]
          simp only
          rw [qx.go_new wd _ _ h0r hmk]
          show ((if (⟨#[]⟩ : ByteArray) = ⟨#[]⟩ then _ else _, _), _) = _
          rw [if_pos rfl, R_in wd h2 hb]
          rfl
        · have q := QTn_low wd (m := m - a) (xs := S l a b) (decide (a = 0)) (by rw [S_len hb]; omega) (by rw [S_len hb]; exact h2) (by rw [S_len hb]; omega)
          rw [S_len hb, tk, dp] at q
          rw [q, hwl, List.map_append, (il []).2, hwr]
          rfl
      · have hk : lkC m a b = 3 := by unfold lkC; rw [if_neg (fun h => hbm h.2), if_neg (by omega), if_neg (by omega)]
        have h0l : ¬ (a = 0 ∧ a + half (b - a) = m) := fun h => by omega
        have hwl := WL_take (qx.lkC_old h0l (show a + half (b - a) ≤ m by omega))
        have hwr := WL_right (lk := lkC m) (a := a) (b := b) (by omega) h2
        have ir := fun p => ih (b - a - half (b - a)) (by omega) (a + half (b - a)) b p (by omega) (by omega) hmb hb
        refine ⟨?_, ?_⟩
        · rw [hwr, hwl, List.map_append, List.append_assoc]
          generalize hP : (WL (lkC m) (a + half (b - a)) b).map (R wd l) ++ ([(a, a + half (b - a))].map (R wd l) ++ p) = P
          have e : (WG wd m (R wd l (0, m))).lk P a b = (3, P) := by show (lkC m a b, _) = _; rw [hk]
          rw [go_right (by rw [e]; exact Nat.le_refl _) h2, e]
          simp only
          rw [← hP, (ir _).1]
          simp only
          rw [qx.go_old wd _ _ h0l (by omega) ha]
          show ((if R wd l (a + half (b - a), m) = ⟨#[]⟩ then _ else _, _), _) = _
          rw [if_neg, R_in wd h2 hb, R_mid wd h2 (by omega) hmb hb]
          · rfl
          · intro he
            have h1 := R_size wd l (a + half (b - a), m)
            rw [he] at h1
            have h3 := pi.wid_pos wd
            have h4 : (⟨#[]⟩ : ByteArray).size = 0 := rfl
            omega
        · have q := QTn_high wd (m := m - a) (xs := S l a b) (decide (a = 0)) (by rw [S_len hb]; omega) (by rw [S_len hb]; exact h2) (by rw [S_len hb]; omega)
          rw [S_len hb, tk, dp] at q
          have hd : decide (a + half (b - a) = 0) = false := decide_eq_false (by omega)
          have i2 := (ir []).2
          rw [hd] at i2
          rw [q, hwr, List.map_append, i2, hwl, Nat.sub_sub]
          rfl
-- some leaves
def HL (wd : Int) (l : List ByteArray) (xs : List Int) : List ByteArray := xs.map fun x => LF wd (l.getD x.toNat ByteArray.empty)
theorem claims_M (wd : Int) (l : List ByteArray) {xs : List Int} (hr : Ris xs) (n : Nat) : ∀ a b, b - a = n → a < b → b ≤ l.length → (HL wd l xs).drop (cnt xs a) = (WL (fl (lkM (natL xs))) a b).map (R wd l) ++ (HL wd l xs).drop (cnt xs b) := by
  induction n using Nat.strongRecOn with
  | ind n ih =>
    intro a b hn hab hb
    by_cases h : cnt xs a = xs.length ∨ (b : Int) ≤ xs.getD (cnt xs a) 0
    · rw [WL_pass (lk := fl (lkM (natL xs))) (by unfold fl; rw [lkM_none hr h, if_neg (by omega), if_pos rfl]), cnt_none hr hab h]
      rfl
    · have h1 : cnt xs a < xs.length := by have := cnt_le xs a; omega
      have h2 : xs.getD (cnt xs a) 0 < b := by omega
      have hk := lkM_some hr h1 h2
      by_cases h3 : b - a = 1
      · rw [if_pos h3] at hk
        have hx := (cnt_spec a xs hr).2 (cnt xs a) (Nat.le_refl _) h1
        have hxa : (xs.getD (cnt xs a) 0).toNat = a := by omega
        rw [WL_take (lk := fl (lkM (natL xs))) (by unfold fl; rw [if_pos hk]), cnt_leaf hr h1 h2 h3]
        have hlen : cnt xs a < (HL wd l xs).length := by unfold HL; rw [List.length_map]; exact h1
        rw [List.drop_eq_getElem_cons hlen]
        obtain rfl : b = a + 1 := by omega
        have e : (HL wd l xs)[cnt xs a] = R wd l (a, a + 1) := by
          rw [R_one wd (by omega)]
          rw [List.getD_eq_getElem?_getD, List.getElem?_eq_getElem h1] at hxa
          have hxb : xs[cnt xs a].toNat = a := hxa
          have e2 : (HL wd l xs)[cnt xs a]? = some (LF wd (l.getD a ByteArray.empty)) := by
            unfold HL
            rw [List.getElem?_map, List.getElem?_eq_getElem h1, Option.map_some, hxb]
          exact Option.some.inj ((List.getElem?_eq_getElem hlen).symm.trans e2)
        rw [e]
        rfl
      · rw [if_neg h3] at hk
        have h4 : 2 ≤ b - a := by omega
        have hh := half_lt h4
        have i1 := ih (half (b - a)) (by omega) a (a + half (b - a)) (by omega) (by omega) (by omega)
        have i2 := ih (b - a - half (b - a)) (by omega) (a + half (b - a)) b (by omega) (by omega) hb
        rw [WL_left (lk := fl (lkM (natL xs))) (by rw [fl_two (by omega)]; exact hk) h4, List.map_append, List.append_assoc, ← i2, i1]
end Go.Proofs.YthmfljjpanghgaaDoor.zg

namespace Go.Proofs.YthmfljjpanghgaaDoor.zi
open Go.RowKit Go.PlainAid
open Go.Proofs.YthmfljjpanghgaaDoor.pl Go.Proofs.YthmfljjpanghgaaDoor.pi Go.Proofs.YthmfljjpanghgaaDoor.pj Go.Proofs.YthmfljjpanghgaaDoor.rf Go.Proofs.YthmfljjpanghgaaDoor.ca Go.Proofs.YthmfljjpanghgaaDoor.cb Go.Proofs.YthmfljjpanghgaaDoor.cp Go.Proofs.YthmfljjpanghgaaDoor.ga Go.Proofs.YthmfljjpanghgaaDoor.gb Go.Proofs.YthmfljjpanghgaaDoor.aa Go.Proofs.YthmfljjpanghgaaDoor.ka Go.Proofs.YthmfljjpanghgaaDoor.kb Go.Proofs.YthmfljjpanghgaaDoor.kc Go.Proofs.YthmfljjpanghgaaDoor.kp Go.Proofs.YthmfljjpanghgaaDoor.lk Go.Proofs.YthmfljjpanghgaaDoor.mi Go.Proofs.YthmfljjpanghgaaDoor.lm Go.Proofs.YthmfljjpanghgaaDoor.co Go.Proofs.YthmfljjpanghgaaDoor.cn Go.Proofs.YthmfljjpanghgaaDoor.qb Go.Proofs.YthmfljjpanghgaaDoor.qc Go.Proofs.YthmfljjpanghgaaDoor.qg Go.Proofs.YthmfljjpanghgaaDoor.qj Go.Proofs.YthmfljjpanghgaaDoor.qm Go.Proofs.YthmfljjpanghgaaDoor.qr Go.Proofs.YthmfljjpanghgaaDoor.za Go.Proofs.YthmfljjpanghgaaDoor.zg
set_option linter.unusedVariables false

theorem rH_ok {wd : Int} {c : Int} {proof others : List ByteArray} (h1 : Wide wd others) (h2 : Wide wd proof) (h3 : (proof.length : Int) = c) : rH wd c proof others = 0 := by
  unfold rH
  rw [wide_okH h1, wide_okH h2, if_pos (by rfl), if_pos h3]
theorem wide_two {wd : Int} {a b : ByteArray} (h1 : a.size = wid wd) (h2 : b.size = wid wd) : Wide wd [a, b] := fun x hx => by
  rcases List.mem_cons.1 hx with rfl | hx
  · exact h1
  · rcases List.mem_cons.1 hx with rfl | hx
    · exact h2
    · cases hx
theorem LF_size (wd : Int) (d : ByteArray) : (LF wd d).size = wid wd := cutS_size _ _
theorem inc_all (wd : Int) (l : List ByteArray) (i : Nat) (hi : i < l.length) (hl : l.length ≤ 200) (root : ByteArray) (hr : root.size = wid wd) : qd.incA wd (i : Int) (l.length : Int) (LF wd (l.getD i ByteArray.empty)) (PT wd (i : Int) l) root = if RT wd l = root then 0 else 90 := by
  have hp : PT wd (i : Int) l = PTn wd i l := by unfold PT; rw [if_pos (by omega), Int.toNat_natCast]
  obtain ⟨c1, c2⟩ := claims_I wd l i l.length 0 l.length rfl (by omega) hi (Nat.le_refl _)
  rw [Nat.sub_zero, S_all] at c2
  have hr0 : ref9 1 (i : Int) 0 (l.length : Int) [] = 0 := by
    unfold ref9
    rw [if_neg (by omega), if_neg (by omega), if_pos rfl, if_neg (by omega)]
  have hc : cnt9 1 (i : Int) 0 (l.length : Int) [] = (((PTn wd i l).length : Int), 0) := by
    unfold cnt9
    rw [if_pos hr0]
    unfold num9
    rw [if_pos rfl, Int.toNat_natCast, Int.toNat_natCast, ← c2, List.length_map]
  have hinc : qd.incR wd (i : Int) (l.length : Int) (PT wd (i : Int) l) [LF wd (l.getD i ByteArray.empty), root] = 0 := by
    unfold qd.incR
    rw [hc, if_pos rfl, hp]
    exact rH_ok (wide_two (LF_size _ _) hr) (by rw [← c2]; exact R_wide wd l _) rfl
  unfold qd.incA
  rw [if_pos hinc, hp, Int.toNat_natCast, Int.toNat_natCast]
  have e : qd.ldP wd i l.length (LF wd (l.getD i ByteArray.empty)) (PTn wd i l) = RT wd l := by
    unfold qd.ldP
    rw [(go_gp wd (lkI i) (fun _ => 0) l.length 0 l.length 0 [LF wd (l.getD i ByteArray.empty)] (PTn wd i l) rfl).1]
    have g := gp_all wd l (lk := lkI i) wideI (fourI i) l.length 0 l.length [] [] rfl (by omega) (Nat.le_refl _)
    rw [c1, c2, List.append_nil, List.append_nil] at g
    rw [g]
    unfold R
    simp only
    rw [S_all]
  rw [e]
theorem con_all (wd : Int) (l : List ByteArray) (m : Nat) (hm : m ≤ l.length) (h1 : 1 ≤ l.length) (hl : l.length ≤ 200) : qw.conA wd (m : Int) (l.length : Int) (RT wd (l.take m)) (RT wd l) (QT wd (m : Int) l) = 0 := by
  have hr0 : ref9 2 (m : Int) 0 (l.length : Int) [] = 0 := by
    unfold ref9
    rw [if_neg (by omega), if_neg (by omega), if_neg (by omega), if_pos rfl, if_neg (by omega)]
  by_cases h0 : m = 0
  · subst h0
    have hq : QT wd ((0 : Nat) : Int) l = [] := by unfold QT; rw [if_neg (by omega)]
    have hc : cnt9 2 ((0 : Nat) : Int) 0 (l.length : Int) [] = (0, 0) := by
      unfold cnt9
      rw [if_pos hr0]
      unfold num9
      rw [if_neg (by omega), if_pos rfl, if_pos (by rfl)]
      rfl
    have hcon : qw.conR wd ((0 : Nat) : Int) (l.length : Int) (QT wd ((0 : Nat) : Int) l) [RT wd (l.take 0), RT wd l] = 0 := by
      unfold qw.conR
      rw [hc, if_pos rfl, hq]
      exact rH_ok (wide_two (RT_size _ _) (RT_size _ _)) (fun x hx => by cases hx) rfl
    unfold qw.conA
    rw [if_pos hcon, if_pos (by rfl)]
    unfold qv.begA
    rw [if_neg (by omega), List.take_zero, RT_nil, if_pos rfl]
  · obtain ⟨c1, c2⟩ := cons_all wd l m l.length 0 l.length [] rfl (by omega) hm (Nat.le_refl _)
    rw [Nat.sub_zero, S_all, decide_eq_true rfl] at c2
    have hq : QT wd (m : Int) l = QTn wd m l true := by unfold QT; rw [if_pos (by omega), Int.toNat_natCast]
    have hc : cnt9 2 (m : Int) 0 (l.length : Int) [] = (((QTn wd m l true).length : Int), 0) := by
      unfold cnt9
      rw [if_pos hr0]
      unfold num9
      rw [if_neg (by omega), if_pos rfl, if_neg (by omega), Int.toNat_natCast, Int.toNat_natCast, ← c2, List.length_map]
    have hcon : qw.conR wd (m : Int) (l.length : Int) (QT wd (m : Int) l) [RT wd (l.take m), RT wd l] = 0 := by
      unfold qw.conR
      rw [hc, if_pos rfl, hq]
      exact rH_ok (wide_two (RT_size _ _) (RT_size _ _)) (by rw [← c2]; exact R_wide wd l _) rfl
    unfold qw.conA
    rw [if_pos hcon, if_neg (by omega), hq, Int.toNat_natCast, Int.toNat_natCast]
    have e0 : R wd l (0, m) = RT wd (l.take m) := by unfold R; simp only; rw [S_pre]
    have e1 : R wd l (0, l.length) = RT wd l := by unfold R; simp only; rw [S_all]
    rw [c2, List.append_nil, e0, e1] at c1
    have g : qv.gw2 wd m l.length (RT wd (l.take m)) (QTn wd m l true) = (RT wd (l.take m), RT wd l) := by unfold qv.gw2; rw [c1]
    rw [g, if_pos rfl]
theorem HL_wide (wd : Int) (l : List ByteArray) (xs : List Int) : Wide wd (HL wd l xs) := fun x hx => by
  obtain ⟨p, _, rfl⟩ := List.mem_map.1 hx
  exact LF_size wd _
theorem HL_len (wd : Int) (l : List ByteArray) (xs : List Int) : (HL wd l xs).length = xs.length := List.length_map _
theorem wide_cons {wd : Int} {a : ByteArray} {b : List ByteArray} (h1 : a.size = wid wd) (h2 : Wide wd b) : Wide wd (a :: b) := fun x hx => by
  rcases List.mem_cons.1 hx with rfl | hx
  · exact h1
  · exact h2 x hx
theorem gp_M (wd : Int) (l : List ByteArray) {xs : List Int} (hr : Ris xs) (hx : ∀ j, j < xs.length → xs.getD j 0 < (l.length : Int)) (h1 : 1 ≤ l.length) : (gp wd (lkM (natL xs)) (HL wd l xs) ((WL (lkM (natL xs)) 0 l.length).map (R wd l)) 0 l.length).1 = RT wd l := by
  have c := claims_M wd l hr l.length 0 l.length rfl (by omega) (Nat.le_refl _)
  rw [cnt_zero hr, cnt_all hr hx, List.drop_zero, ← HL_len wd l xs, List.drop_length] at c
  have g := gp_all wd l (lk := lkM (natL xs)) wideM (fourM _) l.length 0 l.length [] [] rfl (by omega) (Nat.le_refl _)
  rw [← c, List.append_nil] at g
  rw [g]
  unfold R
  simp only
  rw [S_all]
theorem mul_all (wd : Int) (l : List ByteArray) (xs : List Int) (hp : places xs (l.length : Int) = 0) (h1 : 1 ≤ l.length) (hl : l.length ≤ 200) : mulA wd (l.length : Int) xs (HL wd l xs) ((WL (lkM (natL xs)) 0 l.length).map (R wd l)) (RT wd l) = 0 := by
  have hr0 : ref9 4 0 0 (l.length : Int) xs = 0 := by
    unfold ref9
    rw [if_neg (by omega), if_neg (by omega), if_neg (by omega), if_neg (by omega), if_neg (by omega)]
    exact hp
  have hc : cnt9 4 0 0 (l.length : Int) xs = (((WL (lkM (natL xs)) 0 l.length).length : Int), 0) := by
    unfold cnt9
    rw [if_pos hr0]
    unfold num9
    rw [if_neg (by omega), if_neg (by omega), if_neg (by omega), Int.toNat_natCast]
  obtain ⟨p1, p2, p3, p4⟩ := places_ok hp
  unfold mulA
  rw [hc, if_pos rfl, if_pos (HL_len _ _ _), Int.toNat_natCast]
  unfold qm.seen
  rw [if_pos (rH_ok (wide_cons (RT_size _ _) (HL_wide _ _ _)) (R_wide _ _ _) (by rw [List.length_map])), if_pos (gp_M wd l (ris_of hp) (fun j hj => (p3 j hj).2) h1)]
theorem rng_all (wd : Int) (l : List ByteArray) (lo hi : Nat) (hlh : lo < hi) (hn : hi ≤ l.length) (hl : l.length ≤ 200) : qp.rngA wd (lo : Int) (l.length : Int) (HL wd l (qo.rg lo hi)) ((WL (lkM (natL (qo.rg lo hi))) 0 l.length).map (R wd l)) (RT wd l) = 0 := by
  have e1 : (lo : Int) + ((HL wd l (qo.rg lo hi)).length : Nat) = (hi : Int) := by rw [HL_len, qo.rg_len]; omega
  have hr0 : ref9 3 (lo : Int) (hi : Int) (l.length : Int) [] = 0 := by
    unfold ref9
    rw [if_neg (by omega), if_neg (by omega), if_neg (by omega), if_neg (by omega), if_pos rfl, if_neg (by omega)]
  have hcg : ∀ c d, 0 ≤ c → c < d → d ≤ l.length → qk.lkS lo hi c d = lkM (natL (qo.rg lo hi)) c d := fun c d _ h _ => qo.lkS_M lo hi c d hlh h
  have hwl := WL_congr l.length 0 l.length rfl hcg (by omega)
  have hc : cnt9 3 (lo : Int) (hi : Int) (l.length : Int) [] = (((WL (lkM (natL (qo.rg lo hi))) 0 l.length).length : Int), 0) := by
    unfold cnt9
    rw [if_pos hr0]
    unfold num9
    rw [if_neg (by omega), if_neg (by omega), if_pos rfl, Int.toNat_natCast, Int.toNat_natCast, Int.toNat_natCast, ← hwl, (qo.counts lo hi l.length hlh hn).1]
  unfold qp.rngA
  rw [e1, hc, if_pos rfl, Int.toNat_natCast, Int.toNat_natCast, Int.toNat_natCast]
  unfold qm.seen
  have hg := gp_congr wd l.length 0 l.length (HL wd l (qo.rg lo hi)) ((WL (lkM (natL (qo.rg lo hi))) 0 l.length).map (R wd l)) rfl hcg (by omega)
  rw [if_pos (rH_ok (wide_cons (RT_size _ _) (HL_wide _ _ _)) (R_wide _ _ _) (by rw [List.length_map])), hg, if_pos (gp_M wd l (qo.rg_ris lo hi) (fun j hj => by rw [qo.rg_len] at hj; rw [qo.rg_get lo hi j hj]; omega) (by omega))]
end Go.Proofs.YthmfljjpanghgaaDoor.zi

namespace Go.Proofs.YthmfljjpanghgaaDoor.zh
open Go.RowKit Go.PlainAid
open Go.Proofs.YthmfljjpanghgaaDoor.pl Go.Proofs.YthmfljjpanghgaaDoor.pi Go.Proofs.YthmfljjpanghgaaDoor.pj Go.Proofs.YthmfljjpanghgaaDoor.rf Go.Proofs.YthmfljjpanghgaaDoor.ca Go.Proofs.YthmfljjpanghgaaDoor.cb Go.Proofs.YthmfljjpanghgaaDoor.cp Go.Proofs.YthmfljjpanghgaaDoor.ga Go.Proofs.YthmfljjpanghgaaDoor.gb Go.Proofs.YthmfljjpanghgaaDoor.aa Go.Proofs.YthmfljjpanghgaaDoor.ka Go.Proofs.YthmfljjpanghgaaDoor.kb Go.Proofs.YthmfljjpanghgaaDoor.kc Go.Proofs.YthmfljjpanghgaaDoor.kp Go.Proofs.YthmfljjpanghgaaDoor.lk Go.Proofs.YthmfljjpanghgaaDoor.mi Go.Proofs.YthmfljjpanghgaaDoor.lm Go.Proofs.YthmfljjpanghgaaDoor.co Go.Proofs.YthmfljjpanghgaaDoor.cn Go.Proofs.YthmfljjpanghgaaDoor.qb Go.Proofs.YthmfljjpanghgaaDoor.qc Go.Proofs.YthmfljjpanghgaaDoor.qg Go.Proofs.YthmfljjpanghgaaDoor.qj Go.Proofs.YthmfljjpanghgaaDoor.qm Go.Proofs.YthmfljjpanghgaaDoor.za Go.Proofs.YthmfljjpanghgaaDoor.zb Go.Proofs.YthmfljjpanghgaaDoor.zg
set_option linter.unusedVariables false

-- a list of its own in memory, of texts and of numbers
def OwT (w : World) (B : Nat) (v : Value) (xs : List ByteArray) : Prop := w.ownsRow B 9 1 v xs.length (xs.map Value.string)
def OwI (w : World) (B : Nat) (v : Value) (xs : List Int) : Prop := w.ownsRow B 3 1 v xs.length (xs.map (Value.int .i64))
theorem OwT.later {w w' : World} {B : Nat} {v : Value} {xs : List ByteArray} (h : OwT w B v xs) (hb : Below w.heap.size w w') : OwT w' B v xs := own_later h hb
theorem OwI.later {w w' : World} {B : Nat} {v : Value} {xs : List Int} (h : OwI w B v xs) (hb : Below w.heap.size w w') : OwI w' B v xs := own_later h hb
theorem OwT.form {w : World} {B : Nat} {v : Value} {xs : List ByteArray} (h : OwT w B v xs) : ∃ a c, v = .slice a xs.length c := ts.own_form h
theorem OwI.form {w : World} {B : Nat} {v : Value} {xs : List Int} (h : OwI w B v xs) : ∃ a c, v = .slice a xs.length c := ti.own_form h
theorem OwT.no {w : World} {B : Nat} {v : Value} {xs : List ByteArray} (h : OwT w B v xs) : ∀ k c, v = .slice none k c → c = 0 := fun k c e => by
  rcases h.2 with ⟨e1, _⟩ | ⟨g, cap, cur, e1, _⟩
  · rw [e1] at e; injection e with _ _ e3; exact e3.symm
  · rw [e1] at e; cases e
theorem OwT.reads {w : World} {B : Nat} {v : Value} {xs : List ByteArray} (h : OwT w B v xs) : ReadsT w v xs := by
  rcases ts.own_form h with ⟨a, c, rfl⟩
  rcases h.2 with ⟨e, e2⟩ | ⟨g, cap, cur, e, _, _, hc, _⟩
  · injection e with e1 _ e3
    subst e1 e3
    exact ⟨none, 0, rfl, by omega, .inl (by omega)⟩
  · injection e with e1 _ e3
    subst e1 e3
    refine ⟨_, _, rfl, by omega, .inr ⟨g, 0, rfl, fun i hi => ?_⟩⟩
    rw [Nat.zero_add, World.ownsRow.cellAt h i (by omega), List.getElem?_map, List.getElem?_eq_getElem hi, List.getD_eq_getElem?_getD, List.getElem?_eq_getElem hi]
    rfl
theorem OwI.reads {w : World} {B : Nat} {v : Value} {xs : List Int} (h : OwI w B v xs) : ReadsI w v xs := de.own_readsI h
section
variable {ops : Array Oper} {rest : List Oper} {o : Oper} {a : Act} {Q : Exit → Act → World → Prop} {w : World}
set_option maxRecDepth 100000 in
theorem wpList_appA (hgd : o.guard = none) (s x : Operand) (ho : o.op = .call { callee := .builtin .append, args := #[s, x], argTypes := #[23, 23] }) (B : Nat) (v y : Value) (xs ys : List ByteArray) (hs : a.eval s = v) (hown : OwT w B v xs) (hx : a.eval x = y) (hy : ReadsT w y ys) (hno : ∀ k c, y = .slice none k c → c = 0) (hb : (xs.length + ys.length) * 16 ≤ 140737488351232) (hB : B ≤ w.heap.size)
    (h : ∀ v' w', OwT w' B v' (xs ++ ys) → Below B w w' → wpList Tryd.prog ops Q rest (a.put o.dst v') w') : wpList Tryd.prog ops Q (o :: rest) a w := by
  obtain ⟨i9, hi, hz0, hz1, hz2⟩ := ts.info_parts ts.hiE
  obtain ⟨ad, c, rfl, hc, hr⟩ := hy
  cases ad with
  | none =>
    have hc0 := hno _ _ rfl
    subst hc0
    have hl0 : ys = [] := List.length_eq_zero_iff.1 (by omega)
    subst hl0
    refine wpList_append_own_none hgd s x 23 ho B 9 i9 1 Tryd.underlying23 hi v xs.length _ hs hown hx ?_
    exact h v w (by rw [List.append_nil]; exact hown) (Below.refl _ _)
  | some ad =>
    refine wpList_append_own _ hgd s x 23 ho B 9 i9 (.string ByteArray.empty) 1 16 Tryd.underlying23 hi hz0 hz1 hz2 rfl (by decide) v xs.length (xs.map Value.string) hs hown ad ys.length c (ys.map Value.string) hx (by rw [List.length_map, Nat.mul_one]) ?_ (ts.ones _) (by unfold maxLen; omega) (by omega) hB ?_
    · intro j u hu
      rw [List.getElem?_map] at hu
      obtain ⟨t, ht, rfl⟩ := Option.map_eq_some_iff.1 hu
      have hj := (List.getElem?_eq_some_iff.1 ht).1
      rcases hr with h0 | ⟨b, off, e, hcell⟩
      · omega
      · injection e with e
        subst e
        rw [Addr.add_mid, hcell j hj, List.getD_eq_getElem?_getD, ht]
        rfl
    · intro p' w5 ho5 hg hnn
      refine h p' w5 ?_ (Below.grown (Below.refl _ _) hg hB (fun jj hj => (World.ownsRow.lt hown _ hj).1))
      unfold OwT
      rw [List.length_append, List.map_append]
      exact ho5
theorem wpList_appI (hgd : o.guard = none) (s x : Operand) (ho : o.op = .call { callee := .builtin .append, args := #[s, x], argTypes := #[22, 22] }) (B : Nat) (v : Value) (xs : List Int) (k : Int) (ad : Addr) (hs : a.eval s = v) (hown : OwI w B v xs) (hx : a.eval x = .slice (some ad) 1 1) (hy : w.cell? (ad.add 0) = some (.int .i64 k)) (hb : (xs.length + 1) * 8 ≤ 140737488351232) (hB : B ≤ w.heap.size)
    (h : ∀ v' w', OwI w' B v' (xs ++ [k]) → Below B w w' → wpList Tryd.prog ops Q rest (a.put o.dst v') w') : wpList Tryd.prog ops Q (o :: rest) a w := by
  obtain ⟨i9, hi, hz0, hz1, hz2⟩ := ti.info_parts ti.hiE
  refine wpList_append_own _ hgd s x 22 ho B 3 i9 (.int .i64 0) 1 8 Tryd.underlying22 hi hz0 hz1 hz2 rfl (by decide) v xs.length (xs.map (Value.int .i64)) hs hown ad 1 1 [.int .i64 k] hx rfl ?_ ?_ (by unfold maxLen; omega) (by omega) hB ?_
  · intro j u hu
    cases j with
    | zero => simp at hu; rw [hy, hu]
    | succ j => simp at hu
  · intro u hu
    rw [List.mem_singleton] at hu
    subst hu
    rfl
  · intro p' w5 ho5 hg hnn
    refine h p' w5 ?_ (Below.grown (Below.refl _ _) hg hB (fun jj hj => (World.ownsRow.lt hown _ hj).1))
    unfold OwI
    rw [List.length_append, List.map_append]
    exact ho5
end
theorem rg_nil (lo : Nat) : qo.rg lo lo = [] := by unfold qo.rg; rw [Nat.sub_self]; rfl
theorem rg_succ {lo k : Nat} (h : lo ≤ k) : qo.rg lo (k + 1) = qo.rg lo k ++ [(k : Int)] := by
  unfold qo.rg
  rw [show k + 1 - lo = (k - lo) + 1 by omega, List.range'_concat, List.map_append, show lo + 1 * (k - lo) = k by omega]
  rfl
set_option maxRecDepth 100000 in
set_option maxHeartbeats 3200000 in
theorem risingC (lo hi : Nat) (h : lo ≤ hi) (hz : hi ≤ 200) (w : World) :
    Calls Tryd.prog 19 #[.int .i64 lo, .int .i64 hi] w fun e w' => ∃ v, e = .returned v ∧ OwI w' w.heap.size v (qo.rg lo hi) ∧ Below w.heap.size w w' := by
  have HB0 : Hid (Below w.heap.size w w) := Below.refl _ _
  have HO0 : Hid (OwI w w.heap.size (.slice none 0 0) (qo.rg lo lo)) := by show OwI _ _ _ _; rw [rg_nil]; exact World.ownsRow_nil _ _ _ _
  go_enter Tryd.func19, Tryd.ntmps19
  go_wp2
  go_loopw [5, 6] (fun s i wr => ∃ k : Nat, lo ≤ k ∧ k ≤ hi ∧ i = .int .i64 k ∧ Hid (OwI wr w.heap.size s (qo.rg lo k)) ∧ Hid (Below w.heap.size w wr)) (fun _ i _ => (hi - intOf i).toNat)
  case atStart => exact ⟨lo, by omega, by omega, rfl, HO0.out, HB0.out⟩
  case round =>
    obtain ⟨k, hk1, hk2, rfl, HO, HB⟩ := hrel
    obtain ⟨sa, sc, e⟩ := HO.out.form
    have hln : (qo.rg lo k).length = k - lo := qo.rg_len lo k
    rw [hln] at e
    subst e
    by_cases hlt : k < hi
    · have hlt' : (k : Int) < hi := by omega
      rename_i wr
      have BA : Below wr.heap.size wr (wr.alloc (.cells #[.int .i64 k] 3)) := (Below.refl _ _).alloc (Nat.le_refl _) _
      have OA : Hid (OwI (wr.alloc (.cells #[.int .i64 k] 3)) w.heap.size _ (qo.rg lo k)) := HO.out.later BA
      have SA : Hid (w.heap.size ≤ (wr.alloc (.cells #[.int .i64 k] 3)).heap.size ∧ Below w.heap.size w (wr.alloc (.cells #[.int .i64 k] 3))) := ⟨Nat.le_trans HB.out.size BA.size, over HB.out BA⟩
      have NW : Hid ((wr.alloc (.cells #[.int .i64 k] 3)).cell? (Addr.add ⟨wr.heap.size, 0, none⟩ 0) = some (.int .i64 k)) := ti.new_one wr (.int .i64 k) 3 0 _ rfl
      have HL : Hid ((qo.rg lo k).length = k - lo) := hln
      have RS : Hid (qo.rg lo (k + 1) = qo.rg lo k ++ [(k : Int)]) := rg_succ hk1
      clear BA hln
      go_wp2_with (at_builtin; refine wpList_appI rfl _ _ rfl w.heap.size _ (qo.rg lo k) k _ rfl OA.out rfl NW.out (by rw [HL.out]; omega) SA.out.1 ?_; intro v' w5 ho hb5; have HO5 : Hid (OwI w5 w.heap.size v' (qo.rg lo k ++ [(k : Int)])) := ho; have HB5 : Hid (Below w.heap.size w w5) := SA.out.2.trans hb5; clear ho hb5)
      go_roundw
      case rel => exact ⟨k + 1, by omega, by omega, by go_num, by rw [RS.out]; exact HO5.out, HB5.out⟩
      case measure => simp [intOf]; omega
    · have hlt' : ¬ (k : Int) < hi := by omega
      obtain rfl : k = hi := by omega
      have END : Hid (OwI _ w.heap.size _ (qo.rg lo k) ∧ _) := ⟨HO.out, HB.out⟩
      go_wp2
      go_ret
      exact ⟨_, rfl, END.out.1, END.out.2⟩
end Go.Proofs.YthmfljjpanghgaaDoor.zh
