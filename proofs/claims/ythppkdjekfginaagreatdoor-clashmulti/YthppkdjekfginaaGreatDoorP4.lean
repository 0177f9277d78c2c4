import Derived.Test.YthppkdjekfginaaGreatDoorY1
import Derived.Test.YthppkdjekfginaaGreatDoorL1
import Derived.Test.YthppkdjekfginaaGreatDoorG1
import Derived.Test.YthppkdjekfginaaGreatDoorG3
import Derived.Test.YthppkdjekfginaaGreatDoorP1
import Derived.Test.YthppkdjekfginaaGreatDoorL3
import Derived.Deep.DeepCutAuto
import Derived.Deep.AppendLies
import Derived.BigQuiet
namespace Go.Proofs.YthppkdjekfginaaGreatDoor.jt
open Go.RowKit Go.PlainAid
open Go.Proofs.YthppkdjekfginaaGreatDoor.pl Go.Proofs.YthppkdjekfginaaGreatDoor.pi Go.Proofs.YthppkdjekfginaaGreatDoor.pj Go.Proofs.YthppkdjekfginaaGreatDoor.ca Go.Proofs.YthppkdjekfginaaGreatDoor.cb Go.Proofs.YthppkdjekfginaaGreatDoor.cp Go.Proofs.YthppkdjekfginaaGreatDoor.gb Go.Proofs.YthppkdjekfginaaGreatDoor.ka Go.Proofs.YthppkdjekfginaaGreatDoor.kp Go.Proofs.YthppkdjekfginaaGreatDoor.qa Go.Proofs.YthppkdjekfginaaGreatDoor.yb Go.Proofs.YthppkdjekfginaaGreatDoor.yc Go.Proofs.YthppkdjekfginaaGreatDoor.yd Go.Proofs.YthppkdjekfginaaGreatDoor.yh
set_option linter.unusedVariables false

-- what stays while other blocks than three are let alone
structure Stq (g1 g2 g3 : Nat) (Q : World → Prop) : Prop where
  later : ∀ {W W' : World}, Q W → Below W.heap.size W W' → Q W'
  kp : ∀ {W W' : World} {g : Nat}, Q W → g = g1 ∨ g = g2 ∨ g = g3 → Kp (fun b => b = g) W W' → Q W'
-- three twins in memory since w, and something beside them
structure Ty (Q : World → Prop) (w : World) (g1 n1 c1 : Nat) (y1 : List ByteArray) (g2 n2 c2 : Nat) (y2 : List ByteArray) (g3 n3 c3 : Nat) (y3 : List ByteArray) (W : World) : Prop where
  fr : Below w.heap.size w W
  t1 : TwinR W w.heap.size g1 n1 c1 y1
  t2 : TwinR W w.heap.size g2 n2 c2 y2
  t3 : TwinR W w.heap.size g3 n3 c3 y3
  n12 : g1 ≠ g2
  n13 : g1 ≠ g3
  n23 : g2 ≠ g3
  q : Q W
section
variable {Q : World → Prop} {w W W' : World} {g1 n1 c1 : Nat} {y1 : List ByteArray} {g2 n2 c2 : Nat} {y2 : List ByteArray} {g3 n3 c3 : Nat} {y3 : List ByteArray}
theorem Ty.later (h : Ty Q w g1 n1 c1 y1 g2 n2 c2 y2 g3 n3 c3 y3 W) (S : Stq g1 g2 g3 Q) (b : Below W.heap.size W W') : Ty Q w g1 n1 c1 y1 g2 n2 c2 y2 g3 n3 c3 y3 W' := ⟨over h.fr b, twin_later h.t1 b, twin_later h.t2 b, twin_later h.t3 b, h.n12, h.n13, h.n23, S.later h.q b⟩
theorem Ty.fst (h : Ty Q w g1 n1 c1 y1 g2 n2 c2 y2 g3 n3 c3 y3 W) (S : Stq g1 g2 g3 Q) {z : List ByteArray} (t : TwinR W' w.heap.size g1 n1 c1 z) (k : Kp (fun b => b = g1) W W') : Ty Q w g1 n1 c1 z g2 n2 c2 y2 g3 n3 c3 y3 W' :=
  ⟨h.fr.trans (k.below (fun b e => by subst e; exact (twin_base h.t1).1) h.fr.size), t, twin_kp h.t2 k (fun e => h.n12 e.symm), twin_kp h.t3 k (fun e => h.n13 e.symm), h.n12, h.n13, h.n23, S.kp h.q (.inl rfl) k⟩
theorem Ty.snd (h : Ty Q w g1 n1 c1 y1 g2 n2 c2 y2 g3 n3 c3 y3 W) (S : Stq g1 g2 g3 Q) {z : List ByteArray} (t : TwinR W' w.heap.size g2 n2 c2 z) (k : Kp (fun b => b = g2) W W') : Ty Q w g1 n1 c1 y1 g2 n2 c2 z g3 n3 c3 y3 W' :=
  ⟨h.fr.trans (k.below (fun b e => by subst e; exact (twin_base h.t2).1) h.fr.size), twin_kp h.t1 k h.n12, t, twin_kp h.t3 k (fun e => h.n23 e.symm), h.n12, h.n13, h.n23, S.kp h.q (.inr (.inl rfl)) k⟩
theorem Ty.trd (h : Ty Q w g1 n1 c1 y1 g2 n2 c2 y2 g3 n3 c3 y3 W) (S : Stq g1 g2 g3 Q) {z : List ByteArray} (t : TwinR W' w.heap.size g3 n3 c3 z) (k : Kp (fun b => b = g3) W W') : Ty Q w g1 n1 c1 y1 g2 n2 c2 y2 g3 n3 c3 z W' :=
  ⟨h.fr.trans (k.below (fun b e => by subst e; exact (twin_base h.t3).1) h.fr.size), twin_kp h.t1 k h.n13, twin_kp h.t2 k h.n23, t, h.n12, h.n13, h.n23, S.kp h.q (.inr (.inr rfl)) k⟩
end
end Go.Proofs.YthppkdjekfginaaGreatDoor.jt

namespace Go.Proofs.YthppkdjekfginaaGreatDoor.ja
open Go.Proofs.YthppkdjekfginaaGreatDoor.ca Go.Proofs.YthppkdjekfginaaGreatDoor.cb Go.Proofs.YthppkdjekfginaaGreatDoor.ga Go.Proofs.YthppkdjekfginaaGreatDoor.aa Go.Proofs.YthppkdjekfginaaGreatDoor.ta Go.Proofs.YthppkdjekfginaaGreatDoor.tb Go.Proofs.YthppkdjekfginaaGreatDoor.td
set_option linter.unusedVariables false

-- what a part of a tree hangs on: the hashes that are its own
theorem gw_take {H : ByteArray → ByteArray} {lk : Nat → Nat → Nat} {lf : Nat → ByteArray} (hz : ∀ a b, lk a b = 0 → ¬ 2 ≤ b - a) (n : Nat) : ∀ (a b : Nat) (x y : List ByteArray), b - a = n → x.take (WL lk a b).length = y.take (WL lk a b).length → (gw H lk lf nx x a b).1 = (gw H lk lf nx y a b).1 := by
  have two : ∀ (l1 l2 : Nat) (x y : List ByteArray), x.take (l1 + l2) = y.take (l1 + l2) → x.take l1 = y.take l1 ∧ (x.drop l1).take l2 = (y.drop l1).take l2 := by
    intro l1 l2 x y h
    refine ⟨?_, ?_⟩
    · have := congrArg (List.take l1) h
      rw [List.take_take, List.take_take, Nat.min_eq_left (by omega)] at this
      exact this
    · rw [List.take_drop, List.take_drop, h]
  induction n using Nat.strongRecOn with
  | ind n ih =>
    intro a b x y hn h
    by_cases h1 : lk a b = 1
    · rw [WL_take h1] at h
      rw [gw_bare h1, gw_bare h1]
      show Pt.bare (x.headD ByteArray.empty) = Pt.bare (y.headD ByteArray.empty)
      cases x with
      | nil => cases y with
        | nil => rfl
        | cons q t => simp at h
      | cons p s => cases y with
        | nil => simp at h
        | cons q t =>
          simp at h
          rw [h]
          rfl
    by_cases h2 : 2 ≤ b - a
    · have hh := half_lt h2
      by_cases h3 : lk a b = 2
      · rw [WL_left h3 h2, List.length_append] at h
        obtain ⟨g1, g2⟩ := two _ _ _ _ h
        rw [gw_left h3 h2, gw_left h3 h2, gw_nx hz _ _ _ _ rfl, gw_nx hz _ _ _ _ rfl]
        show ab _ _ _ = ab _ _ _
        rw [ih (half (b - a)) (by omega) a (a + half (b - a)) x y (by omega) g1, ih (b - (a + half (b - a))) (by omega) (a + half (b - a)) b _ _ rfl g2, gw_nx hz _ _ _ y rfl]
      · have h0 : lk a b ≠ 0 := fun e => hz a b e h2
        rw [WL_right (by omega) h2, List.length_append] at h
        obtain ⟨g1, g2⟩ := two _ _ _ _ h
        rw [gw_right h1 h3 h2, gw_right h1 h3 h2, gw_nx hz _ _ _ _ rfl, gw_nx hz _ _ _ _ rfl]
        show ab _ _ _ = ab _ _ _
        rw [ih (b - (a + half (b - a))) (by omega) (a + half (b - a)) b x y rfl g1, ih (half (b - a)) (by omega) a (a + half (b - a)) _ _ (by omega) g2, gw_nx hz _ _ _ y rfl]
    · rw [gw_leaf h1 h2, gw_leaf h1 h2]
-- places with what is claimed there
def inP (ps : List (Nat × ByteArray)) (a b : Nat) : List (Nat × ByteArray) := ps.filter fun p => decide (a ≤ p.1) && decide (p.1 < b)
def RisP (ps : List (Nat × ByteArray)) : Prop := ps.Pairwise fun x y => x.1 < y.1
theorem inP_mem {ps : List (Nat × ByteArray)} {a b : Nat} {p : Nat × ByteArray} : p ∈ inP ps a b ↔ p ∈ ps ∧ a ≤ p.1 ∧ p.1 < b := by
  unfold inP
  rw [List.mem_filter, Bool.and_eq_true, decide_eq_true_eq, decide_eq_true_eq]
theorem inP_map (ps : List (Nat × ByteArray)) (a b : Nat) : (inP ps a b).map (·.1) = inn (ps.map (·.1)) a b := by
  unfold inP inn
  rw [List.filter_map]
  rfl
theorem inP_in (ps : List (Nat × ByteArray)) {a b c d : Nat} (h1 : a ≤ c) (h2 : d ≤ b) : inP (inP ps a b) c d = inP ps c d := by
  unfold inP
  rw [List.filter_filter]
  congr 1
  funext p
  by_cases h : c ≤ p.1 ∧ p.1 < d
  · simp [h.1, h.2, show a ≤ p.1 by omega, show p.1 < b by omega]
  · by_cases h3 : c ≤ p.1
    · simp [show ¬ p.1 < d by omega]
    · simp [h3]
theorem inP_ris {ps : List (Nat × ByteArray)} (h : RisP ps) (a b : Nat) : RisP (inP ps a b) := List.Pairwise.filter _ h
theorem ris_map {ps : List (Nat × ByteArray)} (h : RisP ps) : (ps.map (·.1)).Pairwise (· < ·) := List.pairwise_map.2 h
theorem inP_split {ps : List (Nat × ByteArray)} (h : RisP ps) {a m b : Nat} (h1 : a ≤ m) (h2 : m ≤ b) : (inP ps a b).length = (inP ps a m).length + (inP ps m b).length := by
  have := congrArg List.length (inn_split (ps.map (·.1)) (ris_map h) h1 h2)
  rw [List.length_append, ← inP_map, ← inP_map, ← inP_map, List.length_map, List.length_map, List.length_map] at this
  exact this
theorem inP_one {ps : List (Nat × ByteArray)} (h : RisP ps) (a : Nat) : (inP ps a (a + 1)).length ≤ 1 := by
  have e : (inP ps a (a + 1)).length = (inn (ps.map (·.1)) a (a + 1)).length := by rw [← inP_map, List.length_map]
  rw [e]
  by_cases g : a ∈ ps.map (·.1)
  · rw [inn_one _ (ris_map h) g]; simp
  · rw [inn_nil]
    · simp
    · rintro ⟨p, hp, q1, q2⟩
      obtain rfl : p = a := by omega
      exact g hp
theorem inP_len {ps : List (Nat × ByteArray)} (h : RisP ps) (n : Nat) : ∀ a b, b - a = n → (inP ps a b).length ≤ b - a := by
  induction n with
  | zero =>
    intro a b hn
    have : inP ps a b = [] := by
      unfold inP
      rw [List.filter_eq_nil_iff]
      intro p hp e
      rw [Bool.and_eq_true, decide_eq_true_eq, decide_eq_true_eq] at e
      omega
    rw [this]
    simp
  | succ n ih =>
    intro a b hn
    rw [inP_split h (show a ≤ a + 1 by omega) (show a + 1 ≤ b by omega)]
    have := inP_one h a
    have := ih (a + 1) b (by omega)
    omega
-- a shape with leaves that is told by places
structure Rep (lk : Nat → Nat → Nat) (lf : Nat → ByteArray) (ps : List (Nat × ByteArray)) (a b : Nat) : Prop where
  r : RisP ps
  k : ∀ c d, a ≤ c → c < d → d ≤ b → (lk c d = 1 ↔ inP ps c d = [])
  z : ∀ c d, c < d → lk c d ≠ 1 → lk c d = if d - c = 1 then 0 else 2
  f : ∀ p ∈ ps, a ≤ p.1 → p.1 < b → lf p.1 = p.2
section
variable {lk : Nat → Nat → Nat} {lf : Nat → ByteArray} {ps : List (Nat × ByteArray)} {a b : Nat}
theorem Rep.sub (h : Rep lk lf ps a b) {c d : Nat} (h1 : a ≤ c) (h2 : d ≤ b) : Rep lk lf (inP ps a b) c d :=
  ⟨inP_ris h.r a b, fun c' d' g1 g2 g3 => by rw [inP_in ps (by omega) (by omega)]; exact h.k c' d' (by omega) g2 (by omega), h.z, fun p hp g1 g2 => h.f p (inP_mem.1 hp).1 (by omega) (by omega)⟩
theorem Rep.none (h : Rep lk lf ps a b) (hab : a < b) (h0 : inP ps a b = []) : lk a b = 1 := (h.k a b (by omega) hab (by omega)).2 h0
theorem Rep.some (h : Rep lk lf ps a b) (hab : a < b) (h0 : inP ps a b ≠ []) : lk a b ≠ 1 := fun e => h0 ((h.k a b (by omega) hab (by omega)).1 e)
theorem Rep.leaf (h : Rep lk lf ps a b) (hab : b - a = 1) (h0 : inP ps a b ≠ []) : inP ps a b = [(a, lf a)] := by
  have hl := inP_len h.r _ a b rfl
  cases hq : inP ps a b with
  | nil => exact absurd hq h0
  | cons p t =>
    rw [hq] at hl
    have ht : t = [] := by
      cases t with
      | nil => rfl
      | cons _ _ => simp at hl; omega
    have hp := inP_mem.1 (show p ∈ inP ps a b by rw [hq]; exact List.mem_cons_self)
    have ep : p.1 = a := by omega
    have := h.f p hp.1 hp.2.1 hp.2.2
    rw [ht]
    congr 1
    rw [ep] at this
    exact Prod.ext ep this.symm
theorem Rep.zero (h : Rep lk lf ps a b) (c d : Nat) (hcd : c < d) (g : lk c d = 0) : ¬ 2 ≤ d - c := by
  have := h.z c d hcd (by omega)
  rw [g] at this
  split at this
  · omega
  · omega
theorem Rep.full (h : Rep lk lf ps a b) (n : Nat) : ∀ c d, d - c = n → a ≤ c → c < d → d ≤ b → (inP ps c d).length = d - c → WL lk c d = [] := by
  induction n using Nat.strongRecOn with
  | ind n ih =>
    intro c d hn h1 hcd h2 hl
    have hne : lk c d ≠ 1 := fun e => by
      rw [(h.k c d h1 hcd h2).1 e] at hl
      simp at hl
      omega
    by_cases g : 2 ≤ d - c
    · have hh := half_lt g
      have hz := h.z c d hcd hne
      rw [if_neg (by omega)] at hz
      have hs := inP_split h.r (show c ≤ c + half (d - c) by omega) (show c + half (d - c) ≤ d by omega)
      have l1 := inP_len h.r _ c (c + half (d - c)) rfl
      have l2 := inP_len h.r _ (c + half (d - c)) d rfl
      rw [WL_left hz g, ih (half (d - c)) (by omega) c _ (by omega) h1 (by omega) (by omega) (by omega), ih (d - (c + half (d - c))) (by omega) _ d rfl (by omega) (by omega) h2 (by omega)]
      rfl
    · have hz := h.z c d hcd hne
      rw [if_pos (by omega)] at hz
      exact WL_pass hz
-- a part of two leaves or more in which something stands
theorem Rep.two (h : Rep lk lf ps a b) (hab : a < b) (h0 : inP ps a b ≠ []) (h2 : 2 ≤ b - a) : lk a b = 2 := by
  have := h.z a b hab (h.some hab h0)
  rw [if_neg (by omega)] at this
  exact this
theorem Rep.count (h : Rep lk lf ps a b) (hab : a < b) (h0 : inP ps a b ≠ []) (h2 : 2 ≤ b - a) : (WL lk a b).length = (WL lk a (a + half (b - a))).length + (WL lk (a + half (b - a)) b).length := by
  rw [WL_left (h.two hab h0 h2) h2, List.length_append]
end
end Go.Proofs.YthppkdjekfginaaGreatDoor.ja

namespace Go.Proofs.YthppkdjekfginaaGreatDoor.jb
open Go.RowKit Go.PlainAid
open Go.Proofs.YthppkdjekfginaaGreatDoor.pl Go.Proofs.YthppkdjekfginaaGreatDoor.pi Go.Proofs.YthppkdjekfginaaGreatDoor.pj Go.Proofs.YthppkdjekfginaaGreatDoor.rf Go.Proofs.YthppkdjekfginaaGreatDoor.ca Go.Proofs.YthppkdjekfginaaGreatDoor.cb Go.Proofs.YthppkdjekfginaaGreatDoor.cp Go.Proofs.YthppkdjekfginaaGreatDoor.ga Go.Proofs.YthppkdjekfginaaGreatDoor.gb Go.Proofs.YthppkdjekfginaaGreatDoor.aa Go.Proofs.YthppkdjekfginaaGreatDoor.ka Go.Proofs.YthppkdjekfginaaGreatDoor.kb Go.Proofs.YthppkdjekfginaaGreatDoor.kp Go.Proofs.YthppkdjekfginaaGreatDoor.mi Go.Proofs.YthppkdjekfginaaGreatDoor.lk Go.Proofs.YthppkdjekfginaaGreatDoor.qb Go.Proofs.YthppkdjekfginaaGreatDoor.qj Go.Proofs.YthppkdjekfginaaGreatDoor.ta Go.Proofs.YthppkdjekfginaaGreatDoor.tb Go.Proofs.YthppkdjekfginaaGreatDoor.td Go.Proofs.YthppkdjekfginaaGreatDoor.tc Go.Proofs.YthppkdjekfginaaGreatDoor.ua Go.Proofs.YthppkdjekfginaaGreatDoor.ja
set_option linter.unusedVariables false

section
variable {wd : Int} {lk : Nat → Nat → Nat} {lf : Nat → ByteArray} {ps : List (Nat × ByteArray)} {a b : Nat} {x xs : List ByteArray}
def clM (wd : Int) (lk : Nat → Nat → Nat) (lf : Nat → ByteArray) (x : List ByteArray) (a b : Nat) : Pt := (gw (HH wd) lk lf nx x a b).1
def owM (wd : Int) (lk : Nat → Nat → Nat) (xs : List ByteArray) (a b : Nat) : Pt := (gw (HH wd) lk (fun p => xs.getD p ByteArray.empty) (ow (RR wd xs)) () a b).1
-- a shape that goes left first
structure Sh (lk : Nat → Nat → Nat) : Prop where
  z : ∀ a b, lk a b = 0 → ¬ 2 ≤ b - a
theorem WL_le (S : Sh lk) (n : Nat) : ∀ a b, b - a = n → a < b → (WL lk a b).length ≤ b - a := by
  induction n using Nat.strongRecOn with
  | ind n ih =>
    intro a b hn hab
    by_cases h0 : lk a b = 0
    · rw [WL_pass h0]; simp
    by_cases h1 : lk a b = 1
    · rw [WL_take h1]; simp; omega
    by_cases h2 : 2 ≤ b - a
    · have hh := half_lt h2
      have i1 := ih (half (b - a)) (by omega) a (a + half (b - a)) (by omega) (by omega)
      have i2 := ih (b - (a + half (b - a))) (by omega) (a + half (b - a)) b rfl (by omega)
      by_cases h3 : lk a b = 2
      · rw [WL_left h3 h2, List.length_append]; omega
      · rw [WL_right (by omega) h2, List.length_append]; omega
    · rw [WL, if_neg h0, if_neg h1, dif_neg h2]; simp
theorem clM_bare (h : lk a b = 1) : clM wd lk lf x a b = .bare (x.headD ByteArray.empty) := by unfold clM; rw [gw_bare h]; rfl
theorem clM_leaf (h : lk a b ≠ 1) (h2 : ¬ 2 ≤ b - a) : clM wd lk lf x a b = .leaf (HH wd (tx0 (lf a))) (lf a) := by unfold clM; rw [gw_leaf h h2]
theorem clM_two (S : Sh lk) (h : lk a b = 2) (h2 : 2 ≤ b - a) : clM wd lk lf x a b = ab (HH wd) (clM wd lk lf (x.take (WL lk a (a + half (b - a))).length) a (a + half (b - a))) (clM wd lk lf (x.drop (WL lk a (a + half (b - a))).length) (a + half (b - a)) b) := by
  unfold clM
  rw [gw_left h h2, gw_nx S.z _ _ _ _ rfl]
  show ab _ _ _ = ab _ _ _
  rw [gw_take S.z _ a (a + half (b - a)) x (x.take (WL lk a (a + half (b - a))).length) rfl (by rw [List.take_take, Nat.min_self])]
theorem owM_bare (h : lk a b = 1) : owM wd lk xs a b = .bare (RR wd xs a b) := by unfold owM; rw [gw_bare h]; rfl
theorem owM_leaf (h : lk a b ≠ 1) (h2 : ¬ 2 ≤ b - a) : owM wd lk xs a b = .leaf (HH wd (tx0 (xs.getD a ByteArray.empty))) (xs.getD a ByteArray.empty) := by unfold owM; rw [gw_leaf h h2]
theorem owM_two (h : lk a b = 2) (h2 : 2 ≤ b - a) : owM wd lk xs a b = ab (HH wd) (owM wd lk xs a (a + half (b - a))) (owM wd lk xs (a + half (b - a)) b) := by
  unfold owM
  rw [gw_left h h2]
theorem owM_sum (hab : a < b) (hb : b ≤ xs.length) : (owM wd lk xs a b).sum = RR wd xs a b := own_sum wd lk xs a b hab hb
theorem clM_size (S : Sh lk) (hl : (WL lk a b).length ≤ x.length) (hw : Wide wd x) : (clM wd lk lf x a b).sum.size = wid wd :=
  Right.size (HH_size wd) (gw_right_nx (HH_size wd) S.z _ a b x rfl hl (fun h hh => hw h hh))
theorem fst_two (H : ByteArray → ByteArray) (l r l' r' : Pt) : fst1 (ab H l r) (ab H l' r') = if tx1 l.sum r.sum = tx1 l'.sum r'.sum then (match fst1 l l' with | some c => some c | none => fst1 r r') else some (tx1 l.sum r.sum, tx1 l'.sum r'.sum) := rfl
theorem dn_none (h : lk a b = 1) : fst1 (clM wd lk lf x a b) (owM wd lk xs a b) = none := by rw [clM_bare h]; rfl
theorem dn_leaf (h : lk a b ≠ 1) (h2 : ¬ 2 ≤ b - a) : fst1 (clM wd lk lf x a b) (owM wd lk xs a b) = if lf a = xs.getD a ByteArray.empty then none else some (tx0 (lf a), tx0 (xs.getD a ByteArray.empty)) := by
  rw [clM_leaf h h2, owM_leaf h h2, fst1]
  show (if tx0 (lf a) = tx0 (xs.getD a ByteArray.empty) then none else some (tx0 (lf a), tx0 (xs.getD a ByteArray.empty))) = _
  by_cases e : lf a = xs.getD a ByteArray.empty
  · rw [if_pos e, if_pos (by rw [e])]
  · rw [if_neg e, if_neg (fun q => e (tx0_inj q))]
theorem dn_two (S : Sh lk) (h : lk a b = 2) (h2 : 2 ≤ b - a) (hb : b ≤ xs.length) : fst1 (clM wd lk lf x a b) (owM wd lk xs a b) =
    if tx1 (clM wd lk lf (x.take (WL lk a (a + half (b - a))).length) a (a + half (b - a))).sum (clM wd lk lf (x.drop (WL lk a (a + half (b - a))).length) (a + half (b - a)) b).sum = tx1 (RR wd xs a (a + half (b - a))) (RR wd xs (a + half (b - a)) b)
    then (match fst1 (clM wd lk lf (x.take (WL lk a (a + half (b - a))).length) a (a + half (b - a))) (owM wd lk xs a (a + half (b - a))) with | some c => some c | none => fst1 (clM wd lk lf (x.drop (WL lk a (a + half (b - a))).length) (a + half (b - a)) b) (owM wd lk xs (a + half (b - a)) b))
    else some (tx1 (clM wd lk lf (x.take (WL lk a (a + half (b - a))).length) a (a + half (b - a))).sum (clM wd lk lf (x.drop (WL lk a (a + half (b - a))).length) (a + half (b - a)) b).sum, tx1 (RR wd xs a (a + half (b - a))) (RR wd xs (a + half (b - a)) b)) := by
  have hh := half_lt h2
  rw [clM_two S h h2, owM_two h h2, fst_two, owM_sum (by omega) (by omega), owM_sum (by omega) hb]
end
-- what is asked, in memory
def zsP (ps : List (Nat × ByteArray)) : List Int := ps.map fun p => (p.1 : Int)
def csP (ps : List (Nat × ByteArray)) : List ByteArray := ps.map (·.2)
theorem zsP_len (ps : List (Nat × ByteArray)) : (zsP ps).length = ps.length := List.length_map _
theorem csP_len (ps : List (Nat × ByteArray)) : (csP ps).length = ps.length := List.length_map _
structure Aq (w : World) (q1 q2 : Value) (ps : List (Nat × ByteArray)) : Prop where
  i : ReadsI w q1 (zsP ps)
  t : ReadsT w q2 (csP ps)
theorem Aq.later {w w' : World} {q1 q2 : Value} {ps : List (Nat × ByteArray)} (h : Aq w q1 q2 ps) (b : Below w.heap.size w w') : Aq w' q1 q2 ps := ⟨h.i.later b, h.t.later b⟩
-- slices of a list of texts, whatever room there is
theorem reads_head {w : World} {a : Option Addr} {n cap p : Nat} {L : List ByteArray} (h : ReadsT w (.slice a n cap) L) (hp : p ≤ L.length) : ReadsT w (.slice a p cap) (L.take p) := by
  obtain ⟨a', cap', e, hc, hh⟩ := h
  injection e with e1 e2 e3
  subst e1 e3
  have hl : (L.take p).length = p := by rw [List.length_take]; omega
  refine ⟨_, cap, by rw [hl], by omega, ?_⟩
  rcases hh with h0 | ⟨b, off, rfl, hh⟩
  · left; omega
  · by_cases hp0 : p = 0
    · left; omega
    · refine .inr ⟨b, off, rfl, fun i hi => ?_⟩
      rw [hl] at hi
      rw [hh i (by omega), List.getD_eq_getElem?_getD, List.getD_eq_getElem?_getD, List.getElem?_take, if_pos hi]
theorem reads_tail {w : World} {a : Option Addr} {n cap p : Nat} {L : List ByteArray} (h : ReadsT w (.slice a n cap) L) (hp : p ≤ L.length) : ReadsT w (.slice (Option.map (fun x => x.add p) a) (n - p) (cap - p)) (L.drop p) := by
  obtain ⟨a', cap', e, hc, hh⟩ := h
  injection e with e1 e2 e3
  subst e1 e2 e3
  have hl : (L.drop p).length = L.length - p := List.length_drop
  refine ⟨_, cap - p, by rw [hl], by omega, ?_⟩
  rcases hh with h0 | ⟨b, off, rfl, hh⟩
  · left; omega
  · refine .inr ⟨b, off + p, by simp [Addr.add_mid], fun i hi => ?_⟩
    rw [hl] at hi
    rw [Nat.add_assoc, hh (p + i) (by omega), List.getD_eq_getElem?_getD, List.getD_eq_getElem?_getD, List.getElem?_drop]
theorem reads_tail1 {w : World} {a : Option Addr} {n cap p : Nat} {L : List ByteArray} (h : ReadsT w (.slice a n cap) L) (hp : p ≤ L.length) (h0 : n - p = 0) : ReadsT w (.slice a (n - p) 0) (L.drop p) := by
  obtain ⟨a', cap', e, hc, hh⟩ := h
  injection e with e1 e2 e3
  subst e1 e2 e3
  have hl : (L.drop p).length = L.length - p := List.length_drop
  exact ⟨_, 0, by rw [hl], by omega, .inl (by omega)⟩
end Go.Proofs.YthppkdjekfginaaGreatDoor.jb

namespace Go.Proofs.YthppkdjekfginaaGreatDoor.jc
open Go.RowKit Go.PlainAid
open Go.Proofs.YthppkdjekfginaaGreatDoor.pl Go.Proofs.YthppkdjekfginaaGreatDoor.pi Go.Proofs.YthppkdjekfginaaGreatDoor.pj Go.Proofs.YthppkdjekfginaaGreatDoor.ca Go.Proofs.YthppkdjekfginaaGreatDoor.cb Go.Proofs.YthppkdjekfginaaGreatDoor.cp Go.Proofs.YthppkdjekfginaaGreatDoor.ga Go.Proofs.YthppkdjekfginaaGreatDoor.gb Go.Proofs.YthppkdjekfginaaGreatDoor.aa Go.Proofs.YthppkdjekfginaaGreatDoor.ka Go.Proofs.YthppkdjekfginaaGreatDoor.kb Go.Proofs.YthppkdjekfginaaGreatDoor.kc Go.Proofs.YthppkdjekfginaaGreatDoor.kp Go.Proofs.YthppkdjekfginaaGreatDoor.mi Go.Proofs.YthppkdjekfginaaGreatDoor.lk Go.Proofs.YthppkdjekfginaaGreatDoor.co Go.Proofs.YthppkdjekfginaaGreatDoor.ti Go.Proofs.YthppkdjekfginaaGreatDoor.de Go.Proofs.YthppkdjekfginaaGreatDoor.va Go.Proofs.YthppkdjekfginaaGreatDoor.ta Go.Proofs.YthppkdjekfginaaGreatDoor.ja Go.Proofs.YthppkdjekfginaaGreatDoor.jb
set_option linter.unusedVariables false

theorem own_stay {w w' : World} {B t s n : Nat} {v : Value} {xs : List Value} (o : w.ownsRow B t s v n xs) (k : ∀ g, v.ownBlock = some g → w'.heap[g]? = w.heap[g]?) : w'.ownsRow B t s v n xs := by
  refine ⟨o.1, ?_⟩
  rcases o.2 with h2 | ⟨g', cap, cur', rfl, h2, h3, h4⟩
  · exact .inl h2
  · exact .inr ⟨g', cap, cur', rfl, h2, (k g' rfl).trans h3, h4⟩
theorem own_apart {w : World} {B B' e e' s s' n n' : Nat} {v v' : Value} {xs xs' : List Value} (h : w.ownsRow B e s v n xs) (h' : w.ownsRow B' e' s' v' n' xs') (hne : e ≠ e') : ∀ g, v.ownBlock = some g → v'.ownBlock ≠ some g := by
  intro g hg hg'
  rcases h.2 with ⟨rfl, _⟩ | ⟨g1, cap, cur, rfl, _, h3, _⟩
  · cases hg
  · rcases h'.2 with ⟨rfl, _⟩ | ⟨g2, cap2, cur2, rfl, _, k3, _⟩
    · cases hg'
    · have e1 : g1 = g := Option.some.inj hg
      have e2 : g2 = g := Option.some.inj hg'
      subst e1 e2
      rw [h3] at k3
      injection k3 with k3
      injection k3 with _ k3 _
      exact hne k3
-- an answer of within that is being made
structure Wn (W : World) (o : Nat) (u1 u2 : Value) (zs : List Int) (cs : List ByteArray) (wr : World) : Prop where
  row : wr.heap[o]? = some (.cells #[u1, u2] 61 (0, 0))
  r1 : wr.ownsRow W.heap.size 3 1 u1 zs.length (zs.map (Value.int .i64))
  r2 : wr.ownsRow W.heap.size 9 1 u2 cs.length (cs.map Value.string)
  fr : Kp (fun b => b = o) W wr
  lt : o < W.heap.size
section
variable {W wr w5 : World} {o g5 c5 : Nat} {u1 u2 : Value} {zs : List Int} {cs : List ByteArray} {X : Int} {Y : ByteArray}
theorem Wn.add1 (h : Wn W o u1 u2 zs cs wr) (ob : Obj) (ho : w5.ownsRow W.heap.size 3 1 (.slice (some ⟨g5, 0, none⟩) (zs.length + 1) c5) (zs.length + 1) (zs.map (Value.int .i64) ++ [.int .i64 X])) (hg : (wr.alloc ob).grownBy w5 u1.ownBlock) :
    w5.heap[o]? = some (.cells #[u1, u2] 61 (0, 0)) ∧ Wn W o (.slice (some ⟨g5, 0, none⟩) (zs.length + 1) c5) u2 (zs ++ [X]) cs (w5.setCell ⟨o, 0, none⟩ (.slice (some ⟨g5, 0, none⟩) (zs.length + 1) c5)) := by
  have hlt := (Array.getElem?_eq_some_iff.1 h.row).1
  have hsz : (wr.alloc ob).heap.size = wr.heap.size + 1 := by simp
  have hne : some o ≠ u1.ownBlock := fun e => by have := (h.r1.lt o e.symm).1; have := h.lt; omega
  have hb : ∀ g, g < wr.heap.size → some g ≠ u1.ownBlock → w5.heap[g]? = wr.heap[g]? := fun g h1 h2 => (hg.block g (by omega) h2).trans (Below.heap_alloc _ _ _ h1)
  have r5 := (hb o hlt hne).trans h.row
  have k5 : Kp (fun b => b = o) W w5 := ⟨(by rw [hg.os]; exact h.fr.os), (by rw [hg.tape]; exact h.fr.tape), (by rw [hg.output]; exact h.fr.output), Nat.le_trans h.fr.size (by have := hg.size; omega), fun b h1 h2 => (hb b (Nat.lt_of_lt_of_le h1 h.fr.size) (fun e => by have := (h.r1.lt b e.symm).1; omega)).trans (h.fr.block b h1 h2)⟩
  have s2 : w5.ownsRow W.heap.size 9 1 u2 cs.length (cs.map Value.string) := own_stay h.r2 (fun g hgg => hb g (h.r2.lt g hgg).2 (fun e => own_apart h.r2 h.r1 (by decide) g hgg e.symm))
  have kc : Kp (fun b => b = o) w5 (w5.setCell ⟨o, 0, none⟩ (.slice (some ⟨g5, 0, none⟩) (zs.length + 1) c5)) := Kp.setCell _ _ _ _ rfl
  have far : ∀ {e s n : Nat} {v : Value} {xs : List Value}, w5.ownsRow W.heap.size e s v n xs → (w5.setCell ⟨o, 0, none⟩ (.slice (some ⟨g5, 0, none⟩) (zs.length + 1) c5)).ownsRow W.heap.size e s v n xs := fun q => own_stay q (fun g hgg => kc.block g (q.lt g hgg).2 (fun e => by have := (q.lt g hgg).1; have := h.lt; omega))
  exact ⟨r5, heap_setCell_same _ _ 0 _ _ _ r5, by rw [List.length_append, List.length_singleton, List.map_append]; exact far ho, far s2, k5.trans kc, h.lt⟩
theorem Wn.add2 (h : Wn W o u1 u2 zs cs wr) (ob : Obj) (ho : w5.ownsRow W.heap.size 9 1 (.slice (some ⟨g5, 0, none⟩) (cs.length + 1) c5) (cs.length + 1) (cs.map Value.string ++ [.string Y])) (hg : (wr.alloc ob).grownBy w5 u2.ownBlock) :
    w5.heap[o]? = some (.cells #[u1, u2] 61 (0, 0)) ∧ Wn W o u1 (.slice (some ⟨g5, 0, none⟩) (cs.length + 1) c5) zs (cs ++ [Y]) (w5.setCell ⟨o, 1, none⟩ (.slice (some ⟨g5, 0, none⟩) (cs.length + 1) c5)) := by
  have hlt := (Array.getElem?_eq_some_iff.1 h.row).1
  have hsz : (wr.alloc ob).heap.size = wr.heap.size + 1 := by simp
  have hne : some o ≠ u2.ownBlock := fun e => by have := (h.r2.lt o e.symm).1; have := h.lt; omega
  have hb : ∀ g, g < wr.heap.size → some g ≠ u2.ownBlock → w5.heap[g]? = wr.heap[g]? := fun g h1 h2 => (hg.block g (by omega) h2).trans (Below.heap_alloc _ _ _ h1)
  have r5 := (hb o hlt hne).trans h.row
  have k5 : Kp (fun b => b = o) W w5 := ⟨(by rw [hg.os]; exact h.fr.os), (by rw [hg.tape]; exact h.fr.tape), (by rw [hg.output]; exact h.fr.output), Nat.le_trans h.fr.size (by have := hg.size; omega), fun b h1 h2 => (hb b (Nat.lt_of_lt_of_le h1 h.fr.size) (fun e => by have := (h.r2.lt b e.symm).1; omega)).trans (h.fr.block b h1 h2)⟩
  have s2 : w5.ownsRow W.heap.size 3 1 u1 zs.length (zs.map (Value.int .i64)) := own_stay h.r1 (fun g hgg => hb g (h.r1.lt g hgg).2 (fun e => own_apart h.r1 h.r2 (by decide) g hgg e.symm))
  have kc : Kp (fun b => b = o) w5 (w5.setCell ⟨o, 1, none⟩ (.slice (some ⟨g5, 0, none⟩) (cs.length + 1) c5)) := Kp.setCell _ _ _ _ rfl
  have far : ∀ {e s n : Nat} {v : Value} {xs : List Value}, w5.ownsRow W.heap.size e s v n xs → (w5.setCell ⟨o, 1, none⟩ (.slice (some ⟨g5, 0, none⟩) (cs.length + 1) c5)).ownsRow W.heap.size e s v n xs := fun q => own_stay q (fun g hgg => kc.block g (q.lt g hgg).2 (fun e => by have := (q.lt g hgg).1; have := h.lt; omega))
  exact ⟨r5, heap_setCell_same _ _ 1 _ _ _ r5, far s2, by rw [List.length_append, List.length_singleton, List.map_append]; exact far ho, k5.trans kc, h.lt⟩
end
theorem readsI_own {w : World} {B : Nat} {v : Value} {zs : List Int} (h : w.ownsRow B 3 1 v zs.length (zs.map (Value.int .i64))) : ReadsI w v zs := de.own_readsI h
theorem readsT_own {w : World} {B : Nat} {v : Value} {cs : List ByteArray} (h : w.ownsRow B 9 1 v cs.length (cs.map Value.string)) : ReadsT w v cs := qn.own_readsT h
theorem inP_snoc (ps : List (Nat × ByteArray)) (a b k : Nat) (hk : k < ps.length) : inP (ps.take (k + 1)) a b = if a ≤ (ps[k]).1 ∧ (ps[k]).1 < b then inP (ps.take k) a b ++ [ps[k]] else inP (ps.take k) a b := by
  rw [List.take_add_one, List.getElem?_eq_getElem hk]
  unfold inP
  rw [List.filter_append]
  by_cases h : a ≤ (ps[k]).1 ∧ (ps[k]).1 < b
  · rw [if_pos h]
    simp [h.1, h.2]
  · rw [if_neg h]
    have : (decide (a ≤ (ps[k]).1) && decide ((ps[k]).1 < b)) = false := by rw [Bool.and_eq_false_iff, decide_eq_false_iff_not, decide_eq_false_iff_not]; omega
    simp [this]
theorem put2 (w : World) (p : Nat) (a b x y : Value) (t : TypeId) (h : w.heap[p]? = some (.cells #[a, b] t (0, 0))) : ∀ W, W = (w.setCell ⟨p, 0, none⟩ x).setCell ⟨p, 1, none⟩ y → (W.cell? ⟨p, 0, none⟩ = some x ∧ W.cell? ⟨p, 1, none⟩ = some y) ∧ Kp (fun q => q = p) w W := by
  intro W hW
  have h1 := heap_setCell_same _ _ 0 _ _ x h
  have h2 := heap_setCell_same _ _ 1 _ _ y h1
  rw [← hW] at h2
  exact ⟨⟨cell_of_row _ _ 0 _ _ _ h2, cell_of_row _ _ 1 _ _ _ h2⟩, by rw [hW]; exact (Kp.setCell (A := fun q => q = p) _ _ _ _ rfl).trans (Kp.setCell (A := fun q => q = p) _ _ _ _ rfl)⟩
theorem boxes (w : World) (q1 q2 : Value) : ∀ W, W = ((w.alloc (.cells #[q1, q2] 61)).alloc (.cells #[.slice none 0 0, .slice none 0 0] 61)).alloc (.cells #[.slice none 0 0, .slice none 0 0] 61) → Below w.heap.size w W ∧ W.heap.size = w.heap.size + 3 ∧ W.heap[w.heap.size]? = some (.cells #[q1, q2] 61 (0, 0)) ∧ W.heap[w.heap.size + 1]? = some (.cells #[.slice none 0 0, .slice none 0 0] 61 (0, 0)) ∧ W.heap[w.heap.size + 2]? = some (.cells #[.slice none 0 0, .slice none 0 0] 61 (0, 0)) := by
  intro W hW
  subst hW
  have s1 : (w.alloc (.cells #[q1, q2] 61)).heap.size = w.heap.size + 1 := by simp
  have s2 : ((w.alloc (.cells #[q1, q2] 61)).alloc (.cells #[.slice none 0 0, .slice none 0 0] 61)).heap.size = w.heap.size + 2 := by simp
  refine ⟨(((Below.refl _ _).alloc (Nat.le_refl _) _).alloc (by simp) _).alloc (by simp; omega) _, by simp, ?_, ?_, ?_⟩
  · rw [Below.heap_alloc _ _ _ (by omega), Below.heap_alloc _ _ _ (by omega)]
    exact heap_alloc_new w _
  · rw [Below.heap_alloc _ _ _ (by omega)]
    have := heap_alloc_new (w.alloc (.cells #[q1, q2] 61)) (.cells #[.slice none 0 0, .slice none 0 0] 61)
    rw [s1] at this
    exact this
  · have := heap_alloc_new ((w.alloc (.cells #[q1, q2] 61)).alloc (.cells #[.slice none 0 0, .slice none 0 0] 61)) (.cells #[.slice none 0 0, .slice none 0 0] 61)
    rw [s2] at this
    exact this
end Go.Proofs.YthppkdjekfginaaGreatDoor.jc

namespace Go.Proofs.YthppkdjekfginaaGreatDoor.je
open Go.RowKit Go.PlainAid
open Go.Proofs.YthppkdjekfginaaGreatDoor.pl Go.Proofs.YthppkdjekfginaaGreatDoor.pi Go.Proofs.YthppkdjekfginaaGreatDoor.pj Go.Proofs.YthppkdjekfginaaGreatDoor.ca Go.Proofs.YthppkdjekfginaaGreatDoor.cb Go.Proofs.YthppkdjekfginaaGreatDoor.cp Go.Proofs.YthppkdjekfginaaGreatDoor.ga Go.Proofs.YthppkdjekfginaaGreatDoor.gb Go.Proofs.YthppkdjekfginaaGreatDoor.aa Go.Proofs.YthppkdjekfginaaGreatDoor.ka Go.Proofs.YthppkdjekfginaaGreatDoor.kb Go.Proofs.YthppkdjekfginaaGreatDoor.kc Go.Proofs.YthppkdjekfginaaGreatDoor.kp Go.Proofs.YthppkdjekfginaaGreatDoor.mi Go.Proofs.YthppkdjekfginaaGreatDoor.lk Go.Proofs.YthppkdjekfginaaGreatDoor.co Go.Proofs.YthppkdjekfginaaGreatDoor.de Go.Proofs.YthppkdjekfginaaGreatDoor.ta Go.Proofs.YthppkdjekfginaaGreatDoor.ja Go.Proofs.YthppkdjekfginaaGreatDoor.jb Go.Proofs.YthppkdjekfginaaGreatDoor.jc
set_option linter.unusedVariables false

theorem zsP_at {ps : List (Nat × ByteArray)} {k : Nat} (h : k < ps.length) : (zsP ps).getD k 0 = ((ps[k]).1 : Int) := by
  unfold zsP
  rw [List.getD_eq_getElem?_getD, List.getElem?_map, List.getElem?_eq_getElem h]
  rfl
theorem csP_at {ps : List (Nat × ByteArray)} {k : Nat} (h : k < ps.length) : (csP ps).getD k ByteArray.empty = (ps[k]).2 := by
  unfold csP
  rw [List.getD_eq_getElem?_getD, List.getElem?_map, List.getElem?_eq_getElem h]
  rfl
set_option maxRecDepth 100000 in
set_option maxHeartbeats 6400000 in
theorem within (q1 q2 : Value) (ps : List (Nat × ByteArray)) (a b : Nat) (w : World) (hA : Aq w q1 q2 ps) (hz : ps.length * 16 ≤ 140737488351232) :
    Calls Tryz.prog 69 #[.agg #[q1, q2], .int .i64 a, .int .i64 b] w fun e w' => (∃ u1 u2 n1 c1 n2 c2, e = .returned (.agg #[.slice u1 n1 c1, .slice u2 n2 c2]) ∧ n1 = (inP ps a b).length ∧ (∀ g off, u2 = some ⟨g, off, none⟩ → w.heap.size ≤ g) ∧ Aq w' (.slice u1 n1 c1) (.slice u2 n2 c2) (inP ps a b)) ∧ Below w.heap.size w w' := by
  obtain ⟨i8, hi8, hy0, hy1, hy2⟩ := ti.info_parts ti.hiE
  have HII : Hid (_ ∧ _ ∧ _ ∧ _) := ⟨hi8, hy0, hy1, hy2⟩
  obtain ⟨i9, hi, hz0, hz1, hz2⟩ := ka.info_parts ka.hi9
  have HIN : Hid (_ ∧ _ ∧ _ ∧ _) := ⟨hi, hz0, hz1, hz2⟩
  obtain ⟨⟨ia, ic, rfl, hic, hih⟩, ⟨ta', tc, rfl, htc, hth⟩⟩ := hA
  rw [zsP_len] at hic hih ⊢
  rw [csP_len] at htc hth ⊢
  obtain ⟨n, HN⟩ : ∃ n, Hid (ps.length = n) := ⟨_, rfl⟩
  rw [HN.out] at hic htc hih hth hz ⊢
  obtain ⟨W, HW⟩ : ∃ W, Hid (W = ((w.alloc (.cells #[.slice ia n ic, .slice ta' n tc] 61)).alloc (.cells #[.slice none 0 0, .slice none 0 0] 61)).alloc (.cells #[.slice none 0 0, .slice none 0 0] 61)) := ⟨_, rfl⟩
  have hw : ((w.alloc (.cells #[.slice ia n ic, .slice ta' n tc] 61)).alloc (.cells #[.slice none 0 0, .slice none 0 0] 61)).alloc (.cells #[.slice none 0 0, .slice none 0 0] 61) = W := HW.out.symm
  obtain ⟨bw, sw, b0, b1, b2⟩ := boxes w (.slice ia n ic) (.slice ta' n tc) W HW.out
  have HBX : Hid (_ ∧ _ ∧ _ ∧ _ ∧ _) := ⟨bw, sw, b0, b1, b2⟩
  have HI : Hid (n = 0 ∨ ∃ g off, ia = some ⟨g, off, none⟩ ∧ ∀ i, i < n → w.cell? ⟨g, off + i, none⟩ = some (.int .i64 ((zsP ps).getD i 0))) := hih
  have HT : Hid (n = 0 ∨ ∃ g off, ta' = some ⟨g, off, none⟩ ∧ ∀ i, i < n → w.cell? ⟨g, off + i, none⟩ = some (.string ((csP ps).getD i ByteArray.empty))) := hth
  have W0 : Hid (Wn W (w.heap.size + 2) (.slice none 0 0) (.slice none 0 0) [] [] W) := ⟨b2, World.ownsRow_nil _ _ _ _, World.ownsRow_nil _ _ _ _, Kp.refl _ _, by omega⟩
  obtain ⟨o, HO⟩ : ∃ o, Hid (w.heap.size + 2 = o) := ⟨_, rfl⟩
  have ho : w.heap.size + 1 + 1 = o := HO.out
  have CQ : Hid (∀ wr, Kp (fun b => b = o) W wr → wr.cell? ⟨w.heap.size, 0, none⟩ = some (.slice ia n ic) ∧ wr.cell? ⟨w.heap.size, 1, none⟩ = some (.slice ta' n tc)) := fun wr k => by
    have := (k.block w.heap.size (by omega) (fun e => by have := HO.out; omega)).trans b0
    exact ⟨cell_of_row _ _ 0 _ _ _ this, cell_of_row _ _ 1 _ _ _ this⟩
  have CO : Hid (∀ wr, Kp (fun b => b = o) W wr → ∀ g off v, w.cell? ⟨g, off, none⟩ = some v → wr.cell? ⟨g, off, none⟩ = some v) := fun wr k g off v hc => by
    have hlt := World.block_lt_of_cell? _ _ hc
    refine k.cell ((bw.cell hlt).trans hc) (fun e => ?_)
    have h2 : w.heap.size + 2 = o := HO.out
    have h3 : g = o := e
    have h4 : g < w.heap.size := hlt
    omega
  rw [HO.out] at W0
  clear hih hth hi8 hy0 hy1 hy2 hi hz0 hz1 hz2 bw sw b0 b1 b2
  go_enter Tryz.func69, Tryz.ntmps69
  go_wp2
  try rw [ho]
  try rw [hw]
  go_loopw [8] (fun i wr => ∃ (k : Nat) (u1 u2 : Value), k ≤ n ∧ i = .int .i64 k ∧ Hid (Wn W o u1 u2 (zsP (inP (ps.take k) a b)) (csP (inP (ps.take k) a b)) wr)) (fun i _ => (n - intOf i).toNat)
  case atStart => exact ⟨0, _, _, by omega, rfl, W0⟩
  case round =>
    obtain ⟨k, u1, u2, hk, rfl, HH⟩ := hrel
    clear hw W0
    obtain ⟨c0, c1⟩ := CQ.out wr HH.out.fr
    by_cases h1 : k < n
    · have h1' : (k : Int) < n := by omega
      have hkx : k < ps.length := by rw [HN.out]; exact h1
      obtain ⟨g, off, rfl, hc⟩ := HI.out.resolve_left (by omega)
      obtain ⟨g', off', rfl, hc'⟩ := HT.out.resolve_left (by omega)
      have e1 := CO.out wr HH.out.fr _ _ _ (hc k h1)
      have e2 := CO.out wr HH.out.fr _ _ _ (hc' k h1)
      rw [zsP_at hkx] at e1
      rw [csP_at hkx] at e2
      have HS : Hid (inP (ps.take (k + 1)) a b = if a ≤ (ps[k]).1 ∧ (ps[k]).1 < b then inP (ps.take k) a b ++ [ps[k]] else inP (ps.take k) a b) := inP_snoc ps a b k hkx
      have hlen : (inP (ps.take k) a b).length ≤ k := Nat.le_trans (List.length_filter_le _ _) (by rw [List.length_take]; omega)
      obtain ⟨x, HX⟩ : ∃ x, Hid (ps[k] = x) := ⟨ps[k], (rfl : ps[k] = ps[k])⟩
      rw [HX.out] at e1 e2 HS
      obtain ⟨xs, HXS⟩ : ∃ xs, Hid (inP (ps.take k) a b = xs) := ⟨_, rfl⟩
      rw [HXS.out] at HH HS hlen
      obtain ⟨X, HX1⟩ : ∃ X, Hid (x.1 = X) := ⟨_, rfl⟩
      obtain ⟨Y, HX2⟩ : ∃ X, Hid (x.2 = X) := ⟨_, rfl⟩
      rw [HX1.out] at e1 HS
      rw [HX2.out] at e2
      have EC : Hid (∀ wc, Kp (fun b => b = o) W wc → wc.cell? ⟨g', off' + k, none⟩ = some (.string Y)) := fun wc kk => by
        have := CO.out wc kk _ _ _ (hc' k h1)
        rw [csP_at hkx, HX.out, HX2.out] at this
        exact this
      obtain ⟨m, HM⟩ : ∃ m, Hid (xs.length = m) := ⟨_, rfl⟩
      rw [HM.out] at hlen
      clear hc hc' HX hkx
      by_cases x1 : a ≤ X
      · have d1 : decide ((a : Int) ≤ X) = true := decide_eq_true (by omega)
        have d1' : decide (a ≤ X) = true := decide_eq_true x1
        by_cases x2 : X < b
        · have d2 : decide ((X : Int) < b) = true := decide_eq_true (by omega)
          have d2' : decide (X < b) = true := decide_eq_true x2
          have HS1 : Hid (inP (ps.take (k + 1)) a b = xs ++ [x]) := by show _ = _; rw [HS.out, if_pos ⟨x1, x2⟩]
          have hlt := (Array.getElem?_eq_some_iff.1 HH.out.row).1
          have o0 : wr.cell? ⟨o, 0, none⟩ = some u1 := cell_of_row _ _ 0 _ _ _ HH.out.row
          have o0a : (wr.alloc (.cells #[.int .i64 X] 3)).cell? ⟨o, 0, none⟩ = some u1 := (World.cell?_alloc_lt _ _ _ hlt).trans o0
          have O4 : Hid ((wr.alloc (.cells #[.int .i64 X] 3)).drew.ownsRow W.heap.size 3 1 u1 m ((zsP xs).map (Value.int .i64))) := by have := HH.out.r1.alloc (.cells #[.int .i64 X] 3); rw [zsP_len, HM.out] at this; exact this
          have NW : Hid (∀ (j : Nat) (y : Value), [Value.int .i64 X][j]? = some y → (wr.alloc (.cells #[.int .i64 X] 3)).drew.cell? (Addr.add ⟨wr.heap.size, 0, none⟩ j) = some y) := ti.new_one wr _ _
          have MO : Hid (∀ u ∈ [Value.int .i64 X], u.oneCell' = true) := fun u hu => by simp only [List.mem_cons, List.not_mem_nil, or_false] at hu; subst hu; rfl
          have hBw : W.heap.size ≤ wr.heap.size := HH.out.fr.size
          have AR : Hid (∀ w7 g5 c5, w7.ownsRow W.heap.size 3 1 (.slice (some ⟨g5, 0, none⟩) (m + 1) c5) (m + 1) ((zsP xs).map (Value.int .i64) ++ [.int .i64 X]) → (wr.alloc (.cells #[.int .i64 X] 3)).grownBy w7 u1.ownBlock → w7.heap[o]? = some (.cells #[u1, u2] 61 (0, 0)) ∧ Wn W o (.slice (some ⟨g5, 0, none⟩) (m + 1) c5) u2 (zsP xs ++ [(X : Int)]) (csP xs) (w7.setCell ⟨o, 0, none⟩ (.slice (some ⟨g5, 0, none⟩) (m + 1) c5))) := fun w7 g5 c5 ho7 hg7 => by
            have hl : (zsP xs).length = m := by rw [zsP_len, HM.out]
            have := HH.out.add1 (g5 := g5) (c5 := c5) (X := (X : Int)) (.cells #[.int .i64 X] 3) (by rw [hl]; exact ho7) hg7
            rw [hl] at this
            exact this
          have E2 : Hid (∀ wc, Kp (fun b => b = o) W wc → wc.cell? ⟨g', off' + k, none⟩ = some (.string Y)) := EC.out
          clear x1 x2 HS
          go_upto_region 6 with fail
          go_cut [41] from 9 to 51 (fun cc wx => Hid (∃ v', Wn W o v' u2 (zsP xs ++ [(X : Int)]) (csP xs) wx))
          case first =>
            go_region_law ((first | (have zz := O4.out; refine step_append_lies _ (by rfl) (.tmp 33) (.tmp 39) 33 (by rfl) W.heap.size 3 i8 (.int .i64 0) 1 8 Tryz.underlying33 HII.out.1 HII.out.2.1 HII.out.2.2.1 HII.out.2.2.2 rfl (by decide) u1 m _ (by simp [Act.eval]) O4.out ⟨wr.heap.size, 0, none⟩ 1 1 [.int .i64 X] (by simp [Act.eval]) rfl NW.out MO.out (by omega) (by unfold maxLen; omega) (by omega) (by simp; omega) (wr.heap.size + 1) (by simp) ?_; intro g5 c5 w7 ho7 hg7 hl7 hlt7; have A7 : Hid _ := AR.out w7 g5 c5 ho7 ⟨hg7.os, hg7.tape, hg7.output, hg7.size, hg7.block⟩; have c17 := cell_of_row _ _ 0 _ _ _ A7.out.1; have f17 := frozen_of_row _ _ 0 _ _ A7.out.1; clear ho7 hg7 hl7 zz)))
            all_goals (go_wp2; go_meet; exact ⟨_, A7.out.2⟩)
          case rest =>
            obtain ⟨v', hv'⟩ := hcut.out
            have H2 : Hid (Wn W o v' u2 (zsP xs ++ [(X : Int)]) (csP xs) wc) := hv'
            clear hcut hv' c0 c1 e1 e2 o0 o0a O4 NW AR hlt hBw HH
            have hlt2 := (Array.getElem?_eq_some_iff.1 H2.out.row).1
            obtain ⟨y0, y1⟩ := CQ.out wc H2.out.fr
            have e2 := E2.out wc H2.out.fr
            have o1 : wc.cell? ⟨o, 1, none⟩ = some u2 := cell_of_row _ _ 1 _ _ _ H2.out.row
            have o1a : (wc.alloc (.cells #[.string Y] 9)).cell? ⟨o, 1, none⟩ = some u2 := (World.cell?_alloc_lt _ _ _ hlt2).trans o1
            have O5 : Hid ((wc.alloc (.cells #[.string Y] 9)).drew.ownsRow W.heap.size 9 1 u2 m ((csP xs).map Value.string)) := by have := H2.out.r2.alloc (.cells #[.string Y] 9); rw [csP_len, HM.out] at this; exact this
            have NX : Hid (∀ (j : Nat) (y : Value), [Value.string Y][j]? = some y → (wc.alloc (.cells #[.string Y] 9)).drew.cell? (Addr.add ⟨wc.heap.size, 0, none⟩ j) = some y) := ka.new_text wc _ _
            have hBc : W.heap.size ≤ wc.heap.size := H2.out.fr.size
            have AT : Hid (∀ w7 g5 c5, w7.ownsRow W.heap.size 9 1 (.slice (some ⟨g5, 0, none⟩) (m + 1) c5) (m + 1) ((csP xs).map Value.string ++ [.string Y]) → (wc.alloc (.cells #[.string Y] 9)).grownBy w7 u2.ownBlock → w7.heap[o]? = some (.cells #[v', u2] 61 (0, 0)) ∧ Wn W o v' (.slice (some ⟨g5, 0, none⟩) (m + 1) c5) (zsP xs ++ [(X : Int)]) (csP xs ++ [Y]) (w7.setCell ⟨o, 1, none⟩ (.slice (some ⟨g5, 0, none⟩) (m + 1) c5))) := fun w7 g5 c5 ho7 hg7 => by
              have hl : (csP xs).length = m := by rw [csP_len, HM.out]
              have := H2.out.add2 (g5 := g5) (c5 := c5) (Y := Y) (.cells #[.string Y] 9) (by rw [hl]; exact ho7) hg7
              rw [hl] at this
              exact this
            have HE : Hid (zsP xs ++ [(X : Int)] = zsP (inP (ps.take (k + 1)) a b) ∧ csP xs ++ [Y] = csP (inP (ps.take (k + 1)) a b)) := by
              refine ⟨?_, ?_⟩
              · rw [HS1.out]; unfold zsP; rw [List.map_append, ← HX1.out]; rfl
              · rw [HS1.out]; unfold csP; rw [List.map_append, ← HX2.out]; rfl
            go_upto_region 7 with fail
            go_region_law ((first | (have zz := O5.out; refine step_append_lies _ (by rfl) (.tmp 43) (.tmp 49) 22 (by rfl) W.heap.size 9 i9 (.string ByteArray.empty) 1 16 Tryz.underlying22 HIN.out.1 HIN.out.2.1 HIN.out.2.2.1 HIN.out.2.2.2 rfl (by decide) u2 m _ (by simp [Act.eval]) O5.out ⟨wc.heap.size, 0, none⟩ 1 1 [.string Y] (by simp [Act.eval]) rfl NX.out (ka.one_text _) (by omega) (by unfold maxLen; omega) (by omega) (by simp; omega) (wc.heap.size + 1) (by simp) ?_; intro g5 c5 w7 ho7 hg7 hl7 hlt7; have A7 : Hid _ := AT.out w7 g5 c5 ho7 ⟨hg7.os, hg7.tape, hg7.output, hg7.size, hg7.block⟩; have c17 := cell_of_row _ _ 1 _ _ _ A7.out.1; have f17 := frozen_of_row _ _ 1 _ _ A7.out.1; clear ho7 hg7 hl7 zz)))
            all_goals (
              go_wp2
              go_roundw
              case rel => exact ⟨k + 1, _, _, by omega, by go_num, by show Wn _ _ _ _ _ _ _; rw [← HE.out.1, ← HE.out.2]; exact A7.out.2⟩
              case measure => simp [intOf]; omega)
        · have d2 : decide ((X : Int) < b) = false := decide_eq_false (by omega)
          have d2' : decide (X < b) = false := decide_eq_false x2
          have HS1 : Hid (inP (ps.take (k + 1)) a b = xs) := by show _ = _; rw [HS.out, if_neg (fun h => x2 h.2)]
          clear x1 x2 HS
          go_wp2
          go_roundw
          case rel => exact ⟨k + 1, u1, u2, by omega, by go_num, by show Wn _ _ _ _ _ _ _; rw [HS1.out]; exact HH.out⟩
          case measure => simp [intOf]; omega
      · have d1 : decide ((a : Int) ≤ X) = false := decide_eq_false (by omega)
        have d1' : decide (a ≤ X) = false := decide_eq_false x1
        have HS1 : Hid (inP (ps.take (k + 1)) a b = xs) := by show _ = _; rw [HS.out, if_neg (fun h => x1 h.1)]
        clear x1 HS
        go_wp2
        go_roundw
        case rel => exact ⟨k + 1, u1, u2, by omega, by go_num, by show Wn _ _ _ _ _ _ _; rw [HS1.out]; exact HH.out⟩
        case measure => simp [intOf]; omega
    · have h1' : ¬ (k : Int) < n := by omega
      obtain rfl : k = n := by omega
      have HA : Hid (ps.take k = ps) := by show _ = _; rw [← HN.out]; exact List.take_length
      rw [HA.out] at HH
      obtain ⟨ua, uc, hu1⟩ := own_formS HH.out.r1
      obtain ⟨ub, ud, hu2⟩ := own_formS HH.out.r2
      subst hu1
      subst hu2
      have o0 : wr.cell? ⟨o, 0, none⟩ = some _ := cell_of_row _ _ 0 _ _ _ HH.out.row
      have o1 : wr.cell? ⟨o, 1, none⟩ = some _ := cell_of_row _ _ 1 _ _ _ HH.out.row
      have rr : wr.heap[w.heap.size + 1]? = some (.cells #[.slice none 0 0, .slice none 0 0] 61 (0, 0)) := (HH.out.fr.block _ (by have := HBX.out.2.1; omega) (fun e => by have := HO.out; omega)).trans HBX.out.2.2.2.1
      have z0 : wr.cell? ⟨w.heap.size + 1, 0, none⟩ = some _ := cell_of_row _ _ 0 _ _ _ rr
      have z1 : wr.cell? ⟨w.heap.size + 1, 1, none⟩ = some _ := cell_of_row _ _ 1 _ _ _ rr
      have f0 := frozen_of_row _ _ 0 _ _ rr
      have f1 := frozen_of_row _ _ 1 _ _ rr
      have RA : Hid (Aq wr (.slice ua (zsP (inP ps a b)).length uc) (.slice ub (csP (inP ps a b)).length ud) (inP ps a b)) := ⟨readsI_own HH.out.r1, readsT_own HH.out.r2⟩
      have HG1 : Hid (∀ g, Value.ownBlock (.slice ua (zsP (inP ps a b)).length uc) = some g → W.heap.size ≤ g) := fun g hg => (HH.out.r1.lt g hg).1
      have HG2 : Hid (∀ g, Value.ownBlock (.slice ub (csP (inP ps a b)).length ud) = some g → W.heap.size ≤ g) := fun g hg => (HH.out.r2.lt g hg).1
      have FIN : Hid (∀ W', W' = _ → _) := put2 wr (w.heap.size + 1) _ _ (.slice ua (zsP (inP ps a b)).length uc) (.slice ub (csP (inP ps a b)).length ud) _ rr
      have HZ : Hid ((zsP (inP ps a b)).length = (inP ps a b).length) := zsP_len _
      have END : Hid (∀ W', Kp (fun q => q = w.heap.size + 1) wr W' → Aq W' (.slice ua (zsP (inP ps a b)).length uc) (.slice ub (csP (inP ps a b)).length ud) (inP ps a b) ∧ Below w.heap.size w W') := fun W' k' => by
        have hs := HBX.out.2.1
        refine ⟨⟨readsI_own (own_stay HH.out.r1 fun g hg => k'.block g (HH.out.r1.lt g hg).2 (fun e => by have := HG1.out g hg; omega)), readsT_own (own_stay HH.out.r2 fun g hg => k'.block g (HH.out.r2.lt g hg).2 (fun e => by have := HG2.out g hg; omega))⟩, ?_⟩
        exact (HBX.out.1.trans (HH.out.fr.below (fun q e => by have := HO.out; omega) (by omega))).trans (k'.below (fun q e => by omega) (by have := HH.out.fr.size; omega))
      clear rr
      go_wp2
      obtain ⟨G, kq⟩ := FIN.out _ rfl
      refine bodyPost_ret (by simp [results, Tryz.results69, go_sem, G.1, G.2]; try rfl) rfl ?_
      obtain ⟨q1, q2⟩ := END.out _ kq
      exact ⟨⟨ua, ub, _, uc, _, ud, rfl, HZ.out, fun g off e => by subst e; exact Nat.le_trans (by have := HBX.out.2.1; omega) (HG2.out g rfl), q1⟩, q2⟩
end Go.Proofs.YthppkdjekfginaaGreatDoor.je
