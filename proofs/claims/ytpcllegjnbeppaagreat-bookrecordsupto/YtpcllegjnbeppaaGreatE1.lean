import Derived.Test.YtpcllegjnbeppaaGreatT4
import Derived.Lib.SlicesCompact
import Derived.Laws.EntriesVeiled
import Derived.Shelf.Abstract
import Derived.Deep.RegionWith
import Derived.Deep.QuietTactic
import Derived.Deep.AppendLies
import Derived.Deep.RegionLaw
import Derived.Test.YtpcllegjnbeppaaGreatG1
import Derived.Deep.RegionHeld3
import Derived.BigQuiet
namespace Go.Proofs.YtpcllegjnbeppaaGreat.ea
open Go.RowKit Go.PlainAid Go.Maps Go.Shelf
open Go.Proofs.YtpcllegjnbeppaaGreat.ya Go.Proofs.YtpcllegjnbeppaaGreat.yc Go.Proofs.YtpcllegjnbeppaaGreat.yd Go.Proofs.YtpcllegjnbeppaaGreat.ye Go.Proofs.YtpcllegjnbeppaaGreat.yf Go.Proofs.YtpcllegjnbeppaaGreat.yi Go.Proofs.YtpcllegjnbeppaaGreat.yk Go.Proofs.YtpcllegjnbeppaaGreat.yl Go.Proofs.YtpcllegjnbeppaaGreat.ym
open Go.Proofs.YtpcllegjnbeppaaGreat.tqa Go.Proofs.YtpcllegjnbeppaaGreat.tba Go.Proofs.YtpcllegjnbeppaaGreat.tbb Go.Proofs.YtpcllegjnbeppaaGreat.tbc Go.Proofs.YtpcllegjnbeppaaGreat.tbd Go.Proofs.YtpcllegjnbeppaaGreat.tbe Go.Proofs.YtpcllegjnbeppaaGreat.tbf
open Go.Proofs.YtpcllegjnbeppaaGreat.tqb (kindT kindT_size spaceT spaceT_size key_is)
open Go.Proofs.YtpcllegjnbeppaaGreat.tlo (keys_apart bget_frame)
set_option linter.unusedVariables false
set_option linter.unusedSimpArgs false
-- leaves with their places
abbrev PL := List (Nat × ByteArray)
def enm : Nat → List ByteArray → PL
  | _, [] => []
  | n, x :: xs => (n, x) :: enm (n + 1) xs
theorem enm_len (n : Nat) (xs : List ByteArray) : (enm n xs).length = xs.length := by
  induction xs generalizing n with
  | nil => rfl
  | cons x xs ih => simp [enm, ih]
theorem enm_app (n : Nat) (xs ys : List ByteArray) : enm n (xs ++ ys) = enm n xs ++ enm (n + xs.length) ys := by
  induction xs generalizing n with
  | nil => simp [enm]
  | cons x xs ih => simp only [List.cons_append, enm, ih, List.length_cons]; rw [show n + 1 + xs.length = n + (xs.length + 1) by omega]
theorem mem_enm {n i : Nat} {x : ByteArray} {xs : List ByteArray} : (i, x) ∈ enm n xs ↔ n ≤ i ∧ xs[i - n]? = some x := by
  induction xs generalizing n with
  | nil => simp [enm]
  | cons y xs ih =>
    rw [enm, List.mem_cons, ih]
    by_cases h : i = n
    · subst h
      simp only [Nat.sub_self, List.getElem?_cons_zero, Option.some.injEq, Prod.mk.injEq, true_and]
      constructor
      · rintro (h | ⟨h, _⟩)
        · exact ⟨Nat.le_refl _, h.symm⟩
        · omega
      · rintro ⟨_, h⟩; exact .inl h.symm
    · constructor
      · rintro (h2 | ⟨h2, h3⟩)
        · exact absurd (congrArg Prod.fst h2) h
        · refine ⟨by omega, ?_⟩
          rw [show i - n = (i - (n + 1)) + 1 by omega, List.getElem?_cons_succ]; exact h3
      · rintro ⟨h2, h3⟩
        right
        refine ⟨by omega, ?_⟩
        rw [show i - n = (i - (n + 1)) + 1 by omega, List.getElem?_cons_succ] at h3; exact h3
def Asc (ps : PL) : Prop := ps.Pairwise fun p q => p.1 < q.1
theorem enm_low {n : Nat} {xs : List ByteArray} : ∀ p ∈ enm n xs, n ≤ p.1 ∧ p.1 < n + xs.length := by
  rintro ⟨i, x⟩ hp
  obtain ⟨h1, h2⟩ := mem_enm.1 hp
  have := (List.getElem?_eq_some_iff.1 h2).1
  exact ⟨h1, by omega⟩
theorem asc_enm (n : Nat) (xs : List ByteArray) : Asc (enm n xs) := by
  induction xs generalizing n with
  | nil => exact List.Pairwise.nil
  | cons x xs ih =>
    refine List.pairwise_cons.2 ⟨fun p hp => ?_, ih (n + 1)⟩
    have := enm_low p hp
    show n < p.1
    omega
def rc (sp : Int) (p : Nat × ByteArray) : Rec := (keyT sp 1 p.1, frameT 1 p.1 p.2)
def prs (sp : Int) (ps : PL) : List Rec := ps.map (rc sp)
def lw (sp : Int) (p : Nat × ByteArray) : W := ⟨false, keyT sp 1 p.1, frameT 1 p.1 p.2⟩
def Bnd (ps : PL) : Prop := ∀ p ∈ ps, p.1 ≤ 4611686018427387904 ∧ p.2.size ≤ 4096
theorem Bnd.ok {ps : PL} (h : Bnd ps) {p : Nat × ByteArray} (hp : p ∈ ps) : okI (p.1 : Int) := by have := (h p hp).1; exact ⟨by omega, by omega⟩
theorem one_ok : (1 : Int) ≤ 1 ∧ (1 : Int) ≤ 255 := by omega
theorem bnd_app {ps qs : PL} : Bnd (ps ++ qs) ↔ Bnd ps ∧ Bnd qs := by
  constructor
  · intro h; exact ⟨fun p hp => h p (by simp [hp]), fun p hp => h p (by simp [hp])⟩
  · rintro ⟨h1, h2⟩ p hp
    rcases List.mem_append.1 hp with h | h
    · exact h1 p h
    · exact h2 p h
theorem Bnd.sub {ps qs : PL} (h : Bnd qs) (hs : ps.Sublist qs) : Bnd ps := fun p hp => h p (hs.subset hp)
theorem lkey_lt {sp : Int} (hs : okI sp) {i j : Nat} (hi : okI (i : Int)) (hj : okI (j : Int)) : lt (keyT sp 1 i) (keyT sp 1 j) = decide (i < j) := by
  rw [key_lt hs one_ok hi hj, decide_eq_decide]; omega
theorem lkey_inj {sp : Int} (hs : okI sp) {i j : Nat} (hi : okI (i : Int)) (hj : okI (j : Int)) (h : keyT sp 1 i = keyT sp 1 j) : i = j := by
  have h1 := lkey_lt hs hi hj
  have h2 := lkey_lt hs hj hi
  rw [h, lt_irr] at h1
  rw [h, lt_irr] at h2
  have := of_decide_eq_false h1.symm
  have := of_decide_eq_false h2.symm
  omega
theorem srt_prs {sp : Int} (hs : okI sp) {ps : PL} (ha : Asc ps) (hb : Bnd ps) : Srt (prs sp ps) := by
  unfold Srt prs
  rw [List.pairwise_map]
  refine List.Pairwise.imp_of_mem ?_ ha
  intro p q hp hq h
  show lt (keyT sp 1 p.1) (keyT sp 1 q.1) = true
  rw [lkey_lt hs (hb.ok hp) (hb.ok hq)]
  exact decide_eq_true h
theorem ins_last {x : Rec} {r : List Rec} (h : ∀ y ∈ r, lt y.1 x.1 = true) : ins x r = r ++ [x] := by
  induction r with
  | nil => rfl
  | cons y r ih =>
    unfold ins
    rw [if_neg (by rw [lt_asym (h y (by simp))]; decide), ih (fun z hz => h z (by simp [hz]))]
    rfl
theorem put_last {k d : ByteArray} {r : List Rec} (h : ∀ y ∈ r, lt y.1 k = true) : put k d r = r ++ [(k, d)] := by
  have h1 : del k r = r := del_none (get_none.2 fun y hy => lt_ne (h y hy))
  unfold put
  rw [h1, ins_last h]
theorem put_prs {sp : Int} (hs : okI sp) {ps : PL} {i : Nat} {x : ByteArray} (hb : Bnd ps) (hi : okI (i : Int)) (h : ∀ p ∈ ps, p.1 < i) : put (keyT sp 1 i) (frameT 1 i x) (prs sp ps) = prs sp (ps ++ [(i, x)]) := by
  rw [put_last]
  · unfold prs; rw [List.map_append]; rfl
  · intro y hy
    obtain ⟨p, hp, rfl⟩ := List.mem_map.1 hy
    show lt (keyT sp 1 p.1) _ = true
    rw [lkey_lt hs (hb.ok hp) hi]
    exact decide_eq_true (h p hp)
theorem do_prs {sp : Int} (hs : okI sp) {ps : PL} {q : Nat × ByteArray} (hb : Bnd ps) (hq : okI (q.1 : Int)) (h : ∀ p ∈ ps, p.1 < q.1) : doW (prs sp ps) (lw sp q) = prs sp (ps ++ [q]) := put_prs hs hb hq h
theorem asc_app {ps qs : PL} : Asc (ps ++ qs) ↔ Asc ps ∧ Asc qs ∧ ∀ p ∈ ps, ∀ q ∈ qs, p.1 < q.1 := List.pairwise_append
theorem fold_prs {sp : Int} (hs : okI sp) : ∀ (qs ps : PL), Asc (ps ++ qs) → Bnd (ps ++ qs) → (qs.map (lw sp)).foldl doW (prs sp ps) = prs sp (ps ++ qs) := by
  intro qs
  induction qs with
  | nil => intro ps _ _; simp
  | cons q qs ih =>
    intro ps ha hb
    obtain ⟨b1, b2⟩ := bnd_app.1 hb
    obtain ⟨_, _, a3⟩ := asc_app.1 ha
    rw [List.map_cons, List.foldl_cons, do_prs hs b1 (b2.ok (by simp)) (fun p hp => a3 p hp q (by simp)), ih (ps ++ [q]) (by simpa using ha) (by simpa using hb)]
    simp
def wgt : PL → Nat
  | [] => 0
  | p :: ps => 52 + p.2.size + wgt ps
theorem wgt_app (ps qs : PL) : wgt (ps ++ qs) = wgt ps + wgt qs := by
  induction ps with
  | nil => simp [wgt]
  | cons p ps ih => simp only [List.cons_append, wgt, ih]; omega
theorem wgt_len (ps : PL) : 52 * ps.length ≤ wgt ps := by
  induction ps with
  | nil => simp [wgt]
  | cons p ps ih => simp only [List.length_cons, wgt]; omega
theorem wgt_sub {ps qs : PL} (h : ps.Sublist qs) : wgt ps ≤ wgt qs := by
  induction h with
  | slnil => exact Nat.le_refl _
  | cons a _ ih => simp only [wgt]; omega
  | cons_cons a _ ih => simp only [wgt]; omega
theorem tot_prs (sp : Int) (ps : PL) : tot (prs sp ps) = wgt ps := by
  induction ps with
  | nil => rfl
  | cons p ps ih =>
    show cnt (rc sp p) + tot (prs sp ps) = _
    rw [ih, wgt]
    have h1 := keyT_size sp 1 p.1
    have h2 := frameT_size 1 p.1 p.2
    unfold cnt rc
    simp only
    omega
theorem kd_prs {sp : Int} (hs : okI sp) (keep : ByteArray) {ps qs : PL} (ha : Asc (ps ++ qs)) (hb : Bnd (ps ++ qs)) : ∀ j, j ≤ qs.length → ∃ ys, ys.Sublist (qs.take j) ∧ kdN keep (qs.map (lw sp)) (prs sp ps) j = prs sp (ps ++ ys) := by
  intro j
  induction j with
  | zero => intro _; exact ⟨[], by simp, by simp [kdN]⟩
  | succ j ih =>
    intro hj
    obtain ⟨ys, h1, h2⟩ := ih (by omega)
    obtain ⟨q, hq⟩ : ∃ q, qs[j]? = some q := ⟨_, List.getElem?_eq_getElem (by omega)⟩
    have hx : (qs.map (lw sp))[j]? = some (lw sp q) := by rw [List.getElem?_map, hq]; rfl
    have ht : qs.take (j + 1) = qs.take j ++ [q] := by rw [List.take_add_one, hq]; rfl
    rw [kdN, hx]
    simp only
    rw [ht, h2]
    obtain ⟨b1, b2⟩ := bnd_app.1 hb
    obtain ⟨_, a2, a3⟩ := asc_app.1 ha
    split
    · refine ⟨ys ++ [q], h1.append (List.Sublist.refl _), ?_⟩
      have hqm : q ∈ qs := List.mem_of_getElem? hq
      rw [do_prs hs (bnd_app.2 ⟨b1, b2.sub (h1.trans (List.take_sublist _ _))⟩) (b2.ok hqm), List.append_assoc]
      intro p hp
      rcases List.mem_append.1 hp with h | h
      · exact a3 p h q hqm
      · have e : qs = qs.take j ++ qs.drop j := (List.take_append_drop j qs).symm
        have a4 := a2
        rw [e] at a4
        refine (asc_app.1 a4).2.2 p (h1.subset h) q ?_
        rw [List.mem_iff_getElem?]
        exact ⟨0, by rw [List.getElem?_drop]; exact hq⟩
    · exact ⟨ys, h1.trans (List.sublist_append_left _ _), rfl⟩
theorem get_prs {sp : Int} (hs : okI sp) {ps : PL} (ha : Asc ps) (hb : Bnd ps) {i : Nat} (hi : okI (i : Int)) {d : ByteArray} : rget (keyT sp 1 i) (prs sp ps) = some d ↔ ∃ x, (i, x) ∈ ps ∧ d = frameT 1 i x := by
  rw [get_some (srt_prs hs ha hb)]
  unfold prs
  rw [List.mem_map]
  constructor
  · rintro ⟨p, hp, e⟩
    unfold rc at e
    injection e with e1 e2
    have : p.1 = i := lkey_inj hs (hb.ok hp) hi e1
    subst this
    exact ⟨p.2, hp, e2.symm⟩
  · rintro ⟨x, hx, rfl⟩
    exact ⟨_, hx, rfl⟩
-- a leaf as it can be read
def lf (s : S) (sp : Int) (i : Nat) : Option ByteArray := if (bgetS s sp 1 i).2 = 0 ∧ (bgetS s sp 1 i).1.size ≤ 4096 then some (bgetS s sp 1 i).1 else none
theorem get_on {s : S} (ho : s.off = false) {k : ByteArray} (hk : 1 ≤ k.size ∧ k.size ≤ 64) : getS s k = ((rget k (now s)).getD ByteArray.empty, if (rget k (now s)).isSome then 0 else 123) := by
  have hr : refS s k = 0 := by unfold refS; rw [ho]; simp [hk]
  unfold getS
  rw [if_neg (by simp [hr])]
theorem bget_on {s : S} (ho : s.off = false) {sp k n : Int} (hs : okI sp) (hk : 1 ≤ k ∧ k ≤ 255) (hn : okI n) : bgetS s sp k n = bgetV k n ((rget (keyT sp k n) (now s)).getD ByteArray.empty, if (rget (keyT sp k n) (now s)).isSome then 0 else 123) := by
  unfold bgetS
  rw [if_pos ⟨hs.1, hk.1, hk.2, hn.1⟩, get_on ho (by rw [keyT_size]; omega)]
theorem lf_some {s : S} {sp : Int} {i : Nat} (h : (lf s sp i).isSome = true) : (rget (keyT sp 1 i) (now s)).isSome = true := by
  unfold lf at h
  split at h
  · rename_i h1
    have h2 := h1.1
    unfold bgetS at h2
    split at h2
    · unfold bgetV at h2
      split at h2
      · rename_i h3
        unfold getS at h3
        split at h3
        · rename_i h4; exact absurd h3 h4
        · simp only at h3
          cases hg : (rget (keyT sp 1 ↑i) (now s)).isSome with
          | true => rfl
          | false => rw [hg] at h3; simp at h3
      · rename_i h3; exact absurd h2 h3
    · cases h2
  · cases h
theorem lf_prs {s : S} {sp : Int} (ho : s.off = false) (hs : okI sp) {ps : PL} (ha : Asc ps) (hb : Bnd ps) (hn : now s = prs sp ps) {i : Nat} (hi : okI (i : Int)) {x : ByteArray} : lf s sp i = some x ↔ (i, x) ∈ ps := by
  have hg := fun d => @get_prs sp hs ps ha hb i hi d
  unfold lf
  rw [bget_on ho hs one_ok hi, hn]
  cases hr : rget (keyT sp 1 ↑i) (prs sp ps) with
  | none =>
    have : ¬ (bgetV 1 ↑i ((none : Option ByteArray).getD ByteArray.empty, if (none : Option ByteArray).isSome then 0 else 123)).2 = 0 := by simp [bgetV]
    rw [if_neg (fun h => this h.1)]
    constructor
    · intro h; cases h
    · intro h
      rw [(hg (frameT 1 i x)).2 ⟨x, h, rfl⟩] at hr
      cases hr
  | some d =>
    obtain ⟨y, hy, rfl⟩ := (hg d).1 hr
    have hz := (hb _ hy).2
    have e : bgetV 1 ↑i ((some (frameT 1 ↑i y)).getD ByteArray.empty, if (some (frameT 1 ↑i y)).isSome then 0 else 123) = (y, 0) := bget_frame (by omega) (by omega) hi.1 hi.2 (by have : y.size ≤ 4096 := hz; omega)
    rw [e, if_pos ⟨rfl, hz⟩]
    constructor
    · intro h; rw [← Option.some.inj h]; exact hy
    · intro h
      have h2 := (hg (frameT 1 i x)).2 ⟨x, h, rfl⟩
      rw [hr] at h2
      have h3 : frameT 1 ↑i y = frameT 1 ↑i x := Option.some.inj h2
      have h4 : y.size ≤ 524288 := by have : y.size ≤ 4096 := hz; omega
      have h5 : x.size ≤ 524288 := by have : x.size ≤ 4096 := (hb _ h).2; omega
      have p1 := (parse_frame 1 i y (by omega) (by omega) hi.1 hi.2 h4).2.2.2
      have p2 := (parse_frame 1 i x (by omega) (by omega) hi.1 hi.2 h5).2.2.2
      rw [h3, p2] at p1
      rw [p1]
-- the standing list
structure IsSt (s : S) (sp : Int) (l : List ByteArray) : Prop where
  has : ∀ i, i < l.length → lf s sp i = l[i]?
  ends : lf s sp l.length = none
theorem IsSt.uniq {s : S} {sp : Int} {l m : List ByteArray} (h : IsSt s sp l) (g : IsSt s sp m) : l = m := by
  have hl : l.length = m.length := by
    rcases Nat.lt_trichotomy l.length m.length with h1 | h1 | h1
    · have := g.has _ h1; rw [h.ends, List.getElem?_eq_getElem h1] at this; cases this
    · exact h1
    · have := h.has _ h1; rw [g.ends, List.getElem?_eq_getElem h1] at this; cases this
  apply List.ext_getElem?
  intro i
  by_cases hi : i < l.length
  · rw [← h.has i hi, g.has i (by omega)]
  · rw [List.getElem?_eq_none (by omega), List.getElem?_eq_none (by omega)]
theorem nodup_le {α : Type} [BEq α] [LawfulBEq α] : ∀ (l m : List α), l.Nodup → (∀ x ∈ l, x ∈ m) → l.length ≤ m.length := by
  intro l
  induction l with
  | nil => intro m _ _; exact Nat.zero_le _
  | cons x l ih =>
    intro m hn hm
    obtain ⟨h1, h2⟩ := List.nodup_cons.1 hn
    have h3 := ih (m.erase x) h2 (fun y hy => by
      have : y ≠ x := by rintro rfl; exact h1 hy
      exact (List.mem_erase_of_ne this).2 (hm y (by simp [hy])))
    have h4 := List.length_erase_of_mem (hm x (by simp))
    have h5 : 0 < m.length := List.length_pos_of_mem (hm x (by simp))
    simp only [List.length_cons]
    omega
instance : LawfulBEq ByteArray where
  eq_of_beq {a b} h := by
    have : a.data == b.data := h
    cases a; cases b
    simp only at this
    rw [eq_of_beq this]
  rfl {a} := by
    show (a.data == a.data) = true
    exact beq_self_eq_true _
theorem st_bound {s : S} {sp : Int} (hs : okI sp) (n : Nat) (hn : n ≤ 4611686018427387904) (h : ∀ i, i < n → (lf s sp i).isSome = true) : n ≤ (now s).length := by
  have h1 := nodup_le ((List.range n).map fun i => keyT sp 1 (i : Nat)) ((now s).map (·.1)) (by
    rw [List.nodup_iff_pairwise_ne, List.pairwise_map]
    refine List.Pairwise.imp_of_mem ?_ (List.nodup_range (n := n))
    intro a b ha hb hab e
    have := List.mem_range.1 ha
    have := List.mem_range.1 hb
    exact hab (lkey_inj hs (show okI _ from ⟨by omega, by omega⟩) (show okI _ from ⟨by omega, by omega⟩) e)) (fun k hk => by
    obtain ⟨i, hi, rfl⟩ := List.mem_map.1 hk
    have h2 := lf_some (h i (List.mem_range.1 hi))
    obtain ⟨d, hd⟩ := Option.isSome_iff_exists.1 h2
    exact List.mem_map.2 ⟨_, get_mem hd, rfl⟩)
  simpa using h1
end Go.Proofs.YtpcllegjnbeppaaGreat.ea

namespace Go.Proofs.YtpcllegjnbeppaaGreat.eb
open Go.RowKit Go.PlainAid Go.Maps Go.Shelf
open Go.Proofs.YtpcllegjnbeppaaGreat.ya Go.Proofs.YtpcllegjnbeppaaGreat.yc Go.Proofs.YtpcllegjnbeppaaGreat.yd Go.Proofs.YtpcllegjnbeppaaGreat.ye Go.Proofs.YtpcllegjnbeppaaGreat.yf Go.Proofs.YtpcllegjnbeppaaGreat.yi Go.Proofs.YtpcllegjnbeppaaGreat.yk Go.Proofs.YtpcllegjnbeppaaGreat.yl Go.Proofs.YtpcllegjnbeppaaGreat.ym
open Go.Proofs.YtpcllegjnbeppaaGreat.tqa Go.Proofs.YtpcllegjnbeppaaGreat.tba Go.Proofs.YtpcllegjnbeppaaGreat.tbb Go.Proofs.YtpcllegjnbeppaaGreat.tbc Go.Proofs.YtpcllegjnbeppaaGreat.tbd Go.Proofs.YtpcllegjnbeppaaGreat.tbe Go.Proofs.YtpcllegjnbeppaaGreat.tbf
open Go.Proofs.YtpcllegjnbeppaaGreat.tqb (kindT kindT_size spaceT spaceT_size key_is)
open Go.Proofs.YtpcllegjnbeppaaGreat.tlo (keys_apart bget_frame)
open Go.Proofs.YtpcllegjnbeppaaGreat.ea
set_option linter.unusedVariables false
set_option linter.unusedSimpArgs false
structure E where
  sp : Int
  age : Nat
  wd : Int
  l : List ByteArray
  nd : Int
def putsS (sp : Int) : Nat → List ByteArray → S → Int × S
  | _, [], s => (0, s)
  | n, x :: xs, s => if (bputS s sp 1 n x).1 = 0 then putsS sp (n + 1) xs (bputS s sp 1 n x).2 else bputS s sp 1 n x
theorem one_put {s : S} {sp : Int} (hs : okI sp) (ho : s.off = false) (hsrt : Srt (now s)) {n : Nat} (hn : okI (n : Int)) {x : ByteArray} (hx : x.size ≤ 4096) (ht : (tot (now s) : Int) + 52 + x.size ≤ s.cap) : bputS s sp 1 n x = spendS (addW s (lw sp (n, x))) := by
  unfold bputS
  rw [if_pos ⟨hs.1, by omega, by omega, hn.1⟩, if_pos (by omega)]
  unfold putS
  have hr : refS s (keyT sp 1 n) = 0 := by unfold refS; rw [ho]; simp [keyT_size]
  have h1 := tot_le (keyT sp 1 n) (frameT 1 n x) hsrt
  have h2 : cnt (keyT sp 1 n, frameT 1 n x) = 52 + x.size := by
    have a := keyT_size sp 1 n
    have b := frameT_size 1 n x
    unfold cnt
    simp only
    omega
  have h3 := frameT_size 1 n x
  rw [if_neg (by simp [hr]), if_pos (by omega), if_neg (by omega)]
  rfl
theorem now_more (s : S) (ws : List W) (a : Nat) (f : Bool) : now { s with pend := s.pend ++ ws, armed := a, off := f } = ws.foldl doW (now s) := by
  unfold now
  rw [List.foldl_append]
theorem puts_run {sp : Int} (hs : okI sp) : ∀ (xs : List ByteArray) (n : Nat) (s : S), s.off = false → Srt (now s) → (∀ x ∈ xs, x.size ≤ 4096) → n + xs.length ≤ 4611686018427387904 → (tot (now s) : Int) + wgt (enm n xs) ≤ s.cap →
    putsS sp n xs s = if s.armed = 0 ∨ xs.length < s.armed then (0, { s with pend := s.pend ++ (enm n xs).map (lw sp), armed := s.armed - xs.length }) else (124, { s with pend := s.pend ++ ((enm n xs).take s.armed).map (lw sp), armed := 0, off := true }) := by
  intro xs
  induction xs with
  | nil =>
    intro n s ho _ _ _ _
    rw [if_pos (show s.armed = 0 ∨ ([] : List ByteArray).length < s.armed by simp; omega)]
    simp [putsS, enm]
  | cons x xs ih =>
    intro n s ho hsrt hx hn ht
    simp only [List.length_cons] at hn
    have hz := hx x (by simp)
    have hw : wgt (enm n (x :: xs)) = 52 + x.size + wgt (enm (n + 1) xs) := rfl
    rw [hw] at ht
    have h1 := one_put hs ho hsrt (n := n) ⟨by omega, by omega⟩ hz (by omega)
    rw [putsS, h1]
    have hn2 : now (addW s (lw sp (n, x))) = put (keyT sp 1 n) (frameT 1 n x) (now s) := by rw [now_add]; rfl
    have hs2 : Srt (now (addW s (lw sp (n, x)))) := by rw [hn2]; exact srt_put hsrt
    have ht2 : tot (now (addW s (lw sp (n, x)))) ≤ tot (now s) + (52 + x.size) := by
      rw [hn2]
      have h := tot_le (keyT sp 1 n) (frameT 1 n x) hsrt
      have h2 : cnt (keyT sp 1 n, frameT 1 n x) = 52 + x.size := by
        have a := keyT_size sp 1 n
        have b := frameT_size 1 n x
        unfold cnt
        simp only
        omega
      omega
    have ha : (addW s (lw sp (n, x))).armed = s.armed := rfl
    unfold spendS
    rw [ha]
    by_cases h0 : s.armed = 0
    · rw [if_pos h0, if_pos rfl, if_pos (.inl h0)]
      rw [ih (n + 1) (addW s (lw sp (n, x))) ho hs2 (fun y hy => hx y (by simp [hy])) (by omega) (by show (tot (now (addW s (lw sp (n, x)))) : Int) + _ ≤ s.cap; omega)]
      rw [ha, if_pos (.inl h0)]
      simp [addW, enm, h0]
    · rw [if_neg h0]
      by_cases h2 : s.armed = 1
      · rw [if_pos h2, if_neg (by simp), if_neg (by simp only [List.length_cons]; omega)]
        simp [addW, enm, h2]
      · rw [if_neg h2, if_pos rfl]
        have key := ih (n + 1) { addW s (lw sp (n, x)) with armed := s.armed - 1 } ho hs2 (fun y hy => hx y (by simp [hy])) (by omega) (by show (tot (now (addW s (lw sp (n, x)))) : Int) + _ ≤ s.cap; omega)
        rw [key]
        have hq : ∀ q, ({ addW s (lw sp (n, x)) with armed := q } : S).armed = q := fun q => rfl
        by_cases h3 : xs.length + 1 < s.armed
        · rw [if_pos (.inr (by show xs.length < s.armed - 1; omega)), if_pos (.inr (by simp only [List.length_cons]; omega))]
          simp [addW, enm]
          omega
        · rw [if_neg (by show ¬ (s.armed - 1 = 0 ∨ xs.length < s.armed - 1); omega), if_neg (by simp only [List.length_cons]; omega)]
          have e : (enm n (x :: xs)).take s.armed = (n, x) :: (enm (n + 1) xs).take (s.armed - 1) := by
            rw [enm]
            obtain ⟨q, hq⟩ : ∃ q, s.armed = q + 1 := ⟨s.armed - 1, by omega⟩
            rw [hq]; rfl
          rw [e]
          simp [addW]
def fitU (r : List Rec) (sp : Int) : Nat → List ByteArray → Int → Int
  | _, [], u => u
  | n, x :: xs, u => fitU r sp (n + 1) xs (u + (52 + x.size - at0 (keyT sp 1 n) r))
theorem fit_none {r : List Rec} {sp : Int} : ∀ (xs : List ByteArray) (n : Nat) (u : Int), (∀ i, n ≤ i → i < n + xs.length → rget (keyT sp 1 i) r = none) → fitU r sp n xs u = u + wgt (enm n xs) := by
  intro xs
  induction xs with
  | nil => intro n u _; simp [fitU, enm, wgt]
  | cons x xs ih =>
    intro n u h
    rw [fitU, ih (n + 1) _ (fun i h1 h2 => h i (by omega) (by simp only [List.length_cons]; omega)), enm, wgt]
    have : at0 (keyT sp 1 n) r = 0 := by unfold at0; rw [h n (Nat.le_refl _) (by simp)]
    rw [this]
    simp only
    omega
def big (xs : List ByteArray) : Bool := xs.any fun x => decide (4096 < x.size)
theorem big_no {xs : List ByteArray} (h : big xs = false) : ∀ x ∈ xs, x.size ≤ 4096 := by
  intro x hx
  unfold big at h
  rw [List.any_eq_false] at h
  have := h x hx
  simpa using this
def batchE (xs : List ByteArray) (n : Nat) : Int := if xs.length = 0 then 82 else if 1024 < xs.length then 83 else if big xs then 121 else if 4611686018427387904 - (n : Int) < xs.length then 10 else 0
theorem batch_ok {xs : List ByteArray} {n : Nat} (h : batchE xs n = 0) : xs.length ≠ 0 ∧ xs.length ≤ 1024 ∧ (∀ x ∈ xs, x.size ≤ 4096) ∧ n + xs.length ≤ 4611686018427387904 := by
  unfold batchE at h
  split at h
  · cases h
  · split at h
    · cases h
    · split at h
      · cases h
      · split at h
        · cases h
        · rename_i h1 h2 h3 h4
          exact ⟨h1, by omega, big_no (by simpa using h3), by omega⟩
def gone (s : S) (e : E) : Bool := s.off || decide (s.age ≠ e.age)
def appS (s : S) (e : E) (xs : List ByteArray) : Int × S × E :=
  if gone s e then (124, s, e) else if batchE xs e.l.length ≠ 0 then (batchE xs e.l.length, s, e)
  else if fitU (now s) e.sp e.l.length xs (tot (now s)) ≤ s.cap then
    (if (putsS e.sp e.l.length xs s).1 = 0 then (0, (putsS e.sp e.l.length xs s).2, { e with l := e.l ++ xs }) else ((putsS e.sp e.l.length xs s).1, (putsS e.sp e.l.length xs s).2, e))
  else (122, s, e)
-- a store that holds an engine's leaves alone: the first ones durable, the others pending
structure Ow (s : S) (sp : Int) (l1 xs : List ByteArray) : Prop where
  oks : okI sp
  dur : s.dur = prs sp (enm 0 l1)
  pend : s.pend = (enm l1.length xs).map (lw sp)
  sz : ∀ x ∈ l1 ++ xs, x.size ≤ 4096
  fits : (wgt (enm 0 (l1 ++ xs)) : Int) ≤ s.cap
  cap : s.cap ≤ 1073741824
theorem Ow.len {s : S} {sp : Int} {l1 xs : List ByteArray} (h : Ow s sp l1 xs) : 52 * (l1 ++ xs).length ≤ 1073741824 := by
  have h1 := wgt_len (enm 0 (l1 ++ xs))
  rw [enm_len] at h1
  have := h.fits
  have := h.cap
  omega
theorem bnd_enm {n : Nat} {xs : List ByteArray} (h : ∀ x ∈ xs, x.size ≤ 4096) (hn : n + xs.length ≤ 4611686018427387904) : Bnd (enm n xs) := by
  rintro ⟨i, x⟩ hp
  have h1 := enm_low _ hp
  obtain ⟨_, h2⟩ := mem_enm.1 hp
  exact ⟨by have : i < n + xs.length := h1.2; show i ≤ _; omega, h x (List.mem_of_getElem? h2)⟩
theorem Ow.bnd {s : S} {sp : Int} {l1 xs : List ByteArray} (h : Ow s sp l1 xs) : Bnd (enm 0 (l1 ++ xs)) := bnd_enm h.sz (by have := h.len; omega)
theorem Ow.now {s : S} {sp : Int} {l1 xs : List ByteArray} (h : Ow s sp l1 xs) : ye.now s = prs sp (enm 0 (l1 ++ xs)) := by
  unfold ye.now
  have e : enm 0 (l1 ++ xs) = enm 0 l1 ++ enm l1.length xs := by rw [enm_app, Nat.zero_add]
  have hb := h.bnd
  have ha := asc_enm 0 (l1 ++ xs)
  rw [e] at hb ha ⊢
  rw [h.dur, h.pend]
  exact fold_prs h.oks _ _ ha hb
theorem Ow.srt {s : S} {sp : Int} {l1 xs : List ByteArray} (h : Ow s sp l1 xs) : Srt (ye.now s) := by
  rw [h.now]; exact srt_prs h.oks (asc_enm _ _) h.bnd
theorem Ow.tot {s : S} {sp : Int} {l1 xs : List ByteArray} (h : Ow s sp l1 xs) : ya.tot (ye.now s) = wgt (enm 0 (l1 ++ xs)) := by rw [h.now, tot_prs]
theorem Ow.new {c sp : Int} (hs : okI sp) (h0 : 0 ≤ c) (h1 : c ≤ 1073741824) (ag : Nat) : Ow ⟨c, [], [], 0, false, ag⟩ sp [] [] := ⟨hs, rfl, rfl, fun x hx => by simp at hx, by simpa [enm, wgt] using h0, h1⟩
theorem Ow.more {s : S} {sp : Int} {l1 xs ys : List ByteArray} (h : Ow s sp l1 xs) (hy : ∀ y ∈ ys, y.size ≤ 4096) (hf : (wgt (enm 0 (l1 ++ xs ++ ys)) : Int) ≤ s.cap) (a : Nat) (f : Bool) : Ow { s with pend := s.pend ++ (enm (l1 ++ xs).length ys).map (lw sp), armed := a, off := f } sp l1 (xs ++ ys) := by
  refine ⟨h.oks, h.dur, ?_, ?_, ?_, h.cap⟩
  · show s.pend ++ _ = _
    rw [h.pend, enm_app, List.map_append, List.length_append]
  · intro x hx
    rw [← List.append_assoc] at hx
    rcases List.mem_append.1 hx with hx | hx
    · exact h.sz x hx
    · exact hy x hx
  · rw [← List.append_assoc]; exact hf
theorem Ow.fit {s : S} {sp : Int} {l1 xs ys : List ByteArray} (h : Ow s sp l1 xs) (hn : (l1 ++ xs).length + ys.length ≤ 4611686018427387904) : fitU (ye.now s) sp (l1 ++ xs).length ys (ya.tot (ye.now s)) = wgt (enm 0 (l1 ++ xs ++ ys)) := by
  rw [fit_none]
  · rw [h.tot, enm_app 0 (l1 ++ xs) ys, wgt_app, Nat.zero_add]; omega
  · intro i h1 h2
    rw [h.now, get_none]
    intro y hy
    obtain ⟨p, hp, rfl⟩ := List.mem_map.1 hy
    have h3 := enm_low p hp
    intro e
    have := lkey_inj h.oks (h.bnd.ok hp) ⟨by omega, by omega⟩ e
    omega
-- what an Append does to it
theorem Ow.app {s : S} {e : E} {l1 xs ys : List ByteArray} (h : Ow s e.sp l1 xs) (hl : e.l = l1 ++ xs) (hg : gone s e = false) :
    (batchE ys (l1 ++ xs).length ≠ 0 ∧ appS s e ys = (batchE ys (l1 ++ xs).length, s, e)) ∨
    (batchE ys (l1 ++ xs).length = 0 ∧ s.cap < wgt (enm 0 (l1 ++ xs ++ ys)) ∧ appS s e ys = (122, s, e)) ∨
    (batchE ys (l1 ++ xs).length = 0 ∧ (wgt (enm 0 (l1 ++ xs ++ ys)) : Int) ≤ s.cap ∧ (s.armed = 0 ∨ ys.length < s.armed) ∧ ∃ s', appS s e ys = (0, s', { e with l := e.l ++ ys }) ∧ Ow s' e.sp l1 (xs ++ ys) ∧ s'.cap = s.cap ∧ s'.off = false ∧ s'.age = s.age ∧ s'.armed = s.armed - ys.length) ∨
    (batchE ys (l1 ++ xs).length = 0 ∧ 1 ≤ s.armed ∧ s.armed ≤ ys.length ∧ ∃ s', appS s e ys = (124, s', e) ∧ Ow s' e.sp l1 (xs ++ ys.take s.armed) ∧ s'.cap = s.cap ∧ s'.off = true ∧ s'.age = s.age) := by
  have ho : s.off = false := by unfold gone at hg; exact (Bool.or_eq_false_iff.1 hg).1
  unfold appS
  rw [hg, hl]
  simp only [Bool.false_eq_true, if_false]
  by_cases hb : batchE ys (l1 ++ xs).length = 0
  · obtain ⟨b1, b2, b3, b4⟩ := batch_ok hb
    rw [if_neg (fun hne => hne hb), h.fit b4]
    by_cases hf : (wgt (enm 0 (l1 ++ xs ++ ys)) : Int) ≤ s.cap
    · rw [if_pos hf]
      have hw : wgt (enm 0 (l1 ++ xs ++ ys)) = wgt (enm 0 (l1 ++ xs)) + wgt (enm (l1 ++ xs).length ys) := by rw [enm_app 0 (l1 ++ xs) ys, wgt_app, Nat.zero_add]
      have hr := puts_run h.oks ys (l1 ++ xs).length s ho h.srt b3 b4 (by rw [h.tot]; omega)
      by_cases ha : s.armed = 0 ∨ ys.length < s.armed
      · rw [if_pos ha] at hr
        right; right; left
        refine ⟨hb, hf, ha, _, ?_, h.more b3 hf (s.armed - ys.length) false, rfl, rfl, rfl, rfl⟩
        rw [hr, if_pos rfl]
        simp only [Prod.mk.injEq, true_and, and_true, S.mk.injEq, ho]
      · rw [if_neg ha] at hr
        right; right; right
        have hm : ∀ y ∈ ys.take s.armed, y.size ≤ 4096 := fun y hy => b3 y (List.mem_of_mem_take hy)
        have ht : (enm (l1 ++ xs).length ys).take s.armed = enm (l1 ++ xs).length (ys.take s.armed) := by
          conv => lhs; rw [← List.take_append_drop s.armed ys, enm_app]
          rw [List.take_append_of_le_length (by rw [enm_len, List.length_take]; omega), List.take_of_length_le (by rw [enm_len, List.length_take]; omega)]
        have hf2 : (wgt (enm 0 (l1 ++ xs ++ ys.take s.armed)) : Int) ≤ s.cap := by
          have : wgt (enm 0 (l1 ++ xs ++ ys.take s.armed)) = wgt (enm 0 (l1 ++ xs)) + wgt (enm (l1 ++ xs).length (ys.take s.armed)) := by rw [enm_app 0 (l1 ++ xs) _, wgt_app, Nat.zero_add]
          have h3 : wgt (enm (l1 ++ xs).length (ys.take s.armed)) ≤ wgt (enm (l1 ++ xs).length ys) := by rw [← ht]; exact wgt_sub (List.take_sublist _ _)
          omega
        rw [ht] at hr
        refine ⟨hb, by omega, by omega, _, ?_, h.more hm hf2 0 true, rfl, rfl, rfl⟩
        rw [hr, if_neg (by simp)]
    · rw [if_neg hf]
      exact .inr (.inl ⟨hb, by omega, rfl⟩)
  · rw [if_pos hb]
    exact .inl ⟨hb, rfl⟩
theorem Ow.sync {s : S} {sp : Int} {l1 xs : List ByteArray} (h : Ow s sp l1 xs) (ho : s.off = false) : (s.armed = 1 ∧ syncS s = (124, { s with armed := 0, off := true })) ∨ (s.armed ≠ 1 ∧ ∃ s', syncS s = (0, s') ∧ Ow s' sp (l1 ++ xs) [] ∧ s'.cap = s.cap ∧ s'.off = false ∧ s'.age = s.age ∧ s'.armed = s.armed - 1) := by
  have hn := h.now
  have hO : ∀ a, Ow { s with armed := a, dur := ye.now s, pend := [] } sp (l1 ++ xs) [] := fun a => ⟨h.oks, hn, rfl, by simpa using h.sz, by simpa using h.fits, h.cap⟩
  unfold syncS
  rw [ho]
  simp only [Bool.false_eq_true, if_false]
  unfold spendS
  by_cases h0 : s.armed = 0
  · rw [if_pos h0]
    right
    exact ⟨by omega, { s with dur := ye.now s, pend := [] }, by rw [if_neg (by simp)], hO s.armed, rfl, ho, rfl, by show s.armed = _; omega⟩
  · rw [if_neg h0]
    by_cases h1 : s.armed = 1
    · rw [if_pos h1]
      left
      exact ⟨h1, by rw [if_pos (by simp)]⟩
    · rw [if_neg h1]
      right
      exact ⟨h1, { s with armed := s.armed - 1, dur := ye.now s, pend := [] }, by rw [if_neg (by simp)], hO (s.armed - 1), rfl, ho, rfl, rfl⟩
theorem Ow.arm {s : S} {sp : Int} {l1 xs : List ByteArray} (h : Ow s sp l1 xs) (a : Nat) (f : Bool) : Ow { s with armed := a, off := f } sp l1 xs := ⟨h.oks, h.dur, h.pend, h.sz, h.fits, h.cap⟩
end Go.Proofs.YtpcllegjnbeppaaGreat.eb

namespace Go.Proofs.YtpcllegjnbeppaaGreat.ec
open Go.RowKit Go.PlainAid Go.Maps Go.Shelf
open Go.Proofs.YtpcllegjnbeppaaGreat.ya Go.Proofs.YtpcllegjnbeppaaGreat.yc Go.Proofs.YtpcllegjnbeppaaGreat.yd Go.Proofs.YtpcllegjnbeppaaGreat.ye Go.Proofs.YtpcllegjnbeppaaGreat.yf Go.Proofs.YtpcllegjnbeppaaGreat.yi Go.Proofs.YtpcllegjnbeppaaGreat.yk Go.Proofs.YtpcllegjnbeppaaGreat.yl Go.Proofs.YtpcllegjnbeppaaGreat.ym
open Go.Proofs.YtpcllegjnbeppaaGreat.tqa Go.Proofs.YtpcllegjnbeppaaGreat.tba Go.Proofs.YtpcllegjnbeppaaGreat.tbb Go.Proofs.YtpcllegjnbeppaaGreat.tbc Go.Proofs.YtpcllegjnbeppaaGreat.tbd Go.Proofs.YtpcllegjnbeppaaGreat.tbe Go.Proofs.YtpcllegjnbeppaaGreat.tbf
open Go.Proofs.YtpcllegjnbeppaaGreat.tqb (kindT kindT_size spaceT spaceT_size key_is)
open Go.Proofs.YtpcllegjnbeppaaGreat.tqc (keyT_kind)
open Go.Proofs.YtpcllegjnbeppaaGreat.tlo (keys_apart bget_frame)
open Go.Proofs.YtpcllegjnbeppaaGreat.ea Go.Proofs.YtpcllegjnbeppaaGreat.eb
set_option linter.unusedVariables false
set_option linter.unusedSimpArgs false
def bdropS (s : S) (sp k n : Int) : Int × S := if 0 ≤ sp ∧ 1 ≤ k ∧ k ≤ 255 ∧ 0 ≤ n then cutS s (keyT sp k n) else (10, s)
def dropL (sp k : Int) (m : Nat) : List Int → S → Int × S
  | [], s => (0, s)
  | x :: xs, s => if k = 1 ∧ x < m then dropL sp k m xs s else if (bdropS s sp k x).1 = 0 then dropL sp k m xs (bdropS s sp k x).2 else bdropS s sp k x
def purgeL (sp : Int) (m : Nat) : List Int → S → Int × S
  | [], s => (0, s)
  | k :: ks, s => if (dropL sp k m (numbersS s sp k) s).1 = 0 then purgeL sp m ks (dropL sp k m (numbersS s sp k) s).2 else dropL sp k m (numbersS s sp k) s
def kindL (l : List ByteArray) : List Int := l.filterMap fun k => if k.size = 18 then some (bt k 9) else none
def kindsS (s : S) (sp : Int) : List Int := Lib.compact (kindL (keysS s (spaceT sp)))
def purgeS (s : S) (sp : Int) (m : Nat) : Int × S := purgeL sp m (kindsS s sp) s
def cutW (k : ByteArray) : W := ⟨true, k, ByteArray.empty⟩
theorem mem_compact {l : List Int} {x : Int} : x ∈ Lib.compact l ↔ x ∈ l := by
  have key : ∀ m, m ≤ l.length → ∀ x, x ∈ Lib.compactUpTo l.toArray m ↔ x ∈ l.take m := by
    intro m
    induction m with
    | zero => intro _ x; simp [Lib.compactUpTo]
    | succ m ih =>
      intro hm x
      have hg : l.toArray[m]! = l[m]'(by omega) := by
        rw [getElem!_pos l.toArray m (by simp; omega)]; simp
      have ht : l.take (m + 1) = l.take m ++ [l[m]'(by omega)] := by rw [List.take_add_one, List.getElem?_eq_getElem (by omega)]; rfl
      rw [Lib.compactUpTo_succ, List.mem_append, ih (by omega), ht, List.mem_append, hg]
      cases hk : Lib.keeps l.toArray m with
      | true => simp
      | false =>
        simp only [Bool.false_eq_true, if_false, List.not_mem_nil, or_false, List.mem_singleton]
        constructor
        · exact .inl
        · rintro (h | rfl)
          · exact h
          · have hm0 : m ≠ 0 := by
              rintro rfl
              simp [Lib.keeps] at hk
            have e : l[m]'(by omega) = l[m - 1]'(by omega) := by
              unfold Lib.keeps at hk
              have h1 : l.toArray[m - 1]! = l[m - 1]'(by omega) := by
                rw [getElem!_pos l.toArray (m - 1) (by simp; omega)]; simp
              rw [hg, h1] at hk
              simp [hm0] at hk
              exact hk
            rw [e, List.mem_take_iff_getElem]
            exact ⟨m - 1, by omega, rfl⟩
  have h := key l.length (Nat.le_refl _) x
  rw [List.take_length] at h
  exact h
theorem isKey_is {b : ByteArray} (h : isKey b = true) : ∃ sp k x, okI sp ∧ (1 ≤ k ∧ k ≤ 255) ∧ okI x ∧ b = keyT sp k x ∧ numOf b = some x := by
  have h1 := h
  unfold isKey at h1
  obtain ⟨⟨a1, a2, a3, a4⟩, e⟩ := of_decide_eq_true h1
  have g1 := nx8_rng (r1 b)
  have g2 := nx8_rng (r3 b)
  have b1 := sg_rng (kH b) g1.1 g1.2
  have b2 := sg_rng (kL b) g2.1 g2.2
  refine ⟨_, _, _, ⟨a1, b1.2⟩, ⟨a2, a3⟩, ⟨a4, b2.2⟩, e.symm, ?_⟩
  unfold numOf
  rw [if_pos h]
theorem mem_numbers {s : S} (ho : s.off = false) {sp k x : Int} (hs : okI sp) (hk : 1 ≤ k ∧ k ≤ 255) : x ∈ numbersS s sp k ↔ okI x ∧ (rget (keyT sp k x) (now s)).isSome = true := by
  unfold numbersS
  rw [if_pos ⟨hs.1, hk⟩]
  unfold nums keysS
  rw [ho]
  simp only [Bool.false_eq_true, if_false]
  rw [List.mem_filterMap]
  constructor
  · rintro ⟨key, h1, h2⟩
    obtain ⟨h3, h4⟩ := mem_keysL.1 h1
    have h5 : isKey key = true := by
      unfold numOf at h2
      cases hh : isKey key with
      | true => rfl
      | false => rw [hh] at h2; simp at h2
    obtain ⟨sp', k', x', a1, a2, a3, rfl, a5⟩ := isKey_is h5
    rw [pre_kind a1 a2 hs hk] at h4
    obtain ⟨rfl, rfl⟩ := of_decide_eq_true h4
    rw [a5] at h2
    obtain rfl : x' = x := Option.some.inj h2
    exact ⟨a3, h3⟩
  · rintro ⟨h1, h2⟩
    refine ⟨_, mem_keysL.2 ⟨h2, ?_⟩, num_key hs hk h1⟩
    rw [pre_kind hs hk hs hk]; simp
theorem numbers_nodup {s : S} (ho : s.off = false) (hsrt : Srt (now s)) {sp k : Int} (hs : okI sp) (hk : 1 ≤ k ∧ k ≤ 255) : (numbersS s sp k).Nodup := by
  unfold numbersS
  rw [if_pos ⟨hs.1, hk⟩]
  unfold nums
  rw [List.nodup_iff_pairwise_ne, List.pairwise_filterMap]
  unfold keysS
  rw [ho]
  simp only [Bool.false_eq_true, if_false]
  refine (keysL_nodup (pre := kindT sp k) hsrt).imp_of_mem ?_
  intro a b ha hb hab x hx y hy e
  subst e
  apply hab
  have one : ∀ c, c ∈ keysL (kindT sp k) (now s) → numOf c = some x → c = keyT sp k x := by
    intro c hc hx
    obtain ⟨h3, h4⟩ := mem_keysL.1 hc
    have h5 : isKey c = true := by
      unfold numOf at hx
      cases hh : isKey c with
      | true => rfl
      | false => rw [hh] at hx; simp at hx
    obtain ⟨sp', k', x', a1, a2, a3, rfl, a5⟩ := isKey_is h5
    rw [pre_kind a1 a2 hs hk] at h4
    obtain ⟨rfl, rfl⟩ := of_decide_eq_true h4
    rw [a5] at hx
    obtain rfl : x' = x := Option.some.inj hx
    rfl
  rw [one a ha hx, one b hb hy]
theorem numbers_none {s : S} {sp k : Int} (hk : ¬ (1 ≤ k ∧ k ≤ 255)) : numbersS s sp k = [] := by
  unfold numbersS
  rw [if_neg (fun h => hk h.2)]
theorem del_less {k : ByteArray} {r : List Rec} (h : (rget k r).isSome = true) : (del k r).length + 1 ≤ r.length := by
  obtain ⟨d, hd⟩ := Option.isSome_iff_exists.1 h
  have hm := get_mem hd
  unfold del
  have := (List.length_filter_lt_length_iff_exists (l := r) (p := fun p => !decide (p.1 = k))).2 ⟨(k, d), hm, by simp⟩
  omega
theorem cut_run {s : S} (ho : s.off = false) (ha : s.armed = 0) {k : ByteArray} (hk : 1 ≤ k.size ∧ k.size ≤ 64) (h : (rget k (now s)).isSome = true) : cutS s k = (0, addW s (cutW k)) := by
  have hr : refS s k = 0 := by unfold refS; rw [ho]; simp [hk]
  unfold cutS
  rw [if_neg (by simp [hr]), if_pos h]
  unfold spendS
  rw [if_pos (show (addW s ⟨true, k, ByteArray.empty⟩).armed = 0 from ha)]
  rfl
-- the state behind some cuts
structure Cuts (s s' : S) (cs : List ByteArray) (D : ByteArray → Prop) : Prop where
  eq : s' = { s with pend := s.pend ++ cs.map cutW }
  sz : ∀ c ∈ cs, c.size = 18
  len : cs.length + (now s').length ≤ (now s).length
  mem : ∀ p, p ∈ now s' ↔ p ∈ now s ∧ ¬ D p.1
  srt : Srt (now s')
theorem Cuts.refl {s : S} (h : Srt (now s)) : Cuts s s [] (fun _ => False) := ⟨by simp, (fun c hc => by cases hc), by simp, (fun p => by simp), h⟩
theorem Cuts.trans {a b c : S} {cs ds : List ByteArray} {D D' : ByteArray → Prop} (x : Cuts a b cs D) (y : Cuts b c ds D') : Cuts a c (cs ++ ds) (fun k => D k ∨ D' k) := by
  refine ⟨?_, ?_, ?_, ?_, y.srt⟩
  · rw [y.eq, x.eq]; simp
  · intro k hk
    rcases List.mem_append.1 hk with h | h
    · exact x.sz k h
    · exact y.sz k h
  · have := x.len; have := y.len; rw [List.length_append]; omega
  · intro p
    rw [y.mem, x.mem]
    constructor
    · rintro ⟨⟨h1, h2⟩, h3⟩; exact ⟨h1, fun h => h.elim h2 h3⟩
    · rintro ⟨h1, h2⟩; exact ⟨⟨h1, fun h => h2 (.inl h)⟩, fun h => h2 (.inr h)⟩
theorem Cuts.mono {a b : S} {cs : List ByteArray} {D D' : ByteArray → Prop} (x : Cuts a b cs D) (h : ∀ p ∈ now a, D p.1 ↔ D' p.1) : Cuts a b cs D' :=
  ⟨x.eq, x.sz, x.len, fun p => by rw [x.mem]; exact ⟨fun ⟨h1, h2⟩ => ⟨h1, fun g => h2 ((h p h1).2 g)⟩, fun ⟨h1, h2⟩ => ⟨h1, fun g => h2 ((h p h1).1 g)⟩⟩, x.srt⟩
theorem Cuts.one {s : S} (hsrt : Srt (now s)) {k : ByteArray} (hk : k.size = 18) (h : (rget k (now s)).isSome = true) : Cuts s (addW s (cutW k)) [k] (fun c => c = k) := by
  have hn : now (addW s (cutW k)) = del k (now s) := by rw [now_add]; rfl
  refine ⟨rfl, fun c hc => by rw [List.mem_singleton.1 hc]; exact hk, ?_, fun p => by rw [hn, mem_del], by rw [hn]; exact srt_del hsrt⟩
  rw [hn]
  have := del_less h
  simp only [List.length_singleton]
  omega
theorem Cuts.off {a b : S} {cs : List ByteArray} {D : ByteArray → Prop} (x : Cuts a b cs D) : b.off = a.off ∧ b.armed = a.armed ∧ b.cap = a.cap ∧ b.age = a.age ∧ b.dur = a.dur ∧ b.pend = a.pend ++ cs.map cutW := by
  rw [x.eq]; exact ⟨rfl, rfl, rfl, rfl, rfl, rfl⟩
theorem Cuts.some {a b : S} {cs : List ByteArray} {D : ByteArray → Prop} (x : Cuts a b cs D) {k : ByteArray} (h : (rget k (now a)).isSome = true) (hd : ¬ D k) : (rget k (now b)).isSome = true := by
  obtain ⟨d, h1⟩ := Option.isSome_iff_exists.1 h
  rw [(get_some x.srt).2 ((x.mem (k, d)).2 ⟨get_mem h1, hd⟩)]; rfl
theorem drop_run {sp k : Int} (hs : okI sp) (hk : 1 ≤ k ∧ k ≤ 255) (m : Nat) : ∀ (xs : List Int) (s : S), s.off = false → s.armed = 0 → Srt (now s) → xs.Nodup → (∀ x ∈ xs, okI x ∧ (rget (keyT sp k x) (now s)).isSome = true) →
    ∃ s' cs, dropL sp k m xs s = (0, s') ∧ Cuts s s' cs (fun c => ∃ x ∈ xs, c = keyT sp k x ∧ ¬ (k = 1 ∧ x < m)) := by
  intro xs
  induction xs with
  | nil => intro s _ _ hsrt _ _; exact ⟨s, [], rfl, (Cuts.refl hsrt).mono (fun p _ => by simp)⟩
  | cons x xs ih =>
    intro s ho ha hsrt hnd hall
    obtain ⟨h1, h2⟩ := List.nodup_cons.1 hnd
    rw [dropL]
    by_cases hkeep : k = 1 ∧ x < m
    · rw [if_pos hkeep]
      obtain ⟨s', cs, e, c⟩ := ih s ho ha hsrt h2 (fun y hy => hall y (by simp [hy]))
      refine ⟨s', cs, e, c.mono (fun p hp => ?_)⟩
      constructor
      · rintro ⟨y, hy, e, hn⟩; exact ⟨y, by simp [hy], e, hn⟩
      · rintro ⟨y, hy, e, hn⟩
        rcases List.mem_cons.1 hy with rfl | hy
        · exact absurd hkeep hn
        · exact ⟨y, hy, e, hn⟩
    · rw [if_neg hkeep]
      obtain ⟨hx, hg⟩ := hall x (by simp)
      have hb : bdropS s sp k x = (0, addW s (cutW (keyT sp k x))) := by
        unfold bdropS
        rw [if_pos ⟨hs.1, hk.1, hk.2, hx.1⟩]
        exact cut_run ho ha (by rw [keyT_size]; omega) hg
      rw [hb, if_pos rfl]
      have c1 := Cuts.one hsrt (keyT_size sp k x) hg
      obtain ⟨s', cs, e, c⟩ := ih (addW s (cutW (keyT sp k x))) ho ha c1.srt h2 (fun y hy => ⟨(hall y (by simp [hy])).1, c1.some (hall y (by simp [hy])).2 (fun e => by
        have hy1 := (hall y (by simp [hy])).1
        have : y = x := by
          by_cases hyx : y = x
          · exact hyx
          · exact absurd e (keys_apart sp k y sp k x hs.1 hs.2 (by omega) hk.2 hy1.1 hy1.2 hs.1 hs.2 (by omega) hk.2 hx.1 hx.2 (fun h => hyx h.2.2))
        subst this
        exact h1 hy)⟩)
      refine ⟨s', _, e, (c1.trans c).mono (fun p hp => ?_)⟩
      constructor
      · rintro (e | ⟨y, hy, e, hn⟩)
        · exact ⟨x, by simp, e, hkeep⟩
        · exact ⟨y, by simp [hy], e, hn⟩
      · rintro ⟨y, hy, e3, hn⟩
        rcases List.mem_cons.1 hy with rfl | hy
        · exact .inl e3
        · exact .inr ⟨y, hy, e3, hn⟩
def Dr (sp : Int) (m : Nat) (c : ByteArray) : Prop := ∃ k x, (1 ≤ k ∧ k ≤ 255) ∧ okI x ∧ c = keyT sp k x ∧ ¬ (k = 1 ∧ x < (m : Int))
theorem purge_run0 {sp : Int} (hs : okI sp) (m : Nat) : ∀ (ks : List Int) (s : S), s.off = false → s.armed = 0 → Srt (now s) →
    ∃ s' cs, purgeL sp m ks s = (0, s') ∧ Cuts s s' cs (fun c => ∃ k ∈ ks, ∃ x, (1 ≤ k ∧ k ≤ 255) ∧ okI x ∧ c = keyT sp k x ∧ ¬ (k = 1 ∧ x < (m : Int))) := by
  intro ks
  induction ks with
  | nil => intro s _ _ hsrt; exact ⟨s, [], rfl, (Cuts.refl hsrt).mono (fun p _ => by simp)⟩
  | cons k ks ih =>
    intro s ho ha hsrt
    rw [purgeL]
    have one : ∃ s' cs, dropL sp k m (numbersS s sp k) s = (0, s') ∧ Cuts s s' cs (fun c => ∃ x, (1 ≤ k ∧ k ≤ 255) ∧ okI x ∧ c = keyT sp k x ∧ ¬ (k = 1 ∧ x < (m : Int))) := by
      by_cases hk : 1 ≤ k ∧ k ≤ 255
      · obtain ⟨s', cs, e, c⟩ := drop_run hs hk m (numbersS s sp k) s ho ha hsrt (numbers_nodup ho hsrt hs hk) (fun x hx => (mem_numbers ho hs hk).1 hx)
        refine ⟨s', cs, e, c.mono (fun p hp => ?_)⟩
        constructor
        · rintro ⟨x, hx, e, hn⟩; exact ⟨x, hk, ((mem_numbers ho hs hk).1 hx).1, e, hn⟩
        · rintro ⟨x, _, hx, e, hn⟩
          refine ⟨x, (mem_numbers ho hs hk).2 ⟨hx, ?_⟩, e, hn⟩
          rw [← e, (get_some hsrt).2 (show (p.1, p.2) ∈ now s from hp)]; rfl
      · rw [numbers_none hk]
        exact ⟨s, [], rfl, (Cuts.refl hsrt).mono (fun p _ => by
          constructor
          · intro h; cases h
          · rintro ⟨x, h, _⟩; exact hk h)⟩
    obtain ⟨s1, c1, e1, C1⟩ := one
    rw [e1, if_pos rfl]
    have f := C1.off
    obtain ⟨s2, c2, e2, C2⟩ := ih s1 (f.1.trans ho) (f.2.1.trans ha) C1.srt
    refine ⟨s2, _, e2, (C1.trans C2).mono (fun p hp => ?_)⟩
    constructor
    · rintro (⟨x, h⟩ | ⟨k', hk', h⟩)
      · exact ⟨k, by simp, x, h⟩
      · exact ⟨k', by simp [hk'], h⟩
    · rintro ⟨k', hk', x, h⟩
      rcases List.mem_cons.1 hk' with rfl | hk'
      · exact .inl ⟨x, h⟩
      · exact .inr ⟨k', hk', x, h⟩
theorem purge_run {sp : Int} (hs : okI sp) (m : Nat) {s : S} (ho : s.off = false) (ha : s.armed = 0) (hsrt : Srt (now s)) : ∃ s' cs, purgeS s sp m = (0, s') ∧ Cuts s s' cs (Dr sp m) := by
  obtain ⟨s', cs, e, c⟩ := purge_run0 hs m (kindsS s sp) s ho ha hsrt
  refine ⟨s', cs, e, c.mono (fun p hp => ?_)⟩
  constructor
  · rintro ⟨k, _, x, h⟩; exact ⟨k, x, h⟩
  · rintro ⟨k, x, h1, h2, h3, h4⟩
    refine ⟨k, ?_, x, h1, h2, h3, h4⟩
    unfold kindsS
    rw [mem_compact]
    unfold kindL
    rw [List.mem_filterMap]
    refine ⟨p.1, ?_, ?_⟩
    · unfold keysS
      rw [ho]
      simp only [Bool.false_eq_true, if_false]
      refine mem_keysL.2 ⟨by rw [(get_some hsrt).2 (show (p.1, p.2) ∈ now s from hp)]; rfl, ?_⟩
      rw [h3, pre_space hs hs]; simp
    · rw [h3, if_pos (keyT_size _ _ _)]
      have := keyT_kind sp k x (by omega) h1.2
      rw [beR_one] at this
      rw [this]
-- of leaves alone
theorem dr_leaf {sp : Int} (hs : okI sp) {m i : Nat} (hi : okI (i : Int)) : Dr sp m (keyT sp 1 i) ↔ m ≤ i := by
  constructor
  · rintro ⟨k, x, hk, hx, e, hn⟩
    by_cases h : k = 1 ∧ x = i
    · obtain ⟨rfl, rfl⟩ := h
      have : ¬ ((i : Int) < m) := fun g => hn ⟨rfl, g⟩
      omega
    · exact absurd e (keys_apart sp 1 i sp k x hs.1 hs.2 (by omega) (by omega) hi.1 hi.2 hs.1 hs.2 (by omega) hk.2 hx.1 hx.2 (fun g => h ⟨g.2.1.symm, g.2.2.symm⟩))
  · intro h
    exact ⟨1, i, one_ok, hi, rfl, fun g => by omega⟩
theorem asc_split (ps : PL) (n : Nat) (ha : Asc ps) (hn : ∀ p ∈ ps, n ≤ p.1) : ∃ l zs, ps = enm n l ++ zs ∧ ∀ p ∈ zs, n + l.length < p.1 := by
  induction ps generalizing n with
  | nil => exact ⟨[], [], rfl, fun p hp => by cases hp⟩
  | cons p ps ih =>
    obtain ⟨h1, h2⟩ := List.pairwise_cons.1 ha
    by_cases e : p.1 = n
    · obtain ⟨l, zs, e1, e2⟩ := ih (n + 1) h2 (fun q hq => by have : p.1 < q.1 := h1 q hq; omega)
      refine ⟨p.2 :: l, zs, ?_, fun q hq => ?_⟩
      · rw [enm, List.cons_append, ← e1, ← e]
      · have := e2 q hq; simp only [List.length_cons]; omega
    · refine ⟨[], p :: ps, rfl, fun q hq => ?_⟩
      have hp := hn p (by simp)
      rcases List.mem_cons.1 hq with rfl | hq
      · simp only [List.length_nil]; omega
      · have : p.1 < q.1 := h1 q hq
        simp only [List.length_nil]; omega
theorem asc_sub {ps qs : PL} (h : Asc qs) (hs : ps.Sublist qs) : Asc ps := List.Pairwise.sublist hs h
-- what Open finds of leaves, some of them lost
theorem st_prs {s : S} {sp : Int} (ho : s.off = false) (hs : okI sp) {l : List ByteArray} {zs : PL} (ha : Asc (enm 0 l ++ zs)) (hb : Bnd (enm 0 l ++ zs)) (hn : now s = prs sp (enm 0 l ++ zs)) (hz : ∀ p ∈ zs, l.length < p.1) (hlen : l.length < 4611686018427387904) : IsSt s sp l := by
  have key : ∀ i : Nat, i ≤ l.length → ∀ x, lf s sp i = some x ↔ l[i]? = some x := by
    intro i hi x
    rw [lf_prs ho hs ha hb hn ⟨by omega, by omega⟩, List.mem_append, mem_enm]
    simp only [Nat.zero_le, true_and, Nat.sub_zero]
    constructor
    · rintro (h | h)
      · exact h
      · have : l.length < i := hz _ h
        omega
    · exact .inl
  constructor
  · intro i hi
    obtain ⟨x, hx⟩ : ∃ x, l[i]? = some x := ⟨_, List.getElem?_eq_getElem hi⟩
    rw [hx]; exact (key i (by omega) x).2 hx
  · cases h : lf s sp l.length with
    | none => rfl
    | some x =>
      have := (key l.length (Nat.le_refl _) x).1 h
      rw [List.getElem?_eq_none (Nat.le_refl _)] at this
      cases this
theorem purge_prs {s : S} {sp : Int} (ho : s.off = false) (harm : s.armed = 0) (hs : okI sp) {l : List ByteArray} {zs : PL} (ha : Asc (enm 0 l ++ zs)) (hb : Bnd (enm 0 l ++ zs)) (hn : now s = prs sp (enm 0 l ++ zs)) (hz : ∀ p ∈ zs, l.length < p.1) :
    ∃ s' cs, purgeS s sp l.length = (0, s') ∧ s' = { s with pend := s.pend ++ cs.map cutW } ∧ cs.length ≤ (now s).length ∧ (∀ c ∈ cs, c.size = 18) ∧ now s' = prs sp (enm 0 l) ∧ (zs = [] → cs = []) := by
  obtain ⟨b1, b2⟩ := bnd_app.1 hb
  have hsrt : Srt (now s) := by rw [hn]; exact srt_prs hs ha hb
  obtain ⟨s', cs, e, c⟩ := purge_run hs l.length ho harm hsrt
  have hn' : now s' = prs sp (enm 0 l) := by
    refine ext_get c.srt (srt_prs hs (asc_enm _ _) b1) (fun k => ?_)
    have : ∀ d, rget k (now s') = some d ↔ rget k (prs sp (enm 0 l)) = some d := by
      intro d
      rw [get_some c.srt, get_some (srt_prs hs (asc_enm _ _) b1), c.mem, hn]
      unfold prs
      rw [List.map_append, List.mem_append]
      constructor
      · rintro ⟨h | h, hd⟩
        · exact h
        · obtain ⟨p, hp, e⟩ := List.mem_map.1 h
          exfalso
          apply hd
          unfold rc at e
          injection e with e1 e2
          rw [← e1]
          exact (dr_leaf hs (b2.ok hp)).2 (by have := hz p hp; omega)
      · intro h
        refine ⟨.inl h, fun hd => ?_⟩
        obtain ⟨p, hp, e⟩ := List.mem_map.1 h
        unfold rc at e
        injection e with e1 e2
        rw [← e1] at hd
        have h1 := (dr_leaf hs (b1.ok hp)).1 hd
        have := enm_low p hp
        omega
    cases h1 : rget k (now s') with
    | some d => exact ((this d).1 h1).symm
    | none =>
      cases h2 : rget k (prs sp (enm 0 l)) with
      | none => rfl
      | some d => rw [(this d).2 h2] at h1; cases h1
  refine ⟨s', cs, e, c.eq, by have := c.len; omega, c.sz, hn', ?_⟩
  intro hz0
  have h1 := c.len
  rw [hn', hn, hz0, List.append_nil] at h1
  exact List.length_eq_zero_iff.1 (by omega)
end Go.Proofs.YtpcllegjnbeppaaGreat.ec

namespace Go.Proofs.YtpcllegjnbeppaaGreat.ed
open Go.RowKit Go.PlainAid Go.Maps Go.Shelf
open Go.Proofs.YtpcllegjnbeppaaGreat.kp Go.Proofs.YtpcllegjnbeppaaGreat.ka Go.Proofs.YtpcllegjnbeppaaGreat.ya Go.Proofs.YtpcllegjnbeppaaGreat.yb Go.Proofs.YtpcllegjnbeppaaGreat.yc Go.Proofs.YtpcllegjnbeppaaGreat.yd Go.Proofs.YtpcllegjnbeppaaGreat.ye Go.Proofs.YtpcllegjnbeppaaGreat.yf Go.Proofs.YtpcllegjnbeppaaGreat.yi Go.Proofs.YtpcllegjnbeppaaGreat.yk Go.Proofs.YtpcllegjnbeppaaGreat.yl Go.Proofs.YtpcllegjnbeppaaGreat.ym
open Go.Proofs.YtpcllegjnbeppaaGreat.tqa Go.Proofs.YtpcllegjnbeppaaGreat.tba Go.Proofs.YtpcllegjnbeppaaGreat.tbb Go.Proofs.YtpcllegjnbeppaaGreat.tbc Go.Proofs.YtpcllegjnbeppaaGreat.tbd Go.Proofs.YtpcllegjnbeppaaGreat.tbe Go.Proofs.YtpcllegjnbeppaaGreat.tbf
open Go.Proofs.YtpcllegjnbeppaaGreat.tqb (over keyC keyNo kindT kindT_size spaceT spaceT_size key_is)
open Go.Proofs.YtpcllegjnbeppaaGreat.ea Go.Proofs.YtpcllegjnbeppaaGreat.eb Go.Proofs.YtpcllegjnbeppaaGreat.ec
set_option linter.unusedVariables false
set_option linter.unusedSimpArgs false
theorem below_dN {B : Nat} {w w' : World} (h : Below B w w') (n : Nat) : Below B w (w'.drewN n) := ⟨h.os, h.tape, h.output, h.size, h.block⟩
theorem new1 (w : World) (o : Obj) : Below w.heap.size w (w.alloc o) := (Below.refl _ _).alloc (Nat.le_refl _) _
-- Get
theorem kgetC {B g bn bd : Nat} {pv : Value} {s : S} {w : World} (sp age k n : Int) (h : Sr B g bn bd pv s w) (h1 : sp ≤ 9223372036854775807) (n1 : n ≤ 9223372036854775807) :
    Calls Tryz.prog 123 #[.agg #[.pointer (some ⟨g, 0, none⟩), .int .i64 sp, .int .i64 age], .int .i64 k, .int .i64 n] w fun e w' => e = .returned (.tuple #[.string (bgetS s sp k n).1, .int .i64 (bgetS s sp k n).2]) ∧ Below w.heap.size w w' := by
  have b1 : Hid (Below w.heap.size w (w.alloc (.cells #[.pointer (some ⟨g, 0, none⟩), .int .i64 sp, .int .i64 age] 137))) := new1 w _
  have CG : Hid (Calls _ _ _ _ _) := bgetC sp k n (sr_later h b1.out) h1 n1
  clear h
  generalize bgetS s sp k n = x at *
  go_enter Tryz.func123, Tryz.ntmps123
  go_wp2_with fail
  refine CG.out.mono ?_
  rintro _ w2 ⟨rfl, b2⟩
  have B2 : Hid (Below w.heap.size w w2) := over b1.out b2
  clear b2
  go_wp2
  go_ret2
  exact ⟨rfl, B2.out⟩
-- options
def okO (o : Int) (wd : Int) : Bool := decide (o = 1 ∧ 1 ≤ wd ∧ wd ≤ 32)
theorem optsC (a b c d e f : Int) (w : World) : Calls Tryz.prog 90 #[.agg #[.int .i64 a, .int .i64 b, .int .i64 c, .int .i64 d, .int .i64 e, .int .i64 f], .int .i64 1] w fun r w' => r = .returned (.bool (okO a b)) ∧ Below w.heap.size w w' := by
  have b1 : Hid (Below w.heap.size w (w.alloc (.cells #[.int .i64 a, .int .i64 b, .int .i64 c, .int .i64 d, .int .i64 e, .int .i64 f] 36))) := new1 w _
  unfold okO
  by_cases ha : a = 1
  · have ha' : (a == 1) = true := by simp [ha]
    by_cases hb : 1 ≤ b
    · have hb' : decide (1 ≤ b) = true := decide_eq_true hb
      by_cases hc : b ≤ 32
      · have hc' : decide (b ≤ 32) = true := decide_eq_true hc
        have HE : Hid (decide (a = 1 ∧ 1 ≤ b ∧ b ≤ 32) = true) := decide_eq_true ⟨ha, hb, hc⟩
        rw [HE.out]
        clear ha hb hc
        go_enter Tryz.func90, Tryz.ntmps90
        go_wp2
        go_ret
        exact ⟨rfl, b1.out⟩
      · have hc' : decide (b ≤ 32) = false := decide_eq_false hc
        have HE : Hid (decide (a = 1 ∧ 1 ≤ b ∧ b ≤ 32) = false) := decide_eq_false (fun h => hc h.2.2)
        rw [HE.out]
        clear ha hb hc
        go_enter Tryz.func90, Tryz.ntmps90
        go_wp2
        go_ret
        exact ⟨rfl, b1.out⟩
    · have hb' : decide (1 ≤ b) = false := decide_eq_false hb
      have HE : Hid (decide (a = 1 ∧ 1 ≤ b ∧ b ≤ 32) = false) := decide_eq_false (fun h => hb h.2.1)
      rw [HE.out]
      clear ha hb
      go_enter Tryz.func90, Tryz.ntmps90
      go_wp2
      go_ret
      exact ⟨rfl, b1.out⟩
  · have ha' : (a == 1) = false := by rw [beq_eq_false_iff_ne]; exact ha
    have HE : Hid (decide (a = 1 ∧ 1 ≤ b ∧ b ≤ 32) = false) := decide_eq_false (fun h => ha h.1)
    rw [HE.out]
    clear ha
    go_enter Tryz.func90, Tryz.ntmps90
    go_wp2
    go_ret
    exact ⟨rfl, b1.out⟩
end Go.Proofs.YtpcllegjnbeppaaGreat.ed

namespace Go.Proofs.YtpcllegjnbeppaaGreat.ee
open Go.RowKit Go.PlainAid Go.Maps Go.Shelf
open Go.Proofs.YtpcllegjnbeppaaGreat.kp Go.Proofs.YtpcllegjnbeppaaGreat.ka Go.Proofs.YtpcllegjnbeppaaGreat.ya Go.Proofs.YtpcllegjnbeppaaGreat.yb Go.Proofs.YtpcllegjnbeppaaGreat.yc Go.Proofs.YtpcllegjnbeppaaGreat.yd Go.Proofs.YtpcllegjnbeppaaGreat.ye Go.Proofs.YtpcllegjnbeppaaGreat.yf Go.Proofs.YtpcllegjnbeppaaGreat.yg Go.Proofs.YtpcllegjnbeppaaGreat.yi Go.Proofs.YtpcllegjnbeppaaGreat.yk Go.Proofs.YtpcllegjnbeppaaGreat.yl Go.Proofs.YtpcllegjnbeppaaGreat.ym
open Go.Proofs.YtpcllegjnbeppaaGreat.tqa Go.Proofs.YtpcllegjnbeppaaGreat.tba Go.Proofs.YtpcllegjnbeppaaGreat.tbb Go.Proofs.YtpcllegjnbeppaaGreat.tbc Go.Proofs.YtpcllegjnbeppaaGreat.tbd Go.Proofs.YtpcllegjnbeppaaGreat.tbe Go.Proofs.YtpcllegjnbeppaaGreat.tbf
open Go.Proofs.YtpcllegjnbeppaaGreat.tqb (over keyC keyNo kindT kindT_size spaceT spaceT_size key_is)
open Go.Proofs.YtpcllegjnbeppaaGreat.ea Go.Proofs.YtpcllegjnbeppaaGreat.eb Go.Proofs.YtpcllegjnbeppaaGreat.ec Go.Proofs.YtpcllegjnbeppaaGreat.ed
set_option linter.unusedVariables false
set_option linter.unusedSimpArgs false
-- the records in memory
def RKb (w : World) (q n : Nat) (xs : List ByteArray) : Prop := ∀ i x, xs[i]? = some x → w.cell? ⟨q, i * 3, none⟩ = some (.int .i64 1) ∧ w.cell? ⟨q, i * 3 + 1, none⟩ = some (.int .i64 ((n + i : Nat) : Int)) ∧ w.cell? ⟨q, i * 3 + 2, none⟩ = some (.string x)
theorem RKb.keep {A : Nat → Prop} {w w' : World} {q n : Nat} {xs : List ByteArray} (h : RKb w q n xs) (k : Kp A w w') (hn : ¬ A q) : RKb w' q n xs := fun i x hx => by
  obtain ⟨a, b, c⟩ := h i x hx
  exact ⟨k.cell a hn, k.cell b hn, k.cell c hn⟩
theorem RKb.later {w w' : World} {q n : Nat} {xs : List ByteArray} (h : RKb w q n xs) (b : Below w.heap.size w w') : RKb w' q n xs := h.keep (Kp.of_below (A := fun _ => False) b) (fun e => e)
end Go.Proofs.YtpcllegjnbeppaaGreat.ee

namespace Go.Proofs.YtpcllegjnbeppaaGreat.ef
open Go.RowKit Go.PlainAid Go.Maps Go.Shelf
open Go.Proofs.YtpcllegjnbeppaaGreat.kp Go.Proofs.YtpcllegjnbeppaaGreat.ka Go.Proofs.YtpcllegjnbeppaaGreat.ya Go.Proofs.YtpcllegjnbeppaaGreat.yb Go.Proofs.YtpcllegjnbeppaaGreat.yc Go.Proofs.YtpcllegjnbeppaaGreat.yd Go.Proofs.YtpcllegjnbeppaaGreat.ye Go.Proofs.YtpcllegjnbeppaaGreat.yf Go.Proofs.YtpcllegjnbeppaaGreat.yg Go.Proofs.YtpcllegjnbeppaaGreat.yi Go.Proofs.YtpcllegjnbeppaaGreat.yk Go.Proofs.YtpcllegjnbeppaaGreat.yl Go.Proofs.YtpcllegjnbeppaaGreat.ym
open Go.Proofs.YtpcllegjnbeppaaGreat.tqa Go.Proofs.YtpcllegjnbeppaaGreat.tba Go.Proofs.YtpcllegjnbeppaaGreat.tbb Go.Proofs.YtpcllegjnbeppaaGreat.tbc Go.Proofs.YtpcllegjnbeppaaGreat.tbd Go.Proofs.YtpcllegjnbeppaaGreat.tbe Go.Proofs.YtpcllegjnbeppaaGreat.tbf
open Go.Proofs.YtpcllegjnbeppaaGreat.tqb (over keyC keyNo kindT kindT_size spaceT spaceT_size key_is)
open Go.Proofs.YtpcllegjnbeppaaGreat.ea Go.Proofs.YtpcllegjnbeppaaGreat.eb Go.Proofs.YtpcllegjnbeppaaGreat.ec Go.Proofs.YtpcllegjnbeppaaGreat.ed Go.Proofs.YtpcllegjnbeppaaGreat.ee
set_option linter.unusedVariables false
set_option linter.unusedSimpArgs false
theorem of_drew {V w : World} (b : Below V.drew.heap.size V.drew w) : Below V.heap.size V w := ⟨b.os, b.tape, b.output, b.size, b.block⟩
theorem to_drew {n : Nat} {a V : World} (b : Below n a V) : Below n a V.drew := ⟨b.os, b.tape, b.output, b.size, b.block⟩
theorem at0_le {s : S} (h : OkS s) (k : ByteArray) : at0 k (now s) ≤ 1048656 := by
  unfold at0
  cases hr : rget k (now s) with
  | none => simp
  | some d =>
    have := h.now _ (get_mem hr)
    have h1 : k.size ≤ 64 := this.2.1
    have h2 : d.size ≤ 1048576 := this.2.2
    simp only [cnt]; omega
end Go.Proofs.YtpcllegjnbeppaaGreat.ef

namespace Go.Proofs.YtpcllegjnbeppaaGreat.eg
open Go.RowKit Go.PlainAid Go.Maps Go.Shelf
open Go.Proofs.YtpcllegjnbeppaaGreat.kp Go.Proofs.YtpcllegjnbeppaaGreat.ka Go.Proofs.YtpcllegjnbeppaaGreat.ya Go.Proofs.YtpcllegjnbeppaaGreat.yb Go.Proofs.YtpcllegjnbeppaaGreat.yc Go.Proofs.YtpcllegjnbeppaaGreat.yd Go.Proofs.YtpcllegjnbeppaaGreat.ye Go.Proofs.YtpcllegjnbeppaaGreat.yf Go.Proofs.YtpcllegjnbeppaaGreat.yg Go.Proofs.YtpcllegjnbeppaaGreat.yi Go.Proofs.YtpcllegjnbeppaaGreat.yj Go.Proofs.YtpcllegjnbeppaaGreat.yk Go.Proofs.YtpcllegjnbeppaaGreat.yl Go.Proofs.YtpcllegjnbeppaaGreat.ym
open Go.Proofs.YtpcllegjnbeppaaGreat.tqa Go.Proofs.YtpcllegjnbeppaaGreat.tba Go.Proofs.YtpcllegjnbeppaaGreat.tbb Go.Proofs.YtpcllegjnbeppaaGreat.tbc Go.Proofs.YtpcllegjnbeppaaGreat.tbd Go.Proofs.YtpcllegjnbeppaaGreat.tbe Go.Proofs.YtpcllegjnbeppaaGreat.tbf
open Go.Proofs.YtpcllegjnbeppaaGreat.tqb (over keyC keyNo kindT kindT_size spaceT spaceT_size key_is)
open Go.Proofs.YtpcllegjnbeppaaGreat.ea Go.Proofs.YtpcllegjnbeppaaGreat.eb Go.Proofs.YtpcllegjnbeppaaGreat.ec Go.Proofs.YtpcllegjnbeppaaGreat.ed Go.Proofs.YtpcllegjnbeppaaGreat.ee Go.Proofs.YtpcllegjnbeppaaGreat.ef
set_option linter.unusedVariables false
set_option linter.unusedSimpArgs false
theorem put_len (s : S) (k d : ByteArray) : (putS s k d).2.dur = s.dur ∧ (putS s k d).2.pend.length ≤ s.pend.length + 1 := by
  unfold putS
  split
  · exact ⟨rfl, by simp⟩
  · split
    · split
      · exact ⟨rfl, by simp⟩
      · rw [dur_spend, pend_spend]; exact ⟨rfl, by simp [addW]⟩
    · exact ⟨rfl, by simp⟩
theorem bput_len (s : S) (sp k n : Int) (p : ByteArray) : (bputS s sp k n p).2.dur = s.dur ∧ (bputS s sp k n p).2.pend.length ≤ s.pend.length + 1 := by
  unfold bputS
  split
  · split
    · exact put_len _ _ _
    · exact ⟨rfl, by simp⟩
  · exact ⟨rfl, by simp⟩
end Go.Proofs.YtpcllegjnbeppaaGreat.eg

namespace Go.Proofs.YtpcllegjnbeppaaGreat.eh
open Go.RowKit Go.PlainAid Go.Maps Go.Shelf
open Go.Proofs.YtpcllegjnbeppaaGreat.kp Go.Proofs.YtpcllegjnbeppaaGreat.ka Go.Proofs.YtpcllegjnbeppaaGreat.ya Go.Proofs.YtpcllegjnbeppaaGreat.yb Go.Proofs.YtpcllegjnbeppaaGreat.yc Go.Proofs.YtpcllegjnbeppaaGreat.yd Go.Proofs.YtpcllegjnbeppaaGreat.ye Go.Proofs.YtpcllegjnbeppaaGreat.yf Go.Proofs.YtpcllegjnbeppaaGreat.yg Go.Proofs.YtpcllegjnbeppaaGreat.yi Go.Proofs.YtpcllegjnbeppaaGreat.yj Go.Proofs.YtpcllegjnbeppaaGreat.yk Go.Proofs.YtpcllegjnbeppaaGreat.yl Go.Proofs.YtpcllegjnbeppaaGreat.ym
open Go.Proofs.YtpcllegjnbeppaaGreat.tqa Go.Proofs.YtpcllegjnbeppaaGreat.tba Go.Proofs.YtpcllegjnbeppaaGreat.tbb Go.Proofs.YtpcllegjnbeppaaGreat.tbc Go.Proofs.YtpcllegjnbeppaaGreat.tbd Go.Proofs.YtpcllegjnbeppaaGreat.tbe Go.Proofs.YtpcllegjnbeppaaGreat.tbf
open Go.Proofs.YtpcllegjnbeppaaGreat.tqb (over keyC keyNo kindT kindT_size spaceT spaceT_size key_is)
open Go.Proofs.YtpcllegjnbeppaaGreat.ea Go.Proofs.YtpcllegjnbeppaaGreat.eb Go.Proofs.YtpcllegjnbeppaaGreat.ec Go.Proofs.YtpcllegjnbeppaaGreat.ed Go.Proofs.YtpcllegjnbeppaaGreat.ee Go.Proofs.YtpcllegjnbeppaaGreat.ef Go.Proofs.YtpcllegjnbeppaaGreat.eg
set_option linter.unusedVariables false
set_option linter.unusedSimpArgs false
-- an engine in memory
def ecs (g : Nat) (lv : Value) (e : E) : Array Value := #[.pointer (some ⟨g, 0, none⟩), .int .i64 e.sp, .int .i64 e.age, .int .i64 e.wd, lv, .int .i64 e.nd]
structure OkE (e : E) : Prop where
  sp : okI e.sp
  wd : 1 ≤ e.wd ∧ e.wd ≤ 32
  len : e.l.length ≤ 1099511627776
  sz : ∀ x ∈ e.l, x.size ≤ 4096
structure En (ge g bn bd : Nat) (pv lv : Value) (s : S) (e : E) (w : World) : Prop where
  st : Sr 0 g bn bd pv s w
  row : w.heap[ge]? = some (.cells (ecs g lv e) 141 (0, 0))
  lr : w.ownsRow 0 9 1 lv e.l.length (e.l.map Value.string)
  ok : OkE e
def Ef (ge g bn bd : Nat) (pv lv : Value) (k : Nat) : Prop := Fr g bn bd pv k ∨ k = ge ∨ some k = lv.ownBlock
def Re (ge g bn bd : Nat) (pv lv : Value) (s : S) (e : E) (w w' : World) : Prop := ∃ pv' lv', En ge g bn bd pv' lv' s e w' ∧ Kp (Ef ge g bn bd pv lv) w w' ∧ ∀ k, Ef ge g bn bd pv' lv' k → Ef ge g bn bd pv lv k ∨ w.heap.size ≤ k
theorem own_zero {w : World} {B t z n : Nat} {v : Value} {xs : List Value} (o : w.ownsRow B t z v n xs) : w.ownsRow 0 t z v n xs := by
  refine ⟨o.1, ?_⟩
  rcases o.2 with h | ⟨g, cap, cur, e, hb, rest⟩
  · exact .inl h
  · exact .inr ⟨g, cap, cur, e, Nat.zero_le _, rest⟩
theorem sr_zero {B g bn bd : Nat} {pv : Value} {s : S} {w : World} (h : Sr B g bn bd pv s w) : Sr 0 g bn bd pv s w := ⟨h.row, h.mn, h.md, h.ne, own_zero h.pr, ⟨Nat.zero_le _, Nat.zero_le _, Nat.zero_le _⟩, h.ok⟩
section
variable {ge g bn bd : Nat} {pv lv : Value} {s : S} {e : E} {w w' : World}
theorem En.lt (h : En ge g bn bd pv lv s e w) : ∀ k, Ef ge g bn bd pv lv k → k < w.heap.size := by
  rintro k (h1 | h1 | h1)
  · exact (sr_in h.st k h1).1
  · rw [h1]; exact (Array.getElem?_eq_some_iff.1 h.row).1
  · exact (h.lr.lt _ h1.symm).2
theorem En.keep {A : Nat → Prop} (h : En ge g bn bd pv lv s e w) (k : Kp A w w') (hn : ∀ j, Ef ge g bn bd pv lv j → ¬ A j) : En ge g bn bd pv lv s e w' :=
  ⟨sr_keep h.st k (fun j hj => hn j (.inl hj)), (k.block _ (h.lt ge (.inr (.inl rfl))) (hn ge (.inr (.inl rfl)))).trans h.row, own_kp h.lr k (fun j hj => hn j (.inr (.inr hj))), h.ok⟩
theorem En.later (h : En ge g bn bd pv lv s e w) (b : Below w.heap.size w w') : En ge g bn bd pv lv s e w' := h.keep (Kp.of_below (A := fun _ => False) b) (fun _ _ e => e)
theorem Re.refl (h : En ge g bn bd pv lv s e w) : Re ge g bn bd pv lv s e w w := ⟨pv, lv, h, Kp.refl _ _, fun k hk => .inl hk⟩
theorem Re.later {s' : S} {e' : E} (h : En ge g bn bd pv lv s' e' w') (b : Below w.heap.size w w') : Re ge g bn bd pv lv s' e' w w' := ⟨pv, lv, h, Kp.of_below b, fun k hk => .inl hk⟩
theorem Re.pre {w1 : World} (b : Below w.heap.size w w1) (r : Re ge g bn bd pv lv s e w1 w') : Re ge g bn bd pv lv s e w w' := by
  obtain ⟨p, l, h, k, n⟩ := r
  exact ⟨p, l, h, (Kp.of_below b).trans k, fun j hj => (n j hj).imp id (fun x => Nat.le_trans b.size x)⟩
theorem Re.trans {s' : S} {e' : E} {w1 w2 : World} (r : Re ge g bn bd pv lv s e w w1) (q : ∀ p l, En ge g bn bd p l s e w1 → Re ge g bn bd p l s' e' w1 w2) : Re ge g bn bd pv lv s' e' w w2 := by
  obtain ⟨p1, l1, h1, k1, n1⟩ := r
  obtain ⟨p2, l2, h2, k2, n2⟩ := q p1 l1 h1
  refine ⟨p2, l2, h2, ⟨k2.os.trans k1.os, k2.tape.trans k1.tape, k2.output.trans k1.output, Nat.le_trans k1.size k2.size, fun j hj hn => ?_⟩, fun j hj => ?_⟩
  · refine (k2.block j (Nat.lt_of_lt_of_le hj k1.size) fun hf => ?_).trans (k1.block j hj hn)
    rcases n1 j hf with h | h
    · exact hn h
    · omega
  · rcases n2 j hj with h | h
    · exact n1 j h
    · exact .inr (Nat.le_trans k1.size h)
theorem Re.post {w1 : World} (r : Re ge g bn bd pv lv s e w w1) (b : Below w1.heap.size w1 w') : Re ge g bn bd pv lv s e w w' := r.trans (fun p l h => Re.later (h.later b) b)
theorem En.c0 (h : En ge g bn bd pv lv s e w) : w.cell? ⟨ge, 0, none⟩ = some (.pointer (some ⟨g, 0, none⟩)) := cell_of_row _ _ 0 _ _ _ h.row
theorem En.c1 (h : En ge g bn bd pv lv s e w) : w.cell? ⟨ge, 1, none⟩ = some (.int .i64 e.sp) := cell_of_row _ _ 1 _ _ _ h.row
theorem En.c2 (h : En ge g bn bd pv lv s e w) : w.cell? ⟨ge, 2, none⟩ = some (.int .i64 e.age) := cell_of_row _ _ 2 _ _ _ h.row
theorem En.c3 (h : En ge g bn bd pv lv s e w) : w.cell? ⟨ge, 3, none⟩ = some (.int .i64 e.wd) := cell_of_row _ _ 3 _ _ _ h.row
theorem En.c4 (h : En ge g bn bd pv lv s e w) : w.cell? ⟨ge, 4, none⟩ = some lv := cell_of_row _ _ 4 _ _ _ h.row
theorem En.c5 (h : En ge g bn bd pv lv s e w) : w.cell? ⟨ge, 5, none⟩ = some (.int .i64 e.nd) := cell_of_row _ _ 5 _ _ _ h.row
theorem En.fz (h : En ge g bn bd pv lv s e w) (i : Nat) : w.frozen? ⟨ge, i, none⟩ = false := frozen_of_row _ _ i _ _ h.row
theorem En.reads (h : En ge g bn bd pv lv s e w) : ReadsT w lv e.l := own_readsT h.lr
theorem En.form (h : En ge g bn bd pv lv s e w) : ∃ a c, lv = .slice a e.l.length c := own_formS h.lr
end
end Go.Proofs.YtpcllegjnbeppaaGreat.eh

namespace Go.Proofs.YtpcllegjnbeppaaGreat.eh
open Go.RowKit Go.PlainAid Go.Maps Go.Shelf
open Go.Proofs.YtpcllegjnbeppaaGreat.kp Go.Proofs.YtpcllegjnbeppaaGreat.ka Go.Proofs.YtpcllegjnbeppaaGreat.ya Go.Proofs.YtpcllegjnbeppaaGreat.yb Go.Proofs.YtpcllegjnbeppaaGreat.yc Go.Proofs.YtpcllegjnbeppaaGreat.yd Go.Proofs.YtpcllegjnbeppaaGreat.ye Go.Proofs.YtpcllegjnbeppaaGreat.yf Go.Proofs.YtpcllegjnbeppaaGreat.yg Go.Proofs.YtpcllegjnbeppaaGreat.yi Go.Proofs.YtpcllegjnbeppaaGreat.yj Go.Proofs.YtpcllegjnbeppaaGreat.yk Go.Proofs.YtpcllegjnbeppaaGreat.yl Go.Proofs.YtpcllegjnbeppaaGreat.ym
open Go.Proofs.YtpcllegjnbeppaaGreat.tqa Go.Proofs.YtpcllegjnbeppaaGreat.tba Go.Proofs.YtpcllegjnbeppaaGreat.tbb Go.Proofs.YtpcllegjnbeppaaGreat.tbc Go.Proofs.YtpcllegjnbeppaaGreat.tbd Go.Proofs.YtpcllegjnbeppaaGreat.tbe Go.Proofs.YtpcllegjnbeppaaGreat.tbf
open Go.Proofs.YtpcllegjnbeppaaGreat.tqb (over keyC keyNo kindT kindT_size spaceT spaceT_size key_is)
open Go.Proofs.YtpcllegjnbeppaaGreat.ea Go.Proofs.YtpcllegjnbeppaaGreat.eb Go.Proofs.YtpcllegjnbeppaaGreat.ec Go.Proofs.YtpcllegjnbeppaaGreat.ed Go.Proofs.YtpcllegjnbeppaaGreat.ee Go.Proofs.YtpcllegjnbeppaaGreat.ef Go.Proofs.YtpcllegjnbeppaaGreat.eg Go.Proofs.YtpcllegjnbeppaaGreat.eh
set_option linter.unusedVariables false
set_option linter.unusedSimpArgs false
section
variable {ge g bn bd : Nat} {pv lv : Value} {s : S} {e : E} {w w' : World}
theorem fr_ge (h : Sr 0 g bn bd pv s w) {cur : Array Value} {f : Nat × Nat} (hr : w.heap[ge]? = some (.cells cur 141 f)) : ¬ Fr g bn bd pv ge := by
  rintro (e | e | e | e)
  · subst e
    have := h.row
    unfold St at this
    rw [this] at hr
    injection hr with hr
    injection hr with _ hr _
    exact absurd hr (by decide)
  · exact h.mn.ne hr e.symm
  · exact h.md.ne hr e.symm
  · exact own_tag h.pr hr (by decide) e
theorem En.nge (h : En ge g bn bd pv lv s e w) : ¬ Fr g bn bd pv ge := fr_ge h.st h.row
theorem En.nlv (h : En ge g bn bd pv lv s e w) : ∀ j, Fr g bn bd pv j → some j ≠ lv.ownBlock := row_apart (by decide) (by decide) h.st h.lr
theorem En.glv (h : En ge g bn bd pv lv s e w) : some ge ≠ lv.ownBlock := own_tag h.lr h.row (by decide)
-- the store turned, the engine as it was
theorem En.rn {s' : S} (h : En ge g bn bd pv lv s e w) (r : Rn 0 g bn bd pv s' w w') : Re ge g bn bd pv lv s' e w w' := by
  obtain ⟨p, h1, k, n⟩ := r
  refine ⟨p, lv, ⟨h1, (k.block _ (h.lt ge (.inr (.inl rfl))) h.nge).trans h.row, own_kp h.lr k (fun j hj hf => h.nlv j hf hj), h.ok⟩, k.mono (fun j hj => .inl hj), ?_⟩
  rintro j ((hj | hj | hj | hj) | hj | hj)
  · exact .inl (.inl (.inl hj))
  · exact .inl (.inl (.inr (.inl hj)))
  · exact .inl (.inl (.inr (.inr (.inl hj))))
  · rcases n j hj with h2 | h2
    · exact .inl (.inl (.inr (.inr (.inr h2))))
    · exact .inr h2
  · exact .inl (.inr (.inl hj))
  · exact .inl (.inr (.inr hj))
theorem ecs_set4 (g : Nat) (lv v : Value) (e : E) (l : List ByteArray) : (ecs g lv e).setIfInBounds 4 v = ecs g v { e with l := l } := rfl
theorem ecs_set5 (g : Nat) (lv : Value) (e : E) (n : Int) : (ecs g lv e).setIfInBounds 5 (.int .i64 n) = ecs g lv { e with nd := n } := rfl
theorem En.grow {w5 : World} {o : Obj} {x : ByteArray} {g5 c5 H : Nat} (h : En ge g bn bd pv lv s e w) (hx : x.size ≤ 4096) (hl : e.l.length + 1 ≤ 1099511627776)
    (ho : w5.ownsRow 0 9 1 (.slice (some ⟨g5, 0, none⟩) (e.l.length + 1) c5) (e.l.length + 1) (e.l.map Value.string ++ [.string x])) (hg : (w.alloc o).grownBy w5 lv.ownBlock) (hlies : lv.ownBlock = some g5 ∨ g5 = H) (hH : w.heap.size ≤ H) :
    Re ge g bn bd pv lv s { e with l := e.l ++ [x] } w (w5.setCell ⟨ge, 4, none⟩ (.slice (some ⟨g5, 0, none⟩) (e.l.length + 1) c5)) ∧ w5.cell? ⟨ge, 4, none⟩ = some lv ∧ w5.frozen? ⟨ge, 4, none⟩ = false := by
  have b1 := new1 w o
  have h1 := h.later b1
  have k2 : Kp (fun k => some k = lv.ownBlock) (w.alloc o) w5 := ⟨hg.os, hg.tape, hg.output, hg.size, fun j hj hn => hg.block j hj (fun e => hn e)⟩
  have hs5 : Sr 0 g bn bd pv s w5 := sr_keep h1.st k2 (fun j hj => h1.nlv j hj)
  have hr5 : w5.heap[ge]? = some (.cells (ecs g lv e) 141 (0, 0)) := (k2.block _ (h1.lt ge (.inr (.inl rfl))) h1.glv).trans h1.row
  have k3 : Kp (fun k => k = ge) w5 (w5.setCell ⟨ge, 4, none⟩ (.slice (some ⟨g5, 0, none⟩) (e.l.length + 1) c5)) := Kp.setCell _ _ _ _ rfl
  have hr6 := heap_setCell_same _ _ 4 _ _ (.slice (some ⟨g5, 0, none⟩) (e.l.length + 1) c5) hr5
  refine ⟨⟨pv, .slice (some ⟨g5, 0, none⟩) (e.l.length + 1) c5, ⟨sr_keep hs5 k3 (fun j hj e => by subst e; exact fr_ge hs5 hr5 hj), hr6, ?_, ?_⟩, ?_, ?_⟩, cell_of_row _ _ 4 _ _ _ hr5, frozen_of_row _ _ 4 _ _ hr5⟩
  · show World.ownsRow _ _ _ _ _ (e.l ++ [x]).length ((e.l ++ [x]).map Value.string)
    rw [List.length_append, List.map_append]
    exact own_kp ho k3 (fun j hj e => by subst e; exact own_tag ho hr5 (by decide) hj)
  · exact ⟨h.ok.sp, h.ok.wd, by show (e.l ++ [x]).length ≤ _; rw [List.length_append]; simpa using hl, fun y hy => by
      rcases List.mem_append.1 hy with hy | hy
      · exact h.ok.sz y hy
      · rw [List.mem_singleton.1 hy]; exact hx⟩
  · refine ((Kp.of_below b1).trans (k2.mono fun k hk => .inr (.inr hk))).trans (k3.mono fun k hk => .inr (.inl hk))
  · rintro k (hk | hk | hk)
    · exact .inl (.inl hk)
    · exact .inl (.inr (.inl hk))
    · have hk : k = g5 := Option.some.inj hk
      subst hk
      rcases hlies with h2 | h2
      · exact .inl (.inr (.inr h2.symm))
      · exact .inr (by omega)
theorem En.drew (h : En ge g bn bd pv lv s e w) : En ge g bn bd pv lv s e w.drew := h.later (to_drew (Below.refl _ _))
end
end Go.Proofs.YtpcllegjnbeppaaGreat.eh
namespace Go.Proofs.YtpcllegjnbeppaaGreat.ei
open Go.RowKit Go.PlainAid Go.Maps Go.Shelf
open Go.Proofs.YtpcllegjnbeppaaGreat.kp Go.Proofs.YtpcllegjnbeppaaGreat.ka Go.Proofs.YtpcllegjnbeppaaGreat.ya Go.Proofs.YtpcllegjnbeppaaGreat.yb Go.Proofs.YtpcllegjnbeppaaGreat.yc Go.Proofs.YtpcllegjnbeppaaGreat.yd Go.Proofs.YtpcllegjnbeppaaGreat.ye Go.Proofs.YtpcllegjnbeppaaGreat.yf Go.Proofs.YtpcllegjnbeppaaGreat.yg Go.Proofs.YtpcllegjnbeppaaGreat.yi Go.Proofs.YtpcllegjnbeppaaGreat.yj Go.Proofs.YtpcllegjnbeppaaGreat.yk Go.Proofs.YtpcllegjnbeppaaGreat.yl Go.Proofs.YtpcllegjnbeppaaGreat.ym
open Go.Proofs.YtpcllegjnbeppaaGreat.tqa Go.Proofs.YtpcllegjnbeppaaGreat.tba Go.Proofs.YtpcllegjnbeppaaGreat.tbb Go.Proofs.YtpcllegjnbeppaaGreat.tbc Go.Proofs.YtpcllegjnbeppaaGreat.tbd Go.Proofs.YtpcllegjnbeppaaGreat.tbe Go.Proofs.YtpcllegjnbeppaaGreat.tbf
open Go.Proofs.YtpcllegjnbeppaaGreat.tqb (over keyC keyNo kindT kindT_size spaceT spaceT_size key_is)
open Go.Proofs.YtpcllegjnbeppaaGreat.ea Go.Proofs.YtpcllegjnbeppaaGreat.eb Go.Proofs.YtpcllegjnbeppaaGreat.ec Go.Proofs.YtpcllegjnbeppaaGreat.ed Go.Proofs.YtpcllegjnbeppaaGreat.ee Go.Proofs.YtpcllegjnbeppaaGreat.ef Go.Proofs.YtpcllegjnbeppaaGreat.eg Go.Proofs.YtpcllegjnbeppaaGreat.eh
set_option linter.unusedVariables false
set_option linter.unusedSimpArgs false
theorem step_clone {ops : Array Oper} {o : Oper} {a : Act} {w : World} {K : Act → World → Prop} {Q : Exit → Act → World → Prop} {E : Prop} (hg : o.guard = none) (k d : Nat)
    (hop : o.op = .call { callee := .value (.func 78), args := #[.tmp k], argTypes := #[9] }) (hd : o.dst = some d) (x : ByteArray)
    (hy : a.tmps[k]?.getD undef = .string x) (hx : x.size ≤ 140737488355328)
    (hK : ∀ w', Below w.heap.size w w' → K { tmps := a.tmps.setIfInBounds d (.string x), defers := a.defers } w') :
    if Region.wanted o (yielded ops a.tmps) = true then Oper.wp Tryz.prog o a w K Q else E := by
  have hw : Region.wanted o (yielded ops a.tmps) = true := by simp [Region.wanted, hg]
  rw [if_pos hw]
  have C := cloneC x w hx
  have HKK : Hid _ := hK
  clear hK
  unfold Oper.wp execOp
  simp only [hop]
  go_simp
  refine C.mono ?_
  rintro e w' ⟨rfl, h1⟩
  exact HKK.out _ h1
def addS (s : S) (e : E) (xs : List ByteArray) : Int × S × E :=
  if batchE xs e.l.length ≠ 0 then (batchE xs e.l.length, s, e)
  else if fitU (now s) e.sp e.l.length xs (tot (now s)) ≤ s.cap then
    (if (putsS e.sp e.l.length xs s).1 = 0 then (0, (putsS e.sp e.l.length xs s).2, { e with l := e.l ++ xs }) else ((putsS e.sp e.l.length xs s).1, (putsS e.sp e.l.length xs s).2, e))
  else (122, s, e)
theorem app_is (s : S) (e : E) (xs : List ByteArray) : appS s e xs = if gone s e then (124, s, e) else addS s e xs := rfl
end Go.Proofs.YtpcllegjnbeppaaGreat.ei

namespace Go.Proofs.YtpcllegjnbeppaaGreat.ej
open Go.RowKit Go.PlainAid Go.Maps Go.Shelf
open Go.Proofs.YtpcllegjnbeppaaGreat.kp Go.Proofs.YtpcllegjnbeppaaGreat.ka Go.Proofs.YtpcllegjnbeppaaGreat.ya Go.Proofs.YtpcllegjnbeppaaGreat.yb Go.Proofs.YtpcllegjnbeppaaGreat.yc Go.Proofs.YtpcllegjnbeppaaGreat.yd Go.Proofs.YtpcllegjnbeppaaGreat.ye Go.Proofs.YtpcllegjnbeppaaGreat.yf Go.Proofs.YtpcllegjnbeppaaGreat.yg Go.Proofs.YtpcllegjnbeppaaGreat.yi Go.Proofs.YtpcllegjnbeppaaGreat.yj Go.Proofs.YtpcllegjnbeppaaGreat.yk Go.Proofs.YtpcllegjnbeppaaGreat.yl Go.Proofs.YtpcllegjnbeppaaGreat.ym
open Go.Proofs.YtpcllegjnbeppaaGreat.tqa Go.Proofs.YtpcllegjnbeppaaGreat.tba Go.Proofs.YtpcllegjnbeppaaGreat.tbb Go.Proofs.YtpcllegjnbeppaaGreat.tbc Go.Proofs.YtpcllegjnbeppaaGreat.tbd Go.Proofs.YtpcllegjnbeppaaGreat.tbe Go.Proofs.YtpcllegjnbeppaaGreat.tbf
open Go.Proofs.YtpcllegjnbeppaaGreat.tqb (over keyC keyNo kindT kindT_size spaceT spaceT_size key_is)
open Go.Proofs.YtpcllegjnbeppaaGreat.ea Go.Proofs.YtpcllegjnbeppaaGreat.eb Go.Proofs.YtpcllegjnbeppaaGreat.ec Go.Proofs.YtpcllegjnbeppaaGreat.ed Go.Proofs.YtpcllegjnbeppaaGreat.ee Go.Proofs.YtpcllegjnbeppaaGreat.ef Go.Proofs.YtpcllegjnbeppaaGreat.eg Go.Proofs.YtpcllegjnbeppaaGreat.eh Go.Proofs.YtpcllegjnbeppaaGreat.ei
set_option linter.unusedVariables false
set_option linter.unusedSimpArgs false
section
variable {ge g bn bd : Nat} {pv lv : Value} {s : S} {e : E} {w : World}
-- Leaf
def leafV (l : List ByteArray) (i : Int) : ByteArray × Int := if 0 ≤ i ∧ i < l.length then (l.getD i.toNat ByteArray.empty, 0) else (⟨#[]⟩, 81)
-- count
def cntN (nd n : Int) : Int := wrap64 (nd + max (n - 1) 0)
theorem en_nd (h : En ge g bn bd pv lv s e w) (n : Int) : Re ge g bn bd pv lv s { e with nd := n } w (w.setCell ⟨ge, 5, none⟩ (.int .i64 n)) := by
  have k : Kp (fun k => k = ge) w (w.setCell ⟨ge, 5, none⟩ (.int .i64 n)) := Kp.setCell _ _ _ _ rfl
  have hr := heap_setCell_same _ _ 5 _ _ (.int .i64 n) h.row
  exact ⟨pv, lv, ⟨sr_keep h.st k (fun j hj e => by subst e; exact h.nge hj), hr, own_kp h.lr k (fun j hj e => by subst e; exact h.glv hj), ⟨h.ok.sp, h.ok.wd, h.ok.len, h.ok.sz⟩⟩, k.mono (fun j hj => .inr (.inl hj)), fun j hj => .inl hj⟩
end
end Go.Proofs.YtpcllegjnbeppaaGreat.ej

namespace Go.Proofs.YtpcllegjnbeppaaGreat.ek
open Go.RowKit Go.PlainAid Go.Maps Go.Shelf
open Go.Proofs.YtpcllegjnbeppaaGreat.kp Go.Proofs.YtpcllegjnbeppaaGreat.ka Go.Proofs.YtpcllegjnbeppaaGreat.ya Go.Proofs.YtpcllegjnbeppaaGreat.yb Go.Proofs.YtpcllegjnbeppaaGreat.yc Go.Proofs.YtpcllegjnbeppaaGreat.yd Go.Proofs.YtpcllegjnbeppaaGreat.ye Go.Proofs.YtpcllegjnbeppaaGreat.yf Go.Proofs.YtpcllegjnbeppaaGreat.yg Go.Proofs.YtpcllegjnbeppaaGreat.yi Go.Proofs.YtpcllegjnbeppaaGreat.yj Go.Proofs.YtpcllegjnbeppaaGreat.yk Go.Proofs.YtpcllegjnbeppaaGreat.yl Go.Proofs.YtpcllegjnbeppaaGreat.ym
open Go.Proofs.YtpcllegjnbeppaaGreat.tqa Go.Proofs.YtpcllegjnbeppaaGreat.tba Go.Proofs.YtpcllegjnbeppaaGreat.tbb Go.Proofs.YtpcllegjnbeppaaGreat.tbc Go.Proofs.YtpcllegjnbeppaaGreat.tbd Go.Proofs.YtpcllegjnbeppaaGreat.tbe Go.Proofs.YtpcllegjnbeppaaGreat.tbf
open Go.Proofs.YtpcllegjnbeppaaGreat.tqb (over keyC keyNo kindT kindT_size spaceT spaceT_size key_is)
open Go.Proofs.YtpcllegjnbeppaaGreat.ea Go.Proofs.YtpcllegjnbeppaaGreat.eb Go.Proofs.YtpcllegjnbeppaaGreat.ec Go.Proofs.YtpcllegjnbeppaaGreat.ed Go.Proofs.YtpcllegjnbeppaaGreat.ee Go.Proofs.YtpcllegjnbeppaaGreat.ef Go.Proofs.YtpcllegjnbeppaaGreat.eg Go.Proofs.YtpcllegjnbeppaaGreat.eh Go.Proofs.YtpcllegjnbeppaaGreat.ei Go.Proofs.YtpcllegjnbeppaaGreat.ej
open Go.Proofs.YtpcllegjnbeppaaGreat.cp (okA cast_pow wrap_is okA_form)
set_option linter.unusedVariables false
set_option linter.unusedSimpArgs false
section
variable {ge g bn bd : Nat} {pv lv : Value} {s : S} {e : E} {w : World}
theorem reads_take {a : Option Addr} {n c k : Nat} {xs : List ByteArray} (h : ReadsT w (.slice a n c) xs) (hk : k ≤ xs.length) (c' : Nat) (hc : k ≤ c') : ReadsT w (.slice a k c') (xs.take k) := by
  obtain ⟨a', cap', e', h1, h0⟩ := h
  injection e' with e1 e2 e3
  subst e1 e2 e3
  have hl : (xs.take k).length = k := by rw [List.length_take]; omega
  refine ⟨a, c', by rw [hl], by rw [hl]; exact hc, ?_⟩
  rcases h0 with h0 | ⟨b, off, rfl, hh⟩
  · left; rw [hl]; omega
  · by_cases hk0 : k = 0
    · left; rw [hl]; exact hk0
    · right
      refine ⟨b, off, rfl, fun i hi => ?_⟩
      rw [hl] at hi
      rw [hh i (by omega), List.getD, List.getD, List.getElem?_take, if_pos hi]
end
end Go.Proofs.YtpcllegjnbeppaaGreat.ek

namespace Go.Proofs.YtpcllegjnbeppaaGreat.el
open Go.RowKit Go.PlainAid Go.Maps Go.Shelf
open Go.Proofs.YtpcllegjnbeppaaGreat.kp Go.Proofs.YtpcllegjnbeppaaGreat.ka Go.Proofs.YtpcllegjnbeppaaGreat.ya Go.Proofs.YtpcllegjnbeppaaGreat.yb Go.Proofs.YtpcllegjnbeppaaGreat.yc Go.Proofs.YtpcllegjnbeppaaGreat.yd Go.Proofs.YtpcllegjnbeppaaGreat.ye Go.Proofs.YtpcllegjnbeppaaGreat.yf Go.Proofs.YtpcllegjnbeppaaGreat.yg Go.Proofs.YtpcllegjnbeppaaGreat.yi Go.Proofs.YtpcllegjnbeppaaGreat.yj Go.Proofs.YtpcllegjnbeppaaGreat.yk Go.Proofs.YtpcllegjnbeppaaGreat.yl Go.Proofs.YtpcllegjnbeppaaGreat.ym
open Go.Proofs.YtpcllegjnbeppaaGreat.tqa Go.Proofs.YtpcllegjnbeppaaGreat.tba Go.Proofs.YtpcllegjnbeppaaGreat.tbb Go.Proofs.YtpcllegjnbeppaaGreat.tbc Go.Proofs.YtpcllegjnbeppaaGreat.tbd Go.Proofs.YtpcllegjnbeppaaGreat.tbe Go.Proofs.YtpcllegjnbeppaaGreat.tbf
open Go.Proofs.YtpcllegjnbeppaaGreat.tqb (over keyC keyNo kindT kindT_size spaceT spaceT_size key_is)
open Go.Proofs.YtpcllegjnbeppaaGreat.ea Go.Proofs.YtpcllegjnbeppaaGreat.eb Go.Proofs.YtpcllegjnbeppaaGreat.ec Go.Proofs.YtpcllegjnbeppaaGreat.ed Go.Proofs.YtpcllegjnbeppaaGreat.ee Go.Proofs.YtpcllegjnbeppaaGreat.ef Go.Proofs.YtpcllegjnbeppaaGreat.eg Go.Proofs.YtpcllegjnbeppaaGreat.eh Go.Proofs.YtpcllegjnbeppaaGreat.ei Go.Proofs.YtpcllegjnbeppaaGreat.ej Go.Proofs.YtpcllegjnbeppaaGreat.ek
open Go.Proofs.YtpcllegjnbeppaaGreat.cp (okA cast_pow wrap_is i64)
set_option linter.unusedVariables false
set_option linter.unusedSimpArgs false
section
variable {ge g bn bd : Nat} {pv lv : Value} {s : S} {e : E} {w : World}
end
-- the law's options
def wq (x : Int) : Int := if 1 ≤ x ∧ x ≤ 32 then x else 32
theorem wq_ok (x : Int) : 1 ≤ wq x ∧ wq x ≤ 32 := by unfold wq; split <;> omega
end Go.Proofs.YtpcllegjnbeppaaGreat.el
