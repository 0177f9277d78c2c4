import Derived.Test.YtmindflfjocjlaaGreatRe0
namespace Go.Proofs.YtmindflfjocjlaaGreat.ea
open Go.RowKit Go.PlainAid Go.Maps Go.Shelf
open Go.Proofs.YtmindflfjocjlaaGreat.ya Go.Proofs.YtmindflfjocjlaaGreat.yc Go.Proofs.YtmindflfjocjlaaGreat.yd Go.Proofs.YtmindflfjocjlaaGreat.ye Go.Proofs.YtmindflfjocjlaaGreat.yf Go.Proofs.YtmindflfjocjlaaGreat.yi Go.Proofs.YtmindflfjocjlaaGreat.yk Go.Proofs.YtmindflfjocjlaaGreat.yl Go.Proofs.YtmindflfjocjlaaGreat.ym
open Go.Proofs.YtmindflfjocjlaaGreat.tqa Go.Proofs.YtmindflfjocjlaaGreat.tba Go.Proofs.YtmindflfjocjlaaGreat.tbb Go.Proofs.YtmindflfjocjlaaGreat.tbc Go.Proofs.YtmindflfjocjlaaGreat.tbd Go.Proofs.YtmindflfjocjlaaGreat.tbe Go.Proofs.YtmindflfjocjlaaGreat.tbf
open Go.Proofs.YtmindflfjocjlaaGreat.tqb (kindT kindT_size spaceT spaceT_size key_is)
open Go.Proofs.YtmindflfjocjlaaGreat.tlo (keys_apart bget_frame)
set_option linter.unusedVariables false
set_option linter.unusedSimpArgs false
-- leaves with their places
abbrev PL := List (Nat × ByteArray)
def enm : Nat → List ByteArray → PL
  | _, [] => []
  | n, x :: xs => (n, x) :: enm (n + 1) xs
theorem enm_len (n : Nat) (xs : List ByteArray) : (enm n xs).length = xs.length := by
  induction xs generalizing n with
  | nil => rfl
  | cons x xs ih => simp [enm, ih]
theorem enm_app (n : Nat) (xs ys : List ByteArray) : enm n (xs ++ ys) = enm n xs ++ enm (n + xs.length) ys := by
  induction xs generalizing n with
  | nil => simp [enm]
  | cons x xs ih => simp only [List.cons_append, enm, ih, List.length_cons]; rw [show n + 1 + xs.length = n + (xs.length + 1) by omega]
theorem mem_enm {n i : Nat} {x : ByteArray} {xs : List ByteArray} : (i, x) ∈ enm n xs ↔ n ≤ i ∧ xs[i - n]? = some x := by
  induction xs generalizing n with
  | nil => simp [enm]
  | cons y xs ih =>
    rw [enm, List.mem_cons, ih]
    by_cases h : i = n
    · subst h
      simp only [Nat.sub_self, List.getElem?_cons_zero, Option.some.injEq, Prod.mk.injEq, true_and]
      constructor
      · rintro (h | ⟨h, _⟩)
        · exact ⟨Nat.le_refl _, h.symm⟩
        · omega
      · rintro ⟨_, h⟩; exact .inl h.symm
    · constructor
      · rintro (h2 | ⟨h2, h3⟩)
        · exact absurd (congrArg Prod.fst h2) h
        · refine ⟨by omega, ?_⟩
          rw [show i - n = (i - (n + 1)) + 1 by omega, List.getElem?_cons_succ]; exact h3
      · rintro ⟨h2, h3⟩
        right
        refine ⟨by omega, ?_⟩
        rw [show i - n = (i - (n + 1)) + 1 by omega, List.getElem?_cons_succ] at h3; exact h3
def Asc (ps : PL) : Prop := ps.Pairwise fun p q => p.1 < q.1
theorem enm_low {n : Nat} {xs : List ByteArray} : ∀ p ∈ enm n xs, n ≤ p.1 ∧ p.1 < n + xs.length := by
  rintro ⟨i, x⟩ hp
  obtain ⟨h1, h2⟩ := mem_enm.1 hp
  have := (List.getElem?_eq_some_iff.1 h2).1
  exact ⟨h1, by omega⟩
theorem asc_enm (n : Nat) (xs : List ByteArray) : Asc (enm n xs) := by
  induction xs generalizing n with
  | nil => exact List.Pairwise.nil
  | cons x xs ih =>
    refine List.pairwise_cons.2 ⟨fun p hp => ?_, ih (n + 1)⟩
    have := enm_low p hp
    show n < p.1
    omega
def rc (sp : Int) (p : Nat × ByteArray) : Rec := (keyT sp 1 p.1, frameT 1 p.1 p.2)
def prs (sp : Int) (ps : PL) : List Rec := ps.map (rc sp)
def lw (sp : Int) (p : Nat × ByteArray) : W := ⟨false, keyT sp 1 p.1, frameT 1 p.1 p.2⟩
def Bnd (ps : PL) : Prop := ∀ p ∈ ps, p.1 ≤ 4611686018427387904 ∧ p.2.size ≤ 4096
theorem Bnd.ok {ps : PL} (h : Bnd ps) {p : Nat × ByteArray} (hp : p ∈ ps) : okI (p.1 : Int) := by have := (h p hp).1; exact ⟨by omega, by omega⟩
theorem one_ok : (1 : Int) ≤ 1 ∧ (1 : Int) ≤ 255 := by omega
theorem bnd_app {ps qs : PL} : Bnd (ps ++ qs) ↔ Bnd ps ∧ Bnd qs := by
  constructor
  · intro h; exact ⟨fun p hp => h p (by simp [hp]), fun p hp => h p (by simp [hp])⟩
  · rintro ⟨h1, h2⟩ p hp
    rcases List.mem_append.1 hp with h | h
    · exact h1 p h
    · exact h2 p h
theorem Bnd.sub {ps qs : PL} (h : Bnd qs) (hs : ps.Sublist qs) : Bnd ps := fun p hp => h p (hs.subset hp)
theorem lkey_lt {sp : Int} (hs : okI sp) {i j : Nat} (hi : okI (i : Int)) (hj : okI (j : Int)) : lt (keyT sp 1 i) (keyT sp 1 j) = decide (i < j) := by
  rw [key_lt hs one_ok hi hj, decide_eq_decide]; omega
theorem lkey_inj {sp : Int} (hs : okI sp) {i j : Nat} (hi : okI (i : Int)) (hj : okI (j : Int)) (h : keyT sp 1 i = keyT sp 1 j) : i = j := by
  have h1 := lkey_lt hs hi hj
  have h2 := lkey_lt hs hj hi
  rw [h, lt_irr] at h1
  rw [h, lt_irr] at h2
  have := of_decide_eq_false h1.symm
  have := of_decide_eq_false h2.symm
  omega
theorem srt_prs {sp : Int} (hs : okI sp) {ps : PL} (ha : Asc ps) (hb : Bnd ps) : Srt (prs sp ps) := by
  unfold Srt prs
  rw [List.pairwise_map]
  refine List.Pairwise.imp_of_mem ?_ ha
  intro p q hp hq h
  show lt (keyT sp 1 p.1) (keyT sp 1 q.1) = true
  rw [lkey_lt hs (hb.ok hp) (hb.ok hq)]
  exact decide_eq_true h
theorem ins_last {x : Rec} {r : List Rec} (h : ∀ y ∈ r, lt y.1 x.1 = true) : ins x r = r ++ [x] := by
  induction r with
  | nil => rfl
  | cons y r ih =>
    unfold ins
    rw [if_neg (by rw [lt_asym (h y (by simp))]; decide), ih (fun z hz => h z (by simp [hz]))]
    rfl
theorem put_last {k d : ByteArray} {r : List Rec} (h : ∀ y ∈ r, lt y.1 k = true) : put k d r = r ++ [(k, d)] := by
  have h1 : del k r = r := del_none (get_none.2 fun y hy => lt_ne (h y hy))
  unfold put
  rw [h1, ins_last h]
theorem put_prs {sp : Int} (hs : okI sp) {ps : PL} {i : Nat} {x : ByteArray} (hb : Bnd ps) (hi : okI (i : Int)) (h : ∀ p ∈ ps, p.1 < i) : put (keyT sp 1 i) (frameT 1 i x) (prs sp ps) = prs sp (ps ++ [(i, x)]) := by
  rw [put_last]
  · unfold prs; rw [List.map_append]; rfl
  · intro y hy
    obtain ⟨p, hp, rfl⟩ := List.mem_map.1 hy
    show lt (keyT sp 1 p.1) _ = true
    rw [lkey_lt hs (hb.ok hp) hi]
    exact decide_eq_true (h p hp)
theorem do_prs {sp : Int} (hs : okI sp) {ps : PL} {q : Nat × ByteArray} (hb : Bnd ps) (hq : okI (q.1 : Int)) (h : ∀ p ∈ ps, p.1 < q.1) : doW (prs sp ps) (lw sp q) = prs sp (ps ++ [q]) := put_prs hs hb hq h
theorem asc_app {ps qs : PL} : Asc (ps ++ qs) ↔ Asc ps ∧ Asc qs ∧ ∀ p ∈ ps, ∀ q ∈ qs, p.1 < q.1 := List.pairwise_append
theorem fold_prs {sp : Int} (hs : okI sp) : ∀ (qs ps : PL), Asc (ps ++ qs) → Bnd (ps ++ qs) → (qs.map (lw sp)).foldl doW (prs sp ps) = prs sp (ps ++ qs) := by
  intro qs
  induction qs with
  | nil => intro ps _ _; simp
  | cons q qs ih =>
    intro ps ha hb
    obtain ⟨b1, b2⟩ := bnd_app.1 hb
    obtain ⟨_, _, a3⟩ := asc_app.1 ha
    rw [List.map_cons, List.foldl_cons, do_prs hs b1 (b2.ok (by simp)) (fun p hp => a3 p hp q (by simp)), ih (ps ++ [q]) (by simpa using ha) (by simpa using hb)]
    simp
def wgt : PL → Nat
  | [] => 0
  | p :: ps => 52 + p.2.size + wgt ps
theorem wgt_app (ps qs : PL) : wgt (ps ++ qs) = wgt ps + wgt qs := by
  induction ps with
  | nil => simp [wgt]
  | cons p ps ih => simp only [List.cons_append, wgt, ih]; omega
theorem wgt_len (ps : PL) : 52 * ps.length ≤ wgt ps := by
  induction ps with
  | nil => simp [wgt]
  | cons p ps ih => simp only [List.length_cons, wgt]; omega
theorem wgt_sub {ps qs : PL} (h : ps.Sublist qs) : wgt ps ≤ wgt qs := by
  induction h with
  | slnil => exact Nat.le_refl _
  | cons a _ ih => simp only [wgt]; omega
  | cons_cons a _ ih => simp only [wgt]; omega
theorem tot_prs (sp : Int) (ps : PL) : tot (prs sp ps) = wgt ps := by
  induction ps with
  | nil => rfl
  | cons p ps ih =>
    show cnt (rc sp p) + tot (prs sp ps) = _
    rw [ih, wgt]
    have h1 := keyT_size sp 1 p.1
    have h2 := frameT_size 1 p.1 p.2
    unfold cnt rc
    simp only
    omega
theorem kd_prs {sp : Int} (hs : okI sp) (keep : ByteArray) {ps qs : PL} (ha : Asc (ps ++ qs)) (hb : Bnd (ps ++ qs)) : ∀ j, j ≤ qs.length → ∃ ys, ys.Sublist (qs.take j) ∧ kdN keep (qs.map (lw sp)) (prs sp ps) j = prs sp (ps ++ ys) := by
  intro j
  induction j with
  | zero => intro _; exact ⟨[], by simp, by simp [kdN]⟩
  | succ j ih =>
    intro hj
    obtain ⟨ys, h1, h2⟩ := ih (by omega)
    obtain ⟨q, hq⟩ : ∃ q, qs[j]? = some q := ⟨_, List.getElem?_eq_getElem (by omega)⟩
    have hx : (qs.map (lw sp))[j]? = some (lw sp q) := by rw [List.getElem?_map, hq]; rfl
    have ht : qs.take (j + 1) = qs.take j ++ [q] := by rw [List.take_add_one, hq]; rfl
    rw [kdN, hx]
    simp only
    rw [ht, h2]
    obtain ⟨b1, b2⟩ := bnd_app.1 hb
    obtain ⟨_, a2, a3⟩ := asc_app.1 ha
    split
    · refine ⟨ys ++ [q], h1.append (List.Sublist.refl _), ?_⟩
      have hqm : q ∈ qs := List.mem_of_getElem? hq
      rw [do_prs hs (bnd_app.2 ⟨b1, b2.sub (h1.trans (List.take_sublist _ _))⟩) (b2.ok hqm), List.append_assoc]
      intro p hp
      rcases List.mem_append.1 hp with h | h
      · exact a3 p h q hqm
      · have e : qs = qs.take j ++ qs.drop j := (List.take_append_drop j qs).symm
        have a4 := a2
        rw [e] at a4
        refine (asc_app.1 a4).2.2 p (h1.subset h) q ?_
        rw [List.mem_iff_getElem?]
        exact ⟨0, by rw [List.getElem?_drop]; exact hq⟩
    · exact ⟨ys, h1.trans (List.sublist_append_left _ _), rfl⟩
theorem get_prs {sp : Int} (hs : okI sp) {ps : PL} (ha : Asc ps) (hb : Bnd ps) {i : Nat} (hi : okI (i : Int)) {d : ByteArray} : rget (keyT sp 1 i) (prs sp ps) = some d ↔ ∃ x, (i, x) ∈ ps ∧ d = frameT 1 i x := by
  rw [get_some (srt_prs hs ha hb)]
  unfold prs
  rw [List.mem_map]
  constructor
  · rintro ⟨p, hp, e⟩
    unfold rc at e
    injection e with e1 e2
    have : p.1 = i := lkey_inj hs (hb.ok hp) hi e1
    subst this
    exact ⟨p.2, hp, e2.symm⟩
  · rintro ⟨x, hx, rfl⟩
    exact ⟨_, hx, rfl⟩
-- a leaf as it can be read
def lf (s : S) (sp : Int) (i : Nat) : Option ByteArray := if (bgetS s sp 1 i).2 = 0 ∧ (bgetS s sp 1 i).1.size ≤ 4096 then some (bgetS s sp 1 i).1 else none
theorem get_on {s : S} (ho : s.off = false) {k : ByteArray} (hk : 1 ≤ k.size ∧ k.size ≤ 64) : getS s k = ((rget k (now s)).getD ByteArray.empty, if (rget k (now s)).isSome then 0 else 123) := by
  have hr : refS s k = 0 := by unfold refS; rw [ho]; simp [hk]
  unfold getS
  rw [if_neg (by simp [hr])]
theorem bget_on {s : S} (ho : s.off = false) {sp k n : Int} (hs : okI sp) (hk : 1 ≤ k ∧ k ≤ 255) (hn : okI n) : bgetS s sp k n = bgetV k n ((rget (keyT sp k n) (now s)).getD ByteArray.empty, if (rget (keyT sp k n) (now s)).isSome then 0 else 123) := by
  unfold bgetS
  rw [if_pos ⟨hs.1, hk.1, hk.2, hn.1⟩, get_on ho (by rw [keyT_size]; omega)]
theorem lf_some {s : S} {sp : Int} {i : Nat} (h : (lf s sp i).isSome = true) : (rget (keyT sp 1 i) (now s)).isSome = true := by
  unfold lf at h
  split at h
  · rename_i h1
    have h2 := h1.1
    unfold bgetS at h2
    split at h2
    · unfold bgetV at h2
      split at h2
      · rename_i h3
        unfold getS at h3
        split at h3
        · rename_i h4; exact absurd h3 h4
        · simp only at h3
          cases hg : (rget (keyT sp 1 ↑i) (now s)).isSome with
          | true => rfl
          | false => rw [hg] at h3; simp at h3
      · rename_i h3; exact absurd h2 h3
    · cases h2
  · cases h
theorem lf_prs {s : S} {sp : Int} (ho : s.off = false) (hs : okI sp) {ps : PL} (ha : Asc ps) (hb : Bnd ps) (hn : now s = prs sp ps) {i : Nat} (hi : okI (i : Int)) {x : ByteArray} : lf s sp i = some x ↔ (i, x) ∈ ps := by
  have hg := fun d => @get_prs sp hs ps ha hb i hi d
  unfold lf
  rw [bget_on ho hs one_ok hi, hn]
  cases hr : rget (keyT sp 1 ↑i) (prs sp ps) with
  | none =>
    have : ¬ (bgetV 1 ↑i ((none : Option ByteArray).getD ByteArray.empty, if (none : Option ByteArray).isSome then 0 else 123)).2 = 0 := by simp [bgetV]
    rw [if_neg (fun h => this h.1)]
    constructor
    · intro h; cases h
    · intro h
      rw [(hg (frameT 1 i x)).2 ⟨x, h, rfl⟩] at hr
      cases hr
  | some d =>
    obtain ⟨y, hy, rfl⟩ := (hg d).1 hr
    have hz := (hb _ hy).2
    have e : bgetV 1 ↑i ((some (frameT 1 ↑i y)).getD ByteArray.empty, if (some (frameT 1 ↑i y)).isSome then 0 else 123) = (y, 0) := bget_frame (by omega) (by omega) hi.1 hi.2 (by have : y.size ≤ 4096 := hz; omega)
    rw [e, if_pos ⟨rfl, hz⟩]
    constructor
    · intro h; rw [← Option.some.inj h]; exact hy
    · intro h
      have h2 := (hg (frameT 1 i x)).2 ⟨x, h, rfl⟩
      rw [hr] at h2
      have h3 : frameT 1 ↑i y = frameT 1 ↑i x := Option.some.inj h2
      have h4 : y.size ≤ 524288 := by have : y.size ≤ 4096 := hz; omega
      have h5 : x.size ≤ 524288 := by have : x.size ≤ 4096 := (hb _ h).2; omega
      have p1 := (parse_frame 1 i y (by omega) (by omega) hi.1 hi.2 h4).2.2.2
      have p2 := (parse_frame 1 i x (by omega) (by omega) hi.1 hi.2 h5).2.2.2
      rw [h3, p2] at p1
      rw [p1]
-- the standing list
structure IsSt (s : S) (sp : Int) (l : List ByteArray) : Prop where
  has : ∀ i, i < l.length → lf s sp i = l[i]?
  ends : lf s sp l.length = none
theorem IsSt.uniq {s : S} {sp : Int} {l m : List ByteArray} (h : IsSt s sp l) (g : IsSt s sp m) : l = m := by
  have hl : l.length = m.length := by
    rcases Nat.lt_trichotomy l.length m.length with h1 | h1 | h1
    · have := g.has _ h1; rw [h.ends, List.getElem?_eq_getElem h1] at this; cases this
    · exact h1
    · have := h.has _ h1; rw [g.ends, List.getElem?_eq_getElem h1] at this; cases this
  apply List.ext_getElem?
  intro i
  by_cases hi : i < l.length
  · rw [← h.has i hi, g.has i (by omega)]
  · rw [List.getElem?_eq_none (by omega), List.getElem?_eq_none (by omega)]
theorem nodup_le {α : Type} [BEq α] [LawfulBEq α] : ∀ (l m : List α), l.Nodup → (∀ x ∈ l, x ∈ m) → l.length ≤ m.length := by
  intro l
  induction l with
  | nil => intro m _ _; exact Nat.zero_le _
  | cons x l ih =>
    intro m hn hm
    obtain ⟨h1, h2⟩ := List.nodup_cons.1 hn
    have h3 := ih (m.erase x) h2 (fun y hy => by
      have : y ≠ x := by rintro rfl; exact h1 hy
      exact (List.mem_erase_of_ne this).2 (hm y (by simp [hy])))
    have h4 := List.length_erase_of_mem (hm x (by simp))
    have h5 : 0 < m.length := List.length_pos_of_mem (hm x (by simp))
    simp only [List.length_cons]
    omega
instance : LawfulBEq ByteArray where
  eq_of_beq {a b} h := by
    have : a.data == b.data := h
    cases a; cases b
    simp only at this
    rw [eq_of_beq this]
  rfl {a} := by
    show (a.data == a.data) = true
    exact beq_self_eq_true _
theorem st_bound {s : S} {sp : Int} (hs : okI sp) (n : Nat) (hn : n ≤ 4611686018427387904) (h : ∀ i, i < n → (lf s sp i).isSome = true) : n ≤ (now s).length := by
  have h1 := nodup_le ((List.range n).map fun i => keyT sp 1 (i : Nat)) ((now s).map (·.1)) (by
    rw [List.nodup_iff_pairwise_ne, List.pairwise_map]
    refine List.Pairwise.imp_of_mem ?_ (List.nodup_range (n := n))
    intro a b ha hb hab e
    have := List.mem_range.1 ha
    have := List.mem_range.1 hb
    exact hab (lkey_inj hs (show okI _ from ⟨by omega, by omega⟩) (show okI _ from ⟨by omega, by omega⟩) e)) (fun k hk => by
    obtain ⟨i, hi, rfl⟩ := List.mem_map.1 hk
    have h2 := lf_some (h i (List.mem_range.1 hi))
    obtain ⟨d, hd⟩ := Option.isSome_iff_exists.1 h2
    exact List.mem_map.2 ⟨_, get_mem hd, rfl⟩)
  simpa using h1
end Go.Proofs.YtmindflfjocjlaaGreat.ea

namespace Go.Proofs.YtmindflfjocjlaaGreat.eb
open Go.RowKit Go.PlainAid Go.Maps Go.Shelf
open Go.Proofs.YtmindflfjocjlaaGreat.ya Go.Proofs.YtmindflfjocjlaaGreat.yc Go.Proofs.YtmindflfjocjlaaGreat.yd Go.Proofs.YtmindflfjocjlaaGreat.ye Go.Proofs.YtmindflfjocjlaaGreat.yf Go.Proofs.YtmindflfjocjlaaGreat.yi Go.Proofs.YtmindflfjocjlaaGreat.yk Go.Proofs.YtmindflfjocjlaaGreat.yl Go.Proofs.YtmindflfjocjlaaGreat.ym
open Go.Proofs.YtmindflfjocjlaaGreat.tqa Go.Proofs.YtmindflfjocjlaaGreat.tba Go.Proofs.YtmindflfjocjlaaGreat.tbb Go.Proofs.YtmindflfjocjlaaGreat.tbc Go.Proofs.YtmindflfjocjlaaGreat.tbd Go.Proofs.YtmindflfjocjlaaGreat.tbe Go.Proofs.YtmindflfjocjlaaGreat.tbf
open Go.Proofs.YtmindflfjocjlaaGreat.tqb (kindT kindT_size spaceT spaceT_size key_is)
open Go.Proofs.YtmindflfjocjlaaGreat.tlo (keys_apart bget_frame)
open Go.Proofs.YtmindflfjocjlaaGreat.ea
set_option linter.unusedVariables false
set_option linter.unusedSimpArgs false
structure E where
  sp : Int
  age : Nat
  wd : Int
  l : List ByteArray
  nd : Int
def putsS (sp : Int) : Nat → List ByteArray → S → Int × S
  | _, [], s => (0, s)
  | n, x :: xs, s => if (bputS s sp 1 n x).1 = 0 then putsS sp (n + 1) xs (bputS s sp 1 n x).2 else bputS s sp 1 n x
theorem one_put {s : S} {sp : Int} (hs : okI sp) (ho : s.off = false) (hsrt : Srt (now s)) {n : Nat} (hn : okI (n : Int)) {x : ByteArray} (hx : x.size ≤ 4096) (ht : (tot (now s) : Int) + 52 + x.size ≤ s.cap) : bputS s sp 1 n x = spendS (addW s (lw sp (n, x))) := by
  unfold bputS
  rw [if_pos ⟨hs.1, by omega, by omega, hn.1⟩, if_pos (by omega)]
  unfold putS
  have hr : refS s (keyT sp 1 n) = 0 := by unfold refS; rw [ho]; simp [keyT_size]
  have h1 := tot_le (keyT sp 1 n) (frameT 1 n x) hsrt
  have h2 : cnt (keyT sp 1 n, frameT 1 n x) = 52 + x.size := by
    have a := keyT_size sp 1 n
    have b := frameT_size 1 n x
    unfold cnt
    simp only
    omega
  have h3 := frameT_size 1 n x
  rw [if_neg (by simp [hr]), if_pos (by omega), if_neg (by omega)]
  rfl
theorem now_more (s : S) (ws : List W) (a : Nat) (f : Bool) : now { s with pend := s.pend ++ ws, armed := a, off := f } = ws.foldl doW (now s) := by
  unfold now
  rw [List.foldl_append]
theorem puts_run {sp : Int} (hs : okI sp) : ∀ (xs : List ByteArray) (n : Nat) (s : S), s.off = false → Srt (now s) → (∀ x ∈ xs, x.size ≤ 4096) → n + xs.length ≤ 4611686018427387904 → (tot (now s) : Int) + wgt (enm n xs) ≤ s.cap →
    putsS sp n xs s = if s.armed = 0 ∨ xs.length < s.armed then (0, { s with pend := s.pend ++ (enm n xs).map (lw sp), armed := s.armed - xs.length }) else (124, { s with pend := s.pend ++ ((enm n xs).take s.armed).map (lw sp), armed := 0, off := true }) := by
  intro xs
  induction xs with
  | nil =>
    intro n s ho _ _ _ _
    rw [if_pos (show s.armed = 0 ∨ ([] : List ByteArray).length < s.armed by simp; omega)]
    simp [putsS, enm]
  | cons x xs ih =>
    intro n s ho hsrt hx hn ht
    simp only [List.length_cons] at hn
    have hz := hx x (by simp)
    have hw : wgt (enm n (x :: xs)) = 52 + x.size + wgt (enm (n + 1) xs) := rfl
    rw [hw] at ht
    have h1 := one_put hs ho hsrt (n := n) ⟨by omega, by omega⟩ hz (by omega)
    rw [putsS, h1]
    have hn2 : now (addW s (lw sp (n, x))) = put (keyT sp 1 n) (frameT 1 n x) (now s) := by rw [now_add]; rfl
    have hs2 : Srt (now (addW s (lw sp (n, x)))) := by rw [hn2]; exact srt_put hsrt
    have ht2 : tot (now (addW s (lw sp (n, x)))) ≤ tot (now s) + (52 + x.size) := by
      rw [hn2]
      have h := tot_le (keyT sp 1 n) (frameT 1 n x) hsrt
      have h2 : cnt (keyT sp 1 n, frameT 1 n x) = 52 + x.size := by
        have a := keyT_size sp 1 n
        have b := frameT_size 1 n x
        unfold cnt
        simp only
        omega
      omega
    have ha : (addW s (lw sp (n, x))).armed = s.armed := rfl
    unfold spendS
    rw [ha]
    by_cases h0 : s.armed = 0
    · rw [if_pos h0, if_pos rfl, if_pos (.inl h0)]
      rw [ih (n + 1) (addW s (lw sp (n, x))) ho hs2 (fun y hy => hx y (by simp [hy])) (by omega) (by show (tot (now (addW s (lw sp (n, x)))) : Int) + _ ≤ s.cap; omega)]
      rw [ha, if_pos (.inl h0)]
      simp [addW, enm, h0]
    · rw [if_neg h0]
      by_cases h2 : s.armed = 1
      · rw [if_pos h2, if_neg (by simp), if_neg (by simp only [List.length_cons]; omega)]
        simp [addW, enm, h2]
      · rw [if_neg h2, if_pos rfl]
        have key := ih (n + 1) { addW s (lw sp (n, x)) with armed := s.armed - 1 } ho hs2 (fun y hy => hx y (by simp [hy])) (by omega) (by show (tot (now (addW s (lw sp (n, x)))) : Int) + _ ≤ s.cap; omega)
        rw [key]
        have hq : ∀ q, ({ addW s (lw sp (n, x)) with armed := q } : S).armed = q := fun q => rfl
        by_cases h3 : xs.length + 1 < s.armed
        · rw [if_pos (.inr (by show xs.length < s.armed - 1; omega)), if_pos (.inr (by simp only [List.length_cons]; omega))]
          simp [addW, enm]
          omega
        · rw [if_neg (by show ¬ (s.armed - 1 = 0 ∨ xs.length < s.armed - 1); omega), if_neg (by simp only [List.length_cons]; omega)]
          have e : (enm n (x :: xs)).take s.armed = (n, x) :: (enm (n + 1) xs).take (s.armed - 1) := by
            rw [enm]
            obtain ⟨q, hq⟩ : ∃ q, s.armed = q + 1 := ⟨s.armed - 1, by omega⟩
            rw [hq]; rfl
          rw [e]
          simp [addW]
def fitU (r : List Rec) (sp : Int) : Nat → List ByteArray → Int → Int
  | _, [], u => u
  | n, x :: xs, u => fitU r sp (n + 1) xs (u + (52 + x.size - at0 (keyT sp 1 n) r))
theorem fit_none {r : List Rec} {sp : Int} : ∀ (xs : List ByteArray) (n : Nat) (u : Int), (∀ i, n ≤ i → i < n + xs.length → rget (keyT sp 1 i) r = none) → fitU r sp n xs u = u + wgt (enm n xs) := by
  intro xs
  induction xs with
  | nil => intro n u _; simp [fitU, enm, wgt]
  | cons x xs ih =>
    intro n u h
    rw [fitU, ih (n + 1) _ (fun i h1 h2 => h i (by omega) (by simp only [List.length_cons]; omega)), enm, wgt]
    have : at0 (keyT sp 1 n) r = 0 := by unfold at0; rw [h n (Nat.le_refl _) (by simp)]
    rw [this]
    simp only
    omega
def big (xs : List ByteArray) : Bool := xs.any fun x => decide (4096 < x.size)
theorem big_no {xs : List ByteArray} (h : big xs = false) : ∀ x ∈ xs, x.size ≤ 4096 := by
  intro x hx
  unfold big at h
  rw [List.any_eq_false] at h
  have := h x hx
  simpa using this
def batchE (xs : List ByteArray) (n : Nat) : Int := if xs.length = 0 then 82 else if 1024 < xs.length then 83 else if big xs then 121 else if 4611686018427387904 - (n : Int) < xs.length then 10 else 0
theorem batch_ok {xs : List ByteArray} {n : Nat} (h : batchE xs n = 0) : xs.length ≠ 0 ∧ xs.length ≤ 1024 ∧ (∀ x ∈ xs, x.size ≤ 4096) ∧ n + xs.length ≤ 4611686018427387904 := by
  unfold batchE at h
  split at h
  · cases h
  · split at h
    · cases h
    · split at h
      · cases h
      · split at h
        · cases h
        · rename_i h1 h2 h3 h4
          exact ⟨h1, by omega, big_no (by simpa using h3), by omega⟩
def gone (s : S) (e : E) : Bool := s.off || decide (s.age ≠ e.age)
def appS (s : S) (e : E) (xs : List ByteArray) : Int × S × E :=
  if gone s e then (124, s, e) else if batchE xs e.l.length ≠ 0 then (batchE xs e.l.length, s, e)
  else if fitU (now s) e.sp e.l.length xs (tot (now s)) ≤ s.cap then
    (if (putsS e.sp e.l.length xs s).1 = 0 then (0, (putsS e.sp e.l.length xs s).2, { e with l := e.l ++ xs }) else ((putsS e.sp e.l.length xs s).1, (putsS e.sp e.l.length xs s).2, e))
  else (122, s, e)
-- a store that holds an engine's leaves alone: the first ones durable, the others pending
structure Ow (s : S) (sp : Int) (l1 xs : List ByteArray) : Prop where
  oks : okI sp
  dur : s.dur = prs sp (enm 0 l1)
  pend : s.pend = (enm l1.length xs).map (lw sp)
  sz : ∀ x ∈ l1 ++ xs, x.size ≤ 4096
  fits : (wgt (enm 0 (l1 ++ xs)) : Int) ≤ s.cap
  cap : s.cap ≤ 1073741824
theorem Ow.len {s : S} {sp : Int} {l1 xs : List ByteArray} (h : Ow s sp l1 xs) : 52 * (l1 ++ xs).length ≤ 1073741824 := by
  have h1 := wgt_len (enm 0 (l1 ++ xs))
  rw [enm_len] at h1
  have := h.fits
  have := h.cap
  omega
theorem bnd_enm {n : Nat} {xs : List ByteArray} (h : ∀ x ∈ xs, x.size ≤ 4096) (hn : n + xs.length ≤ 4611686018427387904) : Bnd (enm n xs) := by
  rintro ⟨i, x⟩ hp
  have h1 := enm_low _ hp
  obtain ⟨_, h2⟩ := mem_enm.1 hp
  exact ⟨by have : i < n + xs.length := h1.2; show i ≤ _; omega, h x (List.mem_of_getElem? h2)⟩
theorem Ow.bnd {s : S} {sp : Int} {l1 xs : List ByteArray} (h : Ow s sp l1 xs) : Bnd (enm 0 (l1 ++ xs)) := bnd_enm h.sz (by have := h.len; omega)
theorem Ow.now {s : S} {sp : Int} {l1 xs : List ByteArray} (h : Ow s sp l1 xs) : ye.now s = prs sp (enm 0 (l1 ++ xs)) := by
  unfold ye.now
  have e : enm 0 (l1 ++ xs) = enm 0 l1 ++ enm l1.length xs := by rw [enm_app, Nat.zero_add]
  have hb := h.bnd
  have ha := asc_enm 0 (l1 ++ xs)
  rw [e] at hb ha ⊢
  rw [h.dur, h.pend]
  exact fold_prs h.oks _ _ ha hb
theorem Ow.srt {s : S} {sp : Int} {l1 xs : List ByteArray} (h : Ow s sp l1 xs) : Srt (ye.now s) := by
  rw [h.now]; exact srt_prs h.oks (asc_enm _ _) h.bnd
theorem Ow.tot {s : S} {sp : Int} {l1 xs : List ByteArray} (h : Ow s sp l1 xs) : ya.tot (ye.now s) = wgt (enm 0 (l1 ++ xs)) := by rw [h.now, tot_prs]
theorem Ow.new {c sp : Int} (hs : okI sp) (h0 : 0 ≤ c) (h1 : c ≤ 1073741824) (ag : Nat) : Ow ⟨c, [], [], 0, false, ag⟩ sp [] [] := ⟨hs, rfl, rfl, fun x hx => by simp at hx, by simpa [enm, wgt] using h0, h1⟩
theorem Ow.more {s : S} {sp : Int} {l1 xs ys : List ByteArray} (h : Ow s sp l1 xs) (hy : ∀ y ∈ ys, y.size ≤ 4096) (hf : (wgt (enm 0 (l1 ++ xs ++ ys)) : Int) ≤ s.cap) (a : Nat) (f : Bool) : Ow { s with pend := s.pend ++ (enm (l1 ++ xs).length ys).map (lw sp), armed := a, off := f } sp l1 (xs ++ ys) := by
  refine ⟨h.oks, h.dur, ?_, ?_, ?_, h.cap⟩
  · show s.pend ++ _ = _
    rw [h.pend, enm_app, List.map_append, List.length_append]
  · intro x hx
    rw [← List.append_assoc] at hx
    rcases List.mem_append.1 hx with hx | hx
    · exact h.sz x hx
    · exact hy x hx
  · rw [← List.append_assoc]; exact hf
theorem Ow.fit {s : S} {sp : Int} {l1 xs ys : List ByteArray} (h : Ow s sp l1 xs) (hn : (l1 ++ xs).length + ys.length ≤ 4611686018427387904) : fitU (ye.now s) sp (l1 ++ xs).length ys (ya.tot (ye.now s)) = wgt (enm 0 (l1 ++ xs ++ ys)) := by
  rw [fit_none]
  · rw [h.tot, enm_app 0 (l1 ++ xs) ys, wgt_app, Nat.zero_add]; omega
  · intro i h1 h2
    rw [h.now, get_none]
    intro y hy
    obtain ⟨p, hp, rfl⟩ := List.mem_map.1 hy
    have h3 := enm_low p hp
    intro e
    have := lkey_inj h.oks (h.bnd.ok hp) ⟨by omega, by omega⟩ e
    omega
-- what an Append does to it
theorem Ow.app {s : S} {e : E} {l1 xs ys : List ByteArray} (h : Ow s e.sp l1 xs) (hl : e.l = l1 ++ xs) (hg : gone s e = false) :
    (batchE ys (l1 ++ xs).length ≠ 0 ∧ appS s e ys = (batchE ys (l1 ++ xs).length, s, e)) ∨
    (batchE ys (l1 ++ xs).length = 0 ∧ s.cap < wgt (enm 0 (l1 ++ xs ++ ys)) ∧ appS s e ys = (122, s, e)) ∨
    (batchE ys (l1 ++ xs).length = 0 ∧ (wgt (enm 0 (l1 ++ xs ++ ys)) : Int) ≤ s.cap ∧ (s.armed = 0 ∨ ys.length < s.armed) ∧ ∃ s', appS s e ys = (0, s', { e with l := e.l ++ ys }) ∧ Ow s' e.sp l1 (xs ++ ys) ∧ s'.cap = s.cap ∧ s'.off = false ∧ s'.age = s.age ∧ s'.armed = s.armed - ys.length) ∨
    (batchE ys (l1 ++ xs).length = 0 ∧ 1 ≤ s.armed ∧ s.armed ≤ ys.length ∧ ∃ s', appS s e ys = (124, s', e) ∧ Ow s' e.sp l1 (xs ++ ys.take s.armed) ∧ s'.cap = s.cap ∧ s'.off = true ∧ s'.age = s.age) := by
  have ho : s.off = false := by unfold gone at hg; exact (Bool.or_eq_false_iff.1 hg).1
  unfold appS
  rw [hg, hl]
  simp only [Bool.false_eq_true, if_false]
  by_cases hb : batchE ys (l1 ++ xs).length = 0
  · obtain ⟨b1, b2, b3, b4⟩ := batch_ok hb
    rw [if_neg (fun hne => hne hb), h.fit b4]
    by_cases hf : (wgt (enm 0 (l1 ++ xs ++ ys)) : Int) ≤ s.cap
    · rw [if_pos hf]
      have hw : wgt (enm 0 (l1 ++ xs ++ ys)) = wgt (enm 0 (l1 ++ xs)) + wgt (enm (l1 ++ xs).length ys) := by rw [enm_app 0 (l1 ++ xs) ys, wgt_app, Nat.zero_add]
      have hr := puts_run h.oks ys (l1 ++ xs).length s ho h.srt b3 b4 (by rw [h.tot]; omega)
      by_cases ha : s.armed = 0 ∨ ys.length < s.armed
      · rw [if_pos ha] at hr
        right; right; left
        refine ⟨hb, hf, ha, _, ?_, h.more b3 hf (s.armed - ys.length) false, rfl, rfl, rfl, rfl⟩
        rw [hr, if_pos rfl]
        simp only [Prod.mk.injEq, true_and, and_true, S.mk.injEq, ho]
      · rw [if_neg ha] at hr
        right; right; right
        have hm : ∀ y ∈ ys.take s.armed, y.size ≤ 4096 := fun y hy => b3 y (List.mem_of_mem_take hy)
        have ht : (enm (l1 ++ xs).length ys).take s.armed = enm (l1 ++ xs).length (ys.take s.armed) := by
          conv => lhs; rw [← List.take_append_drop s.armed ys, enm_app]
          rw [List.take_append_of_le_length (by rw [enm_len, List.length_take]; omega), List.take_of_length_le (by rw [enm_len, List.length_take]; omega)]
        have hf2 : (wgt (enm 0 (l1 ++ xs ++ ys.take s.armed)) : Int) ≤ s.cap := by
          have : wgt (enm 0 (l1 ++ xs ++ ys.take s.armed)) = wgt (enm 0 (l1 ++ xs)) + wgt (enm (l1 ++ xs).length (ys.take s.armed)) := by rw [enm_app 0 (l1 ++ xs) _, wgt_app, Nat.zero_add]
          have h3 : wgt (enm (l1 ++ xs).length (ys.take s.armed)) ≤ wgt (enm (l1 ++ xs).length ys) := by rw [← ht]; exact wgt_sub (List.take_sublist _ _)
          omega
        rw [ht] at hr
        refine ⟨hb, by omega, by omega, _, ?_, h.more hm hf2 0 true, rfl, rfl, rfl⟩
        rw [hr, if_neg (by simp)]
    · rw [if_neg hf]
      exact .inr (.inl ⟨hb, by omega, rfl⟩)
  · rw [if_pos hb]
    exact .inl ⟨hb, rfl⟩
theorem Ow.sync {s : S} {sp : Int} {l1 xs : List ByteArray} (h : Ow s sp l1 xs) (ho : s.off = false) : (s.armed = 1 ∧ syncS s = (124, { s with armed := 0, off := true })) ∨ (s.armed ≠ 1 ∧ ∃ s', syncS s = (0, s') ∧ Ow s' sp (l1 ++ xs) [] ∧ s'.cap = s.cap ∧ s'.off = false ∧ s'.age = s.age ∧ s'.armed = s.armed - 1) := by
  have hn := h.now
  have hO : ∀ a, Ow { s with armed := a, dur := ye.now s, pend := [] } sp (l1 ++ xs) [] := fun a => ⟨h.oks, hn, rfl, by simpa using h.sz, by simpa using h.fits, h.cap⟩
  unfold syncS
  rw [ho]
  simp only [Bool.false_eq_true, if_false]
  unfold spendS
  by_cases h0 : s.armed = 0
  · rw [if_pos h0]
    right
    exact ⟨by omega, { s with dur := ye.now s, pend := [] }, by rw [if_neg (by simp)], hO s.armed, rfl, ho, rfl, by show s.armed = _; omega⟩
  · rw [if_neg h0]
    by_cases h1 : s.armed = 1
    · rw [if_pos h1]
      left
      exact ⟨h1, by rw [if_pos (by simp)]⟩
    · rw [if_neg h1]
      right
      exact ⟨h1, { s with armed := s.armed - 1, dur := ye.now s, pend := [] }, by rw [if_neg (by simp)], hO (s.armed - 1), rfl, ho, rfl, rfl⟩
theorem Ow.arm {s : S} {sp : Int} {l1 xs : List ByteArray} (h : Ow s sp l1 xs) (a : Nat) (f : Bool) : Ow { s with armed := a, off := f } sp l1 xs := ⟨h.oks, h.dur, h.pend, h.sz, h.fits, h.cap⟩
end Go.Proofs.YtmindflfjocjlaaGreat.eb
