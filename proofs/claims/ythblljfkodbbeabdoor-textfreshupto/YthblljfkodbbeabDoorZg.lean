import Derived.Test.YthblljfkodbbeabDoorZf
import Derived.Maps.AppendAt
namespace Go.Proofs.YthblljfkodbbeabDoor.zg
open Go.RowKit Go.PlainAid
open Go.Proofs.YthblljfkodbbeabDoor.ta Go.Proofs.YthblljfkodbbeabDoor.tb Go.Proofs.YthblljfkodbbeabDoor.tc Go.Proofs.YthblljfkodbbeabDoor.tj Go.Proofs.YthblljfkodbbeabDoor.va Go.Proofs.YthblljfkodbbeabDoor.vb Go.Proofs.YthblljfkodbbeabDoor.vc Go.Proofs.YthblljfkodbbeabDoor.ya Go.Proofs.YthblljfkodbbeabDoor.yb Go.Proofs.YthblljfkodbbeabDoor.za Go.Proofs.YthblljfkodbbeabDoor.zb Go.Proofs.YthblljfkodbbeabDoor.zc Go.Proofs.YthblljfkodbbeabDoor.ze Go.Proofs.YthblljfkodbbeabDoor.zf
set_option linter.unusedVariables false

theorem str_strs : (9 : Nat) ≠ 29 := by decide
-- the block of a list that Texts tells of
theorem Texts.lt {w : World} {B : Nat} {v : Value} {xs : List ByteArray} (h : Texts w B v xs) {g : Nat} (hg : v.ownBlock = some g) : B ≤ g ∧ g < w.heap.size := by
  rcases h with ⟨rfl, _⟩ | ⟨g', rfl, hb, hh⟩
  · cases hg
  · obtain rfl := Option.some.inj hg
    exact ⟨hb, (Array.getElem?_eq_some_iff.1 hh).1⟩
theorem Texts.down {w : World} {B B' : Nat} {v : Value} {xs : List ByteArray} (h : Texts w B' v xs) (hB : B ≤ B') : Texts w B v xs :=
  h.imp id fun ⟨g, h1, h2, h3⟩ => ⟨g, h1, Nat.le_trans hB h2, h3⟩
-- a row of lists grows: lists of texts are kept
theorem Texts.other {w w' : World} {B B' size n : Nat} {v r : Value} {xs : List ByteArray} {rs : List Value} (h : Texts w B v xs) (hr : w.ownsRow B' 29 size r n rs) (hg : w.grownBy w' r.ownBlock) : Texts w' B v xs := by
  rcases h with h | ⟨g, h1, h2, h3⟩
  · exact .inl h
  · refine .inr ⟨g, h1, h2, ?_⟩
    rw [hg.block g (Array.getElem?_eq_some_iff.1 h3).1 ?_]
    · exact h3
    · intro he
      rcases hr.2 with ⟨rfl, _⟩ | ⟨g', cap', cur', rfl, _, hgg', _⟩
      · cases he
      · have e1 : g = g' := Option.some.inj he
        subst e1
        rw [h3] at hgg'
        simp only [Option.some.injEq, Obj.cells.injEq] at hgg'
        exact str_strs hgg'.2.1
theorem own_row_other {w w' : World} {B e size n : Nat} {v : Value} {xs : List Value} {b : Option Nat} (h : w.ownsRow B e size v n xs) (hne : ∀ g, b = some g → v.ownBlock ≠ some g) (hg : w.grownBy w' b) : w'.ownsRow B e size v n xs := by
  refine ⟨h.1, ?_⟩
  rcases h.2 with hn | ⟨g, cap, cur, rfl, hb, hgg, rest⟩
  · exact .inl hn
  · refine .inr ⟨g, cap, cur, rfl, hb, ?_, rest⟩
    rw [hg.block g (Array.getElem?_eq_some_iff.1 hgg).1 ?_]
    · exact hgg
    · intro he
      exact hne g he.symm rfl
-- what has been asked so far, and what the document says
structure Quest (w : World) (W : Nat) (lv tv : Value) (vs us : List Value) (xss : List (List ByteArray)) : Prop where
  lx : xss.length = vs.length
  lu : us.length ≤ vs.length
  rl : w.ownsRow W 29 1 lv vs.length vs
  rt : w.ownsRow W 29 1 tv us.length us
  ne : ∀ g, lv.ownBlock = some g → tv.ownBlock ≠ some g
  ts : ∀ (i : Nat) (v : Value) (xs : List ByteArray), vs[i]? = some v → xss[i]? = some xs → Texts w W v xs
  ap : ∀ (i j : Nat) (v u : Value) (g : Nat), i ≠ j → vs[i]? = some v → vs[j]? = some u → v.ownBlock = some g → u.ownBlock ≠ some g
  ow : ∀ (i : Nat) (u : Value) (xs : List ByteArray), us[i]? = some u → xss[i]? = some xs → w.ownsRow W 9 1 u xs.length (xs.map Value.string)
theorem Quest.nil (w : World) (W : Nat) : Quest w W (.slice none 0 0) (.slice none 0 0) [] [] [] :=
  ⟨rfl, Nat.le_refl _, World.ownsRow_nil _ _ _ _, World.ownsRow_nil _ _ _ _, (fun g h => by cases h), (fun i v xs h => by simp at h), (fun i j v u g _ h => by simp at h), (fun i v xs h => by simp at h)⟩
theorem Quest.later {w w' : World} {W : Nat} {lv tv : Value} {vs us : List Value} {xss : List (List ByteArray)} (h : Quest w W lv tv vs us xss) (hb : Below w.heap.size w w') : Quest w' W lv tv vs us xss :=
  ⟨h.lx, h.lu, own_later h.rl hb, own_later h.rt hb, h.ne, fun i v xs h1 h2 => (h.ts i v xs h1 h2).later hb, h.ap, fun i u xs h1 h2 => own_later (h.ow i u xs h1 h2) hb⟩
theorem Quest.fresh {w w1 : World} {W : Nat} {lv tv a : Value} {vs us : List Value} {xss : List (List ByteArray)} {X : List ByteArray} (h : Quest w W lv tv vs us xss) (ht : Texts w1 w.heap.size a X) : ∀ (i : Nat) (v : Value) (g : Nat), vs[i]? = some v → v.ownBlock = some g → a.ownBlock ≠ some g := by
  intro i v g hv hg ha
  have hi := (List.getElem?_eq_some_iff.1 hv).1
  have := (Texts.lt (h.ts i v _ hv (List.getElem?_eq_getElem (by rw [h.lx]; exact hi))) hg).2
  have := (Texts.lt ht ha).1
  omega
theorem Quest.list {w w' : World} {W k : Nat} {lv lv' tv a : Value} {vs us : List Value} {xss : List (List ByteArray)} {X : List ByteArray} (h : Quest w W lv tv vs us xss) (hk : vs.length = k) (ht : Texts w W a X)
    (hf : ∀ (i : Nat) (v : Value) (g : Nat), vs[i]? = some v → v.ownBlock = some g → a.ownBlock ≠ some g)
    (ho : w'.ownsRow W 29 1 lv' (k + 1) (vs ++ [a])) (hg : w.grownBy w' lv.ownBlock) (hat : lv'.ownBlock = lv.ownBlock ∨ lv'.ownBlock = some w.heap.size) : Quest w' W lv' tv (vs ++ [a]) us (xss ++ [X]) := by
  subst hk
  have last : ∀ (i : Nat) (v : Value), (vs ++ [a])[i]? = some v → vs[i]? = some v ∨ (i = vs.length ∧ v = a) := by
    intro i v hv
    rcases Nat.lt_or_ge i vs.length with e | e
    · rw [List.getElem?_append_left e] at hv
      exact .inl hv
    · rw [List.getElem?_append_right e] at hv
      rcases Nat.eq_zero_or_pos (i - vs.length) with e0 | e0
      · rw [e0] at hv
        exact .inr ⟨by omega, by simpa using hv.symm⟩
      · rw [List.getElem?_eq_none (by simp; omega)] at hv; cases hv
  refine ⟨by simp [h.lx], by have := h.lu; simp; omega, by simpa using ho, own_row_other h.rt h.ne hg, ?_, ?_, ?_, ?_⟩
  · intro g e1 e2
    rcases hat with e | e
    · rw [e] at e1
      exact h.ne g e1 e2
    · rw [e] at e1
      obtain rfl := Option.some.inj e1
      have := (h.rt.lt _ e2).2
      omega
  · intro i v xs h1 h2
    rcases last i v h1 with e | ⟨rfl, rfl⟩
    · have hi := (List.getElem?_eq_some_iff.1 e).1
      rw [List.getElem?_append_left (by rw [h.lx]; exact hi)] at h2
      exact Texts.other (h.ts i v xs e h2) h.rl hg
    · rw [List.getElem?_append_right (by rw [h.lx]; exact Nat.le_refl _), h.lx, Nat.sub_self] at h2
      obtain rfl : X = xs := by simpa using h2
      exact Texts.other ht h.rl hg
  · intro i j v u g hij h1 h2 h3
    rcases last i v h1 with e | ⟨rfl, rfl⟩
    · rcases last j u h2 with e' | ⟨rfl, rfl⟩
      · exact h.ap i j v u g hij e e' h3
      · exact hf i v g e h3
    · rcases last j u h2 with e' | ⟨e', _⟩
      · exact fun h4 => hf j u g e' h4 h3
      · omega
  · intro i u xs h1 h2
    have hi := (List.getElem?_eq_some_iff.1 h1).1
    rw [List.getElem?_append_left (by rw [h.lx]; exact Nat.lt_of_lt_of_le hi h.lu)] at h2
    exact own_other (h.ow i u xs h1 h2) h.rl str_strs hg
theorem Quest.want {w w' : World} {W k : Nat} {lv tv tv' b : Value} {vs us : List Value} {xss : List (List ByteArray)} {X : List ByteArray} (h : Quest w W lv tv vs us xss) (hk : us.length = k) (hlt : k < vs.length) (hX : xss[k]? = some X)
    (hb : w.ownsRow W 9 1 b X.length (X.map Value.string))
    (ho : w'.ownsRow W 29 1 tv' (k + 1) (us ++ [b])) (hg : w.grownBy w' tv.ownBlock) (hat : tv'.ownBlock = tv.ownBlock ∨ tv'.ownBlock = some w.heap.size) : Quest w' W lv tv' vs (us ++ [b]) xss := by
  subst hk
  refine ⟨h.lx, by simp; omega, own_row_other h.rl (fun g e1 e2 => h.ne g e2 e1) hg, by simpa using ho, ?_, ?_, h.ap, ?_⟩
  · intro g e1 e2
    rcases hat with e | e
    · rw [e] at e2
      exact h.ne g e1 e2
    · rw [e] at e2
      obtain rfl := Option.some.inj e2
      have := (h.rl.lt _ e1).2
      omega
  · intro i v xs h1 h2
    exact Texts.other (h.ts i v xs h1 h2) h.rt hg
  · intro i u xs h1 h2
    rcases Nat.lt_or_ge i us.length with e | e
    · rw [List.getElem?_append_left e] at h1
      exact own_other (h.ow i u xs h1 h2) h.rt str_strs hg
    · rw [List.getElem?_append_right e] at h1
      rcases Nat.eq_zero_or_pos (i - us.length) with e0 | e0
      · rw [e0] at h1
        obtain rfl : b = u := by simpa using h1
        obtain rfl : i = us.length := by omega
        rw [hX] at h2
        obtain rfl := Option.some.inj h2
        exact own_other hb h.rt str_strs hg
      · rw [List.getElem?_eq_none (by simp; omega)] at h1; cases h1
-- the row that apart is handed
theorem Quest.row {w : World} {W : Nat} {lv tv : Value} {vs us : List Value} {xss : List (List ByteArray)} (h : Quest w W lv tv vs us xss) (h0 : 0 < vs.length) (hW : W ≤ w.heap.size) :
    ∃ gv cv gs, lv = .slice (some ⟨gv, 0, none⟩) vs.length cv ∧ W ≤ gv ∧ Row w W gv vs gs xss := by
  rcases h.rl.2 with ⟨_, e⟩ | ⟨g, cap, cur, rfl, hb, hgg, _⟩
  · omega
  · have hlt : g < w.heap.size := (Array.getElem?_eq_some_iff.1 hgg).1
    obtain ⟨gs, hR⟩ := Row.of (w := w) (B := W) (gv := g) (vs := vs) (xss := xss) h.lx hlt hW (fun i v hv => by
      have hi := (List.getElem?_eq_some_iff.1 hv).1
      rw [h.rl.cellAt i (by omega), hv]) h.ts (fun i v hv e => by
      have hi := (List.getElem?_eq_some_iff.1 hv).1
      rcases h.ts i v _ hv (List.getElem?_eq_getElem (by rw [h.lx]; exact hi)) with ⟨rfl, _⟩ | ⟨g', rfl, _, hh⟩
      · cases e
      · have e1 : g' = g := Option.some.inj e
        subst e1
        rw [hgg] at hh
        simp only [Option.some.injEq, Obj.cells.injEq] at hh
        exact str_strs hh.2.1.symm) h.ap
    exact ⟨g, cap, gs, rfl, hb, hR⟩
end Go.Proofs.YthblljfkodbbeabDoor.zg
