import Derived.Test.YthblljfkodbbeabDoorZc
import Derived.ArgAppend
namespace Go.Proofs.YthblljfkodbbeabDoor.ze
open Go.RowKit Go.PlainAid
open Go.Proofs.YthblljfkodbbeabDoor.ta Go.Proofs.YthblljfkodbbeabDoor.tb Go.Proofs.YthblljfkodbbeabDoor.tc Go.Proofs.YthblljfkodbbeabDoor.tj Go.Proofs.YthblljfkodbbeabDoor.va Go.Proofs.YthblljfkodbbeabDoor.vb Go.Proofs.YthblljfkodbbeabDoor.vc Go.Proofs.YthblljfkodbbeabDoor.ya Go.Proofs.YthblljfkodbbeabDoor.yb Go.Proofs.YthblljfkodbbeabDoor.za Go.Proofs.YthblljfkodbbeabDoor.zb Go.Proofs.YthblljfkodbbeabDoor.zc
set_option linter.unusedVariables false

theorem hiL : (Tryd.prog.info? 29).map (fun i => (i.zero, i.size, i.bytes)) = some (some (.slice none 0 0), 1, 24) := by kernel_rfl
theorem own_later {w w' : World} {B e size n : Nat} {v : Value} {xs : List Value} (h : w.ownsRow B e size v n xs) (hb : Below w.heap.size w w') : w'.ownsRow B e size v n xs := by
  refine ⟨h.1, ?_⟩
  rcases h.2 with hn | ⟨g, cap, cur, rfl, hg, hgg, rest⟩
  · exact .inl hn
  · exact .inr ⟨g, cap, cur, rfl, hg, by rw [hb.block g (Array.getElem?_eq_some_iff.1 hgg).1]; exact hgg, rest⟩
theorem own_down {w : World} {B B' e size n : Nat} {v : Value} {xs : List Value} (h : w.ownsRow B' e size v n xs) (hB : B ≤ B') : w.ownsRow B e size v n xs :=
  ⟨h.1, h.2.imp id fun ⟨g, cap, cur, h1, h2, h3⟩ => ⟨g, cap, cur, h1, Nat.le_trans hB h2, h3⟩⟩
-- rows of unlike elements: the one grows, the other is kept
theorem own_other {w w' : World} {B B' e e' size size' n n' : Nat} {v v' : Value} {xs xs' : List Value} (h : w.ownsRow B e size v n xs) (h' : w.ownsRow B' e' size' v' n' xs') (hne : e ≠ e') (hg : w.grownBy w' v'.ownBlock) : w'.ownsRow B e size v n xs := by
  refine ⟨h.1, ?_⟩
  rcases h.2 with hn | ⟨g, cap, cur, rfl, hb, hgg, rest⟩
  · exact .inl hn
  · refine .inr ⟨g, cap, cur, rfl, hb, ?_, rest⟩
    rw [hg.block g (Array.getElem?_eq_some_iff.1 hgg).1 ?_]
    · exact hgg
    · intro he
      rcases h'.2 with ⟨rfl, _⟩ | ⟨g', cap', cur', rfl, _, hgg', _⟩
      · cases he
      · have e1 : g = g' := Option.some.inj he
        subst e1
        rw [hgg] at hgg'
        simp only [Option.some.injEq, Obj.cells.injEq] at hgg'
        exact hne hgg'.2.1
theorem own_reads2 {w : World} {B n : Nat} {v : Value} {xs : List ByteArray} (h : w.ownsRow B 9 1 v n (xs.map Value.string)) : Reads w v xs ∧ v.oneCell' = true := by
  have hn : xs.length = n := by have := h.1; simpa using this
  subst hn
  exact own_reads' h
-- the lists with more behind them, in a row of the call's own
structure More (w : World) (W : Nat) (mv : Value) (ns : List Nat) (ms : List Value) : Prop where
  row : w.ownsRow W 29 1 mv ms.length ms
  one : ∀ (t : Nat) (v : Value), ms[t]? = some v → w.ownsRow W 9 1 v (ns.getD t 0 + 64) ((List.replicate (ns.getD t 0 + 64) (mk t)).map Value.string)
theorem More.nil (w : World) (W : Nat) (ns : List Nat) : More w W (.slice none 0 0) ns [] := ⟨World.ownsRow_nil _ _ _ _, fun t v h => by simp at h⟩
theorem More.later {w w' : World} {W : Nat} {mv : Value} {ns : List Nat} {ms : List Value} (h : More w W mv ns ms) (hb : Below w.heap.size w w') : More w' W mv ns ms :=
  ⟨own_later h.row hb, fun t v hv => own_later (h.one t v hv) hb⟩
theorem More.put {w w' : World} {W k : Nat} {mv mv' l : Value} {ns : List Nat} {ms : List Value} (h : More w W mv ns ms) (hk : ms.length = k) (hl : w.ownsRow W 9 1 l (ns.getD k 0 + 64) ((List.replicate (ns.getD k 0 + 64) (zc.mk k)).map Value.string))
    (ho : w'.ownsRow W 29 1 mv' (k + 1) (ms ++ [l])) (hg : w.grownBy w' mv.ownBlock) : More w' W mv' ns (ms ++ [l]) := by
  refine ⟨by rw [List.length_append, hk]; exact ho, fun t v hv => ?_⟩
  have hne : (9 : Nat) ≠ 29 := by decide
  rcases Nat.lt_or_ge t k with e | e
  · rw [List.getElem?_append_left (by omega)] at hv
    exact own_other (h.one t v hv) h.row hne hg
  · rw [List.getElem?_append_right (by omega)] at hv
    have e0 : t - ms.length = 0 := by
      rcases Nat.eq_zero_or_pos (t - ms.length) with e | e
      · exact e
      · rw [List.getElem?_eq_none (by simp; omega)] at hv; cases hv
    rw [e0] at hv
    obtain rfl : l = v := by simpa using hv
    obtain rfl : t = k := by omega
    exact own_other hl h.row hne hg
-- the row of lists, at the blocks' own numbers (nil lists: numbers that no block has)
theorem Row.of {w : World} {B gv : Nat} {vs : List Value} {xss : List (List ByteArray)} (hl : xss.length = vs.length) (hgv : gv < w.heap.size) (hB : B ≤ w.heap.size)
    (hcell : ∀ (i : Nat) (v : Value), vs[i]? = some v → w.cell? ⟨gv, i, none⟩ = some v)
    (ht : ∀ (i : Nat) (v : Value) (xs : List ByteArray), vs[i]? = some v → xss[i]? = some xs → Texts w B v xs)
    (hv : ∀ (i : Nat) (v : Value), vs[i]? = some v → v.ownBlock ≠ some gv)
    (hap : ∀ (i j : Nat) (v u : Value) (g : Nat), i ≠ j → vs[i]? = some v → vs[j]? = some u → v.ownBlock = some g → u.ownBlock ≠ some g) : ∃ gs, Row w B gv vs gs xss := by
  have hg : ∀ (i : Nat) (v : Value) (xs : List ByteArray) (g : Nat), vs[i]? = some v → xss[i]? = some xs → v.ownBlock = some g → g < w.heap.size := by
    intro i v xs g h1 h2 h3
    rcases ht i v xs h1 h2 with ⟨rfl, _⟩ | ⟨g', rfl, _, hh⟩
    · cases h3
    · obtain rfl := Option.some.inj h3
      exact (Array.getElem?_eq_some_iff.1 hh).1
  have hx : ∀ (i : Nat) (v : Value), vs[i]? = some v → ∃ xs, xss[i]? = some xs := fun i v h =>
    ⟨xss[i]'(by rw [hl]; exact (List.getElem?_eq_some_iff.1 h).1), List.getElem?_eq_getElem _⟩
  refine ⟨vs.mapIdx fun i v => v.ownBlock.getD (w.heap.size + i), by simp, hl, hcell, ?_, ?_⟩
  · intro i v g xs h1 h2 h3
    rw [List.getElem?_mapIdx, h1] at h2
    have h2 : v.ownBlock.getD (w.heap.size + i) = g := by simpa using h2
    rcases ht i v xs h1 h3 with ⟨rfl, rfl⟩ | ⟨g', rfl, hb, hh⟩
    · have : w.heap.size + i = g := h2
      exact ⟨⟨.inl ⟨rfl, rfl⟩⟩, by omega, by omega⟩
    · have : g' = g := h2
      subst this
      exact ⟨⟨.inr ⟨rfl, hh⟩⟩, hb, fun e => hv i _ h1 (by rw [← e]; rfl)⟩
  · intro i j g h hij h1 h2
    rw [List.getElem?_mapIdx] at h1 h2
    obtain ⟨v, hv1, hv2⟩ := Option.map_eq_some_iff.1 h1
    obtain ⟨u, hu1, hu2⟩ := Option.map_eq_some_iff.1 h2
    obtain ⟨xv, hxv⟩ := hx i v hv1
    obtain ⟨xu, hxu⟩ := hx j u hu1
    cases ev : v.ownBlock with
    | none =>
      rw [ev] at hv2
      have e1 : w.heap.size + i = g := hv2
      cases eu : u.ownBlock with
      | none =>
        rw [eu] at hu2
        have e2 : w.heap.size + j = h := hu2
        omega
      | some b =>
        rw [eu] at hu2
        have e2 : b = h := hu2
        have := hg j u xu b hu1 hxu eu
        omega
    | some a =>
      rw [ev] at hv2
      have e1 : a = g := hv2
      have := hg i v xv a hv1 hxv ev
      cases eu : u.ownBlock with
      | none =>
        rw [eu] at hu2
        have e2 : w.heap.size + j = h := hu2
        omega
      | some b =>
        rw [eu] at hu2
        have e2 : b = h := hu2
        intro e
        exact hap i j v u a hij hv1 hu1 ev (by rw [eu]; congr 1; omega)
end Go.Proofs.YthblljfkodbbeabDoor.ze
