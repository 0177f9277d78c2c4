import Derived.Test.YtpbapaghcabehaaDoorE1
import Derived.ArgAppend
import Derived.Deep.DeepAppendRoom
namespace Go.Proofs.YtpbapaghcabehaaDoor.e2
open Go.RowKit Go.PlainAid Go.Shelf
open Go.Proofs.YtpbapaghcabehaaDoor.tb Go.Proofs.YtpbapaghcabehaaDoor.tc Go.Proofs.YtpbapaghcabehaaDoor.th Go.Proofs.YtpbapaghcabehaaDoor.tj Go.Proofs.YtpbapaghcabehaaDoor.va Go.Proofs.YtpbapaghcabehaaDoor.vb Go.Proofs.YtpbapaghcabehaaDoor.vc Go.Proofs.YtpbapaghcabehaaDoor.kp Go.Proofs.YtpbapaghcabehaaDoor.b3 Go.Proofs.YtpbapaghcabehaaDoor.b4 Go.Proofs.YtpbapaghcabehaaDoor.d1 Go.Proofs.YtpbapaghcabehaaDoor.e1
set_option linter.unusedVariables false
set_option maxRecDepth 8000

-- the mark of list i
def mk (i : Nat) : ByteArray := (⟨#[109, 97, 114, 107]⟩ : ByteArray) ++ str [97 + ((i % 26 : Nat) : Int)]
def mks (n : Nat) (M : ByteArray) : List Value := (List.replicate n M).map Value.string
-- one element of an own row is written
theorem own_put {w : World} {B t n g cap k : Nat} {xs : List Value} (h : w.ownsRow B t 1 (.slice (some ⟨g, 0, none⟩) n cap) n xs) (hk : k < n) (u : Value) : (w.setCell ⟨g, k, none⟩ u).ownsRow B t 1 (.slice (some ⟨g, 0, none⟩) n cap) n (xs.set k u) := by
  refine ⟨by rw [List.length_set]; exact h.1, ?_⟩
  rcases h.2 with ⟨e, _⟩ | ⟨g', cap', cur, e, h2, h3, h4, h5, h6, h7⟩
  · cases e
  · injection e with e1 _ e3
    injection e1 with e1
    injection e1 with e1 _ _
    subst e1 e3
    refine .inr ⟨g, cap, cur.setIfInBounds k u, rfl, h2, heap_setCell_same _ _ k _ _ _ h3, h4, h5, by simpa using h6, ?_⟩
    rw [← h7, Array.toList_setIfInBounds, List.take_set]
theorem own_prefix {w : World} {B t N n g cap : Nat} {xs : List Value} (h : w.ownsRow B t 1 (.slice (some ⟨g, 0, none⟩) N cap) N xs) (hn : n ≤ N) : w.ownsRow B t 1 (.slice (some ⟨g, 0, none⟩) n cap) n (xs.take n) := by
  have hl := h.1
  refine ⟨by rw [List.length_take]; omega, ?_⟩
  rcases h.2 with ⟨e, _⟩ | ⟨g', cap', cur, e, h2, h3, h4, h5, h6, h7⟩
  · cases e
  · injection e with e1 _ e3
    injection e1 with e1
    injection e1 with e1 _ _
    subst e1 e3
    refine .inr ⟨g, cap, cur, rfl, h2, h3, by omega, h5, h6, ?_⟩
    rw [← h7, List.take_take]
    congr 1
    omega
theorem own_cap {w : World} {B B' t n n' g cap cap' : Nat} {xs xs' : List Value} (h : w.ownsRow B t 1 (.slice (some ⟨g, 0, none⟩) n cap) n xs) (h' : w.ownsRow B' t 1 (.slice (some ⟨g, 0, none⟩) n' cap') n' xs') : cap = cap' := by
  rcases h.2 with ⟨e, _⟩ | ⟨a, b, cur, e, _, h3, _, _, h6, _⟩
  · cases e
  · rcases h'.2 with ⟨e', _⟩ | ⟨a', b', cur', e', _, h3', _, _, h6', _⟩
    · cases e'
    · injection e with e1 _ e3
      injection e1 with e1
      injection e1 with e1 _ _
      injection e' with e1' _ e3'
      injection e1' with e1'
      injection e1' with e1' _ _
      subst e1 e3 e1' e3'
      rw [h3] at h3'
      simp only [Option.some.injEq, Obj.cells.injEq] at h3'
      rw [← h3'.1] at h6'
      omega
theorem own_shape {w : World} {B t n : Nat} {v : Value} {xs : List Value} (h : w.ownsRow B t 1 v n xs) : (v = .slice none 0 0 ∧ n = 0) ∨ ∃ g cap, v = .slice (some ⟨g, 0, none⟩) n cap ∧ n ≤ cap ∧ B ≤ g ∧ g < w.heap.size := by
  rcases h.2 with h1 | ⟨g, cap, cur, e, h2, h3, h4, _⟩
  · exact .inl h1
  · exact .inr ⟨g, cap, e, h4, h2, (Array.getElem?_eq_some_iff.1 h3).1⟩
-- a list that grows, and what it came of
structure J (w0 w : World) (B : Nat) (v l : Value) (n m : Nat) (M : ByteArray) : Prop where
  own : w.ownsRow B 9 1 l (n + m) (mks (n + m) M)
  old : w.ownsRow B 9 1 v n (mks n M)
  at_ : l.ownBlock = v.ownBlock ∨ ∃ g, l.ownBlock = some g ∧ w0.heap.size ≤ g
  gr : w0.grownBy w v.ownBlock
theorem grown_refl (w : World) (r : Option Nat) : w.grownBy w r := ⟨rfl, rfl, rfl, Nat.le_refl _, fun _ _ _ => rfl⟩
theorem grown_trans {a b c : World} {r s : Option Nat} (h1 : a.grownBy b r) (h2 : b.grownBy c s) (h : s = r ∨ s = none ∨ ∃ g, s = some g ∧ a.heap.size ≤ g) : a.grownBy c r :=
  ⟨h2.os.trans h1.os, h2.tape.trans h1.tape, h2.output.trans h1.output, Nat.le_trans h1.size h2.size, fun k hk hr => (h2.block k (Nat.lt_of_lt_of_le hk h1.size) (fun e => by
    rcases h with h | h | ⟨g, h, hg⟩
    · exact hr (e.trans h)
    · rw [h] at e; cases e
    · rw [h] at e
      have := Option.some.inj e
      omega)).trans (h1.block k hk hr)⟩
theorem J.start {w : World} {B n : Nat} {v : Value} {M : ByteArray} (h : w.ownsRow B 9 1 v n (mks n M)) : J w w B v v n 0 M := ⟨h, h, .inl rfl, grown_refl _ _⟩
theorem J.alloc {w0 w : World} {B n m : Nat} {v l : Value} {M : ByteArray} (h : J w0 w B v l n m M) (o : Obj) : J w0 (w.alloc o) B v l n m M :=
  ⟨h.own.alloc o, h.old.alloc o, h.at_, grown_trans h.gr (World.grownBy_alloc w o none) (.inr (.inl rfl))⟩
theorem mks_succ (n : Nat) (M : ByteArray) : mks n M ++ [Value.string M] = mks (n + 1) M := by
  unfold mks
  rw [List.replicate_succ', List.map_append]
  rfl
theorem mks_take (n N : Nat) (M : ByteArray) (h : n ≤ N) : (mks N M).take n = mks n M := by
  unfold mks
  rw [← List.map_take, List.take_replicate, Nat.min_eq_left h]
theorem J.spare {w0 w w5 : World} {B n m g cap : Nat} {v : Value} {M : ByteArray} (h : J w0 w B v (.slice (some ⟨g, 0, none⟩) (n + m) cap) n m M) (ho : w5.ownsRow B 9 1 (.slice (some ⟨g, 0, none⟩) (n + m + 1) cap) (n + m + 1) (mks (n + m) M ++ [Value.string M])) (hg : w.grownBy w5 (some g)) : J w0 w5 B v (.slice (some ⟨g, 0, none⟩) (n + (m + 1)) cap) n (m + 1) M := by
  rw [mks_succ] at ho
  refine ⟨ho, ?_, h.at_, grown_trans h.gr hg ?_⟩
  · rcases own_shape h.old with ⟨rfl, rfl⟩ | ⟨g', cap', rfl, _⟩
    · exact World.ownsRow_nil _ _ _ _
    · rcases Decidable.em (g' = g) with rfl | hne
      · obtain rfl := own_cap h.old h.own
        have := own_prefix ho (n := n) (by omega)
        rwa [mks_take _ _ _ (by omega)] at this
      · exact h.old.kept hg (.inr (fun e => hne (Option.some.inj e)))
  · rcases h.at_ with e | ⟨g', e, h2⟩
    · exact .inl e
    · exact .inr (.inr ⟨g', e, h2⟩)
theorem J.grow {w0 w w5 : World} {B n m : Nat} {v l l' : Value} {M : ByteArray} (h : J w0 w B v l n m M) (hB : B ≤ w.heap.size) (ho : w5.ownsRow w.heap.size 9 1 l' (n + m + 1) (mks (n + m) M ++ [Value.string M])) (hg : w.grownBy w5 none) : J w0 w5 B v l' n (m + 1) M := by
  rw [mks_succ] at ho
  have hs := h.gr.size
  refine ⟨own_mono ho hB, h.old.kept hg (by cases hv : v.ownBlock with | none => exact .inl rfl | some g => exact .inr (by simp)), ?_, grown_trans h.gr hg (.inr (.inl rfl))⟩
  rcases own_shape ho with ⟨_, e⟩ | ⟨g, cap, rfl, _, h2, _⟩
  · omega
  · exact .inr ⟨g, rfl, by omega⟩
theorem J.forms {w0 w : World} {B n m : Nat} {v l : Value} {M : ByteArray} (h : J w0 w B v l n m M) : (∃ ao cap, l = .slice ao (n + m) cap ∧ cap < n + m + 1 ∧ (ao = none → n + m = 0 ∧ cap = 0)) ∨ ∃ g cap, l = .slice (some ⟨g, 0, none⟩) (n + m) cap ∧ n + m + 1 ≤ cap := by
  rcases own_shape h.own with ⟨rfl, e⟩ | ⟨g, cap, rfl, h2, _⟩
  · exact .inl ⟨none, 0, by rw [e], by omega, fun _ => ⟨e, rfl⟩⟩
  · rcases Nat.lt_or_ge cap (n + m + 1) with hc | hc
    · exact .inl ⟨_, cap, rfl, hc, fun e => by cases e⟩
    · exact .inr ⟨g, cap, rfl, hc⟩
theorem own_cells {w : World} {B t n : Nat} {ao : Option Addr} {cap : Nat} {xs : List Value} (h : w.ownsRow B t 1 (.slice ao n cap) n xs) : ∀ b, ao = some b → ∀ (j : Nat) (u : Value), xs[j]? = some u → w.cell? (b.add j) = some u := by
  intro b e j u hu
  subst e
  have hl := h.1
  have hj := (List.getElem?_eq_some_iff.1 hu).1
  rcases own_shape h with ⟨e, _⟩ | ⟨g, cap', e, _⟩
  · cases e
  · injection e with e1 _ e3
    injection e1 with e1
    subst e1 e3
    have := h.cellAt j (by omega)
    have e2 : (Addr.add ⟨g, 0, none⟩ j) = ⟨g, j, none⟩ := by cases j <;> simp [Addr.add]
    rw [e2, this]
    exact hu
-- the lists one after another
structure Grew (w : World) (B S : Nat) (nv : Value) (vs : List Value) (ns : List Nat) (ms : List Value) : Prop where
  olds : ∀ (t : Nat) (v : Value), vs[t]? = some v → w.ownsRow B 9 1 v (ns.getD t 0) (mks (ns.getD t 0) (mk t))
  row : w.ownsRow S 22 1 nv ms.length ms
  one : ∀ (t : Nat) (v : Value), ms[t]? = some v → w.ownsRow B 9 1 v (ns.getD t 0 + 64) (mks (ns.getD t 0 + 64) (mk t))
  blk : ∀ (t : Nat) (v u : Value), ms[t]? = some v → vs[t]? = some u → v.ownBlock = u.ownBlock ∨ ∃ g, v.ownBlock = some g ∧ S ≤ g
theorem Grew.keep {w w' : World} {B S q : Nat} {nv v : Value} {vs : List Value} {ns : List Nat} {ms : List Value} (h : Grew w B S nv vs ns ms) (hap : ∀ (i j : Nat) (v u : Value) (g : Nat), i ≠ j → vs[i]? = some v → vs[j]? = some u → v.ownBlock = some g → u.ownBlock ≠ some g) (hlt : ∀ (t : Nat) (v : Value) (g : Nat), vs[t]? = some v → v.ownBlock = some g → g < S)
    (hv : vs[q]? = some v) (hm : ms.length = q) (hvl : ∀ t, t < q → ∃ u, vs[t]? = some u) (hg : w.grownBy w' v.ownBlock) (ho : w'.ownsRow B 9 1 v (ns.getD q 0) (mks (ns.getD q 0) (e2.mk q))) : Grew w' B S nv vs ns ms := by
  have hne : (9 : Nat) ≠ 22 := by decide
  refine ⟨fun t u hu => ?_, own_other h.row (h.olds q v hv) (fun e => hne e.symm) hg, fun t u hu => ?_, h.blk⟩
  · rcases Decidable.em (t = q) with rfl | htq
    · rw [hv] at hu
      obtain rfl := Option.some.inj hu
      exact ho
    · refine (h.olds t u hu).kept hg ?_
      cases e : u.ownBlock with
      | none => exact .inl rfl
      | some g => exact .inr (fun e2 => hap t q u v g htq hu hv e e2.symm)
  · have htq : t < q := by have := (List.getElem?_eq_some_iff.1 hu).1; omega
    obtain ⟨x, hx⟩ := hvl t htq
    refine (h.one t u hu).kept hg ?_
    cases e : u.ownBlock with
    | none => exact .inl rfl
    | some g =>
      refine .inr (fun e2 => ?_)
      rcases h.blk t u x hu hx with e3 | ⟨g', e3, h3⟩
      · exact hap t q x v g (by omega) hx hv (e3.symm.trans e) e2.symm
      · rw [e] at e3
        obtain rfl := Option.some.inj e3
        have := hlt q v g hv e2.symm
        omega
theorem Grew.push {w w' : World} {B S q : Nat} {nv nv' l : Value} {vs : List Value} {ns : List Nat} {ms : List Value} (h : Grew w B S nv vs ns ms) (hm : ms.length = q) (hl : w.ownsRow B 9 1 l (ns.getD q 0 + 64) (mks (ns.getD q 0 + 64) (e2.mk q)))
    (hb : ∀ u, vs[q]? = some u → l.ownBlock = u.ownBlock ∨ ∃ g, l.ownBlock = some g ∧ S ≤ g) (ho : w'.ownsRow S 22 1 nv' (q + 1) (ms ++ [l])) (hg : w.grownBy w' nv.ownBlock) : Grew w' B S nv' vs ns (ms ++ [l]) := by
  have hne : (9 : Nat) ≠ 22 := by decide
  have key : ∀ (t : Nat) (x : Value), (ms ++ [l])[t]? = some x → (ms[t]? = some x) ∨ (x = l ∧ t = q) := by
    intro t x hx
    rcases Nat.lt_or_ge t ms.length with e | e
    · rw [List.getElem?_append_left e] at hx
      exact .inl hx
    · rw [List.getElem?_append_right e] at hx
      rcases Nat.eq_zero_or_pos (t - ms.length) with e0 | e0
      · rw [e0] at hx
        exact .inr ⟨by simpa using hx.symm, by omega⟩
      · rw [List.getElem?_eq_none (by simp; omega)] at hx; cases hx
  refine ⟨fun t u hu => own_other (h.olds t u hu) h.row hne hg, by rw [List.length_append, hm]; exact ho, fun t u hu => ?_, fun t u x hu hx => ?_⟩
  · rcases key t u hu with e | ⟨rfl, rfl⟩
    · exact own_other (h.one t u e) h.row hne hg
    · exact own_other hl h.row hne hg
  · rcases key t u hu with e | ⟨rfl, rfl⟩
    · exact h.blk t u x e hx
    · exact hb x hx
theorem Grew.below {w w' : World} {B S : Nat} {nv : Value} {vs : List Value} {ns : List Nat} {ms : List Value} (h : Grew w B S nv vs ns ms) (hb : Below w.heap.size w w') : Grew w' B S nv vs ns ms :=
  ⟨fun t v hv => own_below (h.olds t v hv) hb, own_below h.row hb, fun t v hv => own_below (h.one t v hv) hb, h.blk⟩
-- a list of the row is written
theorem Fam.set {w : World} {B k g cap m : Nat} {mv : Value} {ms : List Value} {xss : List (List ByteArray)} {xs : List ByteArray} (h : Fam w B mv ms xss) (hv : ms[k]? = some (.slice (some ⟨g, 0, none⟩) xs.length cap)) (hx : xss[k]? = some xs) (hm : m < xs.length) (x : ByteArray) : Fam (w.setCell ⟨g, m, none⟩ (.string x)) B mv ms (xss.set k (xs.set m x)) := by
  have hne : (9 : Nat) ≠ 22 := by decide
  have hme := h.one k _ xs hv hx
  have hg : w.grownBy (w.setCell ⟨g, m, none⟩ (.string x)) (some g) := ⟨rfl, rfl, rfl, by simp [World.setCell], fun i _ hi => Below.heap_setCell _ _ _ _ (by intro e; exact hi (congrArg some (by first | exact e | exact e.symm)))⟩
  refine ⟨own_other h.row hme (fun e => hne e.symm) hg, by rw [List.length_set]; exact h.lx, fun t v ys h1 h2 => ?_, h.apart⟩
  rcases Decidable.em (t = k) with rfl | htk
  · rw [hv] at h1
    obtain rfl := Option.some.inj h1
    rw [List.getElem?_set_self (List.getElem?_eq_some_iff.1 hx).1] at h2
    obtain rfl := Option.some.inj h2
    rw [List.length_set, List.map_set]
    exact own_put hme hm _
  · rw [List.getElem?_set_ne (fun e => htk e.symm)] at h2
    refine (h.one t v ys h1 h2).kept hg ?_
    cases e : v.ownBlock with
    | none => exact .inl rfl
    | some g' => exact .inr (fun e2 => h.apart t k v _ g' htk h1 hv e (by rw [e2]; rfl))
end Go.Proofs.YtpbapaghcabehaaDoor.e2
