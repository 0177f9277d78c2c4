import Derived.Test.YtgbachojkbfeoabDoorHa
namespace Go.Proofs.YtgbachojkbfeoabDoor.hb
open Go.RowKit Go.PlainAid
open Go.Proofs.YtgbachojkbfeoabDoor.pl Go.Proofs.YtgbachojkbfeoabDoor.pc Go.Proofs.YtgbachojkbfeoabDoor.pd Go.Proofs.YtgbachojkbfeoabDoor.ph Go.Proofs.YtgbachojkbfeoabDoor.pi Go.Proofs.YtgbachojkbfeoabDoor.ft Go.Proofs.YtgbachojkbfeoabDoor.pj Go.Proofs.YtgbachojkbfeoabDoor.pn Go.Proofs.YtgbachojkbfeoabDoor.re Go.Proofs.YtgbachojkbfeoabDoor.rf Go.Proofs.YtgbachojkbfeoabDoor.ha
set_option linter.unusedVariables false

structure Pr where
  p : Nat
  r : Nat
  t : ByteArray
def P1 (x : Pr) : Value := .pointer (some ⟨x.p, 0, none⟩)
def P2 (x : Pr) : Value := .pointer (some ⟨x.r, 0, none⟩)

-- the bench: pairs of hashes with one text each
structure Bn (w0 : World) (bb : Nat) (S : List Pr) (M : Nat) (pv rv : Value) (w : World) : Prop where
  bel : Below w0.heap.size w0 w
  tab : Tab4 w0
  hb : w.heap[bb]? = some (.cells #[pv, rv] 32 (0, 0))
  op : w.ownsRow w0.heap.size 33 1 pv S.length (S.map P1)
  orr : w.ownsRow w0.heap.size 35 1 rv S.length (S.map P2)
  big : w0.heap.size ≤ bb
  ha : ∀ (i : Nat) x, S[i]? = some x → HA w x.p x.t ∧ w0.heap.size ≤ x.p
  ra : ∀ (i : Nat) x, S[i]? = some x → RA w x.r x.t ∧ w0.heap.size ≤ x.r
  d1 : ∀ (i j : Nat) x y, S[i]? = some x → S[j]? = some y → i ≠ j → x.p ≠ y.p
  d2 : ∀ (i j : Nat) x y, S[i]? = some x → S[j]? = some y → i ≠ j → x.r ≠ y.r
  sz : ∀ (i : Nat) x, S[i]? = some x → x.t.size ≤ M
  n1 : 1 ≤ S.length
  n50 : S.length ≤ 50

theorem Bn.t4 {w0 : World} {bb : Nat} {S : List Pr} {M : Nat} {pv rv : Value} {w : World} (h : Bn w0 bb S M pv rv w) : Tab4 w := h.tab.down h.bel
theorem Bn.sz0 {w0 : World} {bb : Nat} {S : List Pr} {M : Nat} {pv rv : Value} {w : World} (h : Bn w0 bb S M pv rv w) : w0.heap.size ≤ w.heap.size := h.bel.size
theorem Bn.mono {w0 : World} {bb : Nat} {S : List Pr} {M M' : Nat} {pv rv : Value} {w : World} (h : Bn w0 bb S M pv rv w) (hm : M ≤ M') : Bn w0 bb S M' pv rv w :=
  ⟨h.bel, h.tab, h.hb, h.op, h.orr, h.big, h.ha, h.ra, h.d1, h.d2, fun i x hx => Nat.le_trans (h.sz i x hx) hm, h.n1, h.n50⟩

theorem tag_ne {w : World} {a b : Nat} {ca cb : Array Value} {ta tb : TypeId} {fa fb : Nat × Nat} (ha : w.heap[a]? = some (.cells ca ta fa)) (hb : w.heap[b]? = some (.cells cb tb fb)) (h : ta ≠ tb) : a ≠ b := by
  intro e; subst e
  rw [ha] at hb
  injection hb with hb
  injection hb with _ h2 _
  exact h h2
theorem ha_tag {w : World} {h : Nat} {t : ByteArray} (x : HA w h t) : ∃ cs, w.heap[h]? = some (.cells cs 48 (0, 0)) := by
  obtain ⟨_, L, _, hh⟩ := x
  exact ⟨_, hh⟩

-- nothing of it turned
theorem Bn.same {w0 : World} {bb : Nat} {S : List Pr} {M : Nat} {pv rv : Value} {w w' : World} (h : Bn w0 bb S M pv rv w) (b : Below w.heap.size w w') : Bn w0 bb S M pv rv w' := by
  have blk : ∀ k, k < w.heap.size → w'.heap[k]? = w.heap[k]? := b.block
  refine ⟨h.bel.trans (b.mono h.sz0), h.tab, (blk bb (Array.getElem?_eq_some_iff.1 h.hb).1).trans h.hb, owns_keep h.op (fun g hg => blk g (h.op.lt g hg).2), owns_keep h.orr (fun g hg => blk g (h.orr.lt g hg).2), h.big, fun i x hx => ⟨(h.ha i x hx).1.below b (h.ha i x hx).1.lt, (h.ha i x hx).2⟩, fun i x hx => ⟨(blk _ (h.ra i x hx).1.lt).trans (h.ra i x hx).1, (h.ra i x hx).2⟩, h.d1, h.d2, h.sz, h.n1, h.n50⟩

theorem set_get {S : List Pr} {i j : Nat} {x y : Pr} (h : (S.set i x)[j]? = some y) : (j = i ∧ y = x) ∨ (j ≠ i ∧ S[j]? = some y) := by
  rw [List.getElem?_set] at h
  by_cases e : i = j
  · subst e
    rw [if_pos rfl] at h
    split at h
    · exact .inl ⟨rfl, (Option.some.inj h).symm⟩
    · cases h
  · rw [if_neg e] at h
    exact .inr ⟨fun e' => e e'.symm, h⟩

-- one pair turned
theorem Bn.turn {w0 : World} {bb : Nat} {S : List Pr} {M M' : Nat} {pv rv : Value} {w w' : World} (h : Bn w0 bb S M pv rv w) (i : Nat) (x : Pr) (hx : S[i]? = some x) (t' : ByteArray) (hM : M ≤ M') (ht : t'.size ≤ M')
    (k : Kp (fun b => b = x.p ∨ b = x.r) w w') (ha' : HA w' x.p t') (ra' : RA w' x.r t') : Bn w0 bb (S.set i ⟨x.p, x.r, t'⟩) M' pv rv w' := by
  obtain ⟨cx, tx⟩ := ha_tag (h.ha i x hx).1
  have rx := (h.ra i x hx).1
  have hil : i < S.length := (List.getElem?_eq_some_iff.1 hx).1
  have keep : ∀ (b : Nat) (cb : Array Value) (tb : TypeId) (fb : Nat × Nat), w.heap[b]? = some (Obj.cells cb tb fb) → tb ≠ 48 → tb ≠ 51 → w'.heap[b]? = w.heap[b]? := fun b cb tb fb hb h1 h2 =>
    k.block b (Array.getElem?_eq_some_iff.1 hb).1 (fun e => e.elim (fun e => tag_ne hb tx h1 e) (fun e => tag_ne hb rx h2 e))
  have map1 : (S.set i ⟨x.p, x.r, t'⟩).map P1 = S.map P1 := by
    rw [List.map_set]
    apply List.ext_getElem?
    intro j
    rw [List.getElem?_set]
    split
    · rename_i e; subst e
      rw [List.length_map, if_pos hil, List.getElem?_map, hx]; rfl
    · rfl
  have map2 : (S.set i ⟨x.p, x.r, t'⟩).map P2 = S.map P2 := by
    rw [List.map_set]
    apply List.ext_getElem?
    intro j
    rw [List.getElem?_set]
    split
    · rename_i e; subst e
      rw [List.length_map, if_pos hil, List.getElem?_map, hx]; rfl
    · rfl
  refine ⟨h.bel.trans (k.below (fun b e => by rcases e with e | e <;> subst e; exact (h.ha i x hx).2; exact (h.ra i x hx).2) h.sz0), h.tab, (keep bb _ _ _ h.hb (by decide) (by decide)).trans h.hb, ?_, ?_, h.big, ?_, ?_, ?_, ?_, ?_, by rw [List.length_set]; exact h.n1, by rw [List.length_set]; exact h.n50⟩
  · rw [map1, List.length_set]
    exact owns_keep h.op (fun g hg => by obtain ⟨cur, hc⟩ := owns_tag h.op hg; exact keep g _ _ _ hc (by decide) (by decide))
  · rw [map2, List.length_set]
    exact owns_keep h.orr (fun g hg => by obtain ⟨cur, hc⟩ := owns_tag h.orr hg; exact keep g _ _ _ hc (by decide) (by decide))
  · intro j y hy
    rcases set_get hy with ⟨rfl, rfl⟩ | ⟨hne, hy'⟩
    · exact ⟨ha', (h.ha j x hx).2⟩
    · have hy1 := h.ha j y hy'
      obtain ⟨cy, ty⟩ := ha_tag hy1.1
      exact ⟨hy1.1.keep (k.block y.p hy1.1.lt (fun e => e.elim (h.d1 j i y x hy' hx hne) (fun e => tag_ne ty rx (by decide) e))), hy1.2⟩
  · intro j y hy
    rcases set_get hy with ⟨rfl, rfl⟩ | ⟨hne, hy'⟩
    · exact ⟨ra', (h.ra j x hx).2⟩
    · have hy1 := h.ra j y hy'
      exact ⟨(k.block y.r hy1.1.lt (fun e => e.elim (fun e => tag_ne hy1.1 tx (by decide) e) (h.d2 j i y x hy' hx hne))).trans hy1.1, hy1.2⟩
  · intro a b y z hy hz hne
    rcases set_get hy with ⟨rfl, rfl⟩ | ⟨h1, hy'⟩
    · rcases set_get hz with ⟨rfl, rfl⟩ | ⟨h2, hz'⟩
      · exact absurd rfl hne
      · exact h.d1 a b x z hx hz' hne
    · rcases set_get hz with ⟨rfl, rfl⟩ | ⟨h2, hz'⟩
      · exact h.d1 a b y x hy' hx hne
      · exact h.d1 a b y z hy' hz' hne
  · intro a b y z hy hz hne
    rcases set_get hy with ⟨rfl, rfl⟩ | ⟨h1, hy'⟩
    · rcases set_get hz with ⟨rfl, rfl⟩ | ⟨h2, hz'⟩
      · exact absurd rfl hne
      · exact h.d2 a b x z hx hz' hne
    · rcases set_get hz with ⟨rfl, rfl⟩ | ⟨h2, hz'⟩
      · exact h.d2 a b y x hy' hx hne
      · exact h.d2 a b y z hy' hz' hne
  · intro j y hy
    rcases set_get hy with ⟨rfl, rfl⟩ | ⟨hne, hy'⟩
    · exact ht
    · exact Nat.le_trans (h.sz j y hy') hM

theorem snoc_get {S : List Pr} {j : Nat} {x y : Pr} (h : (S ++ [x])[j]? = some y) : (j < S.length ∧ S[j]? = some y) ∨ (j = S.length ∧ y = x) := by
  rcases Nat.lt_trichotomy j S.length with h1 | h1 | h1
  · rw [List.getElem?_append_left h1] at h; exact .inl ⟨h1, h⟩
  · subst h1
    rw [List.getElem?_append_right (Nat.le_refl _)] at h
    simp at h
    exact .inr ⟨rfl, h.symm⟩
  · rw [List.getElem?_eq_none (by simp; omega)] at h; cases h

-- one pair more
theorem Bn.more {w0 : World} {bb : Nat} {S : List Pr} {M : Nat} {pv rv pv' rv' : Value} {w w' : World} (h : Bn w0 bb S M pv rv w) (x : Pr) (hxt : x.t.size ≤ M) (h50 : S.length < 50)
    (k : Kp (fun b => b = bb ∨ some b = pv.ownBlock ∨ some b = rv.ownBlock) w w') (hp : w.heap.size ≤ x.p) (hr : w.heap.size ≤ x.r) (ha' : HA w' x.p x.t) (ra' : RA w' x.r x.t)
    (hb' : w'.heap[bb]? = some (.cells #[pv', rv'] 32 (0, 0))) (op' : w'.ownsRow w0.heap.size 33 1 pv' (S.length + 1) (S.map P1 ++ [P1 x])) (or' : w'.ownsRow w0.heap.size 35 1 rv' (S.length + 1) (S.map P2 ++ [P2 x])) :
    Bn w0 bb (S ++ [x]) M pv' rv' w' := by
  have keep : ∀ (b : Nat) (cb : Array Value) (tb : TypeId) (fb : Nat × Nat), w.heap[b]? = some (Obj.cells cb tb fb) → tb ≠ 32 → tb ≠ 33 → tb ≠ 35 → w'.heap[b]? = w.heap[b]? := fun b cb tb fb hb h1 h2 h3 =>
    k.block b (Array.getElem?_eq_some_iff.1 hb).1 (fun e => by
      rcases e with e | e | e
      · exact tag_ne hb h.hb h1 e
      · obtain ⟨cur, hc⟩ := owns_tag h.op e.symm; exact tag_ne hb hc h2 rfl
      · obtain ⟨cur, hc⟩ := owns_tag h.orr e.symm; exact tag_ne hb hc h3 rfl)
  have hs := h.sz0
  refine ⟨h.bel.trans (k.below (fun b e => by
      rcases e with e | e | e
      · subst e; exact h.big
      · exact (h.op.lt b e.symm).1
      · exact (h.orr.lt b e.symm).1) h.sz0), h.tab, hb', by simpa using op', by simpa using or', h.big, ?_, ?_, ?_, ?_, ?_, by simp, by simp; omega⟩
  · intro j y hy
    rcases snoc_get hy with ⟨_, hy'⟩ | ⟨_, rfl⟩
    · have hy1 := h.ha j y hy'
      obtain ⟨cy, ty⟩ := ha_tag hy1.1
      exact ⟨hy1.1.keep (keep _ _ _ _ ty (by decide) (by decide) (by decide)), hy1.2⟩
    · exact ⟨ha', by omega⟩
  · intro j y hy
    rcases snoc_get hy with ⟨_, hy'⟩ | ⟨_, rfl⟩
    · have hy1 := h.ra j y hy'
      exact ⟨(keep _ _ _ _ hy1.1 (by decide) (by decide) (by decide)).trans hy1.1, hy1.2⟩
    · exact ⟨ra', by omega⟩
  · intro a b y z hy hz hne
    rcases snoc_get hy with ⟨_, hy'⟩ | ⟨ea, rfl⟩
    · rcases snoc_get hz with ⟨_, hz'⟩ | ⟨eb, rfl⟩
      · exact h.d1 a b y z hy' hz' hne
      · have := (h.ha a y hy').1.lt; omega
    · rcases snoc_get hz with ⟨_, hz'⟩ | ⟨eb, rfl⟩
      · have := (h.ha b z hz').1.lt; omega
      · omega
  · intro a b y z hy hz hne
    rcases snoc_get hy with ⟨_, hy'⟩ | ⟨ea, rfl⟩
    · rcases snoc_get hz with ⟨_, hz'⟩ | ⟨eb, rfl⟩
      · exact h.d2 a b y z hy' hz' hne
      · have := (h.ra a y hy').1.lt; omega
    · rcases snoc_get hz with ⟨_, hz'⟩ | ⟨eb, rfl⟩
      · have := (h.ra b z hz').1.lt; omega
      · omega
  · intro j y hy
    rcases snoc_get hy with ⟨_, hy'⟩ | ⟨_, rfl⟩
    · exact h.sz j y hy'
    · exact hxt

-- the slices, written out
theorem Bn.rows {w0 : World} {bb : Nat} {S : List Pr} {M : Nat} {pv rv : Value} {w : World} (h : Bn w0 bb S M pv rv w) :
    ∃ gp cp gr cr, pv = .slice (some ⟨gp, 0, none⟩) S.length cp ∧ rv = .slice (some ⟨gr, 0, none⟩) S.length cr ∧
      ∀ i x, S[i]? = some x → w.cell? ⟨gp, i, none⟩ = some (P1 x) ∧ w.cell? ⟨gr, i, none⟩ = some (P2 x) := by
  have hn := h.n1
  obtain ⟨_, ⟨_, e⟩ | ⟨gp, cp, cur, rfl, _, hh, _, _, _, ht⟩⟩ := h.op
  · omega
  obtain ⟨_, ⟨_, e⟩ | ⟨gr, cr, cur2, rfl, _, hh2, _, _, _, ht2⟩⟩ := h.orr
  · omega
  refine ⟨gp, cp, gr, cr, rfl, rfl, fun i x hx => ?_⟩
  have hil : i < S.length := (List.getElem?_eq_some_iff.1 hx).1
  constructor
  · rw [cell_of_row _ _ _ _ _ _ hh, ← Array.getElem?_toList]
    have e : cur.toList[i]? = (cur.toList.take (S.length * 1))[i]? := by rw [List.getElem?_take, if_pos (by omega)]
    rw [e, ht, List.getElem?_map, hx]; rfl
  · rw [cell_of_row _ _ _ _ _ _ hh2, ← Array.getElem?_toList]
    have e : cur2.toList[i]? = (cur2.toList.take (S.length * 1))[i]? := by rw [List.getElem?_take, if_pos (by omega)]
    rw [e, ht2, List.getElem?_map, hx]; rfl
end Go.Proofs.YtgbachojkbfeoabDoor.hb
