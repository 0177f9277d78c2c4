import Derived.Test.YtkanjkofdfmhhabDoorJe
namespace Go.Proofs.YtkanjkofdfmhhabDoor.jg
open Go.RowKit Go.PlainAid
open Go.Proofs.YtkanjkofdfmhhabDoor.ca Go.Proofs.YtkanjkofdfmhhabDoor.cb Go.Proofs.YtkanjkofdfmhhabDoor.cp Go.Proofs.YtkanjkofdfmhhabDoor.ka Go.Proofs.YtkanjkofdfmhhabDoor.gb Go.Proofs.YtkanjkofdfmhhabDoor.gs Go.Proofs.YtkanjkofdfmhhabDoor.jb Go.Proofs.YtkanjkofdfmhhabDoor.jc Go.Proofs.YtkanjkofdfmhhabDoor.jd Go.Proofs.YtkanjkofdfmhhabDoor.je
set_option linter.unusedVariables false

theorem Rws.perm {w : World} {B : Nat} {L L' : List (Value × List ByteArray)} (h : Rws w B L) (hp : L.Perm L') : Rws w B L' :=
  ⟨fun p hm => h.own p (hp.mem_iff.2 hm), hp.pairwise h.apart (fun {p q} hpq g e e' => hpq g e' e)⟩
theorem Sd.perm {T : World → Prop} {w w' : World} {L L' : List (Value × List ByteArray)} (h : Sd T w L w') (hp : L.Perm L') : Sd T w L' w' := ⟨h.l, h.t, h.b, Rws.perm h.r hp⟩
-- four rows that stay, ten that are written into, and the list of these
structure St (T : World → Prop) (w : World) (F M : List (Value × List ByteArray)) (V : List Value) (A : Nat) (w' : World) : Prop where
  s : Sd T w (F ++ M) w'
  v : M.map Prod.fst = V
  a : w'.heap[A]? = some (.cells V.toArray 22 (0, 0))
theorem St.on {T : World → Prop} {w w' w'' : World} {F M : List (Value × List ByteArray)} {V : List Value} {A : Nat} (h : St T w F M V A w') (hb : Below w'.heap.size w' w'') : St T w F M V A w'' :=
  ⟨h.s.on hb, h.v, (hb.block A (Array.getElem?_eq_some_iff.1 h.a).1).trans h.a⟩
theorem St.cell {T : World → Prop} {w w' : World} {F M : List (Value × List ByteArray)} {V : List Value} {A : Nat} (h : St T w F M V A w') (k : Nat) (x : Value) (hx : V[k]? = some x) : w'.cell? ⟨A, k, none⟩ = some x := by
  rw [cell_of_row _ _ _ _ _ _ h.a]
  simpa using hx
theorem St.row {T : World → Prop} {w w' : World} {F M : List (Value × List ByteArray)} {V : List Value} {A : Nat} (h : St T w F M V A w') (k : Nat) (hk : k < V.length) : ∃ ts a c, M[k]? = some (.slice a ts.length c, ts) ∧ V[k]? = some (.slice a ts.length c) ∧ ReadsT w' (.slice a ts.length c) ts ∧ ((ts.length = 0) ∨ ∃ g, a = some ⟨g, 0, none⟩) := by
  have hl : M.length = V.length := by rw [← h.v, List.length_map]
  have hm : M[k]? = some (M[k]'(by omega)) := List.getElem?_eq_getElem (by omega)
  obtain ⟨p, hp⟩ : ∃ p, M[k]'(by omega) = p := ⟨_, rfl⟩
  rw [hp] at hm
  have hmem : p ∈ F ++ M := List.mem_append_right _ (List.mem_iff_getElem?.2 ⟨k, hm⟩)
  have ho := h.s.r.own p hmem
  obtain ⟨v, ts⟩ := p
  have hv : V[k]? = some v := by rw [← h.v, List.getElem?_map, hm]; rfl
  rcases ho.2 with ⟨e, e0⟩ | ⟨g, cp, cur, e, _⟩
  · have e' : v = .slice none ts.length 0 := by
      show v = _
      rw [show ts.length = 0 from e0]
      exact e
    subst e'
    exact ⟨ts, none, 0, hm, hv, own_readsT ho, .inl e0⟩
  · have e' : v = .slice (some ⟨g, 0, none⟩) ts.length cp := e
    subst e'
    exact ⟨ts, _, cp, hm, hv, own_readsT ho, .inr ⟨g, rfl⟩⟩
theorem at_four {F M : List (Value × List ByteArray)} {k : Nat} {p : Value × List ByteArray} (hF : F.length = 4) (h : M[k]? = some p) : (F ++ M)[4 + k]? = some p := by
  rw [List.getElem?_append_right (by omega), hF, Nat.add_sub_cancel_left]
  exact h
theorem St.ne {T : World → Prop} {w w' : World} {F M : List (Value × List ByteArray)} {V : List Value} {A g n cp : Nat} {ts : List ByteArray} (h : St T w F M V A w') (ho : Own w' w.heap.size (.slice (some ⟨g, 0, none⟩) n cp) ts) : A ≠ g := by
  intro e
  subst e
  rcases ho.2 with ⟨e, _⟩ | ⟨g', cp', cur, e, _, hg, _⟩
  · cases e
  · injection e with e1 _ _
    injection e1 with e1
    injection e1 with e1
    subst e1
    rw [h.a] at hg
    simp only [Option.some.injEq, Obj.cells.injEq] at hg
    exact absurd hg.2.1 (by decide)
theorem St.put {T : World → Prop} {w w' : World} {F M : List (Value × List ByteArray)} {V : List Value} {A k g n cp : Nat} {ts : List ByteArray} (h : St T w F M V A w') (hF : F.length = 4) (hk : M[k]? = some (.slice (some ⟨g, 0, none⟩) n cp, ts)) (hn : ts.length = n) (j : Nat) (y : ByteArray) :
    St T w F (M.set k (.slice (some ⟨g, 0, none⟩) n cp, ts.set j y)) V A (w'.setCell ⟨g, j, none⟩ (.string y)) := by
  have h4 := at_four hF hk
  have hs := h.s.put h4 hn j y
  rw [List.set_append_right _ _ (by omega), hF, Nat.add_sub_cancel_left] at hs
  have hne := h.ne (h.s.r.at h4)
  refine ⟨hs, ?_, ?_⟩
  · rw [List.map_set, h.v]
    apply List.ext_getElem?
    intro c
    by_cases e : c = k
    · subst e
      have : V[c]? = some (.slice (some ⟨g, 0, none⟩) n cp) := by rw [← h.v, List.getElem?_map, hk]; rfl
      rw [List.getElem?_set_self (List.getElem?_eq_some_iff.1 this).1, this]
    · rw [List.getElem?_set_ne (Ne.symm e)]
  · exact (Below.heap_setCell w' ⟨g, j, none⟩ _ A hne).trans h.a
theorem St.kept {T : World → Prop} {w w' w'' : World} {F M : List (Value × List ByteArray)} {V : List Value} {A k : Nat} {v : Value} {ts : List ByteArray} (h : St T w F M V A w') (hF : F.length = 4) (hk : M[k]? = some (v, ts)) (hg : w'.grownBy w'' v.ownBlock) (ho : Own w'' w.heap.size v ts) : St T w F M V A w'' := by
  have h4 := at_four hF hk
  have ho' := h.s.r.at h4
  refine ⟨⟨h.s.l, h.s.t, Below.grown h.s.b hg h.s.b.size (fun j hj => (World.ownsRow.lt ho' j hj).1), h.s.r.same h4 hg ho⟩, h.v, ?_⟩
  refine (hg.block A (Array.getElem?_eq_some_iff.1 h.a).1 (fun e => ?_)).trans h.a
  rcases ho'.2 with ⟨rfl, _⟩ | ⟨g, cp, cur, rfl, _⟩
  · cases e
  · have : A = g := by simpa [Value.ownBlock] using e
    exact h.ne ho' this
def sl (k : Nat) : ByteArray := (⟨#[47]⟩ : ByteArray) ++ mrk k
-- the rows ahead of k are written full
def Full (M : List (Value × List ByteArray)) (k : Nat) : Prop := ∀ r p, r < k → M[r]? = some p → ∀ j, j < p.2.length → p.2.getD j ByteArray.empty = sl r
theorem Full.set {M : List (Value × List ByteArray)} {k : Nat} (h : Full M k) (q : Value × List ByteArray) : Full (M.set k q) k := fun r p hr hp => by
  rw [List.getElem?_set_ne (by omega)] at hp
  exact h r p hr hp
theorem Full.succ {M : List (Value × List ByteArray)} {k : Nat} {p : Value × List ByteArray} (h : Full M k) (hk : M[k]? = some p) (hp : ∀ j, j < p.2.length → p.2.getD j ByteArray.empty = sl k) : Full M (k + 1) := fun r q hr hq => by
  rcases Nat.lt_or_ge r k with c | c
  · exact h r q c hq
  · obtain rfl : r = k := by omega
    rw [hk] at hq
    obtain rfl := Option.some.inj hq
    exact hp
end Go.Proofs.YtkanjkofdfmhhabDoor.jg
