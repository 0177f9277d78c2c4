import Derived.Test.YtkanjkofdfmhhabDoorJb
namespace Go.Proofs.YtkanjkofdfmhhabDoor.jc
open Go.RowKit Go.PlainAid
open Go.Proofs.YtkanjkofdfmhhabDoor.ca Go.Proofs.YtkanjkofdfmhhabDoor.cb Go.Proofs.YtkanjkofdfmhhabDoor.cp Go.Proofs.YtkanjkofdfmhhabDoor.ka Go.Proofs.YtkanjkofdfmhhabDoor.ga Go.Proofs.YtkanjkofdfmhhabDoor.gb Go.Proofs.YtkanjkofdfmhhabDoor.gs Go.Proofs.YtkanjkofdfmhhabDoor.jb
set_option linter.unusedVariables false

-- lists side by side, each in a row of its own
structure Rws (w : World) (B : Nat) (L : List (Value × List ByteArray)) : Prop where
  own : ∀ p ∈ L, Own w B p.1 p.2
  apart : L.Pairwise fun p q => ∀ g, p.1.ownBlock = some g → q.1.ownBlock ≠ some g
theorem Rws.nil (w : World) (B : Nat) : Rws w B [] := ⟨fun _ h => (by cases h), List.Pairwise.nil⟩
theorem Rws.later {w w' : World} {B : Nat} {L : List (Value × List ByteArray)} (h : Rws w B L) (hb : Below w.heap.size w w') : Rws w' B L := ⟨fun p hp => own_later (h.own p hp) hb, h.apart⟩
-- one more, made since
theorem Rws.add {w w' : World} {B : Nat} {L : List (Value × List ByteArray)} {v : Value} {ts : List ByteArray} (h : Rws w B L) (hb : Below w.heap.size w w') (ho : Own w' w.heap.size v ts) (hB : B ≤ w.heap.size) : Rws w' B (L ++ [(v, ts)]) := by
  refine ⟨fun p hp => ?_, ?_⟩
  · rcases List.mem_append.1 hp with hp | hp
    · exact own_later (h.own p hp) hb
    · obtain rfl : p = (v, ts) := by simpa using hp
      exact own_down ho hB
  · refine List.pairwise_append.2 ⟨h.apart, List.pairwise_singleton _ _, fun p hp q hq g e e' => ?_⟩
    obtain rfl : q = (v, ts) := by simpa using hq
    have h1 := (World.ownsRow.lt (h.own p hp) g e).2
    have h2 := (World.ownsRow.lt ho g e').1
    omega
theorem Rws.ne {w : World} {B : Nat} {L : List (Value × List ByteArray)} (h : Rws w B L) {i j : Nat} {p q : Value × List ByteArray} (hi : L[i]? = some p) (hj : L[j]? = some q) (hij : i ≠ j) (g : Nat) (e : p.1.ownBlock = some g) : q.1.ownBlock ≠ some g := by
  obtain ⟨hi1, hi2⟩ := List.getElem?_eq_some_iff.1 hi
  obtain ⟨hj1, hj2⟩ := List.getElem?_eq_some_iff.1 hj
  rcases Nat.lt_or_gt_of_ne hij with c | c
  · have := List.pairwise_iff_getElem.1 h.apart i j hi1 hj1 c g
    rw [hi2, hj2] at this
    exact this e
  · intro e'
    have := List.pairwise_iff_getElem.1 h.apart j i hj1 hi1 c g
    rw [hi2, hj2] at this
    exact this e' e
-- one row turned (its block alone), its value the same
theorem Rws.turn {w w' : World} {B : Nat} {L : List (Value × List ByteArray)} (h : Rws w B L) {i : Nat} {v : Value} {ts ts' : List ByteArray} (hi : L[i]? = some (v, ts)) (hg : w.grownBy w' v.ownBlock) (ho : Own w' B v ts') : Rws w' B (L.set i (v, ts')) := by
  obtain ⟨hi1, hi2⟩ := List.getElem?_eq_some_iff.1 hi
  refine ⟨fun p hp => ?_, ?_⟩
  · obtain ⟨j, hj⟩ := List.mem_iff_getElem?.1 hp
    by_cases e : j = i
    · subst e
      rw [List.getElem?_set_self hi1] at hj
      obtain rfl := Option.some.inj hj
      exact ho
    · rw [List.getElem?_set_ne (Ne.symm e)] at hj
      have hm : p ∈ L := List.mem_iff_getElem?.2 ⟨j, hj⟩
      refine World.ownsRow.kept (h.own p hm) hg ?_
      cases hvb : p.1.ownBlock with
      | none => exact .inl rfl
      | some g => exact .inr (fun e' => h.ne hj hi e g hvb e'.symm)
  · apply List.pairwise_iff_getElem.2
    intro a b ha hb hab g
    rw [List.length_set] at ha hb
    have key : ∀ c (hc : c < L.length), ((L.set i (v, ts'))[c]'(by rw [List.length_set]; exact hc)).1 = (L[c]'hc).1 := by
      intro c hc
      rw [List.getElem_set]
      split
      · rename_i e
        subst e
        rw [hi2]
      · rfl
    rw [key a ha, key b hb]
    exact List.pairwise_iff_getElem.1 h.apart a b ha hb hab g
theorem Rws.same {w w' : World} {B : Nat} {L : List (Value × List ByteArray)} (h : Rws w B L) {i : Nat} {v : Value} {ts : List ByteArray} (hi : L[i]? = some (v, ts)) (hg : w.grownBy w' v.ownBlock) (ho : Own w' B v ts) : Rws w' B L := by
  have := h.turn hi hg ho
  have e : L.set i (v, ts) = L := by
    apply List.ext_getElem?
    intro j
    by_cases c : j = i
    · subst c
      rw [List.getElem?_set_self (List.getElem?_eq_some_iff.1 hi).1, hi]
    · rw [List.getElem?_set_ne (Ne.symm c)]
  rwa [e] at this
theorem Rws.at {w : World} {B : Nat} {L : List (Value × List ByteArray)} (h : Rws w B L) {i : Nat} {v : Value} {ts : List ByteArray} (hi : L[i]? = some (v, ts)) : Own w B v ts := h.own (v, ts) (List.mem_iff_getElem?.2 ⟨i, hi⟩)
theorem Rws.reads {w : World} {B : Nat} {L : List (Value × List ByteArray)} (h : Rws w B L) {i : Nat} {v : Value} {ts : List ByteArray} (hi : L[i]? = some (v, ts)) : ReadsT w v ts := own_readsT (h.at hi)
-- the marks
def mrk (k : Nat) : ByteArray := ⟨#[UInt8.ofNat (97 + k)]⟩
theorem mrk_size (k : Nat) : (mrk k).size = 1 := rfl
end Go.Proofs.YtkanjkofdfmhhabDoor.jc
