import Derived.Test.YthblljfkodbbeabDoorZa
import Derived.Laws.OwnMore
namespace Go.Proofs.YthblljfkodbbeabDoor.zb
open Go.RowKit Go.PlainAid
open Go.Proofs.YthblljfkodbbeabDoor.ta Go.Proofs.YthblljfkodbbeabDoor.tb Go.Proofs.YthblljfkodbbeabDoor.tc Go.Proofs.YthblljfkodbbeabDoor.tj Go.Proofs.YthblljfkodbbeabDoor.va Go.Proofs.YthblljfkodbbeabDoor.vb Go.Proofs.YthblljfkodbbeabDoor.vc Go.Proofs.YthblljfkodbbeabDoor.ya Go.Proofs.YthblljfkodbbeabDoor.yb Go.Proofs.YthblljfkodbbeabDoor.za
set_option linter.unusedVariables false

-- a list of texts, its block named (0 for nil: no matter)
structure Lst (w : World) (g : Nat) (v : Value) (xs : List ByteArray) : Prop where
  form : (v = .slice none 0 0 ∧ xs = []) ∨ (v = .slice (some ⟨g, 0, none⟩) xs.length xs.length ∧ w.heap[g]? = some (.cells (srow xs) 9 (0, 0)))
theorem Lst.of {w : World} {B : Nat} {v : Value} {xs : List ByteArray} (h : Texts w B v xs) (hB : B ≤ w.heap.size) : ∃ g, Lst w g v xs ∧ B ≤ g := by
  rcases h with ⟨rfl, rfl⟩ | ⟨g, h1, h2, h3⟩
  · exact ⟨B, ⟨.inl ⟨rfl, rfl⟩⟩, Nat.le_refl _⟩
  · exact ⟨g, ⟨.inr ⟨h1, h3⟩⟩, h2⟩
theorem Lst.reads {w : World} {g : Nat} {v : Value} {xs : List ByteArray} (h : Lst w g v xs) : Reads w v xs := by
  rcases h.form with ⟨rfl, rfl⟩ | ⟨rfl, h1⟩
  · exact ⟨none, 0, rfl, .inl rfl⟩
  · refine ⟨_, _, rfl, .inr ⟨g, 0, rfl, fun i hi => ?_⟩⟩
    rw [Nat.zero_add, cell_of_row _ _ _ _ _ _ h1, srow_get, List.getElem?_eq_getElem hi, List.getD_eq_getElem?_getD, List.getElem?_eq_getElem hi]
    rfl
-- what stands in another block is kept
theorem Lst.kept {w w' : World} {g : Nat} {v : Value} {xs : List ByteArray} (h : Lst w g v xs) (hk : ∀ o, w.heap[g]? = some o → w'.heap[g]? = some o) : Lst w' g v xs := by
  rcases h.form with h1 | ⟨h1, h2⟩
  · exact ⟨.inl h1⟩
  · exact ⟨.inr ⟨h1, hk _ h2⟩⟩
theorem Lst.below {w w' : World} {B g : Nat} {v : Value} {xs : List ByteArray} (h : Lst w g v xs) (hb : Below B w w') (hg : g < B) : Lst w' g v xs :=
  h.kept fun o ho => (hb.block g hg).trans ho
-- one text written
theorem Lst.set {w : World} {g k : Nat} {v : Value} {xs : List ByteArray} (h : Lst w g v xs) (hk : k < xs.length) (x : ByteArray) : Lst (w.setCell ⟨g, k, none⟩ (.string x)) g v (xs.set k x) := by
  rcases h.form with ⟨_, rfl⟩ | ⟨rfl, h1⟩
  · simp at hk
  · refine ⟨.inr ⟨by rw [List.length_set], ?_⟩⟩
    rw [heap_setCell_same w g k _ _ _ h1, srow_set]
theorem Lst.cell {w : World} {g k : Nat} {v : Value} {xs : List ByteArray} (h : Lst w g v xs) (hk : k < xs.length) : v = .slice (some ⟨g, 0, none⟩) xs.length xs.length ∧ w.cell? ⟨g, k, none⟩ = some (.string (xs.getD k ByteArray.empty)) ∧ w.frozen? ⟨g, k, none⟩ = false := by
  rcases h.form with ⟨_, rfl⟩ | ⟨rfl, h1⟩
  · simp at hk
  · refine ⟨rfl, ?_, frozen_of_row w g k _ _ h1⟩
    rw [cell_of_row _ _ _ _ _ _ h1, srow_get, List.getElem?_eq_getElem hk, List.getD_eq_getElem?_getD, List.getElem?_eq_getElem hk]
    rfl
theorem set_below (w : World) (B g k : Nat) (u : Value) (h : B ≤ g) : Below B w (w.setCell ⟨g, k, none⟩ u) :=
  ⟨rfl, rfl, rfl, by simp, fun i hi => heap_setCell_other w ⟨g, k, none⟩ i u (by simp; omega)⟩
theorem set_other (w : World) (g k i : Nat) (u : Value) (h : i ≠ g) : (w.setCell ⟨g, k, none⟩ u).heap[i]? = w.heap[i]? := heap_setCell_other w ⟨g, k, none⟩ i u h
-- a list written full, as far as it is
def fill (M : ByteArray) (xs : List ByteArray) (k : Nat) : List ByteArray := List.replicate k M ++ xs.drop k
theorem fill_len (M : ByteArray) (xs : List ByteArray) (k : Nat) (h : k ≤ xs.length) : (fill M xs k).length = xs.length := by simp [fill]; omega
theorem fill_set (M : ByteArray) (xs : List ByteArray) (k : Nat) (h : k < xs.length) : (fill M xs k).set k M = fill M xs (k + 1) := by
  unfold fill
  rw [List.set_append_right _ _ (by simp), List.length_replicate, Nat.sub_self, List.drop_eq_getElem_cons h, List.set_cons_zero, List.replicate_succ', List.append_assoc]
  rfl
theorem fill_end (M : ByteArray) (xs : List ByteArray) : fill M xs xs.length = List.replicate xs.length M := by simp [fill]
theorem fill_zero (M : ByteArray) (xs : List ByteArray) : fill M xs 0 = xs := by simp [fill]
end Go.Proofs.YthblljfkodbbeabDoor.zb
