import Derived.Test.YtnnpidjpklfogaaDoorNb
namespace Go.Proofs.YtnnpidjpklfogaaDoor.oa
open Go.RowKit Go.PlainAid
open Go.Proofs.YtnnpidjpklfogaaDoor.ca Go.Proofs.YtnnpidjpklfogaaDoor.cp Go.Proofs.YtnnpidjpklfogaaDoor.ka Go.Proofs.YtnnpidjpklfogaaDoor.na
set_option linter.unusedVariables false

-- a node with its hash; a list of them in memory
abbrev Md := Nd ByteArray
def md (n : Md) : Value := .agg #[.int .i64 (n.1.1 : Nat), .int .i64 (n.1.2 : Nat), .string n.2]
def ml (n : Md) : List Value := [.int .i64 (n.1.1 : Nat), .int .i64 (n.1.2 : Nat), .string n.2]
def mls (L : List Md) : List Value := L.flatMap ml
theorem mls_len (L : List Md) : (mls L).length = L.length * 3 := by
  induction L with
  | nil => rfl
  | cons a L ih =>
    show (ml a ++ mls L).length = _
    rw [List.length_append, ih, List.length_cons]
    show 3 + _ = _
    omega
theorem mls_app (L M : List Md) : mls (L ++ M) = mls L ++ mls M := by unfold mls; exact List.flatMap_append
theorem mls_one (a : Md) : mls [a] = ml a := by show ml a ++ [] = _; rw [List.append_nil]
theorem mls_get (L : List Md) (i : Nat) (a : Md) (h : L[i]? = some a) : (mls L)[i * 3]? = some (.int .i64 (a.1.1 : Nat)) ∧ (mls L)[i * 3 + 1]? = some (.int .i64 (a.1.2 : Nat)) ∧ (mls L)[i * 3 + 2]? = some (.string a.2) := by
  induction L generalizing i with
  | nil => simp at h
  | cons b L ih =>
    cases i with
    | zero =>
      obtain rfl : b = a := by simpa using h
      exact ⟨rfl, rfl, rfl⟩
    | succ i =>
      have := ih i (by simpa using h)
      show (ml b ++ mls L)[(i + 1) * 3]? = _ ∧ (ml b ++ mls L)[(i + 1) * 3 + 1]? = _ ∧ (ml b ++ mls L)[(i + 1) * 3 + 2]? = _
      have hl : (ml b).length = 3 := rfl
      rw [List.getElem?_append_right (by omega), List.getElem?_append_right (by omega), List.getElem?_append_right (by omega), hl, show (i + 1) * 3 - 3 = i * 3 by omega, show (i + 1) * 3 + 1 - 3 = i * 3 + 1 by omega, show (i + 1) * 3 + 2 - 3 = i * 3 + 2 by omega]
      exact this
theorem mls_take (L : List Md) (k : Nat) : mls (L.take k) = (mls L).take (k * 3) := by
  induction L generalizing k with
  | nil => simp [mls]
  | cons b L ih =>
    cases k with
    | zero => simp [mls]
    | succ k =>
      show ml b ++ mls (L.take k) = (ml b ++ mls L).take ((k + 1) * 3)
      have hl : (ml b).length = 3 := rfl
      rw [List.take_append, hl, ih, show (k + 1) * 3 - 3 = k * 3 by omega, List.take_of_length_le (l := ml b) (by rw [hl]; omega)]
theorem hiM : (Tryd.prog.info? 54).map (fun i => (i.zero, i.size, i.bytes)) = some (some (.agg #[.int .i64 0, .int .i64 0, .string ByteArray.empty]), 3, 32) := by kernel_rfl
theorem three_cells (W : World) (x y z : Value) (t : TypeId) : ∀ (j : Nat) (u : Value), [x, y, z][j]? = some u → (W.alloc (.cells #[x, y, z] t)).cell? (Addr.add ⟨W.heap.size, 0, none⟩ j) = some u := by
  intro j u hu
  rw [show (Addr.add ⟨W.heap.size, 0, none⟩ j) = ⟨W.heap.size, j, none⟩ by cases j <;> simp [Addr.add], World.cell?_alloc_at _ _ _ _ rfl]
  simpa using hu
theorem one_made (a : Md) : ∀ u ∈ ml a, u.oneCell' = true := by
  intro u hu
  simp only [ml, List.mem_cons, List.not_mem_nil, or_false] at hu
  rcases hu with rfl | rfl | rfl <;> rfl
theorem one_mades (L : List Md) : ∀ u ∈ mls L, u.oneCell' = true := by
  intro u hu
  obtain ⟨a, _, ha⟩ := List.mem_flatMap.1 hu
  exact one_made a u ha
-- a list of them, wherever it lies
def ReadsM (w : World) (v : Value) (L : List Md) : Prop :=
  ∃ a cap, v = .slice a L.length cap ∧ (L.length = 0 ∨ ∃ b, a = some ⟨b, 0, none⟩ ∧ ∀ (i : Nat) (x : Md), L[i]? = some x → w.cell? ⟨b, i * 3, none⟩ = some (.int .i64 (x.1.1 : Nat)) ∧ w.cell? ⟨b, i * 3 + 1, none⟩ = some (.int .i64 (x.1.2 : Nat)) ∧ w.cell? ⟨b, i * 3 + 2, none⟩ = some (.string x.2))
theorem ReadsM.later {w w' : World} {v : Value} {L : List Md} (h : ReadsM w v L) (hb : Below w.heap.size w w') : ReadsM w' v L := by
  obtain ⟨a, cap, rfl, h0 | ⟨b, rfl, hc⟩⟩ := h
  · exact ⟨a, cap, rfl, .inl h0⟩
  · refine ⟨_, cap, rfl, .inr ⟨b, rfl, fun i x hx => ?_⟩⟩
    obtain ⟨c1, c2, c3⟩ := hc i x hx
    exact ⟨(hb.cell (p := ⟨b, i * 3, none⟩) (World.block_lt_of_cell? _ _ c1)).trans c1, (hb.cell (p := ⟨b, i * 3 + 1, none⟩) (World.block_lt_of_cell? _ _ c2)).trans c2, (hb.cell (p := ⟨b, i * 3 + 2, none⟩) (World.block_lt_of_cell? _ _ c3)).trans c3⟩
theorem own_readsM {w : World} {B n : Nat} {v : Value} {L : List Md} (h : w.ownsRow B 54 3 v n (mls L)) : ReadsM w v L := by
  have hn : L.length = n := by have := h.1; rw [mls_len] at this; omega
  subst hn
  rcases h.2 with ⟨rfl, h0⟩ | ⟨g, cap, cur, rfl, _, hg, _⟩
  · exact ⟨none, 0, by rw [h0], .inl h0⟩
  · refine ⟨_, cap, rfl, .inr ⟨g, rfl, fun i x hx => ?_⟩⟩
    have hi := (List.getElem?_eq_some_iff.1 hx).1
    obtain ⟨c1, c2, c3⟩ := mls_get L i x hx
    exact ⟨(h.cellAt (i * 3) (by omega)).trans c1, (h.cellAt (i * 3 + 1) (by omega)).trans c2, (h.cellAt (i * 3 + 2) (by omega)).trans c3⟩
theorem row_atM {L : List Md} {w : World} {a : Option Addr} {cap n : Nat} {x : Md} {j : Nat} (h : ReadsM w (.slice a n cap) L) (hx : L[j]? = some x) : ∃ b, a = some ⟨b, 0, none⟩ ∧ w.cell? ⟨b, j * 3, none⟩ = some (.int .i64 (x.1.1 : Nat)) ∧ w.cell? ⟨b, j * 3 + 1, none⟩ = some (.int .i64 (x.1.2 : Nat)) ∧ w.cell? ⟨b, j * 3 + 2, none⟩ = some (.string x.2) := by
  obtain ⟨a', cap', e1, hc⟩ := h
  injection e1 with e1 e2 e3
  subst e1
  have := (List.getElem?_eq_some_iff.1 hx).1
  rcases hc with h0 | ⟨b, e4, hc⟩
  · omega
  · exact ⟨b, e4, hc j _ hx⟩
theorem reads_newsM {w : World} {ad : Addr} {n cap : Nat} {L : List Md} (h : ReadsM w (.slice (some ad) n cap) L) : ∀ (j : Nat) (u : Value), (mls L)[j]? = some u → w.cell? (ad.add j) = some u := by
  intro j u hu
  have hj : j < L.length * 3 := by have := (List.getElem?_eq_some_iff.1 hu).1; rwa [mls_len] at this
  have hi : j / 3 < L.length := by omega
  obtain ⟨x, hx⟩ : ∃ x, L[j / 3]? = some x := ⟨_, List.getElem?_eq_getElem hi⟩
  obtain ⟨b, e, c1, c2, c3⟩ := row_atM h hx
  obtain rfl := Option.some.inj e
  obtain ⟨g1, g2, g3⟩ := mls_get L (j / 3) x hx
  rw [show (Addr.add ⟨b, 0, none⟩ j) = ⟨b, j, none⟩ by cases j <;> simp [Addr.add]]
  rcases (show j = j / 3 * 3 ∨ j = j / 3 * 3 + 1 ∨ j = j / 3 * 3 + 2 by omega) with e | e | e
  · rw [e] at hu ⊢; rw [g1] at hu; rw [c1, ← hu]
  · rw [e] at hu ⊢; rw [g2] at hu; rw [c2, ← hu]
  · rw [e] at hu ⊢; rw [g3] at hu; rw [c3, ← hu]
end Go.Proofs.YtnnpidjpklfogaaDoor.oa
