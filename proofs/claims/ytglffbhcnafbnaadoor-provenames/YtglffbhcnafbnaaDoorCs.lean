import Derived.Test.YtglffbhcnafbnaaDoorCb
import Derived.Test.YtglffbhcnafbnaaDoorCp
namespace Go.Proofs.YtglffbhcnafbnaaDoor.cs
open Go.RowKit Go.PlainAid
open Go.Proofs.YtglffbhcnafbnaaDoor.ca Go.Proofs.YtglffbhcnafbnaaDoor.cb Go.Proofs.YtglffbhcnafbnaaDoor.cp
set_option linter.unusedVariables false

-- an address; a list of them in memory
def ad (a : Nat × Nat) : Value := .agg #[.int .i64 (a.1 : Nat), .int .i64 (a.2 : Nat)]
def cl (a : Nat × Nat) : List Value := [.int .i64 (a.1 : Nat), .int .i64 (a.2 : Nat)]
def cls (L : List (Nat × Nat)) : List Value := L.flatMap cl
theorem cls_len (L : List (Nat × Nat)) : (cls L).length = L.length * 2 := by
  induction L with
  | nil => rfl
  | cons a L ih =>
    show (cl a ++ cls L).length = _
    rw [List.length_append, ih, List.length_cons]
    show 2 + _ = _
    omega
theorem cls_app (L M : List (Nat × Nat)) : cls (L ++ M) = cls L ++ cls M := by unfold cls; exact List.flatMap_append
theorem cls_get (L : List (Nat × Nat)) (i : Nat) (a : Nat × Nat) (h : L[i]? = some a) : (cls L)[i * 2]? = some (.int .i64 (a.1 : Nat)) ∧ (cls L)[i * 2 + 1]? = some (.int .i64 (a.2 : Nat)) := by
  induction L generalizing i with
  | nil => simp at h
  | cons b L ih =>
    cases i with
    | zero =>
      obtain rfl : b = a := by simpa using h
      exact ⟨rfl, rfl⟩
    | succ i =>
      have := ih i (by simpa using h)
      show (cl b ++ cls L)[(i + 1) * 2]? = _ ∧ (cl b ++ cls L)[(i + 1) * 2 + 1]? = _
      have hl : (cl b).length = 2 := rfl
      rw [List.getElem?_append_right (by omega), List.getElem?_append_right (by omega), hl, show (i + 1) * 2 - 2 = i * 2 by omega, show (i + 1) * 2 + 1 - 2 = i * 2 + 1 by omega]
      exact this
theorem hiA : (Tryd.prog.info? 36).map (fun i => (i.zero, i.size, i.bytes)) = some (some (.agg #[.int .i64 0, .int .i64 0]), 2, 16) := by kernel_rfl
theorem info_parts {t : TypeId} {z : Value} {n b : Nat} (h : (Tryd.prog.info? t).map (fun i => (i.zero, i.size, i.bytes)) = some (some z, n, b)) : ∃ i, Tryd.prog.info? t = some i ∧ i.zero = some z ∧ i.size = n ∧ i.bytes = b := by
  obtain ⟨i, hi, he⟩ := Option.map_eq_some_iff.1 h
  injection he with e1 e2
  injection e2 with e2 e3
  exact ⟨i, hi, e1, e2, e3⟩
-- what Cover answers
def okR (lo hi : Int) : Prop := 0 ≤ lo ∧ lo ≤ hi ∧ hi ≤ 4611686018427387904
instance (lo hi : Int) : Decidable (okR lo hi) := by unfold okR; infer_instance
def covI (lo hi : Int) : List (Nat × Nat) := if okR lo hi then cov lo.toNat hi.toNat else []
def covE (lo hi : Int) : Int := if okR lo hi then 0 else 10
theorem covI_len (lo hi : Int) : (covI lo hi).length ≤ 122 := by
  unfold covI
  split
  · rename_i h
    exact cov_len _ _ (by have := h.2.1; have := h.1; omega) (by rw [p62]; have := h.2.2; omega)
  · simp
def Rowed (w w' : World) (e : Ending) (lo hi : Int) : Prop := ∃ v, e = .returned (.tuple #[v, .int .i64 (covE lo hi)]) ∧ w'.ownsRow w.heap.size 36 2 v (covI lo hi).length (cls (covI lo hi))
theorem two_cells (W : World) (x y : Value) (t : TypeId) : ∀ (j : Nat) (u : Value), [x, y][j]? = some u → (W.alloc (.cells #[x, y] t)).cell? (Addr.add ⟨W.heap.size, 0, none⟩ j) = some u := by
  intro j u hu
  rw [show (Addr.add ⟨W.heap.size, 0, none⟩ j) = ⟨W.heap.size, j, none⟩ by cases j <;> simp [Addr.add], World.cell?_alloc_at _ _ _ _ rfl]
  simpa using hu
-- a list of addresses, wherever it lies
def ReadsA (w : World) (v : Value) (L : List (Nat × Nat)) : Prop :=
  ∃ a cap, v = .slice a L.length cap ∧ (L.length = 0 ∨ ∃ b, a = some ⟨b, 0, none⟩ ∧ ∀ (i : Nat) (x : Nat × Nat), L[i]? = some x → w.cell? ⟨b, i * 2, none⟩ = some (.int .i64 (x.1 : Nat)) ∧ w.cell? ⟨b, i * 2 + 1, none⟩ = some (.int .i64 (x.2 : Nat)))
theorem ReadsA.later {w w' : World} {v : Value} {L : List (Nat × Nat)} (h : ReadsA w v L) (hb : Below w.heap.size w w') : ReadsA w' v L := by
  obtain ⟨a, cap, rfl, h0 | ⟨b, rfl, hc⟩⟩ := h
  · exact ⟨a, cap, rfl, .inl h0⟩
  · refine ⟨_, cap, rfl, .inr ⟨b, rfl, fun i x hx => ?_⟩⟩
    obtain ⟨c1, c2⟩ := hc i x hx
    exact ⟨(hb.cell (p := ⟨b, i * 2, none⟩) (World.block_lt_of_cell? _ _ c1)).trans c1, (hb.cell (p := ⟨b, i * 2 + 1, none⟩) (World.block_lt_of_cell? _ _ c2)).trans c2⟩
theorem own_readsA {w : World} {B n : Nat} {v : Value} {L : List (Nat × Nat)} (h : w.ownsRow B 36 2 v n (cls L)) : ReadsA w v L := by
  have hn : L.length = n := by have := h.1; rw [cls_len] at this; omega
  subst hn
  rcases h.2 with ⟨rfl, h0⟩ | ⟨g, cap, cur, rfl, _, hg, _⟩
  · refine ⟨none, 0, by rw [h0], .inl h0⟩
  · refine ⟨_, cap, rfl, .inr ⟨g, rfl, fun i x hx => ?_⟩⟩
    have hi := (List.getElem?_eq_some_iff.1 hx).1
    obtain ⟨c1, c2⟩ := cls_get L i x hx
    exact ⟨(h.cellAt (i * 2) (by omega)).trans c1, (h.cellAt (i * 2 + 1) (by omega)).trans c2⟩
theorem formA {w : World} {v : Value} {L : List (Nat × Nat)} (h : ReadsA w v L) : ∃ a cap, v = .slice a L.length cap := by
  obtain ⟨a, cap, h, _⟩ := h
  exact ⟨a, cap, h⟩
theorem row_at {L : List (Nat × Nat)} {w : World} {a : Option Addr} {cap n : Nat} {k i : Nat} {j : Nat} (h : ReadsA w (.slice a n cap) L) (hx : L[j]? = some (k, i)) : ∃ b, a = some ⟨b, 0, none⟩ ∧ w.cell? ⟨b, j * 2, none⟩ = some (.int .i64 (k : Nat)) ∧ w.cell? ⟨b, j * 2 + 1, none⟩ = some (.int .i64 (i : Nat)) := by
  obtain ⟨a', cap', e1, hc⟩ := h
  injection e1 with e1 e2 e3
  subst e1
  have := (List.getElem?_eq_some_iff.1 hx).1
  rcases hc with h0 | ⟨b, e4, hc⟩
  · omega
  · exact ⟨b, e4, hc j _ hx⟩
end Go.Proofs.YtglffbhcnafbnaaDoor.cs
