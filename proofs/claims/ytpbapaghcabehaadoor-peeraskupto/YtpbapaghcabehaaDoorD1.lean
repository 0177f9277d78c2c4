import Derived.Test.YtpbapaghcabehaaDoorC4
import Derived.Test.YtpbapaghcabehaaDoorB5
import Derived.Deep.RegionHeld3
namespace Go.Proofs.YtpbapaghcabehaaDoor.d1
open Go.RowKit Go.PlainAid Go.Shelf
open Go.Proofs.YtpbapaghcabehaaDoor.tb Go.Proofs.YtpbapaghcabehaaDoor.tc Go.Proofs.YtpbapaghcabehaaDoor.th Go.Proofs.YtpbapaghcabehaaDoor.tj Go.Proofs.YtpbapaghcabehaaDoor.tk Go.Proofs.YtpbapaghcabehaaDoor.va Go.Proofs.YtpbapaghcabehaaDoor.vb Go.Proofs.YtpbapaghcabehaaDoor.vc Go.Proofs.YtpbapaghcabehaaDoor.wa Go.Proofs.YtpbapaghcabehaaDoor.wb Go.Proofs.YtpbapaghcabehaaDoor.kp Go.Proofs.YtpbapaghcabehaaDoor.a1 Go.Proofs.YtpbapaghcabehaaDoor.a2 Go.Proofs.YtpbapaghcabehaaDoor.b1 Go.Proofs.YtpbapaghcabehaaDoor.b2 Go.Proofs.YtpbapaghcabehaaDoor.b3 Go.Proofs.YtpbapaghcabehaaDoor.b4 Go.Proofs.YtpbapaghcabehaaDoor.b5 Go.Proofs.YtpbapaghcabehaaDoor.c1 Go.Proofs.YtpbapaghcabehaaDoor.c2 Go.Proofs.YtpbapaghcabehaaDoor.c4
set_option linter.unusedVariables false
set_option maxRecDepth 4000

-- what is read back, a fault being a value too
noncomputable def asV (b : ByteArray) : Rq := (asP b).getD ⟨0, [], ⟨#[]⟩⟩
noncomputable def asF (b : ByteArray) : Int := match asP b with
  | some _ => 0
  | none => 13
theorem asR_any {w w' : World} {b : ByteArray} {e : Ending} (h : asR w w' (asP b) e) : ∃ a c, e = .returned (.tuple #[.agg #[.int .i64 (asV b).old, .slice a (asV b).proof.length c, .string (asV b).note], .int .i64 (asF b)]) ∧ w'.ownsRow w.heap.size 9 1 (.slice a (asV b).proof.length c) (asV b).proof.length ((asV b).proof.map Value.string) := by
  unfold asV asF
  cases hp : asP b with
  | some r =>
    rw [hp] at h
    obtain ⟨a, c, h1, h2⟩ := h
    exact ⟨a, c, h1, h2⟩
  | none =>
    rw [hp] at h
    exact ⟨none, 0, h, World.ownsRow_nil _ _ _ _⟩
theorem asV_len (b : ByteArray) : (asV b).proof.length ≤ b.size + 1 := by
  unfold asV
  cases hp : asP b with
  | some r => exact (fr_small b r (as_form b r hp).1).2.2
  | none => simp
-- a row of texts at a place
def AtS (w : World) (g : Nat) (r : List ByteArray) : Prop := g < w.heap.size ∧ ∀ i p, r[i]? = some p → w.cell? ⟨g, i, none⟩ = some (.string p)
theorem AtS.later {w w' : World} {g : Nat} {r : List ByteArray} (h : AtS w g r) (b : Below w.heap.size w w') : AtS w' g r :=
  ⟨Nat.lt_of_lt_of_le h.1 b.size, fun i p hi => (b.cell (p := ⟨g, i, none⟩) h.1).trans (h.2 i p hi)⟩
theorem AtS.reads {w : World} {g cap : Nat} {r s : List ByteArray} (h : AtS w g (r ++ s)) : Reads w (.slice (some ⟨g, 0, none⟩) r.length cap) r := by
  refine ⟨_, cap, rfl, .inr ⟨g, 0, rfl, fun i hi => ?_⟩⟩
  rw [Nat.zero_add, List.getD_eq_getElem?_getD, List.getElem?_eq_getElem hi]
  exact h.2 i _ (by rw [List.getElem?_append_left hi, List.getElem?_eq_getElem hi]; rfl)
theorem AtS.set {w : World} {g k : Nat} {r : List ByteArray} (h : AtS w g r) (x : ByteArray) (hk : k < r.length) : AtS (w.setCell ⟨g, k, none⟩ (.string x)) g (r.set k x) := by
  refine ⟨by simpa [World.setCell] using h.1, fun i p hi => ?_⟩
  rcases Decidable.em (i = k) with rfl | hne
  · rw [List.getElem?_set_self hk] at hi
    obtain rfl := Option.some.inj hi
    exact World.cell?_setCell_same _ _ _ (h.2 i _ (List.getElem?_eq_getElem hk))
  · rw [List.getElem?_set_ne (fun e => hne e.symm)] at hi
    exact (World.cell?_setCell_other _ _ _ _ (by intro e; injection e with _ e2 _; omega)).trans (h.2 i p hi)
theorem own_ats {w : World} {B m : Nat} {v : Value} {xs : List ByteArray} (h : w.ownsRow B 9 1 v m (xs.map Value.string)) (hl : xs.length = m) (h0 : 0 < m) : ∃ g cap, v = .slice (some ⟨g, 0, none⟩) m cap ∧ m ≤ cap ∧ B ≤ g ∧ (∀ j, w.frozen? ⟨g, j, none⟩ = false) ∧ AtS w g xs := by
  rcases h.2 with ⟨_, e⟩ | ⟨g, cap, cur, rfl, h2, h3, h4, h5, h6, h7⟩
  · omega
  · refine ⟨g, cap, rfl, h4, h2, fun j => frozen_of_row _ _ _ _ _ h3, (Array.getElem?_eq_some_iff.1 h3).1, fun i p hi => ?_⟩
    have hil := (List.getElem?_eq_some_iff.1 hi).1
    have hh : (cur.toList.take (m * 1))[i]? = some (.string p) := by
      rw [h7, List.getElem?_map, hi]; rfl
    rw [List.getElem?_take_of_lt (by omega)] at hh
    rw [cell_of_row _ _ _ _ _ _ h3]
    simpa using hh
-- the request that is handed in, its list longer than it says
structure Mk (p q g cap : Nat) (W : World) (old : Int) (note : ByteArray) (k : Nat) (row : List ByteArray) (wr : World) : Prop where
  pq : p < q
  qg : q < g
  box : wr.heap[q]? = some (.cells #[.int .i64 old, .slice (some ⟨g, 0, none⟩) k cap, .string note] 24 (0, 0))
  ats : AtS wr g row
  fz : ∀ j, wr.frozen? ⟨g, j, none⟩ = false
  low : Below (p + 1) W wr
theorem Mk.later {p q g cap : Nat} {W w w' : World} {old : Int} {note : ByteArray} {k : Nat} {row : List ByteArray} (h : Mk p q g cap W old note k row w) (hb : Below w.heap.size w w') : Mk p q g cap W old note k row w' := by
  have hq := (Array.getElem?_eq_some_iff.1 h.box).1
  have hg := h.ats.1
  exact ⟨h.pq, h.qg, (hb.block q hq).trans h.box, h.ats.later hb, fun j => (hb.frozen (p := ⟨g, j, none⟩) hg).trans (h.fz j), h.low.trans (hb.mono (Nat.le_trans (Nat.succ_le_of_lt h.pq) (Nat.le_of_lt hq)))⟩
theorem Mk.set {p q g cap : Nat} {W w : World} {old : Int} {note : ByteArray} {k : Nat} {row : List ByteArray} (h : Mk p q g cap W old note k row w) (j : Nat) (x : ByteArray) (hj : j < row.length) : Mk p q g cap W old note k (row.set j x) (w.setCell ⟨g, j, none⟩ (.string x)) := by
  have h1 := h.pq
  have h2 := h.qg
  have hkp : Kp (fun i => i = g) w (w.setCell ⟨g, j, none⟩ (.string x)) := Kp.setCell (A := fun i => i = g) _ _ _ _ rfl
  have hB : Below g w (w.setCell ⟨g, j, none⟩ (.string x)) := hkp.below (fun i e => by omega) (Nat.le_of_lt h.ats.1)
  exact ⟨h1, h2, (hB.block q h2).trans h.box, h.ats.set x hj, fun i => by rw [← h.fz i]; exact World.frozen?_setCell _ _ _ _, h.low.trans (hB.mono (by omega))⟩
theorem Mk.cut {p q g cap : Nat} {W w : World} {old : Int} {note : ByteArray} {k : Nat} {row : List ByteArray} (h : Mk p q g cap W old note k row w) (n : Nat) : Mk p q g cap W old note n row (w.setCell ⟨q, 1, none⟩ (.slice (some ⟨g, 0, none⟩) n cap)) := by
  have h1 := h.pq
  have h2 := h.qg
  refine ⟨h1, h2, heap_setCell_same _ _ 1 _ _ _ h.box, ⟨by simpa [World.setCell] using h.ats.1, fun i x hi => ?_⟩, fun i => ?_, h.low.setCell (show p + 1 ≤ q from h1) _⟩
  · exact (World.cell?_setCell_other _ _ _ _ (by intro e; injection e with e1 _ _; omega)).trans (h.ats.2 i x hi)
  · rw [← h.fz i]; exact World.frozen?_setCell _ _ _ _
end Go.Proofs.YtpbapaghcabehaaDoor.d1
