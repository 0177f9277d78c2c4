import Derived.Test.YtlkkibiedlakfaaGreatZb
import Derived.Deep.AppendLies
namespace Go.Proofs.YtlkkibiedlakfaaGreat.zc
open Go.RowKit Go.PlainAid Go.Maps Go.Shelf
open Go.Proofs.YtlkkibiedlakfaaGreat.kp Go.Proofs.YtlkkibiedlakfaaGreat.ka Go.Proofs.YtlkkibiedlakfaaGreat.ya Go.Proofs.YtlkkibiedlakfaaGreat.yb Go.Proofs.YtlkkibiedlakfaaGreat.yc Go.Proofs.YtlkkibiedlakfaaGreat.yd Go.Proofs.YtlkkibiedlakfaaGreat.ye Go.Proofs.YtlkkibiedlakfaaGreat.yf Go.Proofs.YtlkkibiedlakfaaGreat.yg Go.Proofs.YtlkkibiedlakfaaGreat.yi Go.Proofs.YtlkkibiedlakfaaGreat.yk Go.Proofs.YtlkkibiedlakfaaGreat.yl Go.Proofs.YtlkkibiedlakfaaGreat.ym Go.Proofs.YtlkkibiedlakfaaGreat.yn Go.Proofs.YtlkkibiedlakfaaGreat.yr Go.Proofs.YtlkkibiedlakfaaGreat.ys Go.Proofs.YtlkkibiedlakfaaGreat.yt Go.Proofs.YtlkkibiedlakfaaGreat.yu Go.Proofs.YtlkkibiedlakfaaGreat.zb
set_option linter.unusedVariables false
set_option linter.unusedSimpArgs false
-- a row beside a store
theorem row_apart {T z B B' g bn bd n : Nat} {pv v : Value} {s : S} {xs : List Value} {w : World} (h1 : T ≠ 80) (h2 : T ≠ 105) (h : Sr B g bn bd pv s w) (o : w.ownsRow B' T z v n xs) : ∀ j, Fr g bn bd pv j → some j ≠ v.ownBlock := by
  rintro j (rfl | rfl | rfl | hj)
  · exact own_tag o h.row h1
  · exact own_map o h.mn
  · exact own_map o h.md
  · rcases h.pr.2 with ⟨rfl, _⟩ | ⟨g', cap, cur, rfl, _, hh, _⟩
    · cases hj
    · have : j = g' := Option.some.inj hj
      subst this
      exact own_tag o hh h2
structure Mt (T z B g bn bd : Nat) (s : S) (v : Value) (n : Nat) (xs : List Value) (w w' : World) : Prop where
  ex : ∃ pv, Sr B g bn bd pv s w'
  row : w'.ownsRow B T z v n xs
  bl : Below B w w'
theorem Mt.later {T z B g bn bd n : Nat} {s : S} {v : Value} {xs : List Value} {w w1 w2 : World} (h : Mt T z B g bn bd s v n xs w w1) (b : Below w1.heap.size w1 w2) (hB : B ≤ w.heap.size) : Mt T z B g bn bd s v n xs w w2 := by
  obtain ⟨⟨pv, h1⟩, h2, h3⟩ := h
  exact ⟨⟨pv, sr_later h1 b⟩, own_kp h2 (Kp.of_below (A := fun _ => False) b) (fun _ _ e => e), h3.trans (b.mono (Nat.le_trans hB h3.size))⟩
theorem Mt.rn {T z B g bn bd n : Nat} {pv : Value} {s s' : S} {v : Value} {xs : List Value} {w w1 w2 : World} (h1 : T ≠ 80) (h2 : T ≠ 105) (h : Mt T z B g bn bd s v n xs w w1) (hp : Sr B g bn bd pv s w1) (r : Rn B g bn bd pv s' w1 w2) (hB : B ≤ w.heap.size) : Mt T z B g bn bd s' v n xs w w2 := by
  have hb := Rn.below hp r (Nat.le_trans hB h.bl.size)
  obtain ⟨p, h7, k, _⟩ := r
  exact ⟨⟨p, h7⟩, own_kp h.row k (fun j hj hF => row_apart h1 h2 hp h.row j hF hj), h.bl.trans hb⟩
theorem Mt.grown {T z B g bn bd n n' : Nat} {s : S} {v v' : Value} {xs xs' : List Value} {w w1 w2 : World} (h1 : T ≠ 80) (h2 : T ≠ 105) (h : Mt T z B g bn bd s v n xs w w1) (o : w2.ownsRow B T z v' n' xs') (hg : w1.grownBy w2 v.ownBlock) (hB : B ≤ w.heap.size) : Mt T z B g bn bd s v' n' xs' w w2 := by
  obtain ⟨⟨pv, hp⟩, hr, hb⟩ := h
  have k : Kp (fun k => some k = v.ownBlock) w1 w2 := ⟨hg.os, hg.tape, hg.output, hg.size, fun j hj hn => hg.block j hj (fun e => hn e)⟩
  exact ⟨⟨pv, sr_keep hp k (fun j hj e => row_apart h1 h2 hp hr j hj e)⟩, o, hb.grown hg (Nat.le_trans hB hb.size) (fun j hj => (hr.lt _ hj).1)⟩
theorem Mt.nil {T z B g bn bd n : Nat} {s : S} {v : Value} {xs : List Value} {w w1 : World} (h : Mt T z B g bn bd s v n xs w w1) : Mt T z B g bn bd s (.slice none 0 0) 0 [] w w1 := ⟨h.ex, World.ownsRow_nil _ _ _ _, h.bl⟩
-- the cells of a list of Seen
def sc (p : Sn) : List Value := [.bool p.1, .string p.2]
def scs (l : List Sn) : List Value := l.flatMap sc
theorem scs_app (l l' : List Sn) : scs (l ++ l') = scs l ++ scs l' := by simp [scs]
theorem scs_len (l : List Sn) : (scs l).length = l.length * 2 := by
  induction l with
  | nil => rfl
  | cons p l ih => simp only [scs, List.flatMap_cons, List.length_append, List.length_cons] at ih ⊢; rw [ih]; simp [sc]; omega
theorem scs_at (l : List Sn) (j : Nat) (p : Sn) (h : l[j]? = some p) : (scs l)[j * 2]? = some (.bool p.1) ∧ (scs l)[j * 2 + 1]? = some (.string p.2) := by
  induction l generalizing j with
  | nil => simp at h
  | cons q l ih =>
    cases j with
    | zero =>
      simp at h
      subst h
      exact ⟨rfl, rfl⟩
    | succ j =>
      have := ih j (by simpa using h)
      have e1 : (j + 1) * 2 = j * 2 + 2 := by omega
      rw [e1]
      exact this
theorem new_two (W : World) (u v : Value) (t : TypeId) : ∀ (j : Nat) (y : Value), [u, v][j]? = some y → (W.alloc (.cells #[u, v] t)).cell? (Addr.add ⟨W.heap.size, 0, none⟩ j) = some y := by
  intro j y h
  have hb : (W.alloc (.cells #[u, v] t)).heap[W.heap.size]? = some (.cells #[u, v] t (0, 0)) := (MapKept.heap_alloc W _).1
  have e : (Addr.add ⟨W.heap.size, 0, none⟩ j) = ⟨W.heap.size, j, none⟩ := by simp [Addr.add]; omega
  rw [e, cell_of_row _ _ j _ _ _ hb]
  simpa using h
theorem one_sn (b : Bool) (d : ByteArray) : ∀ u ∈ [Value.bool b, .string d], u.oneCell' = true := by
  intro u hu; simp only [List.mem_cons, List.not_mem_nil, or_false] at hu; rcases hu with rfl | rfl <;> rfl
-- see
theorem put2 (w : World) (p : Nat) (a0 a1 x0 x1 : Value) (t : TypeId) (h : w.heap[p]? = some (.cells #[a0, a1] t (0, 0))) :
    ∀ W, W = ((w.setCell ⟨p, 0, none⟩ x0).setCell ⟨p, 1, none⟩ x1) → W.heap[p]? = some (.cells #[x0, x1] t (0, 0)) ∧ Kp (fun q => q = p) w W := by
  intro W hW
  have h0 : (w.setCell ⟨p, 0, none⟩ x0).heap[p]? = some (.cells #[x0, a1] t (0, 0)) := heap_setCell_same _ _ 0 _ _ x0 h
  rw [hW]
  exact ⟨heap_setCell_same _ _ 1 _ _ x1 h0, (kset _ _ _ _).trans (kset _ _ _ _)⟩
theorem two {w : World} {p : Nat} {x0 x1 : Value} {t : TypeId} (h : w.heap[p]? = some (.cells #[x0, x1] t (0, 0))) : w.cell? ⟨p, 0, none⟩ = some x0 ∧ w.cell? ⟨p, 1, none⟩ = some x1 ∧ w.frozen? ⟨p, 0, none⟩ = false ∧ w.frozen? ⟨p, 1, none⟩ = false :=
  ⟨cell_of_row _ _ 0 _ _ _ h, cell_of_row _ _ 1 _ _ _ h, frozen_of_row _ _ 0 _ _ h, frozen_of_row _ _ 1 _ _ h⟩
theorem four {w : World} {p : Nat} {x0 x1 x2 x3 : Value} {t : TypeId} (h : w.heap[p]? = some (.cells #[x0, x1, x2, x3] t (0, 0))) : w.cell? ⟨p, 0, none⟩ = some x0 ∧ w.cell? ⟨p, 1, none⟩ = some x1 ∧ w.cell? ⟨p, 2, none⟩ = some x2 ∧ w.cell? ⟨p, 3, none⟩ = some x3 :=
  ⟨cell_of_row _ _ 0 _ _ _ h, cell_of_row _ _ 1 _ _ _ h, cell_of_row _ _ 2 _ _ _ h, cell_of_row _ _ 3 _ _ _ h⟩
theorem below_kset {w w2 W : World} {p : Nat} (h : Below w.heap.size w w2) (k : Kp (fun q => q = p) w2 W) (hp : w.heap.size ≤ p) : Below w.heap.size w W :=
  ⟨k.os.trans h.os, k.tape.trans h.tape, k.output.trans h.output, Nat.le_trans h.size k.size, fun j hj => (k.block j (Nat.lt_of_lt_of_le hj h.size) (by omega)).trans (h.block j hj)⟩
-- kept
def kpt (kd : Int) (dt : ByteArray) : ByteArray := if kd = 1 then dt else ByteArray.empty
end Go.Proofs.YtlkkibiedlakfaaGreat.zc
