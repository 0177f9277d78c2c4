import Derived.Test.YtnnpidjpklfogaaDoorOb
import Derived.RangeFuncBox
namespace Go.Proofs.YtnnpidjpklfogaaDoor.ya
open Go.RowKit Go.PlainAid
open Go.Proofs.YtnnpidjpklfogaaDoor.pl Go.Proofs.YtnnpidjpklfogaaDoor.pi Go.Proofs.YtnnpidjpklfogaaDoor.pj Go.Proofs.YtnnpidjpklfogaaDoor.rf Go.Proofs.YtnnpidjpklfogaaDoor.ca Go.Proofs.YtnnpidjpklfogaaDoor.cb Go.Proofs.YtnnpidjpklfogaaDoor.cp Go.Proofs.YtnnpidjpklfogaaDoor.cs Go.Proofs.YtnnpidjpklfogaaDoor.ka Go.Proofs.YtnnpidjpklfogaaDoor.kb Go.Proofs.YtnnpidjpklfogaaDoor.ga Go.Proofs.YtnnpidjpklfogaaDoor.gb Go.Proofs.YtnnpidjpklfogaaDoor.na Go.Proofs.YtnnpidjpklfogaaDoor.nb Go.Proofs.YtnnpidjpklfogaaDoor.nc Go.Proofs.YtnnpidjpklfogaaDoor.oa Go.Proofs.YtnnpidjpklfogaaDoor.ob
set_option linter.unusedVariables false

-- the program's run under way: its ends, its hashes, the width, its nodes
def Px (w : World) (p : Nat) (lo hi : Int) (vh : Value) (wd : Int) (vn : Value) : Prop := w.heap[p]? = some (.cells #[.int .i64 lo, .int .i64 hi, vh, .int .i64 wd, vn] 96 (0, 0))
def Nodes (w : World) (B : Nat) (v : Value) (L : List (Nat × Nat)) : Prop := w.ownsRow B 51 2 v L.length (cls L)
section
variable {w w' : World} {p : Nat} {lo hi wd : Int} {vh vn : Value}
theorem Px.lt (h : Px w p lo hi vh wd vn) : p < w.heap.size := (Array.getElem?_eq_some_iff.1 h).1
theorem Px.c0 (h : Px w p lo hi vh wd vn) : w.cell? ⟨p, 0, none⟩ = some (.int .i64 lo) := by rw [cell_of_row _ _ _ _ _ _ h]; rfl
theorem Px.c1 (h : Px w p lo hi vh wd vn) : w.cell? ⟨p, 1, none⟩ = some (.int .i64 hi) := by rw [cell_of_row _ _ _ _ _ _ h]; rfl
theorem Px.c2 (h : Px w p lo hi vh wd vn) : w.cell? ⟨p, 2, none⟩ = some vh := by rw [cell_of_row _ _ _ _ _ _ h]; rfl
theorem Px.c3 (h : Px w p lo hi vh wd vn) : w.cell? ⟨p, 3, none⟩ = some (.int .i64 wd) := by rw [cell_of_row _ _ _ _ _ _ h]; rfl
theorem Px.c4 (h : Px w p lo hi vh wd vn) : w.cell? ⟨p, 4, none⟩ = some vn := by rw [cell_of_row _ _ _ _ _ _ h]; rfl
theorem Px.set1 (h : Px w p lo hi vh wd vn) (x : Int) : Px (w.setCell ⟨p, 1, none⟩ (.int .i64 x)) p lo x vh wd vn := heap_setCell_same _ _ 1 _ _ _ h
theorem Px.set2 (h : Px w p lo hi vh wd vn) (v : Value) : Px (w.setCell ⟨p, 2, none⟩ v) p lo hi v wd vn := heap_setCell_same _ _ 2 _ _ v h
theorem Px.set4 (h : Px w p lo hi vh wd vn) (v : Value) : Px (w.setCell ⟨p, 4, none⟩ v) p lo hi vh wd v := heap_setCell_same _ _ 4 _ _ v h
theorem Px.kept {row : Option Nat} (h : Px w p lo hi vh wd vn) (hg : w.grownBy w' row) (hne : some p ≠ row) : Px w' p lo hi vh wd vn := (hg.block p h.lt hne).trans h
end
-- a block of another kind is no row
theorem far {w : World} {k B e t s n : Nat} {c : Array Value} {v : Value} {xs : List Value} (hk : w.heap[k]? = some (.cells c t (0, 0))) (ho : w.ownsRow B e s v n xs) (hne : t ≠ e) : some k ≠ v.ownBlock := by
  rcases ho.2 with ⟨rfl, _⟩ | ⟨g, cap, cur, rfl, _, hg, _⟩
  · simp [Value.ownBlock]
  · intro e'
    obtain rfl : k = g := by simpa [Value.ownBlock] using e'
    rw [hg] at hk
    simp only [Option.some.injEq, Obj.cells.injEq] at hk
    exact hne hk.2.1.symm
theorem apart {w : World} {B B' e t s s' n n' : Nat} {v v' : Value} {xs xs' : List Value} (h : w.ownsRow B t s v n xs) (h' : w.ownsRow B' e s' v' n' xs') (hne : t ≠ e) : v.ownBlock = none ∨ v.ownBlock ≠ v'.ownBlock := by
  rcases h.2 with ⟨rfl, _⟩ | ⟨g, cap, cur, rfl, _, hg, _⟩
  · exact .inl rfl
  · exact .inr (far hg h' hne)
theorem setGrown (w : World) (b o : Nat) (v : Value) : w.grownBy (w.setCell ⟨b, o, none⟩ v) (some b) :=
  ⟨rfl, rfl, rfl, (KeepsWalks.setCell w _ v).size, fun k _ hk => Below.heap_setCell _ _ _ k (fun e => hk (by rw [e]))⟩
-- blocks that are there are as they were, but for some
structure Keep (S : Nat → Prop) (w w' : World) : Prop where
  os : w'.os = w.os
  tape : w'.tape = w.tape
  output : w'.output = w.output
  size : w.heap.size ≤ w'.heap.size
  block : ∀ k, k < w.heap.size → ¬ S k → w'.heap[k]? = w.heap[k]?
theorem Keep.refl (S : Nat → Prop) (w : World) : Keep S w w := ⟨rfl, rfl, rfl, Nat.le_refl _, fun _ _ _ => rfl⟩
theorem Keep.step {S : Nat → Prop} {w w1 w2 : World} {row : Option Nat} (h : Keep S w w1) (hg : w1.grownBy w2 row) (hr : ∀ g, row = some g → S g ∨ w.heap.size ≤ g) : Keep S w w2 :=
  ⟨hg.os.trans h.os, hg.tape.trans h.tape, hg.output.trans h.output, Nat.le_trans h.size hg.size, fun k h1 h2 => (hg.block k (Nat.lt_of_lt_of_le h1 h.size) (fun e => by rcases hr k e.symm with h3 | h3; exact h2 h3; omega)).trans (h.block k h1 h2)⟩
theorem below_grown {w w' : World} (h : Below w.heap.size w w') : w.grownBy w' none := ⟨h.os, h.tape, h.output, h.size, fun k hk _ => h.block k hk⟩
-- the run with its three rows
structure Jn (we w0 w : World) (S : Nat → Prop) (p mb : Nat) (lo hi wd : Int) (fh fn vh vn vm : Value) (Hs : List ByteArray) (Ns : List (Nat × Nat)) (ms : List Md) : Prop where
  k : Keep S w0 w
  e : Below we.heap.size we w
  x : Px w p lo hi fh wd fn
  b : Boxed w mb 26 vm
  h : Texts w we.heap.size vh Hs
  n : Nodes w we.heap.size vn Ns
  m : Mades w we.heap.size vm ms
  sp : S p
  sb : S mb
  sh : ∀ g, vh.ownBlock = some g → S g ∨ w0.heap.size ≤ g
  sn : ∀ g, vn.ownBlock = some g → S g ∨ w0.heap.size ≤ g
  sm : ∀ g, vm.ownBlock = some g → S g ∨ w0.heap.size ≤ g
  ss : ∀ g, S g → we.heap.size ≤ g
section
variable {we w0 w w' : World} {S : Nat → Prop} {p mb : Nat} {lo hi wd : Int} {fh fn vh vn vm : Value} {Hs : List ByteArray} {Ns : List (Nat × Nat)} {ms : List Md}
theorem Jn.ge (J : Jn we w0 w S p mb lo hi wd fh fn vh vn vm Hs Ns ms) {row : Option Nat} (hg : w.grownBy w' row) (hr : ∀ g, row = some g → we.heap.size ≤ g) : Below we.heap.size we w' := Below.grown J.e hg J.e.size hr
theorem Jn.on (J : Jn we w0 w S p mb lo hi wd fh fn vh vn vm Hs Ns ms) (hb : Below w.heap.size w w') : Jn we w0 w' S p mb lo hi wd fh fn vh vn vm Hs Ns ms := by
  have hg := below_grown hb
  exact ⟨J.k.step hg (fun _ e => by cases e), J.ge hg (fun _ e => by cases e), J.x.kept hg (by simp), J.b.kept hg (by simp), J.h.later hb, own_later J.n hb, J.m.later hb, J.sp, J.sb, J.sh, J.sn, J.sm, J.ss⟩
theorem lands {v v' : Value} (h0 : ∀ g, v.ownBlock = some g → S g ∨ w0.heap.size ≤ g) (hk : w0.heap.size ≤ w.heap.size) (hl : v'.ownBlock = v.ownBlock ∨ ∃ g, v'.ownBlock = some g ∧ w.heap.size ≤ g) : ∀ g, v'.ownBlock = some g → S g ∨ w0.heap.size ≤ g := by
  intro g e
  rcases hl with h | ⟨g', h, h2⟩
  · exact h0 g (by rw [← h]; exact e)
  · rw [h] at e; obtain rfl := Option.some.inj e; right; omega
theorem Jn.growN {v0 v' : Value} {L : List (Nat × Nat)} (J : Jn we w0 w S p mb lo hi wd fh fn vh vn vm Hs Ns ms) (h0 : v0.ownBlock = vn.ownBlock) (hg : w.grownBy w' v0.ownBlock) (ho : Nodes w' we.heap.size v' L) (hl : v'.ownBlock = v0.ownBlock ∨ ∃ g, v'.ownBlock = some g ∧ w.heap.size ≤ g) : Jn we w0 w' S p mb lo hi wd fh fn vh v' vm Hs L ms := by
  rw [h0] at hg hl
  exact ⟨J.k.step hg J.sn, J.ge hg (fun g e => (World.ownsRow.lt J.n g e).1), J.x.kept hg (far J.x J.n (by decide)), J.b.kept hg (far J.b J.n (by decide)), World.ownsRow.kept J.h hg (apart J.h J.n (by decide)), ho, World.ownsRow.kept J.m hg (apart J.m J.n (by decide)), J.sp, J.sb, J.sh, lands J.sn J.k.size hl, J.sm, J.ss⟩
theorem Jn.growH {v0 v' : Value} {L : List ByteArray} (J : Jn we w0 w S p mb lo hi wd fh fn vh vn vm Hs Ns ms) (h0 : v0.ownBlock = vh.ownBlock) (hg : w.grownBy w' v0.ownBlock) (ho : Texts w' we.heap.size v' L) (hl : v'.ownBlock = v0.ownBlock ∨ ∃ g, v'.ownBlock = some g ∧ w.heap.size ≤ g) : Jn we w0 w' S p mb lo hi wd fh fn v' vn vm L Ns ms := by
  rw [h0] at hg hl
  exact ⟨J.k.step hg J.sh, J.ge hg (fun g e => (World.ownsRow.lt J.h g e).1), J.x.kept hg (far J.x J.h (by decide)), J.b.kept hg (far J.b J.h (by decide)), ho, World.ownsRow.kept J.n hg (apart J.n J.h (by decide)), World.ownsRow.kept J.m hg (apart J.m J.h (by decide)), J.sp, J.sb, lands J.sh J.k.size hl, J.sn, J.sm, J.ss⟩
theorem Jn.set1 (J : Jn we w0 w S p mb lo hi wd fh fn vh vn vm Hs Ns ms) (x : Int) : Jn we w0 (w.setCell ⟨p, 1, none⟩ (.int .i64 x)) S p mb lo x wd fh fn vh vn vm Hs Ns ms := by
  have hg := setGrown w p 1 (.int .i64 x)
  have own : ∀ g, some p = some g → S g ∨ w0.heap.size ≤ g := fun g e => by cases e; exact .inl J.sp
  exact ⟨J.k.step hg own, J.ge hg (fun g e => by cases e; exact J.ss p J.sp), J.x.set1 x, J.b.kept hg (fun e => by cases e; have := J.x.symm.trans J.b; simp at this), World.ownsRow.kept J.h hg (.inr (far J.x J.h (by decide)).symm), World.ownsRow.kept J.n hg (.inr (far J.x J.n (by decide)).symm), World.ownsRow.kept J.m hg (.inr (far J.x J.m (by decide)).symm), J.sp, J.sb, J.sh, J.sn, J.sm, J.ss⟩
theorem Jn.set2 (J : Jn we w0 w S p mb lo hi wd fh fn vh vn vm Hs Ns ms) (v : Value) : Jn we w0 (w.setCell ⟨p, 2, none⟩ v) S p mb lo hi wd v fn vh vn vm Hs Ns ms := by
  have hg := setGrown w p 2 v
  have own : ∀ g, some p = some g → S g ∨ w0.heap.size ≤ g := fun g e => by cases e; exact .inl J.sp
  exact ⟨J.k.step hg own, J.ge hg (fun g e => by cases e; exact J.ss p J.sp), J.x.set2 v, J.b.kept hg (fun e => by cases e; have := J.x.symm.trans J.b; simp at this), World.ownsRow.kept J.h hg (.inr (far J.x J.h (by decide)).symm), World.ownsRow.kept J.n hg (.inr (far J.x J.n (by decide)).symm), World.ownsRow.kept J.m hg (.inr (far J.x J.m (by decide)).symm), J.sp, J.sb, J.sh, J.sn, J.sm, J.ss⟩
theorem Jn.set4 (J : Jn we w0 w S p mb lo hi wd fh fn vh vn vm Hs Ns ms) (v : Value) : Jn we w0 (w.setCell ⟨p, 4, none⟩ v) S p mb lo hi wd fh v vh vn vm Hs Ns ms := by
  have hg := setGrown w p 4 v
  have own : ∀ g, some p = some g → S g ∨ w0.heap.size ≤ g := fun g e => by cases e; exact .inl J.sp
  exact ⟨J.k.step hg own, J.ge hg (fun g e => by cases e; exact J.ss p J.sp), J.x.set4 v, J.b.kept hg (fun e => by cases e; have := J.x.symm.trans J.b; simp at this), World.ownsRow.kept J.h hg (.inr (far J.x J.h (by decide)).symm), World.ownsRow.kept J.n hg (.inr (far J.x J.n (by decide)).symm), World.ownsRow.kept J.m hg (.inr (far J.x J.m (by decide)).symm), J.sp, J.sb, J.sh, J.sn, J.sm, J.ss⟩
-- the row of what became whole grows, and is put into its box
theorem Jn.whole {v' : Value} {L : List Md} (J : Jn we w0 w S p mb lo hi wd fh fn vh vn vm Hs Ns ms) (hg : w.grownBy w' vm.ownBlock) (ho : Mades w' we.heap.size v' L) (hl : v'.ownBlock = vm.ownBlock ∨ ∃ g, v'.ownBlock = some g ∧ w.heap.size ≤ g) : Boxed w' mb 26 vm ∧ Jn we w0 (w'.setCell ⟨mb, 0, none⟩ v') S p mb lo hi wd fh fn vh vn v' Hs Ns L := by
  have K1 : Keep S w0 w' := J.k.step hg J.sm
  have E1 : Below we.heap.size we w' := J.ge hg (fun g e => (World.ownsRow.lt J.m g e).1)
  have X1 := J.x.kept hg (far J.x J.m (by decide))
  have B1 := J.b.kept hg (far J.b J.m (by decide))
  have H1 : Texts w' we.heap.size vh Hs := World.ownsRow.kept J.h hg (apart J.h J.m (by decide))
  have N1 : Nodes w' we.heap.size vn Ns := World.ownsRow.kept J.n hg (apart J.n J.m (by decide))
  have hg2 := setGrown w' mb 0 v'
  have own : ∀ g, some mb = some g → S g ∨ w0.heap.size ≤ g := fun g e => by cases e; exact .inl J.sb
  exact ⟨B1, K1.step hg2 own, Below.grown E1 hg2 E1.size (fun g e => by cases e; exact J.ss mb J.sb), X1.kept hg2 (fun e => by cases e; have := X1.symm.trans B1; simp at this), B1.set v', World.ownsRow.kept H1 hg2 (.inr (far B1 H1 (by decide)).symm), World.ownsRow.kept N1 hg2 (.inr (far B1 N1 (by decide)).symm), World.ownsRow.kept ho hg2 (.inr (far B1 ho (by decide)).symm), J.sp, J.sb, J.sh, J.sn, lands J.sm J.k.size hl, J.ss⟩
end
-- rows, cut short
theorem cls_take (L : List (Nat × Nat)) (k : Nat) : cls (L.take k) = (cls L).take (k * 2) := by
  induction L generalizing k with
  | nil => simp [cls]
  | cons b L ih =>
    cases k with
    | zero => simp [cls]
    | succ k =>
      show cl b ++ cls (L.take k) = (cl b ++ cls L).take ((k + 1) * 2)
      have hl : (cl b).length = 2 := rfl
      rw [List.take_append, hl, ih, show (k + 1) * 2 - 2 = k * 2 by omega, List.take_of_length_le (l := cl b) (by rw [hl]; omega)]
theorem nodes_cut {w : World} {B g n cap : Nat} {L : List (Nat × Nat)} (h : Nodes w B (.slice (some ⟨g, 0, none⟩) n cap) L) (k : Nat) (hk : k ≤ L.length) : Nodes w B (.slice (some ⟨g, 0, none⟩) k cap) (L.take k) := by
  rcases h.2 with ⟨e, _⟩ | ⟨g', cap', cur, e, hb, hgg, hnc, hcm, hcs, htake⟩
  · cases e
  · injection e with e1 e2 e3
    injection e1 with e1
    injection e1 with e1
    subst e1 e3
    have hl : (L.take k).length = k := by rw [List.length_take]; omega
    refine ⟨by rw [cls_len], .inr ⟨g, cap, cur, by rw [hl], hb, hgg, by rw [hl]; omega, hcm, hcs, ?_⟩⟩
    rw [hl, cls_take, ← htake, List.take_take, Nat.min_eq_left (by omega)]
theorem texts_cut {w : World} {B g n cap : Nat} {L : List ByteArray} (h : Texts w B (.slice (some ⟨g, 0, none⟩) n cap) L) (k : Nat) (hk : k ≤ L.length) : Texts w B (.slice (some ⟨g, 0, none⟩) k cap) (L.take k) := by
  rcases h.2 with ⟨e, _⟩ | ⟨g', cap', cur, e, hb, hgg, hnc, hcm, hcs, htake⟩
  · cases e
  · injection e with e1 e2 e3
    injection e1 with e1
    injection e1 with e1
    subst e1 e3
    have hl : (L.take k).length = k := by rw [List.length_take]; omega
    refine ⟨by simp, .inr ⟨g, cap, cur, by rw [hl], hb, hgg, by rw [hl]; omega, hcm, hcs, ?_⟩⟩
    rw [hl, List.map_take, ← htake, List.take_take, Nat.min_eq_left (by omega), Nat.mul_one]
end Go.Proofs.YtnnpidjpklfogaaDoor.ya
