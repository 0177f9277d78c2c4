import Derived.Test.YtglffbhcnafbnaaDoorA4
import Derived.Test.YtglffbhcnafbnaaDoorB1
import Derived.Laws.EntriesVeiled
import Derived.Test.YtglffbhcnafbnaaDoorA8
import Derived.Test.YtglffbhcnafbnaaDoorA3
import Derived.Laws.AppendOwnNone
import Derived.Deep.DeepCutAuto
import Derived.Test.YtglffbhcnafbnaaDoorA9
namespace Go.Proofs.YtglffbhcnafbnaaDoor.bu
open Go.RowKit Go.PlainAid
open Go.Proofs.YtglffbhcnafbnaaDoor.pl Go.Proofs.YtglffbhcnafbnaaDoor.pi Go.Proofs.YtglffbhcnafbnaaDoor.rf Go.Proofs.YtglffbhcnafbnaaDoor.pj Go.Proofs.YtglffbhcnafbnaaDoor.ca Go.Proofs.YtglffbhcnafbnaaDoor.cb Go.Proofs.YtglffbhcnafbnaaDoor.cp Go.Proofs.YtglffbhcnafbnaaDoor.cs Go.Proofs.YtglffbhcnafbnaaDoor.cu Go.Proofs.YtglffbhcnafbnaaDoor.xc Go.Proofs.YtglffbhcnafbnaaDoor.va Go.Proofs.YtglffbhcnafbnaaDoor.ka Go.Proofs.YtglffbhcnafbnaaDoor.kb Go.Proofs.YtglffbhcnafbnaaDoor.kc Go.Proofs.YtglffbhcnafbnaaDoor.ga Go.Proofs.YtglffbhcnafbnaaDoor.aa Go.Proofs.YtglffbhcnafbnaaDoor.ab Go.Proofs.YtglffbhcnafbnaaDoor.tb Go.Proofs.YtglffbhcnafbnaaDoor.ac Go.Proofs.YtglffbhcnafbnaaDoor.ba Go.Proofs.YtglffbhcnafbnaaDoor.bc Go.Proofs.YtglffbhcnafbnaaDoor.bd Go.Proofs.YtglffbhcnafbnaaDoor.bf Go.Proofs.YtglffbhcnafbnaaDoor.bk Go.Proofs.YtglffbhcnafbnaaDoor.bl Go.Proofs.YtglffbhcnafbnaaDoor.bm Go.Proofs.YtglffbhcnafbnaaDoor.bq
set_option linter.unusedVariables false

-- the reader that Of answers
set_option maxHeartbeats 1600000 in
theorem ofC2 (wd : Int) (u : Value) (hs : List ByteArray) (w : World) (hT : TB w) (hR : ReadsT w u hs) (hn : hs.length ≤ 1048576) (hx : ∀ x ∈ hs, x.size ≤ 1048576) :
    Calls Tryd.prog 15 #[.int .i64 wd, u] w fun e w' => (∃ ob wb v, e = .returned (.agg #[.int .i64 wd, .int .i64 hs.length, .func (.func 44) #[] #[.pointer (some ⟨ob, 0, none⟩), .pointer (some ⟨wb, 0, none⟩)]]) ∧ OfJ ob wb wd v hs w' ∧ w.heap.size ≤ ob ∧ w.heap.size ≤ wb ∧ ∀ b off n c, v = .slice (some ⟨b, off, none⟩) n c → w.heap.size ≤ b) ∧ Below w.heap.size w w' := by
  have B0 : Hid (Below w.heap.size w ((w.alloc (.cells #[.int .i64 wd] 3)).alloc (.cells #[.int .i64 0, .int .i64 0, .nilFunc] 24))) := ((Below.refl _ _).alloc (Nat.le_refl _) _).alloc (by simp) _
  have CC : Hid (Calls _ _ _ _ _) := bq.clone u hs ((w.alloc (.cells #[.int .i64 wd] 3)).alloc (.cells #[.int .i64 0, .int .i64 0, .nilFunc] 24)) (hR.later B0.out) hn
  have HT : Hid (TB w) := hT
  have s1 : (w.alloc (.cells #[.int .i64 wd] 3)).heap.size = w.heap.size + 1 := by simp
  have HZ : Hid (((w.alloc (.cells #[.int .i64 wd] 3)).alloc (.cells #[.int .i64 0, .int .i64 0, .nilFunc] 24)).heap[w.heap.size + 1]? = some (.cells #[.int .i64 0, .int .i64 0, .nilFunc] 24 (0, 0))) := by
    show _ = _
    rw [← s1]
    exact heap_alloc_new _ _
  have HW : Hid (((w.alloc (.cells #[.int .i64 wd] 3)).alloc (.cells #[.int .i64 0, .int .i64 0, .nilFunc] 24)).cell? ⟨w.heap.size, 0, none⟩ = some (.int .i64 wd)) := by
    have hb1 : Below (w.alloc (.cells #[.int .i64 wd] 3)).heap.size (w.alloc (.cells #[.int .i64 wd] 3)) ((w.alloc (.cells #[.int .i64 wd] 3)).alloc (.cells #[.int .i64 0, .int .i64 0, .nilFunc] 24)) := (Below.refl _ _).alloc (Nat.le_refl _) _
    show _ = _
    refine (hb1.cell (p := ⟨w.heap.size, 0, none⟩) (by rw [s1]; show w.heap.size < _; omega)).trans ?_
    rw [World.cell?_alloc_at _ _ _ _ rfl]; rfl
  obtain ⟨n, HN⟩ : ∃ n, Hid (hs.length = n) := ⟨_, rfl⟩
  rw [HN.out] at CC ⊢
  clear hT hR s1
  go_enter Tryd.func15, Tryd.ntmps15
  go_wp2_with fail
  refine CC.out.mono ?_
  rintro e w1 ⟨⟨va, vl, vc, rfl, ho⟩, hb1⟩
  obtain ⟨qa, qc, eq⟩ := own_formS ho
  injection eq with e1 e2 e3
  subst e1 e2 e3
  have HO1 : Hid (w1.ownsRow ((w.alloc (.cells #[.int .i64 wd] 3)).alloc (.cells #[.int .i64 0, .int .i64 0, .nilFunc] 24)).heap.size 9 1 (.slice va vl vc) vl (hs.map Value.string)) := ho
  have B1 : Hid (Below w.heap.size w w1) := over B0.out hb1
  have HZ1 : Hid (w1.heap[w.heap.size + 1]? = some (.cells #[.int .i64 0, .int .i64 0, .nilFunc] 24 (0, 0))) := (hb1.block _ (Array.getElem?_eq_some_iff.1 HZ.out).1).trans HZ.out
  have HW1 : Hid (w1.cell? ⟨w.heap.size, 0, none⟩ = some (.int .i64 wd)) := (hb1.cell (World.block_lt_of_cell? _ _ HW.out)).trans HW.out
  have BA : Hid (Below w1.heap.size w1 (w1.alloc (.cells #[.slice va vl vc] 28))) := (Below.refl _ _).alloc (Nat.le_refl _) _
  have HZ2 : Hid ((w1.alloc (.cells #[.slice va vl vc] 28)).heap[w.heap.size + 1]? = some (.cells #[.int .i64 0, .int .i64 0, .nilFunc] 24 (0, 0))) := (BA.out.block _ (Array.getElem?_eq_some_iff.1 HZ1.out).1).trans HZ1.out
  have cw : (w1.alloc (.cells #[.slice va vl vc] 28)).cell? ⟨w.heap.size, 0, none⟩ = some (.int .i64 wd) := (BA.out.cell (World.block_lt_of_cell? _ _ HW1.out)).trans HW1.out
  clear ho hb1 HZ HW B0
  have d0 : (w1.alloc (.cells #[.slice va vl vc] 28)).cell? ⟨w.heap.size + 1, 0, none⟩ = some (.int .i64 0) := by rw [cell_of_row _ _ _ _ _ _ HZ2.out]; rfl
  have d1 : (w1.alloc (.cells #[.slice va vl vc] 28)).cell? ⟨w.heap.size + 1, 1, none⟩ = some (.int .i64 0) := by rw [cell_of_row _ _ _ _ _ _ HZ2.out]; rfl
  have d2 : (w1.alloc (.cells #[.slice va vl vc] 28)).cell? ⟨w.heap.size + 1, 2, none⟩ = some .nilFunc := by rw [cell_of_row _ _ _ _ _ _ HZ2.out]; rfl
  have f0 := frozen_of_row (w1.alloc (.cells #[.slice va vl vc] 28)) (w.heap.size + 1) 0 _ _ HZ2.out
  have f1 := frozen_of_row (w1.alloc (.cells #[.slice va vl vc] 28)) (w.heap.size + 1) 1 _ _ HZ2.out
  have f2 := frozen_of_row (w1.alloc (.cells #[.slice va vl vc] 28)) (w.heap.size + 1) 2 _ _ HZ2.out
  obtain ⟨fv, HFV⟩ : ∃ fv : Value, Hid (.func (.func 44) #[] #[.pointer (some ⟨w1.heap.size, 0, none⟩), .pointer (some ⟨w.heap.size, 0, none⟩)] = fv) := ⟨_, rfl⟩
  obtain ⟨W3, HW3⟩ : ∃ W3, Hid ((((w1.alloc (.cells #[.slice va vl vc] 28)).setCell ⟨w.heap.size + 1, 0, none⟩ (.int .i64 wd)).setCell ⟨w.heap.size + 1, 1, none⟩ (.int .i64 vl)).setCell ⟨w.heap.size + 1, 2, none⟩ (.func (.func 44) #[] #[.pointer (some ⟨w1.heap.size, 0, none⟩), .pointer (some ⟨w.heap.size, 0, none⟩)]) = W3) := ⟨_, rfl⟩
  have H3 := heap_setCell_same _ _ 2 _ _ (.func (.func 44) #[] #[.pointer (some ⟨w1.heap.size, 0, none⟩), .pointer (some ⟨w.heap.size, 0, none⟩)]) (heap_setCell_same _ _ 1 _ _ (.int .i64 vl) (heap_setCell_same _ _ 0 _ _ (.int .i64 wd) HZ2.out))
  rw [HW3.out] at H3
  have G3 : Hid (W3.cell? ⟨w.heap.size + 1, 0, none⟩ = some (.int .i64 wd) ∧ W3.cell? ⟨w.heap.size + 1, 1, none⟩ = some (.int .i64 vl) ∧ W3.cell? ⟨w.heap.size + 1, 2, none⟩ = some (.func (.func 44) #[] #[.pointer (some ⟨w1.heap.size, 0, none⟩), .pointer (some ⟨w.heap.size, 0, none⟩)])) :=
    ⟨by rw [cell_of_row _ _ _ _ _ _ H3]; rfl, by rw [cell_of_row _ _ _ _ _ _ H3]; rfl, by rw [cell_of_row _ _ _ _ _ _ H3]; rfl⟩
  have KK : Hid (Kp (fun b => b = w.heap.size + 1) (w1.alloc (.cells #[.slice va vl vc] 28)) W3) := by
    show Kp _ _ _
    rw [← HW3.out]
    exact ((Kp.setCell (A := fun b => b = w.heap.size + 1) _ _ _ _ rfl).trans (Kp.setCell (A := fun b => b = w.heap.size + 1) _ _ _ _ rfl)).trans (Kp.setCell (A := fun b => b = w.heap.size + 1) _ _ _ _ rfl)
  have B3 : Hid (Below w.heap.size w W3) := (over B1.out BA.out).trans (KK.out.below (fun k hk => by omega) (over B1.out BA.out).size)
  have hlt : w.heap.size + 1 < w1.heap.size := (Array.getElem?_eq_some_iff.1 HZ1.out).1
  have HJ3 : Hid (OfJ w1.heap.size w.heap.size wd (.slice va vl vc) hs W3) := by
    have ho2 := own_later HO1.out BA.out
    refine ⟨HT.out.down B3.out, ⟨KK.out.cell (by rw [World.cell?_alloc_at _ _ _ _ rfl]; rfl) (by omega), KK.out.cell cw (by omega)⟩, own_readsT (owns_keep ho2 (fun gg hg => KK.out.block gg (owns_lt ho2 hg).1 (fun e => by have := (owns_lt ho2 hg).2; simp at this; omega))), hx, ?_⟩
    intro a n c he
    rcases ho2.2 with ⟨e, _⟩ | ⟨gg, cap, cur, e, _, _, _, hm, _⟩
    · rw [e] at he; injection he with _ _ e3; omega
    · rw [e] at he; injection he with _ _ e3; unfold maxLen at hm; omega
  have HBK : Hid (∀ b off n c, Value.slice va vl vc = .slice (some ⟨b, off, none⟩) n c → w.heap.size ≤ b) := by
    intro b off n c he
    have hg : (Value.slice va vl vc).ownBlock = some b := by rw [he]; rfl
    have := (owns_lt HO1.out hg).2
    simp at this
    omega
  have HLT : Hid (w.heap.size ≤ w1.heap.size) := B1.out.size
  clear H3 HZ1 HZ2 HO1 HW1 KK hlt
  go_wp2
  rw [HW3.out]
  obtain ⟨g1, g2, g3⟩ := G3.out
  (try simp only [Exit.inBlock, Exit.then])
  refine bodyPost_ret (by simp [results, Tryd.results15, go_sem, g1, g2, g3]; try rfl) rfl ?_
  exact ⟨⟨_, _, _, rfl, HJ3.out, HLT.out, Nat.le_refl _, HBK.out⟩, B3.out⟩
end Go.Proofs.YtglffbhcnafbnaaDoor.bu

namespace Go.Proofs.YtglffbhcnafbnaaDoor.lf
open Go.RowKit Go.PlainAid Go.Shelf
open Go.Proofs.YtglffbhcnafbnaaDoor.pl Go.Proofs.YtglffbhcnafbnaaDoor.pi Go.Proofs.YtglffbhcnafbnaaDoor.rf Go.Proofs.YtglffbhcnafbnaaDoor.pj Go.Proofs.YtglffbhcnafbnaaDoor.ca Go.Proofs.YtglffbhcnafbnaaDoor.cb Go.Proofs.YtglffbhcnafbnaaDoor.cp Go.Proofs.YtglffbhcnafbnaaDoor.cs Go.Proofs.YtglffbhcnafbnaaDoor.xc Go.Proofs.YtglffbhcnafbnaaDoor.ka Go.Proofs.YtglffbhcnafbnaaDoor.kb Go.Proofs.YtglffbhcnafbnaaDoor.ga Go.Proofs.YtglffbhcnafbnaaDoor.aa Go.Proofs.YtglffbhcnafbnaaDoor.ab Go.Proofs.YtglffbhcnafbnaaDoor.tb Go.Proofs.YtglffbhcnafbnaaDoor.ac Go.Proofs.YtglffbhcnafbnaaDoor.bc Go.Proofs.YtglffbhcnafbnaaDoor.bd Go.Proofs.YtglffbhcnafbnaaDoor.bh Go.Proofs.YtglffbhcnafbnaaDoor.bl Go.Proofs.YtglffbhcnafbnaaDoor.bm Go.Proofs.YtglffbhcnafbnaaDoor.bn Go.Proofs.YtglffbhcnafbnaaDoor.bu Go.Proofs.YtglffbhcnafbnaaDoor.sa Go.Proofs.YtglffbhcnafbnaaDoor.sc
set_option linter.unusedVariables false

def BE : ByteArray := ⟨#[98, 101, 104, 105, 110, 100]⟩
-- the document's Of
theorem ofD (wd : Int) (a : Option Addr) (n cap : Nat) (w : World) : Calls Tryd.prog 16 #[.int .i64 wd, .slice a n cap] w fun e w' => e = .returned (.pointer (some ⟨w.heap.size, 0, none⟩)) ∧ w' = w.alloc (.cells #[.int .i64 wd, .int .i64 n, .slice a n cap, .bool false, .int .i64 0, .int .i64 0, .slice none 0 0] 51) := by
  go_enter Tryd.func16, Tryd.ntmps16
  go_wp2
  go_ret
  exact ⟨rfl, rfl⟩
theorem look_of (wd : Int) (xs : List ByteArray) (L I : Int) : lookP ⟨wd, xs.length, xs, false, 0, 0⟩ L I = ofP wd xs L I := by
  unfold lookP ofP
  rfl
theorem reads_keep1 {w w' : World} {v : Value} {xs : List ByteArray} (h : ReadsT w v xs) (hb : ∀ b off n cap, v = .slice (some ⟨b, off, none⟩) n cap → b < w.heap.size → 1 ≤ xs.length → w'.heap[b]? = w.heap[b]?) : ReadsT w' v xs := by
  obtain ⟨a, cap, rfl, hc, h0 | ⟨b, off, rfl, hh⟩⟩ := h
  · exact ⟨a, cap, rfl, hc, .inl h0⟩
  · refine ⟨_, cap, rfl, hc, .inr ⟨b, off, rfl, fun i hi => ?_⟩⟩
    have c1 := hh i hi
    exact (World.cell?_of_block (a := ⟨b, off + i, none⟩) (hb b off _ _ rfl (World.block_lt_of_cell? _ _ c1) (by omega))).trans c1
-- all that the law asks of the world behind its making
structure Pk (wd : Int) (xs : List ByteArray) (w0 : World) (g : Nat) (hv : Value) (ob wb : Nat) (vv : Value) (rb sk : Nat) (w : World) : Prop where
  j : OfJ ob wb wd vv xs w
  q : Lq w sk ⟨wd, xs.length, xs, false, 0, 0⟩ hv (.slice none 0 0)
  c : w.cell? ⟨rb, 2, none⟩ = some (.func (.func 44) #[] #[.pointer (some ⟨ob, 0, none⟩), .pointer (some ⟨wb, 0, none⟩)])
  gb : 7 ≤ g ∧ g ≠ ob ∧ g ≠ wb ∧ g ≠ rb ∧ g ≠ sk
  gv : ∀ b off n c, vv = .slice (some ⟨b, off, none⟩) n c → b ≠ g
  gh : ∀ b off n c, hv = .slice (some ⟨b, off, none⟩) n c → 1 ≤ xs.length → b ≠ g
theorem Pk.later {wd : Int} {xs : List ByteArray} {w0 : World} {g : Nat} {hv : Value} {ob wb : Nat} {vv : Value} {rb sk : Nat} {w w' : World} (h : Pk wd xs w0 g hv ob wb vv rb sk w) (hb : Below w.heap.size w w') : Pk wd xs w0 g hv ob wb vv rb sk w' :=
  ⟨h.j.later hb, h.q.later hb, (hb.cell (World.block_lt_of_cell? _ _ h.c)).trans h.c, h.gb, h.gv, h.gh⟩
theorem Pk.marked {wd : Int} {xs : List ByteArray} {w0 : World} {g : Nat} {hv : Value} {ob wb : Nat} {vv : Value} {rb sk : Nat} {w w' : World} (h : Pk wd xs w0 g hv ob wb vv rb sk w) (k : Kp (fun b => b = g) w w') : Pk wd xs w0 g hv ob wb vv rb sk w' := by
  obtain ⟨g1, g2, g3, g4, g5⟩ := h.gb
  have t7 : T7 w' := T7.keep h.q.t k (fun b e => by have : b = g := e; omega)
  refine ⟨⟨t7.t.tb, ⟨k.cell h.j.o.own (fun e => g2 e.symm), k.cell h.j.o.wid (fun e => g3 e.symm)⟩, reads_keep h.j.r (fun b off n c he hlt => k.block b hlt (h.gv b off n c he)), h.j.x, h.j.c⟩, ⟨t7, (k.block sk h.q.o.lt (fun e => g5 e.symm)).trans h.q.o, reads_keep1 h.q.r (fun b off n c he hlt hl => k.block b hlt (h.gh b off n c he hl)), h.q.x, h.q.n, h.q.c, h.q.k⟩, k.cell h.c (fun e => g4 e.symm), h.gb, h.gv, h.gh⟩
-- marks written into a row
structure Mk (g n : Nat) (w0 w : World) : Prop where
  k : Kp (fun b => b = g) w0 w
  r : ∃ cur, w.heap[g]? = some (.cells cur 9 (0, 0)) ∧ n ≤ cur.size ∧ ∀ i, i < n → ∃ s, cur[i]? = some (.string s)
theorem Mk.cell {g n : Nat} {w0 w : World} (h : Mk g n w0 w) {i : Nat} (hi : i < n) : (∃ s, w.cell? ⟨g, i, none⟩ = some (.string s)) ∧ w.frozen? ⟨g, i, none⟩ = false := by
  obtain ⟨cur, hc, hl, hs⟩ := h.r
  obtain ⟨s, e⟩ := hs i hi
  exact ⟨⟨s, by rw [cell_of_row _ _ _ _ _ _ hc]; exact e⟩, frozen_of_row _ _ _ _ _ hc⟩
theorem Mk.set {g n : Nat} {w0 w : World} (h : Mk g n w0 w) (i : Nat) (x : ByteArray) : Mk g n w0 (w.setCell ⟨g, i, none⟩ (.string x)) := by
  obtain ⟨cur, hc, hl, hs⟩ := h.r
  refine ⟨h.k.trans (Kp.setCell _ _ _ _ rfl), ⟨cur.setIfInBounds i (.string x), heap_setCell_same _ _ _ _ _ _ hc, by simpa using hl, fun j hj => ?_⟩⟩
  obtain ⟨s, e⟩ := hs j hj
  rw [Array.getElem?_setIfInBounds]
  by_cases hij : i = j
  · subst hij
    rw [if_pos rfl, if_pos (by have := (Array.getElem?_eq_some_iff.1 e).1; exact this)]
    exact ⟨x, rfl⟩
  · rw [if_neg hij]
    exact ⟨s, e⟩
set_option maxHeartbeats 6400000 in
set_option maxRecDepth 100000 in
theorem prove_of (wd : Int) (v : Value) (xs : List ByteArray) (aL aI bL bI : Int) (ha : i64 aL ∧ i64 aI) (hb : i64 bL ∧ i64 bI) (w : World) (hT : T7 w) (hR : ReadsT w v xs) (hno : ∀ k c, v = .slice none k c → c = 0) (hx : ∀ x ∈ xs, x.size ≤ 1048576) (hk : xs.length ≤ 1048576) (hcp : ∀ a n c, v = .slice a n c → c ≤ 9223372036854775807) :
    Calls Tryd.prog 4 #[.int .i64 wd, v, .agg #[.int .i64 aL, .int .i64 aI], .agg #[.int .i64 bL, .int .i64 bI]] w fun e w' => e = .returned (.bool true) ∧ Below w.heap.size w w' := by
  obtain ⟨i9, hi, hz0, hz1, hz2⟩ := ka.info_parts ka.hi9
  have HIN : Hid (_ ∧ _ ∧ _ ∧ _) := ⟨hi, hz0, hz1, hz2⟩
  have HI : Hid (i64 aL ∧ i64 aI ∧ i64 bL ∧ i64 bI) := ⟨ha.1, ha.2, hb.1, hb.2⟩
  have HT : Hid (T7 w) := hT
  have HX : Hid (∀ x ∈ xs, x.size ≤ 1048576) := hx
  have HCP : Hid (∀ a n c, v = .slice a n c → c ≤ 9223372036854775807) := hcp
  obtain ⟨W0, HW0⟩ : ∃ W0, Hid ((w.alloc (.cells #[.int .i64 aL, .int .i64 aI] 36)).alloc (.cells #[.int .i64 bL, .int .i64 bI] 36) = W0) := ⟨_, rfl⟩
  have B0 : Hid (Below w.heap.size w W0) := by show Below _ _ _; rw [← HW0.out]; exact ((Below.refl _ _).alloc (Nat.le_refl _) _).alloc (by simp) _
  have S0 : Hid (W0.heap.size = w.heap.size + 2) := by show _ = _; rw [← HW0.out]; simp
  have XA : Hid (Bx W0 w.heap.size aL aI) := by
    show Bx _ _ _ _
    rw [← HW0.out]
    exact (bx_new w aL aI).later ((Below.refl _ _).alloc (Nat.le_refl _) _)
  have XB : Hid (Bx W0 (w.heap.size + 1) bL bI) := by
    show Bx _ _ _ _
    rw [← HW0.out]
    have := bx_new (w.alloc (.cells #[.int .i64 aL, .int .i64 aI] 36)) bL bI
    rw [show (w.alloc (.cells #[.int .i64 aL, .int .i64 aI] 36)).heap.size = w.heap.size + 1 by simp] at this
    exact this
  have HRW : Hid (ReadsT w v xs) := hR
  have HRD : Hid (ReadsT W0 v xs) := hR.later B0.out
  obtain ⟨a, cap, rfl, hcap, hh⟩ := hR
  have HVB : Hid (∀ b off n c, Value.slice a xs.length cap = .slice (some ⟨b, off, none⟩) n c → 1 ≤ xs.length → b < w.heap.size) := by
    intro b off n c he hl
    injection he with e1 _ _
    rcases hh with h0 | ⟨b', off', e4, hc⟩
    · omega
    · rw [e4] at e1
      injection e1 with e1
      injection e1 with e1 e2
      subst e1
      exact World.block_lt_of_cell? _ _ (hc 0 (by omega))
  obtain ⟨n, HN⟩ : ∃ n, Hid (xs.length = n) := ⟨_, rfl⟩
  have HC0 : Hid (a = none → cap = 0) := fun h => hno xs.length cap (by rw [h])
  rw [HN.out] at hcap HRD HRW HVB HCP hk ⊢
  clear hh hi hz0 hz1 hz2 hno hT hx hcp ha hb
  go_enter Tryd.func4, Tryd.ntmps4
  go_upto_region 1 with fail
  rw [HW0.out]
  go_cut [9] (fun f wx => ∃ f', f = f' ∧ Hid (wx.ownsRow W0.heap.size 9 1 f' n (xs.map Value.string)) ∧ Hid (Below W0.heap.size W0 wx))
  case first =>
    cases a with
    | none =>
      obtain rfl : cap = 0 := HC0.out rfl
      have hn0 : n = 0 := by omega
      have hx0 : xs = [] := List.length_eq_zero_iff.1 (HN.out.trans hn0)
      subst hn0
      have O0 : Hid (W0.ownsRow W0.heap.size 9 1 (.slice none 0 0) 0 []) := World.ownsRow_nil _ _ _ _
      have HX0 : Hid (xs = []) := hx0
      clear hx0
      go_wp2_with (at_builtin; refine wpList_append_own_none rfl _ _ 28 rfl W0.heap.size 9 i9 1 Tryd.underlying28 HIN.out.1 _ 0 _ rfl O0.out rfl ?_)
      go_meet
      refine ⟨_, rfl, ?_, Below.refl _ _⟩
      show World.ownsRow _ _ _ _ _ _ _
      rw [HX0.out]
      exact O0.out
    | some ad =>
      have HNW : Hid (∀ (j : Nat) (u : Value), (xs.map Value.string)[j]? = some u → W0.cell? (ad.add j) = some u) := reads_news HRD.out
      have HNL : Hid ((xs.map Value.string).length = n * 1) := by show _ = _; rw [List.length_map, HN.out, Nat.mul_one]
      have HN1 : Hid (∀ u ∈ xs.map Value.string, u.oneCell' = true) := by
        intro u hu
        obtain ⟨x, _, rfl⟩ := List.mem_map.1 hu
        rfl
      have O0 : Hid (W0.ownsRow W0.heap.size 9 1 (.slice none 0 0) 0 []) := World.ownsRow_nil _ _ _ _
      go_wp2_with (at_builtin; refine wpList_append_own _ rfl _ _ 28 rfl W0.heap.size 9 i9 (.string ByteArray.empty) 1 16 Tryd.underlying28 HIN.out.1 HIN.out.2.1 HIN.out.2.2.1 HIN.out.2.2.2 rfl (by decide) _ 0 _ rfl O0.out ad n cap (xs.map Value.string) rfl HNL.out HNW.out HN1.out (by unfold maxLen; omega) (by omega) (Nat.le_refl _) ?_; intro f' w3 ho hg hnn; have HO3 : Hid (w3.ownsRow W0.heap.size 9 1 f' n (xs.map Value.string)) := (by have := ho; rw [Nat.zero_add, List.nil_append] at this; exact this); have HB3 : Hid (Below W0.heap.size W0 w3) := Below.grown (Below.refl _ _) hg (Nat.le_refl _) (fun j hj => by cases hj); clear ho hg hnn)
      go_meet
      exact ⟨_, rfl, HO3.out, HB3.out⟩
  case rest =>
    obtain ⟨f1, hf1, O1, B3⟩ := hcut
    rw [← hf1] at O1
    clear hf1
    have O1a : Hid ((wc.alloc (.cells #[.string BE] 9)).ownsRow W0.heap.size 9 1 u9 n (xs.map Value.string)) := O1.out.alloc (.cells #[.string BE] 9)
    have B3a : Hid (Below W0.heap.size W0 (wc.alloc (.cells #[.string BE] 9))) := B3.out.alloc B3.out.size _
    unfold BE at O1a B3a
    go_upto_region 4 with (at_builtin; refine wpList_append_own _ rfl _ _ 28 rfl W0.heap.size 9 i9 (.string ByteArray.empty) 1 16 Tryd.underlying28 HIN.out.1 HIN.out.2.1 HIN.out.2.2.1 HIN.out.2.2.2 rfl (by decide) _ n _ rfl O1a.out ⟨wc.heap.size, 0, none⟩ 1 1 [.string BE] rfl rfl (new_text _ _ _) (one_text _) (by unfold maxLen; omega) (by omega) B3a.out.size ?_; intro f' w4 ho hg hnn; have O2 : Hid (w4.ownsRow W0.heap.size 9 1 f' (n + 1) (xs.map Value.string ++ [.string BE])) := ho; have B4 : Hid (Below W0.heap.size W0 w4) := Below.grown B3a.out hg B3a.out.size (fun j hj => (O1.out.lt _ hj).1); clear ho hg hnn)
    obtain ⟨g, cp, rfl⟩ : ∃ g cp, f' = .slice (some ⟨g, 0, none⟩) (n + 1) cp := by
      rcases O2.out.2 with ⟨_, h⟩ | ⟨g, cp, cur, h, _⟩
      · omega
      · exact ⟨g, cp, h⟩
    have hcp : n + 1 ≤ cp := by
      rcases O2.out.2 with ⟨e, _⟩ | ⟨g', cap', cur, e, _, _, hc, _⟩
      · cases e
      · injection e with _ _ e3; omega
    have hcp1 : (n : Int) ≤ cp := by omega
    have hcp2 : (n : Int) < n + 1 := by omega
    have HG : Hid (W0.heap.size ≤ g ∧ g < w4.heap.size) := ⟨(owns_lt O2.out rfl).2, (owns_lt O2.out rfl).1⟩
    have RG : Hid (ReadsT w4 (.slice (some ⟨g, 0, none⟩) n cp) xs) := own_first O2.out HN.out
    have T4 : Hid (T7 w4) := HT.out.down (over B0.out B4.out)
    have OC : Hid (Calls _ _ _ _ _) := ofC2 wd (.slice (some ⟨g, 0, none⟩) n cp) xs w4 T4.out.t.tb RG.out (by rw [HN.out]; omega) HX.out
    rw [HN.out] at OC
    clear O1 O1a B3 B3a
    go_wp2_with fail
    refine OC.out.mono ?_
    rintro e w5 ⟨⟨ob, wb, vv, rfl, hj5, hob, hwb, hvv⟩, hb5⟩
    obtain ⟨W6, HW6⟩ : ∃ W6, Hid (w5.alloc (.cells #[.int .i64 wd, .int .i64 n, .func (.func 44) #[] #[.pointer (some ⟨ob, 0, none⟩), .pointer (some ⟨wb, 0, none⟩)]] 24) = W6) := ⟨_, rfl⟩
    have B6 : Hid (Below w5.heap.size w5 W6) := by show Below _ _ _; rw [← HW6.out]; exact (Below.refl _ _).alloc (Nat.le_refl _) _
    have X6 : Hid (W6.cell? ⟨w5.heap.size, 0, none⟩ = some (.int .i64 wd) ∧ W6.cell? ⟨w5.heap.size, 1, none⟩ = some (.int .i64 n) ∧ W6.cell? ⟨w5.heap.size, 2, none⟩ = some (.func (.func 44) #[] #[.pointer (some ⟨ob, 0, none⟩), .pointer (some ⟨wb, 0, none⟩)])) := by show _ ∧ _; rw [← HW6.out]; exact three_box w5 _ _ _ _
    have OD : Hid (Calls _ _ _ _ _) := ofD wd a n cap W6
    have J5 : Hid (OfJ ob wb wd vv xs w5 ∧ w4.heap.size ≤ ob ∧ w4.heap.size ≤ wb ∧ (∀ b off n c, vv = .slice (some ⟨b, off, none⟩) n c → w4.heap.size ≤ b) ∧ Below w4.heap.size w4 w5) := ⟨hj5, hob, hwb, hvv, hb5⟩
    clear hj5 hob hwb hvv hb5
    go_upto_region 5 with fail
    rw [HW6.out]
    go_wp2_with fail
    refine OD.out.mono ?_
    rintro e W7 ⟨rfl, hW7⟩
    have B7 : Hid (Below W6.heap.size W6 W7) := by rw [hW7]; exact (Below.refl _ _).alloc (Nat.le_refl _) _
    have Q7 : Hid (Pk wd xs w g (.slice a n cap) ob wb vv w5.heap.size W6.heap.size W7) := by
      have hb67 := over B6.out B7.out
      have t7 : T7 W7 := T4.out.down (over J5.out.2.2.2.2 hb67)
      have hz6 : w5.heap.size + 1 = W6.heap.size := by rw [← HW6.out]; simp
      have h45 := J5.out.2.2.2.2.size
      refine ⟨J5.out.1.later hb67, ⟨t7, ?_, HRD.out.later (over B4.out (over J5.out.2.2.2.2 hb67)), HX.out, fun _ => rfl, HCP.out, by rw [HN.out]; omega⟩, (B7.out.cell (World.block_lt_of_cell? _ _ X6.out.2.2)).trans X6.out.2.2, ⟨?_, ?_, ?_, ?_, ?_⟩, ?_, ?_⟩
      · rw [hW7]
        show _ = some (Obj.cells #[.int .i64 wd, .int .i64 (xs.length : Int), .slice a n cap, .bool false, .int .i64 0, .int .i64 0, .slice none 0 0] 51 (0, 0))
        rw [HN.out]
        exact heap_alloc_new _ _
      · have := HG.out; have := T4.out.t.t.big; have := HT.out.t.t.big; have := S0.out; omega
      · intro e; have := HG.out; have := J5.out.2.1; omega
      · intro e; have := HG.out; have := J5.out.2.2.1; omega
      · intro e; have := HG.out; omega
      · intro e; have := HG.out; omega
      · intro b off n' c he e
        have := J5.out.2.2.2.1 b off n' c he
        have := HG.out
        omega
      · intro b off n' c he hl e
        have := HVB.out b off n' c he (by rw [← HN.out]; exact hl)
        have := HG.out
        have := S0.out
        omega
    have BW : Hid (Below w.heap.size w W7) := over B0.out (over B4.out (over J5.out.2.2.2.2 (over B6.out B7.out)))
    have B07 : Hid (Below W0.heap.size W0 W7) := over B4.out (over J5.out.2.2.2.2 (over B6.out B7.out))
    have B47 : Hid (Below w4.heap.size w4 W7) := over J5.out.2.2.2.2 (over B6.out B7.out)
    have x0 := (B7.out.cell (World.block_lt_of_cell? _ _ X6.out.1)).trans X6.out.1
    have x1 := (B7.out.cell (World.block_lt_of_cell? _ _ X6.out.2.1)).trans X6.out.2.1
    have x2 := (B7.out.cell (World.block_lt_of_cell? _ _ X6.out.2.2)).trans X6.out.2.2
    have HSK : Hid (W6.heap.size = w5.heap.size + 1) := by show _ = _; rw [← HW6.out]; simp
    have SM : Hid (Calls _ _ _ _ _) := same_yes (.slice (some ⟨g, 0, none⟩) n cp) (.slice a n cap) xs W7 (RG.out.later B47.out) (HRD.out.later B07.out) (by rw [HN.out]; omega)
    have qf := fun w => eqF 44 #[] #[.pointer (some ⟨ob, 0, none⟩), .pointer (some ⟨wb, 0, none⟩)] w
    have qw : (wd == wd) = true := beq_self_eq_true _
    have qn : ((n : Int) == (n : Int)) = true := beq_self_eq_true _
    have O7 : Hid (W7.ownsRow W0.heap.size 9 1 (.slice (some ⟨g, 0, none⟩) (n + 1) cp) (n + 1) (xs.map Value.string ++ [.string BE])) := own_later O2.out B47.out
    have ND : Hid (∀ (L I : Int) w', i64 L → i64 I → Pk wd xs w g (.slice a n cap) ob wb vv w5.heap.size W6.heap.size w' → Calls _ _ _ _ _) := fun L I w' h0 h1 h => node wd L I h0 h1 ob wb vv xs w' h.j.t.t h.j.o h.j.r h.j.x h.j.c
    have LK : Hid (∀ (L I : Int) w', i64 L → i64 I → Pk wd xs w g (.slice a n cap) ob wb vv w5.heap.size W6.heap.size w' → Calls Tryd.prog 18 #[.pointer (some ⟨W6.heap.size, 0, none⟩), .agg #[.int .i64 L, .int .i64 I]] w' fun e w'' => e = .returned (.tuple #[.string (ofP wd xs L I).1, .int .i64 (ofP wd xs L I).2]) ∧ Below w'.heap.size w' w'') := by
      intro L I w' h0 h1 h
      have := Go.Proofs.YtglffbhcnafbnaaDoor.sb.look ⟨wd, xs.length, xs, false, 0, 0⟩ W6.heap.size (.slice a n cap) (.slice none 0 0) L I h0 h1 w' h.q
      rw [look_of] at this
      exact this
    obtain ⟨PA, HPA⟩ : ∃ p, Hid (ofP wd xs aL aI = p) := ⟨_, rfl⟩
    obtain ⟨PB, HPB⟩ : ∃ p, Hid (ofP wd xs bL bI = p) := ⟨_, rfl⟩
    have NM : Hid (∀ x w, Calls _ _ _ _ _) := fun x w => num x w
    clear hW7 OC OD
    go_wp2_with fail
    refine SM.out.mono ?_
    rintro e w8 ⟨rfl, m8, hw8⟩
    have B8 : Hid (Below W7.heap.size W7 w8) := by rw [hw8]; exact below_dN (Below.refl _ _) m8
    have Q8 : Hid (Pk wd xs w g (.slice a n cap) ob wb vv w5.heap.size W6.heap.size w8) := Q7.out.later B8.out
    have cb : w8.cell? ⟨g, n, none⟩ = some (.string (⟨#[98, 101, 104, 105, 110, 100]⟩ : ByteArray)) := own_behind (own_later O7.out B8.out) HN.out
    have ca := Q8.out.c
    obtain ⟨xa1, xa2⟩ := XA.out.later (over B07.out B8.out)
    have NA : Hid (Calls _ _ _ _ _) := ND.out aL aI w8 HI.out.1 HI.out.2.1 Q8.out
    rw [HPA.out] at NA
    clear hw8 x0 x1 x2
    go_wp2_with fail
    refine NA.out.mono ?_
    rintro e w9 ⟨rfl, hb9⟩
    have Q9 : Hid (Pk wd xs w g (.slice a n cap) ob wb vv w5.heap.size W6.heap.size w9) := Q8.out.later hb9
    have B9 : Hid (Below W7.heap.size W7 w9) := over B8.out hb9
    have LA : Hid (Calls _ _ _ _ _) := LK.out aL aI w9 HI.out.1 HI.out.2.1 Q9.out
    rw [HPA.out] at LA
    clear hb9 xa1 xa2 ca cb
    obtain ⟨xa1, xa2⟩ := XA.out.later (over B07.out B9.out)
    obtain ⟨hA, cA⟩ := PA
    dsimp only at LA
    have qA : (hA.toList == hA.toList) = true := beq_self_eq_true _
    have qcA : (cA == cA) = true := beq_self_eq_true _
    go_wp2_with fail
    refine LA.out.mono ?_
    rintro e w10 ⟨rfl, hb10⟩
    have Q10 : Hid (Pk wd xs w g (.slice a n cap) ob wb vv w5.heap.size W6.heap.size w10) := Q9.out.later hb10
    have B10 : Hid (Below W7.heap.size W7 w10) := over B9.out hb10
    have M10 : Hid (Mk g n w10 w10) := by
      have ho := own_later O7.out B10.out
      refine ⟨Kp.refl _ _, ?_⟩
      rcases ho.2 with ⟨e, _⟩ | ⟨g', cap', cur, e, _, hh, hc, _, hsz, htk⟩
      · cases e
      · injection e with e1 e2 e3
        injection e1 with e1
        injection e1 with e1
        subst e1
        refine ⟨cur, hh, by omega, fun i hi => ?_⟩
        have h1 := ho.cellAt i (by omega)
        rw [cell_of_row _ _ _ _ _ _ hh, List.getElem?_append_left (by rw [List.length_map, HN.out]; exact hi), List.getElem?_map, List.getElem?_eq_getElem (by rw [HN.out]; exact hi)] at h1
        exact ⟨_, h1⟩
    clear hb10 xa1 xa2
    go_wp2_with fail
    refine (NM.out _ _).mono ?_
    rintro e w11 ⟨rfl, hw11⟩
    subst hw11
    go_wp2
    go_loopw [17] (fun i wr => ∃ k : Nat, k ≤ n ∧ i = .int .i64 k ∧ Hid (Mk g n w11 wr)) (fun i _ => (n - intOf i).toNat)
    case atStart => exact ⟨0, Nat.zero_le _, rfl, M10.out⟩
    case round =>
      obtain ⟨k, hk', rfl, HM⟩ := hrel
      by_cases hlt : k < n
      · have hlt' : (k : Int) < n := by omega
        have hlt2 : (k : Int) < (n : Int) + 1 := by omega
        obtain ⟨⟨ss, cs1⟩, fz⟩ := HM.out.cell hlt
        go_wp2
        go_roundw
        case rel => exact ⟨k + 1, by omega, by go_num, HM.out.set k _⟩
        case measure => simp [intOf]; omega
      · have hlt' : ¬ (k : Int) < n := by omega
        have hgw : w.heap.size + 1 < g := by have := HG.out; have := S0.out; omega
        have Q12 : Hid (Pk wd xs w g (.slice a n cap) ob wb vv w5.heap.size W6.heap.size wr) := Q10.out.marked HM.out.k
        have BX : Hid (Below w.heap.size w wr) := (over BW.out B10.out).trans (HM.out.k.below (fun b e => by have : b = g := e; omega) (over BW.out B10.out).size)
        have YA : Hid (Bx wr w.heap.size aL aI) := by
          have h1 := XA.out.later (over B07.out B10.out)
          exact ⟨HM.out.k.cell h1.one (by show ¬ w.heap.size = g; omega), HM.out.k.cell h1.two (by show ¬ w.heap.size = g; omega)⟩
        have YB : Hid (Bx wr (w.heap.size + 1) bL bI) := by
          have h1 := XB.out.later (over B07.out B10.out)
          exact ⟨HM.out.k.cell h1.one (by show ¬ w.heap.size + 1 = g; omega), HM.out.k.cell h1.two (by show ¬ w.heap.size + 1 = g; omega)⟩
        have N1 : Hid (Calls _ _ _ _ _) := ND.out aL aI wr HI.out.1 HI.out.2.1 Q12.out
        rw [HPA.out] at N1
        dsimp only at N1
        obtain ⟨ya1, ya2⟩ := YA.out
        have ca := Q12.out.c
        obtain ⟨hB, cB⟩ := PB
        go_wp2_with fail
        refine N1.out.mono ?_
        rintro e w12 ⟨rfl, hb12⟩
        have Q13 : Hid (Pk wd xs w g (.slice a n cap) ob wb vv w5.heap.size W6.heap.size w12) := Q12.out.later hb12
        have YB1 : Hid (Bx w12 (w.heap.size + 1) bL bI) := YB.out.later hb12
        have BX1 : Hid (Below w.heap.size w w12) := over BX.out hb12
        have N2 : Hid (Calls _ _ _ _ _) := ND.out bL bI w12 HI.out.2.2.1 HI.out.2.2.2 Q13.out
        rw [HPB.out] at N2
        dsimp only at N2
        clear hb12 ya1 ya2 ca
        have ca := Q13.out.c
        obtain ⟨yb1, yb2⟩ := YB1.out
        go_wp2_with fail
        refine N2.out.mono ?_
        rintro e w13 ⟨rfl, hb13⟩
        have Q14 : Hid (Pk wd xs w g (.slice a n cap) ob wb vv w5.heap.size W6.heap.size w13) := Q13.out.later hb13
        have YB2 : Hid (Bx w13 (w.heap.size + 1) bL bI) := YB1.out.later hb13
        have BX2 : Hid (Below w.heap.size w w13) := over BX1.out hb13
        have L2 : Hid (Calls _ _ _ _ _) := LK.out bL bI w13 HI.out.2.2.1 HI.out.2.2.2 Q14.out
        rw [HPB.out] at L2
        dsimp only at L2
        clear hb13 yb1 yb2 ca
        obtain ⟨yb1, yb2⟩ := YB2.out
        have qB : (hB.toList == hB.toList) = true := beq_self_eq_true _
        have qcB : (cB == cB) = true := beq_self_eq_true _
        go_wp2_with fail
        refine L2.out.mono ?_
        rintro e w14 ⟨rfl, hb14⟩
        have BX3 : Hid (Below w.heap.size w w14) := over BX2.out hb14
        clear hb14 yb1 yb2
        go_wp2_with fail
        refine (NM.out _ _).mono ?_
        rintro e w15 ⟨rfl, hw15⟩
        subst hw15
        go_wp2_with fail
        refine (NM.out _ _).mono ?_
        rintro e w16 ⟨rfl, hw16⟩
        subst hw16
        go_wp2
        go_ret
        exact ⟨rfl, BX3.out⟩
end Go.Proofs.YtglffbhcnafbnaaDoor.lf

namespace Go.Proofs.YtglffbhcnafbnaaDoor.wf
open Go.RowKit Go.PlainAid
open Go.Proofs.YtglffbhcnafbnaaDoor.cp Go.Proofs.YtglffbhcnafbnaaDoor.cv Go.Proofs.YtglffbhcnafbnaaDoor.ka Go.Proofs.YtglffbhcnafbnaaDoor.sa Go.Proofs.YtglffbhcnafbnaaDoor.sg Go.Proofs.YtglffbhcnafbnaaDoor.ws
set_option linter.unusedVariables false

theorem of_call (W : World) (a0 : Int) (w0 : (Lit.int .i64 a0).wf = true) (v : Value) (xs : List ByteArray) (hr : ReadsT W v xs) (hno : ∀ k c, v = .slice none k c → c = 0) {cap : Nat} (hm : cap ≤ 9223372036854775807) (hc : ∃ a n, v = .slice a n cap) (a2 b2 : Int) (wA2 : (Lit.int .i64 a2).wf = true) (wB2 : (Lit.int .i64 b2).wf = true) (a3 b3 : Int) (wA3 : (Lit.int .i64 a3).wf = true) (wB3 : (Lit.int .i64 b3).wf = true) (hsum : ((xs.map ByteArray.size).sum + xs.length) ≤ 1048576) (tabs : T7 W) :
    Calls Tryd.prog 4 #[.int .i64 a0, v, .agg #[.int .i64 a2, .int .i64 b2], .agg #[.int .i64 a3, .int .i64 b3]] W fun e w' => e = .returned (.bool true) ∧ Below W.heap.size W w' :=
  lf.prove_of a0 v xs a2 b2 a3 b3 ⟨i64_of wA2, i64_of wB2⟩ ⟨i64_of wA3, i64_of wB3⟩ W tabs hr hno (sized_of hsum).x (sized_of hsum).k (fun a n c he => by obtain ⟨a', n', e⟩ := hc; rw [e] at he; injection he with _ _ e3; omega)
end Go.Proofs.YtglffbhcnafbnaaDoor.wf
