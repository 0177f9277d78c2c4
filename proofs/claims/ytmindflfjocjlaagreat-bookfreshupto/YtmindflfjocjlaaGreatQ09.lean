import Derived.Test.YtmindflfjocjlaaGreatQ06
import Derived.Test.YtmindflfjocjlaaGreatQ08
namespace Go.Proofs.YtmindflfjocjlaaGreat.zg
open Go.RowKit Go.PlainAid Go.Maps Go.Shelf
open Go.Proofs.YtmindflfjocjlaaGreat.ca Go.Proofs.YtmindflfjocjlaaGreat.cb Go.Proofs.YtmindflfjocjlaaGreat.cp Go.Proofs.YtmindflfjocjlaaGreat.kp Go.Proofs.YtmindflfjocjlaaGreat.ka Go.Proofs.YtmindflfjocjlaaGreat.ya Go.Proofs.YtmindflfjocjlaaGreat.yb Go.Proofs.YtmindflfjocjlaaGreat.yc Go.Proofs.YtmindflfjocjlaaGreat.yd Go.Proofs.YtmindflfjocjlaaGreat.ye Go.Proofs.YtmindflfjocjlaaGreat.yf Go.Proofs.YtmindflfjocjlaaGreat.yg Go.Proofs.YtmindflfjocjlaaGreat.yi Go.Proofs.YtmindflfjocjlaaGreat.yj Go.Proofs.YtmindflfjocjlaaGreat.yk Go.Proofs.YtmindflfjocjlaaGreat.yl Go.Proofs.YtmindflfjocjlaaGreat.ym Go.Proofs.YtmindflfjocjlaaGreat.yn Go.Proofs.YtmindflfjocjlaaGreat.yo Go.Proofs.YtmindflfjocjlaaGreat.yp Go.Proofs.YtmindflfjocjlaaGreat.yr Go.Proofs.YtmindflfjocjlaaGreat.sb Go.Proofs.YtmindflfjocjlaaGreat.mc
set_option linter.unusedVariables false
set_option linter.unusedSimpArgs false
-- what the law's do answers, field by field
def aT (s : S) (kind : Int) (k : ByteArray) : ByteArray := if kind = 6 then (getS s k).1 else if kind = 8 then imageT s.dur else ⟨#[]⟩
def aN (s : S) (kind : Int) (k : ByteArray) : List ByteArray := if kind = 7 then keysS s k else []
def aA (s : S) (kind : Int) : Int := if kind = 9 then s.pend.length else 0
def aB (s : S) (kind : Int) : Int := if kind = 9 then (tot (now s) : Nat) else 0
def aC (s : S) (kind : Int) : Int := if kind = 9 then s.cap else 0
def aD (s : S) (kind : Int) : Bool := if kind = 9 then s.off else false
def aG (s : S) (kind : Int) : Int := if kind = 9 then s.age else 0
theorem own_low {w : World} {B B' t z n : Nat} {v : Value} {xs : List Value} (o : w.ownsRow B t z v n xs) (h : B' ≤ B) : w.ownsRow B' t z v n xs := by
  obtain ⟨o1, o2⟩ := o
  refine ⟨o1, ?_⟩
  rcases o2 with h0 | ⟨g, cap, cur, e1, e2, rest⟩
  · exact .inl h0
  · exact .inr ⟨g, cap, cur, e1, Nat.le_trans h e2, rest⟩
end Go.Proofs.YtmindflfjocjlaaGreat.zg

namespace Go.Proofs.YtmindflfjocjlaaGreat.zh
open Go.RowKit Go.PlainAid Go.Maps Go.Shelf
open Go.Proofs.YtmindflfjocjlaaGreat.ca Go.Proofs.YtmindflfjocjlaaGreat.cb Go.Proofs.YtmindflfjocjlaaGreat.cp Go.Proofs.YtmindflfjocjlaaGreat.kp Go.Proofs.YtmindflfjocjlaaGreat.ka Go.Proofs.YtmindflfjocjlaaGreat.ya Go.Proofs.YtmindflfjocjlaaGreat.yb Go.Proofs.YtmindflfjocjlaaGreat.yc Go.Proofs.YtmindflfjocjlaaGreat.yd Go.Proofs.YtmindflfjocjlaaGreat.ye Go.Proofs.YtmindflfjocjlaaGreat.yf Go.Proofs.YtmindflfjocjlaaGreat.yg Go.Proofs.YtmindflfjocjlaaGreat.yi Go.Proofs.YtmindflfjocjlaaGreat.yk Go.Proofs.YtmindflfjocjlaaGreat.yl Go.Proofs.YtmindflfjocjlaaGreat.ym Go.Proofs.YtmindflfjocjlaaGreat.yn Go.Proofs.YtmindflfjocjlaaGreat.yo Go.Proofs.YtmindflfjocjlaaGreat.yp Go.Proofs.YtmindflfjocjlaaGreat.yr Go.Proofs.YtmindflfjocjlaaGreat.yt Go.Proofs.YtmindflfjocjlaaGreat.yu Go.Proofs.YtmindflfjocjlaaGreat.zg
set_option linter.unusedVariables false
set_option linter.unusedSimpArgs false
theorem below_dN {B : Nat} {w w' : World} (h : Below B w w') (n : Nat) : Below B w (w'.drewN n) := ⟨h.os, h.tape, h.output, h.size, h.block⟩
theorem two_new {w w1 : World} {o1 o2 : Obj} (b : Below ((w.alloc o1).alloc o2).heap.size ((w.alloc o1).alloc o2) w1) : w1.heap[w.heap.size]? = some o1 ∧ w1.heap[w.heap.size + 1]? = some o2 := by
  have h2 := (MapKept.heap_alloc (w.alloc o1) o2).1
  have e : (w.alloc o1).heap.size = w.heap.size + 1 := by simp
  rw [e] at h2
  refine ⟨(b.block _ (by simp; omega)).trans ?_, (b.block _ (by simp)).trans h2⟩
  rw [heap_alloc_old _ _ (by simp)]; exact heap_alloc_new w _
-- two stores beside each other
structure Tw (B g bn bd g' bn' bd' : Nat) (s t : S) (w w' : World) : Prop where
  ex : ∃ pv pv', Sr B g bn bd pv s w' ∧ Sr B g' bn' bd' pv' t w' ∧ ∀ j, Fr g bn bd pv j → ¬ Fr g' bn' bd' pv' j
  bl : Below B w w'
theorem Tw.symm {B g bn bd g' bn' bd' : Nat} {s t : S} {w w' : World} (h : Tw B g bn bd g' bn' bd' s t w w') : Tw B g' bn' bd' g bn bd t s w w' := by
  obtain ⟨⟨pv, pv', h1, h2, h3⟩, hb⟩ := h
  exact ⟨⟨pv', pv, h2, h1, fun j hj hF => h3 j hF hj⟩, hb⟩
theorem Tw.later {B g bn bd g' bn' bd' : Nat} {s t : S} {w w1 w2 : World} (h : Tw B g bn bd g' bn' bd' s t w w1) (b : Below w1.heap.size w1 w2) (hB : B ≤ w.heap.size) : Tw B g bn bd g' bn' bd' s t w w2 := by
  obtain ⟨⟨pv, pv', h1, h2, h3⟩, hb⟩ := h
  exact ⟨⟨pv, pv', sr_later h1 b, sr_later h2 b, h3⟩, hb.trans (b.mono (Nat.le_trans hB hb.size))⟩
theorem dj_new {g bn bd g' bn' bd' : Nat} {pv pv' pv2 : Value} {w1 : World} (dj : ∀ j, Fr g bn bd pv j → ¬ Fr g' bn' bd' pv' j) (ht : ∀ j, Fr g' bn' bd' pv' j → j < w1.heap.size) (n : ∀ k, some k = pv2.ownBlock → some k = pv.ownBlock ∨ w1.heap.size ≤ k) : ∀ j, Fr g bn bd pv2 j → ¬ Fr g' bn' bd' pv' j := by
  rintro j (h | h | h | h) hF
  · exact dj j (.inl h) hF
  · exact dj j (.inr (.inl h)) hF
  · exact dj j (.inr (.inr (.inl h))) hF
  · rcases n j h with h | h
    · exact dj j (.inr (.inr (.inr h))) hF
    · have := ht j hF; omega
theorem Tw.left {B g bn bd g' bn' bd' : Nat} {pv pv' : Value} {s t s2 : S} {w w1 w2 : World} (hs : Sr B g bn bd pv s w1) (ht : Sr B g' bn' bd' pv' t w1) (dj : ∀ j, Fr g bn bd pv j → ¬ Fr g' bn' bd' pv' j) (hb : Below B w w1) (hB : B ≤ w.heap.size) (r : Rn B g bn bd pv s2 w1 w2) : Tw B g bn bd g' bn' bd' s2 t w w2 := by
  have bb := Rn.below hs r (Nat.le_trans hB hb.size)
  obtain ⟨pv2, h2, k, n⟩ := r
  exact ⟨⟨pv2, pv', h2, sr_keep ht k (fun j hj hF => dj j hF hj), dj_new dj (fun j hj => (sr_in ht j hj).1) n⟩, hb.trans bb⟩
abbrev gotV (s : S) (o : Opn) (na : Option Addr) (nl nc : Nat) : Array Value := #[.string (aT s o.kind o.key), .slice na nl nc, .int .i64 (doS s o.kind o.key o.data o.n).1, .int .i64 (aA s o.kind), .int .i64 (aB s o.kind), .int .i64 (aC s o.kind), .bool (aD s o.kind), .int .i64 (aG s o.kind)]
-- the first call: on the left store, the block ob just made
def Fst (B g bn bd : Nat) (pv : Value) (s : S) (o : Opn) (ob : Obj) (na : Option Addr) (nl nc : Nat) (w w5 : World) : Prop :=
  w5.ownsRow (w.heap.size + 1) 9 1 (.slice na nl nc) (aN s o.kind o.key).length ((aN s o.kind o.key).map Value.string) ∧ Rn B g bn bd pv (doO s o) (w.alloc ob) w5 ∧ w5.heap[w.heap.size]? = some ob
-- the second: on the right one, the left one's answer kept in a block
def Snd (B g bn bd g' bn' bd' : Nat) (s t : S) (o : Opn) (ga : Obj) (na nb : Option Addr) (nl nc ml mc p : Nat) (w0 w7 : World) : Prop :=
  w7.heap[p]? = some ga ∧ p < w7.heap.size ∧ ∀ W, Kp (fun q => q = p) w7 W → Tw B g bn bd g' bn' bd' (doO s o) (doO t o) w0 W ∧ ReadsT W (.slice na nl nc) (aN s o.kind o.key) ∧ ReadsT W (.slice nb ml mc) (aN t o.kind o.key)
end Go.Proofs.YtmindflfjocjlaaGreat.zh

namespace Go.Proofs.YtmindflfjocjlaaGreat.xc
open Go.RowKit Go.PlainAid Go.Maps Go.Shelf
open Go.Proofs.YtmindflfjocjlaaGreat.ca Go.Proofs.YtmindflfjocjlaaGreat.cb Go.Proofs.YtmindflfjocjlaaGreat.cp Go.Proofs.YtmindflfjocjlaaGreat.kp Go.Proofs.YtmindflfjocjlaaGreat.ka Go.Proofs.YtmindflfjocjlaaGreat.ya Go.Proofs.YtmindflfjocjlaaGreat.yb Go.Proofs.YtmindflfjocjlaaGreat.yc Go.Proofs.YtmindflfjocjlaaGreat.ye Go.Proofs.YtmindflfjocjlaaGreat.yf Go.Proofs.YtmindflfjocjlaaGreat.yi Go.Proofs.YtmindflfjocjlaaGreat.yk Go.Proofs.YtmindflfjocjlaaGreat.yl Go.Proofs.YtmindflfjocjlaaGreat.zf Go.Proofs.YtmindflfjocjlaaGreat.zg Go.Proofs.YtmindflfjocjlaaGreat.xa Go.Proofs.YtmindflfjocjlaaGreat.xb
set_option linter.unusedVariables false
set_option linter.unusedSimpArgs false
-- the document's store in memory, its state the program's own S
def ww (x : W) : List Value := [.string x.key, .string x.data, .bool x.cut]
def wws (l : List W) : List Value := l.flatMap ww
def dcells (dv wv vv : Value) (s : S) : List Value := [.int .i64 s.cap, dv, wv, .bool s.off, .int .i64 s.armed, .int .i64 s.age, vv]
def Dt (g : Nat) (dv wv vv : Value) (s : S) (w : World) : Prop := w.heap[g]? = some (.cells (dcells dv wv vv s).toArray 48 (0, 0))
structure Ds (B g : Nat) (dv wv vv : Value) (s : S) (w : World) : Prop where
  row : Dt g dv wv vv s w
  dl : Lr B dv s.dur w
  vl : Lr B vv (now s) w
  wl : w.ownsRow B 81 3 wv s.pend.length (wws s.pend)
  low : B ≤ g
  ok : OkS s
theorem Dt.lt {g : Nat} {dv wv vv : Value} {s : S} {w : World} (h : Dt g dv wv vv s w) : g < w.heap.size := (Array.getElem?_eq_some_iff.1 h).1
theorem Dt.c0 {g : Nat} {dv wv vv : Value} {s : S} {w : World} (h : Dt g dv wv vv s w) : w.cell? ⟨g, 0, none⟩ = some (.int .i64 s.cap) := cell_of_row _ _ 0 _ _ _ h
theorem Dt.c1 {g : Nat} {dv wv vv : Value} {s : S} {w : World} (h : Dt g dv wv vv s w) : w.cell? ⟨g, 1, none⟩ = some dv := cell_of_row _ _ 1 _ _ _ h
theorem Dt.c2 {g : Nat} {dv wv vv : Value} {s : S} {w : World} (h : Dt g dv wv vv s w) : w.cell? ⟨g, 2, none⟩ = some wv := cell_of_row _ _ 2 _ _ _ h
theorem Dt.c3 {g : Nat} {dv wv vv : Value} {s : S} {w : World} (h : Dt g dv wv vv s w) : w.cell? ⟨g, 3, none⟩ = some (.bool s.off) := cell_of_row _ _ 3 _ _ _ h
theorem Dt.c4 {g : Nat} {dv wv vv : Value} {s : S} {w : World} (h : Dt g dv wv vv s w) : w.cell? ⟨g, 4, none⟩ = some (.int .i64 s.armed) := cell_of_row _ _ 4 _ _ _ h
theorem Dt.c5 {g : Nat} {dv wv vv : Value} {s : S} {w : World} (h : Dt g dv wv vv s w) : w.cell? ⟨g, 5, none⟩ = some (.int .i64 s.age) := cell_of_row _ _ 5 _ _ _ h
theorem Dt.c6 {g : Nat} {dv wv vv : Value} {s : S} {w : World} (h : Dt g dv wv vv s w) : w.cell? ⟨g, 6, none⟩ = some vv := cell_of_row _ _ 6 _ _ _ h
theorem Dt.fz {g : Nat} {dv wv vv : Value} {s : S} {w : World} (h : Dt g dv wv vv s w) (i : Nat) : w.frozen? ⟨g, i, none⟩ = false := frozen_of_row _ _ i _ _ h
theorem Dt.set1 {g : Nat} {dv wv vv : Value} {s : S} {w : World} (h : Dt g dv wv vv s w) (v : Value) : Dt g v wv vv s (w.setCell ⟨g, 1, none⟩ v) := heap_setCell_same _ _ 1 _ _ _ h
theorem Dt.set2 {g : Nat} {dv wv vv : Value} {s : S} {w : World} (h : Dt g dv wv vv s w) (v : Value) : Dt g dv v vv s (w.setCell ⟨g, 2, none⟩ v) := heap_setCell_same _ _ 2 _ _ _ h
theorem Dt.set3 {g : Nat} {dv wv vv : Value} {s : S} {w : World} (h : Dt g dv wv vv s w) (v : Bool) : Dt g dv wv vv { s with off := v } (w.setCell ⟨g, 3, none⟩ (.bool v)) := heap_setCell_same _ _ 3 _ _ _ h
theorem Dt.set4 {g : Nat} {dv wv vv : Value} {s : S} {w : World} (h : Dt g dv wv vv s w) (v : Nat) : Dt g dv wv vv { s with armed := v } (w.setCell ⟨g, 4, none⟩ (.int .i64 v)) := heap_setCell_same _ _ 4 _ _ _ h
theorem Dt.set5 {g : Nat} {dv wv vv : Value} {s : S} {w : World} (h : Dt g dv wv vv s w) (v : Nat) : Dt g dv wv vv { s with age := v } (w.setCell ⟨g, 5, none⟩ (.int .i64 v)) := heap_setCell_same _ _ 5 _ _ _ h
theorem Dt.set6 {g : Nat} {dv wv vv : Value} {s : S} {w : World} (h : Dt g dv wv vv s w) (v : Value) : Dt g dv wv v s (w.setCell ⟨g, 6, none⟩ v) := heap_setCell_same _ _ 6 _ _ _ h
theorem dr1 : (79 : Nat) ≠ 48 := by decide
theorem dr2 : (81 : Nat) ≠ 48 := by decide
-- what a call writes to in place: the store's own block, and the row of writes
def Fd (g : Nat) (wv : Value) (k : Nat) : Prop := k = g ∨ some k = wv.ownBlock
def Rd (B g : Nat) (wv : Value) (s : S) (w w' : World) : Prop := ∃ dv' wv' vv', Ds B g dv' wv' vv' s w' ∧ Kp (Fd g wv) w w' ∧ ∀ k, some k = wv'.ownBlock → some k = wv.ownBlock ∨ w.heap.size ≤ k
theorem Ds.keep {A : Nat → Prop} {B g : Nat} {dv wv vv : Value} {s : S} {w w' : World} (h : Ds B g dv wv vv s w) (k : Kp A w w') (h1 : ¬ A g) (h2 : ∀ j, some j = wv.ownBlock → ¬ A j) (h3 : ∀ j, some j = dv.ownBlock → ¬ A j) (h4 : ∀ j, some j = vv.ownBlock → ¬ A j) : Ds B g dv wv vv s w' :=
  ⟨(k.block _ h.row.lt h1).trans h.row, own_kp h.dl k h3, own_kp h.vl k h4, own_kp h.wl k h2, h.low, h.ok⟩
theorem Ds.later {B g : Nat} {dv wv vv : Value} {s : S} {w w' : World} (h : Ds B g dv wv vv s w) (b : Below w.heap.size w w') : Ds B g dv wv vv s w' := h.keep (Kp.of_below (A := fun _ => False) b) (fun e => e) (fun _ _ e => e) (fun _ _ e => e) (fun _ _ e => e)
theorem Rd.refl {B g : Nat} {dv wv vv : Value} {s : S} {w w' : World} (h : Ds B g dv wv vv s w) (b : Below w.heap.size w w') : Rd B g wv s w w' := ⟨dv, wv, vv, h.later b, Kp.of_below b, fun k hk => .inl hk⟩
-- the store's own block turned: the rows stay
theorem ds_row {B g : Nat} {dv wv vv : Value} {s s' : S} {w w' : World} (h : Ds B g dv wv vv s w) (hr : Dt g dv wv vv s' w') (k : Kp (fun q => q = g) w w') (e1 : s'.dur = s.dur) (e2 : s'.pend = s.pend) (ok : OkS s') : Ds B g dv wv vv s' w' := by
  have en : now s' = now s := by unfold now; rw [e1, e2]
  refine ⟨hr, ?_, ?_, ?_, h.low, ok⟩
  · rw [e1]; exact own_kp h.dl k (fun j hj e => own_tag h.dl h.row dr1 (by rw [← e]; exact hj))
  · rw [en]; exact own_kp h.vl k (fun j hj e => own_tag h.vl h.row dr1 (by rw [← e]; exact hj))
  · rw [e2]; exact own_kp h.wl k (fun j hj e => own_tag h.wl h.row dr2 (by rw [← e]; exact hj))
theorem rd_row {B g : Nat} {dv wv vv : Value} {s s' : S} {w w' : World} (h : Ds B g dv wv vv s w) (hr : Dt g dv wv vv s' w') (k : Kp (fun q => q = g) w w') (e1 : s'.dur = s.dur) (e2 : s'.pend = s.pend) (ok : OkS s') : Rd B g wv s' w w' :=
  ⟨dv, wv, vv, ds_row h hr k e1 e2 ok, k.mono (fun _ e => .inl e), fun k hk => .inl hk⟩
theorem downD {B g : Nat} {dv wv vv : Value} {s : S} {w : World} (h : Ds B g dv wv vv s w) : Calls Tryz.prog 57 #[.pointer (some ⟨g, 0, none⟩)] w fun e w' => e = .returned (.bool s.off) ∧ w' = w := by
  have c0 := h.row.c3
  clear h
  go_enter Tryz.func57, Tryz.ntmps57
  go_wp2
  go_ret
  exact ⟨rfl, rfl⟩
theorem goesD (k : ByteArray) (w : World) : Calls Tryz.prog 66 #[.string k] w fun e w' => e = .returned (.bool (decide (1 ≤ k.size ∧ k.size ≤ 64))) ∧ w' = w := by
  by_cases h1 : 1 ≤ k.size
  · have d1 : decide (1 ≤ (k.size : Int)) = true := decide_eq_true (by omega)
    have d1' : decide (1 ≤ k.size) = true := decide_eq_true h1
    by_cases h2 : k.size ≤ 64
    · have d2 : decide ((k.size : Int) ≤ 64) = true := decide_eq_true (by omega)
      have d2' : decide (k.size ≤ 64) = true := decide_eq_true h2
      rw [decide_eq_true (show 1 ≤ k.size ∧ k.size ≤ 64 from ⟨h1, h2⟩)]
      go_enter Tryz.func66, Tryz.ntmps66
      go_wp2
      go_ret
      exact ⟨rfl, rfl⟩
    · have d2 : decide ((k.size : Int) ≤ 64) = false := decide_eq_false (by omega)
      have d2' : decide (k.size ≤ 64) = false := decide_eq_false h2
      rw [decide_eq_false (fun h : 1 ≤ k.size ∧ k.size ≤ 64 => h2 h.2)]
      go_enter Tryz.func66, Tryz.ntmps66
      go_wp2
      go_ret
      exact ⟨rfl, rfl⟩
  · have d1 : decide (1 ≤ (k.size : Int)) = false := decide_eq_false (by omega)
    have d1' : decide (1 ≤ k.size) = false := decide_eq_false h1
    rw [decide_eq_false (fun h : 1 ≤ k.size ∧ k.size ≤ 64 => h1 h.1)]
    go_enter Tryz.func66, Tryz.ntmps66
    go_wp2
    go_ret
    exact ⟨rfl, rfl⟩
-- New
theorem newD (c : Int) (w : World) (hc : 0 ≤ c ∧ c ≤ 1073741824) : Calls Tryz.prog 5 #[.int .i64 c] w fun e w' => ∃ g, e = .returned (.pointer (some ⟨g, 0, none⟩)) ∧ Ds w.heap.size g (.slice none 0 0) (.slice none 0 0) (.slice none 0 0) ⟨c, [], [], 0, false, 0⟩ w' ∧ Below w.heap.size w w' := by
  have q1 : decide (c < 0) = false := decide_eq_false (by omega)
  have q2 : decide (1073741824 < c) = false := decide_eq_false (by omega)
  have HC : Hid _ := hc
  clear hc
  go_enter Tryz.func5, Tryz.ntmps5
  go_wp2
  go_ret
  refine ⟨_, rfl, ⟨(MapKept.heap_alloc w _).1, World.ownsRow_nil _ _ _ _, World.ownsRow_nil _ _ _ _, World.ownsRow_nil _ _ _ _, Nat.le_refl _, ?_⟩, (Below.refl _ w).alloc (Nat.le_refl _) _⟩
  exact ⟨(by intro p hp; cases hp), List.Pairwise.nil, (by intro x hx; cases hx), HC.out.1, HC.out.2, by simp, by simp, by simp⟩
theorem newDNo (c : Int) (w : World) (hc : ¬ (0 ≤ c ∧ c ≤ 1073741824)) : Calls Tryz.prog 5 #[.int .i64 c] w fun e w' => e = .returned (.pointer none) ∧ w' = w := by
  rcases (show c < 0 ∨ (¬ c < 0 ∧ 1073741824 < c) by omega) with h | ⟨h, h2⟩
  · have q1 : decide (c < 0) = true := decide_eq_true h
    clear hc h
    go_enter Tryz.func5, Tryz.ntmps5
    go_wp2
    go_ret
    exact ⟨rfl, rfl⟩
  · have q1 : decide (c < 0) = false := decide_eq_false h
    have q2 : decide (1073741824 < c) = true := decide_eq_true h2
    clear hc h h2
    go_enter Tryz.func5, Tryz.ntmps5
    go_wp2
    go_ret
    exact ⟨rfl, rfl⟩
-- Get
theorem getD {B g : Nat} {dv wv vv : Value} {s : S} {w : World} (k : ByteArray) (h : Ds B g dv wv vv s w) : Calls Tryz.prog 51 #[.pointer (some ⟨g, 0, none⟩), .string k] w fun e w' => e = .returned (.tuple #[.string (getS s k).1, .int .i64 (getS s k).2]) ∧ w' = w := by
  have c3 := h.row.c3
  have c6 := h.row.c6
  have CG : Hid (∀ w, Calls _ _ _ _ _) := fun w => goesD k w
  have CF : Hid (Calls _ _ _ _ _) := findC vv (now s) k w h.vl h.ok.snow (by have := h.ok.lnow; omega)
  obtain ⟨a, c, rfl⟩ := lr_form h.vl
  have HVL : Hid _ := h.vl
  unfold getS refS
  cases ho : s.off with
  | true =>
    rw [ho] at c3
    simp only [if_true]
    rw [if_pos (by simp)]
    clear h CG CF HVL
    go_enter Tryz.func51, Tryz.ntmps51
    go_wp2
    go_ret2
    exact ⟨rfl, rfl⟩
  | false =>
    rw [ho] at c3
    simp only [Bool.false_eq_true, if_false]
    by_cases hk : 1 ≤ k.size ∧ k.size ≤ 64
    · rw [if_pos hk, if_neg (by simp)]
      rw [decide_eq_true hk] at CG
      clear hk
      have HG : ∀ i, Fnd k (now s) i → (i = -1 ∧ rget k (now s) = none) ∨ ∃ (n : Nat) (d : ByteArray) (g2 : Nat), i = n ∧ n < (now s).length ∧ rget k (now s) = some d ∧ a = some ⟨g2, 0, none⟩ ∧ w.cell? ⟨g2, n * 2 + 1, none⟩ = some (.string d) := fun i hi => by
        rcases hi with ⟨h1, h2⟩ | ⟨n, d, h1, h2, h3⟩
        · exact .inl ⟨h2, h1⟩
        · obtain ⟨g2, e1, _, _, e2⟩ := lr_at HVL.out n (k, d) h2
          exact .inr ⟨n, d, g2, h1, (List.getElem?_eq_some_iff.1 h2).1, h3, e1, e2⟩
      have HHG : Hid _ := HG
      clear HG h HVL ho
      generalize (now s).length = L at *
      generalize rget k (now s) = o at *
      go_enter Tryz.func51, Tryz.ntmps51
      go_wp2_with fail
      refine (CG.out _).mono ?_
      rintro _ _ ⟨rfl, hw⟩; rw [hw]; clear hw
      go_wp2_with fail
      refine CF.out.mono ?_
      rintro _ _ ⟨⟨i, rfl, hi⟩, hw⟩; rw [hw]; clear hw CF
      rcases HHG.out i hi with ⟨rfl, rfl⟩ | ⟨n, d, g2, rfl, hn, rfl, rfl, c7⟩
      · clear hi HHG
        go_wp2
        go_ret2
        exact ⟨rfl, rfl⟩
      · have hn' : (n : Int) < L := by omega
        have hn0 : ¬ (n : Int) < 0 := by omega
        clear hi HHG
        go_wp2
        go_ret2
        exact ⟨rfl, rfl⟩
    · rw [if_neg hk, if_pos (by simp)]
      rw [decide_eq_false hk] at CG
      clear hk h CF HVL
      go_enter Tryz.func51, Tryz.ntmps51
      go_wp2_with fail
      refine (CG.out _).mono ?_
      rintro _ _ ⟨rfl, hw⟩; rw [hw]; clear hw
      go_wp2
      go_ret2
      exact ⟨rfl, rfl⟩
end Go.Proofs.YtmindflfjocjlaaGreat.xc

namespace Go.Proofs.YtmindflfjocjlaaGreat.xd
open Go.RowKit Go.PlainAid Go.Maps Go.Shelf
open Go.Proofs.YtmindflfjocjlaaGreat.ca Go.Proofs.YtmindflfjocjlaaGreat.cb Go.Proofs.YtmindflfjocjlaaGreat.cp Go.Proofs.YtmindflfjocjlaaGreat.kp Go.Proofs.YtmindflfjocjlaaGreat.ka Go.Proofs.YtmindflfjocjlaaGreat.ya Go.Proofs.YtmindflfjocjlaaGreat.yb Go.Proofs.YtmindflfjocjlaaGreat.yc Go.Proofs.YtmindflfjocjlaaGreat.ye Go.Proofs.YtmindflfjocjlaaGreat.yf Go.Proofs.YtmindflfjocjlaaGreat.yi Go.Proofs.YtmindflfjocjlaaGreat.yk Go.Proofs.YtmindflfjocjlaaGreat.yl Go.Proofs.YtmindflfjocjlaaGreat.zf Go.Proofs.YtmindflfjocjlaaGreat.zg Go.Proofs.YtmindflfjocjlaaGreat.xa Go.Proofs.YtmindflfjocjlaaGreat.xb Go.Proofs.YtmindflfjocjlaaGreat.xc
set_option linter.unusedVariables false
set_option linter.unusedSimpArgs false
theorem diesD {g : Nat} {dv wv vv : Value} {s : S} {w : World} (h : Dt g dv wv vv s w) (ha : s.armed ≤ 9223372036854775807) (ho : s.off = false) : Calls Tryz.prog 70 #[.pointer (some ⟨g, 0, none⟩)] w fun e w' => e = .returned (.bool (decide ((spendS s).1 ≠ 0))) ∧ Dt g dv wv vv (spendS s).2 w' ∧ Kp (fun k => k = g) w w' := by
  have c := h.c4
  have f4 := h.fz 4
  have f3 := h.fz 3
  unfold spendS
  by_cases h0 : s.armed = 0
  · rw [if_pos h0]
    have H : Hid (Dt g dv wv vv s w) := h
    have h0' : ((s.armed : Int) == 0) = true := by rw [h0]; rfl
    clear h h0
    go_enter Tryz.func70, Tryz.ntmps70
    go_wp2
    go_ret
    exact ⟨rfl, H.out, Kp.refl _ _⟩
  · rw [if_neg h0]
    have h0' : ((s.armed : Int) == 0) = false := by rw [beq_eq_false_iff_ne]; omega
    obtain ⟨q, hq⟩ : ∃ q : Nat, s.armed - 1 = q := ⟨_, rfl⟩
    have HS : Hid (Dt g dv wv vv { s with armed := q } (w.setCell ⟨g, 4, none⟩ (.int .i64 (q : Int)))) := h.set4 q
    have hw1 : IntKind.i64.wrap ((s.armed : Int) - 1) = (q : Int) := by
      rw [show (s.armed : Int) - 1 = (q : Int) by omega]
      exact wrap_is _ (by omega)
    have hw2 : (s.armed : Int) - 1 = (q : Int) := by omega
    have K1 : Hid (Kp (fun k => k = g) w (w.setCell ⟨g, 4, none⟩ (.int .i64 (q : Int)))) := Kp.setCell _ _ _ _ rfl
    rw [hq]
    by_cases h1 : s.armed = 1
    · rw [if_pos h1]
      have hd : q = 0 := by omega
      subst hd
      have f3' := HS.out.fz 3
      have c4' : (w.setCell ⟨g, 4, none⟩ (.int .i64 (0 : Int))).cell? ⟨g, 4, none⟩ = some (.int .i64 0) := HS.out.c4
      have H2 : Hid (Dt g dv wv vv { s with armed := 0, off := true } ((w.setCell ⟨g, 4, none⟩ (.int .i64 (0 : Int))).setCell ⟨g, 3, none⟩ (.bool true))) := HS.out.set3 true
      have c3 : (w.setCell ⟨g, 4, none⟩ (.int .i64 (0 : Int))).cell? ⟨g, 3, none⟩ = some (.bool s.off) := HS.out.c3
      have c3' : ((w.setCell ⟨g, 4, none⟩ (.int .i64 (0 : Int))).setCell ⟨g, 3, none⟩ (.bool true)).cell? ⟨g, 3, none⟩ = some (.bool true) := H2.out.c3
      clear h h0 h1 hq
      go_enter Tryz.func70, Tryz.ntmps70
      go_wp2
      go_ret
      exact ⟨rfl, H2.out, K1.out.trans (Kp.setCell _ _ _ _ rfl)⟩
    · rw [if_neg h1]
      have hq0 : ((q : Int) == 0) = false := by rw [beq_eq_false_iff_ne]; omega
      have f3' := HS.out.fz 3
      have c4' : (w.setCell ⟨g, 4, none⟩ (.int .i64 (q : Int))).cell? ⟨g, 4, none⟩ = some (.int .i64 q) := HS.out.c4
      have H2 : Hid (Dt g dv wv vv { s with armed := q } ((w.setCell ⟨g, 4, none⟩ (.int .i64 (q : Int))).setCell ⟨g, 3, none⟩ (.bool false))) := by
        have := HS.out.set3 false
        rw [← ho] at this ⊢
        exact this
      have c3 : (w.setCell ⟨g, 4, none⟩ (.int .i64 (q : Int))).cell? ⟨g, 3, none⟩ = some (.bool s.off) := HS.out.c3
      have c3' : ((w.setCell ⟨g, 4, none⟩ (.int .i64 (q : Int))).setCell ⟨g, 3, none⟩ (.bool false)).cell? ⟨g, 3, none⟩ = some (.bool false) := by rw [H2.out.c3]; show some (Value.bool s.off) = _; rw [ho]
      clear h h0 h1 hq
      go_enter Tryz.func70, Tryz.ntmps70
      go_wp2
      go_ret
      exact ⟨rfl, H2.out, K1.out.trans (Kp.setCell _ _ _ _ rfl)⟩
theorem armD {B g : Nat} {dv wv vv : Value} {s : S} {w : World} (n : Int) (h : Ds B g dv wv vv s w) (hn : n ≤ 9223372036854775807) : Calls Tryz.prog 33 #[.pointer (some ⟨g, 0, none⟩), .int .i64 n] w fun e w' => e = .returned (.tuple #[]) ∧ Rd B g wv (armS s n) w w' := by
  have c3 := h.row.c3
  have f4 := h.row.fz 4
  have c4 := h.row.c4
  have H : Hid (Ds B g dv wv vv s w) := h
  unfold armS
  clear h
  cases ho : s.off with
  | true =>
    rw [ho] at c3
    simp only [if_true]
    go_enter Tryz.func33, Tryz.ntmps33
    go_wp2
    (try simp only [Exit.inBlock, Exit.then]); refine bodyPost_ret (results_none rfl _ _ _) rfl ?_
    exact ⟨rfl, Rd.refl H.out (Below.refl _ _)⟩
  | false =>
    rw [ho] at c3
    simp only [Bool.false_eq_true, if_false]
    obtain ⟨m, hm⟩ : ∃ m : Nat, n.toNat = m := ⟨_, rfl⟩
    rw [hm]
    have H0 : Hid (Dt g dv wv vv { s with armed := 0 } (w.setCell ⟨g, 4, none⟩ (.int .i64 (0 : Int)))) := H.out.row.set4 0
    have f4' := H0.out.fz 4
    have c4' : (w.setCell ⟨g, 4, none⟩ (.int .i64 (0 : Int))).cell? ⟨g, 4, none⟩ = some (.int .i64 0) := H0.out.c4
    have OK : Hid (∀ m : Nat, m ≤ 9223372036854775807 → OkS { s with armed := m }) := fun m hm => ⟨H.out.ok.dur, H.out.ok.srt, H.out.ok.pend, H.out.ok.cap0, H.out.ok.cap1, hm, H.out.ok.age, H.out.ok.len⟩
    have FN : Hid (∀ (m : Nat) W, m ≤ 9223372036854775807 → Dt g dv wv vv { s with armed := m } W → Kp (fun k => k = g) w W → Rd B g wv { s with armed := m } w W) := fun m W hm hr k => rd_row H.out hr k rfl rfl (OK.out m hm)
    rw [ho] at H0 FN
    by_cases hn0 : 0 < n
    · have hm0 : n = m := by omega
      subst hm0
      have H1 : Hid (Dt g dv wv vv { s with off := false, armed := m } ((w.setCell ⟨g, 4, none⟩ (.int .i64 (0 : Int))).setCell ⟨g, 4, none⟩ (.int .i64 (m : Int)))) := H0.out.set4 m
      clear hm
      go_enter Tryz.func33, Tryz.ntmps33
      go_wp2
      go_end0
      refine ⟨rfl, FN.out m _ (by omega) ?_ ?_⟩
      · first | exact H1.out | (have := H1.out; simpa using this)
      · first | exact Kp.trans (A := fun k => k = g) (Kp.setCell w g 4 (.int .i64 0) rfl) (Kp.setCell _ _ _ _ rfl) | exact Kp.setCell _ _ _ _ rfl
    · have hm0 : m = 0 := by omega
      subst hm0
      have hn1 : ¬ (0 : Int) < n := hn0
      go_enter Tryz.func33, Tryz.ntmps33
      go_wp2
      go_end0
      exact ⟨rfl, FN.out 0 _ (by omega) H0.out (Kp.setCell _ _ _ _ rfl)⟩
-- Sync
theorem ok_spendD {s : S} (h : OkS s) : OkS (spendS s).2 := ok_spend h
theorem syncD {B g : Nat} {dv wv vv : Value} {s : S} {w : World} (h : Ds B g dv wv vv s w) : Calls Tryz.prog 31 #[.pointer (some ⟨g, 0, none⟩)] w fun e w' => e = .returned (.int .i64 (syncS s).1) ∧ Rd B g wv (syncS s).2 w w' := by
  have c3 := h.row.c3
  have H : Hid (Ds B g dv wv vv s w) := h
  unfold syncS
  cases ho : s.off with
  | true =>
    rw [ho] at c3
    simp only [if_true]
    clear h
    go_enter Tryz.func31, Tryz.ntmps31
    go_wp2
    go_ret
    exact ⟨rfl, Rd.refl H.out (Below.refl _ _)⟩
  | false =>
    rw [ho] at c3
    simp only [Bool.false_eq_true, if_false]
    have CD : Hid (Calls _ _ _ _ _) := diesD h.row h.ok.arm ho
    obtain ⟨p, hp⟩ : ∃ p, (spendS s).1 = p := ⟨_, rfl⟩
    rw [hp] at CD ⊢
    have hP2 : (spendS s).2.dur = s.dur := dur_spend s
    have hP3 : (spendS s).2.pend = s.pend := pend_spend s
    have FN : Hid (∀ W, Dt g dv wv vv (spendS s).2 W → Kp (fun k => k = g) w W → Ds B g dv wv vv (spendS s).2 W) := fun W hr k => ds_row H.out hr k hP2 hP3 (ok_spend H.out.ok)
    by_cases hz : p ≠ 0
    · rw [if_pos hz]
      have e : spendS s = (p, (spendS s).2) := by rw [← hp]
      rw [e]
      have hp124 : p = 124 := by
        have := zb.spend_e s
        rw [hp] at this
        rcases this with h | h
        · exact absurd h hz
        · exact h
      rw [decide_eq_true hz] at CD
      subst hp124
      clear h
      go_enter Tryz.func31, Tryz.ntmps31
      go_wp2_with fail
      refine CD.out.mono ?_
      rintro _ w1 ⟨rfl, r1, k1⟩
      have D1 : Hid (Rd B g wv (spendS s).2 w w1) := rd_row H.out r1 k1 hP2 hP3 (ok_spend H.out.ok)
      clear r1 k1
      go_wp2
      go_ret
      exact ⟨rfl, D1.out⟩
    · rw [if_neg hz]
      rw [decide_eq_false hz] at CD
      have FIN : Hid (∀ w1, Dt g dv wv vv (spendS s).2 w1 → Kp (fun k => k = g) w w1 → Rd B g wv { (spendS s).2 with dur := now s, pend := [] } w ((w1.setCell ⟨g, 1, none⟩ vv).setCell ⟨g, 2, none⟩ (.slice none 0 0))) := fun w1 r1 k1 => by
        have d1 := FN.out w1 r1 k1
        have r2 := (r1.set1 vv).set2 (.slice none 0 0)
        have k2 : Kp (fun k => k = g) w1 ((w1.setCell ⟨g, 1, none⟩ vv).setCell ⟨g, 2, none⟩ (.slice none 0 0)) := Kp.trans (A := fun k => k = g) (Kp.setCell w1 g 1 vv rfl) (Kp.setCell _ _ _ _ rfl)
        have hv : Lr B vv (now s) ((w1.setCell ⟨g, 1, none⟩ vv).setCell ⟨g, 2, none⟩ (.slice none 0 0)) := by
          have h1 := d1.vl
          rw [now_spend] at h1
          exact own_kp h1 k2 (fun j hj e => own_tag h1 r1 dr1 (by rw [← e]; exact hj))
        have oks := ok_spend H.out.ok
        refine ⟨vv, .slice none 0 0, vv, ⟨r2, hv, hv, World.ownsRow_nil _ _ _ _, H.out.low, ?_⟩, (k1.trans k2).mono (fun _ e => .inl e), fun k hk => by cases hk⟩
        exact ⟨H.out.ok.now, H.out.ok.snow, (by intro x hx; cases hx), oks.cap0, oks.cap1, oks.arm, oks.age, by have := H.out.ok.lnow; show (now s).length + 0 < _; omega⟩
      obtain ⟨va, vc, hvv⟩ := lr_form h.vl
      have HVV : Hid _ := hvv
      generalize (now s).length = L at *
      clear h hz hp hP2 hP3
      subst hvv
      go_enter Tryz.func31, Tryz.ntmps31
      go_wp2_with fail
      refine CD.out.mono ?_
      rintro _ w1 ⟨rfl, r1, k1⟩
      have F1 : Hid _ := FIN.out w1 r1 k1
      have c6 := r1.c6
      have c1 := r1.c1
      have f1 := r1.fz 1
      have f2 := (r1.set1 (.slice va L vc)).fz 2
      have c2 := (r1.set1 (.slice va L vc)).c2
      have f2' := r1.fz 2
      have c2' := r1.c2
      clear r1 k1 FIN
      go_wp2
      go_ret
      exact ⟨rfl, F1.out⟩
end Go.Proofs.YtmindflfjocjlaaGreat.xd
