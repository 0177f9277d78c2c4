import Derived.Test.YtmindflfjocjlaaGreatQ02
import Derived.Test.YtmindflfjocjlaaGreatQ01
import Derived.Deep.AppendLies
import Derived.Deep.RegionLaw
namespace Go.Proofs.YtmindflfjocjlaaGreat.ye
open Go.RowKit Go.PlainAid Go.Maps
open Go.Proofs.YtmindflfjocjlaaGreat.ca Go.Proofs.YtmindflfjocjlaaGreat.cb Go.Proofs.YtmindflfjocjlaaGreat.cp Go.Proofs.YtmindflfjocjlaaGreat.kp Go.Proofs.YtmindflfjocjlaaGreat.ka Go.Proofs.YtmindflfjocjlaaGreat.ya Go.Proofs.YtmindflfjocjlaaGreat.yb Go.Proofs.YtmindflfjocjlaaGreat.yc Go.Proofs.YtmindflfjocjlaaGreat.yd Go.Proofs.YtmindflfjocjlaaGreat.sb
set_option linter.unusedVariables false
set_option linter.unusedSimpArgs false
structure W where
  cut : Bool
  key : ByteArray
  data : ByteArray
def doW (r : List Rec) (x : W) : List Rec := if x.cut then del x.key r else put x.key x.data r
structure S where
  cap : Int
  dur : List Rec
  pend : List W
  armed : Nat
  off : Bool
  age : Nat
def now (s : S) : List Rec := s.pend.foldl doW s.dur
def OkW (x : W) : Prop := 1 ≤ x.key.size ∧ x.key.size ≤ 64 ∧ x.data.size ≤ 1048576
structure OkS (s : S) : Prop where
  dur : OkR s.dur
  srt : Srt s.dur
  pend : ∀ x ∈ s.pend, OkW x
  cap0 : 0 ≤ s.cap
  cap1 : s.cap ≤ 1073741824
  arm : s.armed ≤ 9223372036854775807
  age : s.age ≤ 4398046511104
  len : s.dur.length + s.pend.length < 3518437208883
theorem ok_doW {r : List Rec} {x : W} (h : OkR r) (hx : OkW x) : OkR (doW r x) := by
  unfold doW
  split
  · exact h.del
  · exact h.put hx.1 hx.2.1 hx.2.2
theorem srt_doW {r : List Rec} {x : W} (h : Srt r) : Srt (doW r x) := by
  unfold doW
  split
  · exact srt_del h
  · exact srt_put h
theorem len_doW (r : List Rec) (x : W) : (doW r x).length ≤ r.length + 1 := by
  unfold doW
  split
  · have := len_del x.key r; omega
  · exact len_put _ _ _
theorem ok_do {r : List Rec} {l : List W} (h : OkR r) (hl : ∀ x ∈ l, OkW x) : OkR (l.foldl doW r) := by
  induction l generalizing r with
  | nil => exact h
  | cons x l ih => exact ih (ok_doW h (hl x (by simp))) (fun y hy => hl y (by simp [hy]))
theorem srt_do {r : List Rec} {l : List W} (h : Srt r) : Srt (l.foldl doW r) := by
  induction l generalizing r with
  | nil => exact h
  | cons x l ih => exact ih (srt_doW h)
theorem len_do (r : List Rec) (l : List W) : (l.foldl doW r).length ≤ r.length + l.length := by
  induction l generalizing r with
  | nil => simp
  | cons x l ih => have := ih (doW r x); have := len_doW r x; simp only [List.foldl_cons, List.length_cons]; omega
theorem OkS.now {s : S} (h : OkS s) : OkR (now s) := ok_do h.dur h.pend
theorem OkS.snow {s : S} (h : OkS s) : Srt (ye.now s) := srt_do h.srt
theorem OkS.lnow {s : S} (h : OkS s) : (ye.now s).length < 3518437208883 := Nat.lt_of_le_of_lt (len_do _ _) h.len
theorem OkS.tot {s : S} (h : OkS s) : tot (ye.now s) < 4000000000000000000 := by have := h.now.tot; have := h.lnow; omega
-- the store in memory
def fnV (bd : Nat) (c : Bool) : Value := .func (.func (if c then 84 else 64)) #[.map (some bd)] #[]
def wc (bd : Nat) (x : W) : List Value := [fnV bd x.cut, .string x.key, .string x.data]
def wcs (bd : Nat) (l : List W) : List Value := l.flatMap (wc bd)
def cells (bn bd : Nat) (pv : Value) (u : Nat) (s : S) : List Value := [.map (some bn), .map (some bd), pv, .int .i64 u, .int .i64 s.cap, .int .i64 s.armed, .bool s.off, .int .i64 s.age]
def St (g bn bd : Nat) (pv : Value) (u : Nat) (s : S) (w : World) : Prop := w.heap[g]? = some (.cells (cells bn bd pv u s).toArray 72 (0, 0))
structure Sr (B g bn bd : Nat) (pv : Value) (s : S) (w : World) : Prop where
  row : St g bn bd pv (tot (now s)) s w
  mn : Mp bn (now s) w
  md : Mp bd s.dur w
  ne : bn ≠ bd
  pr : w.ownsRow B 75 3 pv s.pend.length (wcs bd s.pend)
  low : B ≤ g ∧ B ≤ bn ∧ B ≤ bd
  ok : OkS s
theorem St.lt {g bn bd u : Nat} {pv : Value} {s : S} {w : World} (h : St g bn bd pv u s w) : g < w.heap.size := (Array.getElem?_eq_some_iff.1 h).1
theorem St.keep {g bn bd u : Nat} {pv : Value} {s : S} {w w' : World} {A : Nat → Prop} (h : St g bn bd pv u s w) (k : Kp A w w') (hn : ¬ A g) : St g bn bd pv u s w' := (k.block _ h.lt hn).trans h
theorem St.c0 {g bn bd u : Nat} {pv : Value} {s : S} {w : World} (h : St g bn bd pv u s w) : w.cell? ⟨g, 0, none⟩ = some (.map (some bn)) := cell_of_row _ _ 0 _ _ _ h
theorem St.c1 {g bn bd u : Nat} {pv : Value} {s : S} {w : World} (h : St g bn bd pv u s w) : w.cell? ⟨g, 1, none⟩ = some (.map (some bd)) := cell_of_row _ _ 1 _ _ _ h
theorem St.c2 {g bn bd u : Nat} {pv : Value} {s : S} {w : World} (h : St g bn bd pv u s w) : w.cell? ⟨g, 2, none⟩ = some pv := cell_of_row _ _ 2 _ _ _ h
theorem St.c3 {g bn bd u : Nat} {pv : Value} {s : S} {w : World} (h : St g bn bd pv u s w) : w.cell? ⟨g, 3, none⟩ = some (.int .i64 u) := cell_of_row _ _ 3 _ _ _ h
theorem St.c4 {g bn bd u : Nat} {pv : Value} {s : S} {w : World} (h : St g bn bd pv u s w) : w.cell? ⟨g, 4, none⟩ = some (.int .i64 s.cap) := cell_of_row _ _ 4 _ _ _ h
theorem St.c5 {g bn bd u : Nat} {pv : Value} {s : S} {w : World} (h : St g bn bd pv u s w) : w.cell? ⟨g, 5, none⟩ = some (.int .i64 s.armed) := cell_of_row _ _ 5 _ _ _ h
theorem St.c6 {g bn bd u : Nat} {pv : Value} {s : S} {w : World} (h : St g bn bd pv u s w) : w.cell? ⟨g, 6, none⟩ = some (.bool s.off) := cell_of_row _ _ 6 _ _ _ h
theorem St.c7 {g bn bd u : Nat} {pv : Value} {s : S} {w : World} (h : St g bn bd pv u s w) : w.cell? ⟨g, 7, none⟩ = some (.int .i64 s.age) := cell_of_row _ _ 7 _ _ _ h
theorem St.fz {g bn bd u : Nat} {pv : Value} {s : S} {w : World} (h : St g bn bd pv u s w) (i : Nat) : w.frozen? ⟨g, i, none⟩ = false := frozen_of_row _ _ i _ _ h
theorem St.set2 {g bn bd u : Nat} {pv : Value} {s : S} {w : World} (h : St g bn bd pv u s w) (v : Value) : St g bn bd v u s (w.setCell ⟨g, 2, none⟩ v) := heap_setCell_same _ _ 2 _ _ _ h
theorem St.set3 {g bn bd u : Nat} {pv : Value} {s : S} {w : World} (h : St g bn bd pv u s w) (v : Nat) : St g bn bd pv v s (w.setCell ⟨g, 3, none⟩ (.int .i64 v)) := heap_setCell_same _ _ 3 _ _ _ h
theorem St.set5 {g bn bd u : Nat} {pv : Value} {s : S} {w : World} (h : St g bn bd pv u s w) (v : Nat) : St g bn bd pv u { s with armed := v } (w.setCell ⟨g, 5, none⟩ (.int .i64 v)) := heap_setCell_same _ _ 5 _ _ _ h
theorem St.set6 {g bn bd u : Nat} {pv : Value} {s : S} {w : World} (h : St g bn bd pv u s w) (v : Bool) : St g bn bd pv u { s with off := v } (w.setCell ⟨g, 6, none⟩ (.bool v)) := heap_setCell_same _ _ 6 _ _ _ h
theorem St.set7 {g bn bd u : Nat} {pv : Value} {s : S} {w : World} (h : St g bn bd pv u s w) (v : Nat) : St g bn bd pv u { s with age := v } (w.setCell ⟨g, 7, none⟩ (.int .i64 v)) := heap_setCell_same _ _ 7 _ _ _ h
theorem orNoneC (g : Nat) (w : World) : Calls Tryz.prog 34 #[.pointer (some ⟨g, 0, none⟩)] w fun e w' => e = .returned (.pointer (some ⟨g, 0, none⟩)) ∧ w' = w := by
  go_enter Tryz.func34, Tryz.ntmps34
  go_wp2
  go_ret
  exact ⟨rfl, rfl⟩
theorem downC {g bn bd u : Nat} {pv : Value} {s : S} {w : World} (h : St g bn bd pv u s w) : Calls Tryz.prog 55 #[.pointer (some ⟨g, 0, none⟩)] w fun e w' => e = .returned (.bool s.off) ∧ w' = w := by
  have c := h.c6
  clear h
  go_enter Tryz.func55, Tryz.ntmps55
  go_wp2_with (go_at_call 34; refine (orNoneC g _).mono ?_; rintro _ _ ⟨rfl, hw⟩; rw [hw]; clear hw)
  go_ret
  exact ⟨rfl, rfl⟩
def refS (s : S) (k : ByteArray) : Int := if s.off then 124 else if 1 ≤ k.size ∧ k.size ≤ 64 then 0 else 120
theorem refusalC {g bn bd u : Nat} {pv : Value} {s : S} {w : World} (k : ByteArray) (h : St g bn bd pv u s w) : Calls Tryz.prog 59 #[.pointer (some ⟨g, 0, none⟩), .string k] w fun e w' => e = .returned (.int .i64 (refS s k)) ∧ w' = w := by
  have CD : Hid (Calls _ _ _ _ _) := downC h
  have CK : Hid (∀ w, Calls _ _ _ _ _) := fun w => keyGoesC k w
  unfold refS
  clear h
  cases ho : s.off with
  | true =>
    rw [ho] at CD
    go_enter Tryz.func59, Tryz.ntmps59
    go_wp2_with (go_at_call 55; refine CD.out.mono ?_; rintro _ _ ⟨rfl, hw⟩; rw [hw]; clear hw)
    go_ret
    exact ⟨rfl, rfl⟩
  | false =>
    rw [ho] at CD
    by_cases hk : 1 ≤ k.size ∧ k.size ≤ 64
    · rw [decide_eq_true hk] at CK
      rw [if_pos hk]
      clear hk
      go_enter Tryz.func59, Tryz.ntmps59
      go_wp2_with (first | (go_at_call 55; refine CD.out.mono ?_; rintro _ _ ⟨rfl, hw⟩; rw [hw]; clear hw) | (go_at_call 86; refine (CK.out _).mono ?_; rintro _ _ ⟨rfl, hw⟩; rw [hw]; clear hw))
      go_ret
      exact ⟨rfl, rfl⟩
    · rw [decide_eq_false hk] at CK
      rw [if_neg hk]
      clear hk
      go_enter Tryz.func59, Tryz.ntmps59
      go_wp2_with (first | (go_at_call 55; refine CD.out.mono ?_; rintro _ _ ⟨rfl, hw⟩; rw [hw]; clear hw) | (go_at_call 86; refine (CK.out _).mono ?_; rintro _ _ ⟨rfl, hw⟩; rw [hw]; clear hw))
      go_ret
      exact ⟨rfl, rfl⟩
def spendS (s : S) : Int × S := if s.armed = 0 then (0, s) else if s.armed = 1 then (124, { s with armed := 0, off := true }) else (0, { s with armed := s.armed - 1 })
theorem spendC {g bn bd u : Nat} {pv : Value} {s : S} {w : World} (h : St g bn bd pv u s w) (ha : s.armed ≤ 9223372036854775807) : Calls Tryz.prog 65 #[.pointer (some ⟨g, 0, none⟩)] w fun e w' => e = .returned (.int .i64 (spendS s).1) ∧ St g bn bd pv u (spendS s).2 w' ∧ Kp (fun k => k = g) w w' := by
  have c := h.c5
  have f5 := h.fz 5
  have f6 := h.fz 6
  unfold spendS
  by_cases h0 : s.armed = 0
  · rw [if_pos h0]
    have H : Hid (St g bn bd pv u s w) := h
    have h0' : ((s.armed : Int) == 0) = true := by rw [h0]; rfl
    clear h h0
    go_enter Tryz.func65, Tryz.ntmps65
    go_wp2
    go_ret
    exact ⟨rfl, H.out, Kp.refl _ _⟩
  · rw [if_neg h0]
    have h0' : ((s.armed : Int) == 0) = false := by rw [beq_eq_false_iff_ne]; omega
    obtain ⟨q, hq⟩ : ∃ q : Nat, s.armed - 1 = q := ⟨_, rfl⟩
    have HS : Hid (St g bn bd pv u { s with armed := q } (w.setCell ⟨g, 5, none⟩ (.int .i64 (q : Int)))) := h.set5 q
    have hw1 : IntKind.i64.wrap ((s.armed : Int) - 1) = (q : Int) := by
      rw [show (s.armed : Int) - 1 = (q : Int) by omega]
      exact wrap_is _ (by omega)
    have K1 : Hid (Kp (fun k => k = g) w (w.setCell ⟨g, 5, none⟩ (.int .i64 (q : Int)))) := Kp.setCell _ _ _ _ rfl
    rw [hq]
    by_cases h1 : s.armed = 1
    · rw [if_pos h1]
      have hd : q = 0 := by omega
      subst hd
      have f6' := HS.out.fz 6
      have H2 : Hid (St g bn bd pv u { s with armed := 0, off := true } ((w.setCell ⟨g, 5, none⟩ (.int .i64 (0 : Int))).setCell ⟨g, 6, none⟩ (.bool true))) := HS.out.set6 true
      have c6 : (w.setCell ⟨g, 5, none⟩ (.int .i64 (0 : Int))).cell? ⟨g, 6, none⟩ = some (.bool s.off) := HS.out.c6
      clear h h0 h1 hq
      go_enter Tryz.func65, Tryz.ntmps65
      go_wp2
      go_ret
      exact ⟨rfl, H2.out, K1.out.trans (Kp.setCell _ _ _ _ rfl)⟩
    · rw [if_neg h1]
      have hd : 0 < q := by omega
      have hd' : (0 : Int) < (q : Int) := by omega
      clear h h0 h1 hq
      go_enter Tryz.func65, Tryz.ntmps65
      go_wp2
      go_ret
      exact ⟨rfl, HS.out, K1.out⟩
end Go.Proofs.YtmindflfjocjlaaGreat.ye

namespace Go.Proofs.YtmindflfjocjlaaGreat.yf
open Go.RowKit Go.PlainAid Go.Maps
open Go.Proofs.YtmindflfjocjlaaGreat.ca Go.Proofs.YtmindflfjocjlaaGreat.cb Go.Proofs.YtmindflfjocjlaaGreat.cp Go.Proofs.YtmindflfjocjlaaGreat.kp Go.Proofs.YtmindflfjocjlaaGreat.ka Go.Proofs.YtmindflfjocjlaaGreat.ya Go.Proofs.YtmindflfjocjlaaGreat.yb Go.Proofs.YtmindflfjocjlaaGreat.yc Go.Proofs.YtmindflfjocjlaaGreat.yd Go.Proofs.YtmindflfjocjlaaGreat.ye Go.Proofs.YtmindflfjocjlaaGreat.sb Go.Proofs.YtmindflfjocjlaaGreat.mc
set_option linter.unusedVariables false
set_option linter.unusedSimpArgs false
def Fr (g bn bd : Nat) (pv : Value) (k : Nat) : Prop := k = g ∨ k = bn ∨ k = bd ∨ some k = pv.ownBlock
-- the store as it is behind a call
def Rn (B g bn bd : Nat) (pv : Value) (s : S) (w w' : World) : Prop := ∃ pv', Sr B g bn bd pv' s w' ∧ Kp (Fr g bn bd pv) w w' ∧ ∀ k, some k = pv'.ownBlock → some k = pv.ownBlock ∨ w.heap.size ≤ k
theorem own_kp {A : Nat → Prop} {w w' : World} {B t z n : Nat} {v : Value} {xs : List Value} (o : w.ownsRow B t z v n xs) (k : Kp A w w') (hn : ∀ j, some j = v.ownBlock → ¬ A j) : w'.ownsRow B t z v n xs := by
  refine ⟨o.1, ?_⟩
  rcases o.2 with h2 | ⟨g', cap, cur', rfl, h2, h3, h4⟩
  · exact .inl h2
  · exact .inr ⟨g', cap, cur', rfl, h2, (k.block g' (Array.getElem?_eq_some_iff.1 h3).1 (hn g' rfl)).trans h3, h4⟩
theorem own_tag {w : World} {B t z n g : Nat} {v : Value} {xs : List Value} {cur : Array Value} {T : Nat} {f : Nat × Nat} (o : w.ownsRow B t z v n xs) (hh : w.heap[g]? = some (.cells cur T f)) (ht : t ≠ T) : some g ≠ v.ownBlock := by
  rcases o.2 with ⟨rfl, _⟩ | ⟨g', cap, cur', rfl, _, h3, _⟩
  · intro e; cases e
  · intro e
    have e : g = g' := Option.some.inj e
    subst e
    rw [hh] at h3
    injection h3 with h3
    injection h3 with _ h3 _
    exact ht h3.symm
theorem own_map {w : World} {B t z n b : Nat} {v : Value} {xs : List Value} {r : List Rec} (o : w.ownsRow B t z v n xs) (hm : Mp b r w) : some b ≠ v.ownBlock := by
  rcases o.2 with ⟨rfl, _⟩ | ⟨g', cap, cur', rfl, _, h3, _⟩
  · intro e; cases e
  · intro e
    exact hm.ne h3 (Option.some.inj e)
theorem sr_keep {A : Nat → Prop} {B g bn bd : Nat} {pv : Value} {s : S} {w w' : World} (h : Sr B g bn bd pv s w) (k : Kp A w w') (hn : ∀ j, Fr g bn bd pv j → ¬ A j) : Sr B g bn bd pv s w' :=
  ⟨h.row.keep k (hn g (.inl rfl)), h.mn.keep k (hn bn (.inr (.inl rfl))), h.md.keep k (hn bd (.inr (.inr (.inl rfl)))), h.ne, own_kp h.pr k (fun j hj => hn j (.inr (.inr (.inr hj)))), h.low, h.ok⟩
theorem sr_later {B g bn bd : Nat} {pv : Value} {s : S} {w w' : World} (h : Sr B g bn bd pv s w) (hb : Below w.heap.size w w') : Sr B g bn bd pv s w' := sr_keep h (Kp.of_below (A := fun _ => False) hb) (fun _ _ e => e)
theorem sr_in {B g bn bd : Nat} {pv : Value} {s : S} {w : World} (h : Sr B g bn bd pv s w) : ∀ j, Fr g bn bd pv j → j < w.heap.size ∧ B ≤ j := by
  rintro j (rfl | rfl | rfl | hj)
  · exact ⟨h.row.lt, h.low.1⟩
  · exact ⟨h.mn.lt, h.low.2.1⟩
  · exact ⟨h.md.lt, h.low.2.2⟩
  · exact ⟨(h.pr.lt _ hj.symm).2, (h.pr.lt _ hj.symm).1⟩
theorem Rn.refl {B g bn bd : Nat} {pv : Value} {s : S} {w : World} (h : Sr B g bn bd pv s w) : Rn B g bn bd pv s w w := ⟨pv, h, Kp.refl _ _, fun k hk => .inl hk⟩
theorem Rn.of {B g bn bd : Nat} {pv : Value} {s : S} {w w' : World} (h : Sr B g bn bd pv s w') (k : Kp (Fr g bn bd pv) w w') : Rn B g bn bd pv s w w' := ⟨pv, h, k, fun k hk => .inl hk⟩
theorem Rn.below {B g bn bd : Nat} {pv : Value} {s s' : S} {w w' : World} (h : Sr B g bn bd pv s w) (r : Rn B g bn bd pv s' w w') (hB : B ≤ w.heap.size) : Below B w w' := by
  obtain ⟨pv', _, k, _⟩ := r
  exact k.below (fun j hj => (sr_in h j hj).2) hB
theorem Rn.trans {B g bn bd : Nat} {pv : Value} {s s' : S} {w w1 w2 : World} (r : Rn B g bn bd pv s w w1) (q : ∀ pv', Sr B g bn bd pv' s w1 → Rn B g bn bd pv' s' w1 w2) : Rn B g bn bd pv s' w w2 := by
  obtain ⟨p1, h1, k1, n1⟩ := r
  obtain ⟨p2, h2, k2, n2⟩ := q p1 h1
  refine ⟨p2, h2, ⟨k2.os.trans k1.os, k2.tape.trans k1.tape, k2.output.trans k1.output, Nat.le_trans k1.size k2.size, fun j hj hn => ?_⟩, fun j hj => ?_⟩
  · refine (k2.block j (Nat.lt_of_lt_of_le hj k1.size) ?_).trans (k1.block j hj hn)
    rintro (e | e | e | e)
    · exact hn (.inl e)
    · exact hn (.inr (.inl e))
    · exact hn (.inr (.inr (.inl e)))
    · rcases n1 j e with e | e
      · exact hn (.inr (.inr (.inr e)))
      · omega
  · rcases n2 j hj with e | e
    · exact n1 j e
    · exact .inr (Nat.le_trans k1.size e)
def getS (s : S) (k : ByteArray) : ByteArray × Int := if refS s k ≠ 0 then (ByteArray.empty, refS s k) else ((rget k (now s)).getD ByteArray.empty, if (rget k (now s)).isSome then 0 else 123)
set_option maxHeartbeats 1600000 in
theorem getC {B g bn bd : Nat} {pv : Value} {s : S} {w : World} (k : ByteArray) (h : Sr B g bn bd pv s w) (hk : k.size ≤ 140737488355328) : Calls Tryz.prog 49 #[.pointer (some ⟨g, 0, none⟩), .string k] w fun e w' => e = .returned (.tuple #[.string (getS s k).1, .int .i64 (getS s k).2]) ∧ Below w.heap.size w w' := by
  have CR : Hid (Calls _ _ _ _ _) := refusalC k h.row
  have c0 := h.row.c0
  have HM : Hid (Mp bn (now s) w) := h.mn
  have hkm : k.size ≤ maxLen := by unfold maxLen; omega
  have HB : Hid (∀ o, Below w.heap.size w (w.alloc o)) := fun o => (Below.refl _ w).alloc (Nat.le_refl _) _
  have HB0 : Hid (Below w.heap.size w w) := Below.refl _ w
  obtain ⟨x, HX⟩ : ∃ x, Hid (refS s k = x) := ⟨_, rfl⟩
  obtain ⟨o, HO⟩ : ∃ o, Hid (rget k (now s) = o) := ⟨_, rfl⟩
  unfold getS
  rw [HX.out] at CR ⊢
  rw [HO.out]
  clear h
  by_cases hx : x = 0
  · subst hx
    rw [if_neg (by simp)]
    cases o with
    | none =>
      go_enter Tryz.func49, Tryz.ntmps49
      go_wp2_with (first | (go_at_call 59; refine CR.out.mono ?_; rintro _ _ ⟨rfl, hw⟩; rw [hw]; clear hw) | (at_lookup; refine wpList_look _ rfl _ _ rfl bn (now s) rfl HM.out k rfl hkm ?_; rw [HO.out]) | go_in)
      go_ret2
      exact ⟨rfl, by first | exact HB.out _ | exact (HB.out _).setCell (Nat.le_refl _) _⟩
    | some d =>
      go_enter Tryz.func49, Tryz.ntmps49
      go_wp2_with (first | (go_at_call 59; refine CR.out.mono ?_; rintro _ _ ⟨rfl, hw⟩; rw [hw]; clear hw) | (at_lookup; refine wpList_look _ rfl _ _ rfl bn (now s) rfl HM.out k rfl hkm ?_; rw [HO.out]) | go_in)
      go_ret2
      exact ⟨rfl, by first | exact HB.out _ | exact (HB.out _).setCell (Nat.le_refl _) _⟩
  · rw [if_pos hx]
    have hx' : (x != 0) = true := by rw [bne_iff_ne]; exact hx
    clear hx
    go_enter Tryz.func49, Tryz.ntmps49
    go_wp2_with (first | (go_at_call 59; refine CR.out.mono ?_; rintro _ _ ⟨rfl, hw⟩; rw [hw]; clear hw) | go_in)
    go_ret2
    exact ⟨rfl, HB0.out⟩
def keysS (s : S) (pre : ByteArray) : List ByteArray := if s.off then [] else keysL pre (now s)
theorem keysC {B g bn bd : Nat} {pv : Value} {s : S} {w : World} (k : ByteArray) (h : Sr B g bn bd pv s w) : Calls Tryz.prog 42 #[.pointer (some ⟨g, 0, none⟩), .string k] w fun e w' => ∃ v, e = .returned v ∧ w'.ownsRow w.heap.size 9 1 v (keysS s k).length ((keysS s k).map Value.string) ∧ Below w.heap.size w w' := by
  have CD : Hid (Calls _ _ _ _ _) := downC h.row
  have c0 := h.row.c0
  have CK : Hid (Calls _ _ _ _ _) := keysM bn (now s) k w h.mn (by have := h.ok.lnow; omega)
  have HB0 : Hid (Below w.heap.size w w) := Below.refl _ w
  unfold keysS
  clear h
  cases ho : s.off with
  | true =>
    rw [ho] at CD
    go_enter Tryz.func42, Tryz.ntmps42
    go_wp2_with (first | (go_at_call 55; refine CD.out.mono ?_; rintro _ _ ⟨rfl, hw⟩; rw [hw]; clear hw) | go_in)
    go_ret
    exact ⟨_, rfl, World.ownsRow_nil _ _ _ _, HB0.out⟩
  | false =>
    rw [ho] at CD
    go_enter Tryz.func42, Tryz.ntmps42
    go_wp2_with (first | (go_at_call 55; refine CD.out.mono ?_; rintro _ _ ⟨rfl, hw⟩; rw [hw]; clear hw) | (go_at_call 72; refine CK.out.mono ?_; rintro _ w1 ⟨v, rfl, h1, h2⟩; have H1 : Hid (World.ownsRow _ _ _ _ _ _ _) := h1; have H2 : Hid (Below _ _ _) := h2; clear h1 h2) | go_in)
    go_ret
    exact ⟨v, rfl, H1.out, H2.out⟩
def armS (s : S) (n : Int) : S := if s.off then s else { s with armed := n.toNat }
theorem now_armS (s : S) (n : Int) : now (armS s n) = now s := by unfold armS; split <;> rfl
theorem armC {B g bn bd : Nat} {pv : Value} {s : S} {w : World} (n : Int) (h : Sr B g bn bd pv s w) (hn : n ≤ 9223372036854775807) : Calls Tryz.prog 32 #[.pointer (some ⟨g, 0, none⟩), .int .i64 n] w fun e w' => e = .returned (.tuple #[]) ∧ Rn B g bn bd pv (armS s n) w w' := by
  have CD : Hid (Calls _ _ _ _ _) := downC h.row
  have f5 := h.row.fz 5
  have c5 := h.row.c5
  have H : Hid (Sr B g bn bd pv s w) := h
  unfold armS
  clear h
  cases ho : s.off with
  | true =>
    rw [ho] at CD
    go_enter Tryz.func32, Tryz.ntmps32
    go_wp2_with (first | (go_at_call 55; refine CD.out.mono ?_; rintro _ _ ⟨rfl, hw⟩; rw [hw]; clear hw) | go_in)
    (try simp only [Exit.inBlock, Exit.then]); refine bodyPost_ret (results_none rfl _ _ _) rfl ?_
    exact ⟨rfl, Rn.refl H.out⟩
  | false =>
    rw [ho] at CD
    obtain ⟨m, hm⟩ : ∃ m : Nat, n.toNat = m := ⟨_, rfl⟩
    rw [hm]
    have K : Hid (Kp (fun k => k = g) w (w.setCell ⟨g, 5, none⟩ (.int .i64 (m : Int)))) := Kp.setCell _ _ _ _ rfl
    have HS : Hid (Rn B g bn bd pv { s with armed := m } w (w.setCell ⟨g, 5, none⟩ (.int .i64 (m : Int)))) := by
      refine Rn.of ?_ (K.out.mono fun k hk => .inl hk)
      exact ⟨H.out.row.set5 _, H.out.mn.keep K.out (H.out.mn.ne H.out.row), H.out.md.keep K.out (H.out.md.ne H.out.row), H.out.ne, own_kp H.out.pr K.out (fun j hj e => by subst e; exact own_tag H.out.pr H.out.row (by decide) hj), H.out.low, ⟨H.out.ok.dur, H.out.ok.srt, H.out.ok.pend, H.out.ok.cap0, H.out.ok.cap1, by show m ≤ _; omega, H.out.ok.age, H.out.ok.len⟩⟩
    clear K
    rw [ho] at HS
    by_cases hn0 : n < 0
    · have hm0 : m = 0 := by omega
      subst hm0
      have hn1 : (0 : Int) > n := by omega
      have HX : Hid (max n 0 = ((0 : Nat) : Int)) := by show _ = _; omega
      go_enter Tryz.func32, Tryz.ntmps32
      go_wp2_with (first | (go_at_call 55; refine CD.out.mono ?_; rintro _ _ ⟨rfl, hw⟩; rw [hw]; clear hw) | go_in)
      go_end0
      exact ⟨rfl, by rw [HX.out]; exact HS.out⟩
    · have hm0 : n = m := by omega
      subst hm0
      clear hm hn0
      go_enter Tryz.func32, Tryz.ntmps32
      go_wp2_with (first | (go_at_call 55; refine CD.out.mono ?_; rintro _ _ ⟨rfl, hw⟩; rw [hw]; clear hw) | go_in)
      go_end0
      exact ⟨rfl, HS.out⟩
theorem landC (bd : Nat) (r : List Rec) (x : W) (w : World) (h : Mp bd r w) (hx : OkW x) (hl : r.length < maxLen) : Calls Tryz.prog 36 #[.agg #[fnV bd x.cut, .string x.key, .string x.data]] w fun e w' => e = .returned (.tuple #[]) ∧ Mp bd (doW r x) w' ∧ Kp (fun k => k = bd) w w' := by
  obtain ⟨c, k, d⟩ := x
  have hk : k.size ≤ maxLen := Nat.le_trans hx.2.1 (by unfold maxLen; omega)
  have hd : d.size ≤ maxLen := Nat.le_trans hx.2.2 (by unfold maxLen; omega)
  have hlt := h.lt
  have KB : Hid (∀ o, Kp (fun k => k = bd) w (w.alloc o)) := fun o => Kp.of_below ((Below.refl _ w).alloc (Nat.le_refl _) _)
  have HM : Hid (∀ o, Mp bd r (w.alloc o)) := fun o => h.keep (Kp.of_below (A := fun _ => False) ((Below.refl _ w).alloc (Nat.le_refl _) o)) (fun e => e)
  unfold doW
  clear h hx
  cases c with
  | true =>
    have ef : fnV bd true = .func (.func 84) #[.map (some bd)] #[] := rfl
    rw [ef]
    go_enter Tryz.func36, Tryz.ntmps36
    go_wp2_with (first | (go_at_call 84; refine (cutM bd r k d _ (HM.out _) hk).mono ?_; rintro _ w1 ⟨rfl, h1, k1⟩) | go_in)
    go_end0
    exact ⟨rfl, h1, (KB.out _).trans k1⟩
  | false =>
    have ef : fnV bd false = .func (.func 64) #[.map (some bd)] #[] := rfl
    rw [ef]
    go_enter Tryz.func36, Tryz.ntmps36
    go_wp2_with (first | (go_at_call 64; refine (putM bd r k d _ (HM.out _) hk hd hl).mono ?_; rintro _ w1 ⟨rfl, h1, k1⟩) | go_in)
    go_end0
    exact ⟨rfl, h1, (KB.out _).trans k1⟩
end Go.Proofs.YtmindflfjocjlaaGreat.yf

namespace Go.Proofs.YtmindflfjocjlaaGreat.yg
open Go.RowKit Go.PlainAid Go.Maps Go.Shelf
open Go.Proofs.YtmindflfjocjlaaGreat.ca Go.Proofs.YtmindflfjocjlaaGreat.cb Go.Proofs.YtmindflfjocjlaaGreat.cp Go.Proofs.YtmindflfjocjlaaGreat.kp Go.Proofs.YtmindflfjocjlaaGreat.ka Go.Proofs.YtmindflfjocjlaaGreat.ya Go.Proofs.YtmindflfjocjlaaGreat.yb Go.Proofs.YtmindflfjocjlaaGreat.yc Go.Proofs.YtmindflfjocjlaaGreat.yd Go.Proofs.YtmindflfjocjlaaGreat.ye Go.Proofs.YtmindflfjocjlaaGreat.yf Go.Proofs.YtmindflfjocjlaaGreat.sb Go.Proofs.YtmindflfjocjlaaGreat.mc
set_option linter.unusedVariables false
set_option linter.unusedSimpArgs false
structure Sq (B g bn bd : Nat) (pv : Value) (u : Nat) (rn rd : List Rec) (n : Nat) (xs : List Value) (s : S) (w : World) : Prop where
  row : St g bn bd pv u s w
  mn : Mp bn rn w
  md : Mp bd rd w
  ne : bn ≠ bd
  pr : w.ownsRow B 75 3 pv n xs
  low : B ≤ g ∧ B ≤ bn ∧ B ≤ bd
theorem sq_of {B g bn bd : Nat} {pv : Value} {s : S} {w : World} (h : Sr B g bn bd pv s w) : Sq B g bn bd pv (tot (now s)) (now s) s.dur s.pend.length (wcs bd s.pend) s w := ⟨h.row, h.mn, h.md, h.ne, h.pr, h.low⟩
theorem sr_of {B g bn bd : Nat} {pv : Value} {s : S} {w : World} (h : Sq B g bn bd pv (tot (now s)) (now s) s.dur s.pend.length (wcs bd s.pend) s w) (o : OkS s) : Sr B g bn bd pv s w := ⟨h.row, h.mn, h.md, h.ne, h.pr, h.low, o⟩
theorem Sq.keep {A : Nat → Prop} {B g bn bd u n : Nat} {pv : Value} {rn rd : List Rec} {xs : List Value} {s : S} {w w' : World} (h : Sq B g bn bd pv u rn rd n xs s w) (k : Kp A w w') (hn : ∀ j, Fr g bn bd pv j → ¬ A j) : Sq B g bn bd pv u rn rd n xs s w' :=
  ⟨h.row.keep k (hn g (.inl rfl)), h.mn.keep k (hn bn (.inr (.inl rfl))), h.md.keep k (hn bd (.inr (.inr (.inl rfl)))), h.ne, own_kp h.pr k (fun j hj => hn j (.inr (.inr (.inr hj)))), h.low⟩
theorem Sq.later {B g bn bd u n : Nat} {pv : Value} {rn rd : List Rec} {xs : List Value} {s : S} {w w' : World} (h : Sq B g bn bd pv u rn rd n xs s w) (hb : Below w.heap.size w w') : Sq B g bn bd pv u rn rd n xs s w' := h.keep (Kp.of_below (A := fun _ => False) hb) (fun _ _ e => e)
theorem Sq.nm {B g bn bd u n : Nat} {pv : Value} {rn rd rn' : List Rec} {xs : List Value} {s : S} {w w' : World} (h : Sq B g bn bd pv u rn rd n xs s w) (m : Mp bn rn' w') (k : Kp (fun k => k = bn) w w') : Sq B g bn bd pv u rn' rd n xs s w' :=
  ⟨h.row.keep k (fun e => h.mn.ne h.row e.symm), m, h.md.keep k (fun e => h.ne e.symm), h.ne, own_kp h.pr k (fun j hj e => by subst e; exact own_map h.pr h.mn hj), h.low⟩
theorem Sq.dm {B g bn bd u n : Nat} {pv : Value} {rn rd rd' : List Rec} {xs : List Value} {s : S} {w w' : World} (h : Sq B g bn bd pv u rn rd n xs s w) (m : Mp bd rd' w') (k : Kp (fun k => k = bd) w w') : Sq B g bn bd pv u rn rd' n xs s w' :=
  ⟨h.row.keep k (fun e => h.md.ne h.row e.symm), h.mn.keep k h.ne, m, h.ne, own_kp h.pr k (fun j hj e => by subst e; exact own_map h.pr h.md hj), h.low⟩
theorem Sq.st {B g bn bd u u' n : Nat} {pv : Value} {rn rd : List Rec} {xs : List Value} {s s' : S} {w w' : World} (h : Sq B g bn bd pv u rn rd n xs s w) (m : St g bn bd pv u' s' w') (k : Kp (fun k => k = g) w w') : Sq B g bn bd pv u' rn rd n xs s' w' :=
  ⟨m, h.mn.keep k (h.mn.ne h.row), h.md.keep k (h.md.ne h.row), h.ne, own_kp h.pr k (fun j hj e => by subst e; exact own_tag h.pr h.row (by decide) hj), h.low⟩
theorem Sq.u {B g bn bd u n : Nat} {pv : Value} {rn rd : List Rec} {xs : List Value} {s : S} {w : World} (h : Sq B g bn bd pv u rn rd n xs s w) (v : Nat) : Sq B g bn bd pv v rn rd n xs s (w.setCell ⟨g, 3, none⟩ (.int .i64 v)) := h.st (h.row.set3 v) (Kp.setCell _ _ _ _ rfl)
-- another pending row
theorem Sq.pv {B g bn bd u n n' : Nat} {pv pv' : Value} {rn rd : List Rec} {xs xs' : List Value} {s : S} {w : World} (h : Sq B g bn bd pv u rn rd n xs s w) (o : w.ownsRow B 75 3 pv' n' xs') : Sq B g bn bd pv' u rn rd n' xs' s (w.setCell ⟨g, 2, none⟩ pv') := by
  have k : Kp (fun k => k = g) w (w.setCell ⟨g, 2, none⟩ pv') := Kp.setCell _ _ _ _ rfl
  exact ⟨h.row.set2 pv', h.mn.keep k (h.mn.ne h.row), h.md.keep k (h.md.ne h.row), h.ne, own_kp o k (fun j hj e => by subst e; exact own_tag o h.row (by decide) hj), h.low⟩
theorem fr_g {g bn bd : Nat} {pv : Value} {w w' : World} (k : Kp (fun k => k = g) w w') : Kp (Fr g bn bd pv) w w' := k.mono fun _ e => .inl e
theorem fr_n {g bn bd : Nat} {pv : Value} {w w' : World} (k : Kp (fun k => k = bn) w w') : Kp (Fr g bn bd pv) w w' := k.mono fun _ e => .inr (.inl e)
theorem fr_d {g bn bd : Nat} {pv : Value} {w w' : World} (k : Kp (fun k => k = bd) w w') : Kp (Fr g bn bd pv) w w' := k.mono fun _ e => .inr (.inr (.inl e))
theorem info_w : (Tryz.prog.info? 75).map (fun i => (i.zero, i.size, i.bytes)) = some (some (.agg #[.nilFunc, .string ByteArray.empty, .string ByteArray.empty]), 3, 40) := by kernel_rfl
set_option maxHeartbeats 1600000 in
theorem storeOfC (B b : Nat) (r : List Rec) (c : Int) (w : World) (h : Mp b r w) (hok : OkR r) (hl : r.length < 3518437208883) (hc0 : 0 ≤ c) (hc1 : c ≤ 1073741824) (hB : B ≤ b) :
    Calls Tryz.prog 17 #[.map (some b), .int .i64 c] w fun e w' => ∃ g bn, e = .returned (.pointer (some ⟨g, 0, none⟩)) ∧ Sr B g bn b (.slice none 0 0) ⟨c, r, [], 0, false, 0⟩ w' ∧ Below w.heap.size w w' ∧ w.heap.size ≤ g ∧ w.heap.size ≤ bn := by
  have hb := h.lt
  have C1 : Hid (Calls _ _ _ _ _) := mc.cloneM b r w h
  have C2 : Hid (∀ w', Below w.heap.size w w' → Calls _ _ _ _ _) := fun w' hb' => totalM b r w' (h.keep (Kp.of_below (A := fun _ => False) hb') (fun e => e)) hok (by omega)
  have HH : Hid (∀ w1 w2 : World, Below w.heap.size w w1 → Mp w.heap.size r w1 → Below w1.heap.size w1 w2 → Sr B w2.heap.size w.heap.size b (.slice none 0 0) ⟨c, r, [], 0, false, 0⟩ (w2.alloc (.cells #[.map (some w.heap.size), .map (some b), .slice none 0 0, .int .i64 (tot r : Nat), .int .i64 c, .int .i64 0, .bool false, .int .i64 0] 72)) ∧ Below w.heap.size w (w2.alloc (.cells #[.map (some w.heap.size), .map (some b), .slice none 0 0, .int .i64 (tot r : Nat), .int .i64 c, .int .i64 0, .bool false, .int .i64 0] 72)) ∧ w.heap.size ≤ w2.heap.size) := fun w1 w2 b1 m1 b2 => by
    have hs1 := b1.size
    have hs2 := b2.size
    have b3 : Below w2.heap.size w2 (w2.alloc (.cells #[.map (some w.heap.size), .map (some b), .slice none 0 0, .int .i64 (tot r : Nat), .int .i64 c, .int .i64 0, .bool false, .int .i64 0] 72)) := (Below.refl _ w2).alloc (Nat.le_refl _) _
    have bb := over (over b1 b2) b3
    have hm1 := m1.lt
    refine ⟨⟨(MapKept.heap_alloc w2 _).1, ?_, ?_, by omega, World.ownsRow_nil _ _ _ _, by omega, ?_⟩, bb, by omega⟩
    · exact (m1.keep (Kp.of_below (A := fun _ => False) b2) (fun e => e)).keep (Kp.of_below (A := fun _ => False) b3) (fun e => e)
    · exact h.keep (Kp.of_below (A := fun _ => False) bb) (fun e => e)
    · exact ⟨hok, h.srt, (by intro x hx; cases hx), hc0, hc1, by simp, by simp, by simpa using hl⟩
  clear h hok
  go_enter Tryz.func17, Tryz.ntmps17
  go_wp2_with (first | (go_at_call 45; refine C1.out.mono ?_; rintro _ w1 ⟨rfl, m1, b1⟩; have M1 : Hid (Mp w.heap.size r w1) := m1; have B1 : Hid (Below w.heap.size w w1) := b1; clear m1 b1) | (go_at_call 46; refine (C2.out _ B1.out).mono ?_; rintro _ w2 ⟨rfl, b2⟩; have B2 : Hid (Below w1.heap.size w1 w2) := b2; clear b2) | go_in)
  go_ret
  obtain ⟨h1, h2, h3⟩ := HH.out w1 w2 B1.out M1.out B2.out
  exact ⟨_, _, rfl, h1, h2, h3, Nat.le_refl _⟩
theorem newC (c : Int) (w : World) (hc : 0 ≤ c ∧ c ≤ 1073741824) : Calls Tryz.prog 4 #[.int .i64 c] w fun e w' => ∃ g bn bd, e = .returned (.pointer (some ⟨g, 0, none⟩)) ∧ Sr w.heap.size g bn bd (.slice none 0 0) ⟨c, [], [], 0, false, 0⟩ w' ∧ Below w.heap.size w w' := by
  have CC : Hid (∀ w, Calls _ _ _ _ _) := fun w => capC c w
  have hmm := @run_makeMap Tryz.prog
  rw [decide_eq_true hc] at CC
  have hM : Mp w.heap.size [] (w.alloc (.map #[] 0)) := World.ownsMap_made _ _ _ _
  have C2 : Hid (Calls _ _ _ _ _) := storeOfC w.heap.size w.heap.size [] c (w.alloc (.map #[] 0)) hM (by intro p hp; cases hp) (by decide) hc.1 hc.2 (Nat.le_refl _)
  have HB : Hid (Below w.heap.size w (w.alloc (.map #[] 0))) := (Below.refl _ w).alloc (Nat.le_refl _) _
  clear hc hM
  go_enter Tryz.func4, Tryz.ntmps4
  go_wp2_with (first | (go_at_call 16; refine (CC.out _).mono ?_; rintro _ _ ⟨rfl, hw⟩; rw [hw]; clear hw) | (go_at_call 17; refine C2.out.mono ?_; rintro _ w2 ⟨g, bn, rfl, h2, b2, _, _⟩; have H2 : Hid (Sr _ _ _ _ _ _ _) := h2; have B2 : Hid (Below _ _ _) := b2; clear h2 b2) | go_in)
  go_ret
  exact ⟨g, bn, w.heap.size, rfl, H2.out, over HB.out B2.out⟩
theorem newNo (c : Int) (w : World) (hc : ¬ (0 ≤ c ∧ c ≤ 1073741824)) : Calls Tryz.prog 4 #[.int .i64 c] w fun e w' => e = .returned (.pointer none) ∧ w' = w := by
  have CC : Hid (∀ w, Calls _ _ _ _ _) := fun w => capC c w
  rw [decide_eq_false hc] at CC
  clear hc
  go_enter Tryz.func4, Tryz.ntmps4
  go_wp2_with (first | (go_at_call 16; refine (CC.out _).mono ?_; rintro _ _ ⟨rfl, hw⟩; rw [hw]; clear hw) | go_in)
  go_ret
  exact ⟨rfl, rfl⟩
-- a call of counts amid a region that draws its order
theorem step_counts {ops : Array Oper} {o : Oper} {a : Act} {w : World} {K : Act → World → Prop} {Q : Exit → Act → World → Prop} {E : Prop} (hg : o.guard = none) (k l d : Nat)
    (hop : o.op = .call { callee := .value (.func 61), args := #[.tmp k, .tmp l], argTypes := #[44, 9] }) (hd : o.dst = some d) (b : Nat) (r : List Rec) (x : ByteArray)
    (hy : a.tmps[k]?.getD undef = .map (some b)) (hy2 : a.tmps[l]?.getD undef = .string x) (HR : Hid (Mp b r w ∧ x.size ≤ 140737488355328 ∧ OkR r)) (n : Nat) (HN : Hid (at0 x r = n))
    (hK : ∀ w', Below w.heap.size w w' → K { tmps := a.tmps.setIfInBounds d (.int .i64 n), defers := a.defers } w') :
    if Region.wanted o (yielded ops a.tmps) = true then Oper.wp Tryz.prog o a w K Q else E := by
  have hw : Region.wanted o (yielded ops a.tmps) = true := by simp [Region.wanted, hg]
  rw [if_pos hw]
  have C := countsM b r x w HR.out.1 HR.out.2.1 HR.out.2.2
  rw [HN.out] at C
  have HKK : Hid _ := hK
  clear hK HR HN
  unfold Oper.wp execOp
  simp only [hop]
  go_simp
  refine C.mono ?_
  rintro e w' ⟨rfl, h1⟩
  exact HKK.out _ h1
end Go.Proofs.YtmindflfjocjlaaGreat.yg
