import Derived.Test.YtlkkibiedlakfaaGreatYd
import Derived.Test.YtlkkibiedlakfaaGreatSb
import Derived.Test.YtlkkibiedlakfaaGreatNb
namespace Go.Proofs.YtlkkibiedlakfaaGreat.ye
open Go.RowKit Go.PlainAid Go.Maps
open Go.Proofs.YtlkkibiedlakfaaGreat.ca Go.Proofs.YtlkkibiedlakfaaGreat.cb Go.Proofs.YtlkkibiedlakfaaGreat.cp Go.Proofs.YtlkkibiedlakfaaGreat.kp Go.Proofs.YtlkkibiedlakfaaGreat.ka Go.Proofs.YtlkkibiedlakfaaGreat.ya Go.Proofs.YtlkkibiedlakfaaGreat.yb Go.Proofs.YtlkkibiedlakfaaGreat.yc Go.Proofs.YtlkkibiedlakfaaGreat.yd Go.Proofs.YtlkkibiedlakfaaGreat.sb
set_option linter.unusedVariables false
set_option linter.unusedSimpArgs false
structure W where
  cut : Bool
  key : ByteArray
  data : ByteArray
def doW (r : List Rec) (x : W) : List Rec := if x.cut then del x.key r else put x.key x.data r
structure S where
  cap : Int
  dur : List Rec
  pend : List W
  armed : Nat
  off : Bool
  age : Nat
def now (s : S) : List Rec := s.pend.foldl doW s.dur
def OkW (x : W) : Prop := 1 ≤ x.key.size ∧ x.key.size ≤ 64 ∧ x.data.size ≤ 1048576
structure OkS (s : S) : Prop where
  dur : OkR s.dur
  srt : Srt s.dur
  pend : ∀ x ∈ s.pend, OkW x
  cap0 : 0 ≤ s.cap
  cap1 : s.cap ≤ 1073741824
  arm : s.armed ≤ 9223372036854775807
  age : s.age ≤ 4398046511104
  len : s.dur.length + s.pend.length < 3518437208883
theorem ok_doW {r : List Rec} {x : W} (h : OkR r) (hx : OkW x) : OkR (doW r x) := by
  unfold doW
  split
  · exact h.del
  · exact h.put hx.1 hx.2.1 hx.2.2
theorem srt_doW {r : List Rec} {x : W} (h : Srt r) : Srt (doW r x) := by
  unfold doW
  split
  · exact srt_del h
  · exact srt_put h
theorem len_doW (r : List Rec) (x : W) : (doW r x).length ≤ r.length + 1 := by
  unfold doW
  split
  · have := len_del x.key r; omega
  · exact len_put _ _ _
theorem ok_do {r : List Rec} {l : List W} (h : OkR r) (hl : ∀ x ∈ l, OkW x) : OkR (l.foldl doW r) := by
  induction l generalizing r with
  | nil => exact h
  | cons x l ih => exact ih (ok_doW h (hl x (by simp))) (fun y hy => hl y (by simp [hy]))
theorem srt_do {r : List Rec} {l : List W} (h : Srt r) : Srt (l.foldl doW r) := by
  induction l generalizing r with
  | nil => exact h
  | cons x l ih => exact ih (srt_doW h)
theorem len_do (r : List Rec) (l : List W) : (l.foldl doW r).length ≤ r.length + l.length := by
  induction l generalizing r with
  | nil => simp
  | cons x l ih => have := ih (doW r x); have := len_doW r x; simp only [List.foldl_cons, List.length_cons]; omega
theorem OkS.now {s : S} (h : OkS s) : OkR (now s) := ok_do h.dur h.pend
theorem OkS.snow {s : S} (h : OkS s) : Srt (ye.now s) := srt_do h.srt
theorem OkS.lnow {s : S} (h : OkS s) : (ye.now s).length < 3518437208883 := Nat.lt_of_le_of_lt (len_do _ _) h.len
theorem OkS.tot {s : S} (h : OkS s) : tot (ye.now s) < 4000000000000000000 := by have := h.now.tot; have := h.lnow; omega
-- the store in memory
def fnV (bd : Nat) (c : Bool) : Value := .func (.func (if c then 106 else 93)) #[.map (some bd)] #[]
def wc (bd : Nat) (x : W) : List Value := [fnV bd x.cut, .string x.key, .string x.data]
def wcs (bd : Nat) (l : List W) : List Value := l.flatMap (wc bd)
def cells (bn bd : Nat) (pv : Value) (u : Nat) (s : S) : List Value := [.map (some bn), .map (some bd), pv, .int .i64 u, .int .i64 s.cap, .int .i64 s.armed, .bool s.off, .int .i64 s.age]
def St (g bn bd : Nat) (pv : Value) (u : Nat) (s : S) (w : World) : Prop := w.heap[g]? = some (.cells (cells bn bd pv u s).toArray 80 (0, 0))
structure Sr (B g bn bd : Nat) (pv : Value) (s : S) (w : World) : Prop where
  row : St g bn bd pv (tot (now s)) s w
  mn : Mp bn (now s) w
  md : Mp bd s.dur w
  ne : bn ≠ bd
  pr : w.ownsRow B 105 3 pv s.pend.length (wcs bd s.pend)
  low : B ≤ g ∧ B ≤ bn ∧ B ≤ bd
  ok : OkS s
theorem St.lt {g bn bd u : Nat} {pv : Value} {s : S} {w : World} (h : St g bn bd pv u s w) : g < w.heap.size := (Array.getElem?_eq_some_iff.1 h).1
theorem St.keep {g bn bd u : Nat} {pv : Value} {s : S} {w w' : World} {A : Nat → Prop} (h : St g bn bd pv u s w) (k : Kp A w w') (hn : ¬ A g) : St g bn bd pv u s w' := (k.block _ h.lt hn).trans h
theorem St.c0 {g bn bd u : Nat} {pv : Value} {s : S} {w : World} (h : St g bn bd pv u s w) : w.cell? ⟨g, 0, none⟩ = some (.map (some bn)) := cell_of_row _ _ 0 _ _ _ h
theorem St.c1 {g bn bd u : Nat} {pv : Value} {s : S} {w : World} (h : St g bn bd pv u s w) : w.cell? ⟨g, 1, none⟩ = some (.map (some bd)) := cell_of_row _ _ 1 _ _ _ h
theorem St.c2 {g bn bd u : Nat} {pv : Value} {s : S} {w : World} (h : St g bn bd pv u s w) : w.cell? ⟨g, 2, none⟩ = some pv := cell_of_row _ _ 2 _ _ _ h
theorem St.c3 {g bn bd u : Nat} {pv : Value} {s : S} {w : World} (h : St g bn bd pv u s w) : w.cell? ⟨g, 3, none⟩ = some (.int .i64 u) := cell_of_row _ _ 3 _ _ _ h
theorem St.c4 {g bn bd u : Nat} {pv : Value} {s : S} {w : World} (h : St g bn bd pv u s w) : w.cell? ⟨g, 4, none⟩ = some (.int .i64 s.cap) := cell_of_row _ _ 4 _ _ _ h
theorem St.c5 {g bn bd u : Nat} {pv : Value} {s : S} {w : World} (h : St g bn bd pv u s w) : w.cell? ⟨g, 5, none⟩ = some (.int .i64 s.armed) := cell_of_row _ _ 5 _ _ _ h
theorem St.c6 {g bn bd u : Nat} {pv : Value} {s : S} {w : World} (h : St g bn bd pv u s w) : w.cell? ⟨g, 6, none⟩ = some (.bool s.off) := cell_of_row _ _ 6 _ _ _ h
theorem St.c7 {g bn bd u : Nat} {pv : Value} {s : S} {w : World} (h : St g bn bd pv u s w) : w.cell? ⟨g, 7, none⟩ = some (.int .i64 s.age) := cell_of_row _ _ 7 _ _ _ h
theorem St.fz {g bn bd u : Nat} {pv : Value} {s : S} {w : World} (h : St g bn bd pv u s w) (i : Nat) : w.frozen? ⟨g, i, none⟩ = false := frozen_of_row _ _ i _ _ h
theorem St.set2 {g bn bd u : Nat} {pv : Value} {s : S} {w : World} (h : St g bn bd pv u s w) (v : Value) : St g bn bd v u s (w.setCell ⟨g, 2, none⟩ v) := heap_setCell_same _ _ 2 _ _ _ h
theorem St.set3 {g bn bd u : Nat} {pv : Value} {s : S} {w : World} (h : St g bn bd pv u s w) (v : Nat) : St g bn bd pv v s (w.setCell ⟨g, 3, none⟩ (.int .i64 v)) := heap_setCell_same _ _ 3 _ _ _ h
theorem St.set5 {g bn bd u : Nat} {pv : Value} {s : S} {w : World} (h : St g bn bd pv u s w) (v : Nat) : St g bn bd pv u { s with armed := v } (w.setCell ⟨g, 5, none⟩ (.int .i64 v)) := heap_setCell_same _ _ 5 _ _ _ h
theorem St.set6 {g bn bd u : Nat} {pv : Value} {s : S} {w : World} (h : St g bn bd pv u s w) (v : Bool) : St g bn bd pv u { s with off := v } (w.setCell ⟨g, 6, none⟩ (.bool v)) := heap_setCell_same _ _ 6 _ _ _ h
theorem St.set7 {g bn bd u : Nat} {pv : Value} {s : S} {w : World} (h : St g bn bd pv u s w) (v : Nat) : St g bn bd pv u { s with age := v } (w.setCell ⟨g, 7, none⟩ (.int .i64 v)) := heap_setCell_same _ _ 7 _ _ _ h
theorem orNoneC (g : Nat) (w : World) : Calls Tryz.prog 51 #[.pointer (some ⟨g, 0, none⟩)] w fun e w' => e = .returned (.pointer (some ⟨g, 0, none⟩)) ∧ w' = w := by
  go_enter Tryz.func51, Tryz.ntmps51
  go_wp2
  go_ret
  exact ⟨rfl, rfl⟩
theorem usedC {g bn bd u : Nat} {pv : Value} {s : S} {w : World} (h : St g bn bd pv u s w) : Calls Tryz.prog 65 #[.pointer (some ⟨g, 0, none⟩)] w fun e w' => e = .returned (.int .i64 u) ∧ w' = w := by
  have c := h.c3
  clear h
  go_enter Tryz.func65, Tryz.ntmps65
  go_wp2_with (go_at_call 51; refine (orNoneC g _).mono ?_; rintro _ _ ⟨rfl, hw⟩; rw [hw]; clear hw)
  go_ret
  exact ⟨rfl, rfl⟩
theorem roomC {g bn bd u : Nat} {pv : Value} {s : S} {w : World} (h : St g bn bd pv u s w) : Calls Tryz.prog 66 #[.pointer (some ⟨g, 0, none⟩)] w fun e w' => e = .returned (.int .i64 s.cap) ∧ w' = w := by
  have c := h.c4
  clear h
  go_enter Tryz.func66, Tryz.ntmps66
  go_wp2_with (go_at_call 51; refine (orNoneC g _).mono ?_; rintro _ _ ⟨rfl, hw⟩; rw [hw]; clear hw)
  go_ret
  exact ⟨rfl, rfl⟩
theorem ageC {g bn bd u : Nat} {pv : Value} {s : S} {w : World} (h : St g bn bd pv u s w) : Calls Tryz.prog 67 #[.pointer (some ⟨g, 0, none⟩)] w fun e w' => e = .returned (.int .i64 s.age) ∧ w' = w := by
  have c := h.c7
  clear h
  go_enter Tryz.func67, Tryz.ntmps67
  go_wp2_with (go_at_call 51; refine (orNoneC g _).mono ?_; rintro _ _ ⟨rfl, hw⟩; rw [hw]; clear hw)
  go_ret
  exact ⟨rfl, rfl⟩
theorem downC {g bn bd u : Nat} {pv : Value} {s : S} {w : World} (h : St g bn bd pv u s w) : Calls Tryz.prog 33 #[.pointer (some ⟨g, 0, none⟩)] w fun e w' => e = .returned (.bool s.off) ∧ w' = w := by
  have c := h.c6
  clear h
  go_enter Tryz.func33, Tryz.ntmps33
  go_wp2_with (go_at_call 51; refine (orNoneC g _).mono ?_; rintro _ _ ⟨rfl, hw⟩; rw [hw]; clear hw)
  go_ret
  exact ⟨rfl, rfl⟩
theorem pendingC {B g bn bd u n : Nat} {pv : Value} {s : S} {w : World} {xs : List Value} (h : St g bn bd pv u s w) (ho : w.ownsRow B 105 3 pv n xs) : Calls Tryz.prog 64 #[.pointer (some ⟨g, 0, none⟩)] w fun e w' => e = .returned (.int .i64 n) ∧ w' = w := by
  have c := h.c2
  obtain ⟨a, k, rfl⟩ := own_formS ho
  clear h ho
  go_enter Tryz.func64, Tryz.ntmps64
  go_wp2_with (go_at_call 51; refine (orNoneC g _).mono ?_; rintro _ _ ⟨rfl, hw⟩; rw [hw]; clear hw)
  go_ret
  exact ⟨rfl, rfl⟩
def refS (s : S) (k : ByteArray) : Int := if s.off then 124 else if 1 ≤ k.size ∧ k.size ≤ 64 then 0 else 120
theorem refusalC {g bn bd u : Nat} {pv : Value} {s : S} {w : World} (k : ByteArray) (h : St g bn bd pv u s w) : Calls Tryz.prog 88 #[.pointer (some ⟨g, 0, none⟩), .string k] w fun e w' => e = .returned (.int .i64 (refS s k)) ∧ w' = w := by
  have CD : Hid (Calls _ _ _ _ _) := downC h
  have CK : Hid (∀ w, Calls _ _ _ _ _) := fun w => keyGoesC k w
  unfold refS
  clear h
  cases ho : s.off with
  | true =>
    rw [ho] at CD
    go_enter Tryz.func88, Tryz.ntmps88
    go_wp2_with (go_at_call 33; refine CD.out.mono ?_; rintro _ _ ⟨rfl, hw⟩; rw [hw]; clear hw)
    go_ret
    exact ⟨rfl, rfl⟩
  | false =>
    rw [ho] at CD
    by_cases hk : 1 ≤ k.size ∧ k.size ≤ 64
    · rw [decide_eq_true hk] at CK
      rw [if_pos hk]
      clear hk
      go_enter Tryz.func88, Tryz.ntmps88
      go_wp2_with (first | (go_at_call 33; refine CD.out.mono ?_; rintro _ _ ⟨rfl, hw⟩; rw [hw]; clear hw) | (go_at_call 122; refine (CK.out _).mono ?_; rintro _ _ ⟨rfl, hw⟩; rw [hw]; clear hw))
      go_ret
      exact ⟨rfl, rfl⟩
    · rw [decide_eq_false hk] at CK
      rw [if_neg hk]
      clear hk
      go_enter Tryz.func88, Tryz.ntmps88
      go_wp2_with (first | (go_at_call 33; refine CD.out.mono ?_; rintro _ _ ⟨rfl, hw⟩; rw [hw]; clear hw) | (go_at_call 122; refine (CK.out _).mono ?_; rintro _ _ ⟨rfl, hw⟩; rw [hw]; clear hw))
      go_ret
      exact ⟨rfl, rfl⟩
def spendS (s : S) : Int × S := if s.armed = 0 then (0, s) else if s.armed = 1 then (124, { s with armed := 0, off := true }) else (0, { s with armed := s.armed - 1 })
theorem spendC {g bn bd u : Nat} {pv : Value} {s : S} {w : World} (h : St g bn bd pv u s w) (ha : s.armed ≤ 9223372036854775807) : Calls Tryz.prog 94 #[.pointer (some ⟨g, 0, none⟩)] w fun e w' => e = .returned (.int .i64 (spendS s).1) ∧ St g bn bd pv u (spendS s).2 w' ∧ Kp (fun k => k = g) w w' := by
  have c := h.c5
  have f5 := h.fz 5
  have f6 := h.fz 6
  unfold spendS
  by_cases h0 : s.armed = 0
  · rw [if_pos h0]
    have H : Hid (St g bn bd pv u s w) := h
    have h0' : ((s.armed : Int) == 0) = true := by rw [h0]; rfl
    clear h h0
    go_enter Tryz.func94, Tryz.ntmps94
    go_wp2
    go_ret
    exact ⟨rfl, H.out, Kp.refl _ _⟩
  · rw [if_neg h0]
    have h0' : ((s.armed : Int) == 0) = false := by rw [beq_eq_false_iff_ne]; omega
    obtain ⟨q, hq⟩ : ∃ q : Nat, s.armed - 1 = q := ⟨_, rfl⟩
    have HS : Hid (St g bn bd pv u { s with armed := q } (w.setCell ⟨g, 5, none⟩ (.int .i64 (q : Int)))) := h.set5 q
    have hw1 : IntKind.i64.wrap ((s.armed : Int) - 1) = (q : Int) := by
      rw [show (s.armed : Int) - 1 = (q : Int) by omega]
      exact wrap_is _ (by omega)
    have K1 : Hid (Kp (fun k => k = g) w (w.setCell ⟨g, 5, none⟩ (.int .i64 (q : Int)))) := Kp.setCell _ _ _ _ rfl
    rw [hq]
    by_cases h1 : s.armed = 1
    · rw [if_pos h1]
      have hd : q = 0 := by omega
      subst hd
      have f6' := HS.out.fz 6
      have H2 : Hid (St g bn bd pv u { s with armed := 0, off := true } ((w.setCell ⟨g, 5, none⟩ (.int .i64 (0 : Int))).setCell ⟨g, 6, none⟩ (.bool true))) := HS.out.set6 true
      have c6 : (w.setCell ⟨g, 5, none⟩ (.int .i64 (0 : Int))).cell? ⟨g, 6, none⟩ = some (.bool s.off) := HS.out.c6
      clear h h0 h1 hq
      go_enter Tryz.func94, Tryz.ntmps94
      go_wp2
      go_ret
      exact ⟨rfl, H2.out, K1.out.trans (Kp.setCell _ _ _ _ rfl)⟩
    · rw [if_neg h1]
      have hd : 0 < q := by omega
      have hd' : (0 : Int) < (q : Int) := by omega
      clear h h0 h1 hq
      go_enter Tryz.func94, Tryz.ntmps94
      go_wp2
      go_ret
      exact ⟨rfl, HS.out, K1.out⟩
end Go.Proofs.YtlkkibiedlakfaaGreat.ye
