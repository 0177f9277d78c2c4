import Derived.Test.YtdhhbkkinlmgnaaXb
import Derived.Test.YtdhhbkkinlmgnaaZh
namespace Go.Proofs.Ytdhhbkkinlmgnaa.xc
open Go.RowKit Go.PlainAid Go.Maps Go.Shelf
open Go.Proofs.Ytdhhbkkinlmgnaa.ca Go.Proofs.Ytdhhbkkinlmgnaa.cb Go.Proofs.Ytdhhbkkinlmgnaa.cp Go.Proofs.Ytdhhbkkinlmgnaa.kp Go.Proofs.Ytdhhbkkinlmgnaa.ka Go.Proofs.Ytdhhbkkinlmgnaa.ya Go.Proofs.Ytdhhbkkinlmgnaa.yb Go.Proofs.Ytdhhbkkinlmgnaa.yc Go.Proofs.Ytdhhbkkinlmgnaa.ye Go.Proofs.Ytdhhbkkinlmgnaa.yf Go.Proofs.Ytdhhbkkinlmgnaa.yi Go.Proofs.Ytdhhbkkinlmgnaa.yk Go.Proofs.Ytdhhbkkinlmgnaa.yl Go.Proofs.Ytdhhbkkinlmgnaa.zf Go.Proofs.Ytdhhbkkinlmgnaa.zg Go.Proofs.Ytdhhbkkinlmgnaa.xa Go.Proofs.Ytdhhbkkinlmgnaa.xb
set_option linter.unusedVariables false
set_option linter.unusedSimpArgs false
-- the document's store in memory, its state the program's own S
def ww (x : W) : List Value := [.string x.key, .string x.data, .bool x.cut]
def wws (l : List W) : List Value := l.flatMap ww
def dcells (dv wv vv : Value) (s : S) : List Value := [.int .i64 s.cap, dv, wv, .bool s.off, .int .i64 s.armed, .int .i64 s.age, vv]
def Dt (g : Nat) (dv wv vv : Value) (s : S) (w : World) : Prop := w.heap[g]? = some (.cells (dcells dv wv vv s).toArray 42 (0, 0))
structure Ds (B g : Nat) (dv wv vv : Value) (s : S) (w : World) : Prop where
  row : Dt g dv wv vv s w
  dl : Lr B dv s.dur w
  vl : Lr B vv (now s) w
  wl : w.ownsRow B 104 3 wv s.pend.length (wws s.pend)
  low : B ≤ g
  ok : OkS s
theorem Dt.lt {g : Nat} {dv wv vv : Value} {s : S} {w : World} (h : Dt g dv wv vv s w) : g < w.heap.size := (Array.getElem?_eq_some_iff.1 h).1
theorem Dt.c0 {g : Nat} {dv wv vv : Value} {s : S} {w : World} (h : Dt g dv wv vv s w) : w.cell? ⟨g, 0, none⟩ = some (.int .i64 s.cap) := cell_of_row _ _ 0 _ _ _ h
theorem Dt.c1 {g : Nat} {dv wv vv : Value} {s : S} {w : World} (h : Dt g dv wv vv s w) : w.cell? ⟨g, 1, none⟩ = some dv := cell_of_row _ _ 1 _ _ _ h
theorem Dt.c2 {g : Nat} {dv wv vv : Value} {s : S} {w : World} (h : Dt g dv wv vv s w) : w.cell? ⟨g, 2, none⟩ = some wv := cell_of_row _ _ 2 _ _ _ h
theorem Dt.c3 {g : Nat} {dv wv vv : Value} {s : S} {w : World} (h : Dt g dv wv vv s w) : w.cell? ⟨g, 3, none⟩ = some (.bool s.off) := cell_of_row _ _ 3 _ _ _ h
theorem Dt.c4 {g : Nat} {dv wv vv : Value} {s : S} {w : World} (h : Dt g dv wv vv s w) : w.cell? ⟨g, 4, none⟩ = some (.int .i64 s.armed) := cell_of_row _ _ 4 _ _ _ h
theorem Dt.c5 {g : Nat} {dv wv vv : Value} {s : S} {w : World} (h : Dt g dv wv vv s w) : w.cell? ⟨g, 5, none⟩ = some (.int .i64 s.age) := cell_of_row _ _ 5 _ _ _ h
theorem Dt.c6 {g : Nat} {dv wv vv : Value} {s : S} {w : World} (h : Dt g dv wv vv s w) : w.cell? ⟨g, 6, none⟩ = some vv := cell_of_row _ _ 6 _ _ _ h
theorem Dt.fz {g : Nat} {dv wv vv : Value} {s : S} {w : World} (h : Dt g dv wv vv s w) (i : Nat) : w.frozen? ⟨g, i, none⟩ = false := frozen_of_row _ _ i _ _ h
theorem Dt.set1 {g : Nat} {dv wv vv : Value} {s : S} {w : World} (h : Dt g dv wv vv s w) (v : Value) : Dt g v wv vv s (w.setCell ⟨g, 1, none⟩ v) := heap_setCell_same _ _ 1 _ _ _ h
theorem Dt.set2 {g : Nat} {dv wv vv : Value} {s : S} {w : World} (h : Dt g dv wv vv s w) (v : Value) : Dt g dv v vv s (w.setCell ⟨g, 2, none⟩ v) := heap_setCell_same _ _ 2 _ _ _ h
theorem Dt.set3 {g : Nat} {dv wv vv : Value} {s : S} {w : World} (h : Dt g dv wv vv s w) (v : Bool) : Dt g dv wv vv { s with off := v } (w.setCell ⟨g, 3, none⟩ (.bool v)) := heap_setCell_same _ _ 3 _ _ _ h
theorem Dt.set4 {g : Nat} {dv wv vv : Value} {s : S} {w : World} (h : Dt g dv wv vv s w) (v : Nat) : Dt g dv wv vv { s with armed := v } (w.setCell ⟨g, 4, none⟩ (.int .i64 v)) := heap_setCell_same _ _ 4 _ _ _ h
theorem Dt.set5 {g : Nat} {dv wv vv : Value} {s : S} {w : World} (h : Dt g dv wv vv s w) (v : Nat) : Dt g dv wv vv { s with age := v } (w.setCell ⟨g, 5, none⟩ (.int .i64 v)) := heap_setCell_same _ _ 5 _ _ _ h
theorem Dt.set6 {g : Nat} {dv wv vv : Value} {s : S} {w : World} (h : Dt g dv wv vv s w) (v : Value) : Dt g dv wv v s (w.setCell ⟨g, 6, none⟩ v) := heap_setCell_same _ _ 6 _ _ _ h
theorem dr1 : (71 : Nat) ≠ 42 := by decide
theorem dr2 : (104 : Nat) ≠ 42 := by decide
-- what a call writes to in place: the store's own block, and the row of writes
def Fd (g : Nat) (wv : Value) (k : Nat) : Prop := k = g ∨ some k = wv.ownBlock
def Rd (B g : Nat) (wv : Value) (s : S) (w w' : World) : Prop := ∃ dv' wv' vv', Ds B g dv' wv' vv' s w' ∧ Kp (Fd g wv) w w' ∧ ∀ k, some k = wv'.ownBlock → some k = wv.ownBlock ∨ w.heap.size ≤ k
theorem Ds.keep {A : Nat → Prop} {B g : Nat} {dv wv vv : Value} {s : S} {w w' : World} (h : Ds B g dv wv vv s w) (k : Kp A w w') (h1 : ¬ A g) (h2 : ∀ j, some j = wv.ownBlock → ¬ A j) (h3 : ∀ j, some j = dv.ownBlock → ¬ A j) (h4 : ∀ j, some j = vv.ownBlock → ¬ A j) : Ds B g dv wv vv s w' :=
  ⟨(k.block _ h.row.lt h1).trans h.row, own_kp h.dl k h3, own_kp h.vl k h4, own_kp h.wl k h2, h.low, h.ok⟩
theorem Ds.later {B g : Nat} {dv wv vv : Value} {s : S} {w w' : World} (h : Ds B g dv wv vv s w) (b : Below w.heap.size w w') : Ds B g dv wv vv s w' := h.keep (Kp.of_below (A := fun _ => False) b) (fun e => e) (fun _ _ e => e) (fun _ _ e => e) (fun _ _ e => e)
theorem Rd.refl {B g : Nat} {dv wv vv : Value} {s : S} {w w' : World} (h : Ds B g dv wv vv s w) (b : Below w.heap.size w w') : Rd B g wv s w w' := ⟨dv, wv, vv, h.later b, Kp.of_below b, fun k hk => .inl hk⟩
-- the store's own block turned: the rows stay
theorem ds_row {B g : Nat} {dv wv vv : Value} {s s' : S} {w w' : World} (h : Ds B g dv wv vv s w) (hr : Dt g dv wv vv s' w') (k : Kp (fun q => q = g) w w') (e1 : s'.dur = s.dur) (e2 : s'.pend = s.pend) (ok : OkS s') : Ds B g dv wv vv s' w' := by
  have en : now s' = now s := by unfold now; rw [e1, e2]
  refine ⟨hr, ?_, ?_, ?_, h.low, ok⟩
  · rw [e1]; exact own_kp h.dl k (fun j hj e => own_tag h.dl h.row dr1 (by rw [← e]; exact hj))
  · rw [en]; exact own_kp h.vl k (fun j hj e => own_tag h.vl h.row dr1 (by rw [← e]; exact hj))
  · rw [e2]; exact own_kp h.wl k (fun j hj e => own_tag h.wl h.row dr2 (by rw [← e]; exact hj))
theorem rd_row {B g : Nat} {dv wv vv : Value} {s s' : S} {w w' : World} (h : Ds B g dv wv vv s w) (hr : Dt g dv wv vv s' w') (k : Kp (fun q => q = g) w w') (e1 : s'.dur = s.dur) (e2 : s'.pend = s.pend) (ok : OkS s') : Rd B g wv s' w w' :=
  ⟨dv, wv, vv, ds_row h hr k e1 e2 ok, k.mono (fun _ e => .inl e), fun k hk => .inl hk⟩
-- its answers that only read
theorem roomD {B g : Nat} {dv wv vv : Value} {s : S} {w : World} (h : Ds B g dv wv vv s w) : Calls Try.prog 45 #[.pointer (some ⟨g, 0, none⟩)] w fun e w' => e = .returned (.int .i64 s.cap) ∧ w' = w := by
  have c0 := h.row.c0
  clear h
  go_enter Try.func45, Try.ntmps45
  go_wp2
  go_ret
  exact ⟨rfl, rfl⟩
theorem downD {B g : Nat} {dv wv vv : Value} {s : S} {w : World} (h : Ds B g dv wv vv s w) : Calls Try.prog 46 #[.pointer (some ⟨g, 0, none⟩)] w fun e w' => e = .returned (.bool s.off) ∧ w' = w := by
  have c0 := h.row.c3
  clear h
  go_enter Try.func46, Try.ntmps46
  go_wp2
  go_ret
  exact ⟨rfl, rfl⟩
theorem ageD {B g : Nat} {dv wv vv : Value} {s : S} {w : World} (h : Ds B g dv wv vv s w) : Calls Try.prog 47 #[.pointer (some ⟨g, 0, none⟩)] w fun e w' => e = .returned (.int .i64 s.age) ∧ w' = w := by
  have c0 := h.row.c5
  clear h
  go_enter Try.func47, Try.ntmps47
  go_wp2
  go_ret
  exact ⟨rfl, rfl⟩
theorem pendD {B g : Nat} {dv wv vv : Value} {s : S} {w : World} (h : Ds B g dv wv vv s w) : Calls Try.prog 43 #[.pointer (some ⟨g, 0, none⟩)] w fun e w' => e = .returned (.int .i64 s.pend.length) ∧ w' = w := by
  have c0 := h.row.c2
  obtain ⟨a, c, rfl⟩ := own_formS h.wl
  clear h
  go_enter Try.func43, Try.ntmps43
  go_wp2
  go_ret
  exact ⟨rfl, rfl⟩
theorem usedD {B g : Nat} {dv wv vv : Value} {s : S} {w : World} (h : Ds B g dv wv vv s w) : Calls Try.prog 44 #[.pointer (some ⟨g, 0, none⟩)] w fun e w' => e = .returned (.int .i64 (tot (now s) : Nat)) ∧ Below w.heap.size w w' := by
  have c0 := h.row.c6
  have CC : Hid (Calls _ _ _ _ _) := cntsC vv (now s) w h.vl h.ok.now h.ok.lnow
  obtain ⟨a, c, rfl⟩ := lr_form h.vl
  obtain ⟨T, HT⟩ : ∃ T, Hid (tot (now s) = T) := ⟨_, rfl⟩
  rw [HT.out] at CC ⊢
  generalize (now s).length = n at *
  clear h
  go_enter Try.func44, Try.ntmps44
  go_wp2_with fail
  refine CC.out.mono ?_
  rintro _ w1 ⟨rfl, hw⟩
  have B1 : Hid (Below w.heap.size w w1) := by
    obtain ⟨m, hm⟩ := hw
    rw [hm]
    exact zh.below_dN (Below.refl _ _) m
  clear hw
  go_wp2
  go_ret
  exact ⟨rfl, B1.out⟩
theorem goesD (k : ByteArray) (w : World) : Calls Try.prog 66 #[.string k] w fun e w' => e = .returned (.bool (decide (1 ≤ k.size ∧ k.size ≤ 64))) ∧ w' = w := by
  by_cases h1 : 1 ≤ k.size
  · have d1 : decide (1 ≤ (k.size : Int)) = true := decide_eq_true (by omega)
    have d1' : decide (1 ≤ k.size) = true := decide_eq_true h1
    by_cases h2 : k.size ≤ 64
    · have d2 : decide ((k.size : Int) ≤ 64) = true := decide_eq_true (by omega)
      have d2' : decide (k.size ≤ 64) = true := decide_eq_true h2
      rw [decide_eq_true (show 1 ≤ k.size ∧ k.size ≤ 64 from ⟨h1, h2⟩)]
      go_enter Try.func66, Try.ntmps66
      go_wp2
      go_ret
      exact ⟨rfl, rfl⟩
    · have d2 : decide ((k.size : Int) ≤ 64) = false := decide_eq_false (by omega)
      have d2' : decide (k.size ≤ 64) = false := decide_eq_false h2
      rw [decide_eq_false (fun h : 1 ≤ k.size ∧ k.size ≤ 64 => h2 h.2)]
      go_enter Try.func66, Try.ntmps66
      go_wp2
      go_ret
      exact ⟨rfl, rfl⟩
  · have d1 : decide (1 ≤ (k.size : Int)) = false := decide_eq_false (by omega)
    have d1' : decide (1 ≤ k.size) = false := decide_eq_false h1
    rw [decide_eq_false (fun h : 1 ≤ k.size ∧ k.size ≤ 64 => h1 h.1)]
    go_enter Try.func66, Try.ntmps66
    go_wp2
    go_ret
    exact ⟨rfl, rfl⟩
-- New
theorem newD (c : Int) (w : World) (hc : 0 ≤ c ∧ c ≤ 1073741824) : Calls Try.prog 5 #[.int .i64 c] w fun e w' => ∃ g, e = .returned (.pointer (some ⟨g, 0, none⟩)) ∧ Ds w.heap.size g (.slice none 0 0) (.slice none 0 0) (.slice none 0 0) ⟨c, [], [], 0, false, 0⟩ w' ∧ Below w.heap.size w w' := by
  have q1 : decide (c < 0) = false := decide_eq_false (by omega)
  have q2 : decide (1073741824 < c) = false := decide_eq_false (by omega)
  have HC : Hid _ := hc
  clear hc
  go_enter Try.func5, Try.ntmps5
  go_wp2
  go_ret
  refine ⟨_, rfl, ⟨(MapKept.heap_alloc w _).1, World.ownsRow_nil _ _ _ _, World.ownsRow_nil _ _ _ _, World.ownsRow_nil _ _ _ _, Nat.le_refl _, ?_⟩, (Below.refl _ w).alloc (Nat.le_refl _) _⟩
  exact ⟨(by intro p hp; cases hp), List.Pairwise.nil, (by intro x hx; cases hx), HC.out.1, HC.out.2, by simp, by simp, by simp⟩
theorem newDNo (c : Int) (w : World) (hc : ¬ (0 ≤ c ∧ c ≤ 1073741824)) : Calls Try.prog 5 #[.int .i64 c] w fun e w' => e = .returned (.pointer none) ∧ w' = w := by
  rcases (show c < 0 ∨ (¬ c < 0 ∧ 1073741824 < c) by omega) with h | ⟨h, h2⟩
  · have q1 : decide (c < 0) = true := decide_eq_true h
    clear hc h
    go_enter Try.func5, Try.ntmps5
    go_wp2
    go_ret
    exact ⟨rfl, rfl⟩
  · have q1 : decide (c < 0) = false := decide_eq_false h
    have q2 : decide (1073741824 < c) = true := decide_eq_true h2
    clear hc h h2
    go_enter Try.func5, Try.ntmps5
    go_wp2
    go_ret
    exact ⟨rfl, rfl⟩
-- Get
theorem getD {B g : Nat} {dv wv vv : Value} {s : S} {w : World} (k : ByteArray) (h : Ds B g dv wv vv s w) : Calls Try.prog 41 #[.pointer (some ⟨g, 0, none⟩), .string k] w fun e w' => e = .returned (.tuple #[.string (getS s k).1, .int .i64 (getS s k).2]) ∧ w' = w := by
  have c3 := h.row.c3
  have c6 := h.row.c6
  have CG : Hid (∀ w, Calls _ _ _ _ _) := fun w => goesD k w
  have CF : Hid (Calls _ _ _ _ _) := findC vv (now s) k w h.vl h.ok.snow (by have := h.ok.lnow; omega)
  obtain ⟨a, c, rfl⟩ := lr_form h.vl
  have HVL : Hid _ := h.vl
  unfold getS refS
  cases ho : s.off with
  | true =>
    rw [ho] at c3
    simp only [if_true]
    rw [if_pos (by simp)]
    clear h CG CF HVL
    go_enter Try.func41, Try.ntmps41
    go_wp2
    go_ret2
    exact ⟨rfl, rfl⟩
  | false =>
    rw [ho] at c3
    simp only [Bool.false_eq_true, if_false]
    by_cases hk : 1 ≤ k.size ∧ k.size ≤ 64
    · rw [if_pos hk, if_neg (by simp)]
      rw [decide_eq_true hk] at CG
      clear hk
      have HG : ∀ i, Fnd k (now s) i → (i = -1 ∧ rget k (now s) = none) ∨ ∃ (n : Nat) (d : ByteArray) (g2 : Nat), i = n ∧ n < (now s).length ∧ rget k (now s) = some d ∧ a = some ⟨g2, 0, none⟩ ∧ w.cell? ⟨g2, n * 2 + 1, none⟩ = some (.string d) := fun i hi => by
        rcases hi with ⟨h1, h2⟩ | ⟨n, d, h1, h2, h3⟩
        · exact .inl ⟨h2, h1⟩
        · obtain ⟨g2, e1, _, _, e2⟩ := lr_at HVL.out n (k, d) h2
          exact .inr ⟨n, d, g2, h1, (List.getElem?_eq_some_iff.1 h2).1, h3, e1, e2⟩
      have HHG : Hid _ := HG
      clear HG h HVL ho
      generalize (now s).length = L at *
      generalize rget k (now s) = o at *
      go_enter Try.func41, Try.ntmps41
      go_wp2_with fail
      refine (CG.out _).mono ?_
      rintro _ _ ⟨rfl, hw⟩; rw [hw]; clear hw
      go_wp2_with fail
      refine CF.out.mono ?_
      rintro _ _ ⟨⟨i, rfl, hi⟩, hw⟩; rw [hw]; clear hw CF
      rcases HHG.out i hi with ⟨rfl, rfl⟩ | ⟨n, d, g2, rfl, hn, rfl, rfl, c7⟩
      · clear hi HHG
        go_wp2
        go_ret2
        exact ⟨rfl, rfl⟩
      · have hn' : (n : Int) < L := by omega
        have hn0 : ¬ (n : Int) < 0 := by omega
        clear hi HHG
        go_wp2
        go_ret2
        exact ⟨rfl, rfl⟩
    · rw [if_neg hk, if_pos (by simp)]
      rw [decide_eq_false hk] at CG
      clear hk h CF HVL
      go_enter Try.func41, Try.ntmps41
      go_wp2_with fail
      refine (CG.out _).mono ?_
      rintro _ _ ⟨rfl, hw⟩; rw [hw]; clear hw
      go_wp2
      go_ret2
      exact ⟨rfl, rfl⟩
end Go.Proofs.Ytdhhbkkinlmgnaa.xc
