import Derived.Test.YtlkkibiedlakfaaGreatYq
import Derived.Test.YtlkkibiedlakfaaGreatYn
import Derived.Test.YtlkkibiedlakfaaGreatYj
namespace Go.Proofs.YtlkkibiedlakfaaGreat.yr
open Go.RowKit Go.PlainAid Go.Maps Go.Shelf
open Go.Proofs.YtlkkibiedlakfaaGreat.ca Go.Proofs.YtlkkibiedlakfaaGreat.cb Go.Proofs.YtlkkibiedlakfaaGreat.cp Go.Proofs.YtlkkibiedlakfaaGreat.kp Go.Proofs.YtlkkibiedlakfaaGreat.ka Go.Proofs.YtlkkibiedlakfaaGreat.ya Go.Proofs.YtlkkibiedlakfaaGreat.yb Go.Proofs.YtlkkibiedlakfaaGreat.yc Go.Proofs.YtlkkibiedlakfaaGreat.yd Go.Proofs.YtlkkibiedlakfaaGreat.ye Go.Proofs.YtlkkibiedlakfaaGreat.yf Go.Proofs.YtlkkibiedlakfaaGreat.yg Go.Proofs.YtlkkibiedlakfaaGreat.yi Go.Proofs.YtlkkibiedlakfaaGreat.yj Go.Proofs.YtlkkibiedlakfaaGreat.yk Go.Proofs.YtlkkibiedlakfaaGreat.yl Go.Proofs.YtlkkibiedlakfaaGreat.ym Go.Proofs.YtlkkibiedlakfaaGreat.yn Go.Proofs.YtlkkibiedlakfaaGreat.yo Go.Proofs.YtlkkibiedlakfaaGreat.yp Go.Proofs.YtlkkibiedlakfaaGreat.sb Go.Proofs.YtlkkibiedlakfaaGreat.mc
set_option linter.unusedVariables false
set_option linter.unusedSimpArgs false
theorem kset (w : World) (p o : Nat) (v : Value) : Kp (fun q => q = p) w (w.setCell ⟨p, o, none⟩ v) := Kp.setCell _ _ _ _ rfl
theorem put8 (w : World) (p : Nat) (a0 a1 a2 a3 a4 a5 a6 a7 x0 x1 x2 x3 x4 x5 x6 x7 : Value) (t : TypeId) (h : w.heap[p]? = some (.cells #[a0, a1, a2, a3, a4, a5, a6, a7] t (0, 0))) :
    ∀ W, W = ((((((((w.setCell ⟨p, 0, none⟩ x0).setCell ⟨p, 1, none⟩ x1).setCell ⟨p, 2, none⟩ x2).setCell ⟨p, 3, none⟩ x3).setCell ⟨p, 4, none⟩ x4).setCell ⟨p, 5, none⟩ x5).setCell ⟨p, 6, none⟩ x6).setCell ⟨p, 7, none⟩ x7) → W.heap[p]? = some (.cells #[x0, x1, x2, x3, x4, x5, x6, x7] t (0, 0)) ∧ Kp (fun q => q = p) w W := by
  intro W hW
  obtain ⟨u0_, e0⟩ : ∃ v, v = w.setCell ⟨p, 0, none⟩ x0 := ⟨_, rfl⟩
  rw [← e0] at hW
  have h0 : u0_.heap[p]? = some (.cells #[x0, a1, a2, a3, a4, a5, a6, a7] t (0, 0)) := by rw [e0]; exact heap_setCell_same _ _ 0 _ _ x0 h
  have k0 : Kp (fun q => q = p) w u0_ := by rw [e0]; exact kset _ _ _ _
  clear e0
  obtain ⟨u1_, e1⟩ : ∃ v, v = u0_.setCell ⟨p, 1, none⟩ x1 := ⟨_, rfl⟩
  rw [← e1] at hW
  have h1 : u1_.heap[p]? = some (.cells #[x0, x1, a2, a3, a4, a5, a6, a7] t (0, 0)) := by rw [e1]; exact heap_setCell_same _ _ 1 _ _ x1 h0
  have k1 : Kp (fun q => q = p) u0_ u1_ := by rw [e1]; exact kset _ _ _ _
  clear e1
  obtain ⟨u2_, e2⟩ : ∃ v, v = u1_.setCell ⟨p, 2, none⟩ x2 := ⟨_, rfl⟩
  rw [← e2] at hW
  have h2 : u2_.heap[p]? = some (.cells #[x0, x1, x2, a3, a4, a5, a6, a7] t (0, 0)) := by rw [e2]; exact heap_setCell_same _ _ 2 _ _ x2 h1
  have k2 : Kp (fun q => q = p) u1_ u2_ := by rw [e2]; exact kset _ _ _ _
  clear e2
  obtain ⟨u3_, e3⟩ : ∃ v, v = u2_.setCell ⟨p, 3, none⟩ x3 := ⟨_, rfl⟩
  rw [← e3] at hW
  have h3 : u3_.heap[p]? = some (.cells #[x0, x1, x2, x3, a4, a5, a6, a7] t (0, 0)) := by rw [e3]; exact heap_setCell_same _ _ 3 _ _ x3 h2
  have k3 : Kp (fun q => q = p) u2_ u3_ := by rw [e3]; exact kset _ _ _ _
  clear e3
  obtain ⟨u4_, e4⟩ : ∃ v, v = u3_.setCell ⟨p, 4, none⟩ x4 := ⟨_, rfl⟩
  rw [← e4] at hW
  have h4 : u4_.heap[p]? = some (.cells #[x0, x1, x2, x3, x4, a5, a6, a7] t (0, 0)) := by rw [e4]; exact heap_setCell_same _ _ 4 _ _ x4 h3
  have k4 : Kp (fun q => q = p) u3_ u4_ := by rw [e4]; exact kset _ _ _ _
  clear e4
  obtain ⟨u5_, e5⟩ : ∃ v, v = u4_.setCell ⟨p, 5, none⟩ x5 := ⟨_, rfl⟩
  rw [← e5] at hW
  have h5 : u5_.heap[p]? = some (.cells #[x0, x1, x2, x3, x4, x5, a6, a7] t (0, 0)) := by rw [e5]; exact heap_setCell_same _ _ 5 _ _ x5 h4
  have k5 : Kp (fun q => q = p) u4_ u5_ := by rw [e5]; exact kset _ _ _ _
  clear e5
  obtain ⟨u6_, e6⟩ : ∃ v, v = u5_.setCell ⟨p, 6, none⟩ x6 := ⟨_, rfl⟩
  rw [← e6] at hW
  have h6 : u6_.heap[p]? = some (.cells #[x0, x1, x2, x3, x4, x5, x6, a7] t (0, 0)) := by rw [e6]; exact heap_setCell_same _ _ 6 _ _ x6 h5
  have k6 : Kp (fun q => q = p) u5_ u6_ := by rw [e6]; exact kset _ _ _ _
  clear e6
  have h7 : W.heap[p]? = some (.cells #[x0, x1, x2, x3, x4, x5, x6, x7] t (0, 0)) := by rw [hW]; exact heap_setCell_same _ _ 7 _ _ x7 h6
  have k7 : Kp (fun q => q = p) u6_ W := by rw [hW]; exact kset _ _ _ _
  exact ⟨h7, ((((((k0.trans k1).trans k2).trans k3).trans k4).trans k5).trans k6).trans k7⟩
theorem eight {w : World} {p : Nat} {x0 x1 x2 x3 x4 x5 x6 x7 : Value} {t : TypeId} (h : w.heap[p]? = some (.cells #[x0, x1, x2, x3, x4, x5, x6, x7] t (0, 0))) : w.cell? ⟨p, 0, none⟩ = some x0 ∧ w.cell? ⟨p, 1, none⟩ = some x1 ∧ w.cell? ⟨p, 2, none⟩ = some x2 ∧ w.cell? ⟨p, 3, none⟩ = some x3 ∧ w.cell? ⟨p, 4, none⟩ = some x4 ∧ w.cell? ⟨p, 5, none⟩ = some x5 ∧ w.cell? ⟨p, 6, none⟩ = some x6 ∧ w.cell? ⟨p, 7, none⟩ = some x7 :=
  ⟨cell_of_row _ _ 0 _ _ _ h, cell_of_row _ _ 1 _ _ _ h, cell_of_row _ _ 2 _ _ _ h, cell_of_row _ _ 3 _ _ _ h, cell_of_row _ _ 4 _ _ _ h, cell_of_row _ _ 5 _ _ _ h, cell_of_row _ _ 6 _ _ _ h, cell_of_row _ _ 7 _ _ _ h⟩
theorem froz8 {w : World} {p : Nat} {x0 x1 x2 x3 x4 x5 x6 x7 : Value} {t : TypeId} (h : w.heap[p]? = some (.cells #[x0, x1, x2, x3, x4, x5, x6, x7] t (0, 0))) : w.frozen? ⟨p, 0, none⟩ = false ∧ w.frozen? ⟨p, 1, none⟩ = false ∧ w.frozen? ⟨p, 2, none⟩ = false ∧ w.frozen? ⟨p, 3, none⟩ = false ∧ w.frozen? ⟨p, 4, none⟩ = false ∧ w.frozen? ⟨p, 5, none⟩ = false ∧ w.frozen? ⟨p, 6, none⟩ = false ∧ w.frozen? ⟨p, 7, none⟩ = false :=
  ⟨frozen_of_row _ _ 0 _ _ h, frozen_of_row _ _ 1 _ _ h, frozen_of_row _ _ 2 _ _ h, frozen_of_row _ _ 3 _ _ h, frozen_of_row _ _ 4 _ _ h, frozen_of_row _ _ 5 _ _ h, frozen_of_row _ _ 6 _ _ h, frozen_of_row _ _ 7 _ _ h⟩
def doS (s : S) (kind : Int) (k d : ByteArray) (n : Int) : Int × S := if kind = 1 then putS s k d else if kind = 2 then cutS s k else if kind = 3 then syncS s else if kind = 4 then (0, armS s n) else if kind = 5 then (0, crashS s d) else if kind = 6 then ((getS s k).2, s) else (0, s)
abbrev Z8 : Array Value := #[.string ⟨#[]⟩, .slice none 0 0, .int .i64 0, .int .i64 0, .int .i64 0, .int .i64 0, .bool false, .int .i64 0]
-- the law's own boxes, the call, the answer written: the store's call is what remains
theorem rn_wrap {B g bn bd p : Nat} {pv : Value} {s s' : S} {w W1 w2 W : World} (h : Sr B g bn bd pv s w) (b1 : Below w.heap.size w W1) (r : Rn B g bn bd pv s' W1 w2) (k : Kp (fun q => q = p) w2 W) (hp : w.heap.size ≤ p) (hp2 : p < W1.heap.size) : Rn B g bn bd pv s' w W := by
  obtain ⟨pv2, h2, k2, n2⟩ := r
  have key : ∀ j, Fr g bn bd pv2 j → j ≠ p := by
    rintro j (e | e | e | e) rfl
    · have := (sr_in h j (.inl e)).1; omega
    · have := (sr_in h j (.inr (.inl e))).1; omega
    · have := (sr_in h j (.inr (.inr (.inl e)))).1; omega
    · rcases n2 j e with e | e
      · have := (sr_in h j (.inr (.inr (.inr e)))).1; omega
      · omega
  refine ⟨pv2, sr_keep h2 k (fun j hj e => key j hj e), ⟨k.os.trans (k2.os.trans b1.os), k.tape.trans (k2.tape.trans b1.tape), k.output.trans (k2.output.trans b1.output), Nat.le_trans b1.size (Nat.le_trans k2.size k.size), fun j hj hn => ?_⟩, fun j hj => ?_⟩
  · have hs := b1.size
    have hs2 := k2.size
    rw [k.block j (by omega) (by omega), k2.block j (by omega) hn, b1.block j hj]
  · rcases n2 j hj with e | e
    · exact .inl e
    · exact .inr (Nat.le_trans b1.size e)
theorem rn_cells {B g bn bd p : Nat} {pv : Value} {s s' : S} {w W1 w2 : World} {o : Obj} (h : Sr B g bn bd pv s w) (r : Rn B g bn bd pv s' W1 w2) (hp : w.heap.size ≤ p) (ho : W1.heap[p]? = some o) : w2.heap[p]? = some o := by
  obtain ⟨pv2, h2, k2, n2⟩ := r
  rw [k2.block p (Array.getElem?_eq_some_iff.1 ho).1 (fun e => by have := (sr_in h p e).1; omega)]
  exact ho
set_option maxRecDepth 20000 in
set_option maxHeartbeats 6400000 in
theorem do1 {B g bn bd : Nat} {pv : Value} {s : S} {w : World} (kind : Int) (k d : ByteArray) (n : Int) (h : Sr B g bn bd pv s w) (hk : k.size ≤ 140737488355328) (hd : d.size ≤ 140737488355328) (hn : n ≤ 9223372036854775807) (hl : s.dur.length + s.pend.length + 1 < 3518437208883) (ha : s.age < 4398046511104) (hi : isz s.dur ≤ 140737488355000) (hB : B ≤ w.heap.size) (hkind : kind = 1) :
    Calls Tryz.prog 26 #[.pointer (some ⟨g, 0, none⟩), .agg #[.int .i64 kind, .string k, .string d, .int .i64 n]] w fun e w' => ∃ (t : ByteArray) (na : Option Addr) (nl nc : Nat) (a b c : Int) (f : Bool) (q : Int), e = .returned (.agg #[.string t, .slice na nl nc, .int .i64 (doS s kind k d n).1, .int .i64 a, .int .i64 b, .int .i64 c, .bool f, .int .i64 q]) ∧ Rn B g bn bd pv (doS s kind k d n).2 w w' := by
  subst hkind
  have HD : Hid (doS s 1 k d n = putS s k d) := by show _ = _; unfold doS; simp
  rw [HD.out]
  obtain ⟨W1, HW⟩ : ∃ W1, Hid (W1 = (w.alloc (.cells #[.int .i64 1, .string k, .string d, .int .i64 n] 34)).alloc (.cells Z8 66)) := ⟨_, rfl⟩
  have B1 : Hid (Below w.heap.size w W1) := by rw [HW.out]; exact ((Below.refl _ w).alloc (Nat.le_refl _) _).alloc (by simp) _
  have F1 : Hid (W1.heap[w.heap.size + 1]? = some (.cells Z8 66 (0, 0)) ∧ W1.heap.size = w.heap.size + 2) := by
    rw [HW.out]
    have h1 := (MapKept.heap_alloc (w.alloc (.cells #[.int .i64 1, .string k, .string d, .int .i64 n] 34)) (.cells Z8 66)).1
    have e : (w.alloc (.cells #[.int .i64 1, .string k, .string d, .int .i64 n] 34)).heap.size = w.heap.size + 1 := by simp
    rw [e] at h1
    exact ⟨h1, by simp⟩
  have H : Hid (Sr B g bn bd pv s w) := h
  have H1 : Hid (Sr B g bn bd pv s W1) := sr_later h B1.out
  have hB1 : B ≤ W1.heap.size := Nat.le_trans hB B1.out.size
  have RB : Hid (∀ w2, Below W1.heap.size W1 w2 → Rn B g bn bd pv s W1 w2) := fun w2 b2 => Rn.of (sr_later H1.out b2) (Kp.of_below b2)
  clear h
  have CC : Hid (Calls _ _ _ _ _) := putC k d H1.out hk hd hl hB1
  rw [HW.out] at CC RB
  go_enter Tryz.func26, Tryz.ntmps26
  go_upto_region 4 with (first | (go_at_call 43; refine CC.out.mono ?_; rintro _ w2 ⟨rfl, r2⟩; have R2 : Hid (Rn _ _ _ _ _ _ _ w2) := r2; clear r2) | go_in)
  have F2 : Hid (w2.heap[w.heap.size + 1]? = some (.cells Z8 66 (0, 0))) := rn_cells H.out R2.out (by omega) (by have := F1.out.1; rw [HW.out] at this; exact this)
  obtain ⟨d0, d1, d2, d3, d4, d5, d6, d7⟩ := eight F2.out
  obtain ⟨g0, g1, g2, g3, g4, g5, g6, g7⟩ := froz8 F2.out
  have FIN : Hid (∀ W', W' = _ → _) := put8 w2 (w.heap.size + 1) _ _ _ _ _ _ _ _ (.string ⟨#[]⟩) (.slice none 0 0) (.int .i64 (putS s k d).1) (.int .i64 0) (.int .i64 0) (.int .i64 0) (.bool false) (.int .i64 0) _ F2.out
  clear F2
  go_wp2_with (fail)
  obtain ⟨G, hk2⟩ := FIN.out _ rfl
  obtain ⟨e0, e1, e2, e3, e4, e5, e6, e7⟩ := eight G
  refine bodyPost_ret (by simp [results, Tryz.results26, go_sem, e0, e1, e2, e3, e4, e5, e6, e7]; try rfl) rfl ?_
  exact ⟨_, _, _, _, _, _, _, _, _, rfl, rn_wrap H.out (by have := B1.out; rw [HW.out] at this; exact this) R2.out hk2 (by omega) (by have := F1.out.2; rw [HW.out] at this; omega)⟩
set_option maxRecDepth 20000 in
set_option maxHeartbeats 6400000 in
theorem do2 {B g bn bd : Nat} {pv : Value} {s : S} {w : World} (kind : Int) (k d : ByteArray) (n : Int) (h : Sr B g bn bd pv s w) (hk : k.size ≤ 140737488355328) (hd : d.size ≤ 140737488355328) (hn : n ≤ 9223372036854775807) (hl : s.dur.length + s.pend.length + 1 < 3518437208883) (ha : s.age < 4398046511104) (hi : isz s.dur ≤ 140737488355000) (hB : B ≤ w.heap.size) (hkind : kind = 2) :
    Calls Tryz.prog 26 #[.pointer (some ⟨g, 0, none⟩), .agg #[.int .i64 kind, .string k, .string d, .int .i64 n]] w fun e w' => ∃ (t : ByteArray) (na : Option Addr) (nl nc : Nat) (a b c : Int) (f : Bool) (q : Int), e = .returned (.agg #[.string t, .slice na nl nc, .int .i64 (doS s kind k d n).1, .int .i64 a, .int .i64 b, .int .i64 c, .bool f, .int .i64 q]) ∧ Rn B g bn bd pv (doS s kind k d n).2 w w' := by
  subst hkind
  have HD : Hid (doS s 2 k d n = cutS s k) := by show _ = _; unfold doS; simp
  rw [HD.out]
  obtain ⟨W1, HW⟩ : ∃ W1, Hid (W1 = (w.alloc (.cells #[.int .i64 2, .string k, .string d, .int .i64 n] 34)).alloc (.cells Z8 66)) := ⟨_, rfl⟩
  have B1 : Hid (Below w.heap.size w W1) := by rw [HW.out]; exact ((Below.refl _ w).alloc (Nat.le_refl _) _).alloc (by simp) _
  have F1 : Hid (W1.heap[w.heap.size + 1]? = some (.cells Z8 66 (0, 0)) ∧ W1.heap.size = w.heap.size + 2) := by
    rw [HW.out]
    have h1 := (MapKept.heap_alloc (w.alloc (.cells #[.int .i64 2, .string k, .string d, .int .i64 n] 34)) (.cells Z8 66)).1
    have e : (w.alloc (.cells #[.int .i64 2, .string k, .string d, .int .i64 n] 34)).heap.size = w.heap.size + 1 := by simp
    rw [e] at h1
    exact ⟨h1, by simp⟩
  have H : Hid (Sr B g bn bd pv s w) := h
  have H1 : Hid (Sr B g bn bd pv s W1) := sr_later h B1.out
  have hB1 : B ≤ W1.heap.size := Nat.le_trans hB B1.out.size
  have RB : Hid (∀ w2, Below W1.heap.size W1 w2 → Rn B g bn bd pv s W1 w2) := fun w2 b2 => Rn.of (sr_later H1.out b2) (Kp.of_below b2)
  clear h
  have CC : Hid (Calls _ _ _ _ _) := cutC k H1.out hk hl hB1
  rw [HW.out] at CC RB
  go_enter Tryz.func26, Tryz.ntmps26
  go_upto_region 7 with (first | (go_at_call 62; refine CC.out.mono ?_; rintro _ w2 ⟨rfl, r2⟩; have R2 : Hid (Rn _ _ _ _ _ _ _ w2) := r2; clear r2) | go_in)
  have F2 : Hid (w2.heap[w.heap.size + 1]? = some (.cells Z8 66 (0, 0))) := rn_cells H.out R2.out (by omega) (by have := F1.out.1; rw [HW.out] at this; exact this)
  obtain ⟨d0, d1, d2, d3, d4, d5, d6, d7⟩ := eight F2.out
  obtain ⟨g0, g1, g2, g3, g4, g5, g6, g7⟩ := froz8 F2.out
  have FIN : Hid (∀ W', W' = _ → _) := put8 w2 (w.heap.size + 1) _ _ _ _ _ _ _ _ (.string ⟨#[]⟩) (.slice none 0 0) (.int .i64 (cutS s k).1) (.int .i64 0) (.int .i64 0) (.int .i64 0) (.bool false) (.int .i64 0) _ F2.out
  clear F2
  go_wp2_with (fail)
  obtain ⟨G, hk2⟩ := FIN.out _ rfl
  obtain ⟨e0, e1, e2, e3, e4, e5, e6, e7⟩ := eight G
  refine bodyPost_ret (by simp [results, Tryz.results26, go_sem, e0, e1, e2, e3, e4, e5, e6, e7]; try rfl) rfl ?_
  exact ⟨_, _, _, _, _, _, _, _, _, rfl, rn_wrap H.out (by have := B1.out; rw [HW.out] at this; exact this) R2.out hk2 (by omega) (by have := F1.out.2; rw [HW.out] at this; omega)⟩
set_option maxRecDepth 20000 in
set_option maxHeartbeats 6400000 in
theorem do3 {B g bn bd : Nat} {pv : Value} {s : S} {w : World} (kind : Int) (k d : ByteArray) (n : Int) (h : Sr B g bn bd pv s w) (hk : k.size ≤ 140737488355328) (hd : d.size ≤ 140737488355328) (hn : n ≤ 9223372036854775807) (hl : s.dur.length + s.pend.length + 1 < 3518437208883) (ha : s.age < 4398046511104) (hi : isz s.dur ≤ 140737488355000) (hB : B ≤ w.heap.size) (hkind : kind = 3) :
    Calls Tryz.prog 26 #[.pointer (some ⟨g, 0, none⟩), .agg #[.int .i64 kind, .string k, .string d, .int .i64 n]] w fun e w' => ∃ (t : ByteArray) (na : Option Addr) (nl nc : Nat) (a b c : Int) (f : Bool) (q : Int), e = .returned (.agg #[.string t, .slice na nl nc, .int .i64 (doS s kind k d n).1, .int .i64 a, .int .i64 b, .int .i64 c, .bool f, .int .i64 q]) ∧ Rn B g bn bd pv (doS s kind k d n).2 w w' := by
  subst hkind
  have HD : Hid (doS s 3 k d n = syncS s) := by show _ = _; unfold doS; simp
  rw [HD.out]
  obtain ⟨W1, HW⟩ : ∃ W1, Hid (W1 = (w.alloc (.cells #[.int .i64 3, .string k, .string d, .int .i64 n] 34)).alloc (.cells Z8 66)) := ⟨_, rfl⟩
  have B1 : Hid (Below w.heap.size w W1) := by rw [HW.out]; exact ((Below.refl _ w).alloc (Nat.le_refl _) _).alloc (by simp) _
  have F1 : Hid (W1.heap[w.heap.size + 1]? = some (.cells Z8 66 (0, 0)) ∧ W1.heap.size = w.heap.size + 2) := by
    rw [HW.out]
    have h1 := (MapKept.heap_alloc (w.alloc (.cells #[.int .i64 3, .string k, .string d, .int .i64 n] 34)) (.cells Z8 66)).1
    have e : (w.alloc (.cells #[.int .i64 3, .string k, .string d, .int .i64 n] 34)).heap.size = w.heap.size + 1 := by simp
    rw [e] at h1
    exact ⟨h1, by simp⟩
  have H : Hid (Sr B g bn bd pv s w) := h
  have H1 : Hid (Sr B g bn bd pv s W1) := sr_later h B1.out
  have hB1 : B ≤ W1.heap.size := Nat.le_trans hB B1.out.size
  have RB : Hid (∀ w2, Below W1.heap.size W1 w2 → Rn B g bn bd pv s W1 w2) := fun w2 b2 => Rn.of (sr_later H1.out b2) (Kp.of_below b2)
  clear h
  have CC : Hid (Calls _ _ _ _ _) := syncC H1.out hB1
  rw [HW.out] at CC RB
  go_enter Tryz.func26, Tryz.ntmps26
  go_upto_region 10 with (first | (go_at_call 47; refine CC.out.mono ?_; rintro _ w2 ⟨rfl, r2⟩; have R2 : Hid (Rn _ _ _ _ _ _ _ w2) := r2; clear r2) | go_in)
  have F2 : Hid (w2.heap[w.heap.size + 1]? = some (.cells Z8 66 (0, 0))) := rn_cells H.out R2.out (by omega) (by have := F1.out.1; rw [HW.out] at this; exact this)
  obtain ⟨d0, d1, d2, d3, d4, d5, d6, d7⟩ := eight F2.out
  obtain ⟨g0, g1, g2, g3, g4, g5, g6, g7⟩ := froz8 F2.out
  have FIN : Hid (∀ W', W' = _ → _) := put8 w2 (w.heap.size + 1) _ _ _ _ _ _ _ _ (.string ⟨#[]⟩) (.slice none 0 0) (.int .i64 (syncS s).1) (.int .i64 0) (.int .i64 0) (.int .i64 0) (.bool false) (.int .i64 0) _ F2.out
  clear F2
  go_wp2_with (fail)
  obtain ⟨G, hk2⟩ := FIN.out _ rfl
  obtain ⟨e0, e1, e2, e3, e4, e5, e6, e7⟩ := eight G
  refine bodyPost_ret (by simp [results, Tryz.results26, go_sem, e0, e1, e2, e3, e4, e5, e6, e7]; try rfl) rfl ?_
  exact ⟨_, _, _, _, _, _, _, _, _, rfl, rn_wrap H.out (by have := B1.out; rw [HW.out] at this; exact this) R2.out hk2 (by omega) (by have := F1.out.2; rw [HW.out] at this; omega)⟩
set_option maxRecDepth 20000 in
set_option maxHeartbeats 6400000 in
theorem do4 {B g bn bd : Nat} {pv : Value} {s : S} {w : World} (kind : Int) (k d : ByteArray) (n : Int) (h : Sr B g bn bd pv s w) (hk : k.size ≤ 140737488355328) (hd : d.size ≤ 140737488355328) (hn : n ≤ 9223372036854775807) (hl : s.dur.length + s.pend.length + 1 < 3518437208883) (ha : s.age < 4398046511104) (hi : isz s.dur ≤ 140737488355000) (hB : B ≤ w.heap.size) (hkind : kind = 4) :
    Calls Tryz.prog 26 #[.pointer (some ⟨g, 0, none⟩), .agg #[.int .i64 kind, .string k, .string d, .int .i64 n]] w fun e w' => ∃ (t : ByteArray) (na : Option Addr) (nl nc : Nat) (a b c : Int) (f : Bool) (q : Int), e = .returned (.agg #[.string t, .slice na nl nc, .int .i64 (doS s kind k d n).1, .int .i64 a, .int .i64 b, .int .i64 c, .bool f, .int .i64 q]) ∧ Rn B g bn bd pv (doS s kind k d n).2 w w' := by
  subst hkind
  have HD : Hid (doS s 4 k d n = (0, armS s n)) := by show _ = _; unfold doS; simp
  rw [HD.out]
  obtain ⟨W1, HW⟩ : ∃ W1, Hid (W1 = (w.alloc (.cells #[.int .i64 4, .string k, .string d, .int .i64 n] 34)).alloc (.cells Z8 66)) := ⟨_, rfl⟩
  have B1 : Hid (Below w.heap.size w W1) := by rw [HW.out]; exact ((Below.refl _ w).alloc (Nat.le_refl _) _).alloc (by simp) _
  have F1 : Hid (W1.heap[w.heap.size + 1]? = some (.cells Z8 66 (0, 0)) ∧ W1.heap.size = w.heap.size + 2) := by
    rw [HW.out]
    have h1 := (MapKept.heap_alloc (w.alloc (.cells #[.int .i64 4, .string k, .string d, .int .i64 n] 34)) (.cells Z8 66)).1
    have e : (w.alloc (.cells #[.int .i64 4, .string k, .string d, .int .i64 n] 34)).heap.size = w.heap.size + 1 := by simp
    rw [e] at h1
    exact ⟨h1, by simp⟩
  have H : Hid (Sr B g bn bd pv s w) := h
  have H1 : Hid (Sr B g bn bd pv s W1) := sr_later h B1.out
  have hB1 : B ≤ W1.heap.size := Nat.le_trans hB B1.out.size
  have RB : Hid (∀ w2, Below W1.heap.size W1 w2 → Rn B g bn bd pv s W1 w2) := fun w2 b2 => Rn.of (sr_later H1.out b2) (Kp.of_below b2)
  clear h
  have CC : Hid (Calls _ _ _ _ _) := armC n H1.out hn
  rw [HW.out] at CC RB
  go_enter Tryz.func26, Tryz.ntmps26
  go_upto_region 24 with (first | (go_at_call 49; refine CC.out.mono ?_; rintro _ w2 ⟨rfl, r2⟩; have R2 : Hid (Rn _ _ _ _ _ _ _ w2) := r2; clear r2) | go_in)
  have F2 : Hid (w2.heap[w.heap.size + 1]? = some (.cells Z8 66 (0, 0))) := rn_cells H.out R2.out (by omega) (by have := F1.out.1; rw [HW.out] at this; exact this)
  obtain ⟨d0, d1, d2, d3, d4, d5, d6, d7⟩ := eight F2.out
  obtain ⟨g0, g1, g2, g3, g4, g5, g6, g7⟩ := froz8 F2.out
  have FIN : Hid (∀ W', W' = _ → _) := put8 w2 (w.heap.size + 1) _ _ _ _ _ _ _ _ (.string ⟨#[]⟩) (.slice none 0 0) (.int .i64 0) (.int .i64 0) (.int .i64 0) (.int .i64 0) (.bool false) (.int .i64 0) _ F2.out
  clear F2
  go_wp2_with (fail)
  obtain ⟨G, hk2⟩ := FIN.out _ rfl
  obtain ⟨e0, e1, e2, e3, e4, e5, e6, e7⟩ := eight G
  refine bodyPost_ret (by simp [results, Tryz.results26, go_sem, e0, e1, e2, e3, e4, e5, e6, e7]; try rfl) rfl ?_
  exact ⟨_, _, _, _, _, _, _, _, _, rfl, rn_wrap H.out (by have := B1.out; rw [HW.out] at this; exact this) R2.out hk2 (by omega) (by have := F1.out.2; rw [HW.out] at this; omega)⟩
set_option maxRecDepth 20000 in
set_option maxHeartbeats 6400000 in
theorem do5 {B g bn bd : Nat} {pv : Value} {s : S} {w : World} (kind : Int) (k d : ByteArray) (n : Int) (h : Sr B g bn bd pv s w) (hk : k.size ≤ 140737488355328) (hd : d.size ≤ 140737488355328) (hn : n ≤ 9223372036854775807) (hl : s.dur.length + s.pend.length + 1 < 3518437208883) (ha : s.age < 4398046511104) (hi : isz s.dur ≤ 140737488355000) (hB : B ≤ w.heap.size) (hkind : kind = 5) :
    Calls Tryz.prog 26 #[.pointer (some ⟨g, 0, none⟩), .agg #[.int .i64 kind, .string k, .string d, .int .i64 n]] w fun e w' => ∃ (t : ByteArray) (na : Option Addr) (nl nc : Nat) (a b c : Int) (f : Bool) (q : Int), e = .returned (.agg #[.string t, .slice na nl nc, .int .i64 (doS s kind k d n).1, .int .i64 a, .int .i64 b, .int .i64 c, .bool f, .int .i64 q]) ∧ Rn B g bn bd pv (doS s kind k d n).2 w w' := by
  subst hkind
  have HD : Hid (doS s 5 k d n = (0, crashS s d)) := by show _ = _; unfold doS; simp
  rw [HD.out]
  obtain ⟨W1, HW⟩ : ∃ W1, Hid (W1 = (w.alloc (.cells #[.int .i64 5, .string k, .string d, .int .i64 n] 34)).alloc (.cells Z8 66)) := ⟨_, rfl⟩
  have B1 : Hid (Below w.heap.size w W1) := by rw [HW.out]; exact ((Below.refl _ w).alloc (Nat.le_refl _) _).alloc (by simp) _
  have F1 : Hid (W1.heap[w.heap.size + 1]? = some (.cells Z8 66 (0, 0)) ∧ W1.heap.size = w.heap.size + 2) := by
    rw [HW.out]
    have h1 := (MapKept.heap_alloc (w.alloc (.cells #[.int .i64 5, .string k, .string d, .int .i64 n] 34)) (.cells Z8 66)).1
    have e : (w.alloc (.cells #[.int .i64 5, .string k, .string d, .int .i64 n] 34)).heap.size = w.heap.size + 1 := by simp
    rw [e] at h1
    exact ⟨h1, by simp⟩
  have H : Hid (Sr B g bn bd pv s w) := h
  have H1 : Hid (Sr B g bn bd pv s W1) := sr_later h B1.out
  have hB1 : B ≤ W1.heap.size := Nat.le_trans hB B1.out.size
  have RB : Hid (∀ w2, Below W1.heap.size W1 w2 → Rn B g bn bd pv s W1 w2) := fun w2 b2 => Rn.of (sr_later H1.out b2) (Kp.of_below b2)
  clear h
  have CC : Hid (Calls _ _ _ _ _) := crashC d H1.out hd ha
  rw [HW.out] at CC RB
  go_enter Tryz.func26, Tryz.ntmps26
  go_upto_region 24 with (first | (go_at_call 15; refine CC.out.mono ?_; rintro _ w2 ⟨rfl, r2⟩; have R2 : Hid (Rn _ _ _ _ _ _ _ w2) := r2; clear r2) | go_in)
  have F2 : Hid (w2.heap[w.heap.size + 1]? = some (.cells Z8 66 (0, 0))) := rn_cells H.out R2.out (by omega) (by have := F1.out.1; rw [HW.out] at this; exact this)
  obtain ⟨d0, d1, d2, d3, d4, d5, d6, d7⟩ := eight F2.out
  obtain ⟨g0, g1, g2, g3, g4, g5, g6, g7⟩ := froz8 F2.out
  have FIN : Hid (∀ W', W' = _ → _) := put8 w2 (w.heap.size + 1) _ _ _ _ _ _ _ _ (.string ⟨#[]⟩) (.slice none 0 0) (.int .i64 0) (.int .i64 0) (.int .i64 0) (.int .i64 0) (.bool false) (.int .i64 0) _ F2.out
  clear F2
  go_wp2_with (fail)
  obtain ⟨G, hk2⟩ := FIN.out _ rfl
  obtain ⟨e0, e1, e2, e3, e4, e5, e6, e7⟩ := eight G
  refine bodyPost_ret (by simp [results, Tryz.results26, go_sem, e0, e1, e2, e3, e4, e5, e6, e7]; try rfl) rfl ?_
  exact ⟨_, _, _, _, _, _, _, _, _, rfl, rn_wrap H.out (by have := B1.out; rw [HW.out] at this; exact this) R2.out hk2 (by omega) (by have := F1.out.2; rw [HW.out] at this; omega)⟩
set_option maxRecDepth 20000 in
set_option maxHeartbeats 6400000 in
theorem do6 {B g bn bd : Nat} {pv : Value} {s : S} {w : World} (kind : Int) (k d : ByteArray) (n : Int) (h : Sr B g bn bd pv s w) (hk : k.size ≤ 140737488355328) (hd : d.size ≤ 140737488355328) (hn : n ≤ 9223372036854775807) (hl : s.dur.length + s.pend.length + 1 < 3518437208883) (ha : s.age < 4398046511104) (hi : isz s.dur ≤ 140737488355000) (hB : B ≤ w.heap.size) (hkind : kind = 6) :
    Calls Tryz.prog 26 #[.pointer (some ⟨g, 0, none⟩), .agg #[.int .i64 kind, .string k, .string d, .int .i64 n]] w fun e w' => ∃ (t : ByteArray) (na : Option Addr) (nl nc : Nat) (a b c : Int) (f : Bool) (q : Int), e = .returned (.agg #[.string t, .slice na nl nc, .int .i64 (doS s kind k d n).1, .int .i64 a, .int .i64 b, .int .i64 c, .bool f, .int .i64 q]) ∧ Rn B g bn bd pv (doS s kind k d n).2 w w' := by
  subst hkind
  have HD : Hid (doS s 6 k d n = ((getS s k).2, s)) := by show _ = _; unfold doS; simp
  rw [HD.out]
  obtain ⟨W1, HW⟩ : ∃ W1, Hid (W1 = (w.alloc (.cells #[.int .i64 6, .string k, .string d, .int .i64 n] 34)).alloc (.cells Z8 66)) := ⟨_, rfl⟩
  have B1 : Hid (Below w.heap.size w W1) := by rw [HW.out]; exact ((Below.refl _ w).alloc (Nat.le_refl _) _).alloc (by simp) _
  have F1 : Hid (W1.heap[w.heap.size + 1]? = some (.cells Z8 66 (0, 0)) ∧ W1.heap.size = w.heap.size + 2) := by
    rw [HW.out]
    have h1 := (MapKept.heap_alloc (w.alloc (.cells #[.int .i64 6, .string k, .string d, .int .i64 n] 34)) (.cells Z8 66)).1
    have e : (w.alloc (.cells #[.int .i64 6, .string k, .string d, .int .i64 n] 34)).heap.size = w.heap.size + 1 := by simp
    rw [e] at h1
    exact ⟨h1, by simp⟩
  have H : Hid (Sr B g bn bd pv s w) := h
  have H1 : Hid (Sr B g bn bd pv s W1) := sr_later h B1.out
  have hB1 : B ≤ W1.heap.size := Nat.le_trans hB B1.out.size
  have RB : Hid (∀ w2, Below W1.heap.size W1 w2 → Rn B g bn bd pv s W1 w2) := fun w2 b2 => Rn.of (sr_later H1.out b2) (Kp.of_below b2)
  clear h
  have CC : Hid (Calls _ _ _ _ _) := getC k H1.out hk
  rw [HW.out] at CC RB
  go_enter Tryz.func26, Tryz.ntmps26
  go_upto_region 17 with (first | (go_at_call 63; refine CC.out.mono ?_; rintro _ w2 ⟨rfl, b2⟩; have R2 : Hid (Rn B g bn bd pv s _ w2) := RB.out w2 b2; clear b2) | go_in)
  have F2 : Hid (w2.heap[w.heap.size + 1]? = some (.cells Z8 66 (0, 0))) := rn_cells H.out R2.out (by omega) (by have := F1.out.1; rw [HW.out] at this; exact this)
  obtain ⟨d0, d1, d2, d3, d4, d5, d6, d7⟩ := eight F2.out
  obtain ⟨g0, g1, g2, g3, g4, g5, g6, g7⟩ := froz8 F2.out
  have FIN : Hid (∀ W', W' = _ → _) := put8 w2 (w.heap.size + 1) _ _ _ _ _ _ _ _ (.string (getS s k).1) (.slice none 0 0) (.int .i64 (getS s k).2) (.int .i64 0) (.int .i64 0) (.int .i64 0) (.bool false) (.int .i64 0) _ F2.out
  clear F2
  go_wp2_with (fail)
  obtain ⟨G, hk2⟩ := FIN.out _ rfl
  obtain ⟨e0, e1, e2, e3, e4, e5, e6, e7⟩ := eight G
  refine bodyPost_ret (by simp [results, Tryz.results26, go_sem, e0, e1, e2, e3, e4, e5, e6, e7]; try rfl) rfl ?_
  exact ⟨_, _, _, _, _, _, _, _, _, rfl, rn_wrap H.out (by have := B1.out; rw [HW.out] at this; exact this) R2.out hk2 (by omega) (by have := F1.out.2; rw [HW.out] at this; omega)⟩
set_option maxRecDepth 20000 in
set_option maxHeartbeats 6400000 in
theorem do7 {B g bn bd : Nat} {pv : Value} {s : S} {w : World} (kind : Int) (k d : ByteArray) (n : Int) (h : Sr B g bn bd pv s w) (hk : k.size ≤ 140737488355328) (hd : d.size ≤ 140737488355328) (hn : n ≤ 9223372036854775807) (hl : s.dur.length + s.pend.length + 1 < 3518437208883) (ha : s.age < 4398046511104) (hi : isz s.dur ≤ 140737488355000) (hB : B ≤ w.heap.size) (hkind : kind = 7) :
    Calls Tryz.prog 26 #[.pointer (some ⟨g, 0, none⟩), .agg #[.int .i64 kind, .string k, .string d, .int .i64 n]] w fun e w' => ∃ (t : ByteArray) (na : Option Addr) (nl nc : Nat) (a b c : Int) (f : Bool) (q : Int), e = .returned (.agg #[.string t, .slice na nl nc, .int .i64 (doS s kind k d n).1, .int .i64 a, .int .i64 b, .int .i64 c, .bool f, .int .i64 q]) ∧ Rn B g bn bd pv (doS s kind k d n).2 w w' := by
  subst hkind
  have HD : Hid (doS s 7 k d n = (0, s)) := by show _ = _; unfold doS; simp
  rw [HD.out]
  obtain ⟨W1, HW⟩ : ∃ W1, Hid (W1 = (w.alloc (.cells #[.int .i64 7, .string k, .string d, .int .i64 n] 34)).alloc (.cells Z8 66)) := ⟨_, rfl⟩
  have B1 : Hid (Below w.heap.size w W1) := by rw [HW.out]; exact ((Below.refl _ w).alloc (Nat.le_refl _) _).alloc (by simp) _
  have F1 : Hid (W1.heap[w.heap.size + 1]? = some (.cells Z8 66 (0, 0)) ∧ W1.heap.size = w.heap.size + 2) := by
    rw [HW.out]
    have h1 := (MapKept.heap_alloc (w.alloc (.cells #[.int .i64 7, .string k, .string d, .int .i64 n] 34)) (.cells Z8 66)).1
    have e : (w.alloc (.cells #[.int .i64 7, .string k, .string d, .int .i64 n] 34)).heap.size = w.heap.size + 1 := by simp
    rw [e] at h1
    exact ⟨h1, by simp⟩
  have H : Hid (Sr B g bn bd pv s w) := h
  have H1 : Hid (Sr B g bn bd pv s W1) := sr_later h B1.out
  have hB1 : B ≤ W1.heap.size := Nat.le_trans hB B1.out.size
  have RB : Hid (∀ w2, Below W1.heap.size W1 w2 → Rn B g bn bd pv s W1 w2) := fun w2 b2 => Rn.of (sr_later H1.out b2) (Kp.of_below b2)
  clear h
  have CC : Hid (Calls _ _ _ _ _) := keysC k H1.out
  rw [HW.out] at CC RB
  go_enter Tryz.func26, Tryz.ntmps26
  go_wp2_with (first | (go_at_call 10; refine CC.out.mono ?_; rintro _ w2 ⟨v, rfl, o2, b2⟩; obtain ⟨va, vc, hv⟩ := own_formS o2; subst hv; clear o2; have R2 : Hid (Rn B g bn bd pv s _ w2) := RB.out w2 b2; clear b2; have F2 : Hid (w2.heap[w.heap.size + 1]? = some (.cells Z8 66 (0, 0))) := rn_cells H.out R2.out (by omega) (by have := F1.out.1; rw [HW.out] at this; exact this); obtain ⟨d0, d1, d2, d3, d4, d5, d6, d7⟩ := eight F2.out; obtain ⟨g0, g1, g2, g3, g4, g5, g6, g7⟩ := froz8 F2.out; have FIN : Hid (∀ W_, W_ = _ → _) := put8 w2 (w.heap.size + 1) _ _ _ _ _ _ _ _ (.string ⟨#[]⟩) (.slice va (keysS s k).length vc) (.int .i64 0) (.int .i64 0) (.int .i64 0) (.int .i64 0) (.bool false) (.int .i64 0) _ F2.out; clear F2) | go_in)
  obtain ⟨G, hk2⟩ := FIN.out _ rfl
  obtain ⟨e0, e1, e2, e3, e4, e5, e6, e7⟩ := eight G
  refine bodyPost_ret (by simp [results, Tryz.results26, go_sem, e0, e1, e2, e3, e4, e5, e6, e7]; try rfl) rfl ?_
  exact ⟨_, _, _, _, _, _, _, _, _, rfl, rn_wrap H.out (by have := B1.out; rw [HW.out] at this; exact this) R2.out hk2 (by omega) (by have := F1.out.2; rw [HW.out] at this; omega)⟩
set_option maxRecDepth 20000 in
set_option maxHeartbeats 6400000 in
theorem do8 {B g bn bd : Nat} {pv : Value} {s : S} {w : World} (kind : Int) (k d : ByteArray) (n : Int) (h : Sr B g bn bd pv s w) (hk : k.size ≤ 140737488355328) (hd : d.size ≤ 140737488355328) (hn : n ≤ 9223372036854775807) (hl : s.dur.length + s.pend.length + 1 < 3518437208883) (ha : s.age < 4398046511104) (hi : isz s.dur ≤ 140737488355000) (hB : B ≤ w.heap.size) (hkind : kind = 8) :
    Calls Tryz.prog 26 #[.pointer (some ⟨g, 0, none⟩), .agg #[.int .i64 kind, .string k, .string d, .int .i64 n]] w fun e w' => ∃ (t : ByteArray) (na : Option Addr) (nl nc : Nat) (a b c : Int) (f : Bool) (q : Int), e = .returned (.agg #[.string t, .slice na nl nc, .int .i64 (doS s kind k d n).1, .int .i64 a, .int .i64 b, .int .i64 c, .bool f, .int .i64 q]) ∧ Rn B g bn bd pv (doS s kind k d n).2 w w' := by
  subst hkind
  have HD : Hid (doS s 8 k d n = (0, s)) := by show _ = _; unfold doS; simp
  rw [HD.out]
  obtain ⟨W1, HW⟩ : ∃ W1, Hid (W1 = (w.alloc (.cells #[.int .i64 8, .string k, .string d, .int .i64 n] 34)).alloc (.cells Z8 66)) := ⟨_, rfl⟩
  have B1 : Hid (Below w.heap.size w W1) := by rw [HW.out]; exact ((Below.refl _ w).alloc (Nat.le_refl _) _).alloc (by simp) _
  have F1 : Hid (W1.heap[w.heap.size + 1]? = some (.cells Z8 66 (0, 0)) ∧ W1.heap.size = w.heap.size + 2) := by
    rw [HW.out]
    have h1 := (MapKept.heap_alloc (w.alloc (.cells #[.int .i64 8, .string k, .string d, .int .i64 n] 34)) (.cells Z8 66)).1
    have e : (w.alloc (.cells #[.int .i64 8, .string k, .string d, .int .i64 n] 34)).heap.size = w.heap.size + 1 := by simp
    rw [e] at h1
    exact ⟨h1, by simp⟩
  have H : Hid (Sr B g bn bd pv s w) := h
  have H1 : Hid (Sr B g bn bd pv s W1) := sr_later h B1.out
  have hB1 : B ≤ W1.heap.size := Nat.le_trans hB B1.out.size
  have RB : Hid (∀ w2, Below W1.heap.size W1 w2 → Rn B g bn bd pv s W1 w2) := fun w2 b2 => Rn.of (sr_later H1.out b2) (Kp.of_below b2)
  clear h
  have CC : Hid (Calls _ _ _ _ _) := imageC H1.out hi
  rw [HW.out] at CC RB
  go_enter Tryz.func26, Tryz.ntmps26
  go_wp2_with (first | (go_at_call 29; refine CC.out.mono ?_; rintro _ w2 ⟨rfl, b2⟩; have R2 : Hid (Rn B g bn bd pv s _ w2) := RB.out w2 b2; clear b2; have F2 : Hid (w2.heap[w.heap.size + 1]? = some (.cells Z8 66 (0, 0))) := rn_cells H.out R2.out (by omega) (by have := F1.out.1; rw [HW.out] at this; exact this); obtain ⟨d0, d1, d2, d3, d4, d5, d6, d7⟩ := eight F2.out; obtain ⟨g0, g1, g2, g3, g4, g5, g6, g7⟩ := froz8 F2.out; have FIN : Hid (∀ W_, W_ = _ → _) := put8 w2 (w.heap.size + 1) _ _ _ _ _ _ _ _ (.string (imageT s.dur)) (.slice none 0 0) (.int .i64 0) (.int .i64 0) (.int .i64 0) (.int .i64 0) (.bool false) (.int .i64 0) _ F2.out; clear F2) | go_in)
  obtain ⟨G, hk2⟩ := FIN.out _ rfl
  obtain ⟨e0, e1, e2, e3, e4, e5, e6, e7⟩ := eight G
  refine bodyPost_ret (by simp [results, Tryz.results26, go_sem, e0, e1, e2, e3, e4, e5, e6, e7]; try rfl) rfl ?_
  exact ⟨_, _, _, _, _, _, _, _, _, rfl, rn_wrap H.out (by have := B1.out; rw [HW.out] at this; exact this) R2.out hk2 (by omega) (by have := F1.out.2; rw [HW.out] at this; omega)⟩
end Go.Proofs.YtlkkibiedlakfaaGreat.yr
