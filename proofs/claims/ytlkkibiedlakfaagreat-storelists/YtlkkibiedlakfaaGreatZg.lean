import Derived.Test.YtlkkibiedlakfaaGreatYs
namespace Go.Proofs.YtlkkibiedlakfaaGreat.zg
open Go.RowKit Go.PlainAid Go.Maps Go.Shelf
open Go.Proofs.YtlkkibiedlakfaaGreat.ca Go.Proofs.YtlkkibiedlakfaaGreat.cb Go.Proofs.YtlkkibiedlakfaaGreat.cp Go.Proofs.YtlkkibiedlakfaaGreat.kp Go.Proofs.YtlkkibiedlakfaaGreat.ka Go.Proofs.YtlkkibiedlakfaaGreat.ya Go.Proofs.YtlkkibiedlakfaaGreat.yb Go.Proofs.YtlkkibiedlakfaaGreat.yc Go.Proofs.YtlkkibiedlakfaaGreat.yd Go.Proofs.YtlkkibiedlakfaaGreat.ye Go.Proofs.YtlkkibiedlakfaaGreat.yf Go.Proofs.YtlkkibiedlakfaaGreat.yg Go.Proofs.YtlkkibiedlakfaaGreat.yi Go.Proofs.YtlkkibiedlakfaaGreat.yj Go.Proofs.YtlkkibiedlakfaaGreat.yk Go.Proofs.YtlkkibiedlakfaaGreat.yl Go.Proofs.YtlkkibiedlakfaaGreat.ym Go.Proofs.YtlkkibiedlakfaaGreat.yn Go.Proofs.YtlkkibiedlakfaaGreat.yo Go.Proofs.YtlkkibiedlakfaaGreat.yp Go.Proofs.YtlkkibiedlakfaaGreat.yr Go.Proofs.YtlkkibiedlakfaaGreat.sb Go.Proofs.YtlkkibiedlakfaaGreat.mc
set_option linter.unusedVariables false
set_option linter.unusedSimpArgs false
-- what the law's do answers, field by field
def aT (s : S) (kind : Int) (k : ByteArray) : ByteArray := if kind = 6 then (getS s k).1 else if kind = 8 then imageT s.dur else ⟨#[]⟩
def aN (s : S) (kind : Int) (k : ByteArray) : List ByteArray := if kind = 7 then keysS s k else []
def aA (s : S) (kind : Int) : Int := if kind = 9 then s.pend.length else 0
def aB (s : S) (kind : Int) : Int := if kind = 9 then (tot (now s) : Nat) else 0
def aC (s : S) (kind : Int) : Int := if kind = 9 then s.cap else 0
def aD (s : S) (kind : Int) : Bool := if kind = 9 then s.off else false
def aG (s : S) (kind : Int) : Int := if kind = 9 then s.age else 0
theorem own_low {w : World} {B B' t z n : Nat} {v : Value} {xs : List Value} (o : w.ownsRow B t z v n xs) (h : B' ≤ B) : w.ownsRow B' t z v n xs := by
  obtain ⟨o1, o2⟩ := o
  refine ⟨o1, ?_⟩
  rcases o2 with h0 | ⟨g, cap, cur, e1, e2, rest⟩
  · exact .inl h0
  · exact .inr ⟨g, cap, cur, e1, Nat.le_trans h e2, rest⟩
set_option maxRecDepth 20000 in
set_option maxHeartbeats 6400000 in
theorem dt1 {B g bn bd : Nat} {pv : Value} {s : S} {w : World} (kind : Int) (k d : ByteArray) (n : Int) (h : Sr B g bn bd pv s w) (hk : k.size ≤ 140737488355328) (hd : d.size ≤ 140737488355328) (hn : n ≤ 9223372036854775807) (hl : s.dur.length + s.pend.length + 1 < 3518437208883) (ha : s.age < 4398046511104) (hi : isz s.dur ≤ 140737488355000) (hB : B ≤ w.heap.size) (hkind : kind = 1) :
    Calls Tryz.prog 26 #[.pointer (some ⟨g, 0, none⟩), .agg #[.int .i64 kind, .string k, .string d, .int .i64 n]] w fun e w' => ∃ (na : Option Addr) (nl nc : Nat), e = .returned (.agg #[.string (aT s kind k), .slice na nl nc, .int .i64 (doS s kind k d n).1, .int .i64 (aA s kind), .int .i64 (aB s kind), .int .i64 (aC s kind), .bool (aD s kind), .int .i64 (aG s kind)]) ∧ w'.ownsRow w.heap.size 9 1 (.slice na nl nc) (aN s kind k).length ((aN s kind k).map Value.string) ∧ Rn B g bn bd pv (doS s kind k d n).2 w w' := by
  subst hkind
  have HD : Hid (doS s 1 k d n = putS s k d) := by show _ = _; unfold doS; simp
  rw [HD.out]
  have HAT : Hid (aT s 1 k = ⟨#[]⟩) := by show _ = _; unfold aT; simp
  have HAN : Hid (aN s 1 k = []) := by show _ = _; unfold aN; simp
  have HAA : Hid (aA s 1 = 0) := by show _ = _; unfold aA; simp
  have HAB : Hid (aB s 1 = 0) := by show _ = _; unfold aB; simp
  have HAC : Hid (aC s 1 = 0) := by show _ = _; unfold aC; simp
  have HAD : Hid (aD s 1 = false) := by show _ = _; unfold aD; simp
  have HAG : Hid (aG s 1 = 0) := by show _ = _; unfold aG; simp
  rw [HAT.out, HAN.out, HAA.out, HAB.out, HAC.out, HAD.out, HAG.out]
  obtain ⟨W1, HW⟩ : ∃ W1, Hid (W1 = (w.alloc (.cells #[.int .i64 1, .string k, .string d, .int .i64 n] 34)).alloc (.cells Z8 66)) := ⟨_, rfl⟩
  have B1 : Hid (Below w.heap.size w W1) := by rw [HW.out]; exact ((Below.refl _ w).alloc (Nat.le_refl _) _).alloc (by simp) _
  have F1 : Hid (W1.heap[w.heap.size + 1]? = some (.cells Z8 66 (0, 0)) ∧ W1.heap.size = w.heap.size + 2) := by
    rw [HW.out]
    have h1 := (MapKept.heap_alloc (w.alloc (.cells #[.int .i64 1, .string k, .string d, .int .i64 n] 34)) (.cells Z8 66)).1
    have e : (w.alloc (.cells #[.int .i64 1, .string k, .string d, .int .i64 n] 34)).heap.size = w.heap.size + 1 := by simp
    rw [e] at h1
    exact ⟨h1, by simp⟩
  have H : Hid (Sr B g bn bd pv s w) := h
  have H1 : Hid (Sr B g bn bd pv s W1) := sr_later h B1.out
  have hB1 : B ≤ W1.heap.size := Nat.le_trans hB B1.out.size
  have RB : Hid (∀ w2, Below W1.heap.size W1 w2 → Rn B g bn bd pv s W1 w2) := fun w2 b2 => Rn.of (sr_later H1.out b2) (Kp.of_below b2)
  clear h
  have CC : Hid (Calls _ _ _ _ _) := putC k d H1.out hk hd hl hB1
  rw [HW.out] at CC RB
  go_enter Tryz.func26, Tryz.ntmps26
  go_upto_region 4 with (first | (go_at_call 43; refine CC.out.mono ?_; rintro _ w2 ⟨rfl, r2⟩; have R2 : Hid (Rn _ _ _ _ _ _ _ w2) := r2; clear r2) | go_in)
  have F2 : Hid (w2.heap[w.heap.size + 1]? = some (.cells Z8 66 (0, 0))) := rn_cells H.out R2.out (by omega) (by have := F1.out.1; rw [HW.out] at this; exact this)
  obtain ⟨d0, d1, d2, d3, d4, d5, d6, d7⟩ := eight F2.out
  obtain ⟨g0, g1, g2, g3, g4, g5, g6, g7⟩ := froz8 F2.out
  have FIN : Hid (∀ W', W' = _ → _) := put8 w2 (w.heap.size + 1) _ _ _ _ _ _ _ _ (.string ⟨#[]⟩) (.slice none 0 0) (.int .i64 (putS s k d).1) (.int .i64 0) (.int .i64 0) (.int .i64 0) (.bool false) (.int .i64 0) _ F2.out
  clear F2
  go_wp2_with (fail)
  obtain ⟨G, hk2⟩ := FIN.out _ rfl
  obtain ⟨e0, e1, e2, e3, e4, e5, e6, e7⟩ := eight G
  refine bodyPost_ret (by simp [results, Tryz.results26, go_sem, e0, e1, e2, e3, e4, e5, e6, e7]; try rfl) rfl ?_
  exact ⟨_, _, _, rfl, World.ownsRow_nil _ _ _ _, rn_wrap H.out (by have := B1.out; rw [HW.out] at this; exact this) R2.out hk2 (by omega) (by have := F1.out.2; rw [HW.out] at this; omega)⟩
set_option maxRecDepth 20000 in
set_option maxHeartbeats 6400000 in
theorem dt2 {B g bn bd : Nat} {pv : Value} {s : S} {w : World} (kind : Int) (k d : ByteArray) (n : Int) (h : Sr B g bn bd pv s w) (hk : k.size ≤ 140737488355328) (hd : d.size ≤ 140737488355328) (hn : n ≤ 9223372036854775807) (hl : s.dur.length + s.pend.length + 1 < 3518437208883) (ha : s.age < 4398046511104) (hi : isz s.dur ≤ 140737488355000) (hB : B ≤ w.heap.size) (hkind : kind = 2) :
    Calls Tryz.prog 26 #[.pointer (some ⟨g, 0, none⟩), .agg #[.int .i64 kind, .string k, .string d, .int .i64 n]] w fun e w' => ∃ (na : Option Addr) (nl nc : Nat), e = .returned (.agg #[.string (aT s kind k), .slice na nl nc, .int .i64 (doS s kind k d n).1, .int .i64 (aA s kind), .int .i64 (aB s kind), .int .i64 (aC s kind), .bool (aD s kind), .int .i64 (aG s kind)]) ∧ w'.ownsRow w.heap.size 9 1 (.slice na nl nc) (aN s kind k).length ((aN s kind k).map Value.string) ∧ Rn B g bn bd pv (doS s kind k d n).2 w w' := by
  subst hkind
  have HD : Hid (doS s 2 k d n = cutS s k) := by show _ = _; unfold doS; simp
  rw [HD.out]
  have HAT : Hid (aT s 2 k = ⟨#[]⟩) := by show _ = _; unfold aT; simp
  have HAN : Hid (aN s 2 k = []) := by show _ = _; unfold aN; simp
  have HAA : Hid (aA s 2 = 0) := by show _ = _; unfold aA; simp
  have HAB : Hid (aB s 2 = 0) := by show _ = _; unfold aB; simp
  have HAC : Hid (aC s 2 = 0) := by show _ = _; unfold aC; simp
  have HAD : Hid (aD s 2 = false) := by show _ = _; unfold aD; simp
  have HAG : Hid (aG s 2 = 0) := by show _ = _; unfold aG; simp
  rw [HAT.out, HAN.out, HAA.out, HAB.out, HAC.out, HAD.out, HAG.out]
  obtain ⟨W1, HW⟩ : ∃ W1, Hid (W1 = (w.alloc (.cells #[.int .i64 2, .string k, .string d, .int .i64 n] 34)).alloc (.cells Z8 66)) := ⟨_, rfl⟩
  have B1 : Hid (Below w.heap.size w W1) := by rw [HW.out]; exact ((Below.refl _ w).alloc (Nat.le_refl _) _).alloc (by simp) _
  have F1 : Hid (W1.heap[w.heap.size + 1]? = some (.cells Z8 66 (0, 0)) ∧ W1.heap.size = w.heap.size + 2) := by
    rw [HW.out]
    have h1 := (MapKept.heap_alloc (w.alloc (.cells #[.int .i64 2, .string k, .string d, .int .i64 n] 34)) (.cells Z8 66)).1
    have e : (w.alloc (.cells #[.int .i64 2, .string k, .string d, .int .i64 n] 34)).heap.size = w.heap.size + 1 := by simp
    rw [e] at h1
    exact ⟨h1, by simp⟩
  have H : Hid (Sr B g bn bd pv s w) := h
  have H1 : Hid (Sr B g bn bd pv s W1) := sr_later h B1.out
  have hB1 : B ≤ W1.heap.size := Nat.le_trans hB B1.out.size
  have RB : Hid (∀ w2, Below W1.heap.size W1 w2 → Rn B g bn bd pv s W1 w2) := fun w2 b2 => Rn.of (sr_later H1.out b2) (Kp.of_below b2)
  clear h
  have CC : Hid (Calls _ _ _ _ _) := cutC k H1.out hk hl hB1
  rw [HW.out] at CC RB
  go_enter Tryz.func26, Tryz.ntmps26
  go_upto_region 7 with (first | (go_at_call 62; refine CC.out.mono ?_; rintro _ w2 ⟨rfl, r2⟩; have R2 : Hid (Rn _ _ _ _ _ _ _ w2) := r2; clear r2) | go_in)
  have F2 : Hid (w2.heap[w.heap.size + 1]? = some (.cells Z8 66 (0, 0))) := rn_cells H.out R2.out (by omega) (by have := F1.out.1; rw [HW.out] at this; exact this)
  obtain ⟨d0, d1, d2, d3, d4, d5, d6, d7⟩ := eight F2.out
  obtain ⟨g0, g1, g2, g3, g4, g5, g6, g7⟩ := froz8 F2.out
  have FIN : Hid (∀ W', W' = _ → _) := put8 w2 (w.heap.size + 1) _ _ _ _ _ _ _ _ (.string ⟨#[]⟩) (.slice none 0 0) (.int .i64 (cutS s k).1) (.int .i64 0) (.int .i64 0) (.int .i64 0) (.bool false) (.int .i64 0) _ F2.out
  clear F2
  go_wp2_with (fail)
  obtain ⟨G, hk2⟩ := FIN.out _ rfl
  obtain ⟨e0, e1, e2, e3, e4, e5, e6, e7⟩ := eight G
  refine bodyPost_ret (by simp [results, Tryz.results26, go_sem, e0, e1, e2, e3, e4, e5, e6, e7]; try rfl) rfl ?_
  exact ⟨_, _, _, rfl, World.ownsRow_nil _ _ _ _, rn_wrap H.out (by have := B1.out; rw [HW.out] at this; exact this) R2.out hk2 (by omega) (by have := F1.out.2; rw [HW.out] at this; omega)⟩
set_option maxRecDepth 20000 in
set_option maxHeartbeats 6400000 in
theorem dt3 {B g bn bd : Nat} {pv : Value} {s : S} {w : World} (kind : Int) (k d : ByteArray) (n : Int) (h : Sr B g bn bd pv s w) (hk : k.size ≤ 140737488355328) (hd : d.size ≤ 140737488355328) (hn : n ≤ 9223372036854775807) (hl : s.dur.length + s.pend.length + 1 < 3518437208883) (ha : s.age < 4398046511104) (hi : isz s.dur ≤ 140737488355000) (hB : B ≤ w.heap.size) (hkind : kind = 3) :
    Calls Tryz.prog 26 #[.pointer (some ⟨g, 0, none⟩), .agg #[.int .i64 kind, .string k, .string d, .int .i64 n]] w fun e w' => ∃ (na : Option Addr) (nl nc : Nat), e = .returned (.agg #[.string (aT s kind k), .slice na nl nc, .int .i64 (doS s kind k d n).1, .int .i64 (aA s kind), .int .i64 (aB s kind), .int .i64 (aC s kind), .bool (aD s kind), .int .i64 (aG s kind)]) ∧ w'.ownsRow w.heap.size 9 1 (.slice na nl nc) (aN s kind k).length ((aN s kind k).map Value.string) ∧ Rn B g bn bd pv (doS s kind k d n).2 w w' := by
  subst hkind
  have HD : Hid (doS s 3 k d n = syncS s) := by show _ = _; unfold doS; simp
  rw [HD.out]
  have HAT : Hid (aT s 3 k = ⟨#[]⟩) := by show _ = _; unfold aT; simp
  have HAN : Hid (aN s 3 k = []) := by show _ = _; unfold aN; simp
  have HAA : Hid (aA s 3 = 0) := by show _ = _; unfold aA; simp
  have HAB : Hid (aB s 3 = 0) := by show _ = _; unfold aB; simp
  have HAC : Hid (aC s 3 = 0) := by show _ = _; unfold aC; simp
  have HAD : Hid (aD s 3 = false) := by show _ = _; unfold aD; simp
  have HAG : Hid (aG s 3 = 0) := by show _ = _; unfold aG; simp
  rw [HAT.out, HAN.out, HAA.out, HAB.out, HAC.out, HAD.out, HAG.out]
  obtain ⟨W1, HW⟩ : ∃ W1, Hid (W1 = (w.alloc (.cells #[.int .i64 3, .string k, .string d, .int .i64 n] 34)).alloc (.cells Z8 66)) := ⟨_, rfl⟩
  have B1 : Hid (Below w.heap.size w W1) := by rw [HW.out]; exact ((Below.refl _ w).alloc (Nat.le_refl _) _).alloc (by simp) _
  have F1 : Hid (W1.heap[w.heap.size + 1]? = some (.cells Z8 66 (0, 0)) ∧ W1.heap.size = w.heap.size + 2) := by
    rw [HW.out]
    have h1 := (MapKept.heap_alloc (w.alloc (.cells #[.int .i64 3, .string k, .string d, .int .i64 n] 34)) (.cells Z8 66)).1
    have e : (w.alloc (.cells #[.int .i64 3, .string k, .string d, .int .i64 n] 34)).heap.size = w.heap.size + 1 := by simp
    rw [e] at h1
    exact ⟨h1, by simp⟩
  have H : Hid (Sr B g bn bd pv s w) := h
  have H1 : Hid (Sr B g bn bd pv s W1) := sr_later h B1.out
  have hB1 : B ≤ W1.heap.size := Nat.le_trans hB B1.out.size
  have RB : Hid (∀ w2, Below W1.heap.size W1 w2 → Rn B g bn bd pv s W1 w2) := fun w2 b2 => Rn.of (sr_later H1.out b2) (Kp.of_below b2)
  clear h
  have CC : Hid (Calls _ _ _ _ _) := syncC H1.out hB1
  rw [HW.out] at CC RB
  go_enter Tryz.func26, Tryz.ntmps26
  go_upto_region 10 with (first | (go_at_call 47; refine CC.out.mono ?_; rintro _ w2 ⟨rfl, r2⟩; have R2 : Hid (Rn _ _ _ _ _ _ _ w2) := r2; clear r2) | go_in)
  have F2 : Hid (w2.heap[w.heap.size + 1]? = some (.cells Z8 66 (0, 0))) := rn_cells H.out R2.out (by omega) (by have := F1.out.1; rw [HW.out] at this; exact this)
  obtain ⟨d0, d1, d2, d3, d4, d5, d6, d7⟩ := eight F2.out
  obtain ⟨g0, g1, g2, g3, g4, g5, g6, g7⟩ := froz8 F2.out
  have FIN : Hid (∀ W', W' = _ → _) := put8 w2 (w.heap.size + 1) _ _ _ _ _ _ _ _ (.string ⟨#[]⟩) (.slice none 0 0) (.int .i64 (syncS s).1) (.int .i64 0) (.int .i64 0) (.int .i64 0) (.bool false) (.int .i64 0) _ F2.out
  clear F2
  go_wp2_with (fail)
  obtain ⟨G, hk2⟩ := FIN.out _ rfl
  obtain ⟨e0, e1, e2, e3, e4, e5, e6, e7⟩ := eight G
  refine bodyPost_ret (by simp [results, Tryz.results26, go_sem, e0, e1, e2, e3, e4, e5, e6, e7]; try rfl) rfl ?_
  exact ⟨_, _, _, rfl, World.ownsRow_nil _ _ _ _, rn_wrap H.out (by have := B1.out; rw [HW.out] at this; exact this) R2.out hk2 (by omega) (by have := F1.out.2; rw [HW.out] at this; omega)⟩
set_option maxRecDepth 20000 in
set_option maxHeartbeats 6400000 in
theorem dt4 {B g bn bd : Nat} {pv : Value} {s : S} {w : World} (kind : Int) (k d : ByteArray) (n : Int) (h : Sr B g bn bd pv s w) (hk : k.size ≤ 140737488355328) (hd : d.size ≤ 140737488355328) (hn : n ≤ 9223372036854775807) (hl : s.dur.length + s.pend.length + 1 < 3518437208883) (ha : s.age < 4398046511104) (hi : isz s.dur ≤ 140737488355000) (hB : B ≤ w.heap.size) (hkind : kind = 4) :
    Calls Tryz.prog 26 #[.pointer (some ⟨g, 0, none⟩), .agg #[.int .i64 kind, .string k, .string d, .int .i64 n]] w fun e w' => ∃ (na : Option Addr) (nl nc : Nat), e = .returned (.agg #[.string (aT s kind k), .slice na nl nc, .int .i64 (doS s kind k d n).1, .int .i64 (aA s kind), .int .i64 (aB s kind), .int .i64 (aC s kind), .bool (aD s kind), .int .i64 (aG s kind)]) ∧ w'.ownsRow w.heap.size 9 1 (.slice na nl nc) (aN s kind k).length ((aN s kind k).map Value.string) ∧ Rn B g bn bd pv (doS s kind k d n).2 w w' := by
  subst hkind
  have HD : Hid (doS s 4 k d n = (0, armS s n)) := by show _ = _; unfold doS; simp
  rw [HD.out]
  have HAT : Hid (aT s 4 k = ⟨#[]⟩) := by show _ = _; unfold aT; simp
  have HAN : Hid (aN s 4 k = []) := by show _ = _; unfold aN; simp
  have HAA : Hid (aA s 4 = 0) := by show _ = _; unfold aA; simp
  have HAB : Hid (aB s 4 = 0) := by show _ = _; unfold aB; simp
  have HAC : Hid (aC s 4 = 0) := by show _ = _; unfold aC; simp
  have HAD : Hid (aD s 4 = false) := by show _ = _; unfold aD; simp
  have HAG : Hid (aG s 4 = 0) := by show _ = _; unfold aG; simp
  rw [HAT.out, HAN.out, HAA.out, HAB.out, HAC.out, HAD.out, HAG.out]
  obtain ⟨W1, HW⟩ : ∃ W1, Hid (W1 = (w.alloc (.cells #[.int .i64 4, .string k, .string d, .int .i64 n] 34)).alloc (.cells Z8 66)) := ⟨_, rfl⟩
  have B1 : Hid (Below w.heap.size w W1) := by rw [HW.out]; exact ((Below.refl _ w).alloc (Nat.le_refl _) _).alloc (by simp) _
  have F1 : Hid (W1.heap[w.heap.size + 1]? = some (.cells Z8 66 (0, 0)) ∧ W1.heap.size = w.heap.size + 2) := by
    rw [HW.out]
    have h1 := (MapKept.heap_alloc (w.alloc (.cells #[.int .i64 4, .string k, .string d, .int .i64 n] 34)) (.cells Z8 66)).1
    have e : (w.alloc (.cells #[.int .i64 4, .string k, .string d, .int .i64 n] 34)).heap.size = w.heap.size + 1 := by simp
    rw [e] at h1
    exact ⟨h1, by simp⟩
  have H : Hid (Sr B g bn bd pv s w) := h
  have H1 : Hid (Sr B g bn bd pv s W1) := sr_later h B1.out
  have hB1 : B ≤ W1.heap.size := Nat.le_trans hB B1.out.size
  have RB : Hid (∀ w2, Below W1.heap.size W1 w2 → Rn B g bn bd pv s W1 w2) := fun w2 b2 => Rn.of (sr_later H1.out b2) (Kp.of_below b2)
  clear h
  have CC : Hid (Calls _ _ _ _ _) := armC n H1.out hn
  rw [HW.out] at CC RB
  go_enter Tryz.func26, Tryz.ntmps26
  go_upto_region 24 with (first | (go_at_call 49; refine CC.out.mono ?_; rintro _ w2 ⟨rfl, r2⟩; have R2 : Hid (Rn _ _ _ _ _ _ _ w2) := r2; clear r2) | go_in)
  have F2 : Hid (w2.heap[w.heap.size + 1]? = some (.cells Z8 66 (0, 0))) := rn_cells H.out R2.out (by omega) (by have := F1.out.1; rw [HW.out] at this; exact this)
  obtain ⟨d0, d1, d2, d3, d4, d5, d6, d7⟩ := eight F2.out
  obtain ⟨g0, g1, g2, g3, g4, g5, g6, g7⟩ := froz8 F2.out
  have FIN : Hid (∀ W', W' = _ → _) := put8 w2 (w.heap.size + 1) _ _ _ _ _ _ _ _ (.string ⟨#[]⟩) (.slice none 0 0) (.int .i64 0) (.int .i64 0) (.int .i64 0) (.int .i64 0) (.bool false) (.int .i64 0) _ F2.out
  clear F2
  go_wp2_with (fail)
  obtain ⟨G, hk2⟩ := FIN.out _ rfl
  obtain ⟨e0, e1, e2, e3, e4, e5, e6, e7⟩ := eight G
  refine bodyPost_ret (by simp [results, Tryz.results26, go_sem, e0, e1, e2, e3, e4, e5, e6, e7]; try rfl) rfl ?_
  exact ⟨_, _, _, rfl, World.ownsRow_nil _ _ _ _, rn_wrap H.out (by have := B1.out; rw [HW.out] at this; exact this) R2.out hk2 (by omega) (by have := F1.out.2; rw [HW.out] at this; omega)⟩
set_option maxRecDepth 20000 in
set_option maxHeartbeats 6400000 in
theorem dt5 {B g bn bd : Nat} {pv : Value} {s : S} {w : World} (kind : Int) (k d : ByteArray) (n : Int) (h : Sr B g bn bd pv s w) (hk : k.size ≤ 140737488355328) (hd : d.size ≤ 140737488355328) (hn : n ≤ 9223372036854775807) (hl : s.dur.length + s.pend.length + 1 < 3518437208883) (ha : s.age < 4398046511104) (hi : isz s.dur ≤ 140737488355000) (hB : B ≤ w.heap.size) (hkind : kind = 5) :
    Calls Tryz.prog 26 #[.pointer (some ⟨g, 0, none⟩), .agg #[.int .i64 kind, .string k, .string d, .int .i64 n]] w fun e w' => ∃ (na : Option Addr) (nl nc : Nat), e = .returned (.agg #[.string (aT s kind k), .slice na nl nc, .int .i64 (doS s kind k d n).1, .int .i64 (aA s kind), .int .i64 (aB s kind), .int .i64 (aC s kind), .bool (aD s kind), .int .i64 (aG s kind)]) ∧ w'.ownsRow w.heap.size 9 1 (.slice na nl nc) (aN s kind k).length ((aN s kind k).map Value.string) ∧ Rn B g bn bd pv (doS s kind k d n).2 w w' := by
  subst hkind
  have HD : Hid (doS s 5 k d n = (0, crashS s d)) := by show _ = _; unfold doS; simp
  rw [HD.out]
  have HAT : Hid (aT s 5 k = ⟨#[]⟩) := by show _ = _; unfold aT; simp
  have HAN : Hid (aN s 5 k = []) := by show _ = _; unfold aN; simp
  have HAA : Hid (aA s 5 = 0) := by show _ = _; unfold aA; simp
  have HAB : Hid (aB s 5 = 0) := by show _ = _; unfold aB; simp
  have HAC : Hid (aC s 5 = 0) := by show _ = _; unfold aC; simp
  have HAD : Hid (aD s 5 = false) := by show _ = _; unfold aD; simp
  have HAG : Hid (aG s 5 = 0) := by show _ = _; unfold aG; simp
  rw [HAT.out, HAN.out, HAA.out, HAB.out, HAC.out, HAD.out, HAG.out]
  obtain ⟨W1, HW⟩ : ∃ W1, Hid (W1 = (w.alloc (.cells #[.int .i64 5, .string k, .string d, .int .i64 n] 34)).alloc (.cells Z8 66)) := ⟨_, rfl⟩
  have B1 : Hid (Below w.heap.size w W1) := by rw [HW.out]; exact ((Below.refl _ w).alloc (Nat.le_refl _) _).alloc (by simp) _
  have F1 : Hid (W1.heap[w.heap.size + 1]? = some (.cells Z8 66 (0, 0)) ∧ W1.heap.size = w.heap.size + 2) := by
    rw [HW.out]
    have h1 := (MapKept.heap_alloc (w.alloc (.cells #[.int .i64 5, .string k, .string d, .int .i64 n] 34)) (.cells Z8 66)).1
    have e : (w.alloc (.cells #[.int .i64 5, .string k, .string d, .int .i64 n] 34)).heap.size = w.heap.size + 1 := by simp
    rw [e] at h1
    exact ⟨h1, by simp⟩
  have H : Hid (Sr B g bn bd pv s w) := h
  have H1 : Hid (Sr B g bn bd pv s W1) := sr_later h B1.out
  have hB1 : B ≤ W1.heap.size := Nat.le_trans hB B1.out.size
  have RB : Hid (∀ w2, Below W1.heap.size W1 w2 → Rn B g bn bd pv s W1 w2) := fun w2 b2 => Rn.of (sr_later H1.out b2) (Kp.of_below b2)
  clear h
  have CC : Hid (Calls _ _ _ _ _) := crashC d H1.out hd ha
  rw [HW.out] at CC RB
  go_enter Tryz.func26, Tryz.ntmps26
  go_upto_region 24 with (first | (go_at_call 15; refine CC.out.mono ?_; rintro _ w2 ⟨rfl, r2⟩; have R2 : Hid (Rn _ _ _ _ _ _ _ w2) := r2; clear r2) | go_in)
  have F2 : Hid (w2.heap[w.heap.size + 1]? = some (.cells Z8 66 (0, 0))) := rn_cells H.out R2.out (by omega) (by have := F1.out.1; rw [HW.out] at this; exact this)
  obtain ⟨d0, d1, d2, d3, d4, d5, d6, d7⟩ := eight F2.out
  obtain ⟨g0, g1, g2, g3, g4, g5, g6, g7⟩ := froz8 F2.out
  have FIN : Hid (∀ W', W' = _ → _) := put8 w2 (w.heap.size + 1) _ _ _ _ _ _ _ _ (.string ⟨#[]⟩) (.slice none 0 0) (.int .i64 0) (.int .i64 0) (.int .i64 0) (.int .i64 0) (.bool false) (.int .i64 0) _ F2.out
  clear F2
  go_wp2_with (fail)
  obtain ⟨G, hk2⟩ := FIN.out _ rfl
  obtain ⟨e0, e1, e2, e3, e4, e5, e6, e7⟩ := eight G
  refine bodyPost_ret (by simp [results, Tryz.results26, go_sem, e0, e1, e2, e3, e4, e5, e6, e7]; try rfl) rfl ?_
  exact ⟨_, _, _, rfl, World.ownsRow_nil _ _ _ _, rn_wrap H.out (by have := B1.out; rw [HW.out] at this; exact this) R2.out hk2 (by omega) (by have := F1.out.2; rw [HW.out] at this; omega)⟩
set_option maxRecDepth 20000 in
set_option maxHeartbeats 6400000 in
theorem dt6 {B g bn bd : Nat} {pv : Value} {s : S} {w : World} (kind : Int) (k d : ByteArray) (n : Int) (h : Sr B g bn bd pv s w) (hk : k.size ≤ 140737488355328) (hd : d.size ≤ 140737488355328) (hn : n ≤ 9223372036854775807) (hl : s.dur.length + s.pend.length + 1 < 3518437208883) (ha : s.age < 4398046511104) (hi : isz s.dur ≤ 140737488355000) (hB : B ≤ w.heap.size) (hkind : kind = 6) :
    Calls Tryz.prog 26 #[.pointer (some ⟨g, 0, none⟩), .agg #[.int .i64 kind, .string k, .string d, .int .i64 n]] w fun e w' => ∃ (na : Option Addr) (nl nc : Nat), e = .returned (.agg #[.string (aT s kind k), .slice na nl nc, .int .i64 (doS s kind k d n).1, .int .i64 (aA s kind), .int .i64 (aB s kind), .int .i64 (aC s kind), .bool (aD s kind), .int .i64 (aG s kind)]) ∧ w'.ownsRow w.heap.size 9 1 (.slice na nl nc) (aN s kind k).length ((aN s kind k).map Value.string) ∧ Rn B g bn bd pv (doS s kind k d n).2 w w' := by
  subst hkind
  have HD : Hid (doS s 6 k d n = ((getS s k).2, s)) := by show _ = _; unfold doS; simp
  rw [HD.out]
  have HAT : Hid (aT s 6 k = (getS s k).1) := by show _ = _; unfold aT; simp
  have HAN : Hid (aN s 6 k = []) := by show _ = _; unfold aN; simp
  have HAA : Hid (aA s 6 = 0) := by show _ = _; unfold aA; simp
  have HAB : Hid (aB s 6 = 0) := by show _ = _; unfold aB; simp
  have HAC : Hid (aC s 6 = 0) := by show _ = _; unfold aC; simp
  have HAD : Hid (aD s 6 = false) := by show _ = _; unfold aD; simp
  have HAG : Hid (aG s 6 = 0) := by show _ = _; unfold aG; simp
  rw [HAT.out, HAN.out, HAA.out, HAB.out, HAC.out, HAD.out, HAG.out]
  obtain ⟨W1, HW⟩ : ∃ W1, Hid (W1 = (w.alloc (.cells #[.int .i64 6, .string k, .string d, .int .i64 n] 34)).alloc (.cells Z8 66)) := ⟨_, rfl⟩
  have B1 : Hid (Below w.heap.size w W1) := by rw [HW.out]; exact ((Below.refl _ w).alloc (Nat.le_refl _) _).alloc (by simp) _
  have F1 : Hid (W1.heap[w.heap.size + 1]? = some (.cells Z8 66 (0, 0)) ∧ W1.heap.size = w.heap.size + 2) := by
    rw [HW.out]
    have h1 := (MapKept.heap_alloc (w.alloc (.cells #[.int .i64 6, .string k, .string d, .int .i64 n] 34)) (.cells Z8 66)).1
    have e : (w.alloc (.cells #[.int .i64 6, .string k, .string d, .int .i64 n] 34)).heap.size = w.heap.size + 1 := by simp
    rw [e] at h1
    exact ⟨h1, by simp⟩
  have H : Hid (Sr B g bn bd pv s w) := h
  have H1 : Hid (Sr B g bn bd pv s W1) := sr_later h B1.out
  have hB1 : B ≤ W1.heap.size := Nat.le_trans hB B1.out.size
  have RB : Hid (∀ w2, Below W1.heap.size W1 w2 → Rn B g bn bd pv s W1 w2) := fun w2 b2 => Rn.of (sr_later H1.out b2) (Kp.of_below b2)
  clear h
  have CC : Hid (Calls _ _ _ _ _) := getC k H1.out hk
  rw [HW.out] at CC RB
  go_enter Tryz.func26, Tryz.ntmps26
  go_upto_region 17 with (first | (go_at_call 63; refine CC.out.mono ?_; rintro _ w2 ⟨rfl, b2⟩; have R2 : Hid (Rn B g bn bd pv s _ w2) := RB.out w2 b2; clear b2) | go_in)
  have F2 : Hid (w2.heap[w.heap.size + 1]? = some (.cells Z8 66 (0, 0))) := rn_cells H.out R2.out (by omega) (by have := F1.out.1; rw [HW.out] at this; exact this)
  obtain ⟨d0, d1, d2, d3, d4, d5, d6, d7⟩ := eight F2.out
  obtain ⟨g0, g1, g2, g3, g4, g5, g6, g7⟩ := froz8 F2.out
  have FIN : Hid (∀ W', W' = _ → _) := put8 w2 (w.heap.size + 1) _ _ _ _ _ _ _ _ (.string (getS s k).1) (.slice none 0 0) (.int .i64 (getS s k).2) (.int .i64 0) (.int .i64 0) (.int .i64 0) (.bool false) (.int .i64 0) _ F2.out
  clear F2
  go_wp2_with (fail)
  obtain ⟨G, hk2⟩ := FIN.out _ rfl
  obtain ⟨e0, e1, e2, e3, e4, e5, e6, e7⟩ := eight G
  refine bodyPost_ret (by simp [results, Tryz.results26, go_sem, e0, e1, e2, e3, e4, e5, e6, e7]; try rfl) rfl ?_
  exact ⟨_, _, _, rfl, World.ownsRow_nil _ _ _ _, rn_wrap H.out (by have := B1.out; rw [HW.out] at this; exact this) R2.out hk2 (by omega) (by have := F1.out.2; rw [HW.out] at this; omega)⟩
set_option maxRecDepth 20000 in
set_option maxHeartbeats 6400000 in
theorem dt7 {B g bn bd : Nat} {pv : Value} {s : S} {w : World} (kind : Int) (k d : ByteArray) (n : Int) (h : Sr B g bn bd pv s w) (hk : k.size ≤ 140737488355328) (hd : d.size ≤ 140737488355328) (hn : n ≤ 9223372036854775807) (hl : s.dur.length + s.pend.length + 1 < 3518437208883) (ha : s.age < 4398046511104) (hi : isz s.dur ≤ 140737488355000) (hB : B ≤ w.heap.size) (hkind : kind = 7) :
    Calls Tryz.prog 26 #[.pointer (some ⟨g, 0, none⟩), .agg #[.int .i64 kind, .string k, .string d, .int .i64 n]] w fun e w' => ∃ (na : Option Addr) (nl nc : Nat), e = .returned (.agg #[.string (aT s kind k), .slice na nl nc, .int .i64 (doS s kind k d n).1, .int .i64 (aA s kind), .int .i64 (aB s kind), .int .i64 (aC s kind), .bool (aD s kind), .int .i64 (aG s kind)]) ∧ w'.ownsRow w.heap.size 9 1 (.slice na nl nc) (aN s kind k).length ((aN s kind k).map Value.string) ∧ Rn B g bn bd pv (doS s kind k d n).2 w w' := by
  subst hkind
  have HD : Hid (doS s 7 k d n = (0, s)) := by show _ = _; unfold doS; simp
  rw [HD.out]
  have HAT : Hid (aT s 7 k = ⟨#[]⟩) := by show _ = _; unfold aT; simp
  have HAN : Hid (aN s 7 k = keysS s k) := by show _ = _; unfold aN; simp
  have HAA : Hid (aA s 7 = 0) := by show _ = _; unfold aA; simp
  have HAB : Hid (aB s 7 = 0) := by show _ = _; unfold aB; simp
  have HAC : Hid (aC s 7 = 0) := by show _ = _; unfold aC; simp
  have HAD : Hid (aD s 7 = false) := by show _ = _; unfold aD; simp
  have HAG : Hid (aG s 7 = 0) := by show _ = _; unfold aG; simp
  rw [HAT.out, HAN.out, HAA.out, HAB.out, HAC.out, HAD.out, HAG.out]
  obtain ⟨W1, HW⟩ : ∃ W1, Hid (W1 = (w.alloc (.cells #[.int .i64 7, .string k, .string d, .int .i64 n] 34)).alloc (.cells Z8 66)) := ⟨_, rfl⟩
  have B1 : Hid (Below w.heap.size w W1) := by rw [HW.out]; exact ((Below.refl _ w).alloc (Nat.le_refl _) _).alloc (by simp) _
  have F1 : Hid (W1.heap[w.heap.size + 1]? = some (.cells Z8 66 (0, 0)) ∧ W1.heap.size = w.heap.size + 2) := by
    rw [HW.out]
    have h1 := (MapKept.heap_alloc (w.alloc (.cells #[.int .i64 7, .string k, .string d, .int .i64 n] 34)) (.cells Z8 66)).1
    have e : (w.alloc (.cells #[.int .i64 7, .string k, .string d, .int .i64 n] 34)).heap.size = w.heap.size + 1 := by simp
    rw [e] at h1
    exact ⟨h1, by simp⟩
  have H : Hid (Sr B g bn bd pv s w) := h
  have H1 : Hid (Sr B g bn bd pv s W1) := sr_later h B1.out
  have hB1 : B ≤ W1.heap.size := Nat.le_trans hB B1.out.size
  have RB : Hid (∀ w2, Below W1.heap.size W1 w2 → Rn B g bn bd pv s W1 w2) := fun w2 b2 => Rn.of (sr_later H1.out b2) (Kp.of_below b2)
  clear h
  have CC : Hid (Calls _ _ _ _ _) := keysC k H1.out
  rw [HW.out] at CC RB
  go_enter Tryz.func26, Tryz.ntmps26
  go_wp2_with (first | (go_at_call 10; refine CC.out.mono ?_; rintro _ w2 ⟨v, rfl, o2, b2⟩; obtain ⟨va, vc, hv⟩ := own_formS o2; subst hv; have O2 : Hid (World.ownsRow _ _ _ _ _ _ _) := o2; clear o2; have R2 : Hid (Rn B g bn bd pv s _ w2) := RB.out w2 b2; clear b2; have F2 : Hid (w2.heap[w.heap.size + 1]? = some (.cells Z8 66 (0, 0))) := rn_cells H.out R2.out (by omega) (by have := F1.out.1; rw [HW.out] at this; exact this); obtain ⟨d0, d1, d2, d3, d4, d5, d6, d7⟩ := eight F2.out; obtain ⟨g0, g1, g2, g3, g4, g5, g6, g7⟩ := froz8 F2.out; have FIN : Hid (∀ W_, W_ = _ → _) := put8 w2 (w.heap.size + 1) _ _ _ _ _ _ _ _ (.string ⟨#[]⟩) (.slice va (keysS s k).length vc) (.int .i64 0) (.int .i64 0) (.int .i64 0) (.int .i64 0) (.bool false) (.int .i64 0) _ F2.out; clear F2) | go_in)
  obtain ⟨G, hk2⟩ := FIN.out _ rfl
  obtain ⟨e0, e1, e2, e3, e4, e5, e6, e7⟩ := eight G
  refine bodyPost_ret (by simp [results, Tryz.results26, go_sem, e0, e1, e2, e3, e4, e5, e6, e7]; try rfl) rfl ?_
  exact ⟨_, _, _, rfl, own_low (own_kp O2.out hk2 (fun j hj e => by have := (O2.out.lt _ hj.symm).1; simp at this; omega)) (by simp; omega), rn_wrap H.out (by have := B1.out; rw [HW.out] at this; exact this) R2.out hk2 (by omega) (by have := F1.out.2; rw [HW.out] at this; omega)⟩
set_option maxRecDepth 20000 in
set_option maxHeartbeats 6400000 in
theorem dt8 {B g bn bd : Nat} {pv : Value} {s : S} {w : World} (kind : Int) (k d : ByteArray) (n : Int) (h : Sr B g bn bd pv s w) (hk : k.size ≤ 140737488355328) (hd : d.size ≤ 140737488355328) (hn : n ≤ 9223372036854775807) (hl : s.dur.length + s.pend.length + 1 < 3518437208883) (ha : s.age < 4398046511104) (hi : isz s.dur ≤ 140737488355000) (hB : B ≤ w.heap.size) (hkind : kind = 8) :
    Calls Tryz.prog 26 #[.pointer (some ⟨g, 0, none⟩), .agg #[.int .i64 kind, .string k, .string d, .int .i64 n]] w fun e w' => ∃ (na : Option Addr) (nl nc : Nat), e = .returned (.agg #[.string (aT s kind k), .slice na nl nc, .int .i64 (doS s kind k d n).1, .int .i64 (aA s kind), .int .i64 (aB s kind), .int .i64 (aC s kind), .bool (aD s kind), .int .i64 (aG s kind)]) ∧ w'.ownsRow w.heap.size 9 1 (.slice na nl nc) (aN s kind k).length ((aN s kind k).map Value.string) ∧ Rn B g bn bd pv (doS s kind k d n).2 w w' := by
  subst hkind
  have HD : Hid (doS s 8 k d n = (0, s)) := by show _ = _; unfold doS; simp
  rw [HD.out]
  have HAT : Hid (aT s 8 k = imageT s.dur) := by show _ = _; unfold aT; simp
  have HAN : Hid (aN s 8 k = []) := by show _ = _; unfold aN; simp
  have HAA : Hid (aA s 8 = 0) := by show _ = _; unfold aA; simp
  have HAB : Hid (aB s 8 = 0) := by show _ = _; unfold aB; simp
  have HAC : Hid (aC s 8 = 0) := by show _ = _; unfold aC; simp
  have HAD : Hid (aD s 8 = false) := by show _ = _; unfold aD; simp
  have HAG : Hid (aG s 8 = 0) := by show _ = _; unfold aG; simp
  rw [HAT.out, HAN.out, HAA.out, HAB.out, HAC.out, HAD.out, HAG.out]
  obtain ⟨W1, HW⟩ : ∃ W1, Hid (W1 = (w.alloc (.cells #[.int .i64 8, .string k, .string d, .int .i64 n] 34)).alloc (.cells Z8 66)) := ⟨_, rfl⟩
  have B1 : Hid (Below w.heap.size w W1) := by rw [HW.out]; exact ((Below.refl _ w).alloc (Nat.le_refl _) _).alloc (by simp) _
  have F1 : Hid (W1.heap[w.heap.size + 1]? = some (.cells Z8 66 (0, 0)) ∧ W1.heap.size = w.heap.size + 2) := by
    rw [HW.out]
    have h1 := (MapKept.heap_alloc (w.alloc (.cells #[.int .i64 8, .string k, .string d, .int .i64 n] 34)) (.cells Z8 66)).1
    have e : (w.alloc (.cells #[.int .i64 8, .string k, .string d, .int .i64 n] 34)).heap.size = w.heap.size + 1 := by simp
    rw [e] at h1
    exact ⟨h1, by simp⟩
  have H : Hid (Sr B g bn bd pv s w) := h
  have H1 : Hid (Sr B g bn bd pv s W1) := sr_later h B1.out
  have hB1 : B ≤ W1.heap.size := Nat.le_trans hB B1.out.size
  have RB : Hid (∀ w2, Below W1.heap.size W1 w2 → Rn B g bn bd pv s W1 w2) := fun w2 b2 => Rn.of (sr_later H1.out b2) (Kp.of_below b2)
  clear h
  have CC : Hid (Calls _ _ _ _ _) := imageC H1.out hi
  rw [HW.out] at CC RB
  go_enter Tryz.func26, Tryz.ntmps26
  go_wp2_with (first | (go_at_call 29; refine CC.out.mono ?_; rintro _ w2 ⟨rfl, b2⟩; have R2 : Hid (Rn B g bn bd pv s _ w2) := RB.out w2 b2; clear b2; have F2 : Hid (w2.heap[w.heap.size + 1]? = some (.cells Z8 66 (0, 0))) := rn_cells H.out R2.out (by omega) (by have := F1.out.1; rw [HW.out] at this; exact this); obtain ⟨d0, d1, d2, d3, d4, d5, d6, d7⟩ := eight F2.out; obtain ⟨g0, g1, g2, g3, g4, g5, g6, g7⟩ := froz8 F2.out; have FIN : Hid (∀ W_, W_ = _ → _) := put8 w2 (w.heap.size + 1) _ _ _ _ _ _ _ _ (.string (imageT s.dur)) (.slice none 0 0) (.int .i64 0) (.int .i64 0) (.int .i64 0) (.int .i64 0) (.bool false) (.int .i64 0) _ F2.out; clear F2) | go_in)
  obtain ⟨G, hk2⟩ := FIN.out _ rfl
  obtain ⟨e0, e1, e2, e3, e4, e5, e6, e7⟩ := eight G
  refine bodyPost_ret (by simp [results, Tryz.results26, go_sem, e0, e1, e2, e3, e4, e5, e6, e7]; try rfl) rfl ?_
  exact ⟨_, _, _, rfl, World.ownsRow_nil _ _ _ _, rn_wrap H.out (by have := B1.out; rw [HW.out] at this; exact this) R2.out hk2 (by omega) (by have := F1.out.2; rw [HW.out] at this; omega)⟩
set_option maxRecDepth 20000 in
set_option maxHeartbeats 6400000 in
theorem dt9 {B g bn bd : Nat} {pv : Value} {s : S} {w : World} (kind : Int) (k d : ByteArray) (n : Int) (h : Sr B g bn bd pv s w) (hk : k.size ≤ 140737488355328) (hd : d.size ≤ 140737488355328) (hn : n ≤ 9223372036854775807) (hl : s.dur.length + s.pend.length + 1 < 3518437208883) (ha : s.age < 4398046511104) (hi : isz s.dur ≤ 140737488355000) (hB : B ≤ w.heap.size) (hkind : kind = 9) :
    Calls Tryz.prog 26 #[.pointer (some ⟨g, 0, none⟩), .agg #[.int .i64 kind, .string k, .string d, .int .i64 n]] w fun e w' => ∃ (na : Option Addr) (nl nc : Nat), e = .returned (.agg #[.string (aT s kind k), .slice na nl nc, .int .i64 (doS s kind k d n).1, .int .i64 (aA s kind), .int .i64 (aB s kind), .int .i64 (aC s kind), .bool (aD s kind), .int .i64 (aG s kind)]) ∧ w'.ownsRow w.heap.size 9 1 (.slice na nl nc) (aN s kind k).length ((aN s kind k).map Value.string) ∧ Rn B g bn bd pv (doS s kind k d n).2 w w' := by
  subst hkind
  have HD : Hid (doS s 9 k d n = (0, s)) := by show _ = _; unfold doS; simp
  rw [HD.out]
  have HAT : Hid (aT s 9 k = ⟨#[]⟩) := by show _ = _; unfold aT; simp
  have HAN : Hid (aN s 9 k = []) := by show _ = _; unfold aN; simp
  have HAA : Hid (aA s 9 = s.pend.length) := by show _ = _; unfold aA; simp
  have HAB : Hid (aB s 9 = (tot (now s) : Nat)) := by show _ = _; unfold aB; simp
  have HAC : Hid (aC s 9 = s.cap) := by show _ = _; unfold aC; simp
  have HAD : Hid (aD s 9 = s.off) := by show _ = _; unfold aD; simp
  have HAG : Hid (aG s 9 = s.age) := by show _ = _; unfold aG; simp
  rw [HAT.out, HAN.out, HAA.out, HAB.out, HAC.out, HAD.out, HAG.out]
  obtain ⟨W1, HW⟩ : ∃ W1, Hid (W1 = (w.alloc (.cells #[.int .i64 9, .string k, .string d, .int .i64 n] 34)).alloc (.cells Z8 66)) := ⟨_, rfl⟩
  have B1 : Hid (Below w.heap.size w W1) := by rw [HW.out]; exact ((Below.refl _ w).alloc (Nat.le_refl _) _).alloc (by simp) _
  have F1 : Hid (W1.heap[w.heap.size + 1]? = some (.cells Z8 66 (0, 0)) ∧ W1.heap.size = w.heap.size + 2) := by
    rw [HW.out]
    have h1 := (MapKept.heap_alloc (w.alloc (.cells #[.int .i64 9, .string k, .string d, .int .i64 n] 34)) (.cells Z8 66)).1
    have e : (w.alloc (.cells #[.int .i64 9, .string k, .string d, .int .i64 n] 34)).heap.size = w.heap.size + 1 := by simp
    rw [e] at h1
    exact ⟨h1, by simp⟩
  have H : Hid (Sr B g bn bd pv s w) := h
  have H1 : Hid (Sr B g bn bd pv s W1) := sr_later h B1.out
  have hB1 : B ≤ W1.heap.size := Nat.le_trans hB B1.out.size
  have RB : Hid (∀ w2, Below W1.heap.size W1 w2 → Rn B g bn bd pv s W1 w2) := fun w2 b2 => Rn.of (sr_later H1.out b2) (Kp.of_below b2)
  clear h

  have CP : Hid (∀ w1, Sr B g bn bd pv s w1 → Calls _ _ _ _ _) := fun w1 h1 => pendingC h1.row h1.pr
  have CU : Hid (∀ w1, Sr B g bn bd pv s w1 → Calls _ _ _ _ _) := fun w1 h1 => usedC h1.row
  have CR : Hid (∀ w1, Sr B g bn bd pv s w1 → Calls _ _ _ _ _) := fun w1 h1 => roomC h1.row
  have CD : Hid (∀ w1, Sr B g bn bd pv s w1 → Calls _ _ _ _ _) := fun w1 h1 => downC h1.row
  have CA : Hid (∀ w1, Sr B g bn bd pv s w1 → Calls _ _ _ _ _) := fun w1 h1 => ageC h1.row
  rw [HW.out] at H1 RB
  go_enter Tryz.func26, Tryz.ntmps26
  go_wp2_with (first | (go_at_call 64; refine (CP.out _ H1.out).mono ?_; rintro _ _ ⟨rfl, hw⟩; rw [hw]; clear hw) | (go_at_call 65; refine (CU.out _ H1.out).mono ?_; rintro _ _ ⟨rfl, hw⟩; rw [hw]; clear hw) | (go_at_call 66; refine (CR.out _ H1.out).mono ?_; rintro _ _ ⟨rfl, hw⟩; rw [hw]; clear hw) | (go_at_call 33; refine (CD.out _ H1.out).mono ?_; rintro _ _ ⟨rfl, hw⟩; rw [hw]; clear hw) | (go_at_call 67; refine (CA.out _ H1.out).mono ?_; rintro _ _ ⟨rfl, hw⟩; rw [hw]; clear hw) | go_in)
  have G := (MapKept.heap_alloc (w.alloc (.cells #[.int .i64 9, .string k, .string d, .int .i64 n] 34)) (.cells #[.string ⟨#[]⟩, .slice none 0 0, .int .i64 0, .int .i64 s.pend.length, .int .i64 (tot (now s) : Nat), .int .i64 s.cap, .bool s.off, .int .i64 s.age] 66)).1
  have e : (w.alloc (.cells #[.int .i64 9, .string k, .string d, .int .i64 n] 34)).heap.size = w.heap.size + 1 := by simp
  rw [e] at G
  obtain ⟨e0, e1, e2, e3, e4, e5, e6, e7⟩ := eight G
  refine bodyPost_ret (by simp [results, Tryz.results26, go_sem, e0, e1, e2, e3, e4, e5, e6, e7]; try rfl) rfl ?_
  have bb : Below w.heap.size w ((w.alloc (.cells #[.int .i64 9, .string k, .string d, .int .i64 n] 34)).alloc (.cells #[.string ⟨#[]⟩, .slice none 0 0, .int .i64 0, .int .i64 s.pend.length, .int .i64 (tot (now s) : Nat), .int .i64 s.cap, .bool s.off, .int .i64 s.age] 66)) := ((Below.refl _ w).alloc (Nat.le_refl _) _).alloc (by simp) _
  exact ⟨_, _, _, rfl, World.ownsRow_nil _ _ _ _, Rn.of (sr_later H.out bb) (Kp.of_below bb)⟩
set_option maxRecDepth 20000 in
set_option maxHeartbeats 6400000 in
theorem dt0 {B g bn bd : Nat} {pv : Value} {s : S} {w : World} (kind : Int) (k d : ByteArray) (n : Int) (h : Sr B g bn bd pv s w) (hk : k.size ≤ 140737488355328) (hd : d.size ≤ 140737488355328) (hn : n ≤ 9223372036854775807) (hl : s.dur.length + s.pend.length + 1 < 3518437208883) (ha : s.age < 4398046511104) (hi : isz s.dur ≤ 140737488355000) (hB : B ≤ w.heap.size) (hkind : kind < 1 ∨ 9 < kind) :
    Calls Tryz.prog 26 #[.pointer (some ⟨g, 0, none⟩), .agg #[.int .i64 kind, .string k, .string d, .int .i64 n]] w fun e w' => ∃ (na : Option Addr) (nl nc : Nat), e = .returned (.agg #[.string (aT s kind k), .slice na nl nc, .int .i64 (doS s kind k d n).1, .int .i64 (aA s kind), .int .i64 (aB s kind), .int .i64 (aC s kind), .bool (aD s kind), .int .i64 (aG s kind)]) ∧ w'.ownsRow w.heap.size 9 1 (.slice na nl nc) (aN s kind k).length ((aN s kind k).map Value.string) ∧ Rn B g bn bd pv (doS s kind k d n).2 w w' := by
  have HD : Hid (doS s kind k d n = (0, s)) := by
    show _ = _
    unfold doS
    rw [if_neg (by omega), if_neg (by omega), if_neg (by omega), if_neg (by omega), if_neg (by omega), if_neg (by omega)]
  rw [HD.out]
  have HAT : Hid (aT s kind k = ⟨#[]⟩) := by show _ = _; unfold aT; rw [if_neg (by omega), if_neg (by omega)]
  have HAN : Hid (aN s kind k = []) := by show _ = _; unfold aN; rw [if_neg (by omega)]
  have HAA : Hid (aA s kind = 0) := by show _ = _; unfold aA; rw [if_neg (by omega)]
  have HAB : Hid (aB s kind = 0) := by show _ = _; unfold aB; rw [if_neg (by omega)]
  have HAC : Hid (aC s kind = 0) := by show _ = _; unfold aC; rw [if_neg (by omega)]
  have HAD : Hid (aD s kind = false) := by show _ = _; unfold aD; rw [if_neg (by omega)]
  have HAG : Hid (aG s kind = 0) := by show _ = _; unfold aG; rw [if_neg (by omega)]
  rw [HAT.out, HAN.out, HAA.out, HAB.out, HAC.out, HAD.out, HAG.out]
  obtain ⟨W1, HW⟩ : ∃ W1, Hid (W1 = (w.alloc (.cells #[.int .i64 kind, .string k, .string d, .int .i64 n] 34)).alloc (.cells Z8 66)) := ⟨_, rfl⟩
  have B1 : Hid (Below w.heap.size w W1) := by rw [HW.out]; exact ((Below.refl _ w).alloc (Nat.le_refl _) _).alloc (by simp) _
  have F1 : Hid (W1.heap[w.heap.size + 1]? = some (.cells Z8 66 (0, 0)) ∧ W1.heap.size = w.heap.size + 2) := by
    rw [HW.out]
    have h1 := (MapKept.heap_alloc (w.alloc (.cells #[.int .i64 kind, .string k, .string d, .int .i64 n] 34)) (.cells Z8 66)).1
    have e : (w.alloc (.cells #[.int .i64 kind, .string k, .string d, .int .i64 n] 34)).heap.size = w.heap.size + 1 := by simp
    rw [e] at h1
    exact ⟨h1, by simp⟩
  have H : Hid (Sr B g bn bd pv s w) := h
  have H1 : Hid (Sr B g bn bd pv s W1) := sr_later h B1.out
  have hB1 : B ≤ W1.heap.size := Nat.le_trans hB B1.out.size
  have RB : Hid (∀ w2, Below W1.heap.size W1 w2 → Rn B g bn bd pv s W1 w2) := fun w2 b2 => Rn.of (sr_later H1.out b2) (Kp.of_below b2)
  clear h
  rw [HW.out] at H1 RB
  have q1 : (kind == 1) = false := by rw [beq_eq_false_iff_ne]; omega
  have q2 : (kind == 2) = false := by rw [beq_eq_false_iff_ne]; omega
  have q3 : (kind == 3) = false := by rw [beq_eq_false_iff_ne]; omega
  have q4 : (kind == 4) = false := by rw [beq_eq_false_iff_ne]; omega
  have q5 : (kind == 5) = false := by rw [beq_eq_false_iff_ne]; omega
  have q6 : (kind == 6) = false := by rw [beq_eq_false_iff_ne]; omega
  have q7 : (kind == 7) = false := by rw [beq_eq_false_iff_ne]; omega
  have q8 : (kind == 8) = false := by rw [beq_eq_false_iff_ne]; omega
  have q9 : (kind == 9) = false := by rw [beq_eq_false_iff_ne]; omega
  clear hkind
  go_enter Tryz.func26, Tryz.ntmps26
  go_wp2_with (fail)
  have G := (MapKept.heap_alloc (w.alloc (.cells #[.int .i64 kind, .string k, .string d, .int .i64 n] 34)) (.cells #[.string ⟨#[]⟩, .slice none 0 0, .int .i64 0, .int .i64 0, .int .i64 0, .int .i64 0, .bool false, .int .i64 0] 66)).1
  have e : (w.alloc (.cells #[.int .i64 kind, .string k, .string d, .int .i64 n] 34)).heap.size = w.heap.size + 1 := by simp
  rw [e] at G
  obtain ⟨e0, e1, e2, e3, e4, e5, e6, e7⟩ := eight G
  refine bodyPost_ret (by simp [results, Tryz.results26, go_sem, e0, e1, e2, e3, e4, e5, e6, e7]; try rfl) rfl ?_
  have bb : Below w.heap.size w ((w.alloc (.cells #[.int .i64 kind, .string k, .string d, .int .i64 n] 34)).alloc (.cells #[.string ⟨#[]⟩, .slice none 0 0, .int .i64 0, .int .i64 0, .int .i64 0, .int .i64 0, .bool false, .int .i64 0] 66)) := ((Below.refl _ w).alloc (Nat.le_refl _) _).alloc (by simp) _
  exact ⟨_, _, _, rfl, World.ownsRow_nil _ _ _ _, Rn.of (sr_later H.out bb) (Kp.of_below bb)⟩
theorem doT {B g bn bd : Nat} {pv : Value} {s : S} {w : World} (kind : Int) (k d : ByteArray) (n : Int) (h : Sr B g bn bd pv s w) (hk : k.size ≤ 140737488355328) (hd : d.size ≤ 140737488355328) (hn : n ≤ 9223372036854775807) (hl : s.dur.length + s.pend.length + 1 < 3518437208883) (ha : s.age < 4398046511104) (hi : isz s.dur ≤ 140737488355000) (hB : B ≤ w.heap.size) :
    Calls Tryz.prog 26 #[.pointer (some ⟨g, 0, none⟩), .agg #[.int .i64 kind, .string k, .string d, .int .i64 n]] w fun e w' => ∃ (na : Option Addr) (nl nc : Nat), e = .returned (.agg #[.string (aT s kind k), .slice na nl nc, .int .i64 (doS s kind k d n).1, .int .i64 (aA s kind), .int .i64 (aB s kind), .int .i64 (aC s kind), .bool (aD s kind), .int .i64 (aG s kind)]) ∧ w'.ownsRow w.heap.size 9 1 (.slice na nl nc) (aN s kind k).length ((aN s kind k).map Value.string) ∧ Rn B g bn bd pv (doS s kind k d n).2 w w' := by
  by_cases h1 : kind = 1
  · exact dt1 kind k d n h hk hd hn hl ha hi hB h1
  by_cases h2 : kind = 2
  · exact dt2 kind k d n h hk hd hn hl ha hi hB h2
  by_cases h3 : kind = 3
  · exact dt3 kind k d n h hk hd hn hl ha hi hB h3
  by_cases h4 : kind = 4
  · exact dt4 kind k d n h hk hd hn hl ha hi hB h4
  by_cases h5 : kind = 5
  · exact dt5 kind k d n h hk hd hn hl ha hi hB h5
  by_cases h6 : kind = 6
  · exact dt6 kind k d n h hk hd hn hl ha hi hB h6
  by_cases h7 : kind = 7
  · exact dt7 kind k d n h hk hd hn hl ha hi hB h7
  by_cases h8 : kind = 8
  · exact dt8 kind k d n h hk hd hn hl ha hi hB h8
  by_cases h9 : kind = 9
  · exact dt9 kind k d n h hk hd hn hl ha hi hB h9
  exact dt0 kind k d n h hk hd hn hl ha hi hB (by omega)
end Go.Proofs.YtlkkibiedlakfaaGreat.zg
