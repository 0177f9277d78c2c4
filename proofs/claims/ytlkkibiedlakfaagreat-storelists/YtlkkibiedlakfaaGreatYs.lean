import Derived.Test.YtlkkibiedlakfaaGreatYr
namespace Go.Proofs.YtlkkibiedlakfaaGreat.ys
open Go.RowKit Go.PlainAid Go.Maps Go.Shelf
open Go.Proofs.YtlkkibiedlakfaaGreat.ca Go.Proofs.YtlkkibiedlakfaaGreat.cb Go.Proofs.YtlkkibiedlakfaaGreat.cp Go.Proofs.YtlkkibiedlakfaaGreat.kp Go.Proofs.YtlkkibiedlakfaaGreat.ka Go.Proofs.YtlkkibiedlakfaaGreat.ya Go.Proofs.YtlkkibiedlakfaaGreat.yb Go.Proofs.YtlkkibiedlakfaaGreat.yc Go.Proofs.YtlkkibiedlakfaaGreat.yd Go.Proofs.YtlkkibiedlakfaaGreat.ye Go.Proofs.YtlkkibiedlakfaaGreat.yf Go.Proofs.YtlkkibiedlakfaaGreat.yg Go.Proofs.YtlkkibiedlakfaaGreat.yi Go.Proofs.YtlkkibiedlakfaaGreat.yj Go.Proofs.YtlkkibiedlakfaaGreat.yk Go.Proofs.YtlkkibiedlakfaaGreat.yl Go.Proofs.YtlkkibiedlakfaaGreat.ym Go.Proofs.YtlkkibiedlakfaaGreat.yn Go.Proofs.YtlkkibiedlakfaaGreat.yo Go.Proofs.YtlkkibiedlakfaaGreat.yp Go.Proofs.YtlkkibiedlakfaaGreat.yr Go.Proofs.YtlkkibiedlakfaaGreat.sb Go.Proofs.YtlkkibiedlakfaaGreat.mc
set_option linter.unusedVariables false
set_option linter.unusedSimpArgs false
set_option maxRecDepth 20000 in
set_option maxHeartbeats 6400000 in
theorem do9 {B g bn bd : Nat} {pv : Value} {s : S} {w : World} (kind : Int) (k d : ByteArray) (n : Int) (h : Sr B g bn bd pv s w) (hk : k.size ≤ 140737488355328) (hd : d.size ≤ 140737488355328) (hn : n ≤ 9223372036854775807) (hl : s.dur.length + s.pend.length + 1 < 3518437208883) (ha : s.age < 4398046511104) (hi : isz s.dur ≤ 140737488355000) (hB : B ≤ w.heap.size) (hkind : kind = 9) :
    Calls Tryz.prog 26 #[.pointer (some ⟨g, 0, none⟩), .agg #[.int .i64 kind, .string k, .string d, .int .i64 n]] w fun e w' => ∃ (t : ByteArray) (na : Option Addr) (nl nc : Nat) (a b c : Int) (f : Bool) (q : Int), e = .returned (.agg #[.string t, .slice na nl nc, .int .i64 (doS s kind k d n).1, .int .i64 a, .int .i64 b, .int .i64 c, .bool f, .int .i64 q]) ∧ Rn B g bn bd pv (doS s kind k d n).2 w w' := by
  subst hkind
  have HD : Hid (doS s 9 k d n = (0, s)) := by show _ = _; unfold doS; simp
  rw [HD.out]
  obtain ⟨W1, HW⟩ : ∃ W1, Hid (W1 = (w.alloc (.cells #[.int .i64 9, .string k, .string d, .int .i64 n] 34)).alloc (.cells Z8 66)) := ⟨_, rfl⟩
  have B1 : Hid (Below w.heap.size w W1) := by rw [HW.out]; exact ((Below.refl _ w).alloc (Nat.le_refl _) _).alloc (by simp) _
  have F1 : Hid (W1.heap[w.heap.size + 1]? = some (.cells Z8 66 (0, 0)) ∧ W1.heap.size = w.heap.size + 2) := by
    rw [HW.out]
    have h1 := (MapKept.heap_alloc (w.alloc (.cells #[.int .i64 9, .string k, .string d, .int .i64 n] 34)) (.cells Z8 66)).1
    have e : (w.alloc (.cells #[.int .i64 9, .string k, .string d, .int .i64 n] 34)).heap.size = w.heap.size + 1 := by simp
    rw [e] at h1
    exact ⟨h1, by simp⟩
  have H : Hid (Sr B g bn bd pv s w) := h
  have H1 : Hid (Sr B g bn bd pv s W1) := sr_later h B1.out
  have hB1 : B ≤ W1.heap.size := Nat.le_trans hB B1.out.size
  have RB : Hid (∀ w2, Below W1.heap.size W1 w2 → Rn B g bn bd pv s W1 w2) := fun w2 b2 => Rn.of (sr_later H1.out b2) (Kp.of_below b2)
  clear h

  have CP : Hid (∀ w1, Sr B g bn bd pv s w1 → Calls _ _ _ _ _) := fun w1 h1 => pendingC h1.row h1.pr
  have CU : Hid (∀ w1, Sr B g bn bd pv s w1 → Calls _ _ _ _ _) := fun w1 h1 => usedC h1.row
  have CR : Hid (∀ w1, Sr B g bn bd pv s w1 → Calls _ _ _ _ _) := fun w1 h1 => roomC h1.row
  have CD : Hid (∀ w1, Sr B g bn bd pv s w1 → Calls _ _ _ _ _) := fun w1 h1 => downC h1.row
  have CA : Hid (∀ w1, Sr B g bn bd pv s w1 → Calls _ _ _ _ _) := fun w1 h1 => ageC h1.row
  rw [HW.out] at H1 RB
  go_enter Tryz.func26, Tryz.ntmps26
  go_wp2_with (first | (go_at_call 64; refine (CP.out _ H1.out).mono ?_; rintro _ _ ⟨rfl, hw⟩; rw [hw]; clear hw) | (go_at_call 65; refine (CU.out _ H1.out).mono ?_; rintro _ _ ⟨rfl, hw⟩; rw [hw]; clear hw) | (go_at_call 66; refine (CR.out _ H1.out).mono ?_; rintro _ _ ⟨rfl, hw⟩; rw [hw]; clear hw) | (go_at_call 33; refine (CD.out _ H1.out).mono ?_; rintro _ _ ⟨rfl, hw⟩; rw [hw]; clear hw) | (go_at_call 67; refine (CA.out _ H1.out).mono ?_; rintro _ _ ⟨rfl, hw⟩; rw [hw]; clear hw) | go_in)
  have G := (MapKept.heap_alloc (w.alloc (.cells #[.int .i64 9, .string k, .string d, .int .i64 n] 34)) (.cells #[.string ⟨#[]⟩, .slice none 0 0, .int .i64 0, .int .i64 s.pend.length, .int .i64 (tot (now s) : Nat), .int .i64 s.cap, .bool s.off, .int .i64 s.age] 66)).1
  have e : (w.alloc (.cells #[.int .i64 9, .string k, .string d, .int .i64 n] 34)).heap.size = w.heap.size + 1 := by simp
  rw [e] at G
  obtain ⟨e0, e1, e2, e3, e4, e5, e6, e7⟩ := eight G
  refine bodyPost_ret (by simp [results, Tryz.results26, go_sem, e0, e1, e2, e3, e4, e5, e6, e7]; try rfl) rfl ?_
  have bb : Below w.heap.size w ((w.alloc (.cells #[.int .i64 9, .string k, .string d, .int .i64 n] 34)).alloc (.cells #[.string ⟨#[]⟩, .slice none 0 0, .int .i64 0, .int .i64 s.pend.length, .int .i64 (tot (now s) : Nat), .int .i64 s.cap, .bool s.off, .int .i64 s.age] 66)) := ((Below.refl _ w).alloc (Nat.le_refl _) _).alloc (by simp) _
  exact ⟨_, _, _, _, _, _, _, _, _, rfl, Rn.of (sr_later H.out bb) (Kp.of_below bb)⟩
set_option maxRecDepth 20000 in
set_option maxHeartbeats 6400000 in
theorem do0 {B g bn bd : Nat} {pv : Value} {s : S} {w : World} (kind : Int) (k d : ByteArray) (n : Int) (h : Sr B g bn bd pv s w) (hk : k.size ≤ 140737488355328) (hd : d.size ≤ 140737488355328) (hn : n ≤ 9223372036854775807) (hl : s.dur.length + s.pend.length + 1 < 3518437208883) (ha : s.age < 4398046511104) (hi : isz s.dur ≤ 140737488355000) (hB : B ≤ w.heap.size) (hkind : kind < 1 ∨ 9 < kind) :
    Calls Tryz.prog 26 #[.pointer (some ⟨g, 0, none⟩), .agg #[.int .i64 kind, .string k, .string d, .int .i64 n]] w fun e w' => ∃ (t : ByteArray) (na : Option Addr) (nl nc : Nat) (a b c : Int) (f : Bool) (q : Int), e = .returned (.agg #[.string t, .slice na nl nc, .int .i64 (doS s kind k d n).1, .int .i64 a, .int .i64 b, .int .i64 c, .bool f, .int .i64 q]) ∧ Rn B g bn bd pv (doS s kind k d n).2 w w' := by
  have HD : Hid (doS s kind k d n = (0, s)) := by
    show _ = _
    unfold doS
    rw [if_neg (by omega), if_neg (by omega), if_neg (by omega), if_neg (by omega), if_neg (by omega), if_neg (by omega)]
  rw [HD.out]
  obtain ⟨W1, HW⟩ : ∃ W1, Hid (W1 = (w.alloc (.cells #[.int .i64 kind, .string k, .string d, .int .i64 n] 34)).alloc (.cells Z8 66)) := ⟨_, rfl⟩
  have B1 : Hid (Below w.heap.size w W1) := by rw [HW.out]; exact ((Below.refl _ w).alloc (Nat.le_refl _) _).alloc (by simp) _
  have F1 : Hid (W1.heap[w.heap.size + 1]? = some (.cells Z8 66 (0, 0)) ∧ W1.heap.size = w.heap.size + 2) := by
    rw [HW.out]
    have h1 := (MapKept.heap_alloc (w.alloc (.cells #[.int .i64 kind, .string k, .string d, .int .i64 n] 34)) (.cells Z8 66)).1
    have e : (w.alloc (.cells #[.int .i64 kind, .string k, .string d, .int .i64 n] 34)).heap.size = w.heap.size + 1 := by simp
    rw [e] at h1
    exact ⟨h1, by simp⟩
  have H : Hid (Sr B g bn bd pv s w) := h
  have H1 : Hid (Sr B g bn bd pv s W1) := sr_later h B1.out
  have hB1 : B ≤ W1.heap.size := Nat.le_trans hB B1.out.size
  have RB : Hid (∀ w2, Below W1.heap.size W1 w2 → Rn B g bn bd pv s W1 w2) := fun w2 b2 => Rn.of (sr_later H1.out b2) (Kp.of_below b2)
  clear h
  rw [HW.out] at H1 RB
  have q1 : (kind == 1) = false := by rw [beq_eq_false_iff_ne]; omega
  have q2 : (kind == 2) = false := by rw [beq_eq_false_iff_ne]; omega
  have q3 : (kind == 3) = false := by rw [beq_eq_false_iff_ne]; omega
  have q4 : (kind == 4) = false := by rw [beq_eq_false_iff_ne]; omega
  have q5 : (kind == 5) = false := by rw [beq_eq_false_iff_ne]; omega
  have q6 : (kind == 6) = false := by rw [beq_eq_false_iff_ne]; omega
  have q7 : (kind == 7) = false := by rw [beq_eq_false_iff_ne]; omega
  have q8 : (kind == 8) = false := by rw [beq_eq_false_iff_ne]; omega
  have q9 : (kind == 9) = false := by rw [beq_eq_false_iff_ne]; omega
  clear hkind
  go_enter Tryz.func26, Tryz.ntmps26
  go_wp2_with (fail)
  have G := (MapKept.heap_alloc (w.alloc (.cells #[.int .i64 kind, .string k, .string d, .int .i64 n] 34)) (.cells #[.string ⟨#[]⟩, .slice none 0 0, .int .i64 0, .int .i64 0, .int .i64 0, .int .i64 0, .bool false, .int .i64 0] 66)).1
  have e : (w.alloc (.cells #[.int .i64 kind, .string k, .string d, .int .i64 n] 34)).heap.size = w.heap.size + 1 := by simp
  rw [e] at G
  obtain ⟨e0, e1, e2, e3, e4, e5, e6, e7⟩ := eight G
  refine bodyPost_ret (by simp [results, Tryz.results26, go_sem, e0, e1, e2, e3, e4, e5, e6, e7]; try rfl) rfl ?_
  have bb : Below w.heap.size w ((w.alloc (.cells #[.int .i64 kind, .string k, .string d, .int .i64 n] 34)).alloc (.cells #[.string ⟨#[]⟩, .slice none 0 0, .int .i64 0, .int .i64 0, .int .i64 0, .int .i64 0, .bool false, .int .i64 0] 66)) := ((Below.refl _ w).alloc (Nat.le_refl _) _).alloc (by simp) _
  exact ⟨_, _, _, _, _, _, _, _, _, rfl, Rn.of (sr_later H.out bb) (Kp.of_below bb)⟩
theorem doC {B g bn bd : Nat} {pv : Value} {s : S} {w : World} (kind : Int) (k d : ByteArray) (n : Int) (h : Sr B g bn bd pv s w) (hk : k.size ≤ 140737488355328) (hd : d.size ≤ 140737488355328) (hn : n ≤ 9223372036854775807) (hl : s.dur.length + s.pend.length + 1 < 3518437208883) (ha : s.age < 4398046511104) (hi : isz s.dur ≤ 140737488355000) (hB : B ≤ w.heap.size) :
    Calls Tryz.prog 26 #[.pointer (some ⟨g, 0, none⟩), .agg #[.int .i64 kind, .string k, .string d, .int .i64 n]] w fun e w' => ∃ (t : ByteArray) (na : Option Addr) (nl nc : Nat) (a b c : Int) (f : Bool) (q : Int), e = .returned (.agg #[.string t, .slice na nl nc, .int .i64 (doS s kind k d n).1, .int .i64 a, .int .i64 b, .int .i64 c, .bool f, .int .i64 q]) ∧ Rn B g bn bd pv (doS s kind k d n).2 w w' := by
  by_cases h1 : kind = 1
  · exact do1 kind k d n h hk hd hn hl ha hi hB h1
  by_cases h2 : kind = 2
  · exact do2 kind k d n h hk hd hn hl ha hi hB h2
  by_cases h3 : kind = 3
  · exact do3 kind k d n h hk hd hn hl ha hi hB h3
  by_cases h4 : kind = 4
  · exact do4 kind k d n h hk hd hn hl ha hi hB h4
  by_cases h5 : kind = 5
  · exact do5 kind k d n h hk hd hn hl ha hi hB h5
  by_cases h6 : kind = 6
  · exact do6 kind k d n h hk hd hn hl ha hi hB h6
  by_cases h7 : kind = 7
  · exact do7 kind k d n h hk hd hn hl ha hi hB h7
  by_cases h8 : kind = 8
  · exact do8 kind k d n h hk hd hn hl ha hi hB h8
  by_cases h9 : kind = 9
  · exact do9 kind k d n h hk hd hn hl ha hi hB h9
  exact do0 kind k d n h hk hd hn hl ha hi hB (by omega)
end Go.Proofs.YtlkkibiedlakfaaGreat.ys
