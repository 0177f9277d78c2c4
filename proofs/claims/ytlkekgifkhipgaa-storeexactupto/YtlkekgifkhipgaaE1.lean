import Derived.Test.YtlkekgifkhipgaaXj
import Derived.Test.YtlkekgifkhipgaaXg
namespace Go.Proofs.Ytlkekgifkhipgaa.xk
open Go.RowKit Go.PlainAid Go.Maps Go.Shelf
open Go.Proofs.Ytlkekgifkhipgaa.ca Go.Proofs.Ytlkekgifkhipgaa.cb Go.Proofs.Ytlkekgifkhipgaa.cp Go.Proofs.Ytlkekgifkhipgaa.kp Go.Proofs.Ytlkekgifkhipgaa.ka Go.Proofs.Ytlkekgifkhipgaa.ya Go.Proofs.Ytlkekgifkhipgaa.yb Go.Proofs.Ytlkekgifkhipgaa.yc Go.Proofs.Ytlkekgifkhipgaa.yd Go.Proofs.Ytlkekgifkhipgaa.ye Go.Proofs.Ytlkekgifkhipgaa.yf Go.Proofs.Ytlkekgifkhipgaa.yi Go.Proofs.Ytlkekgifkhipgaa.yk Go.Proofs.Ytlkekgifkhipgaa.yl Go.Proofs.Ytlkekgifkhipgaa.ym Go.Proofs.Ytlkekgifkhipgaa.yo Go.Proofs.Ytlkekgifkhipgaa.yp Go.Proofs.Ytlkekgifkhipgaa.yr Go.Proofs.Ytlkekgifkhipgaa.zg Go.Proofs.Ytlkekgifkhipgaa.xa Go.Proofs.Ytlkekgifkhipgaa.xb Go.Proofs.Ytlkekgifkhipgaa.xc
set_option linter.unusedVariables false
set_option linter.unusedSimpArgs false
theorem ds_in {B g : Nat} {dv wv vv : Value} {s : S} {w : World} (h : Ds B g dv wv vv s w) : ∀ j, xc.Fd g wv j → j < w.heap.size := by
  rintro j (rfl | hj)
  · exact h.row.lt
  · exact (h.wl.lt _ hj.symm).2
theorem rd_cells {B g p : Nat} {dv wv vv : Value} {s s' : S} {w W1 w2 : World} {o : Obj} (h : Ds B g dv wv vv s w) (r : Rd B g wv s' W1 w2) (hp : w.heap.size ≤ p) (ho : W1.heap[p]? = some o) : w2.heap[p]? = some o := by
  obtain ⟨dv2, wv2, vv2, h2, k2, n2⟩ := r
  rw [k2.block p (Array.getElem?_eq_some_iff.1 ho).1 (fun e => by have := ds_in h p e; omega)]
  exact ho
theorem dg : (86 : Nat) ≠ 36 := by decide
theorem rd_wrap {B g p : Nat} {dv wv vv : Value} {s s' : S} {w W1 w2 W : World} (ho : W1.heap[p]? = some (.cells Z8 36 (0, 0))) (h : Ds B g dv wv vv s w) (b1 : Below w.heap.size w W1) (r : Rd B g wv s' W1 w2) (k : Kp (fun q => q = p) w2 W) (hp : w.heap.size ≤ p) (hp2 : p < W1.heap.size) : Rd B g wv s' w W := by
  have ho2 := rd_cells h r hp ho
  obtain ⟨dv2, wv2, vv2, h2, k2, n2⟩ := r
  have hg : ¬ g = p := fun e => by have := h.row.lt; omega
  refine ⟨dv2, wv2, vv2, h2.keep k hg (fun j hj e => ?_) (fun j hj e => own_tag h2.dl ho2 dg (by rw [← e]; exact hj)) (fun j hj e => own_tag h2.vl ho2 dg (by rw [← e]; exact hj)), ⟨k.os.trans (k2.os.trans b1.os), k.tape.trans (k2.tape.trans b1.tape), k.output.trans (k2.output.trans b1.output), Nat.le_trans b1.size (Nat.le_trans k2.size k.size), fun j hj hn => ?_⟩, fun j hj => ?_⟩
  · rcases n2 j hj with e2 | e2
    · have := ds_in h j (.inr e2); omega
    · omega
  · have hs := b1.size
    have hs2 := k2.size
    rw [k.block j (by omega) (by omega), k2.block j (by omega) hn, b1.block j hj]
  · rcases n2 j hj with e | e
    · exact .inl e
    · exact .inr (Nat.le_trans b1.size e)
theorem getDb {B g : Nat} {dv wv vv : Value} {s : S} {w : World} (k : ByteArray) (h : Ds B g dv wv vv s w) : Calls Try.prog 36 #[.pointer (some ⟨g, 0, none⟩), .string k] w fun e w' => e = .returned (.tuple #[.string (getS s k).1, .int .i64 (getS s k).2]) ∧ Below w.heap.size w w' :=
  (getD k h).mono (by rintro e w' ⟨rfl, hw⟩; rw [hw]; exact ⟨rfl, Below.refl _ _⟩)
set_option maxRecDepth 20000 in
set_option maxHeartbeats 6400000 in
theorem td1 {B g : Nat} {dv wv vv : Value} {s : S} {w : World} (kind : Int) (k d : ByteArray) (n : Int) (h : Ds B g dv wv vv s w) (hk : k.size ≤ 140737488355328) (hd : d.size ≤ 140737488355328) (hn : n ≤ 9223372036854775807) (hl : s.dur.length + s.pend.length + 1 < 3518437208883) (ha : s.age < 4398046511104) (hi : isz s.dur ≤ 140737488355000) (hB : B ≤ w.heap.size) (hkind : kind = 1) :
    Calls Try.prog 10 #[.pointer (some ⟨g, 0, none⟩), .agg #[.int .i64 kind, .string k, .string d, .int .i64 n]] w fun e w' => ∃ (na : Option Addr) (nl nc : Nat), e = .returned (.agg #[.string (aT s kind k), .slice na nl nc, .int .i64 (doS s kind k d n).1, .int .i64 (aA s kind), .int .i64 (aB s kind), .int .i64 (aC s kind), .bool (aD s kind), .int .i64 (aG s kind)]) ∧ w'.ownsRow w.heap.size 9 1 (.slice na nl nc) (aN s kind k).length ((aN s kind k).map Value.string) ∧ Rd B g wv (doS s kind k d n).2 w w' := by
  subst hkind
  have HD : Hid (doS s 1 k d n = putS s k d) := by show _ = _; unfold doS; simp
  rw [HD.out]
  have HAT : Hid (aT s 1 k = ⟨#[]⟩) := by show _ = _; unfold aT; simp
  have HAN : Hid (aN s 1 k = []) := by show _ = _; unfold aN; simp
  have HAA : Hid (aA s 1 = 0) := by show _ = _; unfold aA; simp
  have HAB : Hid (aB s 1 = 0) := by show _ = _; unfold aB; simp
  have HAC : Hid (aC s 1 = 0) := by show _ = _; unfold aC; simp
  have HAD : Hid (aD s 1 = false) := by show _ = _; unfold aD; simp
  have HAG : Hid (aG s 1 = 0) := by show _ = _; unfold aG; simp
  rw [HAT.out, HAN.out, HAA.out, HAB.out, HAC.out, HAD.out, HAG.out]
  obtain ⟨W1, HW⟩ : ∃ W1, Hid (W1 = (w.alloc (.cells #[.int .i64 1, .string k, .string d, .int .i64 n] 32)).alloc (.cells Z8 36)) := ⟨_, rfl⟩
  have B1 : Hid (Below w.heap.size w W1) := by rw [HW.out]; exact ((Below.refl _ w).alloc (Nat.le_refl _) _).alloc (by simp) _
  have F1 : Hid (W1.heap[w.heap.size + 1]? = some (.cells Z8 36 (0, 0)) ∧ W1.heap.size = w.heap.size + 2) := by
    rw [HW.out]
    have h1 := (MapKept.heap_alloc (w.alloc (.cells #[.int .i64 1, .string k, .string d, .int .i64 n] 32)) (.cells Z8 36)).1
    have e : (w.alloc (.cells #[.int .i64 1, .string k, .string d, .int .i64 n] 32)).heap.size = w.heap.size + 1 := by simp
    rw [e] at h1
    exact ⟨h1, by simp⟩
  have H : Hid (Ds B g dv wv vv s w) := h
  have H1 : Hid (Ds B g dv wv vv s W1) := h.later B1.out
  have hB1 : B ≤ W1.heap.size := Nat.le_trans hB B1.out.size
  have RB : Hid (∀ w2, Below W1.heap.size W1 w2 → Rd B g wv s W1 w2) := fun w2 b2 => Rd.refl H1.out b2
  clear h
  have CC : Hid (Calls _ _ _ _ _) := xf.putD k d H1.out hB1 hl hd
  rw [HW.out] at CC RB
  go_enter Try.func10, Try.ntmps10
  go_upto_region 4 with (first | (go_at_call 31; refine CC.out.mono ?_; rintro _ w2 ⟨rfl, r2⟩; have R2 : Hid (Rd _ _ _ _ _ w2) := r2; clear r2) | go_in)
  have F2 : Hid (w2.heap[w.heap.size + 1]? = some (.cells Z8 36 (0, 0))) := rd_cells H.out R2.out (by omega) (by have := F1.out.1; rw [HW.out] at this; exact this)
  obtain ⟨d0, d1, d2, d3, d4, d5, d6, d7⟩ := eight F2.out
  obtain ⟨g0, g1, g2, g3, g4, g5, g6, g7⟩ := froz8 F2.out
  have FIN : Hid (∀ W', W' = _ → _) := put8 w2 (w.heap.size + 1) _ _ _ _ _ _ _ _ (.string ⟨#[]⟩) (.slice none 0 0) (.int .i64 (putS s k d).1) (.int .i64 0) (.int .i64 0) (.int .i64 0) (.bool false) (.int .i64 0) _ F2.out
  clear F2
  go_wp2_with (fail)
  obtain ⟨G, hk2⟩ := FIN.out _ rfl
  obtain ⟨e0, e1, e2, e3, e4, e5, e6, e7⟩ := eight G
  refine bodyPost_ret (by simp [results, Try.results10, go_sem, e0, e1, e2, e3, e4, e5, e6, e7]; try rfl) rfl ?_
  exact ⟨_, _, _, rfl, World.ownsRow_nil _ _ _ _, rd_wrap (by have := F1.out.1; rw [HW.out] at this; exact this) H.out (by have := B1.out; rw [HW.out] at this; exact this) R2.out hk2 (by omega) (by have := F1.out.2; rw [HW.out] at this; omega)⟩
set_option maxRecDepth 20000 in
set_option maxHeartbeats 6400000 in
theorem td2 {B g : Nat} {dv wv vv : Value} {s : S} {w : World} (kind : Int) (k d : ByteArray) (n : Int) (h : Ds B g dv wv vv s w) (hk : k.size ≤ 140737488355328) (hd : d.size ≤ 140737488355328) (hn : n ≤ 9223372036854775807) (hl : s.dur.length + s.pend.length + 1 < 3518437208883) (ha : s.age < 4398046511104) (hi : isz s.dur ≤ 140737488355000) (hB : B ≤ w.heap.size) (hkind : kind = 2) :
    Calls Try.prog 10 #[.pointer (some ⟨g, 0, none⟩), .agg #[.int .i64 kind, .string k, .string d, .int .i64 n]] w fun e w' => ∃ (na : Option Addr) (nl nc : Nat), e = .returned (.agg #[.string (aT s kind k), .slice na nl nc, .int .i64 (doS s kind k d n).1, .int .i64 (aA s kind), .int .i64 (aB s kind), .int .i64 (aC s kind), .bool (aD s kind), .int .i64 (aG s kind)]) ∧ w'.ownsRow w.heap.size 9 1 (.slice na nl nc) (aN s kind k).length ((aN s kind k).map Value.string) ∧ Rd B g wv (doS s kind k d n).2 w w' := by
  subst hkind
  have HD : Hid (doS s 2 k d n = cutS s k) := by show _ = _; unfold doS; simp
  rw [HD.out]
  have HAT : Hid (aT s 2 k = ⟨#[]⟩) := by show _ = _; unfold aT; simp
  have HAN : Hid (aN s 2 k = []) := by show _ = _; unfold aN; simp
  have HAA : Hid (aA s 2 = 0) := by show _ = _; unfold aA; simp
  have HAB : Hid (aB s 2 = 0) := by show _ = _; unfold aB; simp
  have HAC : Hid (aC s 2 = 0) := by show _ = _; unfold aC; simp
  have HAD : Hid (aD s 2 = false) := by show _ = _; unfold aD; simp
  have HAG : Hid (aG s 2 = 0) := by show _ = _; unfold aG; simp
  rw [HAT.out, HAN.out, HAA.out, HAB.out, HAC.out, HAD.out, HAG.out]
  obtain ⟨W1, HW⟩ : ∃ W1, Hid (W1 = (w.alloc (.cells #[.int .i64 2, .string k, .string d, .int .i64 n] 32)).alloc (.cells Z8 36)) := ⟨_, rfl⟩
  have B1 : Hid (Below w.heap.size w W1) := by rw [HW.out]; exact ((Below.refl _ w).alloc (Nat.le_refl _) _).alloc (by simp) _
  have F1 : Hid (W1.heap[w.heap.size + 1]? = some (.cells Z8 36 (0, 0)) ∧ W1.heap.size = w.heap.size + 2) := by
    rw [HW.out]
    have h1 := (MapKept.heap_alloc (w.alloc (.cells #[.int .i64 2, .string k, .string d, .int .i64 n] 32)) (.cells Z8 36)).1
    have e : (w.alloc (.cells #[.int .i64 2, .string k, .string d, .int .i64 n] 32)).heap.size = w.heap.size + 1 := by simp
    rw [e] at h1
    exact ⟨h1, by simp⟩
  have H : Hid (Ds B g dv wv vv s w) := h
  have H1 : Hid (Ds B g dv wv vv s W1) := h.later B1.out
  have hB1 : B ≤ W1.heap.size := Nat.le_trans hB B1.out.size
  have RB : Hid (∀ w2, Below W1.heap.size W1 w2 → Rd B g wv s W1 w2) := fun w2 b2 => Rd.refl H1.out b2
  clear h
  have CC : Hid (Calls _ _ _ _ _) := xf.cutD k H1.out hB1 hl
  rw [HW.out] at CC RB
  go_enter Try.func10, Try.ntmps10
  go_upto_region 7 with (first | (go_at_call 32; refine CC.out.mono ?_; rintro _ w2 ⟨rfl, r2⟩; have R2 : Hid (Rd _ _ _ _ _ w2) := r2; clear r2) | go_in)
  have F2 : Hid (w2.heap[w.heap.size + 1]? = some (.cells Z8 36 (0, 0))) := rd_cells H.out R2.out (by omega) (by have := F1.out.1; rw [HW.out] at this; exact this)
  obtain ⟨d0, d1, d2, d3, d4, d5, d6, d7⟩ := eight F2.out
  obtain ⟨g0, g1, g2, g3, g4, g5, g6, g7⟩ := froz8 F2.out
  have FIN : Hid (∀ W', W' = _ → _) := put8 w2 (w.heap.size + 1) _ _ _ _ _ _ _ _ (.string ⟨#[]⟩) (.slice none 0 0) (.int .i64 (cutS s k).1) (.int .i64 0) (.int .i64 0) (.int .i64 0) (.bool false) (.int .i64 0) _ F2.out
  clear F2
  go_wp2_with (fail)
  obtain ⟨G, hk2⟩ := FIN.out _ rfl
  obtain ⟨e0, e1, e2, e3, e4, e5, e6, e7⟩ := eight G
  refine bodyPost_ret (by simp [results, Try.results10, go_sem, e0, e1, e2, e3, e4, e5, e6, e7]; try rfl) rfl ?_
  exact ⟨_, _, _, rfl, World.ownsRow_nil _ _ _ _, rd_wrap (by have := F1.out.1; rw [HW.out] at this; exact this) H.out (by have := B1.out; rw [HW.out] at this; exact this) R2.out hk2 (by omega) (by have := F1.out.2; rw [HW.out] at this; omega)⟩
set_option maxRecDepth 20000 in
set_option maxHeartbeats 6400000 in
theorem td3 {B g : Nat} {dv wv vv : Value} {s : S} {w : World} (kind : Int) (k d : ByteArray) (n : Int) (h : Ds B g dv wv vv s w) (hk : k.size ≤ 140737488355328) (hd : d.size ≤ 140737488355328) (hn : n ≤ 9223372036854775807) (hl : s.dur.length + s.pend.length + 1 < 3518437208883) (ha : s.age < 4398046511104) (hi : isz s.dur ≤ 140737488355000) (hB : B ≤ w.heap.size) (hkind : kind = 3) :
    Calls Try.prog 10 #[.pointer (some ⟨g, 0, none⟩), .agg #[.int .i64 kind, .string k, .string d, .int .i64 n]] w fun e w' => ∃ (na : Option Addr) (nl nc : Nat), e = .returned (.agg #[.string (aT s kind k), .slice na nl nc, .int .i64 (doS s kind k d n).1, .int .i64 (aA s kind), .int .i64 (aB s kind), .int .i64 (aC s kind), .bool (aD s kind), .int .i64 (aG s kind)]) ∧ w'.ownsRow w.heap.size 9 1 (.slice na nl nc) (aN s kind k).length ((aN s kind k).map Value.string) ∧ Rd B g wv (doS s kind k d n).2 w w' := by
  subst hkind
  have HD : Hid (doS s 3 k d n = syncS s) := by show _ = _; unfold doS; simp
  rw [HD.out]
  have HAT : Hid (aT s 3 k = ⟨#[]⟩) := by show _ = _; unfold aT; simp
  have HAN : Hid (aN s 3 k = []) := by show _ = _; unfold aN; simp
  have HAA : Hid (aA s 3 = 0) := by show _ = _; unfold aA; simp
  have HAB : Hid (aB s 3 = 0) := by show _ = _; unfold aB; simp
  have HAC : Hid (aC s 3 = 0) := by show _ = _; unfold aC; simp
  have HAD : Hid (aD s 3 = false) := by show _ = _; unfold aD; simp
  have HAG : Hid (aG s 3 = 0) := by show _ = _; unfold aG; simp
  rw [HAT.out, HAN.out, HAA.out, HAB.out, HAC.out, HAD.out, HAG.out]
  obtain ⟨W1, HW⟩ : ∃ W1, Hid (W1 = (w.alloc (.cells #[.int .i64 3, .string k, .string d, .int .i64 n] 32)).alloc (.cells Z8 36)) := ⟨_, rfl⟩
  have B1 : Hid (Below w.heap.size w W1) := by rw [HW.out]; exact ((Below.refl _ w).alloc (Nat.le_refl _) _).alloc (by simp) _
  have F1 : Hid (W1.heap[w.heap.size + 1]? = some (.cells Z8 36 (0, 0)) ∧ W1.heap.size = w.heap.size + 2) := by
    rw [HW.out]
    have h1 := (MapKept.heap_alloc (w.alloc (.cells #[.int .i64 3, .string k, .string d, .int .i64 n] 32)) (.cells Z8 36)).1
    have e : (w.alloc (.cells #[.int .i64 3, .string k, .string d, .int .i64 n] 32)).heap.size = w.heap.size + 1 := by simp
    rw [e] at h1
    exact ⟨h1, by simp⟩
  have H : Hid (Ds B g dv wv vv s w) := h
  have H1 : Hid (Ds B g dv wv vv s W1) := h.later B1.out
  have hB1 : B ≤ W1.heap.size := Nat.le_trans hB B1.out.size
  have RB : Hid (∀ w2, Below W1.heap.size W1 w2 → Rd B g wv s W1 w2) := fun w2 b2 => Rd.refl H1.out b2
  clear h
  have CC : Hid (Calls _ _ _ _ _) := xd.syncD H1.out
  rw [HW.out] at CC RB
  go_enter Try.func10, Try.ntmps10
  go_upto_region 10 with (first | (go_at_call 33; refine CC.out.mono ?_; rintro _ w2 ⟨rfl, r2⟩; have R2 : Hid (Rd _ _ _ _ _ w2) := r2; clear r2) | go_in)
  have F2 : Hid (w2.heap[w.heap.size + 1]? = some (.cells Z8 36 (0, 0))) := rd_cells H.out R2.out (by omega) (by have := F1.out.1; rw [HW.out] at this; exact this)
  obtain ⟨d0, d1, d2, d3, d4, d5, d6, d7⟩ := eight F2.out
  obtain ⟨g0, g1, g2, g3, g4, g5, g6, g7⟩ := froz8 F2.out
  have FIN : Hid (∀ W', W' = _ → _) := put8 w2 (w.heap.size + 1) _ _ _ _ _ _ _ _ (.string ⟨#[]⟩) (.slice none 0 0) (.int .i64 (syncS s).1) (.int .i64 0) (.int .i64 0) (.int .i64 0) (.bool false) (.int .i64 0) _ F2.out
  clear F2
  go_wp2_with (fail)
  obtain ⟨G, hk2⟩ := FIN.out _ rfl
  obtain ⟨e0, e1, e2, e3, e4, e5, e6, e7⟩ := eight G
  refine bodyPost_ret (by simp [results, Try.results10, go_sem, e0, e1, e2, e3, e4, e5, e6, e7]; try rfl) rfl ?_
  exact ⟨_, _, _, rfl, World.ownsRow_nil _ _ _ _, rd_wrap (by have := F1.out.1; rw [HW.out] at this; exact this) H.out (by have := B1.out; rw [HW.out] at this; exact this) R2.out hk2 (by omega) (by have := F1.out.2; rw [HW.out] at this; omega)⟩
set_option maxRecDepth 20000 in
set_option maxHeartbeats 6400000 in
theorem td4 {B g : Nat} {dv wv vv : Value} {s : S} {w : World} (kind : Int) (k d : ByteArray) (n : Int) (h : Ds B g dv wv vv s w) (hk : k.size ≤ 140737488355328) (hd : d.size ≤ 140737488355328) (hn : n ≤ 9223372036854775807) (hl : s.dur.length + s.pend.length + 1 < 3518437208883) (ha : s.age < 4398046511104) (hi : isz s.dur ≤ 140737488355000) (hB : B ≤ w.heap.size) (hkind : kind = 4) :
    Calls Try.prog 10 #[.pointer (some ⟨g, 0, none⟩), .agg #[.int .i64 kind, .string k, .string d, .int .i64 n]] w fun e w' => ∃ (na : Option Addr) (nl nc : Nat), e = .returned (.agg #[.string (aT s kind k), .slice na nl nc, .int .i64 (doS s kind k d n).1, .int .i64 (aA s kind), .int .i64 (aB s kind), .int .i64 (aC s kind), .bool (aD s kind), .int .i64 (aG s kind)]) ∧ w'.ownsRow w.heap.size 9 1 (.slice na nl nc) (aN s kind k).length ((aN s kind k).map Value.string) ∧ Rd B g wv (doS s kind k d n).2 w w' := by
  subst hkind
  have HD : Hid (doS s 4 k d n = (0, armS s n)) := by show _ = _; unfold doS; simp
  rw [HD.out]
  have HAT : Hid (aT s 4 k = ⟨#[]⟩) := by show _ = _; unfold aT; simp
  have HAN : Hid (aN s 4 k = []) := by show _ = _; unfold aN; simp
  have HAA : Hid (aA s 4 = 0) := by show _ = _; unfold aA; simp
  have HAB : Hid (aB s 4 = 0) := by show _ = _; unfold aB; simp
  have HAC : Hid (aC s 4 = 0) := by show _ = _; unfold aC; simp
  have HAD : Hid (aD s 4 = false) := by show _ = _; unfold aD; simp
  have HAG : Hid (aG s 4 = 0) := by show _ = _; unfold aG; simp
  rw [HAT.out, HAN.out, HAA.out, HAB.out, HAC.out, HAD.out, HAG.out]
  obtain ⟨W1, HW⟩ : ∃ W1, Hid (W1 = (w.alloc (.cells #[.int .i64 4, .string k, .string d, .int .i64 n] 32)).alloc (.cells Z8 36)) := ⟨_, rfl⟩
  have B1 : Hid (Below w.heap.size w W1) := by rw [HW.out]; exact ((Below.refl _ w).alloc (Nat.le_refl _) _).alloc (by simp) _
  have F1 : Hid (W1.heap[w.heap.size + 1]? = some (.cells Z8 36 (0, 0)) ∧ W1.heap.size = w.heap.size + 2) := by
    rw [HW.out]
    have h1 := (MapKept.heap_alloc (w.alloc (.cells #[.int .i64 4, .string k, .string d, .int .i64 n] 32)) (.cells Z8 36)).1
    have e : (w.alloc (.cells #[.int .i64 4, .string k, .string d, .int .i64 n] 32)).heap.size = w.heap.size + 1 := by simp
    rw [e] at h1
    exact ⟨h1, by simp⟩
  have H : Hid (Ds B g dv wv vv s w) := h
  have H1 : Hid (Ds B g dv wv vv s W1) := h.later B1.out
  have hB1 : B ≤ W1.heap.size := Nat.le_trans hB B1.out.size
  have RB : Hid (∀ w2, Below W1.heap.size W1 w2 → Rd B g wv s W1 w2) := fun w2 b2 => Rd.refl H1.out b2
  clear h
  have CC : Hid (Calls _ _ _ _ _) := xd.armD n H1.out hn
  rw [HW.out] at CC RB
  go_enter Try.func10, Try.ntmps10
  go_upto_region 24 with (first | (go_at_call 34; refine CC.out.mono ?_; rintro _ w2 ⟨rfl, r2⟩; have R2 : Hid (Rd _ _ _ _ _ w2) := r2; clear r2) | go_in)
  have F2 : Hid (w2.heap[w.heap.size + 1]? = some (.cells Z8 36 (0, 0))) := rd_cells H.out R2.out (by omega) (by have := F1.out.1; rw [HW.out] at this; exact this)
  obtain ⟨d0, d1, d2, d3, d4, d5, d6, d7⟩ := eight F2.out
  obtain ⟨g0, g1, g2, g3, g4, g5, g6, g7⟩ := froz8 F2.out
  have FIN : Hid (∀ W', W' = _ → _) := put8 w2 (w.heap.size + 1) _ _ _ _ _ _ _ _ (.string ⟨#[]⟩) (.slice none 0 0) (.int .i64 0) (.int .i64 0) (.int .i64 0) (.int .i64 0) (.bool false) (.int .i64 0) _ F2.out
  clear F2
  go_wp2_with (fail)
  obtain ⟨G, hk2⟩ := FIN.out _ rfl
  obtain ⟨e0, e1, e2, e3, e4, e5, e6, e7⟩ := eight G
  refine bodyPost_ret (by simp [results, Try.results10, go_sem, e0, e1, e2, e3, e4, e5, e6, e7]; try rfl) rfl ?_
  exact ⟨_, _, _, rfl, World.ownsRow_nil _ _ _ _, rd_wrap (by have := F1.out.1; rw [HW.out] at this; exact this) H.out (by have := B1.out; rw [HW.out] at this; exact this) R2.out hk2 (by omega) (by have := F1.out.2; rw [HW.out] at this; omega)⟩
set_option maxRecDepth 20000 in
set_option maxHeartbeats 6400000 in
theorem td5 {B g : Nat} {dv wv vv : Value} {s : S} {w : World} (kind : Int) (k d : ByteArray) (n : Int) (h : Ds B g dv wv vv s w) (hk : k.size ≤ 140737488355328) (hd : d.size ≤ 140737488355328) (hn : n ≤ 9223372036854775807) (hl : s.dur.length + s.pend.length + 1 < 3518437208883) (ha : s.age < 4398046511104) (hi : isz s.dur ≤ 140737488355000) (hB : B ≤ w.heap.size) (hkind : kind = 5) :
    Calls Try.prog 10 #[.pointer (some ⟨g, 0, none⟩), .agg #[.int .i64 kind, .string k, .string d, .int .i64 n]] w fun e w' => ∃ (na : Option Addr) (nl nc : Nat), e = .returned (.agg #[.string (aT s kind k), .slice na nl nc, .int .i64 (doS s kind k d n).1, .int .i64 (aA s kind), .int .i64 (aB s kind), .int .i64 (aC s kind), .bool (aD s kind), .int .i64 (aG s kind)]) ∧ w'.ownsRow w.heap.size 9 1 (.slice na nl nc) (aN s kind k).length ((aN s kind k).map Value.string) ∧ Rd B g wv (doS s kind k d n).2 w w' := by
  subst hkind
  have HD : Hid (doS s 5 k d n = (0, crashS s d)) := by show _ = _; unfold doS; simp
  rw [HD.out]
  have HAT : Hid (aT s 5 k = ⟨#[]⟩) := by show _ = _; unfold aT; simp
  have HAN : Hid (aN s 5 k = []) := by show _ = _; unfold aN; simp
  have HAA : Hid (aA s 5 = 0) := by show _ = _; unfold aA; simp
  have HAB : Hid (aB s 5 = 0) := by show _ = _; unfold aB; simp
  have HAC : Hid (aC s 5 = 0) := by show _ = _; unfold aC; simp
  have HAD : Hid (aD s 5 = false) := by show _ = _; unfold aD; simp
  have HAG : Hid (aG s 5 = 0) := by show _ = _; unfold aG; simp
  rw [HAT.out, HAN.out, HAA.out, HAB.out, HAC.out, HAD.out, HAG.out]
  obtain ⟨W1, HW⟩ : ∃ W1, Hid (W1 = (w.alloc (.cells #[.int .i64 5, .string k, .string d, .int .i64 n] 32)).alloc (.cells Z8 36)) := ⟨_, rfl⟩
  have B1 : Hid (Below w.heap.size w W1) := by rw [HW.out]; exact ((Below.refl _ w).alloc (Nat.le_refl _) _).alloc (by simp) _
  have F1 : Hid (W1.heap[w.heap.size + 1]? = some (.cells Z8 36 (0, 0)) ∧ W1.heap.size = w.heap.size + 2) := by
    rw [HW.out]
    have h1 := (MapKept.heap_alloc (w.alloc (.cells #[.int .i64 5, .string k, .string d, .int .i64 n] 32)) (.cells Z8 36)).1
    have e : (w.alloc (.cells #[.int .i64 5, .string k, .string d, .int .i64 n] 32)).heap.size = w.heap.size + 1 := by simp
    rw [e] at h1
    exact ⟨h1, by simp⟩
  have H : Hid (Ds B g dv wv vv s w) := h
  have H1 : Hid (Ds B g dv wv vv s W1) := h.later B1.out
  have hB1 : B ≤ W1.heap.size := Nat.le_trans hB B1.out.size
  have RB : Hid (∀ w2, Below W1.heap.size W1 w2 → Rd B g wv s W1 w2) := fun w2 b2 => Rd.refl H1.out b2
  clear h
  have CC : Hid (Calls _ _ _ _ _) := xg.crashD d H1.out hB1 hd ha
  rw [HW.out] at CC RB
  go_enter Try.func10, Try.ntmps10
  go_upto_region 24 with (first | (go_at_call 35; refine CC.out.mono ?_; rintro _ w2 ⟨rfl, r2⟩; have R2 : Hid (Rd _ _ _ _ _ w2) := r2; clear r2) | go_in)
  have F2 : Hid (w2.heap[w.heap.size + 1]? = some (.cells Z8 36 (0, 0))) := rd_cells H.out R2.out (by omega) (by have := F1.out.1; rw [HW.out] at this; exact this)
  obtain ⟨d0, d1, d2, d3, d4, d5, d6, d7⟩ := eight F2.out
  obtain ⟨g0, g1, g2, g3, g4, g5, g6, g7⟩ := froz8 F2.out
  have FIN : Hid (∀ W', W' = _ → _) := put8 w2 (w.heap.size + 1) _ _ _ _ _ _ _ _ (.string ⟨#[]⟩) (.slice none 0 0) (.int .i64 0) (.int .i64 0) (.int .i64 0) (.int .i64 0) (.bool false) (.int .i64 0) _ F2.out
  clear F2
  go_wp2_with (fail)
  obtain ⟨G, hk2⟩ := FIN.out _ rfl
  obtain ⟨e0, e1, e2, e3, e4, e5, e6, e7⟩ := eight G
  refine bodyPost_ret (by simp [results, Try.results10, go_sem, e0, e1, e2, e3, e4, e5, e6, e7]; try rfl) rfl ?_
  exact ⟨_, _, _, rfl, World.ownsRow_nil _ _ _ _, rd_wrap (by have := F1.out.1; rw [HW.out] at this; exact this) H.out (by have := B1.out; rw [HW.out] at this; exact this) R2.out hk2 (by omega) (by have := F1.out.2; rw [HW.out] at this; omega)⟩
set_option maxRecDepth 20000 in
set_option maxHeartbeats 6400000 in
theorem td6 {B g : Nat} {dv wv vv : Value} {s : S} {w : World} (kind : Int) (k d : ByteArray) (n : Int) (h : Ds B g dv wv vv s w) (hk : k.size ≤ 140737488355328) (hd : d.size ≤ 140737488355328) (hn : n ≤ 9223372036854775807) (hl : s.dur.length + s.pend.length + 1 < 3518437208883) (ha : s.age < 4398046511104) (hi : isz s.dur ≤ 140737488355000) (hB : B ≤ w.heap.size) (hkind : kind = 6) :
    Calls Try.prog 10 #[.pointer (some ⟨g, 0, none⟩), .agg #[.int .i64 kind, .string k, .string d, .int .i64 n]] w fun e w' => ∃ (na : Option Addr) (nl nc : Nat), e = .returned (.agg #[.string (aT s kind k), .slice na nl nc, .int .i64 (doS s kind k d n).1, .int .i64 (aA s kind), .int .i64 (aB s kind), .int .i64 (aC s kind), .bool (aD s kind), .int .i64 (aG s kind)]) ∧ w'.ownsRow w.heap.size 9 1 (.slice na nl nc) (aN s kind k).length ((aN s kind k).map Value.string) ∧ Rd B g wv (doS s kind k d n).2 w w' := by
  subst hkind
  have HD : Hid (doS s 6 k d n = ((getS s k).2, s)) := by show _ = _; unfold doS; simp
  rw [HD.out]
  have HAT : Hid (aT s 6 k = (getS s k).1) := by show _ = _; unfold aT; simp
  have HAN : Hid (aN s 6 k = []) := by show _ = _; unfold aN; simp
  have HAA : Hid (aA s 6 = 0) := by show _ = _; unfold aA; simp
  have HAB : Hid (aB s 6 = 0) := by show _ = _; unfold aB; simp
  have HAC : Hid (aC s 6 = 0) := by show _ = _; unfold aC; simp
  have HAD : Hid (aD s 6 = false) := by show _ = _; unfold aD; simp
  have HAG : Hid (aG s 6 = 0) := by show _ = _; unfold aG; simp
  rw [HAT.out, HAN.out, HAA.out, HAB.out, HAC.out, HAD.out, HAG.out]
  obtain ⟨W1, HW⟩ : ∃ W1, Hid (W1 = (w.alloc (.cells #[.int .i64 6, .string k, .string d, .int .i64 n] 32)).alloc (.cells Z8 36)) := ⟨_, rfl⟩
  have B1 : Hid (Below w.heap.size w W1) := by rw [HW.out]; exact ((Below.refl _ w).alloc (Nat.le_refl _) _).alloc (by simp) _
  have F1 : Hid (W1.heap[w.heap.size + 1]? = some (.cells Z8 36 (0, 0)) ∧ W1.heap.size = w.heap.size + 2) := by
    rw [HW.out]
    have h1 := (MapKept.heap_alloc (w.alloc (.cells #[.int .i64 6, .string k, .string d, .int .i64 n] 32)) (.cells Z8 36)).1
    have e : (w.alloc (.cells #[.int .i64 6, .string k, .string d, .int .i64 n] 32)).heap.size = w.heap.size + 1 := by simp
    rw [e] at h1
    exact ⟨h1, by simp⟩
  have H : Hid (Ds B g dv wv vv s w) := h
  have H1 : Hid (Ds B g dv wv vv s W1) := h.later B1.out
  have hB1 : B ≤ W1.heap.size := Nat.le_trans hB B1.out.size
  have RB : Hid (∀ w2, Below W1.heap.size W1 w2 → Rd B g wv s W1 w2) := fun w2 b2 => Rd.refl H1.out b2
  clear h
  have CC : Hid (Calls _ _ _ _ _) := getDb k H1.out
  rw [HW.out] at CC RB
  go_enter Try.func10, Try.ntmps10
  go_upto_region 17 with (first | (go_at_call 36; refine CC.out.mono ?_; rintro _ w2 ⟨rfl, b2⟩; have R2 : Hid (Rd B g wv s _ w2) := RB.out w2 b2; clear b2) | go_in)
  have F2 : Hid (w2.heap[w.heap.size + 1]? = some (.cells Z8 36 (0, 0))) := rd_cells H.out R2.out (by omega) (by have := F1.out.1; rw [HW.out] at this; exact this)
  obtain ⟨d0, d1, d2, d3, d4, d5, d6, d7⟩ := eight F2.out
  obtain ⟨g0, g1, g2, g3, g4, g5, g6, g7⟩ := froz8 F2.out
  have FIN : Hid (∀ W', W' = _ → _) := put8 w2 (w.heap.size + 1) _ _ _ _ _ _ _ _ (.string (getS s k).1) (.slice none 0 0) (.int .i64 (getS s k).2) (.int .i64 0) (.int .i64 0) (.int .i64 0) (.bool false) (.int .i64 0) _ F2.out
  clear F2
  go_wp2_with (fail)
  obtain ⟨G, hk2⟩ := FIN.out _ rfl
  obtain ⟨e0, e1, e2, e3, e4, e5, e6, e7⟩ := eight G
  refine bodyPost_ret (by simp [results, Try.results10, go_sem, e0, e1, e2, e3, e4, e5, e6, e7]; try rfl) rfl ?_
  exact ⟨_, _, _, rfl, World.ownsRow_nil _ _ _ _, rd_wrap (by have := F1.out.1; rw [HW.out] at this; exact this) H.out (by have := B1.out; rw [HW.out] at this; exact this) R2.out hk2 (by omega) (by have := F1.out.2; rw [HW.out] at this; omega)⟩
set_option maxRecDepth 20000 in
set_option maxHeartbeats 6400000 in
theorem td7 {B g : Nat} {dv wv vv : Value} {s : S} {w : World} (kind : Int) (k d : ByteArray) (n : Int) (h : Ds B g dv wv vv s w) (hk : k.size ≤ 140737488355328) (hd : d.size ≤ 140737488355328) (hn : n ≤ 9223372036854775807) (hl : s.dur.length + s.pend.length + 1 < 3518437208883) (ha : s.age < 4398046511104) (hi : isz s.dur ≤ 140737488355000) (hB : B ≤ w.heap.size) (hkind : kind = 7) :
    Calls Try.prog 10 #[.pointer (some ⟨g, 0, none⟩), .agg #[.int .i64 kind, .string k, .string d, .int .i64 n]] w fun e w' => ∃ (na : Option Addr) (nl nc : Nat), e = .returned (.agg #[.string (aT s kind k), .slice na nl nc, .int .i64 (doS s kind k d n).1, .int .i64 (aA s kind), .int .i64 (aB s kind), .int .i64 (aC s kind), .bool (aD s kind), .int .i64 (aG s kind)]) ∧ w'.ownsRow w.heap.size 9 1 (.slice na nl nc) (aN s kind k).length ((aN s kind k).map Value.string) ∧ Rd B g wv (doS s kind k d n).2 w w' := by
  subst hkind
  have HD : Hid (doS s 7 k d n = (0, s)) := by show _ = _; unfold doS; simp
  rw [HD.out]
  have HAT : Hid (aT s 7 k = ⟨#[]⟩) := by show _ = _; unfold aT; simp
  have HAN : Hid (aN s 7 k = keysS s k) := by show _ = _; unfold aN; simp
  have HAA : Hid (aA s 7 = 0) := by show _ = _; unfold aA; simp
  have HAB : Hid (aB s 7 = 0) := by show _ = _; unfold aB; simp
  have HAC : Hid (aC s 7 = 0) := by show _ = _; unfold aC; simp
  have HAD : Hid (aD s 7 = false) := by show _ = _; unfold aD; simp
  have HAG : Hid (aG s 7 = 0) := by show _ = _; unfold aG; simp
  rw [HAT.out, HAN.out, HAA.out, HAB.out, HAC.out, HAD.out, HAG.out]
  obtain ⟨W1, HW⟩ : ∃ W1, Hid (W1 = (w.alloc (.cells #[.int .i64 7, .string k, .string d, .int .i64 n] 32)).alloc (.cells Z8 36)) := ⟨_, rfl⟩
  have B1 : Hid (Below w.heap.size w W1) := by rw [HW.out]; exact ((Below.refl _ w).alloc (Nat.le_refl _) _).alloc (by simp) _
  have F1 : Hid (W1.heap[w.heap.size + 1]? = some (.cells Z8 36 (0, 0)) ∧ W1.heap.size = w.heap.size + 2) := by
    rw [HW.out]
    have h1 := (MapKept.heap_alloc (w.alloc (.cells #[.int .i64 7, .string k, .string d, .int .i64 n] 32)) (.cells Z8 36)).1
    have e : (w.alloc (.cells #[.int .i64 7, .string k, .string d, .int .i64 n] 32)).heap.size = w.heap.size + 1 := by simp
    rw [e] at h1
    exact ⟨h1, by simp⟩
  have H : Hid (Ds B g dv wv vv s w) := h
  have H1 : Hid (Ds B g dv wv vv s W1) := h.later B1.out
  have hB1 : B ≤ W1.heap.size := Nat.le_trans hB B1.out.size
  have RB : Hid (∀ w2, Below W1.heap.size W1 w2 → Rd B g wv s W1 w2) := fun w2 b2 => Rd.refl H1.out b2
  clear h
  have CC : Hid (Calls _ _ _ _ _) := xh.keysD k H1.out
  rw [HW.out] at CC RB
  go_enter Try.func10, Try.ntmps10
  go_wp2_with (first | (go_at_call 15; refine CC.out.mono ?_; rintro _ w2 ⟨v, rfl, o2, b2⟩; obtain ⟨va, vc, hv⟩ := own_formS o2; subst hv; have O2 : Hid (World.ownsRow _ _ _ _ _ _ _) := o2; clear o2; have R2 : Hid (Rd B g wv s _ w2) := RB.out w2 b2; clear b2; have F2 : Hid (w2.heap[w.heap.size + 1]? = some (.cells Z8 36 (0, 0))) := rd_cells H.out R2.out (by omega) (by have := F1.out.1; rw [HW.out] at this; exact this); obtain ⟨d0, d1, d2, d3, d4, d5, d6, d7⟩ := eight F2.out; obtain ⟨g0, g1, g2, g3, g4, g5, g6, g7⟩ := froz8 F2.out; have FIN : Hid (∀ W_, W_ = _ → _) := put8 w2 (w.heap.size + 1) _ _ _ _ _ _ _ _ (.string ⟨#[]⟩) (.slice va (keysS s k).length vc) (.int .i64 0) (.int .i64 0) (.int .i64 0) (.int .i64 0) (.bool false) (.int .i64 0) _ F2.out; clear F2) | go_in)
  obtain ⟨G, hk2⟩ := FIN.out _ rfl
  obtain ⟨e0, e1, e2, e3, e4, e5, e6, e7⟩ := eight G
  refine bodyPost_ret (by simp [results, Try.results10, go_sem, e0, e1, e2, e3, e4, e5, e6, e7]; try rfl) rfl ?_
  exact ⟨_, _, _, rfl, own_low (own_kp O2.out hk2 (fun j hj e => by have := (O2.out.lt _ hj.symm).1; simp at this; omega)) (by simp; omega), rd_wrap (by have := F1.out.1; rw [HW.out] at this; exact this) H.out (by have := B1.out; rw [HW.out] at this; exact this) R2.out hk2 (by omega) (by have := F1.out.2; rw [HW.out] at this; omega)⟩
set_option maxRecDepth 20000 in
set_option maxHeartbeats 6400000 in
theorem td8 {B g : Nat} {dv wv vv : Value} {s : S} {w : World} (kind : Int) (k d : ByteArray) (n : Int) (h : Ds B g dv wv vv s w) (hk : k.size ≤ 140737488355328) (hd : d.size ≤ 140737488355328) (hn : n ≤ 9223372036854775807) (hl : s.dur.length + s.pend.length + 1 < 3518437208883) (ha : s.age < 4398046511104) (hi : isz s.dur ≤ 140737488355000) (hB : B ≤ w.heap.size) (hkind : kind = 8) :
    Calls Try.prog 10 #[.pointer (some ⟨g, 0, none⟩), .agg #[.int .i64 kind, .string k, .string d, .int .i64 n]] w fun e w' => ∃ (na : Option Addr) (nl nc : Nat), e = .returned (.agg #[.string (aT s kind k), .slice na nl nc, .int .i64 (doS s kind k d n).1, .int .i64 (aA s kind), .int .i64 (aB s kind), .int .i64 (aC s kind), .bool (aD s kind), .int .i64 (aG s kind)]) ∧ w'.ownsRow w.heap.size 9 1 (.slice na nl nc) (aN s kind k).length ((aN s kind k).map Value.string) ∧ Rd B g wv (doS s kind k d n).2 w w' := by
  subst hkind
  have HD : Hid (doS s 8 k d n = (0, s)) := by show _ = _; unfold doS; simp
  rw [HD.out]
  have HAT : Hid (aT s 8 k = imageT s.dur) := by show _ = _; unfold aT; simp
  have HAN : Hid (aN s 8 k = []) := by show _ = _; unfold aN; simp
  have HAA : Hid (aA s 8 = 0) := by show _ = _; unfold aA; simp
  have HAB : Hid (aB s 8 = 0) := by show _ = _; unfold aB; simp
  have HAC : Hid (aC s 8 = 0) := by show _ = _; unfold aC; simp
  have HAD : Hid (aD s 8 = false) := by show _ = _; unfold aD; simp
  have HAG : Hid (aG s 8 = 0) := by show _ = _; unfold aG; simp
  rw [HAT.out, HAN.out, HAA.out, HAB.out, HAC.out, HAD.out, HAG.out]
  obtain ⟨W1, HW⟩ : ∃ W1, Hid (W1 = (w.alloc (.cells #[.int .i64 8, .string k, .string d, .int .i64 n] 32)).alloc (.cells Z8 36)) := ⟨_, rfl⟩
  have B1 : Hid (Below w.heap.size w W1) := by rw [HW.out]; exact ((Below.refl _ w).alloc (Nat.le_refl _) _).alloc (by simp) _
  have F1 : Hid (W1.heap[w.heap.size + 1]? = some (.cells Z8 36 (0, 0)) ∧ W1.heap.size = w.heap.size + 2) := by
    rw [HW.out]
    have h1 := (MapKept.heap_alloc (w.alloc (.cells #[.int .i64 8, .string k, .string d, .int .i64 n] 32)) (.cells Z8 36)).1
    have e : (w.alloc (.cells #[.int .i64 8, .string k, .string d, .int .i64 n] 32)).heap.size = w.heap.size + 1 := by simp
    rw [e] at h1
    exact ⟨h1, by simp⟩
  have H : Hid (Ds B g dv wv vv s w) := h
  have H1 : Hid (Ds B g dv wv vv s W1) := h.later B1.out
  have hB1 : B ≤ W1.heap.size := Nat.le_trans hB B1.out.size
  have RB : Hid (∀ w2, Below W1.heap.size W1 w2 → Rd B g wv s W1 w2) := fun w2 b2 => Rd.refl H1.out b2
  clear h
  have CC : Hid (Calls _ _ _ _ _) := xj.imageD H1.out hi
  rw [HW.out] at CC RB
  go_enter Try.func10, Try.ntmps10
  go_wp2_with (first | (go_at_call 12; refine CC.out.mono ?_; rintro _ w2 ⟨rfl, b2⟩; have R2 : Hid (Rd B g wv s _ w2) := RB.out w2 b2; clear b2; have F2 : Hid (w2.heap[w.heap.size + 1]? = some (.cells Z8 36 (0, 0))) := rd_cells H.out R2.out (by omega) (by have := F1.out.1; rw [HW.out] at this; exact this); obtain ⟨d0, d1, d2, d3, d4, d5, d6, d7⟩ := eight F2.out; obtain ⟨g0, g1, g2, g3, g4, g5, g6, g7⟩ := froz8 F2.out; have FIN : Hid (∀ W_, W_ = _ → _) := put8 w2 (w.heap.size + 1) _ _ _ _ _ _ _ _ (.string (imageT s.dur)) (.slice none 0 0) (.int .i64 0) (.int .i64 0) (.int .i64 0) (.int .i64 0) (.bool false) (.int .i64 0) _ F2.out; clear F2) | go_in)
  obtain ⟨G, hk2⟩ := FIN.out _ rfl
  obtain ⟨e0, e1, e2, e3, e4, e5, e6, e7⟩ := eight G
  refine bodyPost_ret (by simp [results, Try.results10, go_sem, e0, e1, e2, e3, e4, e5, e6, e7]; try rfl) rfl ?_
  exact ⟨_, _, _, rfl, World.ownsRow_nil _ _ _ _, rd_wrap (by have := F1.out.1; rw [HW.out] at this; exact this) H.out (by have := B1.out; rw [HW.out] at this; exact this) R2.out hk2 (by omega) (by have := F1.out.2; rw [HW.out] at this; omega)⟩
set_option maxRecDepth 20000 in
set_option maxHeartbeats 6400000 in
theorem td0 {B g : Nat} {dv wv vv : Value} {s : S} {w : World} (kind : Int) (k d : ByteArray) (n : Int) (h : Ds B g dv wv vv s w) (hk : k.size ≤ 140737488355328) (hd : d.size ≤ 140737488355328) (hn : n ≤ 9223372036854775807) (hl : s.dur.length + s.pend.length + 1 < 3518437208883) (ha : s.age < 4398046511104) (hi : isz s.dur ≤ 140737488355000) (hB : B ≤ w.heap.size) (hkind : kind < 1 ∨ 9 < kind) :
    Calls Try.prog 10 #[.pointer (some ⟨g, 0, none⟩), .agg #[.int .i64 kind, .string k, .string d, .int .i64 n]] w fun e w' => ∃ (na : Option Addr) (nl nc : Nat), e = .returned (.agg #[.string (aT s kind k), .slice na nl nc, .int .i64 (doS s kind k d n).1, .int .i64 (aA s kind), .int .i64 (aB s kind), .int .i64 (aC s kind), .bool (aD s kind), .int .i64 (aG s kind)]) ∧ w'.ownsRow w.heap.size 9 1 (.slice na nl nc) (aN s kind k).length ((aN s kind k).map Value.string) ∧ Rd B g wv (doS s kind k d n).2 w w' := by
  have HD : Hid (doS s kind k d n = (0, s)) := by
    show _ = _
    unfold doS
    rw [if_neg (by omega), if_neg (by omega), if_neg (by omega), if_neg (by omega), if_neg (by omega), if_neg (by omega)]
  rw [HD.out]
  have HAT : Hid (aT s kind k = ⟨#[]⟩) := by show _ = _; unfold aT; rw [if_neg (by omega), if_neg (by omega)]
  have HAN : Hid (aN s kind k = []) := by show _ = _; unfold aN; rw [if_neg (by omega)]
  have HAA : Hid (aA s kind = 0) := by show _ = _; unfold aA; rw [if_neg (by omega)]
  have HAB : Hid (aB s kind = 0) := by show _ = _; unfold aB; rw [if_neg (by omega)]
  have HAC : Hid (aC s kind = 0) := by show _ = _; unfold aC; rw [if_neg (by omega)]
  have HAD : Hid (aD s kind = false) := by show _ = _; unfold aD; rw [if_neg (by omega)]
  have HAG : Hid (aG s kind = 0) := by show _ = _; unfold aG; rw [if_neg (by omega)]
  rw [HAT.out, HAN.out, HAA.out, HAB.out, HAC.out, HAD.out, HAG.out]
  obtain ⟨W1, HW⟩ : ∃ W1, Hid (W1 = (w.alloc (.cells #[.int .i64 kind, .string k, .string d, .int .i64 n] 32)).alloc (.cells Z8 36)) := ⟨_, rfl⟩
  have B1 : Hid (Below w.heap.size w W1) := by rw [HW.out]; exact ((Below.refl _ w).alloc (Nat.le_refl _) _).alloc (by simp) _
  have F1 : Hid (W1.heap[w.heap.size + 1]? = some (.cells Z8 36 (0, 0)) ∧ W1.heap.size = w.heap.size + 2) := by
    rw [HW.out]
    have h1 := (MapKept.heap_alloc (w.alloc (.cells #[.int .i64 kind, .string k, .string d, .int .i64 n] 32)) (.cells Z8 36)).1
    have e : (w.alloc (.cells #[.int .i64 kind, .string k, .string d, .int .i64 n] 32)).heap.size = w.heap.size + 1 := by simp
    rw [e] at h1
    exact ⟨h1, by simp⟩
  have H : Hid (Ds B g dv wv vv s w) := h
  have H1 : Hid (Ds B g dv wv vv s W1) := h.later B1.out
  have hB1 : B ≤ W1.heap.size := Nat.le_trans hB B1.out.size
  have RB : Hid (∀ w2, Below W1.heap.size W1 w2 → Rd B g wv s W1 w2) := fun w2 b2 => Rd.refl H1.out b2
  clear h
  rw [HW.out] at H1 RB
  have q1 : (kind == 1) = false := by rw [beq_eq_false_iff_ne]; omega
  have q2 : (kind == 2) = false := by rw [beq_eq_false_iff_ne]; omega
  have q3 : (kind == 3) = false := by rw [beq_eq_false_iff_ne]; omega
  have q4 : (kind == 4) = false := by rw [beq_eq_false_iff_ne]; omega
  have q5 : (kind == 5) = false := by rw [beq_eq_false_iff_ne]; omega
  have q6 : (kind == 6) = false := by rw [beq_eq_false_iff_ne]; omega
  have q7 : (kind == 7) = false := by rw [beq_eq_false_iff_ne]; omega
  have q8 : (kind == 8) = false := by rw [beq_eq_false_iff_ne]; omega
  have q9 : (kind == 9) = false := by rw [beq_eq_false_iff_ne]; omega
  clear hkind
  go_enter Try.func10, Try.ntmps10
  go_wp2_with (fail)
  have G := (MapKept.heap_alloc (w.alloc (.cells #[.int .i64 kind, .string k, .string d, .int .i64 n] 32)) (.cells #[.string ⟨#[]⟩, .slice none 0 0, .int .i64 0, .int .i64 0, .int .i64 0, .int .i64 0, .bool false, .int .i64 0] 36)).1
  have e : (w.alloc (.cells #[.int .i64 kind, .string k, .string d, .int .i64 n] 32)).heap.size = w.heap.size + 1 := by simp
  rw [e] at G
  obtain ⟨e0, e1, e2, e3, e4, e5, e6, e7⟩ := eight G
  refine bodyPost_ret (by simp [results, Try.results10, go_sem, e0, e1, e2, e3, e4, e5, e6, e7]; try rfl) rfl ?_
  have bb : Below w.heap.size w ((w.alloc (.cells #[.int .i64 kind, .string k, .string d, .int .i64 n] 32)).alloc (.cells #[.string ⟨#[]⟩, .slice none 0 0, .int .i64 0, .int .i64 0, .int .i64 0, .int .i64 0, .bool false, .int .i64 0] 36)) := ((Below.refl _ w).alloc (Nat.le_refl _) _).alloc (by simp) _
  exact ⟨_, _, _, rfl, World.ownsRow_nil _ _ _ _, Rd.refl H.out bb⟩
end Go.Proofs.Ytlkekgifkhipgaa.xk

namespace Go.Proofs.Ytlkekgifkhipgaa.xl
open Go.RowKit Go.PlainAid Go.Maps Go.Shelf
open Go.Proofs.Ytlkekgifkhipgaa.ca Go.Proofs.Ytlkekgifkhipgaa.cb Go.Proofs.Ytlkekgifkhipgaa.cp Go.Proofs.Ytlkekgifkhipgaa.kp Go.Proofs.Ytlkekgifkhipgaa.ka Go.Proofs.Ytlkekgifkhipgaa.ya Go.Proofs.Ytlkekgifkhipgaa.yb Go.Proofs.Ytlkekgifkhipgaa.yc Go.Proofs.Ytlkekgifkhipgaa.yd Go.Proofs.Ytlkekgifkhipgaa.ye Go.Proofs.Ytlkekgifkhipgaa.yf Go.Proofs.Ytlkekgifkhipgaa.yi Go.Proofs.Ytlkekgifkhipgaa.yk Go.Proofs.Ytlkekgifkhipgaa.yl Go.Proofs.Ytlkekgifkhipgaa.ym Go.Proofs.Ytlkekgifkhipgaa.yo Go.Proofs.Ytlkekgifkhipgaa.yp Go.Proofs.Ytlkekgifkhipgaa.yr Go.Proofs.Ytlkekgifkhipgaa.zg Go.Proofs.Ytlkekgifkhipgaa.xa Go.Proofs.Ytlkekgifkhipgaa.xb Go.Proofs.Ytlkekgifkhipgaa.xc
set_option linter.unusedVariables false
set_option linter.unusedSimpArgs false
theorem usedN {B g : Nat} {dv wv vv : Value} {s : S} {w : World} (h : Ds B g dv wv vv s w) : Calls Try.prog 38 #[.pointer (some ⟨g, 0, none⟩)] w fun e w' => e = .returned (.int .i64 (tot (now s) : Nat)) ∧ ∃ n, w' = w.drewN n := by
  have c0 := h.row.c6
  have CC : Hid (Calls _ _ _ _ _) := cntsC vv (now s) w h.vl h.ok.now h.ok.lnow
  obtain ⟨a, c, rfl⟩ := lr_form h.vl
  obtain ⟨T, HT⟩ : ∃ T, Hid (tot (now s) = T) := ⟨_, rfl⟩
  rw [HT.out] at CC ⊢
  generalize (now s).length = n at *
  clear h
  go_enter Try.func38, Try.ntmps38
  go_wp2_with fail
  refine CC.out.mono ?_
  rintro _ w1 ⟨rfl, hw⟩
  have HW : Hid (∃ n, w1 = w.drewN n) := hw
  clear hw
  go_wp2
  go_ret
  exact ⟨rfl, HW.out⟩
set_option maxRecDepth 20000 in
set_option maxHeartbeats 6400000 in
theorem td9 {B g : Nat} {dv wv vv : Value} {s : S} {w : World} (kind : Int) (k d : ByteArray) (n : Int) (h : Ds B g dv wv vv s w) (hk : k.size ≤ 140737488355328) (hd : d.size ≤ 140737488355328) (hn : n ≤ 9223372036854775807) (hl : s.dur.length + s.pend.length + 1 < 3518437208883) (ha : s.age < 4398046511104) (hi : isz s.dur ≤ 140737488355000) (hB : B ≤ w.heap.size) (hkind : kind = 9) :
    Calls Try.prog 10 #[.pointer (some ⟨g, 0, none⟩), .agg #[.int .i64 kind, .string k, .string d, .int .i64 n]] w fun e w' => ∃ (na : Option Addr) (nl nc : Nat), e = .returned (.agg #[.string (aT s kind k), .slice na nl nc, .int .i64 (doS s kind k d n).1, .int .i64 (aA s kind), .int .i64 (aB s kind), .int .i64 (aC s kind), .bool (aD s kind), .int .i64 (aG s kind)]) ∧ w'.ownsRow w.heap.size 9 1 (.slice na nl nc) (aN s kind k).length ((aN s kind k).map Value.string) ∧ Rd B g wv (doS s kind k d n).2 w w' := by
  subst hkind
  have HD : Hid (doS s 9 k d n = (0, s)) := by show _ = _; unfold doS; simp
  rw [HD.out]
  have HAT : Hid (aT s 9 k = ⟨#[]⟩) := by show _ = _; unfold aT; simp
  have HAN : Hid (aN s 9 k = []) := by show _ = _; unfold aN; simp
  have HAA : Hid (aA s 9 = s.pend.length) := by show _ = _; unfold aA; simp
  have HAB : Hid (aB s 9 = (tot (now s) : Nat)) := by show _ = _; unfold aB; simp
  have HAC : Hid (aC s 9 = s.cap) := by show _ = _; unfold aC; simp
  have HAD : Hid (aD s 9 = s.off) := by show _ = _; unfold aD; simp
  have HAG : Hid (aG s 9 = s.age) := by show _ = _; unfold aG; simp
  rw [HAT.out, HAN.out, HAA.out, HAB.out, HAC.out, HAD.out, HAG.out]
  obtain ⟨W1, HW⟩ : ∃ W1, Hid (W1 = (w.alloc (.cells #[.int .i64 9, .string k, .string d, .int .i64 n] 32)).alloc (.cells Z8 36)) := ⟨_, rfl⟩
  have B1 : Hid (Below w.heap.size w W1) := by rw [HW.out]; exact ((Below.refl _ w).alloc (Nat.le_refl _) _).alloc (by simp) _
  have F1 : Hid (W1.heap[w.heap.size + 1]? = some (.cells Z8 36 (0, 0)) ∧ W1.heap.size = w.heap.size + 2) := by
    rw [HW.out]
    have h1 := (MapKept.heap_alloc (w.alloc (.cells #[.int .i64 9, .string k, .string d, .int .i64 n] 32)) (.cells Z8 36)).1
    have e : (w.alloc (.cells #[.int .i64 9, .string k, .string d, .int .i64 n] 32)).heap.size = w.heap.size + 1 := by simp
    rw [e] at h1
    exact ⟨h1, by simp⟩
  have H : Hid (Ds B g dv wv vv s w) := h
  have H1 : Hid (Ds B g dv wv vv s W1) := h.later B1.out
  have hB1 : B ≤ W1.heap.size := Nat.le_trans hB B1.out.size
  have RB : Hid (∀ w2, Below W1.heap.size W1 w2 → Rd B g wv s W1 w2) := fun w2 b2 => Rd.refl H1.out b2
  clear h

  have CP : Hid (Calls _ _ _ _ _) := pendD H1.out
  have CU : Hid (Calls _ _ _ _ _) := usedN H1.out
  have D3 : Hid (∀ w3, (∃ n, w3 = W1.drewN n) → Ds B g dv wv vv s w3 ∧ w3.heap[w.heap.size + 1]? = some (.cells Z8 36 (0, 0)) ∧ Below W1.heap.size W1 w3) := by
    rintro w3 ⟨n, rfl⟩
    have b : Below W1.heap.size W1 (W1.drewN n) := zh.below_dN (Below.refl _ _) n
    exact ⟨H1.out.later b, (b.block _ (by rw [F1.out.2]; omega)).trans F1.out.1, b⟩
  have CR : Hid (∀ w1, Ds B g dv wv vv s w1 → Calls _ _ _ _ _) := fun w1 h1 => roomD h1
  have CD : Hid (∀ w1, Ds B g dv wv vv s w1 → Calls _ _ _ _ _) := fun w1 h1 => downD h1
  have CA : Hid (∀ w1, Ds B g dv wv vv s w1 → Calls _ _ _ _ _) := fun w1 h1 => ageD h1
  rw [HW.out] at CP CU D3 RB
  go_enter Try.func10, Try.ntmps10
  go_wp2_with (first | (go_at_call 37; refine CP.out.mono ?_; rintro _ _ ⟨rfl, hw⟩; rw [hw]; clear hw) | (go_at_call 38; refine CU.out.mono ?_; rintro _ w3 ⟨rfl, hw⟩; have H3 : Hid (Ds _ _ _ _ _ _ w3) := (D3.out _ hw).1; have F3 : Hid (w3.heap[w.heap.size + 1]? = some (.cells Z8 36 (0, 0))) := (D3.out _ hw).2.1; have B3 : Hid (Below _ _ w3) := (D3.out _ hw).2.2; clear hw D3; obtain ⟨d0, d1, d2, d3, d4, d5, d6, d7⟩ := eight F3.out; obtain ⟨g0, g1, g2, g3, g4, g5, g6, g7⟩ := froz8 F3.out) | (go_at_call 39; refine (CR.out _ H3.out).mono ?_; rintro _ _ ⟨rfl, hw⟩; rw [hw]; clear hw) | (go_at_call 40; refine (CD.out _ H3.out).mono ?_; rintro _ _ ⟨rfl, hw⟩; rw [hw]; clear hw) | (go_at_call 41; refine (CA.out _ H3.out).mono ?_; rintro _ _ ⟨rfl, hw⟩; rw [hw]; clear hw) | go_in)
  have FIN : Hid (∀ W', W' = _ → _) := put8 w3 (w.heap.size + 1) _ _ _ _ _ _ _ _ (.string ⟨#[]⟩) (.slice none 0 0) (.int .i64 0) (.int .i64 s.pend.length) (.int .i64 (tot (now s) : Nat)) (.int .i64 s.cap) (.bool s.off) (.int .i64 s.age) _ F3.out
  obtain ⟨G, hk2⟩ := FIN.out _ rfl
  obtain ⟨e0, e1, e2, e3, e4, e5, e6, e7⟩ := eight G
  refine bodyPost_ret (by simp [results, Try.results10, go_sem, e0, e1, e2, e3, e4, e5, e6, e7]; try rfl) rfl ?_
  exact ⟨_, _, _, rfl, World.ownsRow_nil _ _ _ _, xk.rd_wrap (by have := F1.out.1; rw [HW.out] at this; exact this) H.out (by have := B1.out; rw [HW.out] at this; exact this) (RB.out _ B3.out) hk2 (by omega) (by have := F1.out.2; rw [HW.out] at this; omega)⟩
theorem toldT {B g : Nat} {dv wv vv : Value} {s : S} {w : World} (kind : Int) (k d : ByteArray) (n : Int) (h : Ds B g dv wv vv s w) (hk : k.size ≤ 140737488355328) (hd : d.size ≤ 140737488355328) (hn : n ≤ 9223372036854775807) (hl : s.dur.length + s.pend.length + 1 < 3518437208883) (ha : s.age < 4398046511104) (hi : isz s.dur ≤ 140737488355000) (hB : B ≤ w.heap.size) :
    Calls Try.prog 10 #[.pointer (some ⟨g, 0, none⟩), .agg #[.int .i64 kind, .string k, .string d, .int .i64 n]] w fun e w' => ∃ (na : Option Addr) (nl nc : Nat), e = .returned (.agg #[.string (aT s kind k), .slice na nl nc, .int .i64 (doS s kind k d n).1, .int .i64 (aA s kind), .int .i64 (aB s kind), .int .i64 (aC s kind), .bool (aD s kind), .int .i64 (aG s kind)]) ∧ w'.ownsRow w.heap.size 9 1 (.slice na nl nc) (aN s kind k).length ((aN s kind k).map Value.string) ∧ Rd B g wv (doS s kind k d n).2 w w' := by
  by_cases h1 : kind = 1
  · exact xk.td1 kind k d n h hk hd hn hl ha hi hB h1
  by_cases h2 : kind = 2
  · exact xk.td2 kind k d n h hk hd hn hl ha hi hB h2
  by_cases h3 : kind = 3
  · exact xk.td3 kind k d n h hk hd hn hl ha hi hB h3
  by_cases h4 : kind = 4
  · exact xk.td4 kind k d n h hk hd hn hl ha hi hB h4
  by_cases h5 : kind = 5
  · exact xk.td5 kind k d n h hk hd hn hl ha hi hB h5
  by_cases h6 : kind = 6
  · exact xk.td6 kind k d n h hk hd hn hl ha hi hB h6
  by_cases h7 : kind = 7
  · exact xk.td7 kind k d n h hk hd hn hl ha hi hB h7
  by_cases h8 : kind = 8
  · exact xk.td8 kind k d n h hk hd hn hl ha hi hB h8
  by_cases h9 : kind = 9
  · exact td9 kind k d n h hk hd hn hl ha hi hB h9
  exact xk.td0 kind k d n h hk hd hn hl ha hi hB (by omega)
end Go.Proofs.Ytlkekgifkhipgaa.xl
