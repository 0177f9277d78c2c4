import Derived.Test.YtajfcddabkhamaaDoorY15
namespace Go.Proofs.YtajfcddabkhamaaDoor.v5
open Go.RowKit Go.PlainAid Go.Shelf
open Go.Proofs.YtajfcddabkhamaaDoor.pl Go.Proofs.YtajfcddabkhamaaDoor.pi Go.Proofs.YtajfcddabkhamaaDoor.rf Go.Proofs.YtajfcddabkhamaaDoor.pj Go.Proofs.YtajfcddabkhamaaDoor.ca Go.Proofs.YtajfcddabkhamaaDoor.cb Go.Proofs.YtajfcddabkhamaaDoor.cp Go.Proofs.YtajfcddabkhamaaDoor.cs Go.Proofs.YtajfcddabkhamaaDoor.xc Go.Proofs.YtajfcddabkhamaaDoor.ka Go.Proofs.YtajfcddabkhamaaDoor.kb Go.Proofs.YtajfcddabkhamaaDoor.ga Go.Proofs.YtajfcddabkhamaaDoor.aa Go.Proofs.YtajfcddabkhamaaDoor.ab Go.Proofs.YtajfcddabkhamaaDoor.tb Go.Proofs.YtajfcddabkhamaaDoor.ac Go.Proofs.YtajfcddabkhamaaDoor.bc Go.Proofs.YtajfcddabkhamaaDoor.bd Go.Proofs.YtajfcddabkhamaaDoor.a2 Go.Proofs.YtajfcddabkhamaaDoor.v1 Go.Proofs.YtajfcddabkhamaaDoor.v2 Go.Proofs.YtajfcddabkhamaaDoor.v3 Go.Proofs.YtajfcddabkhamaaDoor.v4 Go.Proofs.YtajfcddabkhamaaDoor.tej Go.Proofs.YtajfcddabkhamaaDoor.hs Go.Proofs.YtajfcddabkhamaaDoor.hd Go.Proofs.YtajfcddabkhamaaDoor.sa Go.Proofs.YtajfcddabkhamaaDoor.sb Go.Proofs.YtajfcddabkhamaaDoor.sc Go.Proofs.YtajfcddabkhamaaDoor.sd Go.Proofs.YtajfcddabkhamaaDoor.se Go.Proofs.YtajfcddabkhamaaDoor.sf
set_option linter.unusedVariables false

set_option maxRecDepth 100000 in
set_option maxHeartbeats 6400000 in
theorem serveD_n1 (s : Src) (sb : Nat) (lv : Value) (base : Nat) (hcd : i64 s.code) (n : Int) (hn9 : i64 n) (F : Nat → Prop) (al : List (Nat × Nat)) (h l i c : Int) (zh : i64 h) (zl : i64 l) (zi : i64 i) (zc : i64 c) (w : World) (hN : al.length + 256 ≤ 4294967296) (hJ : SJ s sb lv base F al w) (gg : TG h l i c) (gs : ¬ (s.sz < 0 ∨ 4611686018427387904 < s.sz)) (gn : n < 0) :
    Calls Tryd.prog 7 #[.pointer (some ⟨sb, 0, none⟩), .agg #[.int .i64 h, .int .i64 l, .int .i64 i, .int .i64 c], .int .i64 n] w fun e w' =>
      e = .returned (.tuple #[.string (srvA s.wd (askS s) s.sz n h l i c al).1, .int .i64 (srvA s.wd (askS s) s.sz n h l i c al).2.1]) ∧ ∃ F', SJ s sb lv base F' (srvA s.wd (askS s) s.sz n h l i c al).2.2 w' ∧ Goes F w F' w' := by
  have RR : Hid (Rd _ _ _ _ _ _ _) := srcR s sb lv base hcd
  have HJ : Hid (SJ s sb lv base F al w) := hJ
  have GC : Hid (∀ w, Calls _ _ _ _ _) := fun w => Go.Proofs.YtajfcddabkhamaaDoor.a5.goesC h l i c zh zl zi zc w
  obtain ⟨q, HQ⟩ : ∃ q, Hid (srvA s.wd (askS s) s.sz n h l i c al = q) := ⟨_, rfl⟩
  rw [HQ.out]
  obtain ⟨k0, k1⟩ := SJ.cells hJ
  obtain ⟨W, HW⟩ : ∃ W, Hid (w.alloc (.cells #[.int .i64 h, .int .i64 l, .int .i64 i, .int .i64 c] 27) = W) := ⟨_, rfl⟩
  have BW : Hid (Below w.heap.size w W) := by show Below _ _ _; rw [← HW.out]; exact (Below.refl _ _).alloc (Nat.le_refl _) _
  have BT : Hid (Bt W w.heap.size h l i c) := by show Bt _ _ _ _ _ _; rw [← HW.out]; exact box4 w _ _ _ _ _ _ (Below.refl _ _)
  obtain ⟨wd, HWD⟩ : ∃ x, Hid (s.wd = x) := ⟨_, rfl⟩
  obtain ⟨sz, HSZ⟩ : ∃ x, Hid (s.sz = x) := ⟨_, rfl⟩
  rw [HWD.out] at k0 HQ
  rw [HSZ.out] at k1 HQ
  have K0 : Hid (∀ w', Below W.heap.size W w' → w'.cell? ⟨sb, 0, none⟩ = some (.int .i64 wd) ∧ w'.cell? ⟨sb, 1, none⟩ = some (.int .i64 sz)) := fun w' k => by
    have b := over BW.out k
    exact ⟨(b.cell (World.block_lt_of_cell? _ _ k0)).trans k0, (b.cell (World.block_lt_of_cell? _ _ k1)).trans k1⟩
  clear k0 k1 hJ
  rw [HSZ.out] at gs
  have HE : Hid (q = (ByteArray.empty, 80, al)) := by show _ = _; rw [← HQ.out]; unfold srvA; rw [if_neg (fun x => x gg), if_neg gs, if_pos (.inl gn)]
  rw [show decide (Go.Proofs.YtajfcddabkhamaaDoor.a1.Goes h l i c) = true from decide_eq_true gg] at GC
  have gs1 : ¬ sz < 0 := fun x => gs (.inl x)
  have gs2 : ¬ 4611686018427387904 < sz := fun x => gs (.inr x)
  have LC : Hid (∀ w, Calls _ _ _ _ _) := fun w => Go.Proofs.YtajfcddabkhamaaDoor.a5.liesC h l i c (max n 0) zh zl zi zc (by omega) (by have := hn9.2; omega) w
  obtain ⟨d, HD⟩ : ∃ d, Hid (decide (Go.Proofs.YtajfcddabkhamaaDoor.a5.Lies h l i c (max n 0)) = d) := ⟨_, rfl⟩
  rw [HD.out] at LC
  clear gs gg HD
  go_enter Tryd.func7, Tryd.ntmps7
  go_wp2_with fail
  rw [HW.out]
  obtain ⟨t0, t1, t2, t3⟩ := BT.out
  go_wp2_with fail
  refine (GC.out _).mono ?_
  rintro e w1 ⟨rfl, hb⟩
  obtain ⟨y0, y1⟩ := K0.out w1 hb
  have bt := BT.out.later hb
  have B1 : Hid (Below w.heap.size w w1) := over BW.out hb
  have K1 : Hid (∀ w', Below w1.heap.size w1 w' → w'.cell? ⟨sb, 0, none⟩ = some (.int .i64 wd) ∧ w'.cell? ⟨sb, 1, none⟩ = some (.int .i64 sz)) := fun w' k => K0.out w' (over hb k)
  have T1 : Hid (Bt w1 w.heap.size h l i c) := bt
  clear hb t0 t1 t2 t3 bt
  obtain ⟨t0, t1, t2, t3⟩ := T1.out
  go_wp2_with fail
  refine (LC.out _).mono ?_
  rintro e w2 ⟨rfl, hb⟩
  obtain ⟨z0, z1⟩ := K1.out w2 hb
  have T2 : Hid (Bt w2 w.heap.size h l i c) := T1.out.later hb
  have B2 : Hid (Below w.heap.size w w2) := over B1.out hb
  clear hb y0 y1 t0 t1 t2 t3
  have y0 := z0
  have y1 := z1
  clear z0 z1
  go_wp2
  go_ret2
  exact ⟨by rw [HE.out]; rfl, F, by rw [HE.out]; exact RR.out.later HJ.out B2.out, Goes.of_below B2.out⟩
set_option maxRecDepth 100000 in
set_option maxHeartbeats 6400000 in
theorem serveD_n2 (s : Src) (sb : Nat) (lv : Value) (base : Nat) (hcd : i64 s.code) (n : Int) (hn9 : i64 n) (F : Nat → Prop) (al : List (Nat × Nat)) (h l i c : Int) (zh : i64 h) (zl : i64 l) (zi : i64 i) (zc : i64 c) (w : World) (hN : al.length + 256 ≤ 4294967296) (hJ : SJ s sb lv base F al w) (gg : TG h l i c) (gs : ¬ (s.sz < 0 ∨ 4611686018427387904 < s.sz)) (gn0 : ¬ n < 0) (gn : s.sz < n) :
    Calls Tryd.prog 7 #[.pointer (some ⟨sb, 0, none⟩), .agg #[.int .i64 h, .int .i64 l, .int .i64 i, .int .i64 c], .int .i64 n] w fun e w' =>
      e = .returned (.tuple #[.string (srvA s.wd (askS s) s.sz n h l i c al).1, .int .i64 (srvA s.wd (askS s) s.sz n h l i c al).2.1]) ∧ ∃ F', SJ s sb lv base F' (srvA s.wd (askS s) s.sz n h l i c al).2.2 w' ∧ Goes F w F' w' := by
  have RR : Hid (Rd _ _ _ _ _ _ _) := srcR s sb lv base hcd
  have HJ : Hid (SJ s sb lv base F al w) := hJ
  have GC : Hid (∀ w, Calls _ _ _ _ _) := fun w => Go.Proofs.YtajfcddabkhamaaDoor.a5.goesC h l i c zh zl zi zc w
  obtain ⟨q, HQ⟩ : ∃ q, Hid (srvA s.wd (askS s) s.sz n h l i c al = q) := ⟨_, rfl⟩
  rw [HQ.out]
  obtain ⟨k0, k1⟩ := SJ.cells hJ
  obtain ⟨W, HW⟩ : ∃ W, Hid (w.alloc (.cells #[.int .i64 h, .int .i64 l, .int .i64 i, .int .i64 c] 27) = W) := ⟨_, rfl⟩
  have BW : Hid (Below w.heap.size w W) := by show Below _ _ _; rw [← HW.out]; exact (Below.refl _ _).alloc (Nat.le_refl _) _
  have BT : Hid (Bt W w.heap.size h l i c) := by show Bt _ _ _ _ _ _; rw [← HW.out]; exact box4 w _ _ _ _ _ _ (Below.refl _ _)
  obtain ⟨wd, HWD⟩ : ∃ x, Hid (s.wd = x) := ⟨_, rfl⟩
  obtain ⟨sz, HSZ⟩ : ∃ x, Hid (s.sz = x) := ⟨_, rfl⟩
  rw [HWD.out] at k0 HQ
  rw [HSZ.out] at k1 HQ
  have K0 : Hid (∀ w', Below W.heap.size W w' → w'.cell? ⟨sb, 0, none⟩ = some (.int .i64 wd) ∧ w'.cell? ⟨sb, 1, none⟩ = some (.int .i64 sz)) := fun w' k => by
    have b := over BW.out k
    exact ⟨(b.cell (World.block_lt_of_cell? _ _ k0)).trans k0, (b.cell (World.block_lt_of_cell? _ _ k1)).trans k1⟩
  clear k0 k1 hJ
  rw [HSZ.out] at gs gn
  have HE : Hid (q = (ByteArray.empty, 80, al)) := by show _ = _; rw [← HQ.out]; unfold srvA; rw [if_neg (fun x => x gg), if_neg gs, if_pos (.inr (.inl gn))]
  rw [show decide (Go.Proofs.YtajfcddabkhamaaDoor.a1.Goes h l i c) = true from decide_eq_true gg] at GC
  have gs1 : ¬ sz < 0 := fun x => gs (.inl x)
  have gs2 : ¬ 4611686018427387904 < sz := fun x => gs (.inr x)
  have LC : Hid (∀ w, Calls _ _ _ _ _) := fun w => Go.Proofs.YtajfcddabkhamaaDoor.a5.liesC h l i c (max n 0) zh zl zi zc (by omega) (by have := hn9.2; omega) w
  obtain ⟨d, HD⟩ : ∃ d, Hid (decide (Go.Proofs.YtajfcddabkhamaaDoor.a5.Lies h l i c (max n 0)) = d) := ⟨_, rfl⟩
  rw [HD.out] at LC
  clear gs gg HD
  go_enter Tryd.func7, Tryd.ntmps7
  go_wp2_with fail
  rw [HW.out]
  obtain ⟨t0, t1, t2, t3⟩ := BT.out
  go_wp2_with fail
  refine (GC.out _).mono ?_
  rintro e w1 ⟨rfl, hb⟩
  obtain ⟨y0, y1⟩ := K0.out w1 hb
  have bt := BT.out.later hb
  have B1 : Hid (Below w.heap.size w w1) := over BW.out hb
  have K1 : Hid (∀ w', Below w1.heap.size w1 w' → w'.cell? ⟨sb, 0, none⟩ = some (.int .i64 wd) ∧ w'.cell? ⟨sb, 1, none⟩ = some (.int .i64 sz)) := fun w' k => K0.out w' (over hb k)
  have T1 : Hid (Bt w1 w.heap.size h l i c) := bt
  clear hb t0 t1 t2 t3 bt
  obtain ⟨t0, t1, t2, t3⟩ := T1.out
  go_wp2_with fail
  refine (LC.out _).mono ?_
  rintro e w2 ⟨rfl, hb⟩
  obtain ⟨z0, z1⟩ := K1.out w2 hb
  have T2 : Hid (Bt w2 w.heap.size h l i c) := T1.out.later hb
  have B2 : Hid (Below w.heap.size w w2) := over B1.out hb
  clear hb y0 y1 t0 t1 t2 t3
  have y0 := z0
  have y1 := z1
  clear z0 z1
  go_wp2
  go_ret2
  exact ⟨by rw [HE.out]; rfl, F, by rw [HE.out]; exact RR.out.later HJ.out B2.out, Goes.of_below B2.out⟩
set_option maxRecDepth 100000 in
set_option maxHeartbeats 6400000 in
theorem serveD_n3 (s : Src) (sb : Nat) (lv : Value) (base : Nat) (hcd : i64 s.code) (n : Int) (hn9 : i64 n) (F : Nat → Prop) (al : List (Nat × Nat)) (h l i c : Int) (zh : i64 h) (zl : i64 l) (zi : i64 i) (zc : i64 c) (w : World) (hN : al.length + 256 ≤ 4294967296) (hJ : SJ s sb lv base F al w) (gg : TG h l i c) (gs : ¬ (s.sz < 0 ∨ 4611686018427387904 < s.sz)) (gn0 : ¬ n < 0) (gn1 : ¬ s.sz < n) (gn : ¬ TL h l i c n) :
    Calls Tryd.prog 7 #[.pointer (some ⟨sb, 0, none⟩), .agg #[.int .i64 h, .int .i64 l, .int .i64 i, .int .i64 c], .int .i64 n] w fun e w' =>
      e = .returned (.tuple #[.string (srvA s.wd (askS s) s.sz n h l i c al).1, .int .i64 (srvA s.wd (askS s) s.sz n h l i c al).2.1]) ∧ ∃ F', SJ s sb lv base F' (srvA s.wd (askS s) s.sz n h l i c al).2.2 w' ∧ Goes F w F' w' := by
  have RR : Hid (Rd _ _ _ _ _ _ _) := srcR s sb lv base hcd
  have HJ : Hid (SJ s sb lv base F al w) := hJ
  have GC : Hid (∀ w, Calls _ _ _ _ _) := fun w => Go.Proofs.YtajfcddabkhamaaDoor.a5.goesC h l i c zh zl zi zc w
  obtain ⟨q, HQ⟩ : ∃ q, Hid (srvA s.wd (askS s) s.sz n h l i c al = q) := ⟨_, rfl⟩
  rw [HQ.out]
  obtain ⟨k0, k1⟩ := SJ.cells hJ
  obtain ⟨W, HW⟩ : ∃ W, Hid (w.alloc (.cells #[.int .i64 h, .int .i64 l, .int .i64 i, .int .i64 c] 27) = W) := ⟨_, rfl⟩
  have BW : Hid (Below w.heap.size w W) := by show Below _ _ _; rw [← HW.out]; exact (Below.refl _ _).alloc (Nat.le_refl _) _
  have BT : Hid (Bt W w.heap.size h l i c) := by show Bt _ _ _ _ _ _; rw [← HW.out]; exact box4 w _ _ _ _ _ _ (Below.refl _ _)
  obtain ⟨wd, HWD⟩ : ∃ x, Hid (s.wd = x) := ⟨_, rfl⟩
  obtain ⟨sz, HSZ⟩ : ∃ x, Hid (s.sz = x) := ⟨_, rfl⟩
  rw [HWD.out] at k0 HQ
  rw [HSZ.out] at k1 HQ
  have K0 : Hid (∀ w', Below W.heap.size W w' → w'.cell? ⟨sb, 0, none⟩ = some (.int .i64 wd) ∧ w'.cell? ⟨sb, 1, none⟩ = some (.int .i64 sz)) := fun w' k => by
    have b := over BW.out k
    exact ⟨(b.cell (World.block_lt_of_cell? _ _ k0)).trans k0, (b.cell (World.block_lt_of_cell? _ _ k1)).trans k1⟩
  clear k0 k1 hJ
  rw [HSZ.out] at gs gn1
  have HE : Hid (q = (ByteArray.empty, 80, al)) := by show _ = _; rw [← HQ.out]; unfold srvA; rw [if_neg (fun x => x gg), if_neg gs, if_pos (.inr (.inr gn))]
  rw [show decide (Go.Proofs.YtajfcddabkhamaaDoor.a1.Goes h l i c) = true from decide_eq_true gg] at GC
  have gs1 : ¬ sz < 0 := fun x => gs (.inl x)
  have gs2 : ¬ 4611686018427387904 < sz := fun x => gs (.inr x)
  have LC : Hid (∀ w, Calls _ _ _ _ _) := fun w => Go.Proofs.YtajfcddabkhamaaDoor.a5.liesC h l i c (max n 0) zh zl zi zc (by omega) (by have := hn9.2; omega) w
  rw [show max n 0 = n by omega, show decide (Go.Proofs.YtajfcddabkhamaaDoor.a5.Lies h l i c n) = false from decide_eq_false gn] at LC
  have hmx : max n 0 = n := by omega
  clear gs gg gn
  go_enter Tryd.func7, Tryd.ntmps7
  go_wp2_with fail
  rw [HW.out]
  obtain ⟨t0, t1, t2, t3⟩ := BT.out
  go_wp2_with fail
  refine (GC.out _).mono ?_
  rintro e w1 ⟨rfl, hb⟩
  obtain ⟨y0, y1⟩ := K0.out w1 hb
  have bt := BT.out.later hb
  have B1 : Hid (Below w.heap.size w w1) := over BW.out hb
  have K1 : Hid (∀ w', Below w1.heap.size w1 w' → w'.cell? ⟨sb, 0, none⟩ = some (.int .i64 wd) ∧ w'.cell? ⟨sb, 1, none⟩ = some (.int .i64 sz)) := fun w' k => K0.out w' (over hb k)
  have T1 : Hid (Bt w1 w.heap.size h l i c) := bt
  clear hb t0 t1 t2 t3 bt
  obtain ⟨t0, t1, t2, t3⟩ := T1.out
  go_wp2_with fail
  refine (LC.out _).mono ?_
  rintro e w2 ⟨rfl, hb⟩
  obtain ⟨z0, z1⟩ := K1.out w2 hb
  have T2 : Hid (Bt w2 w.heap.size h l i c) := T1.out.later hb
  have B2 : Hid (Below w.heap.size w w2) := over B1.out hb
  clear hb y0 y1 t0 t1 t2 t3
  have y0 := z0
  have y1 := z1
  clear z0 z1
  go_wp2
  go_ret2
  exact ⟨by rw [HE.out]; rfl, F, by rw [HE.out]; exact RR.out.later HJ.out B2.out, Goes.of_below B2.out⟩
end Go.Proofs.YtajfcddabkhamaaDoor.v5

namespace Go.Proofs.YtajfcddabkhamaaDoor.v6
open Go.RowKit Go.PlainAid Go.Shelf
open Go.Proofs.YtajfcddabkhamaaDoor.pl Go.Proofs.YtajfcddabkhamaaDoor.pi Go.Proofs.YtajfcddabkhamaaDoor.rf Go.Proofs.YtajfcddabkhamaaDoor.pj Go.Proofs.YtajfcddabkhamaaDoor.ca Go.Proofs.YtajfcddabkhamaaDoor.cb Go.Proofs.YtajfcddabkhamaaDoor.cp Go.Proofs.YtajfcddabkhamaaDoor.cs Go.Proofs.YtajfcddabkhamaaDoor.xc Go.Proofs.YtajfcddabkhamaaDoor.ka Go.Proofs.YtajfcddabkhamaaDoor.kb Go.Proofs.YtajfcddabkhamaaDoor.ga Go.Proofs.YtajfcddabkhamaaDoor.aa Go.Proofs.YtajfcddabkhamaaDoor.ab Go.Proofs.YtajfcddabkhamaaDoor.tb Go.Proofs.YtajfcddabkhamaaDoor.ac Go.Proofs.YtajfcddabkhamaaDoor.bc Go.Proofs.YtajfcddabkhamaaDoor.bd Go.Proofs.YtajfcddabkhamaaDoor.a2 Go.Proofs.YtajfcddabkhamaaDoor.v1 Go.Proofs.YtajfcddabkhamaaDoor.v2 Go.Proofs.YtajfcddabkhamaaDoor.v3 Go.Proofs.YtajfcddabkhamaaDoor.v4 Go.Proofs.YtajfcddabkhamaaDoor.tej Go.Proofs.YtajfcddabkhamaaDoor.hs Go.Proofs.YtajfcddabkhamaaDoor.hd Go.Proofs.YtajfcddabkhamaaDoor.sa Go.Proofs.YtajfcddabkhamaaDoor.sb Go.Proofs.YtajfcddabkhamaaDoor.sc Go.Proofs.YtajfcddabkhamaaDoor.sd Go.Proofs.YtajfcddabkhamaaDoor.se Go.Proofs.YtajfcddabkhamaaDoor.sf
set_option linter.unusedVariables false

set_option maxRecDepth 100000 in
set_option maxHeartbeats 12800000 in
theorem serveD_y (s : Src) (sb : Nat) (lv : Value) (base : Nat) (hcd : i64 s.code) (n : Int) (hn9 : i64 n) (F : Nat → Prop) (al : List (Nat × Nat)) (h l i c : Int) (zh : i64 h) (zl : i64 l) (zi : i64 i) (zc : i64 c) (w : World) (hN : al.length + 256 ≤ 4294967296) (hJ : SJ s sb lv base F al w) (gg : TG h l i c) (gs : ¬ (s.sz < 0 ∨ 4611686018427387904 < s.sz)) (gn0 : ¬ n < 0) (gn1 : ¬ s.sz < n) (gn : TL h l i c n) :
    Calls Tryd.prog 7 #[.pointer (some ⟨sb, 0, none⟩), .agg #[.int .i64 h, .int .i64 l, .int .i64 i, .int .i64 c], .int .i64 n] w fun e w' =>
      e = .returned (.tuple #[.string (srvA s.wd (askS s) s.sz n h l i c al).1, .int .i64 (srvA s.wd (askS s) s.sz n h l i c al).2.1]) ∧ ∃ F', SJ s sb lv base F' (srvA s.wd (askS s) s.sz n h l i c al).2.2 w' ∧ Goes F w F' w' := by
  have RR : Hid (Rd _ _ _ _ _ _ _) := srcR s sb lv base hcd
  have HJ : Hid (SJ s sb lv base F al w) := hJ
  have GC : Hid (∀ w, Calls _ _ _ _ _) := fun w => Go.Proofs.YtajfcddabkhamaaDoor.a5.goesC h l i c zh zl zi zc w
  obtain ⟨q, HQ⟩ : ∃ q, Hid (srvA s.wd (askS s) s.sz n h l i c al = q) := ⟨_, rfl⟩
  rw [HQ.out]
  obtain ⟨k0, k1⟩ := SJ.cells hJ
  obtain ⟨W, HW⟩ : ∃ W, Hid (w.alloc (.cells #[.int .i64 h, .int .i64 l, .int .i64 i, .int .i64 c] 27) = W) := ⟨_, rfl⟩
  have BW : Hid (Below w.heap.size w W) := by show Below _ _ _; rw [← HW.out]; exact (Below.refl _ _).alloc (Nat.le_refl _) _
  have BT : Hid (Bt W w.heap.size h l i c) := by show Bt _ _ _ _ _ _; rw [← HW.out]; exact box4 w _ _ _ _ _ _ (Below.refl _ _)
  obtain ⟨wd, HWD⟩ : ∃ x, Hid (s.wd = x) := ⟨_, rfl⟩
  obtain ⟨sz, HSZ⟩ : ∃ x, Hid (s.sz = x) := ⟨_, rfl⟩
  rw [HWD.out] at k0 HQ
  rw [HSZ.out] at k1 HQ
  have K0 : Hid (∀ w', Below W.heap.size W w' → w'.cell? ⟨sb, 0, none⟩ = some (.int .i64 wd) ∧ w'.cell? ⟨sb, 1, none⟩ = some (.int .i64 sz)) := fun w' k => by
    have b := over BW.out k
    exact ⟨(b.cell (World.block_lt_of_cell? _ _ k0)).trans k0, (b.cell (World.block_lt_of_cell? _ _ k1)).trans k1⟩
  clear k0 k1 hJ
  rw [HSZ.out] at gs gn1
  have HE0 : Hid (q = if (row8 wd (askS s) al h l i c).2.1 = 0 then (hashT wd (row8 wd (askS s) al h l i c).1, 0, (row8 wd (askS s) al h l i c).2.2) else (ByteArray.empty, (row8 wd (askS s) al h l i c).2.1, (row8 wd (askS s) al h l i c).2.2)) := by show _ = _; rw [← HQ.out]; unfold srvA; rw [if_neg (fun x => x gg), if_neg gs, if_neg (fun x => by rcases x with e | e | e; exact gn0 e; exact gn1 e; exact e gn)]
  rw [show decide (Go.Proofs.YtajfcddabkhamaaDoor.a1.Goes h l i c) = true from decide_eq_true gg] at GC
  have gs1 : ¬ sz < 0 := fun x => gs (.inl x)
  have gs2 : ¬ 4611686018427387904 < sz := fun x => gs (.inr x)
  have LC : Hid (∀ w, Calls _ _ _ _ _) := fun w => Go.Proofs.YtajfcddabkhamaaDoor.a5.liesC h l i c (max n 0) zh zl zi zc (by omega) (by have := hn9.2; omega) w
  rw [show max n 0 = n by omega, show decide (Go.Proofs.YtajfcddabkhamaaDoor.a5.Lies h l i c n) = true from decide_eq_true gn] at LC
  have hmx : max n 0 = n := by omega
  have WC : Hid (∀ w, Calls _ _ _ _ _) := fun w => Go.Proofs.YtajfcddabkhamaaDoor.kb.width wd w
  clear gs gn HQ
  obtain ⟨h', l', i', c', rfl, rfl, rfl, rfl, k1, k2, k3, k4, k5, k6⟩ := goes_nat gg
  have e8 : row8 wd (askS s) al (h' : Int) (l' : Int) (i' : Int) (c' : Int) = tell (okw wd) (askS s) al (nds (l' * h') (i' * 2 ^ h') c') := by
    unfold row8
    rw [Int.toNat_natCast, Int.toNat_natCast, ← Int.natCast_mul, Int.toNat_natCast, cast_pow, ← Int.natCast_mul, Int.toNat_natCast]
  rw [e8] at HE0
  have HTS : Hid (_ ∧ _ ∧ _) := tell_size (okw wd) (askS s) (nds (l' * h') (i' * 2 ^ h') c') al
  clear e8 gg
  have hF2 : 2 ^ h' ≤ 256 := Nat.le_trans (p2le k2) (by decide)
  have HC9 : Hid (c' ≤ 256) := Nat.le_trans k5 hF2
  have HOK : Hid (∀ k, k < c' → okA ((l' * h' : Nat) : Int) ((i' * 2 ^ h' + k : Nat) : Int)) := nds_ok k1 k3 k6
  have hi9 : i' * 2 ^ h' + c' ≤ 4611686018427387904 := Nat.le_trans (Nat.le_mul_of_pos_right _ (p2 (l' * h'))) k6
  have hLl : (nds (l' * h') (i' * 2 ^ h') c').length = c' := nds_len _ _ _
  have HG : Hid (∀ k, k < c' → (nds (l' * h') (i' * 2 ^ h') c').drop k = (l' * h', i' * 2 ^ h' + k) :: (nds (l' * h') (i' * 2 ^ h') c').drop (k + 1)) := nds_drop _ _ _
  have hml : IntKind.i64.wrap ((l' : Int) * (h' : Int)) = ((l' * h' : Nat) : Int) := by rw [← Int.natCast_mul, IntKind.wrap_i64]; omega
  have hmi : IntKind.i64.wrap ((i' : Int) * (2 : Int) ^ h') = ((i' * 2 ^ h' : Nat) : Int) := by rw [show ((2 : Int) ^ h') = ((2 ^ h' : Nat) : Int) by rw [Int.natCast_pow]; rfl, ← Int.natCast_mul, IntKind.wrap_i64]; omega
  have hu : IntKind.u64.wrap (h' : Int) = (h' : Int) := by rw [IntKind.wrap_u64]; omega
  obtain ⟨L, HL⟩ : ∃ L, Hid (nds (l' * h') (i' * 2 ^ h') c' = L) := ⟨_, rfl⟩
  obtain ⟨Lv, HLv⟩ : ∃ x, Hid (l' * h' = x) := ⟨_, rfl⟩
  rw [HL.out] at hLl HG HE0 HTS
  rw [HLv.out] at HOK HG hml
  obtain ⟨I0, HI0⟩ : ∃ x, Hid (i' * 2 ^ h' = x) := ⟨_, rfl⟩
  rw [HI0.out] at HOK HG hmi hi9
  obtain ⟨T, HT⟩ : ∃ T, Hid (tell (okw wd) (askS s) al L = T) := ⟨_, rfl⟩
  rw [HT.out] at HE0 HTS
  have HLL : Hid (L.length = c') := hLl
  obtain ⟨i9, hi9', hz0, hz1, hz2⟩ := ka.info_parts ka.hi9
  have HIN : Hid (_ ∧ _ ∧ _ ∧ _) := ⟨hi9', hz0, hz1, hz2⟩
  have zW : W.heap.size = w.heap.size + 1 := by rw [← HW.out]; simp
  clear hi9' hz0 hz1 hz2 k3 k4 k5 k6 hF2 hLl
  go_enter Tryd.func7, Tryd.ntmps7
  go_wp2_with fail
  rw [HW.out]
  obtain ⟨t0, t1, t2, t3⟩ := BT.out
  go_wp2_with fail
  refine (GC.out _).mono ?_
  rintro e w1 ⟨rfl, hb⟩
  obtain ⟨y0, y1⟩ := K0.out w1 hb
  have bt := BT.out.later hb
  have B1 : Hid (Below w.heap.size w w1) := over BW.out hb
  have K1 : Hid (∀ w', Below w1.heap.size w1 w' → w'.cell? ⟨sb, 0, none⟩ = some (.int .i64 wd) ∧ w'.cell? ⟨sb, 1, none⟩ = some (.int .i64 sz)) := fun w' k => K0.out w' (over hb k)
  have T1 : Hid (Bt w1 w.heap.size (h' : Int) (l' : Int) (i' : Int) (c' : Int)) := bt
  clear hb t0 t1 t2 t3 bt
  obtain ⟨t0, t1, t2, t3⟩ := T1.out
  go_wp2_with fail
  refine (LC.out _).mono ?_
  rintro e w2 ⟨rfl, hb⟩
  obtain ⟨z0, z1⟩ := K1.out w2 hb
  have T2 : Hid (Bt w2 w.heap.size (h' : Int) (l' : Int) (i' : Int) (c' : Int)) := T1.out.later hb
  have B2 : Hid (Below w.heap.size w w2) := over B1.out hb
  clear hb y0 y1 t0 t1 t2 t3
  have y0 := z0
  have y1 := z1
  clear z0 z1
  go_wp2_with fail
  refine (WC.out _).mono ?_
  rintro e w3 ⟨rfl, hw⟩
  replace hw := hw.symm
  subst hw
  have HH1 : Hid (Hb RR.out wd F w al L (h' : Int) (l' : Int) (i' : Int) (c' : Int) w.heap.size W.heap.size 0 (.slice none 0 0) w2 F al []) := by
    refine ⟨RR.out.later HJ.out B2.out, Goes.of_below B2.out, T2.out, fun x => Nat.lt_irrefl _ (RR.out.within HJ.out _ x), by omega, World.ownsRow_nil _ _ _ _, fun b hb => (by cases hb), ⟨BW.out.size, ?_⟩, RR.out.big HJ.out, ⟨Nat.zero_le _, rfl, rfl⟩, by rw [List.drop_zero, List.nil_append]⟩
    have h1 := B2.out.size
    have h2 := (World.block_lt_of_cell? _ _ T2.out.1)
    show W.heap.size ≤ w2.heap.size
    have h3 : w.heap.size < w2.heap.size := h2
    omega
  clear y0 y1 T1 K1
  obtain ⟨t0, t1, t2, t3⟩ := T2.out
  go_wp2
  clear t0 t1 t2 t3
  go_loopw [11, 12] (fun u x wr => ∃ k : Nat, x = .int .i64 k ∧ k ≤ c' ∧ ∃ F' al' acc, Hid (Hb RR.out wd F w al L (h' : Int) (l' : Int) (i' : Int) (c' : Int) w.heap.size W.heap.size k u wr F' al' acc)) (fun _ x _ => (c' - intOf x).toNat)
  case atStart => exact ⟨0, rfl, Nat.zero_le _, F, al, [], HH1.out⟩
  case round =>
    clear HH1
    obtain ⟨k, rfl, hkn, F', al', acc, HLP⟩ := hrel
    obtain ⟨t0, t1, t2, t3⟩ := HLP.out.bt
    by_cases hk : k < c'
    · have hk' : (k : Int) < c' := by omega
      have HXX : Hid (L.drop k = (Lv, I0 + k) :: L.drop (k + 1)) := HG.out k hk
      have hok := HOK.out k hk
      have C1 : Hid (Calls _ _ _ _ _) := RR.out.call F' al' (Lv, I0 + k) wr (by have := HLP.out.kk; have := HC9.out; omega) hok HLP.out.j
      rw [show (#[Value.pointer (some ⟨sb, 0, none⟩)] ++ #[.agg #[.int .i64 ((Lv, I0 + k) : Nat × Nat).1, .int .i64 ((Lv, I0 + k) : Nat × Nat).2]] ++ #[] : Array Value) = #[Value.pointer (some ⟨sb, 0, none⟩), .agg #[.int .i64 Lv, .int .i64 ((I0 + k : Nat) : Int)]] from rfl] at C1
      obtain ⟨hh, HH⟩ : ∃ h, Hid ((askS s (al'.length + 1) (Lv, I0 + k)).1 = h) := ⟨_, rfl⟩
      obtain ⟨cc, HC⟩ : ∃ c, Hid ((askS s (al'.length + 1) (Lv, I0 + k)).2 = c) := ⟨_, rfl⟩
      rw [HH.out, HC.out] at C1
      have hw2 : IntKind.i64.wrap ((I0 : Int) + (k : Int)) = ((I0 + k : Nat) : Int) := by rw [IntKind.wrap_i64]; omega
      clear hok
      go_wp2_with fail
      refine C1.out.mono ?_
      rintro e w4 ⟨rfl, F3, hJ3, hG3⟩
      have J3 : Hid (SJ s sb lv base F3 (al' ++ [(Lv, I0 + k)]) w4) := hJ3
      have G3 : Hid (Goes F w F3 w4) := HLP.out.go.trans hG3
      have HG3 : Hid (Goes F' wr F3 w4) := hG3
      have BX3 : Hid (Bt w4 w.heap.size (h' : Int) (l' : Int) (i' : Int) (c' : Int)) := HLP.out.bt.map fun o v hv => hG3.cell hv HLP.out.out
      clear hJ3 hG3 t0 t1 t2 t3
      by_cases hc : cc = 0
      · subst hc
        obtain ⟨t, HTT⟩ : ∃ t, Hid (okw wd hh = t) := ⟨_, rfl⟩
        cases t
        · have HE : Hid (T.2 = (72, al' ++ [(Lv, I0 + k)])) := by
            have h1 := HLP.out.eq
            rw [HXX.out, tell_len (okw wd) (askS s) HC.out (by rw [HH.out]; exact HTT.out), HT.out] at h1
            show _ = _
            rw [h1]
          rw [HE.out, if_neg (show ¬ ((72, al' ++ [(Lv, I0 + k)]) : Int × List (Nat × Nat)).1 = 0 from fun x => by simp at x)] at HE0
          have hne : ((hh.size : Int) != (wid wd : Int)) = true := by
            have := of_decide_eq_false HTT.out
            rw [bne_iff_ne]; omega
          go_wp2
          go_ret2
          exact ⟨by rw [HE0.out]; rfl, F3, by rw [HE0.out]; exact J3.out, G3.out⟩
        · have hsz : hh.size = wid wd := of_decide_eq_true HTT.out
          have hne : ((hh.size : Int) != (wid wd : Int)) = false := by rw [hsz]; exact bne_self_eq_false _
          have HEQ : Hid (tell (okw wd) (askS s) al L = ((acc ++ [hh]) ++ (tell (okw wd) (askS s) (al' ++ [(Lv, I0 + k)]) (L.drop (k + 1))).1, (tell (okw wd) (askS s) (al' ++ [(Lv, I0 + k)]) (L.drop (k + 1))).2)) := by
            have h1 := HLP.out.eq
            rw [HXX.out, tell_yes (okw wd) (askS s) HC.out (by rw [HH.out]; exact HTT.out), HH.out] at h1
            show _ = _
            rw [h1, List.append_assoc]
            rfl
          have OWB : Hid (_ ∧ Beside F3 u11) := HG3.out.owns HLP.out.own HLP.out.bes
          have BB : Hid (Below w4.heap.size w4 (w4.alloc (.cells #[.string hh] 9))) := (Below.refl _ _).alloc (Nat.le_refl _) _
          have OX : Hid ((w4.alloc (.cells #[.string hh] 9)).ownsRow W.heap.size 9 1 u11 k (acc.map Value.string)) := own_later OWB.out.1 BB.out
          have SX : Hid (W.heap.size ≤ (w4.alloc (.cells #[.string hh] 9)).heap.size) := by
            have h1 := HLP.out.base_le.2
            have h3 := HG3.out.1.size
            have h4 := BB.out.size
            show _ ≤ _
            omega
          clear hsz
          have hk9 : k ≤ 256 := by have := HC9.out; omega
          go_wp2_with (at_builtin; refine wpList_append_own_at _ rfl _ _ 22 rfl W.heap.size 9 i9 (.string ByteArray.empty) 1 16 Tryd.underlying22 HIN.out.1 HIN.out.2.1 HIN.out.2.2.1 HIN.out.2.2.2 rfl (by decide) _ k _ rfl OX.out ⟨w4.heap.size, 0, none⟩ 1 1 [.string hh] rfl rfl (new_text _ _ _) (one_text _) (by unfold maxLen; omega) (by omega) SX.out ?_; intro p' w5 ho hg hnn hat; have HO5 : Hid (w5.ownsRow W.heap.size 9 1 p' (k + 1) (acc.map Value.string ++ [.string hh])) := ho; have HG5 : Hid ((w4.alloc (.cells #[.string hh] 9)).grownBy w5 u11.ownBlock ∧ (p'.ownBlock = u11.ownBlock ∨ p'.ownBlock = some (w4.alloc (.cells #[.string hh] 9)).heap.size)) := ⟨hg, hat⟩; clear ho hg hnn hat)
          go_roundw
          case rel =>
            obtain ⟨j5, g5, b5⟩ := grow_beside RR.out (RR.out.later J3.out BB.out) (G3.out.trans (Goes.of_below BB.out)) HLP.out.base_le.1 HLP.out.bx OX.out OWB.out.2 HG5.out.1 HG5.out.2
            have hbs : ∀ b, b < W.heap.size → b < (w4.alloc (.cells #[.string hh] 9)).heap.size → w5.heap[b]? = (w4.alloc (.cells #[.string hh] 9)).heap[b]? := fun b hb hlt => HG5.out.1.block b hlt (fun e => by have := (owns_lt OX.out e.symm).2; omega)
            have hlt := HLP.out.lt
            have bx5 : Bt w5 w.heap.size (h' : Int) (l' : Int) (i' : Int) (c' : Int) := (BX3.out.later BB.out).map fun o v hv => (World.cell?_of_block (a := ⟨w.heap.size, o, none⟩) (hbs _ hlt (World.block_lt_of_cell? _ _ hv))).trans hv
            refine ⟨k + 1, by go_num, by omega, F3, al' ++ [(Lv, I0 + k)], acc ++ [hh], ⟨j5, g5, bx5, ?_, HLP.out.lt, ?_, b5, ⟨HLP.out.base_le.1, ?_⟩, HLP.out.bx, ⟨by have := HLL.out; omega, ?_, ?_⟩, HEQ.out⟩⟩
            · exact HG3.out.out (World.block_lt_of_cell? _ _ HLP.out.bt.1) HLP.out.out
            · rw [List.map_append]; exact HO5.out
            · exact Nat.le_trans SX.out HG5.out.1.size
            · rw [List.length_append, HLP.out.kk.2.1]; rfl
            · rw [List.length_append, HLP.out.kk.2.2]; rfl
          case measure => simp [intOf]; omega
      · have q0 : (cc != 0) = true := by rw [bne_iff_ne]; exact hc
        have HE : Hid (T.2 = (cc, al' ++ [(Lv, I0 + k)])) := by
          have h1 := HLP.out.eq
          rw [HXX.out, tell_no (okw wd) (askS s) (by rw [HC.out]; exact hc), HC.out, HT.out] at h1
          show _ = _
          rw [h1]
        rw [HE.out, if_neg (show ¬ ((cc, al' ++ [(Lv, I0 + k)]) : Int × List (Nat × Nat)).1 = 0 from hc)] at HE0
        clear hc
        go_wp2
        go_ret2
        exact ⟨by rw [HE0.out]; rfl, F3, by rw [HE0.out]; exact J3.out, G3.out⟩
    · have hk' : ¬ (k : Int) < c' := by omega
      obtain rfl : c' = k := by omega
      have HE : Hid (T = (acc, 0, al')) := by
        have h1 := HLP.out.eq
        rw [List.drop_of_length_le (by have := HLL.out; omega), HT.out] at h1
        simp only [tell, List.append_nil] at h1
        exact h1
      rw [HE.out] at HE0 HTS
      replace HE0 : Hid (q = (hashT wd acc, 0, al')) := by
        have := HE0.out
        rw [if_pos rfl] at this
        exact this
      have hal := HLP.out.kk.2.1
      have HV := row_hash ((wid wd : Nat) : Int) acc (fun x hx => by rw [okw_wid]; exact HTS.out.2.2 x hx) (by have := HC9.out; omega)
      rw [hashT_wid] at HV
      have HSC : Hid (Calls _ _ _ _ _) := rHashes ((wid wd : Nat) : Int) u11 acc wr (own_readsT (by have h := HLP.out.own; rw [← hal] at h; exact h)) (by have := HC9.out; omega)
      rw [HV] at HSC
      clear HV
      obtain ⟨S8, HS8⟩ : ∃ s, Hid (hashT wd acc = s) := ⟨_, rfl⟩
      rw [HS8.out] at HSC HE0
      go_wp2_with fail
      refine HSC.out.mono ?_
      rintro e w5 ⟨rfl, hb5⟩
      have B5 : Hid (Below wr.heap.size wr w5) := hb5
      clear hb5
      go_wp2
      go_ret2
      exact ⟨by rw [HE0.out]; rfl, F', by rw [HE0.out]; exact RR.out.later HLP.out.j B5.out, HLP.out.go.trans (Goes.of_below B5.out)⟩
end Go.Proofs.YtajfcddabkhamaaDoor.v6

namespace Go.Proofs.YtajfcddabkhamaaDoor.v7
open Go.RowKit Go.PlainAid Go.Shelf
open Go.Proofs.YtajfcddabkhamaaDoor.pl Go.Proofs.YtajfcddabkhamaaDoor.pi Go.Proofs.YtajfcddabkhamaaDoor.rf Go.Proofs.YtajfcddabkhamaaDoor.pj Go.Proofs.YtajfcddabkhamaaDoor.ca Go.Proofs.YtajfcddabkhamaaDoor.cb Go.Proofs.YtajfcddabkhamaaDoor.cp Go.Proofs.YtajfcddabkhamaaDoor.cs Go.Proofs.YtajfcddabkhamaaDoor.xc Go.Proofs.YtajfcddabkhamaaDoor.ka Go.Proofs.YtajfcddabkhamaaDoor.kb Go.Proofs.YtajfcddabkhamaaDoor.ga Go.Proofs.YtajfcddabkhamaaDoor.aa Go.Proofs.YtajfcddabkhamaaDoor.ab Go.Proofs.YtajfcddabkhamaaDoor.tb Go.Proofs.YtajfcddabkhamaaDoor.ac Go.Proofs.YtajfcddabkhamaaDoor.bc Go.Proofs.YtajfcddabkhamaaDoor.bd Go.Proofs.YtajfcddabkhamaaDoor.a2 Go.Proofs.YtajfcddabkhamaaDoor.v1 Go.Proofs.YtajfcddabkhamaaDoor.v2 Go.Proofs.YtajfcddabkhamaaDoor.v3 Go.Proofs.YtajfcddabkhamaaDoor.v4 Go.Proofs.YtajfcddabkhamaaDoor.v5 Go.Proofs.YtajfcddabkhamaaDoor.v6 Go.Proofs.YtajfcddabkhamaaDoor.tej Go.Proofs.YtajfcddabkhamaaDoor.hs Go.Proofs.YtajfcddabkhamaaDoor.hd Go.Proofs.YtajfcddabkhamaaDoor.sa Go.Proofs.YtajfcddabkhamaaDoor.sb Go.Proofs.YtajfcddabkhamaaDoor.sc Go.Proofs.YtajfcddabkhamaaDoor.sd Go.Proofs.YtajfcddabkhamaaDoor.se Go.Proofs.YtajfcddabkhamaaDoor.sf
set_option linter.unusedVariables false

theorem serveD (s : Src) (sb : Nat) (lv : Value) (base : Nat) (hcd : i64 s.code) (n : Int) (hn9 : i64 n) (F : Nat → Prop) (al : List (Nat × Nat)) (h l i c : Int) (zh : i64 h) (zl : i64 l) (zi : i64 i) (zc : i64 c) (w : World) (hN : al.length + 256 ≤ 4294967296) (hJ : SJ s sb lv base F al w) :
    Calls Tryd.prog 7 #[.pointer (some ⟨sb, 0, none⟩), .agg #[.int .i64 h, .int .i64 l, .int .i64 i, .int .i64 c], .int .i64 n] w fun e w' =>
      e = .returned (.tuple #[.string (srvA s.wd (askS s) s.sz n h l i c al).1, .int .i64 (srvA s.wd (askS s) s.sz n h l i c al).2.1]) ∧ ∃ F', SJ s sb lv base F' (srvA s.wd (askS s) s.sz n h l i c al).2.2 w' ∧ Goes F w F' w' := by
  by_cases gg : TG h l i c
  · by_cases gs : s.sz < 0
    · exact serveD_s1 s sb lv base hcd n hn9 F al h l i c zh zl zi zc w hN hJ gg gs
    by_cases gs' : 4611686018427387904 < s.sz
    · exact serveD_s2 s sb lv base hcd n hn9 F al h l i c zh zl zi zc w hN hJ gg gs gs'
    have g3 : ¬ (s.sz < 0 ∨ 4611686018427387904 < s.sz) := fun x => by rcases x with e | e; exact gs e; exact gs' e
    by_cases n1 : n < 0
    · exact serveD_n1 s sb lv base hcd n hn9 F al h l i c zh zl zi zc w hN hJ gg g3 n1
    by_cases n2 : s.sz < n
    · exact serveD_n2 s sb lv base hcd n hn9 F al h l i c zh zl zi zc w hN hJ gg g3 n1 n2
    by_cases n3 : TL h l i c n
    · exact serveD_y s sb lv base hcd n hn9 F al h l i c zh zl zi zc w hN hJ gg g3 n1 n2 n3
    · exact serveD_n3 s sb lv base hcd n hn9 F al h l i c zh zl zi zc w hN hJ gg g3 n1 n2 n3
  · exact serveD_no s sb lv base hcd n hn9 F al h l i c zh zl zi zc w hN hJ gg
end Go.Proofs.YtajfcddabkhamaaDoor.v7
