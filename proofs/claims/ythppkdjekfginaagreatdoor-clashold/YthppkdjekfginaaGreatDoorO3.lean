import Derived.Test.YthppkdjekfginaaGreatDoorO2
import Derived.Test.YthppkdjekfginaaGreatDoorO1
namespace Go.Proofs.YthppkdjekfginaaGreatDoor.oc
open Go.RowKit Go.PlainAid
open Go.Proofs.YthppkdjekfginaaGreatDoor.pl Go.Proofs.YthppkdjekfginaaGreatDoor.pi Go.Proofs.YthppkdjekfginaaGreatDoor.pj Go.Proofs.YthppkdjekfginaaGreatDoor.ca Go.Proofs.YthppkdjekfginaaGreatDoor.cb Go.Proofs.YthppkdjekfginaaGreatDoor.cp Go.Proofs.YthppkdjekfginaaGreatDoor.ga Go.Proofs.YthppkdjekfginaaGreatDoor.gb Go.Proofs.YthppkdjekfginaaGreatDoor.aa Go.Proofs.YthppkdjekfginaaGreatDoor.ba Go.Proofs.YthppkdjekfginaaGreatDoor.bb Go.Proofs.YthppkdjekfginaaGreatDoor.ka Go.Proofs.YthppkdjekfginaaGreatDoor.kb Go.Proofs.YthppkdjekfginaaGreatDoor.kc Go.Proofs.YthppkdjekfginaaGreatDoor.kp Go.Proofs.YthppkdjekfginaaGreatDoor.lk Go.Proofs.YthppkdjekfginaaGreatDoor.qa Go.Proofs.YthppkdjekfginaaGreatDoor.qb Go.Proofs.YthppkdjekfginaaGreatDoor.qc Go.Proofs.YthppkdjekfginaaGreatDoor.ta Go.Proofs.YthppkdjekfginaaGreatDoor.tb Go.Proofs.YthppkdjekfginaaGreatDoor.tc Go.Proofs.YthppkdjekfginaaGreatDoor.ua Go.Proofs.YthppkdjekfginaaGreatDoor.ui Go.Proofs.YthppkdjekfginaaGreatDoor.uk Go.Proofs.YthppkdjekfginaaGreatDoor.ul Go.Proofs.YthppkdjekfginaaGreatDoor.un Go.Proofs.YthppkdjekfginaaGreatDoor.uq Go.Proofs.YthppkdjekfginaaGreatDoor.oa Go.Proofs.YthppkdjekfginaaGreatDoor.ob
set_option linter.unusedVariables false

theorem box113 (w : World) (x y y0 y1 y2 : Value) (t t' t'' : TypeId) : ∀ W, W = ((w.alloc (.cells #[x] t)).alloc (.cells #[y] t')).alloc (.cells #[y0, y1, y2] t'') → Below w.heap.size w W ∧ W.cell? ⟨w.heap.size, 0, none⟩ = some x ∧ W.cell? ⟨w.heap.size + 1, 0, none⟩ = some y ∧ W.heap[w.heap.size + 1 + 1]? = some (.cells #[y0, y1, y2] t'' (0, 0)) := by
  intro W hW
  obtain ⟨A, hA⟩ : ∃ A, A = w.alloc (.cells #[x] t) := ⟨_, rfl⟩
  obtain ⟨D, hD⟩ : ∃ D, D = A.alloc (.cells #[y] t') := ⟨_, rfl⟩
  rw [← hA, ← hD] at hW
  have s1 : A.heap.size = w.heap.size + 1 := by rw [hA]; simp
  have s2 : D.heap.size = w.heap.size + 1 + 1 := by rw [hD]; simp [s1]
  have b1 : Below w.heap.size w A := by rw [hA]; exact (Below.refl _ _).alloc (Nat.le_refl _) _
  have b2 : Below A.heap.size A D := by rw [hD]; exact (Below.refl _ _).alloc (Nat.le_refl _) _
  have b3 : Below D.heap.size D W := by rw [hW]; exact (Below.refl _ _).alloc (Nat.le_refl _) _
  refine ⟨over b1 (over b2 b3), ?_, ?_, ?_⟩
  · refine ((over b2 b3).cell (p := ⟨w.heap.size, 0, none⟩) (by show w.heap.size < _; rw [s1]; omega)).trans ?_
    rw [hA, World.cell?_alloc_at _ _ _ _ rfl]; rfl
  · refine (b3.cell (p := ⟨w.heap.size + 1, 0, none⟩) (by show w.heap.size + 1 < _; rw [s2]; omega)).trans ?_
    rw [← s1, hD, World.cell?_alloc_at _ _ _ _ rfl]; rfl
  · rw [← s2, hW]; exact heap_alloc_new D _
-- what is answered
def oldX (wd m : Int) (xs : List ByteArray) (old : ByteArray) (proof : List ByteArray) : Option (ByteArray × ByteArray) :=
  if qw.conA wd m xs.length old (RT wd xs) proof = 0 then (if RT wd (xs.take m.toNat) = old then none else oldT wd m.toNat xs old proof) else none
set_option maxRecDepth 100000 in
set_option maxHeartbeats 12800000 in
theorem kOldC (wd m : Int) (hwd : i64 wd) (vl : Value) (xs : List ByteArray) (old : ByteArray) (vp : Value) (proof : List ByteArray) (w : World) (hl : ReadsT w vl xs) (hno : ∀ k c, vl = .slice none k c → c = 0) (hp : ReadsT w vp proof) (hx : Fits xs) (zp : proof.length ≤ 140737488355328) (hT : Tab w) :
    Calls Tryz.prog 8 #[.int .i64 wd, vl, .int .i64 m, .string old, vp] w fun e w' => e = .returned (clV (oldX wd m xs old proof)) ∧ Below w.heap.size w w' := by
  have OL : Hid (Old w.heap.size w vl xs ∧ Old w.heap.size w vp proof ∧ Tab w ∧ Fits xs) := ⟨Old.of hl, Old.of hp, hT, hx⟩
  have RD : Hid (ReadsT w vl xs ∧ ReadsT w vp proof) := ⟨hl, hp⟩
  have RC : Hid (∀ w', Tab w' → ReadsT w' vl xs → Calls _ _ _ _ _) := fun w' h1 h2 => mb.rootC wd _ xs w' hwd h1 h2 hx
  have IC : Hid (∀ w', Tab w' → ReadsT w' vp proof → Calls _ _ _ _ _) := fun w' h1 h2 => qw.consC wd m xs.length hwd old (RT wd xs) vp proof w' h2 zp h1
  have hxm := hx.many
  obtain ⟨la, lc, rfl, hlc, hlh⟩ := hl
  obtain ⟨pa, pc, rfl, _⟩ := hp
  have RM : Hid (∀ k, k ≤ xs.length → ∀ w', Tab w' → ReadsT w' (.slice la xs.length lc) xs → Calls Tryz.prog 17 #[.int .i64 wd, .slice la k lc] w' fun e w'' => e = .returned (.string (RT wd (xs.take k))) ∧ Below w'.heap.size w' w'') := fun k hk w' h1 h2 => mb.rootC wd _ (xs.take k) w' hwd h1 (zk.preT h2 hk) (hx.take k)
  unfold oldX
  obtain ⟨E, HE⟩ : ∃ E, Hid (qw.conA wd m xs.length old (RT wd xs) proof = E) := ⟨_, rfl⟩
  obtain ⟨y2, HY2⟩ : ∃ y, Hid (RT wd xs = y) := ⟨_, rfl⟩
  rw [HE.out] at IC ⊢
  rw [HY2.out] at RC IC
  obtain ⟨n, HN⟩ : ∃ n, Hid (xs.length = n) := ⟨_, rfl⟩
  obtain ⟨k, HM⟩ : ∃ n, Hid (proof.length = n) := ⟨_, rfl⟩
  rw [HN.out] at RC IC RM RD OL hlc hlh hxm ⊢
  rw [HM.out] at IC RD OL ⊢
  obtain ⟨W, HW⟩ : ∃ W, Hid (W = ((w.alloc (.cells #[.int .i64 m] 3)).alloc (.cells #[.string old] 9)).alloc (.cells #[.string ⟨#[]⟩, .string ⟨#[]⟩, .bool false] 26)) := ⟨_, rfl⟩
  have hw : ((w.alloc (.cells #[.int .i64 m] 3)).alloc (.cells #[.string old] 9)).alloc (.cells #[.string ⟨#[]⟩, .string ⟨#[]⟩, .bool false] 26) = W := HW.out.symm
  obtain ⟨bw, x7, x8, x10⟩ := box113 w (.int .i64 m) (.string old) (.string ⟨#[]⟩) (.string ⟨#[]⟩) (.bool false) 3 9 26 W HW.out
  have BW : Hid (Below w.heap.size w W) := bw
  have HX : Hid (W.cell? ⟨w.heap.size, 0, none⟩ = some (.int .i64 m) ∧ W.cell? ⟨w.heap.size + 1, 0, none⟩ = some (.string old)) := ⟨x7, x8⟩
  have HR : Hid (W.heap[w.heap.size + 1 + 1]? = some (.cells #[.string ⟨#[]⟩, .string ⟨#[]⟩, .bool false] 26 (0, 0))) := x10
  have F4 : Hid (∀ w4, Below W.heap.size W w4 → w4.heap[w.heap.size + 1 + 1]? = some (.cells #[.string ⟨#[]⟩, .string ⟨#[]⟩, .bool false] 26 (0, 0))) := fun w4 k => (k.block _ (Array.getElem?_eq_some_iff.1 HR.out).1).trans HR.out
  have SX : Hid (∀ w', Below W.heap.size W w' → Below W.heap.size W w' ∧ w'.cell? ⟨w.heap.size, 0, none⟩ = some (.int .i64 m) ∧ w'.cell? ⟨w.heap.size + 1, 0, none⟩ = some (.string old)) := fun w' b => ⟨b, (b.cell (World.block_lt_of_cell? _ _ HX.out.1)).trans HX.out.1, (b.cell (World.block_lt_of_cell? _ _ HX.out.2)).trans HX.out.2⟩
  have HB0 : Hid (Below W.heap.size W W.drew) := below_dr (Below.refl _ _)
  have HB1 : Hid (∀ w1, Below W.drew.heap.size W.drew w1 → Below W.heap.size W w1) := fun w1 b => over HB0.out b
  have GD : Hid (∀ w', Below W.heap.size W w' → Tab w' ∧ ReadsT w' (.slice la n lc) xs ∧ ReadsT w' (.slice pa k pc) proof) := fun w' b => ⟨OL.out.2.2.1.down (over BW.out b), RD.out.1.later (over BW.out b), RD.out.2.later (over BW.out b)⟩
  clear hT hx zp x7 x8 x10 bw
  by_cases h : E = 0
  · subst h
    rw [if_pos rfl]
    have hcon := HE.out
    cases la with
    | none =>
      obtain rfl : lc = 0 := hno _ _ rfl
      have hn0 : n = 0 := by omega
      have hxs : xs = [] := List.length_eq_zero_iff.1 (HN.out.trans hn0)
      obtain ⟨hm0, hE0⟩ : m = 0 ∧ EF wd = old := by
        obtain ⟨M, N, e, hN, i1, i2, i3, i4, i5, i6, i7, i8⟩ := conA_ok hcon
        have h1 := HN.out
        have h2 : M = 0 := by omega
        exact ⟨by omega, i7 h2⟩
      subst hm0
      have RN : Hid (∀ w', Tab w' → ReadsT w' (.slice none n 0) xs → Calls _ _ _ _ _) := RM.out 0 (Nat.zero_le _)
      have ho : RT wd (xs.take (0 : Int).toNat) = old := by rw [hxs, List.take_nil, RT_nil]; exact hE0
      have ho2 : RT wd (xs.take 0) = old := ho
      rw [if_pos ho]
      rw [ho2] at RN
      have qo : (old.toList == old.toList) = true := beq_self_eq_true _
      clear hlh hcon hn0 hxs hE0 ho ho2 hlc
      go_enter Tryz.func8, Tryz.ntmps8
      go_wp2_with fail
      try rw [hw]
      go_region_held3 (fun w' => Below W.heap.size W w' ∧ w'.cell? ⟨w.heap.size, 0, none⟩ = some (.int .i64 0) ∧ w'.cell? ⟨w.heap.size + 1, 0, none⟩ = some (.string old)) (first | exact SX.out _ HB0.out | exact SX.out _ B1.out | exact SX.out _ B2.out) (first | (go_at_call 17; refine (RC.out _ (GD.out _ HB0.out).1 (GD.out _ HB0.out).2.1).mono ?_; rintro e w1 ⟨rfl, hb1⟩; have B1 : Hid (Below W.heap.size W w1) := HB1.out w1 hb1; clear hb1) | (go_at_call 16; refine (IC.out _ (GD.out _ B1.out).1 (GD.out _ B1.out).2.2).mono ?_; rintro e w2 ⟨rfl, hb2⟩; have B2 : Hid (Below W.heap.size W w2) := over B1.out hb2; clear hb2))
      obtain ⟨b2, c7, c8⟩ := SX.out w2 B2.out
      clear b2
      go_wp2_with fail
      have HB2 : Hid (Below W.heap.size W w2.drew) := below_dr B2.out
      go_region_held3 (fun w' => Below W.heap.size W w' ∧ w'.cell? ⟨w.heap.size, 0, none⟩ = some (.int .i64 0) ∧ w'.cell? ⟨w.heap.size + 1, 0, none⟩ = some (.string old)) (first | exact SX.out _ HB2.out | exact SX.out _ B4.out) ((go_at_call 17; refine (RN.out _ (GD.out _ HB2.out).1 (GD.out _ HB2.out).2.1).mono ?_; rintro e w4 ⟨rfl, hb4⟩; have B4 : Hid (Below W.heap.size W w4) := over HB2.out hb4; clear hb4))
      clear c7 c8
      have hr2 := F4.out w4 B4.out
      have e0 : w4.cell? ⟨w.heap.size + 1 + 1, 0, none⟩ = _ := cell_of_row _ _ 0 _ _ _ hr2
      have e1 : w4.cell? ⟨w.heap.size + 1 + 1, 1, none⟩ = _ := cell_of_row _ _ 1 _ _ _ hr2
      have e2 : w4.cell? ⟨w.heap.size + 1 + 1, 2, none⟩ = _ := cell_of_row _ _ 2 _ _ _ hr2
      have f0 := frozen_of_row _ _ 0 _ _ hr2
      have f1 := frozen_of_row _ _ 1 _ _ hr2
      have f2 := frozen_of_row _ _ 2 _ _ hr2
      have FIN : Hid (∀ W', W' = _ → _) := put3 w4 (w.heap.size + 1 + 1) _ _ _ (.string ⟨#[]⟩) (.string ⟨#[]⟩) (.bool false) _ hr2
      clear hr2
      go_wp2
      obtain ⟨G, hb⟩ := FIN.out _ rfl
      refine bodyPost_ret (by simp [results, Tryz.results8, go_sem, G.1, G.2.1, G.2.2]; try rfl) rfl ?_
      exact ⟨rfl, (over BW.out B4.out).trans (hb _ (by omega))⟩
    | some ad =>
    obtain ⟨M, N, rfl, hN, i1, i2, i3, i4, i5, i6, i7, i8⟩ := conA_ok hcon
    have hnN : N = n := by have := HN.out; omega
    subst hnN
    rw [Int.toNat_natCast]
    have RN : Hid (∀ w', Tab w' → ReadsT w' (.slice (some ad) N lc) xs → Calls _ _ _ _ _) := RM.out M i1
    have IN : Hid (RT wd (xs.take M) ≠ old → 1 ≤ M ∧ M < N) := fun hne => by
      obtain ⟨M', e, q1, q2⟩ := old_inner (wd := wd) (m := (M : Int)) (xs := xs) (old := old) (proof := proof) HE.out (by rw [Int.toNat_natCast]; exact hne)
      have := HN.out
      omega
    obtain ⟨o, HOO⟩ : ∃ o, Hid (RT wd (xs.take M) = o) := ⟨_, rfl⟩
    rw [HOO.out] at RN IN ⊢
    have g1 : (M : Int) ≤ lc := by omega
    by_cases hs : o = old
    · rw [if_pos hs]
      have qo : (o.toList == old.toList) = true := by rw [beqL]; exact decide_eq_true hs
      clear hlh hs i2 i3 i4 i5 i6 i7 i8 hcon IN hN
      go_enter Tryz.func8, Tryz.ntmps8
      go_wp2_with fail
      try rw [hw]
      go_region_held3 (fun w' => Below W.heap.size W w' ∧ w'.cell? ⟨w.heap.size, 0, none⟩ = some (.int .i64 (M : Nat)) ∧ w'.cell? ⟨w.heap.size + 1, 0, none⟩ = some (.string old)) (first | exact SX.out _ HB0.out | exact SX.out _ B1.out | exact SX.out _ B2.out) (first | (go_at_call 17; refine (RC.out _ (GD.out _ HB0.out).1 (GD.out _ HB0.out).2.1).mono ?_; rintro e w1 ⟨rfl, hb1⟩; have B1 : Hid (Below W.heap.size W w1) := HB1.out w1 hb1; clear hb1) | (go_at_call 16; refine (IC.out _ (GD.out _ B1.out).1 (GD.out _ B1.out).2.2).mono ?_; rintro e w2 ⟨rfl, hb2⟩; have B2 : Hid (Below W.heap.size W w2) := over B1.out hb2; clear hb2))
      obtain ⟨b2, c7, c8⟩ := SX.out w2 B2.out
      clear b2
      go_wp2_with fail
      have HB2 : Hid (Below W.heap.size W w2.drew) := below_dr B2.out
      go_region_held3 (fun w' => Below W.heap.size W w' ∧ w'.cell? ⟨w.heap.size, 0, none⟩ = some (.int .i64 (M : Nat)) ∧ w'.cell? ⟨w.heap.size + 1, 0, none⟩ = some (.string old)) (first | exact SX.out _ HB2.out | exact SX.out _ B4.out) ((go_at_call 17; refine (RN.out _ (GD.out _ HB2.out).1 (GD.out _ HB2.out).2.1).mono ?_; rintro e w4 ⟨rfl, hb4⟩; have B4 : Hid (Below W.heap.size W w4) := over HB2.out hb4; clear hb4))
      clear c7 c8
      have hr2 := F4.out w4 B4.out
      have e0 : w4.cell? ⟨w.heap.size + 1 + 1, 0, none⟩ = _ := cell_of_row _ _ 0 _ _ _ hr2
      have e1 : w4.cell? ⟨w.heap.size + 1 + 1, 1, none⟩ = _ := cell_of_row _ _ 1 _ _ _ hr2
      have e2 : w4.cell? ⟨w.heap.size + 1 + 1, 2, none⟩ = _ := cell_of_row _ _ 2 _ _ _ hr2
      have f0 := frozen_of_row _ _ 0 _ _ hr2
      have f1 := frozen_of_row _ _ 1 _ _ hr2
      have f2 := frozen_of_row _ _ 2 _ _ hr2
      have FIN : Hid (∀ W', W' = _ → _) := put3 w4 (w.heap.size + 1 + 1) _ _ _ (.string ⟨#[]⟩) (.string ⟨#[]⟩) (.bool false) _ hr2
      clear hr2
      go_wp2
      obtain ⟨G, hb⟩ := FIN.out _ rfl
      refine bodyPost_ret (by simp [results, Tryz.results8, go_sem, G.1, G.2.1, G.2.2]; try rfl) rfl ?_
      exact ⟨rfl, (over BW.out B4.out).trans (hb _ (by omega))⟩
    · rw [if_neg hs]
      have qo : (o.toList == old.toList) = false := by rw [beqL]; exact decide_eq_false hs
      obtain ⟨m1, m2⟩ := IN.out hs
      obtain ⟨b, off, ha, hq⟩ := hlh.resolve_left (by omega)
      injection ha with ha
      subst ha
      have AC : Hid (∀ w4 V, Below W.heap.size W w4 → V = (w4.alloc (.cells #[.slice pa k pc] 41)).alloc (.cells #[.int .i64 wd, .func (.func 18) #[] #[.pointer (some ⟨w.heap.size, 0, none⟩)], .bool true, .nilFunc, .func (.func 19) #[] #[.pointer (some ⟨w.heap.size, 0, none⟩), .pointer (some ⟨w.heap.size + 1, 0, none⟩), .pointer (some ⟨w4.heap.size, 0, none⟩)]] 48) → Calls Tryz.prog 21 #[.agg #[.int .i64 wd, .func (.func 18) #[] #[.pointer (some ⟨w.heap.size, 0, none⟩)], .bool true, .nilFunc, .func (.func 19) #[] #[.pointer (some ⟨w.heap.size, 0, none⟩), .pointer (some ⟨w.heap.size + 1, 0, none⟩), .pointer (some ⟨w4.heap.size, 0, none⟩)]], .slice (some ⟨b, off, none⟩) N lc] V fun e w' => e = .returned (clV (oldT wd M xs old proof)) ∧ Below W.heap.size W w') := by
        intro w4 V hb4 hV
        obtain ⟨V1, hV1⟩ : ∃ V1, V1 = w4.alloc (.cells #[.slice pa k pc] 41) := ⟨_, rfl⟩
        rw [← hV1] at hV
        have b1 : Below w4.heap.size w4 V1 := by rw [hV1]; exact (Below.refl _ _).alloc (Nat.le_refl _) _
        have b2 : Below V1.heap.size V1 V := by rw [hV]; exact (Below.refl _ _).alloc (Nat.le_refl _) _
        have n1 : V1.heap[w4.heap.size]? = some (.cells #[.slice pa k pc] 41 (0, 0)) := by rw [hV1]; exact heap_alloc_new w4 _
        have z1 : V1.heap.size = w4.heap.size + 1 := by rw [hV1]; simp
        have bV : Below W.heap.size W V := over hb4 (over b1 b2)
        have bw := over BW.out bV
        have kk : Kp no w V := Kp.of_below bw
        have hp : KPile w.heap.size w4.heap.size proof V := ⟨(over BW.out hb4).size, _, (b2.block _ (by rw [z1]; omega)).trans n1, OL.out.2.1.keep kk (fun _ e => e.elim)⟩
        have lw : w.heap.size + 1 < w4.heap.size := by have h1 := hb4.size; have h2 : w.heap.size + 1 < W.heap.size := World.block_lt_of_cell? _ _ HX.out.2; omega
        have hS : OS w.heap.size w4.heap.size w.heap.size (w.heap.size + 1) M old proof V := ⟨hp, (bV.cell (World.block_lt_of_cell? _ _ HX.out.1)).trans HX.out.1, (bV.cell (World.block_lt_of_cell? _ _ HX.out.2)).trans HX.out.2, OL.out.2.2.1.down bw⟩
        have z := againstC (oldFl (base := w.heap.size) (pb := w4.heap.size) (mb := w.heap.size) (ob := w.heap.size + 1) (M := M) (N := xs.length) (wd := wd) (old := old) (by rw [HN.out]; omega) OL.out.2.2.1.big (by omega) (by omega) i5) hwd (KS := fun w' => w'.cell? ⟨w.heap.size, 0, none⟩ = some (.int .i64 (M : Nat))) (fun h => h.m) (fun h hb => (hb.cell (World.block_lt_of_cell? _ _ h)).trans h) w.heap.size (fun k e => by omega) (some ⟨b, off, none⟩) lc xs (by rw [HN.out]; omega) OL.out.2.2.2 (fun a b w' _ _ h => old1 w.heap.size M a b w' h) (fun _ _ h1 h2 => dirO M h1 h2) proof V ⟨by rw [HN.out, i3 (by omega)]; exact Nat.le_refl _, i4, Nat.le_refl _⟩ hS (by rw [HN.out]; exact OL.out.1.keep kk (fun _ e => e.elim))
        rw [HN.out] at z
        refine z.mono fun e w' h => ⟨?_, ?_⟩
        · rw [h.1]; unfold oldT; rw [HN.out]
        · have k2 : Below W.heap.size V w' := h.2.below (fun k e => by have := hb4.size; omega) bV.size
          exact bV.trans k2
      obtain ⟨O, HO⟩ : ∃ O, Hid (oldT wd M xs old proof = O) := ⟨_, rfl⟩
      obtain ⟨y0, y1', y2', hgo⟩ := clV_of O
      rw [HO.out, hgo] at AC ⊢
      clear hlh hs i2 i3 i4 i5 i6 i7 i8 hcon IN hN hq hgo HO
      go_enter Tryz.func8, Tryz.ntmps8
      go_wp2_with fail
      try rw [hw]
      go_region_held3 (fun w' => Below W.heap.size W w' ∧ w'.cell? ⟨w.heap.size, 0, none⟩ = some (.int .i64 (M : Nat)) ∧ w'.cell? ⟨w.heap.size + 1, 0, none⟩ = some (.string old)) (first | exact SX.out _ HB0.out | exact SX.out _ B1.out | exact SX.out _ B2.out) (first | (go_at_call 17; refine (RC.out _ (GD.out _ HB0.out).1 (GD.out _ HB0.out).2.1).mono ?_; rintro e w1 ⟨rfl, hb1⟩; have B1 : Hid (Below W.heap.size W w1) := HB1.out w1 hb1; clear hb1) | (go_at_call 16; refine (IC.out _ (GD.out _ B1.out).1 (GD.out _ B1.out).2.2).mono ?_; rintro e w2 ⟨rfl, hb2⟩; have B2 : Hid (Below W.heap.size W w2) := over B1.out hb2; clear hb2))
      obtain ⟨b2, c7, c8⟩ := SX.out w2 B2.out
      clear b2
      go_wp2_with fail
      have HB2 : Hid (Below W.heap.size W w2.drew) := below_dr B2.out
      go_region_held3 (fun w' => Below W.heap.size W w' ∧ w'.cell? ⟨w.heap.size, 0, none⟩ = some (.int .i64 (M : Nat)) ∧ w'.cell? ⟨w.heap.size + 1, 0, none⟩ = some (.string old)) (first | exact SX.out _ HB2.out | exact SX.out _ B4.out) ((go_at_call 17; refine (RN.out _ (GD.out _ HB2.out).1 (GD.out _ HB2.out).2.1).mono ?_; rintro e w4 ⟨rfl, hb4⟩; have B4 : Hid (Below W.heap.size W w4) := over HB2.out hb4; clear hb4))
      clear c7 c8
      go_wp2_with fail
      refine (AC.out w4 _ B4.out rfl).mono ?_
      rintro e w5 ⟨rfl, hb5⟩
      have B5 : Hid (Below W.heap.size W w5) := hb5
      clear hb5
      have hr2 := F4.out w5 B5.out
      have e0 : w5.cell? ⟨w.heap.size + 1 + 1, 0, none⟩ = _ := cell_of_row _ _ 0 _ _ _ hr2
      have e1 : w5.cell? ⟨w.heap.size + 1 + 1, 1, none⟩ = _ := cell_of_row _ _ 1 _ _ _ hr2
      have e2 : w5.cell? ⟨w.heap.size + 1 + 1, 2, none⟩ = _ := cell_of_row _ _ 2 _ _ _ hr2
      have f0 := frozen_of_row _ _ 0 _ _ hr2
      have f1 := frozen_of_row _ _ 1 _ _ hr2
      have f2 := frozen_of_row _ _ 2 _ _ hr2
      have FIN : Hid (∀ W', W' = _ → _) := put3 w5 (w.heap.size + 1 + 1) _ _ _ (.string y0) (.string y1') (.bool y2') _ hr2
      clear hr2
      go_wp2
      obtain ⟨G, hb⟩ := FIN.out _ rfl
      refine bodyPost_ret (by simp [results, Tryz.results8, go_sem, G.1, G.2.1, G.2.2]; try rfl) rfl ?_
      exact ⟨rfl, (over BW.out B5.out).trans (hb _ (by omega))⟩
  · rw [if_neg h]
    have q : (E == 0) = false := by rw [beq_eq_false_iff_ne]; exact h
    have q2 : (E != 0) = true := by rw [bne, q]; rfl
    clear h hlh
    go_enter Tryz.func8, Tryz.ntmps8
    go_wp2_with fail
    try rw [hw]
    go_region_held3 (fun w' => Below W.heap.size W w' ∧ w'.cell? ⟨w.heap.size, 0, none⟩ = some (.int .i64 m) ∧ w'.cell? ⟨w.heap.size + 1, 0, none⟩ = some (.string old)) (first | exact SX.out _ HB0.out | exact SX.out _ B1.out | exact SX.out _ B2.out) (first | (go_at_call 17; refine (RC.out _ (GD.out _ HB0.out).1 (GD.out _ HB0.out).2.1).mono ?_; rintro e w1 ⟨rfl, hb1⟩; have B1 : Hid (Below W.heap.size W w1) := HB1.out w1 hb1; clear hb1) | (go_at_call 16; refine (IC.out _ (GD.out _ B1.out).1 (GD.out _ B1.out).2.2).mono ?_; rintro e w2 ⟨rfl, hb2⟩; have B2 : Hid (Below W.heap.size W w2) := over B1.out hb2; clear hb2))
    obtain ⟨b2, c7, c8⟩ := SX.out w2 B2.out
    clear b2
    go_wp2_with fail
    go_quiet (fail)
    obtain ⟨w4, H4⟩ : ∃ x, Hid (x = w2.drewN nq) := ⟨_, rfl⟩
    rw [← H4.out]
    have B4 : Hid (Below W.heap.size W w4) := by rw [H4.out]; exact below_dN B2.out _
    clear H4 c7 c8
    have hr2 := F4.out w4 B4.out
    have e0 : w4.cell? ⟨w.heap.size + 1 + 1, 0, none⟩ = _ := cell_of_row _ _ 0 _ _ _ hr2
    have e1 : w4.cell? ⟨w.heap.size + 1 + 1, 1, none⟩ = _ := cell_of_row _ _ 1 _ _ _ hr2
    have e2 : w4.cell? ⟨w.heap.size + 1 + 1, 2, none⟩ = _ := cell_of_row _ _ 2 _ _ _ hr2
    have f0 := frozen_of_row _ _ 0 _ _ hr2
    have f1 := frozen_of_row _ _ 1 _ _ hr2
    have f2 := frozen_of_row _ _ 2 _ _ hr2
    have FIN : Hid (∀ W', W' = _ → _) := put3 w4 (w.heap.size + 1 + 1) _ _ _ (.string ⟨#[]⟩) (.string ⟨#[]⟩) (.bool false) _ hr2
    clear hr2
    go_wp2
    obtain ⟨G, hb⟩ := FIN.out _ rfl
    refine bodyPost_ret (by simp [results, Tryz.results8, go_sem, G.1, G.2.1, G.2.2]; try rfl) rfl ?_
    exact ⟨rfl, (over BW.out B4.out).trans (hb _ (by omega))⟩
end Go.Proofs.YthppkdjekfginaaGreatDoor.oc
