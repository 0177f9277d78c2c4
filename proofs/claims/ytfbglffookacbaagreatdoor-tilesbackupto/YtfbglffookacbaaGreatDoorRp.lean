import Derived.Test.YtfbglffookacbaaGreatDoorRo
namespace Go.Proofs.YtfbglffookacbaaGreatDoor.rp
open Go.RowKit Go.PlainAid Go.Shelf
open Go.Proofs.YtfbglffookacbaaGreatDoor.ta Go.Proofs.YtfbglffookacbaaGreatDoor.tb Go.Proofs.YtfbglffookacbaaGreatDoor.tc Go.Proofs.YtfbglffookacbaaGreatDoor.tj Go.Proofs.YtfbglffookacbaaGreatDoor.cp Go.Proofs.YtfbglffookacbaaGreatDoor.wa Go.Proofs.YtfbglffookacbaaGreatDoor.wb Go.Proofs.YtfbglffookacbaaGreatDoor.a1 Go.Proofs.YtfbglffookacbaaGreatDoor.a2 Go.Proofs.YtfbglffookacbaaGreatDoor.a3 Go.Proofs.YtfbglffookacbaaGreatDoor.a4 Go.Proofs.YtfbglffookacbaaGreatDoor.a7 Go.Proofs.YtfbglffookacbaaGreatDoor.a8 Go.Proofs.YtfbglffookacbaaGreatDoor.r3 Go.Proofs.YtfbglffookacbaaGreatDoor.r8 Go.Proofs.YtfbglffookacbaaGreatDoor.r9 Go.Proofs.YtfbglffookacbaaGreatDoor.ra Go.Proofs.YtfbglffookacbaaGreatDoor.rg Go.Proofs.YtfbglffookacbaaGreatDoor.rj Go.Proofs.YtfbglffookacbaaGreatDoor.rk Go.Proofs.YtfbglffookacbaaGreatDoor.rl Go.Proofs.YtfbglffookacbaaGreatDoor.rm Go.Proofs.YtfbglffookacbaaGreatDoor.rn Go.Proofs.YtfbglffookacbaaGreatDoor.ro
set_option linter.unusedVariables false

-- a number that is brought into bounds
theorem pickC (n m : Int) (hn : i64 n) (h1 : 1 ≤ m) (h2 : m ≤ 4611686018427387904) (w : World) :
    Calls Tryz.prog 5 #[.int .i64 n, .int .i64 m] w fun e w' => ∃ x : Int, 0 ≤ x ∧ x < m ∧ e = .returned (.int .i64 x) ∧ w' = w := by
  obtain ⟨n0, n1⟩ := hn
  have b1 := Int.tmod_lt_of_pos n (show 0 < m by omega)
  have b0 := Int.lt_tmod_of_pos n (show 0 < m by omega)
  have hm : ¬ m = 0 := by omega
  have hm' : (m == 0) = false := by simp [hm]
  obtain ⟨r, HR⟩ : ∃ r, Hid (n.tmod m = r) := ⟨_, rfl⟩
  have hr := HR.out
  rw [hr] at b0 b1
  have hw : IntKind.i64.wrap r = r := wrap_id ⟨by omega, by omega⟩
  by_cases c : r < 0
  · have ha : IntKind.i64.wrap (r + m) = r + m := wrap_id ⟨by omega, by omega⟩
    go_enter Tryz.func5, Tryz.ntmps5
    go_wp2
    go_ret
    exact ⟨r + m, by omega, by omega, rfl, rfl⟩
  · go_enter Tryz.func5, Tryz.ntmps5
    go_wp2
    go_ret
    exact ⟨r, by omega, by omega, rfl, rfl⟩
-- the two tiles in their boxes
structure Tb (w : World) (T U : Nat) (a b c d a' b' c' d' : Int) (W : World) : Prop where
  bl : Below w.heap.size w W
  lo : w.heap.size ≤ T
  lu : w.heap.size ≤ U
  rt : W.heap[T]? = some (i4 a b c d)
  ru : W.heap[U]? = some (i4 a' b' c' d')
theorem Tb.later {w : World} {T U : Nat} {a b c d a' b' c' d' : Int} {W W' : World} (t : Tb w T U a b c d a' b' c' d' W) (h : Below W.heap.size W W') : Tb w T U a b c d a' b' c' d' W' :=
  ⟨t.bl.trans (h.mono t.bl.size), t.lo, t.lu, (h.block _ (Array.getElem?_eq_some_iff.1 t.rt).1).trans t.rt, (h.block _ (Array.getElem?_eq_some_iff.1 t.ru).1).trans t.ru⟩
theorem path_size (h l i c : Int) (g : Goes h l i c) : (pathS h l i c).size ≤ 2097152 := by
  obtain ⟨h0, h62, l0, l62, i0, i62, c1, c256, hh1, hh8⟩ := goes_small g
  have s1 := dec_size h ⟨by omega, by omega⟩
  have s2 := dec_size l ⟨by omega, by omega⟩
  have s3 := dec_size c ⟨by omega, by omega⟩
  have s4 := ixS_size i.toNat (by omega)
  have hz := j4_size tlB (decS h) (decS l) (ixS i.toNat)
  have s5 : tlB.size = 4 := rfl
  have s6 : ptB.size = 3 := rfl
  by_cases gc : c < 2 ^ h.toNat
  · rw [path_part gc, ByteArray.size_append, ByteArray.size_append]
    omega
  · rw [path_full gc]
    omega
theorem goes_good (h l i c : Int) (h1 : 1 ≤ h) (h8 : h ≤ 8) (l0 : 0 ≤ l) (l7 : l < 7) (i0 : 0 ≤ i) (i1 : i < 64) (c1 : 1 ≤ c) (c2 : c ≤ 2 ^ h.toNat) : Goes h l i c := by
  have hh : h = 1 ∨ h = 2 ∨ h = 3 ∨ h = 4 ∨ h = 5 ∨ h = 6 ∨ h = 7 ∨ h = 8 := by omega
  have hl : l = 0 ∨ l = 1 ∨ l = 2 ∨ l = 3 ∨ l = 4 ∨ l = 5 ∨ l = 6 := by omega
  have hm : l * h ≤ 62 := by rcases hh with rfl | rfl | rfl | rfl | rfl | rfl | rfl | rfl <;> omega
  have hab : (64 * 2 ^ h.toNat) * 2 ^ (l * h).toNat ≤ 4611686018427387904 := by
    rcases hh with rfl | rfl | rfl | rfl | rfl | rfl | rfl | rfl <;> rcases hl with rfl | rfl | rfl | rfl | rfl | rfl | rfl <;> decide
  have ha : (2 : Int) ^ h.toNat = ((2 ^ h.toNat : Nat) : Int) := by rw [Int.natCast_pow]; rfl
  have hb : (2 : Int) ^ (l * h).toNat = ((2 ^ (l * h).toNat : Nat) : Int) := by rw [Int.natCast_pow]; rfl
  refine ⟨h1, h8, l0, hm, i0, c1, c2, ?_⟩
  rw [ha] at c2 ⊢
  rw [hb]
  generalize 2 ^ h.toNat = x at *
  generalize 2 ^ (l * h).toNat = y at *
  have e1 : i * (x : Int) ≤ 63 * (x : Int) := Int.mul_le_mul_of_nonneg_right (by omega) (by omega)
  have e2 : i * (x : Int) + c ≤ ((64 * x : Nat) : Int) := by omega
  have e3 := Int.mul_le_mul_of_nonneg_right e2 (show (0 : Int) ≤ (y : Int) by omega)
  rw [← Int.natCast_mul] at e3
  omega
theorem path_inj {h l i c h' l' i' c' : Int} (g : Goes h l i c) (g' : Goes h' l' i' c') (e : pathS h l i c = pathS h' l' i' c') : h = h' ∧ l = l' ∧ i = i' ∧ c = c' := by
  obtain ⟨e1, e2, e3, e4⟩ := g_path h l i c g
  obtain ⟨f1, f2, f3, f4⟩ := g_path h' l' i' c' g'
  rw [e] at e1 e2 e3 e4
  exact ⟨e1.symm.trans f1, e2.symm.trans f2, e3.symm.trans f3, e4.symm.trans f4⟩
theorem two_yes {h l i c : Int} {s : ByteArray} {n : Int} (g : Goes h l i c) (e : pathV h l i c = .tuple #[.string s, .int .i64 n]) : pathS h l i c = s ∧ n = 0 := by
  unfold pathV at e
  rw [if_pos g] at e
  injection e with e
  have e0 := congrArg (fun a : Array Value => a[0]?) e
  have e1 := congrArg (fun a : Array Value => a[1]?) e
  simp at e0 e1
  exact ⟨e0, e1.symm⟩
theorem two_no {h l i c : Int} {s : ByteArray} {n : Int} (g : ¬ Goes h l i c) (e : pathV h l i c = .tuple #[.string s, .int .i64 n]) : n = 230 := by
  unfold pathV at e
  rw [if_neg g] at e
  injection e with e
  have e1 := congrArg (fun a : Array Value => a[1]?) e
  simp at e1
  exact e1.symm
set_option maxRecDepth 100000 in
set_option maxHeartbeats 12800000 in
theorem law_back (a b c d a' b' c' d' : Int) (za : i64 a) (zb : i64 b) (zc : i64 c) (zd : i64 d) (za' : i64 a') (zb' : i64 b') (zc' : i64 c') (zd' : i64 d') (path : ByteArray) (hs : path.size ≤ 2097152) (w : World) (hN : NumW w) (hM : MaxW w) (hP : PowT w) :
    Calls Tryz.prog 3 #[.agg #[.int .i64 a, .int .i64 b, .int .i64 c, .int .i64 d], .agg #[.int .i64 a', .int .i64 b', .int .i64 c', .int .i64 d'], .string path] w fun e w' => e = .returned (.bool true) ∧ Below w.heap.size w w' := by
  obtain ⟨W1, HW1⟩ : ∃ W1, Hid ((w.alloc (.cells #[.int .i64 a, .int .i64 b, .int .i64 c, .int .i64 d] 23)).alloc (.cells #[.int .i64 a', .int .i64 b', .int .i64 c', .int .i64 d'] 23) = W1) := ⟨_, rfl⟩
  have ez : (w.alloc (.cells #[.int .i64 a, .int .i64 b, .int .i64 c, .int .i64 d] 23)).heap.size = w.heap.size + 1 := by simp
  have TB1 : Hid (Tb w w.heap.size (w.heap.size + 1) a b c d a' b' c' d' W1) := by
    show Tb _ _ _ _ _ _ _ _ _ _ _ _
    rw [← HW1.out]
    refine ⟨((Below.refl _ _).alloc (Nat.le_refl _) _).alloc (by rw [ez]; omega) _, Nat.le_refl _, by omega, ?_, ?_⟩
    · rw [Below.heap_alloc _ _ _ (by rw [ez]; omega)]
      exact heap_alloc_new _ _
    · rw [← ez]
      exact heap_alloc_new _ _
  obtain ⟨T, HT⟩ : ∃ T, Hid (w.heap.size = T) := ⟨_, rfl⟩
  obtain ⟨U, HU⟩ : ∃ U, Hid (w.heap.size + 1 = U) := ⟨_, rfl⟩
  have ST1 : Hid (Tb w T U a b c d a' b' c' d' W1) := by rw [← HT.out, ← HU.out]; exact TB1.out
  have PA : Hid (∀ (x0 x1 x2 x3 : Int), i64 x0 → i64 x1 → i64 x2 → i64 x3 → ∀ W, Below w.heap.size w W → Calls _ _ _ _ _) := fun x0 x1 x2 x3 z0 z1 z2 z3 W h => pathC x0 x1 x2 x3 z0 z1 z2 z3 W (PowT.down hP h)
  have PR : Hid (∀ (p : ByteArray), p.size ≤ 2097152 → ∀ W, Below w.heap.size w W → Calls Tryz.prog 7 #[.string p] W fun e w' => e = .returned (pV p) ∧ Below W.heap.size W w') := fun p hp W h => parseC p hp W (hN.down h) (hM.down h) (PowT.down hP h)
  have PK : Hid (∀ (n m : Int), i64 n → 1 ≤ m → m ≤ 4611686018427387904 → ∀ W, Calls _ _ _ _ _) := fun n m h1 h2 h3 W => pickC n m h1 h2 h3 W
  have NC : Hid (∀ n w, Calls _ _ _ _ _) := numC
  have P8 : Hid (∀ W, Calls _ _ _ _ _) := fun W => PK.out a 8 za (by decide) (by decide) W
  have P7 : Hid (∀ W, Calls _ _ _ _ _) := fun W => PK.out b 7 zb (by decide) (by decide) W
  have P64 : Hid (∀ W, Calls _ _ _ _ _) := fun W => PK.out c 64 zc (by decide) (by decide) W
  clear hN hM hP ez TB1
  go_enter Tryz.func3, Tryz.ntmps3
  go_upto_region 1 with fail
  rw [HW1.out, HU.out, HT.out]
  have KX : Hid (Below W1.heap.size W1 W1.drew) := Go.Proofs.YtfbglffookacbaaGreatDoor.cp.below_dN (Below.refl _ _) 1
  have SX : Hid (∀ W', Below W1.heap.size W1 W' → W'.cell? ⟨T, 0, none⟩ = some (.int .i64 a) ∧ W'.cell? ⟨T, 1, none⟩ = some (.int .i64 b) ∧ W'.cell? ⟨T, 2, none⟩ = some (.int .i64 c)) := fun W' h => by
    obtain ⟨k0, k1, k2, -⟩ := row4 (ST1.out.later h).rt
    exact ⟨k0, k1, k2⟩
  go_cut [7] from 22 to 32 (fun x wx => ∃ (bx : Nat) (h l i : Int), x = .pointer (some ⟨bx, 0, none⟩) ∧ 0 ≤ h ∧ h < 8 ∧ 0 ≤ l ∧ l < 7 ∧ 0 ≤ i ∧ i < 64 ∧ W1.heap.size ≤ bx ∧ Below W1.heap.size W1 wx ∧ wx.heap[bx]? = some (i4 (1 + h) l i 0))
  case first =>
    go_region_held_law (fun W' => W'.cell? ⟨T, 0, none⟩ = some (.int .i64 a) ∧ W'.cell? ⟨T, 1, none⟩ = some (.int .i64 b) ∧ W'.cell? ⟨T, 2, none⟩ = some (.int .i64 c)) (first | exact SX.out _ KX.out | exact SX.out _ (KX.out.alloc KX.out.size _)) (first | (go_at_call 5; (with_reducible refine (P8.out _).mono ?_); rintro _ _ ⟨x8, x80, x81, rfl, rfl⟩; have hw8 : IntKind.i64.wrap (1 + x8) = 1 + x8 := wrap_id ⟨by omega, by omega⟩) | (go_at_call 5; (with_reducible refine (P7.out _).mono ?_); rintro _ _ ⟨x7, x70, x71, rfl, rfl⟩) | (go_at_call 5; (with_reducible refine (P64.out _).mono ?_); rintro _ _ ⟨x6, x60, x61, rfl, rfl⟩))
    all_goals (
      go_wp2_with fail
      go_meet
      refine ⟨_, x8, x7, x6, rfl, x80, x81, x70, x71, x60, x61, Nat.le_refl _, ?_, ?_⟩
      · exact Go.Proofs.YtfbglffookacbaaGreatDoor.a7.below_dr ((Below.refl _ _).alloc (Nat.le_refl _) _)
      · exact heap_alloc_new W1 _)
  case rest =>
    obtain ⟨bx, h, l, i, rfl, h0, h8, l0, l7, i0, i1, hbx, hbw, hrow⟩ := hcut
    have ST2 : Hid (Tb w T U a b c d a' b' c' d' wc) := ST1.out.later hbw
    obtain ⟨H, HH⟩ : ∃ H, Hid (1 + h = H) := ⟨_, rfl⟩
    rw [HH.out] at hrow
    have H1 : 1 ≤ H := by have := HH.out; omega
    have H8 : H ≤ 8 := by have := HH.out; omega
    have RX : Hid (wc.heap[bx]? = some (i4 H l i 0)) := hrow
    have LX : Hid (w.heap.size ≤ bx ∧ bx ≠ T ∧ bx ≠ U) := by
      have e1 := (Array.getElem?_eq_some_iff.1 ST1.out.rt).1
      have e2 := (Array.getElem?_eq_some_iff.1 ST1.out.ru).1
      have e3 := ST1.out.bl.size
      exact ⟨by omega, by omega, by omega⟩
    clear hbx hbw hrow KX SX P8 P7 P64 h0 h8
    obtain ⟨g0, g1⟩ := pow8 H H1 H8
    obtain ⟨kk, hkk⟩ : ∃ k : Nat, H = (k : Int) := ⟨H.toNat, by omega⟩
    have hkn : H.toNat = kk := by omega
    have hk8 : kk ≤ 8 := by omega
    have hu : IntKind.u64.wrap H = (kk : Int) := by rw [IntKind.wrap_u64]; omega
    rw [hkn] at g0 g1
    obtain ⟨F, HF⟩ : ∃ F, Hid ((2 : Int) ^ kk = F) := ⟨_, rfl⟩
    rw [HF.out] at g0 g1
    have hp : IntKind.i64.wrap ((2 : Int) ^ kk) = F := by rw [HF.out, IntKind.wrap_i64]; omega
    have hhp : Hid ((2 : Int) ^ H.toNat = F) := by show _ = _; rw [hkn]; exact HF.out
    clear hkn hkk
    have PD : Hid (Calls _ _ _ _ _) := PK.out d F zd (by omega) (by omega) wc
    obtain ⟨k0, k1, k2, k3, f0, f1, f2, f3⟩ := row4 RX.out
    obtain ⟨m0, m1, m2, m3, -⟩ := row4 ST2.out.rt
    go_wp2_with fail
    refine PD.out.mono ?_
    rintro e wd ⟨x, x0, x1, rfl, hwd⟩
    rw [hwd]
    clear hwd
    have hwx : IntKind.i64.wrap (1 + x) = 1 + x := wrap_id ⟨by omega, by omega⟩
    obtain ⟨W3, HW3⟩ : ∃ W, Hid (wc.setCell ⟨bx, 3, none⟩ (.int .i64 (1 + x)) = W) := ⟨_, rfl⟩
    have R3 : Hid (W3.heap[bx]? = some (i4 H l i (1 + x))) := by show _ = _; rw [← HW3.out]; exact heap_setCell_same wc bx 3 _ _ _ RX.out
    have ST3 : Hid (Tb w T U a b c d a' b' c' d' W3) := by
      show Tb _ _ _ _ _ _ _ _ _ _ _ _
      rw [← HW3.out]
      refine ⟨ST2.out.bl.setCell (p := ⟨bx, 3, none⟩) LX.out.1 _, ST2.out.lo, ST2.out.lu, ?_, ?_⟩
      · rw [Below.heap_setCell _ _ _ _ (show T ≠ bx from fun e => LX.out.2.1 e.symm)]; exact ST2.out.rt
      · rw [Below.heap_setCell _ _ _ _ (show U ≠ bx from fun e => LX.out.2.2 e.symm)]; exact ST2.out.ru
    go_upto_region 3 with fail
    rw [HW3.out]
    clear k0 k1 k2 k3 f0 f1 f2 f3 m0 m1 m2 m3 hu hp PD
    obtain ⟨C, HC⟩ : ∃ C, Hid (1 + x = C) := ⟨_, rfl⟩
    rw [HC.out] at R3
    have gG : Goes H l i C := goes_good H l i C H1 H8 l0 l7 i0 i1 (by have := HC.out; omega) (by rw [hhp.out]; have := HC.out; omega)
    have zC : i64 C := by have := HC.out; exact ⟨by omega, by omega⟩
    have sgz := path_size H l i C gG
    have CG : Hid (Calls _ _ _ _ _) := PA.out H l i C ⟨by omega, by omega⟩ ⟨by omega, by omega⟩ ⟨by omega, by omega⟩ zC W3 ST3.out.bl
    have hpv : pathV H l i C = .tuple #[.string (pathS H l i C), .int .i64 0] := if_pos gG
    have hpr := pV_yes H l i C gG
    rw [hpv] at CG
    obtain ⟨sg, HSG⟩ : ∃ s, Hid (pathS H l i C = s) := ⟨_, rfl⟩
    rw [HSG.out] at CG hpr sgz
    have HPR : Hid (_ = _) := hpr
    have SGZ : Hid (sg.size ≤ 2097152) := sgz
    clear hpv hpr sgz x0 x1 hwx g0 g1 gG
    obtain ⟨k0, k1, k2, k3, -⟩ := row4 R3.out
    go_wp2_with fail
    refine CG.out.mono ?_
    rintro e w4 ⟨rfl, hb⟩
    have ST4 : Hid (Tb w T U a b c d a' b' c' d' w4) := ST3.out.later hb
    have R4 : Hid (w4.heap[bx]? = some (i4 H l i C)) := (hb.block _ (Array.getElem?_eq_some_iff.1 R3.out).1).trans R3.out
    have CP : Hid (Calls _ _ _ _ _) := PR.out sg SGZ.out w4 ST4.out.bl
    rw [HPR.out] at CP
    clear hb k0 k1 k2 k3 CG
    go_wp2_with fail
    refine CP.out.mono ?_
    rintro e w5 ⟨rfl, hb⟩
    have ST5 : Hid (Tb w T U a b c d a' b' c' d' w5) := ST4.out.later hb
    have R5 : Hid (w5.heap[bx]? = some (i4 H l i C)) := (hb.block _ (Array.getElem?_eq_some_iff.1 R4.out).1).trans R4.out
    clear hb CP
    obtain ⟨W6, HW6⟩ : ∃ W, Hid (w5.alloc (i4 H l i C) = W) := ⟨_, rfl⟩
    have b6 : Below w5.heap.size w5 W6 := by rw [← HW6.out]; exact (Below.refl _ _).alloc (Nat.le_refl _) _
    have ST6 : Hid (Tb w T U a b c d a' b' c' d' W6) := ST5.out.later b6
    have R6 : Hid (W6.heap[bx]? = some (i4 H l i C)) := (b6.block _ (Array.getElem?_eq_some_iff.1 R5.out).1).trans R5.out
    have R6' : Hid (W6.heap[w5.heap.size]? = some (i4 H l i C)) := by show _ = _; rw [← HW6.out]; exact heap_alloc_new _ _
    clear b6
    go_upto_region 5 with fail
    rw [show w5.alloc (.cells #[.int .i64 H, .int .i64 l, .int .i64 i, .int .i64 C] 23) = W6 from HW6.out]
    obtain ⟨k0, k1, k2, k3, -⟩ := row4 R6.out
    obtain ⟨m0, m1, m2, m3, -⟩ := row4 R6'.out
    go_wp2_with fail
    refine (NC.out _ _).mono ?_
    rintro e wd ⟨rfl, hwd⟩
    rw [hwd]
    clear hwd
    go_wp2_with fail
    refine (NC.out _ _).mono ?_
    rintro e wd ⟨rfl, hwd⟩
    rw [hwd]
    clear hwd
    go_upto_region 7 with fail
    clear k0 k1 k2 k3 m0 m1 m2 m3 R6 R6' R5 R4 R3 RX ST5 ST4 ST3 ST2 ST1 HPR SGZ LX
    have C7 : Hid (Calls _ _ _ _ _) := PA.out a b c d za zb zc zd W6 ST6.out.bl
    obtain ⟨sb, nb, hvb⟩ := path_two a b c d
    have HVB : Hid (_ = _) := hvb
    rw [hvb] at C7
    clear hvb
    obtain ⟨k0, k1, k2, k3, -⟩ := row4 ST6.out.rt
    go_wp2_with fail
    refine C7.out.mono ?_
    rintro e w7 ⟨rfl, hb⟩
    have ST7 : Hid (Tb w T U a b c d a' b' c' d' w7) := ST6.out.later hb
    clear hb k0 k1 k2 k3 C7
    have C8 : Hid (Calls _ _ _ _ _) := PA.out a' b' c' d' za' zb' zc' zd' w7 ST7.out.bl
    obtain ⟨sc, nc, hvc⟩ := path_two a' b' c' d'
    have HVC : Hid (_ = _) := hvc
    rw [hvc] at C8
    clear hvc
    obtain ⟨k0, k1, k2, k3, -⟩ := row4 ST7.out.ru
    go_upto_region 8 with fail
    go_wp2_with fail
    refine C8.out.mono ?_
    rintro e w8 ⟨rfl, hb⟩
    have ST8 : Hid (Tb w T U a b c d a' b' c' d' w8) := ST7.out.later hb
    clear hb k0 k1 k2 k3 C8 ST6 ST7
    go_upto_region 9 with fail
    go_cut [91] from 75 to 91 (fun r wx => r = .bool false ∧ wx = w8)
    case first =>
      obtain ⟨k0, k1, k2, k3, -⟩ := row4 ST8.out.rt
      obtain ⟨m0, m1, m2, m3, -⟩ := row4 ST8.out.ru
      by_cases gt : Goes a b c d
      · obtain ⟨hsb, hnb⟩ := two_yes gt HVB.out
        have HSB : Hid (pathS a b c d = sb) := hsb
        clear hsb
        subst hnb
        by_cases gu : Goes a' b' c' d'
        · obtain ⟨hsc, hnc⟩ := two_yes gu HVC.out
          have HSC : Hid (pathS a' b' c' d' = sc) := hsc
          clear hsc
          subst hnc
          by_cases ht : a = a' ∧ b = b' ∧ c = c' ∧ d = d'
          · obtain ⟨rfl, rfl, rfl, rfl⟩ := ht
            have : sb = sc := HSB.out.symm.trans HSC.out
            subst this
            go_wp2_with fail
            refine (NC.out _ _).mono ?_
            rintro e wd ⟨rfl, hwd⟩
            rw [hwd]
            clear hwd
            go_wp2_with fail
            refine (NC.out _ _).mono ?_
            rintro e wd ⟨rfl, hwd⟩
            rw [hwd]
            clear hwd
            go_wp2_with fail
            go_meet
            exact ⟨by simp, rfl⟩
          · have hne : (sb.toList == sc.toList) = false := by
              rw [toList_bs]
              exact decide_eq_false fun e => ht (path_inj gt gu (by rw [HSB.out, HSC.out, e]))
            clear gt gu
            by_cases q0 : a = a'
            · subst q0
              by_cases q1 : b = b'
              · subst q1
                by_cases q2 : c = c'
                · subst q2
                  by_cases q3 : d = d'
                  · subst q3
                    exact absurd ⟨rfl, rfl, rfl, rfl⟩ ht
                  · have p3 : (d == d') = false := by simp [q3]
                    go_wp2_with fail
                    refine (NC.out _ _).mono ?_
                    rintro e wd ⟨rfl, hwd⟩
                    rw [hwd]
                    clear hwd
                    go_wp2_with fail
                    refine (NC.out _ _).mono ?_
                    rintro e wd ⟨rfl, hwd⟩
                    rw [hwd]
                    clear hwd
                    go_wp2_with fail
                    go_meet
                    exact ⟨by simp, rfl⟩
                · have p2 : (c == c') = false := by simp [q2]
                  go_wp2_with fail
                  refine (NC.out _ _).mono ?_
                  rintro e wd ⟨rfl, hwd⟩
                  rw [hwd]
                  clear hwd
                  go_wp2_with fail
                  refine (NC.out _ _).mono ?_
                  rintro e wd ⟨rfl, hwd⟩
                  rw [hwd]
                  clear hwd
                  go_wp2_with fail
                  go_meet
                  exact ⟨by simp, rfl⟩
              · have p1 : (b == b') = false := by simp [q1]
                go_wp2_with fail
                refine (NC.out _ _).mono ?_
                rintro e wd ⟨rfl, hwd⟩
                rw [hwd]
                clear hwd
                go_wp2_with fail
                refine (NC.out _ _).mono ?_
                rintro e wd ⟨rfl, hwd⟩
                rw [hwd]
                clear hwd
                go_wp2_with fail
                go_meet
                exact ⟨by simp, rfl⟩
            · have p0 : (a == a') = false := by simp [q0]
              go_wp2_with fail
              refine (NC.out _ _).mono ?_
              rintro e wd ⟨rfl, hwd⟩
              rw [hwd]
              clear hwd
              go_wp2_with fail
              refine (NC.out _ _).mono ?_
              rintro e wd ⟨rfl, hwd⟩
              rw [hwd]
              clear hwd
              go_wp2_with fail
              go_meet
              exact ⟨by simp, rfl⟩
        · have hnc := two_no gu HVC.out
          subst hnc
          clear gt gu
          go_wp2_with fail
          refine (NC.out _ _).mono ?_
          rintro e wd ⟨rfl, hwd⟩
          rw [hwd]
          clear hwd
          go_wp2_with fail
          refine (NC.out _ _).mono ?_
          rintro e wd ⟨rfl, hwd⟩
          rw [hwd]
          clear hwd
          go_wp2_with fail
          go_meet
          exact ⟨by simp, rfl⟩
      · have hnb := two_no gt HVB.out
        subst hnb
        clear gt
        go_wp2_with fail
        refine (NC.out _ _).mono ?_
        rintro e wd ⟨rfl, hwd⟩
        rw [hwd]
        clear hwd
        go_wp2_with fail
        go_meet
        exact ⟨by simp, rfl⟩
    case rest =>
      obtain ⟨rfl, hwc⟩ := hcut
      rw [hwc]
      clear hwc
      by_cases gt : Goes a b c d
      · obtain ⟨hsb, hnb⟩ := two_yes gt HVB.out
        subst hnb
        have hpb := pV_yes a b c d gt
        have hzb := path_size a b c d gt
        rw [hsb] at hpb hzb
        have CB : Hid (Calls _ _ _ _ _) := PR.out sb hzb w8 ST8.out.bl
        rw [hpb] at CB
        clear hpb hzb hsb gt HVB HVC
        go_wp2_with fail
        refine (NC.out _ _).mono ?_
        rintro e wd ⟨rfl, hwd⟩
        rw [hwd]
        clear hwd
        go_wp2_with fail
        refine CB.out.mono ?_
        rintro e w9 ⟨rfl, hb⟩
        have ST9 : Hid (Tb w T U a b c d a' b' c' d' w9) := ST8.out.later hb
        clear hb CB ST8
        obtain ⟨W10, HW10⟩ : ∃ W, Hid (w9.alloc (i4 a b c d) = W) := ⟨_, rfl⟩
        have b10 : Below w9.heap.size w9 W10 := by rw [← HW10.out]; exact (Below.refl _ _).alloc (Nat.le_refl _) _
        have STT : Hid (Tb w T U a b c d a' b' c' d' W10) := ST9.out.later b10
        have R10 : Hid (W10.heap[w9.heap.size]? = some (i4 a b c d)) := by show _ = _; rw [← HW10.out]; exact heap_alloc_new _ _
        clear b10 ST9
        go_upto_region 13 with fail
        rw [show w9.alloc (.cells #[.int .i64 a, .int .i64 b, .int .i64 c, .int .i64 d] 23) = W10 from HW10.out]
        obtain ⟨k0, k1, k2, k3, -⟩ := row4 R10.out
        obtain ⟨m0, m1, m2, m3, -⟩ := row4 STT.out.rt
        go_wp2_with fail
        refine (NC.out _ _).mono ?_
        rintro e wd ⟨rfl, hwd⟩
        rw [hwd]
        clear hwd
        go_upto_region 15 with fail
        clear k0 k1 k2 k3 m0 m1 m2 m3 R10
        have CQ : Hid (Calls _ _ _ _ _) := PR.out path hs W10 STT.out.bl
        have BQ : Hid (Below w.heap.size w W10) := STT.out.bl
        rcases isT_or path with ⟨z0, z1, z2, z3, gz, hz⟩ | hno
        · obtain ⟨u0, u62, v0, v62, t0, t62, s1, s256, uu1, uu8⟩ := goes_small gz
          have hpz : pV path = .tuple #[.agg #[.int .i64 z0, .int .i64 z1, .int .i64 z2, .int .i64 z3], .int .i64 0] := by rw [← hz]; exact pV_yes z0 z1 z2 z3 gz
          have hvz : pathV z0 z1 z2 z3 = .tuple #[.string path, .int .i64 0] := by rw [← hz]; exact if_pos gz
          have HVZ : Hid (_ = _) := hvz
          rw [hpz] at CQ
          clear hpz hvz hz gz
          go_wp2_with fail
          refine CQ.out.mono ?_
          rintro e w11 ⟨rfl, hb⟩
          have B11 : Hid (Below w.heap.size w w11) := BQ.out.trans (hb.mono BQ.out.size)
          clear hb
          obtain ⟨W12, HW12⟩ : ∃ W, Hid (w11.alloc (i4 z0 z1 z2 z3) = W) := ⟨_, rfl⟩
          have B12 : Hid (Below w.heap.size w W12) := by show Below _ _ _; rw [← HW12.out]; exact B11.out.alloc B11.out.size _
          have R12 : Hid (W12.heap[w11.heap.size]? = some (i4 z0 z1 z2 z3)) := by show _ = _; rw [← HW12.out]; exact heap_alloc_new _ _
          go_upto_region 16 with fail
          rw [show w11.alloc (.cells #[.int .i64 z0, .int .i64 z1, .int .i64 z2, .int .i64 z3] 23) = W12 from HW12.out]
          have CZ : Hid (Calls _ _ _ _ _) := PA.out z0 z1 z2 z3 ⟨by omega, by omega⟩ ⟨by omega, by omega⟩ ⟨by omega, by omega⟩ ⟨by omega, by omega⟩ W12 B12.out
          rw [HVZ.out] at CZ
          go_wp2_with fail
          refine (NC.out _ _).mono ?_
          rintro e wd ⟨rfl, hwd⟩
          rw [hwd]
          clear hwd
          obtain ⟨r0, r1, r2, r3, -⟩ := row4 R12.out
          go_wp2_with fail
          refine CZ.out.mono ?_
          rintro e w13 ⟨rfl, hb⟩
          have B13 : Hid (Below w.heap.size w w13) := B12.out.trans (hb.mono B12.out.size)
          clear hb r0 r1 r2 r3
          go_wp2_with fail
          refine (NC.out _ _).mono ?_
          rintro e wd ⟨rfl, hwd⟩
          rw [hwd]
          clear hwd
          go_wp2
          go_ret
          exact ⟨by simp, B13.out⟩
        · have hpz : pV path = .tuple #[.agg #[.int .i64 0, .int .i64 0, .int .i64 0, .int .i64 0], .int .i64 230] := pV_no path hno
          rw [hpz] at CQ
          clear hpz hno
          go_wp2_with fail
          refine CQ.out.mono ?_
          rintro e w11 ⟨rfl, hb⟩
          have B11 : Hid (Below w.heap.size w w11) := BQ.out.trans (hb.mono BQ.out.size)
          clear hb
          obtain ⟨W12, HW12⟩ : ∃ W, Hid (w11.alloc (i4 0 0 0 0) = W) := ⟨_, rfl⟩
          have B12 : Hid (Below w.heap.size w W12) := by show Below _ _ _; rw [← HW12.out]; exact B11.out.alloc B11.out.size _
          have R12 : Hid (W12.heap[w11.heap.size]? = some (i4 0 0 0 0)) := by show _ = _; rw [← HW12.out]; exact heap_alloc_new _ _
          go_upto_region 16 with fail
          rw [show w11.alloc (.cells #[.int .i64 0, .int .i64 0, .int .i64 0, .int .i64 0] 23) = W12 from HW12.out]
          go_wp2_with fail
          refine (NC.out _ _).mono ?_
          rintro e wd ⟨rfl, hwd⟩
          rw [hwd]
          clear hwd
          obtain ⟨r0, r1, r2, r3, -⟩ := row4 R12.out
          go_wp2_with fail
          refine (NC.out _ _).mono ?_
          rintro e wd ⟨rfl, hwd⟩
          rw [hwd]
          clear hwd
          go_wp2
          go_ret
          exact ⟨by simp, B12.out⟩
      · have hnb := two_no gt HVB.out
        subst hnb
        clear gt HVB HVC
        go_wp2_with fail
        refine (NC.out _ _).mono ?_
        rintro e wd ⟨rfl, hwd⟩
        rw [hwd]
        clear hwd
        go_upto_region 15 with fail
        have CQ : Hid (Calls _ _ _ _ _) := PR.out path hs w8 ST8.out.bl
        have BQ : Hid (Below w.heap.size w w8) := ST8.out.bl
        rcases isT_or path with ⟨z0, z1, z2, z3, gz, hz⟩ | hno
        · obtain ⟨u0, u62, v0, v62, t0, t62, s1, s256, uu1, uu8⟩ := goes_small gz
          have hpz : pV path = .tuple #[.agg #[.int .i64 z0, .int .i64 z1, .int .i64 z2, .int .i64 z3], .int .i64 0] := by rw [← hz]; exact pV_yes z0 z1 z2 z3 gz
          have hvz : pathV z0 z1 z2 z3 = .tuple #[.string path, .int .i64 0] := by rw [← hz]; exact if_pos gz
          have HVZ : Hid (_ = _) := hvz
          rw [hpz] at CQ
          clear hpz hvz hz gz
          go_wp2_with fail
          refine CQ.out.mono ?_
          rintro e w11 ⟨rfl, hb⟩
          have B11 : Hid (Below w.heap.size w w11) := BQ.out.trans (hb.mono BQ.out.size)
          clear hb
          obtain ⟨W12, HW12⟩ : ∃ W, Hid (w11.alloc (i4 z0 z1 z2 z3) = W) := ⟨_, rfl⟩
          have B12 : Hid (Below w.heap.size w W12) := by show Below _ _ _; rw [← HW12.out]; exact B11.out.alloc B11.out.size _
          have R12 : Hid (W12.heap[w11.heap.size]? = some (i4 z0 z1 z2 z3)) := by show _ = _; rw [← HW12.out]; exact heap_alloc_new _ _
          go_upto_region 16 with fail
          rw [show w11.alloc (.cells #[.int .i64 z0, .int .i64 z1, .int .i64 z2, .int .i64 z3] 23) = W12 from HW12.out]
          have CZ : Hid (Calls _ _ _ _ _) := PA.out z0 z1 z2 z3 ⟨by omega, by omega⟩ ⟨by omega, by omega⟩ ⟨by omega, by omega⟩ ⟨by omega, by omega⟩ W12 B12.out
          rw [HVZ.out] at CZ
          go_wp2_with fail
          refine (NC.out _ _).mono ?_
          rintro e wd ⟨rfl, hwd⟩
          rw [hwd]
          clear hwd
          obtain ⟨r0, r1, r2, r3, -⟩ := row4 R12.out
          go_wp2_with fail
          refine CZ.out.mono ?_
          rintro e w13 ⟨rfl, hb⟩
          have B13 : Hid (Below w.heap.size w w13) := B12.out.trans (hb.mono B12.out.size)
          clear hb r0 r1 r2 r3
          go_wp2_with fail
          refine (NC.out _ _).mono ?_
          rintro e wd ⟨rfl, hwd⟩
          rw [hwd]
          clear hwd
          go_wp2
          go_ret
          exact ⟨by simp, B13.out⟩
        · have hpz : pV path = .tuple #[.agg #[.int .i64 0, .int .i64 0, .int .i64 0, .int .i64 0], .int .i64 230] := pV_no path hno
          rw [hpz] at CQ
          clear hpz hno
          go_wp2_with fail
          refine CQ.out.mono ?_
          rintro e w11 ⟨rfl, hb⟩
          have B11 : Hid (Below w.heap.size w w11) := BQ.out.trans (hb.mono BQ.out.size)
          clear hb
          obtain ⟨W12, HW12⟩ : ∃ W, Hid (w11.alloc (i4 0 0 0 0) = W) := ⟨_, rfl⟩
          have B12 : Hid (Below w.heap.size w W12) := by show Below _ _ _; rw [← HW12.out]; exact B11.out.alloc B11.out.size _
          have R12 : Hid (W12.heap[w11.heap.size]? = some (i4 0 0 0 0)) := by show _ = _; rw [← HW12.out]; exact heap_alloc_new _ _
          go_upto_region 16 with fail
          rw [show w11.alloc (.cells #[.int .i64 0, .int .i64 0, .int .i64 0, .int .i64 0] 23) = W12 from HW12.out]
          go_wp2_with fail
          refine (NC.out _ _).mono ?_
          rintro e wd ⟨rfl, hwd⟩
          rw [hwd]
          clear hwd
          obtain ⟨r0, r1, r2, r3, -⟩ := row4 R12.out
          go_wp2_with fail
          refine (NC.out _ _).mono ?_
          rintro e wd ⟨rfl, hwd⟩
          rw [hwd]
          clear hwd
          go_wp2
          go_ret
          exact ⟨by simp, B12.out⟩
end Go.Proofs.YtfbglffookacbaaGreatDoor.rp
