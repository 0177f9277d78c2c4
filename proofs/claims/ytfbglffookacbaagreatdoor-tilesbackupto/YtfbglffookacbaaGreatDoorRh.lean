import Derived.Test.YtfbglffookacbaaGreatDoorRg
import Derived.Test.YtfbglffookacbaaGreatDoorA4
namespace Go.Proofs.YtfbglffookacbaaGreatDoor.rh
open Go.RowKit Go.PlainAid Go.Shelf
open Go.Proofs.YtfbglffookacbaaGreatDoor.ta Go.Proofs.YtfbglffookacbaaGreatDoor.tb Go.Proofs.YtfbglffookacbaaGreatDoor.tc Go.Proofs.YtfbglffookacbaaGreatDoor.cp Go.Proofs.YtfbglffookacbaaGreatDoor.wa Go.Proofs.YtfbglffookacbaaGreatDoor.wb Go.Proofs.YtfbglffookacbaaGreatDoor.a2 Go.Proofs.YtfbglffookacbaaGreatDoor.a4 Go.Proofs.YtfbglffookacbaaGreatDoor.r3 Go.Proofs.YtfbglffookacbaaGreatDoor.r8 Go.Proofs.YtfbglffookacbaaGreatDoor.r9 Go.Proofs.YtfbglffookacbaaGreatDoor.ra Go.Proofs.YtfbglffookacbaaGreatDoor.rg
set_option linter.unusedVariables false

theorem row0 {W : World} {b : Nat} (h : W.heap[b]? = some (.cells #[.int .i64 0, .int .i64 0, .int .i64 0, .int .i64 0] 23 (0, 0))) : W.cell? ⟨b, 0, none⟩ = some (.int .i64 0) ∧ W.cell? ⟨b, 1, none⟩ = some (.int .i64 0) ∧ W.cell? ⟨b, 2, none⟩ = some (.int .i64 0) ∧ W.cell? ⟨b, 3, none⟩ = some (.int .i64 0) ∧ W.frozen? ⟨b, 0, none⟩ = false ∧ W.frozen? ⟨b, 1, none⟩ = false ∧ W.frozen? ⟨b, 2, none⟩ = false ∧ W.frozen? ⟨b, 3, none⟩ = false := by
  refine ⟨?_, ?_, ?_, ?_, frozen_of_row W b 0 _ _ h, frozen_of_row W b 1 _ _ h, frozen_of_row W b 2 _ _ h, frozen_of_row W b 3 _ _ h⟩ <;> (rw [cell_of_row _ _ _ _ _ _ h]; rfl)
set_option maxRecDepth 100000 in
set_option maxHeartbeats 6400000 in
theorem guess_long (path : ByteArray) (hs : path.size ≤ 2097152) (h4 : ¬ (ptsL path).length < 4) (w : World) (hN : NumW w) (hM : MaxW w) :
    Calls Tryz.prog 15 #[.string path] w fun e w' => e = .returned (gsV path) ∧ Below w.heap.size w w' := by
  have e4 : (ptsL path).length = 4 := by have := pts_four path; omega
  have HV : Hid (gsV path = .agg #[.int .i64 (gsH path), .int .i64 (gsL path), .int .i64 (gsI path), .int .i64 (gsC path)]) := by show _ = _; unfold gsV; rw [if_neg h4]
  obtain ⟨W0, HW0⟩ : ∃ W0, Hid (w.alloc (.cells #[.int .i64 0, .int .i64 0, .int .i64 0, .int .i64 0] 23) = W0) := ⟨_, rfl⟩
  have B0 : Hid (Below w.heap.size w W0) := by show Below _ _ _; rw [← HW0.out]; exact (Below.refl _ _).alloc (Nat.le_refl _) _
  have HT0 : Hid (W0.heap[w.heap.size]? = some (.cells #[.int .i64 0, .int .i64 0, .int .i64 0, .int .i64 0] 23 (0, 0))) := by show _ = _; rw [← HW0.out]; exact heap_alloc_new _ _
  have SC : Hid (Calls _ _ _ _ _) := splitC path ⟨#[47]⟩ 4 W0 (hM.down B0.out) (by omega) (by decide) (by decide) (by decide)
  have HE : Hid (Lib.splitB ⟨#[47]⟩ 0 (min 4 (path.size + 1) - 1) path = ptsL path) := rfl
  rw [HE.out, e4] at SC
  obtain ⟨cp9, HCP⟩ : ∃ c, Hid (min 4 (path.size + 1) = c) := ⟨_, rfl⟩
  rw [HCP.out] at SC
  obtain ⟨p1, HP1⟩ : ∃ p, Hid ((ptsL path).getD 1 ByteArray.empty = p) := ⟨_, rfl⟩
  obtain ⟨p2, HP2⟩ : ∃ p, Hid ((ptsL path).getD 2 ByteArray.empty = p) := ⟨_, rfl⟩
  obtain ⟨p3, HP3⟩ : ∃ p, Hid ((ptsL path).getD 3 ByteArray.empty = p) := ⟨_, rfl⟩
  have k1 := pts_cell W0 path cp9 1 (by omega)
  have k2 := pts_cell W0 path cp9 2 (by omega)
  have k3 := pts_cell W0 path cp9 3 (by omega)
  have z1 := pts_size path 1
  have z2 := pts_size path 2
  have z3 := pts_size path 3
  rw [HP1.out] at k1 z1
  rw [HP2.out] at k2 z2
  rw [HP3.out] at k3 z3
  obtain ⟨W1, HW1⟩ : ∃ W1, Hid (W0.alloc (.cells (Lib.cellsOf (ptsL path) cp9) 9) = W1) := ⟨_, rfl⟩
  rw [HW1.out] at SC k1 k2 k3
  have b1 : Below W0.heap.size W0 W1 := by rw [← HW1.out]; exact (Below.refl _ _).alloc (Nat.le_refl _) _
  have B1 : Hid (Below w.heap.size w W1) := B0.out.trans (b1.mono B0.out.size)
  have HT1 : Hid (W1.heap[w.heap.size]? = some (.cells #[.int .i64 0, .int .i64 0, .int .i64 0, .int .i64 0] 23 (0, 0))) := (b1.block _ (Array.getElem?_eq_some_iff.1 HT0.out).1).trans HT0.out
  have cc := cutC p3 ⟨#[46, 112, 47]⟩ (by omega) W1 (hM.down B1.out)
  have hq : Lib.cut p3.data.toList (⟨#[46, 112, 47]⟩ : ByteArray).data.toList = cutQ path := by rw [← HP3.out]; rfl
  rw [hq] at cc
  obtain ⟨ix, HIX⟩ : ∃ x, Hid (ixT path = x) := ⟨_, rfl⟩
  obtain ⟨ct, HCT⟩ : ∃ x, Hid (ctT path = x) := ⟨_, rfl⟩
  obtain ⟨pf, HPF⟩ : ∃ x, Hid ((cutQ path).2.2 = x) := ⟨_, rfl⟩
  rw [show (⟨(cutQ path).1.toArray⟩ : ByteArray) = ix from HIX.out, show (⟨(cutQ path).2.1.toArray⟩ : ByteArray) = ct from HCT.out, HPF.out] at cc
  have CC : Hid (Calls _ _ _ _ _) := cc
  have zi := ix_size path
  have zc := ct_size path
  rw [HIX.out] at zi
  rw [HCT.out] at zc
  have zk := kpB_size ix
  have Z : Hid (p1.size ≤ 2097152 ∧ p2.size ≤ 2097152 ∧ ix.size ≤ 2097152 ∧ ct.size ≤ 2097152 ∧ (kpB ix).size ≤ 2097152) := ⟨by omega, by omega, by omega, by omega, by omega⟩
  have HG : Hid (gsH path = numV p1 ∧ gsL path = numV p2 ∧ gsI path = numV (kpB ix) ∧ gsC path = if pf = false ∧ 1 ≤ numV p1 ∧ numV p1 ≤ 8 then 2 ^ (numV p1).toNat else numV ct) := by
    refine ⟨?_, ?_, ?_, ?_⟩
    · show numV _ = _; rw [HP1.out]
    · show numV _ = _; rw [HP2.out]
    · show numV (kpB _) = _; rw [HIX.out]
    · unfold gsC gsH; rw [HPF.out, HP1.out, HCT.out]
  obtain ⟨hg1, hg2, hg3, hg4⟩ := HG.out
  rw [hg1, hg2, hg3, hg4] at HV
  clear hg1 hg2 hg3 hg4
  have NB0 : Hid (∀ w', Below w.heap.size w w' → ∀ s : ByteArray, s.size ≤ 2097152 → Calls Tryz.prog 28 #[.string s] w' fun e w'' => e = .returned (.int .i64 (numV s)) ∧ Below w'.heap.size w' w'') := fun w' hb s hz => numberC s (by omega) w' (hN.down hb)
  have UB : Hid (∀ w', Calls _ _ _ (w' : World) _) := fun w' => ungroupC ix Z.out.2.2.1 w'
  clear z1 z2 z3 zi zc zk cc hq hM hN b1 e4 h4
  go_enter Tryz.func15, Tryz.ntmps15
  go_wp2_with fail
  rw [HW0.out]
  refine SC.out.mono ?_
  rintro e w1 ⟨rfl, hw1⟩
  subst hw1
  go_wp2_with fail
  refine CC.out.mono ?_
  rintro e w2 ⟨rfl, hb2⟩
  have y1 := (hb2.cell (World.block_lt_of_cell? _ _ k1)).trans k1
  have y2 := (hb2.cell (World.block_lt_of_cell? _ _ k2)).trans k2
  have Y : Hid (w2.cell? ⟨W0.heap.size, 1, none⟩ = some (.string p1) ∧ w2.cell? ⟨W0.heap.size, 2, none⟩ = some (.string p2)) := ⟨y1, y2⟩
  have B2 : Hid (Below w.heap.size w w2) := B1.out.trans (hb2.mono B1.out.size)
  have HT2 : Hid (w2.heap[w.heap.size]? = some (.cells #[.int .i64 0, .int .i64 0, .int .i64 0, .int .i64 0] 23 (0, 0))) := (hb2.block _ (Array.getElem?_eq_some_iff.1 HT1.out).1).trans HT1.out
  have NB : Hid (∀ w', Below w2.heap.size w2 w' → ∀ s : ByteArray, s.size ≤ 2097152 → Calls Tryz.prog 28 #[.string s] w' fun e w'' => e = .returned (.int .i64 (numV s)) ∧ Below w'.heap.size w' w'') := fun w' hb => NB0.out w' (B2.out.trans (hb.mono B2.out.size))
  have SX : Hid (∀ w', Below w2.heap.size w2 w' → w'.cell? ⟨W0.heap.size, 1, none⟩ = some (.string p1) ∧ w'.cell? ⟨W0.heap.size, 2, none⟩ = some (.string p2)) := fun w' hb => ⟨(hb.cell (World.block_lt_of_cell? _ _ Y.out.1)).trans Y.out.1, (hb.cell (World.block_lt_of_cell? _ _ Y.out.2)).trans Y.out.2⟩
  have KX : Hid (Below w2.heap.size w2 w2.drew) := below_dN (Below.refl _ _) 1
  clear hb2 k1 k2 k3 y1 y2
  go_upto_region 5 with fail
  go_cut [7] from 22 to 35 (fun x wx => ∃ bx : Nat, x = .pointer (some ⟨bx, 0, none⟩) ∧ w2.heap.size ≤ bx ∧ Below w2.heap.size w2 wx ∧ wx.heap[bx]? = some (.cells #[.int .i64 (numV p1), .int .i64 (numV p2), .int .i64 (numV (kpB ix)), .int .i64 (numV ct)] 23 (0, 0)))
  case first =>
    go_region_held_law (fun W' => W'.cell? ⟨W0.heap.size, 1, none⟩ = some (.string p1) ∧ W'.cell? ⟨W0.heap.size, 2, none⟩ = some (.string p2)) (first | exact Y.out | exact SX.out _ KX.out | exact SX.out _ (KX.out.alloc KX.out.size _) | exact SX.out _ ((((KX.out.setCell (p := ⟨_, 0, none⟩) T7.out.1 _).setCell (p := ⟨_, 1, none⟩) T7.out.1 _).setCell (p := ⟨_, 2, none⟩) T7.out.1 _).setCell (p := ⟨_, 3, none⟩) T7.out.1 _)) (first | (go_at_call 28; refine (NB.out _ (by first | exact KX.out | exact KX.out.alloc KX.out.size _ | exact Below.refl _ _) _ (by first | exact Z.out.1 | exact Z.out.2.1 | exact Z.out.2.2.2.1 | exact Z.out.2.2.2.2)).mono ?_; rintro e wn ⟨rfl, hb⟩; (first | (have T7 : Hid (w2.heap.size ≤ _ ∧ _ = _) := ⟨T7.out.1, (hb.block _ (Array.getElem?_eq_some_iff.1 T7.out.2).1).trans T7.out.2⟩; obtain ⟨c70, c71, c72, c73, f70, f71, f72, f73⟩ := row0 T7.out.2) | (have T7 : Hid (w2.heap.size ≤ _ ∧ _ = _) := ⟨KX.out.size, (hb.block _ (by simp)).trans (heap_alloc_new _ _)⟩; obtain ⟨c70, c71, c72, c73, f70, f71, f72, f73⟩ := row0 T7.out.2) | skip); have KX : Hid (Below w2.heap.size w2 wn) := (by first | exact KX.out.trans (hb.mono KX.out.size) | exact (KX.out.alloc KX.out.size _).trans (hb.mono (KX.out.alloc KX.out.size _).size) | exact hb); clear hb) | (go_at_call 29; refine (UB.out _).mono ?_; rintro e wn ⟨rfl, hb⟩; (first | (have T7 : Hid (w2.heap.size ≤ _ ∧ _ = _) := ⟨T7.out.1, (hb.block _ (Array.getElem?_eq_some_iff.1 T7.out.2).1).trans T7.out.2⟩; obtain ⟨c70, c71, c72, c73, f70, f71, f72, f73⟩ := row0 T7.out.2) | (have T7 : Hid (w2.heap.size ≤ _ ∧ _ = _) := ⟨KX.out.size, (hb.block _ (by simp)).trans (heap_alloc_new _ _)⟩; obtain ⟨c70, c71, c72, c73, f70, f71, f72, f73⟩ := row0 T7.out.2) | skip); have KX : Hid (Below w2.heap.size w2 wn) := (by first | exact KX.out.trans (hb.mono KX.out.size) | exact (KX.out.alloc KX.out.size _).trans (hb.mono (KX.out.alloc KX.out.size _).size) | exact hb); clear hb))
    all_goals (
      go_wp2_with fail
      go_meet
      refine ⟨_, rfl, ?_, ?_, ?_⟩
      · first | exact T7.out.1 | exact KX.out.size
      · first | exact (((KX.out.setCell (p := ⟨_, 0, none⟩) T7.out.1 _).setCell (p := ⟨_, 1, none⟩) T7.out.1 _).setCell (p := ⟨_, 2, none⟩) T7.out.1 _).setCell (p := ⟨_, 3, none⟩) T7.out.1 _ | exact KX.out.alloc KX.out.size _
      · first | exact put4 _ _ _ _ _ _ _ T7.out.2 _ _ _ _ | exact heap_alloc_new _ _)
  case rest =>
    obtain ⟨bx, rfl, hbx, hbw, hrow⟩ := hcut
    have LX : Hid (w2.heap.size ≤ bx) := hbx
    have BX : Hid (Below w2.heap.size w2 wc) := hbw
    have RX : Hid (_ = _) := hrow
    have HT : Hid (wc.heap[w.heap.size]? = some (.cells #[.int .i64 0, .int .i64 0, .int .i64 0, .int .i64 0] 23 (0, 0))) := (hbw.block _ (Array.getElem?_eq_some_iff.1 HT2.out).1).trans HT2.out
    have BW : Hid (Below w.heap.size w wc) := B2.out.trans (hbw.mono B2.out.size)
    have LW : Hid (w.heap.size < w2.heap.size) := (Array.getElem?_eq_some_iff.1 HT2.out).1
    clear hbx hbw hrow
    obtain ⟨x1, HX1⟩ : ∃ x, Hid (numV p1 = x) := ⟨_, rfl⟩
    obtain ⟨x2, HX2⟩ : ∃ x, Hid (numV p2 = x) := ⟨_, rfl⟩
    obtain ⟨x3, HX3⟩ : ∃ x, Hid (numV (kpB ix) = x) := ⟨_, rfl⟩
    obtain ⟨x4, HX4⟩ : ∃ x, Hid (numV ct = x) := ⟨_, rfl⟩
    rw [HX1.out, HX2.out, HX3.out, HX4.out] at RX HV
    have C18 : Hid (∀ w, Calls _ _ _ _ _) := fun w => highC x1 w
    -- the end: the row is stored in the result's cells
    have EN : Hid (∀ (W : World) (v : Int), Below w.heap.size w W → W.heap[w.heap.size]? = some (.cells #[.int .i64 0, .int .i64 0, .int .i64 0, .int .i64 0] 23 (0, 0)) → (((((W.setCell ⟨w.heap.size, 0, none⟩ (.int .i64 x1)).setCell ⟨w.heap.size, 1, none⟩ (.int .i64 x2)).setCell ⟨w.heap.size, 2, none⟩ (.int .i64 x3)).setCell ⟨w.heap.size, 3, none⟩ (.int .i64 v)).heap[w.heap.size]? = some (.cells #[.int .i64 x1, .int .i64 x2, .int .i64 x3, .int .i64 v] 23 (0, 0)) ∧ Below w.heap.size w ((((W.setCell ⟨w.heap.size, 0, none⟩ (.int .i64 x1)).setCell ⟨w.heap.size, 1, none⟩ (.int .i64 x2)).setCell ⟨w.heap.size, 2, none⟩ (.int .i64 x3)).setCell ⟨w.heap.size, 3, none⟩ (.int .i64 v)))) := by
      intro W v hb hr
      exact ⟨put4 W _ _ _ _ _ _ hr _ _ _ _, (((hb.setCell (p := ⟨w.heap.size, 0, none⟩) (Nat.le_refl _) _).setCell (p := ⟨w.heap.size, 1, none⟩) (Nat.le_refl _) _).setCell (p := ⟨w.heap.size, 2, none⟩) (Nat.le_refl _) _).setCell (p := ⟨w.heap.size, 3, none⟩) (Nat.le_refl _) _⟩
    have D4 : Hid (∀ (W : World) (b : Nat) (a0 a1 a2 a3 : Value), W.heap[b]? = some (.cells #[a0, a1, a2, a3] 23 (0, 0)) → W.cell? ⟨b, 0, none⟩ = some a0 ∧ W.cell? ⟨b, 1, none⟩ = some a1 ∧ W.cell? ⟨b, 2, none⟩ = some a2 ∧ W.cell? ⟨b, 3, none⟩ = some a3 ∧ W.frozen? ⟨b, 0, none⟩ = false ∧ W.frozen? ⟨b, 1, none⟩ = false ∧ W.frozen? ⟨b, 2, none⟩ = false ∧ W.frozen? ⟨b, 3, none⟩ = false) := by
      intro W b a0 a1 a2 a3 h
      refine ⟨?_, ?_, ?_, ?_, frozen_of_row W b 0 _ _ h, frozen_of_row W b 1 _ _ h, frozen_of_row W b 2 _ _ h, frozen_of_row W b 3 _ _ h⟩ <;> (rw [cell_of_row _ _ _ _ _ _ h]; rfl)
    obtain ⟨k0, k1, k2, k3, f0, f1, f2, f3⟩ := D4.out wc bx _ _ _ _ RX.out
    obtain ⟨m0, m1, m2, m3, g0, g1, g2, g3⟩ := D4.out wc w.heap.size _ _ _ _ HT.out
    by_cases hc : pf = false ∧ 1 ≤ x1 ∧ x1 ≤ 8
    · obtain ⟨hp, h1, h8⟩ := hc
      rw [if_pos ⟨hp, h1, h8⟩] at HV
      subst hp
      have C14 : Hid (∀ w, Calls _ _ _ _ _) := fun w => fullI x1 (by omega) (by omega) w
      obtain ⟨F, HF⟩ : ∃ F, Hid ((2 : Int) ^ x1.toNat = F) := ⟨_, rfl⟩
      rw [HF.out] at C14 HV
      have hd : (decide (1 ≤ x1) && decide (x1 ≤ 8)) = true := by rw [decide_eq_true h1, decide_eq_true h8]; rfl
      rw [hd] at C18
      obtain ⟨W6, HW6⟩ : ∃ W6, Hid (wc.setCell ⟨bx, 3, none⟩ (.int .i64 F) = W6) := ⟨_, rfl⟩
      have R6 : Hid (W6.heap[bx]? = some (.cells #[.int .i64 x1, .int .i64 x2, .int .i64 x3, .int .i64 F] 23 (0, 0))) := by
        show _ = _
        rw [← HW6.out]
        exact heap_setCell_same wc bx 3 _ _ _ RX.out
      have HT6 : Hid (W6.heap[w.heap.size]? = some (.cells #[.int .i64 0, .int .i64 0, .int .i64 0, .int .i64 0] 23 (0, 0))) := by
        show _ = _
        rw [← HW6.out, Below.heap_setCell _ _ _ _ (by have := LX.out; have := LW.out; show w.heap.size ≠ bx; omega)]
        exact HT.out
      have B6 : Hid (Below w.heap.size w W6) := by
        show Below _ _ _
        rw [← HW6.out]
        exact BW.out.setCell (p := ⟨bx, 3, none⟩) (by have := LX.out; have := LW.out; show w.heap.size ≤ bx; omega) _
      have E6 := EN.out W6 F B6.out HT6.out
      have E6 : Hid (_ ∧ _) := E6
      go_wp2_with fail
      refine (C18.out _).mono ?_
      rintro e w4 ⟨rfl, rfl⟩
      go_wp2_with fail
      refine (C14.out _).mono ?_
      rintro e w5 ⟨rfl, rfl⟩
      go_upto_region 8 with fail
      rw [HW6.out]
      obtain ⟨k0, k1, k2, k3, f0, f1, f2, f3⟩ := D4.out W6 bx _ _ _ _ R6.out
      obtain ⟨m0, m1, m2, m3, g0, g1, g2, g3⟩ := D4.out W6 w.heap.size _ _ _ _ HT6.out
      go_wp2
      obtain ⟨W9, HW9⟩ : ∃ W9, Hid ((((W6.setCell ⟨w.heap.size, 0, none⟩ (.int .i64 x1)).setCell ⟨w.heap.size, 1, none⟩ (.int .i64 x2)).setCell ⟨w.heap.size, 2, none⟩ (.int .i64 x3)).setCell ⟨w.heap.size, 3, none⟩ (.int .i64 F) = W9) := ⟨_, rfl⟩
      have e6 := E6.out
      rw [HW9.out] at e6 ⊢
      obtain ⟨d0, d1, d2, d3, -⟩ := D4.out W9 w.heap.size _ _ _ _ e6.1
      refine bodyPost_ret (by simp [results, Tryz.results15, go_sem, d0, d1, d2, d3]; try rfl) rfl ?_
      exact ⟨by rw [HV.out], e6.2⟩
    · rw [if_neg hc] at HV
      have E6 : Hid (_ ∧ _) := EN.out wc x4 BW.out HT.out
      have fin : Hid (pf = false → (decide (1 ≤ x1) && decide (x1 ≤ 8)) = false) := by
        intro hp
        cases hq : (decide (1 ≤ x1) && decide (x1 ≤ 8)) with
        | false => rfl
        | true =>
          rw [Bool.and_eq_true] at hq
          exact absurd ⟨hp, of_decide_eq_true hq.1, of_decide_eq_true hq.2⟩ hc
      clear hc
      cases pf with
      | true =>
        go_wp2
        obtain ⟨W9, HW9⟩ : ∃ W9, Hid ((((wc.setCell ⟨w.heap.size, 0, none⟩ (.int .i64 x1)).setCell ⟨w.heap.size, 1, none⟩ (.int .i64 x2)).setCell ⟨w.heap.size, 2, none⟩ (.int .i64 x3)).setCell ⟨w.heap.size, 3, none⟩ (.int .i64 x4) = W9) := ⟨_, rfl⟩
        have e6 := E6.out
        rw [HW9.out] at e6 ⊢
        obtain ⟨d0, d1, d2, d3, -⟩ := D4.out W9 w.heap.size _ _ _ _ e6.1
        refine bodyPost_ret (by simp [results, Tryz.results15, go_sem, d0, d1, d2, d3]; try rfl) rfl ?_
        exact ⟨by rw [HV.out], e6.2⟩
      | false =>
        rw [fin.out rfl] at C18
        clear fin
        go_wp2_with fail
        refine (C18.out _).mono ?_
        rintro e w4 ⟨rfl, rfl⟩
        go_wp2
        obtain ⟨W9, HW9⟩ : ∃ W9, Hid ((((w4.setCell ⟨w.heap.size, 0, none⟩ (.int .i64 x1)).setCell ⟨w.heap.size, 1, none⟩ (.int .i64 x2)).setCell ⟨w.heap.size, 2, none⟩ (.int .i64 x3)).setCell ⟨w.heap.size, 3, none⟩ (.int .i64 x4) = W9) := ⟨_, rfl⟩
        have e6 := E6.out
        rw [HW9.out] at e6 ⊢
        obtain ⟨d0, d1, d2, d3, -⟩ := D4.out W9 w.heap.size _ _ _ _ e6.1
        refine bodyPost_ret (by simp [results, Tryz.results15, go_sem, d0, d1, d2, d3]; try rfl) rfl ?_
        exact ⟨by rw [HV.out], e6.2⟩
theorem guessC (path : ByteArray) (hs : path.size ≤ 2097152) (w : World) (hN : NumW w) (hM : MaxW w) :
    Calls Tryz.prog 15 #[.string path] w fun e w' => e = .returned (gsV path) ∧ Below w.heap.size w w' := by
  by_cases h4 : (ptsL path).length < 4
  · exact guess_short path hs h4 w hM
  · exact guess_long path hs h4 w hN hM
end Go.Proofs.YtfbglffookacbaaGreatDoor.rh
