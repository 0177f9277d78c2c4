import Derived.Test.YtagkafmjnboobaaGreatDoorY1
import Derived.Test.YtagkafmjnboobaaGreatDoorG5
import Derived.Test.YtagkafmjnboobaaGreatDoorG4
namespace Go.Proofs.YtagkafmjnboobaaGreatDoor.yf
open Go.RowKit Go.PlainAid
open Go.Proofs.YtagkafmjnboobaaGreatDoor.pl Go.Proofs.YtagkafmjnboobaaGreatDoor.pi Go.Proofs.YtagkafmjnboobaaGreatDoor.pj Go.Proofs.YtagkafmjnboobaaGreatDoor.ca Go.Proofs.YtagkafmjnboobaaGreatDoor.cb Go.Proofs.YtagkafmjnboobaaGreatDoor.cp Go.Proofs.YtagkafmjnboobaaGreatDoor.ga Go.Proofs.YtagkafmjnboobaaGreatDoor.gb Go.Proofs.YtagkafmjnboobaaGreatDoor.aa Go.Proofs.YtagkafmjnboobaaGreatDoor.ba Go.Proofs.YtagkafmjnboobaaGreatDoor.bb Go.Proofs.YtagkafmjnboobaaGreatDoor.ka Go.Proofs.YtagkafmjnboobaaGreatDoor.kb Go.Proofs.YtagkafmjnboobaaGreatDoor.kc Go.Proofs.YtagkafmjnboobaaGreatDoor.kp Go.Proofs.YtagkafmjnboobaaGreatDoor.lk Go.Proofs.YtagkafmjnboobaaGreatDoor.dc Go.Proofs.YtagkafmjnboobaaGreatDoor.qa Go.Proofs.YtagkafmjnboobaaGreatDoor.qb Go.Proofs.YtagkafmjnboobaaGreatDoor.qc Go.Proofs.YtagkafmjnboobaaGreatDoor.qd Go.Proofs.YtagkafmjnboobaaGreatDoor.ta Go.Proofs.YtagkafmjnboobaaGreatDoor.tb Go.Proofs.YtagkafmjnboobaaGreatDoor.td Go.Proofs.YtagkafmjnboobaaGreatDoor.tc Go.Proofs.YtagkafmjnboobaaGreatDoor.ua Go.Proofs.YtagkafmjnboobaaGreatDoor.ub Go.Proofs.YtagkafmjnboobaaGreatDoor.ma Go.Proofs.YtagkafmjnboobaaGreatDoor.uh Go.Proofs.YtagkafmjnboobaaGreatDoor.ui Go.Proofs.YtagkafmjnboobaaGreatDoor.uj Go.Proofs.YtagkafmjnboobaaGreatDoor.uk Go.Proofs.YtagkafmjnboobaaGreatDoor.ul Go.Proofs.YtagkafmjnboobaaGreatDoor.um Go.Proofs.YtagkafmjnboobaaGreatDoor.un Go.Proofs.YtagkafmjnboobaaGreatDoor.uo Go.Proofs.YtagkafmjnboobaaGreatDoor.uq Go.Proofs.YtagkafmjnboobaaGreatDoor.ur Go.Proofs.YtagkafmjnboobaaGreatDoor.qj Go.Proofs.YtagkafmjnboobaaGreatDoor.qf Go.Proofs.YtagkafmjnboobaaGreatDoor.ye Go.Proofs.YtagkafmjnboobaaGreatDoor.yg Go.Proofs.YtagkafmjnboobaaGreatDoor.ya Go.Proofs.YtagkafmjnboobaaGreatDoor.rf
set_option linter.unusedVariables false

set_option maxRecDepth 100000 in
set_option maxHeartbeats 12800000 in
theorem xLeaf (wd i : Int) (vl : Value) (xs : List ByteArray) (leaf : ByteArray) (vp : Value) (path : List ByteArray) (w : World) (hl : ReadsT w vl xs) (hp : ReadsT w vp path) (hx : Fits xs) (hz : leaf.size ≤ 140737488352000) (zp : path.length ≤ 140737488355328) (hT : Tab4 w) :
    Calls Tryz.prog 9 #[.int .i64 wd, vl, .int .i64 i, .string leaf, vp] w fun e w' => e = .returned (clV (leafX wd i xs leaf path)) ∧ Below w.heap.size w w' := by
  have RD : Hid (ReadsT w vl xs ∧ ReadsT w vp path ∧ Tab4 w ∧ Fits xs) := ⟨hl, hp, hT, hx⟩
  have LC : Hid (∀ w', Tab4 w' → Calls _ _ _ _ _) := fun w' h => rLeaf wd leaf hz w' h
  have RC : Hid (∀ w', Tab4 w' → ReadsT w' vl xs → Calls _ _ _ _ _) := fun w' h1 h2 => gc.rRoot wd xs.length xs vl w' rfl h1 h2 hx
  have IC : Hid (∀ w', Tab4 w' → ReadsT w' vp path → Calls _ _ _ _ _) := fun w' h1 h2 => li.rIncl wd i xs.length (LF wd leaf) vp path (RT wd xs) w' h2 zp h1
  obtain ⟨la, lc, rfl, hlc, hlh⟩ := hl
  obtain ⟨pa, pc, rfl, _⟩ := hp
  obtain ⟨W, HW⟩ : ∃ W, Hid (W = w.alloc (.cells #[.string ⟨#[]⟩, .string ⟨#[]⟩, .bool false] 26)) := ⟨_, rfl⟩
  have hw : w.alloc (.cells #[.string ⟨#[]⟩, .string ⟨#[]⟩, .bool false] 26) = W := HW.out.symm
  have BW : Hid (Below w.heap.size w W) := by rw [HW.out]; exact (Below.refl _ _).alloc (Nat.le_refl _) _
  have HR : Hid (W.heap[w.heap.size]? = some (.cells #[.string ⟨#[]⟩, .string ⟨#[]⟩, .bool false] 26 (0, 0))) := by show _ = _; rw [HW.out]; exact heap_alloc_new w _
  have F4 : Hid (∀ w4, Below W.heap.size W w4 → w4.heap[w.heap.size]? = some (.cells #[.string ⟨#[]⟩, .string ⟨#[]⟩, .bool false] 26 (0, 0))) := fun w4 k => (k.block _ (Array.getElem?_eq_some_iff.1 HR.out).1).trans HR.out
  unfold leafX
  obtain ⟨E, HE⟩ : ∃ E, Hid (incA wd i xs.length (LF wd leaf) path (RT wd xs) = E) := ⟨_, rfl⟩
  obtain ⟨y1, HY1⟩ : ∃ y, Hid (LF wd leaf = y) := ⟨_, rfl⟩
  obtain ⟨y2, HY2⟩ : ∃ y, Hid (RT wd xs = y) := ⟨_, rfl⟩
  rw [HE.out] at IC ⊢
  rw [HY1.out] at LC IC
  rw [HY2.out] at RC IC
  obtain ⟨n, HN⟩ : ∃ n, Hid (xs.length = n) := ⟨_, rfl⟩
  obtain ⟨m, HM⟩ : ∃ n, Hid (path.length = n) := ⟨_, rfl⟩
  rw [HN.out] at RC IC RD hlc hlh ⊢
  rw [HM.out] at IC RD ⊢
  have GD : Hid (∀ w', Below W.heap.size W w' → Tab4 w' ∧ ReadsT w' (.slice la n lc) xs ∧ ReadsT w' (.slice pa m pc) path) := fun w' b => ⟨RD.out.2.2.1.down (over BW.out b), RD.out.1.later (over BW.out b), RD.out.2.1.later (over BW.out b)⟩
  by_cases h : E = 0
  · subst h
    rw [if_pos rfl]
    obtain ⟨I, N, rfl, hNN, i1, i2, i3, i4, i5⟩ := incA_ok HE.out
    have hnN : n = N := by have := HN.out; omega
    obtain ⟨b, off, ha, hq⟩ := hlh.resolve_left (by omega)
    subst ha
    have hin : (I : Int) < n := by omega
    have hin2 : ¬ (n : Int) ≤ I := by omega
    have d2 : decide (n ≤ I) = false := decide_eq_false (by omega)
    obtain ⟨y, HY⟩ : ∃ y, Hid (xs.getD I ByteArray.empty = y) := ⟨_, rfl⟩
    have HC9 : Hid (w.cell? ⟨b, off + I, none⟩ = some (.string y)) := by show _ = _; rw [← HY.out]; exact hq I (by omega)
    rw [Int.toNat_natCast, HY.out]
    by_cases hyl : y = leaf
    · rw [if_pos hyl]
      have qy : (y.toList == leaf.toList) = true := by rw [beqL]; exact decide_eq_true hyl
      clear hlh hq hyl i1 i2 i3 i4 i5 hnN hNN hT hx hz zp
      go_enter Tryz.func9, Tryz.ntmps9
      go_wp2_with fail
      try rw [hw]
      refine (LC.out _ (GD.out _ (Below.refl _ _)).1).mono ?_
      rintro e w1 ⟨rfl, hb1⟩
      have B1 : Hid (Below W.heap.size W w1) := hb1
      clear hb1
      go_wp2_with fail
      refine (RC.out _ (GD.out _ B1.out).1 (GD.out _ B1.out).2.1).mono ?_
      rintro e w2 ⟨rfl, hb2⟩
      have B2 : Hid (Below W.heap.size W w2) := over B1.out hb2
      clear hb2
      go_wp2_with fail
      refine (IC.out _ (GD.out _ B2.out).1 (GD.out _ B2.out).2.2).mono ?_
      rintro e w3 ⟨rfl, hb3⟩
      have B3 : Hid (Below W.heap.size W w3) := over B2.out hb3
      clear hb3
      have c9 : w3.cell? ⟨b, off + I, none⟩ = some (.string y) := ((over BW.out B3.out).cell (World.block_lt_of_cell? _ _ HC9.out)).trans HC9.out
      have hr2 := F4.out w3 B3.out
      have e0 : w3.cell? ⟨w.heap.size, 0, none⟩ = _ := cell_of_row _ _ 0 _ _ _ hr2
      have e1 : w3.cell? ⟨w.heap.size, 1, none⟩ = _ := cell_of_row _ _ 1 _ _ _ hr2
      have e2 : w3.cell? ⟨w.heap.size, 2, none⟩ = _ := cell_of_row _ _ 2 _ _ _ hr2
      have f0 := frozen_of_row _ _ 0 _ _ hr2
      have f1 := frozen_of_row _ _ 1 _ _ hr2
      have f2 := frozen_of_row _ _ 2 _ _ hr2
      have FIN : Hid (∀ W', W' = _ → _) := put3 w3 w.heap.size _ _ _ (.string ⟨#[]⟩) (.string ⟨#[]⟩) (.bool false) _ hr2
      clear hr2
      go_wp2
      obtain ⟨G, hb⟩ := FIN.out _ rfl
      refine bodyPost_ret (by simp [results, Tryz.results9, go_sem, G.1, G.2.1, G.2.2]; try rfl) rfl ?_
      exact ⟨rfl, (over BW.out B3.out).trans (hb _ (Nat.le_refl _))⟩
    · rw [if_neg hyl]
      have qy : (y.toList == leaf.toList) = false := by rw [beqL]; exact decide_eq_false hyl
      have hxm := hx.many
      rw [HN.out] at hxm
      subst hnN
      have RP : Hid (∀ a c, a < c → c ≤ n → ∀ cap', c - a ≤ cap' → ∀ w', Below W.heap.size W w' → Calls Tryz.prog 21 #[.int .i64 wd, .slice (some ⟨b, off + a, none⟩) (c - a) cap'] w' fun e w'' => e = .returned (.string (RR wd xs a c)) ∧ Below w'.heap.size w' w'') := fun a c h1 h2 cap' h3 w' bb => by
        have hlen : (slc xs a c).length = c - a := slc_len (by rw [HN.out]; exact h2)
        refine gc.rRoot wd (c - a) (slc xs a c) _ w' hlen (GD.out w' bb).1 ⟨_, cap', by rw [hlen], by rw [hlen]; exact h3, .inr ⟨b, off + a, rfl, fun i hi => ?_⟩⟩ ((RD.out.2.2.2.drop a).take (c - a))
        rw [hlen] at hi
        obtain ⟨a', c', e, _, hh⟩ := (GD.out w' bb).2.1
        rw [HN.out] at hh
        obtain ⟨b', o', e2, hc⟩ := hh.resolve_left (by omega)
        injection e with e1 _ _
        rw [← e1] at e2
        injection e2 with e2
        injection e2 with x1 x2 _
        subst x1 x2
        rw [show off + a + i = off + (a + i) by omega, hc (a + i) (by omega)]
        unfold slc
        rw [List.getD_eq_getElem?_getD, List.getD_eq_getElem?_getD, List.getElem?_take, if_pos hi, List.getElem?_drop]
      have C0 : Hid (∀ w', Below W.heap.size W w' → w'.cell? ⟨b, off + I, none⟩ = some (.string y)) := fun w' bb => ((over BW.out bb).cell (World.block_lt_of_cell? _ _ HC9.out)).trans HC9.out
      have ZP : Hid (path.length ≤ 140737488355328) := zp
      have XH : Hid (∀ L, 2 ≤ L → L ≤ 4611686018427387904 → ∀ w', Calls _ _ _ _ _) := fun L h1 h2 w' => xhalf L h1 h2 w'
      have XA : Hid (∀ d, d < m → ∀ w', Below W.heap.size W w' → Calls Tryz.prog 24 #[.slice pa m pc, .int .i64 d] w' fun e w'' => e = .returned (.string (path.getD (path.length - 1 - d) ByteArray.empty)) ∧ w'' = w') := fun d h1 w' bb => xat _ path d w' (GD.out w' bb).2.2 (by rw [HM.out]; exact h1) zp
      have XL : Hid (∀ i' d' n', i' < n' → n' ≤ 4611686018427387904 → path.length = d' + cI i' n' → ∀ w', Below W.heap.size W w' → Calls Tryz.prog 25 #[.int .i64 wd, .int .i64 n', .int .i64 i', .string y1, .slice pa m pc, .int .i64 d'] w' fun e w'' => e = .returned (.string (dl wd (LF wd leaf) i' n' (path.take (path.length - d')))) ∧ Below w'.heap.size w' w'') := fun i' d' n' h1 h2 h3 w' bb => by
        rw [← HY1.out]
        exact xlead wd (LF wd leaf) (cutS_size _ _) _ path i4 zp n' i' d' w' h1 h2 h3 (GD.out w' bb).2.2 (GD.out w' bb).1
      have SZ : Hid (∀ i' n' d', (dl wd (LF wd leaf) i' n' (path.take d')).size ≤ 32 ∧ ∀ d, d < m → (path.getD (path.length - 1 - d) ByteArray.empty).size ≤ 32) := fun i' n' d' => ⟨by rw [qf.dl_size (show (LF wd leaf).size = wid wd from cutS_size _ _)]; exact qb.wid_le wd, fun d hd => by
        have hlt : path.length - 1 - d < path.length := by have := HM.out; omega
        rw [List.getD_eq_getElem?_getD, List.getElem?_eq_getElem hlt]
        show (path[path.length - 1 - d]).size ≤ 32
        rw [i4 _ (List.getElem_mem hlt)]
        exact qb.wid_le wd⟩
      have SR : Hid (∀ a c, (RR wd xs a c).size ≤ 32) := fun a c => RT_le wd _
      have XN : Hid (∀ l r : ByteArray, l.size ≤ 32 → r.size ≤ 32 → ∀ w', Calls _ _ _ _ _) := fun l r h1 h2 w' => xnode l r h1 h2 w'
      have XF : Hid (∀ p q w', Calls _ _ _ _ _) := fun p q w' => xfound p q w'
      have SL : Hid (∀ a c d, a ≤ I → 2 ≤ c - a → I < a + half (c - a) → c ≤ n → path.length = d + cI (I - a) (c - a) → _) := fun a c d h1 h2 h3 h4 h5 => step_low (wd := wd) (I := I) (a := a) (b := c) (d := d) (leaf := leaf) (path := path) (xs := xs) h1 h2 h3 (by rw [HN.out]; exact h4) h5
      have SH : Hid (∀ a c d, a ≤ I → I < c → 2 ≤ c - a → ¬ I < a + half (c - a) → c ≤ n → path.length = d + cI (I - a) (c - a) → _) := fun a c d h1 hI h2 h3 h4 h5 => step_high (wd := wd) (I := I) (a := a) (b := c) (d := d) (leaf := leaf) (path := path) (xs := xs) hI h1 h2 h3 (by rw [HN.out]; exact h4) h5
      have SE : Hid (∀ a c, a ≤ I → I < c → ¬ 2 ≤ c - a → fst1 (clT wd I leaf path a c) (owT wd I xs a c) = some (tx0 leaf, tx0 y)) := fun a c h1 h2 h3 => by
        have := yg.step_end (wd := wd) (path := path) h1 h2 h3 (show xs.getD I ByteArray.empty ≠ leaf by rw [HY.out]; exact hyl)
        rw [HY.out] at this
        exact this
      have P0 : Hid (path.length = 0 + cI (I - 0) (n - 0)) := by show _ = _; rw [Nat.zero_add, Nat.sub_zero, Nat.sub_zero, i3]
      have HI : Hid (I < n ∧ n ≤ 4611686018427387904 ∧ path.length = m) := ⟨i1, i2, HM.out⟩
      have EQ : Hid (fst1 (gw (HH wd) (lkI I) (fun _ => leaf) nx path 0 n).1 (ownT wd (lkI I) xs) = fst1 (clT wd I leaf path 0 n) (owT wd I xs 0 n)) := by show _ = _; unfold clT owT ownT; rw [HN.out]
      rw [EQ.out]
      have zl : leaf.size ≤ 140737488352000 := hz
      have zy : y.size ≤ 140737488352000 := by
        rw [← HY.out, List.getD_eq_getElem?_getD, List.getElem?_eq_getElem (by rw [HN.out]; exact i1 : I < xs.length)]
        exact hx.each _ (List.getElem_mem _)
      obtain ⟨O, HO⟩ : ∃ O, Hid (fst1 (clT wd I leaf path 0 n) (owT wd I xs 0 n) = O) := ⟨_, rfl⟩
      rw [HO.out]
      clear hlh hq hyl i1 i2 i3 i4 i5 hNN hT hx hz zp EQ
      go_enter Tryz.func9, Tryz.ntmps9
      go_wp2_with fail
      try rw [hw]
      refine (LC.out _ (GD.out _ (Below.refl _ _)).1).mono ?_
      rintro e w1 ⟨rfl, hb1⟩
      have B1 : Hid (Below W.heap.size W w1) := hb1
      clear hb1
      go_wp2_with fail
      refine (RC.out _ (GD.out _ B1.out).1 (GD.out _ B1.out).2.1).mono ?_
      rintro e w2 ⟨rfl, hb2⟩
      have B2 : Hid (Below W.heap.size W w2) := over B1.out hb2
      clear hb2
      go_wp2_with fail
      refine (IC.out _ (GD.out _ B2.out).1 (GD.out _ B2.out).2.2).mono ?_
      rintro e w3 ⟨rfl, hb3⟩
      have B3 : Hid (Below W.heap.size W w3) := over B2.out hb3
      clear hb3
      have c9 : w3.cell? ⟨b, off + I, none⟩ = some (.string y) := C0.out _ B3.out
      go_wp2
      go_loopw [1, 2, 15] (fun s i dp wr => ∃ a c d cap' : Nat, a ≤ I ∧ I < c ∧ c ≤ n ∧ c - a ≤ cap' ∧ s = .slice (some ⟨b, off + a, none⟩) (c - a) cap' ∧ i = .int .i64 ((I - a : Nat) : Int) ∧ dp = .int .i64 d ∧ Hid (path.length = d + cI (I - a) (c - a)) ∧ Hid (O = fst1 (clT wd I leaf path a c) (owT wd I xs a c)) ∧ Hid (Below W.heap.size W wr)) (fun _ _ dp _ => (m - intOf dp).toNat)
      case atStart => exact ⟨0, n, 0, lc, Nat.zero_le _, HI.out.1, Nat.le_refl _, hlc, rfl, rfl, rfl, P0.out, HO.out.symm, B3.out⟩
      case round =>
        obtain ⟨a, c, d, cap', h1, h2, h3, h4, rfl, rfl, rfl, HP, HF, HB⟩ := hrel
        by_cases hl : 2 ≤ c - a
        · by_cases hi : I < a + half (c - a)
          · have hh := half_lt hl
            obtain ⟨p1, p2⟩ := SL.out a c d h1 hl hi h3 HP.out
            have R1 : Hid (∀ w', Below W.heap.size W w' → Calls _ _ _ _ _) := RP.out a (a + half (c - a)) (by omega) (by omega) cap' (by omega)
            have R2 : Hid (∀ w', Below W.heap.size W w' → Calls _ _ _ _ _) := RP.out (a + half (c - a)) c (by omega) h3 (cap' - half (c - a)) (by omega)
            have LD : Hid (∀ w', Below W.heap.size W w' → Calls _ _ _ _ _) := XL.out (I - a) (d + 1) (half (c - a)) (by omega) (by have := HI.out; omega) p1
            have SD : Hid (∀ w', Below W.heap.size W w' → Calls _ _ _ _ _) := XA.out d (by have := HI.out; omega)
            have HV : Hid (∀ w', Calls _ _ _ _ _) := XH.out (c - a) hl (by have := HI.out; omega)
            have s1 := (SZ.out (I - a) (half (c - a)) (path.length - (d + 1))).1
            have s2 := (SZ.out 0 0 0).2 d (by have := HI.out; omega)
            obtain ⟨hd, HHD⟩ : ∃ q, Hid (dl wd (LF wd leaf) (I - a) (half (c - a)) (path.take (path.length - (d + 1))) = q) := ⟨_, rfl⟩
            obtain ⟨sd, HSD⟩ : ∃ q, Hid (path.getD (path.length - 1 - d) ByteArray.empty = q) := ⟨_, rfl⟩
            have s3 := SR.out a (a + half (c - a))
            have s4 := SR.out (a + half (c - a)) c
            obtain ⟨l1, HL1⟩ : ∃ q, Hid (RR wd xs a (a + half (c - a)) = q) := ⟨_, rfl⟩
            obtain ⟨r1, HR1⟩ : ∃ q, Hid (RR wd xs (a + half (c - a)) c = q) := ⟨_, rfl⟩
            rw [HHD.out] at LD p2 s1
            rw [HSD.out] at SD p2 s2
            rw [HL1.out] at R1 p2 s3
            rw [HR1.out] at R2 p2 s4
            have N1 : Hid (∀ w', Calls _ _ _ _ _) := XN.out hd sd s1 s2
            have N2 : Hid (∀ w', Calls _ _ _ _ _) := XN.out l1 r1 s3 s4
            obtain ⟨ta, HTA⟩ : ∃ q, Hid (tx1 hd sd = q) := ⟨_, rfl⟩
            obtain ⟨tb, HTB⟩ : ∃ q, Hid (tx1 l1 r1 = q) := ⟨_, rfl⟩
            rw [HTA.out] at N1 p2
            rw [HTB.out] at N2 p2
            have P1 : Hid (path.length = d + 1 + cI (I - a) (half (c - a))) := p1
            rw [Nat.add_sub_cancel_left] at R1
            have e1 : off + (a + half (c - a)) = off + a + half (c - a) := by omega
            have e2 : c - (a + half (c - a)) = c - a - half (c - a) := by omega
            rw [e1, e2] at R2
            have e3 : ((d + 1 : Nat) : Int) = (d : Int) + 1 := by omega
            rw [e3] at LD
            by_cases ht : ta = tb
            · have qt : (ta.toList == tb.toList) = true := by rw [beqL]; exact decide_eq_true ht
              have HF2 : Hid (O = fst1 (clT wd I leaf path a (a + half (c - a))) (owT wd I xs a (a + half (c - a)))) := by show _ = _; rw [HF.out, p2, if_pos ht]
              have P2 : Hid (path.length = (d + 1) + cI (I - a) (a + half (c - a) - a)) := by show _ = _; rw [Nat.add_sub_cancel_left]; exact P1.out
              have HW1 : Hid (I < a + half (c - a) ∧ a + half (c - a) ≤ n ∧ a ≤ I) := ⟨hi, by omega, h1⟩
              clear p2 ht
              have gk : half (c - a) < c - a := by have := half_lt hl; omega
              have g0 : half (c - a) ≤ cap' := by omega
              have gi : I - a < half (c - a) := by omega
              obtain ⟨k, HK⟩ : ∃ k, Hid (half (c - a) = k) := ⟨_, rfl⟩
              rw [HK.out] at R1 R2 LD HV gk g0 gi
              obtain ⟨J, HJ⟩ : ∃ k, Hid (I - a = k) := ⟨_, rfl⟩
              obtain ⟨L, HL⟩ : ∃ k, Hid (c - a = k) := ⟨_, rfl⟩
              obtain ⟨q, HQ⟩ : ∃ k, Hid (off + a = k) := ⟨_, rfl⟩
              rw [HJ.out] at LD gi ⊢
              rw [HL.out] at R2 HV hl gk h4 ⊢
              rw [HQ.out] at R1 R2 ⊢
              have v1 : (1 : Int) < L := by omega
              have v2 : (k : Int) ≤ L := by omega
              have v3 : (k : Int) ≤ cap' := by omega
              have v4 : (J : Int) < k := by omega
              have hHI : d < 140737488355329 := by have h1 := HI.out; have h2 := HP.out; have h3 := ZP.out; omega
              clear p1 hi e1 e2 e3 s1 s2 s3 s4 gi
              go_wp2_with fail
              refine (HV.out _).mono ?_
              rintro e v1w ⟨rfl, hv1⟩
              subst hv1
              go_wp2_with fail
              refine (R1.out _ HB.out).mono ?_
              rintro e q1 ⟨rfl, hq1⟩
              have Q1 : Hid (Below W.heap.size W q1) := over HB.out hq1
              clear hq1
              go_wp2_with fail
              refine (R2.out _ Q1.out).mono ?_
              rintro e q2 ⟨rfl, hq2⟩
              have Q2 : Hid (Below W.heap.size W q2) := over Q1.out hq2
              clear hq2
              go_wp2_with fail
              refine (SD.out _ Q2.out).mono ?_
              rintro e q3 ⟨rfl, hq3⟩
              subst hq3
              go_wp2_with fail
              refine (LD.out _ Q2.out).mono ?_
              rintro e q4 ⟨rfl, hq4⟩
              have Q4 : Hid (Below W.heap.size W q4) := over Q2.out hq4
              clear hq4
              go_wp2_with fail
              refine (N1.out _).mono ?_
              rintro e q5 ⟨rfl, hq5⟩
              subst hq5
              go_wp2_with fail
              refine (N2.out _).mono ?_
              rintro e q6 ⟨rfl, hq6⟩
              subst hq6
              go_wp2
              go_roundw
              case rel => exact ⟨a, a + half (c - a), d + 1, cap', HW1.out.2.2, HW1.out.1, HW1.out.2.1, by rw [HK.out, Nat.add_sub_cancel_left]; omega, by rw [HK.out, Nat.add_sub_cancel_left, HQ.out], by rw [HJ.out], by go_num, P2.out, HF2.out, Q4.out⟩
              case measure => have h1 := HI.out; have h2 := P2.out; simp [intOf]; omega
            · have qt : (ta.toList == tb.toList) = false := by rw [beqL]; exact decide_eq_false ht
              have HOV : Hid (O = some (ta, tb)) := by show _ = _; rw [HF.out, p2, if_neg ht]
              clear p2 ht
              have gk : half (c - a) < c - a := by have := half_lt hl; omega
              have g0 : half (c - a) ≤ cap' := by omega
              have gi : I - a < half (c - a) := by omega
              obtain ⟨k, HK⟩ : ∃ k, Hid (half (c - a) = k) := ⟨_, rfl⟩
              rw [HK.out] at R1 R2 LD HV gk g0 gi
              obtain ⟨J, HJ⟩ : ∃ k, Hid (I - a = k) := ⟨_, rfl⟩
              obtain ⟨L, HL⟩ : ∃ k, Hid (c - a = k) := ⟨_, rfl⟩
              obtain ⟨q, HQ⟩ : ∃ k, Hid (off + a = k) := ⟨_, rfl⟩
              rw [HJ.out] at LD gi ⊢
              rw [HL.out] at R2 HV hl gk h4 ⊢
              rw [HQ.out] at R1 R2 ⊢
              have v1 : (1 : Int) < L := by omega
              have v2 : (k : Int) ≤ L := by omega
              have v3 : (k : Int) ≤ cap' := by omega
              have v4 : (J : Int) < k := by omega
              have hHI : d < 140737488355329 := by have h1 := HI.out; have h2 := HP.out; have h3 := ZP.out; omega
              clear p1 hi e1 e2 e3 s1 s2 s3 s4 gi
              go_wp2_with fail
              refine (HV.out _).mono ?_
              rintro e v1w ⟨rfl, hv1⟩
              subst hv1
              go_wp2_with fail
              refine (R1.out _ HB.out).mono ?_
              rintro e q1 ⟨rfl, hq1⟩
              have Q1 : Hid (Below W.heap.size W q1) := over HB.out hq1
              clear hq1
              go_wp2_with fail
              refine (R2.out _ Q1.out).mono ?_
              rintro e q2 ⟨rfl, hq2⟩
              have Q2 : Hid (Below W.heap.size W q2) := over Q1.out hq2
              clear hq2
              go_wp2_with fail
              refine (SD.out _ Q2.out).mono ?_
              rintro e q3 ⟨rfl, hq3⟩
              subst hq3
              go_wp2_with fail
              refine (LD.out _ Q2.out).mono ?_
              rintro e q4 ⟨rfl, hq4⟩
              have Q4 : Hid (Below W.heap.size W q4) := over Q2.out hq4
              clear hq4
              go_wp2_with fail
              refine (N1.out _).mono ?_
              rintro e q5 ⟨rfl, hq5⟩
              subst hq5
              go_wp2_with fail
              refine (N2.out _).mono ?_
              rintro e q6 ⟨rfl, hq6⟩
              subst hq6
              go_wp2_with fail
              refine (XF.out ta tb _).mono ?_
              rintro e q7 ⟨rfl, hbx⟩
              have Bq7 : Hid (Below W.heap.size W q7) := over Q4.out hbx
              clear hbx
              rw [show clV (some (ta, tb)) = .agg #[.string ta, .string tb, .bool true] from rfl]
              have hr2 := F4.out q7 Bq7.out
              have e0 : q7.cell? ⟨w.heap.size, 0, none⟩ = _ := cell_of_row _ _ 0 _ _ _ hr2
              have e1 : q7.cell? ⟨w.heap.size, 1, none⟩ = _ := cell_of_row _ _ 1 _ _ _ hr2
              have e2 : q7.cell? ⟨w.heap.size, 2, none⟩ = _ := cell_of_row _ _ 2 _ _ _ hr2
              have f0 := frozen_of_row _ _ 0 _ _ hr2
              have f1 := frozen_of_row _ _ 1 _ _ hr2
              have f2 := frozen_of_row _ _ 2 _ _ hr2
              have FIN : Hid (∀ W', W' = _ → _) := put3 q7 w.heap.size _ _ _ (.string ta) (.string tb) (.bool true) _ hr2
              clear hr2
              go_wp2
              obtain ⟨G, hb⟩ := FIN.out _ rfl
              refine bodyPost_ret (by simp [results, Tryz.results9, go_sem, G.1, G.2.1, G.2.2]; try rfl) rfl ?_
              exact ⟨by rw [HOV.out]; rfl, (over BW.out Bq7.out).trans (hb _ (Nat.le_refl _))⟩
          · have hh := half_lt hl
            obtain ⟨p1, p2⟩ := SH.out a c d h1 h2 hl hi h3 HP.out
            have R1 : Hid (∀ w', Below W.heap.size W w' → Calls _ _ _ _ _) := RP.out a (a + half (c - a)) (by omega) (by omega) cap' (by omega)
            have R2 : Hid (∀ w', Below W.heap.size W w' → Calls _ _ _ _ _) := RP.out (a + half (c - a)) c (by omega) h3 (cap' - half (c - a)) (by omega)
            have LD : Hid (∀ w', Below W.heap.size W w' → Calls _ _ _ _ _) := XL.out (I - a - half (c - a)) (d + 1) (c - a - half (c - a)) (by omega) (by have := HI.out; omega) p1
            have SD : Hid (∀ w', Below W.heap.size W w' → Calls _ _ _ _ _) := XA.out d (by have := HI.out; omega)
            have HV : Hid (∀ w', Calls _ _ _ _ _) := XH.out (c - a) hl (by have := HI.out; omega)
            have s1 := (SZ.out (I - a - half (c - a)) (c - a - half (c - a)) (path.length - (d + 1))).1
            have s2 := (SZ.out 0 0 0).2 d (by have := HI.out; omega)
            obtain ⟨hd, HHD⟩ : ∃ q, Hid (dl wd (LF wd leaf) (I - a - half (c - a)) (c - a - half (c - a)) (path.take (path.length - (d + 1))) = q) := ⟨_, rfl⟩
            obtain ⟨sd, HSD⟩ : ∃ q, Hid (path.getD (path.length - 1 - d) ByteArray.empty = q) := ⟨_, rfl⟩
            have s3 := SR.out a (a + half (c - a))
            have s4 := SR.out (a + half (c - a)) c
            obtain ⟨l1, HL1⟩ : ∃ q, Hid (RR wd xs a (a + half (c - a)) = q) := ⟨_, rfl⟩
            obtain ⟨r1, HR1⟩ : ∃ q, Hid (RR wd xs (a + half (c - a)) c = q) := ⟨_, rfl⟩
            rw [HHD.out] at LD p2 s1
            rw [HSD.out] at SD p2 s2
            rw [HL1.out] at R1 p2 s3
            rw [HR1.out] at R2 p2 s4
            have N1 : Hid (∀ w', Calls _ _ _ _ _) := XN.out sd hd s2 s1
            have N2 : Hid (∀ w', Calls _ _ _ _ _) := XN.out l1 r1 s3 s4
            obtain ⟨ta, HTA⟩ : ∃ q, Hid (tx1 sd hd = q) := ⟨_, rfl⟩
            obtain ⟨tb, HTB⟩ : ∃ q, Hid (tx1 l1 r1 = q) := ⟨_, rfl⟩
            rw [HTA.out] at N1 p2
            rw [HTB.out] at N2 p2
            have P1 : Hid (path.length = d + 1 + cI (I - a - half (c - a)) (c - a - half (c - a))) := p1
            rw [Nat.add_sub_cancel_left] at R1
            have e1 : off + (a + half (c - a)) = off + a + half (c - a) := by omega
            have e2 : c - (a + half (c - a)) = c - a - half (c - a) := by omega
            rw [e1, e2] at R2
            have e3 : ((d + 1 : Nat) : Int) = (d : Int) + 1 := by omega
            rw [e3] at LD
            have e4 : ((I - a - half (c - a) : Nat) : Int) = ((I - a : Nat) : Int) - (half (c - a) : Nat) := by omega
            have e5 : ((c - a - half (c - a) : Nat) : Int) = ((c - a : Nat) : Int) - (half (c - a) : Nat) := by omega
            rw [e4, e5] at LD
            by_cases ht : ta = tb
            · have qt : (ta.toList == tb.toList) = true := by rw [beqL]; exact decide_eq_true ht
              have HF2 : Hid (O = fst1 (clT wd I leaf path (a + half (c - a)) c) (owT wd I xs (a + half (c - a)) c)) := by show _ = _; rw [HF.out, p2, if_pos ht]
              have P2 : Hid (path.length = (d + 1) + cI (I - (a + half (c - a))) (c - (a + half (c - a)))) := by show _ = _; rw [← Nat.sub_sub, ← Nat.sub_sub]; exact P1.out
              have HW1 : Hid (a + half (c - a) ≤ I ∧ I < c ∧ c ≤ n) := ⟨by omega, h2, h3⟩
              clear p2 ht
              have gk : half (c - a) < c - a := by have := half_lt hl; omega
              have g0 : half (c - a) ≤ cap' := by omega
              have gi : ¬ I - a < half (c - a) := by omega
              obtain ⟨k, HK⟩ : ∃ k, Hid (half (c - a) = k) := ⟨_, rfl⟩
              rw [HK.out] at R1 R2 LD HV gk g0 gi
              obtain ⟨J, HJ⟩ : ∃ k, Hid (I - a = k) := ⟨_, rfl⟩
              obtain ⟨L, HL⟩ : ∃ k, Hid (c - a = k) := ⟨_, rfl⟩
              obtain ⟨q, HQ⟩ : ∃ k, Hid (off + a = k) := ⟨_, rfl⟩
              rw [HJ.out] at LD gi ⊢
              rw [HL.out] at R2 LD HV hl gk h4 ⊢
              rw [HQ.out] at R1 R2 ⊢
              have v1 : (1 : Int) < L := by omega
              have v2 : (k : Int) ≤ L := by omega
              have v3 : (k : Int) ≤ cap' := by omega
              have v4 : ¬ (J : Int) < k := by omega
              have hLJ : L ≤ 4611686018427387904 ∧ J ≤ 4611686018427387904 := by have h1 := HI.out; have h2 := HL.out; have h3 := HJ.out; omega
              have wL : IntKind.i64.wrap ((L : Int) - k) = (L : Int) - k := by rw [IntKind.wrap_i64]; omega
              have wJ : IntKind.i64.wrap ((J : Int) - k) = (J : Int) - k := by rw [IntKind.wrap_i64]; omega
              have hHI : d < 140737488355329 := by have h1 := HI.out; have h2 := HP.out; have h3 := ZP.out; omega
              clear p1 hi e1 e2 e3 e4 e5 s1 s2 s3 s4 gi
              go_wp2_with fail
              refine (HV.out _).mono ?_
              rintro e v1w ⟨rfl, hv1⟩
              subst hv1
              go_wp2_with fail
              refine (R1.out _ HB.out).mono ?_
              rintro e q1 ⟨rfl, hq1⟩
              have Q1 : Hid (Below W.heap.size W q1) := over HB.out hq1
              clear hq1
              go_wp2_with fail
              refine (R2.out _ Q1.out).mono ?_
              rintro e q2 ⟨rfl, hq2⟩
              have Q2 : Hid (Below W.heap.size W q2) := over Q1.out hq2
              clear hq2
              go_wp2_with fail
              refine (SD.out _ Q2.out).mono ?_
              rintro e q3 ⟨rfl, hq3⟩
              subst hq3
              go_wp2_with fail
              refine (LD.out _ Q2.out).mono ?_
              rintro e q4 ⟨rfl, hq4⟩
              have Q4 : Hid (Below W.heap.size W q4) := over Q2.out hq4
              clear hq4
              go_wp2_with fail
              refine (N1.out _).mono ?_
              rintro e q5 ⟨rfl, hq5⟩
              subst hq5
              go_wp2_with fail
              refine (N2.out _).mono ?_
              rintro e q6 ⟨rfl, hq6⟩
              subst hq6
              go_wp2
              go_roundw
              case rel => exact ⟨a + half (c - a), c, d + 1, cap' - k, HW1.out.1, HW1.out.2.1, HW1.out.2.2, by have h1 := HL.out; have h2 := HK.out; omega, by rw [← Nat.sub_sub, ← Nat.add_assoc, HK.out, HL.out, HQ.out], by rw [← Nat.sub_sub, HK.out, HJ.out]; go_num, by go_num, P2.out, HF2.out, Q4.out⟩
              case measure => have h1 := HI.out; have h2 := P2.out; simp [intOf]; omega
            · have qt : (ta.toList == tb.toList) = false := by rw [beqL]; exact decide_eq_false ht
              have HOV : Hid (O = some (ta, tb)) := by show _ = _; rw [HF.out, p2, if_neg ht]
              clear p2 ht
              have gk : half (c - a) < c - a := by have := half_lt hl; omega
              have g0 : half (c - a) ≤ cap' := by omega
              have gi : ¬ I - a < half (c - a) := by omega
              obtain ⟨k, HK⟩ : ∃ k, Hid (half (c - a) = k) := ⟨_, rfl⟩
              rw [HK.out] at R1 R2 LD HV gk g0 gi
              obtain ⟨J, HJ⟩ : ∃ k, Hid (I - a = k) := ⟨_, rfl⟩
              obtain ⟨L, HL⟩ : ∃ k, Hid (c - a = k) := ⟨_, rfl⟩
              obtain ⟨q, HQ⟩ : ∃ k, Hid (off + a = k) := ⟨_, rfl⟩
              rw [HJ.out] at LD gi ⊢
              rw [HL.out] at R2 LD HV hl gk h4 ⊢
              rw [HQ.out] at R1 R2 ⊢
              have v1 : (1 : Int) < L := by omega
              have v2 : (k : Int) ≤ L := by omega
              have v3 : (k : Int) ≤ cap' := by omega
              have v4 : ¬ (J : Int) < k := by omega
              have hLJ : L ≤ 4611686018427387904 ∧ J ≤ 4611686018427387904 := by have h1 := HI.out; have h2 := HL.out; have h3 := HJ.out; omega
              have wL : IntKind.i64.wrap ((L : Int) - k) = (L : Int) - k := by rw [IntKind.wrap_i64]; omega
              have wJ : IntKind.i64.wrap ((J : Int) - k) = (J : Int) - k := by rw [IntKind.wrap_i64]; omega
              have hHI : d < 140737488355329 := by have h1 := HI.out; have h2 := HP.out; have h3 := ZP.out; omega
              clear p1 hi e1 e2 e3 e4 e5 s1 s2 s3 s4 gi
              go_wp2_with fail
              refine (HV.out _).mono ?_
              rintro e v1w ⟨rfl, hv1⟩
              subst hv1
              go_wp2_with fail
              refine (R1.out _ HB.out).mono ?_
              rintro e q1 ⟨rfl, hq1⟩
              have Q1 : Hid (Below W.heap.size W q1) := over HB.out hq1
              clear hq1
              go_wp2_with fail
              refine (R2.out _ Q1.out).mono ?_
              rintro e q2 ⟨rfl, hq2⟩
              have Q2 : Hid (Below W.heap.size W q2) := over Q1.out hq2
              clear hq2
              go_wp2_with fail
              refine (SD.out _ Q2.out).mono ?_
              rintro e q3 ⟨rfl, hq3⟩
              subst hq3
              go_wp2_with fail
              refine (LD.out _ Q2.out).mono ?_
              rintro e q4 ⟨rfl, hq4⟩
              have Q4 : Hid (Below W.heap.size W q4) := over Q2.out hq4
              clear hq4
              go_wp2_with fail
              refine (N1.out _).mono ?_
              rintro e q5 ⟨rfl, hq5⟩
              subst hq5
              go_wp2_with fail
              refine (N2.out _).mono ?_
              rintro e q6 ⟨rfl, hq6⟩
              subst hq6
              go_wp2_with fail
              refine (XF.out ta tb _).mono ?_
              rintro e q7 ⟨rfl, hbx⟩
              have Bq7 : Hid (Below W.heap.size W q7) := over Q4.out hbx
              clear hbx
              rw [show clV (some (ta, tb)) = .agg #[.string ta, .string tb, .bool true] from rfl]
              have hr2 := F4.out q7 Bq7.out
              have e0 : q7.cell? ⟨w.heap.size, 0, none⟩ = _ := cell_of_row _ _ 0 _ _ _ hr2
              have e1 : q7.cell? ⟨w.heap.size, 1, none⟩ = _ := cell_of_row _ _ 1 _ _ _ hr2
              have e2 : q7.cell? ⟨w.heap.size, 2, none⟩ = _ := cell_of_row _ _ 2 _ _ _ hr2
              have f0 := frozen_of_row _ _ 0 _ _ hr2
              have f1 := frozen_of_row _ _ 1 _ _ hr2
              have f2 := frozen_of_row _ _ 2 _ _ hr2
              have FIN : Hid (∀ W', W' = _ → _) := put3 q7 w.heap.size _ _ _ (.string ta) (.string tb) (.bool true) _ hr2
              clear hr2
              go_wp2
              obtain ⟨G, hb⟩ := FIN.out _ rfl
              refine bodyPost_ret (by simp [results, Tryz.results9, go_sem, G.1, G.2.1, G.2.2]; try rfl) rfl ?_
              exact ⟨by rw [HOV.out]; rfl, (over BW.out Bq7.out).trans (hb _ (Nat.le_refl _))⟩
        · have HOV : Hid (O = some (tx0 leaf, tx0 y)) := by show _ = _; rw [HF.out]; exact SE.out a c h1 h2 hl
          have ea : a = I := by omega
          have c9 := C0.out _ HB.out
          have eL : c - a = 1 := by omega
          rw [← ea] at c9
          have v1 : ¬ (1 : Int) < ((c - a : Nat) : Int) := by omega
          obtain ⟨q, HQ⟩ : ∃ k, Hid (off + a = k) := ⟨_, rfl⟩
          rw [HQ.out] at c9 ⊢
          rw [eL] at v1 ⊢
          obtain ⟨ta, HTA⟩ : ∃ t, Hid (tx0 leaf = t) := ⟨_, rfl⟩
          obtain ⟨tb, HTB⟩ : ∃ t, Hid (tx0 y = t) := ⟨_, rfl⟩
          have XFF : Hid (∀ w', Calls _ _ _ _ _) := XF.out (tx0 leaf) (tx0 y)
          unfold tx0 at XFF
          clear ea eL hl
          go_wp2_with fail
          refine (XFF.out _).mono ?_
          rintro e q7 ⟨rfl, hbx⟩
          have Bq7 : Hid (Below W.heap.size W q7) := over HB.out hbx
          clear hbx
          rw [show clV (some ((⟨#[0]⟩ : ByteArray) ++ leaf, (⟨#[0]⟩ : ByteArray) ++ y)) = .agg #[.string ((⟨#[0]⟩ : ByteArray) ++ leaf), .string ((⟨#[0]⟩ : ByteArray) ++ y), .bool true] from rfl]
          have hr2 := F4.out q7 Bq7.out
          have e0 : q7.cell? ⟨w.heap.size, 0, none⟩ = _ := cell_of_row _ _ 0 _ _ _ hr2
          have e1 : q7.cell? ⟨w.heap.size, 1, none⟩ = _ := cell_of_row _ _ 1 _ _ _ hr2
          have e2 : q7.cell? ⟨w.heap.size, 2, none⟩ = _ := cell_of_row _ _ 2 _ _ _ hr2
          have f0 := frozen_of_row _ _ 0 _ _ hr2
          have f1 := frozen_of_row _ _ 1 _ _ hr2
          have f2 := frozen_of_row _ _ 2 _ _ hr2
          have FIN : Hid (∀ W', W' = _ → _) := put3 q7 w.heap.size _ _ _ (.string ((⟨#[0]⟩ : ByteArray) ++ leaf)) (.string ((⟨#[0]⟩ : ByteArray) ++ y)) (.bool true) _ hr2
          clear hr2
          go_wp2
          obtain ⟨G, hb⟩ := FIN.out _ rfl
          refine bodyPost_ret (by simp [results, Tryz.results9, go_sem, G.1, G.2.1, G.2.2]; try rfl) rfl ?_
          exact ⟨by rw [HOV.out]; rfl, (over BW.out Bq7.out).trans (hb _ (Nat.le_refl _))⟩
  · rw [if_neg h]
    have q : (E == 0) = false := by rw [beq_eq_false_iff_ne]; exact h
    have q2 : (E != 0) = true := by rw [bne, q]; rfl
    clear h hlh hT hx hz zp
    go_enter Tryz.func9, Tryz.ntmps9
    go_wp2_with fail
    try rw [hw]
    refine (LC.out _ (GD.out _ (Below.refl _ _)).1).mono ?_
    rintro e w1 ⟨rfl, hb1⟩
    have B1 : Hid (Below W.heap.size W w1) := hb1
    clear hb1
    go_wp2_with fail
    refine (RC.out _ (GD.out _ B1.out).1 (GD.out _ B1.out).2.1).mono ?_
    rintro e w2 ⟨rfl, hb2⟩
    have B2 : Hid (Below W.heap.size W w2) := over B1.out hb2
    clear hb2
    go_wp2_with fail
    refine (IC.out _ (GD.out _ B2.out).1 (GD.out _ B2.out).2.2).mono ?_
    rintro e w3 ⟨rfl, hb3⟩
    have B3 : Hid (Below W.heap.size W w3) := over B2.out hb3
    clear hb3
    have hr2 := F4.out w3 B3.out
    have e0 : w3.cell? ⟨w.heap.size, 0, none⟩ = _ := cell_of_row _ _ 0 _ _ _ hr2
    have e1 : w3.cell? ⟨w.heap.size, 1, none⟩ = _ := cell_of_row _ _ 1 _ _ _ hr2
    have e2 : w3.cell? ⟨w.heap.size, 2, none⟩ = _ := cell_of_row _ _ 2 _ _ _ hr2
    have f0 := frozen_of_row _ _ 0 _ _ hr2
    have f1 := frozen_of_row _ _ 1 _ _ hr2
    have f2 := frozen_of_row _ _ 2 _ _ hr2
    have FIN : Hid (∀ W', W' = _ → _) := put3 w3 w.heap.size _ _ _ (.string ⟨#[]⟩) (.string ⟨#[]⟩) (.bool false) _ hr2
    clear hr2
    go_wp2
    obtain ⟨G, hb⟩ := FIN.out _ rfl
    refine bodyPost_ret (by simp [results, Tryz.results9, go_sem, G.1, G.2.1, G.2.2]; try rfl) rfl ?_
    exact ⟨rfl, (over BW.out B3.out).trans (hb _ (Nat.le_refl _))⟩
end Go.Proofs.YtagkafmjnboobaaGreatDoor.yf
