import Derived.Test.YthpfgdhmpeadeaaH0
namespace Go.Proofs.Ythpfgdhmpeadeaa.fn
open Go.RowKit Go.PlainAid Go.Shelf
open Go.Proofs.Ythpfgdhmpeadeaa.fh Go.Proofs.Ythpfgdhmpeadeaa.ca Go.Proofs.Ythpfgdhmpeadeaa.cb Go.Proofs.Ythpfgdhmpeadeaa.cp Go.Proofs.Ythpfgdhmpeadeaa.ga Go.Proofs.Ythpfgdhmpeadeaa.kp Go.Proofs.Ythpfgdhmpeadeaa.na Go.Proofs.Ythpfgdhmpeadeaa.nb Go.Proofs.Ythpfgdhmpeadeaa.nc Go.Proofs.Ythpfgdhmpeadeaa.mi Go.Proofs.Ythpfgdhmpeadeaa.co Go.Proofs.Ythpfgdhmpeadeaa.cn Go.Proofs.Ythpfgdhmpeadeaa.df Go.Proofs.Ythpfgdhmpeadeaa.ea Go.Proofs.Ythpfgdhmpeadeaa.eb Go.Proofs.Ythpfgdhmpeadeaa.ec Go.Proofs.Ythpfgdhmpeadeaa.ed Go.Proofs.Ythpfgdhmpeadeaa.ee Go.Proofs.Ythpfgdhmpeadeaa.ef Go.Proofs.Ythpfgdhmpeadeaa.eg Go.Proofs.Ythpfgdhmpeadeaa.eh Go.Proofs.Ythpfgdhmpeadeaa.eo Go.Proofs.Ythpfgdhmpeadeaa.ep Go.Proofs.Ythpfgdhmpeadeaa.eq Go.Proofs.Ythpfgdhmpeadeaa.er Go.Proofs.Ythpfgdhmpeadeaa.es Go.Proofs.Ythpfgdhmpeadeaa.ka Go.Proofs.Ythpfgdhmpeadeaa.bn Go.Proofs.Ythpfgdhmpeadeaa.fa Go.Proofs.Ythpfgdhmpeadeaa.fb Go.Proofs.Ythpfgdhmpeadeaa.fc Go.Proofs.Ythpfgdhmpeadeaa.fg
set_option linter.unusedVariables false

set_option maxRecDepth 100000 in
set_option maxHeartbeats 12800000 in
theorem rUnD2 (b : ByteArray) (w : World) (hb : b.size ≤ 140737488355328) (hk : 4 < (dK b).1) : Calls Try.prog 16 #[.string b] w (ReadP w (upR b) (pE b)) := by
  have CM : Hid (∀ g W, Rd 78 g b 0 0 [] W → Calls _ _ _ _ _) := fun g W h => pLetter 78 g b 0 0 80 [] W h hb (ok0 b) (by decide) (by decide)
  have CW : Hid (∀ g W, _ → Calls _ _ _ _ _) := fun g W h => pWidth 78 g b (markS b 80 0 0).1 (markS b 80 0 0).2 [] W h hb (mark_ok b 80 0 0 (ok0 b))
  have HPW : Hid (pW b = widthS b (markS b 80 0 0).1 (markS b 80 0 0).2) := rfl
  rw [← HPW.out] at CW
  have CK : Hid (∀ g W, Rd 78 g b (pW b).2.1 (pW b).2.2 [] W → Calls Try.prog 42 #[.pointer (some ⟨g, 0, none⟩), .int .i64 4611686018427387904, .int .i64 110] W fun x w' => x = .returned (.int .i64 (dK b).1) ∧ Rd 78 g b (dK b).2.1 (dK b).2.2 [] w' ∧ Kp (fun k => k = g) W w') := fun g W h => pNumber 78 g b (pW b).2.1 (pW b).2.2 MX 110 [] W h hb (pW_ok b) (by decide) (by decide)
  have NUM : Hid (∀ g (p : Nat) (e : Int) W, Ok b p e → Rd 78 g b p e [] W → Calls Try.prog 42 #[.pointer (some ⟨g, 0, none⟩), .int .i64 4611686018427387904, .int .i64 10] W fun x w' => x = .returned (.int .i64 (mostS b MX 10 p e).1) ∧ Rd 78 g b (mostS b MX 10 p e).2.1 (mostS b MX 10 p e).2.2 [] w' ∧ Kp (fun k => k = g) W w') := fun g p e W ho h => pNumber 78 g b p e MX 10 [] W h hb ho (by decide) (by decide)
  have hwd := pW_in b
  have hko := most_ok b MX 110 (pW b).2.1 (pW b).2.2 (pW_ok b) (by decide)
  have HDK : Hid (dK b = mostS b MX 110 (pW b).2.1 (pW b).2.2) := rfl
  rw [← HDK.out] at hko
  obtain ⟨wd, p1, e1, H1⟩ : ∃ x y z, Hid (pW b = (x, y, z)) := ⟨_, _, _, rfl⟩
  have HWD : Hid ((pW b).1 = wd) := by show _ = _; rw [H1.out]
  rw [H1.out] at CW CK hwd
  obtain ⟨p0, e0, HM⟩ : ∃ p0 e0, Hid (markS b 80 0 0 = (p0, e0)) := ⟨_, _, rfl⟩
  rw [HM.out] at CM CW
  obtain ⟨kd, p2, e2, H2⟩ : ∃ x y z, Hid (dK b = (x, y, z)) := ⟨_, _, _, rfl⟩
  have HKD0 : Hid ((dK b).1 = kd) := by show _ = _; rw [H2.out]
  rw [HKD0.out] at hk
  have HDE : Hid (dE (dK b) = if kd < 1 ∨ 4 < kd then refu e2 110 else e2) := by show _ = _; rw [H2.out]; rfl
  have HDS0 : Hid (dS b = dSh b kd p2 (if kd < 1 ∨ 4 < kd then refu e2 110 else e2)) := by show _ = _; unfold dS; rw [HDE.out, H2.out]
  rw [H2.out] at CK hko
  have hko2 : Ok b p2 e2 := hko.1
  have hkd0 : 0 ≤ kd := hko.2.1
  have hkd1 : kd = 0 ∨ kd ≤ 4611686018427387904 := hko.2.2
  have hkd : 0 ≤ kd ∧ kd ≤ 4611686018427387904 := by omega
  have HKV : Hid (_) := hk
  clear hk hkd1
  have hwd1 : 0 ≤ wd ∧ wd ≤ 255 := hwd
  obtain ⟨W0, HX0⟩ : ∃ W0, Hid (W0 = w.alloc (.cells #[.int .i64 0, .int .i64 0, .int .i64 0, .int .i64 0, .int .i64 0, .slice none 0 0, .slice none 0 0] 25)) := ⟨_, rfl⟩
  have hW0 : W0.heap[w.heap.size]? = some (.cells #[.int .i64 0, .int .i64 0, .int .i64 0, .int .i64 0, .int .i64 0, .slice none 0 0, .slice none 0 0] 25 (0, 0)) := by rw [HX0.out]; exact heap_alloc_new w _
  have B0 : Below w.heap.size w W0 := by rw [HX0.out]; exact (Below.refl _ _).alloc (Nat.le_refl _) _
  have hs0 : W0.heap.size = w.heap.size + 1 := by rw [HX0.out]; simp
  obtain ⟨g, HG⟩ : ∃ g, Hid (w.heap.size + 1 = g) := ⟨_, rfl⟩
  obtain ⟨W1, HX1⟩ : ∃ W1, Hid (W1 = W0.alloc (.cells #[.string b, .int .i64 0, .int .i64 0] 78)) := ⟨_, rfl⟩
  have R1 : Hid (Rd 78 g b 0 0 [] W1) := by rw [HX1.out, ← HG.out, ← hs0]; exact heap_alloc_new W0 _
  have B1 : Below W0.heap.size W0 W1 := by rw [HX1.out]; exact (Below.refl _ _).alloc (Nat.le_refl _) _
  have HB : Hid (Below w.heap.size w W1 ∧ W1.heap[w.heap.size]? = some (.cells #[.int .i64 0, .int .i64 0, .int .i64 0, .int .i64 0, .int .i64 0, .slice none 0 0, .slice none 0 0] 25 (0, 0)) ∧ W1.heap.size = w.heap.size + 2) := ⟨below2 B0 B1 (Nat.le_refl _), (B1.block _ (by omega)).trans hW0, by rw [HX1.out]; simp [hs0]⟩
  clear hW0 B0 hs0 B1 hwd hko H1 H2 HM HDK HPW HDE
  obtain ⟨r0, HR0⟩ : ∃ r, Hid (upR b = r) := ⟨_, rfl⟩
  obtain ⟨E0, HEE⟩ : ∃ z, Hid (pE b = z) := ⟨_, rfl⟩
  rw [HR0.out, HEE.out]
  go_enter Try.func16, Try.ntmps16
  go_upto_region 2 with fail
  rw [← HX0.out, ← HX1.out, HG.out]
  clear HX0 HX1
  go_upto_region 4 with (first
    | (go_at_call 40; refine (CM.out _ _ R1.out).mono ?_; rintro _ w2 ⟨rfl, r2, k2⟩; have R2 : Hid (Rd 78 g b p0 e0 [] w2) := r2; have K2 : Hid (Kp (fun k => k = g) W1 w2) := k2; clear r2 k2)
    | (go_at_call 41; refine (CW.out _ _ R2.out).mono ?_; rintro _ w3 ⟨rfl, r3, k3⟩; have R3 : Hid (Rd 78 g b p1 e1 [] w3) := r3; have K3 : Hid (Kp (fun k => k = g) W1 w3) := K2.out.trans k3; clear r3 k3))
  obtain ⟨x, HX⟩ : ∃ x, Hid (w3.heap.size = x) := ⟨_, rfl⟩
  obtain ⟨W4, HX4⟩ : ∃ W4, Hid (W4 = w3.alloc (.cells #[.int .i64 0, .int .i64 wd, .int .i64 0, .int .i64 0, .int .i64 0, .slice none 0 0, .slice none 0 0] 25)) := ⟨_, rfl⟩
  have D4 : Hid (DP w g x b p1 e1 0 wd 0 0 0 (.slice none 0 0) (.slice none 0 0) W4) := by
    have hg := HG.out
    have hs := K3.out.size
    have h3 := HB.out.2.2
    have hb4 : Below w3.heap.size w3 W4 := by rw [HX4.out]; exact (Below.refl _ _).alloc (Nat.le_refl _) _
    have hrs := (K3.out.block w.heap.size (by omega) (fun e => by omega)).trans HB.out.2.1
    refine ⟨Rd.keep R3.out (A := fun _ => False) (Kp.of_below hb4) (fun e => e), by rw [HX4.out, ← HX.out]; exact heap_alloc_new w3 _, (hb4.block _ (by omega)).trans hrs, below2 (HB.out.1.trans (K3.out.below (fun j hj => by omega) (by omega))) hb4 (Nat.le_refl _), by omega, by have := HX.out; omega⟩
  rw [← HX4.out, HX.out]
  clear HX4 R1 R2 R3 K2 K3 HB CM CW
  go_upto_region 5 with (go_at_call 42; refine (CK.out _ _ D4.out.pl).mono ?_; rintro _ w5 ⟨rfl, r5, k5⟩; have D5 : Hid (DP w g x b p2 e2 0 wd 0 0 0 (.slice none 0 0) (.slice none 0 0) w5) := D4.out.keep k5 r5; have y0 := (seven (D4.out.keep k5 r5).xp).1; have z0 := frozen_of_row _ _ 0 _ _ (D4.out.keep k5 r5).xp; clear k5 r5)
  have D6 : Hid (DP w g x b p2 e2 kd wd 0 0 0 (.slice none 0 0) (.slice none 0 0) (w5.setCell ⟨x, 0, none⟩ (.int .i64 kd))) := D5.out.set0 kd
  obtain ⟨w6, HW⟩ : ∃ w6, w6 = w5.setCell ⟨x, 0, none⟩ (.int .i64 kd) := ⟨_, rfl⟩
  rw [← HW] at D6 ⊢
  clear HW y0 z0 CK D4 D5
  obtain ⟨e3, HE3⟩ : ∃ e3, Hid ((if kd < 1 ∨ 4 < kd then refu e2 110 else e2) = e3) := ⟨_, rfl⟩
  rw [HE3.out] at HDS0
  have y0 := (seven D6.out.xp).1
  have E3 : Hid (refu e2 110 = e3) := by show _ = _; rw [← HE3.out, if_pos (by have := HKV.out; omega)]
  have g1 : ¬ kd < 1 := by have := HKV.out; omega
  have g4 : 4 < kd := by have := HKV.out; omega
  go_upto_region 7 with (go_at_call 43; refine (pRefuse 78 g b p2 e2 110 [] _ D6.out.pl).mono ?_; rintro _ w7 ⟨rfl, r7, k7⟩; rw [E3.out] at r7; have D7 : Hid (DP w g x b p2 e3 kd wd 0 0 0 (.slice none 0 0) (.slice none 0 0) w7) := D6.out.keep k7 r7; clear r7 k7)
  clear y0
  have y0 := (seven D7.out.xp).1

  have hko3 : Ok b p2 e3 := by
    rw [← HE3.out]
    split
    · have := refu_ok e2 110 ⟨hko2.2.1, hko2.2.2⟩ (by decide)
      exact ⟨hko2.1, this.1, this.2⟩
    · exact hko2
  have D7ok : Ok b p2 e3 := hko3
  have q1 : (kd == 1) = false := by rw [beq_eq_false_iff_ne]; have := HKV.out; omega
  have q2 : (kd == 2) = false := by rw [beq_eq_false_iff_ne]; have := HKV.out; omega
  have q3 : (kd == 3) = false := by rw [beq_eq_false_iff_ne]; have := HKV.out; omega
  have q4 : (kd == 4) = false := by rw [beq_eq_false_iff_ne]; have := HKV.out; omega
  have N1 : Hid (Calls _ _ _ _ _) := NUM.out g p2 e3 w7 D7ok D7.out.pl
  obtain ⟨sn, sp, se, H1⟩ : ∃ x y z, Hid (mostS b MX 10 p2 e3 = (x, y, z)) := ⟨_, _, _, rfl⟩
  have ok1 := (most_ok b MX 10 p2 e3 D7ok (by decide)).1
  rw [H1.out] at N1 ok1
  go_upto_region 17 with (go_at_call 42; refine N1.out.mono ?_; rintro _ wa1 ⟨rfl, ra, ka⟩; have DA1 : Hid (DP w g x b sp se kd wd 0 0 0 (.slice none 0 0) (.slice none 0 0) wa1) := D7.out.keep ka ra;  have y4 := (seven (D7.out.keep ka ra).xp).2.2.2.2.1; have z4 := frozen_of_row _ _ 4 _ _ (D7.out.keep ka ra).xp; clear ka ra)
  have DB1 : Hid (DP w g x b sp se kd wd 0 0 sn (.slice none 0 0) (.slice none 0 0) (wa1.setCell ⟨x, 4, none⟩ (.int .i64 sn))) := DA1.out.set4 sn
  obtain ⟨wb1, HW⟩ : ∃ v, v = wa1.setCell ⟨x, 4, none⟩ (.int .i64 sn) := ⟨_, rfl⟩
  rw [← HW] at DB1 ⊢
  clear HW y4 z4
  have DB1ok : Ok b sp se := ok1
  have OW0 : Hid (wb1.ownsRow (x + 1) 3 1 (.slice none 0 0) ([] : List Int).length (([] : List Int).map (Value.int .i64))) := World.ownsRow_nil _ _ _ _
  obtain ⟨va, vl, vc, HV⟩ : ∃ va vl vc, Hid (Value.slice va vl vc = .slice none 0 0) := ⟨none, 0, 0, rfl⟩
  rw [← HV.out] at OW0
  have DW0 : Hid (DP w g x b sp se kd wd 0 0 sn (.slice va vl vc) (.slice none 0 0) wb1) := by rw [HV.out]; exact DB1.out
  obtain ⟨ys, HYS0⟩ : ∃ ys : List Int, Hid (ys = []) := ⟨_, rfl⟩
  rw [← HYS0.out] at OW0
  obtain ⟨at', HAT0⟩ : ∃ ys : List Int, Hid (ys = []) := ⟨_, rfl⟩
  have HYS : Hid (se = 0 → ys = at') := fun _ => by rw [HYS0.out, HAT0.out]
  have HAL : Hid (se = 0 → at'.length ≤ 1024) := fun _ => by rw [HAT0.out]; exact Nat.zero_le _
  obtain ⟨sa, HSA⟩ : ∃ sb : Int, Hid (sb = 0) := ⟨_, rfl⟩
  obtain ⟨sb, HSB⟩ : ∃ sb : Int, Hid (sb = 0) := ⟨_, rfl⟩
  have HSH : dS b = ⟨sa, sb, sn, at', sp, se⟩ := by
    rw [HDS0.out]
    unfold dSh
    rw [if_neg (by have := HKV.out; omega), if_neg (by have := HKV.out; omega), if_neg (by have := HKV.out; omega)]
    unfold sh0
    rw [H1.out, HSA.out, HSB.out, HAT0.out]
  obtain ⟨wW, HWW⟩ : ∃ wW, Hid (wb1 = wW) := ⟨_, rfl⟩
  have DW00 : Hid (DP w g x b sp se kd wd sa sb sn (.slice va vl vc) (.slice none 0 0) wb1) := by rw [HSA.out, HSB.out]; exact DW0.out
  clear DW0
  have DW0 := DW00
  clear DW00
  rw [HWW.out] at DW0 OW0 ⊢
  have DW : Hid (DP w g x b sp se kd wd sa sb sn (.slice va vl vc) (.slice none 0 0) wW) := DW0.out
  have OW : Hid (wW.ownsRow (x + 1) 3 1 (.slice va vl vc) ys.length (ys.map (Value.int .i64))) := OW0.out
  clear DW0 OW0 HWW
  -- behind the shape
  have HST : Hid (_ ∧ _ ∧ _) := d_state b
  have HDS : Hid (dS b = ⟨sa, sb, sn, at', sp, se⟩) := HSH
  rw [HDS.out] at HST
  have EQ1 : Hid (sp = (pSh b).p ∧ se = (pSh b).e) := ⟨HST.out.1, HST.out.2.1⟩
  have EQ2 : Hid ((pSh b).e = 0 → (⟨sa, sb, sn, at', sp, se⟩ : Sh) = pSh b ∧ (dK b).1 = (pK b).1) := HST.out.2.2
  clear HST
  have hdl := DW.out.pl.e
  by_cases hse : se = 0
  · have HE0 : Hid ((pSh b).e = 0) := by show _ = _; rw [← EQ1.out.2]; exact hse
    have HQ : Hid (_ ∧ _) := EQ2.out HE0.out
    subst hse
    have HKD : Hid ((pK b).1 = kd) := by show _ = _; rw [← HQ.out.2]; exact HKD0.out
    have HPS : Hid (pSh b = ⟨sa, sb, sn, at', sp, 0⟩) := HQ.out.1.symm
    have HAT : Hid (ys = at') := HYS.out rfl
    have hal : at'.length ≤ 1024 := HAL.out rfl
    have HCT : Hid (pCt b = cnt9 kd sa sb sn at') := by show _ = _; unfold pCt; rw [HKD.out, HPS.out]
    have hct := cnt_in kd sa sb sn at'
    have HPH : Hid (pHs b = hashesS b wd.toNat (pCt b).1.toNat sp (refu 0 (pCt b).2)) := by show _ = _; unfold pHs; rw [HPS.out, HWD.out]
    rw [HCT.out] at HPH
    have OYS : Hid (wW.ownsRow (x + 1) 3 1 (.slice va vl vc) at'.length (at'.map (Value.int .i64))) := by have := OW.out; rw [HAT.out] at this; exact this
    have CC : Hid (Calls _ _ _ _ _) := rCount kd sa sb sn (.slice va vl vc) at' wW (own_readsI OYS.out) (by omega)
    have HPR : Hid (upR b = if pE b = 0 then ⟨kd, wd, sa, sb, sn, at', (pHs b).1⟩ else ⟨0, 0, 0, 0, 0, [], []⟩) := by show _ = _; unfold upR; rw [HKD.out, HPS.out, HWD.out]
    have HPE : Hid (pE b = endS b (pHs b).2.1 (pHs b).2.2) := rfl
    have HOK : Hid (Ok b sp (refu 0 (cnt9 kd sa sb sn at').2)) := by
      have := pRf_ok b
      rw [HPS.out, HCT.out] at this
      exact this
    obtain ⟨ct, ce, HC⟩ : ∃ x y, Hid (cnt9 kd sa sb sn at' = (x, y)) := ⟨_, _, rfl⟩
    have HC2 : Hid (Counted wW (cnt9 kd sa sb sn at') = Counted wW (ct, ce)) := by show _ = _; rw [HC.out]
    rw [HC2.out] at CC
    rw [HC.out] at HPH hct HOK
    obtain ⟨wn, hwn⟩ : ∃ wn : Nat, wd = wn := ⟨wd.toNat, by omega⟩
    subst hwn
    have hct1 : 0 ≤ ct ∧ ct ≤ 70000 := ⟨hct.1, hct.2.1⟩
    obtain ⟨cn, hcn⟩ : ∃ cn : Nat, ct = cn := ⟨ct.toNat, by omega⟩
    subst hcn
    have HPH2 : Hid (pHs b = hashesS b wn cn sp (refu 0 ce)) := HPH.out
    have CH : Hid (∀ W, Rd 78 g b sp (refu 0 ce) [] W → Calls _ _ _ _ _) := fun W h => pHashes 78 g b sp (refu 0 ce) [] wn cn W h hb HOK.out (by omega) (by omega)
    have hek := (hashes_ok b wn cn sp (refu 0 ce) HOK.out).1
    rw [← HPH2.out] at CH hek
    obtain ⟨hs, q5, z5, H5⟩ : ∃ x y z, Hid (pHs b = (x, y, z)) := ⟨_, _, _, rfl⟩
    rw [H5.out] at CH hek HPE HPR
    have CE : Hid (∀ W, Rd 78 g b q5 z5 [] W → Calls _ _ _ _ _) := fun W h => pEnd 78 g b q5 z5 [] W h hb hek
    have HPE2 : Hid (endS b q5 z5 = pE b) := HPE.out.symm
    rw [HPE2.out] at CE
    obtain ⟨zz, HZZ⟩ : ∃ z, Hid (pE b = z) := ⟨_, rfl⟩
    rw [HZZ.out] at CE HPR
    obtain ⟨x0, x1, x2, x3, x4, x5, x6⟩ := seven DW.out.xp
    clear HQ HPH HPE hct HC2 EQ1 EQ2 HPS HCT hek
    go_upto_region 22 with (first
      | (go_at_call 29; refine CC.out.mono ?_; rintro _ w18 ⟨rfl, k18⟩; have D18 : Hid (DP w g x b sp 0 kd wn sa sb sn (.slice va vl vc) (.slice none 0 0) w18) := DW.out.later k18; have O18 : Hid (w18.ownsRow (x + 1) 3 1 (.slice va vl vc) at'.length (at'.map (Value.int .i64))) := own_kp OYS.out (A := fun _ => False) (Kp.of_below k18) (fun _ e => e.elim); clear k18)
      | (go_at_call 43; refine (pRefuse 78 g b sp 0 ce [] _ D18.out.pl).mono ?_; rintro _ w19 ⟨rfl, r19, k19⟩; have D19 : Hid (DP w g x b sp (refu 0 ce) kd wn sa sb sn (.slice va vl vc) (.slice none 0 0) w19) := D18.out.keep k19 r19; have O19 : Hid (w19.ownsRow (x + 1) 3 1 (.slice va vl vc) at'.length (at'.map (Value.int .i64))) := own_kp O18.out k19 (fun j hj => by have := D18.out.hx; omega); have y1 := (seven (D18.out.keep k19 r19).xp).2.1; clear k19 r19)
      | (go_at_call 45; refine (CH.out _ D19.out.pl).mono ?_; rintro _ w20 ⟨⟨hv, rfl, o20⟩, r20, k20⟩; obtain ⟨ha, hc, hhv⟩ := own_formS o20; subst hhv; have D20 : Hid (DP w g x b q5 z5 kd wn sa sb sn (.slice va vl vc) (.slice none 0 0) w20) := D19.out.keep k20 r20; have O20 : Hid (w20.ownsRow (x + 1) 3 1 (.slice va vl vc) at'.length (at'.map (Value.int .i64))) := own_kp O19.out k20 (fun j hj => by have := D19.out.hx; omega); have H20 : Hid (w20.ownsRow (x + 1) 9 1 (.slice ha hs.length hc) hs.length (hs.map Value.string)) := own_base o20 (by have := (Array.getElem?_eq_some_iff.1 D19.out.xp).1; omega); have y6 := (seven (D19.out.keep k20 r20).xp).2.2.2.2.2.2; have z6 := frozen_of_row _ _ 6 _ _ (D19.out.keep k20 r20).xp; clear k20 r20 o20))
    have D21 : Hid (DP w g x b q5 z5 kd wn sa sb sn (.slice va vl vc) (.slice ha hs.length hc) (w20.setCell ⟨x, 6, none⟩ (.slice ha hs.length hc))) := D20.out.set6 _
    have O21 : Hid ((w20.setCell ⟨x, 6, none⟩ (.slice ha hs.length hc)).ownsRow (x + 1) 3 1 (.slice va vl vc) at'.length (at'.map (Value.int .i64))) := own_kp O20.out (kset _ _ _ _) (fun j hj => by omega)
    have H21 : Hid ((w20.setCell ⟨x, 6, none⟩ (.slice ha hs.length hc)).ownsRow (x + 1) 9 1 (.slice ha hs.length hc) hs.length (hs.map Value.string)) := own_kp H20.out (kset _ _ _ _) (fun j hj => by omega)
    obtain ⟨w21, HW⟩ : ∃ w21, w21 = w20.setCell ⟨x, 6, none⟩ (.slice ha hs.length hc) := ⟨_, rfl⟩
    rw [← HW] at D21 O21 H21 ⊢
    clear HW y6 z6 y1 x0 x1 x2 x3 x4 x5 x6 hdl
    by_cases hzz : zz = 0
    · subst hzz
      rw [if_pos rfl] at HPR
      go_upto_region 25 with (go_at_call 46; refine (CE.out _ D21.out.pl).mono ?_; rintro _ w22 ⟨rfl, r22, k22⟩; have D22 : Hid (DP w g x b q5 0 kd wn sa sb sn (.slice va vl vc) (.slice ha hs.length hc) w22) := D21.out.keep k22 r22; have O22 : Hid (w22.ownsRow (x + 1) 3 1 (.slice va vl vc) at'.length (at'.map (Value.int .i64))) := own_kp O21.out k22 (fun j hj => by have := D21.out.hx; omega); have H22 : Hid (w22.ownsRow (x + 1) 9 1 (.slice ha hs.length hc) hs.length (hs.map Value.string)) := own_kp H21.out k22 (fun j hj => by have := D21.out.hx; omega); clear k22 r22)
      obtain ⟨c0, c1, c2, c3, c4, c5, c6⟩ := seven D22.out.xp
      obtain ⟨d0, d1, d2, d3, d4, d5, d6⟩ := seven D22.out.rs
      have g0 := frozen_of_row _ _ 0 _ _ D22.out.rs
      have g1 := frozen_of_row _ _ 1 _ _ D22.out.rs
      have g2 := frozen_of_row _ _ 2 _ _ D22.out.rs
      have g3 := frozen_of_row _ _ 3 _ _ D22.out.rs
      have g4 := frozen_of_row _ _ 4 _ _ D22.out.rs
      have g5 := frozen_of_row _ _ 5 _ _ D22.out.rs
      have g6 := frozen_of_row _ _ 6 _ _ D22.out.rs
      have FIN : Hid (∀ V, V = _ → _) := dp_out D22.out (.int .i64 kd) (.int .i64 wn) (.int .i64 sa) (.int .i64 sb) (.int .i64 sn) (.slice va vl vc) (.slice ha hs.length hc)
      go_wp2
      obtain ⟨G, hB, _, hk⟩ := FIN.out _ rfl
      obtain ⟨e0, e1, e2, e3, e4, e5, e6⟩ := seven G
      refine bodyPost_ret (by simp [results, Try.results16, go_sem, e0, e1, e2, e3, e4, e5, e6]; try rfl) rfl ?_
      have q1 := D22.out.hg
      have q2 := D22.out.hx
      have o1 := own_base (B := w.heap.size) (own_kp (A := fun q => q = w.heap.size) O22.out hk (fun j (hj : j = w.heap.size) => by omega)) (by omega)
      have o2 := own_base (B := w.heap.size) (own_kp (A := fun q => q = w.heap.size) H22.out hk (fun j (hj : j = w.heap.size) => by omega)) (by omega)
      rw [← HR0.out, HPR.out, ← HEE.out, HZZ.out]
      exact ⟨⟨va, vl, vc, ha, _, hc, rfl, o1, o2⟩, hB⟩
    · have hzz' : (zz != 0) = true := by rw [bne_iff_ne]; exact hzz
      rw [if_neg hzz] at HPR
      clear hzz
      go_upto_region 24 with (go_at_call 46; refine (CE.out _ D21.out.pl).mono ?_; rintro _ w22 ⟨rfl, r22, k22⟩; have D22 : Hid (DP w g x b q5 zz kd wn sa sb sn (.slice va vl vc) (.slice ha hs.length hc) w22) := D21.out.keep k22 r22; clear k22 r22)
      obtain ⟨d0, d1, d2, d3, d4, d5, d6⟩ := seven D22.out.rs
      have g0 := frozen_of_row _ _ 0 _ _ D22.out.rs
      have g1 := frozen_of_row _ _ 1 _ _ D22.out.rs
      have g2 := frozen_of_row _ _ 2 _ _ D22.out.rs
      have g3 := frozen_of_row _ _ 3 _ _ D22.out.rs
      have g4 := frozen_of_row _ _ 4 _ _ D22.out.rs
      have g5 := frozen_of_row _ _ 5 _ _ D22.out.rs
      have g6 := frozen_of_row _ _ 6 _ _ D22.out.rs
      have FIN : Hid (∀ V, V = _ → _) := dp_out D22.out (.int .i64 0) (.int .i64 0) (.int .i64 0) (.int .i64 0) (.int .i64 0) (.slice none 0 0) (.slice none 0 0)
      go_wp2
      obtain ⟨G, hB, _, hk⟩ := FIN.out _ rfl
      obtain ⟨e0, e1, e2, e3, e4, e5, e6⟩ := seven G
      refine bodyPost_ret (by simp [results, Try.results16, go_sem, e0, e1, e2, e3, e4, e5, e6]; try rfl) rfl ?_
      rw [← HR0.out, HPR.out, ← HEE.out, HZZ.out]
      exact ⟨⟨none, 0, 0, none, 0, 0, rfl, World.ownsRow_nil _ _ _ _, World.ownsRow_nil _ _ _ _⟩, hB⟩
  · have hse' : (se != 0) = true := by rw [bne_iff_ne]; exact hse
    obtain ⟨pe1, pe2⟩ := p_stop b (by rw [← EQ1.out.2]; exact hse)
    have PE : Hid (pE b = se ∧ upR b = ⟨0, 0, 0, 0, 0, [], []⟩) := ⟨by rw [pe1, ← EQ1.out.2], pe2⟩
    obtain ⟨d0, d1, d2, d3, d4, d5, d6⟩ := seven DW.out.rs
    have g0 := frozen_of_row _ _ 0 _ _ DW.out.rs
    have g1 := frozen_of_row _ _ 1 _ _ DW.out.rs
    have g2 := frozen_of_row _ _ 2 _ _ DW.out.rs
    have g3 := frozen_of_row _ _ 3 _ _ DW.out.rs
    have g4 := frozen_of_row _ _ 4 _ _ DW.out.rs
    have g5 := frozen_of_row _ _ 5 _ _ DW.out.rs
    have g6 := frozen_of_row _ _ 6 _ _ DW.out.rs
    have FIN : Hid (∀ V, V = _ → _) := dp_out DW.out (.int .i64 0) (.int .i64 0) (.int .i64 0) (.int .i64 0) (.int .i64 0) (.slice none 0 0) (.slice none 0 0)
    have kk2 : (((wW.setCell ⟨w.heap.size, 0, none⟩ (.int .i64 0)).setCell ⟨w.heap.size, 1, none⟩ (.int .i64 0)).setCell ⟨w.heap.size, 2, none⟩ (.int .i64 0)).cell? ⟨g, 2, none⟩ = some (.int .i64 se) := (((kset wW w.heap.size 0 (.int .i64 0)).trans (kset _ w.heap.size 1 (.int .i64 0))).trans (kset _ w.heap.size 2 (.int .i64 0))).cell DW.out.pl.e (by have := DW.out.hg; omega)
    clear hse pe1 pe2 EQ1 EQ2 HDS
    go_wp2_with fail
    go_region
    all_goals (
      go_wp2
      obtain ⟨G, hB, _, hk⟩ := FIN.out _ rfl
      obtain ⟨e0, e1, e2, e3, e4, e5, e6⟩ := seven G
      refine bodyPost_ret (by simp [results, Try.results16, go_sem, e0, e1, e2, e3, e4, e5, e6]; try rfl) rfl ?_
      rw [← HR0.out, PE.out.2, ← HEE.out, PE.out.1]
      exact ⟨⟨none, 0, 0, none, 0, 0, rfl, World.ownsRow_nil _ _ _ _, World.ownsRow_nil _ _ _ _⟩, below_dr hB⟩)
end Go.Proofs.Ythpfgdhmpeadeaa.fn
