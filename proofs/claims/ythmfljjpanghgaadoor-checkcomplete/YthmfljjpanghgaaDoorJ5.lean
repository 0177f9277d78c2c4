import Derived.Test.YthmfljjpanghgaaDoorJ3
import Derived.Test.YthmfljjpanghgaaDoorJ4
import Derived.Test.YthmfljjpanghgaaDoorJ1
import Derived.Test.YthmfljjpanghgaaDoorG4
namespace Go.Proofs.YthmfljjpanghgaaDoor.zm
open Go.RowKit Go.PlainAid
open Go.Proofs.YthmfljjpanghgaaDoor.pl Go.Proofs.YthmfljjpanghgaaDoor.pi Go.Proofs.YthmfljjpanghgaaDoor.pj Go.Proofs.YthmfljjpanghgaaDoor.rf Go.Proofs.YthmfljjpanghgaaDoor.ca Go.Proofs.YthmfljjpanghgaaDoor.cb Go.Proofs.YthmfljjpanghgaaDoor.cp Go.Proofs.YthmfljjpanghgaaDoor.cv Go.Proofs.YthmfljjpanghgaaDoor.ga Go.Proofs.YthmfljjpanghgaaDoor.gb Go.Proofs.YthmfljjpanghgaaDoor.aa Go.Proofs.YthmfljjpanghgaaDoor.ka Go.Proofs.YthmfljjpanghgaaDoor.kb Go.Proofs.YthmfljjpanghgaaDoor.kc Go.Proofs.YthmfljjpanghgaaDoor.kp Go.Proofs.YthmfljjpanghgaaDoor.lk Go.Proofs.YthmfljjpanghgaaDoor.mi Go.Proofs.YthmfljjpanghgaaDoor.lm Go.Proofs.YthmfljjpanghgaaDoor.co Go.Proofs.YthmfljjpanghgaaDoor.cn Go.Proofs.YthmfljjpanghgaaDoor.qb Go.Proofs.YthmfljjpanghgaaDoor.qc Go.Proofs.YthmfljjpanghgaaDoor.qg Go.Proofs.YthmfljjpanghgaaDoor.qj Go.Proofs.YthmfljjpanghgaaDoor.qm Go.Proofs.YthmfljjpanghgaaDoor.za Go.Proofs.YthmfljjpanghgaaDoor.zb Go.Proofs.YthmfljjpanghgaaDoor.zg Go.Proofs.YthmfljjpanghgaaDoor.zh Go.Proofs.YthmfljjpanghgaaDoor.zi Go.Proofs.YthmfljjpanghgaaDoor.zk Go.Proofs.YthmfljjpanghgaaDoor.zl
set_option linter.unusedVariables false

def NV (v : Value) : Prop := ∀ k c, v = .slice none k c → c = 0
set_option maxRecDepth 100000 in
set_option maxHeartbeats 12800000 in
theorem complete (w : World) (wd : Int) (hwd : i64 wd) (g off cap : Nat) (l : List ByteArray) (hv : ReadsT w (.slice (some ⟨g, off, none⟩) l.length cap) l) (hf : Fits l) (zE : ∀ x ∈ l, x.size ≤ 140737488351232) (I M H : Nat) (mask : Int) (hmask : i64 mask) (T : Tab w)
    (n1 : 1 ≤ l.length) (n2 : l.length ≤ 200) (hI : I < l.length) (hM : M ≤ l.length) (hH : I < H) (hH2 : H ≤ l.length) :
    Calls Tryd.prog 4 #[.int .i64 wd, .slice (some ⟨g, off, none⟩) l.length cap, .int .i64 I, .int .i64 M, .int .i64 H, .int .i64 mask] w fun e w' => e = .returned (.bool true) ∧ Below w.heap.size w w' := by
  have hcap : l.length ≤ cap := by
    obtain ⟨a, c, e, h, _⟩ := hv
    injection e with _ _ e3
    omega
  have cI : Hid (∀ W, Below w.heap.size w W → W.cell? ⟨g, off + I, none⟩ = some (.string (l.getD I ByteArray.empty))) := fun W b => by
    obtain ⟨a, c, e, h, hh⟩ := hv.later b
    obtain ⟨g', o', rfl, hc⟩ := hh.resolve_left (by omega)
    injection e with e1 _ _
    injection e1 with e1
    injection e1 with x1 x2 _
    rw [x1, x2]
    exact hc I hI
  have zI : (l.getD I ByteArray.empty).size ≤ 140737488352000 := by rw [List.getD_eq_getElem?_getD, List.getElem?_eq_getElem hI]; exact hf.each _ (List.getElem_mem hI)
  have BC : Hid (∀ w, Calls _ _ _ _ _) := fun w => begunC w
  have RC : Hid (∀ W, Below w.heap.size w W → Calls _ _ _ _ _) := fun W b => mb.rootC wd _ l W hwd (T.down b) (hv.later b) hf
  have RM : Hid (∀ W, Below w.heap.size w W → Calls Tryd.prog 12 #[.int .i64 wd, .slice (some ⟨g, off, none⟩) M cap] W fun e w' => e = .returned (.string (RT wd (l.take M))) ∧ Below W.heap.size W w') := fun W b => mb.rootC wd _ (l.take M) W hwd (T.down b) (preT (hv.later b) hM) (hf.take M)
  have PC : Hid (∀ W, Below w.heap.size w W → Calls Tryd.prog 13 #[.int .i64 wd, .int .i64 I, .slice (some ⟨g, off, none⟩) l.length cap] W fun e w' => ∃ u, e = .returned (.tuple #[u, .int .i64 0]) ∧ ReadsT w' u (PT wd I l) ∧ Below W.heap.size W w') := fun W b =>
    (mc.pathC wd I _ l W hwd ⟨by omega, by omega⟩ (T.down b) (hv.later b) hf).mono fun e w' ⟨⟨u, e1, e2⟩, e3⟩ => ⟨u, by rw [e1]; unfold PE; rw [if_pos (by omega)], OwT.reads e2, e3⟩
  have QC : Hid (∀ W, Below w.heap.size w W → Calls Tryd.prog 14 #[.int .i64 wd, .int .i64 M, .slice (some ⟨g, off, none⟩) l.length cap] W fun e w' => ∃ u, e = .returned (.tuple #[u, .int .i64 0]) ∧ ReadsT w' u (QT wd M l) ∧ Below W.heap.size W w') := fun W b =>
    (md.proofC wd M _ l W hwd ⟨by omega, by omega⟩ (T.down b) (hv.later b) hf).mono fun e w' ⟨⟨u, e1, e2⟩, e3⟩ => ⟨u, by rw [e1]; unfold QE; rw [if_pos (by omega)], OwT.reads e2, e3⟩
  have LC : Hid (∀ W, Below w.heap.size w W → Calls _ _ _ _ _) := fun W b => pLeaf wd (l.getD I ByteArray.empty) zI W (T.down b)
  have IC : Hid (∀ W u root, Below w.heap.size w W → ReadsT W u (PT wd I l) → root.size = wid wd → Calls Tryd.prog 15 #[.int .i64 wd, .int .i64 I, .int .i64 l.length, .string (LF wd (l.getD I ByteArray.empty)), u, .string root] W fun e w' => e = .returned (.int .i64 (if RT wd l = root then 0 else 90)) ∧ Below W.heap.size W w') := fun W u root b hu hr => by
    have z := PT_len wd I l
    have := qd.InclC wd I l.length hwd (LF wd (l.getD I ByteArray.empty)) u (PT wd I l) root W hu (by omega) (T.down b)
    rwa [inc_all wd l I hI n2 root hr] at this
  have UC : Hid (∀ W, Below w.heap.size w W → Calls _ _ _ _ _) := fun W b => cutT (RT wd l) wd W (by have := RT_le wd l; omega) (T.down b)
  have CC : Hid (∀ W u, Below w.heap.size w W → ReadsT W u (QT wd M l) → Calls Tryd.prog 18 #[.int .i64 wd, .int .i64 M, .int .i64 l.length, .string (RT wd (l.take M)), .string (RT wd l), u] W fun e w' => e = .returned (.int .i64 0) ∧ Below W.heap.size W w') := fun W u b hu => by
    have z := QT_len wd M l
    have := qw.consC wd M l.length hwd (RT wd (l.take M)) (RT wd l) u (QT wd M l) W hu (by omega) (T.down b)
    rwa [con_all wd l M hM n1 n2] at this
  have GC : Hid (∀ W, Calls _ _ _ _ _) := fun W => risingC I H (by omega) (by omega) W
  have HC : Hid (∀ xs W va, Below w.heap.size w W → ReadsI W va xs → xs.length ≤ 1024 → (∀ j, j < xs.length → 0 ≤ xs.getD j 0 ∧ xs.getD j 0 < (l.length : Int)) → Calls Tryd.prog 21 #[.int .i64 wd, .slice (some ⟨g, off, none⟩) l.length cap, va] W fun e w' => ∃ v', e = .returned v' ∧ ReadsT w' v' (HL wd l xs) ∧ Below W.heap.size W w') := fun xs W va b hx zx hi =>
    (hashedC wd _ va l xs W (hv.later b) hx zE n2 zx hi (T.down b)).mono fun e w' ⟨v', e1, e2, e3⟩ => ⟨v', e1, e2.reads, e3⟩
  have AC : Hid (∀ xs W va, Below w.heap.size w W → ReadsI W va xs → xs.length ≤ 1024 → (∀ p ∈ xs, (0 : Int) ≤ p) → Calls Tryd.prog 22 #[.int .i64 wd, .slice (some ⟨g, off, none⟩) l.length cap, .int .i64 0, va] W fun e w' => ∃ v', e = .returned v' ∧ ReadsT w' v' ((WL (lkM (natL xs)) 0 l.length).map (R wd l)) ∧ Below W.heap.size W w') := fun xs W va b hx zx h0 => by
    have := gatheredC wd hwd va l xs hf n2 zx h0 l.length 0 l.length (.slice (some ⟨g, off, none⟩) l.length cap) W rfl (by omega) (Nat.le_refl _) (by rw [S_all]; exact hv.later b) hx (T.down b)
    exact this.mono fun e w' ⟨v', e1, e2, _, e3⟩ => ⟨v', e1, e2, e3⟩
  have NC : Hid (∀ W vh vp, Below w.heap.size w W → ReadsT W vh (HL wd l (qo.rg I H)) → ReadsT W vp ((WL (lkM (natL (qo.rg I H))) 0 l.length).map (R wd l)) → Calls Tryd.prog 20 #[.int .i64 wd, .int .i64 I, .int .i64 l.length, vh, vp, .string (RT wd l)] W fun e w' => e = .returned (.int .i64 0) ∧ Below W.heap.size W w') := fun W vh vp b h1 h2 => by
    have z := WL_short (lkM (natL (qo.rg I H))) l.length 0 l.length rfl (by omega)
    have := qp.RangeC wd I l.length hwd ⟨by omega, by omega⟩ vh vp _ _ (RT wd l) W h1 h2 (by rw [HL_len, qo.rg_len]; omega) (by rw [List.length_map]; omega) (T.down b)
    rwa [rng_all wd l I H hH hH2 n2] at this
  have OC : Hid (∀ W, Calls _ _ _ _ _) := fun W => chosenC l.length mask hmask n1 n2 W
  have MC : Hid (∀ xs W v vh vp, Below w.heap.size w W → places xs (l.length : Int) = 0 → ReadsI W v xs → ReadsT W vh (HL wd l xs) → ReadsT W vp ((WL (lkM (natL xs)) 0 l.length).map (R wd l)) → Calls Tryd.prog 8 #[.int .i64 wd, .int .i64 l.length, v, vh, vp, .string (RT wd l)] W fun e w' => e = .returned (.int .i64 0) ∧ Below W.heap.size W w') := fun xs W v vh vp b hp h1 h2 h3 => by
    have z := WL_short (lkM (natL xs)) l.length 0 l.length rfl (by omega)
    obtain ⟨p1, p2, p3, p4⟩ := places_ok hp
    have := MultiC wd l.length hwd v xs vh vp _ _ (RT wd l) W h1 h2 h3 (by omega) (by rw [HL_len]; omega) (by rw [List.length_map]; omega) (T.down b)
    rwa [mul_all wd l xs hp n1 n2] at this
  have PO : Hid (∀ xs, places xs (l.length : Int) = 0 → xs.length ≤ 1024 ∧ (∀ j, j < xs.length → 0 ≤ xs.getD j 0 ∧ xs.getD j 0 < (l.length : Int)) ∧ (∀ p ∈ xs, (0 : Int) ≤ p)) := fun xs hp => by
    obtain ⟨p1, p2, p3, p4⟩ := places_ok hp
    refine ⟨p2, p3, fun p h => ?_⟩
    obtain ⟨j, hj, rfl⟩ := List.getElem_of_mem h
    have := (p3 j hj).1
    rwa [List.getD_eq_getElem?_getD, List.getElem?_eq_getElem hj] at this
  have PG : Hid ((qo.rg I H).length ≤ 1024 ∧ (∀ j, j < (qo.rg I H).length → 0 ≤ (qo.rg I H).getD j 0 ∧ (qo.rg I H).getD j 0 < (l.length : Int)) ∧ (∀ p ∈ qo.rg I H, (0 : Int) ≤ p)) := by
    refine ⟨by rw [qo.rg_len]; omega, fun j hj => ?_, fun p h => ?_⟩
    · rw [qo.rg_len] at hj
      rw [qo.rg_get I H j hj]
      omega
    · obtain ⟨j, hj, rfl⟩ := List.getElem_of_mem h
      have hj2 := hj
      rw [qo.rg_len] at hj2
      have := qo.rg_get I H j hj2
      rw [List.getD_eq_getElem?_getD, List.getElem?_eq_getElem hj] at this
      have e : (qo.rg I H)[j] = ((I + j : Nat) : Int) := this
      omega
  have ZR : Hid ((RT wd l).size = wid wd ∧ (cutS (RT wd l) wd).size = wid wd) := ⟨RT_size _ _, cutS_size _ _⟩
  obtain ⟨N, HN⟩ : ∃ n, Hid (l.length = n) := ⟨_, rfl⟩
  obtain ⟨lp, HLP⟩ : ∃ n, Hid (PT wd I l = n) := ⟨_, rfl⟩
  obtain ⟨lq, HLQ⟩ : ∃ n, Hid (QT wd M l = n) := ⟨_, rfl⟩
  obtain ⟨x, HX⟩ : ∃ n, Hid (l.getD I ByteArray.empty = n) := ⟨_, rfl⟩
  obtain ⟨h, HHH⟩ : ∃ n, Hid (LF wd x = n) := ⟨_, rfl⟩
  obtain ⟨r, HRR⟩ : ∃ n, Hid (RT wd l = n) := ⟨_, rfl⟩
  obtain ⟨o, HOO⟩ : ∃ n, Hid (RT wd (l.take M) = n) := ⟨_, rfl⟩
  obtain ⟨u, HUU⟩ : ∃ n, Hid (cutS r wd = n) := ⟨_, rfl⟩
  rw [HX.out] at cI LC IC
  rw [HHH.out] at LC IC
  rw [HRR.out] at RC IC UC CC NC MC ZR
  rw [HUU.out] at UC ZR
  rw [HOO.out] at RM CC
  rw [HLP.out] at PC IC
  rw [HLQ.out] at QC CC
  rw [HN.out] at RC PC QC IC CC HC AC NC OC MC PO PG n1 n2 hI hM hH2 hcap ⊢
  clear hv hf zE zI T hwd hmask HN HLP HLQ HX HHH HRR HOO HUU
  have d1 : ((N : Int) == 0) = false := by rw [beq_eq_false_iff_ne]; omega
  have d2 : decide (200 < (N : Int)) = false := decide_eq_false (by omega)
  have d3 : decide ((I : Int) < 0) = false := decide_eq_false (by omega)
  have d4 : decide ((N : Int) ≤ I) = false := decide_eq_false (by omega)
  have d5 : decide ((M : Int) < 0) = false := decide_eq_false (by omega)
  have d6 : decide ((N : Int) < M) = false := decide_eq_false (by omega)
  have d7 : decide ((H : Int) ≤ I) = false := decide_eq_false (by omega)
  have d8 : decide ((N : Int) < H) = false := decide_eq_false (by omega)
  have hIN : (I : Int) < N := by omega
  have hMc : (M : Int) ≤ cap := by omega
  have hMN : (M : Int) ≤ N := by omega
  have er : (r.toList == r.toList) = true := beq_self_eq_true _
  have B0 : Hid (Below w.heap.size w w) := Below.refl _ _
  by_cases hur : r = u
  · have eu : (u.toList == r.toList) = true := by rw [beqL]; exact decide_eq_true hur.symm
    clear hur
    go_enter Tryd.func4, Tryd.ntmps4
    go_wp2_with fail
    refine (BC.out _).mono ?_
    rintro e q1 ⟨rfl, hb1⟩
    have B1 : Hid (Below w.heap.size w q1) := over B0.out hb1
    clear hb1
    go_wp2_with fail
    refine (RC.out _ B1.out).mono ?_
    rintro e q2 ⟨rfl, hb2⟩
    have B2 : Hid (Below w.heap.size w q2) := over B1.out hb2
    clear hb2
    go_wp2_with fail
    refine (PC.out _ B2.out).mono ?_
    rintro e q3 ⟨u1, rfl, ru1, hb3⟩
    have B3 : Hid (Below w.heap.size w q3) := over B2.out hb3
    have U3 : Hid (ReadsT q3 u1 lp) := ru1
    clear ru1
    clear hb3
    go_wp2_with fail
    refine (QC.out _ B3.out).mono ?_
    rintro e q4 ⟨u2, rfl, ru2, hb4⟩
    have B4 : Hid (Below w.heap.size w q4) := over B3.out hb4
    have U4 : Hid (ReadsT q4 u1 lp ∧ ReadsT q4 u2 lq) := ⟨U3.out.later hb4, ru2⟩
    clear ru2
    have ci := cI.out _ B4.out
    clear hb4
    go_wp2_with fail
    refine (LC.out _ B4.out).mono ?_
    rintro e q5 ⟨rfl, hb5⟩
    have B5 : Hid (Below w.heap.size w q5) := over B4.out hb5
    have U5 : Hid (ReadsT q5 u1 lp ∧ ReadsT q5 u2 lq) := ⟨U4.out.1.later hb5, U4.out.2.later hb5⟩
    clear hb5
    go_wp2_with fail
    refine (IC.out _ u1 r B5.out U5.out.1 ZR.out.1).mono ?_
    rintro e q6 ⟨he, hb6⟩
    have B6 : Hid (Below w.heap.size w q6) := over B5.out hb6
    rw [if_pos rfl] at he
    subst he
    have U6 : Hid (ReadsT q6 u1 lp ∧ ReadsT q6 u2 lq) := ⟨U5.out.1.later hb6, U5.out.2.later hb6⟩
    clear ci
    clear hb6
    go_wp2_with fail
    refine (UC.out _ B6.out).mono ?_
    rintro e q7 ⟨rfl, hb7⟩
    have B7 : Hid (Below w.heap.size w q7) := over B6.out hb7
    have U7 : Hid (ReadsT q7 u1 lp ∧ ReadsT q7 u2 lq) := ⟨U6.out.1.later hb7, U6.out.2.later hb7⟩
    have ci := cI.out _ B7.out
    clear hb7
    go_wp2_with fail
    refine (RM.out _ B7.out).mono ?_
    rintro e q8 ⟨rfl, hb8⟩
    have B8 : Hid (Below w.heap.size w q8) := over B7.out hb8
    have U8 : Hid (ReadsT q8 u1 lp ∧ ReadsT q8 u2 lq) := ⟨U7.out.1.later hb8, U7.out.2.later hb8⟩
    clear hb8
    go_wp2_with fail
    refine (CC.out _ u2 B8.out U8.out.2).mono ?_
    rintro e q9 ⟨rfl, hb9⟩
    have B9 : Hid (Below w.heap.size w q9) := over B8.out hb9
    clear hb9
    go_wp2_with fail
    refine (GC.out _).mono ?_
    rintro e q10 ⟨va, rfl, ra, hb10⟩
    have B10 : Hid (Below w.heap.size w q10) := over B9.out hb10
    have A10 : Hid (ReadsI q10 va (qo.rg I H)) := OwI.reads ra
    clear ra
    clear hb10
    go_wp2_with fail
    refine (HC.out _ _ va B10.out A10.out PG.out.1 PG.out.2.1).mono ?_
    rintro e q11 ⟨vh, rfl, rh, hb11⟩
    have B11 : Hid (Below w.heap.size w q11) := over B10.out hb11
    have A11 : Hid (ReadsI q11 va (qo.rg I H) ∧ ReadsT q11 vh (HL wd l (qo.rg I H))) := ⟨A10.out.later hb11, rh⟩
    clear rh
    clear hb11
    go_wp2_with fail
    refine (AC.out _ _ va B11.out A11.out.1 PG.out.1 PG.out.2.2).mono ?_
    rintro e q12 ⟨vg, rfl, rg, hb12⟩
    have B12 : Hid (Below w.heap.size w q12) := over B11.out hb12
    have A12 : Hid (ReadsT q12 vh (HL wd l (qo.rg I H)) ∧ ReadsT q12 vg ((WL (lkM (natL (qo.rg I H))) 0 N).map (R wd l))) := ⟨A11.out.2.later hb12, rg⟩
    clear rg
    clear hb12
    go_wp2_with fail
    refine (NC.out _ vh vg B12.out A12.out.1 A12.out.2).mono ?_
    rintro e q13 ⟨rfl, hb13⟩
    have B13 : Hid (Below w.heap.size w q13) := over B12.out hb13
    clear hb13
    go_wp2_with fail
    refine (OC.out _).mono ?_
    rintro e q14 ⟨vc, xs, rfl, rc, hp, hb14⟩
    have B14 : Hid (Below w.heap.size w q14) := over B13.out hb14
    have A14 : Hid (ReadsI q14 vc xs ∧ places xs (N : Int) = 0) := ⟨OwI.reads rc, hp⟩
    clear rc hp
    clear hb14
    go_wp2_with fail
    refine (HC.out xs _ vc B14.out A14.out.1 (PO.out xs A14.out.2).1 (PO.out xs A14.out.2).2.1).mono ?_
    rintro e q15 ⟨wh, rfl, rh, hb15⟩
    have B15 : Hid (Below w.heap.size w q15) := over B14.out hb15
    have A15 : Hid (ReadsI q15 vc xs ∧ places xs (N : Int) = 0 ∧ ReadsT q15 wh (HL wd l xs)) := ⟨A14.out.1.later hb15, A14.out.2, rh⟩
    clear rh
    clear hb15
    go_wp2_with fail
    refine (AC.out xs _ vc B15.out A15.out.1 (PO.out xs A15.out.2.1).1 (PO.out xs A15.out.2.1).2.2).mono ?_
    rintro e q16 ⟨wg, rfl, rg, hb16⟩
    have B16 : Hid (Below w.heap.size w q16) := over B15.out hb16
    have A16 : Hid (ReadsI q16 vc xs ∧ places xs (N : Int) = 0 ∧ ReadsT q16 wh (HL wd l xs) ∧ ReadsT q16 wg ((WL (lkM (natL xs)) 0 N).map (R wd l))) := ⟨A15.out.1.later hb16, A15.out.2.1, A15.out.2.2.later hb16, rg⟩
    clear rg
    clear hb16
    go_wp2_with fail
    refine (MC.out xs _ vc wh wg B16.out A16.out.2.1 A16.out.1 A16.out.2.2.1 A16.out.2.2.2).mono ?_
    rintro e q17 ⟨rfl, hb17⟩
    have B17 : Hid (Below w.heap.size w q17) := over B16.out hb17
    clear hb17
    go_wp2
    go_ret
    exact ⟨rfl, B17.out⟩
  · have eu : (u.toList == r.toList) = false := by rw [beqL]; exact decide_eq_false (fun e => hur e.symm)
    go_enter Tryd.func4, Tryd.ntmps4
    go_wp2_with fail
    refine (BC.out _).mono ?_
    rintro e q1 ⟨rfl, hb1⟩
    have B1 : Hid (Below w.heap.size w q1) := over B0.out hb1
    clear hb1
    go_wp2_with fail
    refine (RC.out _ B1.out).mono ?_
    rintro e q2 ⟨rfl, hb2⟩
    have B2 : Hid (Below w.heap.size w q2) := over B1.out hb2
    clear hb2
    go_wp2_with fail
    refine (PC.out _ B2.out).mono ?_
    rintro e q3 ⟨u1, rfl, ru1, hb3⟩
    have B3 : Hid (Below w.heap.size w q3) := over B2.out hb3
    have U3 : Hid (ReadsT q3 u1 lp) := ru1
    clear ru1
    clear hb3
    go_wp2_with fail
    refine (QC.out _ B3.out).mono ?_
    rintro e q4 ⟨u2, rfl, ru2, hb4⟩
    have B4 : Hid (Below w.heap.size w q4) := over B3.out hb4
    have U4 : Hid (ReadsT q4 u1 lp ∧ ReadsT q4 u2 lq) := ⟨U3.out.later hb4, ru2⟩
    clear ru2
    have ci := cI.out _ B4.out
    clear hb4
    go_wp2_with fail
    refine (LC.out _ B4.out).mono ?_
    rintro e q5 ⟨rfl, hb5⟩
    have B5 : Hid (Below w.heap.size w q5) := over B4.out hb5
    have U5 : Hid (ReadsT q5 u1 lp ∧ ReadsT q5 u2 lq) := ⟨U4.out.1.later hb5, U4.out.2.later hb5⟩
    clear hb5
    go_wp2_with fail
    refine (IC.out _ u1 r B5.out U5.out.1 ZR.out.1).mono ?_
    rintro e q6 ⟨he, hb6⟩
    have B6 : Hid (Below w.heap.size w q6) := over B5.out hb6
    rw [if_pos rfl] at he
    subst he
    have U6 : Hid (ReadsT q6 u1 lp ∧ ReadsT q6 u2 lq) := ⟨U5.out.1.later hb6, U5.out.2.later hb6⟩
    clear ci
    clear hb6
    go_wp2_with fail
    refine (UC.out _ B6.out).mono ?_
    rintro e q7 ⟨rfl, hb7⟩
    have B7 : Hid (Below w.heap.size w q7) := over B6.out hb7
    have U7 : Hid (ReadsT q7 u1 lp ∧ ReadsT q7 u2 lq) := ⟨U6.out.1.later hb7, U6.out.2.later hb7⟩
    have ci := cI.out _ B7.out
    clear hb7
    go_wp2_with fail
    refine (LC.out _ B7.out).mono ?_
    rintro e q8 ⟨rfl, hb8⟩
    have B8 : Hid (Below w.heap.size w q8) := over B7.out hb8
    have U8 : Hid (ReadsT q8 u1 lp ∧ ReadsT q8 u2 lq) := ⟨U7.out.1.later hb8, U7.out.2.later hb8⟩
    clear hb8
    go_wp2_with fail
    refine (IC.out _ u1 u B8.out U8.out.1 ZR.out.2).mono ?_
    rintro e q9 ⟨he, hb9⟩
    have B9 : Hid (Below w.heap.size w q9) := over B8.out hb9
    rw [if_neg hur] at he
    subst he
    have U9 : Hid (ReadsT q9 u1 lp ∧ ReadsT q9 u2 lq) := ⟨U8.out.1.later hb9, U8.out.2.later hb9⟩
    clear hb9
    go_wp2_with fail
    refine (RM.out _ B9.out).mono ?_
    rintro e q10 ⟨rfl, hb10⟩
    have B10 : Hid (Below w.heap.size w q10) := over B9.out hb10
    have U10 : Hid (ReadsT q10 u1 lp ∧ ReadsT q10 u2 lq) := ⟨U9.out.1.later hb10, U9.out.2.later hb10⟩
    clear hb10
    go_wp2_with fail
    refine (CC.out _ u2 B10.out U10.out.2).mono ?_
    rintro e q11 ⟨rfl, hb11⟩
    have B11 : Hid (Below w.heap.size w q11) := over B10.out hb11
    clear hb11
    go_wp2_with fail
    refine (GC.out _).mono ?_
    rintro e q12 ⟨va, rfl, ra, hb12⟩
    have B12 : Hid (Below w.heap.size w q12) := over B11.out hb12
    have A12 : Hid (ReadsI q12 va (qo.rg I H)) := OwI.reads ra
    clear ra
    clear hb12
    go_wp2_with fail
    refine (HC.out _ _ va B12.out A12.out PG.out.1 PG.out.2.1).mono ?_
    rintro e q13 ⟨vh, rfl, rh, hb13⟩
    have B13 : Hid (Below w.heap.size w q13) := over B12.out hb13
    have A13 : Hid (ReadsI q13 va (qo.rg I H) ∧ ReadsT q13 vh (HL wd l (qo.rg I H))) := ⟨A12.out.later hb13, rh⟩
    clear rh
    clear hb13
    go_wp2_with fail
    refine (AC.out _ _ va B13.out A13.out.1 PG.out.1 PG.out.2.2).mono ?_
    rintro e q14 ⟨vg, rfl, rg, hb14⟩
    have B14 : Hid (Below w.heap.size w q14) := over B13.out hb14
    have A14 : Hid (ReadsT q14 vh (HL wd l (qo.rg I H)) ∧ ReadsT q14 vg ((WL (lkM (natL (qo.rg I H))) 0 N).map (R wd l))) := ⟨A13.out.2.later hb14, rg⟩
    clear rg
    clear hb14
    go_wp2_with fail
    refine (NC.out _ vh vg B14.out A14.out.1 A14.out.2).mono ?_
    rintro e q15 ⟨rfl, hb15⟩
    have B15 : Hid (Below w.heap.size w q15) := over B14.out hb15
    clear hb15
    go_wp2_with fail
    refine (OC.out _).mono ?_
    rintro e q16 ⟨vc, xs, rfl, rc, hp, hb16⟩
    have B16 : Hid (Below w.heap.size w q16) := over B15.out hb16
    have A16 : Hid (ReadsI q16 vc xs ∧ places xs (N : Int) = 0) := ⟨OwI.reads rc, hp⟩
    clear rc hp
    clear hb16
    go_wp2_with fail
    refine (HC.out xs _ vc B16.out A16.out.1 (PO.out xs A16.out.2).1 (PO.out xs A16.out.2).2.1).mono ?_
    rintro e q17 ⟨wh, rfl, rh, hb17⟩
    have B17 : Hid (Below w.heap.size w q17) := over B16.out hb17
    have A17 : Hid (ReadsI q17 vc xs ∧ places xs (N : Int) = 0 ∧ ReadsT q17 wh (HL wd l xs)) := ⟨A16.out.1.later hb17, A16.out.2, rh⟩
    clear rh
    clear hb17
    go_wp2_with fail
    refine (AC.out xs _ vc B17.out A17.out.1 (PO.out xs A17.out.2.1).1 (PO.out xs A17.out.2.1).2.2).mono ?_
    rintro e q18 ⟨wg, rfl, rg, hb18⟩
    have B18 : Hid (Below w.heap.size w q18) := over B17.out hb18
    have A18 : Hid (ReadsI q18 vc xs ∧ places xs (N : Int) = 0 ∧ ReadsT q18 wh (HL wd l xs) ∧ ReadsT q18 wg ((WL (lkM (natL xs)) 0 N).map (R wd l))) := ⟨A17.out.1.later hb18, A17.out.2.1, A17.out.2.2.later hb18, rg⟩
    clear rg
    clear hb18
    go_wp2_with fail
    refine (MC.out xs _ vc wh wg B18.out A18.out.2.1 A18.out.1 A18.out.2.2.1 A18.out.2.2.2).mono ?_
    rintro e q19 ⟨rfl, hb19⟩
    have B19 : Hid (Below w.heap.size w q19) := over B18.out hb19
    clear hb19
    go_wp2
    go_ret
    exact ⟨rfl, B19.out⟩
end Go.Proofs.YthmfljjpanghgaaDoor.zm

namespace Go.Proofs.YthmfljjpanghgaaDoor.zn
open Go.RowKit Go.PlainAid
open Go.Proofs.YthmfljjpanghgaaDoor.pl Go.Proofs.YthmfljjpanghgaaDoor.pi Go.Proofs.YthmfljjpanghgaaDoor.pj Go.Proofs.YthmfljjpanghgaaDoor.rf Go.Proofs.YthmfljjpanghgaaDoor.ca Go.Proofs.YthmfljjpanghgaaDoor.cb Go.Proofs.YthmfljjpanghgaaDoor.cp Go.Proofs.YthmfljjpanghgaaDoor.cv Go.Proofs.YthmfljjpanghgaaDoor.gb Go.Proofs.YthmfljjpanghgaaDoor.ka Go.Proofs.YthmfljjpanghgaaDoor.kb Go.Proofs.YthmfljjpanghgaaDoor.zb Go.Proofs.YthmfljjpanghgaaDoor.zm
set_option linter.unusedVariables false

set_option maxRecDepth 100000 in
set_option maxHeartbeats 6400000 in
theorem complete_walk (w : World) (wd : Int) (w0 : (Lit.int .i64 wd).wf = true) (v : Value) (l : List ByteArray) (hr : ReadsT w v l) (hno : ∀ k c, v = .slice none k c → c = 0) (hx : ∀ x ∈ l, x.size ≤ 140737488351232) (hz : l.length * 16 ≤ 140737488351232) (i : Int) (w2 : (Lit.int .i64 i).wf = true) (m : Int) (w3 : (Lit.int .i64 m).wf = true) (h : Int) (w4 : (Lit.int .i64 h).wf = true) (mask : Int) (w5 : (Lit.int .i64 mask).wf = true) (T : Tab w) :
    Calls Tryd.prog 4 #[.int .i64 wd, v, .int .i64 i, .int .i64 m, .int .i64 h, .int .i64 mask] w fun e w' => e = .returned (.bool true) ∧ Below w.heap.size w w' := by
  by_cases good : 1 ≤ l.length ∧ l.length ≤ 200 ∧ 0 ≤ i ∧ i < l.length ∧ 0 ≤ m ∧ m ≤ l.length ∧ i < h ∧ h ≤ l.length
  · obtain ⟨n1, n2, g1, g2, g3, g4, g5, g6⟩ := good
    obtain ⟨I, rfl⟩ : ∃ A : Nat, i = A := ⟨i.toNat, by omega⟩
    obtain ⟨M, rfl⟩ : ∃ A : Nat, m = A := ⟨m.toNat, by omega⟩
    obtain ⟨H, rfl⟩ : ∃ A : Nat, h = A := ⟨h.toNat, by omega⟩
    have hr2 := hr
    obtain ⟨a, c, rfl, hc, hh⟩ := hr
    obtain ⟨g, off, rfl, _⟩ := hh.resolve_left (by omega)
    exact complete w wd (i64_of w0) g off c l hr2 ⟨fun x hh => Nat.le_trans (hx x hh) (by decide), hz⟩ hx I M H mask (i64_of w5) T n1 n2 (by omega) (by omega) (by omega) (by omega)
  · have BC : Hid (∀ w, Calls _ _ _ _ _) := fun w => begunC w
    obtain ⟨a, c, rfl, _⟩ := hr
    obtain ⟨n, HN⟩ : ∃ n, Hid (l.length = n) := ⟨_, rfl⟩
    rw [HN.out] at good ⊢
    clear hno hx hz T w0 w2 w3 w4 w5
    by_cases c0 : (n : Int) = 0
    · have d0 : ((n : Int) == 0) = true := by rw [beq_iff_eq]; exact c0
      clear good
      obtain rfl : n = 0 := by omega
      go_enter Tryd.func4, Tryd.ntmps4
      go_wp2_with fail
      refine (BC.out _).mono ?_
      rintro e q1 ⟨rfl, hb⟩
      have B1 : Hid (Below w.heap.size w q1) := hb
      clear hb
      go_wp2
      go_ret
      exact ⟨rfl, B1.out⟩
    have d0 : ((n : Int) == 0) = false := by rw [beq_eq_false_iff_ne]; exact c0
    by_cases c1 : 200 < (n : Int)
    · have d1 : decide (200 < (n : Int)) = true := decide_eq_true c1
      clear good
      go_enter Tryd.func4, Tryd.ntmps4
      go_wp2_with fail
      refine (BC.out _).mono ?_
      rintro e q1 ⟨rfl, hb⟩
      have B1 : Hid (Below w.heap.size w q1) := hb
      clear hb
      go_wp2
      go_ret
      exact ⟨rfl, B1.out⟩
    have d1 : decide (200 < (n : Int)) = false := decide_eq_false c1
    by_cases c2 : i < 0
    · have d2 : decide (i < 0) = true := decide_eq_true c2
      clear good
      go_enter Tryd.func4, Tryd.ntmps4
      go_wp2_with fail
      refine (BC.out _).mono ?_
      rintro e q1 ⟨rfl, hb⟩
      have B1 : Hid (Below w.heap.size w q1) := hb
      clear hb
      go_wp2
      go_ret
      exact ⟨rfl, B1.out⟩
    have d2 : decide (i < 0) = false := decide_eq_false c2
    by_cases c3 : (n : Int) ≤ i
    · have d3 : decide ((n : Int) ≤ i) = true := decide_eq_true c3
      clear good
      go_enter Tryd.func4, Tryd.ntmps4
      go_wp2_with fail
      refine (BC.out _).mono ?_
      rintro e q1 ⟨rfl, hb⟩
      have B1 : Hid (Below w.heap.size w q1) := hb
      clear hb
      go_wp2
      go_ret
      exact ⟨rfl, B1.out⟩
    have d3 : decide ((n : Int) ≤ i) = false := decide_eq_false c3
    by_cases c4 : m < 0
    · have d4 : decide (m < 0) = true := decide_eq_true c4
      clear good
      go_enter Tryd.func4, Tryd.ntmps4
      go_wp2_with fail
      refine (BC.out _).mono ?_
      rintro e q1 ⟨rfl, hb⟩
      have B1 : Hid (Below w.heap.size w q1) := hb
      clear hb
      go_wp2
      go_ret
      exact ⟨rfl, B1.out⟩
    have d4 : decide (m < 0) = false := decide_eq_false c4
    by_cases c5 : (n : Int) < m
    · have d5 : decide ((n : Int) < m) = true := decide_eq_true c5
      clear good
      go_enter Tryd.func4, Tryd.ntmps4
      go_wp2_with fail
      refine (BC.out _).mono ?_
      rintro e q1 ⟨rfl, hb⟩
      have B1 : Hid (Below w.heap.size w q1) := hb
      clear hb
      go_wp2
      go_ret
      exact ⟨rfl, B1.out⟩
    have d5 : decide ((n : Int) < m) = false := decide_eq_false c5
    by_cases c6 : h ≤ i
    · have d6 : decide (h ≤ i) = true := decide_eq_true c6
      clear good
      go_enter Tryd.func4, Tryd.ntmps4
      go_wp2_with fail
      refine (BC.out _).mono ?_
      rintro e q1 ⟨rfl, hb⟩
      have B1 : Hid (Below w.heap.size w q1) := hb
      clear hb
      go_wp2
      go_ret
      exact ⟨rfl, B1.out⟩
    have d6 : decide (h ≤ i) = false := decide_eq_false c6
    by_cases c7 : (n : Int) < h
    · have d7 : decide ((n : Int) < h) = true := decide_eq_true c7
      clear good
      go_enter Tryd.func4, Tryd.ntmps4
      go_wp2_with fail
      refine (BC.out _).mono ?_
      rintro e q1 ⟨rfl, hb⟩
      have B1 : Hid (Below w.heap.size w q1) := hb
      clear hb
      go_wp2
      go_ret
      exact ⟨rfl, B1.out⟩
    have d7 : decide ((n : Int) < h) = false := decide_eq_false c7
    omega
end Go.Proofs.YthmfljjpanghgaaDoor.zn
