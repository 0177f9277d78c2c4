import Derived.Test.YtgjjimbleliklaaDoorD6
import Derived.Deep.DeepCutAuto
import Derived.Test.YtgjjimbleliklaaDoorD3
namespace Go.Proofs.YtgjjimbleliklaaDoor.ru
open Go.RowKit Go.PlainAid
open Go.Proofs.YtgjjimbleliklaaDoor.pl Go.Proofs.YtgjjimbleliklaaDoor.pi Go.Proofs.YtgjjimbleliklaaDoor.pj Go.Proofs.YtgjjimbleliklaaDoor.rf Go.Proofs.YtgjjimbleliklaaDoor.ca Go.Proofs.YtgjjimbleliklaaDoor.cb Go.Proofs.YtgjjimbleliklaaDoor.cp Go.Proofs.YtgjjimbleliklaaDoor.cs Go.Proofs.YtgjjimbleliklaaDoor.kb Go.Proofs.YtgjjimbleliklaaDoor.ka Go.Proofs.YtgjjimbleliklaaDoor.ga Go.Proofs.YtgjjimbleliklaaDoor.gb Go.Proofs.YtgjjimbleliklaaDoor.na Go.Proofs.YtgjjimbleliklaaDoor.nb Go.Proofs.YtgjjimbleliklaaDoor.nc Go.Proofs.YtgjjimbleliklaaDoor.oa Go.Proofs.YtgjjimbleliklaaDoor.ob Go.Proofs.YtgjjimbleliklaaDoor.qa Go.Proofs.YtgjjimbleliklaaDoor.qb Go.Proofs.YtgjjimbleliklaaDoor.qc Go.Proofs.YtgjjimbleliklaaDoor.qd Go.Proofs.YtgjjimbleliklaaDoor.rg Go.Proofs.YtgjjimbleliklaaDoor.rl Go.Proofs.YtgjjimbleliklaaDoor.rm Go.Proofs.YtgjjimbleliklaaDoor.rn Go.Proofs.YtgjjimbleliklaaDoor.ro Go.Proofs.YtgjjimbleliklaaDoor.rq
set_option linter.unusedVariables false

set_option maxHeartbeats 6400000 in
set_option maxRecDepth 100000 in
theorem rPush (RB : BehindC) (wd lo hi : Int) (u : Value) (hs : List ByteArray) (h : ByteArray) (w : World) (hlo : i64 lo) (hhi : i64 hi) (hT : Tab4 w) (hR : ReadsT w u hs) (hf : Fits hs) (hh : h.size ≤ 140737488352000) :
    Calls Tryd.prog 18 #[.int .i64 wd, FV lo hi u, .string h] w fun e w' => Go.Proofs.YtgjjimbleliklaaDoor.ob.Told w w' e (pick (pushE wd lo hi hs h) lo 0) (pick (pushE wd lo hi hs h) (hi + 1) 0) (pick (pushE wd lo hi hs h) (labs (pushR wd lo hi hs h).1) []) (pick (pushE wd lo hi hs h) (pushR wd lo hi hs h).2 []) (pushE wd lo hi hs h) ∧ Below w.heap.size w w' := by
  have HRD : Hid (ReadsT w u hs) := hR
  have HT : Hid (Tab4 w) := hT
  have F1 : Fx (w.alloc (.cells #[.int .i64 lo, .int .i64 hi, u] 24)) w.heap.size lo hi u := fx_new _ _ _ _
  have F3 := fx_new (w.alloc (.cells #[.int .i64 lo, .int .i64 hi, u] 24)) 0 0 (.slice none 0 0)
  rw [show (w.alloc (.cells #[.int .i64 lo, .int .i64 hi, u] 24)).heap.size = w.heap.size + 1 by simp] at F3
  have F1 := F1.on ((Below.refl _ _).alloc (Nat.le_refl _) (.cells #[.int .i64 0, .int .i64 0, .slice none 0 0] 24))
  have B0 : Below w.heap.size w ((w.alloc (.cells #[.int .i64 lo, .int .i64 hi, u] 24)).alloc (.cells #[.int .i64 0, .int .i64 0, .slice none 0 0] 24)) := ((Below.refl _ _).alloc (Nat.le_refl _) _).alloc (by simp) _
  obtain ⟨W0, HW0⟩ : ∃ W0, (w.alloc (.cells #[.int .i64 lo, .int .i64 hi, u] 24)).alloc (.cells #[.int .i64 0, .int .i64 0, .slice none 0 0] 24) = W0 := ⟨_, rfl⟩
  rw [HW0] at F1 F3 B0
  have hsz : W0.heap.size = w.heap.size + 2 := by rw [← HW0]; simp
  have HF1 : Hid (Fx W0 w.heap.size lo hi u) := F1
  have HF3 : Hid (Fx W0 (w.heap.size + 1) 0 0 (.slice none 0 0)) := F3
  have HB0 : Hid (Below w.heap.size w W0) := B0
  have HSZ : Hid (W0.heap.size = w.heap.size + 2) := hsz
  have C1 : Hid (Calls _ _ _ _ _) := rCheck wd lo hi hlo hhi u hs W0 (hR.later B0) hf
  have HG1 : Hid (chkE wd lo hi hs = 0 → GoodF wd lo hi hs) := chk_ok.1
  obtain ⟨E, HE⟩ : ∃ E, Hid (pushE wd lo hi hs h = E) := ⟨_, rfl⟩
  obtain ⟨V, HV⟩ : ∃ V, Hid (wid wd = V) := ⟨_, rfl⟩
  have C2 : Hid (∀ W, Calls _ _ _ _ _) := fun W => rWidth wd W
  rw [HV.out] at C2
  have HE1 : Hid (E = if chkE wd lo hi hs = 0 then (if h.size = V then (if hi = 4611686018427387904 then 10 else 0) else 72) else chkE wd lo hi hs) := by show _ = _; rw [← HE.out, ← HV.out]; rfl
  rw [HE.out]
  obtain ⟨R1, HR1⟩ : ∃ R, Hid (chkE wd lo hi hs = R) := ⟨_, rfl⟩
  rw [HR1.out] at C1 HE1 HG1
  obtain ⟨P1, HP1⟩ : ∃ P, Hid (pick E lo 0 = P) := ⟨_, rfl⟩
  obtain ⟨P2, HP2⟩ : ∃ P, Hid (pick E (hi + 1) 0 = P) := ⟨_, rfl⟩
  obtain ⟨P3, HP3⟩ : ∃ P, Hid (pick E (labs (pushR wd lo hi hs h).1) [] = P) := ⟨_, rfl⟩
  obtain ⟨P4, HP4⟩ : ∃ P, Hid (pick E (pushR wd lo hi hs h).2 [] = P) := ⟨_, rfl⟩
  rw [HP1.out, HP2.out, HP3.out, HP4.out]
  have NO : Hid (E ≠ 0 → P1 = 0 ∧ P2 = 0 ∧ P3 = [] ∧ P4 = []) := fun h => by
    rw [← HP1.out, ← HP2.out, ← HP3.out, ← HP4.out]
    unfold pick
    rw [if_neg h, if_neg h, if_neg h, if_neg h]
    exact ⟨rfl, rfl, rfl, rfl⟩
  obtain ⟨a, cap, rfl, hcap, _⟩ := hR
  obtain ⟨n, HN⟩ : ∃ n, Hid (hs.length = n) := ⟨_, rfl⟩
  rw [HN.out] at HRD HF1 C1 HW0 ⊢
  obtain ⟨d1, d2, d3⟩ := HF1.out.fb
  have OP1 : Hid (∀ W, Below w.heap.size w W → (covI lo hi).length = hs.length → Calls _ _ _ _ _) := fun W hW hl => ropen lo hi hlo hhi (.slice a n cap) hs W (HRD.out.later hW) hl
  clear hT hf F1 F3 B0 hsz hcap hlo hhi
  by_cases h1 : R1 = 0
  · subst h1
    have G1 : Hid (GoodF wd lo hi hs) := HG1.out rfl
    by_cases h2 : h.size = V
    · have HVV : Hid (h.size = V) := h2
      have q2 : ((h.size : Int) == (V : Int)) = true := by rw [beq_iff_eq, h2]
      clear h2
      by_cases h3 : hi = 4611686018427387904
      · have q3 : (hi == 4611686018427387904) = true := by rw [beq_iff_eq]; exact h3
        have HEE : Hid (E = 10) := by rw [HE1.out, if_pos rfl, if_pos HVV.out, if_pos h3]; rfl
        have HPP : Hid (_ ∧ _ ∧ _ ∧ _) := NO.out (by rw [HEE.out]; decide)
        clear h3
        go_enter Tryd.func18, Tryd.ntmps18
        go_wp2_with fail
        refine C1.out.mono ?_
        rintro e w2 ⟨rfl, hb⟩
        have B2 : Hid (Below w.heap.size w w2) := over HB0.out hb
        have HS2 : Hid (W0.heap.size ≤ w2.heap.size) := hb.size
        have FA : Hid (Fx w2 _ _ _ _) := HF1.out.on hb
        have FC : Hid (Fx w2 _ _ _ _) := HF3.out.on hb
        clear hb d1 d2 d3
        go_wp2_with fail
        refine (C2.out _).mono ?_
        rintro e w3 ⟨rfl, hw⟩
        rw [hw]
        clear hw
        obtain ⟨j1, j2, j3⟩ := FA.out.fb
        have FR := FC.out
        have f0 := frozen_of_row w2 (w.heap.size + 1) 0 _ _ FR
        have f1 := frozen_of_row w2 (w.heap.size + 1) 1 _ _ FR
        have f2 := frozen_of_row w2 (w.heap.size + 1) 2 _ _ FR
        obtain ⟨d1, d2, d3⟩ := FR.fb
        have O1 := fx_set FR 0 0 (.slice none 0 0)
        have O3 : Hid (Below w.heap.size w (set3 w2 (w.heap.size + 1) (.int .i64 0) (.int .i64 0) (.slice none 0 0))) := below_set3 B2.out (by omega) _ _ _
        obtain ⟨g1, g2, g3⟩ := O1.fb
        clear O1 FR
        go_wp2
        unfold set3 at g1 g2 g3 O3
        generalize World.setCell _ _ _ = wy at g1 g2 g3 O3 ⊢
        (try simp only [Exit.inBlock, Exit.then])
        refine bodyPost_ret (by simp [results, Tryd.results18, go_sem, g1, g2, g3]; try rfl) rfl ?_
        rw [HPP.out.2.2.1, HPP.out.2.2.2]
        exact ⟨⟨_, _, by rw [HPP.out.1, HPP.out.2.1, HEE.out], World.ownsRow_nil _ _ _ _, World.ownsRow_nil _ _ _ _⟩, O3.out⟩
      · obtain ⟨b0, rfl⟩ : ∃ m : Nat, hi = m := by obtain ⟨_, b, _, e, _⟩ := good_form G1.out; exact ⟨b, e⟩
        have hb62 : b0 < 4611686018427387904 := by obtain ⟨_, b, _, e, _, e2, _⟩ := good_form G1.out; omega
        have HL1 : Hid (hs.length ≤ 122) := by obtain ⟨_, _, _, _, _, _, h⟩ := good_form G1.out; exact h
        have HEE : Hid (E = 0) := by rw [HE1.out, if_pos rfl, if_pos HVV.out, if_neg h3]; rfl
        have HPP : Hid (P1 = lo ∧ P2 = (b0 : Int) + 1 ∧ P3 = labs (pushR wd lo b0 hs h).1 ∧ P4 = (pushR wd lo b0 hs h).2) := by
          rw [← HP1.out, ← HP2.out, ← HP3.out, ← HP4.out, HEE.out]
          exact ⟨rfl, rfl, rfl, rfl⟩
        have HSX : Hid (Small ((0, b0), h)) := ⟨by show 0 ≤ 126; omega, by show b0 ≤ _; omega, by show h.size ≤ 32; rw [HVV.out, ← HV.out]; have := wid_in wd; omega⟩
        have q3 : ((b0 : Int) == 4611686018427387904) = false := by rw [beq_eq_false_iff_ne]; omega
        have hwb : IntKind.i64.wrap ((b0 : Int) + 1) = (b0 : Int) + 1 := by unfold IntKind.wrap; simp [IntKind.bits, IntKind.signed]; omega
        clear h3
        go_enter Tryd.func18, Tryd.ntmps18
        go_wp2_with fail
        refine C1.out.mono ?_
        rintro e w2 ⟨rfl, hb⟩
        have B2 : Hid (Below w.heap.size w w2) := over HB0.out hb
        have HS2 : Hid (W0.heap.size ≤ w2.heap.size) := hb.size
        have FA : Hid (Fx w2 _ _ _ _) := HF1.out.on hb
        have FC : Hid (Fx w2 _ _ _ _) := HF3.out.on hb
        clear hb d1 d2 d3
        go_wp2_with fail
        refine (C2.out _).mono ?_
        rintro e w3 ⟨rfl, hw⟩
        rw [hw]
        clear hw
        obtain ⟨j1, j2, j3⟩ := FA.out.fb
        have O3 : Hid (Calls _ _ _ _ _) := OP1.out w2 B2.out G1.out.2.1
        go_wp2_with fail
        refine O3.out.mono ?_
        rintro e w4 ⟨⟨m, rfl, hm⟩, hb4⟩
        obtain ⟨ma, mc, rfl⟩ := own_formS hm
        obtain ⟨l1, HLL1⟩ : ∃ l, Hid ((opened lo b0 hs).length = l) := ⟨_, rfl⟩
        rw [HLL1.out] at hm ⊢
        have B4 : Hid (Below w.heap.size w w4) := over B2.out hb4
        have A5 : Below w4.heap.size w4 (w4.alloc (.cells #[.slice ma l1 mc, .slice none 0 0] 62)) := (Below.refl _ _).alloc (Nat.le_refl _) _
        have FA5 : Hid (Fx (w4.alloc (.cells #[.slice ma l1 mc, .slice none 0 0] 62)) _ _ _ _) := (FA.out.on hb4).on A5
        have FC5 : Hid (Fx (w4.alloc (.cells #[.slice ma l1 mc, .slice none 0 0] 62)) _ _ _ _) := (FC.out.on hb4).on A5
        obtain ⟨p1, p2, p3⟩ := FA5.out.fb
        have SZ3 : Hid (w.heap.size + 2 ≤ w2.heap.size) := by have h1 := HS2.out; have h3 := HSZ.out; show _ ≤ _; omega
        have SZ4 : Hid (w2.heap.size ≤ w4.heap.size) := hb4.size
        have D0 : Hid (Dm w (w4.alloc (.cells #[.slice ma l1 mc, .slice none 0 0] 62)) w4.heap.size (.slice ma l1 mc) (.slice none 0 0) (.slice none 0 0) (opened lo b0 hs) [] [] (fun W => Fx W w.heap.size lo b0 (.slice a n cap) ∧ Fx W (w.heap.size + 1) 0 0 (.slice none 0 0))) := by
          have z3 := SZ3.out
          have z4 := SZ4.out
          refine ⟨over B4.out A5, heap_alloc_new _ _, (hm.down (by omega)).later A5, World.ownsRow_nil _ _ _ _, World.ownsRow_nil _ _ _ _, ?_, (fun g e => by cases e), by omega, FA5.out, FC5.out⟩
          cases ma with
          | none => exact .inl rfl
          | some _ => exact .inr (fun e => by cases e)
        have hl1' : l1 ≤ 122 := by rw [← HLL1.out, opened_len G1.out]; exact HL1.out
        have HSM : ∀ n ∈ ((0, b0), h) :: opened lo b0 hs, Small n := by
          intro n hn
          rcases List.mem_cons.1 hn with rfl | hn
          · exact HSX.out
          · exact small_open G1.out n hn
        have HD1 := D0.out
        have C : Hid (Calls Tryd.prog 26 #[.pointer (some ⟨w4.heap.size, 0, none⟩), .int .i64 wd, .agg #[.int .i64 0, .int .i64 (b0 : Int), .string h]] _ _) := RB wd w.heap.size w4.heap.size ((0, b0), h) (.slice ma l1 mc) (.slice none 0 0) (opened lo b0 hs) [] (w4.alloc (.cells #[.slice ma l1 mc, .slice none 0 0] 62)) (HT.out.down HD1.b) HD1.r HD1.n HD1.m HD1.ap HD1.b.size HSM (by rw [HLL1.out]; omega) (by simp) (fun w' hw => HT.out.down (HD1.b.trans (hw.below HD1.b.size HD1.hp (fun g e => (World.ownsRow.lt HD1.n g e).1) (fun g e => (World.ownsRow.lt HD1.m g e).1))))
        obtain ⟨R, HRR⟩ : ∃ R, Hid (joinR (NF wd) (opened lo b0 hs).reverse ((0, b0), h) = R) := ⟨_, rfl⟩
        rw [HRR.out, List.nil_append] at C
        have HRM : Hid (pushR wd lo b0 hs h = R) := HRR.out
        have hcnt : R.1.length + R.2.length ≤ 244 := by
          rw [← HRR.out]
          have := joinR_count (NF wd) (opened lo b0 hs).reverse ((0, b0), h)
          rw [List.length_reverse, HLL1.out] at this
          omega
        rw [HRM.out] at HPP
        clear HD1 HSM hm hb4 A5 FA5 FC5 j1 j2 j3
        go_wp2_with fail
        refine C.out.mono ?_
        rintro e wr ⟨rfl, vn7, vw7, hS7⟩
        have HD3 : Hid (Dm _ wr _ _ _ _ _ _ _ _) := D0.out.next hS7 (fun hh => by
          have z3 := SZ3.out
          have z4 := SZ4.out
          obtain ⟨f1, f2⟩ := D0.out.k
          exact ⟨(hh _ f1.lt (by omega) (fx_farM f1 D0.out.n) (fx_farM f1 D0.out.m)).trans f1, (hh _ f2.lt (by omega) (fx_farM f2 D0.out.n) (fx_farM f2 D0.out.m)).trans f2⟩)
        clear hS7 p1 p2 p3 D0
        have HD1 := HD3.out
        obtain ⟨na, nc, rfl⟩ := own_formS HD1.n
        obtain ⟨wa, wc', rfl⟩ := own_formS HD1.m
        obtain ⟨f1, f2⟩ := HD1.k
        have FRC : Hid (∀ W, Below wr.heap.size wr W → Calls _ _ _ _ _) := fun W hW => rfrontier lo ((b0 : Int) + 1) (.slice na R.1.reverse.length nc) R.1.reverse W (HD1.n.reads.later hW) (by rw [List.length_reverse]; omega)
        obtain ⟨ln, HLN⟩ : ∃ l, Hid (R.1.reverse.length = l) := ⟨_, rfl⟩
        obtain ⟨lm, HLM⟩ : ∃ l, Hid (R.2.length = l) := ⟨_, rfl⟩
        have HD2 : Hid (Dm _ _ _ _ _ _ _ _ _ _) := HD1
        rw [HLN.out] at HD2 FRC
        rw [HLM.out] at HD2
        have SS : Hid (∀ W, Below wr.heap.size wr W → W.cell? ⟨w.heap.size, 0, none⟩ = some (.int .i64 lo) ∧ W.cell? ⟨w.heap.size, 1, none⟩ = some (.int .i64 (b0 : Int)) ∧ W.cell? ⟨w4.heap.size, 0, none⟩ = some (.slice na ln nc)) := fun W hW => ⟨(f1.on hW).fb.x, (f1.on hW).fb.y, by have h := Rx.one ((hW.block _ HD2.out.r.lt).trans HD2.out.r); exact h⟩
        obtain ⟨lt, HLT⟩ : ∃ l, Hid ((R.1.reverse.map Prod.snd).length = l) := ⟨_, rfl⟩
        have FR3 : Hid (Fx wr (w.heap.size + 1) 0 0 (.slice none 0 0)) := f2
        have S4 : Hid (∀ W, Hb wr W → Hb wr W ∧ W.cell? ⟨w.heap.size, 0, none⟩ = some (.int .i64 lo) ∧ W.cell? ⟨w.heap.size, 1, none⟩ = some (.int .i64 (b0 : Int)) ∧ W.cell? ⟨w4.heap.size, 0, none⟩ = some (.slice na ln nc)) := fun W hW => ⟨hW, SS.out W hW⟩
        have HWE : Hid (w.heap.size ≤ wr.heap.size) := HD1.b.size
        clear HD1 f1 f2 SS HD3
        go_wp2_with fail
        go_cut [11] (fun s13 wx => ∃ g va vl vc, s13 = .pointer (some ⟨g, 0, none⟩) ∧ Hid (Gx wr lo ((b0 : Int) + 1) (R.1.reverse.map Prod.snd) [] g (.slice va vl vc) (.slice none 0 0) wx))
        case first =>
          go_region_held3 (fun W => Hb wr W ∧ W.cell? ⟨w.heap.size, 0, none⟩ = some (.int .i64 lo) ∧ W.cell? ⟨w.heap.size, 1, none⟩ = some (.int .i64 (b0 : Int)) ∧ W.cell? ⟨w4.heap.size, 0, none⟩ = some (.slice na ln nc)) (first | exact S4.out _ (Hb.drew _) | exact S4.out _ HWF.out | exact S4.out _ (Hb.alloc HWF.out _) | exact S4.out _ (Hb.set HWF.out (Nat.le_refl _) _ _ _) | exact S4.out _ (Hb.alloc (And.left (by assumption)) _)) ((first
            | (go_at_call 27
               refine (FRC.out _ (And.left (by assumption))).mono ?_
               rintro e wf ⟨⟨v, rfl, tv⟩, hbf⟩
               obtain ⟨va, vc, rfl⟩ := own_formS tv
               rw [HLT.out] at tv ⊢
               have HWF : Hid (Hb wr wf) := Hb.on (And.left (by assumption)) hbf
               try
                (have Z0 : Fx wf wr.heap.size 0 0 (.slice none 0 0) := zedA hbf
                 have z0 := Z0.fb.x
                 have z1 := Z0.fb.y
                 have z2 := Z0.fb.z
                 have y0 := frozen_of_row wf wr.heap.size 0 _ _ Z0
                 have y1 := frozen_of_row wf wr.heap.size 1 _ _ Z0
                 have y2 := frozen_of_row wf wr.heap.size 2 _ _ Z0
                 have HZ0 : Hid (Fx wf wr.heap.size 0 0 (.slice none 0 0)) := Z0
                 clear Z0))))
          all_goals
            go_wp2_with fail
            go_meet
            first
            | exact ⟨_, _, _, _, rfl, gx_alloc HWF.out (Nat.le_refl _) tv (World.ownsRow_nil _ _ _ _)⟩
            | exact ⟨_, _, _, _, rfl, gx_set HWF.out (Nat.le_of_lt (by simp)) HZ0.out tv (World.ownsRow_nil _ _ _ _)⟩
        case rest =>
        as_aux_lemma =>
        obtain ⟨g, va, vl, vc, rfl, HG⟩ := hcut
        obtain ⟨g1, g2, g3⟩ := HG.out.2.2.1.fb
        have p1 := Rx.two ((HG.out.1.block _ HD2.out.r.lt).trans HD2.out.r)
        have FF := FR3.out.on HG.out.1
        have f0 := frozen_of_row wc (w.heap.size + 1) 0 _ _ FF
        have f1 := frozen_of_row wc (w.heap.size + 1) 1 _ _ FF
        have f2 := frozen_of_row wc (w.heap.size + 1) 2 _ _ FF
        obtain ⟨d1, d2, d3⟩ := FF.fb
        have O1 := fx_set FF lo ((b0 : Int) + 1) (.slice va vl vc)
        have O2 : Hid (Texts (set3 wc (w.heap.size + 1) (.int .i64 lo) (.int .i64 ((b0 : Int) + 1)) (.slice va vl vc)) w.heap.size (.slice va vl vc) (R.1.reverse.map Prod.snd)) := own_set3 (HG.out.2.2.2.1.down HWE.out) FF (by decide) _ _ _
        have O4 : Hid (Mades (set3 wc (w.heap.size + 1) (.int .i64 lo) (.int .i64 ((b0 : Int) + 1)) (.slice va vl vc)) w.heap.size (.slice wa lm wc') R.2) := own_set3 (HD2.out.m.later HG.out.1) FF (by decide) _ _ _
        have O3 : Hid (Below w.heap.size w (set3 wc (w.heap.size + 1) (.int .i64 lo) (.int .i64 ((b0 : Int) + 1)) (.slice va vl vc))) := below_set3 (over HD2.out.b HG.out.1) (by omega) _ _ _
        obtain ⟨t1, t2, t3⟩ := O1.fb
        clear O1 FF
        have px : ((wc.setCell ⟨w.heap.size + 1, 0, none⟩ (.int .i64 lo)).setCell ⟨w.heap.size + 1, 1, none⟩ (.int .i64 ((b0 : Int) + 1))).cell? ⟨w4.heap.size, 1, none⟩ = some (.slice wa lm wc') := by
          have z3 := SZ3.out
          have z4 := SZ4.out
          exact (World.cell?_of_block (a := ⟨w4.heap.size, 1, none⟩) ((Below.heap_setCell _ _ _ _ (by show w4.heap.size ≠ w.heap.size + 1; omega)).trans (Below.heap_setCell _ _ _ _ (by show w4.heap.size ≠ w.heap.size + 1; omega)))).trans p1
        go_wp2_with fail
        go_region
        all_goals
          go_wp2
          unfold set3 at t1 t2 t3 O2 O3 O4
          generalize World.setCell _ _ _ = wy at t1 t2 t3 O2 O3 O4 ⊢
          (try simp only [Exit.inBlock, Exit.then])
          refine bodyPost_ret (by simp [results, Tryd.results18, go_sem, t1, t2, t3]; try rfl) rfl ?_
          rw [HPP.out.2.2.1, HPP.out.2.2.2]
          exact ⟨⟨_, _, by rw [HPP.out.1, HPP.out.2.1, HEE.out], World.ownsRow.drew O2.out, World.ownsRow.drew O4.out⟩, below_dN O3.out 1⟩
    · have q2 : ((h.size : Int) == (V : Int)) = false := by rw [beq_eq_false_iff_ne]; omega
      have HEE : Hid (E = 72) := by rw [HE1.out, if_pos rfl, if_neg h2]; rfl
      have HPP : Hid (_ ∧ _ ∧ _ ∧ _) := NO.out (by rw [HEE.out]; decide)
      clear h2
      go_enter Tryd.func18, Tryd.ntmps18
      go_wp2_with fail
      refine C1.out.mono ?_
      rintro e w2 ⟨rfl, hb⟩
      have B2 : Hid (Below w.heap.size w w2) := over HB0.out hb
      have HS2 : Hid (W0.heap.size ≤ w2.heap.size) := hb.size
      have FA : Hid (Fx w2 _ _ _ _) := HF1.out.on hb
      have FC : Hid (Fx w2 _ _ _ _) := HF3.out.on hb
      clear hb d1 d2 d3
      go_wp2_with fail
      refine (C2.out _).mono ?_
      rintro e w3 ⟨rfl, hw⟩
      rw [hw]
      clear hw
      obtain ⟨j1, j2, j3⟩ := FA.out.fb
      have FR := FC.out
      have f0 := frozen_of_row w2 (w.heap.size + 1) 0 _ _ FR
      have f1 := frozen_of_row w2 (w.heap.size + 1) 1 _ _ FR
      have f2 := frozen_of_row w2 (w.heap.size + 1) 2 _ _ FR
      obtain ⟨d1, d2, d3⟩ := FR.fb
      have O1 := fx_set FR 0 0 (.slice none 0 0)
      have O3 : Hid (Below w.heap.size w (set3 w2 (w.heap.size + 1) (.int .i64 0) (.int .i64 0) (.slice none 0 0))) := below_set3 B2.out (by omega) _ _ _
      obtain ⟨g1, g2, g3⟩ := O1.fb
      clear O1 FR
      go_wp2
      unfold set3 at g1 g2 g3 O3
      generalize World.setCell _ _ _ = wy at g1 g2 g3 O3 ⊢
      (try simp only [Exit.inBlock, Exit.then])
      refine bodyPost_ret (by simp [results, Tryd.results18, go_sem, g1, g2, g3]; try rfl) rfl ?_
      rw [HPP.out.2.2.1, HPP.out.2.2.2]
      exact ⟨⟨_, _, by rw [HPP.out.1, HPP.out.2.1, HEE.out], World.ownsRow_nil _ _ _ _, World.ownsRow_nil _ _ _ _⟩, O3.out⟩
  · have q1 : (R1 == 0) = false := by rw [beq_eq_false_iff_ne]; exact h1
    have HEE : Hid (E = R1) := by rw [HE1.out, if_neg h1]; rfl
    have HPP : Hid (_ ∧ _ ∧ _ ∧ _) := NO.out (by rw [HEE.out]; exact h1)
    clear h1
    go_enter Tryd.func18, Tryd.ntmps18
    go_wp2_with fail
    refine C1.out.mono ?_
    rintro e w2 ⟨rfl, hb⟩
    have B2 : Hid (Below w.heap.size w w2) := over HB0.out hb
    have HS2 : Hid (W0.heap.size ≤ w2.heap.size) := hb.size
    have FA : Hid (Fx w2 _ _ _ _) := HF1.out.on hb
    have FC : Hid (Fx w2 _ _ _ _) := HF3.out.on hb
    clear hb d1 d2 d3
    have FR := FC.out
    have f0 := frozen_of_row w2 (w.heap.size + 1) 0 _ _ FR
    have f1 := frozen_of_row w2 (w.heap.size + 1) 1 _ _ FR
    have f2 := frozen_of_row w2 (w.heap.size + 1) 2 _ _ FR
    obtain ⟨d1, d2, d3⟩ := FR.fb
    have O1 := fx_set FR 0 0 (.slice none 0 0)
    have O3 : Hid (Below w.heap.size w (set3 w2 (w.heap.size + 1) (.int .i64 0) (.int .i64 0) (.slice none 0 0))) := below_set3 B2.out (by omega) _ _ _
    obtain ⟨g1, g2, g3⟩ := O1.fb
    clear O1 FR
    go_wp2
    unfold set3 at g1 g2 g3 O3
    generalize World.setCell _ _ _ = wy at g1 g2 g3 O3 ⊢
    (try simp only [Exit.inBlock, Exit.then])
    refine bodyPost_ret (by simp [results, Tryd.results18, go_sem, g1, g2, g3]; try rfl) rfl ?_
    rw [HPP.out.2.2.1, HPP.out.2.2.2]
    exact ⟨⟨_, _, by rw [HPP.out.1, HPP.out.2.1, HEE.out], World.ownsRow_nil _ _ _ _, World.ownsRow_nil _ _ _ _⟩, O3.out⟩
end Go.Proofs.YtgjjimbleliklaaDoor.ru

namespace Go.Proofs.YtgjjimbleliklaaDoor.rw
open Go.RowKit Go.PlainAid
open Go.Proofs.YtgjjimbleliklaaDoor.pl Go.Proofs.YtgjjimbleliklaaDoor.pi Go.Proofs.YtgjjimbleliklaaDoor.pj Go.Proofs.YtgjjimbleliklaaDoor.rf Go.Proofs.YtgjjimbleliklaaDoor.ca Go.Proofs.YtgjjimbleliklaaDoor.cb Go.Proofs.YtgjjimbleliklaaDoor.cp Go.Proofs.YtgjjimbleliklaaDoor.cs Go.Proofs.YtgjjimbleliklaaDoor.ka Go.Proofs.YtgjjimbleliklaaDoor.kb Go.Proofs.YtgjjimbleliklaaDoor.ga Go.Proofs.YtgjjimbleliklaaDoor.gb Go.Proofs.YtgjjimbleliklaaDoor.na Go.Proofs.YtgjjimbleliklaaDoor.nb Go.Proofs.YtgjjimbleliklaaDoor.nc Go.Proofs.YtgjjimbleliklaaDoor.oa Go.Proofs.YtgjjimbleliklaaDoor.ob Go.Proofs.YtgjjimbleliklaaDoor.qa Go.Proofs.YtgjjimbleliklaaDoor.qb Go.Proofs.YtgjjimbleliklaaDoor.qc Go.Proofs.YtgjjimbleliklaaDoor.rg Go.Proofs.YtgjjimbleliklaaDoor.rh Go.Proofs.YtgjjimbleliklaaDoor.ri Go.Proofs.YtgjjimbleliklaaDoor.rk Go.Proofs.YtgjjimbleliklaaDoor.rj Go.Proofs.YtgjjimbleliklaaDoor.rq
set_option linter.unusedVariables false

set_option maxHeartbeats 800000 in
theorem rStart (q : Int) (w : World) : Calls Tryd.prog 15 #[.int .i64 q] w fun e w' => e = .returned (.tuple #[FV (if 0 ≤ q ∧ q ≤ 4611686018427387904 then q else 0) (if 0 ≤ q ∧ q ≤ 4611686018427387904 then q else 0) (.slice none 0 0), .int .i64 (if 0 ≤ q ∧ q ≤ 4611686018427387904 then 0 else 10)]) ∧ Below w.heap.size w w' := by
  have F0 : Fx (w.alloc (.cells #[.int .i64 0, .int .i64 0, .slice none 0 0] 24)) w.heap.size 0 0 (.slice none 0 0) := fx_new _ _ _ _
  have F1 : Fx (w.alloc (.cells #[.int .i64 q, .int .i64 q, .slice none 0 0] 24)) w.heap.size q q (.slice none 0 0) := fx_new _ _ _ _
  have B0 : Hid (∀ o, Below w.heap.size w (w.alloc o)) := fun o => (Below.refl _ _).alloc (Nat.le_refl _) _
  obtain ⟨g1, g2, g3⟩ := F0.fb
  obtain ⟨k1, k2, k3⟩ := F1.fb
  clear F0 F1
  by_cases h1 : q < 0
  · rw [if_neg (by omega), if_neg (by omega)]
    go_enter Tryd.func15, Tryd.ntmps15
    go_wp2
    (try simp only [Exit.inBlock, Exit.then])
    refine bodyPost_ret (by simp [results, Tryd.results15, go_sem, g1, g2, g3]; try rfl) rfl ?_
    exact ⟨rfl, B0.out _⟩
  · by_cases h2 : 4611686018427387904 < q
    · rw [if_neg (by omega), if_neg (by omega)]
      go_enter Tryd.func15, Tryd.ntmps15
      go_wp2
      (try simp only [Exit.inBlock, Exit.then])
      refine bodyPost_ret (by simp [results, Tryd.results15, go_sem, g1, g2, g3]; try rfl) rfl ?_
      exact ⟨rfl, B0.out _⟩
    · rw [if_pos (by omega), if_pos (by omega)]
      go_enter Tryd.func15, Tryd.ntmps15
      go_wp2
      (try simp only [Exit.inBlock, Exit.then])
      refine bodyPost_ret (by simp [results, Tryd.results15, go_sem, k1, k2, k3]; try rfl) rfl ?_
      exact ⟨rfl, B0.out _⟩
theorem push_len (wd lo hi : Int) (hs : List ByteArray) (h : ByteArray) : (pick (pushE wd lo hi hs h) (labs (pushR wd lo hi hs h).1) []).length ≤ 244 ∧ (pick (pushE wd lo hi hs h) (pushR wd lo hi hs h).2 []).length ≤ 244 := by
  unfold pick
  by_cases hh : pushE wd lo hi hs h = 0
  · rw [if_pos hh, if_pos hh]
    unfold pushE at hh
    have h1 : chkE wd lo hi hs = 0 := by
      by_cases h1 : chkE wd lo hi hs = 0
      · exact h1
      · rw [if_neg h1] at hh; exact hh
    have G1 := chk_ok.1 h1
    have l1 : (opened lo hi hs).length ≤ 122 := by rw [opened_len G1]; obtain ⟨_, _, _, _, _, _, h⟩ := good_form G1; exact h
    have hc : (pushR wd lo hi hs h).1.length + (pushR wd lo hi hs h).2.length ≤ 244 := by
      show (joinR (NF wd) (opened lo hi hs).reverse ((0, hi.toNat), h)).1.length + (joinR (NF wd) (opened lo hi hs).reverse ((0, hi.toNat), h)).2.length ≤ 244
      rw [joinR_count, List.length_reverse]
      omega
    refine ⟨?_, by omega⟩
    unfold labs
    simp only [List.length_map, List.length_reverse]
    omega
  · rw [if_neg hh, if_neg hh]
    exact ⟨Nat.zero_le _, Nat.zero_le _⟩
set_option maxHeartbeats 6400000 in
set_option maxRecDepth 100000 in
theorem comp_push {T : World → Prop} (later : ∀ {w w' : World}, T w → Below w.heap.size w w' → T w') (tab : ∀ {w : World}, T w → Tab4 w) (SC : StartC T) (CC : CheckC T) (PC : PushC T) (RB : BehindC) (wd : Int) (hwd : i64 wd) (lo hi : Int) (hlo : i64 lo) (hhi : i64 hi) (u : Value) (hs : List ByteArray) (h : ByteArray) (hh0 : h.size ≤ 140737488352000) (q : Int) (hq : i64 q) (w : World) (hT : T w) (hR : ReadsT w u hs) (hf : Fits hs) :
    Calls Tryd.prog 4 #[.int .i64 wd, FV lo hi u, .string h, .int .i64 q] w fun e w' => e = .returned (.bool true) ∧ Below w.heap.size w w' := by
  have BA : Below w.heap.size w (w.alloc (.cells #[.int .i64 lo, .int .i64 hi, u] 24)) := (Below.refl _ _).alloc (Nat.le_refl _) _
  have F0 : Hid (Fx (w.alloc (.cells #[.int .i64 lo, .int .i64 hi, u] 24)) w.heap.size lo hi u) := fx_new _ _ _ _
  have CS1 : Hid (Calls _ _ _ _ _) := SC q _ hq (later hT BA)
  have CS2 : Hid (∀ W, Calls _ _ _ _ _) := fun W => rStart q W
  obtain ⟨Q, HQ⟩ : ∃ Q, Hid ((if 0 ≤ q ∧ q ≤ 4611686018427387904 then q else 0) = Q) := ⟨_, rfl⟩
  obtain ⟨C0, HC0⟩ : ∃ Q, Hid ((if 0 ≤ q ∧ q ≤ 4611686018427387904 then (0 : Int) else 10) = Q) := ⟨_, rfl⟩
  rw [HQ.out, HC0.out] at CS1 CS2
  have RMY : Hid (∀ W, Below w.heap.size w W → Calls _ _ _ _ _) := fun W b => roomy lo hi u hs W (hR.later b) hf
  have LT : Hid (∀ {w w' : World}, T w → Below w.heap.size w w' → T w') := later
  have HT : Hid (T w) := hT
  have HRD : Hid (ReadsT w u hs) := hR
  have HF : Hid (Fits hs) := hf
  have hnm := hf.many
  have PR : Hid (∀ v ys W, T W → ReadsT W v ys → Fits ys → Calls _ _ _ _ _) := fun v ys W h1 h2 h3 => PC wd lo hi v ys h W hwd hlo hhi h1 h2 h3 hh0
  have CH : Hid (∀ v ys W, T W → ReadsT W v ys → Fits ys → Calls _ _ _ _ _) := fun v ys W h1 h2 h3 => CC wd lo hi v ys W hwd hlo hhi h1 h2 h3
  have RR : Hid (∀ W, T W → ReadsT W u hs → Calls _ _ _ _ _) := fun W h1 h2 => ru.rPush RB wd lo hi u hs h W hlo hhi (tab h1) h2 hf hh0
  have RC : Hid (∀ W, ReadsT W u hs → Calls _ _ _ _ _) := fun W h2 => rCheck wd lo hi hlo hhi u hs W h2 hf
  have HB0 : Hid (Below _ _ _) := BA
  obtain ⟨n, HN⟩ : ∃ n, Hid (hs.length = n) := ⟨_, rfl⟩
  obtain ⟨a, cap, rfl, hcap, hh⟩ := hR
  rw [HN.out] at CS1 RMY F0 HB0 HRD RR RC hcap hnm ⊢
  clear BA hh hf hT later tab SC CC PC
  go_enter Tryd.func4, Tryd.ntmps4
  go_wp2_with fail
  refine CS1.out.mono ?_
  rintro e w1 ⟨⟨u1, rfl, hu1⟩, hb⟩
  obtain ⟨ua, uc, rfl⟩ := own_formS hu1
  have BN : Hid (Below w1.heap.size w1 (w1.alloc (.cells #[.int .i64 Q, .int .i64 Q, .slice ua 0 uc] 24))) := (Below.refl _ _).alloc (Nat.le_refl _) _
  have B1 : Hid (Below w.heap.size w (w1.alloc (.cells #[.int .i64 Q, .int .i64 Q, .slice ua 0 uc] 24))) := over (over HB0.out hb) BN.out
  have F1 : Hid (Fx (w1.alloc (.cells #[.int .i64 Q, .int .i64 Q, .slice ua 0 uc] 24)) w.heap.size lo hi (.slice a n cap)) := (F0.out.on hb).on BN.out
  have X1 : Hid (Fx (w1.alloc (.cells #[.int .i64 Q, .int .i64 Q, .slice ua 0 uc] 24)) w1.heap.size Q Q (.slice ua 0 uc)) := fx_new _ _ _ _
  have U1 : Hid (ReadsT (w1.alloc (.cells #[.int .i64 Q, .int .i64 Q, .slice ua 0 uc] 24)) (.slice ua 0 uc) []) := (Texts.reads hu1).later BN.out
  clear hu1 hb BN CS1 F0 HB0
  go_wp2_with fail
  refine (CS2.out _).mono ?_
  rintro e w2 ⟨rfl, hb⟩
  have BN : Hid (Below w2.heap.size w2 (w2.alloc (.cells #[.int .i64 Q, .int .i64 Q, .slice none 0 0] 24))) := (Below.refl _ _).alloc (Nat.le_refl _) _
  have B2 : Hid (Below w.heap.size w (w2.alloc (.cells #[.int .i64 Q, .int .i64 Q, .slice none 0 0] 24))) := over (over B1.out hb) BN.out
  have F2 : Hid (Fx (w2.alloc (.cells #[.int .i64 Q, .int .i64 Q, .slice none 0 0] 24)) w.heap.size lo hi (.slice a n cap)) := (F1.out.on hb).on BN.out
  have X2 : Hid (Fx (w2.alloc (.cells #[.int .i64 Q, .int .i64 Q, .slice none 0 0] 24)) w1.heap.size Q Q (.slice ua 0 uc)) := (X1.out.on hb).on BN.out
  have Y2 : Hid (Fx (w2.alloc (.cells #[.int .i64 Q, .int .i64 Q, .slice none 0 0] 24)) w2.heap.size Q Q (.slice none 0 0)) := fx_new _ _ _ _
  have CE : Hid (Calls _ _ _ _ _) := same_yes Q Q (.slice ua 0 uc) (.slice none 0 0) [] (w2.alloc (.cells #[.int .i64 Q, .int .i64 Q, .slice none 0 0] 24)) ((U1.out.later hb).later BN.out) (Texts.reads (B := 0) (World.ownsRow_nil _ _ _ _)) (by simp)
  clear hb BN CS2 F1 X1 U1 B1
  obtain ⟨d1, d2, d3⟩ := X2.out.fb
  obtain ⟨e1, e2, e3⟩ := Y2.out.fb
  go_wp2_with fail
  refine CE.out.mono ?_
  rintro e w3 ⟨rfl, hb⟩
  have B3 : Hid (Below w.heap.size w w3) := over B2.out hb
  have F3 : Hid (Fx w3 w.heap.size lo hi (.slice a n cap)) := F2.out.on hb
  clear hb CE d1 d2 d3 e1 e2 e3 B2 F2 X2 Y2
  obtain ⟨d1, d2, d3⟩ := F3.out.fb
  have CR : Hid (Calls _ _ _ _ _) := RMY.out _ B3.out
  go_wp2_with fail
  refine CR.out.mono ?_
  rintro e w4 ⟨⟨g, cp, rfl, ht⟩, hb⟩
  have K1 : Hid (Ck w (w4.alloc (.cells #[.int .i64 lo, .int .i64 hi, .slice (some ⟨g, 0, none⟩) n cp] 24)) _ g n cp w.heap.size w4.heap.size lo hi (.slice a n cap) hs) :=
    ⟨(over B3.out hb).alloc (over B3.out hb).size _, (F3.out.on hb).on ((Below.refl _ _).alloc (Nat.le_refl _) _), fx_new _ _ _ _, ht.later ((Below.refl _ _).alloc (Nat.le_refl _) _), HN.out, HF.out.each, B3.out.size⟩
  clear ht hb CR d1 d2 d3 F3 B3
  obtain ⟨d1, d2, d3⟩ := K1.out.i.fb
  have CO : Hid (Calls _ _ _ _ _) := other lo hi _ g n cp hs _ K1.out.t K1.out.l K1.out.z hnm
  go_wp2_with fail
  refine CO.out.mono ?_
  rintro e w5 ⟨rfl, ⟨ys, hl, hz, ht⟩, hg⟩
  have K5 : Hid (Ck w w5 _ g n cp w.heap.size w4.heap.size lo hi (.slice a n cap) ys) := K1.out.row hg ht hl hz
  clear ht hg hz CO d1 d2 d3 K1
  obtain ⟨d1, d2, d3⟩ := K5.out.i.fb
  have CA : Hid (Calls _ _ _ _ _) := CH.out _ ys _ (LT.out HT.out K5.out.b) K5.out.reads ⟨K5.out.z, by rw [hl]; exact hnm⟩
  go_wp2_with fail
  refine CA.out.mono ?_
  rintro e w6 ⟨rfl, hb⟩
  have K6 : Hid (Ck w w6 _ g n cp w.heap.size w4.heap.size lo hi (.slice a n cap) ys) := K5.out.on hb
  clear hb CA d1 d2 d3 K5
  obtain ⟨d1, d2, d3⟩ := K6.out.i.fb
  obtain ⟨e1, e2, e3⟩ := K6.out.f.fb
  have CB : Hid (Calls _ _ _ _ _) := back lo hi lo hi _ g n cp (.slice a n cap) hs ys w w6 HRD.out K6.out.hB K6.out.b K6.out.t hl HN.out hnm
  go_wp2_with fail
  refine CB.out.mono ?_
  rintro e w7 ⟨rfl, ht, hg⟩
  have K7 : Hid (Ck w w7 _ g n cp w.heap.size w4.heap.size lo hi (.slice a n cap) hs) := K6.out.row hg ht HN.out HF.out.each
  clear ht hg CB d1 d2 d3 e1 e2 e3 K6
  obtain ⟨E1, HE1⟩ : ∃ E, Hid (chkE wd lo hi hs = E) := ⟨_, rfl⟩
  have CK : Hid (Calls _ _ _ _ _) := CH.out _ hs _ (LT.out HT.out K7.out.b) K7.out.reads HF.out
  rw [HE1.out] at CK RC
  obtain ⟨d1, d2, d3⟩ := K7.out.i.fb
  go_wp2_with fail
  refine CK.out.mono ?_
  rintro e w8 ⟨rfl, hb⟩
  have K8 : Hid (Ck w w8 _ g n cp w.heap.size w4.heap.size lo hi (.slice a n cap) hs) := K7.out.on hb
  clear hb CK d1 d2 d3 K7
  obtain ⟨d1, d2, d3⟩ := K8.out.i.fb
  have CO : Hid (Calls _ _ _ _ _) := other lo hi _ g n cp hs _ K8.out.t K8.out.l K8.out.z hnm
  go_wp2_with fail
  refine CO.out.mono ?_
  rintro e w9 ⟨rfl, ⟨zs, hl2, hz, ht⟩, hg⟩
  have K9 : Hid (Ck w w9 _ g n cp w.heap.size w4.heap.size lo hi (.slice a n cap) zs) := K8.out.row hg ht hl2 hz
  clear ht hg hz CO d1 d2 d3 K8
  obtain ⟨d1, d2, d3⟩ := K9.out.i.fb
  have CA : Hid (Calls _ _ _ _ _) := PR.out _ zs _ (LT.out HT.out K9.out.b) K9.out.reads ⟨K9.out.z, by rw [hl2]; exact hnm⟩
  go_wp2_with fail
  refine CA.out.mono ?_
  rintro e w10 ⟨⟨u5, m5, rfl, _, _⟩, hb⟩
  have K10 : Hid (Ck w w10 _ g n cp w.heap.size w4.heap.size lo hi (.slice a n cap) zs) := K9.out.on hb
  clear hb CA d1 d2 d3 K9
  obtain ⟨d1, d2, d3⟩ := K10.out.i.fb
  obtain ⟨e1, e2, e3⟩ := K10.out.f.fb
  have CB : Hid (Calls _ _ _ _ _) := back lo hi lo hi _ g n cp (.slice a n cap) hs zs w w10 HRD.out K10.out.hB K10.out.b K10.out.t hl2 HN.out hnm
  go_wp2_with fail
  refine CB.out.mono ?_
  rintro e w11 ⟨rfl, ht, hg⟩
  have K11 : Hid (Ck w w11 _ g n cp w.heap.size w4.heap.size lo hi (.slice a n cap) hs) := K10.out.row hg ht HN.out HF.out.each
  clear ht hg CB d1 d2 d3 e1 e2 e3 K10
  have ML : Hid _ := push_len wd lo hi hs h
  obtain ⟨P1, HP1⟩ : ∃ P, Hid (pick (pushE wd lo hi hs h) lo 0 = P) := ⟨_, rfl⟩
  obtain ⟨P2, HP2⟩ : ∃ P, Hid (pick (pushE wd lo hi hs h) (hi + 1) 0 = P) := ⟨_, rfl⟩
  obtain ⟨P3, HP3⟩ : ∃ P, Hid (pick (pushE wd lo hi hs h) (labs (pushR wd lo hi hs h).1) [] = P) := ⟨_, rfl⟩
  obtain ⟨P4, HP4⟩ : ∃ P, Hid (pick (pushE wd lo hi hs h) (pushR wd lo hi hs h).2 [] = P) := ⟨_, rfl⟩
  obtain ⟨E, HE⟩ : ∃ P, Hid (pushE wd lo hi hs h = P) := ⟨_, rfl⟩
  have CM2 : Hid (Calls _ _ _ _ _) := PR.out _ hs _ (LT.out HT.out K11.out.b) K11.out.reads HF.out
  rw [HP1.out, HP2.out, HP3.out, HP4.out, HE.out] at CM2 RR
  rw [HP3.out, HP4.out] at ML
  obtain ⟨d1, d2, d3⟩ := K11.out.i.fb
  go_wp2_with fail
  refine CM2.out.mono ?_
  rintro e w12 ⟨⟨u8, m8, rfl, hu8, hm8⟩, hb⟩
  obtain ⟨ua8, uc8, rfl⟩ := own_formS hu8
  obtain ⟨ma, mc, rfl⟩ := own_formS hm8
  obtain ⟨l3, HL3⟩ : ∃ l, Hid (P3.length = l) := ⟨_, rfl⟩
  obtain ⟨l4, HL4⟩ : ∃ l, Hid (P4.length = l) := ⟨_, rfl⟩
  rw [HL3.out] at hu8 ⊢
  rw [HL4.out] at hm8 ⊢
  have BN : Hid (Below w12.heap.size w12 (w12.alloc (.cells #[.int .i64 P1, .int .i64 P2, .slice ua8 l3 uc8] 24))) := (Below.refl _ _).alloc (Nat.le_refl _) _
  have K12 : Hid (Ck w (w12.alloc (.cells #[.int .i64 P1, .int .i64 P2, .slice ua8 l3 uc8] 24)) _ g n cp w.heap.size w4.heap.size lo hi (.slice a n cap) hs) := (K11.out.on hb).on BN.out
  have U8 : Hid (ReadsT (w12.alloc (.cells #[.int .i64 P1, .int .i64 P2, .slice ua8 l3 uc8] 24)) (.slice ua8 l3 uc8) P3) := (Texts.reads hu8).later BN.out
  have M8 : Hid (ReadsM (w12.alloc (.cells #[.int .i64 P1, .int .i64 P2, .slice ua8 l3 uc8] 24)) (.slice ma l4 mc) P4) := (Mades.reads hm8).later BN.out
  have X8 : Hid (Fx (w12.alloc (.cells #[.int .i64 P1, .int .i64 P2, .slice ua8 l3 uc8] 24)) w12.heap.size P1 P2 (.slice ua8 l3 uc8)) := fx_new _ _ _ _
  clear hb CM2 d1 d2 d3 K11 BN hu8 hm8
  obtain ⟨d1, d2, d3⟩ := K12.out.f.fb
  have CD : Hid (Calls _ _ _ _ _) := RR.out _ (LT.out HT.out K12.out.b) (HRD.out.later K12.out.b)
  go_wp2_with fail
  refine CD.out.mono ?_
  rintro e w13 ⟨⟨u9, m9, rfl, hu9, hm9⟩, hb⟩
  obtain ⟨va, vc, rfl⟩ := own_formS hu9
  obtain ⟨na, nc, rfl⟩ := own_formS hm9
  rw [HL3.out] at hu9 ⊢
  rw [HL4.out] at hm9 ⊢
  have BN : Hid (Below w13.heap.size w13 (w13.alloc (.cells #[.int .i64 P1, .int .i64 P2, .slice va l3 vc] 24))) := (Below.refl _ _).alloc (Nat.le_refl _) _
  have K13 : Hid (Ck w (w13.alloc (.cells #[.int .i64 P1, .int .i64 P2, .slice va l3 vc] 24)) _ g n cp w.heap.size w4.heap.size lo hi (.slice a n cap) hs) := (K12.out.on hb).on BN.out
  have U9 : Hid (ReadsT (w13.alloc (.cells #[.int .i64 P1, .int .i64 P2, .slice va l3 vc] 24)) (.slice va l3 vc) P3) := (Texts.reads hu9).later BN.out
  have M9 : Hid (ReadsM (w13.alloc (.cells #[.int .i64 P1, .int .i64 P2, .slice va l3 vc] 24)) (.slice na l4 nc) P4) := (Mades.reads hm9).later BN.out
  have U9' : Hid (ReadsT (w13.alloc (.cells #[.int .i64 P1, .int .i64 P2, .slice va l3 vc] 24)) (.slice ua8 l3 uc8) P3) := (U8.out.later hb).later BN.out
  have M9' : Hid (ReadsM (w13.alloc (.cells #[.int .i64 P1, .int .i64 P2, .slice va l3 vc] 24)) (.slice ma l4 mc) P4) := (M8.out.later hb).later BN.out
  have X9 : Hid (Fx (w13.alloc (.cells #[.int .i64 P1, .int .i64 P2, .slice va l3 vc] 24)) w12.heap.size P1 P2 (.slice ua8 l3 uc8)) := (X8.out.on hb).on BN.out
  have Y9 : Hid (Fx (w13.alloc (.cells #[.int .i64 P1, .int .i64 P2, .slice va l3 vc] 24)) w13.heap.size P1 P2 (.slice va l3 vc)) := fx_new _ _ _ _
  clear hb CD d1 d2 d3 K12 BN hu9 hm9 U8 M8 X8
  obtain ⟨d1, d2, d3⟩ := X9.out.fb
  obtain ⟨e1, e2, e3⟩ := Y9.out.fb
  have CS : Hid (Calls _ _ _ _ _) := same_yes P1 P2 _ _ P3 _ U9'.out U9.out (by have := ML.out.1; omega)
  go_wp2_with fail
  refine CS.out.mono ?_
  rintro e w14 ⟨rfl, hb⟩
  have K14 : Hid (Ck w w14 _ g n cp w.heap.size w4.heap.size lo hi (.slice a n cap) hs) := K13.out.on hb
  have CM : Hid (Calls _ _ _ _ _) := rs.sameM_yes _ _ P4 w14 (M9'.out.later hb) (M9.out.later hb) (by have := ML.out.2; omega)
  clear hb CS d1 d2 d3 e1 e2 e3 K13 U9 U9' M9 M9' X9 Y9
  go_wp2_with fail
  refine CM.out.mono ?_
  rintro e w15 ⟨rfl, hb⟩
  have K15 : Hid (Ck w w15 _ g n cp w.heap.size w4.heap.size lo hi (.slice a n cap) hs) := K14.out.on hb
  clear hb CM K14
  obtain ⟨d1, d2, d3⟩ := K15.out.i.fb
  obtain ⟨e1, e2, e3⟩ := K15.out.f.fb
  have ht7 := K15.out.t
  rw [← HN.out] at ht7
  have CU : Hid (Calls _ _ _ _ _) := untouched_yes lo hi _ g cp (.slice a n cap) hs w15 ht7 (HRD.out.later K15.out.b) HF.out
  rw [HN.out] at CU
  clear ht7
  go_wp2_with fail
  refine CU.out.mono ?_
  rintro e w16 ⟨rfl, hb⟩
  have K16 : Hid (Ck w w16 _ g n cp w.heap.size w4.heap.size lo hi (.slice a n cap) hs) := K15.out.on hb
  clear hb CU K15 d1 d2 d3 e1 e2 e3
  obtain ⟨e1, e2, e3⟩ := K16.out.f.fb
  have CL : Hid (Calls _ _ _ _ _) := RC.out _ (HRD.out.later K16.out.b)
  have q0 : (C0 == C0) = true := beq_self_eq_true _
  have q1 : (E1 == E1) = true := beq_self_eq_true _
  have q2 : (E == E) = true := beq_self_eq_true _
  go_wp2_with fail
  refine CL.out.mono ?_
  rintro e w17 ⟨rfl, hb⟩
  have B17 : Hid (Below w.heap.size w w17) := over K16.out.b hb
  clear hb CL e1 e2 e3
  go_wp2
  go_ret
  exact ⟨rfl, B17.out⟩
end Go.Proofs.YtgjjimbleliklaaDoor.rw
