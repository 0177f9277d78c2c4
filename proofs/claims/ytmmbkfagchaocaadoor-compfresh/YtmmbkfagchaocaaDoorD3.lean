import Derived.Test.YtmmbkfagchaocaaDoorD6
import Derived.Deep.DeepCutAuto
namespace Go.Proofs.YtmmbkfagchaocaaDoor.rt
open Go.RowKit Go.PlainAid
open Go.Proofs.YtmmbkfagchaocaaDoor.pl Go.Proofs.YtmmbkfagchaocaaDoor.pi Go.Proofs.YtmmbkfagchaocaaDoor.pj Go.Proofs.YtmmbkfagchaocaaDoor.rf Go.Proofs.YtmmbkfagchaocaaDoor.ca Go.Proofs.YtmmbkfagchaocaaDoor.cb Go.Proofs.YtmmbkfagchaocaaDoor.cp Go.Proofs.YtmmbkfagchaocaaDoor.cs Go.Proofs.YtmmbkfagchaocaaDoor.kb Go.Proofs.YtmmbkfagchaocaaDoor.ka Go.Proofs.YtmmbkfagchaocaaDoor.ga Go.Proofs.YtmmbkfagchaocaaDoor.gb Go.Proofs.YtmmbkfagchaocaaDoor.na Go.Proofs.YtmmbkfagchaocaaDoor.nb Go.Proofs.YtmmbkfagchaocaaDoor.nc Go.Proofs.YtmmbkfagchaocaaDoor.oa Go.Proofs.YtmmbkfagchaocaaDoor.ob Go.Proofs.YtmmbkfagchaocaaDoor.qa Go.Proofs.YtmmbkfagchaocaaDoor.qb Go.Proofs.YtmmbkfagchaocaaDoor.qc Go.Proofs.YtmmbkfagchaocaaDoor.qd Go.Proofs.YtmmbkfagchaocaaDoor.rg Go.Proofs.YtmmbkfagchaocaaDoor.rl Go.Proofs.YtmmbkfagchaocaaDoor.rm Go.Proofs.YtmmbkfagchaocaaDoor.rn Go.Proofs.YtmmbkfagchaocaaDoor.ro Go.Proofs.YtmmbkfagchaocaaDoor.rq
set_option linter.unusedVariables false

set_option maxHeartbeats 3200000 in
set_option maxRecDepth 100000 in
theorem rMerge (RB : BehindC) (wd lo hi : Int) (u : Value) (hs : List ByteArray) (lo' hi' : Int) (u' : Value) (hs' : List ByteArray) (w : World) (hlo : i64 lo) (hhi : i64 hi) (hlo' : i64 lo') (hhi' : i64 hi') (hT : Tab4 w) (hR : ReadsT w u hs) (hf : Fits hs) (hR' : ReadsT w u' hs') (hf' : Fits hs') :
    Calls Tryd.prog 8 #[.int .i64 wd, FV lo hi u, FV lo' hi' u'] w fun e w' => Go.Proofs.YtmmbkfagchaocaaDoor.ob.Told w w' e (pick (mergeE wd lo hi hs lo' hi' hs') lo 0) (pick (mergeE wd lo hi hs lo' hi' hs') hi' 0) (pick (mergeE wd lo hi hs lo' hi' hs') (labs (mergeR wd lo hi hs lo' hi' hs').1) []) (pick (mergeE wd lo hi hs lo' hi' hs') (mergeR wd lo hi hs lo' hi' hs').2 []) (mergeE wd lo hi hs lo' hi' hs') ∧ Below w.heap.size w w' := by
  have HRD : Hid (ReadsT w u hs) := hR
  have HRD' : Hid (ReadsT w u' hs') := hR'
  have HT : Hid (Tab4 w) := hT
  have F1 : Fx (w.alloc (.cells #[.int .i64 lo, .int .i64 hi, u] 24)) w.heap.size lo hi u := fx_new _ _ _ _
  have F2 := fx_new (w.alloc (.cells #[.int .i64 lo, .int .i64 hi, u] 24)) lo' hi' u'
  rw [show (w.alloc (.cells #[.int .i64 lo, .int .i64 hi, u] 24)).heap.size = w.heap.size + 1 by simp] at F2
  have F3 := fx_new ((w.alloc (.cells #[.int .i64 lo, .int .i64 hi, u] 24)).alloc (.cells #[.int .i64 lo', .int .i64 hi', u'] 24)) 0 0 (.slice none 0 0)
  rw [show ((w.alloc (.cells #[.int .i64 lo, .int .i64 hi, u] 24)).alloc (.cells #[.int .i64 lo', .int .i64 hi', u'] 24)).heap.size = w.heap.size + 2 by simp] at F3
  have F1 := (F1.on ((Below.refl _ _).alloc (Nat.le_refl _) (.cells #[.int .i64 lo', .int .i64 hi', u'] 24))).on ((Below.refl _ _).alloc (Nat.le_refl _) (.cells #[.int .i64 0, .int .i64 0, .slice none 0 0] 24))
  have F2 := F2.on ((Below.refl _ _).alloc (Nat.le_refl _) (.cells #[.int .i64 0, .int .i64 0, .slice none 0 0] 24))
  have B0 : Below w.heap.size w (((w.alloc (.cells #[.int .i64 lo, .int .i64 hi, u] 24)).alloc (.cells #[.int .i64 lo', .int .i64 hi', u'] 24)).alloc (.cells #[.int .i64 0, .int .i64 0, .slice none 0 0] 24)) := (((Below.refl _ _).alloc (Nat.le_refl _) _).alloc (by simp) _).alloc (by simp; omega) _
  obtain ⟨W0, HW0⟩ : ∃ W0, ((w.alloc (.cells #[.int .i64 lo, .int .i64 hi, u] 24)).alloc (.cells #[.int .i64 lo', .int .i64 hi', u'] 24)).alloc (.cells #[.int .i64 0, .int .i64 0, .slice none 0 0] 24) = W0 := ⟨_, rfl⟩
  rw [HW0] at F1 F2 F3 B0
  have hsz : W0.heap.size = w.heap.size + 3 := by rw [← HW0]; simp
  have HF1 : Hid (Fx W0 w.heap.size lo hi u) := F1
  have HF2 : Hid (Fx W0 (w.heap.size + 1) lo' hi' u') := F2
  have HF3 : Hid (Fx W0 (w.heap.size + 2) 0 0 (.slice none 0 0)) := F3
  have HB0 : Hid (Below w.heap.size w W0) := B0
  have HSZ : Hid (W0.heap.size = w.heap.size + 3) := hsz
  have C1 : Hid (Calls _ _ _ _ _) := rCheck wd lo hi hlo hhi u hs W0 (hR.later B0) hf
  have C2 : Hid (∀ W, Below w.heap.size w W → Calls _ _ _ _ _) := fun W hW => rCheck wd lo' hi' hlo' hhi' u' hs' W (hR'.later hW) hf'
  have HG1 : Hid (chkE wd lo hi hs = 0 → GoodF wd lo hi hs) := chk_ok.1
  have HG2 : Hid (chkE wd lo' hi' hs' = 0 → GoodF wd lo' hi' hs') := chk_ok.1
  obtain ⟨E, HE⟩ : ∃ E, Hid (mergeE wd lo hi hs lo' hi' hs' = E) := ⟨_, rfl⟩
  have HE1 : Hid (E = if chkE wd lo hi hs = 0 then (if chkE wd lo' hi' hs' = 0 then (if hi = lo' then 0 else 70) else chkE wd lo' hi' hs') else chkE wd lo hi hs) := by show _ = _; rw [← HE.out]; rfl
  rw [HE.out]
  obtain ⟨R1, HR1⟩ : ∃ R, Hid (chkE wd lo hi hs = R) := ⟨_, rfl⟩
  obtain ⟨R2, HR2⟩ : ∃ R, Hid (chkE wd lo' hi' hs' = R) := ⟨_, rfl⟩
  rw [HR1.out] at C1 HE1 HG1
  rw [HR2.out] at C2 HE1 HG2
  obtain ⟨P1, HP1⟩ : ∃ P, Hid (pick E lo 0 = P) := ⟨_, rfl⟩
  obtain ⟨P2, HP2⟩ : ∃ P, Hid (pick E hi' 0 = P) := ⟨_, rfl⟩
  obtain ⟨P3, HP3⟩ : ∃ P, Hid (pick E (labs (mergeR wd lo hi hs lo' hi' hs').1) [] = P) := ⟨_, rfl⟩
  obtain ⟨P4, HP4⟩ : ∃ P, Hid (pick E (mergeR wd lo hi hs lo' hi' hs').2 [] = P) := ⟨_, rfl⟩
  rw [HP1.out, HP2.out, HP3.out, HP4.out]
  have NO : Hid (E ≠ 0 → P1 = 0 ∧ P2 = 0 ∧ P3 = [] ∧ P4 = []) := fun h => by
    rw [← HP1.out, ← HP2.out, ← HP3.out, ← HP4.out]
    unfold pick
    rw [if_neg h, if_neg h, if_neg h, if_neg h]
    exact ⟨rfl, rfl, rfl, rfl⟩
  obtain ⟨a, cap, rfl, hcap, _⟩ := hR
  obtain ⟨a', cap', rfl, hcap', _⟩ := hR'
  obtain ⟨n, HN⟩ : ∃ n, Hid (hs.length = n) := ⟨_, rfl⟩
  obtain ⟨n', HN'⟩ : ∃ n, Hid (hs'.length = n) := ⟨_, rfl⟩
  rw [HN.out] at HRD HF1 C1 HW0 ⊢
  rw [HN'.out] at HRD' HF2 C2 HW0 ⊢
  obtain ⟨d1, d2, d3⟩ := HF1.out.fb
  have OP1 : Hid (∀ W, Below w.heap.size w W → (covI lo hi).length = hs.length → Calls _ _ _ _ _) := fun W hW hl => ropen lo hi hlo hhi (.slice a n cap) hs W (HRD.out.later hW) hl
  have OP2 : Hid (∀ W, Below w.heap.size w W → (covI lo' hi').length = hs'.length → Calls _ _ _ _ _) := fun W hW hl => ropen lo' hi' hlo' hhi' (.slice a' n' cap') hs' W (HRD'.out.later hW) hl
  clear hT hf hf' F1 F2 F3 B0 hsz hcap hcap' hlo hhi hlo' hhi'
  by_cases h1 : R1 = 0
  · subst h1
    have G1 : Hid (GoodF wd lo hi hs) := HG1.out rfl
    by_cases h2 : R2 = 0
    · subst h2
      have G2 : Hid (GoodF wd lo' hi' hs') := HG2.out rfl
      by_cases h3 : hi = lo'
      · subst h3
        have q3 : (hi == hi) = true := beq_self_eq_true _
        have HEE : Hid (E = 0) := by rw [HE1.out, if_pos rfl, if_pos rfl, if_pos rfl]; rfl
        have HPP : Hid (P1 = lo ∧ P2 = hi' ∧ P3 = labs (mergeR wd lo hi hs hi hi' hs').1 ∧ P4 = (mergeR wd lo hi hs hi hi' hs').2) := by
          rw [← HP1.out, ← HP2.out, ← HP3.out, ← HP4.out, HEE.out]
          exact ⟨rfl, rfl, rfl, rfl⟩
        have HL1 : Hid (hs.length ≤ 122) := by obtain ⟨_, _, _, _, _, _, h⟩ := good_form G1.out; exact h
        have HL2 : Hid (hs'.length ≤ 122) := by obtain ⟨_, _, _, _, _, _, h⟩ := good_form G2.out; exact h
        go_enter Tryd.func8, Tryd.ntmps8
        go_wp2_with fail
        refine C1.out.mono ?_
        rintro e w2 ⟨rfl, hb⟩
        have B2 : Hid (Below w.heap.size w w2) := over HB0.out hb
        have HS2 : Hid (W0.heap.size ≤ w2.heap.size) := hb.size
        obtain ⟨i1, i2, i3⟩ := (HF2.out.on hb).fb
        have FA : Hid (Fx w2 _ _ _ _) := HF1.out.on hb
        have FB : Hid (Fx w2 _ _ _ _) := HF2.out.on hb
        have FC : Hid (Fx w2 _ _ _ _) := HF3.out.on hb
        clear hb d1 d2 d3
        go_wp2_with fail
        refine (C2.out _ B2.out).mono ?_
        rintro e w3 ⟨rfl, hb⟩
        have B3 : Hid (Below w.heap.size w w3) := over B2.out hb
        have HB3 : Hid (Below w2.heap.size w2 w3) := hb
        obtain ⟨j1, j2, j3⟩ := (FA.out.on hb).fb
        obtain ⟨k1, k2, k3⟩ := (FB.out.on hb).fb
        have FR := FC.out.on hb
        clear hb i1 i2 i3
        have FA3 := FA.out.on HB3.out
        have FB3 := FB.out.on HB3.out
        have O3 : Hid (Calls _ _ _ _ _) := OP1.out w3 B3.out G1.out.2.1
        go_wp2_with fail
        refine O3.out.mono ?_
        rintro e w4 ⟨⟨m, rfl, hm⟩, hb4⟩
        obtain ⟨ma, mc, rfl⟩ := own_formS hm
        obtain ⟨l1, HLL1⟩ : ∃ l, Hid ((opened lo hi hs).length = l) := ⟨_, rfl⟩
        rw [HLL1.out] at hm ⊢
        have B4 : Hid (Below w.heap.size w w4) := over B3.out hb4
        have A5 : Below w4.heap.size w4 (w4.alloc (.cells #[.slice ma l1 mc, .slice none 0 0] 74)) := (Below.refl _ _).alloc (Nat.le_refl _) _
        have R5 : Hid (Rx (w4.alloc (.cells #[.slice ma l1 mc, .slice none 0 0] 74)) w4.heap.size (.slice ma l1 mc) (.slice none 0 0)) := heap_alloc_new _ _
        have N5 : Hid (Mades (w4.alloc (.cells #[.slice ma l1 mc, .slice none 0 0] 74)) w3.heap.size (.slice ma l1 mc) (opened lo hi hs)) := hm.later A5
        have HN4 : Hid (∀ g, (Value.slice ma l1 mc).ownBlock = some g → g < w4.heap.size) := fun g e => (World.ownsRow.lt hm g e).2
        have B5 : Hid (Below w.heap.size w (w4.alloc (.cells #[.slice ma l1 mc, .slice none 0 0] 74))) := over B4.out A5
        have FA5 := (FA3.on hb4).on A5
        have FB5 := (FB3.on hb4).on A5
        have FC5 : Hid (Fx _ _ _ _ _) := (FR.on hb4).on A5
        have HFA5 : Hid (Fx _ _ _ _ _) := FA5
        have HFB5 : Hid (Fx _ _ _ _ _) := FB5
        obtain ⟨x1, x2, x3⟩ := FB5.fb
        have O4 : Hid (Calls _ _ _ _ _) := OP2.out _ B5.out G2.out.2.1
        have SZ3 : Hid (w.heap.size + 3 ≤ w3.heap.size) := by have h1 := HS2.out; have h2 := HB3.out.size; have h3 := HSZ.out; show _ ≤ _; omega
        have SZ4 : Hid (w3.heap.size ≤ w4.heap.size) := hb4.size
        clear hm hb4 A5 FA5 FB5 FA3 FB3 FR k1 k2 k3 j1 j2 j3
        go_wp2_with fail
        refine O4.out.mono ?_
        rintro e w6 ⟨⟨q, rfl, hq⟩, hb6⟩
        obtain ⟨qa, qc, rfl⟩ := own_formS hq
        obtain ⟨l2, HLL2⟩ : ∃ l, Hid ((opened hi hi' hs').length = l) := ⟨_, rfl⟩
        rw [HLL2.out] at hq ⊢
        have D0 : Hid (Dm w w6 w4.heap.size (.slice ma l1 mc) (.slice none 0 0) (.slice qa l2 qc) (opened lo hi hs) [] (opened hi hi' hs') (fun W => Fx W w.heap.size lo hi (.slice a n cap) ∧ Fx W (w.heap.size + 1) hi hi' (.slice a' n' cap') ∧ Fx W (w.heap.size + 2) 0 0 (.slice none 0 0))) := by
          have z3 := SZ3.out
          have z4 := SZ4.out
          refine ⟨over B5.out hb6, (hb6.block _ R5.out.lt).trans R5.out, (N5.out.down (by omega)).later hb6, World.ownsRow_nil _ _ _ _, hq.down B5.out.size, ?_, fun g e => ⟨fun e2 => ?_, fun e2 => by cases e2⟩, by omega, HFA5.out.on hb6, HFB5.out.on hb6, FC5.out.on hb6⟩
          · cases ma with
            | none => exact .inl rfl
            | some _ => exact .inr (fun e => by cases e)
          · have h1 := (World.ownsRow.lt hq g e).1
            have h2 := HN4.out g e2.symm
            simp at h1
            omega
        clear hq hb6 R5 N5 HFA5 HFB5 FC5 x1 x2 x3 B5
        obtain ⟨p, HPW⟩ : ∃ p, Hid (w4.heap.size = p) := ⟨_, rfl⟩
        have hl1' : l1 ≤ 122 := by rw [← HLL1.out, opened_len G1.out]; exact HL1.out
        have hl2' : l2 ≤ 122 := by rw [← HLL2.out, opened_len G2.out]; exact HL2.out
        go_wp2_with fail
        go_loopw [12] (fun i wr => ∃ (k : Nat) (vn vw : Value), k ≤ l2 ∧ i = .int .i64 k ∧ Hid (Dm w wr w4.heap.size vn vw (.slice qa l2 qc) (runR (NF wd) (opened lo hi hs).reverse ((opened hi hi' hs').take k)).1.reverse (runR (NF wd) (opened lo hi hs).reverse ((opened hi hi' hs').take k)).2 (opened hi hi' hs') (fun W => Fx W w.heap.size lo hi (.slice a n cap) ∧ Fx W (w.heap.size + 1) hi hi' (.slice a' n' cap') ∧ Fx W (w.heap.size + 2) 0 0 (.slice none 0 0)))) (fun i _ => (l2 - intOf i).toNat)
        case atStart => exact ⟨0, _, _, by omega, rfl, by rw [List.take_zero]; show Dm _ _ _ _ _ _ (opened lo hi hs).reverse.reverse [] _ _; rw [List.reverse_reverse]; exact D0.out⟩
        case round =>
          obtain ⟨k, vn, vw, hk, rfl, HD⟩ := hrel
          clear D0
          by_cases hlt : k < l2
          · have hlt' : (k : Int) < l2 := by omega
            have hkx : k < (opened hi hi' hs').length := by rw [HLL2.out]; exact hlt
            obtain ⟨x, HX⟩ : ∃ x, Hid ((opened hi hi' hs')[k]? = some x) := ⟨_, List.getElem?_eq_getElem hkx⟩
            obtain ⟨bq, rfl, c1, c2, c3⟩ := row_atM HD.out.q.reads HX.out
            obtain ⟨R, HRR⟩ : ∃ R, Hid (runR (NF wd) (opened lo hi hs).reverse ((opened hi hi' hs').take k) = R) := ⟨_, rfl⟩
            have HD1 := HD.out
            rw [HRR.out] at HD1
            have hcnt : R.1.length + R.2.length ≤ 244 := by
              rw [← HRR.out, runR_count, List.length_reverse, List.length_take, HLL1.out]
              omega
            have HSM : ∀ n ∈ x :: R.1.reverse, Small n := by
              intro n hn
              rcases List.mem_cons.1 hn with rfl | hn
              · exact small_open G2.out _ (List.mem_of_getElem? HX.out)
              · rw [← HRR.out] at hn
                exact small_run _ _ (fun n hn => small_open G1.out n (List.mem_reverse.1 hn)) (fun n hn => small_open G2.out n (List.mem_of_mem_take hn)) n (List.mem_reverse.1 hn)
            have C : Hid (Calls _ _ _ _ _) := RB wd w.heap.size w4.heap.size x vn vw R.1.reverse R.2 wr (HT.out.down HD1.b) HD1.r HD1.n HD1.m HD1.ap HD1.b.size HSM (by rw [List.length_reverse]; omega) (by omega) (fun w' hw => HT.out.down (HD1.b.trans (hw.below HD1.b.size HD1.hp (fun g e => (World.ownsRow.lt HD1.n g e).1) (fun g e => (World.ownsRow.lt HD1.m g e).1))))
            have NXT : Hid (runR (NF wd) (opened lo hi hs).reverse ((opened hi hi' hs').take (k + 1)) = ((joinR (NF wd) R.1 x).1, R.2 ++ (joinR (NF wd) R.1 x).2)) := by
              show _ = _
              rw [List.take_add_one, HX.out]
              show runR (NF wd) _ (_ ++ [x]) = _
              rw [runD_snoc, HRR.out]
            rw [List.reverse_reverse] at C
            have HD2 : Hid (Dm _ _ _ _ _ _ _ _ _ _) := HD1
            obtain ⟨⟨xL, xI⟩, xh⟩ := x
            simp only at c1 c2 c3
            clear HD1 HSM hcnt HD
            go_wp2_with fail
            refine C.out.mono ?_
            rintro e w7 ⟨rfl, vn7, vw7, hS7⟩
            have HD3 : Hid (Dm _ w7 _ _ _ _ _ _ _ _) := HD2.out.next hS7 (fun hh => by
              have z3 := SZ3.out
              have z4 := SZ4.out
              obtain ⟨f1, f2, f3⟩ := HD2.out.k
              exact ⟨(hh _ f1.lt (by omega) (fx_farM f1 HD2.out.n) (fx_farM f1 HD2.out.m)).trans f1, (hh _ f2.lt (by omega) (fx_farM f2 HD2.out.n) (fx_farM f2 HD2.out.m)).trans f2, (hh _ f3.lt (by omega) (fx_farM f3 HD2.out.n) (fx_farM f3 HD2.out.m)).trans f3⟩)
            clear hS7 c1 c2 c3
            go_wp2
            go_roundw
            case rel =>
              refine ⟨k + 1, vn7, vw7, by omega, by go_num, ?_⟩
              rw [NXT.out]
              exact HD3.out
            case measure => simp [intOf]; omega
          · have hlt' : ¬ (k : Int) < l2 := by omega
            obtain rfl : k = l2 := by omega
            have HD1 := HD.out
            rw [List.take_of_length_le (by rw [HLL2.out]; omega)] at HD1
            obtain ⟨R, HRR⟩ : ∃ R, Hid (runR (NF wd) (opened lo hi hs).reverse (opened hi hi' hs') = R) := ⟨_, rfl⟩
            have HRM : Hid (mergeR wd lo hi hs hi hi' hs' = R) := HRR.out
            rw [HRR.out] at HD1
            rw [HRM.out] at HPP
            obtain ⟨na, nc, rfl⟩ := own_formS HD1.n
            obtain ⟨wa, wc', rfl⟩ := own_formS HD1.m
            have hcnt : R.1.length + R.2.length ≤ 244 := by
              rw [← HRR.out, runR_count, List.length_reverse, HLL1.out, HLL2.out]
              omega
            obtain ⟨f1, f2, f3⟩ := HD1.k
            have FRC : Hid (∀ W, Below wr.heap.size wr W → Calls _ _ _ _ _) := fun W hW => rfrontier lo hi' (.slice na R.1.reverse.length nc) R.1.reverse W (HD1.n.reads.later hW) (by rw [List.length_reverse]; omega)
            obtain ⟨ln, HLN⟩ : ∃ l, Hid (R.1.reverse.length = l) := ⟨_, rfl⟩
            obtain ⟨lm, HLM⟩ : ∃ l, Hid (R.2.length = l) := ⟨_, rfl⟩
            have HD2 : Hid (Dm _ _ _ _ _ _ _ _ _ _) := HD1
            rw [HLN.out] at HD2 FRC
            rw [HLM.out] at HD2
            have SS : Hid (∀ W, Below wr.heap.size wr W → W.cell? ⟨w.heap.size, 0, none⟩ = some (.int .i64 lo) ∧ W.cell? ⟨w.heap.size + 1, 1, none⟩ = some (.int .i64 hi') ∧ W.cell? ⟨w4.heap.size, 0, none⟩ = some (.slice na ln nc)) := fun W hW => ⟨(f1.on hW).fb.x, (f2.on hW).fb.y, by have h := Rx.one ((hW.block _ HD2.out.r.lt).trans HD2.out.r); exact h⟩
            obtain ⟨lt, HLT⟩ : ∃ l, Hid ((R.1.reverse.map Prod.snd).length = l) := ⟨_, rfl⟩
            have FR3 : Hid (Fx wr (w.heap.size + 2) 0 0 (.slice none 0 0)) := f3
            have S4 : Hid (∀ W, Hb wr W → Hb wr W ∧ W.cell? ⟨w.heap.size, 0, none⟩ = some (.int .i64 lo) ∧ W.cell? ⟨w.heap.size + 1, 1, none⟩ = some (.int .i64 hi') ∧ W.cell? ⟨w4.heap.size, 0, none⟩ = some (.slice na ln nc)) := fun W hW => ⟨hW, SS.out W hW⟩
            have HWE : Hid (w.heap.size ≤ wr.heap.size) := HD1.b.size
            clear HD1 HD f1 f2 f3 SS
            go_wp2_with fail
            go_cut [13] (fun s13 wx => ∃ g va vl vc, s13 = .pointer (some ⟨g, 0, none⟩) ∧ Hid (Gx wr lo hi' (R.1.reverse.map Prod.snd) [] g (.slice va vl vc) (.slice none 0 0) wx))
            case first =>
              go_region_held3 (fun W => Hb wr W ∧ W.cell? ⟨w.heap.size, 0, none⟩ = some (.int .i64 lo) ∧ W.cell? ⟨w.heap.size + 1, 1, none⟩ = some (.int .i64 hi') ∧ W.cell? ⟨w4.heap.size, 0, none⟩ = some (.slice na ln nc)) (first | exact S4.out _ (Hb.drew _) | exact S4.out _ HWF.out | exact S4.out _ (Hb.alloc HWF.out _) | exact S4.out _ (Hb.set HWF.out (Nat.le_refl _) _ _ _) | exact S4.out _ (Hb.alloc (And.left (by assumption)) _)) ((first
                | (go_at_call 33
                   refine (FRC.out _ (And.left (by assumption))).mono ?_
                   rintro e wf ⟨⟨v, rfl, tv⟩, hbf⟩
                   obtain ⟨va, vc, rfl⟩ := own_formS tv
                   rw [HLT.out] at tv ⊢
                   have HWF : Hid (Hb wr wf) := Hb.on (And.left (by assumption)) hbf
                   try
                    (have Z0 : Fx wf wr.heap.size 0 0 (.slice none 0 0) := zedA hbf
                     have z0 := Z0.fb.x
                     have z1 := Z0.fb.y
                     have z2 := Z0.fb.z
                     have y0 := frozen_of_row wf wr.heap.size 0 _ _ Z0
                     have y1 := frozen_of_row wf wr.heap.size 1 _ _ Z0
                     have y2 := frozen_of_row wf wr.heap.size 2 _ _ Z0
                     have HZ0 : Hid (Fx wf wr.heap.size 0 0 (.slice none 0 0)) := Z0
                     clear Z0))))
              all_goals
                go_wp2_with fail
                go_meet
                first
                | exact ⟨_, _, _, _, rfl, gx_alloc HWF.out (Nat.le_refl _) tv (World.ownsRow_nil _ _ _ _)⟩
                | exact ⟨_, _, _, _, rfl, gx_set HWF.out (Nat.le_of_lt (by simp)) HZ0.out tv (World.ownsRow_nil _ _ _ _)⟩
            case rest =>
            as_aux_lemma =>
            obtain ⟨g, va, vl, vc, rfl, HG⟩ := hcut
            obtain ⟨g1, g2, g3⟩ := HG.out.2.2.1.fb
            have p1 := Rx.two ((HG.out.1.block _ HD2.out.r.lt).trans HD2.out.r)
            have FF := FR3.out.on HG.out.1
            have f0 := frozen_of_row wc (w.heap.size + 2) 0 _ _ FF
            have f1 := frozen_of_row wc (w.heap.size + 2) 1 _ _ FF
            have f2 := frozen_of_row wc (w.heap.size + 2) 2 _ _ FF
            obtain ⟨d1, d2, d3⟩ := FF.fb
            have O1 := fx_set FF lo hi' (.slice va vl vc)
            have O2 : Hid (Texts (set3 wc (w.heap.size + 2) (.int .i64 lo) (.int .i64 hi') (.slice va vl vc)) w.heap.size (.slice va vl vc) (R.1.reverse.map Prod.snd)) := own_set3 (HG.out.2.2.2.1.down HWE.out) FF (by decide) _ _ _
            have O4 : Hid (Mades (set3 wc (w.heap.size + 2) (.int .i64 lo) (.int .i64 hi') (.slice va vl vc)) w.heap.size (.slice wa lm wc') R.2) := own_set3 (HD2.out.m.later HG.out.1) FF (by decide) _ _ _
            have O3 : Hid (Below w.heap.size w (set3 wc (w.heap.size + 2) (.int .i64 lo) (.int .i64 hi') (.slice va vl vc))) := below_set3 (over HD2.out.b HG.out.1) (by omega) _ _ _
            obtain ⟨t1, t2, t3⟩ := O1.fb
            clear O1 FF
            have px : ((wc.setCell ⟨w.heap.size + 1 + 1, 0, none⟩ (.int .i64 lo)).setCell ⟨w.heap.size + 1 + 1, 1, none⟩ (.int .i64 hi')).cell? ⟨w4.heap.size, 1, none⟩ = some (.slice wa lm wc') := by
              have z3 := SZ3.out
              have z4 := SZ4.out
              exact (World.cell?_of_block (a := ⟨w4.heap.size, 1, none⟩) ((Below.heap_setCell _ _ _ _ (by show w4.heap.size ≠ w.heap.size + 1 + 1; omega)).trans (Below.heap_setCell _ _ _ _ (by show w4.heap.size ≠ w.heap.size + 1 + 1; omega)))).trans p1
            go_wp2_with fail
            go_region
            all_goals
              go_wp2
              unfold set3 at t1 t2 t3 O2 O3 O4
              generalize World.setCell _ _ _ = wy at t1 t2 t3 O2 O3 O4 ⊢
              (try simp only [Exit.inBlock, Exit.then])
              refine bodyPost_ret (by simp [results, Tryd.results8, go_sem, t1, t2, t3]; try rfl) rfl ?_
              rw [HPP.out.2.2.1, HPP.out.2.2.2]
              exact ⟨⟨_, _, by rw [HPP.out.1, HPP.out.2.1, HEE.out], World.ownsRow.drew O2.out, World.ownsRow.drew O4.out⟩, below_dN O3.out 1⟩
      · have q3 : (hi == lo') = false := by rw [beq_eq_false_iff_ne]; exact h3
        have HEE : Hid (E = 70) := by rw [HE1.out, if_pos rfl, if_pos rfl, if_neg h3]; rfl
        have HPP : Hid (_ ∧ _ ∧ _ ∧ _) := NO.out (by rw [HEE.out]; decide)
        clear h3
        go_enter Tryd.func8, Tryd.ntmps8
        go_wp2_with fail
        refine C1.out.mono ?_
        rintro e w2 ⟨rfl, hb⟩
        have B2 : Hid (Below w.heap.size w w2) := over HB0.out hb
        have HS2 : Hid (W0.heap.size ≤ w2.heap.size) := hb.size
        obtain ⟨i1, i2, i3⟩ := (HF2.out.on hb).fb
        have FA : Hid (Fx w2 _ _ _ _) := HF1.out.on hb
        have FB : Hid (Fx w2 _ _ _ _) := HF2.out.on hb
        have FC : Hid (Fx w2 _ _ _ _) := HF3.out.on hb
        clear hb d1 d2 d3
        go_wp2_with fail
        refine (C2.out _ B2.out).mono ?_
        rintro e w3 ⟨rfl, hb⟩
        have B3 : Hid (Below w.heap.size w w3) := over B2.out hb
        have HB3 : Hid (Below w2.heap.size w2 w3) := hb
        obtain ⟨j1, j2, j3⟩ := (FA.out.on hb).fb
        obtain ⟨k1, k2, k3⟩ := (FB.out.on hb).fb
        have FR := FC.out.on hb
        clear hb i1 i2 i3
        have f0 := frozen_of_row w3 (w.heap.size + 2) 0 _ _ FR
        have f1 := frozen_of_row w3 (w.heap.size + 2) 1 _ _ FR
        have f2 := frozen_of_row w3 (w.heap.size + 2) 2 _ _ FR
        obtain ⟨d1, d2, d3⟩ := FR.fb
        have O1 := fx_set FR 0 0 (.slice none 0 0)
        have O3 : Hid (Below w.heap.size w (set3 w3 (w.heap.size + 2) (.int .i64 0) (.int .i64 0) (.slice none 0 0))) := below_set3 B3.out (by omega) _ _ _
        obtain ⟨g1, g2, g3⟩ := O1.fb
        clear O1 FR
        go_wp2
        unfold set3 at g1 g2 g3 O3
        generalize World.setCell _ _ _ = wy at g1 g2 g3 O3 ⊢
        (try simp only [Exit.inBlock, Exit.then])
        refine bodyPost_ret (by simp [results, Tryd.results8, go_sem, g1, g2, g3]; try rfl) rfl ?_
        rw [HPP.out.2.2.1, HPP.out.2.2.2]
        exact ⟨⟨_, _, by rw [HPP.out.1, HPP.out.2.1, HEE.out], World.ownsRow_nil _ _ _ _, World.ownsRow_nil _ _ _ _⟩, O3.out⟩
    · have q2 : (R2 == 0) = false := by rw [beq_eq_false_iff_ne]; exact h2
      have HEE : Hid (E = R2) := by rw [HE1.out, if_pos rfl, if_neg h2]; rfl
      have HPP : Hid (_ ∧ _ ∧ _ ∧ _) := NO.out (by rw [HEE.out]; exact h2)
      clear h2
      go_enter Tryd.func8, Tryd.ntmps8
      go_wp2_with fail
      refine C1.out.mono ?_
      rintro e w2 ⟨rfl, hb⟩
      have B2 : Hid (Below w.heap.size w w2) := over HB0.out hb
      have HS2 : Hid (W0.heap.size ≤ w2.heap.size) := hb.size
      obtain ⟨i1, i2, i3⟩ := (HF2.out.on hb).fb
      have FA : Hid (Fx w2 _ _ _ _) := HF1.out.on hb
      have FB : Hid (Fx w2 _ _ _ _) := HF2.out.on hb
      have FC : Hid (Fx w2 _ _ _ _) := HF3.out.on hb
      clear hb d1 d2 d3
      go_wp2_with fail
      refine (C2.out _ B2.out).mono ?_
      rintro e w3 ⟨rfl, hb⟩
      have B3 : Hid (Below w.heap.size w w3) := over B2.out hb
      have HB3 : Hid (Below w2.heap.size w2 w3) := hb
      obtain ⟨j1, j2, j3⟩ := (FA.out.on hb).fb
      obtain ⟨k1, k2, k3⟩ := (FB.out.on hb).fb
      have FR := FC.out.on hb
      clear hb i1 i2 i3
      have f0 := frozen_of_row w3 (w.heap.size + 2) 0 _ _ FR
      have f1 := frozen_of_row w3 (w.heap.size + 2) 1 _ _ FR
      have f2 := frozen_of_row w3 (w.heap.size + 2) 2 _ _ FR
      obtain ⟨d1, d2, d3⟩ := FR.fb
      have O1 := fx_set FR 0 0 (.slice none 0 0)
      have O3 : Hid (Below w.heap.size w (set3 w3 (w.heap.size + 2) (.int .i64 0) (.int .i64 0) (.slice none 0 0))) := below_set3 B3.out (by omega) _ _ _
      obtain ⟨g1, g2, g3⟩ := O1.fb
      clear O1 FR
      go_wp2
      unfold set3 at g1 g2 g3 O3
      generalize World.setCell _ _ _ = wy at g1 g2 g3 O3 ⊢
      (try simp only [Exit.inBlock, Exit.then])
      refine bodyPost_ret (by simp [results, Tryd.results8, go_sem, g1, g2, g3]; try rfl) rfl ?_
      rw [HPP.out.2.2.1, HPP.out.2.2.2]
      exact ⟨⟨_, _, by rw [HPP.out.1, HPP.out.2.1, HEE.out], World.ownsRow_nil _ _ _ _, World.ownsRow_nil _ _ _ _⟩, O3.out⟩
  · have q1 : (R1 == 0) = false := by rw [beq_eq_false_iff_ne]; exact h1
    have HEE : Hid (E = R1) := by rw [HE1.out, if_neg h1]; rfl
    have HPP : Hid (_ ∧ _ ∧ _ ∧ _) := NO.out (by rw [HEE.out]; exact h1)
    clear h1
    go_enter Tryd.func8, Tryd.ntmps8
    go_wp2_with fail
    refine C1.out.mono ?_
    rintro e w2 ⟨rfl, hb⟩
    have B2 : Hid (Below w.heap.size w w2) := over HB0.out hb
    have HS2 : Hid (W0.heap.size ≤ w2.heap.size) := hb.size
    obtain ⟨i1, i2, i3⟩ := (HF2.out.on hb).fb
    have FA : Hid (Fx w2 _ _ _ _) := HF1.out.on hb
    have FB : Hid (Fx w2 _ _ _ _) := HF2.out.on hb
    have FC : Hid (Fx w2 _ _ _ _) := HF3.out.on hb
    clear hb d1 d2 d3
    have FR := FC.out
    clear i1 i2 i3
    have f0 := frozen_of_row w2 (w.heap.size + 2) 0 _ _ FR
    have f1 := frozen_of_row w2 (w.heap.size + 2) 1 _ _ FR
    have f2 := frozen_of_row w2 (w.heap.size + 2) 2 _ _ FR
    obtain ⟨d1, d2, d3⟩ := FR.fb
    have O1 := fx_set FR 0 0 (.slice none 0 0)
    have O3 : Hid (Below w.heap.size w (set3 w2 (w.heap.size + 2) (.int .i64 0) (.int .i64 0) (.slice none 0 0))) := below_set3 B2.out (by omega) _ _ _
    obtain ⟨g1, g2, g3⟩ := O1.fb
    clear O1 FR
    go_wp2
    unfold set3 at g1 g2 g3 O3
    generalize World.setCell _ _ _ = wy at g1 g2 g3 O3 ⊢
    (try simp only [Exit.inBlock, Exit.then])
    refine bodyPost_ret (by simp [results, Tryd.results8, go_sem, g1, g2, g3]; try rfl) rfl ?_
    rw [HPP.out.2.2.1, HPP.out.2.2.2]
    exact ⟨⟨_, _, by rw [HPP.out.1, HPP.out.2.1, HEE.out], World.ownsRow_nil _ _ _ _, World.ownsRow_nil _ _ _ _⟩, O3.out⟩
end Go.Proofs.YtmmbkfagchaocaaDoor.rt

namespace Go.Proofs.YtmmbkfagchaocaaDoor.ru
open Go.RowKit Go.PlainAid
open Go.Proofs.YtmmbkfagchaocaaDoor.pl Go.Proofs.YtmmbkfagchaocaaDoor.pi Go.Proofs.YtmmbkfagchaocaaDoor.pj Go.Proofs.YtmmbkfagchaocaaDoor.rf Go.Proofs.YtmmbkfagchaocaaDoor.ca Go.Proofs.YtmmbkfagchaocaaDoor.cb Go.Proofs.YtmmbkfagchaocaaDoor.cp Go.Proofs.YtmmbkfagchaocaaDoor.cs Go.Proofs.YtmmbkfagchaocaaDoor.kb Go.Proofs.YtmmbkfagchaocaaDoor.ka Go.Proofs.YtmmbkfagchaocaaDoor.ga Go.Proofs.YtmmbkfagchaocaaDoor.gb Go.Proofs.YtmmbkfagchaocaaDoor.na Go.Proofs.YtmmbkfagchaocaaDoor.nb Go.Proofs.YtmmbkfagchaocaaDoor.nc Go.Proofs.YtmmbkfagchaocaaDoor.oa Go.Proofs.YtmmbkfagchaocaaDoor.ob Go.Proofs.YtmmbkfagchaocaaDoor.qa Go.Proofs.YtmmbkfagchaocaaDoor.qb Go.Proofs.YtmmbkfagchaocaaDoor.qc Go.Proofs.YtmmbkfagchaocaaDoor.qd Go.Proofs.YtmmbkfagchaocaaDoor.rg Go.Proofs.YtmmbkfagchaocaaDoor.rl Go.Proofs.YtmmbkfagchaocaaDoor.rm Go.Proofs.YtmmbkfagchaocaaDoor.rn Go.Proofs.YtmmbkfagchaocaaDoor.ro Go.Proofs.YtmmbkfagchaocaaDoor.rq
set_option linter.unusedVariables false

set_option maxHeartbeats 6400000 in
set_option maxRecDepth 100000 in
theorem rPush (RB : BehindC) (wd lo hi : Int) (u : Value) (hs : List ByteArray) (h : ByteArray) (w : World) (hlo : i64 lo) (hhi : i64 hi) (hT : Tab4 w) (hR : ReadsT w u hs) (hf : Fits hs) (hh : h.size ≤ 140737488352000) :
    Calls Tryd.prog 7 #[.int .i64 wd, FV lo hi u, .string h] w fun e w' => Go.Proofs.YtmmbkfagchaocaaDoor.ob.Told w w' e (pick (pushE wd lo hi hs h) lo 0) (pick (pushE wd lo hi hs h) (hi + 1) 0) (pick (pushE wd lo hi hs h) (labs (pushR wd lo hi hs h).1) []) (pick (pushE wd lo hi hs h) (pushR wd lo hi hs h).2 []) (pushE wd lo hi hs h) ∧ Below w.heap.size w w' := by
  have HRD : Hid (ReadsT w u hs) := hR
  have HT : Hid (Tab4 w) := hT
  have F1 : Fx (w.alloc (.cells #[.int .i64 lo, .int .i64 hi, u] 24)) w.heap.size lo hi u := fx_new _ _ _ _
  have F3 := fx_new (w.alloc (.cells #[.int .i64 lo, .int .i64 hi, u] 24)) 0 0 (.slice none 0 0)
  rw [show (w.alloc (.cells #[.int .i64 lo, .int .i64 hi, u] 24)).heap.size = w.heap.size + 1 by simp] at F3
  have F1 := F1.on ((Below.refl _ _).alloc (Nat.le_refl _) (.cells #[.int .i64 0, .int .i64 0, .slice none 0 0] 24))
  have B0 : Below w.heap.size w ((w.alloc (.cells #[.int .i64 lo, .int .i64 hi, u] 24)).alloc (.cells #[.int .i64 0, .int .i64 0, .slice none 0 0] 24)) := ((Below.refl _ _).alloc (Nat.le_refl _) _).alloc (by simp) _
  obtain ⟨W0, HW0⟩ : ∃ W0, (w.alloc (.cells #[.int .i64 lo, .int .i64 hi, u] 24)).alloc (.cells #[.int .i64 0, .int .i64 0, .slice none 0 0] 24) = W0 := ⟨_, rfl⟩
  rw [HW0] at F1 F3 B0
  have hsz : W0.heap.size = w.heap.size + 2 := by rw [← HW0]; simp
  have HF1 : Hid (Fx W0 w.heap.size lo hi u) := F1
  have HF3 : Hid (Fx W0 (w.heap.size + 1) 0 0 (.slice none 0 0)) := F3
  have HB0 : Hid (Below w.heap.size w W0) := B0
  have HSZ : Hid (W0.heap.size = w.heap.size + 2) := hsz
  have C1 : Hid (Calls _ _ _ _ _) := rCheck wd lo hi hlo hhi u hs W0 (hR.later B0) hf
  have HG1 : Hid (chkE wd lo hi hs = 0 → GoodF wd lo hi hs) := chk_ok.1
  obtain ⟨E, HE⟩ : ∃ E, Hid (pushE wd lo hi hs h = E) := ⟨_, rfl⟩
  obtain ⟨V, HV⟩ : ∃ V, Hid (wid wd = V) := ⟨_, rfl⟩
  have C2 : Hid (∀ W, Calls _ _ _ _ _) := fun W => rWidth wd W
  rw [HV.out] at C2
  have HE1 : Hid (E = if chkE wd lo hi hs = 0 then (if h.size = V then (if hi = 4611686018427387904 then 10 else 0) else 72) else chkE wd lo hi hs) := by show _ = _; rw [← HE.out, ← HV.out]; rfl
  rw [HE.out]
  obtain ⟨R1, HR1⟩ : ∃ R, Hid (chkE wd lo hi hs = R) := ⟨_, rfl⟩
  rw [HR1.out] at C1 HE1 HG1
  obtain ⟨P1, HP1⟩ : ∃ P, Hid (pick E lo 0 = P) := ⟨_, rfl⟩
  obtain ⟨P2, HP2⟩ : ∃ P, Hid (pick E (hi + 1) 0 = P) := ⟨_, rfl⟩
  obtain ⟨P3, HP3⟩ : ∃ P, Hid (pick E (labs (pushR wd lo hi hs h).1) [] = P) := ⟨_, rfl⟩
  obtain ⟨P4, HP4⟩ : ∃ P, Hid (pick E (pushR wd lo hi hs h).2 [] = P) := ⟨_, rfl⟩
  rw [HP1.out, HP2.out, HP3.out, HP4.out]
  have NO : Hid (E ≠ 0 → P1 = 0 ∧ P2 = 0 ∧ P3 = [] ∧ P4 = []) := fun h => by
    rw [← HP1.out, ← HP2.out, ← HP3.out, ← HP4.out]
    unfold pick
    rw [if_neg h, if_neg h, if_neg h, if_neg h]
    exact ⟨rfl, rfl, rfl, rfl⟩
  obtain ⟨a, cap, rfl, hcap, _⟩ := hR
  obtain ⟨n, HN⟩ : ∃ n, Hid (hs.length = n) := ⟨_, rfl⟩
  rw [HN.out] at HRD HF1 C1 HW0 ⊢
  obtain ⟨d1, d2, d3⟩ := HF1.out.fb
  have OP1 : Hid (∀ W, Below w.heap.size w W → (covI lo hi).length = hs.length → Calls _ _ _ _ _) := fun W hW hl => ropen lo hi hlo hhi (.slice a n cap) hs W (HRD.out.later hW) hl
  clear hT hf F1 F3 B0 hsz hcap hlo hhi
  by_cases h1 : R1 = 0
  · subst h1
    have G1 : Hid (GoodF wd lo hi hs) := HG1.out rfl
    by_cases h2 : h.size = V
    · have HVV : Hid (h.size = V) := h2
      have q2 : ((h.size : Int) == (V : Int)) = true := by rw [beq_iff_eq, h2]
      clear h2
      by_cases h3 : hi = 4611686018427387904
      · have q3 : (hi == 4611686018427387904) = true := by rw [beq_iff_eq]; exact h3
        have HEE : Hid (E = 10) := by rw [HE1.out, if_pos rfl, if_pos HVV.out, if_pos h3]; rfl
        have HPP : Hid (_ ∧ _ ∧ _ ∧ _) := NO.out (by rw [HEE.out]; decide)
        clear h3
        go_enter Tryd.func7, Tryd.ntmps7
        go_wp2_with fail
        refine C1.out.mono ?_
        rintro e w2 ⟨rfl, hb⟩
        have B2 : Hid (Below w.heap.size w w2) := over HB0.out hb
        have HS2 : Hid (W0.heap.size ≤ w2.heap.size) := hb.size
        have FA : Hid (Fx w2 _ _ _ _) := HF1.out.on hb
        have FC : Hid (Fx w2 _ _ _ _) := HF3.out.on hb
        clear hb d1 d2 d3
        go_wp2_with fail
        refine (C2.out _).mono ?_
        rintro e w3 ⟨rfl, hw⟩
        rw [hw]
        clear hw
        obtain ⟨j1, j2, j3⟩ := FA.out.fb
        have FR := FC.out
        have f0 := frozen_of_row w2 (w.heap.size + 1) 0 _ _ FR
        have f1 := frozen_of_row w2 (w.heap.size + 1) 1 _ _ FR
        have f2 := frozen_of_row w2 (w.heap.size + 1) 2 _ _ FR
        obtain ⟨d1, d2, d3⟩ := FR.fb
        have O1 := fx_set FR 0 0 (.slice none 0 0)
        have O3 : Hid (Below w.heap.size w (set3 w2 (w.heap.size + 1) (.int .i64 0) (.int .i64 0) (.slice none 0 0))) := below_set3 B2.out (by omega) _ _ _
        obtain ⟨g1, g2, g3⟩ := O1.fb
        clear O1 FR
        go_wp2
        unfold set3 at g1 g2 g3 O3
        generalize World.setCell _ _ _ = wy at g1 g2 g3 O3 ⊢
        (try simp only [Exit.inBlock, Exit.then])
        refine bodyPost_ret (by simp [results, Tryd.results7, go_sem, g1, g2, g3]; try rfl) rfl ?_
        rw [HPP.out.2.2.1, HPP.out.2.2.2]
        exact ⟨⟨_, _, by rw [HPP.out.1, HPP.out.2.1, HEE.out], World.ownsRow_nil _ _ _ _, World.ownsRow_nil _ _ _ _⟩, O3.out⟩
      · obtain ⟨b0, rfl⟩ : ∃ m : Nat, hi = m := by obtain ⟨_, b, _, e, _⟩ := good_form G1.out; exact ⟨b, e⟩
        have hb62 : b0 < 4611686018427387904 := by obtain ⟨_, b, _, e, _, e2, _⟩ := good_form G1.out; omega
        have HL1 : Hid (hs.length ≤ 122) := by obtain ⟨_, _, _, _, _, _, h⟩ := good_form G1.out; exact h
        have HEE : Hid (E = 0) := by rw [HE1.out, if_pos rfl, if_pos HVV.out, if_neg h3]; rfl
        have HPP : Hid (P1 = lo ∧ P2 = (b0 : Int) + 1 ∧ P3 = labs (pushR wd lo b0 hs h).1 ∧ P4 = (pushR wd lo b0 hs h).2) := by
          rw [← HP1.out, ← HP2.out, ← HP3.out, ← HP4.out, HEE.out]
          exact ⟨rfl, rfl, rfl, rfl⟩
        have HSX : Hid (Small ((0, b0), h)) := ⟨by show 0 ≤ 126; omega, by show b0 ≤ _; omega, by show h.size ≤ 32; rw [HVV.out, ← HV.out]; have := wid_in wd; omega⟩
        have q3 : ((b0 : Int) == 4611686018427387904) = false := by rw [beq_eq_false_iff_ne]; omega
        have hwb : IntKind.i64.wrap ((b0 : Int) + 1) = (b0 : Int) + 1 := by unfold IntKind.wrap; simp [IntKind.bits, IntKind.signed]; omega
        clear h3
        go_enter Tryd.func7, Tryd.ntmps7
        go_wp2_with fail
        refine C1.out.mono ?_
        rintro e w2 ⟨rfl, hb⟩
        have B2 : Hid (Below w.heap.size w w2) := over HB0.out hb
        have HS2 : Hid (W0.heap.size ≤ w2.heap.size) := hb.size
        have FA : Hid (Fx w2 _ _ _ _) := HF1.out.on hb
        have FC : Hid (Fx w2 _ _ _ _) := HF3.out.on hb
        clear hb d1 d2 d3
        go_wp2_with fail
        refine (C2.out _).mono ?_
        rintro e w3 ⟨rfl, hw⟩
        rw [hw]
        clear hw
        obtain ⟨j1, j2, j3⟩ := FA.out.fb
        have O3 : Hid (Calls _ _ _ _ _) := OP1.out w2 B2.out G1.out.2.1
        go_wp2_with fail
        refine O3.out.mono ?_
        rintro e w4 ⟨⟨m, rfl, hm⟩, hb4⟩
        obtain ⟨ma, mc, rfl⟩ := own_formS hm
        obtain ⟨l1, HLL1⟩ : ∃ l, Hid ((opened lo b0 hs).length = l) := ⟨_, rfl⟩
        rw [HLL1.out] at hm ⊢
        have B4 : Hid (Below w.heap.size w w4) := over B2.out hb4
        have A5 : Below w4.heap.size w4 (w4.alloc (.cells #[.slice ma l1 mc, .slice none 0 0] 74)) := (Below.refl _ _).alloc (Nat.le_refl _) _
        have FA5 : Hid (Fx (w4.alloc (.cells #[.slice ma l1 mc, .slice none 0 0] 74)) _ _ _ _) := (FA.out.on hb4).on A5
        have FC5 : Hid (Fx (w4.alloc (.cells #[.slice ma l1 mc, .slice none 0 0] 74)) _ _ _ _) := (FC.out.on hb4).on A5
        obtain ⟨p1, p2, p3⟩ := FA5.out.fb
        have SZ3 : Hid (w.heap.size + 2 ≤ w2.heap.size) := by have h1 := HS2.out; have h3 := HSZ.out; show _ ≤ _; omega
        have SZ4 : Hid (w2.heap.size ≤ w4.heap.size) := hb4.size
        have D0 : Hid (Dm w (w4.alloc (.cells #[.slice ma l1 mc, .slice none 0 0] 74)) w4.heap.size (.slice ma l1 mc) (.slice none 0 0) (.slice none 0 0) (opened lo b0 hs) [] [] (fun W => Fx W w.heap.size lo b0 (.slice a n cap) ∧ Fx W (w.heap.size + 1) 0 0 (.slice none 0 0))) := by
          have z3 := SZ3.out
          have z4 := SZ4.out
          refine ⟨over B4.out A5, heap_alloc_new _ _, (hm.down (by omega)).later A5, World.ownsRow_nil _ _ _ _, World.ownsRow_nil _ _ _ _, ?_, (fun g e => by cases e), by omega, FA5.out, FC5.out⟩
          cases ma with
          | none => exact .inl rfl
          | some _ => exact .inr (fun e => by cases e)
        have hl1' : l1 ≤ 122 := by rw [← HLL1.out, opened_len G1.out]; exact HL1.out
        have HSM : ∀ n ∈ ((0, b0), h) :: opened lo b0 hs, Small n := by
          intro n hn
          rcases List.mem_cons.1 hn with rfl | hn
          · exact HSX.out
          · exact small_open G1.out n hn
        have HD1 := D0.out
        have C : Hid (Calls Tryd.prog 32 #[.pointer (some ⟨w4.heap.size, 0, none⟩), .int .i64 wd, .agg #[.int .i64 0, .int .i64 (b0 : Int), .string h]] _ _) := RB wd w.heap.size w4.heap.size ((0, b0), h) (.slice ma l1 mc) (.slice none 0 0) (opened lo b0 hs) [] (w4.alloc (.cells #[.slice ma l1 mc, .slice none 0 0] 74)) (HT.out.down HD1.b) HD1.r HD1.n HD1.m HD1.ap HD1.b.size HSM (by rw [HLL1.out]; omega) (by simp) (fun w' hw => HT.out.down (HD1.b.trans (hw.below HD1.b.size HD1.hp (fun g e => (World.ownsRow.lt HD1.n g e).1) (fun g e => (World.ownsRow.lt HD1.m g e).1))))
        obtain ⟨R, HRR⟩ : ∃ R, Hid (joinR (NF wd) (opened lo b0 hs).reverse ((0, b0), h) = R) := ⟨_, rfl⟩
        rw [HRR.out, List.nil_append] at C
        have HRM : Hid (pushR wd lo b0 hs h = R) := HRR.out
        have hcnt : R.1.length + R.2.length ≤ 244 := by
          rw [← HRR.out]
          have := joinR_count (NF wd) (opened lo b0 hs).reverse ((0, b0), h)
          rw [List.length_reverse, HLL1.out] at this
          omega
        rw [HRM.out] at HPP
        clear HD1 HSM hm hb4 A5 FA5 FC5 j1 j2 j3
        go_wp2_with fail
        refine C.out.mono ?_
        rintro e wr ⟨rfl, vn7, vw7, hS7⟩
        have HD3 : Hid (Dm _ wr _ _ _ _ _ _ _ _) := D0.out.next hS7 (fun hh => by
          have z3 := SZ3.out
          have z4 := SZ4.out
          obtain ⟨f1, f2⟩ := D0.out.k
          exact ⟨(hh _ f1.lt (by omega) (fx_farM f1 D0.out.n) (fx_farM f1 D0.out.m)).trans f1, (hh _ f2.lt (by omega) (fx_farM f2 D0.out.n) (fx_farM f2 D0.out.m)).trans f2⟩)
        clear hS7 p1 p2 p3 D0
        have HD1 := HD3.out
        obtain ⟨na, nc, rfl⟩ := own_formS HD1.n
        obtain ⟨wa, wc', rfl⟩ := own_formS HD1.m
        obtain ⟨f1, f2⟩ := HD1.k
        have FRC : Hid (∀ W, Below wr.heap.size wr W → Calls _ _ _ _ _) := fun W hW => rfrontier lo ((b0 : Int) + 1) (.slice na R.1.reverse.length nc) R.1.reverse W (HD1.n.reads.later hW) (by rw [List.length_reverse]; omega)
        obtain ⟨ln, HLN⟩ : ∃ l, Hid (R.1.reverse.length = l) := ⟨_, rfl⟩
        obtain ⟨lm, HLM⟩ : ∃ l, Hid (R.2.length = l) := ⟨_, rfl⟩
        have HD2 : Hid (Dm _ _ _ _ _ _ _ _ _ _) := HD1
        rw [HLN.out] at HD2 FRC
        rw [HLM.out] at HD2
        have SS : Hid (∀ W, Below wr.heap.size wr W → W.cell? ⟨w.heap.size, 0, none⟩ = some (.int .i64 lo) ∧ W.cell? ⟨w.heap.size, 1, none⟩ = some (.int .i64 (b0 : Int)) ∧ W.cell? ⟨w4.heap.size, 0, none⟩ = some (.slice na ln nc)) := fun W hW => ⟨(f1.on hW).fb.x, (f1.on hW).fb.y, by have h := Rx.one ((hW.block _ HD2.out.r.lt).trans HD2.out.r); exact h⟩
        obtain ⟨lt, HLT⟩ : ∃ l, Hid ((R.1.reverse.map Prod.snd).length = l) := ⟨_, rfl⟩
        have FR3 : Hid (Fx wr (w.heap.size + 1) 0 0 (.slice none 0 0)) := f2
        have S4 : Hid (∀ W, Hb wr W → Hb wr W ∧ W.cell? ⟨w.heap.size, 0, none⟩ = some (.int .i64 lo) ∧ W.cell? ⟨w.heap.size, 1, none⟩ = some (.int .i64 (b0 : Int)) ∧ W.cell? ⟨w4.heap.size, 0, none⟩ = some (.slice na ln nc)) := fun W hW => ⟨hW, SS.out W hW⟩
        have HWE : Hid (w.heap.size ≤ wr.heap.size) := HD1.b.size
        clear HD1 f1 f2 SS HD3
        go_wp2_with fail
        go_cut [11] (fun s13 wx => ∃ g va vl vc, s13 = .pointer (some ⟨g, 0, none⟩) ∧ Hid (Gx wr lo ((b0 : Int) + 1) (R.1.reverse.map Prod.snd) [] g (.slice va vl vc) (.slice none 0 0) wx))
        case first =>
          go_region_held3 (fun W => Hb wr W ∧ W.cell? ⟨w.heap.size, 0, none⟩ = some (.int .i64 lo) ∧ W.cell? ⟨w.heap.size, 1, none⟩ = some (.int .i64 (b0 : Int)) ∧ W.cell? ⟨w4.heap.size, 0, none⟩ = some (.slice na ln nc)) (first | exact S4.out _ (Hb.drew _) | exact S4.out _ HWF.out | exact S4.out _ (Hb.alloc HWF.out _) | exact S4.out _ (Hb.set HWF.out (Nat.le_refl _) _ _ _) | exact S4.out _ (Hb.alloc (And.left (by assumption)) _)) ((first
            | (go_at_call 33
               refine (FRC.out _ (And.left (by assumption))).mono ?_
               rintro e wf ⟨⟨v, rfl, tv⟩, hbf⟩
               obtain ⟨va, vc, rfl⟩ := own_formS tv
               rw [HLT.out] at tv ⊢
               have HWF : Hid (Hb wr wf) := Hb.on (And.left (by assumption)) hbf
               try
                (have Z0 : Fx wf wr.heap.size 0 0 (.slice none 0 0) := zedA hbf
                 have z0 := Z0.fb.x
                 have z1 := Z0.fb.y
                 have z2 := Z0.fb.z
                 have y0 := frozen_of_row wf wr.heap.size 0 _ _ Z0
                 have y1 := frozen_of_row wf wr.heap.size 1 _ _ Z0
                 have y2 := frozen_of_row wf wr.heap.size 2 _ _ Z0
                 have HZ0 : Hid (Fx wf wr.heap.size 0 0 (.slice none 0 0)) := Z0
                 clear Z0))))
          all_goals
            go_wp2_with fail
            go_meet
            first
            | exact ⟨_, _, _, _, rfl, gx_alloc HWF.out (Nat.le_refl _) tv (World.ownsRow_nil _ _ _ _)⟩
            | exact ⟨_, _, _, _, rfl, gx_set HWF.out (Nat.le_of_lt (by simp)) HZ0.out tv (World.ownsRow_nil _ _ _ _)⟩
        case rest =>
        as_aux_lemma =>
        obtain ⟨g, va, vl, vc, rfl, HG⟩ := hcut
        obtain ⟨g1, g2, g3⟩ := HG.out.2.2.1.fb
        have p1 := Rx.two ((HG.out.1.block _ HD2.out.r.lt).trans HD2.out.r)
        have FF := FR3.out.on HG.out.1
        have f0 := frozen_of_row wc (w.heap.size + 1) 0 _ _ FF
        have f1 := frozen_of_row wc (w.heap.size + 1) 1 _ _ FF
        have f2 := frozen_of_row wc (w.heap.size + 1) 2 _ _ FF
        obtain ⟨d1, d2, d3⟩ := FF.fb
        have O1 := fx_set FF lo ((b0 : Int) + 1) (.slice va vl vc)
        have O2 : Hid (Texts (set3 wc (w.heap.size + 1) (.int .i64 lo) (.int .i64 ((b0 : Int) + 1)) (.slice va vl vc)) w.heap.size (.slice va vl vc) (R.1.reverse.map Prod.snd)) := own_set3 (HG.out.2.2.2.1.down HWE.out) FF (by decide) _ _ _
        have O4 : Hid (Mades (set3 wc (w.heap.size + 1) (.int .i64 lo) (.int .i64 ((b0 : Int) + 1)) (.slice va vl vc)) w.heap.size (.slice wa lm wc') R.2) := own_set3 (HD2.out.m.later HG.out.1) FF (by decide) _ _ _
        have O3 : Hid (Below w.heap.size w (set3 wc (w.heap.size + 1) (.int .i64 lo) (.int .i64 ((b0 : Int) + 1)) (.slice va vl vc))) := below_set3 (over HD2.out.b HG.out.1) (by omega) _ _ _
        obtain ⟨t1, t2, t3⟩ := O1.fb
        clear O1 FF
        have px : ((wc.setCell ⟨w.heap.size + 1, 0, none⟩ (.int .i64 lo)).setCell ⟨w.heap.size + 1, 1, none⟩ (.int .i64 ((b0 : Int) + 1))).cell? ⟨w4.heap.size, 1, none⟩ = some (.slice wa lm wc') := by
          have z3 := SZ3.out
          have z4 := SZ4.out
          exact (World.cell?_of_block (a := ⟨w4.heap.size, 1, none⟩) ((Below.heap_setCell _ _ _ _ (by show w4.heap.size ≠ w.heap.size + 1; omega)).trans (Below.heap_setCell _ _ _ _ (by show w4.heap.size ≠ w.heap.size + 1; omega)))).trans p1
        go_wp2_with fail
        go_region
        all_goals
          go_wp2
          unfold set3 at t1 t2 t3 O2 O3 O4
          generalize World.setCell _ _ _ = wy at t1 t2 t3 O2 O3 O4 ⊢
          (try simp only [Exit.inBlock, Exit.then])
          refine bodyPost_ret (by simp [results, Tryd.results7, go_sem, t1, t2, t3]; try rfl) rfl ?_
          rw [HPP.out.2.2.1, HPP.out.2.2.2]
          exact ⟨⟨_, _, by rw [HPP.out.1, HPP.out.2.1, HEE.out], World.ownsRow.drew O2.out, World.ownsRow.drew O4.out⟩, below_dN O3.out 1⟩
    · have q2 : ((h.size : Int) == (V : Int)) = false := by rw [beq_eq_false_iff_ne]; omega
      have HEE : Hid (E = 72) := by rw [HE1.out, if_pos rfl, if_neg h2]; rfl
      have HPP : Hid (_ ∧ _ ∧ _ ∧ _) := NO.out (by rw [HEE.out]; decide)
      clear h2
      go_enter Tryd.func7, Tryd.ntmps7
      go_wp2_with fail
      refine C1.out.mono ?_
      rintro e w2 ⟨rfl, hb⟩
      have B2 : Hid (Below w.heap.size w w2) := over HB0.out hb
      have HS2 : Hid (W0.heap.size ≤ w2.heap.size) := hb.size
      have FA : Hid (Fx w2 _ _ _ _) := HF1.out.on hb
      have FC : Hid (Fx w2 _ _ _ _) := HF3.out.on hb
      clear hb d1 d2 d3
      go_wp2_with fail
      refine (C2.out _).mono ?_
      rintro e w3 ⟨rfl, hw⟩
      rw [hw]
      clear hw
      obtain ⟨j1, j2, j3⟩ := FA.out.fb
      have FR := FC.out
      have f0 := frozen_of_row w2 (w.heap.size + 1) 0 _ _ FR
      have f1 := frozen_of_row w2 (w.heap.size + 1) 1 _ _ FR
      have f2 := frozen_of_row w2 (w.heap.size + 1) 2 _ _ FR
      obtain ⟨d1, d2, d3⟩ := FR.fb
      have O1 := fx_set FR 0 0 (.slice none 0 0)
      have O3 : Hid (Below w.heap.size w (set3 w2 (w.heap.size + 1) (.int .i64 0) (.int .i64 0) (.slice none 0 0))) := below_set3 B2.out (by omega) _ _ _
      obtain ⟨g1, g2, g3⟩ := O1.fb
      clear O1 FR
      go_wp2
      unfold set3 at g1 g2 g3 O3
      generalize World.setCell _ _ _ = wy at g1 g2 g3 O3 ⊢
      (try simp only [Exit.inBlock, Exit.then])
      refine bodyPost_ret (by simp [results, Tryd.results7, go_sem, g1, g2, g3]; try rfl) rfl ?_
      rw [HPP.out.2.2.1, HPP.out.2.2.2]
      exact ⟨⟨_, _, by rw [HPP.out.1, HPP.out.2.1, HEE.out], World.ownsRow_nil _ _ _ _, World.ownsRow_nil _ _ _ _⟩, O3.out⟩
  · have q1 : (R1 == 0) = false := by rw [beq_eq_false_iff_ne]; exact h1
    have HEE : Hid (E = R1) := by rw [HE1.out, if_neg h1]; rfl
    have HPP : Hid (_ ∧ _ ∧ _ ∧ _) := NO.out (by rw [HEE.out]; exact h1)
    clear h1
    go_enter Tryd.func7, Tryd.ntmps7
    go_wp2_with fail
    refine C1.out.mono ?_
    rintro e w2 ⟨rfl, hb⟩
    have B2 : Hid (Below w.heap.size w w2) := over HB0.out hb
    have HS2 : Hid (W0.heap.size ≤ w2.heap.size) := hb.size
    have FA : Hid (Fx w2 _ _ _ _) := HF1.out.on hb
    have FC : Hid (Fx w2 _ _ _ _) := HF3.out.on hb
    clear hb d1 d2 d3
    have FR := FC.out
    have f0 := frozen_of_row w2 (w.heap.size + 1) 0 _ _ FR
    have f1 := frozen_of_row w2 (w.heap.size + 1) 1 _ _ FR
    have f2 := frozen_of_row w2 (w.heap.size + 1) 2 _ _ FR
    obtain ⟨d1, d2, d3⟩ := FR.fb
    have O1 := fx_set FR 0 0 (.slice none 0 0)
    have O3 : Hid (Below w.heap.size w (set3 w2 (w.heap.size + 1) (.int .i64 0) (.int .i64 0) (.slice none 0 0))) := below_set3 B2.out (by omega) _ _ _
    obtain ⟨g1, g2, g3⟩ := O1.fb
    clear O1 FR
    go_wp2
    unfold set3 at g1 g2 g3 O3
    generalize World.setCell _ _ _ = wy at g1 g2 g3 O3 ⊢
    (try simp only [Exit.inBlock, Exit.then])
    refine bodyPost_ret (by simp [results, Tryd.results7, go_sem, g1, g2, g3]; try rfl) rfl ?_
    rw [HPP.out.2.2.1, HPP.out.2.2.2]
    exact ⟨⟨_, _, by rw [HPP.out.1, HPP.out.2.1, HEE.out], World.ownsRow_nil _ _ _ _, World.ownsRow_nil _ _ _ _⟩, O3.out⟩
end Go.Proofs.YtmmbkfagchaocaaDoor.ru
