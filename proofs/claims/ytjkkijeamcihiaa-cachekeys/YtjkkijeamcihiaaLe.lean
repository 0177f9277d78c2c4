import Derived.Test.YtjkkijeamcihiaaLd
namespace Go.Proofs.Ytjkkijeamcihiaa.le
open Go.RowKit Go.PlainAid Go.Maps
open Go.Proofs.Ytjkkijeamcihiaa.cp Go.Proofs.Ytjkkijeamcihiaa.kp Go.Proofs.Ytjkkijeamcihiaa.ka Go.Proofs.Ytjkkijeamcihiaa.bn Go.Proofs.Ytjkkijeamcihiaa.ra Go.Proofs.Ytjkkijeamcihiaa.rb Go.Proofs.Ytjkkijeamcihiaa.rc Go.Proofs.Ytjkkijeamcihiaa.rd Go.Proofs.Ytjkkijeamcihiaa.re Go.Proofs.Ytjkkijeamcihiaa.rf Go.Proofs.Ytjkkijeamcihiaa.rg Go.Proofs.Ytjkkijeamcihiaa.rh Go.Proofs.Ytjkkijeamcihiaa.ri Go.Proofs.Ytjkkijeamcihiaa.rj Go.Proofs.Ytjkkijeamcihiaa.rk Go.Proofs.Ytjkkijeamcihiaa.sa Go.Proofs.Ytjkkijeamcihiaa.lz Go.Proofs.Ytjkkijeamcihiaa.la Go.Proofs.Ytjkkijeamcihiaa.lb Go.Proofs.Ytjkkijeamcihiaa.lc Go.Proofs.Ytjkkijeamcihiaa.ln Go.Proofs.Ytjkkijeamcihiaa.ld
open Go.Proofs.Ytjkkijeamcihiaa.rl (below_grownBy)
set_option linter.unusedVariables false
set_option linter.unusedSimpArgs false
theorem pick_nat (k : Int) : ∃ n : Nat, pickS k 12 = n ∧ n ≤ 11 := by
  have := pick_in k (n := 12) (by omega)
  exact ⟨(pickS k 12).toNat, by omega, by omega⟩
set_option maxRecDepth 8000 in
set_option maxHeartbeats 6400000 in
theorem nested (small more : Int) (hs0 : -9223372036854775808 ≤ small) (hs1 : small ≤ 9223372036854775807) (hm0 : -9223372036854775808 ≤ more) (hm1 : more ≤ 9223372036854775807) (v : Value) (l : List Opc) (w : World) (hr : ReadsC w v l) (hno : v.ownBlock = none → v = .slice none 0 0) (hz : l.length * 32 ≤ 140737488351232) :
    Calls Try.prog 6 #[.int .i64 small, .int .i64 more, v] w fun e w' => e = .returned (.bool true) ∧ Below w.heap.size w w' := by
  obtain ⟨n, hn, hn1⟩ := pick_nat small
  obtain ⟨d, hd, hd1⟩ := pick_nat more
  have CP1 : Hid (∀ w, Calls Try.prog 13 #[.int .i64 small, .int .i64 12] w fun e w' => e = .returned (.int .i64 (n : Nat)) ∧ w' = w) := fun w => by rw [← hn]; exact pickC small 12 hs0 hs1 (by omega) (by omega) w
  have CP2 : Hid (∀ w, Calls Try.prog 13 #[.int .i64 more, .int .i64 12] w fun e w' => e = .returned (.int .i64 (d : Nat)) ∧ w' = w) := fun w => by rw [← hd]; exact pickC more 12 hm0 hm1 (by omega) (by omega) w
  obtain ⟨m, HM⟩ : ∃ m : Nat, Hid (n + d = m) := ⟨_, rfl⟩
  have hnm : n ≤ m := by have := HM.out; omega
  have hm2 : m ≤ 22 := by have := HM.out; omega
  have hsum : (n : Int) + (d : Int) = (m : Int) := by have := HM.out; omega
  have CN1 : Hid (∀ w, Calls _ _ _ _ _) := fun w => cNew n (by omega) w
  have CN2 : Hid (∀ w, Calls _ _ _ _ _) := fun w => cNew m (by omega) w
  have HR : Hid (ReadsC w v l ∧ (v.ownBlock = none → v = .slice none 0 0) ∧ l.length * 32 ≤ 140737488351232) := ⟨hr, hno, hz⟩
  have HRL : Hid (∀ w', Below w.heap.size w w' → ReadsC w' v l) := fun w' hb => rdC.keep (v := v) (l := l) hr (Kp.of_below (A := fun _ => False) hb) (fun _ _ _ e => e)
  clear hr hno hz hn hd hs0 hs1 hm0 hm1
  unfold pt at *
  go_enter Try.func6, Try.ntmps6
  go_upto_region 2 with (first | (go_at_call 13; refine (CP1.out _).mono ?_; rintro _ wz ⟨rfl, hwz⟩; rw [hwz]; clear hwz) | go_in)
  go_upto_region 4 with (first | (go_at_call 13; refine (CP2.out _).mono ?_; rintro _ wz ⟨rfl, hwz⟩; rw [hwz]; clear hwz) | (go_at_call 9; refine (CN1.out _).mono ?_; rintro _ w1 ⟨rfl, hb1, hp1, hf1⟩; have O1 : Hid (One _ w.heap.size _ w w1) := One.born (Nat.le_refl _) hp1 hb1 hf1; clear hb1 hp1 hf1) | go_in)
  go_upto_region 7 with (first | (go_at_call 9; refine (CN2.out _).mono ?_; rintro _ w2 ⟨rfl, hb2, hp2, hf2⟩; have O2 : Hid (One (pairO _ _) w.heap.size _ w w2) := One.put O1.out hp2 hb2 hf2; clear hb2 hp2 hf2) | go_in)
  obtain ⟨ga, HGA⟩ : ∃ g, Hid (w.heap.size + 1 = g) := ⟨_, rfl⟩
  obtain ⟨gb, HGB⟩ : ∃ g, Hid (w1.heap.size + 1 = g) := ⟨_, rfl⟩
  rw [HGA.out, HGB.out] at O2
  rw [HGA.out, HGB.out]
  have hB2 : Hid (w.heap.size ≤ w2.heap.size) := One.hb O2.out
  obtain ⟨W2, HW2⟩ : ∃ W, Hid (w2.alloc (.cells #[.int .i64 3, .int .i64 1, .string ⟨#[102, 105, 114, 115, 116]⟩] 35) = W) := ⟨_, rfl⟩
  have OW : Hid (W2.ownsRow w2.heap.size 35 3 (.slice (some ⟨w2.heap.size, 0, none⟩) 1 1) [fst1].length (cellsO [fst1]) ∧ Below w2.heap.size w2 W2 ∧ w2.heap.size ≤ W2.heap.size) := by
    refine ⟨?_, ?_, ?_⟩
    · rw [← HW2.out]; exact World.ownsRow_lit w2 #[.int .i64 3, .int .i64 1, .string ⟨#[102, 105, 114, 115, 116]⟩] 1 (Nat.le_refl _) (by unfold maxLen; omega) rfl
    · rw [← HW2.out]; exact (Below.refl _ _).alloc (Nat.le_refl _) _
    · rw [← HW2.out]; exact ((Below.refl _ w2).alloc (Nat.le_refl _) _).size
  have RW : Hid (ReadsC W2 v l) := HRL.out W2 (ov (One.below O2.out) (dn OW.out.2.1 hB2.out))
  go_wp2_with (first | (at_builtin; rw [HW2.out]; refine wpList_append_ops _ rfl _ _ rfl w2.heap.size _ [fst1] rfl OW.out.1 v l rfl RW.out HR.out.2.1 (by have := HR.out.2.2; unfold maxLen; simp only [List.length_cons, List.length_nil]; omega) (by have := HR.out.2.2; simp only [List.length_cons, List.length_nil]; omega) OW.out.2.2 ?_; intro v' w3 ho hg; have O3 : Hid (One (pairO (pairO _ _) (RowO rdC)) w.heap.size _ w w3) := One.put O2.out (row_new (r := rdC) (own_readsC ho) ho.lt).1 (below_grownBy OW.out.2.1 hg (Nat.le_refl _) (fun j hj => (OW.out.1.lt j hj).1)) (row_new (r := rdC) (own_readsC ho) ho.lt).2; have HV : Hid (∃ a c, v' = .slice a ([fst1] ++ l).length c) := own_formS ho; clear ho hg) | go_in)
  obtain ⟨ls, HLS⟩ : ∃ ls, Hid ([fst1] ++ l = ls) := ⟨_, rfl⟩
  rw [HLS.out] at O3 HV
  obtain ⟨va, vc, hv⟩ := HV.out
  obtain ⟨N, HN⟩ : ∃ N, Hid (ls.length = N) := ⟨_, rfl⟩
  have hNb : (N : Int) ≤ 140737488351232 := by
    have h1 := HR.out.2.2
    have h2 := congrArg List.length HLS.out
    rw [HN.out, List.length_append] at h2
    simp only [List.length_cons, List.length_nil] at h2
    omega
  have HF : Hid (ls[0]? = some fst1) := by rw [← HLS.out]; rfl
  rw [HN.out] at hv
  subst hv
  obtain ⟨ma, HMA⟩ : ∃ g, Hid (w.heap.size = g) := ⟨_, rfl⟩
  obtain ⟨mb, HMB⟩ : ∃ g, Hid (w1.heap.size = g) := ⟨_, rfl⟩
  rw [HMB.out, HMA.out] at O3
  have hn3 : (n : Int) ≤ 11 := by omega
  have hm3 : (m : Int) ≤ 22 := by omega
  have HQ : Hid (n ≤ m ∧ m ≤ 4096) := ⟨hnm, by omega⟩
  clear O1 O2 CP1 CP2 CN1 CN2 hB2 HW2 OW RW HRL HV HM hsum hd1 hn1 hm2 hnm
  go_loopw [12] (fun iv wr => ∃ (i : Nat) (sa sb : St), i ≤ N ∧ i ≤ 300 ∧ iv = .int .i64 i ∧ Hid (One (pairO (pairO (ChO ga ma) (ChO gb mb)) (RowO rdC)) ma ((sa, sb), (.slice va N vc, ls)) w wr) ∧ Hid (Nst sa sb ∧ cntS sa ≤ i ∧ cntS sb ≤ i ∧ sa.most = n ∧ sb.most = m ∧ (i = 0 → sb = S0 m))) (fun iv _ => (300 - intOf iv).toNat)
  case atStart => exact ⟨0, S0 n, S0 m, by omega, by omega, rfl, O3, nst0 HQ.out.1 HQ.out.2, Nat.le_refl _, Nat.le_refl _, rfl, rfl, fun _ => rfl⟩
  case round =>
    obtain ⟨i, sa, sb, hiN, hi3, rfl, HO, HS⟩ := hrel
    by_cases hlt : i < N ∧ i < 300
    · obtain ⟨hl1, hl2⟩ := hlt
      have hl1' : (i : Int) < N := by omega
      have hl2' : (i : Int) < 300 := by omega
      have hil : i < ls.length := by rw [HN.out]; exact hl1
      obtain ⟨o, ho⟩ : ∃ o, ls[i]? = some o := ⟨_, List.getElem?_eq_getElem hil⟩
      have RD : Hid (∀ w', ReadsC w' (.slice va N vc) ls → ∃ b off, va = some ⟨b, off, none⟩ ∧ w'.cell? ⟨b, off + i * 3, none⟩ = some (.int .i64 o.kind) ∧ w'.cell? ⟨b, off + i * 3 + 1, none⟩ = some (.int .i64 o.k) ∧ w'.cell? ⟨b, off + i * 3 + 2, none⟩ = some (.string o.v)) := by
        rintro w' ⟨a', c', e', h0 | ⟨b, off, e2, hc⟩⟩
        · omega
        · injection e' with e3 _ _
          exact ⟨b, off, by rw [e3]; exact e2, hc i o ho⟩
      have G : Hid (∀ {x : St × St} w', One (pairO (pairO (ChO ga ma) (ChO gb mb)) (RowO rdC)) ma (x, (.slice va N vc, ls)) w w' → ReadsC w' (.slice va N vc) ls) := fun w' h => (One.get (One.snd h)).choose_spec.1
      obtain ⟨b, off, hva, d0, d1, d2⟩ := RD.out wr (G.out wr HO.out)
      have RD2 : Hid (∀ {x : St × St} w', One (pairO (pairO (ChO ga ma) (ChO gb mb)) (RowO rdC)) ma (x, (.slice va N vc, ls)) w w' → w'.cell? ⟨b, off + i * 3, none⟩ = some (.int .i64 o.kind) ∧ w'.cell? ⟨b, off + i * 3 + 1, none⟩ = some (.int .i64 o.k) ∧ w'.cell? ⟨b, off + i * 3 + 2, none⟩ = some (.string o.v)) := fun w' h => by
        obtain ⟨b', off', e, q⟩ := RD.out w' (G.out w' h)
        rw [hva] at e
        have e := Option.some.inj e
        rw [show b = b' from congrArg Addr.block e, show off = off' from congrArg Addr.off e]
        exact q
      have HF0 : Hid (i = 0 → o = fst1) := fun e => by
        rw [e, HF.out] at ho
        exact (Option.some.inj ho).symm
      obtain ⟨kd, hkd⟩ : ∃ x, o.kind = x := ⟨_, rfl⟩
      obtain ⟨kk, hkk⟩ : ∃ x, o.k = x := ⟨_, rfl⟩
      obtain ⟨vv, hvv⟩ : ∃ x, o.v = x := ⟨_, rfl⟩
      rw [hkd, hkk, hvv] at RD2
      rw [hkd] at d0
      rw [hkk] at d1
      rw [hvv] at d2
      have HF1 : Hid (i = 0 → kd = 3 ∧ kk = 1 ∧ vv = ⟨#[102, 105, 114, 115, 116]⟩) := fun e => by
        have := HF0.out e
        rw [← hkd, ← hkk, ← hvv, this]
        exact ⟨rfl, rfl, rfl⟩
      obtain ⟨h1, h2, h3, h4, h5, h6⟩ := HS.out
      have ca : sa.hits + sa.misses + sa.gone ≤ i := h2
      have cb : sb.hits + sb.misses + sb.gone ≤ i := h3
      obtain ⟨ta, HTA⟩ : ∃ t, Hid (tellS sa kd kk vv = t) := ⟨_, rfl⟩
      obtain ⟨tb, HTB⟩ : ∃ t, Hid (tellS sb kd kk vv = t) := ⟨_, rfl⟩
      have C1 : Hid (∀ w', One (pairO (pairO (ChO ga ma) (ChO gb mb)) (RowO rdC)) ma ((sa, sb), (.slice va N vc, ls)) w w' → Calls Try.prog 27 #[.pointer (some ⟨ga, 0, none⟩), .agg #[.int .i64 kd, .int .i64 kk, .string vv]] w' fun e w2 => e = .returned (.tuple #[]) ∧ One (pairO (pairO (ChO ga ma) (ChO gb mb)) (RowO rdC)) ma ((ta, sb), (.slice va N vc, ls)) w w2) := fun w' h => by
        rw [← HTA.out]
        exact One.step h (lift1 (lift1 (fun F hp => tellC kd kk vv hp (by omega) (by omega) (by omega))))
      have C2 : Hid (∀ w', One (pairO (pairO (ChO ga ma) (ChO gb mb)) (RowO rdC)) ma ((ta, sb), (.slice va N vc, ls)) w w' → Calls Try.prog 27 #[.pointer (some ⟨gb, 0, none⟩), .agg #[.int .i64 kd, .int .i64 kk, .string vv]] w' fun e w2 => e = .returned (.tuple #[]) ∧ One (pairO (pairO (ChO ga ma) (ChO gb mb)) (RowO rdC)) ma ((ta, tb), (.slice va N vc, ls)) w w2) := fun w' h => by
        rw [← HTB.out]
        exact One.step h (lift1 (lift2 (fun F hp => tellC kd kk vv hp (by omega) (by omega) (by omega))))
      have N1 : Nst ta tb := by rw [← HTA.out, ← HTB.out]; exact tell_nst h1 _ _ _
      have k1 := tell_cnt sa kd kk vv
      have k2 := tell_cnt sb kd kk vv
      rw [HTA.out] at k1
      rw [HTB.out] at k2
      have HS2 : Hid (Nst ta tb ∧ cntS ta ≤ i + 1 ∧ cntS tb ≤ i + 1 ∧ ta.most = n ∧ tb.most = m ∧ (i + 1 = 0 → tb = S0 m)) := ⟨N1, by have := k1.1; omega, by have := k2.1; omega, by rw [k1.2]; exact h4, by rw [k2.2]; exact h5, fun e => by omega⟩
      have HFR : Hid (i = 0 → tb.l.length = min m 1 ∧ tb.gone = 1 - m) := fun e => by
        obtain ⟨e1, e2, e3⟩ := HF1.out e
        rw [← HTB.out, h6 e, e1, e2, e3]
        exact tell_first m
      have CA : Hid (∀ w', One (pairO (pairO (ChO ga ma) (ChO gb mb)) (RowO rdC)) ma ((ta, tb), (.slice va N vc, ls)) w w' → Calls Try.prog 26 #[.pointer (some ⟨ga, 0, none⟩)] w' fun e w2 => e = .returned (.tuple #[.int .i64 (ta.hits : Nat), .int .i64 (ta.misses : Nat), .int .i64 (ta.gone : Nat)]) ∧ One (pairO (pairO (ChO ga ma) (ChO gb mb)) (RowO rdC)) ma ((ta, tb), (.slice va N vc, ls)) w w2) := fun w' h =>
        (cCounts (One.get (One.fst (One.fst h))).choose_spec).mono fun e w2 ⟨g1, g2⟩ => ⟨g1, One.later h g2⟩
      have CB : Hid (∀ w', One (pairO (pairO (ChO ga ma) (ChO gb mb)) (RowO rdC)) ma ((ta, tb), (.slice va N vc, ls)) w w' → Calls Try.prog 26 #[.pointer (some ⟨gb, 0, none⟩)] w' fun e w2 => e = .returned (.tuple #[.int .i64 (tb.hits : Nat), .int .i64 (tb.misses : Nat), .int .i64 (tb.gone : Nat)]) ∧ One (pairO (pairO (ChO ga ma) (ChO gb mb)) (RowO rdC)) ma ((ta, tb), (.slice va N vc, ls)) w w2) := fun w' h =>
        (cCounts (One.get (One.snd (One.fst h))).choose_spec).mono fun e w2 ⟨g1, g2⟩ => ⟨g1, One.later h g2⟩
      have CW : Hid (∀ w', One (pairO (pairO (ChO ga ma) (ChO gb mb)) (RowO rdC)) ma ((ta, tb), (.slice va N vc, ls)) w w' → Calls Try.prog 28 #[.pointer (some ⟨ga, 0, none⟩), .pointer (some ⟨gb, 0, none⟩)] w' fun e w2 => e = .returned (.bool true) ∧ One (pairO (pairO (ChO ga ma) (ChO gb mb)) (RowO rdC)) ma ((ta, tb), (.slice va N vc, ls)) w w2) := fun w' h =>
        (withinC (One.get (One.fst (One.fst h))).choose_spec (One.get (One.snd (One.fst h))).choose_spec (fun p hp => N1.inn hp)).mono fun e w2 ⟨g1, g2⟩ => ⟨g1, One.later h g2⟩
      have CLA : Hid (∀ w', One (pairO (pairO (ChO ga ma) (ChO gb mb)) (RowO rdC)) ma ((ta, tb), (.slice va N vc, ls)) w w' → Calls Try.prog 22 #[.pointer (some ⟨ga, 0, none⟩)] w' fun e w2 => e = .returned (.int .i64 (ta.l.length : Nat)) ∧ w2 = w') := fun w' h => cLen (One.get (One.fst (One.fst h))).choose_spec
      have CLB : Hid (∀ w', One (pairO (pairO (ChO ga ma) (ChO gb mb)) (RowO rdC)) ma ((ta, tb), (.slice va N vc, ls)) w w' → Calls Try.prog 22 #[.pointer (some ⟨gb, 0, none⟩)] w' fun e w2 => e = .returned (.int .i64 (tb.l.length : Nat)) ∧ w2 = w') := fun w' h => cLen (One.get (One.snd (One.fst h))).choose_spec
      have t1 := N1.hits
      have t2 := N1.misses
      have t3 := N1.gone
      have t4 : ta.l.length ≤ n := by have := N1.oa.len; rw [k1.2, h4] at this; exact this
      have t5 : tb.l.length ≤ m := by have := N1.ob.len; rw [k2.2, h5] at this; exact this
      obtain ⟨xh, HXH⟩ : ∃ x, Hid (ta.hits = x) := ⟨_, rfl⟩
      obtain ⟨xm, HXM⟩ : ∃ x, Hid (ta.misses = x) := ⟨_, rfl⟩
      obtain ⟨xg, HXG⟩ : ∃ x, Hid (ta.gone = x) := ⟨_, rfl⟩
      obtain ⟨yh, HYH⟩ : ∃ x, Hid (tb.hits = x) := ⟨_, rfl⟩
      obtain ⟨ym, HYM⟩ : ∃ x, Hid (tb.misses = x) := ⟨_, rfl⟩
      obtain ⟨yg, HYG⟩ : ∃ x, Hid (tb.gone = x) := ⟨_, rfl⟩
      obtain ⟨la, HLA⟩ : ∃ x, Hid (ta.l.length = x) := ⟨_, rfl⟩
      obtain ⟨lb, HLB⟩ : ∃ x, Hid (tb.l.length = x) := ⟨_, rfl⟩
      rw [HXH.out, HYH.out] at t1
      rw [HXM.out, HYM.out] at t2
      rw [HXG.out, HYG.out] at t3
      rw [HLA.out] at t4 CLA
      rw [HLB.out] at t5 CLB HFR
      rw [HYG.out] at HFR
      rw [HXH.out, HXM.out, HXG.out] at CA
      rw [HYH.out, HYM.out, HYG.out] at CB
      subst hva
      clear RD G ho HF0 HF1 hkd hkk hvv h1 h2 h3 h4 h5 h6 ca cb N1 k1 k2 HS HTA HTB HXH HXM HXG HYH HYM HYG HLA HLB hil
      go_upto_region 12 with (first | (go_at_call 27; refine (C1.out _ HO.out).mono ?_; rintro _ w4 ⟨rfl, h4⟩; have H4 : Hid (One _ _ _ _ _) := h4; obtain ⟨q0, q1, q2⟩ := RD2.out _ h4; clear h4) | go_in)
      clear d0 d1 d2
      go_upto_region 13 with (first | (go_at_call 27; refine (C2.out _ H4.out).mono ?_; rintro _ w5 ⟨rfl, h5⟩; have H5 : Hid (One _ _ _ _ _) := h5; clear h5) | go_in)
      go_upto_region 14 with (first | (go_at_call 26; refine (CA.out _ H5.out).mono ?_; rintro _ w6 ⟨rfl, h6⟩; have H6 : Hid (One _ _ _ _ _) := h6; clear h6) | go_in)
      go_upto_region 15 with (first | (go_at_call 26; refine (CB.out _ H6.out).mono ?_; rintro _ w7 ⟨rfl, h7⟩; have H7 : Hid (One _ _ _ _ _) := h7; clear h7) | go_in)
      go_upto_region 16 with (first | (go_at_call 28; refine (CW.out _ H7.out).mono ?_; rintro _ w8 ⟨rfl, h8⟩; have H8 : Hid (One _ _ _ _ _) := h8; clear h8) | go_in)
      clear q0 q1 q2 H4 H5 H6 H7 C1 C2 CA CB CW RD2 HO O3
      have FL : Hid True := trivial
      by_cases h0 : i = 0
      · obtain ⟨e1, e2⟩ := HFR.out h0
        have hI : ((i : Int) == 0) = true := by rw [beq_iff_eq, h0]; rfl
        have HI0 : Hid (i = 0) := h0
        clear h0 HFR
        have hxg : (1 : Int) - m ≤ xg := by omega
        by_cases hm : m = 0
        · rw [show lb = 0 by omega] at CLB
          obtain rfl : yg = 1 := by omega
          have CLB0 : Hid (∀ w', One (pairO (pairO (ChO ga ma) (ChO gb mb)) (RowO rdC)) ma ((ta, tb), (.slice (some ⟨b, off, none⟩) N vc, ls)) w w' → Calls Try.prog 22 #[.pointer (some ⟨gb, 0, none⟩)] w' fun e w2 => e = .returned (.int .i64 0) ∧ w2 = w') := CLB.out
          have hm1 : min (m : Int) 1 = 0 := by omega
          have hm2 : max 0 (1 - (m : Int)) = 1 := by omega
          clear e1 e2 hm t5
          have u1 : decide ((yh : Int) < xh) = false := by simp; omega
          have u2 : decide ((ym : Int) > xm) = false := by simp; omega
          have u3 : decide ((1 : Int) > xg) = false := by simp; omega
          have u4 : decide ((la : Int) > n) = false := by simp; omega
          have u5 : decide ((0 : Int) > m) = false := by simp
          go_wp2_with (first | (go_at_call 22; have _ := FL; refine (CLA.out _ H8.out).mono ?_; rintro _ w9 ⟨rfl, h9⟩; rw [h9]; clear h9 FL) | (go_at_call 22; refine (CLB0.out _ H8.out).mono ?_; rintro _ w9 ⟨rfl, h9⟩; rw [h9]; clear h9) | go_in)
          go_roundw
          case rel => exact ⟨i + 1, ta, tb, by omega, by omega, by go_num, H8, HS2⟩
          case measure => simp [intOf]; omega
        · rw [show lb = 1 by omega] at CLB
          obtain rfl : yg = 0 := by omega
          have CLB0 : Hid (∀ w', One (pairO (pairO (ChO ga ma) (ChO gb mb)) (RowO rdC)) ma ((ta, tb), (.slice (some ⟨b, off, none⟩) N vc, ls)) w w' → Calls Try.prog 22 #[.pointer (some ⟨gb, 0, none⟩)] w' fun e w2 => e = .returned (.int .i64 1) ∧ w2 = w') := CLB.out
          have hm1 : min (m : Int) 1 = 1 := by omega
          have hm2 : max 0 (1 - (m : Int)) = 0 := by omega
          have hm4 : 1 ≤ m := by omega
          clear e1 e2 hm t5
          have u1 : decide ((yh : Int) < xh) = false := by simp; omega
          have u2 : decide ((ym : Int) > xm) = false := by simp; omega
          have u3 : decide ((0 : Int) > xg) = false := by simp
          have u4 : decide ((la : Int) > n) = false := by simp; omega
          have u5 : decide ((1 : Int) > m) = false := by simp; omega
          go_wp2_with (first | (go_at_call 22; have _ := FL; refine (CLA.out _ H8.out).mono ?_; rintro _ w9 ⟨rfl, h9⟩; rw [h9]; clear h9 FL) | (go_at_call 22; refine (CLB0.out _ H8.out).mono ?_; rintro _ w9 ⟨rfl, h9⟩; rw [h9]; clear h9) | go_in)
          go_roundw
          case rel => exact ⟨i + 1, ta, tb, by omega, by omega, by go_num, H8, HS2⟩
          case measure => simp [intOf]; omega
      · have hI : ((i : Int) == 0) = false := by rw [beq_eq_false_iff_ne]; omega
        have u1 : decide ((yh : Int) < xh) = false := by simp; omega
        have u2 : decide ((ym : Int) > xm) = false := by simp; omega
        have u3 : decide ((yg : Int) > (xg : Int)) = false := by simp; omega
        have u4 : decide ((la : Int) > n) = false := by simp; omega
        have u5 : decide ((lb : Int) > (m : Int)) = false := by simp; omega
        clear h0
        go_wp2_with (first | (go_at_call 22; have _ := FL; refine (CLA.out _ H8.out).mono ?_; rintro _ w9 ⟨rfl, h9⟩; rw [h9]; clear h9 FL) | (go_at_call 22; refine (CLB.out _ H8.out).mono ?_; rintro _ w9 ⟨rfl, h9⟩; rw [h9]; clear h9) | go_in)
        go_roundw
        case rel => exact ⟨i + 1, ta, tb, by omega, by omega, by go_num, H8, HS2⟩
        case measure => simp [intOf]; omega
    · have HE : Hid (Below w.heap.size w wr) := by have := One.below HO.out; rw [← HMA.out] at this; exact this
      by_cases h1 : i < N
      · have h1' : (i : Int) < N := by omega
        have h2' : decide ((i : Int) < 300) = false := by simp; omega
        clear hlt
        go_wp2
        go_ret
        exact ⟨rfl, HE.out⟩
      · have h1' : decide ((i : Int) < N) = false := by simp; omega
        clear hlt
        go_wp2
        go_ret
        exact ⟨rfl, HE.out⟩
end Go.Proofs.Ytjkkijeamcihiaa.le
