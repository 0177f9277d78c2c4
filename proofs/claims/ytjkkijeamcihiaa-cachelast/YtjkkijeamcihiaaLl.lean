import Derived.Test.YtjkkijeamcihiaaLk
namespace Go.Proofs.Ytjkkijeamcihiaa.ll
open Go.RowKit Go.PlainAid Go.Maps
open Go.Proofs.Ytjkkijeamcihiaa.cp Go.Proofs.Ytjkkijeamcihiaa.kp Go.Proofs.Ytjkkijeamcihiaa.ka Go.Proofs.Ytjkkijeamcihiaa.bn Go.Proofs.Ytjkkijeamcihiaa.ra Go.Proofs.Ytjkkijeamcihiaa.rb Go.Proofs.Ytjkkijeamcihiaa.rc Go.Proofs.Ytjkkijeamcihiaa.rd Go.Proofs.Ytjkkijeamcihiaa.re Go.Proofs.Ytjkkijeamcihiaa.rf Go.Proofs.Ytjkkijeamcihiaa.rg Go.Proofs.Ytjkkijeamcihiaa.rh Go.Proofs.Ytjkkijeamcihiaa.ri Go.Proofs.Ytjkkijeamcihiaa.rj Go.Proofs.Ytjkkijeamcihiaa.rk Go.Proofs.Ytjkkijeamcihiaa.sa Go.Proofs.Ytjkkijeamcihiaa.lz Go.Proofs.Ytjkkijeamcihiaa.la Go.Proofs.Ytjkkijeamcihiaa.lb Go.Proofs.Ytjkkijeamcihiaa.lc Go.Proofs.Ytjkkijeamcihiaa.ld Go.Proofs.Ytjkkijeamcihiaa.le Go.Proofs.Ytjkkijeamcihiaa.lh Go.Proofs.Ytjkkijeamcihiaa.lk
open Go.Proofs.Ytjkkijeamcihiaa.rl (below_grownBy)
set_option linter.unusedVariables false
set_option linter.unusedSimpArgs false
set_option maxRecDepth 8000 in
set_option maxHeartbeats 12800000 in
theorem last (most : Int) (hs0 : -9223372036854775808 ≤ most) (hs1 : most ≤ 9223372036854775807) (v : Value) (l : List Opc) (w : World) (hr : ReadsC w v l) (hno : v.ownBlock = none → v = .slice none 0 0) (hz : l.length * 32 ≤ 140737488351232) :
    Calls Try.prog 4 #[.int .i64 most, v] w fun e w' => e = .returned (.bool true) ∧ Below w.heap.size w w' := by
  obtain ⟨n, hn, hn1⟩ := pick_nat most
  have CP1 : Hid (∀ w, Calls Try.prog 13 #[.int .i64 most, .int .i64 12] w fun e w' => e = .returned (.int .i64 (n : Nat)) ∧ w' = w) := fun w => by rw [← hn]; exact pickC most 12 hs0 hs1 (by omega) (by omega) w
  have CN1 : Hid (∀ w, Calls _ _ _ _ _) := fun w => cNew n (by omega) w
  have HR : Hid (ReadsC w v l ∧ (v.ownBlock = none → v = .slice none 0 0) ∧ l.length * 32 ≤ 140737488351232) := ⟨hr, hno, hz⟩
  have HRL : Hid (∀ w', Below w.heap.size w w' → ReadsC w' v l) := fun w' hb => rdC.keep (v := v) (l := l) hr (Kp.of_below (A := fun _ => False) hb) (fun _ _ _ e => e)
  clear hr hno hz hn hs0 hs1
  unfold pt at *
  go_enter Try.func4, Try.ntmps4
  go_upto_region 6 with (first | (go_at_call 13; refine (CP1.out _).mono ?_; rintro _ wz ⟨rfl, hwz⟩; rw [hwz]; clear hwz) | (go_at_call 9; refine (CN1.out _).mono ?_; rintro _ w2 ⟨rfl, hb1, hp1, hf1⟩; have O2 : Hid (One _ w.heap.size _ w w2) := One.born (Nat.le_refl _) hp1 hb1 hf1; clear hb1 hp1 hf1) | go_in)
  obtain ⟨ga, HGA⟩ : ∃ g, Hid (w.heap.size + 1 = g) := ⟨_, rfl⟩
  rw [HGA.out] at O2
  rw [HGA.out]
  have hB2 : Hid (w.heap.size ≤ w2.heap.size) := One.hb O2.out
  obtain ⟨W2, HW2⟩ : ∃ W, Hid (w2.alloc (.cells #[.int .i64 3, .int .i64 1, .string ⟨#[102, 105, 114, 115, 116]⟩] 35) = W) := ⟨_, rfl⟩
  have OW : Hid (W2.ownsRow w2.heap.size 35 3 (.slice (some ⟨w2.heap.size, 0, none⟩) 1 1) [fst1].length (cellsO [fst1]) ∧ Below w2.heap.size w2 W2 ∧ w2.heap.size ≤ W2.heap.size) := by
    refine ⟨?_, ?_, ?_⟩
    · rw [← HW2.out]; exact World.ownsRow_lit w2 #[.int .i64 3, .int .i64 1, .string ⟨#[102, 105, 114, 115, 116]⟩] 1 (Nat.le_refl _) (by unfold maxLen; omega) rfl
    · rw [← HW2.out]; exact (Below.refl _ _).alloc (Nat.le_refl _) _
    · rw [← HW2.out]; exact ((Below.refl _ w2).alloc (Nat.le_refl _) _).size
  have RW : Hid (ReadsC W2 v l) := HRL.out W2 (ov (One.below O2.out) (dn OW.out.2.1 hB2.out))
  go_wp2_with (first | (at_builtin; rw [HW2.out]; refine wpList_append_ops _ rfl _ _ rfl w2.heap.size _ [fst1] rfl OW.out.1 v l rfl RW.out HR.out.2.1 (by have := HR.out.2.2; unfold maxLen; simp only [List.length_cons, List.length_nil]; omega) (by have := HR.out.2.2; simp only [List.length_cons, List.length_nil]; omega) OW.out.2.2 ?_; intro v' w3 ho hg; have O3 : Hid (One (pairO _ (RowO rdC)) w.heap.size _ w w3) := One.put O2.out (row_new (r := rdC) (own_readsC ho) ho.lt).1 (below_grownBy OW.out.2.1 hg (Nat.le_refl _) (fun j hj => (OW.out.1.lt j hj).1)) (row_new (r := rdC) (own_readsC ho) ho.lt).2; have HV : Hid (∃ a c, v' = .slice a ([fst1] ++ l).length c) := own_formS ho; clear ho hg) | go_in)
  obtain ⟨ls, HLS⟩ : ∃ ls, Hid ([fst1] ++ l = ls) := ⟨_, rfl⟩
  rw [HLS.out] at O3 HV
  obtain ⟨va, vc, hv⟩ := HV.out
  obtain ⟨N, HN⟩ : ∃ N, Hid (ls.length = N) := ⟨_, rfl⟩
  have hNb : (N : Int) ≤ 140737488351232 := by
    have h1 := HR.out.2.2
    have h2 := congrArg List.length HLS.out
    rw [HN.out, List.length_append] at h2
    simp only [List.length_cons, List.length_nil] at h2
    omega
  rw [HN.out] at hv
  subst hv
  obtain ⟨ma, HMA⟩ : ∃ g, Hid (w.heap.size = g) := ⟨_, rfl⟩
  rw [HMA.out] at O3
  have O4 : Hid (One (pairO (pairO (ChO ga ma) (RowO rdC)) (RowO rdT)) ma ((S0 n, (.slice va N vc, ls)), (.slice none 0 0, [])) w w3) := One.put O3.out (G := fun _ => False) ⟨⟨none, 0, rfl, Nat.le_refl _, .inl rfl⟩, fun k hk => (by cases hk), fun k hk => hk.elim⟩ (Below.refl _ _) (fun k hk => hk.elim)
  have HNN : Hid (n ≤ 11) := hn1
  have hn3 : (n : Int) ≤ 11 := by omega
  clear O2 O3 CP1 CN1 hB2 HW2 OW RW HRL HV hn1
  go_loopw [7, 9] (fun uv iv wr => ∃ (i : Nat) (s : St) (ua : Option Addr) (uc : Nat), i ≤ N ∧ i ≤ 300 ∧ iv = .int .i64 i ∧ uv = .slice ua s.l.length uc ∧ Hid (One (pairO (pairO (ChO ga ma) (RowO rdC)) (RowO rdT)) ma ((s, (.slice va N vc, ls)), (.slice ua s.l.length uc, keys s.l)) w wr) ∧ Hid (cntS s ≤ i ∧ s.most = n)) (fun _ iv _ => (300 - intOf iv).toNat)
  case atStart => exact ⟨0, S0 n, none, 0, Nat.zero_le _, by omega, rfl, rfl, O4, Nat.le_refl _, rfl⟩
  case round =>
    obtain ⟨i, s, ua, uc, hiN, hi3, rfl, rfl, HO, HS⟩ := hrel
    by_cases hlt : i < N ∧ i < 300
    · obtain ⟨hl1, hl2⟩ := hlt
      have hl1' : (i : Int) < N := by omega
      have hl2' : (i : Int) < 300 := by omega
      have hil : i < ls.length := by rw [HN.out]; exact hl1
      obtain ⟨o, ho⟩ : ∃ o, ls[i]? = some o := ⟨_, List.getElem?_eq_getElem hil⟩
      have RD : Hid (∀ w', ReadsC w' (.slice va N vc) ls → ∃ b off, va = some ⟨b, off, none⟩ ∧ w'.cell? ⟨b, off + i * 3, none⟩ = some (.int .i64 o.kind) ∧ w'.cell? ⟨b, off + i * 3 + 1, none⟩ = some (.int .i64 o.k) ∧ w'.cell? ⟨b, off + i * 3 + 2, none⟩ = some (.string o.v)) := by
        rintro w' ⟨a', c', e', h0 | ⟨b, off, e2, hc⟩⟩
        · omega
        · have e3 := (Value.slice.inj e').1
          exact ⟨b, off, by rw [e3]; exact e2, hc i o ho⟩
      have G : Hid (∀ {t : St} {x} w', One (pairO (pairO (ChO ga ma) (RowO rdC)) (RowO rdT)) ma ((t, (.slice va N vc, ls)), x) w w' → ReadsC w' (.slice va N vc) ls) := fun w' h => one_reads (One.fst h)
      obtain ⟨b, off, hva, d0, d1, d2⟩ := RD.out wr (G.out wr HO.out)
      have RD2 : Hid (∀ {t : St} {x} w', One (pairO (pairO (ChO ga ma) (RowO rdC)) (RowO rdT)) ma ((t, (.slice va N vc, ls)), x) w w' → w'.cell? ⟨b, off + i * 3 + 2, none⟩ = some (.string o.v)) := fun w' h => by
        obtain ⟨b', off', e, q⟩ := RD.out w' (G.out w' h)
        rw [hva] at e
        have e := Option.some.inj e
        rw [show b = b' from congrArg Addr.block e, show off = off' from congrArg Addr.off e]
        exact q.2.2
      obtain ⟨kd, hkd⟩ : ∃ x, o.kind = x := ⟨_, rfl⟩
      obtain ⟨kk, hkk⟩ : ∃ x, o.k = x := ⟨_, rfl⟩
      obtain ⟨vv, hvv⟩ : ∃ x, o.v = x := ⟨_, rfl⟩
      rw [hvv] at RD2
      rw [hkd] at d0
      rw [hkk] at d1
      rw [hvv] at d2
      obtain ⟨h1, h2⟩ := HS.out
      have ca : s.hits + s.misses + s.gone ≤ i := h1
      obtain ⟨d, HD⟩ : ∃ d, Hid (digS kk = d) := ⟨_, rfl⟩
      have CDg : Hid (∀ w, Calls Try.prog 14 #[.int .i64 kk] w fun e w' => e = .returned (.string d) ∧ w' = w) := fun w => by rw [← HD.out]; exact digitsC kk w
      have hd : okK d := by rw [← HD.out]; exact digS_ok kk
      have ok : Ok s := cOk (One.get (One.fst (One.fst HO.out))).choose_spec
      have hL : s.l.length ≤ n := by have := ok.len; rw [h2] at this; exact this
      have hkl : (keys s.l).length = s.l.length := by unfold keys; rw [List.length_map]
      have hL5 : (keys s.l).length ≤ 5000 := by have := HNN.out; omega
      have CH : Hid (Calls Try.prog 15 #[.slice ua s.l.length uc, .string d] wr fun e w' => e = .returned (.bool (fnd d s.l).isSome) ∧ w' = wr) := holdsC _ (keys s.l) d wr _ mem_keys (one_reads HO.out) hL5
      have huc : s.l.length ≤ uc := by
        obtain ⟨a', c', e, hc, _⟩ : ReadsT wr (.slice ua s.l.length uc) (keys s.l) := one_reads HO.out
        have := (Value.slice.inj e).2.2
        omega
      have PKX : Hid (∀ (t : St) x w', One (pairO (pairO (ChO ga ma) (RowO rdC)) (RowO rdT)) ma ((t, (.slice va N vc, ls)), x) w w' → Calls Try.prog 18 #[.pointer (some ⟨ga, 0, none⟩), .string d] w' fun e w2 => e = .returned (.tuple #[.string ((fnd d t.l).getD emp), .bool (fnd d t.l).isSome]) ∧ One (pairO (pairO (ChO ga ma) (RowO rdC)) (RowO rdT)) ma ((t, (.slice va N vc, ls)), x) w w2) := fun t x w' h => (cPeek d (One.get (One.fst (One.fst h))).choose_spec hd).mono fun e w2 ⟨g1, g2⟩ => ⟨g1, One.later h g2⟩
      have USX : Hid (∀ (t : St) w', One (pairO (pairO (ChO ga ma) (RowO rdC)) (RowO rdT)) ma ((t, (.slice va N vc, ls)), (.slice ua s.l.length uc, keys s.l)) w w' → Calls Try.prog 17 #[.slice ua s.l.length uc, .string d] w' fun e w2 => ∃ xa xc, e = .returned (.slice xa (d :: fl d (keys s.l)).length xc) ∧ (d :: fl d (keys s.l)).length ≤ xc ∧ One (pairO (pairO (ChO ga ma) (RowO rdC)) (RowO rdT)) ma ((t, (.slice va N vc, ls)), (.slice xa (d :: fl d (keys s.l)).length xc, d :: fl d (keys s.l))) w w2) := fun t w' h => (usedC _ (keys s.l) d w' (one_reads h) hL5).mono fun e w2 ⟨u, g1, g2, g3⟩ => by
        obtain ⟨xa, xc, e1⟩ := own_formS g2
        subst e1
        refine ⟨xa, xc, g1, ?_, one_row h g2 g3⟩
        obtain ⟨a', c', e, hc, _⟩ := own_readsT g2
        have := (Value.slice.inj e).2.2
        omega
      have KYX : Hid (∀ (t : St) x w', One (pairO (pairO (ChO ga ma) (RowO rdC)) (RowO rdT)) ma ((t, (.slice va N vc, ls)), x) w w' → Calls Try.prog 21 #[.pointer (some ⟨ga, 0, none⟩)] w' fun e w2 => ∃ y, e = .returned y ∧ ReadsT w2 y (keys t.l) ∧ One (pairO (pairO (ChO ga ma) (RowO rdC)) (RowO rdT)) ma ((t, (.slice va N vc, ls)), x) w w2) := fun t x w' h => (cKeys (One.get (One.fst (One.fst h))).choose_spec).mono fun e w2 ⟨y, g1, g2, g3⟩ => ⟨y, g1, own_readsT g2, One.later h g3⟩
      have SMX : Hid (∀ (t : St) x y z w', One (pairO (pairO (ChO ga ma) (RowO rdC)) (RowO rdT)) ma ((t, (.slice va N vc, ls)), x) w w' → ReadsT w' y (keys t.l) → ReadsT w' z (keys t.l) → Calls Try.prog 20 #[y, z] w' fun e w2 => e = .returned (.bool true) ∧ One (pairO (pairO (ChO ga ma) (RowO rdC)) (RowO rdT)) ma ((t, (.slice va N vc, ls)), x) w w2) := fun t x y z w' h hy hz => by
        have ok2 := cOk (One.get (One.fst (One.fst h))).choose_spec
        have hlen : (keys t.l).length ≤ 140737488355328 := by unfold keys; rw [List.length_map]; have := ok2.len; have := ok2.most; omega
        refine (same y z (keys t.l) (keys t.l) w' hy hz hlen).mono fun e w2 ⟨g1, m, g2⟩ => ⟨by rw [g1, decide_eq_true rfl], One.later h ?_⟩
        rw [g2]
        exact ⟨rfl, rfl, rfl, Nat.le_refl _, fun _ _ => rfl⟩
      have LNX : Hid (∀ (t : St) x w', One (pairO (pairO (ChO ga ma) (RowO rdC)) (RowO rdT)) ma ((t, (.slice va N vc, ls)), x) w w' → Calls Try.prog 22 #[.pointer (some ⟨ga, 0, none⟩)] w' fun e w2 => e = .returned (.int .i64 (t.l.length : Nat)) ∧ w2 = w') := fun t x w' h => cLen (One.get (One.fst (One.fst h))).choose_spec
      have PUT : Hid (Calls Try.prog 16 #[.pointer (some ⟨ga, 0, none⟩), .string d, .string vv] wr fun e w2 => e = .returned (.tuple #[.string ((outS s d).getD emp), .bool (outS s d).isSome]) ∧ One (pairO (pairO (ChO ga ma) (RowO rdC)) (RowO rdT)) ma ((putS s d vv, (.slice va N vc, ls)), (.slice ua s.l.length uc, keys s.l)) w w2) := One.step HO.out (lift1 (lift1 (fun F h => cPut d vv h hd (by omega))))
      have GET : Hid (Calls Try.prog 19 #[.pointer (some ⟨ga, 0, none⟩), .string d] wr fun e w2 => e = .returned (.tuple #[.string ((fnd d s.l).getD emp), .bool (fnd d s.l).isSome]) ∧ One (pairO (pairO (ChO ga ma) (RowO rdC)) (RowO rdT)) ma ((getS s d, (.slice va N vc, ls)), (.slice ua s.l.length uc, keys s.l)) w w2) := One.step HO.out (lift1 (lift1 (fun F h => cGet d h hd (by omega) (by omega))))
      have PC := put_cnt s d vv
      have GC := get_cnt s d
      have PKY := put_keys ok d vv
      have PPK := put_peek ok d vv
      have HPS : Hid (cntS (putS s d vv) ≤ i + 1 ∧ (putS s d vv).most = n) := ⟨by have := PC.1; omega, by rw [PC.2]; exact h2⟩
      have HGS : Hid (cntS (getS s d) ≤ i + 1 ∧ (getS s d).most = n) := ⟨by have := GC.1; omega, by rw [GC.2]; exact h2⟩
      rw [h2] at PKY PPK
      have HOK : Hid (Ok s ∧ s.most = n) := ⟨ok, h2⟩
      subst hva
      have hvvv : (vv.toList == vv.toList) = true := beq_self_eq_true _
      have hddd : (d.toList == d.toList) = true := beq_self_eq_true _
      clear RD G ho hkd hkk hvv h1 h2 ca PC GC HS HD hil O4
      have hmin : min (s.l.length : Int) (n : Int) = (s.l.length : Int) := by omega
      obtain ⟨us, HUS⟩ : ∃ us, Hid (d :: fl d (keys s.l) = us) := ⟨_, rfl⟩
      obtain ⟨M, HM⟩ : ∃ M, Hid (us.length = M) := ⟨_, rfl⟩
      have HM5 : (M : Int) ≤ 1000000 := by
        have h1 := HM.out
        rw [← HUS.out, List.length_cons] at h1
        have := fl_len d (keys s.l)
        omega
      rw [HUS.out] at USX PKY
      rw [HM.out] at USX
      by_cases hpar : kd.tmod 2 = 1
      · have hpar' : ((kd.tmod 2) == 1) = true := by rw [beq_iff_eq]; exact hpar
        have hMn : ∀ q : Nat, q = min M n → (keys (putS s d vv).l) = us.take q ∧ (putS s d vv).l.length = q ∧ q ≤ M := fun q hq => by
          have e1 : keys (putS s d vv).l = us.take q := by
            rw [PKY, hq]
            by_cases hc : M ≤ n
            · rw [Nat.min_eq_left hc, List.take_of_length_le (by rw [HM.out]; exact hc), List.take_of_length_le (by rw [HM.out]; omega)]
            · rw [Nat.min_eq_right (by omega)]
          refine ⟨e1, ?_, by omega⟩
          have e2 := congrArg List.length e1
          rw [List.length_take, HM.out] at e2
          unfold keys at e2
          rw [List.length_map] at e2
          omega
        obtain ⟨M', HMP⟩ : ∃ q, Hid (q = min M n) := ⟨_, rfl⟩
        obtain ⟨hk1, hk2, hMM⟩ := hMn M' HMP.out
        have hmin2 : min (M : Int) (n : Int) = (M' : Int) := by have := HMP.out; omega
        have HK1 : Hid (keys (putS s d vv).l = us.take M') := hk1
        have HK2 : Hid ((putS s d vv).l.length = M') := hk2
        have RZ : Hid (∀ {t : St} {xa xc} w', One (pairO (pairO (ChO ga ma) (RowO rdC)) (RowO rdT)) ma ((t, (.slice (some ⟨b, off, none⟩) N vc, ls)), (.slice xa M xc, us)) w w' → ReadsT w' (.slice xa M' xc) (keys (putS s d vv).l)) := fun w' h => by rw [HK1.out]; exact reads_cut (one_reads h) (by rw [HM.out]; exact hMM)
        have FIN : Hid (∀ {xa xc} w', One (pairO (pairO (ChO ga ma) (RowO rdC)) (RowO rdT)) ma ((putS s d vv, (.slice (some ⟨b, off, none⟩) N vc, ls)), (.slice xa M xc, us)) w w' → One (pairO (pairO (ChO ga ma) (RowO rdC)) (RowO rdT)) ma ((putS s d vv, (.slice (some ⟨b, off, none⟩) N vc, ls)), (.slice xa (putS s d vv).l.length xc, keys (putS s d vv).l)) w w') := fun w' h => by rw [HK1.out, HK2.out]; exact one_cut h (by rw [HM.out]; exact hMM)
        have LNP : Hid (∀ x w', One (pairO (pairO (ChO ga ma) (RowO rdC)) (RowO rdT)) ma ((putS s d vv, (.slice (some ⟨b, off, none⟩) N vc, ls)), x) w w' → Calls Try.prog 22 #[.pointer (some ⟨ga, 0, none⟩)] w' fun e w2 => e = .returned (.int .i64 (M' : Nat)) ∧ w2 = w') := fun x w' h => by rw [← HK2.out]; exact LNX.out _ x w' h
        clear hk1 hk2 hMn PKY hpar
        cases hf : fnd d s.l with
        | some xv =>
          have hLp : 0 < s.l.length := by have := fnd_mem hf; cases hsl : s.l with | nil => rw [hsl] at this; cases this | cons => simp
          have hout : outS s d = none := by unfold outS; rw [hf]
          rw [if_neg (by omega)] at PPK
          rw [hf] at CH
          rw [hout] at PUT
          have PPK : Hid (_ = some vv) := PPK
          have hn0 : (0 : Int) < n := by omega
          clear hf hout
          unfold emp at *
          go_wp2_with (first | (go_at_call 14; refine (CDg.out _).mono ?_; rintro _ wd ⟨rfl, hwd⟩; rw [hwd]; clear hwd) | (go_at_call 15; refine CH.out.mono ?_; rintro _ wd ⟨rfl, hwd⟩; rw [hwd]; clear hwd) | (go_at_call 16; refine PUT.out.mono ?_; rintro _ w5 ⟨rfl, h5⟩; have H5 : Hid (One _ _ _ _ _) := h5; clear h5) | (go_at_call 17; refine (USX.out _ _ H5.out).mono ?_; rintro _ w6 ⟨xa, xc, rfl, hxc, h6⟩; have H6 : Hid (One _ _ _ _ _) := h6; have hxc' : M' ≤ xc := Nat.le_trans hMM hxc; clear h6) | (go_at_call 18; refine (PKX.out _ _ _ H6.out).mono ?_; rw [PPK.out]; rintro _ w7 ⟨rfl, h7⟩; have H7 : Hid (One _ _ _ _ _) := h7; have q2 := RD2.out _ h7; clear h7) | (go_at_call 21; refine (KYX.out _ _ _ H7.out).mono ?_; rintro _ w8 ⟨yv, rfl, hy, h8⟩; have HY : Hid (ReadsT _ _ _) := hy; have H8 : Hid (One _ _ _ _ _) := h8; clear h8 hy) | (go_at_call 20; refine (SMX.out _ _ _ _ _ H8.out HY.out (RZ.out _ H8.out)).mono ?_; rintro _ w9 ⟨rfl, h9⟩; have H9 : Hid (One _ _ _ _ _) := h9; clear h9) | (go_at_call 22; refine (LNP.out _ _ H9.out).mono ?_; rintro _ wd ⟨rfl, hwd⟩; rw [hwd]; clear hwd) | go_in)
          go_roundw
          case rel => exact ⟨i + 1, putS s d vv, xa, xc, by omega, by omega, by go_num, by rw [HK2.out], FIN.out _ H9.out, HPS.out⟩
          case measure => simp [intOf]; omega
        | none =>
          rw [hf] at CH
          by_cases hn0 : n = 0
          · have hL0 : s.l.length = 0 := by omega
            have hout : outS s d = some d := by unfold outS; rw [hf]; dsimp only; rw [if_pos (by rw [HOK.out.2]; exact hn0)]
            rw [if_pos hn0] at PPK
            rw [hout] at PUT
            have PPK : Hid (_ = none) := PPK
            have HL0 : Hid (s.l.length = 0) := hL0
            have hnz : ((n : Int) == 0) = true := by rw [beq_iff_eq]; omega
            have hn0p : ¬ (0 : Int) < n := by omega
            have hn0q : ¬ 0 < n := by omega
            have hLg : (n : Int) ≤ (s.l.length : Int) := by omega
            have hLg2 : n ≤ s.l.length := by omega
            have CH : Hid (Calls Try.prog 15 #[.slice ua 0 uc, .string d] wr fun e w' => e = .returned (.bool false) ∧ w' = wr) := by have := CH.out; rw [HL0.out] at this; exact this
            have hminz : min (s.l.length : Int) (n : Int) = 0 := by omega
            clear hf hout hL0 hn0 hmin
            unfold emp at *
            go_wp2_with (first | (go_at_call 14; refine (CDg.out _).mono ?_; rintro _ wd ⟨rfl, hwd⟩; rw [hwd]; clear hwd) | (go_at_call 15; refine CH.out.mono ?_; rintro _ wd ⟨rfl, hwd⟩; rw [hwd]; clear hwd) | (go_at_call 16; refine PUT.out.mono ?_; rintro _ w5 ⟨rfl, h5⟩; have H5 : Hid (One _ _ _ _ _) := h5; clear h5) | (go_at_call 17; refine (USX.out _ _ H5.out).mono ?_; rintro _ w6 ⟨xa, xc, rfl, hxc, h6⟩; have H6 : Hid (One _ _ _ _ _) := h6; have hxc' : M' ≤ xc := Nat.le_trans hMM hxc; clear h6) | (go_at_call 18; refine (PKX.out _ _ _ H6.out).mono ?_; rw [PPK.out]; rintro _ w7 ⟨rfl, h7⟩; have H7 : Hid (One _ _ _ _ _) := h7; have q2 := RD2.out _ h7; clear h7) | (go_at_call 21; refine (KYX.out _ _ _ H7.out).mono ?_; rintro _ w8 ⟨yv, rfl, hy, h8⟩; have HY : Hid (ReadsT _ _ _) := hy; have H8 : Hid (One _ _ _ _ _) := h8; clear h8 hy) | (go_at_call 20; refine (SMX.out _ _ _ _ _ H8.out HY.out (RZ.out _ H8.out)).mono ?_; rintro _ w9 ⟨rfl, h9⟩; have H9 : Hid (One _ _ _ _ _) := h9; clear h9) | (go_at_call 22; refine (LNP.out _ _ H9.out).mono ?_; rintro _ wd ⟨rfl, hwd⟩; rw [hwd]; clear hwd) | go_in)
            go_roundw
            case rel => exact ⟨i + 1, putS s d vv, xa, xc, by omega, by omega, by go_num, by rw [HK2.out], FIN.out _ H9.out, HPS.out⟩
            case measure => simp [intOf]; omega
          · have hnz : ((n : Int) == 0) = false := by rw [beq_eq_false_iff_ne]; omega
            have hn0p : (0 : Int) < n := by omega
            rw [if_neg hn0] at PPK
            have PPK : Hid (_ = some vv) := PPK
            by_cases hlt2 : s.l.length < n
            · have hout : outS s d = none := by unfold outS; rw [hf]; dsimp only; rw [if_neg (by rw [HOK.out.2]; exact hn0), if_pos (by rw [HOK.out.2]; exact hlt2)]
              rw [hout] at PUT
              have hLg : ¬ (n : Int) ≤ (s.l.length : Int) := by omega
              have hLg2 : ¬ n ≤ s.l.length := by omega
              clear hf hout hn0
              unfold emp at *
              go_wp2_with (first | (go_at_call 14; refine (CDg.out _).mono ?_; rintro _ wd ⟨rfl, hwd⟩; rw [hwd]; clear hwd) | (go_at_call 15; refine CH.out.mono ?_; rintro _ wd ⟨rfl, hwd⟩; rw [hwd]; clear hwd) | (go_at_call 16; refine PUT.out.mono ?_; rintro _ w5 ⟨rfl, h5⟩; have H5 : Hid (One _ _ _ _ _) := h5; clear h5) | (go_at_call 17; refine (USX.out _ _ H5.out).mono ?_; rintro _ w6 ⟨xa, xc, rfl, hxc, h6⟩; have H6 : Hid (One _ _ _ _ _) := h6; have hxc' : M' ≤ xc := Nat.le_trans hMM hxc; clear h6) | (go_at_call 18; refine (PKX.out _ _ _ H6.out).mono ?_; rw [PPK.out]; rintro _ w7 ⟨rfl, h7⟩; have H7 : Hid (One _ _ _ _ _) := h7; have q2 := RD2.out _ h7; clear h7) | (go_at_call 21; refine (KYX.out _ _ _ H7.out).mono ?_; rintro _ w8 ⟨yv, rfl, hy, h8⟩; have HY : Hid (ReadsT _ _ _) := hy; have H8 : Hid (One _ _ _ _ _) := h8; clear h8 hy) | (go_at_call 20; refine (SMX.out _ _ _ _ _ H8.out HY.out (RZ.out _ H8.out)).mono ?_; rintro _ w9 ⟨rfl, h9⟩; have H9 : Hid (One _ _ _ _ _) := h9; clear h9) | (go_at_call 22; refine (LNP.out _ _ H9.out).mono ?_; rintro _ wd ⟨rfl, hwd⟩; rw [hwd]; clear hwd) | go_in)
              go_roundw
              case rel => exact ⟨i + 1, putS s d vv, xa, xc, by omega, by omega, by go_num, by rw [HK2.out], FIN.out _ H9.out, HPS.out⟩
              case measure => simp [intOf]; omega
            · have hLn : s.l.length = n := by omega
              have hq1 : n - 1 < s.l.length := by omega
              have hgl : s.l.getLast? = some s.l[n - 1] := by rw [List.getLast?_eq_getElem?, show s.l.length - 1 = n - 1 by omega, List.getElem?_eq_getElem hq1]
              have hout : outS s d = some (s.l[n - 1]).1 := by unfold outS; rw [hf]; dsimp only; rw [if_neg (by rw [HOK.out.2]; exact hn0), if_neg (by rw [HOK.out.2]; exact hlt2), hgl]; rfl
              obtain ⟨x, hx⟩ : ∃ x, (s.l[n - 1]).1 = x := ⟨_, rfl⟩
              rw [hx] at hout
              rw [hout] at PUT
              have hxx : (x.toList == x.toList) = true := beq_self_eq_true _
              have UAT : Hid (∀ {t : St} w', One (pairO (pairO (ChO ga ma) (RowO rdC)) (RowO rdT)) ma ((t, (.slice (some ⟨b, off, none⟩) N vc, ls)), (.slice ua s.l.length uc, keys s.l)) w w' → ∃ b2 off2, ua = some ⟨b2, off2, none⟩ ∧ w'.cell? ⟨b2, off2 + (n - 1), none⟩ = some (.string x)) := fun w' h => by
                obtain ⟨a', c', e', _, hat⟩ := rd_at (one_reads h)
                obtain ⟨b2, off2, e2, hcell⟩ := hat (n - 1) (by rw [hkl]; omega)
                have e4 : (keys s.l)[n - 1]'(by rw [hkl]; omega) = x := by simp [keys, hx]
                rw [e4] at hcell
                exact ⟨b2, off2, by rw [(Value.slice.inj e').1]; exact e2, hcell⟩
              obtain ⟨b2, off2, hua, _⟩ := UAT.out _ HO.out
              have UAT2 : Hid (∀ {t : St} w', One (pairO (pairO (ChO ga ma) (RowO rdC)) (RowO rdT)) ma ((t, (.slice (some ⟨b, off, none⟩) N vc, ls)), (.slice ua s.l.length uc, keys s.l)) w w' → w'.cell? ⟨b2, off2 + (n - 1), none⟩ = some (.string x)) := fun w' h => by
                obtain ⟨b3, off3, e3, hc3⟩ := UAT.out w' h
                rw [hua] at e3
                have e3 := Option.some.inj e3
                rw [show b2 = b3 from congrArg Addr.block e3, show off2 = off3 from congrArg Addr.off e3]
                exact hc3
              obtain ⟨q, HQ⟩ : ∃ q, Hid (n - 1 = q) := ⟨_, rfl⟩
              rw [HQ.out] at UAT2
              have hsub : (n : Int) - 1 = (q : Int) := by have := HQ.out; omega
              have hqL : q < s.l.length := by have := HQ.out; omega
              have hqL2 : (q : Int) < (s.l.length : Int) := by omega
              have hLg : (n : Int) ≤ (s.l.length : Int) := by omega
              have hLg2 : n ≤ s.l.length := by omega
              subst hua
              clear hf hout hn0 hLn hgl hx UAT hlt2 hq1
              unfold emp at *
              go_wp2_with (first | (go_at_call 14; refine (CDg.out _).mono ?_; rintro _ wd ⟨rfl, hwd⟩; rw [hwd]; clear hwd) | (go_at_call 15; refine CH.out.mono ?_; rintro _ wd ⟨rfl, hwd⟩; rw [hwd]; clear hwd) | (go_at_call 16; refine PUT.out.mono ?_; rintro _ w5 ⟨rfl, h5⟩; have H5 : Hid (One _ _ _ _ _) := h5; have qq := UAT2.out _ h5; clear h5) | (go_at_call 17; refine (USX.out _ _ H5.out).mono ?_; rintro _ w6 ⟨xa, xc, rfl, hxc, h6⟩; have H6 : Hid (One _ _ _ _ _) := h6; have hxc' : M' ≤ xc := Nat.le_trans hMM hxc; clear h6) | (go_at_call 18; refine (PKX.out _ _ _ H6.out).mono ?_; rw [PPK.out]; rintro _ w7 ⟨rfl, h7⟩; have H7 : Hid (One _ _ _ _ _) := h7; have q2 := RD2.out _ h7; clear h7) | (go_at_call 21; refine (KYX.out _ _ _ H7.out).mono ?_; rintro _ w8 ⟨yv, rfl, hy, h8⟩; have HY : Hid (ReadsT _ _ _) := hy; have H8 : Hid (One _ _ _ _ _) := h8; clear h8 hy) | (go_at_call 20; refine (SMX.out _ _ _ _ _ H8.out HY.out (RZ.out _ H8.out)).mono ?_; rintro _ w9 ⟨rfl, h9⟩; have H9 : Hid (One _ _ _ _ _) := h9; clear h9) | (go_at_call 22; refine (LNP.out _ _ H9.out).mono ?_; rintro _ wd ⟨rfl, hwd⟩; rw [hwd]; clear hwd) | go_in)
              go_roundw
              case rel => exact ⟨i + 1, putS s d vv, xa, xc, by omega, by omega, by go_num, by rw [HK2.out], FIN.out _ H9.out, HPS.out⟩
              case measure => simp [intOf]; omega
      · have hpar' : ((kd.tmod 2) == 1) = false := by rw [beq_eq_false_iff_ne]; exact hpar
        clear hpar PKY PPK PUT
        cases hf : fnd d s.l with
        | some xv =>
          have GK := get_keys d hf
          rw [HUS.out] at GK
          have hgl : (getS s d).l.length = M := by
            have := congrArg List.length GK
            rw [HM.out] at this
            unfold keys at this
            rw [List.length_map] at this
            exact this
          have HGK : Hid (keys (getS s d).l = us) := GK
          have HGL : Hid ((getS s d).l.length = M) := hgl
          rw [hf] at CH GET
          have RZ : Hid (∀ {t : St} {xa xc} w', One (pairO (pairO (ChO ga ma) (RowO rdC)) (RowO rdT)) ma ((t, (.slice (some ⟨b, off, none⟩) N vc, ls)), (.slice xa M xc, us)) w w' → ReadsT w' (.slice xa M xc) (keys (getS s d).l)) := fun w' h => by rw [HGK.out]; exact one_reads h
          have LNP : Hid (∀ x w', One (pairO (pairO (ChO ga ma) (RowO rdC)) (RowO rdT)) ma ((getS s d, (.slice (some ⟨b, off, none⟩) N vc, ls)), x) w w' → Calls Try.prog 22 #[.pointer (some ⟨ga, 0, none⟩)] w' fun e w2 => e = .returned (.int .i64 (M : Nat)) ∧ w2 = w') := fun x w' h => by rw [← HGL.out]; exact LNX.out _ x w' h
          clear hf GK hgl
          unfold emp at *
          go_wp2_with (first | (go_at_call 14; refine (CDg.out _).mono ?_; rintro _ wd ⟨rfl, hwd⟩; rw [hwd]; clear hwd) | (go_at_call 15; refine CH.out.mono ?_; rintro _ wd ⟨rfl, hwd⟩; rw [hwd]; clear hwd) | (go_at_call 19; refine GET.out.mono ?_; rintro _ w5 ⟨rfl, h5⟩; have H5 : Hid (One _ _ _ _ _) := h5; clear h5) | (go_at_call 17; refine (USX.out _ _ H5.out).mono ?_; rintro _ w6 ⟨xa, xc, rfl, hxc, h6⟩; have H6 : Hid (One _ _ _ _ _) := h6; clear h6) | (go_at_call 21; refine (KYX.out _ _ _ H6.out).mono ?_; rintro _ w8 ⟨yv, rfl, hy, h8⟩; have HY : Hid (ReadsT _ _ _) := hy; have H8 : Hid (One _ _ _ _ _) := h8; clear h8 hy) | (go_at_call 20; refine (SMX.out _ _ _ _ _ H8.out HY.out (RZ.out _ H8.out)).mono ?_; rintro _ w9 ⟨rfl, h9⟩; have H9 : Hid (One _ _ _ _ _) := h9; clear h9) | (go_at_call 22; refine (LNP.out _ _ H9.out).mono ?_; rintro _ wd ⟨rfl, hwd⟩; rw [hwd]; clear hwd) | go_in)
          go_roundw
          case rel => exact ⟨i + 1, getS s d, xa, xc, by omega, by omega, by go_num, by rw [HGL.out], by rw [HGK.out, HGL.out]; exact H9.out, HGS.out⟩
          case measure => simp [intOf]; omega
        | none =>
          have hgl : getS s d = { s with misses := s.misses + 1 } := by unfold getS; rw [hf]
          rw [hf] at CH GET
          rw [hgl] at GET HGS
          have RZ : Hid (∀ {t : St} w', One (pairO (pairO (ChO ga ma) (RowO rdC)) (RowO rdT)) ma ((t, (.slice (some ⟨b, off, none⟩) N vc, ls)), (.slice ua s.l.length uc, keys s.l)) w w' → ReadsT w' (.slice ua s.l.length uc) (keys s.l)) := fun w' h => one_reads h
          clear hf hgl
          unfold emp at *
          go_wp2_with (first | (go_at_call 14; refine (CDg.out _).mono ?_; rintro _ wd ⟨rfl, hwd⟩; rw [hwd]; clear hwd) | (go_at_call 15; refine CH.out.mono ?_; rintro _ wd ⟨rfl, hwd⟩; rw [hwd]; clear hwd) | (go_at_call 19; refine GET.out.mono ?_; rintro _ w5 ⟨rfl, h5⟩; have H5 : Hid (One _ _ _ _ _) := h5; clear h5) | (go_at_call 21; refine (KYX.out _ _ _ H5.out).mono ?_; rintro _ w8 ⟨yv, rfl, hy, h8⟩; have HY : Hid (ReadsT _ _ _) := hy; have H8 : Hid (One _ _ _ _ _) := h8; clear h8 hy) | (go_at_call 20; refine (SMX.out _ _ _ _ _ H8.out HY.out (RZ.out _ H8.out)).mono ?_; rintro _ w9 ⟨rfl, h9⟩; have H9 : Hid (One _ _ _ _ _) := h9; clear h9) | (go_at_call 22; refine (LNX.out _ _ _ H9.out).mono ?_; rintro _ wd ⟨rfl, hwd⟩; rw [hwd]; clear hwd) | go_in)
          go_roundw
          case rel => exact ⟨i + 1, { s with misses := s.misses + 1 }, ua, uc, by omega, by omega, by go_num, rfl, H9, HGS.out⟩
          case measure => simp [intOf]; omega
    · have HE : Hid (Below w.heap.size w wr) := by have := One.below HO.out; rw [← HMA.out] at this; exact this
      by_cases h1 : i < N
      · have h1' : (i : Int) < N := by omega
        have h2' : ¬ (i : Int) < 300 := by omega
        clear hlt
        go_wp2
        go_ret
        exact ⟨rfl, HE.out⟩
      · have h1' : ¬ (i : Int) < N := by omega
        clear hlt
        go_wp2
        go_ret
        exact ⟨rfl, HE.out⟩
end Go.Proofs.Ytjkkijeamcihiaa.ll
