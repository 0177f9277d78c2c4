import Derived.Test.YthppkdjekfginaaGreatDoorM1
import Derived.Test.YthppkdjekfginaaGreatDoorP3
import Derived.Deep.DeepCutAuto
import Derived.BigQuiet
import Derived.Test.YthppkdjekfginaaGreatDoorP4
import Derived.Test.YthppkdjekfginaaGreatDoorG4
namespace Go.Proofs.YthppkdjekfginaaGreatDoor.jm
open Go.RowKit Go.PlainAid
open Go.Proofs.YthppkdjekfginaaGreatDoor.pl Go.Proofs.YthppkdjekfginaaGreatDoor.pi Go.Proofs.YthppkdjekfginaaGreatDoor.pj Go.Proofs.YthppkdjekfginaaGreatDoor.rf Go.Proofs.YthppkdjekfginaaGreatDoor.lk Go.Proofs.YthppkdjekfginaaGreatDoor.ul Go.Proofs.YthppkdjekfginaaGreatDoor.um Go.Proofs.YthppkdjekfginaaGreatDoor.un Go.Proofs.YthppkdjekfginaaGreatDoor.ca Go.Proofs.YthppkdjekfginaaGreatDoor.cb Go.Proofs.YthppkdjekfginaaGreatDoor.cp Go.Proofs.YthppkdjekfginaaGreatDoor.cv Go.Proofs.YthppkdjekfginaaGreatDoor.gb Go.Proofs.YthppkdjekfginaaGreatDoor.ka Go.Proofs.YthppkdjekfginaaGreatDoor.kb Go.Proofs.YthppkdjekfginaaGreatDoor.kp Go.Proofs.YthppkdjekfginaaGreatDoor.qa Go.Proofs.YthppkdjekfginaaGreatDoor.mi Go.Proofs.YthppkdjekfginaaGreatDoor.uk Go.Proofs.YthppkdjekfginaaGreatDoor.uq Go.Proofs.YthppkdjekfginaaGreatDoor.yb Go.Proofs.YthppkdjekfginaaGreatDoor.yc Go.Proofs.YthppkdjekfginaaGreatDoor.yd Go.Proofs.YthppkdjekfginaaGreatDoor.yh Go.Proofs.YthppkdjekfginaaGreatDoor.jt Go.Proofs.YthppkdjekfginaaGreatDoor.ve Go.Proofs.YthppkdjekfginaaGreatDoor.wa Go.Proofs.YthppkdjekfginaaGreatDoor.jw Go.Proofs.YthppkdjekfginaaGreatDoor.jp
set_option linter.unusedVariables false

theorem eqC (a b : ByteArray) (c : Bool) (w : World) : (binOp .eql 26 (.agg #[.string a, .string b, .bool c]) (.agg #[.string a, .string b, .bool c])).run Tryz.prog w = .ok (.bool true) w := by
  cases c <;> simp [go_sem]
set_option maxRecDepth 100000 in
set_option maxHeartbeats 12800000 in
theorem multi_walk (w : World) (wd : Int) (w0 : (Lit.int .i64 wd).wf = true) (vl : Value) (xs : List ByteArray) (hl : ReadsT w vl xs) (hln : ∀ k c, vl = .slice none k c → c = 0) (hls : ∀ x ∈ xs, x.size ≤ 140737488351232) (hlm : xs.length * 16 ≤ 140737488351232) (vt : Value) (zs : List Int) (hz : ReadsI w vt zs) (hzn : ∀ k c, vt = .slice none k c → c = 0) (hzm : zs.length * 8 ≤ 140737488351232) (vc : Value) (cs : List ByteArray) (hc : ReadsT w vc cs) (hcn : ∀ k c, vc = .slice none k c → c = 0) (hcs : ∀ x ∈ cs, x.size ≤ 140737488351232) (hcm : cs.length * 16 ≤ 140737488351232) (vp : Value) (ps : List ByteArray) (hp : ReadsT w vp ps) (hpn : ∀ k c, vp = .slice none k c → c = 0) (hps : ∀ x ∈ ps, x.size ≤ 140737488351232) (hpm : ps.length * 16 ≤ 140737488351232) (hT : Tab4 w) :
    Calls Tryz.prog 5 #[.int .i64 wd, vl, vt, vc, vp] w fun e w' => e = .returned (.bool true) ∧ Below w.heap.size w w' := by
  have hwd := i64_of w0
  obtain ⟨i8, hi8, hy0, hy1, hy2⟩ := ti.info_parts ti.hiE
  have HII : Hid (_ ∧ _ ∧ _ ∧ _) := ⟨hi8, hy0, hy1, hy2⟩
  clear hi8 hy0 hy1 hy2
  have fl : Fits xs := ⟨fun x h => Nat.le_trans (hls x h) (by decide), hlm⟩
  have fc : Fits cs := ⟨fun x h => Nat.le_trans (hcs x h) (by decide), hcm⟩
  have fp : Fits ps := ⟨fun x h => Nat.le_trans (hps x h) (by decide), hpm⟩
  have TL : Hid (Calls _ _ _ _ _) := twin vl xs w hl fl
  have TC : Hid (∀ W, Below w.heap.size w W → Calls _ _ _ _ _) := fun W b => twin vc cs W (hc.later b) fc
  have TP : Hid (∀ W, Below w.heap.size w W → Calls _ _ _ _ _) := fun W b => twin vp ps W (hp.later b) fp
  have OT : Hid (∀ g n cp ys W, TwinR W w.heap.size g n cp ys → ys.length = n → n ≤ 140737488355328 → Calls _ _ _ _ _) := fun g n cp ys W h1 h2 h3 => other w.heap.size g n cp ys W h1 h2 h3
  have BL : Hid (∀ g cp ys W, Below w.heap.size w W → TwinR W w.heap.size g xs.length cp ys → ys.length = xs.length → Calls _ _ _ _ _) := fun g cp ys W b h1 h2 => back w.heap.size g xs.length cp vl xs ys W ((Old.of hl).keep (Kp.of_below (A := no) b) (fun _ e => e.elim)) h1 h2 rfl (by omega)
  have BC : Hid (∀ g cp ys W, Below w.heap.size w W → TwinR W w.heap.size g cs.length cp ys → ys.length = cs.length → Calls _ _ _ _ _) := fun g cp ys W b h1 h2 => back w.heap.size g cs.length cp vc cs ys W ((Old.of hc).keep (Kp.of_below (A := no) b) (fun _ e => e.elim)) h1 h2 rfl (by omega)
  have BP : Hid (∀ g cp ys W, Below w.heap.size w W → TwinR W w.heap.size g ps.length cp ys → ys.length = ps.length → Calls _ _ _ _ _) := fun g cp ys W b h1 h2 => back w.heap.size g ps.length cp vp ps ys W ((Old.of hp).keep (Kp.of_below (A := no) b) (fun _ e => e.elim)) h1 h2 rfl (by omega)
  have KC : Hid (∀ v1 z1 v4 v2 z2 v3 z3 W, Below w.heap.size w W → ReadsT W v1 z1 → ReadsI W v4 zs → ReadsT W v2 z2 → ReadsT W v3 z3 → Fits z1 → Fits z2 → z3.length ≤ 140737488355328 → Calls _ _ _ _ _) := fun v1 z1 v4 v2 z2 v3 z3 W b h1 h5 h2 h3 h6 h7 h8 => kMultiC wd hwd v1 z1 v4 zs v2 z2 v3 z3 W h1 h5 h2 h3 h6 h7 (by omega) h8 (hT.down b).t
  have XC : Hid (∀ W, Below w.heap.size w W → Calls _ _ _ _ _) := fun W b => Go.Proofs.YthppkdjekfginaaGreatDoor.jx.xMulti wd vl xs vt zs vc cs vp ps W (hl.later b) (hz.later b) (hc.later b) (hp.later b) fl fc (by omega) (by omega) (hT.down b)
  have PC : Hid (∀ W, Below w.heap.size w W → ReadsI W vt zs) := fun W b => hz.later b
  have KL : Hid (∀ g cp W, TwinR W w.heap.size g xs.length cp xs → Below w.heap.size w W → Calls _ _ _ _ _) := fun g cp W h b => kept_yes w.heap.size g cp vl xs xs.length W rfl h (hl.later b) (by omega)
  have KD : Hid (∀ g cp W, TwinR W w.heap.size g cs.length cp cs → Below w.heap.size w W → Calls _ _ _ _ _) := fun g cp W h b => kept_yes w.heap.size g cp vc cs cs.length W rfl h (hc.later b) (by omega)
  have KP : Hid (∀ g cp W, TwinR W w.heap.size g ps.length cp ps → Below w.heap.size w W → Calls _ _ _ _ _) := fun g cp W h b => kept_yes w.heap.size g cp vp ps ps.length W rfl h (hp.later b) (by omega)
  have FX : Hid (Fits xs ∧ Fits cs ∧ Fits (othL xs.length) ∧ Fits (othL cs.length)) := ⟨fl, fc, oth_fits _ hlm, oth_fits _ hcm⟩
  have FN : Hid (xs.length ≤ 140737488355328 ∧ cs.length ≤ 140737488355328 ∧ ps.length ≤ 140737488355328) := ⟨by omega, by omega, by omega⟩
  have FO : Hid ((othL xs.length).length = xs.length ∧ (othL cs.length).length = cs.length ∧ (othL ps.length).length = ps.length) := ⟨othL_len _, othL_len _, othL_len _⟩
  obtain ⟨lqa, lqc, rfl, _⟩ := hl
  obtain ⟨cqa, cqc, rfl, _⟩ := hc
  obtain ⟨pqa, pqc, rfl, _⟩ := hp
  obtain ⟨zqa, zqc, rfl, _⟩ := hz
  obtain ⟨O, HO⟩ : ∃ O, Hid (multiX wd zs xs cs ps = O) := ⟨_, rfl⟩
  rw [HO.out] at XC
  obtain ⟨o1, o2, o3, hgo⟩ := clV_of O
  rw [hgo] at XC
  obtain ⟨n, HN⟩ : ∃ n, Hid (xs.length = n) := ⟨_, rfl⟩
  obtain ⟨m, HM⟩ : ∃ n, Hid (cs.length = n) := ⟨_, rfl⟩
  obtain ⟨k, HK⟩ : ∃ n, Hid (ps.length = n) := ⟨_, rfl⟩
  rw [HN.out] at TL BL XC KL FX FN FO ⊢
  rw [HM.out] at TC BC XC KD FX FN FO ⊢
  rw [HK.out] at TP BP XC KP FN FO ⊢
  obtain ⟨j, HJ⟩ : ∃ n, Hid (zs.length = n) := ⟨_, rfl⟩
  have hj : j * 8 ≤ 140737488351232 := by have := HJ.out; omega
  rw [HJ.out] at XC PC ⊢
  have HOG : Hid (clV O = .agg #[.string o1, .string o2, .bool o3]) := hgo
  have qe := fun w' => eqC o1 o2 o3 w'
  clear w0 hls hlm hcs hcm hps hpm hpn hln hcn hwd fl fc fp hT hgo hzn hzm
  go_enter Tryz.func5, Tryz.ntmps5
  go_wp2_with fail
  refine TL.out.mono ?_
  rintro e w1 ⟨⟨g1, c1, rfl, t1⟩, hb1⟩
  have B1 : Hid (Below w.heap.size w w1) := hb1
  have T1 : Hid (TwinR w1 w.heap.size g1 n c1 xs) := t1
  clear t1 hb1
  go_wp2_with fail
  refine (TC.out _ B1.out).mono ?_
  rintro e w2 ⟨⟨g2, c2, rfl, t2⟩, hb2⟩
  have B2 : Hid (Below w.heap.size w w2) := over B1.out hb2
  have T2 : Hid (TwinR w2 w.heap.size g1 n c1 xs ∧ TwinR w2 w.heap.size g2 m c2 cs ∧ g1 ≠ g2) := ⟨twin_later T1.out hb2, own_down t2 B1.out.size, by have h1 := (twin_base T1.out).2; have h2 := (twin_base t2).1; omega⟩
  clear t2 hb2
  go_wp2_with fail
  refine (TP.out _ B2.out).mono ?_
  rintro e w3 ⟨⟨g3, c3, rfl, t3⟩, hb3⟩
  have T3 : Hid (Ty (fun _ => True) w g1 n c1 xs g2 m c2 cs g3 k c3 ps w3) := ⟨over B2.out hb3, twin_later T2.out.1 hb3, twin_later T2.out.2.1 hb3, own_down t3 B2.out.size, T2.out.2.2, by have h1 := (twin_base T2.out.1).2; have h2 := (twin_base t3).1; omega, by have h1 := (twin_base T2.out.2.1).2; have h2 := (twin_base t3).1; omega, trivial⟩
  clear t3 hb3
  have GL : Hid (g1 < w3.heap.size ∧ g2 < w3.heap.size ∧ g3 < w3.heap.size) := ⟨(twin_base T3.out.t1).2, (twin_base T3.out.t2).2, (twin_base T3.out.t3).2⟩
  go_wp2
  go_loopw [14, 15] (fun o i wr => ∃ (u : Value) (q : Nat), q ≤ j ∧ o = u ∧ i = .int .i64 q ∧ Hid (wr.ownsRow w3.heap.size 3 1 u q ((zs.take q).map (Value.int .i64))) ∧ Hid (Below w3.heap.size w3 wr)) (fun _ i _ => (j - intOf i).toNat)
  case atStart => exact ⟨_, 0, by omega, rfl, rfl, World.ownsRow_nil _ _ _ _, Below.refl _ _⟩
  case round =>
    obtain ⟨u, q, hq, rfl, rfl, HO, HBR⟩ := hrel
    obtain ⟨ua, uc, rfl⟩ := own_formS HO.out
    by_cases hlt : q < j
    · have hlt' : (q : Int) < j := by omega
      obtain ⟨tb, to', hta, hc⟩ : ∃ tb to', zqa = some ⟨tb, to', none⟩ ∧ wr.cell? ⟨tb, to' + q, none⟩ = some (.int .i64 (zs.getD q 0)) := by
        obtain ⟨a', c', e, _, hh⟩ := PC.out wr (over T3.out.fr HBR.out)
        rw [HJ.out] at hh
        obtain ⟨b, off, eb, hcc⟩ := hh.resolve_left (by omega)
        injection e with e1 _ _
        exact ⟨b, off, by rw [e1]; exact eb, hcc q hlt⟩
      subst hta
      have HTK : Hid (zs.take (q + 1) = zs.take q ++ [zs.getD q 0]) := by
        show _ = _
        have hqz : q < zs.length := by rw [HJ.out]; exact hlt
        rw [List.take_add_one, List.getElem?_eq_getElem hqz, List.getD_eq_getElem?_getD, List.getElem?_eq_getElem hqz]
        rfl
      obtain ⟨X, HX⟩ : ∃ X, Hid (zs.getD q 0 = X) := ⟨_, rfl⟩
      rw [HX.out] at hc HTK
      have OX : Hid ((wr.alloc (.cells #[.int .i64 X] 3)).ownsRow w3.heap.size 3 1 (.slice ua q uc) q ((zs.take q).map (Value.int .i64))) := HO.out.alloc _
      have BX : Hid (Below w3.heap.size w3 (wr.alloc (.cells #[.int .i64 X] 3))) := HBR.out.alloc HBR.out.size _
      have NW : Hid (∀ (i : Nat) (y : Value), [Value.int .i64 X][i]? = some y → (wr.alloc (.cells #[.int .i64 X] 3)).cell? (Addr.add ⟨wr.heap.size, 0, none⟩ i) = some y) := ti.new_one wr _ _
      have MO : Hid (∀ u ∈ [Value.int .i64 X], u.oneCell' = true) := fun u hu => by simp only [List.mem_cons, List.not_mem_nil, or_false] at hu; subst hu; rfl
      go_wp2_with (at_builtin; refine wpList_append_own _ rfl _ _ 33 rfl w3.heap.size 3 i8 (.int .i64 0) 1 8 Tryz.underlying33 HII.out.1 HII.out.2.1 HII.out.2.2.1 HII.out.2.2.2 rfl (by decide) _ q _ rfl OX.out ⟨wr.heap.size, 0, none⟩ 1 1 [.int .i64 X] rfl rfl NW.out MO.out (by unfold maxLen; omega) (by omega) BX.out.size ?_; intro p' w5 ho hg hnn; have HO5 : Hid (w5.ownsRow w3.heap.size 3 1 p' (q + 1) ((zs.take q).map (Value.int .i64) ++ [.int .i64 X])) := ho; have HB5 : Hid (Below w3.heap.size w3 w5) := Below.grown BX.out hg BX.out.size (fun jj hj => (OX.out.lt _ hj).1); clear ho hg hnn)
      go_roundw
      case rel =>
        refine ⟨_, q + 1, by omega, rfl, by go_num, ?_, HB5.out⟩
        show World.ownsRow _ _ _ _ _ _ _
        rw [HTK.out, List.map_append]
        exact HO5.out
      case measure => simp [intOf]; omega
    · have hlt' : ¬ (q : Int) < j := by omega
      obtain rfl : j = q := by omega
      have HPI : Hid (PI g1 g2 g3 (.slice ua j uc) zs wr) := by
        have h1 := HO.out
        rw [List.take_of_length_le (by rw [HJ.out]; omega)] at h1
        exact PI_own (by rw [HJ.out]; exact h1) GL.out.1 GL.out.2.1 GL.out.2.2
      have HS : Hid (Stq g1 g2 g3 (PI g1 g2 g3 (.slice ua j uc) zs)) := PI_st _ _ _ _ _
      have Z0 : Hid (Ty (PI g1 g2 g3 (.slice ua j uc) zs) w g1 n c1 xs g2 m c2 cs g3 k c3 ps wr) := ⟨over T3.out.fr HBR.out, twin_later T3.out.t1 HBR.out, twin_later T3.out.t2 HBR.out, twin_later T3.out.t3 HBR.out, T3.out.n12, T3.out.n13, T3.out.n23, HPI.out⟩
      obtain ⟨v9, HV9⟩ : ∃ W, W = wr := ⟨_, rfl⟩
      subst HV9
      clear HPI HO HBR T3 GL hlt hlt' hq
      go_wp2_with fail
      refine (OT.out _ _ _ _ _ Z0.out.t1 HN.out FN.out.1).mono ?_
      rintro e v10 ⟨rfl, tq, kq⟩
      have Z1 : Hid (Ty (PI g1 g2 g3 (.slice ua j uc) zs) w g1 n c1 (othL n) g2 m c2 cs g3 k c3 ps v10) := Z0.out.fst HS.out tq kq
      clear tq kq
      have K1 : Hid (Calls _ _ _ _ _) := KC.out _ _ _ _ _ _ _ _ Z1.out.fr (twin_reads Z1.out.t1 FO.out.1) (PI_reads Z1.out.q) (twin_reads Z1.out.t2 HM.out) (twin_reads Z1.out.t3 HK.out) FX.out.2.2.1 FX.out.2.1 (by have h1 := FN.out.2.2; have h2 := HK.out; omega)
      try rw [HJ.out] at K1
      go_wp2_with fail
      refine K1.out.mono ?_
      rintro e v11 ⟨rfl, hbq⟩
      have Z2 : Hid (Ty (PI g1 g2 g3 (.slice ua j uc) zs) w g1 n c1 (othL n) g2 m c2 cs g3 k c3 ps v11) := Z1.out.later HS.out hbq
      clear hbq
      go_wp2_with fail
      refine (BL.out _ _ _ _ Z2.out.fr Z2.out.t1 FO.out.1).mono ?_
      rintro e v12 ⟨rfl, tq, kq⟩
      have Z3 : Hid (Ty (PI g1 g2 g3 (.slice ua j uc) zs) w g1 n c1 xs g2 m c2 cs g3 k c3 ps v12) := Z2.out.fst HS.out tq kq
      clear tq kq
      go_wp2_with fail
      refine (OT.out _ _ _ _ _ Z3.out.t2 HM.out FN.out.2.1).mono ?_
      rintro e v13 ⟨rfl, tq, kq⟩
      have Z4 : Hid (Ty (PI g1 g2 g3 (.slice ua j uc) zs) w g1 n c1 xs g2 m c2 (othL m) g3 k c3 ps v13) := Z3.out.snd HS.out tq kq
      clear tq kq
      go_wp2_with fail
      refine (OT.out _ _ _ _ _ Z4.out.t3 HK.out FN.out.2.2).mono ?_
      rintro e v14 ⟨rfl, tq, kq⟩
      have Z5 : Hid (Ty (PI g1 g2 g3 (.slice ua j uc) zs) w g1 n c1 xs g2 m c2 (othL m) g3 k c3 (othL k) v14) := Z4.out.trd HS.out tq kq
      clear tq kq
      have K5 : Hid (Calls _ _ _ _ _) := KC.out _ _ _ _ _ _ _ _ Z5.out.fr (twin_reads Z5.out.t1 HN.out) (PI_reads Z5.out.q) (twin_reads Z5.out.t2 FO.out.2.1) (twin_reads Z5.out.t3 FO.out.2.2) FX.out.1 FX.out.2.2.2 (by have h1 := FN.out.2.2; have h2 := FO.out.2.2; omega)
      try rw [HJ.out] at K5
      go_wp2_with fail
      refine K5.out.mono ?_
      rintro e v15 ⟨rfl, hbq⟩
      have Z6 : Hid (Ty (PI g1 g2 g3 (.slice ua j uc) zs) w g1 n c1 xs g2 m c2 (othL m) g3 k c3 (othL k) v15) := Z5.out.later HS.out hbq
      clear hbq
      go_wp2_with fail
      refine (BC.out _ _ _ _ Z6.out.fr Z6.out.t2 FO.out.2.1).mono ?_
      rintro e v16 ⟨rfl, tq, kq⟩
      have Z7 : Hid (Ty (PI g1 g2 g3 (.slice ua j uc) zs) w g1 n c1 xs g2 m c2 cs g3 k c3 (othL k) v16) := Z6.out.snd HS.out tq kq
      clear tq kq
      go_wp2_with fail
      refine (BP.out _ _ _ _ Z7.out.fr Z7.out.t3 FO.out.2.2).mono ?_
      rintro e v17 ⟨rfl, tq, kq⟩
      have Z8 : Hid (Ty (PI g1 g2 g3 (.slice ua j uc) zs) w g1 n c1 xs g2 m c2 cs g3 k c3 ps v17) := Z7.out.trd HS.out tq kq
      clear tq kq
      have K8 : Hid (Calls _ _ _ _ _) := KC.out _ _ _ _ _ _ _ _ Z8.out.fr (twin_reads Z8.out.t1 HN.out) (PI_reads Z8.out.q) (twin_reads Z8.out.t2 HM.out) (twin_reads Z8.out.t3 HK.out) FX.out.1 FX.out.2.1 (by have h1 := FN.out.2.2; have h2 := HK.out; omega)
      try rw [HJ.out] at K8
      rw [HO.out, HOG.out] at K8
      go_wp2_with fail
      refine K8.out.mono ?_
      rintro e v18 ⟨rfl, hbq⟩
      have BA : Below v18.heap.size v18 (v18.alloc (.cells #[.string o1, .string o2, .bool o3] 26)) := (Below.refl _ _).alloc (Nat.le_refl _) _
      have Z9 : Hid (Ty (PI g1 g2 g3 (.slice ua j uc) zs) w g1 n c1 xs g2 m c2 cs g3 k c3 ps (v18.alloc (.cells #[.string o1, .string o2, .bool o3] 26)) ∧ (v18.alloc (.cells #[.string o1, .string o2, .bool o3] 26)).heap[v18.heap.size]? = some (.cells #[.string o1, .string o2, .bool o3] 26 (0, 0))) := ⟨(Z8.out.later HS.out hbq).later HS.out BA, heap_alloc_new v18 _⟩
      clear hbq BA
      go_wp2_with fail
      refine (XC.out _ Z9.out.1.fr).mono ?_
      rintro e u1 ⟨rfl, hu1⟩
      have BU : Below u1.heap.size u1 (u1.alloc (.cells #[.string o1, .string o2, .bool o3] 26)) := (Below.refl _ _).alloc (Nat.le_refl _) _
      have ZU : Hid (Ty (PI g1 g2 g3 (.slice ua j uc) zs) w g1 n c1 xs g2 m c2 cs g3 k c3 ps (u1.alloc (.cells #[.string o1, .string o2, .bool o3] 26)) ∧ (u1.alloc (.cells #[.string o1, .string o2, .bool o3] 26)).heap[v18.heap.size]? = some (.cells #[.string o1, .string o2, .bool o3] 26 (0, 0)) ∧ (u1.alloc (.cells #[.string o1, .string o2, .bool o3] 26)).heap[u1.heap.size]? = some (.cells #[.string o1, .string o2, .bool o3] 26 (0, 0))) :=
        ⟨(Z9.out.1.later HS.out hu1).later HS.out BU, (BU.block _ (Nat.lt_of_lt_of_le (Array.getElem?_eq_some_iff.1 Z9.out.2).1 hu1.size)).trans ((hu1.block _ (Array.getElem?_eq_some_iff.1 Z9.out.2).1).trans Z9.out.2), heap_alloc_new u1 _⟩
      clear hu1 BU
      obtain ⟨U, HU⟩ : ∃ U, Hid (U = (u1.alloc (.cells #[.string o1, .string o2, .bool o3] 26))) := ⟨_, rfl⟩
      have hU : (u1.alloc (.cells #[.string o1, .string o2, .bool o3] 26)) = U := HU.out.symm
      rw [hU] at ZU
      go_wp2
      try rw [hU]
      clear hU HU
      go_loopw [18] (fun i wr => ∃ (q mm : Nat), q ≤ j ∧ i = .int .i64 q ∧ wr = U.drewN mm) (fun i _ => (j - intOf i).toNat)
      case atStart => exact ⟨0, 0, by omega, rfl, rfl⟩
      case round =>
        obtain ⟨q, mm, hq, rfl, rfl⟩ := hrel
        by_cases hlt : q < j
        · have hlt' : (q : Int) < j := by omega
          obtain ⟨tb, to', hta, hc⟩ : ∃ tb to', zqa = some ⟨tb, to', none⟩ ∧ U.cell? ⟨tb, to' + q, none⟩ = some (.int .i64 (zs.getD q 0)) := by
            obtain ⟨a', c', e, _, hh⟩ := PC.out U ZU.out.1.fr
            rw [HJ.out] at hh
            obtain ⟨b, off, eb, hcc⟩ := hh.resolve_left (by omega)
            injection e with e1 _ _
            exact ⟨b, off, by rw [e1]; exact eb, hcc q hlt⟩
          obtain ⟨sb, so', hsa, hs⟩ : ∃ tb to', ua = some ⟨tb, to', none⟩ ∧ U.cell? ⟨tb, to' + q, none⟩ = some (.int .i64 (zs.getD q 0)) := by
            obtain ⟨a', c', e, _, hh⟩ := PI_reads ZU.out.1.q
            rw [HJ.out] at hh
            obtain ⟨b, off, eb, hcc⟩ := hh.resolve_left (by omega)
            injection e with e1 _ _
            exact ⟨b, off, by rw [e1]; exact eb, hcc q hlt⟩
          subst hta
          subst hsa
          obtain ⟨X, HX⟩ : ∃ X, Hid (zs.getD q 0 = X) := ⟨_, rfl⟩
          rw [HX.out] at hc hs
          clear HX
          go_upto_region 22 with fail
          go_quiet (fail)
          go_wp2
          go_roundw
          case rel => exact ⟨q + 1, mm + nq, by omega, by go_num, by first | rfl | rw [World.drewN_drewN]⟩
          case measure => simp [intOf]; omega
        · have hlt' : ¬ (q : Int) < j := by omega
          obtain rfl : j = q := by omega
          have Yu9 : Hid (Below U.heap.size U (U.drewN mm)) := below_dN (Below.refl _ _) _
          obtain ⟨u9, HU9⟩ : ∃ u9, Hid (U.drewN mm = u9) := ⟨_, rfl⟩
          rw [HU9.out] at Yu9 ⊢
          clear HU9 hlt hlt' hq
          go_wp2_with fail
          refine (KL.out _ _ _ (ZU.out.1.later HS.out Yu9.out).t1 (ZU.out.1.later HS.out Yu9.out).fr).mono ?_
          rintro e u2 ⟨rfl, mq, hq⟩
          have Yu2 : Hid (Below U.heap.size U u2) := by show Below _ _ _; rw [hq]; exact below_dN Yu9.out _
          clear hq
          go_wp2_with fail
          refine (KD.out _ _ _ (ZU.out.1.later HS.out Yu2.out).t2 (ZU.out.1.later HS.out Yu2.out).fr).mono ?_
          rintro e u3 ⟨rfl, mq, hq⟩
          have Yu3 : Hid (Below U.heap.size U u3) := by show Below _ _ _; rw [hq]; exact below_dN Yu2.out _
          clear hq
          go_wp2_with fail
          refine (KP.out _ _ _ (ZU.out.1.later HS.out Yu3.out).t3 (ZU.out.1.later HS.out Yu3.out).fr).mono ?_
          rintro e u4 ⟨rfl, mq, hq⟩
          have Yu4 : Hid (Below U.heap.size U u4) := by show Below _ _ _; rw [hq]; exact below_dN Yu3.out _
          clear hq
          have r1 : u4.heap[v18.heap.size]? = some (.cells #[.string o1, .string o2, .bool o3] 26 (0, 0)) := (Yu4.out.block _ (Array.getElem?_eq_some_iff.1 ZU.out.2.1).1).trans ZU.out.2.1
          have r2 : u4.heap[u1.heap.size]? = some (.cells #[.string o1, .string o2, .bool o3] 26 (0, 0)) := (Yu4.out.block _ (Array.getElem?_eq_some_iff.1 ZU.out.2.2).1).trans ZU.out.2.2
          have a0 : u4.cell? ⟨v18.heap.size, 0, none⟩ = some (.string o1) := cell_of_row _ _ 0 _ _ _ r1
          have a1 : u4.cell? ⟨v18.heap.size, 1, none⟩ = some (.string o2) := cell_of_row _ _ 1 _ _ _ r1
          have a2 : u4.cell? ⟨v18.heap.size, 2, none⟩ = some (.bool o3) := cell_of_row _ _ 2 _ _ _ r1
          have a3 : u4.cell? ⟨u1.heap.size, 0, none⟩ = some (.string o1) := cell_of_row _ _ 0 _ _ _ r2
          have a4 : u4.cell? ⟨u1.heap.size, 1, none⟩ = some (.string o2) := cell_of_row _ _ 1 _ _ _ r2
          have a5 : u4.cell? ⟨u1.heap.size, 2, none⟩ = some (.bool o3) := cell_of_row _ _ 2 _ _ _ r2
          have FIN : Hid (Below w.heap.size w u4) := (ZU.out.1.later HS.out Yu4.out).fr
          clear r1 r2
          go_wp2
          go_ret
          exact ⟨by first | rfl | simp, FIN.out⟩
end Go.Proofs.YthppkdjekfginaaGreatDoor.jm
