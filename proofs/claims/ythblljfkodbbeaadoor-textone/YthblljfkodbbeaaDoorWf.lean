import Derived.Test.YthblljfkodbbeaaDoorWe
import Derived.Deep.DeepCutAuto
namespace Go.Proofs.YthblljfkodbbeaaDoor.wf
open Go.RowKit Go.PlainAid Go.Shelf
open Go.Proofs.YthblljfkodbbeaaDoor.ta Go.Proofs.YthblljfkodbbeaaDoor.tb Go.Proofs.YthblljfkodbbeaaDoor.tc Go.Proofs.YthblljfkodbbeaaDoor.tj Go.Proofs.YthblljfkodbbeaaDoor.tk Go.Proofs.YthblljfkodbbeaaDoor.wa Go.Proofs.YthblljfkodbbeaaDoor.wb Go.Proofs.YthblljfkodbbeaaDoor.wc Go.Proofs.YthblljfkodbbeaaDoor.wd Go.Proofs.YthblljfkodbbeaaDoor.we
set_option linter.unusedVariables false

theorem dec_up2 (k : Int) (h : 9 < k) : decS k = decS (k.tdiv 10) ++ decS (k % 10) := by
  rw [dec_up k h, Int.tmod_eq_emod_of_nonneg (by omega), dec_one (k % 10) (by omega) (by omega)]
theorem dec_down2 (k : Int) (h : k < -9) : decS k = decS (k.tdiv 10) ++ decS (-(k.tmod 10)) := by
  have e2 : -(k.tmod 10) = (-k) % 10 := by
    obtain ⟨m, rfl⟩ : ∃ m : Int, k = -m := ⟨-k, by omega⟩
    rw [Int.neg_tmod, Int.tmod_eq_emod_of_nonneg (by omega)]
    omega
  rw [dec_down k h, e2, dec_one ((-k) % 10) (by omega) (by omega)]

set_option maxHeartbeats 3200000 in
set_option maxRecDepth 100000 in
theorem text_one (s : ByteArray) (k : Int) (hs : s.size ≤ 140737488351232) (hk : I64 k) (w : World) (hw : NumW w) :
    Calls Tryd.prog 7 #[.string s, .int .i64 k] w fun e w' => e = .returned (.bool true) ∧ Below w.heap.size w w' := by
  obtain ⟨A, ea, ra, wa⟩ := oneB s hs
  obtain ⟨B, eb, rb, wb⟩ := oneH s hs
  obtain ⟨C, ec, rc, wc'⟩ := oneE s hs
  obtain ⟨D, ed, rd, wd⟩ := oneD s hs
  have RA : Hid (∀ w, Calls _ _ _ _ _) := ra
  have RB : Hid (∀ w, Calls _ _ _ _ _) := rb
  have RC : Hid (∀ w, Calls _ _ _ _ _) := rc
  have RD : Hid (∀ w, NumW w → Calls _ _ _ _ _) := rd
  have WA : Hid (ea = 0 → ∀ w, Calls _ _ _ _ _) := wa
  have WB : Hid (eb = 0 → ∀ w, Calls _ _ _ _ _) := wb
  have WC : Hid (ec = 0 → ∀ w, Calls _ _ _ _ _) := wc'
  have WD : Hid (ed = 0 → ∀ w, NumW w → Calls _ _ _ _ _) := wd
  have HW : Hid (NumW w) := hw
  have KD : Hid (∀ w, NumW w → Calls _ _ _ _ _) := fun w hw => dec k hk w hw
  have hkl := dec_size k hk
  have KU : Hid (∀ w, NumW w → Calls Tryd.prog 13 #[.string (decS k)] w fun r w' => r = .returned (.tuple #[.int .i64 k, .int .i64 0]) ∧ Below w.heap.size w w') := fun w hw => by
    have := unDec (decS k) (by omega) w hw
    rw [show unDecV (decS k) = .tuple #[.int .i64 k, .int .i64 0] by unfold unDecV; rw [if_pos ⟨k, hk, rfl⟩, unN_dec k hk]] at this
    exact this
  obtain ⟨Z, HZ⟩ : ∃ Z, Hid (decS k = Z) := ⟨_, rfl⟩
  rw [HZ.out] at KD KU hkl
  have hkl' : ¬ (Z.size : Int) > 20 := by omega
  have HK : Hid (I64 k) := hk
  obtain ⟨k0, k1⟩ := hk
  have qk : (k == k) = true := beq_self_eq_true _
  have GH : Hid (∀ w, Calls _ _ _ _ _) := giveH
  have GB : Hid (∀ w, Calls _ _ _ _ _) := giveB
  have GE : Hid (∀ w, Calls _ _ _ _ _) := giveE
  have GD : Hid (∀ w, NumW w → Calls _ _ _ _ _) := giveD
  clear ra rb rc rd wa wb wc' wd hw
  have qs : (s.toList == s.toList) = true := beq_self_eq_true _
  go_enter Tryd.func7, Tryd.ntmps7
  go_wp2_with fail
  refine (GH.out _).mono ?_
  rintro e w1 ⟨rfl, hb⟩
  have B1 : Hid (Below w.heap.size w w1) := hb
  clear hb GH
  go_wp2_with fail
  refine (GB.out _).mono ?_
  rintro e w2 ⟨rfl, hb⟩
  have B2 : Hid (Below w.heap.size w w2) := over B1.out hb
  clear hb GB
  go_wp2_with fail
  refine (GE.out _).mono ?_
  rintro e w3 ⟨rfl, hb⟩
  have B3 : Hid (Below w.heap.size w w3) := over B2.out hb
  clear hb GE
  go_wp2_with fail
  refine (GD.out _ (HW.out.down B3.out)).mono ?_
  rintro e w4 ⟨rfl, hb⟩
  have B4 : Hid (Below w.heap.size w w4) := over B3.out hb
  clear hb GD
  go_wp2_with fail
  refine (RA.out _).mono ?_
  rintro e w5 ⟨rfl, hb⟩
  have B5 : Hid (Below w.heap.size w w5) := over B4.out hb
  clear hb RA
  go_wp2_with fail
  refine (RB.out _).mono ?_
  rintro e w6 ⟨rfl, hb⟩
  have B6 : Hid (Below w.heap.size w w6) := over B5.out hb
  clear hb RB
  go_wp2_with fail
  refine (RC.out _).mono ?_
  rintro e w7 ⟨rfl, hb⟩
  have B7 : Hid (Below w.heap.size w w7) := over B6.out hb
  clear hb RC
  go_wp2_with fail
  refine (RD.out _ (HW.out.down B7.out)).mono ?_
  rintro e w8 ⟨rfl, hb⟩
  have B8 : Hid (Below w.heap.size w w8) := over B7.out hb
  clear hb RD
  go_upto_region 11 with fail
  go_cut [6, 17] (fun _ p wx => p = .bool true ∧ Hid (Below w.heap.size w wx))
  case first =>
    by_cases h : ea = 0
    · have W := WA.out h
      have W' : Hid (∀ w, Calls _ _ _ _ _) := W
      have hq : (ea != 0) = false := by rw [h]; rfl
      clear W
      go_wp2_with fail
      refine (W'.out _).mono ?_
      rintro e w9 ⟨rfl, hb⟩
      have B9 : Hid (Below w.heap.size w w9) := over B8.out hb
      clear hb W'
      go_wp2_with fail
      go_meet
      exact ⟨rfl, B9.out⟩
    · have hq : (ea == 0) = false := beq_eq_false_iff_ne.2 h
      have hq2 : (ea != 0) = true := bne_iff_ne.2 h
      go_wp2_with fail
      go_meet
      exact ⟨rfl, B8.out⟩
  case rest =>
    obtain ⟨rfl, HB1⟩ := hcut
    clear WA
    go_upto_region 12 with fail
    go_cut [8, 18] (fun _ p wx => p = .bool true ∧ Hid (Below w.heap.size w wx))
    case first =>
      by_cases h : eb = 0
      · have W := WB.out h
        have W' : Hid (∀ w, Calls _ _ _ _ _) := W
        have hq : (eb != 0) = false := by rw [h]; rfl
        clear W
        go_wp2_with fail
        refine (W'.out _).mono ?_
        rintro e w9 ⟨rfl, hb⟩
        have B9 : Hid (Below w.heap.size w w9) := over HB1.out hb
        clear hb W'
        go_wp2_with fail
        go_meet
        exact ⟨rfl, B9.out⟩
      · have hq : (eb == 0) = false := beq_eq_false_iff_ne.2 h
        have hq2 : (eb != 0) = true := bne_iff_ne.2 h
        go_wp2_with fail
        go_meet
        exact ⟨rfl, HB1.out⟩
    case rest =>
      obtain ⟨rfl, HB2⟩ := hcut
      clear WB
      go_upto_region 13 with fail
      go_cut [10, 19] (fun _ p wx => p = .bool true ∧ Hid (Below w.heap.size w wx))
      case first =>
        by_cases h : ec = 0
        · have W := WC.out h
          have W' : Hid (∀ w, Calls _ _ _ _ _) := W
          have hq : (ec != 0) = false := by rw [h]; rfl
          clear W
          go_wp2_with fail
          refine (W'.out _).mono ?_
          rintro e w9 ⟨rfl, hb⟩
          have B9 : Hid (Below w.heap.size w w9) := over HB2.out hb
          clear hb W'
          go_wp2_with fail
          go_meet
          exact ⟨rfl, B9.out⟩
        · have hq : (ec == 0) = false := beq_eq_false_iff_ne.2 h
          have hq2 : (ec != 0) = true := bne_iff_ne.2 h
          go_wp2_with fail
          go_meet
          exact ⟨rfl, HB2.out⟩
      case rest =>
        obtain ⟨rfl, HB3⟩ := hcut
        clear WC
        go_upto_region 14 with fail
        go_cut [12, 20] (fun _ p wx => p = .bool true ∧ Hid (Below w.heap.size w wx))
        case first =>
          by_cases h : ed = 0
          · have W := WD.out h
            have W' : Hid (∀ w, NumW w → Calls _ _ _ _ _) := W
            have hq : (ed != 0) = false := by rw [h]; rfl
            clear W
            go_wp2_with fail
            refine (W'.out _ (HW.out.down HB3.out)).mono ?_
            rintro e w9 ⟨rfl, hb⟩
            have B9 : Hid (Below w.heap.size w w9) := over HB3.out hb
            clear hb W'
            go_wp2_with fail
            go_meet
            exact ⟨rfl, B9.out⟩
          · have hq : (ed == 0) = false := beq_eq_false_iff_ne.2 h
            have hq2 : (ed != 0) = true := bne_iff_ne.2 h
            go_wp2_with fail
            go_meet
            exact ⟨rfl, HB3.out⟩
        case rest =>
          obtain ⟨rfl, HB4⟩ := hcut
          clear WD
          go_wp2_with fail
          refine (KD.out _ (HW.out.down HB4.out)).mono ?_
          rintro e v1 ⟨rfl, hb⟩
          have C1 : Hid (Below w.heap.size w v1) := over HB4.out hb
          clear hb KD
          go_wp2_with fail
          refine (KU.out _ (HW.out.down C1.out)).mono ?_
          rintro e v2 ⟨rfl, hb⟩
          have C2 : Hid (Below w.heap.size w v2) := over C1.out hb
          clear hb KU
          by_cases ha : k < 10
          · by_cases hb : k > -10
            · go_wp2
              go_ret
              exact ⟨rfl, C2.out⟩
            · obtain ⟨m, hm⟩ : ∃ m, Hid (k = -m) := ⟨-k, by show _ = _; omega⟩
              have hm0 : 10 ≤ m := by have := hm.out; omega
              have e1 : Hid (k.tdiv 10 = -(m / 10)) := by show _ = _; rw [hm.out, Int.neg_tdiv, Int.tdiv_eq_ediv_of_nonneg (by omega)]
              have e2 : Hid (k.tmod 10 = -(m % 10)) := by show _ = _; rw [hm.out, Int.neg_tmod, Int.tmod_eq_emod_of_nonneg (by omega)]
              have HQ : Hid (I64 (k.tdiv 10)) := by show I64 _; rw [e1.out]; have := hm.out; constructor <;> omega
              have HL : Hid (I64 (-(k.tmod 10))) := by show I64 _; rw [e2.out]; constructor <;> omega
              have hwm : IntKind.i64.wrap (k.tmod 10) = k.tmod 10 := wrap_id (by rw [e2.out]; constructor <;> omega)
              have hwn : IntKind.i64.wrap (-(k.tmod 10)) = -(k.tmod 10) := wrap_id HL.out
              by_cases hz : k.tmod 10 < 0
              · have XD : Hid (∀ w, NumW w → Calls _ _ _ _ _) := fun w hw => dec (k.tdiv 10) HQ.out w hw
                have YD : Hid (∀ w, NumW w → Calls _ _ _ _ _) := fun w hw => dec (-(k.tmod 10)) HL.out w hw
                have hX := dec_size (k.tdiv 10) HQ.out
                have hY := dec_size (-(k.tmod 10)) HL.out
                have HE : Hid (Z = decS (k.tdiv 10) ++ decS (-(k.tmod 10))) := by show _ = _; rw [← HZ.out]; exact dec_down2 k (by omega)
                have hwq : IntKind.i64.wrap (k.tdiv 10) = k.tdiv 10 := wrap_id HQ.out
                obtain ⟨X, HX⟩ : ∃ X, Hid (decS (k.tdiv 10) = X) := ⟨_, rfl⟩
                obtain ⟨Y, HY⟩ : ∃ Y, Hid (decS (-(k.tmod 10)) = Y) := ⟨_, rfl⟩
                rw [HX.out] at XD hX HE
                rw [HY.out] at YD hY HE
                have hq : (Z.toList == (X ++ Y).toList) = true := by rw [toList_bs]; exact decide_eq_true HE.out
                clear hm0
                go_wp2_with fail
                refine (XD.out _ (HW.out.down C2.out)).mono ?_
                rintro e v3 ⟨rfl, hb⟩
                have C3 : Hid (Below w.heap.size w v3) := over C2.out hb
                clear hb XD
                go_wp2_with fail
                refine (YD.out _ (HW.out.down C3.out)).mono ?_
                rintro e v4 ⟨rfl, hb⟩
                have C4 : Hid (Below w.heap.size w v4) := over C3.out hb
                clear hb YD
                go_wp2
                go_ret
                exact ⟨rfl, C4.out⟩
              · have hz0 : k.tmod 10 = 0 := by have := e2.out; omega
                have XD : Hid (∀ w, NumW w → Calls _ _ _ _ _) := fun w hw => dec (k.tdiv 10) HQ.out w hw
                have YD : Hid (∀ w, NumW w → Calls _ _ _ _ _) := fun w hw => dec 0 ⟨by omega, by omega⟩ w hw
                have hX := dec_size (k.tdiv 10) HQ.out
                have hY := dec_size 0 ⟨by omega, by omega⟩
                have HE : Hid (Z = decS (k.tdiv 10) ++ decS 0) := by show _ = _; rw [← HZ.out]; have e := dec_down2 k (by omega); rw [hz0] at e; exact e
                have hwq : IntKind.i64.wrap (k.tdiv 10) = k.tdiv 10 := wrap_id HQ.out
                obtain ⟨X, HX⟩ : ∃ X, Hid (decS (k.tdiv 10) = X) := ⟨_, rfl⟩
                obtain ⟨Y, HY⟩ : ∃ Y, Hid (decS 0 = Y) := ⟨_, rfl⟩
                rw [HX.out] at XD hX HE
                rw [HY.out] at YD hY HE
                have hq : (Z.toList == (X ++ Y).toList) = true := by rw [toList_bs]; exact decide_eq_true HE.out
                clear hm0 hwm hwn
                have hz1 : ¬ k.tmod 10 < 0 := by omega
                go_wp2_with fail
                refine (XD.out _ (HW.out.down C2.out)).mono ?_
                rintro e v3 ⟨rfl, hb⟩
                have C3 : Hid (Below w.heap.size w v3) := over C2.out hb
                clear hb XD
                go_wp2_with fail
                refine (YD.out _ (HW.out.down C3.out)).mono ?_
                rintro e v4 ⟨rfl, hb⟩
                have C4 : Hid (Below w.heap.size w v4) := over C3.out hb
                clear hb YD
                go_wp2
                go_ret
                exact ⟨rfl, C4.out⟩
          · have HQ : Hid (I64 (k.tdiv 10)) := by show I64 _; rw [Int.tdiv_eq_ediv_of_nonneg (by omega)]; constructor <;> omega
            have HL : Hid (I64 (k % 10)) := by constructor <;> omega
            have XD : Hid (∀ w, NumW w → Calls _ _ _ _ _) := fun w hw => dec (k.tdiv 10) HQ.out w hw
            have YD : Hid (∀ w, NumW w → Calls _ _ _ _ _) := fun w hw => dec (k % 10) HL.out w hw
            have hX := dec_size (k.tdiv 10) HQ.out
            have hY := dec_size (k % 10) HL.out
            have HE : Hid (Z = decS (k.tdiv 10) ++ decS (k % 10)) := by show _ = _; rw [← HZ.out]; exact dec_up2 k (by omega)
            have hwq : IntKind.i64.wrap (k.tdiv 10) = k.tdiv 10 := wrap_id HQ.out
            obtain ⟨X, HX⟩ : ∃ X, Hid (decS (k.tdiv 10) = X) := ⟨_, rfl⟩
            obtain ⟨Y, HY⟩ : ∃ Y, Hid (decS (k % 10) = Y) := ⟨_, rfl⟩
            rw [HX.out] at XD hX HE
            rw [HY.out] at YD hY HE
            have hq : (Z.toList == (X ++ Y).toList) = true := by rw [toList_bs]; exact decide_eq_true HE.out
            have hwm : IntKind.i64.wrap (k % 10) = k % 10 := wrap_id HL.out
            have hl0 : ¬ k % 10 < 0 := by omega
            go_wp2_with fail
            refine (XD.out _ (HW.out.down C2.out)).mono ?_
            rintro e v3 ⟨rfl, hb⟩
            have C3 : Hid (Below w.heap.size w v3) := over C2.out hb
            clear hb XD
            go_wp2_with fail
            refine (YD.out _ (HW.out.down C3.out)).mono ?_
            rintro e v4 ⟨rfl, hb⟩
            have C4 : Hid (Below w.heap.size w v4) := over C3.out hb
            clear hb YD
            go_wp2
            go_ret
            exact ⟨rfl, C4.out⟩
end Go.Proofs.YthblljfkodbbeaaDoor.wf
