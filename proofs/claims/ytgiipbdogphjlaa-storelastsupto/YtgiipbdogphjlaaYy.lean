import Derived.Test.YtgiipbdogphjlaaYx
namespace Go.Proofs.Ytgiipbdogphjlaa.yy
open Go.RowKit Go.PlainAid Go.Maps Go.Shelf
open Go.Proofs.Ytgiipbdogphjlaa.ca Go.Proofs.Ytgiipbdogphjlaa.cb Go.Proofs.Ytgiipbdogphjlaa.cp Go.Proofs.Ytgiipbdogphjlaa.kp Go.Proofs.Ytgiipbdogphjlaa.ka Go.Proofs.Ytgiipbdogphjlaa.ya Go.Proofs.Ytgiipbdogphjlaa.yb Go.Proofs.Ytgiipbdogphjlaa.yc Go.Proofs.Ytgiipbdogphjlaa.yd Go.Proofs.Ytgiipbdogphjlaa.ye Go.Proofs.Ytgiipbdogphjlaa.yf Go.Proofs.Ytgiipbdogphjlaa.yg Go.Proofs.Ytgiipbdogphjlaa.yk Go.Proofs.Ytgiipbdogphjlaa.yl Go.Proofs.Ytgiipbdogphjlaa.ym Go.Proofs.Ytgiipbdogphjlaa.yn Go.Proofs.Ytgiipbdogphjlaa.yo Go.Proofs.Ytgiipbdogphjlaa.yp Go.Proofs.Ytgiipbdogphjlaa.yq Go.Proofs.Ytgiipbdogphjlaa.yr Go.Proofs.Ytgiipbdogphjlaa.ys Go.Proofs.Ytgiipbdogphjlaa.yt Go.Proofs.Ytgiipbdogphjlaa.yu Go.Proofs.Ytgiipbdogphjlaa.yv Go.Proofs.Ytgiipbdogphjlaa.yw Go.Proofs.Ytgiipbdogphjlaa.yx Go.Proofs.Ytgiipbdogphjlaa.bn Go.Proofs.Ytgiipbdogphjlaa.sb Go.Proofs.Ytgiipbdogphjlaa.mc
set_option linter.unusedVariables false
set_option linter.unusedSimpArgs false
theorem ops_at {B : Nat} {w : World} {va : Option Addr} {vc : Nat} {l : List Opn} (h : ReadsO B w (.slice va l.length vc) l) (j : Nat) (o : Opn) (ho : l[j]? = some o) (hj : j < l.length) : ∃ b off, va = some ⟨b, off, none⟩ ∧ w.cell? ⟨b, off + j * 4, none⟩ = some (.int .i64 o.kind) ∧ w.cell? ⟨b, off + j * 4 + 1, none⟩ = some (.string o.key) ∧ w.cell? ⟨b, off + j * 4 + 2, none⟩ = some (.string o.data) ∧ w.cell? ⟨b, off + j * 4 + 3, none⟩ = some (.int .i64 o.n) ∧ OkO o := by
  obtain ⟨⟨a', c', e', h1⟩, hev⟩ := h
  injection e' with e1 _ e2
  subst e1 e2
  rcases h1 with h1 | ⟨b, off, rfl, _, hc⟩
  · omega
  · obtain ⟨d0, d1, d2, d3⟩ := hc j o ho
    exact ⟨b, off, rfl, d0, d1, d2, d3, hev o (List.mem_of_getElem? ho)⟩
set_option maxRecDepth 20000 in
set_option maxHeartbeats 12800000 in
theorem lastsW (c : Int) (v : Value) (l : List Opn) (key data : ByteArray) (u : Value) (fl : List Opn) (w : World) (hv : ReadsO w.heap.size w v l) (hu : ReadsO w.heap.size w u fl) (hk : key.size ≤ 1048576) (hd : data.size ≤ 1048576) (hm : tw l ≤ 1048576) (hm2 : tw fl ≤ 1048576) (hn : l.length ≤ 1048576) (hn2 : fl.length ≤ 1048576) :
    Calls Try.prog 5 #[.int .i64 c, v, .string key, .string data, u] w fun e w' => e = .returned (.bool true) ∧ Below w.heap.size w w' := by
  have CB : Hid (Calls _ _ _ _ _) := begunC w
  by_cases hc : 0 ≤ c ∧ c ≤ 1073741824
  · obtain ⟨ua, uc, rfl, _⟩ := hu.form
    have HV : Hid (ReadsO w.heap.size w v l ∧ ReadsO w.heap.size w (.slice ua fl.length uc) fl) := ⟨hv, hu⟩
    obtain ⟨s1, HS1⟩ : ∃ s1, Hid (l.foldl doO ⟨c, [], [], 0, false, 0⟩ = s1) := ⟨_, rfl⟩
    have hst := steps ⟨c, [], [], 0, false, 0⟩ l l.length
    rw [List.take_length, HS1.out] at hst
    have hms : mass ⟨c, [], [], 0, false, 0⟩ = 1 := rfl
    have hns : nums ⟨c, [], [], 0, false, 0⟩ = 0 := rfl
    have has : (⟨c, [], [], 0, false, 0⟩ : S).age = 0 := rfl
    rw [hms, hns, has] at hst
    have CN : Hid (∀ w1, Calls _ _ _ _ _) := fun w1 => newC c w1 hc
    have CP : Hid (∀ B g bn bd w0 w1, At B g bn bd ⟨c, [], [], 0, false, 0⟩ w0 w1 → ReadsO B w1 v l → B ≤ w0.heap.size → Calls Try.prog 16 #[.pointer (some ⟨g, 0, none⟩), v] w1 fun e w' => e = .returned (.tuple #[]) ∧ At B g bn bd s1 w0 w') := fun B g bn bd w0 w1 h hr hB => by
      have C := aPlay l h hr hB (by rw [hms]; omega) (by rw [hns]; omega) (by rw [has]; omega)
      rw [HS1.out] at C
      exact C
    obtain ⟨s2, HS2⟩ : ∃ s2, Hid (crashS s1 ⟨#[]⟩ = s2) := ⟨_, rfl⟩
    have hg2 := grows s1 ⟨5, ⟨#[]⟩, ⟨#[]⟩, 0⟩
    have hd2 : doO s1 ⟨5, ⟨#[]⟩, ⟨#[]⟩, 0⟩ = s2 := by rw [← HS2.out]; rfl
    have hw2 : wt ⟨5, ⟨#[]⟩, ⟨#[]⟩, 0⟩ = 5 := rfl
    rw [hd2, hw2] at hg2
    have CC : Hid (∀ B g bn bd w0 w1, At B g bn bd s1 w0 w1 → B ≤ w0.heap.size → Calls Try.prog 17 #[.pointer (some ⟨g, 0, none⟩), .string ⟨#[]⟩] w1 fun e w' => e = .returned (.tuple #[]) ∧ At B g bn bd s2 w0 w') := fun B g bn bd w0 w1 h hB => by
      have C := aCrash ⟨#[]⟩ h hB (by decide) (by omega)
      rw [HS2.out] at C
      exact C
    obtain ⟨x3, s3, HS3⟩ : ∃ x3 s3, Hid (putS s2 key data = (x3, s3)) := ⟨_, _, rfl⟩
    have hg3 := grows s2 ⟨1, key, data, 0⟩
    have hd3 : doO s2 ⟨1, key, data, 0⟩ = s3 := by have : doO s2 ⟨1, key, data, 0⟩ = (putS s2 key data).2 := rfl; rw [this, HS3.out]
    have hw3 : wt ⟨1, key, data, 0⟩ = key.size + data.size + 5 := rfl
    rw [hd3, hw3] at hg3
    have CU : Hid (∀ B g bn bd w0 w1, At B g bn bd s2 w0 w1 → B ≤ w0.heap.size → Calls Try.prog 23 #[.pointer (some ⟨g, 0, none⟩), .string key, .string data] w1 fun e w' => e = .returned (.int .i64 x3) ∧ At B g bn bd s3 w0 w') := fun B g bn bd w0 w1 h hB => by
      have C := aPut key data h hB (by omega) (by omega) (by omega)
      rw [HS3.out] at C
      exact C
    obtain ⟨x4, s4, HS4⟩ : ∃ x4 s4, Hid (syncS s3 = (x4, s4)) := ⟨_, _, rfl⟩
    have hg4 := grows s3 ⟨3, ⟨#[]⟩, ⟨#[]⟩, 0⟩
    have hd4 : doO s3 ⟨3, ⟨#[]⟩, ⟨#[]⟩, 0⟩ = s4 := by have : doO s3 ⟨3, ⟨#[]⟩, ⟨#[]⟩, 0⟩ = (syncS s3).2 := rfl; rw [this, HS4.out]
    have hw4 : wt ⟨3, ⟨#[]⟩, ⟨#[]⟩, 0⟩ = 5 := rfl
    rw [hd4, hw4] at hg4
    have CY : Hid (∀ B g bn bd w0 w1, At B g bn bd s3 w0 w1 → B ≤ w0.heap.size → Calls Try.prog 24 #[.pointer (some ⟨g, 0, none⟩)] w1 fun e w' => e = .returned (.int .i64 x4) ∧ At B g bn bd s4 w0 w') := fun B g bn bd w0 w1 h hB => by
      have C := aSync h hB
      rw [HS4.out] at C
      exact C
    have HHD : Hid (∀ B g bn bd w0 w1, At B g bn bd s2 w0 w1 → x3 = 0 → x4 = 0 → Held key data s4) := fun B g bn bd w0 w1 h e3 e4 => by
      obtain ⟨pv, h5⟩ := h.ex
      have e5 : s2.pend = [] := by rw [← HS2.out]; rfl
      have := held_put (k := key) (d := data) e5 h5.ok.srt (by rw [HS3.out]; exact e3) (by rw [HS3.out, HS4.out]; exact e4)
      rw [HS3.out, HS4.out] at this
      exact this
    have hb4 : mass s4 ≤ 5242880 ∧ nums s4 ≤ 2097152 ∧ s4.age ≤ 2097152 := by omega
    clear hst hms hns has hg2 hd2 hw2 hg3 hd3 hw3 hg4 hd4 hw4 hv hu hc
    have arms : Hid True := trivial
    by_cases he3 : x3 = 0
    · subst he3
      by_cases he4 : x4 = 0
      · subst he4
        go_enter Try.func5, Try.ntmps5
        go_upto_region 10 with (first
          | (go_at_call 9; refine CB.out.mono ?_; rintro _ w1 ⟨rfl, b1⟩; have B1 : Hid (Below w.heap.size w w1) := b1; clear b1)
          | (go_at_call 10; refine (CN.out _).mono ?_; rintro _ w2 ⟨g, bn, bd, rfl, h3, b3⟩; have A2 : Hid (At w1.heap.size g bn bd ⟨c, [], [], 0, false, 0⟩ w1 w2) := ⟨⟨_, h3⟩, b3⟩; have V2 : Hid (ReadsO w1.heap.size w2 v l) := (ReadsO_up (HV.out.1.later B1.out) B1.out.size).later b3; clear h3 b3)
          | (go_at_call 16; refine (CP.out _ g bn bd w1 w2 A2.out V2.out (Nat.le_refl _)).mono ?_; rintro _ w3 ⟨rfl, a3⟩; have A3 : Hid (At w1.heap.size g bn bd s1 w1 w3) := a3; clear a3 A2 V2)
          | (go_at_call 17; refine (CC.out _ g bn bd w1 w3 A3.out (Nat.le_refl _)).mono ?_; rintro _ w4 ⟨rfl, a4⟩; have A4 : Hid (At w1.heap.size g bn bd s2 w1 w4) := a4; clear a4 CC)
          | (go_at_call 23; refine (CU.out _ g bn bd w1 w4 A4.out (Nat.le_refl _)).mono ?_; rintro _ w5 ⟨rfl, a5⟩; have A5 : Hid (At w1.heap.size g bn bd s3 w1 w5) := a5; clear a5 CU)
          | (go_at_call 24; refine (CY.out _ g bn bd w1 w5 A5.out (Nat.le_refl _)).mono ?_; rintro _ w6 ⟨rfl, a6⟩; have A6 : Hid (At w1.heap.size g bn bd s4 w1 w6) := a6; clear a6 CY)
          | go_in)
        have HD4 : Hid (Held key data s4) := HHD.out _ g bn bd w1 w4 A4.out (by first | rfl | trivial) (by first | rfl | trivial)
        have VU : Hid (ReadsO w1.heap.size w1 (.slice ua fl.length uc) fl) := ReadsO_up (HV.out.2.later B1.out) B1.out.size
        clear CB CN CP A3 A4 A5 HHD HV
        go_wp2_with fail
        go_loopw [13] (fun i wr => ∃ (j : Nat) (t : S), i = .int .i64 j ∧ j ≤ fl.length ∧ Hid (At w1.heap.size g bn bd t w1 wr ∧ Held key data t ∧ mass t ≤ mass s4 + tw (fl.take j) ∧ nums t ≤ nums s4 + j ∧ t.age ≤ s4.age + j)) (fun i _ => (fl.length - intOf i).toNat)
        case atStart => exact ⟨0, s4, rfl, Nat.zero_le _, A6.out, HD4.out, by omega, by omega, by omega⟩
        case round =>
          clear A6 HD4
          obtain ⟨j, t, rfl, hj, HH⟩ := hrel
          by_cases hlt : j < fl.length
          · have hlt' : (j : Int) < fl.length := by omega
            obtain ⟨o, ho⟩ : ∃ o, fl[j]? = some o := ⟨_, List.getElem?_eq_getElem hlt⟩
            obtain ⟨b, off, e1, d0, d1, d2, d3, hoo⟩ := ops_at (VU.out.later HH.out.1.bl) j o ho hlt
            subst e1
            have htk := tw_take fl j
            have hta := tw_at fl j o ho
            have hgr := grows t o
            have HB : Hid (∀ o', At w1.heap.size g bn bd t w1 (wr.alloc o')) := fun o' => HH.out.1.lat ((Below.refl _ wr).alloc (Nat.le_refl _) _) (Nat.le_refl _)
            have HK : Hid (∀ o', At w1.heap.size g bn bd t w1 (wr.alloc o') ∧ Held key data t ∧ mass t ≤ mass s4 + tw (fl.take (j + 1)) ∧ nums t ≤ nums s4 + (j + 1) ∧ t.age ≤ s4.age + (j + 1)) := fun o' => ⟨HB.out o', HH.out.2.1, by have := HH.out.2.2; omega, by have := HH.out.2.2; omega, by have := HH.out.2.2; omega⟩
            have CD : Hid (∀ wx, At w1.heap.size g bn bd t w1 wx → Calls _ _ _ _ _) := fun wx hx => aDo o hx (Nat.le_refl _) hoo (by have := HH.out.2.2; omega) (by have := HH.out.2.2; omega) (by have := HH.out.2.2; omega)
            have HN : Hid (((o.kind = 1 ∨ o.kind = 2) → o.key ≠ key) → Held key data (doO t o) ∧ mass (doO t o) ≤ mass s4 + tw (fl.take (j + 1)) ∧ nums (doO t o) ≤ nums s4 + (j + 1) ∧ (doO t o).age ≤ s4.age + (j + 1)) := fun hq => ⟨held_do o HH.out.2.1 hq, by have := HH.out.2.2; omega, by have := HH.out.2.2; omega, by have := HH.out.2.2; omega⟩
            have CW : Hid (∀ wx, Calls _ _ _ _ _) := fun wx => writesC o.kind wx
            obtain ⟨t2, HT2⟩ : ∃ t2, Hid (doO t o = t2) := ⟨_, rfl⟩
            rw [HT2.out] at CD HN
            obtain ⟨kd, hkd⟩ : ∃ x, o.kind = x := ⟨_, rfl⟩
            obtain ⟨ky, hky⟩ : ∃ x, o.key = x := ⟨_, rfl⟩
            obtain ⟨dt, hdt⟩ : ∃ x, o.data = x := ⟨_, rfl⟩
            obtain ⟨nn, hnn⟩ : ∃ x, o.n = x := ⟨_, rfl⟩
            rw [hkd] at d0 CD HN CW
            rw [hky] at d1 CD HN
            rw [hdt] at d2 CD
            rw [hnn] at d3 CD
            clear HH ho hoo htk hta hgr hkd hky hdt hnn
            by_cases hskip : (kd = 1 ∨ kd = 2) ∧ ky = key
            · rw [decide_eq_true hskip.1] at CW
              have hke : (ky.toList == key.toList) = true := by rw [beqL]; exact decide_eq_true hskip.2
              clear hskip
              go_wp2_with (first | (go_at_call 25; refine (CW.out _).mono ?_; rintro _ _ ⟨rfl, hw⟩; rw [hw]; clear hw) | go_in)
              go_roundw
              case rel => exact ⟨j + 1, t, by go_num, by omega, HK.out _⟩
              case measure => simp [intOf]; omega
            · have HN2 : Hid _ := HN.out (fun h1 h2 => hskip ⟨h1, h2⟩)
              have CG : Hid (∀ wx, At w1.heap.size g bn bd t2 w1 wx → Calls _ _ _ _ _) := fun wx hx => aGet hx (Nat.le_refl _) HN2.out.1
              have CDn : Hid (∀ wx, At w1.heap.size g bn bd t2 w1 wx → Calls _ _ _ _ _) := fun wx hx => aDown hx
              have hde : (data.toList == data.toList) = true := by simp
              have hdn : (data.toList != data.toList) = false := by rw [bne, hde]; rfl
              have FOR : (decide (kd = 1 ∨ kd = 2) = false ∨ (decide (kd = 1 ∨ kd = 2) = true ∧ (ky.toList == key.toList) = false)) := by
                by_cases hw : kd = 1 ∨ kd = 2
                · exact .inr ⟨decide_eq_true hw, by rw [beqL]; exact decide_eq_false (fun e => hskip ⟨hw, e⟩)⟩
                · exact .inl (decide_eq_false hw)
              clear hskip HN
              cases hof : t2.off with
              | true =>
                rw [hof] at CG CDn
                rcases FOR with hf | ⟨hf, hke⟩ <;> rw [hf] at CW <;> clear hf
                all_goals (
                  go_wp2_with (first | (go_at_call 25; refine (CW.out _).mono ?_; rintro _ _ ⟨rfl, hw⟩; rw [hw]; clear hw) | (go_at_call 12; refine (CD.out _ (HB.out _)).mono ?_; rintro _ wy ⟨⟨q0, q1, q2, q3, q4, q5, q6, q7, q8, rfl⟩, a7⟩; have A7 : Hid (At w1.heap.size g bn bd t2 w1 wy) := a7; clear a7) | (go_at_call 14; refine (CG.out _ A7.out).mono ?_; rintro _ wz ⟨rfl, a8⟩; have A8 : Hid (At w1.heap.size g bn bd t2 w1 wz) := a8; clear a8) | (go_at_call 21; refine (CDn.out _ A8.out).mono ?_; rintro _ _ ⟨rfl, hw⟩; rw [hw]; clear hw) | go_in)
                  go_roundw
                  case rel => exact ⟨j + 1, t2, by go_num, by omega, A8.out, HN2.out⟩
                  case measure => simp [intOf]; omega)
              | false =>
                rw [hof] at CG CDn
                rcases FOR with hf | ⟨hf, hke⟩ <;> rw [hf] at CW <;> clear hf
                all_goals (
                  go_wp2_with (first | (go_at_call 25; refine (CW.out _).mono ?_; rintro _ _ ⟨rfl, hw⟩; rw [hw]; clear hw) | (go_at_call 12; refine (CD.out _ (HB.out _)).mono ?_; rintro _ wy ⟨⟨q0, q1, q2, q3, q4, q5, q6, q7, q8, rfl⟩, a7⟩; have A7 : Hid (At w1.heap.size g bn bd t2 w1 wy) := a7; clear a7) | (go_at_call 14; refine (CG.out _ A7.out).mono ?_; rintro _ wz ⟨rfl, a8⟩; have A8 : Hid (At w1.heap.size g bn bd t2 w1 wz) := a8; clear a8) | (go_at_call 21; refine (CDn.out _ A8.out).mono ?_; rintro _ _ ⟨rfl, hw⟩; rw [hw]; clear hw) | go_in)
                  go_roundw
                  case rel => exact ⟨j + 1, t2, by go_num, by omega, A8.out, HN2.out⟩
                  case measure => simp [intOf]; omega)
          · have hlt' : ¬ (j : Int) < fl.length := by omega
            have htk := tw_take fl j
            have CX : Hid (Calls _ _ _ _ _) := aCrash ⟨#[]⟩ HH.out.1 (Nat.le_refl _) (by decide) (by have := HH.out.2.2; omega)
            have HX : Hid (Held key data (crashS t ⟨#[]⟩)) := by have := held_do (k := key) (d := data) (s := t) ⟨5, ⟨#[]⟩, ⟨#[]⟩, 0⟩ HH.out.2.1 (fun h => by simp at h); exact this
            have CG : Hid (∀ wx, At w1.heap.size g bn bd (crashS t ⟨#[]⟩) w1 wx → Calls Try.prog 14 #[.pointer (some ⟨g, 0, none⟩), .string key] wx fun e w' => e = .returned (.tuple #[.string data, .int .i64 0]) ∧ At w1.heap.size g bn bd (crashS t ⟨#[]⟩) w1 w') := fun wx hx => aGet hx (Nat.le_refl _) HX.out
            have hde : (data.toList == data.toList) = true := by simp
            clear HH htk
            go_wp2_with (first | (go_at_call 17; refine CX.out.mono ?_; rintro _ wy ⟨rfl, a7⟩; have A7 : Hid (At _ g bn bd (crashS t ⟨#[]⟩) w1 wy) := a7; clear a7) | (go_at_call 14; refine (CG.out _ A7.out).mono ?_; rintro _ wz ⟨rfl, a8⟩; have A8 : Hid (At _ g bn bd (crashS t ⟨#[]⟩) w1 wz) := a8; clear a8) | go_in)
            go_ret
            exact ⟨rfl, over B1.out A8.out.bl⟩
      · have hx' : (x4 != 0) = true := by rw [bne_iff_ne]; exact he4
        clear he4
        go_enter Try.func5, Try.ntmps5
        go_wp2_with (first | (go_at_call 9; refine CB.out.mono ?_; rintro _ w1 ⟨rfl, b1⟩; have B1 : Hid (Below w.heap.size w w1) := b1; clear b1) | (go_at_call 10; refine (CN.out _).mono ?_; rintro _ w2 ⟨g, bn, bd, rfl, h3, b3⟩; have A2 : Hid (At w1.heap.size g bn bd ⟨c, [], [], 0, false, 0⟩ w1 w2) := ⟨⟨_, h3⟩, b3⟩; have V2 : Hid (ReadsO w1.heap.size w2 v l) := (ReadsO_up (HV.out.1.later B1.out) B1.out.size).later b3; clear h3 b3) | (go_at_call 16; refine (CP.out _ g bn bd w1 w2 A2.out V2.out (Nat.le_refl _)).mono ?_; rintro _ w3 ⟨rfl, a3⟩; have A3 : Hid (At w1.heap.size g bn bd s1 w1 w3) := a3; clear a3 A2 V2) | (go_at_call 17; refine (CC.out _ g bn bd w1 w3 A3.out (Nat.le_refl _)).mono ?_; rintro _ w4 ⟨rfl, a4⟩; have A4 : Hid (At w1.heap.size g bn bd s2 w1 w4) := a4; clear a4 CC) | (go_at_call 23; refine (CU.out _ g bn bd w1 w4 A4.out (Nat.le_refl _)).mono ?_; rintro _ w5 ⟨rfl, a5⟩; have A5 : Hid (At w1.heap.size g bn bd s3 w1 w5) := a5; clear a5 CU) | (go_at_call 24; refine (CY.out _ g bn bd w1 w5 A5.out (Nat.le_refl _)).mono ?_; rintro _ w6 ⟨rfl, a6⟩; have A6 : Hid (At w1.heap.size g bn bd s4 w1 w6) := a6; clear a6 CY) | go_in)
        go_ret
        exact ⟨rfl, over B1.out A6.out.bl⟩
    · have hx' : (x3 != 0) = true := by rw [bne_iff_ne]; exact he3
      clear he3
      go_enter Try.func5, Try.ntmps5
      go_wp2_with (first | (go_at_call 9; refine CB.out.mono ?_; rintro _ w1 ⟨rfl, b1⟩; have B1 : Hid (Below w.heap.size w w1) := b1; clear b1) | (go_at_call 10; refine (CN.out _).mono ?_; rintro _ w2 ⟨g, bn, bd, rfl, h3, b3⟩; have A2 : Hid (At w1.heap.size g bn bd ⟨c, [], [], 0, false, 0⟩ w1 w2) := ⟨⟨_, h3⟩, b3⟩; have V2 : Hid (ReadsO w1.heap.size w2 v l) := (ReadsO_up (HV.out.1.later B1.out) B1.out.size).later b3; clear h3 b3) | (go_at_call 16; refine (CP.out _ g bn bd w1 w2 A2.out V2.out (Nat.le_refl _)).mono ?_; rintro _ w3 ⟨rfl, a3⟩; have A3 : Hid (At w1.heap.size g bn bd s1 w1 w3) := a3; clear a3 A2 V2) | (go_at_call 17; refine (CC.out _ g bn bd w1 w3 A3.out (Nat.le_refl _)).mono ?_; rintro _ w4 ⟨rfl, a4⟩; have A4 : Hid (At w1.heap.size g bn bd s2 w1 w4) := a4; clear a4 CC) | (go_at_call 23; refine (CU.out _ g bn bd w1 w4 A4.out (Nat.le_refl _)).mono ?_; rintro _ w5 ⟨rfl, a5⟩; have A5 : Hid (At w1.heap.size g bn bd s3 w1 w5) := a5; clear a5 CU) | (go_at_call 24; refine (CY.out _ g bn bd w1 w5 A5.out (Nat.le_refl _)).mono ?_; rintro _ w6 ⟨rfl, a6⟩; have A6 : Hid (At w1.heap.size g bn bd s4 w1 w6) := a6; clear a6 CY) | go_in)
      go_ret
      exact ⟨rfl, over B1.out A5.out.bl⟩
  · have CN : Hid (∀ w1, Calls _ _ _ _ _) := fun w1 => newNo c w1 hc
    rcases (show c < 0 ∨ 1073741824 < c by omega) with h | h
    · have hq : decide (c < 0) = true := decide_eq_true h
      clear hc hv hu
      go_enter Try.func5, Try.ntmps5
      go_wp2_with (first | (go_at_call 9; refine CB.out.mono ?_; rintro _ w1 ⟨rfl, b1⟩; have B1 : Hid (Below w.heap.size w w1) := b1; clear b1) | (go_at_call 10; refine (CN.out _).mono ?_; rintro _ _ ⟨rfl, hw⟩; rw [hw]; clear hw) | go_in)
      go_ret
      exact ⟨rfl, B1.out⟩
    · have hq : decide (c < 0) = false := decide_eq_false (by omega)
      have hq2 : decide (1073741824 < c) = true := decide_eq_true h
      clear hc hv hu
      go_enter Try.func5, Try.ntmps5
      go_wp2_with (first | (go_at_call 9; refine CB.out.mono ?_; rintro _ w1 ⟨rfl, b1⟩; have B1 : Hid (Below w.heap.size w w1) := b1; clear b1) | (go_at_call 10; refine (CN.out _).mono ?_; rintro _ _ ⟨rfl, hw⟩; rw [hw]; clear hw) | go_in)
      go_ret
      exact ⟨rfl, B1.out⟩
theorem lasts_walk (c : Int) (wc : (Lit.int .i64 c).wf = true) (v : Value) (l : List Opn) {W : World} (hv : ReadsO W.heap.size W v l) (z : tw l ≤ 1048576) (y : l.length ≤ 1048576) (key : ByteArray) (z1 : key.size ≤ 1048576) (data : ByteArray) (z2 : data.size ≤ 1048576) (u : Value) (fl : List Opn) (hu : ReadsO W.heap.size W u fl) (z3 : tw fl ≤ 1048576) (y3 : fl.length ≤ 1048576) :
    Calls Try.prog 5 #[.int .i64 c, v, .string key, .string data, u] W fun e w' => e = .returned (.bool true) ∧ Below W.heap.size W w' := lastsW c v l key data u fl W hv hu z1 z2 z z3 y y3
end Go.Proofs.Ytgiipbdogphjlaa.yy
