import Derived.Test.YtlkkibiedlakfaaGreatYj
namespace Go.Proofs.YtlkkibiedlakfaaGreat.yk
open Go.RowKit Go.PlainAid Go.Maps Go.Shelf
open Go.Proofs.YtlkkibiedlakfaaGreat.ca Go.Proofs.YtlkkibiedlakfaaGreat.cb Go.Proofs.YtlkkibiedlakfaaGreat.cp Go.Proofs.YtlkkibiedlakfaaGreat.kp Go.Proofs.YtlkkibiedlakfaaGreat.ka Go.Proofs.YtlkkibiedlakfaaGreat.ya Go.Proofs.YtlkkibiedlakfaaGreat.yb Go.Proofs.YtlkkibiedlakfaaGreat.yc Go.Proofs.YtlkkibiedlakfaaGreat.yd Go.Proofs.YtlkkibiedlakfaaGreat.ye Go.Proofs.YtlkkibiedlakfaaGreat.yf Go.Proofs.YtlkkibiedlakfaaGreat.yg Go.Proofs.YtlkkibiedlakfaaGreat.yh Go.Proofs.YtlkkibiedlakfaaGreat.yi Go.Proofs.YtlkkibiedlakfaaGreat.sb Go.Proofs.YtlkkibiedlakfaaGreat.mc
set_option linter.unusedVariables false
set_option linter.unusedSimpArgs false
def putS (s : S) (k d : ByteArray) : Int × S := if refS s k ≠ 0 then (refS s k, s) else if d.size ≤ 1048576 then (if s.cap < (tot (put k d (now s)) : Nat) ∧ tot (now s) < tot (put k d (now s)) then (122, s) else spendS (addW s ⟨false, k, d⟩)) else (121, s)
theorem step_count {ops : Array Oper} {o : Oper} {a : Act} {w : World} {K : Act → World → Prop} {Q : Exit → Act → World → Prop} {E : Prop} (hg : o.guard = none) (k l d : Nat)
    (hop : o.op = .call { callee := .value (.func 91), args := #[.tmp k, .tmp l], argTypes := #[9, 9] }) (hd : o.dst = some d) (x y : ByteArray)
    (hy : a.tmps[k]?.getD undef = .string x) (hy2 : a.tmps[l]?.getD undef = .string y) (hx : x.size ≤ 140737488355328) (hy3 : y.size ≤ 140737488355328) (n : Nat) (HN : Hid (cnt (x, y) = n))
    (hK : K { tmps := a.tmps.setIfInBounds d (.int .i64 n), defers := a.defers } w) :
    if Region.wanted o (yielded ops a.tmps) = true then Oper.wp Tryz.prog o a w K Q else E := by
  have hw : Region.wanted o (yielded ops a.tmps) = true := by simp [Region.wanted, hg]
  rw [if_pos hw]
  have C := countC x y w hx hy3
  rw [HN.out] at C
  have HKK : Hid _ := hK
  clear hK HN
  unfold Oper.wp execOp
  simp only [hop]
  go_simp
  refine C.mono ?_
  rintro e w' ⟨rfl, rfl⟩
  exact HKK.out
set_option maxRecDepth 20000 in
set_option maxHeartbeats 12800000 in
theorem putC {B g bn bd : Nat} {pv : Value} {s : S} {w : World} (k d : ByteArray) (h : Sr B g bn bd pv s w) (hk : k.size ≤ 140737488355328) (hd : d.size ≤ 140737488355328) (hl : s.dur.length + s.pend.length + 1 < 3518437208883) (hB : B ≤ w.heap.size) :
    Calls Tryz.prog 43 #[.pointer (some ⟨g, 0, none⟩), .string k, .string d] w fun e w' => e = .returned (.int .i64 (putS s k d).1) ∧ Rn B g bn bd pv (putS s k d).2 w w' := by
  have CR : Hid (Calls _ _ _ _ _) := refusalC k h.row
  have CG : Hid (∀ w, Calls _ _ _ _ _) := fun w => dataGoC d w
  have H : Hid (Sr B g bn bd pv s w) := h
  have hkm : k.size ≤ maxLen := by unfold maxLen; omega
  have hdm : d.size ≤ maxLen := by unfold maxLen; omega
  have HP : Hid (refS s k = 0 → 1 ≤ k.size ∧ k.size ≤ 64) := by
    intro e
    unfold refS at e
    split at e
    · cases e
    · split at e
      · assumption
      · cases e
  obtain ⟨x, HX⟩ : ∃ x, Hid (refS s k = x) := ⟨_, rfl⟩
  have HCS : Hid (putS s k d = if x ≠ 0 then (x, s) else if d.size ≤ 1048576 then (if s.cap < (tot (put k d (now s)) : Nat) ∧ tot (now s) < tot (put k d (now s)) then (122, s) else spendS (addW s ⟨false, k, d⟩)) else (121, s)) := by show _ = _; unfold putS; rw [HX.out]
  rw [HX.out] at CR HP
  rw [HCS.out]
  clear h HCS
  by_cases hx : x = 0
  · subst hx
    rw [if_neg (by simp)]
    by_cases hd1 : d.size ≤ 1048576
    · rw [if_pos hd1]
      rw [decide_eq_true hd1] at CG
      have iw := info_parts info_w
      obtain ⟨i0, hi, hz0, hz1, hz2⟩ := iw
      have HIN : Hid (_ ∧ _ ∧ _ ∧ _) := ⟨hi, hz0, hz1, hz2⟩
      clear hi hz0 hz1 hz2
      have hkk := HP.out rfl
      have OW : Hid (OkW ⟨false, k, d⟩) := ⟨hkk.1, hkk.2, hd1⟩
      have sn := H.out.ok.snow
      have td := tot_del k (now s) sn
      have tp : tot (put k d (now s)) = tot (del k (now s)) + cnt (k, d) := by have := tot_put k d (now s) sn; omega
      have tt := H.out.ok.tot
      have hcnt : cnt (k, d) = k.size + d.size + 16 := rfl
      have hc0 := H.out.ok.cap0
      have hc1 := H.out.ok.cap1
      obtain ⟨T, HT⟩ : ∃ T, Hid (tot (now s) = T) := ⟨_, rfl⟩
      obtain ⟨a, HA⟩ : ∃ a, Hid (at0 k (now s) = a) := ⟨_, rfl⟩
      obtain ⟨D, HD⟩ : ∃ D, Hid (tot (del k (now s)) = D) := ⟨_, rfl⟩
      obtain ⟨q, HQ⟩ : ∃ q, Hid (cnt (k, d) = q) := ⟨_, rfl⟩
      obtain ⟨P, HPP⟩ : ∃ P, Hid (tot (put k d (now s)) = P) := ⟨_, rfl⟩
      rw [HT.out, HA.out, HD.out] at td
      rw [HPP.out, HD.out, HQ.out] at tp
      rw [HT.out] at tt
      rw [HQ.out] at hcnt
      have hwr : IntKind.i64.wrap ((T : Int) - (a : Int)) = (D : Int) := by
        rw [show (T : Int) - (a : Int) = (D : Int) by omega]
        exact wrap_is _ (by omega)
      have hwr2 : IntKind.i64.wrap ((D : Int) + (q : Int)) = (P : Int) := by
        rw [show (D : Int) + (q : Int) = (P : Int) by omega]
        exact wrap_is _ (by omega)
      have HIF : Hid ((if s.cap < (tot (put k d (now s)) : Nat) ∧ tot (now s) < tot (put k d (now s)) then ((122 : Int), s) else spendS (addW s ⟨false, k, d⟩)) = if s.cap < (P : Int) ∧ T < P then (122, s) else spendS (addW s ⟨false, k, d⟩)) := by show _ = _; rw [HPP.out, HT.out]
      obtain ⟨R, HRR⟩ : ∃ R, Hid ((if s.cap < (P : Int) ∧ T < P then ((122 : Int), s) else spendS (addW s ⟨false, k, d⟩)) = R) := ⟨_, rfl⟩
      rw [HIF.out, HRR.out]
      have H0 : Hid (Sq B g bn bd pv T (now s) s.dur s.pend.length (wcs bd s.pend) s w) := by have := sq_of H.out; rw [HT.out] at this; exact this
      have ON : Hid (OkR (now s) ∧ OkS s) := ⟨H.out.ok.now, H.out.ok⟩
      have hln : (now s).length < maxLen := by have := H.out.ok.lnow; unfold maxLen; omega
      have c3 := H0.out.row.c3
      have c01 := H0.out.row.c0
      have HR : Hid (Mp bn (now s) w.drew ∧ k.size ≤ 140737488355328 ∧ OkR (now s)) := ⟨H0.out.mn, hk, ON.out.1⟩
      have FK : Hid (∀ w2, Below w.drew.heap.size w.drew w2 → Sq B g bn bd pv T (now s) s.dur s.pend.length (wcs bd s.pend) s w2 ∧ Kp (Fr g bn bd pv) w w2) := fun w2 b2 => by
        have b2' : Below w.heap.size w w2 := ⟨b2.os, b2.tape, b2.output, b2.size, b2.block⟩
        exact ⟨H0.out.later b2', Kp.of_below b2'⟩
      clear td tt tp hcnt H H0 sn HIF hkk
      go_enter Tryz.func43, Tryz.ntmps43
      go_upto_region 6 with (first | (go_at_call 88; refine CR.out.mono ?_; rintro _ _ ⟨rfl, hw⟩; rw [hw]; clear hw) | (go_at_call 89; refine (CG.out _).mono ?_; rintro _ _ ⟨rfl, hw⟩; rw [hw]; clear hw) | go_in)
      go_cut [8] (fun c wx => c = .int .i64 P ∧ Hid (Sq B g bn bd pv T (now s) s.dur s.pend.length (wcs bd s.pend) s wx ∧ Kp (Fr g bn bd pv) w wx))
      case first =>
        go_region_law ((first | (have zz := HR.out; refine step_counts (by rfl) 25 26 27 (by rfl) (by rfl) bn (now s) k (by simp [Act.put]) (by simp [Act.put]) HR a HA ?_; intro w2 b2; have F2 : Hid _ := FK.out w2 b2; have c32 := F2.out.1.row.c3; have c02 := F2.out.1.row.c0; clear b2 zz HR) | (refine step_count (by rfl) 29 30 31 (by rfl) (by rfl) k d (by simp [Act.put]) (by simp [Act.put]) hk hd q HQ ?_)))
        all_goals (go_wp2; go_meet; exact ⟨rfl, F2.out⟩)
      case rest =>
        obtain ⟨rfl, h3⟩ := hcut
        have F3 : Hid _ := h3.out
        clear h3 c3 c01 HR FK hwr hwr2 HA CR CG
        have c33 := F3.out.1.row.c3
        have c43 := F3.out.1.row.c4
        have CK : Hid (∀ w, Calls _ _ _ _ _) := fun w => cloneC k w hk
        have CD : Hid (∀ w, Calls _ _ _ _ _) := fun w => cloneC d w hd
        go_upto_region 7 with fail
        obtain ⟨w3, HW3⟩ : ∃ w3, w3 = wc := ⟨_, rfl⟩
        rw [← HW3] at F3 c33 c43 ⊢
        clear HW3
        go_cut [46] (fun c wx => c = .bool (decide (s.cap < (P : Int) ∧ T < P)) ∧ wx = w3)
        case first =>
          by_cases hf1 : s.cap < (P : Int)
          · have hg1 : decide (s.cap < (P : Int)) = true := by simp; exact hf1
            by_cases hf2 : T < P
            · have hf3 : (T : Int) < P := by omega
              have hg2 : decide ((T : Int) < P) = true := by simp; omega
              go_wp2_with fail
              go_meet
              exact ⟨by simp [hf1, hf2], rfl⟩
            · have hf3 : ¬ (T : Int) < P := by omega
              have hg2 : decide ((T : Int) < P) = false := by simp; omega
              go_wp2_with fail
              go_meet
              exact ⟨by simp [hf1, hf2], rfl⟩
          · have hg1 : decide (s.cap < (P : Int)) = false := by simp; omega
            go_wp2_with fail
            go_meet
            exact ⟨congrArg Value.bool (decide_eq_false (fun h => by have := h.1; omega)).symm, rfl⟩
        case rest =>
          obtain ⟨rfl, hw3⟩ := hcut
          rw [hw3]
          clear hw3
          by_cases hfull : s.cap < (P : Int) ∧ T < P
          · have HRn : Hid (Rn B g bn bd pv s w w3) := by
              refine Rn.of (sr_of ?_ ON.out.2) F3.out.2
              rw [HT.out]; exact F3.out.1
            have HE : Hid (R = ((122 : Int), s)) := by show _ = _; rw [← HRR.out, if_pos hfull]
            rw [decide_eq_true hfull]
            clear hfull
            go_wp2_with fail
            go_ret
            exact ⟨by rw [HE.out]; rfl, by rw [HE.out]; exact HRn.out⟩
          · have HE : Hid (R = spendS (addW s ⟨false, k, d⟩)) := by show _ = _; rw [← HRR.out, if_neg hfull]
            rw [decide_eq_false hfull]
            clear hfull
            have FC : Hid (∀ w1, Below w3.heap.size w3 w1 → Sq B g bn bd pv T (now s) s.dur s.pend.length (wcs bd s.pend) s w1 ∧ Kp (Fr g bn bd pv) w w1) := fun w1 b1 => ⟨F3.out.1.later b1, F3.out.2.trans (Kp.of_below b1)⟩
            clear c33 c43
            go_upto_region 10 with (first | (go_at_call 92; refine (CK.out _).mono ?_; rintro _ w5 ⟨rfl, b5⟩; have B5 : Hid (Below w3.heap.size w3 w5) := b5; clear b5 CK) | (go_at_call 92; refine (CD.out _).mono ?_; rintro _ w6 ⟨rfl, b6⟩; have F6 : Hid (Sq B g bn bd pv T (now s) s.dur s.pend.length (wcs bd s.pend) s w6 ∧ Kp (Fr g bn bd pv) w w6) := FC.out _ (over B5.out b6); clear b6 CD) | go_in)
            have c06 := F6.out.1.row.c0
            have CT : Hid (Calls _ _ _ _ _) := putM bn (now s) k d w6 F6.out.1.mn hkm hdm hln
            go_upto_region 11 with (first | (go_at_call 93; refine CT.out.mono ?_; rintro _ w7 ⟨rfl, m7, k7⟩; have F7 : Hid (Sq B g bn bd pv T (put k d (now s)) s.dur s.pend.length (wcs bd s.pend) s w7 ∧ Kp (Fr g bn bd pv) w w7) := ⟨F6.out.1.nm m7 k7, F6.out.2.trans (fr_n k7)⟩; clear m7 k7) | go_in)
            have c37 := F7.out.1.row.c3
            have f37 := F7.out.1.row.fz 3
            have F4' : Hid (Sq B g bn bd pv (tot (put k d (now s))) (put k d (now s)) s.dur s.pend.length (wcs bd s.pend) s (w7.setCell ⟨g, 3, none⟩ (.int .i64 P)) ∧ Kp (Fr g bn bd pv) w (w7.setCell ⟨g, 3, none⟩ (.int .i64 P))) := ⟨by rw [HPP.out]; exact F7.out.1.u P, F7.out.2.trans (fr_g (Kp.setCell _ _ _ _ rfl))⟩
            go_upto_region 12 with fail
            obtain ⟨w4, HW4⟩ : ∃ w4, w4 = w7.setCell ⟨g, 3, none⟩ (.int .i64 P) := ⟨_, rfl⟩
            rw [← HW4] at F4' ⊢
            have F4 : Hid _ := F4'.out
            clear HW4 F4' F7 F6 CT c06 c37 f37 FC F3
            have c24 := F4.out.1.row.c2
            have c14 := F4.out.1.row.c1
            have f24 := F4.out.1.row.fz 2
            have c24a : (w4.alloc (.cells #[.func (.func 93) #[.map (some bd)] #[], .string k, .string d] 105)).cell? ⟨g, 2, none⟩ = some pv := (World.cell?_alloc_lt _ _ _ F4.out.1.row.lt).trans c24
            have c14a : (w4.alloc (.cells #[.func (.func 93) #[.map (some bd)] #[], .string k, .string d] 105)).cell? ⟨g, 1, none⟩ = some (.map (some bd)) := (World.cell?_alloc_lt _ _ _ F4.out.1.row.lt).trans c14
            have O4 : Hid (w4.ownsRow B 105 3 pv s.pend.length (wcs bd s.pend)) := F4.out.1.pr
            have hB4 : B ≤ w4.heap.size := Nat.le_trans hB F4.out.2.size
            obtain ⟨n, HN⟩ : ∃ n, Hid (s.pend.length = n) := ⟨_, rfl⟩
            have hn : (n + 1) * 40 ≤ 140737488355328 := by have := HN.out; omega
            rw [HN.out] at O4
            have AR : Hid (∀ o w' g5 c5, w'.ownsRow B 105 3 (.slice (some ⟨g5, 0, none⟩) (n + 1) c5) (n + 1) (wcs bd s.pend ++ ye.wc bd ⟨false, k, d⟩) → (w4.alloc o).grownBy w' pv.ownBlock → (pv.ownBlock = some g5 ∨ g5 = w4.heap.size + 1) → St g bn bd pv (tot (put k d (now s))) s w' ∧ Rn B g bn bd pv (addW s ⟨false, k, d⟩) w (w'.setCell ⟨g, 2, none⟩ (.slice (some ⟨g5, 0, none⟩) (n + 1) c5))) := fun o w' g5 c5 ho hg hlies => by
              rw [← HN.out] at ho ⊢
              obtain ⟨h1, h2, h3, h4⟩ := add_row F4.out.1 rfl ON.out.2 OW.out hl ho hg hlies
              refine ⟨h1, _, h3, F4.out.2.trans (h2.trans (fr_g (Kp.setCell _ _ _ _ rfl))), fun k hk => ?_⟩
              rcases h4 k hk with e | e
              · exact .inl e
              · exact .inr (Nat.le_trans F4.out.2.size e)
            have ONE : Hid (∀ u ∈ [Value.func (.func 93) #[.map (some bd)] #[], .string k, .string d], u.oneCell' = true) := by intro u hu; simp only [List.mem_cons, List.not_mem_nil, or_false] at hu; rcases hu with rfl | rfl | rfl <;> rfl
            have O4a : Hid ((w4.alloc (.cells #[.func (.func 93) #[.map (some bd)] #[], .string k, .string d] 105)).drew.ownsRow B 105 3 pv n (wcs bd s.pend)) := O4.out.alloc _
            have NW : Hid (∀ (j : Nat) (y : Value), [Value.func (.func 93) #[.map (some bd)] #[], .string k, .string d][j]? = some y → (w4.alloc (.cells #[.func (.func 93) #[.map (some bd)] #[], .string k, .string d] 105)).drew.cell? (Addr.add ⟨w4.heap.size, 0, none⟩ j) = some y) := new_three w4 _ _ _ _
            go_cut [76] (fun c wx => Hid (Rn B g bn bd pv (addW s ⟨false, k, d⟩) w wx))
            case first =>
              go_region_law ((first | (have zz := O4a.out; refine step_append_lies _ (by rfl) (.tmp 66) (.tmp 75) 78 (by rfl) B 105 i0 (.agg #[.nilFunc, .string ByteArray.empty, .string ByteArray.empty]) 3 40 Tryz.underlying78 HIN.out.1 HIN.out.2.1 HIN.out.2.2.1 HIN.out.2.2.2 rfl (by decide) pv n _ (by simp [Act.eval]) O4a.out ⟨w4.heap.size, 0, none⟩ 1 1 [.func (.func 93) #[.map (some bd)] #[], .string k, .string d] (by simp [Act.eval]) rfl NW.out ONE.out (by omega) (by unfold maxLen; omega) hn (by simp; omega) (w4.heap.size + 1) (by simp) ?_; intro g5 c5 w5 ho5 hg5 hl5 hlt5; have A5 : Hid _ := AR.out _ w5 g5 c5 ho5 ⟨hg5.os, hg5.tape, hg5.output, hg5.size, hg5.block⟩ hl5; have c25 := A5.out.1.c2; have f25 := A5.out.1.fz 2; clear ho5 hg5 hl5 zz)))
              all_goals (go_wp2; go_meet; exact A5.out.2)
            case rest =>
              obtain ⟨pv6, h6, k6, n6⟩ := hcut.out
              have CS : Hid (Calls _ _ _ _ _) := spendC h6.row h6.ok.arm
              have FS : Hid (∀ w7, St g bn bd pv6 (tot (now (addW s ⟨false, k, d⟩))) (spendS (addW s ⟨false, k, d⟩)).2 w7 → Kp (fun k => k = g) wc w7 → Rn B g bn bd pv (spendS (addW s ⟨false, k, d⟩)).2 w w7) := fun w7 m7 k7 => ⟨pv6, sr_st h6 m7 k7, k6.trans (fr_g k7), n6⟩
              clear hcut h6 k6 n6 c24 c14 f24 c24a c14a O4 AR
              go_wp2_with (first | (go_at_call 94; refine CS.out.mono ?_; rintro _ w7 ⟨rfl, m7, k7⟩; have F7 : Hid _ := FS.out w7 m7 k7; clear m7 k7) | go_in)
              go_ret
              exact ⟨by rw [HE.out]; rfl, by rw [HE.out]; exact F7.out⟩
    · rw [if_neg hd1]
      rw [decide_eq_false hd1] at CG
      go_enter Tryz.func43, Tryz.ntmps43
      go_wp2_with (first | (go_at_call 88; refine CR.out.mono ?_; rintro _ _ ⟨rfl, hw⟩; rw [hw]; clear hw) | (go_at_call 89; refine (CG.out _).mono ?_; rintro _ _ ⟨rfl, hw⟩; rw [hw]; clear hw) | go_in)
      go_ret
      exact ⟨rfl, Rn.refl H.out⟩
  · rw [if_pos hx]
    have hx' : (x != 0) = true := by rw [bne_iff_ne]; exact hx
    clear hx
    go_enter Tryz.func43, Tryz.ntmps43
    go_wp2_with (first | (go_at_call 88; refine CR.out.mono ?_; rintro _ _ ⟨rfl, hw⟩; rw [hw]; clear hw) | go_in)
    go_ret
    exact ⟨rfl, Rn.refl H.out⟩
end Go.Proofs.YtlkkibiedlakfaaGreat.yk
