import Derived.Test.YtlkkibiedlakfaaGreatYi
namespace Go.Proofs.YtlkkibiedlakfaaGreat.yj
open Go.RowKit Go.PlainAid Go.Maps Go.Shelf
open Go.Proofs.YtlkkibiedlakfaaGreat.ca Go.Proofs.YtlkkibiedlakfaaGreat.cb Go.Proofs.YtlkkibiedlakfaaGreat.cp Go.Proofs.YtlkkibiedlakfaaGreat.kp Go.Proofs.YtlkkibiedlakfaaGreat.ka Go.Proofs.YtlkkibiedlakfaaGreat.ya Go.Proofs.YtlkkibiedlakfaaGreat.yb Go.Proofs.YtlkkibiedlakfaaGreat.yc Go.Proofs.YtlkkibiedlakfaaGreat.yd Go.Proofs.YtlkkibiedlakfaaGreat.ye Go.Proofs.YtlkkibiedlakfaaGreat.yf Go.Proofs.YtlkkibiedlakfaaGreat.yg Go.Proofs.YtlkkibiedlakfaaGreat.yh Go.Proofs.YtlkkibiedlakfaaGreat.yi Go.Proofs.YtlkkibiedlakfaaGreat.sb Go.Proofs.YtlkkibiedlakfaaGreat.mc
set_option linter.unusedVariables false
set_option linter.unusedSimpArgs false
set_option maxRecDepth 20000 in
set_option maxHeartbeats 12800000 in
theorem cutC {B g bn bd : Nat} {pv : Value} {s : S} {w : World} (k : ByteArray) (h : Sr B g bn bd pv s w) (hk : k.size ≤ 140737488355328) (hl : s.dur.length + s.pend.length + 1 < 3518437208883) (hB : B ≤ w.heap.size) :
    Calls Tryz.prog 62 #[.pointer (some ⟨g, 0, none⟩), .string k] w fun e w' => e = .returned (.int .i64 (cutS s k).1) ∧ Rn B g bn bd pv (cutS s k).2 w w' := by
  have CR : Hid (Calls _ _ _ _ _) := refusalC k h.row
  have c0 := h.row.c0
  have HM : Hid (Mp bn (now s) w) := h.mn
  have H : Hid (Sr B g bn bd pv s w) := h
  have hkm : k.size ≤ maxLen := by unfold maxLen; omega
  have HP : Hid (refS s k = 0 → 1 ≤ k.size ∧ k.size ≤ 64) := by
    intro e
    unfold refS at e
    split at e
    · cases e
    · split at e
      · assumption
      · cases e
  obtain ⟨x, HX⟩ : ∃ x, Hid (refS s k = x) := ⟨_, rfl⟩
  obtain ⟨o, HO⟩ : ∃ o, Hid (rget k (now s) = o) := ⟨_, rfl⟩
  have HCS : Hid (cutS s k = if x ≠ 0 then (x, s) else if o.isSome then spendS (addW s ⟨true, k, ByteArray.empty⟩) else (123, s)) := by show _ = _; unfold cutS; rw [HX.out, HO.out]
  rw [HX.out] at CR HP
  rw [HCS.out]
  clear h HCS
  by_cases hx : x = 0
  · subst hx
    rw [if_neg (by simp)]
    cases o with
    | none =>
      rw [if_neg (by simp)]
      have HY : Hid (∀ o, Rn B g bn bd pv s w (w.alloc o)) := fun o => Rn.of (sr_later H.out ((Below.refl _ w).alloc (Nat.le_refl _) _)) (Kp.of_below ((Below.refl _ w).alloc (Nat.le_refl _) _))
      clear H
      go_enter Tryz.func62, Tryz.ntmps62
      go_wp2_with (first | (go_at_call 88; refine CR.out.mono ?_; rintro _ _ ⟨rfl, hw⟩; rw [hw]; clear hw) | (at_lookup; refine wpList_look _ rfl _ _ rfl bn (now s) rfl HM.out k rfl hkm ?_; rw [HO.out]) | go_in)
      go_ret
      exact ⟨rfl, HY.out _⟩
    | some d =>
      rw [if_pos (by simp)]

      have iw := info_parts info_w
      obtain ⟨i0, hi, hz0, hz1, hz2⟩ := iw
      have HIN : Hid (_ ∧ _ ∧ _ ∧ _) := ⟨hi, hz0, hz1, hz2⟩
      clear hi hz0 hz1 hz2

      have hkk := HP.out rfl
      have OW : Hid (OkW ⟨true, k, ByteArray.empty⟩) := ⟨hkk.1, hkk.2, Nat.zero_le _⟩
      have sn := H.out.ok.snow
      have td := tot_del k (now s) sn
      have tt := H.out.ok.tot
      obtain ⟨T, HT⟩ : ∃ T, Hid (tot (now s) = T) := ⟨_, rfl⟩
      obtain ⟨a, HA⟩ : ∃ a, Hid (at0 k (now s) = a) := ⟨_, rfl⟩
      obtain ⟨D, HD⟩ : ∃ D, Hid (tot (del k (now s)) = D) := ⟨_, rfl⟩
      rw [HT.out, HA.out, HD.out] at td
      rw [HT.out] at tt
      have hwr : IntKind.i64.wrap ((T : Int) - (a : Int)) = (D : Int) := by
        rw [show (T : Int) - (a : Int) = (D : Int) by omega]
        exact wrap_is _ (by omega)
      have CL : Hid (∀ w, Calls _ _ _ _ _) := fun w => cloneC k w hk
      have HQ : Hid (Sq B g bn bd pv T (now s) s.dur s.pend.length (wcs bd s.pend) s w) := by have := sq_of H.out; rw [HT.out] at this; exact this
      have HX2 : Hid (∀ o w1, Below (w.alloc o).heap.size (w.alloc o) w1 → Sq B g bn bd pv T (now s) s.dur s.pend.length (wcs bd s.pend) s w1 ∧ Kp (Fr g bn bd pv) w w1) := fun o w1 b1 => by
        have b2 : Below w.heap.size w w1 := over ((Below.refl _ w).alloc (Nat.le_refl _) _) b1
        exact ⟨HQ.out.later b2, Kp.of_below b2⟩
      have ON : Hid (OkR (now s) ∧ OkS s) := ⟨H.out.ok.now, H.out.ok⟩
      clear td tt H HQ sn
      go_enter Tryz.func62, Tryz.ntmps62
      go_upto_region 8 with (first | (go_at_call 88; refine CR.out.mono ?_; rintro _ _ ⟨rfl, hw⟩; rw [hw]; clear hw) | (at_lookup; refine wpList_look _ rfl _ _ rfl bn (now s) rfl HM.out k rfl hkm ?_; rw [HO.out]) | (go_at_call 92; refine (CL.out _).mono ?_; rintro _ w1 ⟨rfl, b1⟩; have F1 : Hid (Sq B g bn bd pv T (now s) s.dur s.pend.length (wcs bd s.pend) s w1 ∧ Kp (Fr g bn bd pv) w w1) := HX2.out _ _ b1; clear b1) | go_in)
      have c3 := F1.out.1.row.c3
      have c01 := F1.out.1.row.c0
      have f3 := F1.out.1.row.fz 3
      have HR : Hid (Mp bn (now s) w1.drew ∧ k.size ≤ 140737488355328 ∧ OkR (now s)) := ⟨F1.out.1.mn, hk, ON.out.1⟩
      have FK : Hid (∀ w2, Below w1.drew.heap.size w1.drew w2 → Sq B g bn bd pv T (now s) s.dur s.pend.length (wcs bd s.pend) s w2 ∧ Kp (Fr g bn bd pv) w w2) := fun w2 b2 => by
        have b2' : Below w1.heap.size w1 w2 := ⟨b2.os, b2.tape, b2.output, b2.size, b2.block⟩
        exact ⟨F1.out.1.later b2', F1.out.2.trans (Kp.of_below b2')⟩
      clear CR CL HX2 c0 HM HO F1
      go_cut [37] (fun c wx => Hid (Sq B g bn bd pv D (now s) s.dur s.pend.length (wcs bd s.pend) s wx ∧ Kp (Fr g bn bd pv) w wx))
      case first =>
        go_region_law ((first | (have zz := HR.out; refine step_counts (by rfl) 34 35 36 (by rfl) (by rfl) bn (now s) k (by simp [Act.put]) (by simp [Act.put]) HR a HA ?_; intro w2 b2; have F2 : Hid _ := FK.out w2 b2; have c32 := F2.out.1.row.c3; have c02 := F2.out.1.row.c0; have f32 := F2.out.1.row.fz 3; clear b2 zz HR)))
        all_goals (go_wp2; go_meet; exact ⟨F2.out.1.u D, F2.out.2.trans (fr_g (Kp.setCell _ _ _ _ rfl))⟩)
      case rest =>
        have F3 : Hid _ := hcut.out
        clear hcut c3 c01 f3 HR FK hwr HA
        have c03 := F3.out.1.row.c0
        have CT : Hid (Calls _ _ _ _ _) := cutM bn (now s) k ByteArray.empty wc F3.out.1.mn hkm
        go_upto_region 10 with (first | (go_at_call 106; refine CT.out.mono ?_; rintro _ w4 ⟨rfl, m4, k4⟩; have F4 : Hid (Sq B g bn bd pv (tot (del k (now s))) (del k (now s)) s.dur s.pend.length (wcs bd s.pend) s w4 ∧ Kp (Fr g bn bd pv) w w4) := ⟨by rw [HD.out]; exact F3.out.1.nm m4 k4, F3.out.2.trans (fr_n k4)⟩; clear m4 k4) | go_in)
        have c24 := F4.out.1.row.c2
        have c14 := F4.out.1.row.c1
        have f24 := F4.out.1.row.fz 2
        have c24a : (w4.alloc (.cells #[.func (.func 106) #[.map (some bd)] #[], .string k, .string ⟨#[]⟩] 105)).cell? ⟨g, 2, none⟩ = some pv := (World.cell?_alloc_lt _ _ _ F4.out.1.row.lt).trans c24
        have c14a : (w4.alloc (.cells #[.func (.func 106) #[.map (some bd)] #[], .string k, .string ⟨#[]⟩] 105)).cell? ⟨g, 1, none⟩ = some (.map (some bd)) := (World.cell?_alloc_lt _ _ _ F4.out.1.row.lt).trans c14
        have O4 : Hid (w4.ownsRow B 105 3 pv s.pend.length (wcs bd s.pend)) := F4.out.1.pr
        have hB4 : B ≤ w4.heap.size := Nat.le_trans hB F4.out.2.size
        obtain ⟨n, HN⟩ : ∃ n, Hid (s.pend.length = n) := ⟨_, rfl⟩
        have hn : (n + 1) * 40 ≤ 140737488355328 := by have := HN.out; omega
        rw [HN.out] at O4
        have AR : Hid (∀ o w' g5 c5, w'.ownsRow B 105 3 (.slice (some ⟨g5, 0, none⟩) (n + 1) c5) (n + 1) (wcs bd s.pend ++ ye.wc bd ⟨true, k, ByteArray.empty⟩) → (w4.alloc o).grownBy w' pv.ownBlock → (pv.ownBlock = some g5 ∨ g5 = w4.heap.size + 1) → St g bn bd pv (tot (del k (now s))) s w' ∧ Rn B g bn bd pv (addW s ⟨true, k, ByteArray.empty⟩) w (w'.setCell ⟨g, 2, none⟩ (.slice (some ⟨g5, 0, none⟩) (n + 1) c5))) := fun o w' g5 c5 ho hg hlies => by
          rw [← HN.out] at ho ⊢
          obtain ⟨h1, h2, h3, h4⟩ := add_row F4.out.1 rfl ON.out.2 OW.out hl ho hg hlies
          refine ⟨h1, _, h3, F4.out.2.trans (h2.trans (fr_g (Kp.setCell _ _ _ _ rfl))), fun k hk => ?_⟩
          rcases h4 k hk with e | e
          · exact .inl e
          · exact .inr (Nat.le_trans F4.out.2.size e)
        have ONE : Hid (∀ u ∈ [Value.func (.func 106) #[.map (some bd)] #[], .string k, .string ByteArray.empty], u.oneCell' = true) := by intro u hu; simp only [List.mem_cons, List.not_mem_nil, or_false] at hu; rcases hu with rfl | rfl | rfl <;> rfl
        have O4a : Hid ((w4.alloc (.cells #[.func (.func 106) #[.map (some bd)] #[], .string k, .string ByteArray.empty] 105)).drew.ownsRow B 105 3 pv n (wcs bd s.pend)) := O4.out.alloc _
        have NW : Hid (∀ (j : Nat) (y : Value), [Value.func (.func 106) #[.map (some bd)] #[], .string k, .string ByteArray.empty][j]? = some y → (w4.alloc (.cells #[.func (.func 106) #[.map (some bd)] #[], .string k, .string ByteArray.empty] 105)).drew.cell? (Addr.add ⟨w4.heap.size, 0, none⟩ j) = some y) := new_three w4 _ _ _ _
        go_cut [59] (fun c wx => Hid (Rn B g bn bd pv (addW s ⟨true, k, ByteArray.empty⟩) w wx))
        case first =>
          go_region_law ((first | (have zz := O4a.out; refine step_append_lies _ (by rfl) (.tmp 50) (.tmp 58) 78 (by rfl) B 105 i0 (.agg #[.nilFunc, .string ByteArray.empty, .string ByteArray.empty]) 3 40 Tryz.underlying78 HIN.out.1 HIN.out.2.1 HIN.out.2.2.1 HIN.out.2.2.2 rfl (by decide) pv n _ (by simp [Act.eval]) O4a.out ⟨w4.heap.size, 0, none⟩ 1 1 [.func (.func 106) #[.map (some bd)] #[], .string k, .string ByteArray.empty] (by simp [Act.eval]) rfl NW.out ONE.out (by omega) (by unfold maxLen; omega) hn (by simp; omega) (w4.heap.size + 1) (by simp) ?_; intro g5 c5 w5 ho5 hg5 hl5 hlt5; have A5 : Hid _ := AR.out _ w5 g5 c5 ho5 ⟨hg5.os, hg5.tape, hg5.output, hg5.size, hg5.block⟩ hl5; have c25 := A5.out.1.c2; have f25 := A5.out.1.fz 2; clear ho5 hg5 hl5 zz)))
          all_goals (go_wp2; go_meet; exact A5.out.2)
        case rest =>
          obtain ⟨pv6, h6, k6, n6⟩ := hcut.out
          have CS : Hid (Calls _ _ _ _ _) := spendC h6.row h6.ok.arm
          have FS : Hid (∀ w7, St g bn bd pv6 (tot (now (addW s ⟨true, k, ByteArray.empty⟩))) (spendS (addW s ⟨true, k, ByteArray.empty⟩)).2 w7 → Kp (fun k => k = g) wc w7 → Rn B g bn bd pv (spendS (addW s ⟨true, k, ByteArray.empty⟩)).2 w w7) := fun w7 m7 k7 => ⟨pv6, sr_st h6 m7 k7, k6.trans (fr_g k7), n6⟩
          clear hcut h6 k6 n6 c24 c14 f24 c24a c14a O4 AR
          go_wp2_with (first | (go_at_call 94; refine CS.out.mono ?_; rintro _ w7 ⟨rfl, m7, k7⟩; have F7 : Hid _ := FS.out w7 m7 k7; clear m7 k7) | go_in)
          go_ret
          exact ⟨rfl, F7.out⟩
  · rw [if_pos hx]
    have hx' : (x != 0) = true := by rw [bne_iff_ne]; exact hx
    clear hx
    go_enter Tryz.func62, Tryz.ntmps62
    go_wp2_with (first | (go_at_call 88; refine CR.out.mono ?_; rintro _ _ ⟨rfl, hw⟩; rw [hw]; clear hw) | go_in)
    go_ret
    exact ⟨rfl, Rn.refl H.out⟩
end Go.Proofs.YtlkkibiedlakfaaGreat.yj
