import Derived.Test.YtpcllegjnbeppaaGreatG3
import Derived.Laws.EntriesVeiled
namespace Go.Proofs.YtpcllegjnbeppaaGreat.yj
open Go.RowKit Go.PlainAid Go.Maps Go.Shelf
open Go.Proofs.YtpcllegjnbeppaaGreat.ca Go.Proofs.YtpcllegjnbeppaaGreat.cb Go.Proofs.YtpcllegjnbeppaaGreat.cp Go.Proofs.YtpcllegjnbeppaaGreat.kp Go.Proofs.YtpcllegjnbeppaaGreat.ka Go.Proofs.YtpcllegjnbeppaaGreat.ya Go.Proofs.YtpcllegjnbeppaaGreat.yb Go.Proofs.YtpcllegjnbeppaaGreat.yc Go.Proofs.YtpcllegjnbeppaaGreat.yd Go.Proofs.YtpcllegjnbeppaaGreat.ye Go.Proofs.YtpcllegjnbeppaaGreat.yf Go.Proofs.YtpcllegjnbeppaaGreat.yg Go.Proofs.YtpcllegjnbeppaaGreat.yh Go.Proofs.YtpcllegjnbeppaaGreat.yi Go.Proofs.YtpcllegjnbeppaaGreat.sb Go.Proofs.YtpcllegjnbeppaaGreat.mc
set_option linter.unusedVariables false
set_option linter.unusedSimpArgs false
set_option maxRecDepth 20000 in
set_option maxHeartbeats 12800000 in
theorem cutC {B g bn bd : Nat} {pv : Value} {s : S} {w : World} (k : ByteArray) (h : Sr B g bn bd pv s w) (hk : k.size ≤ 140737488355328) (hl : s.dur.length + s.pend.length + 1 < 3518437208883) (hB : B ≤ w.heap.size) :
    Calls Tryz.prog 64 #[.pointer (some ⟨g, 0, none⟩), .string k] w fun e w' => e = .returned (.int .i64 (cutS s k).1) ∧ Rn B g bn bd pv (cutS s k).2 w w' := by
  have CR : Hid (Calls _ _ _ _ _) := refusalC k h.row
  have c0 := h.row.c0
  have HM : Hid (Mp bn (now s) w) := h.mn
  have H : Hid (Sr B g bn bd pv s w) := h
  have hkm : k.size ≤ maxLen := by unfold maxLen; omega
  have HP : Hid (refS s k = 0 → 1 ≤ k.size ∧ k.size ≤ 64) := by
    intro e
    unfold refS at e
    split at e
    · cases e
    · split at e
      · assumption
      · cases e
  obtain ⟨x, HX⟩ : ∃ x, Hid (refS s k = x) := ⟨_, rfl⟩
  obtain ⟨o, HO⟩ : ∃ o, Hid (rget k (now s) = o) := ⟨_, rfl⟩
  have HCS : Hid (cutS s k = if x ≠ 0 then (x, s) else if o.isSome then spendS (addW s ⟨true, k, ByteArray.empty⟩) else (123, s)) := by show _ = _; unfold cutS; rw [HX.out, HO.out]
  rw [HX.out] at CR HP
  rw [HCS.out]
  clear h HCS
  by_cases hx : x = 0
  · subst hx
    rw [if_neg (by simp)]
    cases o with
    | none =>
      rw [if_neg (by simp)]
      have HY : Hid (∀ o, Rn B g bn bd pv s w (w.alloc o)) := fun o => Rn.of (sr_later H.out ((Below.refl _ w).alloc (Nat.le_refl _) _)) (Kp.of_below ((Below.refl _ w).alloc (Nat.le_refl _) _))
      clear H
      go_enter Tryz.func64, Tryz.ntmps64
      go_wp2_with (first | (go_at_call 74; refine CR.out.mono ?_; rintro _ _ ⟨rfl, hw⟩; rw [hw]; clear hw) | (at_lookup; refine wpList_look _ rfl _ _ rfl bn (now s) rfl HM.out k rfl hkm ?_; rw [HO.out]) | go_in)
      go_ret
      exact ⟨rfl, HY.out _⟩
    | some d =>
      rw [if_pos (by simp)]

      have iw := info_parts info_w
      obtain ⟨i0, hi, hz0, hz1, hz2⟩ := iw
      have HIN : Hid (_ ∧ _ ∧ _ ∧ _) := ⟨hi, hz0, hz1, hz2⟩
      clear hi hz0 hz1 hz2

      have hkk := HP.out rfl
      have OW : Hid (OkW ⟨true, k, ByteArray.empty⟩) := ⟨hkk.1, hkk.2, Nat.zero_le _⟩
      have sn := H.out.ok.snow
      have td := tot_del k (now s) sn
      have tt := H.out.ok.tot
      obtain ⟨T, HT⟩ : ∃ T, Hid (tot (now s) = T) := ⟨_, rfl⟩
      obtain ⟨a, HA⟩ : ∃ a, Hid (at0 k (now s) = a) := ⟨_, rfl⟩
      obtain ⟨D, HD⟩ : ∃ D, Hid (tot (del k (now s)) = D) := ⟨_, rfl⟩
      rw [HT.out, HA.out, HD.out] at td
      rw [HT.out] at tt
      have hwr : IntKind.i64.wrap ((T : Int) - (a : Int)) = (D : Int) := by
        rw [show (T : Int) - (a : Int) = (D : Int) by omega]
        exact wrap_is _ (by omega)
      have CL : Hid (∀ w, Calls _ _ _ _ _) := fun w => cloneC k w hk
      have HQ : Hid (Sq B g bn bd pv T (now s) s.dur s.pend.length (wcs bd s.pend) s w) := by have := sq_of H.out; rw [HT.out] at this; exact this
      have HX2 : Hid (∀ o w1, Below (w.alloc o).heap.size (w.alloc o) w1 → Sq B g bn bd pv T (now s) s.dur s.pend.length (wcs bd s.pend) s w1 ∧ Kp (Fr g bn bd pv) w w1) := fun o w1 b1 => by
        have b2 : Below w.heap.size w w1 := over ((Below.refl _ w).alloc (Nat.le_refl _) _) b1
        exact ⟨HQ.out.later b2, Kp.of_below b2⟩
      have ON : Hid (OkR (now s) ∧ OkS s) := ⟨H.out.ok.now, H.out.ok⟩
      clear td tt H HQ sn
      go_enter Tryz.func64, Tryz.ntmps64
      go_upto_region 8 with (first | (go_at_call 74; refine CR.out.mono ?_; rintro _ _ ⟨rfl, hw⟩; rw [hw]; clear hw) | (at_lookup; refine wpList_look _ rfl _ _ rfl bn (now s) rfl HM.out k rfl hkm ?_; rw [HO.out]) | (go_at_call 78; refine (CL.out _).mono ?_; rintro _ w1 ⟨rfl, b1⟩; have F1 : Hid (Sq B g bn bd pv T (now s) s.dur s.pend.length (wcs bd s.pend) s w1 ∧ Kp (Fr g bn bd pv) w w1) := HX2.out _ _ b1; clear b1) | go_in)
      have c3 := F1.out.1.row.c3
      have c01 := F1.out.1.row.c0
      have f3 := F1.out.1.row.fz 3
      have HR : Hid (Mp bn (now s) w1.drew ∧ k.size ≤ 140737488355328 ∧ OkR (now s)) := ⟨F1.out.1.mn, hk, ON.out.1⟩
      have FK : Hid (∀ w2, Below w1.drew.heap.size w1.drew w2 → Sq B g bn bd pv T (now s) s.dur s.pend.length (wcs bd s.pend) s w2 ∧ Kp (Fr g bn bd pv) w w2) := fun w2 b2 => by
        have b2' : Below w1.heap.size w1 w2 := ⟨b2.os, b2.tape, b2.output, b2.size, b2.block⟩
        exact ⟨F1.out.1.later b2', F1.out.2.trans (Kp.of_below b2')⟩
      clear CR CL HX2 c0 HM HO F1
      go_cut [37] (fun c wx => Hid (Sq B g bn bd pv D (now s) s.dur s.pend.length (wcs bd s.pend) s wx ∧ Kp (Fr g bn bd pv) w wx))
      case first =>
        go_region_law ((first | (have zz := HR.out; refine step_counts (by rfl) 34 35 36 (by rfl) (by rfl) bn (now s) k (by simp [Act.put]) (by simp [Act.put]) HR a HA ?_; intro w2 b2; have F2 : Hid _ := FK.out w2 b2; have c32 := F2.out.1.row.c3; have c02 := F2.out.1.row.c0; have f32 := F2.out.1.row.fz 3; clear b2 zz HR)))
        all_goals (go_wp2; go_meet; exact ⟨F2.out.1.u D, F2.out.2.trans (fr_g (Kp.setCell _ _ _ _ rfl))⟩)
      case rest =>
        have F3 : Hid _ := hcut.out
        clear hcut c3 c01 f3 HR FK hwr HA
        have c03 := F3.out.1.row.c0
        have CT : Hid (Calls _ _ _ _ _) := cutM bn (now s) k ByteArray.empty wc F3.out.1.mn hkm
        go_upto_region 10 with (first | (go_at_call 109; refine CT.out.mono ?_; rintro _ w4 ⟨rfl, m4, k4⟩; have F4 : Hid (Sq B g bn bd pv (tot (del k (now s))) (del k (now s)) s.dur s.pend.length (wcs bd s.pend) s w4 ∧ Kp (Fr g bn bd pv) w w4) := ⟨by rw [HD.out]; exact F3.out.1.nm m4 k4, F3.out.2.trans (fr_n k4)⟩; clear m4 k4) | go_in)
        have c24 := F4.out.1.row.c2
        have c14 := F4.out.1.row.c1
        have f24 := F4.out.1.row.fz 2
        have c24a : (w4.alloc (.cells #[.func (.func 109) #[.map (some bd)] #[], .string k, .string ⟨#[]⟩] 100)).cell? ⟨g, 2, none⟩ = some pv := (World.cell?_alloc_lt _ _ _ F4.out.1.row.lt).trans c24
        have c14a : (w4.alloc (.cells #[.func (.func 109) #[.map (some bd)] #[], .string k, .string ⟨#[]⟩] 100)).cell? ⟨g, 1, none⟩ = some (.map (some bd)) := (World.cell?_alloc_lt _ _ _ F4.out.1.row.lt).trans c14
        have O4 : Hid (w4.ownsRow B 100 3 pv s.pend.length (wcs bd s.pend)) := F4.out.1.pr
        have hB4 : B ≤ w4.heap.size := Nat.le_trans hB F4.out.2.size
        obtain ⟨n, HN⟩ : ∃ n, Hid (s.pend.length = n) := ⟨_, rfl⟩
        have hn : (n + 1) * 40 ≤ 140737488355328 := by have := HN.out; omega
        rw [HN.out] at O4
        have AR : Hid (∀ o w' g5 c5, w'.ownsRow B 100 3 (.slice (some ⟨g5, 0, none⟩) (n + 1) c5) (n + 1) (wcs bd s.pend ++ ye.wc bd ⟨true, k, ByteArray.empty⟩) → (w4.alloc o).grownBy w' pv.ownBlock → (pv.ownBlock = some g5 ∨ g5 = w4.heap.size + 1) → St g bn bd pv (tot (del k (now s))) s w' ∧ Rn B g bn bd pv (addW s ⟨true, k, ByteArray.empty⟩) w (w'.setCell ⟨g, 2, none⟩ (.slice (some ⟨g5, 0, none⟩) (n + 1) c5))) := fun o w' g5 c5 ho hg hlies => by
          rw [← HN.out] at ho ⊢
          obtain ⟨h1, h2, h3, h4⟩ := add_row F4.out.1 rfl ON.out.2 OW.out hl ho hg hlies
          refine ⟨h1, _, h3, F4.out.2.trans (h2.trans (fr_g (Kp.setCell _ _ _ _ rfl))), fun k hk => ?_⟩
          rcases h4 k hk with e | e
          · exact .inl e
          · exact .inr (Nat.le_trans F4.out.2.size e)
        have ONE : Hid (∀ u ∈ [Value.func (.func 109) #[.map (some bd)] #[], .string k, .string ByteArray.empty], u.oneCell' = true) := by intro u hu; simp only [List.mem_cons, List.not_mem_nil, or_false] at hu; rcases hu with rfl | rfl | rfl <;> rfl
        have O4a : Hid ((w4.alloc (.cells #[.func (.func 109) #[.map (some bd)] #[], .string k, .string ByteArray.empty] 100)).drew.ownsRow B 100 3 pv n (wcs bd s.pend)) := O4.out.alloc _
        have NW : Hid (∀ (j : Nat) (y : Value), [Value.func (.func 109) #[.map (some bd)] #[], .string k, .string ByteArray.empty][j]? = some y → (w4.alloc (.cells #[.func (.func 109) #[.map (some bd)] #[], .string k, .string ByteArray.empty] 100)).drew.cell? (Addr.add ⟨w4.heap.size, 0, none⟩ j) = some y) := new_three w4 _ _ _ _
        go_cut [59] (fun c wx => Hid (Rn B g bn bd pv (addW s ⟨true, k, ByteArray.empty⟩) w wx))
        case first =>
          go_region_law ((first | (have zz := O4a.out; refine step_append_lies _ (by rfl) (.tmp 50) (.tmp 58) 78 (by rfl) B 100 i0 (.agg #[.nilFunc, .string ByteArray.empty, .string ByteArray.empty]) 3 40 Tryz.underlying78 HIN.out.1 HIN.out.2.1 HIN.out.2.2.1 HIN.out.2.2.2 rfl (by decide) pv n _ (by simp [Act.eval]) O4a.out ⟨w4.heap.size, 0, none⟩ 1 1 [.func (.func 109) #[.map (some bd)] #[], .string k, .string ByteArray.empty] (by simp [Act.eval]) rfl NW.out ONE.out (by omega) (by unfold maxLen; omega) hn (by simp; omega) (w4.heap.size + 1) (by simp) ?_; intro g5 c5 w5 ho5 hg5 hl5 hlt5; have A5 : Hid _ := AR.out _ w5 g5 c5 ho5 ⟨hg5.os, hg5.tape, hg5.output, hg5.size, hg5.block⟩ hl5; have c25 := A5.out.1.c2; have f25 := A5.out.1.fz 2; clear ho5 hg5 hl5 zz)))
          all_goals (go_wp2; go_meet; exact A5.out.2)
        case rest =>
          obtain ⟨pv6, h6, k6, n6⟩ := hcut.out
          have CS : Hid (Calls _ _ _ _ _) := spendC h6.row h6.ok.arm
          have FS : Hid (∀ w7, St g bn bd pv6 (tot (now (addW s ⟨true, k, ByteArray.empty⟩))) (spendS (addW s ⟨true, k, ByteArray.empty⟩)).2 w7 → Kp (fun k => k = g) wc w7 → Rn B g bn bd pv (spendS (addW s ⟨true, k, ByteArray.empty⟩)).2 w w7) := fun w7 m7 k7 => ⟨pv6, sr_st h6 m7 k7, k6.trans (fr_g k7), n6⟩
          clear hcut h6 k6 n6 c24 c14 f24 c24a c14a O4 AR
          go_wp2_with (first | (go_at_call 49; refine CS.out.mono ?_; rintro _ w7 ⟨rfl, m7, k7⟩; have F7 : Hid _ := FS.out w7 m7 k7; clear m7 k7) | go_in)
          go_ret
          exact ⟨rfl, F7.out⟩
  · rw [if_pos hx]
    have hx' : (x != 0) = true := by rw [bne_iff_ne]; exact hx
    clear hx
    go_enter Tryz.func64, Tryz.ntmps64
    go_wp2_with (first | (go_at_call 74; refine CR.out.mono ?_; rintro _ _ ⟨rfl, hw⟩; rw [hw]; clear hw) | go_in)
    go_ret
    exact ⟨rfl, Rn.refl H.out⟩
end Go.Proofs.YtpcllegjnbeppaaGreat.yj

namespace Go.Proofs.YtpcllegjnbeppaaGreat.yk
open Go.RowKit Go.PlainAid Go.Maps Go.Shelf
open Go.Proofs.YtpcllegjnbeppaaGreat.ca Go.Proofs.YtpcllegjnbeppaaGreat.cb Go.Proofs.YtpcllegjnbeppaaGreat.cp Go.Proofs.YtpcllegjnbeppaaGreat.kp Go.Proofs.YtpcllegjnbeppaaGreat.ka Go.Proofs.YtpcllegjnbeppaaGreat.ya Go.Proofs.YtpcllegjnbeppaaGreat.yb Go.Proofs.YtpcllegjnbeppaaGreat.yc Go.Proofs.YtpcllegjnbeppaaGreat.yd Go.Proofs.YtpcllegjnbeppaaGreat.ye Go.Proofs.YtpcllegjnbeppaaGreat.yf Go.Proofs.YtpcllegjnbeppaaGreat.yg Go.Proofs.YtpcllegjnbeppaaGreat.yh Go.Proofs.YtpcllegjnbeppaaGreat.yi Go.Proofs.YtpcllegjnbeppaaGreat.sb Go.Proofs.YtpcllegjnbeppaaGreat.mc
set_option linter.unusedVariables false
set_option linter.unusedSimpArgs false
def putS (s : S) (k d : ByteArray) : Int × S := if refS s k ≠ 0 then (refS s k, s) else if d.size ≤ 1048576 then (if s.cap < (tot (put k d (now s)) : Nat) ∧ tot (now s) < tot (put k d (now s)) then (122, s) else spendS (addW s ⟨false, k, d⟩)) else (121, s)
theorem step_count {ops : Array Oper} {o : Oper} {a : Act} {w : World} {K : Act → World → Prop} {Q : Exit → Act → World → Prop} {E : Prop} (hg : o.guard = none) (k l d : Nat)
    (hop : o.op = .call { callee := .value (.func 77), args := #[.tmp k, .tmp l], argTypes := #[9, 9] }) (hd : o.dst = some d) (x y : ByteArray)
    (hy : a.tmps[k]?.getD undef = .string x) (hy2 : a.tmps[l]?.getD undef = .string y) (hx : x.size ≤ 140737488355328) (hy3 : y.size ≤ 140737488355328) (n : Nat) (HN : Hid (cnt (x, y) = n))
    (hK : K { tmps := a.tmps.setIfInBounds d (.int .i64 n), defers := a.defers } w) :
    if Region.wanted o (yielded ops a.tmps) = true then Oper.wp Tryz.prog o a w K Q else E := by
  have hw : Region.wanted o (yielded ops a.tmps) = true := by simp [Region.wanted, hg]
  rw [if_pos hw]
  have C := countC x y w hx hy3
  rw [HN.out] at C
  have HKK : Hid _ := hK
  clear hK HN
  unfold Oper.wp execOp
  simp only [hop]
  go_simp
  refine C.mono ?_
  rintro e w' ⟨rfl, rfl⟩
  exact HKK.out
set_option maxRecDepth 20000 in
set_option maxHeartbeats 12800000 in
theorem putC {B g bn bd : Nat} {pv : Value} {s : S} {w : World} (k d : ByteArray) (h : Sr B g bn bd pv s w) (hk : k.size ≤ 140737488355328) (hd : d.size ≤ 140737488355328) (hl : s.dur.length + s.pend.length + 1 < 3518437208883) (hB : B ≤ w.heap.size) :
    Calls Tryz.prog 37 #[.pointer (some ⟨g, 0, none⟩), .string k, .string d] w fun e w' => e = .returned (.int .i64 (putS s k d).1) ∧ Rn B g bn bd pv (putS s k d).2 w w' := by
  have CR : Hid (Calls _ _ _ _ _) := refusalC k h.row
  have CG : Hid (∀ w, Calls _ _ _ _ _) := fun w => dataGoC d w
  have H : Hid (Sr B g bn bd pv s w) := h
  have hkm : k.size ≤ maxLen := by unfold maxLen; omega
  have hdm : d.size ≤ maxLen := by unfold maxLen; omega
  have HP : Hid (refS s k = 0 → 1 ≤ k.size ∧ k.size ≤ 64) := by
    intro e
    unfold refS at e
    split at e
    · cases e
    · split at e
      · assumption
      · cases e
  obtain ⟨x, HX⟩ : ∃ x, Hid (refS s k = x) := ⟨_, rfl⟩
  have HCS : Hid (putS s k d = if x ≠ 0 then (x, s) else if d.size ≤ 1048576 then (if s.cap < (tot (put k d (now s)) : Nat) ∧ tot (now s) < tot (put k d (now s)) then (122, s) else spendS (addW s ⟨false, k, d⟩)) else (121, s)) := by show _ = _; unfold putS; rw [HX.out]
  rw [HX.out] at CR HP
  rw [HCS.out]
  clear h HCS
  by_cases hx : x = 0
  · subst hx
    rw [if_neg (by simp)]
    by_cases hd1 : d.size ≤ 1048576
    · rw [if_pos hd1]
      rw [decide_eq_true hd1] at CG
      have iw := info_parts info_w
      obtain ⟨i0, hi, hz0, hz1, hz2⟩ := iw
      have HIN : Hid (_ ∧ _ ∧ _ ∧ _) := ⟨hi, hz0, hz1, hz2⟩
      clear hi hz0 hz1 hz2
      have hkk := HP.out rfl
      have OW : Hid (OkW ⟨false, k, d⟩) := ⟨hkk.1, hkk.2, hd1⟩
      have sn := H.out.ok.snow
      have td := tot_del k (now s) sn
      have tp : tot (put k d (now s)) = tot (del k (now s)) + cnt (k, d) := by have := tot_put k d (now s) sn; omega
      have tt := H.out.ok.tot
      have hcnt : cnt (k, d) = k.size + d.size + 16 := rfl
      have hc0 := H.out.ok.cap0
      have hc1 := H.out.ok.cap1
      obtain ⟨T, HT⟩ : ∃ T, Hid (tot (now s) = T) := ⟨_, rfl⟩
      obtain ⟨a, HA⟩ : ∃ a, Hid (at0 k (now s) = a) := ⟨_, rfl⟩
      obtain ⟨D, HD⟩ : ∃ D, Hid (tot (del k (now s)) = D) := ⟨_, rfl⟩
      obtain ⟨q, HQ⟩ : ∃ q, Hid (cnt (k, d) = q) := ⟨_, rfl⟩
      obtain ⟨P, HPP⟩ : ∃ P, Hid (tot (put k d (now s)) = P) := ⟨_, rfl⟩
      rw [HT.out, HA.out, HD.out] at td
      rw [HPP.out, HD.out, HQ.out] at tp
      rw [HT.out] at tt
      rw [HQ.out] at hcnt
      have hwr : IntKind.i64.wrap ((T : Int) - (a : Int)) = (D : Int) := by
        rw [show (T : Int) - (a : Int) = (D : Int) by omega]
        exact wrap_is _ (by omega)
      have hwr2 : IntKind.i64.wrap ((D : Int) + (q : Int)) = (P : Int) := by
        rw [show (D : Int) + (q : Int) = (P : Int) by omega]
        exact wrap_is _ (by omega)
      have HIF : Hid ((if s.cap < (tot (put k d (now s)) : Nat) ∧ tot (now s) < tot (put k d (now s)) then ((122 : Int), s) else spendS (addW s ⟨false, k, d⟩)) = if s.cap < (P : Int) ∧ T < P then (122, s) else spendS (addW s ⟨false, k, d⟩)) := by show _ = _; rw [HPP.out, HT.out]
      obtain ⟨R, HRR⟩ : ∃ R, Hid ((if s.cap < (P : Int) ∧ T < P then ((122 : Int), s) else spendS (addW s ⟨false, k, d⟩)) = R) := ⟨_, rfl⟩
      rw [HIF.out, HRR.out]
      have H0 : Hid (Sq B g bn bd pv T (now s) s.dur s.pend.length (wcs bd s.pend) s w) := by have := sq_of H.out; rw [HT.out] at this; exact this
      have ON : Hid (OkR (now s) ∧ OkS s) := ⟨H.out.ok.now, H.out.ok⟩
      have hln : (now s).length < maxLen := by have := H.out.ok.lnow; unfold maxLen; omega
      have c3 := H0.out.row.c3
      have c01 := H0.out.row.c0
      have HR : Hid (Mp bn (now s) w.drew ∧ k.size ≤ 140737488355328 ∧ OkR (now s)) := ⟨H0.out.mn, hk, ON.out.1⟩
      have FK : Hid (∀ w2, Below w.drew.heap.size w.drew w2 → Sq B g bn bd pv T (now s) s.dur s.pend.length (wcs bd s.pend) s w2 ∧ Kp (Fr g bn bd pv) w w2) := fun w2 b2 => by
        have b2' : Below w.heap.size w w2 := ⟨b2.os, b2.tape, b2.output, b2.size, b2.block⟩
        exact ⟨H0.out.later b2', Kp.of_below b2'⟩
      clear td tt tp hcnt H H0 sn HIF hkk
      go_enter Tryz.func37, Tryz.ntmps37
      go_upto_region 6 with (first | (go_at_call 74; refine CR.out.mono ?_; rintro _ _ ⟨rfl, hw⟩; rw [hw]; clear hw) | (go_at_call 75; refine (CG.out _).mono ?_; rintro _ _ ⟨rfl, hw⟩; rw [hw]; clear hw) | go_in)
      go_cut [8] (fun c wx => c = .int .i64 P ∧ Hid (Sq B g bn bd pv T (now s) s.dur s.pend.length (wcs bd s.pend) s wx ∧ Kp (Fr g bn bd pv) w wx))
      case first =>
        go_region_law ((first | (have zz := HR.out; refine step_counts (by rfl) 25 26 27 (by rfl) (by rfl) bn (now s) k (by simp [Act.put]) (by simp [Act.put]) HR a HA ?_; intro w2 b2; have F2 : Hid _ := FK.out w2 b2; have c32 := F2.out.1.row.c3; have c02 := F2.out.1.row.c0; clear b2 zz HR) | (refine step_count (by rfl) 29 30 31 (by rfl) (by rfl) k d (by simp [Act.put]) (by simp [Act.put]) hk hd q HQ ?_)))
        all_goals (go_wp2; go_meet; exact ⟨rfl, F2.out⟩)
      case rest =>
        obtain ⟨rfl, h3⟩ := hcut
        have F3 : Hid _ := h3.out
        clear h3 c3 c01 HR FK hwr hwr2 HA CR CG
        have c33 := F3.out.1.row.c3
        have c43 := F3.out.1.row.c4
        have CK : Hid (∀ w, Calls _ _ _ _ _) := fun w => cloneC k w hk
        have CD : Hid (∀ w, Calls _ _ _ _ _) := fun w => cloneC d w hd
        go_upto_region 7 with fail
        obtain ⟨w3, HW3⟩ : ∃ w3, w3 = wc := ⟨_, rfl⟩
        rw [← HW3] at F3 c33 c43 ⊢
        clear HW3
        go_cut [46] (fun c wx => c = .bool (decide (s.cap < (P : Int) ∧ T < P)) ∧ wx = w3)
        case first =>
          by_cases hf1 : s.cap < (P : Int)
          · have hg1 : decide (s.cap < (P : Int)) = true := by simp; exact hf1
            by_cases hf2 : T < P
            · have hf3 : (T : Int) < P := by omega
              have hg2 : decide ((T : Int) < P) = true := by simp; omega
              go_wp2_with fail
              go_meet
              exact ⟨by simp [hf1, hf2], rfl⟩
            · have hf3 : ¬ (T : Int) < P := by omega
              have hg2 : decide ((T : Int) < P) = false := by simp; omega
              go_wp2_with fail
              go_meet
              exact ⟨by simp [hf1, hf2], rfl⟩
          · have hg1 : decide (s.cap < (P : Int)) = false := by simp; omega
            go_wp2_with fail
            go_meet
            exact ⟨congrArg Value.bool (decide_eq_false (fun h => by have := h.1; omega)).symm, rfl⟩
        case rest =>
          obtain ⟨rfl, hw3⟩ := hcut
          rw [hw3]
          clear hw3
          by_cases hfull : s.cap < (P : Int) ∧ T < P
          · have HRn : Hid (Rn B g bn bd pv s w w3) := by
              refine Rn.of (sr_of ?_ ON.out.2) F3.out.2
              rw [HT.out]; exact F3.out.1
            have HE : Hid (R = ((122 : Int), s)) := by show _ = _; rw [← HRR.out, if_pos hfull]
            rw [decide_eq_true hfull]
            clear hfull
            go_wp2_with fail
            go_ret
            exact ⟨by rw [HE.out]; rfl, by rw [HE.out]; exact HRn.out⟩
          · have HE : Hid (R = spendS (addW s ⟨false, k, d⟩)) := by show _ = _; rw [← HRR.out, if_neg hfull]
            rw [decide_eq_false hfull]
            clear hfull
            have FC : Hid (∀ w1, Below w3.heap.size w3 w1 → Sq B g bn bd pv T (now s) s.dur s.pend.length (wcs bd s.pend) s w1 ∧ Kp (Fr g bn bd pv) w w1) := fun w1 b1 => ⟨F3.out.1.later b1, F3.out.2.trans (Kp.of_below b1)⟩
            clear c33 c43
            go_upto_region 10 with (first | (go_at_call 78; refine (CK.out _).mono ?_; rintro _ w5 ⟨rfl, b5⟩; have B5 : Hid (Below w3.heap.size w3 w5) := b5; clear b5 CK) | (go_at_call 78; refine (CD.out _).mono ?_; rintro _ w6 ⟨rfl, b6⟩; have F6 : Hid (Sq B g bn bd pv T (now s) s.dur s.pend.length (wcs bd s.pend) s w6 ∧ Kp (Fr g bn bd pv) w w6) := FC.out _ (over B5.out b6); clear b6 CD) | go_in)
            have c06 := F6.out.1.row.c0
            have CT : Hid (Calls _ _ _ _ _) := putM bn (now s) k d w6 F6.out.1.mn hkm hdm hln
            go_upto_region 11 with (first | (go_at_call 79; refine CT.out.mono ?_; rintro _ w7 ⟨rfl, m7, k7⟩; have F7 : Hid (Sq B g bn bd pv T (put k d (now s)) s.dur s.pend.length (wcs bd s.pend) s w7 ∧ Kp (Fr g bn bd pv) w w7) := ⟨F6.out.1.nm m7 k7, F6.out.2.trans (fr_n k7)⟩; clear m7 k7) | go_in)
            have c37 := F7.out.1.row.c3
            have f37 := F7.out.1.row.fz 3
            have F4' : Hid (Sq B g bn bd pv (tot (put k d (now s))) (put k d (now s)) s.dur s.pend.length (wcs bd s.pend) s (w7.setCell ⟨g, 3, none⟩ (.int .i64 P)) ∧ Kp (Fr g bn bd pv) w (w7.setCell ⟨g, 3, none⟩ (.int .i64 P))) := ⟨by rw [HPP.out]; exact F7.out.1.u P, F7.out.2.trans (fr_g (Kp.setCell _ _ _ _ rfl))⟩
            go_upto_region 12 with fail
            obtain ⟨w4, HW4⟩ : ∃ w4, w4 = w7.setCell ⟨g, 3, none⟩ (.int .i64 P) := ⟨_, rfl⟩
            rw [← HW4] at F4' ⊢
            have F4 : Hid _ := F4'.out
            clear HW4 F4' F7 F6 CT c06 c37 f37 FC F3
            have c24 := F4.out.1.row.c2
            have c14 := F4.out.1.row.c1
            have f24 := F4.out.1.row.fz 2
            have c24a : (w4.alloc (.cells #[.func (.func 79) #[.map (some bd)] #[], .string k, .string d] 100)).cell? ⟨g, 2, none⟩ = some pv := (World.cell?_alloc_lt _ _ _ F4.out.1.row.lt).trans c24
            have c14a : (w4.alloc (.cells #[.func (.func 79) #[.map (some bd)] #[], .string k, .string d] 100)).cell? ⟨g, 1, none⟩ = some (.map (some bd)) := (World.cell?_alloc_lt _ _ _ F4.out.1.row.lt).trans c14
            have O4 : Hid (w4.ownsRow B 100 3 pv s.pend.length (wcs bd s.pend)) := F4.out.1.pr
            have hB4 : B ≤ w4.heap.size := Nat.le_trans hB F4.out.2.size
            obtain ⟨n, HN⟩ : ∃ n, Hid (s.pend.length = n) := ⟨_, rfl⟩
            have hn : (n + 1) * 40 ≤ 140737488355328 := by have := HN.out; omega
            rw [HN.out] at O4
            have AR : Hid (∀ o w' g5 c5, w'.ownsRow B 100 3 (.slice (some ⟨g5, 0, none⟩) (n + 1) c5) (n + 1) (wcs bd s.pend ++ ye.wc bd ⟨false, k, d⟩) → (w4.alloc o).grownBy w' pv.ownBlock → (pv.ownBlock = some g5 ∨ g5 = w4.heap.size + 1) → St g bn bd pv (tot (put k d (now s))) s w' ∧ Rn B g bn bd pv (addW s ⟨false, k, d⟩) w (w'.setCell ⟨g, 2, none⟩ (.slice (some ⟨g5, 0, none⟩) (n + 1) c5))) := fun o w' g5 c5 ho hg hlies => by
              rw [← HN.out] at ho ⊢
              obtain ⟨h1, h2, h3, h4⟩ := add_row F4.out.1 rfl ON.out.2 OW.out hl ho hg hlies
              refine ⟨h1, _, h3, F4.out.2.trans (h2.trans (fr_g (Kp.setCell _ _ _ _ rfl))), fun k hk => ?_⟩
              rcases h4 k hk with e | e
              · exact .inl e
              · exact .inr (Nat.le_trans F4.out.2.size e)
            have ONE : Hid (∀ u ∈ [Value.func (.func 79) #[.map (some bd)] #[], .string k, .string d], u.oneCell' = true) := by intro u hu; simp only [List.mem_cons, List.not_mem_nil, or_false] at hu; rcases hu with rfl | rfl | rfl <;> rfl
            have O4a : Hid ((w4.alloc (.cells #[.func (.func 79) #[.map (some bd)] #[], .string k, .string d] 100)).drew.ownsRow B 100 3 pv n (wcs bd s.pend)) := O4.out.alloc _
            have NW : Hid (∀ (j : Nat) (y : Value), [Value.func (.func 79) #[.map (some bd)] #[], .string k, .string d][j]? = some y → (w4.alloc (.cells #[.func (.func 79) #[.map (some bd)] #[], .string k, .string d] 100)).drew.cell? (Addr.add ⟨w4.heap.size, 0, none⟩ j) = some y) := new_three w4 _ _ _ _
            go_cut [76] (fun c wx => Hid (Rn B g bn bd pv (addW s ⟨false, k, d⟩) w wx))
            case first =>
              go_region_law ((first | (have zz := O4a.out; refine step_append_lies _ (by rfl) (.tmp 66) (.tmp 75) 78 (by rfl) B 100 i0 (.agg #[.nilFunc, .string ByteArray.empty, .string ByteArray.empty]) 3 40 Tryz.underlying78 HIN.out.1 HIN.out.2.1 HIN.out.2.2.1 HIN.out.2.2.2 rfl (by decide) pv n _ (by simp [Act.eval]) O4a.out ⟨w4.heap.size, 0, none⟩ 1 1 [.func (.func 79) #[.map (some bd)] #[], .string k, .string d] (by simp [Act.eval]) rfl NW.out ONE.out (by omega) (by unfold maxLen; omega) hn (by simp; omega) (w4.heap.size + 1) (by simp) ?_; intro g5 c5 w5 ho5 hg5 hl5 hlt5; have A5 : Hid _ := AR.out _ w5 g5 c5 ho5 ⟨hg5.os, hg5.tape, hg5.output, hg5.size, hg5.block⟩ hl5; have c25 := A5.out.1.c2; have f25 := A5.out.1.fz 2; clear ho5 hg5 hl5 zz)))
              all_goals (go_wp2; go_meet; exact A5.out.2)
            case rest =>
              obtain ⟨pv6, h6, k6, n6⟩ := hcut.out
              have CS : Hid (Calls _ _ _ _ _) := spendC h6.row h6.ok.arm
              have FS : Hid (∀ w7, St g bn bd pv6 (tot (now (addW s ⟨false, k, d⟩))) (spendS (addW s ⟨false, k, d⟩)).2 w7 → Kp (fun k => k = g) wc w7 → Rn B g bn bd pv (spendS (addW s ⟨false, k, d⟩)).2 w w7) := fun w7 m7 k7 => ⟨pv6, sr_st h6 m7 k7, k6.trans (fr_g k7), n6⟩
              clear hcut h6 k6 n6 c24 c14 f24 c24a c14a O4 AR
              go_wp2_with (first | (go_at_call 49; refine CS.out.mono ?_; rintro _ w7 ⟨rfl, m7, k7⟩; have F7 : Hid _ := FS.out w7 m7 k7; clear m7 k7) | go_in)
              go_ret
              exact ⟨by rw [HE.out]; rfl, by rw [HE.out]; exact F7.out⟩
    · rw [if_neg hd1]
      rw [decide_eq_false hd1] at CG
      go_enter Tryz.func37, Tryz.ntmps37
      go_wp2_with (first | (go_at_call 74; refine CR.out.mono ?_; rintro _ _ ⟨rfl, hw⟩; rw [hw]; clear hw) | (go_at_call 75; refine (CG.out _).mono ?_; rintro _ _ ⟨rfl, hw⟩; rw [hw]; clear hw) | go_in)
      go_ret
      exact ⟨rfl, Rn.refl H.out⟩
  · rw [if_pos hx]
    have hx' : (x != 0) = true := by rw [bne_iff_ne]; exact hx
    clear hx
    go_enter Tryz.func37, Tryz.ntmps37
    go_wp2_with (first | (go_at_call 74; refine CR.out.mono ?_; rintro _ _ ⟨rfl, hw⟩; rw [hw]; clear hw) | go_in)
    go_ret
    exact ⟨rfl, Rn.refl H.out⟩
end Go.Proofs.YtpcllegjnbeppaaGreat.yk

namespace Go.Proofs.YtpcllegjnbeppaaGreat.yl
open Go.RowKit Go.PlainAid Go.Maps Go.Shelf
open Go.Proofs.YtpcllegjnbeppaaGreat.ca Go.Proofs.YtpcllegjnbeppaaGreat.cb Go.Proofs.YtpcllegjnbeppaaGreat.cp Go.Proofs.YtpcllegjnbeppaaGreat.kp Go.Proofs.YtpcllegjnbeppaaGreat.ka Go.Proofs.YtpcllegjnbeppaaGreat.ya Go.Proofs.YtpcllegjnbeppaaGreat.yb Go.Proofs.YtpcllegjnbeppaaGreat.yc Go.Proofs.YtpcllegjnbeppaaGreat.yd Go.Proofs.YtpcllegjnbeppaaGreat.ye Go.Proofs.YtpcllegjnbeppaaGreat.yf Go.Proofs.YtpcllegjnbeppaaGreat.yg Go.Proofs.YtpcllegjnbeppaaGreat.yh Go.Proofs.YtpcllegjnbeppaaGreat.yi Go.Proofs.YtpcllegjnbeppaaGreat.sb Go.Proofs.YtpcllegjnbeppaaGreat.mc
set_option linter.unusedVariables false
set_option linter.unusedSimpArgs false
theorem wcs_len (bd : Nat) (l : List W) : (wcs bd l).length = 3 * l.length := by
  induction l with
  | nil => rfl
  | cons x l ih => simp only [wcs, List.flatMap_cons, List.length_append, List.length_cons] at ih ⊢; rw [ih]; simp [wc]; omega
theorem wcs_get (bd : Nat) (l : List W) (i j : Nat) (x : W) (hi : l[i]? = some x) (hj : j < 3) : (wcs bd l)[3 * i + j]? = (wc bd x)[j]? := by
  induction l generalizing i with
  | nil => simp at hi
  | cons y l ih =>
    cases i with
    | zero =>
      simp at hi
      subst hi
      simp only [wcs, List.flatMap_cons]
      rw [List.getElem?_append_left (by simp [wc]; omega)]
      simp
    | succ i =>
      have h1 := ih i (by simpa using hi)
      simp only [wcs, List.flatMap_cons] at h1 ⊢
      rw [List.getElem?_append_right (by simp [wc]; omega), ← h1]
      congr 1
      simp [wc]; omega
-- the pending row's cells
theorem row_at {B n : Nat} {v : Value} {xs : List Value} {w : World} (o : w.ownsRow B 100 3 v n xs) (hn : 0 < n) : ∃ g c, v = .slice (some ⟨g, 0, none⟩) n c ∧ ∀ j, j < n * 3 → w.cell? ⟨g, j, none⟩ = xs[j]? := by
  rcases o.2 with ⟨_, h0⟩ | ⟨g, cap, cur, rfl, _, h3, h4, h5, h6, h7⟩
  · omega
  · refine ⟨g, cap, rfl, fun j hj => ?_⟩
    rw [cell_of_row _ _ j _ _ _ h3]
    have e : (cur.toList.take (n * 3))[j]? = xs[j]? := by rw [h7]
    rw [List.getElem?_take_of_lt hj] at e
    rw [← e]; simp
theorem pend_cells {B g bn bd u : Nat} {pv : Value} {rn rd : List Rec} {s : S} {w : World} {l : List W} (h : Sq B g bn bd pv u rn rd l.length (wcs bd l) s w) (i : Nat) (x : W) (hi : l[i]? = some x) : ∃ q c, pv = .slice (some ⟨q, 0, none⟩) l.length c ∧ w.cell? ⟨q, 3 * i, none⟩ = some (fnV bd x.cut) ∧ w.cell? ⟨q, 3 * i + 1, none⟩ = some (.string x.key) ∧ w.cell? ⟨q, 3 * i + 2, none⟩ = some (.string x.data) := by
  have hlt : i < l.length := by
    rcases Nat.lt_or_ge i l.length with h' | h'
    · exact h'
    · rw [List.getElem?_eq_none h'] at hi; cases hi
  obtain ⟨q, c, e, hc⟩ := row_at h.pr (by omega)
  refine ⟨q, c, e, ?_, ?_, ?_⟩
  · rw [hc _ (by omega)]; exact (wcs_get bd l i 0 x hi (by omega)).trans rfl
  · rw [hc _ (by omega)]; exact (wcs_get bd l i 1 x hi (by omega)).trans rfl
  · rw [hc _ (by omega)]; exact (wcs_get bd l i 2 x hi (by omega)).trans rfl
theorem do_take (l : List W) (i : Nat) (x : W) (r : List Rec) (hi : l[i]? = some x) : (l.take (i + 1)).foldl doW r = doW ((l.take i).foldl doW r) x := by
  rw [List.take_add_one, hi, List.foldl_append]; rfl
theorem len_doN (r : List Rec) (l : List W) (i : Nat) : ((l.take i).foldl doW r).length ≤ r.length + l.length := by
  have := len_do r (l.take i)
  have h2 : (l.take i).length ≤ l.length := by simp; omega
  omega
theorem sq_settled {B g bn bd : Nat} {pv : Value} {s1 : S} {r : List Rec} {w : World} (h : Sq B g bn bd pv (tot r) r r 0 [] s1 w) (o : OkS { s1 with dur := r, pend := [] }) : Sr B g bn bd pv { s1 with dur := r, pend := [] } w := by
  refine sr_of ?_ o
  have e : now { s1 with dur := r, pend := [] } = r := rfl
  rw [e]
  exact ⟨h.row, h.mn, h.md, h.ne, h.pr, h.low⟩
def syncS (s : S) : Int × S := if s.off then (124, s) else if (spendS s).1 ≠ 0 then spendS s else (0, { (spendS s).2 with dur := now s, pend := [] })
set_option maxRecDepth 20000 in
set_option maxHeartbeats 6400000 in
theorem syncC {B g bn bd : Nat} {pv : Value} {s : S} {w : World} (h : Sr B g bn bd pv s w) (hB : B ≤ w.heap.size) :
    Calls Tryz.prog 19 #[.pointer (some ⟨g, 0, none⟩)] w fun e w' => e = .returned (.int .i64 (syncS s).1) ∧ Rn B g bn bd pv (syncS s).2 w w' := by
  have CD : Hid (Calls _ _ _ _ _) := downC h.row
  have CS : Hid (Calls _ _ _ _ _) := spendC h.row h.ok.arm
  have H : Hid (Sr B g bn bd pv s w) := h
  have FS : Hid (∀ w1, St g bn bd pv (tot (now s)) (spendS s).2 w1 → Kp (fun k => k = g) w w1 → Sr B g bn bd pv (spendS s).2 w1) := fun w1 m k => sr_st h m k
  unfold syncS
  clear h
  cases ho : s.off with
  | true =>
    rw [ho] at CD
    go_enter Tryz.func19, Tryz.ntmps19
    go_wp2_with (first | (go_at_call 13; refine CD.out.mono ?_; rintro _ _ ⟨rfl, hw⟩; rw [hw]; clear hw) | go_in)
    go_ret
    exact ⟨rfl, Rn.refl H.out⟩
  | false =>
    rw [ho] at CD
    obtain ⟨x, s1, HX⟩ : ∃ x s1, Hid (spendS s = (x, s1)) := ⟨_, _, rfl⟩
    have HN : Hid (now s1 = now s ∧ s1.dur = s.dur ∧ s1.pend = s.pend) := by have h1 := now_spend s; have h2 := dur_spend s; have h3 := pend_spend s; rw [HX.out] at h1 h2 h3; exact ⟨h1, h2, h3⟩
    rw [HX.out] at CS FS ⊢
    rw [if_neg (by simp)]
    by_cases hx : x = 0
    · subst hx
      rw [if_neg (by simp)]
      have OK : Hid (OkS s) := H.out.ok
      clear H
      go_enter Tryz.func19, Tryz.ntmps19
      go_upto_region 6 with (first | (go_at_call 13; refine CD.out.mono ?_; rintro _ _ ⟨rfl, hw⟩; rw [hw]; clear hw) | (go_at_call 49; refine CS.out.mono ?_; rintro _ w1 ⟨rfl, m1, k1⟩; have F1 : Hid (Sr B g bn bd pv s1 w1) := FS.out w1 m1 k1; have K1 : Hid (Kp (fun k => k = g) w w1) := k1; clear m1 k1) | go_in)
      obtain ⟨l, HLL⟩ : ∃ l, Hid (s.pend = l) := ⟨_, rfl⟩
      have G1 : Hid (Sq B g bn bd pv (tot (now s)) (now s) s.dur l.length (wcs bd l) s1 w1) := by have := sq_of F1.out; rw [HN.out.1, HN.out.2.1, HN.out.2.2, HLL.out] at this; exact this
      have O1 : Hid (OkS s1) := F1.out.ok
      have hfm : ∃ a c, pv = .slice a l.length c := own_formS G1.out.pr
      obtain ⟨pa, pc, rfl⟩ := hfm
      have c2 := G1.out.row.c2
      have hll : l.length < 3518437208883 := by have := OK.out.len; rw [HLL.out] at this; omega
      clear CD CS FS F1
      go_wp2_with fail
      go_loopw [18] (fun i wr => ∃ j : Nat, i = .int .i64 j ∧ j ≤ l.length ∧ Hid (Sq B g bn bd (.slice pa l.length pc) (tot (now s)) (now s) ((l.take j).foldl doW s.dur) l.length (wcs bd l) s1 wr ∧ Kp (Fr g bn bd (.slice pa l.length pc)) w wr)) (fun i _ => (l.length - intOf i).toNat)
      case atStart => exact ⟨0, rfl, Nat.zero_le _, by simpa using G1.out, fr_g K1.out⟩
      case round =>
        obtain ⟨j, rfl, hj, HH⟩ := hrel
        by_cases hlt : j < l.length
        · have hlt' : (j : Int) < l.length := by omega
          obtain ⟨x, hx⟩ : ∃ x, l[j]? = some x := ⟨_, List.getElem?_eq_getElem hlt⟩
          obtain ⟨q, c, e, d0, d1, d2⟩ := pend_cells HH.out.1 j x hx
          injection e with e1 _ e2
          subst e1 e2
          have hok : OkW x := OK.out.pend x (by rw [HLL.out]; exact List.mem_of_getElem? hx)
          have HL : Hid (∀ w1, Below wr.heap.size wr w1 → Calls _ _ _ _ _) := fun w1 b1 => landC bd ((l.take j).foldl doW s.dur) x w1 ((HH.out.1.later b1).md) hok (by have := len_doN s.dur l j; have := OK.out.len; rw [HLL.out] at this; unfold maxLen; omega)
          have HNX : Hid (∀ w1 w2, Below wr.heap.size wr w1 → Mp bd (doW ((l.take j).foldl doW s.dur) x) w2 → Kp (fun k => k = bd) w1 w2 → Sq B g bn bd (.slice (some ⟨q, 0, none⟩) l.length pc) (tot (now s)) (now s) ((l.take (j + 1)).foldl doW s.dur) l.length (wcs bd l) s1 w2 ∧ Kp (Fr g bn bd (.slice (some ⟨q, 0, none⟩) l.length pc)) w w2) := fun w1 w2 b1 m2 k2 => by
            rw [do_take l j x s.dur hx]
            exact ⟨(HH.out.1.later b1).dm m2 k2, (HH.out.2.trans (Kp.of_below b1)).trans (fr_d k2)⟩
          obtain ⟨f, hf⟩ : ∃ f, fnV bd x.cut = .func (.func f) #[.map (some bd)] #[] := ⟨_, rfl⟩
          obtain ⟨xk, hxk⟩ : ∃ xk, x.key = xk := ⟨_, rfl⟩
          obtain ⟨xd, hxd⟩ : ∃ xd, x.data = xd := ⟨_, rfl⟩
          rw [hf] at d0 HL
          rw [hxk] at d1 HL
          rw [hxd] at d2 HL
          have HB : Hid (∀ o, Below wr.heap.size wr (wr.alloc o)) := fun o => (Below.refl _ wr).alloc (Nat.le_refl _) _
          clear HH hok hx hf hxk hxd
          rw [Nat.mul_comm] at d0 d1 d2
          go_wp2_with (first | (go_at_call 50; refine (HL.out _ (HB.out _)).mono ?_; rintro _ w3 ⟨rfl, m3, k3⟩; have F3 : Hid _ := HNX.out _ _ (HB.out _) m3 k3; clear m3 k3) | go_in)
          go_roundw
          case rel => exact ⟨j + 1, by go_num, by omega, F3.out⟩
          case measure => simp [intOf]; omega
        · have hlt' : ¬ (j : Int) < l.length := by omega
          have hjl : j = l.length := by omega
          have G2 : Hid (Sq B g bn bd (.slice pa l.length pc) (tot (now s)) (now s) (now s) l.length (wcs bd l) s1 wr ∧ Kp (Fr g bn bd (.slice pa l.length pc)) w wr) := by
            have := HH.out
            rw [hjl, List.take_length] at this
            unfold now
            rw [HLL.out]
            unfold now at this
            rw [HLL.out] at this
            exact this
          have c22 := G2.out.1.row.c2
          have f22 := G2.out.1.row.fz 2
          have G3 : Hid (Rn B g bn bd (.slice pa l.length pc) { s1 with dur := now s, pend := [] } w (wr.setCell ⟨g, 2, none⟩ (.slice none 0 0))) := by
            refine ⟨.slice none 0 0, sq_settled (G2.out.1.pv (World.ownsRow_nil _ _ _ _)) ?_, G2.out.2.trans (fr_g (Kp.setCell _ _ _ _ rfl)), fun k hk => absurd hk (by simp [Value.ownBlock])⟩
            exact ⟨OK.out.now, OK.out.snow, (by intro x hx; cases hx), O1.out.cap0, O1.out.cap1, O1.out.arm, O1.out.age, by have := OK.out.lnow; simpa using this⟩
          clear HH G2
          go_wp2
          go_ret
          exact ⟨rfl, G3.out⟩
    · rw [if_pos (by simpa using hx)]
      have hx' : (x != 0) = true := by rw [bne_iff_ne]; exact hx
      clear hx
      go_enter Tryz.func19, Tryz.ntmps19
      go_wp2_with (first | (go_at_call 13; refine CD.out.mono ?_; rintro _ _ ⟨rfl, hw⟩; rw [hw]; clear hw) | (go_at_call 49; refine CS.out.mono ?_; rintro _ w1 ⟨rfl, m1, k1⟩; have F1 : Hid (Sr B g bn bd pv s1 w1) := FS.out w1 m1 k1; have K1 : Hid (Kp (fun k => k = g) w w1) := k1; clear m1 k1) | go_in)
      go_ret
      exact ⟨rfl, Rn.of F1.out (fr_g K1.out)⟩
end Go.Proofs.YtpcllegjnbeppaaGreat.yl
