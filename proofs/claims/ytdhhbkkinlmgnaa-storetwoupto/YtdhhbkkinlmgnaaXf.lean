import Derived.Test.YtdhhbkkinlmgnaaXe
namespace Go.Proofs.Ytdhhbkkinlmgnaa.xf
open Go.RowKit Go.PlainAid Go.Maps Go.Shelf
open Go.Proofs.Ytdhhbkkinlmgnaa.ca Go.Proofs.Ytdhhbkkinlmgnaa.cb Go.Proofs.Ytdhhbkkinlmgnaa.cp Go.Proofs.Ytdhhbkkinlmgnaa.kp Go.Proofs.Ytdhhbkkinlmgnaa.ka Go.Proofs.Ytdhhbkkinlmgnaa.ya Go.Proofs.Ytdhhbkkinlmgnaa.yb Go.Proofs.Ytdhhbkkinlmgnaa.yc Go.Proofs.Ytdhhbkkinlmgnaa.ye Go.Proofs.Ytdhhbkkinlmgnaa.yf Go.Proofs.Ytdhhbkkinlmgnaa.yi Go.Proofs.Ytdhhbkkinlmgnaa.yk Go.Proofs.Ytdhhbkkinlmgnaa.yl Go.Proofs.Ytdhhbkkinlmgnaa.zf Go.Proofs.Ytdhhbkkinlmgnaa.zg Go.Proofs.Ytdhhbkkinlmgnaa.xa Go.Proofs.Ytdhhbkkinlmgnaa.xb Go.Proofs.Ytdhhbkkinlmgnaa.xc Go.Proofs.Ytdhhbkkinlmgnaa.xd Go.Proofs.Ytdhhbkkinlmgnaa.xe
set_option linter.unusedVariables false
set_option linter.unusedSimpArgs false
theorem rd_pre {B g : Nat} {wv : Value} {s' : S} {w w1 w2 : World} (b : Below w.heap.size w w1) (r : Rd B g wv s' w1 w2) : Rd B g wv s' w w2 := by
  obtain ⟨dv, wv', vv, h, k, n⟩ := r
  refine ⟨dv, wv', vv, h, (Kp.of_below b).trans k, fun j hj => ?_⟩
  rcases n j hj with e | e
  · exact .inl e
  · exact .inr (Nat.le_trans b.size e)
set_option maxRecDepth 40000 in
set_option maxHeartbeats 6400000 in
theorem cutD {B g : Nat} {dv wv vv : Value} {s : S} {w : World} (k : ByteArray) (h : Ds B g dv wv vv s w) (hB : B ≤ w.heap.size) (hl : s.dur.length + s.pend.length + 1 < 3518437208883) :
    Calls Try.prog 37 #[.pointer (some ⟨g, 0, none⟩), .string k] w fun e w' => e = .returned (.int .i64 (cutS s k).1) ∧ Rd B g wv (cutS s k).2 w w' := by
  have c3 := h.row.c3
  have c6 := h.row.c6
  have H : Hid (Ds B g dv wv vv s w) := h
  have CG : Hid (∀ w, Calls _ _ _ _ _) := fun w => goesD k w
  have CF : Hid (Calls _ _ _ _ _) := findC vv (now s) k w h.vl h.ok.snow (by have := h.ok.lnow; omega)
  have FS : Hid (∀ i, Fnd k (now s) i → (i = -1 ∧ rget k (now s) = none) ∨ (¬ i < 0 ∧ (rget k (now s)).isSome = true)) := fun i hi => by
    rcases hi with ⟨h1, h2⟩ | ⟨n, d, h1, h2, h3⟩
    · exact .inl ⟨h2, h1⟩
    · exact .inr ⟨by omega, by rw [h3]; rfl⟩
  obtain ⟨a, c, hvv⟩ := lr_form h.vl
  unfold cutS refS
  cases ho : s.off with
  | true =>
    rw [ho] at c3
    simp only [if_true]
    rw [if_pos (by simp)]
    clear h CG CF
    go_enter Try.func37, Try.ntmps37
    go_wp2
    go_ret
    exact ⟨rfl, Rd.refl H.out (Below.refl _ _)⟩
  | false =>
    rw [ho] at c3
    simp only [Bool.false_eq_true, if_false]
    by_cases hk : 1 ≤ k.size ∧ k.size ≤ 64
    · rw [if_pos hk, if_neg (by simp)]
      have CW : Hid (Calls _ _ _ _ _) := writeD ⟨true, k, ⟨#[]⟩⟩ h hB ho ⟨hk.1, hk.2, by show 0 ≤ _; omega⟩ hl
      rw [decide_eq_true hk] at CG
      obtain ⟨o, HO⟩ : ∃ o, Hid (rget k (now s) = o) := ⟨_, rfl⟩
      rw [HO.out] at FS ⊢
      clear hk h ho
      subst hvv
      obtain ⟨L, hL⟩ : ∃ L, (now s).length = L := ⟨_, rfl⟩
      rw [hL] at c6 CF
      clear hL
      go_enter Try.func37, Try.ntmps37
      go_wp2_with fail
      refine (CG.out _).mono ?_
      rintro _ _ ⟨rfl, hw⟩; rw [hw]; clear hw
      go_wp2_with fail
      refine CF.out.mono ?_
      rintro _ _ ⟨⟨i, rfl, hi⟩, hw⟩; rw [hw]; clear hw CF
      rcases FS.out i hi with ⟨rfl, rfl⟩ | ⟨hi0, hsm⟩
      · clear hi FS
        go_wp2
        go_ret
        exact ⟨rfl, Rd.refl H.out (Below.refl _ _)⟩
      · obtain ⟨dd, rfl⟩ := Option.isSome_iff_exists.1 hsm
        clear hi FS hsm
        go_wp2_with fail
        refine CW.out.mono ?_
        rintro _ w2 ⟨rfl, r2⟩
        have R2 : Hid (Rd _ _ _ _ _ _) := r2
        clear r2
        go_wp2
        go_ret
        exact ⟨rfl, R2.out⟩
    · rw [if_neg hk, if_pos (by simp)]
      rw [decide_eq_false hk] at CG
      clear hk h CF
      go_enter Try.func37, Try.ntmps37
      go_wp2_with fail
      refine (CG.out _).mono ?_
      rintro _ _ ⟨rfl, hw⟩; rw [hw]; clear hw
      go_wp2
      go_ret
      exact ⟨rfl, Rd.refl H.out (Below.refl _ _)⟩
theorem step_cnts {ops : Array Oper} {o : Oper} {a : Act} {w : World} {K : Act → World → Prop} {Q : Exit → Act → World → Prop} {E : Prop} (hg : o.guard = none) (i dd : Nat)
    (hop : o.op = .call { callee := .value (.func 67), args := #[.tmp i], argTypes := #[39] }) (hd : o.dst = some dd) (B : Nat) (v : Value) (r : List Rec)
    (hy : a.tmps[i]?.getD undef = v) (HR : Hid (Lr B v r w ∧ OkR r ∧ r.length < 3518437208883)) (T : Nat) (HT : Hid (tot r = T))
    (hK : ∀ w', Below w.heap.size w w' → K { tmps := a.tmps.setIfInBounds dd (.int .i64 (T : Int)), defers := a.defers } w') :
    if Region.wanted o (yielded ops a.tmps) = true then Oper.wp Try.prog o a w K Q else E := by
  have hw : Region.wanted o (yielded ops a.tmps) = true := by simp [Region.wanted, hg]
  rw [if_pos hw]
  have C := cntsC v r w HR.out.1 HR.out.2.1 HR.out.2.2
  rw [HT.out] at C
  have HKK : Hid _ := hK
  clear hK HR
  unfold Oper.wp execOp
  simp only [hop]
  go_simp
  refine C.mono ?_
  rintro e w' ⟨rfl, n, hn⟩
  exact HKK.out _ (by rw [hn]; exact zh.below_dN (Below.refl _ _) n)
set_option maxRecDepth 40000 in
set_option maxHeartbeats 12800000 in
theorem putD {B g : Nat} {dv wv vv : Value} {s : S} {w : World} (k d : ByteArray) (h : Ds B g dv wv vv s w) (hB : B ≤ w.heap.size) (hl : s.dur.length + s.pend.length + 1 < 3518437208883) (hd : d.size ≤ 140737488355328) :
    Calls Try.prog 36 #[.pointer (some ⟨g, 0, none⟩), .string k, .string d] w fun e w' => e = .returned (.int .i64 (putS s k d).1) ∧ Rd B g wv (putS s k d).2 w w' := by
  have c3 := h.row.c3
  have H : Hid (Ds B g dv wv vv s w) := h
  have CG : Hid (∀ w, Calls _ _ _ _ _) := fun w => goesD k w
  unfold putS refS
  cases ho : s.off with
  | true =>
    rw [ho] at c3
    simp only [if_true]
    rw [if_pos (by simp)]
    clear h CG
    go_enter Try.func36, Try.ntmps36
    go_wp2
    go_ret
    exact ⟨rfl, Rd.refl H.out (Below.refl _ _)⟩
  | false =>
    rw [ho] at c3
    simp only [Bool.false_eq_true, if_false]
    by_cases hk : 1 ≤ k.size ∧ k.size ≤ 64
    · rw [if_pos hk, if_neg (by simp)]
      rw [decide_eq_true hk] at CG
      by_cases hz : d.size ≤ 1048576
      · rw [if_pos hz]
        have hz1 : ¬ (1048576 : Int) < (d.size : Int) := by omega
        have hxx : OkW ⟨false, k, d⟩ := ⟨hk.1, hk.2, hz⟩
        have HXX : Hid _ := hxx
        obtain ⟨w0, HW0⟩ : ∃ w0, w0 = w.alloc (.cells #[.string k, .string d, .bool false] 104) := ⟨_, rfl⟩
        have b0 : Below w.heap.size w w0 := by rw [HW0]; exact (Below.refl _ w).alloc (Nat.le_refl _) _
        have hbx : w0.heap[w.heap.size]? = some (.cells #[.string k, .string d, .bool false] 104 (0, 0)) := by rw [HW0]; exact heap_alloc_new w _
        have h0 := h.later b0
        have hln := h.ok.lnow
        have hrl := len_doW (now s) ⟨false, k, d⟩
        have hln2 : (now s).length + 1 < 3518437208883 := by have := len_do s.dur s.pend; show (s.pend.foldl doW s.dur).length + 1 < _; omega
        have HOR : Hid (OkR (put k d (now s)) ∧ (put k d (now s)).length < 3518437208883) := ⟨ok_doW (x := ⟨false, k, d⟩) h.ok.now hxx, by have := len_put k d (now s); omega⟩
        have C1 : Hid (Calls _ _ _ _ _) := cntsC vv (now s) w0 h0.vl h.ok.now hln
        obtain ⟨T1, HT1⟩ : ∃ T, Hid (tot (now s) = T) := ⟨_, rfl⟩
        obtain ⟨T2, HT2⟩ : ∃ T, Hid (tot (put k d (now s)) = T) := ⟨_, rfl⟩
        rw [HT1.out] at C1
        rw [HT1.out, HT2.out]
        have c60 := h0.row.c6
        obtain ⟨va, vc, hvv⟩ := lr_form h.vl
        subst hvv
        have HDN : Hid (dn k d (now s) false = put k d (now s)) := dn_false k d _ h.ok.snow
        obtain ⟨R, HR⟩ : ∃ R, Hid (put k d (now s) = R) := ⟨_, rfl⟩
        rw [HR.out] at HDN HOR HT2
        have HB0 : Hid (Below w.heap.size w w0) := b0
        have HBX : Hid _ := hbx
        have CW : Hid (∀ wx, Below w.heap.size w wx → Calls Try.prog 69 #[.pointer (some ⟨g, 0, none⟩), .agg #[.string k, .string d, .bool false]] wx fun e w' => e = .returned (.int .i64 (spendS (addW s ⟨false, k, d⟩)).1) ∧ Rd B g wv (spendS (addW s ⟨false, k, d⟩)).2 w w') := fun wx b => by
          refine (writeD ⟨false, k, d⟩ (H.out.later b) (Nat.le_trans hB b.size) ho HXX.out hl).mono ?_
          rintro _ w' ⟨rfl, r⟩
          exact ⟨rfl, rd_pre b r⟩
        clear h h0 hk b0 hbx hxx hrl
        go_enter Try.func36, Try.ntmps36
        go_wp2_with fail
        refine (CG.out _).mono ?_
        rintro _ _ ⟨rfl, hw⟩; rw [hw]; clear hw
        go_upto_region 9 with fail
        rw [← HW0]
        clear HW0
        go_wp2_with fail
        refine C1.out.mono ?_
        rintro _ w1 ⟨rfl, hw⟩
        have b1 : Below w0.heap.size w0 w1 := by
          obtain ⟨m, hm⟩ := hw
          rw [hm]
          exact zh.below_dN (Below.refl _ _) m
        have HB1 : Hid (Below w.heap.size w w1) := HB0.out.trans (b1.mono HB0.out.size)
        have hb1 : w1.heap[w.heap.size]? = some (.cells #[.string k, .string d, .bool false] 104 (0, 0)) := (b1.block _ (Array.getElem?_eq_some_iff.1 HBX.out).1).trans HBX.out
        obtain ⟨x0, x1, x2⟩ := box3 hb1
        have HX1 : Hid _ := hb1
        have h1 := H.out.later HB1.out
        have c61 := h1.row.c6
        have HLR : Hid (Lr B (.slice va (now s).length vc) (now s) w1.drew ∧ dn k d (now s) false = R ∧ (now s).length < 3518437208883) := ⟨h1.vl, HDN.out, hln⟩
        have HGR : Hid (∀ a' c' w5, Gr w1.heap.size w1 (.slice a' R.length c') R w5 → (Lr w1.heap.size (.slice a' R.length c') R w5 ∧ OkR R ∧ R.length < 3518437208883) ∧ Below w1.heap.size w1 w5) := fun a' c' w5 gr => ⟨⟨gr.own, HOR.out.1, HOR.out.2⟩, gr.bl⟩
        clear hw b1 hb1 h1 c60 C1 HB0 HBX
        go_upto_region 10 with fail
        go_cut [10] (fun cc wx => cc = .int .i64 (T2 : Int) ∧ Hid (Below w1.heap.size w1 wx))
        case first =>
          go_region_law ((first
            | (have zz := HLR.out; refine step_done (by rfl) 34 35 36 (by rfl) (by rfl) B (.slice va (now s).length vc) (now s) R k d false (by simp [Act.put]) (by simp [Act.put]) HLR ?_; intro a' c' w5 gr; have A5 : Hid _ := HGR.out a' c' w5 ⟨gr.own, ⟨gr.bl.os, gr.bl.tape, gr.bl.output, gr.bl.size, gr.bl.block⟩⟩; have L5 : Hid (Lr w1.heap.size (.slice a' R.length c') R w5 ∧ OkR R ∧ R.length < 3518437208883) := A5.out.1; clear gr zz HLR)
            | (have zz := L5.out; refine step_cnts (by rfl) 36 37 (by rfl) (by rfl) w1.heap.size (.slice a' R.length c') R (by simp [Act.put]) L5 T2 HT2 ?_; intro w6 b6; have B6 : Hid (Below w1.heap.size w1 w6) := A5.out.2.trans (Below.mono (⟨b6.os, b6.tape, b6.output, b6.size, b6.block⟩ : Below w5.heap.size w5 w6) A5.out.2.size); clear b6 zz L5)))
          all_goals (go_wp2; go_meet; exact ⟨rfl, B6.out⟩)
        case rest =>
          obtain ⟨rfl, HBC⟩ := hcut
          have HB2 : Hid (Below w.heap.size w wc) := HB1.out.trans (HBC.out.mono HB1.out.size)
          obtain ⟨y0, y1, y2⟩ := box3 ((HBC.out.block _ (Array.getElem?_eq_some_iff.1 HX1.out).1).trans HX1.out)
          have cc0 := (H.out.later HB2.out).row.c0
          clear x0 x1 x2 c61 HLR HGR
          by_cases hf : s.cap < (T2 : Int) ∧ T1 < T2
          · have q1 : decide (s.cap < (T2 : Int)) = true := decide_eq_true hf.1
            have q2 : decide ((T1 : Int) < (T2 : Int)) = true := decide_eq_true (by omega)
            have q3 : decide (T1 < T2) = true := decide_eq_true hf.2
            have HFF : Hid _ := hf
            clear hf
            go_wp2
            go_ret
            all_goals first | exact ⟨rfl, Rd.refl H.out HB2.out⟩ | (exfalso; rename_i hc; exact hc HFF.out)
          · have hff : (decide (s.cap < (T2 : Int)) = false) ∨ (decide (s.cap < (T2 : Int)) = true ∧ decide ((T1 : Int) < (T2 : Int)) = false ∧ decide (T1 < T2) = false) := by
              by_cases q : s.cap < (T2 : Int)
              · exact .inr ⟨decide_eq_true q, decide_eq_false (fun e => hf ⟨q, by omega⟩), decide_eq_false (fun e => hf ⟨q, e⟩)⟩
              · exact .inl (decide_eq_false q)
            have HFF : Hid _ := hf
            clear hf
            rcases hff with q1 | ⟨q1, q2, q3⟩
            all_goals
              go_wp2_with fail
              refine (CW.out _ HB2.out).mono ?_
              rintro _ w9 ⟨rfl, r9⟩
              have R9 : Hid (Rd _ _ _ _ _ _) := r9
              clear r9
              go_wp2
              go_ret
              all_goals first | exact ⟨rfl, R9.out⟩ | (exfalso; rename_i hc; exact HFF.out hc)
      · rw [if_neg hz]
        have hz1 : (1048576 : Int) < (d.size : Int) := by omega
        clear hk h
        go_enter Try.func36, Try.ntmps36
        go_wp2_with fail
        refine (CG.out _).mono ?_
        rintro _ _ ⟨rfl, hw⟩; rw [hw]; clear hw
        go_wp2
        go_ret
        exact ⟨rfl, Rd.refl H.out (Below.refl _ _)⟩
    · rw [if_neg hk, if_pos (by simp)]
      rw [decide_eq_false hk] at CG
      clear hk h
      go_enter Try.func36, Try.ntmps36
      go_wp2_with fail
      refine (CG.out _).mono ?_
      rintro _ _ ⟨rfl, hw⟩; rw [hw]; clear hw
      go_wp2
      go_ret
      exact ⟨rfl, Rd.refl H.out (Below.refl _ _)⟩
end Go.Proofs.Ytdhhbkkinlmgnaa.xf
