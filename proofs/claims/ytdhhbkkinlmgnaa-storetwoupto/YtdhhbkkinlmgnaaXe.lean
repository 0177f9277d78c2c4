import Derived.Test.YtdhhbkkinlmgnaaXd
import Derived.Deep.AppendLies
namespace Go.Proofs.Ytdhhbkkinlmgnaa.xe
open Go.RowKit Go.PlainAid Go.Maps Go.Shelf
open Go.Proofs.Ytdhhbkkinlmgnaa.ca Go.Proofs.Ytdhhbkkinlmgnaa.cb Go.Proofs.Ytdhhbkkinlmgnaa.cp Go.Proofs.Ytdhhbkkinlmgnaa.kp Go.Proofs.Ytdhhbkkinlmgnaa.ka Go.Proofs.Ytdhhbkkinlmgnaa.ya Go.Proofs.Ytdhhbkkinlmgnaa.yb Go.Proofs.Ytdhhbkkinlmgnaa.yc Go.Proofs.Ytdhhbkkinlmgnaa.ye Go.Proofs.Ytdhhbkkinlmgnaa.yf Go.Proofs.Ytdhhbkkinlmgnaa.yi Go.Proofs.Ytdhhbkkinlmgnaa.yk Go.Proofs.Ytdhhbkkinlmgnaa.yl Go.Proofs.Ytdhhbkkinlmgnaa.zf Go.Proofs.Ytdhhbkkinlmgnaa.zg Go.Proofs.Ytdhhbkkinlmgnaa.xa Go.Proofs.Ytdhhbkkinlmgnaa.xb Go.Proofs.Ytdhhbkkinlmgnaa.xc Go.Proofs.Ytdhhbkkinlmgnaa.xd
set_option linter.unusedVariables false
set_option linter.unusedSimpArgs false
theorem step_done {ops : Array Oper} {o : Oper} {a : Act} {w : World} {K : Act → World → Prop} {Q : Exit → Act → World → Prop} {E : Prop} (hg : o.guard = none) (i j dd : Nat)
    (hop : o.op = .call { callee := .value (.func 68), args := #[.tmp i, .tmp j], argTypes := #[39, 104] }) (hd : o.dst = some dd) (B : Nat) (v : Value) (r R : List Rec) (k d : ByteArray) (cut : Bool)
    (hy : a.tmps[i]?.getD undef = v) (hy2 : a.tmps[j]?.getD undef = .agg #[.string k, .string d, .bool cut]) (HR : Hid (Lr B v r w ∧ dn k d r cut = R ∧ r.length < 3518437208883))
    (hK : ∀ a' c' w', Gr w.heap.size w (.slice a' R.length c') R w' → K { tmps := a.tmps.setIfInBounds dd (.slice a' R.length c'), defers := a.defers } w') :
    if Region.wanted o (yielded ops a.tmps) = true then Oper.wp Try.prog o a w K Q else E := by
  have hw : Region.wanted o (yielded ops a.tmps) = true := by simp [Region.wanted, hg]
  rw [if_pos hw]
  have C := doneC0 v r k d cut R w HR.out.1 HR.out.2.1 HR.out.2.2
  have HKK : Hid _ := hK
  clear hK HR
  unfold Oper.wp execOp
  simp only [hop]
  go_simp
  refine C.mono ?_
  rintro e w' ⟨v', rfl, h1⟩
  obtain ⟨a', c', rfl⟩ := lr_form h1.own
  exact HKK.out _ _ _ h1
theorem new_wr (W : World) (u v x : Value) (t : TypeId) : ∀ (j : Nat) (y : Value), [u, v, x][j]? = some y → (W.alloc (.cells #[u, v, x] t)).cell? (Addr.add ⟨W.heap.size, 0, none⟩ j) = some y := new_three W u v x t
theorem one_wr (k d : ByteArray) (c : Bool) : ∀ u ∈ [Value.string k, .string d, .bool c], u.oneCell' = true := by
  intro u hu; simp only [List.mem_cons, List.not_mem_nil, or_false] at hu; rcases hu with rfl | rfl | rfl <;> rfl
theorem box3 {w : World} {p : Nat} {x0 x1 x2 : Value} {t : TypeId} (h : w.heap[p]? = some (.cells #[x0, x1, x2] t (0, 0))) : w.cell? ⟨p, 0, none⟩ = some x0 ∧ w.cell? ⟨p, 1, none⟩ = some x1 ∧ w.cell? ⟨p, 2, none⟩ = some x2 :=
  ⟨cell_of_row _ _ 0 _ _ _ h, cell_of_row _ _ 1 _ _ _ h, cell_of_row _ _ 2 _ _ _ h⟩
-- behind the first line: what is there now is turned
structure P1 (B g : Nat) (dv wv : Value) (s : S) (R : List Rec) (bx : Obj) (w wx : World) : Prop where
  ex : ∃ v', Dt g dv wv v' s wx ∧ Lr B v' R wx
  dl : Lr B dv s.dur wx
  wl : wx.ownsRow B 104 3 wv s.pend.length (wws s.pend)
  box : wx.heap[w.heap.size]? = some bx
  kp : Kp (fun k => k = g) w wx
theorem p1_of {B g : Nat} {dv wv vv v' : Value} {s : S} {R : List Rec} {bx : Obj} {w w5 : World} (h : Ds B g dv wv vv s w) (hB : B ≤ w.heap.size) (gr : Gr (w.alloc bx).heap.size (w.alloc bx) v' R w5) : Dt g dv wv vv s w5 ∧ P1 B g dv wv s R bx w (w5.setCell ⟨g, 6, none⟩ v') := by
  have b1 : Below w.heap.size w (w.alloc bx) := (Below.refl _ w).alloc (Nat.le_refl _) _
  have hz : (w.alloc bx).heap.size = w.heap.size + 1 := by simp
  have b5 : Below w.heap.size w w5 := b1.trans (gr.bl.mono (by omega))
  have h5 := h.later b5
  have k6 : Kp (fun k => k = g) w5 (w5.setCell ⟨g, 6, none⟩ v') := Kp.setCell _ _ _ _ rfl
  have hgl := h.row.lt
  refine ⟨h5.row, ⟨v', h5.row.set6 v', ?_⟩, ?_, ?_, ?_, (Kp.of_below b5).trans k6⟩
  · exact own_kp (own_low gr.own (by omega)) k6 (fun j hj e => own_tag gr.own h5.row dr1 (by rw [← e]; exact hj))
  · exact own_kp h5.dl k6 (fun j hj e => own_tag h5.dl h5.row dr1 (by rw [← e]; exact hj))
  · exact own_kp h5.wl k6 (fun j hj e => own_tag h5.wl h5.row dr2 (by rw [← e]; exact hj))
  · rw [k6.block _ (by have := gr.bl.size; omega) (by omega), gr.bl.block _ (by omega)]
    exact heap_alloc_new w bx
-- behind the second: the write is pending
theorem p2_of {B g : Nat} {dv wv vv : Value} {s : S} {x : W} {bx o : Obj} {w wx w7 : World} {g5 c5 : Nat} (h : Ds B g dv wv vv s w) (hx : OkW x) (hl : s.dur.length + s.pend.length + 1 < 3518437208883) (p : P1 B g dv wv s (doW (now s) x) bx w wx)
    (ho : w7.ownsRow B 104 3 (.slice (some ⟨g5, 0, none⟩) (s.pend.length + 1) c5) (s.pend.length + 1) (wws s.pend ++ ww x)) (hg : (wx.alloc o).grownBy w7 wv.ownBlock) (hlies : wv.ownBlock = some g5 ∨ g5 = wx.heap.size + 1) :
    ∃ v', Dt g dv wv v' s w7 ∧ Ds B g dv (.slice (some ⟨g5, 0, none⟩) (s.pend.length + 1) c5) v' (addW s x) (w7.setCell ⟨g, 2, none⟩ (.slice (some ⟨g5, 0, none⟩) (s.pend.length + 1) c5)) ∧ Kp (xc.Fd g wv) w (w7.setCell ⟨g, 2, none⟩ (.slice (some ⟨g5, 0, none⟩) (s.pend.length + 1) c5)) ∧ ∀ k, some k = Value.ownBlock (.slice (some ⟨g5, 0, none⟩) (s.pend.length + 1) c5) → some k = wv.ownBlock ∨ w.heap.size ≤ k := by
  obtain ⟨⟨v', hr, hv⟩, hd, hw, hb, kx⟩ := p
  have b1 : Below wx.heap.size wx (wx.alloc o) := (Below.refl _ wx).alloc (Nat.le_refl _) _
  have k1 : Kp (fun _ => False) wx (wx.alloc o) := Kp.of_below b1
  have k2 : Kp (fun k => some k = wv.ownBlock) (wx.alloc o) w7 := ⟨hg.os, hg.tape, hg.output, hg.size, fun k hk hn => hg.block k hk hn⟩
  have hw1 := own_kp hw k1 (fun _ _ e => e)
  have hr1 : Dt g dv wv v' s (wx.alloc o) := (k1.block _ hr.lt (fun e => e)).trans hr
  have hr7 : Dt g dv wv v' s w7 := (k2.block _ hr1.lt (own_tag hw1 hr1 dr2)).trans hr1
  have apart : ∀ {u : Value} {r : List Rec}, Lr B u r (wx.alloc o) → ∀ j, some j = u.ownBlock → ¬ some j = wv.ownBlock := fun {u r} hu j hj e => by
    rcases hu.2 with ⟨rfl, _⟩ | ⟨g', cap, cur, rfl, _, hh, _⟩
    · cases hj
    · have : j = g' := Option.some.inj hj
      subst this
      exact own_tag hw1 hh (by decide) e
  have hd7 : Lr B dv s.dur w7 := own_kp (own_kp hd k1 (fun _ _ e => e)) k2 (apart (own_kp hd k1 (fun _ _ e => e)))
  have hv7 : Lr B v' (doW (now s) x) w7 := own_kp (own_kp hv k1 (fun _ _ e => e)) k2 (apart (own_kp hv k1 (fun _ _ e => e)))
  have k3 : Kp (fun k => k = g) w7 (w7.setCell ⟨g, 2, none⟩ (.slice (some ⟨g5, 0, none⟩) (s.pend.length + 1) c5)) := Kp.setCell _ _ _ _ rfl
  refine ⟨v', hr7, ⟨hr7.set2 _, own_kp hd7 k3 (fun j hj e => own_tag hd7 hr7 dr1 (by rw [← e]; exact hj)), ?_, ?_, h.low, ok_add h.ok hx hl⟩, ?_, ?_⟩
  · rw [now_add]
    exact own_kp hv7 k3 (fun j hj e => own_tag hv7 hr7 dr1 (by rw [← e]; exact hj))
  · have e1 : (addW s x).pend.length = s.pend.length + 1 := by simp [addW]
    have e2 : wws (addW s x).pend = wws s.pend ++ ww x := by simp [wws, addW]
    rw [e1, e2]
    exact own_kp ho k3 (fun j hj e => own_tag ho hr7 dr2 (by rw [← e]; exact hj))
  · exact (((kx.mono (fun _ e => .inl e)).trans (Kp.of_below b1)).trans (k2.mono (fun _ e => .inr e))).trans (k3.mono (fun _ e => .inl e))
  · intro k hk
    have hk : k = g5 := Option.some.inj hk
    subst hk
    rcases hlies with e | e
    · exact .inl e.symm
    · exact .inr (by have := kx.size; omega)
set_option maxRecDepth 40000 in
set_option maxHeartbeats 12800000 in
theorem writeD {B g : Nat} {dv wv vv : Value} {s : S} {w : World} (x : W) (h : Ds B g dv wv vv s w) (hB : B ≤ w.heap.size) (ho : s.off = false) (hx : OkW x) (hl : s.dur.length + s.pend.length + 1 < 3518437208883) :
    Calls Try.prog 69 #[.pointer (some ⟨g, 0, none⟩), .agg #[.string x.key, .string x.data, .bool x.cut]] w fun e w' => e = .returned (.int .i64 (spendS (addW s x)).1) ∧ Rd B g wv (spendS (addW s x)).2 w w' := by
  have H : Hid (Ds B g dv wv vv s w) := h
  have HDW : Hid (dn x.key x.data (now s) x.cut = doW (now s) x) := dn_doW x (now s) h.ok.snow
  have hln := h.ok.lnow
  obtain ⟨va, vc, hvv⟩ := lr_form h.vl
  have hgl := h.row.lt
  obtain ⟨i0, hi0, hz0, hz1, hz2⟩ := info_parts info_W
  have HIN : Hid (_ ∧ _ ∧ _ ∧ _) := ⟨hi0, hz0, hz1, hz2⟩
  clear hi0 hz0 hz1 hz2
  obtain ⟨bx, HBX⟩ : ∃ bx, bx = Obj.cells #[.string x.key, .string x.data, .bool x.cut] 104 (0, 0) := ⟨_, rfl⟩
  have b1 : Below w.heap.size w (w.alloc bx) := (Below.refl _ w).alloc (Nat.le_refl _) _
  have h1 := h.later b1
  have HLR : Hid (Lr B vv (now s) (w.alloc bx).drew ∧ dn x.key x.data (now s) x.cut = doW (now s) x ∧ (now s).length < 3518437208883) := ⟨h1.vl, HDW.out, hln⟩
  have c6 := h1.row.c6
  have f6 := h1.row.fz 6
  have P1F : Hid (∀ v' w5, Gr (w.alloc bx).heap.size (w.alloc bx) v' (doW (now s) x) w5 → Dt g dv wv vv s w5 ∧ P1 B g dv wv s (doW (now s) x) bx w (w5.setCell ⟨g, 6, none⟩ v')) := fun v' w5 gr => p1_of H.out hB gr
  obtain ⟨k, hk⟩ : ∃ k, x.key = k := ⟨_, rfl⟩
  obtain ⟨d, hd⟩ : ∃ d, x.data = d := ⟨_, rfl⟩
  obtain ⟨cut, hcut⟩ : ∃ c, x.cut = c := ⟨_, rfl⟩
  have HX : Hid (x = ⟨cut, k, d⟩) := by show _ = _; rw [← hk, ← hd, ← hcut]
  rw [hk, hd, hcut] at HBX HLR ⊢
  rw [HBX] at c6 f6 HLR
  obtain ⟨R, HRR⟩ : ∃ R, Hid (doW (now s) x = R) := ⟨_, rfl⟩
  rw [HRR.out] at HLR P1F
  subst hvv
  subst HBX
  have hnp : (s.pend.length + 1) * 40 ≤ 140737488355328 := by omega
  have HSP : Hid ((spendS (addW s x)).1 = 0 ∨ (spendS (addW s x)).1 = 124) := zb.spend_e _
  clear h h1 b1 hk hd hcut HDW hln
  go_enter Try.func69, Try.ntmps69
  go_upto_region 1 with fail
  go_cut [12] (fun cc wx => Hid (P1 B g dv wv s R (.cells #[.string k, .string d, .bool cut] 104 (0, 0)) w wx))
  case first =>
    go_region_law ((first | (have zz := HLR.out; refine step_done (by rfl) 10 11 12 (by rfl) (by rfl) B (.slice va (now s).length vc) (now s) R k d cut (by simp [Act.put]) (by simp [Act.put]) HLR ?_; intro a' c' w5 gr; have A5 : Hid _ := P1F.out _ w5 ⟨gr.own, ⟨gr.bl.os, gr.bl.tape, gr.bl.output, gr.bl.size, gr.bl.block⟩⟩; have c65 := A5.out.1.c6; have f65 := A5.out.1.fz 6; clear gr zz HLR)))
    all_goals (go_wp2; go_meet; exact A5.out.2)
  case rest =>
    have PX : Hid (P1 _ _ _ _ _ _ _ _ _) := hcut
    clear hcut HLR P1F c6 f6
    obtain ⟨v1, hr1, hv1⟩ := PX.out.ex
    obtain ⟨wa, wcp, hwv⟩ := own_formS PX.out.wl
    obtain ⟨n, HNN⟩ : ∃ n, Hid (s.pend.length = n) := ⟨_, rfl⟩
    have c2 := hr1.c2
    have f2 := hr1.fz 2
    have c2a : (wc.alloc (.cells #[.string k, .string d, .bool cut] 104)).cell? ⟨g, 2, none⟩ = some wv := (World.cell?_alloc_lt _ _ _ hr1.lt).trans c2
    obtain ⟨x0, x1, x2⟩ := box3 PX.out.box
    have O4 : Hid ((wc.alloc (.cells #[.string k, .string d, .bool cut] 104)).drew.ownsRow B 104 3 wv n (wws s.pend)) := by have := PX.out.wl; rw [HNN.out] at this; exact this.alloc _
    have hBc : B ≤ wc.heap.size := Nat.le_trans hB PX.out.kp.size
    have AR : Hid (∀ w7 g5 c5, w7.ownsRow B 104 3 (.slice (some ⟨g5, 0, none⟩) (n + 1) c5) (n + 1) (wws s.pend ++ [.string k, .string d, .bool cut]) → (wc.alloc (.cells #[.string k, .string d, .bool cut] 104)).grownBy w7 wv.ownBlock → (wv.ownBlock = some g5 ∨ g5 = wc.heap.size + 1) → ∃ v', Dt g dv wv v' s w7 ∧ Ds B g dv (.slice (some ⟨g5, 0, none⟩) (n + 1) c5) v' (addW s x) (w7.setCell ⟨g, 2, none⟩ (.slice (some ⟨g5, 0, none⟩) (n + 1) c5)) ∧ Kp (xc.Fd g wv) w (w7.setCell ⟨g, 2, none⟩ (.slice (some ⟨g5, 0, none⟩) (n + 1) c5)) ∧ ∀ k, some k = Value.ownBlock (.slice (some ⟨g5, 0, none⟩) (n + 1) c5) → some k = wv.ownBlock ∨ w.heap.size ≤ k) := fun w7 g5 c5 ho7 hg7 hl7 => by
      have hp := PX.out
      rw [← HRR.out] at hp
      rw [← HNN.out] at ho7 ⊢
      exact p2_of H.out hx hl hp (by rw [HX.out]; exact ho7) hg7 hl7
    rw [HNN.out] at hwv hnp
    have hn1 : (n + 1) * 40 ≤ 140737488355328 := hnp
    clear hr1 hv1
    subst hwv
    go_upto_region 2 with fail
    go_cut [22] (fun cc wx => Hid (∃ wv' v', Ds B g dv wv' v' (addW s x) wx ∧ Kp (xc.Fd g (.slice wa n wcp)) w wx ∧ ∀ k, some k = wv'.ownBlock → some k = Value.ownBlock (.slice wa n wcp) ∨ w.heap.size ≤ k))
    case first =>
      go_region_law ((first | (have zz := O4.out; refine step_append_lies _ (by rfl) (.tmp 19) (.tmp 21) 40 (by rfl) B 104 i0 (.agg #[.string ByteArray.empty, .string ByteArray.empty, .bool false]) 3 40 Try.underlying40 HIN.out.1 HIN.out.2.1 HIN.out.2.2.1 HIN.out.2.2.2 rfl (by decide) (.slice wa n wcp) n _ (by simp [Act.eval]) O4.out ⟨wc.heap.size, 0, none⟩ 1 1 [.string k, .string d, .bool cut] (by simp [Act.eval]) rfl (new_wr wc _ _ _ _) (one_wr _ _ _) (by omega) (by unfold maxLen; omega) hn1 (by simp; omega) (wc.heap.size + 1) (by simp) ?_; intro g5 c5 w7 ho7 hg7 hl7 hlt7; have A7 : Hid _ := AR.out w7 g5 c5 ho7 ⟨hg7.os, hg7.tape, hg7.output, hg7.size, hg7.block⟩ hl7; obtain ⟨v7, hr7, hd7, hk7, hn7⟩ := A7.out; have c27 := hr7.c2; have f27 := hr7.fz 2; have D7 : Hid _ := hd7; have K7 : Hid _ := hk7; have N7 : Hid _ := hn7; clear ho7 hg7 hl7 zz hr7 hd7 hk7 hn7 A7)))
      all_goals (go_wp2; go_meet; exact ⟨_, v7, D7.out, K7.out, N7.out⟩)
    case rest =>
      obtain ⟨wv2, v2, hd2, hk2, hn2⟩ := hcut.out
      have CD : Hid (Calls _ _ _ _ _) := diesD hd2.row hd2.ok.arm ho
      have FIN : Hid (∀ W, Dt g dv wv2 v2 (spendS (addW s x)).2 W → Kp (fun k => k = g) wc W → Rd B g (.slice wa n wcp) (spendS (addW s x)).2 w W) := fun W hr k => ⟨dv, wv2, v2, ds_row hd2 hr k (dur_spend _) (pend_spend _) (ok_spend hd2.ok), hk2.trans (k.mono (fun _ e => .inl e)), hn2⟩
      clear hcut hd2 hk2 hn2 AR O4 c2 f2 c2a x0 x1 x2
      rcases HSP.out with hz | hz
      · rw [hz] at CD
        have HZ : Hid _ := hz
        clear hz
        have hdc : decide ((0 : Int) ≠ 0) = false := by decide
        rw [hdc] at CD
        go_wp2_with fail
        refine CD.out.mono ?_
        rintro _ w9 ⟨rfl, r9, k9⟩
        have F9 : Hid _ := FIN.out w9 r9 k9
        clear r9 k9
        go_wp2
        go_ret
        exact ⟨by rw [HZ.out]; rfl, F9.out⟩
      · rw [hz] at CD
        have HZ : Hid _ := hz
        clear hz
        have hdc : decide ((124 : Int) ≠ 0) = true := by decide
        rw [hdc] at CD
        go_wp2_with fail
        refine CD.out.mono ?_
        rintro _ w9 ⟨rfl, r9, k9⟩
        have F9 : Hid _ := FIN.out w9 r9 k9
        clear r9 k9
        go_wp2
        go_ret
        exact ⟨by rw [HZ.out]; rfl, F9.out⟩
end Go.Proofs.Ytdhhbkkinlmgnaa.xe
