import Derived.Test.YtmindflfjocjlaaGreatQ09
import Derived.Deep.AppendLies
namespace Go.Proofs.YtmindflfjocjlaaGreat.xe
open Go.RowKit Go.PlainAid Go.Maps Go.Shelf
open Go.Proofs.YtmindflfjocjlaaGreat.ca Go.Proofs.YtmindflfjocjlaaGreat.cb Go.Proofs.YtmindflfjocjlaaGreat.cp Go.Proofs.YtmindflfjocjlaaGreat.kp Go.Proofs.YtmindflfjocjlaaGreat.ka Go.Proofs.YtmindflfjocjlaaGreat.ya Go.Proofs.YtmindflfjocjlaaGreat.yb Go.Proofs.YtmindflfjocjlaaGreat.yc Go.Proofs.YtmindflfjocjlaaGreat.ye Go.Proofs.YtmindflfjocjlaaGreat.yf Go.Proofs.YtmindflfjocjlaaGreat.yi Go.Proofs.YtmindflfjocjlaaGreat.yk Go.Proofs.YtmindflfjocjlaaGreat.yl Go.Proofs.YtmindflfjocjlaaGreat.zf Go.Proofs.YtmindflfjocjlaaGreat.zg Go.Proofs.YtmindflfjocjlaaGreat.xa Go.Proofs.YtmindflfjocjlaaGreat.xb Go.Proofs.YtmindflfjocjlaaGreat.xc Go.Proofs.YtmindflfjocjlaaGreat.xd
set_option linter.unusedVariables false
set_option linter.unusedSimpArgs false
theorem step_done {ops : Array Oper} {o : Oper} {a : Act} {w : World} {K : Act → World → Prop} {Q : Exit → Act → World → Prop} {E : Prop} (hg : o.guard = none) (i j dd : Nat)
    (hop : o.op = .call { callee := .value (.func 38), args := #[.tmp i, .tmp j], argTypes := #[45, 81] }) (hd : o.dst = some dd) (B : Nat) (v : Value) (r R : List Rec) (k d : ByteArray) (cut : Bool)
    (hy : a.tmps[i]?.getD undef = v) (hy2 : a.tmps[j]?.getD undef = .agg #[.string k, .string d, .bool cut]) (HR : Hid (Lr B v r w ∧ dn k d r cut = R ∧ r.length < 3518437208883))
    (hK : ∀ a' c' w', Gr w.heap.size w (.slice a' R.length c') R w' → K { tmps := a.tmps.setIfInBounds dd (.slice a' R.length c'), defers := a.defers } w') :
    if Region.wanted o (yielded ops a.tmps) = true then Oper.wp Tryz.prog o a w K Q else E := by
  have hw : Region.wanted o (yielded ops a.tmps) = true := by simp [Region.wanted, hg]
  rw [if_pos hw]
  have C := doneC0 v r k d cut R w HR.out.1 HR.out.2.1 HR.out.2.2
  have HKK : Hid _ := hK
  clear hK HR
  unfold Oper.wp execOp
  simp only [hop]
  go_simp
  refine C.mono ?_
  rintro e w' ⟨v', rfl, h1⟩
  obtain ⟨a', c', rfl⟩ := lr_form h1.own
  exact HKK.out _ _ _ h1
theorem new_wr (W : World) (u v x : Value) (t : TypeId) : ∀ (j : Nat) (y : Value), [u, v, x][j]? = some y → (W.alloc (.cells #[u, v, x] t)).cell? (Addr.add ⟨W.heap.size, 0, none⟩ j) = some y := new_three W u v x t
theorem one_wr (k d : ByteArray) (c : Bool) : ∀ u ∈ [Value.string k, .string d, .bool c], u.oneCell' = true := by
  intro u hu; simp only [List.mem_cons, List.not_mem_nil, or_false] at hu; rcases hu with rfl | rfl | rfl <;> rfl
theorem box3 {w : World} {p : Nat} {x0 x1 x2 : Value} {t : TypeId} (h : w.heap[p]? = some (.cells #[x0, x1, x2] t (0, 0))) : w.cell? ⟨p, 0, none⟩ = some x0 ∧ w.cell? ⟨p, 1, none⟩ = some x1 ∧ w.cell? ⟨p, 2, none⟩ = some x2 :=
  ⟨cell_of_row _ _ 0 _ _ _ h, cell_of_row _ _ 1 _ _ _ h, cell_of_row _ _ 2 _ _ _ h⟩
-- behind the first line: what is there now is turned
structure P1 (B g : Nat) (dv wv : Value) (s : S) (R : List Rec) (bx : Obj) (w wx : World) : Prop where
  ex : ∃ v', Dt g dv wv v' s wx ∧ Lr B v' R wx
  dl : Lr B dv s.dur wx
  wl : wx.ownsRow B 81 3 wv s.pend.length (wws s.pend)
  box : wx.heap[w.heap.size]? = some bx
  kp : Kp (fun k => k = g) w wx
theorem p1_of {B g : Nat} {dv wv vv v' : Value} {s : S} {R : List Rec} {bx : Obj} {w w5 : World} (h : Ds B g dv wv vv s w) (hB : B ≤ w.heap.size) (gr : Gr (w.alloc bx).heap.size (w.alloc bx) v' R w5) : Dt g dv wv vv s w5 ∧ P1 B g dv wv s R bx w (w5.setCell ⟨g, 6, none⟩ v') := by
  have b1 : Below w.heap.size w (w.alloc bx) := (Below.refl _ w).alloc (Nat.le_refl _) _
  have hz : (w.alloc bx).heap.size = w.heap.size + 1 := by simp
  have b5 : Below w.heap.size w w5 := b1.trans (gr.bl.mono (by omega))
  have h5 := h.later b5
  have k6 : Kp (fun k => k = g) w5 (w5.setCell ⟨g, 6, none⟩ v') := Kp.setCell _ _ _ _ rfl
  have hgl := h.row.lt
  refine ⟨h5.row, ⟨v', h5.row.set6 v', ?_⟩, ?_, ?_, ?_, (Kp.of_below b5).trans k6⟩
  · exact own_kp (own_low gr.own (by omega)) k6 (fun j hj e => own_tag gr.own h5.row dr1 (by rw [← e]; exact hj))
  · exact own_kp h5.dl k6 (fun j hj e => own_tag h5.dl h5.row dr1 (by rw [← e]; exact hj))
  · exact own_kp h5.wl k6 (fun j hj e => own_tag h5.wl h5.row dr2 (by rw [← e]; exact hj))
  · rw [k6.block _ (by have := gr.bl.size; omega) (by omega), gr.bl.block _ (by omega)]
    exact heap_alloc_new w bx
-- behind the second: the write is pending
theorem p2_of {B g : Nat} {dv wv vv : Value} {s : S} {x : W} {bx o : Obj} {w wx w7 : World} {g5 c5 : Nat} (h : Ds B g dv wv vv s w) (hx : OkW x) (hl : s.dur.length + s.pend.length + 1 < 3518437208883) (p : P1 B g dv wv s (doW (now s) x) bx w wx)
    (ho : w7.ownsRow B 81 3 (.slice (some ⟨g5, 0, none⟩) (s.pend.length + 1) c5) (s.pend.length + 1) (wws s.pend ++ ww x)) (hg : (wx.alloc o).grownBy w7 wv.ownBlock) (hlies : wv.ownBlock = some g5 ∨ g5 = wx.heap.size + 1) :
    ∃ v', Dt g dv wv v' s w7 ∧ Ds B g dv (.slice (some ⟨g5, 0, none⟩) (s.pend.length + 1) c5) v' (addW s x) (w7.setCell ⟨g, 2, none⟩ (.slice (some ⟨g5, 0, none⟩) (s.pend.length + 1) c5)) ∧ Kp (xc.Fd g wv) w (w7.setCell ⟨g, 2, none⟩ (.slice (some ⟨g5, 0, none⟩) (s.pend.length + 1) c5)) ∧ ∀ k, some k = Value.ownBlock (.slice (some ⟨g5, 0, none⟩) (s.pend.length + 1) c5) → some k = wv.ownBlock ∨ w.heap.size ≤ k := by
  obtain ⟨⟨v', hr, hv⟩, hd, hw, hb, kx⟩ := p
  have b1 : Below wx.heap.size wx (wx.alloc o) := (Below.refl _ wx).alloc (Nat.le_refl _) _
  have k1 : Kp (fun _ => False) wx (wx.alloc o) := Kp.of_below b1
  have k2 : Kp (fun k => some k = wv.ownBlock) (wx.alloc o) w7 := ⟨hg.os, hg.tape, hg.output, hg.size, fun k hk hn => hg.block k hk hn⟩
  have hw1 := own_kp hw k1 (fun _ _ e => e)
  have hr1 : Dt g dv wv v' s (wx.alloc o) := (k1.block _ hr.lt (fun e => e)).trans hr
  have hr7 : Dt g dv wv v' s w7 := (k2.block _ hr1.lt (own_tag hw1 hr1 dr2)).trans hr1
  have apart : ∀ {u : Value} {r : List Rec}, Lr B u r (wx.alloc o) → ∀ j, some j = u.ownBlock → ¬ some j = wv.ownBlock := fun {u r} hu j hj e => by
    rcases hu.2 with ⟨rfl, _⟩ | ⟨g', cap, cur, rfl, _, hh, _⟩
    · cases hj
    · have : j = g' := Option.some.inj hj
      subst this
      exact own_tag hw1 hh (by decide) e
  have hd7 : Lr B dv s.dur w7 := own_kp (own_kp hd k1 (fun _ _ e => e)) k2 (apart (own_kp hd k1 (fun _ _ e => e)))
  have hv7 : Lr B v' (doW (now s) x) w7 := own_kp (own_kp hv k1 (fun _ _ e => e)) k2 (apart (own_kp hv k1 (fun _ _ e => e)))
  have k3 : Kp (fun k => k = g) w7 (w7.setCell ⟨g, 2, none⟩ (.slice (some ⟨g5, 0, none⟩) (s.pend.length + 1) c5)) := Kp.setCell _ _ _ _ rfl
  refine ⟨v', hr7, ⟨hr7.set2 _, own_kp hd7 k3 (fun j hj e => own_tag hd7 hr7 dr1 (by rw [← e]; exact hj)), ?_, ?_, h.low, ok_add h.ok hx hl⟩, ?_, ?_⟩
  · rw [now_add]
    exact own_kp hv7 k3 (fun j hj e => own_tag hv7 hr7 dr1 (by rw [← e]; exact hj))
  · have e1 : (addW s x).pend.length = s.pend.length + 1 := by simp [addW]
    have e2 : wws (addW s x).pend = wws s.pend ++ ww x := by simp [wws, addW]
    rw [e1, e2]
    exact own_kp ho k3 (fun j hj e => own_tag ho hr7 dr2 (by rw [← e]; exact hj))
  · exact (((kx.mono (fun _ e => .inl e)).trans (Kp.of_below b1)).trans (k2.mono (fun _ e => .inr e))).trans (k3.mono (fun _ e => .inl e))
  · intro k hk
    have hk : k = g5 := Option.some.inj hk
    subst hk
    rcases hlies with e | e
    · exact .inl e.symm
    · exact .inr (by have := kx.size; omega)
set_option maxRecDepth 40000 in
set_option maxHeartbeats 12800000 in
theorem writeD {B g : Nat} {dv wv vv : Value} {s : S} {w : World} (x : W) (h : Ds B g dv wv vv s w) (hB : B ≤ w.heap.size) (ho : s.off = false) (hx : OkW x) (hl : s.dur.length + s.pend.length + 1 < 3518437208883) :
    Calls Tryz.prog 68 #[.pointer (some ⟨g, 0, none⟩), .agg #[.string x.key, .string x.data, .bool x.cut]] w fun e w' => e = .returned (.int .i64 (spendS (addW s x)).1) ∧ Rd B g wv (spendS (addW s x)).2 w w' := by
  have H : Hid (Ds B g dv wv vv s w) := h
  have HDW : Hid (dn x.key x.data (now s) x.cut = doW (now s) x) := dn_doW x (now s) h.ok.snow
  have hln := h.ok.lnow
  obtain ⟨va, vc, hvv⟩ := lr_form h.vl
  have hgl := h.row.lt
  obtain ⟨i0, hi0, hz0, hz1, hz2⟩ := info_parts info_W
  have HIN : Hid (_ ∧ _ ∧ _ ∧ _) := ⟨hi0, hz0, hz1, hz2⟩
  clear hi0 hz0 hz1 hz2
  obtain ⟨bx, HBX⟩ : ∃ bx, bx = Obj.cells #[.string x.key, .string x.data, .bool x.cut] 81 (0, 0) := ⟨_, rfl⟩
  have b1 : Below w.heap.size w (w.alloc bx) := (Below.refl _ w).alloc (Nat.le_refl _) _
  have h1 := h.later b1
  have HLR : Hid (Lr B vv (now s) (w.alloc bx).drew ∧ dn x.key x.data (now s) x.cut = doW (now s) x ∧ (now s).length < 3518437208883) := ⟨h1.vl, HDW.out, hln⟩
  have c6 := h1.row.c6
  have f6 := h1.row.fz 6
  have P1F : Hid (∀ v' w5, Gr (w.alloc bx).heap.size (w.alloc bx) v' (doW (now s) x) w5 → Dt g dv wv vv s w5 ∧ P1 B g dv wv s (doW (now s) x) bx w (w5.setCell ⟨g, 6, none⟩ v')) := fun v' w5 gr => p1_of H.out hB gr
  obtain ⟨k, hk⟩ : ∃ k, x.key = k := ⟨_, rfl⟩
  obtain ⟨d, hd⟩ : ∃ d, x.data = d := ⟨_, rfl⟩
  obtain ⟨cut, hcut⟩ : ∃ c, x.cut = c := ⟨_, rfl⟩
  have HX : Hid (x = ⟨cut, k, d⟩) := by show _ = _; rw [← hk, ← hd, ← hcut]
  rw [hk, hd, hcut] at HBX HLR ⊢
  rw [HBX] at c6 f6 HLR
  obtain ⟨R, HRR⟩ : ∃ R, Hid (doW (now s) x = R) := ⟨_, rfl⟩
  rw [HRR.out] at HLR P1F
  subst hvv
  subst HBX
  have hnp : (s.pend.length + 1) * 40 ≤ 140737488355328 := by omega
  have HSP : Hid ((spendS (addW s x)).1 = 0 ∨ (spendS (addW s x)).1 = 124) := zb.spend_e _
  clear h h1 b1 hk hd hcut HDW hln
  go_enter Tryz.func68, Tryz.ntmps68
  go_upto_region 1 with fail
  go_cut [12] (fun cc wx => Hid (P1 B g dv wv s R (.cells #[.string k, .string d, .bool cut] 81 (0, 0)) w wx))
  case first =>
    go_region_law ((first | (have zz := HLR.out; refine step_done (by rfl) 10 11 12 (by rfl) (by rfl) B (.slice va (now s).length vc) (now s) R k d cut (by simp [Act.put]) (by simp [Act.put]) HLR ?_; intro a' c' w5 gr; have A5 : Hid _ := P1F.out _ w5 ⟨gr.own, ⟨gr.bl.os, gr.bl.tape, gr.bl.output, gr.bl.size, gr.bl.block⟩⟩; have c65 := A5.out.1.c6; have f65 := A5.out.1.fz 6; clear gr zz HLR)))
    all_goals (go_wp2; go_meet; exact A5.out.2)
  case rest =>
    have PX : Hid (P1 _ _ _ _ _ _ _ _ _) := hcut
    clear hcut HLR P1F c6 f6
    obtain ⟨v1, hr1, hv1⟩ := PX.out.ex
    obtain ⟨wa, wcp, hwv⟩ := own_formS PX.out.wl
    obtain ⟨n, HNN⟩ : ∃ n, Hid (s.pend.length = n) := ⟨_, rfl⟩
    have c2 := hr1.c2
    have f2 := hr1.fz 2
    have c2a : (wc.alloc (.cells #[.string k, .string d, .bool cut] 81)).cell? ⟨g, 2, none⟩ = some wv := (World.cell?_alloc_lt _ _ _ hr1.lt).trans c2
    obtain ⟨x0, x1, x2⟩ := box3 PX.out.box
    have O4 : Hid ((wc.alloc (.cells #[.string k, .string d, .bool cut] 81)).drew.ownsRow B 81 3 wv n (wws s.pend)) := by have := PX.out.wl; rw [HNN.out] at this; exact this.alloc _
    have hBc : B ≤ wc.heap.size := Nat.le_trans hB PX.out.kp.size
    have AR : Hid (∀ w7 g5 c5, w7.ownsRow B 81 3 (.slice (some ⟨g5, 0, none⟩) (n + 1) c5) (n + 1) (wws s.pend ++ [.string k, .string d, .bool cut]) → (wc.alloc (.cells #[.string k, .string d, .bool cut] 81)).grownBy w7 wv.ownBlock → (wv.ownBlock = some g5 ∨ g5 = wc.heap.size + 1) → ∃ v', Dt g dv wv v' s w7 ∧ Ds B g dv (.slice (some ⟨g5, 0, none⟩) (n + 1) c5) v' (addW s x) (w7.setCell ⟨g, 2, none⟩ (.slice (some ⟨g5, 0, none⟩) (n + 1) c5)) ∧ Kp (xc.Fd g wv) w (w7.setCell ⟨g, 2, none⟩ (.slice (some ⟨g5, 0, none⟩) (n + 1) c5)) ∧ ∀ k, some k = Value.ownBlock (.slice (some ⟨g5, 0, none⟩) (n + 1) c5) → some k = wv.ownBlock ∨ w.heap.size ≤ k) := fun w7 g5 c5 ho7 hg7 hl7 => by
      have hp := PX.out
      rw [← HRR.out] at hp
      rw [← HNN.out] at ho7 ⊢
      exact p2_of H.out hx hl hp (by rw [HX.out]; exact ho7) hg7 hl7
    rw [HNN.out] at hwv hnp
    have hn1 : (n + 1) * 40 ≤ 140737488355328 := hnp
    clear hr1 hv1
    subst hwv
    go_upto_region 2 with fail
    go_cut [22] (fun cc wx => Hid (∃ wv' v', Ds B g dv wv' v' (addW s x) wx ∧ Kp (xc.Fd g (.slice wa n wcp)) w wx ∧ ∀ k, some k = wv'.ownBlock → some k = Value.ownBlock (.slice wa n wcp) ∨ w.heap.size ≤ k))
    case first =>
      go_region_law ((first | (have zz := O4.out; refine step_append_lies _ (by rfl) (.tmp 19) (.tmp 21) 46 (by rfl) B 81 i0 (.agg #[.string ByteArray.empty, .string ByteArray.empty, .bool false]) 3 40 Tryz.underlying46 HIN.out.1 HIN.out.2.1 HIN.out.2.2.1 HIN.out.2.2.2 rfl (by decide) (.slice wa n wcp) n _ (by simp [Act.eval]) O4.out ⟨wc.heap.size, 0, none⟩ 1 1 [.string k, .string d, .bool cut] (by simp [Act.eval]) rfl (new_wr wc _ _ _ _) (one_wr _ _ _) (by omega) (by unfold maxLen; omega) hn1 (by simp; omega) (wc.heap.size + 1) (by simp) ?_; intro g5 c5 w7 ho7 hg7 hl7 hlt7; have A7 : Hid _ := AR.out w7 g5 c5 ho7 ⟨hg7.os, hg7.tape, hg7.output, hg7.size, hg7.block⟩ hl7; obtain ⟨v7, hr7, hd7, hk7, hn7⟩ := A7.out; have c27 := hr7.c2; have f27 := hr7.fz 2; have D7 : Hid _ := hd7; have K7 : Hid _ := hk7; have N7 : Hid _ := hn7; clear ho7 hg7 hl7 zz hr7 hd7 hk7 hn7 A7)))
      all_goals (go_wp2; go_meet; exact ⟨_, v7, D7.out, K7.out, N7.out⟩)
    case rest =>
      obtain ⟨wv2, v2, hd2, hk2, hn2⟩ := hcut.out
      have CD : Hid (Calls _ _ _ _ _) := diesD hd2.row hd2.ok.arm ho
      have FIN : Hid (∀ W, Dt g dv wv2 v2 (spendS (addW s x)).2 W → Kp (fun k => k = g) wc W → Rd B g (.slice wa n wcp) (spendS (addW s x)).2 w W) := fun W hr k => ⟨dv, wv2, v2, ds_row hd2 hr k (dur_spend _) (pend_spend _) (ok_spend hd2.ok), hk2.trans (k.mono (fun _ e => .inl e)), hn2⟩
      clear hcut hd2 hk2 hn2 AR O4 c2 f2 c2a x0 x1 x2
      rcases HSP.out with hz | hz
      · rw [hz] at CD
        have HZ : Hid _ := hz
        clear hz
        have hdc : decide ((0 : Int) ≠ 0) = false := by decide
        rw [hdc] at CD
        go_wp2_with fail
        refine CD.out.mono ?_
        rintro _ w9 ⟨rfl, r9, k9⟩
        have F9 : Hid _ := FIN.out w9 r9 k9
        clear r9 k9
        go_wp2
        go_ret
        exact ⟨by rw [HZ.out]; rfl, F9.out⟩
      · rw [hz] at CD
        have HZ : Hid _ := hz
        clear hz
        have hdc : decide ((124 : Int) ≠ 0) = true := by decide
        rw [hdc] at CD
        go_wp2_with fail
        refine CD.out.mono ?_
        rintro _ w9 ⟨rfl, r9, k9⟩
        have F9 : Hid _ := FIN.out w9 r9 k9
        clear r9 k9
        go_wp2
        go_ret
        exact ⟨by rw [HZ.out]; rfl, F9.out⟩
end Go.Proofs.YtmindflfjocjlaaGreat.xe

namespace Go.Proofs.YtmindflfjocjlaaGreat.xf
open Go.RowKit Go.PlainAid Go.Maps Go.Shelf
open Go.Proofs.YtmindflfjocjlaaGreat.ca Go.Proofs.YtmindflfjocjlaaGreat.cb Go.Proofs.YtmindflfjocjlaaGreat.cp Go.Proofs.YtmindflfjocjlaaGreat.kp Go.Proofs.YtmindflfjocjlaaGreat.ka Go.Proofs.YtmindflfjocjlaaGreat.ya Go.Proofs.YtmindflfjocjlaaGreat.yb Go.Proofs.YtmindflfjocjlaaGreat.yc Go.Proofs.YtmindflfjocjlaaGreat.ye Go.Proofs.YtmindflfjocjlaaGreat.yf Go.Proofs.YtmindflfjocjlaaGreat.yi Go.Proofs.YtmindflfjocjlaaGreat.yk Go.Proofs.YtmindflfjocjlaaGreat.yl Go.Proofs.YtmindflfjocjlaaGreat.zf Go.Proofs.YtmindflfjocjlaaGreat.zg Go.Proofs.YtmindflfjocjlaaGreat.xa Go.Proofs.YtmindflfjocjlaaGreat.xb Go.Proofs.YtmindflfjocjlaaGreat.xc Go.Proofs.YtmindflfjocjlaaGreat.xd Go.Proofs.YtmindflfjocjlaaGreat.xe
set_option linter.unusedVariables false
set_option linter.unusedSimpArgs false
theorem rd_pre {B g : Nat} {wv : Value} {s' : S} {w w1 w2 : World} (b : Below w.heap.size w w1) (r : Rd B g wv s' w1 w2) : Rd B g wv s' w w2 := by
  obtain ⟨dv, wv', vv, h, k, n⟩ := r
  refine ⟨dv, wv', vv, h, (Kp.of_below b).trans k, fun j hj => ?_⟩
  rcases n j hj with e | e
  · exact .inl e
  · exact .inr (Nat.le_trans b.size e)
set_option maxRecDepth 40000 in
set_option maxHeartbeats 6400000 in
theorem cutD {B g : Nat} {dv wv vv : Value} {s : S} {w : World} (k : ByteArray) (h : Ds B g dv wv vv s w) (hB : B ≤ w.heap.size) (hl : s.dur.length + s.pend.length + 1 < 3518437208883) :
    Calls Tryz.prog 54 #[.pointer (some ⟨g, 0, none⟩), .string k] w fun e w' => e = .returned (.int .i64 (cutS s k).1) ∧ Rd B g wv (cutS s k).2 w w' := by
  have c3 := h.row.c3
  have c6 := h.row.c6
  have H : Hid (Ds B g dv wv vv s w) := h
  have CG : Hid (∀ w, Calls _ _ _ _ _) := fun w => goesD k w
  have CF : Hid (Calls _ _ _ _ _) := findC vv (now s) k w h.vl h.ok.snow (by have := h.ok.lnow; omega)
  have FS : Hid (∀ i, Fnd k (now s) i → (i = -1 ∧ rget k (now s) = none) ∨ (¬ i < 0 ∧ (rget k (now s)).isSome = true)) := fun i hi => by
    rcases hi with ⟨h1, h2⟩ | ⟨n, d, h1, h2, h3⟩
    · exact .inl ⟨h2, h1⟩
    · exact .inr ⟨by omega, by rw [h3]; rfl⟩
  obtain ⟨a, c, hvv⟩ := lr_form h.vl
  unfold cutS refS
  cases ho : s.off with
  | true =>
    rw [ho] at c3
    simp only [if_true]
    rw [if_pos (by simp)]
    clear h CG CF
    go_enter Tryz.func54, Tryz.ntmps54
    go_wp2
    go_ret
    exact ⟨rfl, Rd.refl H.out (Below.refl _ _)⟩
  | false =>
    rw [ho] at c3
    simp only [Bool.false_eq_true, if_false]
    by_cases hk : 1 ≤ k.size ∧ k.size ≤ 64
    · rw [if_pos hk, if_neg (by simp)]
      have CW : Hid (Calls _ _ _ _ _) := writeD ⟨true, k, ⟨#[]⟩⟩ h hB ho ⟨hk.1, hk.2, by show 0 ≤ _; omega⟩ hl
      rw [decide_eq_true hk] at CG
      obtain ⟨o, HO⟩ : ∃ o, Hid (rget k (now s) = o) := ⟨_, rfl⟩
      rw [HO.out] at FS ⊢
      clear hk h ho
      subst hvv
      obtain ⟨L, hL⟩ : ∃ L, (now s).length = L := ⟨_, rfl⟩
      rw [hL] at c6 CF
      clear hL
      go_enter Tryz.func54, Tryz.ntmps54
      go_wp2_with fail
      refine (CG.out _).mono ?_
      rintro _ _ ⟨rfl, hw⟩; rw [hw]; clear hw
      go_wp2_with fail
      refine CF.out.mono ?_
      rintro _ _ ⟨⟨i, rfl, hi⟩, hw⟩; rw [hw]; clear hw CF
      rcases FS.out i hi with ⟨rfl, rfl⟩ | ⟨hi0, hsm⟩
      · clear hi FS
        go_wp2
        go_ret
        exact ⟨rfl, Rd.refl H.out (Below.refl _ _)⟩
      · obtain ⟨dd, rfl⟩ := Option.isSome_iff_exists.1 hsm
        clear hi FS hsm
        go_wp2_with fail
        refine CW.out.mono ?_
        rintro _ w2 ⟨rfl, r2⟩
        have R2 : Hid (Rd _ _ _ _ _ _) := r2
        clear r2
        go_wp2
        go_ret
        exact ⟨rfl, R2.out⟩
    · rw [if_neg hk, if_pos (by simp)]
      rw [decide_eq_false hk] at CG
      clear hk h CF
      go_enter Tryz.func54, Tryz.ntmps54
      go_wp2_with fail
      refine (CG.out _).mono ?_
      rintro _ _ ⟨rfl, hw⟩; rw [hw]; clear hw
      go_wp2
      go_ret
      exact ⟨rfl, Rd.refl H.out (Below.refl _ _)⟩
theorem step_cnts {ops : Array Oper} {o : Oper} {a : Act} {w : World} {K : Act → World → Prop} {Q : Exit → Act → World → Prop} {E : Prop} (hg : o.guard = none) (i dd : Nat)
    (hop : o.op = .call { callee := .value (.func 67), args := #[.tmp i], argTypes := #[45] }) (hd : o.dst = some dd) (B : Nat) (v : Value) (r : List Rec)
    (hy : a.tmps[i]?.getD undef = v) (HR : Hid (Lr B v r w ∧ OkR r ∧ r.length < 3518437208883)) (T : Nat) (HT : Hid (tot r = T))
    (hK : ∀ w', Below w.heap.size w w' → K { tmps := a.tmps.setIfInBounds dd (.int .i64 (T : Int)), defers := a.defers } w') :
    if Region.wanted o (yielded ops a.tmps) = true then Oper.wp Tryz.prog o a w K Q else E := by
  have hw : Region.wanted o (yielded ops a.tmps) = true := by simp [Region.wanted, hg]
  rw [if_pos hw]
  have C := cntsC v r w HR.out.1 HR.out.2.1 HR.out.2.2
  rw [HT.out] at C
  have HKK : Hid _ := hK
  clear hK HR
  unfold Oper.wp execOp
  simp only [hop]
  go_simp
  refine C.mono ?_
  rintro e w' ⟨rfl, n, hn⟩
  exact HKK.out _ (by rw [hn]; exact zh.below_dN (Below.refl _ _) n)
set_option maxRecDepth 40000 in
set_option maxHeartbeats 12800000 in
theorem putD {B g : Nat} {dv wv vv : Value} {s : S} {w : World} (k d : ByteArray) (h : Ds B g dv wv vv s w) (hB : B ≤ w.heap.size) (hl : s.dur.length + s.pend.length + 1 < 3518437208883) (hd : d.size ≤ 140737488355328) :
    Calls Tryz.prog 27 #[.pointer (some ⟨g, 0, none⟩), .string k, .string d] w fun e w' => e = .returned (.int .i64 (putS s k d).1) ∧ Rd B g wv (putS s k d).2 w w' := by
  have c3 := h.row.c3
  have H : Hid (Ds B g dv wv vv s w) := h
  have CG : Hid (∀ w, Calls _ _ _ _ _) := fun w => goesD k w
  unfold putS refS
  cases ho : s.off with
  | true =>
    rw [ho] at c3
    simp only [if_true]
    rw [if_pos (by simp)]
    clear h CG
    go_enter Tryz.func27, Tryz.ntmps27
    go_wp2
    go_ret
    exact ⟨rfl, Rd.refl H.out (Below.refl _ _)⟩
  | false =>
    rw [ho] at c3
    simp only [Bool.false_eq_true, if_false]
    by_cases hk : 1 ≤ k.size ∧ k.size ≤ 64
    · rw [if_pos hk, if_neg (by simp)]
      rw [decide_eq_true hk] at CG
      by_cases hz : d.size ≤ 1048576
      · rw [if_pos hz]
        have hz1 : ¬ (1048576 : Int) < (d.size : Int) := by omega
        have hxx : OkW ⟨false, k, d⟩ := ⟨hk.1, hk.2, hz⟩
        have HXX : Hid _ := hxx
        obtain ⟨w0, HW0⟩ : ∃ w0, w0 = w.alloc (.cells #[.string k, .string d, .bool false] 81) := ⟨_, rfl⟩
        have b0 : Below w.heap.size w w0 := by rw [HW0]; exact (Below.refl _ w).alloc (Nat.le_refl _) _
        have hbx : w0.heap[w.heap.size]? = some (.cells #[.string k, .string d, .bool false] 81 (0, 0)) := by rw [HW0]; exact heap_alloc_new w _
        have h0 := h.later b0
        have hln := h.ok.lnow
        have hrl := len_doW (now s) ⟨false, k, d⟩
        have hln2 : (now s).length + 1 < 3518437208883 := by have := len_do s.dur s.pend; show (s.pend.foldl doW s.dur).length + 1 < _; omega
        have HOR : Hid (OkR (put k d (now s)) ∧ (put k d (now s)).length < 3518437208883) := ⟨ok_doW (x := ⟨false, k, d⟩) h.ok.now hxx, by have := len_put k d (now s); omega⟩
        have C1 : Hid (Calls _ _ _ _ _) := cntsC vv (now s) w0 h0.vl h.ok.now hln
        obtain ⟨T1, HT1⟩ : ∃ T, Hid (tot (now s) = T) := ⟨_, rfl⟩
        obtain ⟨T2, HT2⟩ : ∃ T, Hid (tot (put k d (now s)) = T) := ⟨_, rfl⟩
        rw [HT1.out] at C1
        rw [HT1.out, HT2.out]
        have c60 := h0.row.c6
        obtain ⟨va, vc, hvv⟩ := lr_form h.vl
        subst hvv
        have HDN : Hid (dn k d (now s) false = put k d (now s)) := dn_false k d _ h.ok.snow
        obtain ⟨R, HR⟩ : ∃ R, Hid (put k d (now s) = R) := ⟨_, rfl⟩
        rw [HR.out] at HDN HOR HT2
        have HB0 : Hid (Below w.heap.size w w0) := b0
        have HBX : Hid _ := hbx
        have CW : Hid (∀ wx, Below w.heap.size w wx → Calls Tryz.prog 68 #[.pointer (some ⟨g, 0, none⟩), .agg #[.string k, .string d, .bool false]] wx fun e w' => e = .returned (.int .i64 (spendS (addW s ⟨false, k, d⟩)).1) ∧ Rd B g wv (spendS (addW s ⟨false, k, d⟩)).2 w w') := fun wx b => by
          refine (writeD ⟨false, k, d⟩ (H.out.later b) (Nat.le_trans hB b.size) ho HXX.out hl).mono ?_
          rintro _ w' ⟨rfl, r⟩
          exact ⟨rfl, rd_pre b r⟩
        clear h h0 hk b0 hbx hxx hrl
        go_enter Tryz.func27, Tryz.ntmps27
        go_wp2_with fail
        refine (CG.out _).mono ?_
        rintro _ _ ⟨rfl, hw⟩; rw [hw]; clear hw
        go_upto_region 9 with fail
        rw [← HW0]
        clear HW0
        go_wp2_with fail
        refine C1.out.mono ?_
        rintro _ w1 ⟨rfl, hw⟩
        have b1 : Below w0.heap.size w0 w1 := by
          obtain ⟨m, hm⟩ := hw
          rw [hm]
          exact zh.below_dN (Below.refl _ _) m
        have HB1 : Hid (Below w.heap.size w w1) := HB0.out.trans (b1.mono HB0.out.size)
        have hb1 : w1.heap[w.heap.size]? = some (.cells #[.string k, .string d, .bool false] 81 (0, 0)) := (b1.block _ (Array.getElem?_eq_some_iff.1 HBX.out).1).trans HBX.out
        obtain ⟨x0, x1, x2⟩ := box3 hb1
        have HX1 : Hid _ := hb1
        have h1 := H.out.later HB1.out
        have c61 := h1.row.c6
        have HLR : Hid (Lr B (.slice va (now s).length vc) (now s) w1.drew ∧ dn k d (now s) false = R ∧ (now s).length < 3518437208883) := ⟨h1.vl, HDN.out, hln⟩
        have HGR : Hid (∀ a' c' w5, Gr w1.heap.size w1 (.slice a' R.length c') R w5 → (Lr w1.heap.size (.slice a' R.length c') R w5 ∧ OkR R ∧ R.length < 3518437208883) ∧ Below w1.heap.size w1 w5) := fun a' c' w5 gr => ⟨⟨gr.own, HOR.out.1, HOR.out.2⟩, gr.bl⟩
        clear hw b1 hb1 h1 c60 C1 HB0 HBX
        go_upto_region 10 with fail
        go_cut [10] (fun cc wx => cc = .int .i64 (T2 : Int) ∧ Hid (Below w1.heap.size w1 wx))
        case first =>
          go_region_law ((first
            | (have zz := HLR.out; refine step_done (by rfl) 34 35 36 (by rfl) (by rfl) B (.slice va (now s).length vc) (now s) R k d false (by simp [Act.put]) (by simp [Act.put]) HLR ?_; intro a' c' w5 gr; have A5 : Hid _ := HGR.out a' c' w5 ⟨gr.own, ⟨gr.bl.os, gr.bl.tape, gr.bl.output, gr.bl.size, gr.bl.block⟩⟩; have L5 : Hid (Lr w1.heap.size (.slice a' R.length c') R w5 ∧ OkR R ∧ R.length < 3518437208883) := A5.out.1; clear gr zz HLR)
            | (have zz := L5.out; refine step_cnts (by rfl) 36 37 (by rfl) (by rfl) w1.heap.size (.slice a' R.length c') R (by simp [Act.put]) L5 T2 HT2 ?_; intro w6 b6; have B6 : Hid (Below w1.heap.size w1 w6) := A5.out.2.trans (Below.mono (⟨b6.os, b6.tape, b6.output, b6.size, b6.block⟩ : Below w5.heap.size w5 w6) A5.out.2.size); clear b6 zz L5)))
          all_goals (go_wp2; go_meet; exact ⟨rfl, B6.out⟩)
        case rest =>
          obtain ⟨rfl, HBC⟩ := hcut
          have HB2 : Hid (Below w.heap.size w wc) := HB1.out.trans (HBC.out.mono HB1.out.size)
          obtain ⟨y0, y1, y2⟩ := box3 ((HBC.out.block _ (Array.getElem?_eq_some_iff.1 HX1.out).1).trans HX1.out)
          have cc0 := (H.out.later HB2.out).row.c0
          clear x0 x1 x2 c61 HLR HGR
          by_cases hf : s.cap < (T2 : Int) ∧ T1 < T2
          · have q1 : decide (s.cap < (T2 : Int)) = true := decide_eq_true hf.1
            have q2 : decide ((T1 : Int) < (T2 : Int)) = true := decide_eq_true (by omega)
            have q3 : decide (T1 < T2) = true := decide_eq_true hf.2
            have HFF : Hid _ := hf
            clear hf
            go_wp2
            go_ret
            all_goals first | exact ⟨rfl, Rd.refl H.out HB2.out⟩ | (exfalso; rename_i hc; exact hc HFF.out)
          · have hff : (decide (s.cap < (T2 : Int)) = false) ∨ (decide (s.cap < (T2 : Int)) = true ∧ decide ((T1 : Int) < (T2 : Int)) = false ∧ decide (T1 < T2) = false) := by
              by_cases q : s.cap < (T2 : Int)
              · exact .inr ⟨decide_eq_true q, decide_eq_false (fun e => hf ⟨q, by omega⟩), decide_eq_false (fun e => hf ⟨q, e⟩)⟩
              · exact .inl (decide_eq_false q)
            have HFF : Hid _ := hf
            clear hf
            rcases hff with q1 | ⟨q1, q2, q3⟩
            all_goals
              go_wp2_with fail
              refine (CW.out _ HB2.out).mono ?_
              rintro _ w9 ⟨rfl, r9⟩
              have R9 : Hid (Rd _ _ _ _ _ _) := r9
              clear r9
              go_wp2
              go_ret
              all_goals first | exact ⟨rfl, R9.out⟩ | (exfalso; rename_i hc; exact HFF.out hc)
      · rw [if_neg hz]
        have hz1 : (1048576 : Int) < (d.size : Int) := by omega
        clear hk h
        go_enter Tryz.func27, Tryz.ntmps27
        go_wp2_with fail
        refine (CG.out _).mono ?_
        rintro _ _ ⟨rfl, hw⟩; rw [hw]; clear hw
        go_wp2
        go_ret
        exact ⟨rfl, Rd.refl H.out (Below.refl _ _)⟩
    · rw [if_neg hk, if_pos (by simp)]
      rw [decide_eq_false hk] at CG
      clear hk h
      go_enter Tryz.func27, Tryz.ntmps27
      go_wp2_with fail
      refine (CG.out _).mono ?_
      rintro _ _ ⟨rfl, hw⟩; rw [hw]; clear hw
      go_wp2
      go_ret
      exact ⟨rfl, Rd.refl H.out (Below.refl _ _)⟩
end Go.Proofs.YtmindflfjocjlaaGreat.xf

namespace Go.Proofs.YtmindflfjocjlaaGreat.xg
open Go.RowKit Go.PlainAid Go.Maps Go.Shelf
open Go.Proofs.YtmindflfjocjlaaGreat.ca Go.Proofs.YtmindflfjocjlaaGreat.cb Go.Proofs.YtmindflfjocjlaaGreat.cp Go.Proofs.YtmindflfjocjlaaGreat.kp Go.Proofs.YtmindflfjocjlaaGreat.ka Go.Proofs.YtmindflfjocjlaaGreat.ya Go.Proofs.YtmindflfjocjlaaGreat.yb Go.Proofs.YtmindflfjocjlaaGreat.yc Go.Proofs.YtmindflfjocjlaaGreat.ye Go.Proofs.YtmindflfjocjlaaGreat.yf Go.Proofs.YtmindflfjocjlaaGreat.yi Go.Proofs.YtmindflfjocjlaaGreat.yk Go.Proofs.YtmindflfjocjlaaGreat.yl Go.Proofs.YtmindflfjocjlaaGreat.ym Go.Proofs.YtmindflfjocjlaaGreat.zf Go.Proofs.YtmindflfjocjlaaGreat.zg Go.Proofs.YtmindflfjocjlaaGreat.xa Go.Proofs.YtmindflfjocjlaaGreat.xb Go.Proofs.YtmindflfjocjlaaGreat.xc Go.Proofs.YtmindflfjocjlaaGreat.xd Go.Proofs.YtmindflfjocjlaaGreat.xe Go.Proofs.YtmindflfjocjlaaGreat.xf
set_option linter.unusedVariables false
set_option linter.unusedSimpArgs false
theorem wws_at (l : List W) (j : Nat) (x : W) (h : l[j]? = some x) : (wws l)[j * 3]? = some (.string x.key) ∧ (wws l)[j * 3 + 1]? = some (.string x.data) ∧ (wws l)[j * 3 + 2]? = some (.bool x.cut) := by
  induction l generalizing j with
  | nil => simp at h
  | cons q l ih =>
    cases j with
    | zero =>
      simp at h
      subst h
      exact ⟨rfl, rfl, rfl⟩
    | succ j =>
      have := ih j (by simpa using h)
      have e1 : (j + 1) * 3 = j * 3 + 3 := by omega
      rw [e1]
      exact this
theorem wl_at {B : Nat} {a : Option Addr} {c : Nat} {l : List W} {w : World} (o : w.ownsRow B 81 3 (.slice a l.length c) l.length (wws l)) (j : Nat) (x : W) (hj : l[j]? = some x) : ∃ g, a = some ⟨g, 0, none⟩ ∧ g < w.heap.size ∧ w.cell? ⟨g, j * 3, none⟩ = some (.string x.key) ∧ w.cell? ⟨g, j * 3 + 1, none⟩ = some (.string x.data) ∧ w.cell? ⟨g, j * 3 + 2, none⟩ = some (.bool x.cut) := by
  have hjl := (List.getElem?_eq_some_iff.1 hj).1
  rcases o.2 with ⟨_, h0⟩ | ⟨g, cap, cur, e, _, h3, h4, h5, h6, h7⟩
  · omega
  · injection e with e1 _ _
    obtain ⟨s1, s2, s3⟩ := wws_at l j x hj
    rw [← h7, List.getElem?_take_of_lt (by omega)] at s1 s2 s3
    refine ⟨g, e1, (Array.getElem?_eq_some_iff.1 h3).1, ?_, ?_, ?_⟩
    · rw [cell_of_row _ _ _ _ _ _ h3]; simpa using s1
    · rw [cell_of_row _ _ _ _ _ _ h3]; simpa using s2
    · rw [cell_of_row _ _ _ _ _ _ h3]; simpa using s3
theorem ok_crash {s : S} (keep : ByteArray) (h : OkS s) (ha : s.age < 4398046511104) : OkS (crashS s keep) := by
  refine ⟨?_, srt_kd h.srt _, (by intro x hx; cases hx), h.cap0, h.cap1, by show 0 ≤ _; omega, by show s.age + 1 ≤ _; omega, ?_⟩
  · exact ok_kd h.dur h.pend _
  · have := len_kd keep s.pend s.dur s.pend.length
    have h2 := h.len
    show (kdN keep s.pend s.dur s.pend.length).length + 0 < _
    omega
-- behind the loop: the six fields written
theorem crash_fin {B g : Nat} {dv wv vv lv : Value} {s : S} {w wr : World} (keep : ByteArray) (h : Ds B g dv wv vv s w) (ha : s.age < 4398046511104) (b : Below w.heap.size w wr) (hl : Lr B lv (kdN keep s.pend s.dur s.pend.length) wr) :
    Rd B g wv (crashS s keep) w ((((((wr.setCell ⟨g, 1, none⟩ lv).setCell ⟨g, 6, none⟩ lv).setCell ⟨g, 2, none⟩ (.slice none 0 0)).setCell ⟨g, 3, none⟩ (.bool false)).setCell ⟨g, 4, none⟩ (.int .i64 0)).setCell ⟨g, 5, none⟩ (.int .i64 ((s.age + 1 : Nat) : Int))) := by
  have h5 := h.later b
  have r2 := (((((h5.row.set1 lv).set6 lv).set2 (.slice none 0 0)).set3 false).set4 0).set5 (s.age + 1)
  have kk : Kp (fun k => k = g) wr ((((((wr.setCell ⟨g, 1, none⟩ lv).setCell ⟨g, 6, none⟩ lv).setCell ⟨g, 2, none⟩ (.slice none 0 0)).setCell ⟨g, 3, none⟩ (.bool false)).setCell ⟨g, 4, none⟩ (.int .i64 0)).setCell ⟨g, 5, none⟩ (.int .i64 ((s.age + 1 : Nat) : Int))) :=
    Kp.trans (A := fun k => k = g) (Kp.trans (A := fun k => k = g) (Kp.trans (A := fun k => k = g) (Kp.trans (A := fun k => k = g) (Kp.trans (A := fun k => k = g) (Kp.setCell _ g _ _ rfl) (Kp.setCell _ g _ _ rfl)) (Kp.setCell _ g _ _ rfl)) (Kp.setCell _ g _ _ rfl)) (Kp.setCell _ g _ _ rfl)) (Kp.setCell _ g _ _ rfl)
  have hl2 := own_kp hl kk (fun j hj e => own_tag hl h5.row dr1 (by rw [← e]; exact hj))
  exact ⟨lv, .slice none 0 0, lv, ⟨r2, hl2, hl2, World.ownsRow_nil _ _ _ _, h.low, ok_crash keep h.ok ha⟩, (Kp.of_below b).trans (kk.mono (fun _ e => .inl e)), fun k hk => by cases hk⟩
set_option maxRecDepth 40000 in
set_option maxHeartbeats 12800000 in
theorem crashD {B g : Nat} {dv wv vv : Value} {s : S} {w : World} (keep : ByteArray) (h : Ds B g dv wv vv s w) (hB : B ≤ w.heap.size) (hk : keep.size ≤ 140737488355328) (ha : s.age < 4398046511104) :
    Calls Tryz.prog 9 #[.pointer (some ⟨g, 0, none⟩), .string keep] w fun e w' => e = .returned (.tuple #[]) ∧ Rd B g wv (crashS s keep) w w' := by
  have H : Hid (Ds B g dv wv vv s w) := h
  have hbt := get_bt keep
  have hlen := h.ok.len
  obtain ⟨wa, wcp, hwv⟩ := own_formS h.wl
  subst hwv
  obtain ⟨P, HP⟩ : ∃ P, Hid (s.pend = P) := ⟨_, rfl⟩
  obtain ⟨da, dc, hdv⟩ := lr_form h.dl
  have FIN : Hid (∀ lv wr, Below w.heap.size w wr → Lr B lv (kdN keep P s.dur P.length) wr → Rd B g (.slice wa s.pend.length wcp) (crashS s keep) w _) := fun lv wr b hl => crash_fin keep H.out ha b (by rw [HP.out]; exact hl)
  have CX : Hid (∀ wr, Below w.heap.size w wr → Ds B g dv (.slice wa s.pend.length wcp) vv s wr) := fun wr b => H.out.later b
  have WL : Hid (∀ (j : Nat) (x : W), P[j]? = some x → ∃ gw, wa = some ⟨gw, 0, none⟩ ∧ ∀ wr, Below w.heap.size w wr → wr.cell? ⟨gw, j * 3, none⟩ = some (.string x.key) ∧ wr.cell? ⟨gw, j * 3 + 1, none⟩ = some (.string x.data) ∧ wr.cell? ⟨gw, j * 3 + 2, none⟩ = some (.bool x.cut)) := fun j x hx => by
    obtain ⟨gw, e, hg, q1, q2, q3⟩ := wl_at H.out.wl j x (by rw [HP.out]; exact hx)
    exact ⟨gw, e, fun wr b => ⟨(b.cell hg).trans q1, (b.cell hg).trans q2, (b.cell hg).trans q3⟩⟩
  have HDL : Hid (Lr B dv s.dur w) := h.dl
  have HSD : Hid (Srt s.dur) := h.ok.srt
  have c1 := h.row.c1
  rw [HP.out] at CX FIN hlen
  obtain ⟨n, hn⟩ : ∃ n, P.length = n := ⟨_, rfl⟩
  have HNN : Hid _ := hn
  have HNL : Hid (s.pend.length = n) := by rw [HP.out]; exact hn
  rw [hn] at CX FIN hlen
  subst hdv
  have SV : Hid (∀ j x, P[j]? = some x → kdN keep P s.dur (j + 1) = if surv keep j then doW (kdN keep P s.dur j) x else kdN keep P s.dur j) := fun j x hx => by
    show (match P[j]? with | some x => _ | none => _) = _
    rw [hx]
  clear h hn
  go_enter Tryz.func9, Tryz.ntmps9
  go_wp2_with fail
  go_loopw [4, 5] (fun lv iv wr => ∃ j : Nat, j ≤ n ∧ iv = .int .i64 j ∧ Hid (Lr B lv (kdN keep P s.dur j) wr ∧ Below w.heap.size w wr)) (fun _ iv _ => (n - intOf iv).toNat)
  case atStart => exact ⟨0, Nat.zero_le _, rfl, HDL.out, Below.refl _ _⟩
  case round =>
    obtain ⟨j, hj, rfl, HH⟩ := hrel
    have hc2 := (CX.out wr HH.out.2).row.c2
    have hlk := len_kd keep P s.dur j
    obtain ⟨la, lc, hlv⟩ := lr_form HH.out.1
    subst hlv
    obtain ⟨kl, HKL⟩ : ∃ kl, Hid ((kdN keep P s.dur j).length = kl) := ⟨_, rfl⟩
    by_cases hgo : j < n ∧ 0 < keep.size
    · have g1 : (j : Int) < n := by omega
      have g2 : decide ((0 : Int) < (keep.size : Int)) = true := decide_eq_true (by omega)
      have g3 : decide (0 < keep.size) = true := decide_eq_true hgo.2
      have hk0 := hgo.2
      obtain ⟨x, hx⟩ : ∃ x, P[j]? = some x := ⟨_, List.getElem?_eq_getElem (by have := HNN.out; omega)⟩
      obtain ⟨gw, hwa, hcx⟩ := WL.out j x hx
      have hsv := SV.out j x hx
      obtain ⟨x0, x1, x2⟩ := hcx wr HH.out.2
      obtain ⟨m, hm0⟩ : ∃ m, keep.size = m := ⟨_, rfl⟩
      obtain ⟨r, hr⟩ : ∃ r, j % m = r := ⟨_, rfl⟩
      have hrn : r < m := by rw [← hr]; exact Nat.mod_lt _ (by omega)
      have hm : Int.tmod (j : Int) (m : Int) = (r : Int) := by rw [← hr]; rfl
      have hn0 : ((m : Int) == 0) = false := by rw [beq_eq_false_iff_ne]; omega
      have hw1 : IntKind.i64.wrap (r : Int) = r := wrap_is _ (by omega)
      have hrs : r < keep.size := by omega
      have hb0 := bt_nonneg keep r
      have hb1 := bt_le keep r
      have HSV : Hid (surv keep j = decide (bt keep r % 2 = 1)) := by
        show _ = _
        unfold surv
        rw [hm0, hr]
        simp [show m ≠ 0 by omega]
      have hlt2 : (r : Int) < (m : Int) := by omega
      obtain ⟨y, hy⟩ : ∃ y, bt keep r = y := ⟨_, rfl⟩
      rw [hy] at hb0 hb1 HSV
      have hy' : ∀ h, ((keep[r]'h).toNat : Int) = y := fun h => by rw [← hy]; exact hbt r h
      have ht : Int.tmod y 2 = y % 2 := Int.tmod_eq_emod_of_nonneg hb0
      have hw2 : IntKind.u8.wrap (y % 2) = y % 2 := by
        rcases (show y % 2 = 0 ∨ y % 2 = 1 by omega) with e | e <;> rw [e] <;> decide
      subst hwa
      by_cases ho : y % 2 = 1
      · have t1 : (y % 2 == 1) = true := by rw [ho]; rfl
        rw [HSV.out, decide_eq_true ho, if_pos rfl] at hsv
        have HKD : Hid _ := hsv
        have CD : Hid (Calls _ _ _ _ _) := doneC (.slice la (kdN keep P s.dur j).length lc) (kdN keep P s.dur j) x wr HH.out.1 (srt_kd HSD.out _) (by omega)
        obtain ⟨xk, hxk⟩ : ∃ q, x.key = q := ⟨_, rfl⟩
        obtain ⟨xd, hxd⟩ : ∃ q, x.data = q := ⟨_, rfl⟩
        obtain ⟨xc', hxc⟩ : ∃ q, x.cut = q := ⟨_, rfl⟩
        rw [hxk, hxd, hxc] at CD
        rw [hxk] at x0
        rw [hxd] at x1
        rw [hxc] at x2
        rw [HKL.out] at CD ⊢
        clear hx hsv hxk hxd hxc hr hy hcx HSV hbt hgo
        go_wp2_with fail
        refine CD.out.mono ?_
        rintro _ w5 ⟨v5, rfl, gr⟩
        have H5 : Hid (Lr B v5 (kdN keep P s.dur (j + 1)) w5 ∧ Below w.heap.size w w5) := by
          rw [HKD.out]
          exact ⟨own_low gr.own (Nat.le_trans hB HH.out.2.size), over HH.out.2 gr.bl⟩
        clear gr
        go_wp2
        go_roundw
        case rel => exact ⟨j + 1, by omega, by go_num, H5.out⟩
        case measure => simp [intOf]; omega
      · have t1 : (y % 2 == 1) = false := by rw [beq_eq_false_iff_ne]; exact ho
        rw [HSV.out, decide_eq_false ho, if_neg (by simp)] at hsv
        have HKD : Hid _ := hsv
        clear hx hsv hr hy hcx HSV hbt hgo x0 x1 x2
        go_wp2
        go_roundw
        case rel => exact ⟨j + 1, by omega, by go_num, by rw [HKD.out]; exact HH.out⟩
        case measure => simp [intOf]; omega
    · have HF : Hid (Lr B (.slice la (kdN keep P s.dur j).length lc) (kdN keep P s.dur n) wr ∧ Below w.heap.size w wr) := by
        refine ⟨?_, HH.out.2⟩
        rcases Nat.lt_or_ge j n with h1 | h1
        · have h2 : keep.size = 0 := by omega
          have := HH.out.1
          rw [zb.kd_no h2 P s.dur j] at this
          rw [zb.kd_no h2 P s.dur j, zb.kd_no h2 P s.dur n]
          exact this
        · have e : j = n := by omega
          rw [← e]; exact HH.out.1
      have hgs : (¬ (j : Int) < n) ∨ ((j : Int) < n ∧ decide ((0 : Int) < (keep.size : Int)) = false ∧ decide (0 < keep.size) = false) := by
        rcases Nat.lt_or_ge j n with h1 | h1
        · exact .inr ⟨by omega, decide_eq_false (by omega), decide_eq_false (by omega)⟩
        · exact .inl (by omega)
      have d := CX.out wr HH.out.2
      have c1 := d.row.c1
      have c6 := d.row.c6
      have c3 := d.row.c3
      have c4 := d.row.c4
      have c5 := d.row.c5
      have f1 := d.row.fz 1
      have f2 := d.row.fz 2
      have f3 := d.row.fz 3
      have f4 := d.row.fz 4
      have f5 := d.row.fz 5
      have f6 := d.row.fz 6
      have FF : Hid _ := FIN.out _ wr HF.out.2 HF.out.1
      rw [HKL.out] at FF ⊢
      obtain ⟨A, hA⟩ : ∃ A, s.age + 1 = A := ⟨_, rfl⟩
      rw [hA] at FF
      have hag2 : (s.age : Int) + 1 = (A : Int) := by omega
      have hag : IntKind.i64.wrap (A : Int) = (A : Int) := wrap_is _ (by omega)
      have hag3 : IntKind.i64.wrap ((s.age : Int) + 1) = (A : Int) := by rw [hag2]; exact hag
      clear hA
      clear d hgo hbt
      rcases hgs with g1 | ⟨g1, g2, g3⟩
      all_goals
        go_wp2
        go_end0
        exact ⟨rfl, by rw [HNL.out]; exact FF.out⟩
end Go.Proofs.YtmindflfjocjlaaGreat.xg
