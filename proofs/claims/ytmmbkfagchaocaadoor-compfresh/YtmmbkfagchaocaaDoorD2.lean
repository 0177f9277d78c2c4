import Derived.Test.YtmmbkfagchaocaaDoorD1
import Derived.Deep.DeepCutAuto
namespace Go.Proofs.YtmmbkfagchaocaaDoor.rp
open Go.RowKit Go.PlainAid
open Go.Proofs.YtmmbkfagchaocaaDoor.pl Go.Proofs.YtmmbkfagchaocaaDoor.pi Go.Proofs.YtmmbkfagchaocaaDoor.pj Go.Proofs.YtmmbkfagchaocaaDoor.rf Go.Proofs.YtmmbkfagchaocaaDoor.ca Go.Proofs.YtmmbkfagchaocaaDoor.cb Go.Proofs.YtmmbkfagchaocaaDoor.cp Go.Proofs.YtmmbkfagchaocaaDoor.cs Go.Proofs.YtmmbkfagchaocaaDoor.kb Go.Proofs.YtmmbkfagchaocaaDoor.ka Go.Proofs.YtmmbkfagchaocaaDoor.ga Go.Proofs.YtmmbkfagchaocaaDoor.gb Go.Proofs.YtmmbkfagchaocaaDoor.na Go.Proofs.YtmmbkfagchaocaaDoor.nb Go.Proofs.YtmmbkfagchaocaaDoor.nc Go.Proofs.YtmmbkfagchaocaaDoor.oa Go.Proofs.YtmmbkfagchaocaaDoor.ob Go.Proofs.YtmmbkfagchaocaaDoor.qa Go.Proofs.YtmmbkfagchaocaaDoor.qb Go.Proofs.YtmmbkfagchaocaaDoor.qc Go.Proofs.YtmmbkfagchaocaaDoor.qd Go.Proofs.YtmmbkfagchaocaaDoor.rg Go.Proofs.YtmmbkfagchaocaaDoor.rl Go.Proofs.YtmmbkfagchaocaaDoor.rn Go.Proofs.YtmmbkfagchaocaaDoor.ro
set_option linter.unusedVariables false

theorem Sn.beside {w wr w7 : World} {B p g N nc m g7 cap7 l bU : Nat} {a b : Option Nat} {vw : Value} {ns wh ns' ns0 : List Md} {c : Array Value} (h : Sn w wr B p a b (.slice (some ⟨g, 0, none⟩) N nc) vw ns wh) (hn0 : Mades wr B (.slice (some ⟨g, 0, none⟩) m nc) ns0) (hg : wr.grownBy w7 (Value.slice (some ⟨g, 0, none⟩) m nc).ownBlock) (ho : Mades w7 B (.slice (some ⟨g7, 0, none⟩) l cap7) ns') (hl : (Value.slice (some ⟨g, 0, none⟩) m nc).ownBlock = some g7 ∨ g7 = wr.heap.size) (hU : wr.heap[bU]? = some (.cells c 38 (0, 0))) (hne : bU ≠ g) :
    (Rx w7 p (.slice (some ⟨g, 0, none⟩) N nc) vw ∧ Sn w (w7.setCell ⟨p, 0, none⟩ (.slice (some ⟨g7, 0, none⟩) l cap7)) B p a b (.slice (some ⟨g7, 0, none⟩) l cap7) vw ns' wh) ∧ (w7.setCell ⟨p, 0, none⟩ (.slice (some ⟨g7, 0, none⟩) l cap7)).heap[bU]? = some (.cells c 38 (0, 0)) := by
  have h1 := Sn.nodes (v0 := .slice (some ⟨g, 0, none⟩) m nc) h rfl hn0 hg ho hl
  have h2 : w7.heap[bU]? = some (.cells c 38 (0, 0)) := (hg.block bU (Array.getElem?_eq_some_iff.1 hU).1 (fun e => hne (by have := Option.some.inj e; exact this))).trans hU
  refine ⟨h1, (Below.heap_setCell _ _ _ _ (fun e => ?_)).trans h2⟩
  rw [e] at h2
  have h3 := h2.symm.trans h1.1
  simp at h3
set_option maxHeartbeats 25600000 in
set_option maxRecDepth 100000 in
theorem rbehind (wd : Int) (B p : Nat) (x : Md) (vn vw : Value) (ns wh : List Md) (w : World) (hT : Tab4 w) (hr : Rx w p vn vw) (hn : Mades w B vn ns) (hm : Mades w B vw wh) (hap : vn.ownBlock = none ∨ vn.ownBlock ≠ vw.ownBlock) (hB : B ≤ w.heap.size) (hsm : ∀ n ∈ x :: ns, Small n) (hl : ns.length ≤ 1000) (hw : wh.length ≤ 20000)
    (hbig : ∀ w', Kq w w' p vn.ownBlock vw.ownBlock → Tab4 w') :
    Calls Tryd.prog 32 #[.pointer (some ⟨p, 0, none⟩), .int .i64 wd, .agg #[.int .i64 (x.1.1 : Nat), .int .i64 (x.1.2 : Nat), .string x.2]] w fun e w' => e = .returned (.tuple #[]) ∧ ∃ vn' vw', Sn w w' B p vn.ownBlock vw.ownBlock vn' vw' (joinR (NF wd) ns.reverse x).1.reverse (wh ++ (joinR (NF wd) ns.reverse x).2) := by
  obtain ⟨i9, hi9', hz0, hz1, hz2⟩ := info_parts hiM
  have HIN : Hid (_ ∧ _ ∧ _ ∧ _) := ⟨hi9', hz0, hz1, hz2⟩
  have S0 : Hid (Sn w (w.alloc (.cells #[.int .i64 (x.1.1 : Nat), .int .i64 (x.1.2 : Nat), .string x.2] 38)) B p vn.ownBlock vw.ownBlock vn vw ns wh) := Sn.on ⟨Kq.refl _ _ _ _, hr, hn, hm, hap, .inl rfl, .inl rfl⟩ ((Below.refl _ _).alloc (Nat.le_refl _) _)
  have HTK : Hid (∀ w', Kq w w' p vn.ownBlock vw.ownBlock → Tab4 w') := hbig
  have HSM : Hid (∀ n ∈ x :: ns, Small n) := hsm
  obtain ⟨aB, HAB⟩ : ∃ aB, Hid (vn.ownBlock = aB) := ⟨_, rfl⟩
  obtain ⟨bB, HBB⟩ : ∃ bB, Hid (vw.ownBlock = bB) := ⟨_, rfl⟩
  rw [HAB.out, HBB.out] at S0 HTK ⊢
  obtain ⟨J, HJ⟩ : ∃ J, Hid (joinR (NF wd) ns.reverse x = J) := ⟨_, rfl⟩
  rw [HJ.out]
  obtain ⟨⟨xL, xI⟩, xh⟩ := x
  obtain ⟨va, vc, rfl⟩ := own_formS hn
  have k0 : (w.alloc (.cells #[.int .i64 (xL : Nat), .int .i64 (xI : Nat), .string xh] 38)).cell? ⟨w.heap.size, 0, none⟩ = some (.int .i64 (xL : Nat)) := by rw [World.cell?_alloc_at _ _ _ _ rfl]; rfl
  have k1 : (w.alloc (.cells #[.int .i64 (xL : Nat), .int .i64 (xI : Nat), .string xh] 38)).cell? ⟨w.heap.size, 1, none⟩ = some (.int .i64 (xI : Nat)) := by rw [World.cell?_alloc_at _ _ _ _ rfl]; rfl
  have k2 : (w.alloc (.cells #[.int .i64 (xL : Nat), .int .i64 (xI : Nat), .string xh] 38)).cell? ⟨w.heap.size, 2, none⟩ = some (.string xh) := by rw [World.cell?_alloc_at _ _ _ _ rfl]; rfl
  clear hi9' hz0 hz1 hz2 hr hn hm hap hT hbig hsm
  go_enter Tryd.func32, Tryd.ntmps32
  go_wp2_with fail
  generalize w.alloc _ = v1 at S0 k0 k1 k2 ⊢
  obtain ⟨n0, HN0⟩ : ∃ n0, Hid (ns.length = n0) := ⟨_, rfl⟩
  have r1 := S0.out.r.one
  rw [HN0.out] at hl r1 S0
  have BA : Hid (Below v1.heap.size v1 (v1.alloc (.cells #[.int .i64 xL, .int .i64 xI, .string xh] 38)).drew) := below_dN ((Below.refl _ _).alloc (Nat.le_refl _) _) 1
  have S1 : Hid (Sn w (v1.alloc (.cells #[.int .i64 xL, .int .i64 xI, .string xh] 38)).drew B p aB bB (.slice va n0 vc) vw ns wh) := S0.out.on BA.out
  have OX : Hid (World.ownsRow (v1.alloc (.cells #[.int .i64 xL, .int .i64 xI, .string xh] 38)).drew B 38 3 (.slice va n0 vc) n0 (mls ns)) := by have := S1.out.n; unfold Mades at this; rw [HN0.out] at this; exact this
  have NX : Hid _ := made_new v1 ((xL, xI), xh)
  have SZ : Hid (B ≤ (v1.alloc (.cells #[.int .i64 xL, .int .i64 xI, .string xh] 38)).drew.heap.size) := Nat.le_trans hB S1.out.k.size
  have r1' : (v1.alloc (.cells #[.int .i64 xL, .int .i64 xI, .string xh] 38)).cell? ⟨p, 0, none⟩ = some (.slice va n0 vc) := (Below.cell ((Below.refl _ _).alloc (Nat.le_refl _) _) (World.block_lt_of_cell? _ _ r1)).trans r1
  have k0' : (v1.alloc (.cells #[.int .i64 xL, .int .i64 xI, .string xh] 38)).cell? ⟨w.heap.size, 0, none⟩ = some (.int .i64 (xL : Nat)) := (Below.cell ((Below.refl _ _).alloc (Nat.le_refl _) _) (World.block_lt_of_cell? _ _ k0)).trans k0
  have k1' : (v1.alloc (.cells #[.int .i64 xL, .int .i64 xI, .string xh] 38)).cell? ⟨w.heap.size, 1, none⟩ = some (.int .i64 (xI : Nat)) := (Below.cell ((Below.refl _ _).alloc (Nat.le_refl _) _) (World.block_lt_of_cell? _ _ k1)).trans k1
  have k2' : (v1.alloc (.cells #[.int .i64 xL, .int .i64 xI, .string xh] 38)).cell? ⟨w.heap.size, 2, none⟩ = some (.string xh) := (Below.cell ((Below.refl _ _).alloc (Nat.le_refl _) _) (World.block_lt_of_cell? _ _ k2)).trans k2
  go_cut [19] (fun _ wx => ∃ g7 cap7, Hid (Sn w wx B p aB bB (.slice (some ⟨g7, 0, none⟩) (n0 + 1) cap7) vw (ns ++ [((xL, xI), xh)]) wh))
  case first =>
   go_region_law ((refine step_append_lies _ (by rfl) _ _ 25 (by rfl) B 38 i9 (.agg #[.int .i64 0, .int .i64 0, .string ByteArray.empty]) 3 32 Tryd.underlying25 HIN.out.1 HIN.out.2.1 HIN.out.2.2.1 HIN.out.2.2.2 rfl (by decide) _ n0 _ (by rfl) OX.out ⟨v1.heap.size, 0, none⟩ 1 1 (ml ((xL, xI), xh)) (by rfl) rfl NX.out (one_made _) (by omega) (by unfold maxLen; omega) (by omega) SZ.out _ rfl ?_; intro g7 cap7 w7 hown7 hgrow7 hlies7 hglt7; have HM7 : Mades w7 B (.slice (some ⟨g7, 0, none⟩) (n0 + 1) cap7) (ns ++ [((xL, xI), xh)]) := (by unfold Mades; rw [List.length_append, HN0.out, mls_app, mls_one]; exact hown7); have HS7 : Hid (_ ∧ _) := Sn.nodes S1.out rfl S1.out.n hgrow7 HM7 hlies7; have q1 := HS7.out.1.one; have q2 := frozen_of_row w7 p 0 _ _ HS7.out.1; clear hown7 hgrow7 hlies7 hglt7 HM7))
   all_goals
    go_wp2_with fail
    go_meet
    exact ⟨g7, cap7, HS7.out.2⟩
  case rest =>
  as_aux_lemma =>
  obtain ⟨g1, c1, HS1⟩ := hcut
  have HL1 : Hid (Lq w wc wd B p aB bB (.slice (some ⟨g1, 0, none⟩) (n0 + 1) c1) vw ((xL, xI), xh) 0 ns.reverse ((xL, xI), xh) wh wh J) := by
    refine ⟨by rw [List.reverse_reverse]; exact HS1.out, rfl, by rw [HJ.out], by rw [HJ.out], fun n hn => ?_, by omega, by rw [List.length_reverse, HN0.out]; exact hl⟩
    rcases List.mem_cons.1 hn with rfl | hn
    · exact HSM.out _ (by simp)
    · exact HSM.out n (by simp [List.mem_reverse.1 hn])
  clear HS1 S0 S1 OX NX SZ BA r1 r1' k0 k1 k2 k0' k1' k2'
  go_wp2
  go_loopw [6] (fun i wr => ∃ (t : Nat) (vn vw : Value) (rs : List Md) (y : Md) (wh' : List Md), t ≤ 64 ∧ i = .int .i64 t ∧ Hid (Lq w wr wd B p aB bB vn vw ((xL, xI), xh) t rs y wh' wh J)) (fun i _ => (64 - intOf i).toNat)
  case atStart => exact ⟨0, _, _, _, _, _, by omega, rfl, HL1.out⟩
  case round =>
    obtain ⟨t, vn, vw', rs, y, wh', ht, rfl, HQ⟩ := hrel
    clear HL1
    obtain ⟨na, nc, rfl⟩ := own_formS HQ.out.s.n
    have hlen : (rs.reverse ++ [y]).length = rs.length + 1 := by simp
    have r1 := HQ.out.s.r.one
    have hln := HQ.out.ln
    rw [hlen] at r1
    have STOP : Hid (joinR (NF wd) rs y = (y :: rs, []) → Sn w wr B p aB bB _ vw' J.1.reverse (wh ++ J.2)) := fun h => HQ.out.stop h
    by_cases ht64 : t < 64
    · have ht64' : (t : Int) < 64 := by omega
      cases rs with
      | nil =>
        have S9 : Hid (Sn w wr B p aB bB _ vw' J.1.reverse (wh ++ J.2)) := STOP.out rfl
        simp only [List.length_nil, Nat.zero_add] at r1
        go_wp2
        go_returns
        exact ⟨rfl, _, _, S9.out⟩
      | cons c rs =>
        obtain ⟨m, HM⟩ : ∃ m, Hid (rs.length = m) := ⟨_, rfl⟩
        obtain ⟨g, rfl⟩ : ∃ g, na = some ⟨g, 0, none⟩ := by
          rcases HQ.out.s.n.2 with ⟨_, h⟩ | ⟨g, _, _, e, _⟩
          · rw [hlen] at h; omega
          · injection e with e1 _ _; exact ⟨g, e1⟩
        have hL2 : (c :: rs).length + 1 = m + 2 := by rw [List.length_cons, HM.out]
        rw [hL2] at r1 hlen
        have hm130 : m + 1 ≤ 1000 := by rw [List.length_cons, HM.out] at hln; exact hln
        obtain ⟨e1, e2, e3⟩ := two_last rs c y
        rw [HM.out] at e1 e2 e3
        have hMN := HQ.out.s.n
        rw [hlen] at hMN
        obtain ⟨p1, p2, p3⟩ := nodes_at hMN e1
        obtain ⟨q1, q2, q3⟩ := nodes_at hMN e2
        have hc := HQ.out.sm c (by simp)
        have hy := HQ.out.sm y (by simp)
        have HHN : Hid (∀ h : ¬ halves c.1 y.1, Sn w wr B p aB bB _ vw' J.1.reverse (wh ++ J.2)) := fun h => STOP.out (joinR_no _ rs h)
        obtain ⟨⟨cL, cI⟩, ch⟩ := c
        obtain ⟨⟨yL, yI⟩, yh⟩ := y
        obtain ⟨hc1, hc2, hc3⟩ := hc
        obtain ⟨hy1, hy2, hy3⟩ := hy
        simp only at hc1 hc2 hc3 hy1 hy2 hy3 p1 p2 p3 q1 q2 q3
        clear e1 e2 e3 hMN STOP
        have up1 : ∀ {q : Addr} {v : Value} (o : Obj), wr.cell? q = some v → (wr.alloc o).cell? q = some v := fun o h => (Below.cell ((Below.refl _ _).alloc (Nat.le_refl _) _) (World.block_lt_of_cell? _ _ h)).trans h
        have r1a := up1 (.cells #[.int .i64 cL, .int .i64 cI, .string ch] 38) r1
        have q1a := up1 (.cells #[.int .i64 cL, .int .i64 cI, .string ch] 38) q1
        have q2a := up1 (.cells #[.int .i64 cL, .int .i64 cI, .string ch] 38) q2
        have q3a := up1 (.cells #[.int .i64 cL, .int .i64 cI, .string ch] 38) q3
        clear up1
        obtain ⟨z, HZ⟩ : ∃ z, Hid (cI + 1 = z) := ⟨_, rfl⟩
        have hz : ((cI : Int) + 1) = (z : Int) := by have := HZ.out; omega
        obtain ⟨r, hr⟩ : ∃ r : Int, ((cI : Int) % 2) = r := ⟨_, rfl⟩
        by_cases b1 : cL = yL
        · subst b1
          by_cases b2 : cI % 2 = 0
          · obtain rfl : r = 0 := by omega
            by_cases b3 : yI = z
            · subst b3
              by_cases b4 : cL < 62
              · have hb4 : ¬ (62 : Int) ≤ (cL : Int) := by omega
                have HHY : Hid (halves (cL, cI) (cL, yI)) := ⟨rfl, b2, HZ.out.symm, b4⟩
                have UP : Hid (∀ {w' : World} {vn' vw' : Value}, Sn w w' B p aB bB vn' vw' (rs.reverse ++ [upN (NF wd) ((cL, cI), ch) ((cL, yI), yh)]) (wh' ++ [upN (NF wd) ((cL, cI), ch) ((cL, yI), yh)]) → Lq w w' wd B p aB bB vn' vw' ((xL, xI), xh) (t + 1) rs (upN (NF wd) ((cL, cI), ch) ((cL, yI), yh)) (wh' ++ [upN (NF wd) ((cL, cI), ch) ((cL, yI), yh)]) wh J) := fun h => HQ.out.up HHY.out h
                have SB : Hid (Sn w ((wr.alloc (.cells #[.int .i64 (cL : Int), .int .i64 (cI : Int), .string ch] 38)).alloc (.cells #[.int .i64 (cL : Int), .int .i64 (yI : Int), .string yh] 38)) B p aB bB _ vw' _ wh') := HQ.out.s.on (((Below.refl wr.heap.size _).alloc (Nat.le_refl _) (.cells #[.int .i64 (cL : Int), .int .i64 (cI : Int), .string ch] 38)).alloc (by simp) (.cells #[.int .i64 (cL : Int), .int .i64 (yI : Int), .string yh] 38))
                have HWL : Hid (wh'.length ≤ 20064) := by have h1 := HQ.out.lw; show _ ≤ _; omega
                have NC : Hid (∀ W, Tab4 W → Calls _ _ _ _ _) := fun W h => rNode wd ch yh (by omega) W h
                have TW : Hid (Tab4 ((wr.alloc (.cells #[.int .i64 (cL : Int), .int .i64 (cI : Int), .string ch] 38)).alloc (.cells #[.int .i64 (cL : Int), .int .i64 (yI : Int), .string yh] 38))) := HTK.out _ SB.out.k
                have EU : Hid (upN (NF wd) ((cL, cI), ch) ((cL, yI), yh) = ((cL + 1, cI / 2), NF wd ch yh)) := rfl
                rw [EU.out] at UP
                obtain ⟨uh, HUH⟩ : ∃ x, Hid (NF wd ch yh = x) := ⟨_, rfl⟩
                rw [HUH.out] at UP NC
                obtain ⟨uL, HUL⟩ : ∃ x, Hid (cL + 1 = x) := ⟨_, rfl⟩
                obtain ⟨uI, HUI⟩ : ∃ x, Hid (cI / 2 = x) := ⟨_, rfl⟩
                rw [HUL.out, HUI.out] at UP
                have u1 : ((cL : Int) + 1) = (uL : Int) := by have := HUL.out; omega
                have u2 : ((cI : Int) / 2) = (uI : Int) := by have := HUI.out; omega
                have C0 : Hid (((wr.alloc (.cells #[.int .i64 (cL : Int), .int .i64 (cI : Int), .string ch] 38)).alloc (.cells #[.int .i64 (cL : Int), .int .i64 (yI : Int), .string yh] 38)).heap[wr.heap.size]? = some (.cells #[.int .i64 (cL : Int), .int .i64 (cI : Int), .string ch] 38 (0, 0))) := (Below.heap_alloc _ _ _ (by simp)).trans (heap_alloc_new _ _)
                clear b2 b4 HHN
                go_wp2_with fail
                refine (NC.out _ TW.out).mono ?_
                rintro e w5 ⟨rfl, hb5⟩
                have S5 : Hid (Sn w w5 B p aB bB _ vw' _ wh') := SB.out.on hb5
                have C5 := (hb5.block _ (Array.getElem?_eq_some_iff.1 C0.out).1).trans C0.out
                have o0 : w5.cell? ⟨wr.heap.size, 0, none⟩ = some (.int .i64 (cL : Int)) := by rw [cell_of_row _ _ _ _ _ _ C5]; rfl
                have o1 : w5.cell? ⟨wr.heap.size, 1, none⟩ = some (.int .i64 (cI : Int)) := by rw [cell_of_row _ _ _ _ _ _ C5]; rfl
                clear hb5 C5 C0 SB TW NC
                have A6 : Below w5.heap.size w5 (w5.alloc (.cells #[.int .i64 (uL : Int), .int .i64 (uI : Int), .string uh] 38)) := (Below.refl _ _).alloc (Nat.le_refl _) _
                have S6 : Hid (Sn w (w5.alloc (.cells #[.int .i64 (uL : Int), .int .i64 (uI : Int), .string uh] 38)) B p aB bB _ vw' _ wh') := S5.out.on A6
                have k0 : (w5.alloc (.cells #[.int .i64 (uL : Int), .int .i64 (uI : Int), .string uh] 38)).cell? ⟨w5.heap.size, 0, none⟩ = some (.int .i64 (uL : Nat)) := by rw [World.cell?_alloc_at _ _ _ _ rfl]; rfl
                have k1 : (w5.alloc (.cells #[.int .i64 (uL : Int), .int .i64 (uI : Int), .string uh] 38)).cell? ⟨w5.heap.size, 1, none⟩ = some (.int .i64 (uI : Nat)) := by rw [World.cell?_alloc_at _ _ _ _ rfl]; rfl
                have k2 : (w5.alloc (.cells #[.int .i64 (uL : Int), .int .i64 (uI : Int), .string uh] 38)).cell? ⟨w5.heap.size, 2, none⟩ = some (.string uh) := by rw [World.cell?_alloc_at _ _ _ _ rfl]; rfl
                have e3 : ((((cL, cI), ch) :: rs).reverse ++ [((cL, yI), yh)]).take m = rs.reverse := by have := (two_last rs ((cL, cI), ch) ((cL, yI), yh)).2.2; rw [HM.out] at this; exact this
                rw [hlen] at S6
                have hcapm : m ≤ nc := by
                  rcases S6.out.n.2 with ⟨e, _⟩ | ⟨g', cap', cur, e, _, _, h5, _⟩
                  · cases e
                  · injection e with _ e2 e3; rw [← e2, ← e3] at h5; omega
                have hwm : IntKind.i64.wrap (m : Int) = (m : Int) := by rw [IntKind.wrap_i64]; omega
                have hmn : (m : Int) ≤ (nc : Int) := by omega
                have hm0 : (0 : Int) ≤ (m : Int) := by omega
                have HCUT : Hid (∀ W, Below (w5.alloc (.cells #[.int .i64 (uL : Int), .int .i64 (uI : Int), .string uh] 38)).heap.size (w5.alloc (.cells #[.int .i64 (uL : Int), .int .i64 (uI : Int), .string uh] 38)) W → Mades W B (.slice (some ⟨g, 0, none⟩) m nc) rs.reverse) := fun W hW => by
                  have := mades_cut (S6.out.on hW).n m (by rw [hlen]; omega)
                  rw [e3] at this
                  exact this
                have lrs : rs.reverse.length = m := by rw [List.length_reverse]; exact HM.out
                have hgw : g < w5.heap.size := by
                  have := (World.ownsRow.lt S5.out.n g rfl).2
                  exact this
                have HU6 : Hid ((w5.alloc (.cells #[.int .i64 (uL : Int), .int .i64 (uI : Int), .string uh] 38)).heap[w5.heap.size]? = some (.cells #[.int .i64 (uL : Int), .int .i64 (uI : Int), .string uh] 38 (0, 0))) := heap_alloc_new _ _
                have HBU : Hid (w5.heap.size < (w5.alloc (.cells #[.int .i64 (uL : Int), .int .i64 (uI : Int), .string uh] 38)).heap.size) := by show _ < _; simp
                clear A6 S5 e3
                go_wp2_with fail
                generalize w5.alloc _ = v1 at S6 k0 k1 k2 HCUT HU6 HBU ⊢
                generalize w5.heap.size = bU at k0 k1 k2 HU6 HBU hgw ⊢
                have r1 := S6.out.r.one
                have BA : Hid (Below v1.heap.size v1 (v1.alloc (.cells #[.int .i64 (uL : Int), .int .i64 (uI : Int), .string uh] 38)).drew) := below_dN ((Below.refl _ _).alloc (Nat.le_refl _) _) 1
                have S7 : Hid (Sn w (v1.alloc (.cells #[.int .i64 (uL : Int), .int .i64 (uI : Int), .string uh] 38)).drew B p aB bB _ vw' _ wh') := S6.out.on BA.out
                have OM : Hid (Mades (v1.alloc (.cells #[.int .i64 (uL : Int), .int .i64 (uI : Int), .string uh] 38)).drew B (.slice (some ⟨g, 0, none⟩) m nc) rs.reverse) := HCUT.out _ BA.out
                have OX : Hid (World.ownsRow (v1.alloc (.cells #[.int .i64 (uL : Int), .int .i64 (uI : Int), .string uh] 38)).drew B 38 3 (.slice (some ⟨g, 0, none⟩) m nc) m (mls rs.reverse)) := by have := OM.out; unfold Mades at this; rw [lrs] at this; exact this
                have NX : Hid _ := made_new v1 ((uL, uI), uh)
                have SZ : Hid (B ≤ (v1.alloc (.cells #[.int .i64 (uL : Int), .int .i64 (uI : Int), .string uh] 38)).drew.heap.size) := Nat.le_trans hB S7.out.k.size
                have up1 : ∀ {q : Addr} {v : Value} (o : Obj), v1.cell? q = some v → (v1.alloc o).cell? q = some v := fun o h => (Below.cell ((Below.refl _ _).alloc (Nat.le_refl _) _) (World.block_lt_of_cell? _ _ h)).trans h
                have r1' := up1 (.cells #[.int .i64 (uL : Int), .int .i64 (uI : Int), .string uh] 38) r1
                have k0' := up1 (.cells #[.int .i64 (uL : Int), .int .i64 (uI : Int), .string uh] 38) k0
                have k1' := up1 (.cells #[.int .i64 (uL : Int), .int .i64 (uI : Int), .string uh] 38) k1
                have k2' := up1 (.cells #[.int .i64 (uL : Int), .int .i64 (uI : Int), .string uh] 38) k2
                have HU7 : Hid ((v1.alloc (.cells #[.int .i64 (uL : Int), .int .i64 (uI : Int), .string uh] 38)).drew.heap[bU]? = some (.cells #[.int .i64 (uL : Int), .int .i64 (uI : Int), .string uh] 38 (0, 0))) := (BA.out.block _ HBU.out).trans HU6.out
                have HLR : Hid (rs.reverse.length = m) := lrs
                have HBG : Hid (bU ≠ g) := by show _ ≠ _; omega
                clear up1 lrs hgw
                go_cut [112] (fun _ wx => ∃ g7 cap7, Hid (Sn w wx B p aB bB (.slice (some ⟨g7, 0, none⟩) (m + 1) cap7) vw' (rs.reverse ++ [((uL, uI), uh)]) wh') ∧ Hid (wx.heap[bU]? = some (.cells #[.int .i64 (uL : Int), .int .i64 (uI : Int), .string uh] 38 (0, 0))))
                case first =>
                 go_region_law ((refine step_append_lies _ (by rfl) _ _ 25 (by rfl) B 38 i9 (.agg #[.int .i64 0, .int .i64 0, .string ByteArray.empty]) 3 32 Tryd.underlying25 HIN.out.1 HIN.out.2.1 HIN.out.2.2.1 HIN.out.2.2.2 rfl (by decide) _ m _ (by rfl) OX.out ⟨v1.heap.size, 0, none⟩ 1 1 (ml ((uL, uI), uh)) (by rfl) rfl NX.out (one_made _) (by omega) (by unfold maxLen; omega) (by omega) SZ.out _ rfl ?_; intro g7 cap7 w7 hown7 hgrow7 hlies7 hglt7; have HM7 : Mades w7 B (.slice (some ⟨g7, 0, none⟩) (m + 1) cap7) (rs.reverse ++ [((uL, uI), uh)]) := (by unfold Mades; rw [List.length_append, HLR.out, mls_app, mls_one]; exact hown7); have HS7 : Hid ((_ ∧ _) ∧ _) := Sn.beside S7.out OM.out hgrow7 HM7 hlies7 HU7.out HBG.out; have q1 := HS7.out.1.1.one; have q2 := frozen_of_row w7 p 0 _ _ HS7.out.1.1; clear hown7 hgrow7 hlies7 hglt7 HM7))
                 all_goals
                  go_wp2_with fail
                  go_meet
                  exact ⟨g7, cap7, HS7.out.1.2, HS7.out.2⟩
                case rest =>
                as_aux_lemma =>
                obtain ⟨g1, c1, HS1, HU1⟩ := hcut
                clear S6 S7 OM OX NX SZ BA r1 r1' k0 k1 k2 k0' k1' k2' HU6 HU7 HBU HCUT HLR HBG
                generalize wc = v2 at HS1 HU1 ⊢
                obtain ⟨wa, wb, rfl⟩ := own_formS HS1.out.m
                obtain ⟨lw, HLW⟩ : ∃ l, Hid (wh'.length = l) := ⟨_, rfl⟩
                have hlw : lw ≤ 20064 := by rw [← HLW.out]; exact HWL.out
                have r2 := HS1.out.r.two
                rw [HLW.out] at r2 HS1
                have k0 : v2.cell? ⟨bU, 0, none⟩ = some (.int .i64 (uL : Nat)) := by rw [cell_of_row _ _ _ _ _ _ HU1.out]; rfl
                have k1 : v2.cell? ⟨bU, 1, none⟩ = some (.int .i64 (uI : Nat)) := by rw [cell_of_row _ _ _ _ _ _ HU1.out]; rfl
                have k2 : v2.cell? ⟨bU, 2, none⟩ = some (.string uh) := by rw [cell_of_row _ _ _ _ _ _ HU1.out]; rfl
                have BA : Hid (Below v2.heap.size v2 (v2.alloc (.cells #[.int .i64 (uL : Int), .int .i64 (uI : Int), .string uh] 38)).drew) := below_dN ((Below.refl _ _).alloc (Nat.le_refl _) _) 1
                have S8 : Hid (Sn w (v2.alloc (.cells #[.int .i64 (uL : Int), .int .i64 (uI : Int), .string uh] 38)).drew B p aB bB _ (.slice wa lw wb) _ wh') := HS1.out.on BA.out
                have OX : Hid (World.ownsRow (v2.alloc (.cells #[.int .i64 (uL : Int), .int .i64 (uI : Int), .string uh] 38)).drew B 38 3 (.slice wa lw wb) lw (mls wh')) := by have := S8.out.m; unfold Mades at this; rw [HLW.out] at this; exact this
                have NX : Hid _ := made_new v2 ((uL, uI), uh)
                have SZ : Hid (B ≤ (v2.alloc (.cells #[.int .i64 (uL : Int), .int .i64 (uI : Int), .string uh] 38)).drew.heap.size) := Nat.le_trans hB S8.out.k.size
                have up1 : ∀ {q : Addr} {v : Value} (o : Obj), v2.cell? q = some v → (v2.alloc o).cell? q = some v := fun o h => (Below.cell ((Below.refl _ _).alloc (Nat.le_refl _) _) (World.block_lt_of_cell? _ _ h)).trans h
                have r2' := up1 (.cells #[.int .i64 (uL : Int), .int .i64 (uI : Int), .string uh] 38) r2
                have k0' := up1 (.cells #[.int .i64 (uL : Int), .int .i64 (uI : Int), .string uh] 38) k0
                have k1' := up1 (.cells #[.int .i64 (uL : Int), .int .i64 (uI : Int), .string uh] 38) k1
                have k2' := up1 (.cells #[.int .i64 (uL : Int), .int .i64 (uI : Int), .string uh] 38) k2
                clear up1
                go_wp2_with fail
                go_region_law ((refine step_append_lies _ (by rfl) _ _ 25 (by rfl) B 38 i9 (.agg #[.int .i64 0, .int .i64 0, .string ByteArray.empty]) 3 32 Tryd.underlying25 HIN.out.1 HIN.out.2.1 HIN.out.2.2.1 HIN.out.2.2.2 rfl (by decide) _ lw _ (by rfl) OX.out ⟨v2.heap.size, 0, none⟩ 1 1 (ml ((uL, uI), uh)) (by rfl) rfl NX.out (one_made _) (by omega) (by unfold maxLen; omega) (by omega) SZ.out _ rfl ?_; intro g7 cap7 w7 hown7 hgrow7 hlies7 hglt7; have HM7 : Mades w7 B (.slice (some ⟨g7, 0, none⟩) (lw + 1) cap7) (wh' ++ [((uL, uI), uh)]) := (by unfold Mades; rw [List.length_append, HLW.out, mls_app, mls_one]; exact hown7); have HS7 : Hid (_ ∧ _) := Sn.whole S8.out hgrow7 HM7 hlies7; have q1 := HS7.out.1.two; have q2 := frozen_of_row w7 p 1 _ _ HS7.out.1; clear hown7 hgrow7 hlies7 hglt7 HM7))
                all_goals
                 have HL2 : Hid (Lq _ _ _ _ _ _ _ _ _ _ _ _ _ _ _ _) := UP.out HS7.out.2
                 go_wp2
                 go_roundw
                 case rel => exact ⟨t + 1, _, _, _, _, _, by omega, by go_num, HL2.out⟩
                 case measure => simp [intOf]; omega
              · have hb4 : (62 : Int) ≤ (cL : Int) := by omega
                have S9 : Hid (Sn w ((wr.alloc (.cells #[.int .i64 (cL : Int), .int .i64 (cI : Int), .string ch] 38)).alloc (.cells #[.int .i64 (cL : Int), .int .i64 (yI : Int), .string yh] 38)) B p aB bB _ vw' J.1.reverse (wh ++ J.2)) := (HHN.out (fun h => b4 h.2.2.2)).on (((Below.refl wr.heap.size _).alloc (Nat.le_refl _) (.cells #[.int .i64 (cL : Int), .int .i64 (cI : Int), .string ch] 38)).alloc (by simp) (.cells #[.int .i64 (cL : Int), .int .i64 (yI : Int), .string yh] 38))
                go_wp2
                all_goals (go_returns; exact ⟨rfl, _, _, S9.out⟩)
            · have hb3 : ¬ (yI : Int) = (z : Int) := by omega
              have HB3 : Hid (¬ yI = cI + 1) := fun h => b3 (h.trans HZ.out)
              clear b3
              have S9 : Hid (Sn w ((wr.alloc (.cells #[.int .i64 (cL : Int), .int .i64 (cI : Int), .string ch] 38)).alloc (.cells #[.int .i64 (cL : Int), .int .i64 (yI : Int), .string yh] 38)) B p aB bB _ vw' J.1.reverse (wh ++ J.2)) := (HHN.out (fun h => HB3.out h.2.2.1)).on (((Below.refl wr.heap.size _).alloc (Nat.le_refl _) (.cells #[.int .i64 (cL : Int), .int .i64 (cI : Int), .string ch] 38)).alloc (by simp) (.cells #[.int .i64 (cL : Int), .int .i64 (yI : Int), .string yh] 38))
              go_wp2
              go_returns
              exact ⟨rfl, _, _, S9.out⟩
          · obtain rfl : r = 1 := by omega
            by_cases b3 : yI = z
            · subst b3
              have S9 : Hid (Sn w ((wr.alloc (.cells #[.int .i64 (cL : Int), .int .i64 (cI : Int), .string ch] 38)).alloc (.cells #[.int .i64 (cL : Int), .int .i64 (yI : Int), .string yh] 38)) B p aB bB _ vw' J.1.reverse (wh ++ J.2)) := (HHN.out (fun h => b2 h.2.1)).on (((Below.refl wr.heap.size _).alloc (Nat.le_refl _) (.cells #[.int .i64 (cL : Int), .int .i64 (cI : Int), .string ch] 38)).alloc (by simp) (.cells #[.int .i64 (cL : Int), .int .i64 (yI : Int), .string yh] 38))
              go_wp2
              all_goals (go_returns; exact ⟨rfl, _, _, S9.out⟩)
            · have hb3 : ¬ (yI : Int) = (z : Int) := by omega
              clear b3
              have S9 : Hid (Sn w ((wr.alloc (.cells #[.int .i64 (cL : Int), .int .i64 (cI : Int), .string ch] 38)).alloc (.cells #[.int .i64 (cL : Int), .int .i64 (yI : Int), .string yh] 38)) B p aB bB _ vw' J.1.reverse (wh ++ J.2)) := (HHN.out (fun h => b2 h.2.1)).on (((Below.refl wr.heap.size _).alloc (Nat.le_refl _) (.cells #[.int .i64 (cL : Int), .int .i64 (cI : Int), .string ch] 38)).alloc (by simp) (.cells #[.int .i64 (cL : Int), .int .i64 (yI : Int), .string yh] 38))
              go_wp2
              all_goals (go_returns; exact ⟨rfl, _, _, S9.out⟩)
        · have hb1 : ((cL : Int) == (yL : Int)) = false := by rw [beq_eq_false_iff_ne]; omega
          have S9 : Hid (Sn w ((wr.alloc (.cells #[.int .i64 (cL : Int), .int .i64 (cI : Int), .string ch] 38)).alloc (.cells #[.int .i64 (yL : Int), .int .i64 (yI : Int), .string yh] 38)) B p aB bB _ vw' J.1.reverse (wh ++ J.2)) := (HHN.out (fun h => b1 h.1)).on (((Below.refl wr.heap.size _).alloc (Nat.le_refl _) (.cells #[.int .i64 (cL : Int), .int .i64 (cI : Int), .string ch] 38)).alloc (by simp) (.cells #[.int .i64 (yL : Int), .int .i64 (yI : Int), .string yh] 38))
          go_wp2
          go_returns
          exact ⟨rfl, _, _, S9.out⟩
    · have ht64' : ¬ (t : Int) < 64 := by omega
      have S9 : Hid (Sn w wr B p aB bB _ vw' J.1.reverse (wh ++ J.2)) := STOP.out (by
        cases rs with
        | nil => rfl
        | cons c rs =>
          refine joinR_no _ rs (fun hh => ?_)
          have h1 := HQ.out.lv
          have h2 := hh.1
          have h3 := hh.2.2.2
          simp at h1
          omega)
      go_wp2
      go_returns
      exact ⟨rfl, _, _, S9.out⟩
end Go.Proofs.YtmmbkfagchaocaaDoor.rp
