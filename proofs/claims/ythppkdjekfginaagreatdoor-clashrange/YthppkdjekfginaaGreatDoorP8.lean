import Derived.Test.YthppkdjekfginaaGreatDoorP7
import Derived.Test.YthppkdjekfginaaGreatDoorP6
import Derived.Test.YthppkdjekfginaaGreatDoorP1
import Derived.Test.YthppkdjekfginaaGreatDoorG4
import Derived.Test.YthppkdjekfginaaGreatDoorP2
import Derived.Deep.DeepCutAuto
import Derived.Deep.AppendLies
namespace Go.Proofs.YthppkdjekfginaaGreatDoor.jd
open Go.RowKit Go.PlainAid
open Go.Proofs.YthppkdjekfginaaGreatDoor.pl Go.Proofs.YthppkdjekfginaaGreatDoor.pi Go.Proofs.YthppkdjekfginaaGreatDoor.pj Go.Proofs.YthppkdjekfginaaGreatDoor.rf Go.Proofs.YthppkdjekfginaaGreatDoor.ca Go.Proofs.YthppkdjekfginaaGreatDoor.cb Go.Proofs.YthppkdjekfginaaGreatDoor.cp Go.Proofs.YthppkdjekfginaaGreatDoor.ga Go.Proofs.YthppkdjekfginaaGreatDoor.gb Go.Proofs.YthppkdjekfginaaGreatDoor.aa Go.Proofs.YthppkdjekfginaaGreatDoor.ka Go.Proofs.YthppkdjekfginaaGreatDoor.kb Go.Proofs.YthppkdjekfginaaGreatDoor.kc Go.Proofs.YthppkdjekfginaaGreatDoor.kp Go.Proofs.YthppkdjekfginaaGreatDoor.mi Go.Proofs.YthppkdjekfginaaGreatDoor.lk Go.Proofs.YthppkdjekfginaaGreatDoor.co Go.Proofs.YthppkdjekfginaaGreatDoor.qb Go.Proofs.YthppkdjekfginaaGreatDoor.qc Go.Proofs.YthppkdjekfginaaGreatDoor.qk Go.Proofs.YthppkdjekfginaaGreatDoor.qp Go.Proofs.YthppkdjekfginaaGreatDoor.ta Go.Proofs.YthppkdjekfginaaGreatDoor.tb Go.Proofs.YthppkdjekfginaaGreatDoor.tc Go.Proofs.YthppkdjekfginaaGreatDoor.ua Go.Proofs.YthppkdjekfginaaGreatDoor.uk Go.Proofs.YthppkdjekfginaaGreatDoor.ul Go.Proofs.YthppkdjekfginaaGreatDoor.um Go.Proofs.YthppkdjekfginaaGreatDoor.un Go.Proofs.YthppkdjekfginaaGreatDoor.va Go.Proofs.YthppkdjekfginaaGreatDoor.vd Go.Proofs.YthppkdjekfginaaGreatDoor.ja Go.Proofs.YthppkdjekfginaaGreatDoor.jb Go.Proofs.YthppkdjekfginaaGreatDoor.jc Go.Proofs.YthppkdjekfginaaGreatDoor.je Go.Proofs.YthppkdjekfginaaGreatDoor.jj Go.Proofs.YthppkdjekfginaaGreatDoor.jq Go.Proofs.YthppkdjekfginaaGreatDoor.ji
set_option linter.unusedVariables false

set_option maxRecDepth 100000 in
set_option maxHeartbeats 12800000 in
theorem xRange (wd lo : Int) (hlo : i64 lo) (vl : Value) (xs : List ByteArray) (vc : Value) (cs : List ByteArray) (vp : Value) (proof : List ByteArray) (w : World) (hl : ReadsT w vl xs) (hc : ReadsT w vc cs) (hp : ReadsT w vp proof) (hx : Fits xs) (hf : Fits cs) (zp : proof.length ≤ 140737488355328) (hT : Tab4 w) :
    Calls Tryz.prog 13 #[.int .i64 wd, vl, .int .i64 lo, vc, vp] w fun e w' => e = .returned (clV (rangeX wd lo xs cs proof)) ∧ Below w.heap.size w w' := by
  obtain ⟨i8, hi8, hy0, hy1, hy2⟩ := ti.info_parts ti.hiE
  have HII : Hid (_ ∧ _ ∧ _ ∧ _) := ⟨hi8, hy0, hy1, hy2⟩
  obtain ⟨i9, hi, hz0, hz1, hz2⟩ := ka.info_parts ka.hi9
  have HIN : Hid (_ ∧ _ ∧ _ ∧ _) := ⟨hi, hz0, hz1, hz2⟩
  clear hi8 hy0 hy1 hy2 hi hz0 hz1 hz2
  have RD : Hid (ReadsT w vl xs ∧ ReadsT w vc cs ∧ ReadsT w vp proof ∧ Tab4 w ∧ Fits xs ∧ Fits cs) := ⟨hl, hc, hp, hT, hx, hf⟩
  have RC : Hid (∀ w', Tab4 w' → ReadsT w' vl xs → Calls _ _ _ _ _) := fun w' h1 h2 => gc.rRoot wd xs.length xs vl w' rfl h1 h2 hx
  have HC : Hid (∀ w', Tab4 w' → ReadsT w' vc cs → Calls _ _ _ _ _) := fun w' h1 h2 => hashesD wd vc cs w' h1 h2 hf
  have IC : Hid (∀ w' vh, Tab4 w' → ReadsT w' vh (LX wd cs) → ReadsT w' vp proof → Calls _ _ _ _ _) := fun w' vh h1 h2 h3 => qq.rRange wd lo xs.length hlo vh vp (LX wd cs) proof (RT wd xs) w' h2 h3 (by rw [LX_len]; exact hf.many) zp h1
  obtain ⟨la, lc, rfl, hlc, hlh⟩ := hl
  obtain ⟨ca', cc, rfl, hcc, hch⟩ := hc
  obtain ⟨pa, pc, rfl, hpc, _⟩ := hp
  obtain ⟨W, HW⟩ : ∃ W, Hid (W = w.alloc (.cells #[.string ⟨#[]⟩, .string ⟨#[]⟩, .bool false] 26)) := ⟨_, rfl⟩
  have hw : w.alloc (.cells #[.string ⟨#[]⟩, .string ⟨#[]⟩, .bool false] 26) = W := HW.out.symm
  have BW : Hid (Below w.heap.size w W) := by rw [HW.out]; exact (Below.refl _ _).alloc (Nat.le_refl _) _
  have HR : Hid (W.heap[w.heap.size]? = some (.cells #[.string ⟨#[]⟩, .string ⟨#[]⟩, .bool false] 26 (0, 0))) := by show _ = _; rw [HW.out]; exact heap_alloc_new w _
  have F4 : Hid (∀ w4, Below W.heap.size W w4 → w4.heap[w.heap.size]? = some (.cells #[.string ⟨#[]⟩, .string ⟨#[]⟩, .bool false] 26 (0, 0))) := fun w4 k => (k.block _ (Array.getElem?_eq_some_iff.1 HR.out).1).trans HR.out
  unfold rangeX
  obtain ⟨E, HE⟩ : ∃ E, Hid (rngA wd lo xs.length (LX wd cs) proof (RT wd xs) = E) := ⟨_, rfl⟩
  obtain ⟨y2, HY2⟩ : ∃ y, Hid (RT wd xs = y) := ⟨_, rfl⟩
  rw [HE.out] at IC ⊢
  rw [HY2.out] at RC IC
  obtain ⟨n, HN⟩ : ∃ n, Hid (xs.length = n) := ⟨_, rfl⟩
  obtain ⟨c, HCN⟩ : ∃ n, Hid (cs.length = n) := ⟨_, rfl⟩
  obtain ⟨l, HM⟩ : ∃ n, Hid (proof.length = n) := ⟨_, rfl⟩
  rw [HN.out] at RC IC RD hlc hlh ⊢
  rw [HCN.out] at HC RD hcc hch ⊢
  rw [HM.out] at IC RD ⊢
  have GD : Hid (∀ w', Below W.heap.size W w' → Tab4 w' ∧ ReadsT w' (.slice la n lc) xs ∧ ReadsT w' (.slice ca' c cc) cs ∧ ReadsT w' (.slice pa l pc) proof) := fun w' b => ⟨RD.out.2.2.2.1.down (over BW.out b), RD.out.1.later (over BW.out b), RD.out.2.1.later (over BW.out b), RD.out.2.2.1.later (over BW.out b)⟩
  by_cases h : E = 0
  · subst h
    rw [if_pos rfl]
    obtain ⟨L, rfl, k1, k2, k3, k4, k5, k6⟩ := rngA_ok HE.out
    rw [LX_len, HCN.out] at k1 k2
    rw [HN.out] at k2 k3
    rw [LX_len, HN.out] at k4
    have hxm := hx.many
    have hfm := hf.many
    rw [HN.out] at hxm
    rw [HCN.out] at hfm k4
    rw [Int.toNat_natCast]
    have v0 : ¬ (L : Int) < 0 := by omega
    have v0' : decide ((L : Int) < 0) = false := decide_eq_false v0
    have v1 : ¬ (n : Int) < c := by omega
    have v1' : decide ((n : Int) < c) = false := decide_eq_false v1
    have v1'' : decide (n < c) = false := decide_eq_false (by omega)
    have v2 : IntKind.i64.wrap ((n : Int) - c) = (n : Int) - c := by rw [IntKind.wrap_i64]; omega
    have v3 : ¬ (n : Int) - c < L := by omega
    have v3' : decide ((n : Int) - c < L) = false := decide_eq_false v3
    obtain ⟨bb, lo', hla, hlq⟩ := hlh.resolve_left (by omega)
    subst hla
    obtain ⟨cb, co', hca, hcq⟩ := hch.resolve_left (by omega)
    subst hca
    have HCQ : Hid (∀ i, i < c → w.cell? ⟨cb, co' + i, none⟩ = some (.string (cs.getD i ByteArray.empty))) := hcq
    have OWN : Hid (ownP xs (psK L cs c) ↔ slc xs L (L + c) = cs) := by have := own_range xs cs L (by rw [HCN.out, HN.out]; exact k2); rw [HCN.out] at this; exact this
    have REP : Hid (Rep (lkS L (L + c)) (fun p => cs.getD (p - L) ByteArray.empty) (psK L cs c) 0 xs.length) := by have := rep_range L cs xs.length (by rw [HCN.out]; exact k1); rw [HCN.out] at this; exact this
    have SH : Hid (Sh (lkS L (L + c))) := sh_range _ _
    have LIM : Hid ((psK L cs c).length * 16 ≤ 140737488351232 ∧ (∀ p ∈ psK L cs c, p.1 < xs.length) ∧ xs.length ≤ 4611686018427387904) := ⟨by rw [psK_len]; exact hfm, fun p hp => by obtain ⟨i, hi, rfl⟩ := psK_mem.1 hp; rw [HN.out]; show L + i < n; omega, by rw [HN.out]; exact k3⟩
    have LIM2 : Hid (0 < xs.length ∧ (∀ p ∈ psK L cs c, p.2.size ≤ 140737488352000) ∧ proof.length = (WL (lkS L (L + c)) 0 xs.length).length ∧ Wide wd proof ∧ proof.length ≤ 140737488355328) := by
      refine ⟨by rw [HN.out]; omega, fun p hp => ?_, by rw [HN.out]; exact k4, k5, zp⟩
      obtain ⟨i, hi, rfl⟩ := psK_mem.1 hp
      show (cs.getD i ByteArray.empty).size ≤ _
      rw [List.getD_eq_getElem?_getD, List.getElem?_eq_getElem (show i < cs.length by rw [HCN.out]; exact hi)]
      exact hf.each _ (List.getElem_mem _)
    obtain ⟨OO, HOO⟩ : ∃ OO, Hid (fst1 (clM wd (lkS L (L + c)) (fun p => cs.getD (p - L) ByteArray.empty) proof 0 n) (owM wd (lkS L (L + c)) xs 0 n) = OO) := ⟨_, rfl⟩
    have HAN : Hid (fst1 (gw (HH wd) (lkS L (L + c)) (fun p => cs.getD (p - L) ByteArray.empty) nx proof 0 n).1 (ownT wd (lkS L (L + c)) xs) = OO) := by
      show _ = _
      rw [← HOO.out]
      unfold clM owM ownT
      rw [HN.out]
    rw [HAN.out]
    obtain ⟨ANS, HANS⟩ : ∃ ANS, Hid ((if slc xs L (L + c) = cs then none else OO) = ANS) := ⟨_, rfl⟩
    rw [HANS.out]
    have HB2 : Hid (n ≤ 8796093021952 ∧ c ≤ 8796093021952 ∧ L ≤ 4611686018427387904) := ⟨by omega, by omega, by omega⟩
    clear k1 k2 k3 k4 k5 k6 hxm hfm hlq hcq hlh hch hT hx hf zp
    go_enter Tryz.func13, Tryz.ntmps13
    go_wp2_with fail
    try rw [hw]
    refine (RC.out _ (GD.out _ (Below.refl _ _)).1 (GD.out _ (Below.refl _ _)).2.1).mono ?_
    rintro e w2 ⟨rfl, hb2⟩
    have B2 : Hid (Below W.heap.size W w2) := hb2
    clear hb2
    go_wp2_with fail
    refine (HC.out _ (GD.out _ B2.out).1 (GD.out _ B2.out).2.2.1).mono ?_
    rintro e w3 ⟨⟨vh, rfl, oh⟩, hb3⟩
    have B3 : Hid (Below W.heap.size W w3) := over B2.out hb3
    have RH : Hid (ReadsT w3 vh (LX wd cs)) := readsT_own oh
    obtain ⟨ha', hc', hvh⟩ := own_formS oh
    subst hvh
    clear hb3 oh
    go_wp2_with fail
    refine (IC.out _ _ (GD.out _ B3.out).1 RH.out (GD.out _ B3.out).2.2.2).mono ?_
    rintro e w4 ⟨rfl, hb4⟩
    have B4 : Hid (Below W.heap.size W w4) := over B3.out hb4
    clear hb4 RH
    obtain ⟨V, HV⟩ : ∃ V, Hid (V = w4.alloc (.cells #[.slice none 0 0, .slice none 0 0] 61)) := ⟨_, rfl⟩
    have hv : w4.alloc (.cells #[.slice none 0 0, .slice none 0 0] 61) = V := HV.out.symm
    have BV : Hid (Below w4.heap.size w4 V) := by rw [HV.out]; exact (Below.refl _ _).alloc (Nat.le_refl _) _
    have hV0 : V.heap[w4.heap.size]? = some (.cells #[.slice none 0 0, .slice none 0 0] 61 (0, 0)) := by rw [HV.out]; exact heap_alloc_new w4 _
    have W0 : Hid (Wn V w4.heap.size (.slice none 0 0) (.slice none 0 0) (zsP (psK L cs 0)) (csP (psK L cs 0)) V) := ⟨hV0, World.ownsRow_nil _ _ _ _, World.ownsRow_nil _ _ _ _, Kp.refl _ _, (Array.getElem?_eq_some_iff.1 hV0).1⟩
    have CQ : Hid (∀ wr, Kp (fun b => b = w4.heap.size) V wr → ∀ i, i < c → wr.cell? ⟨cb, co' + i, none⟩ = some (.string (cs.getD i ByteArray.empty))) := fun wr k i hi => by
      have hc0 := HCQ.out i hi
      have hlt : cb < w.heap.size := World.block_lt_of_cell? _ _ hc0
      have hb := over BW.out (over B4.out BV.out)
      exact k.cell ((hb.cell hlt).trans hc0) (fun e => by have := (over BW.out B4.out).size; omega)
    clear HV hV0
    go_wp2
    try rw [hv]
    go_loopw [14] (fun i wr => ∃ (k : Nat) (u1 u2 : Value), k ≤ c ∧ i = .int .i64 k ∧ Hid (Wn V w4.heap.size u1 u2 (zsP (psK L cs k)) (csP (psK L cs k)) wr)) (fun i _ => (c - intOf i).toNat)
    case atStart => exact ⟨0, _, _, by omega, rfl, W0⟩
    case round =>
      obtain ⟨k, u1, u2, hk, rfl, HH⟩ := hrel
      clear W0 hv
      by_cases h1 : k < c
      · have h1' : (k : Int) < c := by omega
        have hcl := HB2.out
        have w5 : IntKind.i64.wrap ((L : Int) + k) = (L : Int) + k := by rw [IntKind.wrap_i64]; omega
        obtain ⟨ua, uc, hu1⟩ := own_formS HH.out.r1
        subst hu1
        have hlt := (Array.getElem?_eq_some_iff.1 HH.out.row).1
        have o0 : wr.cell? ⟨w4.heap.size, 0, none⟩ = some _ := cell_of_row _ _ 0 _ _ _ HH.out.row
        have hl1 : (zsP (psK L cs k)).length = k := by rw [zsP_len, psK_len]
        have hl2 : (csP (psK L cs k)).length = k := by rw [csP_len, psK_len]
        have OX : Hid ((wr.alloc (.cells #[.int .i64 ((L : Int) + k)] 3)).ownsRow V.heap.size 3 1 (.slice ua k uc) k ((zsP (psK L cs k)).map (Value.int .i64))) := by have := HH.out.r1.alloc (.cells #[.int .i64 ((L : Int) + k)] 3); rw [hl1] at this; exact this
        have NW : Hid (∀ (j : Nat) (y : Value), [Value.int .i64 ((L : Int) + k)][j]? = some y → (wr.alloc (.cells #[.int .i64 ((L : Int) + k)] 3)).cell? (Addr.add ⟨wr.heap.size, 0, none⟩ j) = some y) := ti.new_one wr _ _
        have MO : Hid (∀ u ∈ [Value.int .i64 ((L : Int) + k)], u.oneCell' = true) := fun u hu => by simp only [List.mem_cons, List.not_mem_nil, or_false] at hu; subst hu; rfl
        have hBw : V.heap.size ≤ wr.heap.size := HH.out.fr.size
        have AR : Hid (∀ w7 v5, w7.ownsRow V.heap.size 3 1 v5 (k + 1) ((zsP (psK L cs k)).map (Value.int .i64) ++ [.int .i64 ((L : Int) + k)]) → (wr.alloc (.cells #[.int .i64 ((L : Int) + k)] 3)).grownBy w7 (Value.slice ua k uc).ownBlock → w7.heap[w4.heap.size]? = some (.cells #[.slice ua k uc, u2] 61 (0, 0)) ∧ Wn V w4.heap.size v5 u2 (zsP (psK L cs k) ++ [(L : Int) + k]) (csP (psK L cs k)) (w7.setCell ⟨w4.heap.size, 0, none⟩ v5)) := fun w7 v5 ho7 hg7 => by
          have := Wn.app1 HH.out (v5 := v5) (ns := [(L : Int) + k]) (.inr ⟨_, rfl⟩) (by rw [hl1]; exact ho7) (by rw [hl1]; exact hg7)
          rw [hl1] at this
          exact this
        rw [hl1] at o0
        clear hl1
        go_upto_region 10 with (at_builtin; refine wpList_append_own _ rfl _ _ 33 rfl V.heap.size 3 i8 (.int .i64 0) 1 8 Tryz.underlying33 HII.out.1 HII.out.2.1 HII.out.2.2.1 HII.out.2.2.2 rfl (by decide) _ k _ rfl OX.out ⟨wr.heap.size, 0, none⟩ 1 1 [.int .i64 ((L : Int) + k)] rfl rfl NW.out MO.out (by unfold maxLen; omega) (by omega) (by simp; omega) ?_; intro f' w7 ho hg hnn; have A7 : Hid _ := AR.out w7 f' ho hg; obtain ⟨fa, fc, hff⟩ := own_formS ho; subst hff; have c17 := cell_of_row _ _ 0 _ _ _ A7.out.1; have f17 := frozen_of_row _ _ 0 _ _ A7.out.1; clear ho hg hnn)
        obtain ⟨w8, HW8⟩ : ∃ w8, Hid (w8 = w7.setCell ⟨w4.heap.size, 0, none⟩ (.slice fa (k + 1) fc)) := ⟨_, rfl⟩
        have hw8 : w7.setCell ⟨w4.heap.size, 0, none⟩ (.slice fa (k + 1) fc) = w8 := HW8.out.symm
        have H2 : Hid (Wn V w4.heap.size (.slice fa (k + 1) fc) u2 (zsP (psK L cs k) ++ [(L : Int) + k]) (csP (psK L cs k)) w8) := by rw [← hw8]; exact A7.out.2
        rw [hw8]
        clear hw8 HW8 A7 c17 f17 o0 OX NW AR hBw hlt HH
        have hlt2 := (Array.getElem?_eq_some_iff.1 H2.out.row).1
        have e2 := CQ.out w8 H2.out.fr k h1
        obtain ⟨Y, HY⟩ : ∃ Y, Hid (cs.getD k ByteArray.empty = Y) := ⟨_, rfl⟩
        rw [HY.out] at e2
        have o1 : w8.cell? ⟨w4.heap.size, 1, none⟩ = some u2 := cell_of_row _ _ 1 _ _ _ H2.out.row
        have o1a : (w8.alloc (.cells #[.string Y] 9)).cell? ⟨w4.heap.size, 1, none⟩ = some u2 := (World.cell?_alloc_lt _ _ _ hlt2).trans o1
        have O5 : Hid ((w8.alloc (.cells #[.string Y] 9)).drew.ownsRow V.heap.size 9 1 u2 k ((csP (psK L cs k)).map Value.string)) := by have := H2.out.r2.alloc (.cells #[.string Y] 9); rw [hl2] at this; exact this
        have NX : Hid (∀ (j : Nat) (y : Value), [Value.string Y][j]? = some y → (w8.alloc (.cells #[.string Y] 9)).drew.cell? (Addr.add ⟨w8.heap.size, 0, none⟩ j) = some y) := ka.new_text w8 _ _
        have hBc : V.heap.size ≤ w8.heap.size := H2.out.fr.size
        have AT : Hid (∀ w7 g5 c5, w7.ownsRow V.heap.size 9 1 (.slice (some ⟨g5, 0, none⟩) (k + 1) c5) (k + 1) ((csP (psK L cs k)).map Value.string ++ [.string Y]) → (w8.alloc (.cells #[.string Y] 9)).grownBy w7 u2.ownBlock → w7.heap[w4.heap.size]? = some (.cells #[.slice fa (k + 1) fc, u2] 61 (0, 0)) ∧ Wn V w4.heap.size (.slice fa (k + 1) fc) (.slice (some ⟨g5, 0, none⟩) (k + 1) c5) (zsP (psK L cs k) ++ [(L : Int) + k]) (csP (psK L cs k) ++ [Y]) (w7.setCell ⟨w4.heap.size, 1, none⟩ (.slice (some ⟨g5, 0, none⟩) (k + 1) c5))) := fun w7 g5 c5 ho7 hg7 => by
          have := H2.out.add2 (g5 := g5) (c5 := c5) (Y := Y) (.cells #[.string Y] 9) (by rw [hl2]; exact ho7) hg7
          rw [hl2] at this
          exact this
        have HE2 : Hid (zsP (psK L cs k) ++ [(L : Int) + k] = zsP (psK L cs (k + 1)) ∧ csP (psK L cs k) ++ [Y] = csP (psK L cs (k + 1))) := by
          refine ⟨?_, ?_⟩
          · rw [psK_succ]; unfold zsP; rw [List.map_append]; simp
          · rw [psK_succ]; unfold csP; rw [List.map_append, ← HY.out]; rfl
        clear hl2
        go_region_law ((first | (have zz := O5.out; refine step_append_lies _ (by rfl) (.tmp 67) (.tmp 72) 22 (by rfl) V.heap.size 9 i9 (.string ByteArray.empty) 1 16 Tryz.underlying22 HIN.out.1 HIN.out.2.1 HIN.out.2.2.1 HIN.out.2.2.2 rfl (by decide) u2 k _ (by simp [Act.eval]) O5.out ⟨w8.heap.size, 0, none⟩ 1 1 [.string Y] (by simp [Act.eval]) rfl NX.out (ka.one_text _) (by omega) (by unfold maxLen; omega) (by omega) (by simp; omega) (w8.heap.size + 1) (by simp) ?_; intro g5 c5 w7 ho7 hg7 hl7 hlt7; have A7 : Hid _ := AT.out w7 g5 c5 ho7 ⟨hg7.os, hg7.tape, hg7.output, hg7.size, hg7.block⟩; have c17 := cell_of_row _ _ 1 _ _ _ A7.out.1; have f17 := frozen_of_row _ _ 1 _ _ A7.out.1; clear ho7 hg7 hl7 zz)))
        all_goals (
          go_wp2
          go_roundw
          case rel => exact ⟨k + 1, _, _, by omega, by go_num, by show Wn _ _ _ _ _ _ _; rw [← HE2.out.1, ← HE2.out.2]; exact A7.out.2⟩
          case measure => simp [intOf]; omega)
      · have h1' : ¬ (k : Int) < c := by omega
        obtain rfl : k = c := by omega
        obtain ⟨a1, d1, hu1⟩ := own_formS HH.out.r1
        obtain ⟨a2, d2, hu2⟩ := own_formS HH.out.r2
        subst hu1
        subst hu2
        have AQ : Hid (Aq wr (.slice a1 (zsP (psK L cs k)).length d1) (.slice a2 (csP (psK L cs k)).length d2) (psK L cs k)) := ⟨readsI_own HH.out.r1, readsT_own HH.out.r2⟩
        have o0 : wr.cell? ⟨w4.heap.size, 0, none⟩ = some _ := cell_of_row _ _ 0 _ _ _ HH.out.row
        have o1 : wr.cell? ⟨w4.heap.size, 1, none⟩ = some _ := cell_of_row _ _ 1 _ _ _ HH.out.row
        have BR : Hid (Below W.heap.size W wr) := (over B4.out BV.out).trans (HH.out.fr.below (fun q e => by have := B4.out.size; omega) (by have := (over B4.out BV.out).size; omega))
        have LC : Hid (Calls _ _ _ _ _) := listsD (.slice (some ⟨bb, lo', none⟩) n lc) xs _ _ (psK L cs k) wr (GD.out _ BR.out).2.1 AQ.out LIM.out.1 LIM.out.2.1 LIM.out.2.2
        have DC : Hid (∀ W', Below wr.heap.size wr W' → Calls _ _ _ _ _) := fun W' b => downD wd SH.out xs RD.out.2.2.2.2.1 xs.length 0 xs.length _ _ (psK L cs k) (.slice pa l pc) proof (.slice (some ⟨bb, lo', none⟩) n lc) W' rfl LIM2.out.1 (Nat.le_refl _) REP.out (AQ.out.later b) LIM.out.1 LIM2.out.2.1 LIM2.out.2.2.1 LIM2.out.2.2.2.1 (GD.out _ (over BR.out b)).2.2.2 LIM2.out.2.2.2.2 (GD.out _ (over BR.out b)).2.1 (GD.out _ (over BR.out b)).1
        rw [HN.out] at DC
        obtain ⟨L1, HL1⟩ : ∃ q, Hid ((zsP (psK L cs k)).length = q) := ⟨_, rfl⟩
        obtain ⟨L2, HL2⟩ : ∃ q, Hid ((csP (psK L cs k)).length = q) := ⟨_, rfl⟩
        rw [HL1.out] at LC DC o0
        rw [HL2.out] at LC DC o1
        have DC0 : Hid (∀ W', Below wr.heap.size wr W' → Calls Tryz.prog 37 #[.int .i64 wd, .slice (some ⟨bb, lo', none⟩) n lc, .agg #[.slice a1 L1 d1, .slice a2 L2 d2], .int .i64 0, .int .i64 n, .slice pa l pc] W' fun e w' => e = .returned (clV OO) ∧ Below W'.heap.size W' w') := fun W' b => by have := DC.out W' b; rw [HOO.out] at this; exact this
        obtain ⟨p1, p2, p3, hgo⟩ := clV_of OO
        rw [hgo] at DC0
        clear DC
        by_cases hown : slc xs L (L + k) = cs
        · have HOV : Hid (ANS = none) := by show _ = _; rw [← HANS.out, if_pos hown]
          rw [decide_eq_true (OWN.out.2 hown)] at LC
          clear hown hgo DC0
          go_wp2_with fail
          refine LC.out.mono ?_
          rintro e w6 ⟨rfl, hb6⟩
          have B6 : Hid (Below W.heap.size W w6) := over BR.out hb6
          clear hb6
          have hr2 := F4.out w6 B6.out
          have e0 : w6.cell? ⟨w.heap.size, 0, none⟩ = _ := cell_of_row _ _ 0 _ _ _ hr2
          have e1 : w6.cell? ⟨w.heap.size, 1, none⟩ = _ := cell_of_row _ _ 1 _ _ _ hr2
          have e2 : w6.cell? ⟨w.heap.size, 2, none⟩ = _ := cell_of_row _ _ 2 _ _ _ hr2
          have f0 := frozen_of_row _ _ 0 _ _ hr2
          have f1 := frozen_of_row _ _ 1 _ _ hr2
          have f2 := frozen_of_row _ _ 2 _ _ hr2
          have FIN : Hid (∀ W', W' = _ → _) := put3 w6 w.heap.size _ _ _ (.string ⟨#[]⟩) (.string ⟨#[]⟩) (.bool false) _ hr2
          clear hr2
          go_wp2
          obtain ⟨G, hb⟩ := FIN.out _ rfl
          refine bodyPost_ret (by simp [results, Tryz.results13, go_sem, G.1, G.2.1, G.2.2]; try rfl) rfl ?_
          exact ⟨by rw [HOV.out]; rfl, (over BW.out B6.out).trans (hb _ (Nat.le_refl _))⟩
        · have HOV : Hid (clV ANS = .agg #[.string p1, .string p2, .bool p3]) := by show _ = _; rw [← HANS.out, if_neg hown]; exact hgo
          rw [decide_eq_false (fun e => hown (OWN.out.1 e))] at LC
          clear hown hgo
          go_wp2_with fail
          refine LC.out.mono ?_
          rintro e w6 ⟨rfl, hb6⟩
          have B6 : Hid (Below wr.heap.size wr w6) := hb6
          have o0' : w6.cell? ⟨w4.heap.size, 0, none⟩ = some _ := (hb6.cell (World.block_lt_of_cell? _ _ o0)).trans o0
          have o1' : w6.cell? ⟨w4.heap.size, 1, none⟩ = some _ := (hb6.cell (World.block_lt_of_cell? _ _ o1)).trans o1
          clear hb6 o0 o1
          go_wp2_with fail
          refine (DC0.out _ B6.out).mono ?_
          rintro e w7 ⟨rfl, hb7⟩
          have B7 : Hid (Below W.heap.size W w7) := over BR.out (over B6.out hb7)
          clear hb7
          have hr2 := F4.out w7 B7.out
          have e0 : w7.cell? ⟨w.heap.size, 0, none⟩ = _ := cell_of_row _ _ 0 _ _ _ hr2
          have e1 : w7.cell? ⟨w.heap.size, 1, none⟩ = _ := cell_of_row _ _ 1 _ _ _ hr2
          have e2 : w7.cell? ⟨w.heap.size, 2, none⟩ = _ := cell_of_row _ _ 2 _ _ _ hr2
          have f0 := frozen_of_row _ _ 0 _ _ hr2
          have f1 := frozen_of_row _ _ 1 _ _ hr2
          have f2 := frozen_of_row _ _ 2 _ _ hr2
          have FIN : Hid (∀ W', W' = _ → _) := put3 w7 w.heap.size _ _ _ (.string p1) (.string p2) (.bool p3) _ hr2
          clear hr2
          go_wp2
          obtain ⟨G, hb⟩ := FIN.out _ rfl
          refine bodyPost_ret (by simp [results, Tryz.results13, go_sem, G.1, G.2.1, G.2.2]; try rfl) rfl ?_
          exact ⟨by rw [HOV.out], (over BW.out B7.out).trans (hb _ (Nat.le_refl _))⟩
  · rw [if_neg h]
    have q : (E == 0) = false := by rw [beq_eq_false_iff_ne]; exact h
    have q2 : (E != 0) = true := by rw [bne, q]; rfl
    clear h hlh hch hT hx hf zp
    go_enter Tryz.func13, Tryz.ntmps13
    go_wp2_with fail
    try rw [hw]
    refine (RC.out _ (GD.out _ (Below.refl _ _)).1 (GD.out _ (Below.refl _ _)).2.1).mono ?_
    rintro e w2 ⟨rfl, hb2⟩
    have B2 : Hid (Below W.heap.size W w2) := hb2
    clear hb2
    go_wp2_with fail
    refine (HC.out _ (GD.out _ B2.out).1 (GD.out _ B2.out).2.2.1).mono ?_
    rintro e w3 ⟨⟨vh, rfl, oh⟩, hb3⟩
    have B3 : Hid (Below W.heap.size W w3) := over B2.out hb3
    have RH : Hid (ReadsT w3 vh (LX wd cs)) := readsT_own oh
    obtain ⟨ha', hc', hvh⟩ := own_formS oh
    subst hvh
    clear hb3 oh
    go_wp2_with fail
    refine (IC.out _ _ (GD.out _ B3.out).1 RH.out (GD.out _ B3.out).2.2.2).mono ?_
    rintro e w4 ⟨rfl, hb4⟩
    have B4 : Hid (Below W.heap.size W w4) := over B3.out hb4
    clear hb4 RH
    have hr2 := F4.out w4 B4.out
    have e0 : w4.cell? ⟨w.heap.size, 0, none⟩ = _ := cell_of_row _ _ 0 _ _ _ hr2
    have e1 : w4.cell? ⟨w.heap.size, 1, none⟩ = _ := cell_of_row _ _ 1 _ _ _ hr2
    have e2 : w4.cell? ⟨w.heap.size, 2, none⟩ = _ := cell_of_row _ _ 2 _ _ _ hr2
    have f0 := frozen_of_row _ _ 0 _ _ hr2
    have f1 := frozen_of_row _ _ 1 _ _ hr2
    have f2 := frozen_of_row _ _ 2 _ _ hr2
    have FIN : Hid (∀ W', W' = _ → _) := put3 w4 w.heap.size _ _ _ (.string ⟨#[]⟩) (.string ⟨#[]⟩) (.bool false) _ hr2
    clear hr2
    go_wp2
    obtain ⟨G, hb⟩ := FIN.out _ rfl
    refine bodyPost_ret (by simp [results, Tryz.results13, go_sem, G.1, G.2.1, G.2.2]; try rfl) rfl ?_
    exact ⟨rfl, (over BW.out B4.out).trans (hb _ (Nat.le_refl _))⟩
end Go.Proofs.YthppkdjekfginaaGreatDoor.jd
