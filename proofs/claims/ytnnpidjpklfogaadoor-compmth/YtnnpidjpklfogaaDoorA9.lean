import Derived.Test.YtnnpidjpklfogaaDoorA6
import Derived.Test.YtnnpidjpklfogaaDoorA2
import Derived.Test.YtnnpidjpklfogaaDoorA7
namespace Go.Proofs.YtnnpidjpklfogaaDoor.qj
open Go.RowKit Go.PlainAid
open Go.Proofs.YtnnpidjpklfogaaDoor.pl Go.Proofs.YtnnpidjpklfogaaDoor.pi Go.Proofs.YtnnpidjpklfogaaDoor.pj Go.Proofs.YtnnpidjpklfogaaDoor.rf Go.Proofs.YtnnpidjpklfogaaDoor.ca Go.Proofs.YtnnpidjpklfogaaDoor.cb Go.Proofs.YtnnpidjpklfogaaDoor.cp Go.Proofs.YtnnpidjpklfogaaDoor.cs Go.Proofs.YtnnpidjpklfogaaDoor.ct Go.Proofs.YtnnpidjpklfogaaDoor.ka Go.Proofs.YtnnpidjpklfogaaDoor.kb Go.Proofs.YtnnpidjpklfogaaDoor.kc Go.Proofs.YtnnpidjpklfogaaDoor.ga Go.Proofs.YtnnpidjpklfogaaDoor.gb Go.Proofs.YtnnpidjpklfogaaDoor.gr Go.Proofs.YtnnpidjpklfogaaDoor.gn Go.Proofs.YtnnpidjpklfogaaDoor.na Go.Proofs.YtnnpidjpklfogaaDoor.nb Go.Proofs.YtnnpidjpklfogaaDoor.nc Go.Proofs.YtnnpidjpklfogaaDoor.nf Go.Proofs.YtnnpidjpklfogaaDoor.oa Go.Proofs.YtnnpidjpklfogaaDoor.ob Go.Proofs.YtnnpidjpklfogaaDoor.qa Go.Proofs.YtnnpidjpklfogaaDoor.qb Go.Proofs.YtnnpidjpklfogaaDoor.qc Go.Proofs.YtnnpidjpklfogaaDoor.qd Go.Proofs.YtnnpidjpklfogaaDoor.qf Go.Proofs.YtnnpidjpklfogaaDoor.qg Go.Proofs.YtnnpidjpklfogaaDoor.qi Go.Proofs.YtnnpidjpklfogaaDoor.xc
set_option linter.unusedVariables false

structure Mv (w wr : World) (wd : Int) (f : Nat → ByteArray) (bx k : Nat) (u : Value) : Prop where
  b : Below w.heap.size w wr
  fx : Fx wr bx (0 : Int) k u
  tx : Texts wr w.heap.size u (covH wd f 0 k)
  hf : w.heap.size ≤ bx
theorem Mv.next {w wr wx wi : World} {wd : Int} {f : Nat → ByteArray} {bx k g : Nat} {u u' m' : Value} {ns : List Md} {hi : Int} (h : Mv w wr wd f bx k u) (h1 : hi = ((k + 1 : Nat) : Int)) (hG : Gx wr (0 : Int) hi (covH wd f 0 (k + 1)) ns g u' m' wx) (hi2 : Hb wx wi) :
    Fx wi g (0 : Int) hi u' ∧ Fx wi bx (0 : Int) k u ∧ Mv w (set3 wi bx (.int .i64 0) (.int .i64 hi) u') wd f bx (k + 1) u' := by
  obtain ⟨hb, hg, gx, tx, mx⟩ := hG
  have hfx : Fx wi bx (0 : Int) k u := (h.fx.on hb).on hi2
  refine ⟨gx.on hi2, hfx, below_set3 (over (over h.b hb) hi2) h.hf _ _ _, ?_, own_set3 ((tx.down h.b.size).later hi2) hfx (by decide) _ _ _, h.hf⟩
  rw [← h1]
  exact fx_set hfx 0 hi u'
theorem want_at {i t : Nat} (hd : 2 ^ (t + 1) ∣ i + 1) : (i + 1) / 2 ^ (t + 1) = i / 2 ^ (t + 1) + 1 ∧ (i / 2 ^ (t + 1) + 1) * 2 ^ (t + 1) = i + 1 := by
  obtain ⟨m, hm⟩ := hd
  have hp := p2 (t + 1)
  have hm0 : 0 < m := by
    rcases Nat.eq_zero_or_pos m with e | e
    · rw [e, Nat.mul_zero] at hm; omega
    · exact e
  have e1 : (i + 1) / 2 ^ (t + 1) = m := by rw [hm, Nat.mul_div_cancel_left _ hp]
  have e2 : i / 2 ^ (t + 1) = m - 1 := by
    rw [Nat.div_eq_iff hp]
    have h3 : 2 ^ (t + 1) * m = 2 ^ (t + 1) * (m - 1) + 2 ^ (t + 1) := by rw [← Nat.mul_succ]; congr 1; omega
    rw [Nat.mul_comm (m - 1)]
    omega
  refine ⟨by rw [e1, e2]; omega, ?_⟩
  rw [e2, hm, Nat.mul_comm]
  congr 1
  omega
theorem zeros_dvd {i t : Nat} (hi : i < 4611686018427387904) (h : t < Lib.ctz 64 (i + 1)) : 2 ^ (t + 1) ∣ i + 1 := by
  obtain ⟨m, hm, hk⟩ := Lib.ctzFrom_spec 64 (i + 1) (by omega) (by omega)
  have e : Lib.ctz 64 (i + 1) = Lib.ctzFrom 64 (i + 1) := by unfold Lib.ctz; rw [if_neg (by omega)]
  rw [e] at h
  rw [hm]
  exact Nat.dvd_trans (p2dvd h) (Nat.dvd_mul_right _ _)
end Go.Proofs.YtnnpidjpklfogaaDoor.qj

namespace Go.Proofs.YtnnpidjpklfogaaDoor.qk
open Go.RowKit Go.PlainAid
open Go.Proofs.YtnnpidjpklfogaaDoor.pl Go.Proofs.YtnnpidjpklfogaaDoor.pi Go.Proofs.YtnnpidjpklfogaaDoor.pj Go.Proofs.YtnnpidjpklfogaaDoor.rf Go.Proofs.YtnnpidjpklfogaaDoor.ca Go.Proofs.YtnnpidjpklfogaaDoor.cb Go.Proofs.YtnnpidjpklfogaaDoor.cp Go.Proofs.YtnnpidjpklfogaaDoor.cs Go.Proofs.YtnnpidjpklfogaaDoor.ct Go.Proofs.YtnnpidjpklfogaaDoor.ka Go.Proofs.YtnnpidjpklfogaaDoor.kb Go.Proofs.YtnnpidjpklfogaaDoor.kc Go.Proofs.YtnnpidjpklfogaaDoor.ga Go.Proofs.YtnnpidjpklfogaaDoor.gb Go.Proofs.YtnnpidjpklfogaaDoor.gr Go.Proofs.YtnnpidjpklfogaaDoor.gn Go.Proofs.YtnnpidjpklfogaaDoor.na Go.Proofs.YtnnpidjpklfogaaDoor.nb Go.Proofs.YtnnpidjpklfogaaDoor.nc Go.Proofs.YtnnpidjpklfogaaDoor.nf Go.Proofs.YtnnpidjpklfogaaDoor.oa Go.Proofs.YtnnpidjpklfogaaDoor.ob Go.Proofs.YtnnpidjpklfogaaDoor.qa Go.Proofs.YtnnpidjpklfogaaDoor.qb Go.Proofs.YtnnpidjpklfogaaDoor.qc Go.Proofs.YtnnpidjpklfogaaDoor.qd Go.Proofs.YtnnpidjpklfogaaDoor.qf Go.Proofs.YtnnpidjpklfogaaDoor.qg Go.Proofs.YtnnpidjpklfogaaDoor.qi Go.Proofs.YtnnpidjpklfogaaDoor.qj Go.Proofs.YtnnpidjpklfogaaDoor.xc
set_option linter.unusedVariables false

theorem zed1 {w4 wl : World} (hb : Below (w4.alloc (.cells #[.int .i64 0, .int .i64 0, .slice none 0 0] 25)).drew.heap.size (w4.alloc (.cells #[.int .i64 0, .int .i64 0, .slice none 0 0] 25)).drew wl) : Fx wl w4.heap.size 0 0 (.slice none 0 0) := (hb.block _ (fx_new w4 0 0 (.slice none 0 0)).lt).trans (fx_new w4 0 0 (.slice none 0 0))
theorem zed2 {wl wp : World} (hb : Below (wl.alloc (.cells #[.int .i64 0, .int .i64 0, .slice none 0 0] 25)).heap.size (wl.alloc (.cells #[.int .i64 0, .int .i64 0, .slice none 0 0] 25)) wp) : Fx wp wl.heap.size 0 0 (.slice none 0 0) := (fx_new wl 0 0 (.slice none 0 0)).on hb
theorem gx_set2 {w w' : World} {lo hi : Int} {hs : List ByteArray} {ns : List Md} {B r : Nat} {u' m' : Value} (h : Hb w w') (hB : w.heap.size ≤ B) (hr : w.heap.size ≤ r) (hz : Fx w' r 0 0 (.slice none 0 0)) (tx : Texts w' B u' hs) (mx : Mades w' B m' ns) : Gx w lo hi hs ns r u' m' (set3 w' r (.int .i64 lo) (.int .i64 hi) u') :=
  ⟨h.set hr _ _ _, hr, fx_set hz _ _ _, own_set3 (tx.down hB) hz (by decide) _ _ _, own_set3 (mx.down hB) hz (by decide) _ _ _⟩
set_option maxHeartbeats 6400000 in
set_option maxRecDepth 100000 in
theorem comp_mth {T : World → Prop} (later : ∀ {w w' : World}, T w → Below w.heap.size w w' → T w') (tab : ∀ {w : World}, T w → Tab w) (tbb : ∀ {w : World}, T w → TabB w) (SC : StartC T) (PC : PushC T) (RC : RootC7 T) (RO : RootC T) (ND : NodeC T) (wd : Int) (hwd : i64 wd) (v : Value) (xs : List ByteArray) (w : World) (hT : T w) (hR : ReadsT w v xs) (hf : Fits xs) :
    Calls Tryd.prog 5 #[.int .i64 wd, v] w fun e w' => e = .returned (.bool true) ∧ Below w.heap.size w w' := by
  have LIV : Hid (∀ w, T w → Calls _ _ _ _ _) := fun w h => live later tbb SC w h
  have ST : Hid (∀ w, T w → Calls _ _ _ _ _) := fun w h => start_at SC 0 (by omega) w h
  have LT : Hid (∀ {w w' : World}, T w → Below w.heap.size w w' → T w') := later
  have LB : Hid (∀ {w : World}, T w → TabB w) := tbb
  have HT : Hid (T w) := hT
  have HRD : Hid (ReadsT w v xs) := hR
  have HFI : Hid (Fits xs) := hf
  have hmm := hf.many
  have HS : Hid (∀ i, (leafAt wd (LX wd xs) 0 i).size = wid wd) := leafAt_size (LX_size wd xs) 0
  have P1 : Hid (Push1 T) := push1 PC
  have RCG : Hid (RootC7 T) := RC
  have ROG : Hid (RootC T) := RO
  have NDG : Hid (∀ k i : Nat, k ≤ 62 → (i + 1) * 2 ^ k ≤ xs.length → ∀ w, T w → ReadsT w v xs → Calls Tryd.prog 24 #[.int .i64 wd, .agg #[.int .i64 k, .int .i64 i], v] w fun e w' => e = .returned (.tuple #[.string (HL wd (leafAt wd (LX wd xs) 0) k i), .int .i64 0]) ∧ Below w.heap.size w w') := fun k i h1 h2 w hw hr => by
    have hp := p2 k
    have hi62 : i ≤ 4611686018427387904 := by have := Nat.le_mul_of_pos_right (i + 1) hp; omega
    have := ND wd k i v xs w hwd (i64_nat (by omega)) (i64_nat hi62) hw hr hf
    rw [(node_at wd xs k i h1 h2 (by omega)).1, (node_at wd xs k i h1 h2 (by omega)).2] at this
    exact this
  have FR : Hid (∀ n, n ≤ xs.length → foldP (EF wd) (NF wd) (covH wd (leafAt wd (LX wd xs) 0) 0 n) = RT wd (xs.take n)) := fun n hn => fold_root wd xs n hn (by omega)
  have LC : Hid (∀ k x, xs[k]? = some x → ∀ w, T w → Calls Tryd.prog 22 #[.int .i64 wd, .string x] w fun e w' => e = .returned (.string (leafAt wd (LX wd xs) 0 k)) ∧ Below w.heap.size w w') := fun k x hx w hw => by
    have := pLeaf wd x (hf.each x (List.mem_of_getElem? hx)) w (tab hw)
    have e : leafAt wd (LX wd xs) 0 k = LF wd x := by unfold leafAt LX; rw [Nat.sub_zero, List.getD_eq_getElem?_getD, List.getElem?_map, hx]; rfl
    rw [e]
    exact this
  obtain ⟨N, HN⟩ : ∃ N, Hid (xs.length = N) := ⟨_, rfl⟩
  obtain ⟨f, HF⟩ : ∃ f, Hid (leafAt wd (LX wd xs) 0 = f) := ⟨_, rfl⟩
  rw [HF.out] at HS NDG FR LC
  obtain ⟨a, cap, rfl, hcap, hh⟩ := hR
  rw [HN.out] at hcap hmm HRD NDG FR ⊢
  clear later tab tbb SC PC RC RO ND hT hf hh
  go_enter Tryd.func5, Tryd.ntmps5
  go_wp2_with fail
  refine (LIV.out _ HT.out).mono ?_
  rintro e w1 ⟨rfl, hb⟩
  have B1 : Hid (Below w.heap.size w w1) := hb
  clear hb
  go_wp2_with fail
  refine (ST.out _ (LT.out HT.out B1.out)).mono ?_
  rintro e w2 ⟨⟨ua, uc, rfl, hu⟩, hb⟩
  rw [Int.natCast_zero]
  have M0 : Hid (Mv w (w2.alloc (.cells #[.int .i64 0, .int .i64 0, .slice ua 0 uc] 25)) wd f w2.heap.size 0 (.slice ua 0 uc)) := by
    refine ⟨(over B1.out hb).alloc (over B1.out hb).size _, fx_new _ _ _ _, ?_, (over B1.out hb).size⟩
    rw [covH_none]
    exact (Texts.down hu B1.out.size).later ((Below.refl _ _).alloc (Nat.le_refl _) _)
  clear hu hb
  go_wp2
  go_loopw [8] (fun i wr => ∃ (k : Nat) (u : Value), k ≤ N ∧ i = .int .i64 k ∧ Hid (Mv w wr wd f w2.heap.size k u)) (fun i _ => (N + 1 - intOf i).toNat)
  case atStart => exact ⟨0, _, by omega, rfl, M0.out⟩
  case round =>
    obtain ⟨k, u, hk, rfl, HM⟩ := hrel
    clear M0
    have hk' : (k : Int) ≤ N := by omega
    have hkc : (k : Int) ≤ cap := by omega
    obtain ⟨xa, xc, rfl⟩ := own_formS HM.out.tx
    obtain ⟨d1, d2, d3⟩ := HM.out.fx.fb
    obtain ⟨lk, HLK⟩ : ∃ l : Nat, Hid ((covH wd f 0 k).length = l) := ⟨_, rfl⟩
    rw [HLK.out] at d3
    have hgd : GoodF wd (0 : Nat) k (covH wd f 0 k) := covH_good HS.out (by omega) (by omega)
    have hRd := HM.out.tx.reads
    rw [HLK.out] at hRd
    have CR : Hid (Calls _ _ _ _ _) := RCG.out wd (0 : Nat) k (.slice xa lk xc) _ wr hwd (i64_nat (by omega)) (i64_nat (by omega)) (LT.out HT.out HM.out.b) hRd (fits_good hgd)
    have hRE : rootE wd (0 : Nat) k (covH wd f 0 k) = 0 := by unfold rootE; rw [if_pos (chk_ok.2 hgd), if_pos (by omega)]
    rw [hRE, FR.out k hk, show pick (0 : Int) (RT wd (xs.take k)) ByteArray.empty = RT wd (xs.take k) by unfold pick; rw [if_pos rfl]] at CR
    obtain ⟨R, HR9⟩ : ∃ R, Hid (RT wd (xs.take k) = R) := ⟨_, rfl⟩
    rw [HR9.out] at CR
    have CQ : Hid (∀ w', Below w.heap.size w w' → Calls _ _ _ _ _) := fun w' h => ROG.out wd (.slice a k cap) (xs.take k) w' hwd (LT.out HT.out h) (reads_head (HRD.out.later h) (by rw [HN.out]; exact hk)) (HFI.out.take k)
    rw [HR9.out] at CQ
    have hqr : (R.toList == R.toList) = true := beq_self_eq_true _
    clear hRE hRd
    go_wp2_with fail
    refine CR.out.mono ?_
    rintro e w3 ⟨rfl, hb⟩
    have H3 : Hid (Hb wr w3) := hb
    clear hb CR
    go_wp2_with fail
    refine (CQ.out _ (over HM.out.b H3.out)).mono ?_
    rintro e w4 ⟨rfl, hb⟩
    have H4 : Hid (Hb wr w4) := over H3.out hb
    clear hb CQ d1 d2 d3
    by_cases hkn : k = N
    · have hq : ((k : Int) == (N : Int)) = true := by rw [beq_iff_eq]; omega
      have B9 : Hid (Below w.heap.size w w4) := over HM.out.b H4.out
      clear hkn
      go_wp2
      go_ret
      exact ⟨rfl, B9.out⟩
    · have hq : ((k : Int) == (N : Int)) = false := by rw [beq_eq_false_iff_ne]; omega
      have hlt : k < N := by omega
      have hlt' : (k : Int) < N := by omega
      clear hkn
      have hkx : k < xs.length := by rw [HN.out]; exact hlt
      obtain ⟨x, HX⟩ : ∃ x, Hid (xs[k]? = some x) := ⟨_, List.getElem?_eq_getElem hkx⟩
      have M4 : Hid (Mv w w4 wd f w2.heap.size k (.slice xa (covH wd f 0 k).length xc)) := ⟨over HM.out.b H4.out, HM.out.fx.on H4.out, HM.out.tx.later H4.out, HM.out.hf⟩
      obtain ⟨b, off, rfl, hc⟩ : ∃ b off, a = some ⟨b, off, none⟩ ∧ w4.cell? ⟨b, off + k, none⟩ = some (.string x) := by
        obtain ⟨a', cap', e, _, h0 | ⟨b, off, e4, hh⟩⟩ := HRD.out.later M4.out.b
        · omega
        · injection e with e1 _ _
          refine ⟨b, off, by rw [e1]; exact e4, ?_⟩
          rw [hh k hkx, List.getD_eq_getElem?_getD, HX.out]
          rfl
      obtain ⟨c1, c2, c3⟩ := M4.out.fx.fb
      have CP : Hid (∀ w', Hb w4 w' → Calls _ _ _ _ _) := fun w' h => P1.out wd f HS.out 0 k (.slice xa (covH wd f 0 k).length xc) w' hwd (by omega) (by omega) (LT.out HT.out (over M4.out.b h)) (M4.out.tx.reads.later h)
      have CL : Hid (∀ w', Hb w4 w' → Calls _ _ _ _ _) := fun w' h => LC.out k x HX.out w' (LT.out HT.out (over M4.out.b h))
      obtain ⟨X, HXX⟩ : ∃ X, Hid (f k = X) := ⟨_, rfl⟩
      rw [HXX.out] at CP CL
      rw [Int.natCast_zero] at CP
      have S4 : Hid (∀ w', Hb w4 w' → Hb w4 w' ∧ w'.cell? ⟨w2.heap.size, 0, none⟩ = some (.int .i64 0) ∧ w'.cell? ⟨w2.heap.size, 1, none⟩ = some (.int .i64 k) ∧ w'.cell? ⟨w2.heap.size, 2, none⟩ = some (.slice xa (covH wd f 0 k).length xc) ∧ w'.cell? ⟨b, off + k, none⟩ = some (.string x)) := fun w' h => ⟨h, h.cell c1, h.cell c2, h.cell c3, h.cell hc⟩
      rw [HLK.out] at S4 CP
      clear c1 c2 c3 hc
      go_wp2_with fail
      obtain ⟨ns, HNS⟩ : ∃ ns, Hid ((pushR wd (0 : Nat) k (covH wd f 0 k) X).2 = ns) := ⟨_, rfl⟩
      rw [Int.natCast_zero] at HNS
      rw [HNS.out] at CP
      go_cut [11, 12, 13] (fun s11 s12 s13 wx => ∃ g a1 l1 c1 a2 l2 c2, s11 = .pointer (some ⟨g, 0, none⟩) ∧ s12 = .slice a2 l2 c2 ∧ s13 = .int .i64 0 ∧ Hid (Gx w4 0 ((k : Int) + 1) (covH wd f 0 (k + 1)) ns g (.slice a1 l1 c1) (.slice a2 l2 c2) wx))
      case first =>
        go_region_held3 (fun w' => Hb w4 w' ∧ w'.cell? ⟨w2.heap.size, 0, none⟩ = some (.int .i64 0) ∧ w'.cell? ⟨w2.heap.size, 1, none⟩ = some (.int .i64 k) ∧ w'.cell? ⟨w2.heap.size, 2, none⟩ = some (.slice xa lk xc) ∧ w'.cell? ⟨b, off + k, none⟩ = some (.string x)) (first | exact S4.out _ (Hb.drew _) | exact S4.out _ HWP.out | exact S4.out _ (Hb.alloc HWP.out _) | exact S4.out _ (Hb.set HWP.out HZL.out _ _ _) | exact S4.out _ HWL.out | exact S4.out _ (Hb.alloc (And.left (by assumption)) _)) ((first
         | (go_at_call 22
            refine (CL.out _ (And.left (by assumption))).mono ?_
            rintro e wl ⟨rfl, hbl⟩
            have HWL : Hid (Hb w4 wl) := Hb.on (And.left (by assumption)) hbl
            try (have HZ1 : Hid (Fx wl w4.heap.size 0 0 (.slice none 0 0)) := zed1 hbl))
         | (go_at_call 21
            refine (CP.out _ (And.left (by assumption))).mono ?_
            rintro e wp ⟨⟨u', m', rfl, tx', mx'⟩, hbp⟩
            obtain ⟨ua2, uc2, rfl⟩ := own_formS tx'
            obtain ⟨ma2, mc2, rfl⟩ := own_formS mx'
            have HWP : Hid (Hb w4 wp) := Hb.on (And.left (by assumption)) hbp
            try
             (have Z0 : Fx wp w4.heap.size 0 0 (.slice none 0 0) := Fx.on HZ1.out hbp
              have HZL : Hid (w4.heap.size ≤ w4.heap.size) := Nat.le_refl _
              have z0 := Z0.fb.x
              have z1 := Z0.fb.y
              have z2 := Z0.fb.z
              have f0 := frozen_of_row wp w4.heap.size 0 _ _ Z0
              have f1 := frozen_of_row wp w4.heap.size 1 _ _ Z0
              have f2 := frozen_of_row wp w4.heap.size 2 _ _ Z0
              have HZ0 : Hid (Fx wp w4.heap.size 0 0 (.slice none 0 0)) := Z0
              clear Z0)
            try
             (have Z0 : Fx wp wl.heap.size 0 0 (.slice none 0 0) := zed2 hbp
              have HZL : Hid (w4.heap.size ≤ wl.heap.size) := Below.size HWL.out
              have z0 := Z0.fb.x
              have z1 := Z0.fb.y
              have z2 := Z0.fb.z
              have f0 := frozen_of_row wp wl.heap.size 0 _ _ Z0
              have f1 := frozen_of_row wp wl.heap.size 1 _ _ Z0
              have f2 := frozen_of_row wp wl.heap.size 2 _ _ Z0
              have HZ0 : Hid (Fx wp wl.heap.size 0 0 (.slice none 0 0)) := Z0
              clear Z0))))
        all_goals
          go_wp2_with fail
          go_meet
          first
          | exact ⟨_, _, _, _, _, _, _, rfl, rfl, rfl, gx_alloc HWP.out (Below.size HWL.out) tx' mx'⟩
          | exact ⟨_, _, _, _, _, _, _, rfl, rfl, rfl, gx_set2 HWP.out (Below.size HWL.out) HZL.out HZ0.out tx' mx'⟩
          | exact ⟨_, _, _, _, _, _, _, rfl, rfl, rfl, gx_set2 HWP.out (Nat.le_trans (Below.size HWL.out) (by simp)) HZL.out HZ0.out tx' mx'⟩
      case rest =>
      as_aux_lemma =>
      obtain ⟨g, a1, l1, c1, a2, l2, c2, rfl, rfl, rfl, HG⟩ := hcut
      have PT := push_true HS.out (lo := 0) (hi := k) (by omega) (by omega)
      rw [HXX.out, Int.natCast_zero, HNS.out] at PT
      have HNL : Hid (ns.length = Lib.ctz 64 (k + 1)) := by
        show _ = _
        have h1 := PT.2.1
        have h2 := cov_zeros (i := k) (by omega)
        omega
      have HNT : Hid (∀ t y, ns[t]? = some y → y = ((t + 1, k / 2 ^ (t + 1)), HL wd f (t + 1) (k / 2 ^ (t + 1))) ∧ t < 62) := PT.2.2
      have hl2 : l2 = ns.length := by
        rcases HG.out.2.2.2.2.2 with ⟨e, h0⟩ | ⟨_, _, _, e, _⟩
        · injection e with _ e2 _; omega
        · injection e with _ e2 _
      subst hl2
      obtain ⟨M, HMM⟩ : ∃ M, Hid (ns.length = M) := ⟨_, rfl⟩
      have HMC : Hid (Lib.ctz 64 (k + 1) = M) := by show _ = _; rw [← HNL.out, HMM.out]
      have hM64 : M ≤ 64 := by
        rcases Nat.eq_zero_or_pos M with h | h
        · omega
        · have hx : M - 1 < ns.length := by rw [HMM.out]; omega
          have := (HNT.out (M - 1) _ (List.getElem?_eq_getElem hx)).2
          omega
      have ZC : Hid (∀ W, TabB W → Calls _ _ _ _ _) := fun W h => zeros_yes (k + 1) W (by omega) (by omega) h
      rw [HMC.out, show (((k + 1 : Nat) : Int)) = (k : Int) + 1 by omega] at ZC
      have BX : Hid (Below w.heap.size w wc) := over M4.out.b HG.out.1
      have qz : ((M : Int) == (M : Int)) = true := beq_self_eq_true _
      rw [HMM.out]
      clear PT CP CL S4
      go_wp2_with fail
      refine (ZC.out _ (LB.out (LT.out HT.out BX.out))).mono ?_
      rintro e w5 ⟨rfl, hw⟩
      rw [hw]
      clear hw
      go_wp2_with fail
      go_loopw [14] (fun i wr => ∃ t : Nat, t ≤ M ∧ i = .int .i64 t ∧ Hid (Hb wc wr)) (fun i _ => (M - intOf i).toNat)
      case atStart => exact ⟨0, by omega, rfl, Below.refl _ _⟩
      case round =>
        obtain ⟨t, ht, rfl, HB6⟩ := hrel
        by_cases htm : t < M
        · have htm' : (t : Int) < M := by omega
          have htx : t < ns.length := by rw [HMM.out]; exact htm
          obtain ⟨y, hy⟩ : ∃ y, ns[t]? = some y := ⟨_, List.getElem?_eq_getElem htx⟩
          obtain ⟨hyy, h62⟩ := HNT.out t y hy
          have hd : 2 ^ (t + 1) ∣ k + 1 := zeros_dvd (by omega) (by rw [HMC.out]; exact htm)
          obtain ⟨J, HJ⟩ : ∃ J, Hid (k / 2 ^ (t + 1) = J) := ⟨_, rfl⟩
          obtain ⟨w1', w2'⟩ := want_at hd
          rw [HJ.out] at hyy w1' w2'
          obtain ⟨X2, HX2⟩ : ∃ X2, Hid (HL wd f (t + 1) J = X2) := ⟨_, rfl⟩
          have NC : Hid (∀ W, Below w.heap.size w W → Calls _ _ _ _ _) := fun W h => NDG.out (t + 1) J (by omega) (by rw [w2']; omega) W (LT.out HT.out h) (HRD.out.later h)
          rw [HX2.out] at NC hyy
          obtain ⟨T1, HT1⟩ : ∃ T1, Hid (t + 1 = T1) := ⟨_, rfl⟩
          obtain ⟨J1, HJ1⟩ : ∃ J1, Hid (J + 1 = J1) := ⟨_, rfl⟩
          have hsh : (((k : Int) + 1) / 2 ^ T1) = (J1 : Int) := by
            rw [← HT1.out, ← HJ1.out, ← w1', Int.natCast_ediv, cast_pow]
            rfl
          rw [HT1.out] at NC hyy
          have hT1 : ((t : Int) + 1) = (T1 : Int) := by have := HT1.out; omega
          have hJ1 : ((J1 : Int) - 1) = (J : Int) := by have := HJ1.out; omega
          have hT62 : T1 ≤ 62 := by have := HT1.out; omega
          have hJ62 : J ≤ 4611686018427387904 := by rw [← HJ.out]; have := Nat.div_le_self k (2 ^ (t + 1)); omega
          obtain ⟨bm, rfl, m1, m2, m3⟩ := row_atM (HG.out.2.2.2.2.reads.later HB6.out) hy
          subst hyy
          simp only at m1 m2 m3
          have HMC3 : Hid (_ ∧ _ ∧ _) := ⟨m1, m2, m3⟩
          clear hd w1' w2' htx hy m1 m2 m3
          have A7 : Below wr.heap.size wr (wr.alloc (.cells #[.int .i64 (T1 : Int), .int .i64 (J : Int)] 51)) := (Below.refl _ _).alloc (Nat.le_refl _) _
          have HA7 : Hid (Below wr.heap.size wr _) := A7
          have B7 : Hid (Below w.heap.size w (wr.alloc (.cells #[.int .i64 (T1 : Int), .int .i64 (J : Int)] 51))) := over (over BX.out HB6.out) A7
          have P7 : Hid (Bx _ _ _ _) := bx_new wr (T1 : Int) (J : Int)
          clear A7
          go_wp2_with fail
          refine (NC.out _ B7.out).mono ?_
          rintro e w7 ⟨rfl, hb7⟩
          have H7 : Below wr.heap.size wr w7 := over HA7.out hb7
          obtain ⟨x1, x2⟩ := P7.out.later hb7
          have m1 := (H7.cell (World.block_lt_of_cell? _ _ HMC3.out.1)).trans HMC3.out.1
          have m2 := (H7.cell (World.block_lt_of_cell? _ _ HMC3.out.2.1)).trans HMC3.out.2.1
          have m3 := (H7.cell (World.block_lt_of_cell? _ _ HMC3.out.2.2)).trans HMC3.out.2.2
          have HB7 : Hid (∀ n, Hb wc (w7.drewN n)) := fun n => below_dN (over HB6.out H7) n
          have q1 : ((T1 : Int) == (T1 : Int)) = true := beq_self_eq_true _
          have q2 : ((J : Int) == (J : Int)) = true := beq_self_eq_true _
          have q3 : (X2.toList == X2.toList) = true := beq_self_eq_true _
          clear H7 hb7 HMC3 P7 NC B7 HA7
          go_wp2_with fail
          go_quiet (fail)
          go_wp2
          go_roundw
          case rel => exact ⟨t + 1, by omega, by go_num, HB7.out _⟩
          case measure => simp [intOf]; omega
        · have htm' : ¬ (t : Int) < M := by omega
          have HN2 := Mv.next M4.out (hi := (k : Int) + 1) (by omega) HG.out HB6.out
          obtain ⟨d1, d2, d3⟩ := HN2.1.fb
          obtain ⟨e1, e2, e3⟩ := HN2.2.1.fb
          have f0 := frozen_of_row wr w2.heap.size 0 _ _ HN2.2.1
          have f1 := frozen_of_row wr w2.heap.size 1 _ _ HN2.2.1
          have f2 := frozen_of_row wr w2.heap.size 2 _ _ HN2.2.1
          have HN3 : Hid (Mv _ _ _ _ _ _ _) := HN2.2.2
          clear HN2
          go_wp2
          go_roundw
          case rel => exact ⟨k + 1, _, by omega, by go_num, HN3.out⟩
          case measure => simp [intOf]; omega
end Go.Proofs.YtnnpidjpklfogaaDoor.qk

namespace Go.Proofs.YtnnpidjpklfogaaDoor.wm
open Go.RowKit Go.PlainAid
open Go.Proofs.YtnnpidjpklfogaaDoor.pl Go.Proofs.YtnnpidjpklfogaaDoor.ft Go.Proofs.YtnnpidjpklfogaaDoor.pj Go.Proofs.YtnnpidjpklfogaaDoor.rf Go.Proofs.YtnnpidjpklfogaaDoor.cp Go.Proofs.YtnnpidjpklfogaaDoor.cv Go.Proofs.YtnnpidjpklfogaaDoor.cs Go.Proofs.YtnnpidjpklfogaaDoor.ct Go.Proofs.YtnnpidjpklfogaaDoor.ka Go.Proofs.YtnnpidjpklfogaaDoor.gb Go.Proofs.YtnnpidjpklfogaaDoor.gr Go.Proofs.YtnnpidjpklfogaaDoor.gn Go.Proofs.YtnnpidjpklfogaaDoor.ob Go.Proofs.YtnnpidjpklfogaaDoor.xc Go.Proofs.YtnnpidjpklfogaaDoor.tb Go.Proofs.YtnnpidjpklfogaaDoor.qk Go.Proofs.YtnnpidjpklfogaaDoor.yg Go.Proofs.YtnnpidjpklfogaaDoor.yw
set_option linter.unusedVariables false

theorem mth_walk (W : World) (a0 : Int) (w0 : (Lit.int .i64 a0).wf = true) (v : Value) (xs : List ByteArray) (hr : ReadsT W v xs) (hno : ∀ k c, v = .slice none k c → c = 0) (hx : ∀ x ∈ xs, x.size ≤ 140737488351232) (hl : xs.length * 16 ≤ 140737488351232) (tabs : TabB W ∧ St8 W 2 ∧ K64 W 4) :
    Calls Tryd.prog 5 #[.int .i64 a0, v] W fun e w' => e = .returned (.bool true) ∧ Below W.heap.size W w' :=
  comp_mth (T := TB) TB.down (fun h => h.t) (fun h => h.d) startC pushTB rootTB mrootTB nodeTB a0 (i64_of w0) v xs W (TB.of tabs) hr ⟨fun x h => by have := hx x h; omega, hl⟩
end Go.Proofs.YtnnpidjpklfogaaDoor.wm
