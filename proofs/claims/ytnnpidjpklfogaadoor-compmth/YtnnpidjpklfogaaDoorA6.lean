import Derived.Test.YtnnpidjpklfogaaDoorA2
import Derived.Test.YtnnpidjpklfogaaDoorB1
import Derived.Test.YtnnpidjpklfogaaDoorA5
namespace Go.Proofs.YtnnpidjpklfogaaDoor.qe
open Go.RowKit Go.PlainAid
open Go.Proofs.YtnnpidjpklfogaaDoor.pl Go.Proofs.YtnnpidjpklfogaaDoor.pi Go.Proofs.YtnnpidjpklfogaaDoor.pj Go.Proofs.YtnnpidjpklfogaaDoor.rf Go.Proofs.YtnnpidjpklfogaaDoor.ca Go.Proofs.YtnnpidjpklfogaaDoor.cb Go.Proofs.YtnnpidjpklfogaaDoor.cp Go.Proofs.YtnnpidjpklfogaaDoor.cs Go.Proofs.YtnnpidjpklfogaaDoor.ka Go.Proofs.YtnnpidjpklfogaaDoor.kb Go.Proofs.YtnnpidjpklfogaaDoor.kc Go.Proofs.YtnnpidjpklfogaaDoor.ga Go.Proofs.YtnnpidjpklfogaaDoor.gb Go.Proofs.YtnnpidjpklfogaaDoor.na Go.Proofs.YtnnpidjpklfogaaDoor.nb Go.Proofs.YtnnpidjpklfogaaDoor.nc Go.Proofs.YtnnpidjpklfogaaDoor.oa Go.Proofs.YtnnpidjpklfogaaDoor.ob Go.Proofs.YtnnpidjpklfogaaDoor.qa Go.Proofs.YtnnpidjpklfogaaDoor.qb Go.Proofs.YtnnpidjpklfogaaDoor.qc Go.Proofs.YtnnpidjpklfogaaDoor.qd Go.Proofs.YtnnpidjpklfogaaDoor.qf Go.Proofs.YtnnpidjpklfogaaDoor.nf Go.Proofs.YtnnpidjpklfogaaDoor.xc
set_option linter.unusedVariables false

def OnesC (T : World → Prop) : Prop := ∀ (n : Nat) (w : World), n ≤ 4611686018427387904 → T w → Calls Tryd.prog 13 #[.int .i64 n] w fun e w' => e = .returned (.int .i64 (Lib.onesCount n)) ∧ Below w.heap.size w w'
set_option maxHeartbeats 3200000 in
set_option maxRecDepth 100000 in
theorem comp_work {T : World → Prop} (later : ∀ {w w' : World}, T w → Below w.heap.size w w' → T w') (tab : ∀ {w : World}, T w → Tab w) (tbb : ∀ {w : World}, T w → TabB w) (SC : StartC T) (PC : PushC T) (MC : MergeC T) (OC : OnesC T) (wd : Int) (hwd : i64 wd) (v : Value) (xs : List ByteArray) (n : Int) (hn : i64 n) (w : World) (hT : T w) (hR : ReadsT w v xs) (hf : Fits xs) (hsm : xs.length * 32 ≤ 140737488355328) :
    Calls Tryd.prog 3 #[.int .i64 wd, v, .int .i64 n] w fun e w' => e = .returned (.bool true) ∧ Below w.heap.size w w' := by
  have LV : Hid (Calls _ _ _ _ _) := leaves later tab wd v xs w hT hR hf
  have LIV : Hid (∀ w, T w → Calls _ _ _ _ _) := fun w h => live later tbb SC w h
  have LT : Hid (∀ {w w' : World}, T w → Below w.heap.size w w' → T w') := later
  have HT : Hid (T w) := hT
  have ON : Hid (OnesC T) := OC
  have HS : Hid (∀ i, (leafAt wd (LX wd xs) 0 i).size = wid wd) := leafAt_size (LX_size wd xs) 0
  have PD : Hid (PushedD T wd (leafAt wd (LX wd xs) 0)) := pushedD later SC PC wd hwd _ HS.out
  have MG : Hid (Merge1 T) := merge1 MC
  have HLJ : Hid (∀ j, j < xs.length → (LX wd xs).getD j ByteArray.empty = leafAt wd (LX wd xs) 0 j) := fun j hj => by
    have hj' : j < (LX wd xs).length := by rw [LX_len]; exact hj
    unfold leafAt
    rw [Nat.sub_zero, List.getD_eq_getElem?_getD, List.getD_eq_getElem?_getD, List.getElem?_eq_getElem hj']
    rfl
  have HXL : Hid ((LX wd xs).length = xs.length) := LX_len wd xs
  have hmm := hf.many
  obtain ⟨N, HN⟩ : ∃ N, Hid (xs.length = N) := ⟨_, rfl⟩
  obtain ⟨f, HF⟩ : ∃ f, Hid (leafAt wd (LX wd xs) 0 = f) := ⟨_, rfl⟩
  obtain ⟨L, HL⟩ : ∃ L, Hid (LX wd xs = L) := ⟨_, rfl⟩
  obtain ⟨a, cap, rfl, hcap, hh⟩ := hR
  rw [HF.out] at PD HS HLJ
  rw [HL.out] at HLJ HXL LV
  rw [HN.out] at hcap hsm hmm LV HLJ HXL ⊢
  clear later tab tbb SC PC MC OC hT hf
  obtain ⟨hn0, hn1⟩ := hn
  clear hh
  go_enter Tryd.func3, Tryd.ntmps3
  go_upto_region 1 with fail
  go_cut [30] (fun c wx => c = .bool (decide (n < 0 ∨ (N : Int) < n)) ∧ wx = w)
  case first =>
    by_cases h1 : n < 0
    · go_wp2
      go_meet
      exact ⟨congrArg Value.bool (decide_eq_true (Or.inl h1)).symm, rfl⟩
    · by_cases h2 : (N : Int) < n
      · go_wp2
        go_meet
        exact ⟨congrArg Value.bool (decide_eq_true (Or.inr h2)).symm, rfl⟩
      · go_wp2
        go_meet
        exact ⟨congrArg Value.bool (decide_eq_false (by omega)).symm, rfl⟩
  case rest =>
  obtain ⟨rfl, rfl⟩ := hcut
  go_upto_if 30 with fail
  go_cut [2] (fun nn wx => ∃ p : Nat, p ≤ N ∧ nn = .int .i64 p ∧ wx = wc)
  case first =>
    by_cases h1 : n < 0 ∨ (N : Int) < n
    · have hb1 := decide_eq_true h1
      go_wp2
      go_meet
      exact ⟨N, Nat.le_refl _, rfl, rfl⟩
    · have hb1 := decide_eq_false h1
      obtain ⟨p, rfl⟩ : ∃ p : Nat, n = p := ⟨n.toNat, by omega⟩
      go_wp2
      go_meet
      exact ⟨p, by omega, rfl, rfl⟩
  case rest =>
    obtain ⟨p, hp, rfl, rfl⟩ := hcut
    go_wp2_with fail
    refine LV.out.mono ?_
    rintro e w1 ⟨⟨u, rfl, hu⟩, hb⟩
    obtain ⟨ua, uc, rfl⟩ := own_formS hu
    have hcu : N ≤ uc := by
      rcases hu.2 with ⟨e, h0⟩ | ⟨_, _, _, e, _, _, hc, _⟩
      · rw [HXL.out] at h0; omega
      · injection e with _ _ e3; rw [HXL.out] at hc; omega
    have hp1 : (p : Int) ≤ uc := by omega
    have hp2 : (p : Int) ≤ N := by omega
    have hp3 : (N : Int) ≤ uc := by omega
    have B1 : Hid (Below wc.heap.size wc w1) := hb
    have U1 : Hid (ReadsT w1 (.slice ua L.length uc) L) := own_readsT hu
    rw [HXL.out] at U1 ⊢
    have C1 : Hid (∀ w', Below w1.heap.size w1 w' → Calls _ _ _ _ _) := fun w' h => PD.out 0 p (.slice ua p uc) (L.take p) w' (by rw [List.length_take, HXL.out]; omega) (fun j hj => by rw [Nat.zero_add, ← HLJ.out j (by omega), List.getD_eq_getElem?_getD, List.getD_eq_getElem?_getD, List.getElem?_take, if_pos hj]) (by omega) (by omega) (LT.out HT.out (over B1.out h)) ((reads_head U1.out (by rw [HXL.out]; omega)).later h)
    have C2 : Hid (∀ w' v2, Below w1.heap.size w1 w' → ReadsT w1 v2 (L.drop p) → Calls _ _ _ _ _) := fun w' v2 h hr => PD.out p (N - p) v2 (L.drop p) w' (by rw [List.length_drop, HXL.out]) (fun j hj => by rw [← HLJ.out (p + j) (by omega), List.getD_eq_getElem?_getD, List.getD_eq_getElem?_getD, List.getElem?_drop]) (by omega) (by omega) (LT.out HT.out (over B1.out h)) (hr.later h)
    have C3 : Hid (∀ w', Below w1.heap.size w1 w' → Calls _ _ _ _ _) := fun w' h => PD.out 0 N (.slice ua N uc) L w' HXL.out (fun j hj => by rw [Nat.zero_add, ← HLJ.out j hj]) (by omega) (by omega) (LT.out HT.out (over B1.out h)) (U1.out.later h)
    clear hu hb
    go_wp2_with fail
    refine (C1.out _ (Below.refl _ _)).mono ?_
    rintro e w2 ⟨⟨a1, l1, c1, a2, l2, c2, rfl, hr1⟩, hb⟩
    rw [Int.natCast_zero, Int.zero_add]
    have B2 : Hid (Below w1.heap.size w1 (w2.alloc (.cells #[.int .i64 0, .int .i64 p, .slice a1 l1 c1] 25))) := hb.alloc hb.size _
    have F2 : Hid (Fx (w2.alloc (.cells #[.int .i64 0, .int .i64 p, .slice a1 l1 c1] 25)) w2.heap.size 0 p (.slice a1 l1 c1)) := fx_new _ _ _ _
    have K2 : Hid (Ran3 w1 (w2.alloc (.cells #[.int .i64 0, .int .i64 p, .slice a1 l1 c1] 25)) wd f 0 p l2 (.slice a1 l1 c1) (.slice a2 l2 c2)) := hr1.later ((Below.refl _ _).alloc (Nat.le_refl _) _)
    clear hb hr1
    go_upto_region 6 with fail
    generalize w2.alloc _ = w3 at B2 F2 K2 ⊢
    generalize w2.heap.size = g1 at F2 ⊢
    go_cut [12, 13, 14] (fun s12 s13 s14 wx => ∃ g a l c a' l' c', s12 = .pointer (some ⟨g, 0, none⟩) ∧ s13 = .slice a' l' c' ∧ s14 = .bool true ∧ Hid (Fx wx g p N (.slice a l c)) ∧ Hid (Ran3 w3 wx wd f p (N - p) l' (.slice a l c) (.slice a' l' c')) ∧ Hid (Below w3.heap.size w3 wx))
    case first =>
      by_cases hq : uc ≤ p
      · have hq2 : uc - p = 0 := by omega
        go_wp2_with fail
        refine Calls.mono (C2.out _ (.slice ua (N - p) 0) B2.out (reads_tail1 U1.out (by rw [HXL.out]; omega) (by omega))) ?_
        rintro e w4 ⟨⟨a3, l3, c3, a4, l4, c4, rfl, hr1⟩, hb⟩
        rw [show (p : Int) + ((N - p : Nat) : Int) = N by omega]
        have F4 : Hid (Fx (w4.alloc (.cells #[.int .i64 p, .int .i64 N, .slice a3 l3 c3] 25)) w4.heap.size p N (.slice a3 l3 c3)) := fx_new _ _ _ _
        have K4 : Hid (Ran3 w3 (w4.alloc (.cells #[.int .i64 p, .int .i64 N, .slice a3 l3 c3] 25)) wd f p (N - p) l4 (.slice a3 l3 c3) (.slice a4 l4 c4)) := hr1.later ((Below.refl _ _).alloc (Nat.le_refl _) _)
        have B4 : Hid (Below w3.heap.size w3 (w4.alloc (.cells #[.int .i64 p, .int .i64 N, .slice a3 l3 c3] 25))) := hb.alloc hb.size _
        go_wp2_with fail
        go_meet
        exact ⟨_, a3, l3, c3, a4, l4, c4, rfl, rfl, rfl, F4.out, K4.out, B4.out⟩
      · have hq2 : ¬ uc - p = 0 := by omega
        go_wp2_with fail
        refine Calls.mono (C2.out _ (.slice (Option.map (fun x => x.add p) ua) (N - p) (uc - p)) B2.out (reads_tail U1.out (by rw [HXL.out]; omega))) ?_
        rintro e w4 ⟨⟨a3, l3, c3, a4, l4, c4, rfl, hr1⟩, hb⟩
        rw [show (p : Int) + ((N - p : Nat) : Int) = N by omega]
        have F4 : Hid (Fx (w4.alloc (.cells #[.int .i64 p, .int .i64 N, .slice a3 l3 c3] 25)) w4.heap.size p N (.slice a3 l3 c3)) := fx_new _ _ _ _
        have K4 : Hid (Ran3 w3 (w4.alloc (.cells #[.int .i64 p, .int .i64 N, .slice a3 l3 c3] 25)) wd f p (N - p) l4 (.slice a3 l3 c3) (.slice a4 l4 c4)) := hr1.later ((Below.refl _ _).alloc (Nat.le_refl _) _)
        have B4 : Hid (Below w3.heap.size w3 (w4.alloc (.cells #[.int .i64 p, .int .i64 N, .slice a3 l3 c3] 25))) := hb.alloc hb.size _
        go_wp2_with fail
        go_meet
        exact ⟨_, a3, l3, c3, a4, l4, c4, rfl, rfl, rfl, F4.out, K4.out, B4.out⟩
    case rest =>
    obtain ⟨g2, a3, l3, c3, a4, l4, c4, rfl, rfl, rfl, F4, K4, B4⟩ := hcut
    have F3 : Hid (Fx wc g1 0 p (.slice a1 l1 c1)) := F2.out.on B4.out
    have K3 : Hid (Ran3 w1 wc wd f 0 p l2 (.slice a1 l1 c1) (.slice a2 l2 c2)) := K2.out.later B4.out
    have B5 : Hid (Below w1.heap.size w1 wc) := over B2.out B4.out
    obtain ⟨d1, d2, d3⟩ := F3.out.fb
    obtain ⟨e1, e2, e3⟩ := F4.out.fb
    have hR1 := K3.out.tx.reads
    have hR2 := K4.out.tx.reads
    rw [Nat.zero_add] at hR1
    rw [show p + (N - p) = N by omega] at hR2
    have CM : Hid (Calls _ _ _ _ _) := MG.out wd f HS.out 0 p N (.slice a1 l1 c1) (.slice a3 l3 c3) wc hwd (by omega) hp (by omega) (LT.out HT.out (over B1.out B5.out)) hR1 hR2
    have CT := merge_true HS.out (lo := 0) (p := p) (hi := N) (by omega) hp (by omega)
    obtain ⟨ns, HNS⟩ : ∃ ns, Hid ((mergeR wd (0 : Nat) p (covH wd f 0 p) p N (covH wd f p N)).2 = ns) := ⟨_, rfl⟩
    rw [HNS.out] at CM CT
    have CT2 : Hid (_ = _) := CT.2
    clear hR1 hR2 CT
    go_wp2_with fail
    refine CM.out.mono ?_
    rintro e w6 ⟨⟨u6, m6, rfl, tx6, mx6⟩, hb⟩
    obtain ⟨a5, c5, rfl⟩ := own_formS tx6
    obtain ⟨a6, c6, rfl⟩ := own_formS mx6
    obtain ⟨l5, HL5⟩ : ∃ l : Nat, Hid ((covH wd f 0 N).length = l) := ⟨_, rfl⟩
    obtain ⟨l6, HL6⟩ : ∃ l : Nat, Hid (ns.length = l) := ⟨_, rfl⟩
    rw [HL5.out, HL6.out]
    have B6 : Hid (Below w1.heap.size w1 (w6.alloc (.cells #[.int .i64 0, .int .i64 N, .slice a5 l5 c5] 25))) := (over B5.out hb).alloc (over B5.out hb).size _
    clear hb tx6 mx6
    go_wp2_with fail
    refine (C3.out _ B6.out).mono ?_
    rintro e w7 ⟨⟨a7, l7, c7, a8, l8, c8, rfl, hr7⟩, hb⟩
    rw [Int.natCast_zero, Int.zero_add]
    have B7 : Hid (Below w1.heap.size w1 (w7.alloc (.cells #[.int .i64 0, .int .i64 N, .slice a7 l7 c7] 25))) := (over B6.out hb).alloc (over B6.out hb).size _
    have K7 : Hid (l8 + (cov 0 (0 + N)).length = N) := hr7.c
    have F7 : Hid (Fx (w7.alloc (.cells #[.int .i64 0, .int .i64 N, .slice a7 l7 c7] 25)) w7.heap.size 0 N (.slice a7 l7 c7)) := fx_new _ _ _ _
    clear hb hr7
    go_wp2_with fail
    refine (LIV.out _ (LT.out HT.out (over B1.out B7.out))).mono ?_
    rintro e w8 ⟨rfl, hb⟩
    have B8 : Hid (Below w1.heap.size w1 w8) := over B7.out hb
    obtain ⟨x1, x2, x3⟩ := (F7.out.on hb).fb
    clear hb
    go_wp2_with fail
    obtain ⟨o1, HO1⟩ : ∃ o : Nat, Hid ((cov 0 N).length = o) := ⟨_, rfl⟩
    obtain ⟨o2, HO2⟩ : ∃ o : Nat, Hid ((cov 0 p).length = o) := ⟨_, rfl⟩
    obtain ⟨o3, HO3⟩ : ∃ o : Nat, Hid ((cov p N).length = o) := ⟨_, rfl⟩
    have N1 : Hid (∀ w, T w → Calls _ _ _ _ _) := fun w h => ON.out N w (by omega) h
    have N2 : Hid (∀ w, T w → Calls _ _ _ _ _) := fun w h => ON.out p w (by omega) h
    rw [← cov_ones (by omega), HO1.out] at N1
    rw [← cov_ones (by omega), HO2.out] at N2
    have y1 : l2 + o2 = p := by have := K3.out.c; rw [Nat.zero_add, HO2.out] at this; exact this
    have y2 : l8 + o1 = N := by have := K7.out; rw [Nat.zero_add, HO1.out] at this; exact this
    have y3 : l4 + o3 = N - p := by have := K4.out.c; rw [show p + (N - p) = N by omega, HO3.out] at this; exact this
    have y4 : l6 + o1 = o2 + o3 := by have := CT2.out; rw [HL6.out, HO1.out, HO2.out, HO3.out] at this; exact this
    have y5 : o2 ≤ 62 := by
      have := down_len 62 0 p (Nat.dvd_zero _) (by omega) (by omega)
      rw [Nat.zero_add, HO2.out] at this
      exact this
    rw [show (p : Int) + ((N : Int) - p) = N by omega]
    refine (N1.out _ (LT.out HT.out (over B1.out B8.out))).mono ?_
    rintro e w9 ⟨rfl, hb⟩
    have B9 : Hid (Below w1.heap.size w1 w9) := over B8.out hb
    clear hb
    go_wp2_with fail
    refine (N2.out _ (LT.out HT.out (over B1.out B9.out))).mono ?_
    rintro e w10 ⟨rfl, hb⟩
    have B10 : Hid (Below w1.heap.size w1 w10) := over B9.out hb
    clear hb
    go_wp2_with fail
    refine (N2.out _ (LT.out HT.out (over B1.out B10.out))).mono ?_
    rintro e w11 ⟨rfl, hb⟩
    have B11 : Hid (Below w1.heap.size w1 w11) := over B10.out hb
    clear hb
    have z1 : ((l2 : Int) == (p : Int) - o2) = true := by rw [beq_iff_eq]; omega
    go_wp2
    go_ret
    exact ⟨congrArg (fun b => Ending.returned (.bool b)) (decide_eq_true (by omega)), over B1.out B11.out⟩
end Go.Proofs.YtnnpidjpklfogaaDoor.qe

namespace Go.Proofs.YtnnpidjpklfogaaDoor.qg
open Go.RowKit Go.PlainAid
open Go.Proofs.YtnnpidjpklfogaaDoor.pl Go.Proofs.YtnnpidjpklfogaaDoor.pi Go.Proofs.YtnnpidjpklfogaaDoor.pj Go.Proofs.YtnnpidjpklfogaaDoor.rf Go.Proofs.YtnnpidjpklfogaaDoor.ca Go.Proofs.YtnnpidjpklfogaaDoor.cb Go.Proofs.YtnnpidjpklfogaaDoor.cp Go.Proofs.YtnnpidjpklfogaaDoor.cs Go.Proofs.YtnnpidjpklfogaaDoor.ct Go.Proofs.YtnnpidjpklfogaaDoor.ka Go.Proofs.YtnnpidjpklfogaaDoor.kb Go.Proofs.YtnnpidjpklfogaaDoor.kc Go.Proofs.YtnnpidjpklfogaaDoor.ga Go.Proofs.YtnnpidjpklfogaaDoor.gb Go.Proofs.YtnnpidjpklfogaaDoor.na Go.Proofs.YtnnpidjpklfogaaDoor.nb Go.Proofs.YtnnpidjpklfogaaDoor.nc Go.Proofs.YtnnpidjpklfogaaDoor.oa Go.Proofs.YtnnpidjpklfogaaDoor.ob Go.Proofs.YtnnpidjpklfogaaDoor.qa Go.Proofs.YtnnpidjpklfogaaDoor.qb Go.Proofs.YtnnpidjpklfogaaDoor.qc Go.Proofs.YtnnpidjpklfogaaDoor.qd Go.Proofs.YtnnpidjpklfogaaDoor.qf
set_option linter.unusedVariables false

-- a frontier in a block of its own, with the hashes of its pieces
structure Bk (w : World) (wd : Int) (f : Nat → ByteArray) (g lo hi : Nat) (u : Value) : Prop where
  fx : Fx w g lo hi u
  rd : ReadsT w u (covH wd f lo hi)
theorem Bk.on {w w' : World} {wd : Int} {f : Nat → ByteArray} {g lo hi : Nat} {u : Value} (h : Bk w wd f g lo hi u) (hb : Below w.heap.size w w') : Bk w' wd f g lo hi u := ⟨h.fx.on hb, h.rd.later hb⟩
theorem bk_new {w : World} {wd : Int} {f : Nat → ByteArray} {lo hi : Nat} {u : Value} (h : ReadsT w u (covH wd f lo hi)) : Bk (w.alloc (.cells #[.int .i64 lo, .int .i64 hi, u] 25)) wd f w.heap.size lo hi u := ⟨fx_new _ _ _ _, h.later ((Below.refl _ _).alloc (Nat.le_refl _) _)⟩
def PushB (T : World → Prop) (wd : Int) (f : Nat → ByteArray) : Prop := ∀ (q n hi : Nat) (v : Value) (L : List ByteArray) (w : World), L.length = n → (∀ j, j < n → L.getD j ByteArray.empty = f (q + j)) → hi = q + n → hi ≤ 4611686018427387904 → n * 32 ≤ 140737488355328 → T w → ReadsT w v L →
    Calls Tryd.prog 10 #[.int .i64 wd, .int .i64 q, v] w fun e w' => (∃ a l c a' l' c', e = .returned (.tuple #[FV q hi (.slice a l c), .slice a' l' c', .bool true]) ∧ ReadsT w' (.slice a l c) (covH wd f q hi)) ∧ Below w.heap.size w w'
theorem pushB {T : World → Prop} (later : ∀ {w w' : World}, T w → Below w.heap.size w w' → T w') (SC : StartC T) (PC : PushC T) (wd : Int) (hwd : i64 wd) (f : Nat → ByteArray) (hf : ∀ i, (f i).size = wid wd) : PushB T wd f := by
  intro q n hi v L w hn hL hh hq hm hT hR
  subst hh
  refine (pushedD later SC PC wd hwd f hf q n v L w hn hL hq hm hT hR).mono ?_
  rintro e w' ⟨⟨a, l, c, a', l', c', rfl, hr⟩, hb⟩
  refine ⟨⟨a, l, c, a', l', c', ?_, hr.tx.reads⟩, hb⟩
  rw [show ((q + n : Nat) : Int) = (q : Int) + (n : Nat) by omega]
def MergeB (T : World → Prop) (wd : Int) (f : Nat → ByteArray) : Prop := ∀ (lo p hi : Nat) (u u' : Value) (w : World), lo ≤ p → p ≤ hi → hi ≤ 4611686018427387904 → T w → ReadsT w u (covH wd f lo p) → ReadsT w u' (covH wd f p hi) → Calls Tryd.prog 11 #[.int .i64 wd, FV lo p u, FV p hi u'] w fun e w' => (∃ a l c a' l' c', e = .returned (.tuple #[FV lo hi (.slice a l c), .slice a' l' c', .int .i64 0]) ∧ ReadsT w' (.slice a l c) (covH wd f lo hi)) ∧ Below w.heap.size w w'
theorem mergeB {T : World → Prop} (MC : MergeC T) (wd : Int) (hwd : i64 wd) (f : Nat → ByteArray) (hf : ∀ i, (f i).size = wid wd) : MergeB T wd f := by
  intro lo p hi u u' w h1 h2 h3 hT hR hR'
  refine (merge1 MC wd f hf lo p hi u u' w hwd h1 h2 h3 hT hR hR').mono ?_
  rintro e w' ⟨⟨u2, m2, rfl, tx, mx⟩, hb⟩
  obtain ⟨a, c, rfl⟩ := own_formS tx
  obtain ⟨a', c', rfl⟩ := own_formS mx
  exact ⟨⟨_, _, _, _, _, _, rfl, tx.reads⟩, hb⟩
theorem reads_mid {w : World} {a : Option Addr} {n cap p r : Nat} {L : List ByteArray} (h : ReadsT w (.slice a n cap) L) (hp : p ≤ r) (hr : r ≤ L.length) : ReadsT w (.slice (Option.map (fun x => x.add p) a) (r - p) (cap - p)) ((L.drop p).take (r - p)) :=
  reads_head (reads_tail h (by omega)) (by rw [List.length_drop]; omega)
theorem reads_mid1 {w : World} {a : Option Addr} {n cap p r : Nat} {L : List ByteArray} (h : ReadsT w (.slice a n cap) L) (hp : p ≤ r) (hr : r ≤ L.length) (h0 : r - p = 0) : ReadsT w (.slice a (r - p) 0) ((L.drop p).take (r - p)) := by
  rw [h0, List.take_zero]
  exact ⟨_, 0, rfl, Nat.le_refl _, .inl rfl⟩
theorem mid_at {L : List ByteArray} {f : Nat → ByteArray} {q p r : Nat} (h : ∀ j, j < L.length → L.getD j ByteArray.empty = f (q + j)) (hp : p ≤ r) (hr : r ≤ L.length) : ∀ j, j < r - p → ((L.drop p).take (r - p)).getD j ByteArray.empty = f (q + p + j) := by
  intro j hj
  rw [Nat.add_assoc, ← h (p + j) (by omega), List.getD_eq_getElem?_getD, List.getD_eq_getElem?_getD, List.getElem?_take, if_pos hj, List.getElem?_drop]
theorem mid_len {L : List ByteArray} {p r : Nat} (hp : p ≤ r) (hr : r ≤ L.length) : ((L.drop p).take (r - p)).length = r - p := by rw [List.length_take, List.length_drop]; omega
theorem all_mid {L : List ByteArray} {p : Nat} (hp : p ≤ L.length) : (L.drop p).take (L.length - p) = L.drop p := List.take_of_length_le (by rw [List.length_drop]; omega)
end Go.Proofs.YtnnpidjpklfogaaDoor.qg

namespace Go.Proofs.YtnnpidjpklfogaaDoor.qh
open Go.RowKit Go.PlainAid
open Go.Proofs.YtnnpidjpklfogaaDoor.pl Go.Proofs.YtnnpidjpklfogaaDoor.pi Go.Proofs.YtnnpidjpklfogaaDoor.pj Go.Proofs.YtnnpidjpklfogaaDoor.rf Go.Proofs.YtnnpidjpklfogaaDoor.ca Go.Proofs.YtnnpidjpklfogaaDoor.cb Go.Proofs.YtnnpidjpklfogaaDoor.cp Go.Proofs.YtnnpidjpklfogaaDoor.cs Go.Proofs.YtnnpidjpklfogaaDoor.ct Go.Proofs.YtnnpidjpklfogaaDoor.ka Go.Proofs.YtnnpidjpklfogaaDoor.kb Go.Proofs.YtnnpidjpklfogaaDoor.kc Go.Proofs.YtnnpidjpklfogaaDoor.ga Go.Proofs.YtnnpidjpklfogaaDoor.gb Go.Proofs.YtnnpidjpklfogaaDoor.na Go.Proofs.YtnnpidjpklfogaaDoor.nb Go.Proofs.YtnnpidjpklfogaaDoor.nc Go.Proofs.YtnnpidjpklfogaaDoor.oa Go.Proofs.YtnnpidjpklfogaaDoor.ob Go.Proofs.YtnnpidjpklfogaaDoor.qa Go.Proofs.YtnnpidjpklfogaaDoor.qb Go.Proofs.YtnnpidjpklfogaaDoor.qc Go.Proofs.YtnnpidjpklfogaaDoor.qd Go.Proofs.YtnnpidjpklfogaaDoor.qf Go.Proofs.YtnnpidjpklfogaaDoor.qg Go.Proofs.YtnnpidjpklfogaaDoor.xc
set_option linter.unusedVariables false

set_option maxHeartbeats 6400000 in
set_option maxRecDepth 100000 in
theorem comp_parts {T : World → Prop} (later : ∀ {w w' : World}, T w → Below w.heap.size w w' → T w') (tab : ∀ {w : World}, T w → Tab w) (tbb : ∀ {w : World}, T w → TabB w) (SC : StartC T) (PC : PushC T) (MC : MergeC T) (CC : CheckC T) (CV : CoverC T) (wd : Int) (hwd : i64 wd) (v : Value) (xs : List ByteArray) (qi i j : Int) (hqi : i64 qi) (hi0 : i64 i) (hj0 : i64 j) (w : World) (hT : T w) (hR : ReadsT w v xs) (hf : Fits xs) (hsm : xs.length * 32 ≤ 140737488355328) :
    Calls Tryd.prog 4 #[.int .i64 wd, v, .int .i64 qi, .int .i64 i, .int .i64 j] w fun e w' => e = .returned (.bool true) ∧ Below w.heap.size w w' := by
  have LV : Hid (Calls _ _ _ _ _) := leaves later tab wd v xs w hT hR hf
  have LIV : Hid (∀ w, T w → Calls _ _ _ _ _) := fun w h => live later tbb SC w h
  have LT : Hid (∀ {w w' : World}, T w → Below w.heap.size w w' → T w') := later
  have HT : Hid (T w) := hT
  have PBG : Hid (∀ f : Nat → ByteArray, (∀ i, (f i).size = wid wd) → PushB T wd f) := fun f hf => pushB later SC PC wd hwd f hf
  have MBG : Hid (∀ f : Nat → ByteArray, (∀ i, (f i).size = wid wd) → MergeB T wd f) := fun f hf => mergeB MC wd hwd f hf
  have CKG : Hid (CheckC T) := CC
  have CVG : Hid (CoverC T) := CV
  have HSZ : Hid (∀ q i, (leafAt wd (LX wd xs) q i).size = wid wd) := fun q => leafAt_size (LX_size wd xs) q
  have HXL : Hid ((LX wd xs).length = xs.length) := LX_len wd xs
  have hmm := hf.many
  obtain ⟨N, HN⟩ : ∃ N, Hid (xs.length = N) := ⟨_, rfl⟩
  obtain ⟨L, HL⟩ : ∃ L, Hid (LX wd xs = L) := ⟨_, rfl⟩
  obtain ⟨a, cap, rfl, hcap, hh⟩ := hR
  rw [HL.out] at HXL LV HSZ
  rw [HN.out] at hcap hsm hmm HXL LV ⊢
  have PL : Hid (∀ w, Calls _ _ _ _ _) := fun w => place qi hqi N (by omega) w
  obtain ⟨hi1, hi2⟩ := hi0
  obtain ⟨hj1, hj2⟩ := hj0
  clear later tab tbb SC PC MC CC CV hT hf hqi hh
  go_enter Tryd.func4, Tryd.ntmps4
  go_wp2_with fail
  refine LV.out.mono ?_
  rintro e w1 ⟨⟨u, rfl, hu⟩, hb⟩
  obtain ⟨ua, uc, rfl⟩ := own_formS hu
  have hcu : N ≤ uc := by
    rcases hu.2 with ⟨e, h0⟩ | ⟨_, _, _, e, _, _, hc, _⟩
    · rw [HXL.out] at h0; omega
    · injection e with _ _ e3; rw [HXL.out] at hc; omega
  have B1 : Hid (Below w.heap.size w w1) := hb
  have U1 : Hid (ReadsT w1 (.slice ua L.length uc) L) := own_readsT hu
  rw [HXL.out] at U1 ⊢
  clear hu hb
  go_wp2_with fail
  refine (PL.out _).mono ?_
  rintro e w1' ⟨⟨q, rfl, hq⟩, hw⟩
  rw [hw]
  clear hw PL
  have LJ : Hid (∀ j, j < L.length → L.getD j ByteArray.empty = leafAt wd L q (q + j)) := fun j hj => by
    unfold leafAt
    rw [show q + j - q = j by omega, List.getD_eq_getElem?_getD, List.getD_eq_getElem?_getD, List.getElem?_eq_getElem hj]
    rfl
  obtain ⟨f, HF⟩ : ∃ f, Hid (leafAt wd L q = f) := ⟨_, rfl⟩
  have HS : Hid (∀ i, (leafAt wd L q i).size = wid wd) := HSZ.out q
  rw [HF.out] at HS LJ
  have PB : Hid (PushB T wd f) := PBG.out f HS.out
  have MB : Hid (MergeB T wd f) := MBG.out f HS.out
  clear PBG MBG HSZ
  go_upto_region 4 with fail
  go_cut [56] (fun c wx => c = .bool (decide (i < 0 ∨ (N : Int) < i)) ∧ wx = w1)
  case first =>
    by_cases h1 : i < 0
    · go_wp2
      go_meet
      exact ⟨congrArg Value.bool (decide_eq_true (Or.inl h1)).symm, rfl⟩
    · by_cases h2 : (N : Int) < i
      · go_wp2
        go_meet
        exact ⟨congrArg Value.bool (decide_eq_true (Or.inr h2)).symm, rfl⟩
      · go_wp2
        go_meet
        exact ⟨congrArg Value.bool (decide_eq_false (by omega)).symm, rfl⟩
  case rest =>
  as_aux_lemma =>
  obtain ⟨rfl, rfl⟩ := hcut
  go_upto_if 56 with fail
  go_cut [3] (fun nn wx => ∃ p : Nat, p ≤ N ∧ nn = .int .i64 p ∧ wx = wc)
  case first =>
    by_cases h1 : i < 0 ∨ (N : Int) < i
    · have hb1 := decide_eq_true h1
      go_wp2
      go_meet
      exact ⟨N, Nat.le_refl _, rfl, rfl⟩
    · have hb1 := decide_eq_false h1
      obtain ⟨p, rfl⟩ : ∃ p : Nat, i = p := ⟨i.toNat, by omega⟩
      go_wp2
      go_meet
      exact ⟨p, by omega, rfl, rfl⟩
  case rest =>
  as_aux_lemma =>
  obtain ⟨p, hp, rfl, rfl⟩ := hcut
  go_upto_region 6 with fail
  go_cut [65] (fun c wx => c = .bool (decide (j < p ∨ (N : Int) < j)) ∧ wx = wc)
  case first =>
    by_cases h1 : j < p
    · go_wp2
      go_meet
      exact ⟨congrArg Value.bool (decide_eq_true (Or.inl h1)).symm, rfl⟩
    · by_cases h2 : (N : Int) < j
      · go_wp2
        go_meet
        exact ⟨congrArg Value.bool (decide_eq_true (Or.inr h2)).symm, rfl⟩
      · go_wp2
        go_meet
        exact ⟨congrArg Value.bool (decide_eq_false (by omega)).symm, rfl⟩
  case rest =>
  as_aux_lemma =>
  obtain ⟨rfl, rfl⟩ := hcut
  go_upto_if 65 with fail
  go_cut [4] (fun nn wx => ∃ r : Nat, p ≤ r ∧ r ≤ N ∧ nn = .int .i64 r ∧ wx = wc)
  case first =>
    by_cases h1 : j < p ∨ (N : Int) < j
    · have hb1 := decide_eq_true h1
      go_wp2
      go_meet
      exact ⟨p, Nat.le_refl _, hp, rfl, rfl⟩
    · have hb1 := decide_eq_false h1
      obtain ⟨r, rfl⟩ : ∃ r : Nat, j = r := ⟨j.toNat, by omega⟩
      go_wp2
      go_meet
      exact ⟨r, by omega, by omega, rfl, rfl⟩
  case rest =>
  as_aux_lemma =>
  obtain ⟨r, hpr, hr, rfl, rfl⟩ := hcut
  have lp1 : (p : Int) ≤ uc := by omega
  have lp2 : (p : Int) ≤ N := by omega
  have lp3 : (p : Int) ≤ r := by omega
  have lr1 : (r : Int) ≤ uc := by omega
  have lr2 : (r : Int) ≤ N := by omega
  have ln1 : (N : Int) ≤ uc := by omega
  obtain ⟨y1, HY1⟩ : ∃ y : Nat, Hid (q + p = y) := ⟨_, rfl⟩
  obtain ⟨y2, HY2⟩ : ∃ y : Nat, Hid (q + r = y) := ⟨_, rfl⟩
  obtain ⟨y3, HY3⟩ : ∃ y : Nat, Hid (q + N = y) := ⟨_, rfl⟩
  have BL : Hid (Below w.heap.size w wc) := B1.out
  have CT : Hid (∀ w', Below wc.heap.size wc w' → T w') := fun w' h => LT.out HT.out (over B1.out h)
  have P0 : Hid (∀ w', Below wc.heap.size wc w' → Calls _ _ _ _ _) := fun w' h => PB.out q N y3 (.slice ua N uc) L w' HXL.out (fun j hj => LJ.out j (by rw [HXL.out]; exact hj)) HY3.out.symm (by have := HY3.out; omega) (by omega) (CT.out w' h) (U1.out.later h)
  have P1 : Hid (∀ w', Below wc.heap.size wc w' → Calls _ _ _ _ _) := fun w' h => PB.out q p y1 (.slice ua p uc) (L.take p) w' (by rw [List.length_take, HXL.out]; omega) (fun j hj => by rw [← LJ.out j (by rw [HXL.out]; omega), List.getD_eq_getElem?_getD, List.getD_eq_getElem?_getD, List.getElem?_take, if_pos hj]) HY1.out.symm (by have := HY1.out; omega) (by omega) (CT.out w' h) ((reads_head U1.out (by rw [HXL.out]; omega)).later h)
  have P2 : Hid (∀ w' v2, Below wc.heap.size wc w' → ReadsT wc v2 ((L.drop p).take (r - p)) → Calls _ _ _ _ _) := fun w' v2 h hr2 => PB.out y1 (r - p) y2 v2 ((L.drop p).take (r - p)) w' (mid_len hpr (by rw [HXL.out]; exact hr)) (fun j hj => by rw [← HY1.out]; exact mid_at LJ.out hpr (by rw [HXL.out]; exact hr) j hj) (by have := HY1.out; have := HY2.out; omega) (by have := HY2.out; omega) (by omega) (CT.out w' h) (hr2.later h)
  have P3 : Hid (∀ w' v2, Below wc.heap.size wc w' → ReadsT wc v2 (L.drop r) → Calls _ _ _ _ _) := fun w' v2 h hr2 => PB.out y2 (N - r) y3 v2 (L.drop r) w' (by rw [List.length_drop, HXL.out]) (fun j hj => by rw [← HY2.out, Nat.add_assoc, ← LJ.out (r + j) (by rw [HXL.out]; omega), List.getD_eq_getElem?_getD, List.getD_eq_getElem?_getD, List.getElem?_drop]) (by have := HY2.out; have := HY3.out; omega) (by have := HY3.out; omega) (by omega) (CT.out w' h) (hr2.later h)
  have hy1 : (q : Int) + p = y1 := by have := HY1.out; omega
  have hy2 : (q : Int) + r = y2 := by have := HY2.out; omega
  have hy3 : (q : Int) + N = y3 := by have := HY3.out; omega
  have B0 : Hid (Below wc.heap.size wc wc) := Below.refl _ _
  go_wp2_with fail
  refine (P0.out _ B0.out).mono ?_
  rintro e w1 ⟨⟨a1, l1, c1, b1, m1, d1, rfl, r1⟩, hb⟩
  have HB1 : Below wc.heap.size wc (w1.alloc (.cells #[.int .i64 (q : Nat), .int .i64 (y3 : Nat), .slice a1 l1 c1] 25)) := hb.alloc hb.size _
  have G1 : Hid (Bk (w1.alloc (.cells #[.int .i64 (q : Nat), .int .i64 (y3 : Nat), .slice a1 l1 c1] 25)) wd f w1.heap.size q y3 (.slice a1 l1 c1)) := bk_new r1
  have B1 : Hid (Below _ _ (w1.alloc (.cells #[.int .i64 (q : Nat), .int .i64 (y3 : Nat), .slice a1 l1 c1] 25))) := over B0.out HB1
  clear hb r1 HB1
  go_wp2_with fail
  refine (P1.out _ B1.out).mono ?_
  rintro e w2 ⟨⟨a2, l2, c2, b2, m2, d2, rfl, r2⟩, hb⟩
  have HB2 : Below (w1.alloc (.cells #[.int .i64 (q : Nat), .int .i64 (y3 : Nat), .slice a1 l1 c1] 25)).heap.size (w1.alloc (.cells #[.int .i64 (q : Nat), .int .i64 (y3 : Nat), .slice a1 l1 c1] 25)) (w2.alloc (.cells #[.int .i64 (q : Nat), .int .i64 (y1 : Nat), .slice a2 l2 c2] 25)) := hb.alloc hb.size _
  have G2 : Hid (Bk (w2.alloc (.cells #[.int .i64 (q : Nat), .int .i64 (y1 : Nat), .slice a2 l2 c2] 25)) wd f w2.heap.size q y1 (.slice a2 l2 c2)) := bk_new r2
  have B2 : Hid (Below _ _ (w2.alloc (.cells #[.int .i64 (q : Nat), .int .i64 (y1 : Nat), .slice a2 l2 c2] 25))) := over B1.out HB2
  have G1n : Hid (Bk (w2.alloc (.cells #[.int .i64 (q : Nat), .int .i64 (y1 : Nat), .slice a2 l2 c2] 25)) wd f w1.heap.size q y3 (.slice a1 l1 c1)) := G1.out.on (HB2)
  clear G1
  have G1 : Hid (Bk (w2.alloc (.cells #[.int .i64 (q : Nat), .int .i64 (y1 : Nat), .slice a2 l2 c2] 25)) wd f w1.heap.size q y3 (.slice a1 l1 c1)) := G1n.out
  clear G1n
  clear hb r2 HB2
  go_upto_region 10 with fail
  go_cut [19, 20, 21] (fun s1 s2 s3 wx => ∃ g a l c b m d, s1 = .pointer (some ⟨g, 0, none⟩) ∧ s2 = .slice b m d ∧ s3 = .bool true ∧ Hid (Bk wx wd f g y1 y2 (.slice a l c)) ∧ Hid (Below (w2.alloc (.cells #[.int .i64 (q : Nat), .int .i64 (y1 : Nat), .slice a2 l2 c2] 25)).heap.size (w2.alloc (.cells #[.int .i64 (q : Nat), .int .i64 (y1 : Nat), .slice a2 l2 c2] 25)) wx))
  case first =>
    by_cases hq : uc ≤ p
    · have hq2 : uc - p = 0 := by omega
      go_wp2_with fail
      refine (P2.out _ (.slice ua (r - p) 0) B2.out (reads_mid1 U1.out hpr (by rw [HXL.out]; exact hr) (by omega))).mono ?_
      rintro e w3 ⟨⟨a3, l3, c3, b3, m3, d3, rfl, r3⟩, hb⟩
      have GN : Hid (Bk (w3.alloc (.cells #[.int .i64 (y1 : Nat), .int .i64 (y2 : Nat), .slice a3 l3 c3] 25)) wd f w3.heap.size y1 y2 (.slice a3 l3 c3)) := bk_new r3
      have BN : Hid (Below (w2.alloc (.cells #[.int .i64 (q : Nat), .int .i64 (y1 : Nat), .slice a2 l2 c2] 25)).heap.size (w2.alloc (.cells #[.int .i64 (q : Nat), .int .i64 (y1 : Nat), .slice a2 l2 c2] 25)) (w3.alloc (.cells #[.int .i64 (y1 : Nat), .int .i64 (y2 : Nat), .slice a3 l3 c3] 25))) := hb.alloc hb.size _
      clear hb r3
      go_wp2_with fail
      go_meet
      exact ⟨_, a3, l3, c3, b3, m3, d3, rfl, rfl, rfl, GN.out, BN.out⟩
    · have hq2 : ¬ uc - p = 0 := by omega
      go_wp2_with fail
      refine (P2.out _ (.slice (Option.map (fun x => x.add p) ua) (r - p) (uc - p)) B2.out (reads_mid U1.out hpr (by rw [HXL.out]; exact hr))).mono ?_
      rintro e w3 ⟨⟨a3, l3, c3, b3, m3, d3, rfl, r3⟩, hb⟩
      have GN : Hid (Bk (w3.alloc (.cells #[.int .i64 (y1 : Nat), .int .i64 (y2 : Nat), .slice a3 l3 c3] 25)) wd f w3.heap.size y1 y2 (.slice a3 l3 c3)) := bk_new r3
      have BN : Hid (Below (w2.alloc (.cells #[.int .i64 (q : Nat), .int .i64 (y1 : Nat), .slice a2 l2 c2] 25)).heap.size (w2.alloc (.cells #[.int .i64 (q : Nat), .int .i64 (y1 : Nat), .slice a2 l2 c2] 25)) (w3.alloc (.cells #[.int .i64 (y1 : Nat), .int .i64 (y2 : Nat), .slice a3 l3 c3] 25))) := hb.alloc hb.size _
      clear hb r3
      go_wp2_with fail
      go_meet
      exact ⟨_, a3, l3, c3, b3, m3, d3, rfl, rfl, rfl, GN.out, BN.out⟩
  case rest =>
  as_aux_lemma =>
  obtain ⟨g3, a3, l3, c3, b3, m3, d3, rfl, rfl, rfl, G3, H3⟩ := hcut
  have B3 : Hid (Below _ _ _) := over B2.out H3.out
  have G1n : Hid (Bk _ wd f w1.heap.size q y3 (.slice a1 l1 c1)) := G1.out.on H3.out
  clear G1
  have G1 : Hid (Bk _ wd f w1.heap.size q y3 (.slice a1 l1 c1)) := G1n.out
  clear G1n
  have G2n : Hid (Bk _ wd f w2.heap.size q y1 (.slice a2 l2 c2)) := G2.out.on H3.out
  clear G2
  have G2 : Hid (Bk _ wd f w2.heap.size q y1 (.slice a2 l2 c2)) := G2n.out
  clear G2n
  clear H3
  go_upto_region 11 with fail
  go_cut [22, 23, 24] (fun s1 s2 s3 wx => ∃ g a l c b m d, s1 = .pointer (some ⟨g, 0, none⟩) ∧ s2 = .slice b m d ∧ s3 = .bool true ∧ Hid (Bk wx wd f g y2 y3 (.slice a l c)) ∧ Hid (Below wc.heap.size wc wx))
  case first =>
    by_cases hq : uc ≤ r
    · have hq2 : uc - r = 0 := by omega
      go_wp2_with fail
      refine (P3.out _ (.slice ua (N - r) 0) B3.out (reads_tail1 U1.out (by rw [HXL.out]; exact hr) (by omega))).mono ?_
      rintro e w4 ⟨⟨a4, l4, c4, b4, m4, d4, rfl, r4⟩, hb⟩
      have GN : Hid (Bk (w4.alloc (.cells #[.int .i64 (y2 : Nat), .int .i64 (y3 : Nat), .slice a4 l4 c4] 25)) wd f w4.heap.size y2 y3 (.slice a4 l4 c4)) := bk_new r4
      have BN : Hid (Below wc.heap.size wc (w4.alloc (.cells #[.int .i64 (y2 : Nat), .int .i64 (y3 : Nat), .slice a4 l4 c4] 25))) := hb.alloc hb.size _
      clear hb r4
      go_wp2_with fail
      go_meet
      exact ⟨_, a4, l4, c4, b4, m4, d4, rfl, rfl, rfl, GN.out, BN.out⟩
    · have hq2 : ¬ uc - r = 0 := by omega
      go_wp2_with fail
      refine (P3.out _ (.slice (Option.map (fun x => x.add r) ua) (N - r) (uc - r)) B3.out (reads_tail U1.out (by rw [HXL.out]; exact hr))).mono ?_
      rintro e w4 ⟨⟨a4, l4, c4, b4, m4, d4, rfl, r4⟩, hb⟩
      have GN : Hid (Bk (w4.alloc (.cells #[.int .i64 (y2 : Nat), .int .i64 (y3 : Nat), .slice a4 l4 c4] 25)) wd f w4.heap.size y2 y3 (.slice a4 l4 c4)) := bk_new r4
      have BN : Hid (Below wc.heap.size wc (w4.alloc (.cells #[.int .i64 (y2 : Nat), .int .i64 (y3 : Nat), .slice a4 l4 c4] 25))) := hb.alloc hb.size _
      clear hb r4
      go_wp2_with fail
      go_meet
      exact ⟨_, a4, l4, c4, b4, m4, d4, rfl, rfl, rfl, GN.out, BN.out⟩
  case rest =>
  as_aux_lemma =>
  obtain ⟨g4, a4, l4, c4, b4, m4, d4, rfl, rfl, rfl, G4, H4⟩ := hcut
  have B4 : Hid (Below _ _ _) := over B3.out H4.out
  have G1n : Hid (Bk _ wd f w1.heap.size q y3 (.slice a1 l1 c1)) := G1.out.on H4.out
  clear G1
  have G1 : Hid (Bk _ wd f w1.heap.size q y3 (.slice a1 l1 c1)) := G1n.out
  clear G1n
  have G2n : Hid (Bk _ wd f w2.heap.size q y1 (.slice a2 l2 c2)) := G2.out.on H4.out
  clear G2
  have G2 : Hid (Bk _ wd f w2.heap.size q y1 (.slice a2 l2 c2)) := G2n.out
  clear G2n
  have G3n : Hid (Bk _ wd f g3 y1 y2 (.slice a3 l3 c3)) := G3.out.on H4.out
  clear G3
  have G3 : Hid (Bk _ wd f g3 y1 y2 (.slice a3 l3 c3)) := G3n.out
  clear G3n
  clear H4
  go_wp2_with fail
  refine (LIV.out _ (CT.out _ B4.out)).mono ?_
  rintro e w5 ⟨rfl, hb⟩
  have B5 : Hid (Below _ _ w5) := over B4.out hb
  have G1n : Hid (Bk (w5) wd f w1.heap.size q y3 (.slice a1 l1 c1)) := G1.out.on (hb)
  clear G1
  have G1 : Hid (Bk (w5) wd f w1.heap.size q y3 (.slice a1 l1 c1)) := G1n.out
  clear G1n
  have G2n : Hid (Bk (w5) wd f w2.heap.size q y1 (.slice a2 l2 c2)) := G2.out.on (hb)
  clear G2
  have G2 : Hid (Bk (w5) wd f w2.heap.size q y1 (.slice a2 l2 c2)) := G2n.out
  clear G2n
  have G3n : Hid (Bk (w5) wd f g3 y1 y2 (.slice a3 l3 c3)) := G3.out.on (hb)
  clear G3
  have G3 : Hid (Bk (w5) wd f g3 y1 y2 (.slice a3 l3 c3)) := G3n.out
  clear G3n
  have G4n : Hid (Bk (w5) wd f g4 y2 y3 (.slice a4 l4 c4)) := G4.out.on (hb)
  clear G4
  have G4 : Hid (Bk (w5) wd f g4 y2 y3 (.slice a4 l4 c4)) := G4n.out
  clear G4n
  clear hb
  obtain ⟨d1, d2, d3⟩ := G2.out.fx.fb
  obtain ⟨e1, e2, e3⟩ := G3.out.fx.fb
  have CM : Hid (Calls _ _ _ _ _) := MB.out q y1 y2 (.slice a2 l2 c2) (.slice a3 l3 c3) w5 (by have := HY1.out; have := HY2.out; have := HY3.out; omega) (by have := HY1.out; have := HY2.out; have := HY3.out; omega) (by have := HY3.out; omega) (CT.out _ B5.out) G2.out.rd G3.out.rd
  go_wp2_with fail
  refine CM.out.mono ?_
  clear CM d1 d2 d3 e1 e2 e3
  rintro e w6 ⟨⟨a6, l6, c6, b6, m6, d6, rfl, r6⟩, hb⟩
  have HB6 : Below w5.heap.size w5 (w6.alloc (.cells #[.int .i64 (q : Nat), .int .i64 (y2 : Nat), .slice a6 l6 c6] 25)) := hb.alloc hb.size _
  have G6 : Hid (Bk (w6.alloc (.cells #[.int .i64 (q : Nat), .int .i64 (y2 : Nat), .slice a6 l6 c6] 25)) wd f w6.heap.size q y2 (.slice a6 l6 c6)) := bk_new r6
  have B6 : Hid (Below _ _ (w6.alloc (.cells #[.int .i64 (q : Nat), .int .i64 (y2 : Nat), .slice a6 l6 c6] 25))) := over B5.out HB6
  have G1n : Hid (Bk (w6.alloc (.cells #[.int .i64 (q : Nat), .int .i64 (y2 : Nat), .slice a6 l6 c6] 25)) wd f w1.heap.size q y3 (.slice a1 l1 c1)) := G1.out.on (HB6)
  clear G1
  have G1 : Hid (Bk (w6.alloc (.cells #[.int .i64 (q : Nat), .int .i64 (y2 : Nat), .slice a6 l6 c6] 25)) wd f w1.heap.size q y3 (.slice a1 l1 c1)) := G1n.out
  clear G1n
  have G2n : Hid (Bk (w6.alloc (.cells #[.int .i64 (q : Nat), .int .i64 (y2 : Nat), .slice a6 l6 c6] 25)) wd f w2.heap.size q y1 (.slice a2 l2 c2)) := G2.out.on (HB6)
  clear G2
  have G2 : Hid (Bk (w6.alloc (.cells #[.int .i64 (q : Nat), .int .i64 (y2 : Nat), .slice a6 l6 c6] 25)) wd f w2.heap.size q y1 (.slice a2 l2 c2)) := G2n.out
  clear G2n
  have G3n : Hid (Bk (w6.alloc (.cells #[.int .i64 (q : Nat), .int .i64 (y2 : Nat), .slice a6 l6 c6] 25)) wd f g3 y1 y2 (.slice a3 l3 c3)) := G3.out.on (HB6)
  clear G3
  have G3 : Hid (Bk (w6.alloc (.cells #[.int .i64 (q : Nat), .int .i64 (y2 : Nat), .slice a6 l6 c6] 25)) wd f g3 y1 y2 (.slice a3 l3 c3)) := G3n.out
  clear G3n
  have G4n : Hid (Bk (w6.alloc (.cells #[.int .i64 (q : Nat), .int .i64 (y2 : Nat), .slice a6 l6 c6] 25)) wd f g4 y2 y3 (.slice a4 l4 c4)) := G4.out.on (HB6)
  clear G4
  have G4 : Hid (Bk (w6.alloc (.cells #[.int .i64 (q : Nat), .int .i64 (y2 : Nat), .slice a6 l6 c6] 25)) wd f g4 y2 y3 (.slice a4 l4 c4)) := G4n.out
  clear G4n
  clear hb r6 HB6
  as_aux_lemma =>
  obtain ⟨d1, d2, d3⟩ := G6.out.fx.fb
  obtain ⟨e1, e2, e3⟩ := G4.out.fx.fb
  have CM : Hid (Calls _ _ _ _ _) := MB.out q y2 y3 (.slice a6 l6 c6) (.slice a4 l4 c4) (w6.alloc (.cells #[.int .i64 (q : Nat), .int .i64 (y2 : Nat), .slice a6 l6 c6] 25)) (by have := HY1.out; have := HY2.out; have := HY3.out; omega) (by have := HY1.out; have := HY2.out; have := HY3.out; omega) (by have := HY3.out; omega) (CT.out _ B6.out) G6.out.rd G4.out.rd
  go_wp2_with fail
  refine CM.out.mono ?_
  clear CM d1 d2 d3 e1 e2 e3
  rintro e w7 ⟨⟨a7, l7, c7, b7, m7, d7, rfl, r7⟩, hb⟩
  have HB7 : Below (w6.alloc (.cells #[.int .i64 (q : Nat), .int .i64 (y2 : Nat), .slice a6 l6 c6] 25)).heap.size (w6.alloc (.cells #[.int .i64 (q : Nat), .int .i64 (y2 : Nat), .slice a6 l6 c6] 25)) (w7.alloc (.cells #[.int .i64 (q : Nat), .int .i64 (y3 : Nat), .slice a7 l7 c7] 25)) := hb.alloc hb.size _
  have G7 : Hid (Bk (w7.alloc (.cells #[.int .i64 (q : Nat), .int .i64 (y3 : Nat), .slice a7 l7 c7] 25)) wd f w7.heap.size q y3 (.slice a7 l7 c7)) := bk_new r7
  have B7 : Hid (Below _ _ (w7.alloc (.cells #[.int .i64 (q : Nat), .int .i64 (y3 : Nat), .slice a7 l7 c7] 25))) := over B6.out HB7
  have G1n : Hid (Bk (w7.alloc (.cells #[.int .i64 (q : Nat), .int .i64 (y3 : Nat), .slice a7 l7 c7] 25)) wd f w1.heap.size q y3 (.slice a1 l1 c1)) := G1.out.on (HB7)
  clear G1
  have G1 : Hid (Bk (w7.alloc (.cells #[.int .i64 (q : Nat), .int .i64 (y3 : Nat), .slice a7 l7 c7] 25)) wd f w1.heap.size q y3 (.slice a1 l1 c1)) := G1n.out
  clear G1n
  have G2n : Hid (Bk (w7.alloc (.cells #[.int .i64 (q : Nat), .int .i64 (y3 : Nat), .slice a7 l7 c7] 25)) wd f w2.heap.size q y1 (.slice a2 l2 c2)) := G2.out.on (HB7)
  clear G2
  have G2 : Hid (Bk (w7.alloc (.cells #[.int .i64 (q : Nat), .int .i64 (y3 : Nat), .slice a7 l7 c7] 25)) wd f w2.heap.size q y1 (.slice a2 l2 c2)) := G2n.out
  clear G2n
  have G3n : Hid (Bk (w7.alloc (.cells #[.int .i64 (q : Nat), .int .i64 (y3 : Nat), .slice a7 l7 c7] 25)) wd f g3 y1 y2 (.slice a3 l3 c3)) := G3.out.on (HB7)
  clear G3
  have G3 : Hid (Bk (w7.alloc (.cells #[.int .i64 (q : Nat), .int .i64 (y3 : Nat), .slice a7 l7 c7] 25)) wd f g3 y1 y2 (.slice a3 l3 c3)) := G3n.out
  clear G3n
  have G4n : Hid (Bk (w7.alloc (.cells #[.int .i64 (q : Nat), .int .i64 (y3 : Nat), .slice a7 l7 c7] 25)) wd f g4 y2 y3 (.slice a4 l4 c4)) := G4.out.on (HB7)
  clear G4
  have G4 : Hid (Bk (w7.alloc (.cells #[.int .i64 (q : Nat), .int .i64 (y3 : Nat), .slice a7 l7 c7] 25)) wd f g4 y2 y3 (.slice a4 l4 c4)) := G4n.out
  clear G4n
  have G6n : Hid (Bk (w7.alloc (.cells #[.int .i64 (q : Nat), .int .i64 (y3 : Nat), .slice a7 l7 c7] 25)) wd f w6.heap.size q y2 (.slice a6 l6 c6)) := G6.out.on (HB7)
  clear G6
  have G6 : Hid (Bk (w7.alloc (.cells #[.int .i64 (q : Nat), .int .i64 (y3 : Nat), .slice a7 l7 c7] 25)) wd f w6.heap.size q y2 (.slice a6 l6 c6)) := G6n.out
  clear G6n
  clear hb r7 HB7
  obtain ⟨d1, d2, d3⟩ := G3.out.fx.fb
  obtain ⟨e1, e2, e3⟩ := G4.out.fx.fb
  have CM : Hid (Calls _ _ _ _ _) := MB.out y1 y2 y3 (.slice a3 l3 c3) (.slice a4 l4 c4) (w7.alloc (.cells #[.int .i64 (q : Nat), .int .i64 (y3 : Nat), .slice a7 l7 c7] 25)) (by have := HY1.out; have := HY2.out; have := HY3.out; omega) (by have := HY1.out; have := HY2.out; have := HY3.out; omega) (by have := HY3.out; omega) (CT.out _ B7.out) G3.out.rd G4.out.rd
  go_wp2_with fail
  refine CM.out.mono ?_
  clear CM d1 d2 d3 e1 e2 e3
  rintro e w8 ⟨⟨a8, l8, c8, b8, m8, d8, rfl, r8⟩, hb⟩
  have HB8 : Below (w7.alloc (.cells #[.int .i64 (q : Nat), .int .i64 (y3 : Nat), .slice a7 l7 c7] 25)).heap.size (w7.alloc (.cells #[.int .i64 (q : Nat), .int .i64 (y3 : Nat), .slice a7 l7 c7] 25)) (w8.alloc (.cells #[.int .i64 (y1 : Nat), .int .i64 (y3 : Nat), .slice a8 l8 c8] 25)) := hb.alloc hb.size _
  have G8 : Hid (Bk (w8.alloc (.cells #[.int .i64 (y1 : Nat), .int .i64 (y3 : Nat), .slice a8 l8 c8] 25)) wd f w8.heap.size y1 y3 (.slice a8 l8 c8)) := bk_new r8
  have B8 : Hid (Below _ _ (w8.alloc (.cells #[.int .i64 (y1 : Nat), .int .i64 (y3 : Nat), .slice a8 l8 c8] 25))) := over B7.out HB8
  have G1n : Hid (Bk (w8.alloc (.cells #[.int .i64 (y1 : Nat), .int .i64 (y3 : Nat), .slice a8 l8 c8] 25)) wd f w1.heap.size q y3 (.slice a1 l1 c1)) := G1.out.on (HB8)
  clear G1
  have G1 : Hid (Bk (w8.alloc (.cells #[.int .i64 (y1 : Nat), .int .i64 (y3 : Nat), .slice a8 l8 c8] 25)) wd f w1.heap.size q y3 (.slice a1 l1 c1)) := G1n.out
  clear G1n
  have G2n : Hid (Bk (w8.alloc (.cells #[.int .i64 (y1 : Nat), .int .i64 (y3 : Nat), .slice a8 l8 c8] 25)) wd f w2.heap.size q y1 (.slice a2 l2 c2)) := G2.out.on (HB8)
  clear G2
  have G2 : Hid (Bk (w8.alloc (.cells #[.int .i64 (y1 : Nat), .int .i64 (y3 : Nat), .slice a8 l8 c8] 25)) wd f w2.heap.size q y1 (.slice a2 l2 c2)) := G2n.out
  clear G2n
  have G3n : Hid (Bk (w8.alloc (.cells #[.int .i64 (y1 : Nat), .int .i64 (y3 : Nat), .slice a8 l8 c8] 25)) wd f g3 y1 y2 (.slice a3 l3 c3)) := G3.out.on (HB8)
  clear G3
  have G3 : Hid (Bk (w8.alloc (.cells #[.int .i64 (y1 : Nat), .int .i64 (y3 : Nat), .slice a8 l8 c8] 25)) wd f g3 y1 y2 (.slice a3 l3 c3)) := G3n.out
  clear G3n
  have G4n : Hid (Bk (w8.alloc (.cells #[.int .i64 (y1 : Nat), .int .i64 (y3 : Nat), .slice a8 l8 c8] 25)) wd f g4 y2 y3 (.slice a4 l4 c4)) := G4.out.on (HB8)
  clear G4
  have G4 : Hid (Bk (w8.alloc (.cells #[.int .i64 (y1 : Nat), .int .i64 (y3 : Nat), .slice a8 l8 c8] 25)) wd f g4 y2 y3 (.slice a4 l4 c4)) := G4n.out
  clear G4n
  have G6n : Hid (Bk (w8.alloc (.cells #[.int .i64 (y1 : Nat), .int .i64 (y3 : Nat), .slice a8 l8 c8] 25)) wd f w6.heap.size q y2 (.slice a6 l6 c6)) := G6.out.on (HB8)
  clear G6
  have G6 : Hid (Bk (w8.alloc (.cells #[.int .i64 (y1 : Nat), .int .i64 (y3 : Nat), .slice a8 l8 c8] 25)) wd f w6.heap.size q y2 (.slice a6 l6 c6)) := G6n.out
  clear G6n
  have G7n : Hid (Bk (w8.alloc (.cells #[.int .i64 (y1 : Nat), .int .i64 (y3 : Nat), .slice a8 l8 c8] 25)) wd f w7.heap.size q y3 (.slice a7 l7 c7)) := G7.out.on (HB8)
  clear G7
  have G7 : Hid (Bk (w8.alloc (.cells #[.int .i64 (y1 : Nat), .int .i64 (y3 : Nat), .slice a8 l8 c8] 25)) wd f w7.heap.size q y3 (.slice a7 l7 c7)) := G7n.out
  clear G7n
  clear hb r8 HB8
  as_aux_lemma =>
  obtain ⟨d1, d2, d3⟩ := G2.out.fx.fb
  obtain ⟨e1, e2, e3⟩ := G8.out.fx.fb
  have CM : Hid (Calls _ _ _ _ _) := MB.out q y1 y3 (.slice a2 l2 c2) (.slice a8 l8 c8) (w8.alloc (.cells #[.int .i64 (y1 : Nat), .int .i64 (y3 : Nat), .slice a8 l8 c8] 25)) (by have := HY1.out; have := HY2.out; have := HY3.out; omega) (by have := HY1.out; have := HY2.out; have := HY3.out; omega) (by have := HY3.out; omega) (CT.out _ B8.out) G2.out.rd G8.out.rd
  go_wp2_with fail
  refine CM.out.mono ?_
  clear CM d1 d2 d3 e1 e2 e3
  rintro e w9 ⟨⟨a9, l9, c9, b9, m9, d9, rfl, r9⟩, hb⟩
  have HB9 : Below (w8.alloc (.cells #[.int .i64 (y1 : Nat), .int .i64 (y3 : Nat), .slice a8 l8 c8] 25)).heap.size (w8.alloc (.cells #[.int .i64 (y1 : Nat), .int .i64 (y3 : Nat), .slice a8 l8 c8] 25)) (w9.alloc (.cells #[.int .i64 (q : Nat), .int .i64 (y3 : Nat), .slice a9 l9 c9] 25)) := hb.alloc hb.size _
  have G9 : Hid (Bk (w9.alloc (.cells #[.int .i64 (q : Nat), .int .i64 (y3 : Nat), .slice a9 l9 c9] 25)) wd f w9.heap.size q y3 (.slice a9 l9 c9)) := bk_new r9
  have B9 : Hid (Below _ _ (w9.alloc (.cells #[.int .i64 (q : Nat), .int .i64 (y3 : Nat), .slice a9 l9 c9] 25))) := over B8.out HB9
  have G1n : Hid (Bk (w9.alloc (.cells #[.int .i64 (q : Nat), .int .i64 (y3 : Nat), .slice a9 l9 c9] 25)) wd f w1.heap.size q y3 (.slice a1 l1 c1)) := G1.out.on (HB9)
  clear G1
  have G1 : Hid (Bk (w9.alloc (.cells #[.int .i64 (q : Nat), .int .i64 (y3 : Nat), .slice a9 l9 c9] 25)) wd f w1.heap.size q y3 (.slice a1 l1 c1)) := G1n.out
  clear G1n
  have G2n : Hid (Bk (w9.alloc (.cells #[.int .i64 (q : Nat), .int .i64 (y3 : Nat), .slice a9 l9 c9] 25)) wd f w2.heap.size q y1 (.slice a2 l2 c2)) := G2.out.on (HB9)
  clear G2
  have G2 : Hid (Bk (w9.alloc (.cells #[.int .i64 (q : Nat), .int .i64 (y3 : Nat), .slice a9 l9 c9] 25)) wd f w2.heap.size q y1 (.slice a2 l2 c2)) := G2n.out
  clear G2n
  have G3n : Hid (Bk (w9.alloc (.cells #[.int .i64 (q : Nat), .int .i64 (y3 : Nat), .slice a9 l9 c9] 25)) wd f g3 y1 y2 (.slice a3 l3 c3)) := G3.out.on (HB9)
  clear G3
  have G3 : Hid (Bk (w9.alloc (.cells #[.int .i64 (q : Nat), .int .i64 (y3 : Nat), .slice a9 l9 c9] 25)) wd f g3 y1 y2 (.slice a3 l3 c3)) := G3n.out
  clear G3n
  have G4n : Hid (Bk (w9.alloc (.cells #[.int .i64 (q : Nat), .int .i64 (y3 : Nat), .slice a9 l9 c9] 25)) wd f g4 y2 y3 (.slice a4 l4 c4)) := G4.out.on (HB9)
  clear G4
  have G4 : Hid (Bk (w9.alloc (.cells #[.int .i64 (q : Nat), .int .i64 (y3 : Nat), .slice a9 l9 c9] 25)) wd f g4 y2 y3 (.slice a4 l4 c4)) := G4n.out
  clear G4n
  have G6n : Hid (Bk (w9.alloc (.cells #[.int .i64 (q : Nat), .int .i64 (y3 : Nat), .slice a9 l9 c9] 25)) wd f w6.heap.size q y2 (.slice a6 l6 c6)) := G6.out.on (HB9)
  clear G6
  have G6 : Hid (Bk (w9.alloc (.cells #[.int .i64 (q : Nat), .int .i64 (y3 : Nat), .slice a9 l9 c9] 25)) wd f w6.heap.size q y2 (.slice a6 l6 c6)) := G6n.out
  clear G6n
  have G7n : Hid (Bk (w9.alloc (.cells #[.int .i64 (q : Nat), .int .i64 (y3 : Nat), .slice a9 l9 c9] 25)) wd f w7.heap.size q y3 (.slice a7 l7 c7)) := G7.out.on (HB9)
  clear G7
  have G7 : Hid (Bk (w9.alloc (.cells #[.int .i64 (q : Nat), .int .i64 (y3 : Nat), .slice a9 l9 c9] 25)) wd f w7.heap.size q y3 (.slice a7 l7 c7)) := G7n.out
  clear G7n
  have G8n : Hid (Bk (w9.alloc (.cells #[.int .i64 (q : Nat), .int .i64 (y3 : Nat), .slice a9 l9 c9] 25)) wd f w8.heap.size y1 y3 (.slice a8 l8 c8)) := G8.out.on (HB9)
  clear G8
  have G8 : Hid (Bk (w9.alloc (.cells #[.int .i64 (q : Nat), .int .i64 (y3 : Nat), .slice a9 l9 c9] 25)) wd f w8.heap.size y1 y3 (.slice a8 l8 c8)) := G8n.out
  clear G8n
  clear hb r9 HB9
  obtain ⟨lc, HLC⟩ : ∃ l : Nat, Hid ((cov q y3).length = l) := ⟨_, rfl⟩
  have CVC : Hid (Calls Tryd.prog 15 #[.int .i64 (q : Nat), .int .i64 (y3 : Nat)] (w9.alloc (.cells #[.int .i64 (q : Nat), .int .i64 (y3 : Nat), .slice a9 l9 c9] 25)) fun e w' => (∃ a c, e = .returned (.tuple #[.slice a lc c, .int .i64 0])) ∧ Below (w9.alloc (.cells #[.int .i64 (q : Nat), .int .i64 (y3 : Nat), .slice a9 l9 c9] 25)).heap.size (w9.alloc (.cells #[.int .i64 (q : Nat), .int .i64 (y3 : Nat), .slice a9 l9 c9] 25)) w') := by
    refine (CVG.out.covers q y3 (i64_nat (by have := HY3.out; omega)) (i64_nat (by have := HY3.out; omega)) (w9.alloc (.cells #[.int .i64 (q : Nat), .int .i64 (y3 : Nat), .slice a9 l9 c9] 25)) (CT.out _ B9.out)).mono ?_
    rintro e w' ⟨⟨vv, rfl, ho⟩, hb⟩
    have hE : covE q y3 = 0 := by unfold covE; rw [if_pos ⟨by omega, by have := HY3.out; omega, by have := HY3.out; omega⟩]
    rw [covI_nat (by have := HY3.out; omega) (by have := HY3.out; omega), HLC.out] at ho
    obtain ⟨aa, ac, rfl⟩ := own_formS ho
    rw [hE]
    exact ⟨⟨aa, ac, rfl⟩, hb⟩
  go_wp2_with fail
  refine CVC.out.mono ?_
  rintro e w10 ⟨⟨av, cv, rfl⟩, hb⟩
  have B10 : Hid (Below _ _ w10) := over B9.out hb
  have G1n : Hid (Bk (w10) wd f w1.heap.size q y3 (.slice a1 l1 c1)) := G1.out.on (hb)
  clear G1
  have G1 : Hid (Bk (w10) wd f w1.heap.size q y3 (.slice a1 l1 c1)) := G1n.out
  clear G1n
  have G2n : Hid (Bk (w10) wd f w2.heap.size q y1 (.slice a2 l2 c2)) := G2.out.on (hb)
  clear G2
  have G2 : Hid (Bk (w10) wd f w2.heap.size q y1 (.slice a2 l2 c2)) := G2n.out
  clear G2n
  have G3n : Hid (Bk (w10) wd f g3 y1 y2 (.slice a3 l3 c3)) := G3.out.on (hb)
  clear G3
  have G3 : Hid (Bk (w10) wd f g3 y1 y2 (.slice a3 l3 c3)) := G3n.out
  clear G3n
  have G4n : Hid (Bk (w10) wd f g4 y2 y3 (.slice a4 l4 c4)) := G4.out.on (hb)
  clear G4
  have G4 : Hid (Bk (w10) wd f g4 y2 y3 (.slice a4 l4 c4)) := G4n.out
  clear G4n
  have G6n : Hid (Bk (w10) wd f w6.heap.size q y2 (.slice a6 l6 c6)) := G6.out.on (hb)
  clear G6
  have G6 : Hid (Bk (w10) wd f w6.heap.size q y2 (.slice a6 l6 c6)) := G6n.out
  clear G6n
  have G7n : Hid (Bk (w10) wd f w7.heap.size q y3 (.slice a7 l7 c7)) := G7.out.on (hb)
  clear G7
  have G7 : Hid (Bk (w10) wd f w7.heap.size q y3 (.slice a7 l7 c7)) := G7n.out
  clear G7n
  have G8n : Hid (Bk (w10) wd f w8.heap.size y1 y3 (.slice a8 l8 c8)) := G8.out.on (hb)
  clear G8
  have G8 : Hid (Bk (w10) wd f w8.heap.size y1 y3 (.slice a8 l8 c8)) := G8n.out
  clear G8n
  have G9n : Hid (Bk (w10) wd f w9.heap.size q y3 (.slice a9 l9 c9)) := G9.out.on (hb)
  clear G9
  have G9 : Hid (Bk (w10) wd f w9.heap.size q y3 (.slice a9 l9 c9)) := G9n.out
  clear G9n
  clear hb CVC
  have hgd : GoodF wd q y3 (covH wd f q y3) := covH_good HS.out (by have := HY3.out; omega) (by have := HY3.out; omega)
  have hlen : (covH wd f q y3).length = lc := by rw [covH_len, HLC.out]
  have l122 : lc ≤ 122 := by rw [← HLC.out]; exact cov_len _ _ (by have := HY3.out; omega) (by rw [p62]; have := HY3.out; omega)
  obtain rfl : l1 = lc := by obtain ⟨_, _, e, _, _⟩ := G1.out.rd; injection e with _ e2 _; rw [e2, hlen]
  obtain ⟨d1, d2, d3⟩ := G1.out.fx.fb
  obtain ⟨e1, e2, e3⟩ := G7.out.fx.fb
  obtain ⟨x1, x2, x3⟩ := G9.out.fx.fb
  have CS1 : Hid (Calls _ _ _ _ _) := same_yes q y3 (.slice a7 l7 c7) (.slice a1 l1 c1) _ w10 G7.out.rd G1.out.rd (by rw [hlen]; omega)
  go_wp2_with fail
  refine CS1.out.mono ?_
  rintro e w11 ⟨rfl, hb⟩
  have B11 : Hid (Below _ _ w11) := over B10.out hb
  have G1n : Hid (Bk (w11) wd f w1.heap.size q y3 (.slice a1 l1 c1)) := G1.out.on (hb)
  clear G1
  have G1 : Hid (Bk (w11) wd f w1.heap.size q y3 (.slice a1 l1 c1)) := G1n.out
  clear G1n
  have G2n : Hid (Bk (w11) wd f w2.heap.size q y1 (.slice a2 l2 c2)) := G2.out.on (hb)
  clear G2
  have G2 : Hid (Bk (w11) wd f w2.heap.size q y1 (.slice a2 l2 c2)) := G2n.out
  clear G2n
  have G3n : Hid (Bk (w11) wd f g3 y1 y2 (.slice a3 l3 c3)) := G3.out.on (hb)
  clear G3
  have G3 : Hid (Bk (w11) wd f g3 y1 y2 (.slice a3 l3 c3)) := G3n.out
  clear G3n
  have G4n : Hid (Bk (w11) wd f g4 y2 y3 (.slice a4 l4 c4)) := G4.out.on (hb)
  clear G4
  have G4 : Hid (Bk (w11) wd f g4 y2 y3 (.slice a4 l4 c4)) := G4n.out
  clear G4n
  have G6n : Hid (Bk (w11) wd f w6.heap.size q y2 (.slice a6 l6 c6)) := G6.out.on (hb)
  clear G6
  have G6 : Hid (Bk (w11) wd f w6.heap.size q y2 (.slice a6 l6 c6)) := G6n.out
  clear G6n
  have G7n : Hid (Bk (w11) wd f w7.heap.size q y3 (.slice a7 l7 c7)) := G7.out.on (hb)
  clear G7
  have G7 : Hid (Bk (w11) wd f w7.heap.size q y3 (.slice a7 l7 c7)) := G7n.out
  clear G7n
  have G8n : Hid (Bk (w11) wd f w8.heap.size y1 y3 (.slice a8 l8 c8)) := G8.out.on (hb)
  clear G8
  have G8 : Hid (Bk (w11) wd f w8.heap.size y1 y3 (.slice a8 l8 c8)) := G8n.out
  clear G8n
  have G9n : Hid (Bk (w11) wd f w9.heap.size q y3 (.slice a9 l9 c9)) := G9.out.on (hb)
  clear G9
  have G9 : Hid (Bk (w11) wd f w9.heap.size q y3 (.slice a9 l9 c9)) := G9n.out
  clear G9n
  clear hb CS1 d1 d2 d3 e1 e2 e3 x1 x2 x3
  obtain ⟨d1, d2, d3⟩ := G1.out.fx.fb
  obtain ⟨x1, x2, x3⟩ := G9.out.fx.fb
  have CS2 : Hid (Calls _ _ _ _ _) := same_yes q y3 (.slice a9 l9 c9) (.slice a1 l1 c1) _ w11 G9.out.rd G1.out.rd (by rw [hlen]; omega)
  go_wp2_with fail
  refine CS2.out.mono ?_
  rintro e w12 ⟨rfl, hb⟩
  have B12 : Hid (Below _ _ w12) := over B11.out hb
  have G1n : Hid (Bk (w12) wd f w1.heap.size q y3 (.slice a1 l1 c1)) := G1.out.on (hb)
  clear G1
  have G1 : Hid (Bk (w12) wd f w1.heap.size q y3 (.slice a1 l1 c1)) := G1n.out
  clear G1n
  have G2n : Hid (Bk (w12) wd f w2.heap.size q y1 (.slice a2 l2 c2)) := G2.out.on (hb)
  clear G2
  have G2 : Hid (Bk (w12) wd f w2.heap.size q y1 (.slice a2 l2 c2)) := G2n.out
  clear G2n
  have G3n : Hid (Bk (w12) wd f g3 y1 y2 (.slice a3 l3 c3)) := G3.out.on (hb)
  clear G3
  have G3 : Hid (Bk (w12) wd f g3 y1 y2 (.slice a3 l3 c3)) := G3n.out
  clear G3n
  have G4n : Hid (Bk (w12) wd f g4 y2 y3 (.slice a4 l4 c4)) := G4.out.on (hb)
  clear G4
  have G4 : Hid (Bk (w12) wd f g4 y2 y3 (.slice a4 l4 c4)) := G4n.out
  clear G4n
  have G6n : Hid (Bk (w12) wd f w6.heap.size q y2 (.slice a6 l6 c6)) := G6.out.on (hb)
  clear G6
  have G6 : Hid (Bk (w12) wd f w6.heap.size q y2 (.slice a6 l6 c6)) := G6n.out
  clear G6n
  have G7n : Hid (Bk (w12) wd f w7.heap.size q y3 (.slice a7 l7 c7)) := G7.out.on (hb)
  clear G7
  have G7 : Hid (Bk (w12) wd f w7.heap.size q y3 (.slice a7 l7 c7)) := G7n.out
  clear G7n
  have G8n : Hid (Bk (w12) wd f w8.heap.size y1 y3 (.slice a8 l8 c8)) := G8.out.on (hb)
  clear G8
  have G8 : Hid (Bk (w12) wd f w8.heap.size y1 y3 (.slice a8 l8 c8)) := G8n.out
  clear G8n
  have G9n : Hid (Bk (w12) wd f w9.heap.size q y3 (.slice a9 l9 c9)) := G9.out.on (hb)
  clear G9
  have G9 : Hid (Bk (w12) wd f w9.heap.size q y3 (.slice a9 l9 c9)) := G9n.out
  clear G9n
  clear hb CS2 d1 d2 d3 x1 x2 x3
  obtain ⟨d1, d2, d3⟩ := G1.out.fx.fb
  have CCK : Hid (Calls _ _ _ _ _) := CKG.out wd q y3 (.slice a1 l1 c1) _ w12 hwd (i64_nat (by have := HY3.out; omega)) (i64_nat (by have := HY3.out; omega)) (CT.out _ B12.out) G1.out.rd (fits_good hgd)
  rw [chk_ok.2 hgd] at CCK
  go_wp2_with fail
  refine CCK.out.mono ?_
  rintro e w13 ⟨rfl, hb⟩
  have B13 : Hid (Below _ _ w13) := over B12.out hb
  clear hb CCK
  go_wp2
  go_ret
  exact ⟨rfl, over BL.out B13.out⟩
end Go.Proofs.YtnnpidjpklfogaaDoor.qh

namespace Go.Proofs.YtnnpidjpklfogaaDoor.qi
open Go.RowKit Go.PlainAid
open Go.Proofs.YtnnpidjpklfogaaDoor.pl Go.Proofs.YtnnpidjpklfogaaDoor.pi Go.Proofs.YtnnpidjpklfogaaDoor.pj Go.Proofs.YtnnpidjpklfogaaDoor.rf Go.Proofs.YtnnpidjpklfogaaDoor.ca Go.Proofs.YtnnpidjpklfogaaDoor.cb Go.Proofs.YtnnpidjpklfogaaDoor.cp Go.Proofs.YtnnpidjpklfogaaDoor.cs Go.Proofs.YtnnpidjpklfogaaDoor.ct Go.Proofs.YtnnpidjpklfogaaDoor.ka Go.Proofs.YtnnpidjpklfogaaDoor.kb Go.Proofs.YtnnpidjpklfogaaDoor.kc Go.Proofs.YtnnpidjpklfogaaDoor.ga Go.Proofs.YtnnpidjpklfogaaDoor.gb Go.Proofs.YtnnpidjpklfogaaDoor.gr Go.Proofs.YtnnpidjpklfogaaDoor.gn Go.Proofs.YtnnpidjpklfogaaDoor.na Go.Proofs.YtnnpidjpklfogaaDoor.nb Go.Proofs.YtnnpidjpklfogaaDoor.nc Go.Proofs.YtnnpidjpklfogaaDoor.oa Go.Proofs.YtnnpidjpklfogaaDoor.ob Go.Proofs.YtnnpidjpklfogaaDoor.qa Go.Proofs.YtnnpidjpklfogaaDoor.qb Go.Proofs.YtnnpidjpklfogaaDoor.qc Go.Proofs.YtnnpidjpklfogaaDoor.qd Go.Proofs.YtnnpidjpklfogaaDoor.qf Go.Proofs.YtnnpidjpklfogaaDoor.qg Go.Proofs.YtnnpidjpklfogaaDoor.xc
set_option linter.unusedVariables false

theorem node_at (wd : Int) (xs : List ByteArray) (k i : Nat) (hk : k ≤ 62) (h : (i + 1) * 2 ^ k ≤ xs.length) (hb : xs.length ≤ 4611686018427387904) : NT wd k i xs = HL wd (leafAt wd (LX wd xs) 0) k i ∧ NE k i xs = 0 := by
  have hok : okA k i := (okA_nat k i).2 ⟨hk, by omega⟩
  have e1 : ((i : Int) + 1) * 2 ^ (k : Int).toNat = (((i + 1) * 2 ^ k : Nat) : Int) := by rw [Int.toNat_natCast, cast_pow]; simp
  have e2 : ((i : Int) * 2 ^ (k : Int).toNat).toNat = i * 2 ^ k := by rw [Int.toNat_natCast, cast_pow, ← Int.natCast_mul, Int.toNat_natCast]
  refine ⟨?_, ?_⟩
  · unfold NT
    rw [e1, e2, if_pos ⟨hok, by omega⟩, Int.toNat_natCast, HL_node wd xs k i h]
  · unfold NE
    rw [e1, if_pos hok, if_pos (by omega)]
set_option maxHeartbeats 6400000 in
set_option maxRecDepth 100000 in
theorem comp_cover {T : World → Prop} (later : ∀ {w w' : World}, T w → Below w.heap.size w w' → T w') (tab : ∀ {w : World}, T w → Tab w) (tbb : ∀ {w : World}, T w → TabB w) (SC : StartC T) (PC : PushC T) (MC : MergeC T) (RC : RootC7 T) (CV : CoverC T) (RO : RootC T) (ND : NodeC T) (wd : Int) (hwd : i64 wd) (v : Value) (xs : List ByteArray) (i j : Int) (hi0 : i64 i) (hj0 : i64 j) (w : World) (hT : T w) (hR : ReadsT w v xs) (hf : Fits xs) (hsm : xs.length * 32 ≤ 140737488355328) :
    Calls Tryd.prog 6 #[.int .i64 wd, v, .int .i64 i, .int .i64 j] w fun e w' => e = .returned (.bool true) ∧ Below w.heap.size w w' := by
  have LV : Hid (Calls _ _ _ _ _) := leaves later tab wd v xs w hT hR hf
  have LIV : Hid (∀ w, T w → Calls _ _ _ _ _) := fun w h => live later tbb SC w h
  have LT : Hid (∀ {w w' : World}, T w → Below w.heap.size w w' → T w') := later
  have HT : Hid (T w) := hT
  have HRD : Hid (ReadsT w v xs) := hR
  have HFI : Hid (Fits xs) := hf
  have hmm := hf.many
  have HS : Hid (∀ i, (leafAt wd (LX wd xs) 0 i).size = wid wd) := leafAt_size (LX_size wd xs) 0
  have PB : Hid (PushB T wd (leafAt wd (LX wd xs) 0)) := pushB later SC PC wd hwd _ HS.out
  have MB : Hid (MergeB T wd (leafAt wd (LX wd xs) 0)) := mergeB MC wd hwd _ HS.out
  have RCG : Hid (RootC7 T) := RC
  have CVG : Hid (CoverC T) := CV
  have ROG : Hid (RootC T) := RO
  have NDG : Hid (∀ k i : Nat, k ≤ 62 → (i + 1) * 2 ^ k ≤ xs.length → ∀ w, T w → ReadsT w v xs → Calls Tryd.prog 24 #[.int .i64 wd, .agg #[.int .i64 k, .int .i64 i], v] w fun e w' => e = .returned (.tuple #[.string (HL wd (leafAt wd (LX wd xs) 0) k i), .int .i64 0]) ∧ Below w.heap.size w w') := fun k i h1 h2 w hw hr => by
    have hp := p2 k
    have hi62 : i ≤ 4611686018427387904 := by have := Nat.le_mul_of_pos_right (i + 1) hp; omega
    have := ND wd k i v xs w hwd (i64_nat (by omega)) (i64_nat hi62) hw hr hf
    rw [(node_at wd xs k i h1 h2 (by omega)).1, (node_at wd xs k i h1 h2 (by omega)).2] at this
    exact this
  have FR : Hid (∀ n, n ≤ xs.length → foldP (EF wd) (NF wd) (covH wd (leafAt wd (LX wd xs) 0) 0 n) = RT wd (xs.take n)) := fun n hn => fold_root wd xs n hn (by omega)
  have HLJ : Hid (∀ j, j < (LX wd xs).length → (LX wd xs).getD j ByteArray.empty = leafAt wd (LX wd xs) 0 (0 + j)) := fun j hj => by
    unfold leafAt
    rw [Nat.zero_add, Nat.sub_zero, List.getD_eq_getElem?_getD, List.getD_eq_getElem?_getD, List.getElem?_eq_getElem hj]
    rfl
  have HXL : Hid ((LX wd xs).length = xs.length) := LX_len wd xs
  obtain ⟨N, HN⟩ : ∃ N, Hid (xs.length = N) := ⟨_, rfl⟩
  obtain ⟨f, HF⟩ : ∃ f, Hid (leafAt wd (LX wd xs) 0 = f) := ⟨_, rfl⟩
  obtain ⟨L, HLL⟩ : ∃ L, Hid (LX wd xs = L) := ⟨_, rfl⟩
  rw [HF.out] at PB MB HS HLJ NDG FR
  rw [HLL.out] at HLJ HXL LV
  obtain ⟨a, cap, rfl, hcap, hh⟩ := hR
  rw [HN.out] at hcap hsm hmm LV HXL HRD NDG FR ⊢
  obtain ⟨hi1, hi2⟩ := hi0
  obtain ⟨hj1, hj2⟩ := hj0
  clear later tab tbb SC PC MC RC CV RO ND hT hf hh
  go_enter Tryd.func6, Tryd.ntmps6
  go_upto_region 2 with fail
  go_cut [36] (fun c wx => c = .bool (decide (i < 0 ∨ (N : Int) < i)) ∧ wx = w)
  case first =>
    by_cases h1 : i < 0
    · go_wp2
      go_meet
      exact ⟨congrArg Value.bool (decide_eq_true (Or.inl h1)).symm, rfl⟩
    · by_cases h2 : (N : Int) < i
      · go_wp2
        go_meet
        exact ⟨congrArg Value.bool (decide_eq_true (Or.inr h2)).symm, rfl⟩
      · go_wp2
        go_meet
        exact ⟨congrArg Value.bool (decide_eq_false (by omega)).symm, rfl⟩
  case rest =>
  as_aux_lemma =>
  obtain ⟨rfl, rfl⟩ := hcut
  go_upto_if 36 with fail
  go_cut [2] (fun nn wx => ∃ p : Nat, p ≤ N ∧ nn = .int .i64 p ∧ wx = wc)
  case first =>
    by_cases h1 : i < 0 ∨ (N : Int) < i
    · have hb1 := decide_eq_true h1
      go_wp2
      go_meet
      exact ⟨0, by omega, rfl, rfl⟩
    · have hb1 := decide_eq_false h1
      obtain ⟨p, rfl⟩ : ∃ p : Nat, i = p := ⟨i.toNat, by omega⟩
      go_wp2
      go_meet
      exact ⟨p, by omega, rfl, rfl⟩
  case rest =>
  as_aux_lemma =>
  obtain ⟨p, hp, rfl, rfl⟩ := hcut
  go_upto_region 4 with fail
  go_cut [44] (fun c wx => c = .bool (decide (j < p ∨ (N : Int) < j)) ∧ wx = wc)
  case first =>
    by_cases h1 : j < p
    · go_wp2
      go_meet
      exact ⟨congrArg Value.bool (decide_eq_true (Or.inl h1)).symm, rfl⟩
    · by_cases h2 : (N : Int) < j
      · go_wp2
        go_meet
        exact ⟨congrArg Value.bool (decide_eq_true (Or.inr h2)).symm, rfl⟩
      · go_wp2
        go_meet
        exact ⟨congrArg Value.bool (decide_eq_false (by omega)).symm, rfl⟩
  case rest =>
  as_aux_lemma =>
  obtain ⟨rfl, rfl⟩ := hcut
  go_upto_if 44 with fail
  go_cut [3] (fun nn wx => ∃ r : Nat, p ≤ r ∧ r ≤ N ∧ nn = .int .i64 r ∧ wx = wc)
  case first =>
    by_cases h1 : j < p ∨ (N : Int) < j
    · have hb1 := decide_eq_true h1
      go_wp2
      go_meet
      exact ⟨N, hp, Nat.le_refl _, rfl, rfl⟩
    · have hb1 := decide_eq_false h1
      obtain ⟨r, rfl⟩ : ∃ r : Nat, j = r := ⟨j.toNat, by omega⟩
      go_wp2
      go_meet
      exact ⟨r, by omega, by omega, rfl, rfl⟩
  case rest =>
  as_aux_lemma =>
  obtain ⟨r, hpr, hr, rfl, rfl⟩ := hcut
  go_wp2_with fail
  refine LV.out.mono ?_
  rintro e w1 ⟨⟨u, rfl, hu⟩, hb⟩
  obtain ⟨ua, uc, rfl⟩ := own_formS hu
  have hcu : N ≤ uc := by
    rcases hu.2 with ⟨e, h0⟩ | ⟨_, _, _, e, _, _, hc, _⟩
    · rw [HXL.out] at h0; omega
    · injection e with _ _ e3; rw [HXL.out] at hc; omega
  have BL : Hid (Below wc.heap.size wc w1) := hb
  have U1 : Hid (ReadsT w1 (.slice ua L.length uc) L) := own_readsT hu
  rw [HXL.out] at U1 ⊢
  clear hu hb
  have lp1 : (p : Int) ≤ uc := by omega
  have lp2 : (p : Int) ≤ N := by omega
  have lp3 : (p : Int) ≤ r := by omega
  have lr1 : (r : Int) ≤ uc := by omega
  have lr2 : (r : Int) ≤ N := by omega
  have lr3 : (r : Int) ≤ cap := by omega
  have ln1 : (N : Int) ≤ uc := by omega
  have CT : Hid (∀ w', Below w1.heap.size w1 w' → T w') := fun w' h => LT.out HT.out (over BL.out h)
  have LR : Hid (∀ w', Below w1.heap.size w1 w' → ReadsT w' (.slice a N cap) xs) := fun w' h => HRD.out.later (over BL.out h)
  have P2 : Hid (∀ w' v2, Below w1.heap.size w1 w' → ReadsT w1 v2 ((L.drop p).take (r - p)) → Calls _ _ _ _ _) := fun w' v2 h hr2 => PB.out p (r - p) r v2 ((L.drop p).take (r - p)) w' (mid_len hpr (by rw [HXL.out]; exact hr)) (fun j hj => by have := mid_at HLJ.out hpr (by rw [HXL.out]; exact hr) j hj; rw [Nat.zero_add] at this; exact this) (by omega) (by omega) (by omega) (CT.out w' h) (hr2.later h)
  have P1 : Hid (∀ w', Below w1.heap.size w1 w' → Calls _ _ _ _ _) := fun w' h => PB.out 0 p p (.slice ua p uc) (L.take p) w' (by rw [List.length_take, HXL.out]; omega) (fun j hj => by rw [← HLJ.out j (by rw [HXL.out]; omega), List.getD_eq_getElem?_getD, List.getD_eq_getElem?_getD, List.getElem?_take, if_pos hj]) (by omega) (by omega) (by omega) (CT.out w' h) ((reads_head U1.out (by rw [HXL.out]; omega)).later h)
  go_upto_region 7 with fail
  go_cut [11, 12, 13] (fun s1 s2 s3 wx => ∃ g a l c b m d, s1 = .pointer (some ⟨g, 0, none⟩) ∧ s2 = .slice b m d ∧ s3 = .bool true ∧ Hid (Bk wx wd f g p r (.slice a l c)) ∧ Hid (Below w1.heap.size w1 wx))
  case first =>
    by_cases hq : uc ≤ p
    · have hq2 : uc - p = 0 := by omega
      go_wp2_with fail
      refine (P2.out _ (.slice ua (r - p) 0) (Below.refl _ _) (reads_mid1 U1.out hpr (by rw [HXL.out]; exact hr) (by omega))).mono ?_
      rintro e w3 ⟨⟨a3, l3, c3, b3, m3, d3, rfl, r3⟩, hb⟩
      have GN : Hid (Bk (w3.alloc (.cells #[.int .i64 (p : Nat), .int .i64 (r : Nat), .slice a3 l3 c3] 25)) wd f w3.heap.size p r (.slice a3 l3 c3)) := bk_new r3
      have BN : Hid (Below w1.heap.size w1 (w3.alloc (.cells #[.int .i64 (p : Nat), .int .i64 (r : Nat), .slice a3 l3 c3] 25))) := hb.alloc hb.size _
      clear hb r3
      go_wp2_with fail
      go_meet
      exact ⟨_, a3, l3, c3, b3, m3, d3, rfl, rfl, rfl, GN.out, BN.out⟩
    · have hq2 : ¬ uc - p = 0 := by omega
      go_wp2_with fail
      refine (P2.out _ (.slice (Option.map (fun x => x.add p) ua) (r - p) (uc - p)) (Below.refl _ _) (reads_mid U1.out hpr (by rw [HXL.out]; exact hr))).mono ?_
      rintro e w3 ⟨⟨a3, l3, c3, b3, m3, d3, rfl, r3⟩, hb⟩
      have GN : Hid (Bk (w3.alloc (.cells #[.int .i64 (p : Nat), .int .i64 (r : Nat), .slice a3 l3 c3] 25)) wd f w3.heap.size p r (.slice a3 l3 c3)) := bk_new r3
      have BN : Hid (Below w1.heap.size w1 (w3.alloc (.cells #[.int .i64 (p : Nat), .int .i64 (r : Nat), .slice a3 l3 c3] 25))) := hb.alloc hb.size _
      clear hb r3
      go_wp2_with fail
      go_meet
      exact ⟨_, a3, l3, c3, b3, m3, d3, rfl, rfl, rfl, GN.out, BN.out⟩
  case rest =>
  as_aux_lemma =>
  obtain ⟨g3, a3, l3, c3, b3, m3, d3, rfl, rfl, rfl, G3, B3⟩ := hcut
  go_wp2_with fail
  refine (P1.out _ B3.out).mono ?_
  rintro e w4 ⟨⟨a4, l4, c4, b4, m4, d4, rfl, r4⟩, hb⟩
  rw [Int.natCast_zero]
  have HB4 : Below wc.heap.size wc (w4.alloc (.cells #[.int .i64 0, .int .i64 (p : Nat), .slice a4 l4 c4] 25)) := hb.alloc hb.size _
  have G4 : Hid (Bk (w4.alloc (.cells #[.int .i64 0, .int .i64 (p : Nat), .slice a4 l4 c4] 25)) wd f w4.heap.size 0 p (.slice a4 l4 c4)) := bk_new r4
  have B4 : Hid (Below w1.heap.size w1 (w4.alloc (.cells #[.int .i64 0, .int .i64 (p : Nat), .slice a4 l4 c4] 25))) := over B3.out HB4
  have G5 : Hid (Bk (w4.alloc (.cells #[.int .i64 0, .int .i64 (p : Nat), .slice a4 l4 c4] 25)) wd f g3 p r (.slice a3 l3 c3)) := G3.out.on HB4
  clear hb r4 HB4 G3
  obtain ⟨lc, HLC⟩ : ∃ l : Nat, Hid ((cov p r).length = l) := ⟨_, rfl⟩
  have hlen : (covH wd f p r).length = lc := by rw [covH_len, HLC.out]
  have CVC : Hid (Calls Tryd.prog 15 #[.int .i64 (p : Nat), .int .i64 (r : Nat)] (w4.alloc (.cells #[.int .i64 0, .int .i64 (p : Nat), .slice a4 l4 c4] 25)) fun e w' => (∃ a c, e = .returned (.tuple #[.slice a lc c, .int .i64 0]) ∧ ReadsA w' (.slice a lc c) (cov p r)) ∧ Below (w4.alloc (.cells #[.int .i64 0, .int .i64 (p : Nat), .slice a4 l4 c4] 25)).heap.size (w4.alloc (.cells #[.int .i64 0, .int .i64 (p : Nat), .slice a4 l4 c4] 25)) w') := by
    refine (CVG.out.covers p r (i64_nat (by omega)) (i64_nat (by omega)) _ (CT.out _ B4.out)).mono ?_
    rintro e w' ⟨⟨vv, rfl, ho⟩, hb⟩
    have hE : covE p r = 0 := by unfold covE; rw [if_pos ⟨by omega, by omega, by omega⟩]
    rw [covI_nat hpr (by omega)] at ho
    have hA := own_readsA ho
    obtain ⟨aa, ac, rfl⟩ := own_formS ho
    rw [HLC.out] at hA ⊢
    rw [hE]
    exact ⟨⟨aa, ac, rfl, hA⟩, hb⟩
  go_wp2_with fail
  refine CVC.out.mono ?_
  rintro e w5 ⟨⟨av, cv, rfl, hA⟩, hb⟩
  have B5 : Hid (Below _ _ w5) := over B4.out hb
  have G4b : Hid (Bk w5 wd f w4.heap.size 0 p (.slice a4 l4 c4)) := G4.out.on hb
  have G5b : Hid (Bk w5 wd f g3 p r (.slice a3 l3 c3)) := G5.out.on hb
  have HA5 : Hid (ReadsA w5 (.slice av lc cv) (cov p r)) := hA
  clear hb hA CVC G4 G5
  go_wp2_with fail
  refine (LIV.out _ (CT.out _ B5.out)).mono ?_
  rintro e w6 ⟨rfl, hb⟩
  have B6 : Hid (Below _ _ w6) := over B5.out hb
  have G4 : Hid (Bk w6 wd f w4.heap.size 0 p (.slice a4 l4 c4)) := G4b.out.on hb
  have G5 : Hid (Bk w6 wd f g3 p r (.slice a3 l3 c3)) := G5b.out.on hb
  have HA6 : Hid (ReadsA w6 (.slice av lc cv) (cov p r)) := HA5.out.later hb
  clear hb G4b G5b HA5
  obtain rfl : l3 = lc := by obtain ⟨_, _, e, _, _⟩ := G5.out.rd; injection e with _ e2 _; rw [e2, hlen]
  have l122 : l3 ≤ 122 := by rw [← HLC.out]; exact cov_len _ _ hpr (by rw [p62]; omega)
  obtain ⟨d1, d2, d3⟩ := G5.out.fx.fb
  have hq3 : ((l3 : Int) == (l3 : Int)) = true := beq_self_eq_true _
  go_wp2
  go_loopw [20] (fun i wr => ∃ k : Nat, k ≤ l3 ∧ i = .int .i64 k ∧ Hid (Hb w6 wr)) (fun i _ => (l3 - intOf i).toNat)
  case atStart => exact ⟨0, by omega, rfl, Below.refl _ _⟩
  case round =>
    obtain ⟨k, hk, rfl, HH⟩ := hrel
    by_cases hlt : k < l3
    · have hlt' : (k : Int) < l3 := by omega
      have hkc : k < (cov p r).length := by rw [HLC.out]; exact hlt
      obtain ⟨lv, ix, HC⟩ : ∃ lv ix : Nat, Hid ((cov p r)[k]? = some (lv, ix)) := ⟨((cov p r)[k]'hkc).1, ((cov p r)[k]'hkc).2, List.getElem?_eq_getElem hkc⟩
      obtain ⟨bc, rfl, q1, q2⟩ := row_at (HA6.out.later HH.out) HC.out
      have hin := cov_in p r (lv, ix) (List.mem_of_getElem? HC.out)
      obtain ⟨X, HX⟩ : ∃ X, Hid (HL wd f lv ix = X) := ⟨_, rfl⟩
      obtain ⟨bh, oh, rfl, hch⟩ : ∃ b off, a3 = some ⟨b, off, none⟩ ∧ ∀ w', Hb w6 w' → w'.cell? ⟨b, off + k, none⟩ = some (.string X) := by
        obtain ⟨a', cap', e, _, h0 | ⟨b, off, e4, hh⟩⟩ := G5.out.rd
        · rw [hlen] at h0; omega
        · injection e with e1 _ _
          refine ⟨b, off, by rw [e1]; exact e4, fun w' h => h.cell ?_⟩
          rw [hh k (by rw [hlen]; exact hlt), List.getD_eq_getElem?_getD]
          unfold covH
          rw [List.getElem?_map, HC.out]
          show some (Value.string (HL wd f lv ix)) = _
          rw [HX.out]
      have CN : Hid (Calls _ _ _ _ _) := NDG.out lv ix hin.2.2 (by have := hin.2.1; simp at this; omega) wr (CT.out _ (over B6.out HH.out)) (LR.out _ (over B6.out HH.out))
      rw [HX.out] at CN
      have HCH : Hid (∀ w', Hb w6 w' → w'.cell? ⟨bh, oh + k, none⟩ = some (.string X)) := hch
      have hqx : (X.toList == X.toList) = true := beq_self_eq_true _
      clear hch hin
      go_wp2_with fail
      refine CN.out.mono ?_
      rintro e w7 ⟨rfl, hb⟩
      have H7 : Hid (Hb w6 w7) := HH.out.on hb
      have x1 := HCH.out _ H7.out
      obtain ⟨y1, y2, y3⟩ := (G5.out.on H7.out).fx.fb
      clear hb
      go_wp2
      go_roundw
      case rel => exact ⟨k + 1, by omega, by go_num, H7.out⟩
      case measure => simp [intOf]; omega
    · have hlt' : ¬ (k : Int) < l3 := by omega
      have B7 : Hid (Below w1.heap.size w1 wr) := over B6.out HH.out
      have G4c : Hid (Bk wr wd f w4.heap.size 0 p (.slice a4 l4 c4)) := G4.out.on HH.out
      have G5c : Hid (Bk wr wd f g3 p r (.slice a3 l3 c3)) := G5.out.on HH.out
      obtain ⟨x1, x2, x3⟩ := G4c.out.fx.fb
      obtain ⟨y1, y2, y3⟩ := G5c.out.fx.fb
      have CM : Hid (Calls _ _ _ _ _) := MB.out 0 p r (.slice a4 l4 c4) (.slice a3 l3 c3) wr (by omega) hpr (by omega) (CT.out _ B7.out) G4c.out.rd G5c.out.rd
      clear d1 d2 d3
      go_wp2_with fail
      refine CM.out.mono ?_
      rintro e w8 ⟨⟨a8, l8, c8, b8, m8, d8, rfl, r8⟩, hb⟩
      rw [Int.natCast_zero]
      have B8 : Hid (Below w1.heap.size w1 (w8.alloc (.cells #[.int .i64 0, .int .i64 (r : Nat), .slice a8 l8 c8] 25))) := (over B7.out hb).alloc (over B7.out hb).size _
      have G8 : Hid (Bk (w8.alloc (.cells #[.int .i64 0, .int .i64 (r : Nat), .slice a8 l8 c8] 25)) wd f w8.heap.size 0 r (.slice a8 l8 c8)) := bk_new r8
      have hgd : GoodF wd (0 : Nat) r (covH wd f 0 r) := covH_good HS.out (by omega) (by omega)
      have CR : Hid (Calls _ _ _ _ _) := RCG.out wd (0 : Nat) r (.slice a8 l8 c8) _ _ hwd (i64_nat (by omega)) (i64_nat (by omega)) (CT.out _ B8.out) G8.out.rd (fits_good hgd)
      have hRE : rootE wd (0 : Nat) r (covH wd f 0 r) = 0 := by unfold rootE; rw [if_pos (chk_ok.2 hgd), if_pos (by omega)]
      rw [hRE, FR.out r hr, show pick (0 : Int) (RT wd (xs.take r)) ByteArray.empty = RT wd (xs.take r) by unfold pick; rw [if_pos rfl]] at CR
      obtain ⟨R, HR9⟩ : ∃ R, Hid (RT wd (xs.take r) = R) := ⟨_, rfl⟩
      rw [HR9.out] at CR
      have CQ : Hid (∀ w', Below w1.heap.size w1 w' → Calls _ _ _ _ _) := fun w' h => ROG.out wd (.slice a r cap) (xs.take r) w' hwd (CT.out _ h) (reads_head (LR.out _ h) (by rw [HN.out]; exact hr)) (HFI.out.take r)
      rw [HR9.out] at CQ
      have hqr : (R.toList == R.toList) = true := beq_self_eq_true _
      clear hb r8 x1 x2 x3 y1 y2 y3 CM hRE hgd
      go_wp2_with fail
      refine CR.out.mono ?_
      rintro e w9 ⟨rfl, hb⟩
      have B9 : Hid (Below w1.heap.size w1 w9) := over B8.out hb
      clear hb CR
      go_wp2_with fail
      refine (CQ.out _ B9.out).mono ?_
      rintro e w10 ⟨rfl, hb⟩
      have B10 : Hid (Below w1.heap.size w1 w10) := over B9.out hb
      clear hb
      go_wp2
      go_ret
      exact ⟨rfl, over BL.out B10.out⟩
end Go.Proofs.YtnnpidjpklfogaaDoor.qi

namespace Go.Proofs.YtnnpidjpklfogaaDoor.wv
open Go.RowKit Go.PlainAid
open Go.Proofs.YtnnpidjpklfogaaDoor.pl Go.Proofs.YtnnpidjpklfogaaDoor.ft Go.Proofs.YtnnpidjpklfogaaDoor.pj Go.Proofs.YtnnpidjpklfogaaDoor.rf Go.Proofs.YtnnpidjpklfogaaDoor.cp Go.Proofs.YtnnpidjpklfogaaDoor.cv Go.Proofs.YtnnpidjpklfogaaDoor.cs Go.Proofs.YtnnpidjpklfogaaDoor.ct Go.Proofs.YtnnpidjpklfogaaDoor.ka Go.Proofs.YtnnpidjpklfogaaDoor.gb Go.Proofs.YtnnpidjpklfogaaDoor.gr Go.Proofs.YtnnpidjpklfogaaDoor.gn Go.Proofs.YtnnpidjpklfogaaDoor.ob Go.Proofs.YtnnpidjpklfogaaDoor.qe Go.Proofs.YtnnpidjpklfogaaDoor.qh Go.Proofs.YtnnpidjpklfogaaDoor.qi Go.Proofs.YtnnpidjpklfogaaDoor.xc Go.Proofs.YtnnpidjpklfogaaDoor.tb Go.Proofs.YtnnpidjpklfogaaDoor.fh
set_option linter.unusedVariables false

theorem mem_sum {xs : List ByteArray} {x : ByteArray} (h : x ∈ xs) : x.size ≤ (xs.map ByteArray.size).sum := by
  induction xs with
  | nil => cases h
  | cons y ys ih =>
    rw [List.map_cons, List.sum_cons]
    rcases List.mem_cons.1 h with rfl | h
    · omega
    · have := ih h; omega
theorem fits_sum {xs : List ByteArray} (hs : (xs.map ByteArray.size).sum + xs.length ≤ 1048576) : Fits xs := ⟨fun x h => by have := mem_sum h; omega, by omega⟩
-- sha's two tables, bits' one, and nums' one
structure TBO (w : World) : Prop where
  b : TB w
  o : TabO w
theorem tabO_later {w w' : World} (h : TabO w) (hb : Below w.heap.size w w') : TabO w' := fun j hj => by
  have := h j hj
  exact (hb.cell (p := ⟨0, j, none⟩) (World.block_lt_of_cell? _ _ this)).trans this
theorem TBO.down {w w' : World} (h : TBO w) (b : Below w.heap.size w w') : TBO w' := ⟨h.b.down b, tabO_later h.o b⟩
theorem work_walk (SC : StartC TBO) (PC : PushC TBO) (MC : MergeC TBO) (OC : OnesC TBO) (W : World) (a0 : Int) (w0 : (Lit.int .i64 a0).wf = true) (v : Value) (xs : List ByteArray) (hr : ReadsT W v xs) (hno : ∀ k c, v = .slice none k c → c = 0) (a2 : Int) (w2 : (Lit.int .i64 a2).wf = true) (hs : (xs.map ByteArray.size).sum + xs.length ≤ 1048576) (tabs : TabB W ∧ St8 W 2 ∧ K64 W 4 ∧ TabO W) :
    Calls Tryd.prog 3 #[.int .i64 a0, v, .int .i64 a2] W fun e w' => e = .returned (.bool true) ∧ Below W.heap.size W w' :=
  comp_work (T := TBO) TBO.down (fun h => h.b.t) (fun h => h.b.d) SC PC MC OC a0 (i64_of w0) v xs a2 (i64_of w2) W ⟨TB.of ⟨tabs.1, tabs.2.1, tabs.2.2.1⟩, tabs.2.2.2⟩ hr (fits_sum hs) (by omega)
theorem parts_walk (SC : StartC TB) (PC : PushC TB) (MC : MergeC TB) (CC : CheckC TB) (CV : CoverC TB) (W : World) (a0 : Int) (w0 : (Lit.int .i64 a0).wf = true) (v : Value) (xs : List ByteArray) (hr : ReadsT W v xs) (hno : ∀ k c, v = .slice none k c → c = 0) (a2 : Int) (w2 : (Lit.int .i64 a2).wf = true) (a3 : Int) (w3 : (Lit.int .i64 a3).wf = true) (a4 : Int) (w4 : (Lit.int .i64 a4).wf = true) (hs : (xs.map ByteArray.size).sum + xs.length ≤ 1048576) (tabs : TabB W ∧ St8 W 2 ∧ K64 W 4) :
    Calls Tryd.prog 4 #[.int .i64 a0, v, .int .i64 a2, .int .i64 a3, .int .i64 a4] W fun e w' => e = .returned (.bool true) ∧ Below W.heap.size W w' :=
  comp_parts (T := TB) TB.down (fun h => h.t) (fun h => h.d) SC PC MC CC CV a0 (i64_of w0) v xs a2 a3 a4 (i64_of w2) (i64_of w3) (i64_of w4) W (TB.of tabs) hr (fits_sum hs) (by omega)
theorem cover_walk (SC : StartC TB) (PC : PushC TB) (MC : MergeC TB) (RC : RootC7 TB) (CV : CoverC TB) (RO : RootC TB) (ND : NodeC TB) (W : World) (a0 : Int) (w0 : (Lit.int .i64 a0).wf = true) (v : Value) (xs : List ByteArray) (hr : ReadsT W v xs) (hno : ∀ k c, v = .slice none k c → c = 0) (a2 : Int) (w2 : (Lit.int .i64 a2).wf = true) (a3 : Int) (w3 : (Lit.int .i64 a3).wf = true) (hs : (xs.map ByteArray.size).sum + xs.length ≤ 1048576) (tabs : TabB W ∧ St8 W 2 ∧ K64 W 4) :
    Calls Tryd.prog 6 #[.int .i64 a0, v, .int .i64 a2, .int .i64 a3] W fun e w' => e = .returned (.bool true) ∧ Below W.heap.size W w' :=
  comp_cover (T := TB) TB.down (fun h => h.t) (fun h => h.d) SC PC MC RC CV RO ND a0 (i64_of w0) v xs a2 a3 (i64_of w2) (i64_of w3) W (TB.of tabs) hr (fits_sum hs) (by omega)
end Go.Proofs.YtnnpidjpklfogaaDoor.wv
