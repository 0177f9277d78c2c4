import Derived.Test.YthdkbjbhjfiaiaaGreatDoorL2
import Derived.Test.YthdkbjbhjfiaiaaGreatDoorM2
import Derived.Test.YthdkbjbhjfiaiaaGreatDoorH1
import Derived.Laws.OwnMore
import Derived.Maps.AppendAt
import Derived.Test.YthdkbjbhjfiaiaaGreatDoorM3
namespace Go.Proofs.YthdkbjbhjfiaiaaGreatDoor.vf
open Go.RowKit Go.PlainAid Go.Shelf
open Go.Proofs.YthdkbjbhjfiaiaaGreatDoor.cp Go.Proofs.YthdkbjbhjfiaiaaGreatDoor.pj Go.Proofs.YthdkbjbhjfiaiaaGreatDoor.rf Go.Proofs.YthdkbjbhjfiaiaaGreatDoor.mo Go.Proofs.YthdkbjbhjfiaiaaGreatDoor.nd Go.Proofs.YthdkbjbhjfiaiaaGreatDoor.nh Go.Proofs.YthdkbjbhjfiaiaaGreatDoor.tb Go.Proofs.YthdkbjbhjfiaiaaGreatDoor.tc Go.Proofs.YthdkbjbhjfiaiaaGreatDoor.tj Go.Proofs.YthdkbjbhjfiaiaaGreatDoor.n3 Go.Proofs.YthdkbjbhjfiaiaaGreatDoor.n4 Go.Proofs.YthdkbjbhjfiaiaaGreatDoor.o1 Go.Proofs.YthdkbjbhjfiaiaaGreatDoor.o3 Go.Proofs.YthdkbjbhjfiaiaaGreatDoor.o4 Go.Proofs.YthdkbjbhjfiaiaaGreatDoor.o5 Go.Proofs.YthdkbjbhjfiaiaaGreatDoor.o6 Go.Proofs.YthdkbjbhjfiaiaaGreatDoor.kp Go.Proofs.YthdkbjbhjfiaiaaGreatDoor.q2 Go.Proofs.YthdkbjbhjfiaiaaGreatDoor.q5 Go.Proofs.YthdkbjbhjfiaiaaGreatDoor.r1 Go.Proofs.YthdkbjbhjfiaiaaGreatDoor.s1 Go.Proofs.YthdkbjbhjfiaiaaGreatDoor.t5 Go.Proofs.YthdkbjbhjfiaiaaGreatDoor.v2 Go.Proofs.YthdkbjbhjfiaiaaGreatDoor.v3 Go.Proofs.YthdkbjbhjfiaiaaGreatDoor.v4 Go.Proofs.YthdkbjbhjfiaiaaGreatDoor.v5
set_option linter.unusedVariables false
set_option maxRecDepth 4000

-- what is in memory behind an Open: both lists are rows of its own
def OpF (B0 : Nat) (w' : World) (r : Opn) (e : Ending) : Prop := ∃ ga gc ra rc, e = .returned (.tuple #[.agg #[.string r.1.1, .slice ga r.1.2.1.length gc, .slice ra r.1.2.2.length rc], .int .i64 r.2]) ∧ Lg B0 (.slice ga r.1.2.1.length gc) r.1.2.1 w' ∧ Lg B0 (.slice ra r.1.2.2.length rc) r.1.2.2 w' ∧ ∀ b, (Value.slice ga r.1.2.1.length gc).ownBlock = some b → (Value.slice ra r.1.2.2.length rc).ownBlock ≠ some b
theorem opf_no (B0 : Nat) (w' : World) (E : Int) : OpF B0 w' (noO E) (.returned (.tuple #[.agg #[.string ⟨#[]⟩, .slice none 0 0, .slice none 0 0], .int .i64 E])) := ⟨none, 0, none, 0, rfl, Lg.nil _ _, Lg.nil _ _, fun b e => by cases e⟩
set_option maxHeartbeats 3200000 in
theorem openF_no (note : ByteArray) (kv : Value) (ks : List Ky) (E : Int) (hE : E ≠ 0) (w : World) (hk : ReadsY w kv ks)
    (CR : ∀ X, Calls Tryz.prog 19 #[.string note] X fun e W' => e = .returned (.tuple #[.string ByteArray.empty, .slice none 0 0, .int .i64 E]) ∧ Below X.heap.size X W') :
    Calls Tryz.prog 6 #[.string note, kv] w fun e w' => OpF w.heap.size w' (noO E) e ∧ Below w.heap.size w w' := by
  obtain ⟨ka, kcp, rfl, _⟩ := id hk
  have C1 : Hid (∀ X, Calls _ _ _ _ _) := CR
  clear CR hk
  obtain ⟨W, HW⟩ : ∃ W, Hid (w.alloc (.cells #[.string ⟨#[]⟩, .slice none 0 0, .slice none 0 0] 25) = W) := ⟨_, rfl⟩
  have BW : Hid (Below w.heap.size w W) := by rw [← HW.out]; exact (Below.refl _ _).alloc (Nat.le_refl _) _
  have zW : W.heap.size = w.heap.size + 1 := by rw [← HW.out]; simp
  have HBK : Hid (W.heap[w.heap.size]? = some (.cells #[.string ⟨#[]⟩, .slice none 0 0, .slice none 0 0] 25 (0, 0))) := by rw [← HW.out]; exact heap_alloc_new w _
  have gE : (E == 0) = false := beq_eq_false_iff_ne.2 hE
  clear hE
  go_enter Tryz.func6, Tryz.ntmps6
  go_wp2_with fail
  rw [HW.out]
  go_wp2_with fail
  refine (C1.out _).mono ?_
  rintro e w1 ⟨rfl, hb1⟩
  have hbk : w1.heap[w.heap.size]? = some (.cells #[.string ⟨#[]⟩, .slice none 0 0, .slice none 0 0] 25 (0, 0)) := (hb1.block w.heap.size (by omega)).trans HBK.out
  have B1 : Hid (Below w.heap.size w w1) := BW.out.trans (hb1.mono BW.out.size)
  clear hb1
  have FIN : Hid (∀ W', W' = _ → _) := put_out w1 w.heap.size _ _ _ (.string ⟨#[]⟩) (.slice none 0 0) (.slice none 0 0) _ hbk
  have c0 := cell_of_row _ _ 0 _ _ _ hbk
  have c1 := cell_of_row _ _ 1 _ _ _ hbk
  have c2 := cell_of_row _ _ 2 _ _ _ hbk
  have f0 := frozen_of_row _ _ 0 _ _ hbk
  have f1 := frozen_of_row _ _ 1 _ _ hbk
  have f2 := frozen_of_row _ _ 2 _ _ hbk
  go_wp2
  first
  | (obtain ⟨⟨d0, d1, d2⟩, hbl, _⟩ := FIN.out _ rfl
     exact bodyPost_ret (v := .tuple #[.agg #[.string ⟨#[]⟩, .slice none 0 0, .slice none 0 0], .int .i64 E]) (by simp [results, Tryz.results6, go_sem, d0, d1, d2]) rfl ⟨opf_no _ _ E, B1.out.trans (hbl _ (Nat.le_refl _))⟩)
  | exact bodyPost_ret (v := .tuple #[.agg #[.string ⟨#[]⟩, .slice none 0 0, .slice none 0 0], .int .i64 E]) (by simp [results, Tryz.results6, go_sem, c0, c1, c2]) rfl ⟨opf_no _ _ E, B1.out⟩
set_option maxHeartbeats 12800000 in
theorem openF_ok (note body : ByteArray) (kv : Value) (ks : List Ky) (gs : List Sg) (R : Opn) (h1 : 1 ≤ gs.length) (h16 : gs.length ≤ 16) (hp : Pw gs) (zb : body.size ≤ 65536) (hz : ks.length ≤ 4398046511104) (hs : ∀ k ∈ ks, k.1.size ≤ 140737488351232 ∧ k.2.size ≤ 140737488351232) (hfin : ∀ g ∈ gs, g.mac.size ≤ 1000)
    (hR : R = match opF ks body gs ([], []) with | none => noO 201 | some (go, re) => if go.length = 0 then noO 202 else ((body, go, re), 0))
    (w : World) (T : Hid (Tab w)) (hk : ReadsY w kv ks)
    (CR : ∀ X, Calls Tryz.prog 19 #[.string note] X fun e W' => ∃ a c, e = .returned (.tuple #[.string body, .slice a gs.length c, .int .i64 0]) ∧ ReadsG W' (.slice a gs.length c) gs ∧ Below X.heap.size X W') :
    Calls Tryz.prog 6 #[.string note, kv] w fun e w' => OpF w.heap.size w' R e ∧ Below w.heap.size w w' := by
  obtain ⟨ka, kcp, rfl, _⟩ := id hk
  obtain ⟨n, HN⟩ : ∃ n, Hid (gs.length = n) := ⟨_, rfl⟩
  obtain ⟨m, HM⟩ : ∃ m, Hid (ks.length = m) := ⟨_, rfl⟩
  have C1 : Hid (∀ X, Calls Tryz.prog 19 #[.string note] X fun e W' => ∃ a c, e = .returned (.tuple #[.string body, .slice a n c, .int .i64 0]) ∧ ReadsG W' (.slice a n c) gs ∧ Below X.heap.size X W') := by rw [← HN.out]; exact CR
  have HY : Hid (ReadsY w (.slice ka m kcp) ks) := by rw [← HM.out]; exact hk
  have CS : Hid (∀ X sv, Tab X → ReadsG X sv gs → ReadsY X (.slice ka m kcp) ks → Calls Tryz.prog 20 #[sv, .slice ka m kcp] X fun e w' => ∃ g, e = .returned (.slice (some ⟨g, 0, none⟩) n n) ∧ X.heap.size ≤ g ∧ w'.heap[g]? = some (.cells (rw3 (rowI gs ks)) 3 (0, 0)) ∧ Below X.heap.size X w') := by
    intro X sv TX hX hY
    rw [← HN.out]
    exact signersC gs ks sv (.slice ka m kcp) X hX hY h1 h16 hz hs hp TX
  have HS : Hid _ := hs
  have HMZ : Hid _ := hfin
  obtain ⟨OF, HOF⟩ : ∃ OF, Hid (opF ks body gs ([], []) = OF) := ⟨_, rfl⟩
  rw [HOF.out] at hR
  have HRR : Hid _ := hR
  rw [HN.out] at h1 h16
  rw [HM.out] at hz ⊢
  clear CR hk hs hfin hR hp
  obtain ⟨i0, hi0, hi1, hi2, hi3⟩ := info_parts infoG
  have HI : Hid (Tryz.prog.info? 43 = some i0 ∧ i0.zero = some (.agg #[.string ⟨#[]⟩, .string ⟨#[]⟩, .string ⟨#[]⟩]) ∧ i0.size = 3 ∧ i0.bytes = 48) := ⟨hi0, hi1, hi2, hi3⟩
  clear hi0 hi1 hi2 hi3
  obtain ⟨W, HW⟩ : ∃ W, Hid (w.alloc (.cells #[.string ⟨#[]⟩, .slice none 0 0, .slice none 0 0] 25) = W) := ⟨_, rfl⟩
  have BW : Hid (Below w.heap.size w W) := by rw [← HW.out]; exact (Below.refl _ _).alloc (Nat.le_refl _) _
  have zW : W.heap.size = w.heap.size + 1 := by rw [← HW.out]; simp
  have HBK : Hid (W.heap[w.heap.size]? = some (.cells #[.string ⟨#[]⟩, .slice none 0 0, .slice none 0 0] 25 (0, 0))) := by rw [← HW.out]; exact heap_alloc_new w _
  go_enter Tryz.func6, Tryz.ntmps6
  go_wp2_with fail
  rw [HW.out]
  go_wp2_with fail
  refine (C1.out _).mono ?_
  rintro e w1 ⟨sa, sc, rfl, hrd, hb1⟩
  have B1 : Hid (Below W.heap.size W w1) := hb1
  have HRD : Hid (ReadsG w1 (.slice sa n sc) gs) := hrd
  clear hb1 hrd C1
  obtain ⟨U, HU⟩ : ∃ U, Hid (w1.alloc (.cells #[.string body, .slice none 0 0, .slice none 0 0] 25) = U) := ⟨_, rfl⟩
  have BU : Hid (Below w1.heap.size w1 U) := by rw [← HU.out]; exact (Below.refl _ _).alloc (Nat.le_refl _) _
  have zU : U.heap.size = w1.heap.size + 1 := by rw [← HU.out]; simp
  have HBU : Hid (U.heap[w1.heap.size]? = some (.cells #[.string body, .slice none 0 0, .slice none 0 0] 25 (0, 0))) := by rw [← HU.out]; exact heap_alloc_new w1 _
  have BWU : Hid (Below w.heap.size w U) := BW.out.trans ((B1.out.trans (BU.out.mono B1.out.size)).mono BW.out.size)
  have TU : Hid (Tab U) := T.out.down BWU.out
  go_wp2_with fail
  rw [HU.out]
  go_wp2_with fail
  refine (CS.out U _ TU.out (HRD.out.later BU.out) (HY.out.later BWU.out)).mono ?_
  rintro e w4 ⟨g, rfl, hg0, hrow, hb4⟩
  obtain ⟨B, HB⟩ : ∃ B, Hid (w4.heap.size = B) := ⟨_, rfl⟩
  obtain ⟨ob, HOB⟩ : ∃ ob, Hid (w1.heap.size = ob) := ⟨_, rfl⟩
  have z1 : w.heap.size < ob := by rw [← HOB.out]; have := B1.out.size; omega
  have z2 : ob < g := by rw [← HOB.out]; omega
  have z3 : ob < B := by rw [← HOB.out, ← HB.out]; have := hb4.size; omega
  have z4 : g < B := by rw [← HB.out]; exact (Array.getElem?_eq_some_iff.1 hrow).1
  have B4w : Hid (Below w.heap.size w w4) := BWU.out.trans (hb4.mono BWU.out.size)
  have HTW : Hid (Two B ob body [] [] (.slice none 0 0) (.slice none 0 0) w4) := by
    refine ⟨?_, z3, Lg.nil _ _, Lg.nil _ _, fun b e => by cases e⟩
    rw [← HOB.out]
    exact (hb4.block w1.heap.size (by omega)).trans HBU.out
  have HROW : Hid (w4.heap[g]? = some (.cells (rw3 (rowI gs ks)) 3 (0, 0))) := hrow
  have HRES : Hid (w4.heap[w.heap.size]? = some (.cells #[.string ⟨#[]⟩, .slice none 0 0, .slice none 0 0] 25 (0, 0))) := by
    show _ = _
    rw [hb4.block w.heap.size (by rw [zU, HOB.out]; omega), BU.out.block w.heap.size (by rw [HOB.out]; omega), B1.out.block w.heap.size (by omega)]
    exact HBK.out
  have HSG : Hid (∀ X, Fr B ob w4 X → n = 0 ∨ ∃ sb so, sa = some ⟨sb, so, none⟩ ∧ ∀ i x, gs[i]? = some x → X.cell? ⟨sb, so + i * 3, none⟩ = some (.string x.name) ∧ X.cell? ⟨sb, so + i * 3 + 1, none⟩ = some (.string x.id) ∧ X.cell? ⟨sb, so + i * 3 + 2, none⟩ = some (.string x.mac)) := by
    intro X hX
    obtain ⟨a', c', e', h0 | ⟨sb, so, rfl, hbb, hc⟩⟩ := HRD.out
    · exact .inl (by rw [← HN.out]; exact h0)
    · injection e' with e1 _ _
      refine .inr ⟨sb, so, e1, fun i x hi => ?_⟩
      rw [HOB.out] at hbb
      have hs : X.heap[sb]? = w1.heap[sb]? := by
        rw [hX sb (by omega) (by omega), hb4.block sb (by rw [zU, HOB.out]; omega), BU.out.block sb (by rw [HOB.out]; exact hbb)]
      obtain ⟨q1, q2, q3⟩ := hc i x hi
      have k : ∀ off v, w1.cell? ⟨sb, off, none⟩ = some v → X.cell? ⟨sb, off, none⟩ = some v := fun off v h => (World.cell?_of_block (a := ⟨sb, off, none⟩) hs).trans h
      exact ⟨k _ _ q1, k _ _ q2, k _ _ q3⟩
  have HKY : Hid (∀ X, Fr B ob w4 X → ∀ i y, ks[i]? = some y → ∃ kb ko, ka = some ⟨kb, ko, none⟩ ∧ X.cell? ⟨kb, ko + i * 2, none⟩ = some (.string y.1) ∧ X.cell? ⟨kb, ko + i * 2 + 1, none⟩ = some (.string y.2)) := by
    intro X hX i y hi
    have hh : ReadsY w4 (.slice ka ks.length kcp) ks := by rw [HM.out]; exact HY.out.later B4w.out
    have hh0 : ReadsY w (.slice ka ks.length kcp) ks := by rw [HM.out]; exact HY.out
    obtain ⟨kb0, ko0, e0, hb0, _, _⟩ := hh0.at i y hi
    obtain ⟨kb, ko, e1, hb, q1, q2⟩ := hh.at i y hi
    rw [e0] at e1
    injection e1 with e1
    injection e1 with e1 e2
    subst e1 e2
    have hs : X.heap[kb0]? = w4.heap[kb0]? := hX kb0 (by omega) (by omega)
    exact ⟨kb0, ko0, e0, (World.cell?_of_block (a := ⟨kb0, ko0 + i * 2, none⟩) hs).trans q1, (World.cell?_of_block (a := ⟨kb0, ko0 + i * 2 + 1, none⟩) hs).trans q2⟩
  have HSI : Hid (∀ X, Fr B ob w4 X → ∀ i (h : i < gs.length), X.cell? ⟨g, i, none⟩ = some (.int .i64 (ownF (gs[i]'h) ks 0))) := by
    intro X hX i h
    have hs : X.heap[g]? = some (.cells (rw3 (rowI gs ks)) 3 (0, 0)) := (hX g z4 (by omega)).trans HROW.out
    rw [cell_of_row _ _ i _ _ _ hs, rw3_get]
    unfold rowI
    rw [List.getElem?_map, List.getElem?_eq_getElem h]
    rfl
  have HRX : Hid (∀ X, Fr B ob w4 X → X.heap[w.heap.size]? = some (.cells #[.string ⟨#[]⟩, .slice none 0 0, .slice none 0 0] 25 (0, 0))) := fun X hX => (hX w.heap.size (by omega) (by omega)).trans HRES.out
  have TX : Hid (∀ X, Below w.heap.size w X → Tab X) := fun X h => T.out.down h
  clear hrow hb4 hg0 HRES HROW HBU HBK HRD HY CS TU
  rw [HOB.out]
  go_wp2
  go_loopw [30] (fun i wr => ∃ k : Nat, k ≤ n ∧ i = .int .i64 k ∧ Hid (∃ gv rv go re, Two B ob body go re gv rv wr ∧ Fr B ob w4 wr ∧ Below w.heap.size w wr ∧ B ≤ wr.heap.size ∧ go.length ≤ k ∧ re.length ≤ k ∧ opF ks body (gs.drop k) (go, re) = OF)) (fun i _ => (n - intOf i).toNat)
  case atStart => exact ⟨0, by omega, rfl, _, _, [], [], HTW.out, Fr.refl _ _ _, B4w.out, Nat.le_of_eq HB.out.symm, by simp, by simp, HOF.out⟩
  case round =>
    obtain ⟨k, hk, rfl, HK⟩ := hrel
    obtain ⟨gv, rv, go, re, tw, fr, bw, hBw, lg, lr, ho⟩ := HK.out
    obtain ⟨ga, gc, hgv⟩ := tw.g.form
    obtain ⟨ra, rc, hrv⟩ := tw.r.form
    subst hgv hrv
    have HT : Hid (Two B ob body go re (.slice ga go.length gc) (.slice ra re.length rc) wr) := tw
    have HFR : Hid (Fr B ob w4 wr) := fr
    have HBW : Hid (Below w.heap.size w wr) := bw
    have HO : Hid (opF ks body (gs.drop k) (go, re) = OF) := ho
    obtain ⟨ng, HNG⟩ : ∃ ng, Hid (go.length = ng) := ⟨_, rfl⟩
    obtain ⟨nr, HNR⟩ : ∃ nr, Hid (re.length = nr) := ⟨_, rfl⟩
    have HT2 : Hid (Two B ob body go re (.slice ga ng gc) (.slice ra nr rc) wr) := by rw [← HNG.out, ← HNR.out]; exact HT.out
    have lg2 : ng ≤ k := by rw [← HNG.out]; exact lg
    have lr2 : nr ≤ k := by rw [← HNR.out]; exact lr
    clear HK tw fr bw ho HT lg lr
    by_cases hlt : k < n
    · have hlt' : (k : Int) < n := by omega
      have hkl : k < gs.length := by rw [HN.out]; exact hlt
      obtain ⟨x, HX⟩ : ∃ x, Hid (gs[k]'hkl = x) := ⟨_, rfl⟩
      have hst := HO.out
      rw [op_step ks body gs k hkl, HX.out] at hst
      have HST : Hid _ := hst
      have hsg : ∃ sb so, sa = some ⟨sb, so, none⟩ ∧ ∀ X, Fr B ob w4 X → X.cell? ⟨sb, so + k * 3, none⟩ = some (.string x.name) ∧ X.cell? ⟨sb, so + k * 3 + 1, none⟩ = some (.string x.id) ∧ X.cell? ⟨sb, so + k * 3 + 2, none⟩ = some (.string x.mac) := by
        rcases HSG.out wr HFR.out with h | ⟨sb, so, e, _⟩
        · omega
        · refine ⟨sb, so, e, fun X hX => ?_⟩
          rcases HSG.out X hX with h | ⟨sb', so', e', h'⟩
          · omega
          · rw [e] at e'
            injection e' with e'
            injection e' with e1 e2
            subst e1 e2
            exact h' k x (by rw [List.getElem?_eq_getElem hkl, HX.out])
      obtain ⟨sb, so, rfl, hsx⟩ := hsg
      obtain ⟨c1, c2, c3⟩ := hsx wr HFR.out
      have HSI2 : Hid (∀ X, Fr B ob w4 X → X.cell? ⟨g, k, none⟩ = some (.int .i64 (ownF x ks 0))) := fun X hX => by rw [← HX.out]; exact HSI.out X hX k hkl
      have hxm : x.mac.size ≤ 1000 := by rw [← HX.out]; exact HMZ.out _ (List.getElem_mem hkl)
      have hol := own_lt x ks 0
      have holw := own_low x ks 0
      rw [HM.out] at hol
      have HSEC : Hid (0 ≤ ownF x ks 0 → ∃ (i : Nat) (hi : i < ks.length), ownF x ks 0 = i ∧ sec ks x = (ks[i]'hi).2) := by
        intro h
        refine ⟨(ownF x ks 0).toNat, by rw [HM.out]; omega, by omega, ?_⟩
        unfold sec
        rw [List.getD_eq_getElem?_getD, List.getElem?_eq_getElem (by rw [HM.out]; omega)]
        rfl
      obtain ⟨ov, HOV⟩ : ∃ ov, Hid (ownF x ks 0 = ov) := ⟨_, rfl⟩
      rw [HOV.out] at HST HSI2 hol holw HSEC
      obtain ⟨sx, HSX⟩ : ∃ sx, Hid (sec ks x = sx) := ⟨_, rfl⟩
      rw [HSX.out] at HST HSEC
      clear hst HX HO HOV hsx HSX
      obtain ⟨xn, xi, xm⟩ := x
      simp only at c1 c2 c3 hxm HST
      obtain ⟨V, HV⟩ : ∃ V, Hid (wr.alloc (.cells #[.string xn, .string xi, .string xm] 43) = V) := ⟨_, rfl⟩
      have BV : Hid (Below wr.heap.size wr V) := by rw [← HV.out]; exact (Below.refl _ _).alloc (Nat.le_refl _) _
      have zV : wr.heap.size + 1 ≤ V.heap.size := by rw [← HV.out]; simp
      have HBX : Hid (∀ X, Below (wr.heap.size + 1) V X → X.cell? ⟨wr.heap.size, 0, none⟩ = some (.string xn) ∧ X.cell? ⟨wr.heap.size, 1, none⟩ = some (.string xi) ∧ X.cell? ⟨wr.heap.size, 2, none⟩ = some (.string xm)) := by rw [← HV.out]; exact fun X h => box3 wr X _ _ _ _ h
      have HFV : Hid (∀ X, Below (wr.heap.size + 1) V X → Fr B ob w4 X) := fun X h => HFR.out.later (BV.out.trans (h.mono (by omega))) hBw
      have HTV : Hid (∀ X, Below (wr.heap.size + 1) V X → Two B ob body go re (.slice ga ng gc) (.slice ra nr rc) X) := fun X h => HT2.out.later (BV.out.trans (h.mono (by omega)))
      have HWV : Hid (∀ X, Below (wr.heap.size + 1) V X → Below w.heap.size w X) := fun X h => HBW.out.trans ((BV.out.trans (h.mono (by omega))).mono HBW.out.size)
      have v0 := HSI2.out V (HFV.out V (Below.refl _ _))
      by_cases hov : ov < 0
      · have HN2 : Hid (opF ks body (gs.drop (k + 1)) (go, re ++ [⟨xn, xi, xm⟩]) = OF) := by have := HST.out; rw [if_pos hov] at this; exact this
        have tv := HTV.out V (Below.refl _ _)
        have b2 := cell_of_row _ _ 2 _ _ _ tv.blk
        have HTA : Hid (Two B ob body go re (.slice ga ng gc) (.slice ra nr rc) (V.alloc (.cells #[.string xn, .string xi, .string xm] 43))) := HTV.out _ ((Below.refl _ _).alloc (by omega) _)
        have HFA : Hid (Fr B ob w4 (V.alloc (.cells #[.string xn, .string xi, .string xm] 43))) := HFV.out _ ((Below.refl _ _).alloc (by omega) _)
        have HWA : Hid (Below w.heap.size w (V.alloc (.cells #[.string xn, .string xi, .string xm] 43))) := HWV.out _ ((Below.refl _ _).alloc (by omega) _)
        have HOA : Hid ((V.alloc (.cells #[.string xn, .string xi, .string xm] 43)).ownsRow B 43 3 (.slice ra nr rc) nr (gcs re)) := by have := HTA.out.r; unfold Lg at this; rw [HNR.out] at this; exact this
        have zA : B ≤ (V.alloc (.cells #[.string xn, .string xi, .string xm] 43)).heap.size := by simp; omega
        obtain ⟨p0, p1, p2⟩ := HBX.out V (Below.refl _ _)
        have fz := frozen_of_row _ _ 2 _ _ tv.blk
        clear tv HST
        go_upto_region 9 with fail
        rw [HV.out]
        go_wp2_with (at_builtin; refine wpList_append_own_at _ rfl (.tmp 41) (.tmp 43) 23 rfl B 43 i0 (.agg #[.string ⟨#[]⟩, .string ⟨#[]⟩, .string ⟨#[]⟩]) 3 48 Tryz.underlying23 HI.out.1 HI.out.2.1 HI.out.2.2.1 HI.out.2.2.2 rfl (by decide) (.slice ra nr rc) nr _ rfl HOA.out ⟨V.heap.size, 0, none⟩ 1 1 [.string xn, .string xi, .string xm] rfl rfl (new_three _ _ _ _ _) (one_three _ _ _) (by unfold maxLen; omega) (by omega) zA ?_; intro v6 w6 hown6 hgr6 hnn6 hat6; have HO6 : Hid (Lg B v6 (re ++ [⟨xn, xi, xm⟩]) w6) := (by unfold Lg; rw [List.length_append, HNR.out, gcs_app]; exact hown6); have HG6 : Hid (World.grownBy _ w6 (Value.slice ra nr rc).ownBlock) := hgr6; have HAT : Hid (_ ∨ _) := hat6; obtain ⟨va, vc, hv6⟩ := HO6.out.form; subst hv6; have cz := World.cell?_of_block (a := ⟨ob, 2, none⟩) (hgr6.block ob (Array.getElem?_eq_some_iff.1 HTA.out.blk).1 (fun e => by have := (own_in HOA.out e.symm).1; omega)); have cz2 := cz.trans (cell_of_row _ _ 2 _ _ _ HTA.out.blk); have fz2 := (World.frozen?_of_block (a := ⟨ob, 2, none⟩) (hgr6.block ob (Array.getElem?_eq_some_iff.1 HTA.out.blk).1 (fun e => by have := (own_in HOA.out e.symm).1; omega))).trans (frozen_of_row _ _ 2 _ _ HTA.out.blk); clear hown6 hgr6 hnn6 hat6 cz)
        go_roundw
        case rel =>
          refine ⟨k + 1, by omega, by go_num, _, _, go, re ++ [⟨xn, xi, xm⟩], HTA.out.addR (v := .slice va (re.length + 1) vc) (x := ⟨xn, xi, xm⟩) (by have h := HO6.out; rw [show (re ++ [(⟨xn, xi, xm⟩ : Sg)]).length = re.length + 1 by simp] at h; exact h) HG6.out (by have h := HAT.out; rw [show (re ++ [(⟨xn, xi, xm⟩ : Sg)]).length = re.length + 1 by simp] at h; exact h), HFA.out.grow zA HOA.out HG6.out, ?_, ?_, by rw [HNG.out]; omega, by rw [List.length_append, HNR.out]; simp; omega, HN2.out⟩
          · exact Below.setCell (p := ⟨ob, 2, none⟩) (Below.trans HWA.out ⟨HG6.out.os, HG6.out.tape, HG6.out.output, HG6.out.size, fun j hj => HG6.out.block j (Nat.lt_of_lt_of_le hj HWA.out.size) (fun e => by have := (own_in HOA.out e.symm).1; omega)⟩) (by show w.heap.size ≤ ob; omega) _
          · simp only [World.setCell, Array.size_modify]; exact Nat.le_trans zA HG6.out.size
        case measure => simp [intOf]; omega
      · have hov0 : 0 ≤ ov := by omega
        obtain ⟨i, hi, hoi, hsec⟩ := HSEC.out hov0
        have hky : ∃ kb ko kn, ka = some ⟨kb, ko, none⟩ ∧ ∀ X, Fr B ob w4 X → X.cell? ⟨kb, ko + i * 2, none⟩ = some (.string kn) ∧ X.cell? ⟨kb, ko + i * 2 + 1, none⟩ = some (.string sx) := by
          obtain ⟨kb, ko, e, _⟩ := HKY.out wr HFR.out i (ks[i]'hi) (List.getElem?_eq_getElem hi)
          refine ⟨kb, ko, (ks[i]'hi).1, e, fun X hX => ?_⟩
          obtain ⟨kb', ko', e', q1, q2⟩ := HKY.out X hX i (ks[i]'hi) (List.getElem?_eq_getElem hi)
          rw [e] at e'
          injection e' with e'
          injection e' with e1 e2
          subst e1 e2
          rw [hsec]
          exact ⟨q1, q2⟩
        have hzs : sx.size ≤ 140737488351232 := by rw [hsec]; exact (HS.out _ (List.getElem_mem hi)).2
        obtain ⟨kb, ko, kn, rfl, hky⟩ := hky
        have HKC : Hid (∀ X, Fr B ob w4 X → X.cell? ⟨kb, ko + i * 2 + 1, none⟩ = some (.string sx)) := fun X hX => (hky X hX).2
        have him : i < m := by rw [← HM.out]; exact hi
        have him' : (i : Int) < m := by omega
        subst hoi
        have CM : Hid (∀ X, Tab X → Calls _ _ _ _ _) := fun X tx => macSum sx body X (by omega) (by omega) tx
        have zmc : (macF sx body).size = 32 := macF_size _ _
        have CE : Hid (∀ X, Calls _ _ _ _ _) := fun X => Go.Proofs.YthdkbjbhjfiaiaaGreatDoor.ng.same xm (macF sx body) X (by omega) (by omega)
        have HST2 : Hid ((if xm = macF sx body then opF ks body (gs.drop (k + 1)) (go ++ [⟨xn, xi, xm⟩], re) else none) = OF) := by have := HST.out; rw [if_neg hov] at this; exact this
        obtain ⟨q, HQ⟩ : ∃ q, Hid (decide (xm = macF sx body) = q) := ⟨_, rfl⟩
        rw [HQ.out] at CE
        have HST3 : Hid ((if q = true then opF ks body (gs.drop (k + 1)) (go ++ [⟨xn, xi, xm⟩], re) else none) = OF) := by
          show _ = _
          rw [← HST2.out, ← HQ.out]
          by_cases e : xm = macF sx body <;> simp [e]
        generalize macF sx body = mc at *
        have B0 : Hid (Below (wr.heap.size + 1) V V.drew) := below_dr (Below.refl _ _)
        have SS : Hid (∀ X, Below (wr.heap.size + 1) V X → X.cell? ⟨wr.heap.size, 2, none⟩ = some (.string xm) ∧ X.cell? ⟨g, k, none⟩ = some (.int .i64 (i : Int)) ∧ X.cell? ⟨kb, ko + i * 2 + 1, none⟩ = some (.string sx)) := fun X h => ⟨(HBX.out X h).2.2, HSI2.out X (HFV.out X h), HKC.out X (HFV.out X h)⟩
        clear HST HST2 HSEC hsec hky hi HQ zmc hov hov0 hol holw
        cases q
        · have HF : Hid (OF = none) := by show _ = _; rw [← HST3.out]; rfl
          have HR : Hid (R = noO 201) := by have := HRR.out; rw [HF.out] at this; exact this
          clear HST3
          go_upto_region 9 with fail
          rw [HV.out]
          go_wp2_with fail
          go_region_held_law (fun X => X.cell? ⟨wr.heap.size, 2, none⟩ = some (.string xm) ∧ X.cell? ⟨g, k, none⟩ = some (.int .i64 (i : Int)) ∧ X.cell? ⟨kb, ko + i * 2 + 1, none⟩ = some (.string sx)) (first | exact SS.out _ B0.out | exact SS.out _ B5.out | exact SS.out _ B6.out) ((first | (go_at_call 22; refine (CM.out _ (TX.out _ (HWV.out _ B0.out))).mono ?_; rintro _ w5 ⟨rfl, k5⟩; have B5 : Hid (Below (wr.heap.size + 1) V w5) := (B0.out.trans (k5.mono (by have := B0.out.size; omega))); clear k5) | (go_at_call 21; refine (CE.out _).mono ?_; rintro _ w6 ⟨rfl, k6⟩; have B6 : Hid (Below (wr.heap.size + 1) V w6) := (B5.out.trans (k6.mono (by have := B5.out.size; omega))); have hbk := HRX.out _ (HFV.out _ B6.out); have c0 := cell_of_row _ _ 0 _ _ _ hbk; have c1 := cell_of_row _ _ 1 _ _ _ hbk; have c2 := cell_of_row _ _ 2 _ _ _ hbk; have f0 := frozen_of_row _ _ 0 _ _ hbk; have f1 := frozen_of_row _ _ 1 _ _ hbk; have f2 := frozen_of_row _ _ 2 _ _ hbk; clear k6)))
          all_goals (
            have FIN : Hid (∀ W', W' = _ → _) := put_out w6 w.heap.size _ _ _ (.string ⟨#[]⟩) (.slice none 0 0) (.slice none 0 0) _ hbk
            go_wp2
            first
            | (obtain ⟨⟨d0, d1, d2⟩, hbl, _⟩ := FIN.out _ rfl
               exact bodyPost_ret (v := .tuple #[.agg #[.string ⟨#[]⟩, .slice none 0 0, .slice none 0 0], .int .i64 201]) (by simp [results, Tryz.results6, go_sem, d0, d1, d2]) rfl ⟨by rw [HR.out]; exact opf_no _ _ 201, (HWV.out _ B6.out).trans (hbl _ (Nat.le_refl _))⟩)
            | exact bodyPost_ret (v := .tuple #[.agg #[.string ⟨#[]⟩, .slice none 0 0, .slice none 0 0], .int .i64 201]) (by simp [results, Tryz.results6, go_sem, c0, c1, c2]) rfl ⟨by rw [HR.out]; exact opf_no _ _ 201, HWV.out _ B6.out⟩)
        · have HN2 : Hid (opF ks body (gs.drop (k + 1)) (go ++ [⟨xn, xi, xm⟩], re) = OF) := HST3.out
          clear HST3
          go_upto_region 9 with fail
          rw [HV.out]
          go_wp2_with fail
          go_region_held_law (fun X => X.cell? ⟨wr.heap.size, 2, none⟩ = some (.string xm) ∧ X.cell? ⟨g, k, none⟩ = some (.int .i64 (i : Int)) ∧ X.cell? ⟨kb, ko + i * 2 + 1, none⟩ = some (.string sx)) (first | exact SS.out _ B0.out | exact SS.out _ B5.out | exact SS.out _ B6.out) ((first | (go_at_call 22; refine (CM.out _ (TX.out _ (HWV.out _ B0.out))).mono ?_; rintro _ w5 ⟨rfl, k5⟩; have B5 : Hid (Below (wr.heap.size + 1) V w5) := (B0.out.trans (k5.mono (by have := B0.out.size; omega))); clear k5) | (go_at_call 21; refine (CE.out _).mono ?_; rintro _ w6 ⟨rfl, k6⟩; have B6 : Hid (Below (wr.heap.size + 1) V w6) := (B5.out.trans (k6.mono (by have := B5.out.size; omega))); clear k6)))
          all_goals (
            have HTA : Hid (Two B ob body go re (.slice ga ng gc) (.slice ra nr rc) (w6.alloc (.cells #[.string xn, .string xi, .string xm] 43))) := HTV.out _ (B6.out.alloc (by have := B6.out.size; omega) _)
            have HFA : Hid (Fr B ob w4 (w6.alloc (.cells #[.string xn, .string xi, .string xm] 43))) := HFV.out _ (B6.out.alloc (by have := B6.out.size; omega) _)
            have HWA : Hid (Below w.heap.size w (w6.alloc (.cells #[.string xn, .string xi, .string xm] 43))) := HWV.out _ (B6.out.alloc (by have := B6.out.size; omega) _)
            have HOA : Hid ((w6.alloc (.cells #[.string xn, .string xi, .string xm] 43)).ownsRow B 43 3 (.slice ga ng gc) ng (gcs go)) := by have := HTA.out.g; unfold Lg at this; rw [HNG.out] at this; exact this
            have zA : B ≤ (w6.alloc (.cells #[.string xn, .string xi, .string xm] 43)).heap.size := by have := B6.out.size; simp; omega
            obtain ⟨p0, p1, p2⟩ := HBX.out _ B6.out
            have b1 := cell_of_row _ _ 1 _ _ _ (HTV.out _ B6.out).blk
            go_wp2_with (at_builtin; refine wpList_append_own_at _ rfl (.tmp 62) (.tmp 64) 23 rfl B 43 i0 (.agg #[.string ⟨#[]⟩, .string ⟨#[]⟩, .string ⟨#[]⟩]) 3 48 Tryz.underlying23 HI.out.1 HI.out.2.1 HI.out.2.2.1 HI.out.2.2.2 rfl (by decide) (.slice ga ng gc) ng _ rfl HOA.out ⟨w6.heap.size, 0, none⟩ 1 1 [.string xn, .string xi, .string xm] rfl rfl (new_three _ _ _ _ _) (one_three _ _ _) (by unfold maxLen; omega) (by omega) zA ?_; intro v7 w7 hown7 hgr7 hnn7 hat7; have HO7 : Hid (Lg B v7 (go ++ [⟨xn, xi, xm⟩]) w7) := (by unfold Lg; rw [List.length_append, HNG.out, gcs_app]; exact hown7); have HG7 : Hid (World.grownBy _ w7 (Value.slice ga ng gc).ownBlock) := hgr7; have HAT : Hid (_ ∨ _) := hat7; obtain ⟨va, vc, hv7⟩ := HO7.out.form; subst hv7; have cz := World.cell?_of_block (a := ⟨ob, 1, none⟩) (hgr7.block ob (Array.getElem?_eq_some_iff.1 HTA.out.blk).1 (fun e => by have := (own_in HOA.out e.symm).1; omega)); have cz2 := cz.trans (cell_of_row _ _ 1 _ _ _ HTA.out.blk); have fz2 := (World.frozen?_of_block (a := ⟨ob, 1, none⟩) (hgr7.block ob (Array.getElem?_eq_some_iff.1 HTA.out.blk).1 (fun e => by have := (own_in HOA.out e.symm).1; omega))).trans (frozen_of_row _ _ 1 _ _ HTA.out.blk); clear hown7 hgr7 hnn7 hat7 cz)
            go_roundw
            case rel =>
              refine ⟨k + 1, by omega, by go_num, _, _, go ++ [⟨xn, xi, xm⟩], re, HTA.out.addG (v := .slice va (go.length + 1) vc) (x := ⟨xn, xi, xm⟩) (by have h := HO7.out; rw [show (go ++ [(⟨xn, xi, xm⟩ : Sg)]).length = go.length + 1 by simp] at h; exact h) HG7.out (by have h := HAT.out; rw [show (go ++ [(⟨xn, xi, xm⟩ : Sg)]).length = go.length + 1 by simp] at h; exact h), HFA.out.grow zA HOA.out HG7.out, ?_, ?_, by rw [List.length_append, HNG.out]; simp; omega, by rw [HNR.out]; omega, HN2.out⟩
              · exact Below.setCell (p := ⟨ob, 1, none⟩) (Below.trans HWA.out ⟨HG7.out.os, HG7.out.tape, HG7.out.output, HG7.out.size, fun j hj => HG7.out.block j (Nat.lt_of_lt_of_le hj HWA.out.size) (fun e => by have := (own_in HOA.out e.symm).1; omega)⟩) (by show w.heap.size ≤ ob; omega) _
              · simp only [World.setCell, Array.size_modify]; exact Nat.le_trans zA HG7.out.size
            case measure => simp [intOf]; omega)
    · have hlt' : ¬ (k : Int) < n := by omega
      have HF : Hid (OF = some (go, re)) := by
        show _ = _
        rw [← HO.out, List.drop_of_length_le (by rw [HN.out]; omega)]
        rfl
      have hbk := HRX.out _ HFR.out
      have c0 := cell_of_row _ _ 0 _ _ _ hbk
      have c1 := cell_of_row _ _ 1 _ _ _ hbk
      have c2 := cell_of_row _ _ 2 _ _ _ hbk
      have f0 := frozen_of_row _ _ 0 _ _ hbk
      have f1 := frozen_of_row _ _ 1 _ _ hbk
      have f2 := frozen_of_row _ _ 2 _ _ hbk
      have o0 := cell_of_row _ _ 0 _ _ _ HT2.out.blk
      have o1 := cell_of_row _ _ 1 _ _ _ HT2.out.blk
      have o2 := cell_of_row _ _ 2 _ _ _ HT2.out.blk
      have HRF : Hid (R = if go.length = 0 then noO 202 else ((body, go, re), 0)) := by have := HRR.out; rw [HF.out] at this; exact this
      rw [HNG.out] at HRF
      clear HO HF
      by_cases hn0 : ng = 0
      · subst hn0
        have HR : Hid (R = noO 202) := by show _ = _; rw [HRF.out, if_pos rfl]
        have FIN : Hid (∀ W', W' = _ → _) := put_out wr w.heap.size _ _ _ (.string ⟨#[]⟩) (.slice none 0 0) (.slice none 0 0) _ hbk
        clear HRF
        go_wp2
        first
        | (obtain ⟨⟨d0, d1, d2⟩, hbl, _⟩ := FIN.out _ rfl
           exact bodyPost_ret (v := .tuple #[.agg #[.string ⟨#[]⟩, .slice none 0 0, .slice none 0 0], .int .i64 202]) (by simp [results, Tryz.results6, go_sem, d0, d1, d2]) rfl ⟨by rw [HR.out]; exact opf_no _ _ 202, HBW.out.trans (hbl _ (Nat.le_refl _))⟩)
        | exact bodyPost_ret (v := .tuple #[.agg #[.string ⟨#[]⟩, .slice none 0 0, .slice none 0 0], .int .i64 202]) (by simp [results, Tryz.results6, go_sem, c0, c1, c2]) rfl ⟨by rw [HR.out]; exact opf_no _ _ 202, HBW.out⟩
      · have gn : ((ng : Int) == 0) = false := beq_eq_false_iff_ne.2 (by omega)
        have gn' : ¬ (ng : Int) = 0 := by omega
        have HR : Hid (R = ((body, go, re), 0)) := by show _ = _; rw [HRF.out, if_neg hn0]
        have FIN : Hid (∀ W', W' = _ → _) := put_out wr w.heap.size _ _ _ (.string body) (.slice ga ng gc) (.slice ra nr rc) _ hbk
        clear HRF hn0
        go_wp2
        obtain ⟨⟨d0, d1, d2⟩, hbl, hel⟩ := FIN.out _ rfl
        refine bodyPost_ret (v := .tuple #[.agg #[.string body, .slice ga ng gc, .slice ra nr rc], .int .i64 0]) (by simp [results, Tryz.results6, go_sem, d0, d1, d2]) rfl ⟨?_, HBW.out.trans (hbl _ (Nat.le_refl _))⟩
        rw [HR.out]
        refine ⟨ga, gc, ra, rc, by rw [HNG.out, HNR.out], ?_, ?_, ?_⟩
        · show Lg _ (.slice ga go.length gc) go _
          rw [HNG.out]
          exact own_down (own_same HT2.out.g (fun j hj => hel j (by have := (own_in HT2.out.g hj).1; omega))) (by omega)
        · show Lg _ (.slice ra re.length rc) re _
          rw [HNR.out]
          exact own_down (own_same HT2.out.r (fun j hj => hel j (by have := (own_in HT2.out.r hj).1; omega))) (by omega)
        · show ∀ b, (Value.slice ga go.length gc).ownBlock = some b → (Value.slice ra re.length rc).ownBlock ≠ some b
          rw [HNG.out, HNR.out]
          exact HT2.out.ap
end Go.Proofs.YthdkbjbhjfiaiaaGreatDoor.vf

namespace Go.Proofs.YthdkbjbhjfiaiaaGreatDoor.vs
open Go.RowKit Go.PlainAid
open Go.Proofs.YthdkbjbhjfiaiaaGreatDoor.cp Go.Proofs.YthdkbjbhjfiaiaaGreatDoor.ka
set_option linter.unusedVariables false
set_option maxRecDepth 4000

-- an append, and what stands of the rows that share the block (elements of any size)
theorem run_appS {P : Program} (w : World) (B sz : Nat) (t ty e : TypeId) (i : TypeInfo) (z : Value) (bytes : Nat) (ht : P.underlying t = some (.slice e)) (hi : P.info? e = some i) (hz : i.zero = some z)
    (hsize : i.size = sz) (hby : i.bytes = bytes) (hzs : z.cells.size = sz) (hsz : 0 < sz) (v : Value) (n : Nat) (xs : List Value) (hown : w.ownsRow B e sz v n xs)
    (a : Addr) (m c : Nat) (news : List Value) (hl : news.length = m * sz) (hnews : ∀ j u, news[j]? = some u → w.cell? (a.add j) = some u) (h1 : ∀ u ∈ news, u.oneCell' = true) (h63 : n + m ≤ maxLen) (hbytes : (n + m) * bytes ≤ 140737488355328) (hB : B ≤ w.heap.size) :
    ∃ v' w', (Builtin.append_ #[t, t] ty #[v, .slice (some a) m c]).run P w = .ok v' w' ∧ w'.ownsRow B e sz v' (n + m) (xs ++ news) ∧ w.grownBy w' v.ownBlock ∧ (v'.ownBlock = v.ownBlock ∨ v'.ownBlock = some w.heap.size) ∧
      ∀ p k ps, w.ownsRow B e sz p k ps → (p.ownBlock = v.ownBlock → k ≤ n) → w'.ownsRow B e sz p k ps := by
  obtain ⟨v', w', hr, h2, h3, h4, h5⟩ := run_append_own_at (P := P) w B t ty e i z sz bytes ht hi hz hsize hby hzs hsz v n xs hown a m c news hl hnews h1 h63 hbytes hB
  refine ⟨v', w', hr, h2, h3, h5, fun p k ps hp hk => ?_⟩
  by_cases hne : p.ownBlock = none ∨ p.ownBlock ≠ v.ownBlock
  · exact hp.kept h3 hne
  · have hpn : p.ownBlock ≠ none := fun e => hne (.inl e)
    have hpe : p.ownBlock = v.ownBlock := by by_cases e : p.ownBlock = v.ownBlock; exact e; exact absurd (.inr e) hne
    have hkn := hk hpe
    rcases hown.2 with ⟨rfl, rfl⟩ | ⟨g, cap, cur, rfl, hbg, hg, hnc, hcm, hcs, htake⟩
    · exact absurd hpe hpn
    · rcases hp.2 with ⟨rfl, _⟩ | ⟨g2, cap2, cur2, rfl, hbg2, hg2, hnc2, hcm2, hcs2, htake2⟩
      · exact absurd rfl hpn
      · have eg : g2 = g := Option.some.inj hpe
        subst eg
        have ec : cur2 = cur := by
          rw [hg] at hg2
          have := Option.some.inj hg2
          injection this with q1 q2 q3
          exact q1.symm
        subst ec
        have ecap : cap2 = cap := Nat.eq_of_mul_eq_mul_right hsz (hcs2.symm.trans hcs)
        subst ecap
        by_cases hroom : n + m ≤ cap2
        · have hr2 := run_append_room (P := P) w t ty e i ht hi g2 n cap2 cur2 hg a m c news (by rw [hsize]; exact hl) hnews h1 hroom (by rw [hsize, hl, hcs, ← Nat.add_mul]; exact Nat.mul_le_mul_right _ hroom)
          rw [hr] at hr2
          injection hr2 with q1 q2
          subst q1
          rcases h2.2 with ⟨q, _⟩ | ⟨g3, cap3, cur3, q, hbg3, hg3, hnc3, hcm3, hcs3, htake3⟩
          · cases q
          · have qa := Value.slice.inj q
            have qb : g2 = g3 := congrArg Addr.block (Option.some.inj qa.1)
            have qc : cap2 = cap3 := qa.2.2
            subst qb qc
            refine ⟨hp.1, .inr ⟨g2, cap2, cur3, rfl, hbg2, hg3, hnc2, hcm2, hcs3, ?_⟩⟩
            have e1 : cur3.toList.take (k * sz) = ((cur3.toList.take ((n + m) * sz)).take (k * sz)) := by rw [List.take_take, Nat.min_eq_left (Nat.mul_le_mul_right _ (by omega))]
            have e2 : cur2.toList.take (k * sz) = ((cur2.toList.take (n * sz)).take (k * sz)) := by rw [List.take_take, Nat.min_eq_left (Nat.mul_le_mul_right _ hkn)]
            rw [e1, htake3, ← htake2, e2, htake, List.take_append_of_le_length (by rw [hown.1]; exact Nat.mul_le_mul_right _ hkn)]
        · have holds : ∀ j u, xs[j]? = some u → w.cell? ((⟨g2, 0, none⟩ : Addr).add j) = some u := hown.cells (g := g2) rfl
          have hr2 := run_append_grow (P := P) w t ty e i z ht hi hz ⟨g2, 0, none⟩ n cap2 xs (by rw [hsize]; exact hown.1) holds a m c news (by rw [hsize]; exact hl) hnews (by omega) (by simp only [maxLen] at h63; omega) (growslice_fits (by omega) (by rw [hby]; exact hbytes))
          rw [hr] at hr2
          injection hr2 with q1 q2
          refine ⟨hp.1, .inr ⟨g2, cap2, cur2, rfl, hbg2, ?_, hnc2, hcm2, hcs2, htake2⟩⟩
          rw [q2]
          exact (heap_alloc_old w.drew _ (Array.getElem?_eq_some_iff.1 hg2).1).trans hg2
theorem wpList_appS {P : Program} {w : World} {ops : Array Oper} {rest : List Oper} {o : Oper} {a : Act} {Q : Exit → Act → World → Prop} (hgd : o.guard = none) (s x : Operand) (t : TypeId)
    (ho : o.op = .call { callee := .builtin .append, args := #[s, x], argTypes := #[t, t] })
    (B sz : Nat) (e : TypeId) (i : TypeInfo) (z : Value) (bytes : Nat) (ht : P.underlying t = some (.slice e)) (hi : P.info? e = some i) (hz : i.zero = some z)
    (hsize : i.size = sz) (hby : i.bytes = bytes) (hzs : z.cells.size = sz) (hsz : 0 < sz)
    (v : Value) (n : Nat) (xs : List Value) (hs : a.eval s = v) (hown : w.ownsRow B e sz v n xs)
    (ad : Addr) (m c : Nat) (news : List Value) (hx : a.eval x = .slice (some ad) m c) (hl : news.length = m * sz) (hnews : ∀ j u, news[j]? = some u → w.cell? (ad.add j) = some u) (h1 : ∀ u ∈ news, u.oneCell' = true)
    (h63 : n + m ≤ maxLen) (hbytes : (n + m) * bytes ≤ 140737488355328) (hB : B ≤ w.heap.size)
    (h : ∀ v' w', w'.ownsRow B e sz v' (n + m) (xs ++ news) → w.grownBy w' v.ownBlock → (v'.ownBlock = v.ownBlock ∨ v'.ownBlock = some w.heap.size) → (∀ p k ps, w.ownsRow B e sz p k ps → (p.ownBlock = v.ownBlock → k ≤ n) → w'.ownsRow B e sz p k ps) → wpList P ops Q rest (a.put o.dst v') w') :
    wpList P ops Q (o :: rest) a w := by
  refine wpList_plain hgd fun K hK => ?_
  obtain ⟨v', w', hr, h2, h3, h4, h5⟩ := run_appS (P := P) w B sz t o.type e i z bytes ht hi hz hsize hby hzs hsz v n xs hown ad m c news hl hnews h1 h63 hbytes hB
  unfold Oper.wp execOp
  simp only [ho, resolve, invoke, builtin, Sem.run_bind, Sem.run_pure, Result.andThen_ok, List.map_toArray, List.map_cons, List.map_nil, hs, hx, hr]
  exact hK _ _ (h v' w' h2 h3 h4 h5)

end Go.Proofs.YthdkbjbhjfiaiaaGreatDoor.vs

namespace Go.Proofs.YthdkbjbhjfiaiaaGreatDoor.vg
open Go.RowKit Go.PlainAid Go.Shelf
open Go.Proofs.YthdkbjbhjfiaiaaGreatDoor.cp Go.Proofs.YthdkbjbhjfiaiaaGreatDoor.tb Go.Proofs.YthdkbjbhjfiaiaaGreatDoor.tc Go.Proofs.YthdkbjbhjfiaiaaGreatDoor.tj Go.Proofs.YthdkbjbhjfiaiaaGreatDoor.va Go.Proofs.YthdkbjbhjfiaiaaGreatDoor.vb Go.Proofs.YthdkbjbhjfiaiaaGreatDoor.vc Go.Proofs.YthdkbjbhjfiaiaaGreatDoor.o1 Go.Proofs.YthdkbjbhjfiaiaaGreatDoor.kp Go.Proofs.YthdkbjbhjfiaiaaGreatDoor.v4 Go.Proofs.YthdkbjbhjfiaiaaGreatDoor.v5 Go.Proofs.YthdkbjbhjfiaiaaGreatDoor.vf Go.Proofs.YthdkbjbhjfiaiaaGreatDoor.ytf Go.Proofs.YthdkbjbhjfiaiaaGreatDoor.z2
set_option linter.unusedVariables false
set_option maxRecDepth 4000

-- marks
def sgM (s : ByteArray) : Sg := ⟨s, ByteArray.empty, ByteArray.empty⟩
def sgs (n : Nat) (s : ByteArray) : List Sg := List.replicate n (sgM s)
theorem sgs_len (n : Nat) (s : ByteArray) : (sgs n s).length = n := List.length_replicate
theorem sgs_succ (n : Nat) (s : ByteArray) : sgs n s ++ [sgM s] = sgs (n + 1) s := by unfold sgs; rw [List.replicate_succ']
theorem gcs_set (l : List Sg) (k : Nat) (x : Sg) (h : k < l.length) : gcs (l.set k x) = (((gcs l).set (k * 3) (.string x.name)).set (k * 3 + 1) (.string x.id)).set (k * 3 + 2) (.string x.mac) := by
  induction l generalizing k with
  | nil => simp at h
  | cons y l ih =>
    cases k with
    | zero => rfl
    | succ k =>
      rw [List.set_cons_succ]
      show gc y ++ gcs (l.set k x) = _
      rw [ih k (by simpa using h), show (k + 1) * 3 = k * 3 + 3 by omega]
      rfl
-- an element of an own row of signatures is written
theorem lg_put {w : World} {B g cap k : Nat} {l : List Sg} (h : Lg B (.slice (some ⟨g, 0, none⟩) l.length cap) l w) (hk : k < l.length) (x : Sg) : Lg B (.slice (some ⟨g, 0, none⟩) l.length cap) (l.set k x) (((w.setCell ⟨g, k * 3, none⟩ (.string x.name)).setCell ⟨g, k * 3 + 1, none⟩ (.string x.id)).setCell ⟨g, k * 3 + 2, none⟩ (.string x.mac)) := by
  unfold Lg at *
  rw [List.length_set, gcs_set l k x hk]
  refine ⟨by simp only [List.length_set]; exact h.1, ?_⟩
  rcases h.2 with ⟨e, _⟩ | ⟨g', cap', cur, e, h2, h3, h4, h5, h6, h7⟩
  · cases e
  · injection e with e1 _ e3
    injection e1 with e1
    injection e1 with e1 _ _
    subst e1 e3
    refine .inr ⟨g, cap, ((cur.setIfInBounds (k * 3) (.string x.name)).setIfInBounds (k * 3 + 1) (.string x.id)).setIfInBounds (k * 3 + 2) (.string x.mac), rfl, h2, ?_, h4, h5, by simpa using h6, ?_⟩
    · exact heap_setCell_same _ _ _ _ _ _ (heap_setCell_same _ _ _ _ _ _ (heap_setCell_same w g (k * 3) _ _ _ h3))
    · rw [← h7]
      simp only [Array.toList_setIfInBounds, List.take_set]
-- the first k are marks
def fstM (l : List Sg) (k : Nat) (s : ByteArray) : List Sg := sgs k s ++ l.drop k
theorem fst_len (l : List Sg) (k : Nat) (s : ByteArray) (h : k ≤ l.length) : (fstM l k s).length = l.length := by
  unfold fstM
  rw [List.length_append, sgs_len, List.length_drop]
  omega
theorem fst_zero (l : List Sg) (s : ByteArray) : fstM l 0 s = l := rfl
theorem fst_all (l : List Sg) (s : ByteArray) : fstM l l.length s = sgs l.length s := by unfold fstM; rw [List.drop_length, List.append_nil]
theorem fst_set (l : List Sg) (k : Nat) (s : ByteArray) (h : k < l.length) : (fstM l k s).set k (sgM s) = fstM l (k + 1) s := by
  unfold fstM
  rw [List.set_append_right _ _ (by rw [sgs_len]; omega), sgs_len, Nat.sub_self, List.drop_eq_getElem_cons h, List.set_cons_zero, ← sgs_succ, List.append_assoc]
  rfl
-- texts: the first k are marks
def fstT (l : List ByteArray) (k : Nat) (s : ByteArray) : List ByteArray := List.replicate k s ++ l.drop k
theorem fstT_set (l : List ByteArray) (k : Nat) (s : ByteArray) (h : k < l.length) : (fstT l k s).set k s = fstT l (k + 1) s := by
  unfold fstT
  rw [List.set_append_right _ _ (by rw [List.length_replicate]; omega), List.length_replicate, Nat.sub_self, List.drop_eq_getElem_cons h, List.set_cons_zero, List.replicate_succ', List.append_assoc]
  rfl
theorem fstT_all (l : List ByteArray) (s : ByteArray) : fstT l l.length s = List.replicate l.length s := by unfold fstT; rw [List.drop_length, List.append_nil]
theorem fstT_len (l : List ByteArray) (k : Nat) (s : ByteArray) (h : k ≤ l.length) : (fstT l k s).length = l.length := by
  unfold fstT
  rw [List.length_append, List.length_replicate, List.length_drop]
  omega
end Go.Proofs.YthdkbjbhjfiaiaaGreatDoor.vg

namespace Go.Proofs.YthdkbjbhjfiaiaaGreatDoor.vh
open Go.RowKit Go.PlainAid Go.Shelf
open Go.Proofs.YthdkbjbhjfiaiaaGreatDoor.cp Go.Proofs.YthdkbjbhjfiaiaaGreatDoor.tb Go.Proofs.YthdkbjbhjfiaiaaGreatDoor.tc Go.Proofs.YthdkbjbhjfiaiaaGreatDoor.tj Go.Proofs.YthdkbjbhjfiaiaaGreatDoor.va Go.Proofs.YthdkbjbhjfiaiaaGreatDoor.vb Go.Proofs.YthdkbjbhjfiaiaaGreatDoor.vc Go.Proofs.YthdkbjbhjfiaiaaGreatDoor.o1 Go.Proofs.YthdkbjbhjfiaiaaGreatDoor.kp Go.Proofs.YthdkbjbhjfiaiaaGreatDoor.v4 Go.Proofs.YthdkbjbhjfiaiaaGreatDoor.v5 Go.Proofs.YthdkbjbhjfiaiaaGreatDoor.vf Go.Proofs.YthdkbjbhjfiaiaaGreatDoor.ytf Go.Proofs.YthdkbjbhjfiaiaaGreatDoor.z2 Go.Proofs.YthdkbjbhjfiaiaaGreatDoor.vg
set_option linter.unusedVariables false
set_option maxRecDepth 4000

-- the blocks that are written
def eB (ea : Option Addr) : Option Nat := ea.map (·.block)
def AK (gv rv : Value) (ea : Option Addr) (b : Nat) : Prop := gv.ownBlock = some b ∨ rv.ownBlock = some b ∨ eB ea = some b
theorem kp_grown {A : Nat → Prop} {w w1 w2 : World} {r : Option Nat} (h : Kp A w w1) (hg : w1.grownBy w2 r) (hr : ∀ b, r = some b → A b ∨ w.heap.size ≤ b) : Kp A w w2 :=
  ⟨hg.os.trans h.os, hg.tape.trans h.tape, hg.output.trans h.output, Nat.le_trans h.size hg.size, fun k hk hn => (hg.block k (Nat.lt_of_lt_of_le hk h.size) (fun e => by
    rcases hr k e.symm with h1 | h1
    · exact hn h1
    · omega)).trans (h.block k hk hn)⟩
theorem ext_same {w w' : World} {B : Nat} {a : Option Addr} {c : Nat} {l : List ByteArray} (h : ExtOf w B a c l) (hk : ∀ b, eB a = some b → w'.heap[b]? = w.heap[b]?) : ExtOf w' B a c l := by
  rcases h with h | ⟨h0, g, x, y, z, rfl, h2, h3⟩
  · exact .inl h
  · exact .inr ⟨h0, g, x, y, z, rfl, h2, (hk g rfl).trans h3⟩
-- three lists while they are written full
structure Pw (w8 w : World) (B : Nat) (gv rv : Value) (ea : Option Addr) (ec : Nat) (gl rl : List Sg) (xl : List ByteArray) : Prop where
  kp : Kp (AK gv rv ea) w8 w
  g : Lg B gv gl w
  r : Lg B rv rl w
  x : ExtOf w B ea ec xl
  gr : ∀ b, gv.ownBlock = some b → rv.ownBlock ≠ some b
  gx : ∀ b, gv.ownBlock = some b → eB ea ≠ some b
  rx : ∀ b, rv.ownBlock = some b → eB ea ≠ some b
theorem set3_else {w : World} {g a b c j : Nat} {x y z : Value} (h : j ≠ g) : (((w.setCell ⟨g, a, none⟩ x).setCell ⟨g, b, none⟩ y).setCell ⟨g, c, none⟩ z).heap[j]? = w.heap[j]? := by
  rw [set_else h, set_else h, set_else h]
theorem Pw.putG {w8 w : World} {B g cap ec k : Nat} {rv : Value} {ea : Option Addr} {gl rl : List Sg} {xl : List ByteArray} (h : Pw w8 w B (.slice (some ⟨g, 0, none⟩) gl.length cap) rv ea ec gl rl xl) (hk : k < gl.length) (x : Sg) : Pw w8 (((w.setCell ⟨g, k * 3, none⟩ (.string x.name)).setCell ⟨g, k * 3 + 1, none⟩ (.string x.id)).setCell ⟨g, k * 3 + 2, none⟩ (.string x.mac)) B (.slice (some ⟨g, 0, none⟩) gl.length cap) rv ea ec (gl.set k x) rl xl := by
  have hA : AK (.slice (some ⟨g, 0, none⟩) gl.length cap) rv ea g := .inl rfl
  refine ⟨((h.kp.trans (Kp.setCell _ _ _ _ hA)).trans (Kp.setCell _ _ _ _ hA)).trans (Kp.setCell _ _ _ _ hA), ?_, ?_, ?_, h.gr, h.gx, h.rx⟩
  · exact lg_put h.g hk x
  · exact own_same h.r (fun j hj => set3_else (fun e => h.gr g rfl (by rw [← e]; exact hj)))
  · exact ext_same h.x (fun b hb => set3_else (fun e => h.gx g rfl (by rw [← e]; exact hb)))
theorem Pw.putR {w8 w : World} {B g cap ec k : Nat} {gv : Value} {ea : Option Addr} {gl rl : List Sg} {xl : List ByteArray} (h : Pw w8 w B gv (.slice (some ⟨g, 0, none⟩) rl.length cap) ea ec gl rl xl) (hk : k < rl.length) (x : Sg) : Pw w8 (((w.setCell ⟨g, k * 3, none⟩ (.string x.name)).setCell ⟨g, k * 3 + 1, none⟩ (.string x.id)).setCell ⟨g, k * 3 + 2, none⟩ (.string x.mac)) B gv (.slice (some ⟨g, 0, none⟩) rl.length cap) ea ec gl (rl.set k x) xl := by
  have hA : AK gv (.slice (some ⟨g, 0, none⟩) rl.length cap) ea g := .inr (.inl rfl)
  refine ⟨((h.kp.trans (Kp.setCell _ _ _ _ hA)).trans (Kp.setCell _ _ _ _ hA)).trans (Kp.setCell _ _ _ _ hA), ?_, ?_, ?_, h.gr, h.gx, h.rx⟩
  · exact own_same h.g (fun j hj => set3_else (fun e => h.gr j hj (by rw [e]; rfl)))
  · exact lg_put h.r hk x
  · exact ext_same h.x (fun b hb => set3_else (fun e => h.rx g rfl (by rw [← e]; exact hb)))
theorem Pw.putX {w8 w : World} {B g ec k : Nat} {gv rv : Value} {gl rl : List Sg} {xl : List ByteArray} (h : Pw w8 w B gv rv (some ⟨g, 3, none⟩) ec gl rl xl) (hk : k < xl.length) (s : ByteArray) : Pw w8 (w.setCell ⟨g, 3 + k, none⟩ (.string s)) B gv rv (some ⟨g, 3, none⟩) ec gl rl (xl.set k s) := by
  have hA : AK gv rv (some ⟨g, 3, none⟩) g := .inr (.inr rfl)
  refine ⟨h.kp.trans (Kp.setCell _ _ _ _ hA), ?_, ?_, ?_, h.gr, h.gx, h.rx⟩
  · exact own_same h.g (fun j hj => set_else (fun e => h.gx j hj (by rw [e]; rfl)))
  · exact own_same h.r (fun j hj => set_else (fun e => h.rx j hj (by rw [e]; rfl)))
  · rcases h.x with ⟨e, _⟩ | ⟨h0, g', x, y, z, e, h2, h3⟩
    · rw [e] at hk; simp at hk
    · injection e with e
      injection e with e _ _
      subst e
      refine .inr ⟨by rw [List.length_set]; exact h0, g, x, y, z, rfl, h2, ?_⟩
      have := heap_setCell_same w g (3 + k) _ _ (.string s) h3
      rw [this]
      have e2 : (srow (x :: y :: z :: xl)).setIfInBounds (3 + k) (.string s) = srow (x :: y :: z :: xl.set k s) := by
        unfold srow
        rw [show 3 + k = k + 1 + 1 + 1 by omega]
        simp [List.map_set]
      rw [e2]
-- three lists while they are grown
structure Mk (w8 w : World) (B : Nat) (gv gl rv rl xl : Value) (ea : Option Addr) (ec ng nr nx mg mr mx : Nat) (s1 s2 s3 : ByteArray) : Prop where
  kp : Kp (AK gv rv ea) w8 w
  b8 : B ≤ w8.heap.size
  g0 : Lg B gv (sgs ng s1) w
  g1 : Lg B gl (sgs (ng + mg) s1) w
  r0 : Lg B rv (sgs nr s2) w
  r1 : Lg B rl (sgs (nr + mr) s2) w
  x0 : ExtOf w B ea ec (List.replicate nx s3)
  x1 : (mx = 0 ∧ xl = .slice none 0 0) ∨ w.ownsRow w8.heap.size 9 1 xl (nx + mx) ((List.replicate (nx + mx) s3).map Value.string)
  gb : gl.ownBlock = gv.ownBlock ∨ ∃ b, gl.ownBlock = some b ∧ w8.heap.size ≤ b
  rb : rl.ownBlock = rv.ownBlock ∨ ∃ b, rl.ownBlock = some b ∧ w8.heap.size ≤ b
  gr : ∀ b, gv.ownBlock = some b ∨ gl.ownBlock = some b → ¬ (rv.ownBlock = some b ∨ rl.ownBlock = some b)
  gx : ∀ b, gv.ownBlock = some b ∨ gl.ownBlock = some b → ¬ (eB ea = some b ∨ xl.ownBlock = some b)
  rx : ∀ b, rv.ownBlock = some b ∨ rl.ownBlock = some b → ¬ (eB ea = some b ∨ xl.ownBlock = some b)
theorem Mk.start {w8 w : World} {B ec : Nat} {gv rv : Value} {ea : Option Addr} {ng nr nx : Nat} {s1 s2 s3 : ByteArray} (h : Pw w8 w B gv rv ea ec (sgs ng s1) (sgs nr s2) (List.replicate nx s3)) (hB : B ≤ w8.heap.size) : Mk w8 w B gv gv rv rv (.slice none 0 0) ea ec ng nr nx 0 0 0 s1 s2 s3 := by
  refine ⟨h.kp, hB, h.g, h.g, h.r, h.r, h.x, .inl ⟨rfl, rfl⟩, .inl rfl, .inl rfl, ?_, ?_, ?_⟩
  · rintro b (e | e) (f | f) <;> exact h.gr b e f
  · rintro b (e | e) (f | f)
    · exact h.gx b e f
    · cases f
    · exact h.gx b e f
    · cases f
  · rintro b (e | e) (f | f)
    · exact h.rx b e f
    · cases f
    · exact h.rx b e f
    · cases f
theorem lg_lt {B : Nat} {v : Value} {l : List Sg} {w : World} (h : Lg B v l w) {b : Nat} (e : v.ownBlock = some b) : b < w.heap.size := (own_in h e).2
theorem ext_lt {w : World} {B : Nat} {a : Option Addr} {c : Nat} {l : List ByteArray} (h : ExtOf w B a c l) (hne : l ≠ []) {b : Nat} (e : eB a = some b) : b < w.heap.size := by
  rcases h with ⟨h, _⟩ | ⟨h0, g, x, y, z, rfl, h2, h3⟩
  · exact absurd h hne
  · obtain rfl := Option.some.inj e
    exact (Array.getElem?_eq_some_iff.1 h3).1
theorem lg_none {B : Nat} {v : Value} {l : List Sg} {w : World} (h : Lg B v l w) (e : v.ownBlock = none) : l.length = 0 := by
  rcases h.2 with ⟨_, h0⟩ | ⟨g', cap, cur', rfl, _⟩
  · exact h0
  · cases e
end Go.Proofs.YthdkbjbhjfiaiaaGreatDoor.vh

namespace Go.Proofs.YthdkbjbhjfiaiaaGreatDoor.vh
open Go.RowKit Go.PlainAid Go.Shelf
open Go.Proofs.YthdkbjbhjfiaiaaGreatDoor.cp Go.Proofs.YthdkbjbhjfiaiaaGreatDoor.tb Go.Proofs.YthdkbjbhjfiaiaaGreatDoor.tc Go.Proofs.YthdkbjbhjfiaiaaGreatDoor.tj Go.Proofs.YthdkbjbhjfiaiaaGreatDoor.va Go.Proofs.YthdkbjbhjfiaiaaGreatDoor.vb Go.Proofs.YthdkbjbhjfiaiaaGreatDoor.vc Go.Proofs.YthdkbjbhjfiaiaaGreatDoor.o1 Go.Proofs.YthdkbjbhjfiaiaaGreatDoor.kp Go.Proofs.YthdkbjbhjfiaiaaGreatDoor.v4 Go.Proofs.YthdkbjbhjfiaiaaGreatDoor.v5 Go.Proofs.YthdkbjbhjfiaiaaGreatDoor.vf Go.Proofs.YthdkbjbhjfiaiaaGreatDoor.ytf Go.Proofs.YthdkbjbhjfiaiaaGreatDoor.z2 Go.Proofs.YthdkbjbhjfiaiaaGreatDoor.vg
set_option linter.unusedVariables false
set_option maxRecDepth 4000

section
variable {w8 w w' : World} {B : Nat} {gv gl rv rl xl : Value} {ea : Option Addr} {ec ng nr nx mg mr mx : Nat} {s1 s2 s3 : ByteArray}
-- a block is made beside them
theorem Mk.alloc (h : Mk w8 w B gv gl rv rl xl ea ec ng nr nx mg mr mx s1 s2 s3) (o : Obj) : Mk w8 (w.alloc o) B gv gl rv rl xl ea ec ng nr nx mg mr mx s1 s2 s3 := by
  have hb : Below w.heap.size w (w.alloc o) := (Below.refl _ _).alloc (Nat.le_refl _) _
  refine ⟨h.kp.trans (Kp.of_below hb), h.b8, h.g0.later hb, h.g1.later hb, h.r0.later hb, h.r1.later hb, h.x0.later hb, ?_, h.gb, h.rb, h.gr, h.gx, h.rx⟩
  rcases h.x1 with e | e
  · exact .inl e
  · exact .inr (e.alloc o)
theorem Mk.drew (h : Mk w8 w B gv gl rv rl xl ea ec ng nr nx mg mr mx s1 s2 s3) (n : Nat) : Mk w8 (w.drewN n) B gv gl rv rl xl ea ec ng nr nx mg mr mx s1 s2 s3 := by
  have hb : Below w.heap.size w (w.drewN n) := Go.Proofs.YthdkbjbhjfiaiaaGreatDoor.cp.below_dN (Below.refl _ _) n
  refine ⟨h.kp.trans (Kp.of_below hb), h.b8, h.g0.later hb, h.g1.later hb, h.r0.later hb, h.r1.later hb, h.x0.later hb, ?_, h.gb, h.rb, h.gr, h.gx, h.rx⟩
  rcases h.x1 with e | e
  · exact .inl e
  · exact .inr (own_later e hb)
-- no block of theirs is new
theorem Mk.g_lt (h : Mk w8 w B gv gl rv rl xl ea ec ng nr nx mg mr mx s1 s2 s3) {b : Nat} (e : gv.ownBlock = some b ∨ gl.ownBlock = some b) : b < w.heap.size := by
  rcases e with e | e
  · exact lg_lt h.g0 e
  · exact lg_lt h.g1 e
theorem Mk.r_lt (h : Mk w8 w B gv gl rv rl xl ea ec ng nr nx mg mr mx s1 s2 s3) {b : Nat} (e : rv.ownBlock = some b ∨ rl.ownBlock = some b) : b < w.heap.size := by
  rcases e with e | e
  · exact lg_lt h.r0 e
  · exact lg_lt h.r1 e
theorem Mk.x_lt (h : Mk w8 w B gv gl rv rl xl ea ec ng nr nx mg mr mx s1 s2 s3) (hx : ∀ b, eB ea = some b → b < w8.heap.size) {b : Nat} (e : eB ea = some b ∨ xl.ownBlock = some b) : b < w.heap.size := by
  rcases e with e | e
  · exact Nat.lt_of_lt_of_le (hx b e) h.kp.size
  · rcases h.x1 with ⟨_, rfl⟩ | h1
    · cases e
    · exact (h1.lt b e).2
-- the first list grows
theorem Mk.stepG (h : Mk w8 w B gv gl rv rl xl ea ec ng nr nx mg mr mx s1 s2 s3) (hx : ∀ b, eB ea = some b → b < w8.heap.size) {v' : Value} (ho : w'.ownsRow B 43 3 v' (ng + mg + 1) (gcs (sgs (ng + mg) s1) ++ [.string s1, .string ByteArray.empty, .string ByteArray.empty])) (hg : w.grownBy w' gl.ownBlock) (hb : v'.ownBlock = gl.ownBlock ∨ v'.ownBlock = some w.heap.size)
    (hp : ∀ p k ps, w.ownsRow B 43 3 p k ps → (p.ownBlock = gl.ownBlock → k ≤ ng + mg) → w'.ownsRow B 43 3 p k ps) : Mk w8 w' B gv v' rv rl xl ea ec ng nr nx (mg + 1) mr mx s1 s2 s3 := by
  have hne : ∀ {v : Value} {l : List Sg}, (v = rv ∨ v = rl) → Lg B v l w → v.ownBlock = gl.ownBlock → l.length ≤ ng + mg := by
    intro v l hv hl e
    cases hb2 : gl.ownBlock with
    | none => rw [hb2] at e; have := lg_none hl e; omega
    | some b =>
      rw [hb2] at e
      refine absurd ?_ (h.gr b (.inr hb2))
      rcases hv with rfl | rfl
      · exact .inl e
      · exact .inr e
  have keep : ∀ {v : Value} {l : List Sg}, (v = rv ∨ v = rl) → Lg B v l w → Lg B v l w' := fun hv hl => hp _ _ _ hl (hne hv hl)
  refine ⟨kp_grown h.kp hg ?_, h.b8, ?_, ?_, keep (.inl rfl) h.r0, keep (.inr rfl) h.r1, ?_, ?_, ?_, h.rb, ?_, ?_, h.rx⟩
  · intro b e
    rcases h.gb with h1 | ⟨b', h1, h2⟩
    · exact .inl (.inl (by rw [← h1]; exact e))
    · rw [h1] at e; obtain rfl := Option.some.inj e; exact .inr h2
  · exact hp _ _ _ h.g0 (fun _ => by rw [sgs_len]; omega)
  · unfold Lg
    rw [sgs_len, show ng + (mg + 1) = ng + mg + 1 by omega, ← sgs_succ, gcs_app]
    exact ho
  · exact ext_same h.x0 (fun b e => hg.block b (Nat.lt_of_lt_of_le (hx b e) h.kp.size) (fun e2 => h.gx b (.inr e2.symm) (.inl e)))
  · rcases h.x1 with e | e
    · exact .inl e
    · refine .inr (e.kept hg ?_)
      cases hb2 : xl.ownBlock with
      | none => exact .inl rfl
      | some b => exact .inr (fun e2 => h.gx b (.inr e2.symm) (.inr hb2))
  · rcases hb with e | e
    · rw [e]; exact h.gb
    · exact .inr ⟨_, e, h.kp.size⟩
  · rintro b (e | e)
    · exact h.gr b (.inl e)
    · rcases hb with e2 | e2
      · exact h.gr b (.inr (by rw [← e2]; exact e))
      · intro f
        have := h.r_lt f
        rw [e2] at e
        have := Option.some.inj e
        omega
  · rintro b (e | e)
    · exact h.gx b (.inl e)
    · rcases hb with e2 | e2
      · exact h.gx b (.inr (by rw [← e2]; exact e))
      · intro f
        have := h.x_lt hx f
        rw [e2] at e
        have := Option.some.inj e
        omega
-- the second
theorem Mk.stepR (h : Mk w8 w B gv gl rv rl xl ea ec ng nr nx mg mr mx s1 s2 s3) (hx : ∀ b, eB ea = some b → b < w8.heap.size) {v' : Value} (ho : w'.ownsRow B 43 3 v' (nr + mr + 1) (gcs (sgs (nr + mr) s2) ++ [.string s2, .string ByteArray.empty, .string ByteArray.empty])) (hg : w.grownBy w' rl.ownBlock) (hb : v'.ownBlock = rl.ownBlock ∨ v'.ownBlock = some w.heap.size)
    (hp : ∀ p k ps, w.ownsRow B 43 3 p k ps → (p.ownBlock = rl.ownBlock → k ≤ nr + mr) → w'.ownsRow B 43 3 p k ps) : Mk w8 w' B gv gl rv v' xl ea ec ng nr nx mg (mr + 1) mx s1 s2 s3 := by
  have hne : ∀ {v : Value} {l : List Sg}, (v = gv ∨ v = gl) → Lg B v l w → v.ownBlock = rl.ownBlock → l.length ≤ nr + mr := by
    intro v l hv hl e
    cases hb2 : rl.ownBlock with
    | none => rw [hb2] at e; have := lg_none hl e; omega
    | some b =>
      rw [hb2] at e
      refine absurd (.inr hb2) (h.gr b ?_)
      rcases hv with rfl | rfl
      · exact .inl e
      · exact .inr e
  have keep : ∀ {v : Value} {l : List Sg}, (v = gv ∨ v = gl) → Lg B v l w → Lg B v l w' := fun hv hl => hp _ _ _ hl (hne hv hl)
  refine ⟨kp_grown h.kp hg ?_, h.b8, keep (.inl rfl) h.g0, keep (.inr rfl) h.g1, ?_, ?_, ?_, ?_, h.gb, ?_, ?_, h.gx, ?_⟩
  · intro b e
    rcases h.rb with h1 | ⟨b', h1, h2⟩
    · exact .inl (.inr (.inl (by rw [← h1]; exact e)))
    · rw [h1] at e; obtain rfl := Option.some.inj e; exact .inr h2
  · exact hp _ _ _ h.r0 (fun _ => by rw [sgs_len]; omega)
  · unfold Lg
    rw [sgs_len, show nr + (mr + 1) = nr + mr + 1 by omega, ← sgs_succ, gcs_app]
    exact ho
  · exact ext_same h.x0 (fun b e => hg.block b (Nat.lt_of_lt_of_le (hx b e) h.kp.size) (fun e2 => h.rx b (.inr e2.symm) (.inl e)))
  · rcases h.x1 with e | e
    · exact .inl e
    · refine .inr (e.kept hg ?_)
      cases hb2 : xl.ownBlock with
      | none => exact .inl rfl
      | some b => exact .inr (fun e2 => h.rx b (.inr e2.symm) (.inr hb2))
  · rcases hb with e | e
    · rw [e]; exact h.rb
    · exact .inr ⟨_, e, h.kp.size⟩
  · rintro b e (f | f)
    · exact h.gr b e (.inl f)
    · rcases hb with e2 | e2
      · exact h.gr b e (.inr (by rw [← e2]; exact f))
      · have := h.g_lt e
        rw [e2] at f
        have := Option.some.inj f
        omega
  · rintro b (e | e)
    · exact h.rx b (.inl e)
    · rcases hb with e2 | e2
      · exact h.rx b (.inr (by rw [← e2]; exact e))
      · intro f
        have := h.x_lt hx f
        rw [e2] at e
        have := Option.some.inj e
        omega
-- the third
theorem Mk.stepX (h : Mk w8 w B gv gl rv rl xl ea ec ng nr nx mg mr mx s1 s2 s3) (hx : ∀ b, eB ea = some b → b < w8.heap.size) {v' : Value} (ho : w'.ownsRow w8.heap.size 9 1 v' (nx + mx + 1) ((List.replicate (nx + mx) s3).map Value.string ++ [.string s3])) (hg : w.grownBy w' xl.ownBlock) (hb : v'.ownBlock = xl.ownBlock ∨ v'.ownBlock = some w.heap.size) : Mk w8 w' B gv gl rv rl v' ea ec ng nr nx mg mr (mx + 1) s1 s2 s3 := by
  have hxl : ∀ b, xl.ownBlock = some b → w8.heap.size ≤ b ∧ b < w.heap.size := fun b e => by
    rcases h.x1 with ⟨_, rfl⟩ | h1
    · cases e
    · exact h1.lt b e
  have keepG : ∀ {v : Value} {l : List Sg}, (v = gv ∨ v = gl) → Lg B v l w → Lg B v l w' := fun hv hl => World.ownsRow.kept hl hg (by
    cases hb2 : xl.ownBlock with
    | none => cases hc : Value.ownBlock _ with
      | none => exact .inl rfl
      | some c => exact .inr (by simp)
    | some b => exact .inr (fun e2 => h.gx b (by rcases hv with rfl | rfl; exact .inl e2; exact .inr e2) (.inr hb2)))
  have keepR : ∀ {v : Value} {l : List Sg}, (v = rv ∨ v = rl) → Lg B v l w → Lg B v l w' := fun hv hl => World.ownsRow.kept hl hg (by
    cases hb2 : xl.ownBlock with
    | none => cases hc : Value.ownBlock _ with
      | none => exact .inl rfl
      | some c => exact .inr (by simp)
    | some b => exact .inr (fun e2 => h.rx b (by rcases hv with rfl | rfl; exact .inl e2; exact .inr e2) (.inr hb2)))
  refine ⟨kp_grown h.kp hg (fun b e => .inr (hxl b e).1), h.b8, keepG (.inl rfl) h.g0, keepG (.inr rfl) h.g1, keepR (.inl rfl) h.r0, keepR (.inr rfl) h.r1, ?_, ?_, h.gb, h.rb, h.gr, ?_, ?_⟩
  · exact ext_same h.x0 (fun b e => hg.block b (Nat.lt_of_lt_of_le (hx b e) h.kp.size) (fun e2 => by have := (hxl b e2.symm).1; have := hx b e; omega))
  · refine .inr ?_
    rw [show nx + (mx + 1) = nx + mx + 1 by omega, List.replicate_succ', List.map_append]
    exact ho
  · rintro b e (f | f)
    · exact h.gx b e (.inl f)
    · rcases hb with e2 | e2
      · exact h.gx b e (.inr (by rw [← e2]; exact f))
      · have := h.g_lt e
        rw [e2] at f
        have := Option.some.inj f
        omega
  · rintro b e (f | f)
    · exact h.rx b e (.inl f)
    · rcases hb with e2 | e2
      · exact h.rx b e (.inr (by rw [← e2]; exact f))
      · have := h.r_lt e
        rw [e2] at f
        have := Option.some.inj f
        omega
end
end Go.Proofs.YthdkbjbhjfiaiaaGreatDoor.vh
