import Derived.Test.YtmldkecaghokeaaGreatDoorL1
import Derived.Test.YtmldkecaghokeaaGreatDoorJ2
import Derived.BigQuiet
import Derived.Deep.QuietTactic
import Derived.Deep.AppendLies
import Derived.Deep.RegionLaw
namespace Go.Proofs.YtmldkecaghokeaaGreatDoor.v5
open Go.RowKit Go.PlainAid Go.Shelf
open Go.Proofs.YtmldkecaghokeaaGreatDoor.pj Go.Proofs.YtmldkecaghokeaaGreatDoor.rf Go.Proofs.YtmldkecaghokeaaGreatDoor.mo Go.Proofs.YtmldkecaghokeaaGreatDoor.nd Go.Proofs.YtmldkecaghokeaaGreatDoor.nh Go.Proofs.YtmldkecaghokeaaGreatDoor.tb Go.Proofs.YtmldkecaghokeaaGreatDoor.tc Go.Proofs.YtmldkecaghokeaaGreatDoor.tj Go.Proofs.YtmldkecaghokeaaGreatDoor.n3 Go.Proofs.YtmldkecaghokeaaGreatDoor.n4 Go.Proofs.YtmldkecaghokeaaGreatDoor.o1 Go.Proofs.YtmldkecaghokeaaGreatDoor.o3 Go.Proofs.YtmldkecaghokeaaGreatDoor.o4 Go.Proofs.YtmldkecaghokeaaGreatDoor.o5 Go.Proofs.YtmldkecaghokeaaGreatDoor.o6 Go.Proofs.YtmldkecaghokeaaGreatDoor.kp Go.Proofs.YtmldkecaghokeaaGreatDoor.q2 Go.Proofs.YtmldkecaghokeaaGreatDoor.q5 Go.Proofs.YtmldkecaghokeaaGreatDoor.r1 Go.Proofs.YtmldkecaghokeaaGreatDoor.s1 Go.Proofs.YtmldkecaghokeaaGreatDoor.t5 Go.Proofs.YtmldkecaghokeaaGreatDoor.v2 Go.Proofs.YtmldkecaghokeaaGreatDoor.v3 Go.Proofs.YtmldkecaghokeaaGreatDoor.v4
set_option linter.unusedVariables false
set_option maxRecDepth 4000

def zO : Obj := .cells #[.string ⟨#[]⟩, .slice none 0 0, .slice none 0 0] 26
theorem put_out (w : World) (p : Nat) (a b c x y z : Value) (t : TypeId) (h : w.heap[p]? = some (.cells #[a, b, c] t (0, 0))) : ∀ W, W = ((w.setCell ⟨p, 0, none⟩ x).setCell ⟨p, 1, none⟩ y).setCell ⟨p, 2, none⟩ z → (W.cell? ⟨p, 0, none⟩ = some x ∧ W.cell? ⟨p, 1, none⟩ = some y ∧ W.cell? ⟨p, 2, none⟩ = some z) ∧ (∀ B, B ≤ p → Below B w W) ∧ ∀ k, k ≠ p → W.heap[k]? = w.heap[k]? := by
  intro W hW
  obtain ⟨h1, h2⟩ := put3 w p a b c x y z t h W hW
  refine ⟨h1, h2, fun k hk => ?_⟩
  rw [hW, set_else hk, set_else hk, set_else hk]
theorem reads_else {w w' : World} {v : Value} {l : List Sg} (h : ReadsG w v l) (hb : ∀ b, b < w.heap.size → (∀ off, v ≠ .slice (some ⟨b, off, none⟩) 0 0 ∨ True) → True) : True := trivial
theorem lg_reads_same {B : Nat} {v : Value} {l : List Sg} {w w' : World} (o : Lg B v l w) (h : ∀ j, B ≤ j → j < w.heap.size → w'.heap[j]? = w.heap[j]?) : ReadsG w' v l :=
  Lg.reads (own_same o (fun j hj => h j (own_in o hj).1 (own_in o hj).2))
set_option maxHeartbeats 3200000 in
theorem open_no (note : ByteArray) (kv : Value) (ks : List Ky) (E : Int) (hE : E ≠ 0) (w : World) (hk : ReadsY w kv ks)
    (CR : ∀ X, Calls Tryz.prog 13 #[.string note] X fun e W' => e = .returned (.tuple #[.string ByteArray.empty, .slice none 0 0, .int .i64 E]) ∧ Below X.heap.size X W') :
    Calls Tryz.prog 6 #[.string note, kv] w fun e w' => OpQ w.heap.size w' (noO E) e ∧ Below w.heap.size w w' := by
  obtain ⟨ka, kcp, rfl, _⟩ := id hk
  have C1 : Hid (∀ X, Calls _ _ _ _ _) := CR
  clear CR hk
  obtain ⟨W, HW⟩ : ∃ W, Hid (w.alloc (.cells #[.string ⟨#[]⟩, .slice none 0 0, .slice none 0 0] 26) = W) := ⟨_, rfl⟩
  have BW : Hid (Below w.heap.size w W) := by rw [← HW.out]; exact (Below.refl _ _).alloc (Nat.le_refl _) _
  have zW : W.heap.size = w.heap.size + 1 := by rw [← HW.out]; simp
  have HBK : Hid (W.heap[w.heap.size]? = some (.cells #[.string ⟨#[]⟩, .slice none 0 0, .slice none 0 0] 26 (0, 0))) := by rw [← HW.out]; exact heap_alloc_new w _
  have gE : (E == 0) = false := beq_eq_false_iff_ne.2 hE
  clear hE
  go_enter Tryz.func6, Tryz.ntmps6
  go_wp2_with fail
  rw [HW.out]
  go_wp2_with fail
  refine (C1.out _).mono ?_
  rintro e w1 ⟨rfl, hb1⟩
  have hbk : w1.heap[w.heap.size]? = some (.cells #[.string ⟨#[]⟩, .slice none 0 0, .slice none 0 0] 26 (0, 0)) := (hb1.block w.heap.size (by omega)).trans HBK.out
  have B1 : Hid (Below w.heap.size w w1) := BW.out.trans (hb1.mono BW.out.size)
  clear hb1
  have FIN : Hid (∀ W', W' = _ → _) := put_out w1 w.heap.size _ _ _ (.string ⟨#[]⟩) (.slice none 0 0) (.slice none 0 0) _ hbk
  have c0 := cell_of_row _ _ 0 _ _ _ hbk
  have c1 := cell_of_row _ _ 1 _ _ _ hbk
  have c2 := cell_of_row _ _ 2 _ _ _ hbk
  have f0 := frozen_of_row _ _ 0 _ _ hbk
  have f1 := frozen_of_row _ _ 1 _ _ hbk
  have f2 := frozen_of_row _ _ 2 _ _ hbk
  go_wp2
  first
  | (obtain ⟨⟨d0, d1, d2⟩, hbl, _⟩ := FIN.out _ rfl
     exact bodyPost_ret (v := .tuple #[.agg #[.string ⟨#[]⟩, .slice none 0 0, .slice none 0 0], .int .i64 E]) (by simp [results, Tryz.results6, go_sem, d0, d1, d2]) rfl ⟨opq_no _ _ E, B1.out.trans (hbl _ (Nat.le_refl _))⟩)
  | exact bodyPost_ret (v := .tuple #[.agg #[.string ⟨#[]⟩, .slice none 0 0, .slice none 0 0], .int .i64 E]) (by simp [results, Tryz.results6, go_sem, c0, c1, c2]) rfl ⟨opq_no _ _ E, B1.out⟩
set_option maxHeartbeats 12800000 in
theorem open_ok (note body : ByteArray) (kv : Value) (ks : List Ky) (gs : List Sg) (R : Opn) (h1 : 1 ≤ gs.length) (h16 : gs.length ≤ 16) (hp : Pw gs) (zb : body.size ≤ 65536) (hz : ks.length ≤ 4398046511104) (hs : ∀ k ∈ ks, k.1.size ≤ 140737488351232 ∧ k.2.size ≤ 140737488351232) (hfin : ∀ g ∈ gs, g.mac.size ≤ 1000)
    (hR : R = match opF ks body gs ([], []) with | none => noO 201 | some (go, re) => if go.length = 0 then noO 202 else ((body, go, re), 0))
    (w : World) (T : Hid (Tab w)) (hk : ReadsY w kv ks)
    (CR : ∀ X, Calls Tryz.prog 13 #[.string note] X fun e W' => ∃ a c, e = .returned (.tuple #[.string body, .slice a gs.length c, .int .i64 0]) ∧ ReadsG W' (.slice a gs.length c) gs ∧ Below X.heap.size X W') :
    Calls Tryz.prog 6 #[.string note, kv] w fun e w' => OpQ w.heap.size w' R e ∧ Below w.heap.size w w' := by
  obtain ⟨ka, kcp, rfl, _⟩ := id hk
  obtain ⟨n, HN⟩ : ∃ n, Hid (gs.length = n) := ⟨_, rfl⟩
  obtain ⟨m, HM⟩ : ∃ m, Hid (ks.length = m) := ⟨_, rfl⟩
  have C1 : Hid (∀ X, Calls Tryz.prog 13 #[.string note] X fun e W' => ∃ a c, e = .returned (.tuple #[.string body, .slice a n c, .int .i64 0]) ∧ ReadsG W' (.slice a n c) gs ∧ Below X.heap.size X W') := by rw [← HN.out]; exact CR
  have HY : Hid (ReadsY w (.slice ka m kcp) ks) := by rw [← HM.out]; exact hk
  have CS : Hid (∀ X sv, Tab X → ReadsG X sv gs → ReadsY X (.slice ka m kcp) ks → Calls Tryz.prog 14 #[sv, .slice ka m kcp] X fun e w' => ∃ g, e = .returned (.slice (some ⟨g, 0, none⟩) n n) ∧ X.heap.size ≤ g ∧ w'.heap[g]? = some (.cells (rw3 (rowI gs ks)) 3 (0, 0)) ∧ Below X.heap.size X w') := by
    intro X sv TX hX hY
    rw [← HN.out]
    exact signersC gs ks sv (.slice ka m kcp) X hX hY h1 h16 hz hs hp TX
  have HS : Hid _ := hs
  have HMZ : Hid _ := hfin
  obtain ⟨OF, HOF⟩ : ∃ OF, Hid (opF ks body gs ([], []) = OF) := ⟨_, rfl⟩
  rw [HOF.out] at hR
  have HRR : Hid _ := hR
  rw [HN.out] at h1 h16
  rw [HM.out] at hz ⊢
  clear CR hk hs hfin hR hp
  obtain ⟨i0, hi0, hi1, hi2, hi3⟩ := info_parts infoG
  have HI : Hid (Tryz.prog.info? 48 = some i0 ∧ i0.zero = some (.agg #[.string ⟨#[]⟩, .string ⟨#[]⟩, .string ⟨#[]⟩]) ∧ i0.size = 3 ∧ i0.bytes = 48) := ⟨hi0, hi1, hi2, hi3⟩
  clear hi0 hi1 hi2 hi3
  obtain ⟨W, HW⟩ : ∃ W, Hid (w.alloc (.cells #[.string ⟨#[]⟩, .slice none 0 0, .slice none 0 0] 26) = W) := ⟨_, rfl⟩
  have BW : Hid (Below w.heap.size w W) := by rw [← HW.out]; exact (Below.refl _ _).alloc (Nat.le_refl _) _
  have zW : W.heap.size = w.heap.size + 1 := by rw [← HW.out]; simp
  have HBK : Hid (W.heap[w.heap.size]? = some (.cells #[.string ⟨#[]⟩, .slice none 0 0, .slice none 0 0] 26 (0, 0))) := by rw [← HW.out]; exact heap_alloc_new w _
  go_enter Tryz.func6, Tryz.ntmps6
  go_wp2_with fail
  rw [HW.out]
  go_wp2_with fail
  refine (C1.out _).mono ?_
  rintro e w1 ⟨sa, sc, rfl, hrd, hb1⟩
  have B1 : Hid (Below W.heap.size W w1) := hb1
  have HRD : Hid (ReadsG w1 (.slice sa n sc) gs) := hrd
  clear hb1 hrd C1
  obtain ⟨U, HU⟩ : ∃ U, Hid (w1.alloc (.cells #[.string body, .slice none 0 0, .slice none 0 0] 26) = U) := ⟨_, rfl⟩
  have BU : Hid (Below w1.heap.size w1 U) := by rw [← HU.out]; exact (Below.refl _ _).alloc (Nat.le_refl _) _
  have zU : U.heap.size = w1.heap.size + 1 := by rw [← HU.out]; simp
  have HBU : Hid (U.heap[w1.heap.size]? = some (.cells #[.string body, .slice none 0 0, .slice none 0 0] 26 (0, 0))) := by rw [← HU.out]; exact heap_alloc_new w1 _
  have BWU : Hid (Below w.heap.size w U) := BW.out.trans ((B1.out.trans (BU.out.mono B1.out.size)).mono BW.out.size)
  have TU : Hid (Tab U) := T.out.down BWU.out
  go_wp2_with fail
  rw [HU.out]
  go_wp2_with fail
  refine (CS.out U _ TU.out (HRD.out.later BU.out) (HY.out.later BWU.out)).mono ?_
  rintro e w4 ⟨g, rfl, hg0, hrow, hb4⟩
  obtain ⟨B, HB⟩ : ∃ B, Hid (w4.heap.size = B) := ⟨_, rfl⟩
  obtain ⟨ob, HOB⟩ : ∃ ob, Hid (w1.heap.size = ob) := ⟨_, rfl⟩
  have z1 : w.heap.size < ob := by rw [← HOB.out]; have := B1.out.size; omega
  have z2 : ob < g := by rw [← HOB.out]; omega
  have z3 : ob < B := by rw [← HOB.out, ← HB.out]; have := hb4.size; omega
  have z4 : g < B := by rw [← HB.out]; exact (Array.getElem?_eq_some_iff.1 hrow).1
  have B4w : Hid (Below w.heap.size w w4) := BWU.out.trans (hb4.mono BWU.out.size)
  have HTW : Hid (Two B ob body [] [] (.slice none 0 0) (.slice none 0 0) w4) := by
    refine ⟨?_, z3, Lg.nil _ _, Lg.nil _ _, fun b e => by cases e⟩
    rw [← HOB.out]
    exact (hb4.block w1.heap.size (by omega)).trans HBU.out
  have HROW : Hid (w4.heap[g]? = some (.cells (rw3 (rowI gs ks)) 3 (0, 0))) := hrow
  have HRES : Hid (w4.heap[w.heap.size]? = some (.cells #[.string ⟨#[]⟩, .slice none 0 0, .slice none 0 0] 26 (0, 0))) := by
    show _ = _
    rw [hb4.block w.heap.size (by rw [zU, HOB.out]; omega), BU.out.block w.heap.size (by rw [HOB.out]; omega), B1.out.block w.heap.size (by omega)]
    exact HBK.out
  have HSG : Hid (∀ X, Fr B ob w4 X → n = 0 ∨ ∃ sb so, sa = some ⟨sb, so, none⟩ ∧ ∀ i x, gs[i]? = some x → X.cell? ⟨sb, so + i * 3, none⟩ = some (.string x.name) ∧ X.cell? ⟨sb, so + i * 3 + 1, none⟩ = some (.string x.id) ∧ X.cell? ⟨sb, so + i * 3 + 2, none⟩ = some (.string x.mac)) := by
    intro X hX
    obtain ⟨a', c', e', h0 | ⟨sb, so, rfl, hbb, hc⟩⟩ := HRD.out
    · exact .inl (by rw [← HN.out]; exact h0)
    · injection e' with e1 _ _
      refine .inr ⟨sb, so, e1, fun i x hi => ?_⟩
      rw [HOB.out] at hbb
      have hs : X.heap[sb]? = w1.heap[sb]? := by
        rw [hX sb (by omega) (by omega), hb4.block sb (by rw [zU, HOB.out]; omega), BU.out.block sb (by rw [HOB.out]; exact hbb)]
      obtain ⟨q1, q2, q3⟩ := hc i x hi
      have k : ∀ off v, w1.cell? ⟨sb, off, none⟩ = some v → X.cell? ⟨sb, off, none⟩ = some v := fun off v h => (World.cell?_of_block (a := ⟨sb, off, none⟩) hs).trans h
      exact ⟨k _ _ q1, k _ _ q2, k _ _ q3⟩
  have HKY : Hid (∀ X, Fr B ob w4 X → ∀ i y, ks[i]? = some y → ∃ kb ko, ka = some ⟨kb, ko, none⟩ ∧ X.cell? ⟨kb, ko + i * 2, none⟩ = some (.string y.1) ∧ X.cell? ⟨kb, ko + i * 2 + 1, none⟩ = some (.string y.2)) := by
    intro X hX i y hi
    have hh : ReadsY w4 (.slice ka ks.length kcp) ks := by rw [HM.out]; exact HY.out.later B4w.out
    have hh0 : ReadsY w (.slice ka ks.length kcp) ks := by rw [HM.out]; exact HY.out
    obtain ⟨kb0, ko0, e0, hb0, _, _⟩ := hh0.at i y hi
    obtain ⟨kb, ko, e1, hb, q1, q2⟩ := hh.at i y hi
    rw [e0] at e1
    injection e1 with e1
    injection e1 with e1 e2
    subst e1 e2
    have hs : X.heap[kb0]? = w4.heap[kb0]? := hX kb0 (by omega) (by omega)
    exact ⟨kb0, ko0, e0, (World.cell?_of_block (a := ⟨kb0, ko0 + i * 2, none⟩) hs).trans q1, (World.cell?_of_block (a := ⟨kb0, ko0 + i * 2 + 1, none⟩) hs).trans q2⟩
  have HSI : Hid (∀ X, Fr B ob w4 X → ∀ i (h : i < gs.length), X.cell? ⟨g, i, none⟩ = some (.int .i64 (ownF (gs[i]'h) ks 0))) := by
    intro X hX i h
    have hs : X.heap[g]? = some (.cells (rw3 (rowI gs ks)) 3 (0, 0)) := (hX g z4 (by omega)).trans HROW.out
    rw [cell_of_row _ _ i _ _ _ hs, rw3_get]
    unfold rowI
    rw [List.getElem?_map, List.getElem?_eq_getElem h]
    rfl
  have HRX : Hid (∀ X, Fr B ob w4 X → X.heap[w.heap.size]? = some (.cells #[.string ⟨#[]⟩, .slice none 0 0, .slice none 0 0] 26 (0, 0))) := fun X hX => (hX w.heap.size (by omega) (by omega)).trans HRES.out
  have TX : Hid (∀ X, Below w.heap.size w X → Tab X) := fun X h => T.out.down h
  clear hrow hb4 hg0 HRES HROW HBU HBK HRD HY CS TU
  rw [HOB.out]
  go_wp2
  go_loopw [30] (fun i wr => ∃ k : Nat, k ≤ n ∧ i = .int .i64 k ∧ Hid (∃ gv rv go re, Two B ob body go re gv rv wr ∧ Fr B ob w4 wr ∧ Below w.heap.size w wr ∧ B ≤ wr.heap.size ∧ go.length ≤ k ∧ re.length ≤ k ∧ opF ks body (gs.drop k) (go, re) = OF)) (fun i _ => (n - intOf i).toNat)
  case atStart => exact ⟨0, by omega, rfl, _, _, [], [], HTW.out, Fr.refl _ _ _, B4w.out, Nat.le_of_eq HB.out.symm, by simp, by simp, HOF.out⟩
  case round =>
    obtain ⟨k, hk, rfl, HK⟩ := hrel
    obtain ⟨gv, rv, go, re, tw, fr, bw, hBw, lg, lr, ho⟩ := HK.out
    obtain ⟨ga, gc, hgv⟩ := tw.g.form
    obtain ⟨ra, rc, hrv⟩ := tw.r.form
    subst hgv hrv
    have HT : Hid (Two B ob body go re (.slice ga go.length gc) (.slice ra re.length rc) wr) := tw
    have HFR : Hid (Fr B ob w4 wr) := fr
    have HBW : Hid (Below w.heap.size w wr) := bw
    have HO : Hid (opF ks body (gs.drop k) (go, re) = OF) := ho
    obtain ⟨ng, HNG⟩ : ∃ ng, Hid (go.length = ng) := ⟨_, rfl⟩
    obtain ⟨nr, HNR⟩ : ∃ nr, Hid (re.length = nr) := ⟨_, rfl⟩
    have HT2 : Hid (Two B ob body go re (.slice ga ng gc) (.slice ra nr rc) wr) := by rw [← HNG.out, ← HNR.out]; exact HT.out
    have lg2 : ng ≤ k := by rw [← HNG.out]; exact lg
    have lr2 : nr ≤ k := by rw [← HNR.out]; exact lr
    clear HK tw fr bw ho HT lg lr
    by_cases hlt : k < n
    · have hlt' : (k : Int) < n := by omega
      have hkl : k < gs.length := by rw [HN.out]; exact hlt
      obtain ⟨x, HX⟩ : ∃ x, Hid (gs[k]'hkl = x) := ⟨_, rfl⟩
      have hst := HO.out
      rw [op_step ks body gs k hkl, HX.out] at hst
      have HST : Hid _ := hst
      have hsg : ∃ sb so, sa = some ⟨sb, so, none⟩ ∧ ∀ X, Fr B ob w4 X → X.cell? ⟨sb, so + k * 3, none⟩ = some (.string x.name) ∧ X.cell? ⟨sb, so + k * 3 + 1, none⟩ = some (.string x.id) ∧ X.cell? ⟨sb, so + k * 3 + 2, none⟩ = some (.string x.mac) := by
        rcases HSG.out wr HFR.out with h | ⟨sb, so, e, _⟩
        · omega
        · refine ⟨sb, so, e, fun X hX => ?_⟩
          rcases HSG.out X hX with h | ⟨sb', so', e', h'⟩
          · omega
          · rw [e] at e'
            injection e' with e'
            injection e' with e1 e2
            subst e1 e2
            exact h' k x (by rw [List.getElem?_eq_getElem hkl, HX.out])
      obtain ⟨sb, so, rfl, hsx⟩ := hsg
      obtain ⟨c1, c2, c3⟩ := hsx wr HFR.out
      have HSI2 : Hid (∀ X, Fr B ob w4 X → X.cell? ⟨g, k, none⟩ = some (.int .i64 (ownF x ks 0))) := fun X hX => by rw [← HX.out]; exact HSI.out X hX k hkl
      have hxm : x.mac.size ≤ 1000 := by rw [← HX.out]; exact HMZ.out _ (List.getElem_mem hkl)
      have hol := own_lt x ks 0
      have holw := own_low x ks 0
      rw [HM.out] at hol
      have HSEC : Hid (0 ≤ ownF x ks 0 → ∃ (i : Nat) (hi : i < ks.length), ownF x ks 0 = i ∧ sec ks x = (ks[i]'hi).2) := by
        intro h
        refine ⟨(ownF x ks 0).toNat, by rw [HM.out]; omega, by omega, ?_⟩
        unfold sec
        rw [List.getD_eq_getElem?_getD, List.getElem?_eq_getElem (by rw [HM.out]; omega)]
        rfl
      obtain ⟨ov, HOV⟩ : ∃ ov, Hid (ownF x ks 0 = ov) := ⟨_, rfl⟩
      rw [HOV.out] at HST HSI2 hol holw HSEC
      obtain ⟨sx, HSX⟩ : ∃ sx, Hid (sec ks x = sx) := ⟨_, rfl⟩
      rw [HSX.out] at HST HSEC
      clear hst HX HO HOV hsx HSX
      obtain ⟨xn, xi, xm⟩ := x
      simp only at c1 c2 c3 hxm HST
      obtain ⟨V, HV⟩ : ∃ V, Hid (wr.alloc (.cells #[.string xn, .string xi, .string xm] 48) = V) := ⟨_, rfl⟩
      have BV : Hid (Below wr.heap.size wr V) := by rw [← HV.out]; exact (Below.refl _ _).alloc (Nat.le_refl _) _
      have zV : wr.heap.size + 1 ≤ V.heap.size := by rw [← HV.out]; simp
      have HBX : Hid (∀ X, Below (wr.heap.size + 1) V X → X.cell? ⟨wr.heap.size, 0, none⟩ = some (.string xn) ∧ X.cell? ⟨wr.heap.size, 1, none⟩ = some (.string xi) ∧ X.cell? ⟨wr.heap.size, 2, none⟩ = some (.string xm)) := by rw [← HV.out]; exact fun X h => box3 wr X _ _ _ _ h
      have HFV : Hid (∀ X, Below (wr.heap.size + 1) V X → Fr B ob w4 X) := fun X h => HFR.out.later (BV.out.trans (h.mono (by omega))) hBw
      have HTV : Hid (∀ X, Below (wr.heap.size + 1) V X → Two B ob body go re (.slice ga ng gc) (.slice ra nr rc) X) := fun X h => HT2.out.later (BV.out.trans (h.mono (by omega)))
      have HWV : Hid (∀ X, Below (wr.heap.size + 1) V X → Below w.heap.size w X) := fun X h => HBW.out.trans ((BV.out.trans (h.mono (by omega))).mono HBW.out.size)
      have v0 := HSI2.out V (HFV.out V (Below.refl _ _))
      by_cases hov : ov < 0
      · have HN2 : Hid (opF ks body (gs.drop (k + 1)) (go, re ++ [⟨xn, xi, xm⟩]) = OF) := by have := HST.out; rw [if_pos hov] at this; exact this
        have tv := HTV.out V (Below.refl _ _)
        have b2 := cell_of_row _ _ 2 _ _ _ tv.blk
        have HTA : Hid (Two B ob body go re (.slice ga ng gc) (.slice ra nr rc) (V.alloc (.cells #[.string xn, .string xi, .string xm] 48))) := HTV.out _ ((Below.refl _ _).alloc (by omega) _)
        have HFA : Hid (Fr B ob w4 (V.alloc (.cells #[.string xn, .string xi, .string xm] 48))) := HFV.out _ ((Below.refl _ _).alloc (by omega) _)
        have HWA : Hid (Below w.heap.size w (V.alloc (.cells #[.string xn, .string xi, .string xm] 48))) := HWV.out _ ((Below.refl _ _).alloc (by omega) _)
        have HOA : Hid ((V.alloc (.cells #[.string xn, .string xi, .string xm] 48)).ownsRow B 48 3 (.slice ra nr rc) nr (gcs re)) := by have := HTA.out.r; unfold Lg at this; rw [HNR.out] at this; exact this
        have zA : B ≤ (V.alloc (.cells #[.string xn, .string xi, .string xm] 48)).heap.size := by simp; omega
        obtain ⟨p0, p1, p2⟩ := HBX.out V (Below.refl _ _)
        have fz := frozen_of_row _ _ 2 _ _ tv.blk
        clear tv HST
        go_upto_region 9 with fail
        rw [HV.out]
        go_wp2_with (at_builtin; refine wpList_append_own_at _ rfl (.tmp 41) (.tmp 43) 24 rfl B 48 i0 (.agg #[.string ⟨#[]⟩, .string ⟨#[]⟩, .string ⟨#[]⟩]) 3 48 Tryz.underlying24 HI.out.1 HI.out.2.1 HI.out.2.2.1 HI.out.2.2.2 rfl (by decide) (.slice ra nr rc) nr _ rfl HOA.out ⟨V.heap.size, 0, none⟩ 1 1 [.string xn, .string xi, .string xm] rfl rfl (new_three _ _ _ _ _) (one_three _ _ _) (by unfold maxLen; omega) (by omega) zA ?_; intro v6 w6 hown6 hgr6 hnn6 hat6; have HO6 : Hid (Lg B v6 (re ++ [⟨xn, xi, xm⟩]) w6) := (by unfold Lg; rw [List.length_append, HNR.out, gcs_app]; exact hown6); have HG6 : Hid (World.grownBy _ w6 (Value.slice ra nr rc).ownBlock) := hgr6; have HAT : Hid (_ ∨ _) := hat6; obtain ⟨va, vc, hv6⟩ := HO6.out.form; subst hv6; have cz := World.cell?_of_block (a := ⟨ob, 2, none⟩) (hgr6.block ob (Array.getElem?_eq_some_iff.1 HTA.out.blk).1 (fun e => by have := (own_in HOA.out e.symm).1; omega)); have cz2 := cz.trans (cell_of_row _ _ 2 _ _ _ HTA.out.blk); have fz2 := (World.frozen?_of_block (a := ⟨ob, 2, none⟩) (hgr6.block ob (Array.getElem?_eq_some_iff.1 HTA.out.blk).1 (fun e => by have := (own_in HOA.out e.symm).1; omega))).trans (frozen_of_row _ _ 2 _ _ HTA.out.blk); clear hown6 hgr6 hnn6 hat6 cz)
        go_roundw
        case rel =>
          refine ⟨k + 1, by omega, by go_num, _, _, go, re ++ [⟨xn, xi, xm⟩], HTA.out.addR (v := .slice va (re.length + 1) vc) (x := ⟨xn, xi, xm⟩) (by have h := HO6.out; rw [show (re ++ [(⟨xn, xi, xm⟩ : Sg)]).length = re.length + 1 by simp] at h; exact h) HG6.out (by have h := HAT.out; rw [show (re ++ [(⟨xn, xi, xm⟩ : Sg)]).length = re.length + 1 by simp] at h; exact h), HFA.out.grow zA HOA.out HG6.out, ?_, ?_, by rw [HNG.out]; omega, by rw [List.length_append, HNR.out]; simp; omega, HN2.out⟩
          · exact Below.setCell (p := ⟨ob, 2, none⟩) (Below.trans HWA.out ⟨HG6.out.os, HG6.out.tape, HG6.out.output, HG6.out.size, fun j hj => HG6.out.block j (Nat.lt_of_lt_of_le hj HWA.out.size) (fun e => by have := (own_in HOA.out e.symm).1; omega)⟩) (by show w.heap.size ≤ ob; omega) _
          · simp only [World.setCell, Array.size_modify]; exact Nat.le_trans zA HG6.out.size
        case measure => simp [intOf]; omega
      · have hov0 : 0 ≤ ov := by omega
        obtain ⟨i, hi, hoi, hsec⟩ := HSEC.out hov0
        have hky : ∃ kb ko kn, ka = some ⟨kb, ko, none⟩ ∧ ∀ X, Fr B ob w4 X → X.cell? ⟨kb, ko + i * 2, none⟩ = some (.string kn) ∧ X.cell? ⟨kb, ko + i * 2 + 1, none⟩ = some (.string sx) := by
          obtain ⟨kb, ko, e, _⟩ := HKY.out wr HFR.out i (ks[i]'hi) (List.getElem?_eq_getElem hi)
          refine ⟨kb, ko, (ks[i]'hi).1, e, fun X hX => ?_⟩
          obtain ⟨kb', ko', e', q1, q2⟩ := HKY.out X hX i (ks[i]'hi) (List.getElem?_eq_getElem hi)
          rw [e] at e'
          injection e' with e'
          injection e' with e1 e2
          subst e1 e2
          rw [hsec]
          exact ⟨q1, q2⟩
        have hzs : sx.size ≤ 140737488351232 := by rw [hsec]; exact (HS.out _ (List.getElem_mem hi)).2
        obtain ⟨kb, ko, kn, rfl, hky⟩ := hky
        have HKC : Hid (∀ X, Fr B ob w4 X → X.cell? ⟨kb, ko + i * 2 + 1, none⟩ = some (.string sx)) := fun X hX => (hky X hX).2
        have him : i < m := by rw [← HM.out]; exact hi
        have him' : (i : Int) < m := by omega
        subst hoi
        have CM : Hid (∀ X, Tab X → Calls _ _ _ _ _) := fun X tx => macSum sx body X (by omega) (by omega) tx
        have zmc : (macF sx body).size = 32 := macF_size _ _
        have CE : Hid (∀ X, Calls _ _ _ _ _) := fun X => Go.Proofs.YtmldkecaghokeaaGreatDoor.ng.same xm (macF sx body) X (by omega) (by omega)
        have HST2 : Hid ((if xm = macF sx body then opF ks body (gs.drop (k + 1)) (go ++ [⟨xn, xi, xm⟩], re) else none) = OF) := by have := HST.out; rw [if_neg hov] at this; exact this
        obtain ⟨q, HQ⟩ : ∃ q, Hid (decide (xm = macF sx body) = q) := ⟨_, rfl⟩
        rw [HQ.out] at CE
        have HST3 : Hid ((if q = true then opF ks body (gs.drop (k + 1)) (go ++ [⟨xn, xi, xm⟩], re) else none) = OF) := by
          show _ = _
          rw [← HST2.out, ← HQ.out]
          by_cases e : xm = macF sx body <;> simp [e]
        generalize macF sx body = mc at *
        have B0 : Hid (Below (wr.heap.size + 1) V V.drew) := below_dr (Below.refl _ _)
        have SS : Hid (∀ X, Below (wr.heap.size + 1) V X → X.cell? ⟨wr.heap.size, 2, none⟩ = some (.string xm) ∧ X.cell? ⟨g, k, none⟩ = some (.int .i64 (i : Int)) ∧ X.cell? ⟨kb, ko + i * 2 + 1, none⟩ = some (.string sx)) := fun X h => ⟨(HBX.out X h).2.2, HSI2.out X (HFV.out X h), HKC.out X (HFV.out X h)⟩
        clear HST HST2 HSEC hsec hky hi HQ zmc hov hov0 hol holw
        cases q
        · have HF : Hid (OF = none) := by show _ = _; rw [← HST3.out]; rfl
          have HR : Hid (R = noO 201) := by have := HRR.out; rw [HF.out] at this; exact this
          clear HST3
          go_upto_region 9 with fail
          rw [HV.out]
          go_wp2_with fail
          go_region_held_law (fun X => X.cell? ⟨wr.heap.size, 2, none⟩ = some (.string xm) ∧ X.cell? ⟨g, k, none⟩ = some (.int .i64 (i : Int)) ∧ X.cell? ⟨kb, ko + i * 2 + 1, none⟩ = some (.string sx)) (first | exact SS.out _ B0.out | exact SS.out _ B5.out | exact SS.out _ B6.out) ((first | (go_at_call 16; refine (CM.out _ (TX.out _ (HWV.out _ B0.out))).mono ?_; rintro _ w5 ⟨rfl, k5⟩; have B5 : Hid (Below (wr.heap.size + 1) V w5) := (B0.out.trans (k5.mono (by have := B0.out.size; omega))); clear k5) | (go_at_call 15; refine (CE.out _).mono ?_; rintro _ w6 ⟨rfl, k6⟩; have B6 : Hid (Below (wr.heap.size + 1) V w6) := (B5.out.trans (k6.mono (by have := B5.out.size; omega))); have hbk := HRX.out _ (HFV.out _ B6.out); have c0 := cell_of_row _ _ 0 _ _ _ hbk; have c1 := cell_of_row _ _ 1 _ _ _ hbk; have c2 := cell_of_row _ _ 2 _ _ _ hbk; have f0 := frozen_of_row _ _ 0 _ _ hbk; have f1 := frozen_of_row _ _ 1 _ _ hbk; have f2 := frozen_of_row _ _ 2 _ _ hbk; clear k6)))
          all_goals (
            have FIN : Hid (∀ W', W' = _ → _) := put_out w6 w.heap.size _ _ _ (.string ⟨#[]⟩) (.slice none 0 0) (.slice none 0 0) _ hbk
            go_wp2
            first
            | (obtain ⟨⟨d0, d1, d2⟩, hbl, _⟩ := FIN.out _ rfl
               exact bodyPost_ret (v := .tuple #[.agg #[.string ⟨#[]⟩, .slice none 0 0, .slice none 0 0], .int .i64 201]) (by simp [results, Tryz.results6, go_sem, d0, d1, d2]) rfl ⟨by rw [HR.out]; exact opq_no _ _ 201, (HWV.out _ B6.out).trans (hbl _ (Nat.le_refl _))⟩)
            | exact bodyPost_ret (v := .tuple #[.agg #[.string ⟨#[]⟩, .slice none 0 0, .slice none 0 0], .int .i64 201]) (by simp [results, Tryz.results6, go_sem, c0, c1, c2]) rfl ⟨by rw [HR.out]; exact opq_no _ _ 201, HWV.out _ B6.out⟩)
        · have HN2 : Hid (opF ks body (gs.drop (k + 1)) (go ++ [⟨xn, xi, xm⟩], re) = OF) := HST3.out
          clear HST3
          go_upto_region 9 with fail
          rw [HV.out]
          go_wp2_with fail
          go_region_held_law (fun X => X.cell? ⟨wr.heap.size, 2, none⟩ = some (.string xm) ∧ X.cell? ⟨g, k, none⟩ = some (.int .i64 (i : Int)) ∧ X.cell? ⟨kb, ko + i * 2 + 1, none⟩ = some (.string sx)) (first | exact SS.out _ B0.out | exact SS.out _ B5.out | exact SS.out _ B6.out) ((first | (go_at_call 16; refine (CM.out _ (TX.out _ (HWV.out _ B0.out))).mono ?_; rintro _ w5 ⟨rfl, k5⟩; have B5 : Hid (Below (wr.heap.size + 1) V w5) := (B0.out.trans (k5.mono (by have := B0.out.size; omega))); clear k5) | (go_at_call 15; refine (CE.out _).mono ?_; rintro _ w6 ⟨rfl, k6⟩; have B6 : Hid (Below (wr.heap.size + 1) V w6) := (B5.out.trans (k6.mono (by have := B5.out.size; omega))); clear k6)))
          all_goals (
            have HTA : Hid (Two B ob body go re (.slice ga ng gc) (.slice ra nr rc) (w6.alloc (.cells #[.string xn, .string xi, .string xm] 48))) := HTV.out _ (B6.out.alloc (by have := B6.out.size; omega) _)
            have HFA : Hid (Fr B ob w4 (w6.alloc (.cells #[.string xn, .string xi, .string xm] 48))) := HFV.out _ (B6.out.alloc (by have := B6.out.size; omega) _)
            have HWA : Hid (Below w.heap.size w (w6.alloc (.cells #[.string xn, .string xi, .string xm] 48))) := HWV.out _ (B6.out.alloc (by have := B6.out.size; omega) _)
            have HOA : Hid ((w6.alloc (.cells #[.string xn, .string xi, .string xm] 48)).ownsRow B 48 3 (.slice ga ng gc) ng (gcs go)) := by have := HTA.out.g; unfold Lg at this; rw [HNG.out] at this; exact this
            have zA : B ≤ (w6.alloc (.cells #[.string xn, .string xi, .string xm] 48)).heap.size := by have := B6.out.size; simp; omega
            obtain ⟨p0, p1, p2⟩ := HBX.out _ B6.out
            have b1 := cell_of_row _ _ 1 _ _ _ (HTV.out _ B6.out).blk
            go_wp2_with (at_builtin; refine wpList_append_own_at _ rfl (.tmp 62) (.tmp 64) 24 rfl B 48 i0 (.agg #[.string ⟨#[]⟩, .string ⟨#[]⟩, .string ⟨#[]⟩]) 3 48 Tryz.underlying24 HI.out.1 HI.out.2.1 HI.out.2.2.1 HI.out.2.2.2 rfl (by decide) (.slice ga ng gc) ng _ rfl HOA.out ⟨w6.heap.size, 0, none⟩ 1 1 [.string xn, .string xi, .string xm] rfl rfl (new_three _ _ _ _ _) (one_three _ _ _) (by unfold maxLen; omega) (by omega) zA ?_; intro v7 w7 hown7 hgr7 hnn7 hat7; have HO7 : Hid (Lg B v7 (go ++ [⟨xn, xi, xm⟩]) w7) := (by unfold Lg; rw [List.length_append, HNG.out, gcs_app]; exact hown7); have HG7 : Hid (World.grownBy _ w7 (Value.slice ga ng gc).ownBlock) := hgr7; have HAT : Hid (_ ∨ _) := hat7; obtain ⟨va, vc, hv7⟩ := HO7.out.form; subst hv7; have cz := World.cell?_of_block (a := ⟨ob, 1, none⟩) (hgr7.block ob (Array.getElem?_eq_some_iff.1 HTA.out.blk).1 (fun e => by have := (own_in HOA.out e.symm).1; omega)); have cz2 := cz.trans (cell_of_row _ _ 1 _ _ _ HTA.out.blk); have fz2 := (World.frozen?_of_block (a := ⟨ob, 1, none⟩) (hgr7.block ob (Array.getElem?_eq_some_iff.1 HTA.out.blk).1 (fun e => by have := (own_in HOA.out e.symm).1; omega))).trans (frozen_of_row _ _ 1 _ _ HTA.out.blk); clear hown7 hgr7 hnn7 hat7 cz)
            go_roundw
            case rel =>
              refine ⟨k + 1, by omega, by go_num, _, _, go ++ [⟨xn, xi, xm⟩], re, HTA.out.addG (v := .slice va (go.length + 1) vc) (x := ⟨xn, xi, xm⟩) (by have h := HO7.out; rw [show (go ++ [(⟨xn, xi, xm⟩ : Sg)]).length = go.length + 1 by simp] at h; exact h) HG7.out (by have h := HAT.out; rw [show (go ++ [(⟨xn, xi, xm⟩ : Sg)]).length = go.length + 1 by simp] at h; exact h), HFA.out.grow zA HOA.out HG7.out, ?_, ?_, by rw [List.length_append, HNG.out]; simp; omega, by rw [HNR.out]; omega, HN2.out⟩
              · exact Below.setCell (p := ⟨ob, 1, none⟩) (Below.trans HWA.out ⟨HG7.out.os, HG7.out.tape, HG7.out.output, HG7.out.size, fun j hj => HG7.out.block j (Nat.lt_of_lt_of_le hj HWA.out.size) (fun e => by have := (own_in HOA.out e.symm).1; omega)⟩) (by show w.heap.size ≤ ob; omega) _
              · simp only [World.setCell, Array.size_modify]; exact Nat.le_trans zA HG7.out.size
            case measure => simp [intOf]; omega)
    · have hlt' : ¬ (k : Int) < n := by omega
      have HF : Hid (OF = some (go, re)) := by
        show _ = _
        rw [← HO.out, List.drop_of_length_le (by rw [HN.out]; omega)]
        rfl
      have hbk := HRX.out _ HFR.out
      have c0 := cell_of_row _ _ 0 _ _ _ hbk
      have c1 := cell_of_row _ _ 1 _ _ _ hbk
      have c2 := cell_of_row _ _ 2 _ _ _ hbk
      have f0 := frozen_of_row _ _ 0 _ _ hbk
      have f1 := frozen_of_row _ _ 1 _ _ hbk
      have f2 := frozen_of_row _ _ 2 _ _ hbk
      have o0 := cell_of_row _ _ 0 _ _ _ HT2.out.blk
      have o1 := cell_of_row _ _ 1 _ _ _ HT2.out.blk
      have o2 := cell_of_row _ _ 2 _ _ _ HT2.out.blk
      have HRF : Hid (R = if go.length = 0 then noO 202 else ((body, go, re), 0)) := by have := HRR.out; rw [HF.out] at this; exact this
      rw [HNG.out] at HRF
      clear HO HF
      by_cases hn0 : ng = 0
      · subst hn0
        have HR : Hid (R = noO 202) := by show _ = _; rw [HRF.out, if_pos rfl]
        have FIN : Hid (∀ W', W' = _ → _) := put_out wr w.heap.size _ _ _ (.string ⟨#[]⟩) (.slice none 0 0) (.slice none 0 0) _ hbk
        clear HRF
        go_wp2
        first
        | (obtain ⟨⟨d0, d1, d2⟩, hbl, _⟩ := FIN.out _ rfl
           exact bodyPost_ret (v := .tuple #[.agg #[.string ⟨#[]⟩, .slice none 0 0, .slice none 0 0], .int .i64 202]) (by simp [results, Tryz.results6, go_sem, d0, d1, d2]) rfl ⟨by rw [HR.out]; exact opq_no _ _ 202, HBW.out.trans (hbl _ (Nat.le_refl _))⟩)
        | exact bodyPost_ret (v := .tuple #[.agg #[.string ⟨#[]⟩, .slice none 0 0, .slice none 0 0], .int .i64 202]) (by simp [results, Tryz.results6, go_sem, c0, c1, c2]) rfl ⟨by rw [HR.out]; exact opq_no _ _ 202, HBW.out⟩
      · have gn : ((ng : Int) == 0) = false := beq_eq_false_iff_ne.2 (by omega)
        have gn' : ¬ (ng : Int) = 0 := by omega
        have HR : Hid (R = ((body, go, re), 0)) := by show _ = _; rw [HRF.out, if_neg hn0]
        have FIN : Hid (∀ W', W' = _ → _) := put_out wr w.heap.size _ _ _ (.string body) (.slice ga ng gc) (.slice ra nr rc) _ hbk
        clear HRF hn0
        go_wp2
        obtain ⟨⟨d0, d1, d2⟩, hbl, hel⟩ := FIN.out _ rfl
        refine bodyPost_ret (v := .tuple #[.agg #[.string body, .slice ga ng gc, .slice ra nr rc], .int .i64 0]) (by simp [results, Tryz.results6, go_sem, d0, d1, d2]) rfl ⟨?_, HBW.out.trans (hbl _ (Nat.le_refl _))⟩
        rw [HR.out]
        refine ⟨ga, gc, ra, rc, by rw [HNG.out, HNR.out], ?_, ?_, (fun a e => by subst e; have := (own_in HT2.out.g rfl).1; omega), (fun a e => by subst e; have := (own_in HT2.out.r rfl).1; omega)⟩
        · show ReadsG _ (.slice ga go.length gc) go
          rw [HNG.out]
          exact lg_reads_same HT2.out.g (fun j h1 h2 => hel j (by omega))
        · show ReadsG _ (.slice ra re.length rc) re
          rw [HNR.out]
          exact lg_reads_same HT2.out.r (fun j h1 h2 => hel j (by omega))
end Go.Proofs.YtmldkecaghokeaaGreatDoor.v5

namespace Go.Proofs.YtmldkecaghokeaaGreatDoor.v6
open Go.RowKit Go.PlainAid Go.Shelf
open Go.Proofs.YtmldkecaghokeaaGreatDoor.pj Go.Proofs.YtmldkecaghokeaaGreatDoor.rf Go.Proofs.YtmldkecaghokeaaGreatDoor.mo Go.Proofs.YtmldkecaghokeaaGreatDoor.nh Go.Proofs.YtmldkecaghokeaaGreatDoor.tj Go.Proofs.YtmldkecaghokeaaGreatDoor.n3 Go.Proofs.YtmldkecaghokeaaGreatDoor.n4 Go.Proofs.YtmldkecaghokeaaGreatDoor.o1 Go.Proofs.YtmldkecaghokeaaGreatDoor.o4 Go.Proofs.YtmldkecaghokeaaGreatDoor.o5 Go.Proofs.YtmldkecaghokeaaGreatDoor.o6 Go.Proofs.YtmldkecaghokeaaGreatDoor.kp Go.Proofs.YtmldkecaghokeaaGreatDoor.v2 Go.Proofs.YtmldkecaghokeaaGreatDoor.v4
set_option linter.unusedVariables false
set_option maxRecDepth 4000

theorem eqB_symm (a b : ByteArray) : eqB a b = eqB b a := by
  unfold eqB
  by_cases h : a = b
  · subst h; rfl
  · rw [decide_eq_false h, decide_eq_false (fun e => h e.symm)]
theorem own_drop (g : Sg) (ks : List Ky) (k : Nat) (h : k < ks.length) : ownF g (ks.drop k) k = if kg (ks[k]'h) g = true then (k : Int) else ownF g (ks.drop (k + 1)) (k + 1) := by
  rw [List.drop_eq_getElem_cons h, ownF]
set_option maxHeartbeats 3200000 in
theorem ownerD (g : Sg) (ks : List Ky) (kv : Value) (w : World) (hk : ReadsY w kv ks) (hn : nm g.name = true) (hz : ks.length ≤ 4398046511104) (hs : ∀ k ∈ ks, k.1.size ≤ 140737488351232 ∧ k.2.size ≤ 140737488351232) (T : Hid (Tab4 w)) :
    Calls Tryz.prog 18 #[kv, .agg #[.string g.name, .string g.id, .string g.mac]] w fun e w' => e = .returned (.int .i64 (ownF g ks 0)) ∧ Below w.heap.size w w' := by
  obtain ⟨ka, kcp, rfl, _⟩ := id hk
  obtain ⟨m, HM⟩ : ∃ m, Hid (ks.length = m) := ⟨_, rfl⟩
  have HY : Hid (ReadsY w (.slice ka ks.length kcp) ks) := hk
  have HS : Hid _ := hs
  have HNM : Hid (nm g.name = true) := hn
  rw [HM.out] at hz ⊢
  clear hk hs hn
  obtain ⟨R, HR⟩ : ∃ R, Hid (ownF g ks 0 = R) := ⟨_, rfl⟩
  rw [HR.out]
  obtain ⟨gn, gi, gm⟩ := g
  simp only at HNM ⊢
  obtain ⟨W, HW⟩ : ∃ W, Hid (w.alloc (.cells #[.string gn, .string gi, .string gm] 48) = W) := ⟨_, rfl⟩
  have BW : Hid (Below w.heap.size w W) := by rw [← HW.out]; exact (Below.refl _ _).alloc (Nat.le_refl _) _
  have zW : w.heap.size + 1 ≤ W.heap.size := by rw [← HW.out]; simp
  have SX : Hid (∀ w', Below (w.heap.size + 1) W w' → w'.cell? ⟨w.heap.size, 0, none⟩ = some (.string gn) ∧ w'.cell? ⟨w.heap.size, 1, none⟩ = some (.string gi) ∧ w'.cell? ⟨w.heap.size, 2, none⟩ = some (.string gm)) := by
    rw [← HW.out]; exact fun w' h => box3 w w' _ _ _ _ h
  go_enter Tryz.func18, Tryz.ntmps18
  go_wp2_with fail
  rw [HW.out]
  go_loopw [5] (fun i wr => ∃ k : Nat, k ≤ m ∧ i = .int .i64 k ∧ Hid (Below (w.heap.size + 1) W wr ∧ ownF ⟨gn, gi, gm⟩ (ks.drop k) k = R)) (fun i _ => (m - intOf i).toNat)
  case atStart => exact ⟨0, by omega, rfl, Below.refl _ _, HR.out⟩
  case round =>
    obtain ⟨k, hk, rfl, HK⟩ := hrel
    have HB : Hid (Below w.heap.size w wr) := BW.out.trans (HK.out.1.mono (by omega))
    by_cases hlt : k < m
    · have hlt' : (k : Int) < m := by omega
      have hkl : k < ks.length := by rw [HM.out]; exact hlt
      obtain ⟨y, HYY⟩ : ∃ y, Hid (ks[k]'hkl = y) := ⟨_, rfl⟩
      have hst := HK.out.2
      rw [own_drop _ ks k hkl, HYY.out] at hst
      have HST : Hid _ := hst
      have HYX : Hid (∀ X, Below w.heap.size w X → ∃ b off, ka = some ⟨b, off, none⟩ ∧ X.cell? ⟨b, off + k * 2, none⟩ = some (.string y.1) ∧ X.cell? ⟨b, off + k * 2 + 1, none⟩ = some (.string y.2)) := fun X hX => by
        obtain ⟨b, off, e, hb, q1, q2⟩ := HY.out.at k y (by rw [List.getElem?_eq_getElem hkl, HYY.out])
        exact ⟨b, off, e, (hX.cell (p := ⟨b, off + k * 2, none⟩) hb).trans q1, (hX.cell (p := ⟨b, off + k * 2 + 1, none⟩) hb).trans q2⟩
      obtain ⟨b, off, rfl, c1, c2⟩ := HYX.out wr HB.out
      have hzy := HS.out y (by rw [← HYY.out]; exact List.getElem_mem hkl)
      have HC : Hid (∀ X, Below w.heap.size w X → X.cell? ⟨b, off + k * 2, none⟩ = some (.string y.1) ∧ X.cell? ⟨b, off + k * 2 + 1, none⟩ = some (.string y.2)) := fun X hX => by
        obtain ⟨b', off', e, q1, q2⟩ := HYX.out X hX
        injection e with e
        injection e with e1 e2
        subst e1 e2
        exact ⟨q1, q2⟩
      clear hst HYY HYX
      obtain ⟨kn, kx⟩ := y
      simp only at c1 c2 hzy
      have TW : Hid (Tab4 wr) := T.out.down HB.out
      have C1 : Hid (Calls _ _ _ _ _) := idD kn kx hzy.1 hzy.2 wr TW
      obtain ⟨kid, HKI⟩ : ∃ kid, Hid (kidF kn kx = kid) := ⟨_, rfl⟩
      have HKG : Hid (kg (kn, kx) ⟨gn, gi, gm⟩ = (eqB gn kn && eqB gi kid)) := by show _ = _; unfold kg one; rw [← HKI.out]
      rw [HKG.out] at HST
      have B9 : Hid (Below (w.heap.size + 1) W wr) := HK.out.1
      clear HK HKG
      by_cases hnm : nm kn = true
      · have hv : idV kn kx = .tuple #[.string kid, .int .i64 0] := by unfold idV; rw [if_pos hnm, HKI.out]
        rw [hv] at C1
        have e1 : (kn.toList == gn.toList) = eqB gn kn := by rw [toList_eqB, eqB_symm]
        have e2 : (kid.toList == gi.toList) = eqB gi kid := by rw [toList_eqB, eqB_symm]
        clear hv hnm
        generalize eqB gn kn = y1 at *
        generalize eqB gi kid = y2 at *
        cases y1
        · have HN : Hid (ownF ⟨gn, gi, gm⟩ (ks.drop (k + 1)) (k + 1) = R) := by have := HST.out; rw [Bool.false_and, if_neg (by decide)] at this; exact this
          clear HST
          go_wp2_with fail
          refine C1.out.mono ?_
          rintro e w1 ⟨rfl, hb1⟩
          have B1 : Hid (Below (w.heap.size + 1) W w1) := B9.out.trans (hb1.mono (by have := B9.out.size; omega))
          have BB1 : Hid (Below w.heap.size w w1) := BW.out.trans (B1.out.mono (by omega))
          obtain ⟨s0, s1, s2⟩ := SX.out _ B1.out
          obtain ⟨q1, q2⟩ := HC.out _ BB1.out
          have KN : Hid (∀ n, Below (w.heap.size + 1) W (w1.drewN n)) := fun n => below_dN B1.out n
          clear hb1 c1 c2
          go_wp2_with fail
          go_quiet (fail)
          go_wp2
          go_roundw
          case rel => exact ⟨k + 1, by omega, by go_num, KN.out _, HN.out⟩
          case measure => simp [intOf]; omega
        · cases y2
          · have HN : Hid (ownF ⟨gn, gi, gm⟩ (ks.drop (k + 1)) (k + 1) = R) := by have := HST.out; rw [Bool.and_false, if_neg (by decide)] at this; exact this
            clear HST
            go_wp2_with fail
            refine C1.out.mono ?_
            rintro e w1 ⟨rfl, hb1⟩
            have B1 : Hid (Below (w.heap.size + 1) W w1) := B9.out.trans (hb1.mono (by have := B9.out.size; omega))
            have BB1 : Hid (Below w.heap.size w w1) := BW.out.trans (B1.out.mono (by omega))
            obtain ⟨s0, s1, s2⟩ := SX.out _ B1.out
            obtain ⟨q1, q2⟩ := HC.out _ BB1.out
            have KN : Hid (∀ n, Below (w.heap.size + 1) W (w1.drewN n)) := fun n => below_dN B1.out n
            clear hb1 c1 c2
            go_wp2_with fail
            go_quiet (fail)
            go_wp2
            go_roundw
            case rel => exact ⟨k + 1, by omega, by go_num, KN.out _, HN.out⟩
            case measure => simp [intOf]; omega
          · have HN : Hid (R = (k : Int)) := by have := HST.out; rw [Bool.and_true, if_pos rfl] at this; exact this.symm
            clear HST
            go_wp2_with fail
            refine C1.out.mono ?_
            rintro e w1 ⟨rfl, hb1⟩
            have B1 : Hid (Below (w.heap.size + 1) W w1) := B9.out.trans (hb1.mono (by have := B9.out.size; omega))
            have BB1 : Hid (Below w.heap.size w w1) := BW.out.trans (B1.out.mono (by omega))
            obtain ⟨s0, s1, s2⟩ := SX.out _ B1.out
            obtain ⟨q1, q2⟩ := HC.out _ BB1.out
            have KM : Hid (∀ n, Below w.heap.size w (w1.drewN n)) := fun n => below_dN BB1.out n
            clear hb1 c1 c2
            go_wp2_with fail
            go_quiet (fail)
            go_wp2
            go_ret
            exact ⟨by rw [HN.out]; rfl, KM.out _⟩
      · have hv : idV kn kx = .tuple #[.string ByteArray.empty, .int .i64 203] := by unfold idV; rw [if_neg hnm]
        rw [hv] at C1
        have HN : Hid (ownF ⟨gn, gi, gm⟩ (ks.drop (k + 1)) (k + 1) = R) := by
          have := HST.out
          rw [if_neg (fun h => by
            have h1 := (Bool.and_eq_true_iff.1 h).1
            rw [eqB_true] at h1
            rw [← h1] at hnm
            exact hnm HNM.out)] at this
          exact this
        clear HST hv hnm
        go_wp2_with fail
        refine C1.out.mono ?_
        rintro e w1 ⟨rfl, hb1⟩
        have B1 : Hid (Below (w.heap.size + 1) W w1) := B9.out.trans (hb1.mono (by have := B9.out.size; omega))
        have KN : Hid (∀ n, Below (w.heap.size + 1) W (w1.drewN n)) := fun n => below_dN B1.out n
        clear hb1 c1 c2
        go_wp2_with fail
        go_quiet (fail)
        go_wp2
        go_roundw
        case rel => exact ⟨k + 1, by omega, by go_num, KN.out _, HN.out⟩
        case measure => simp [intOf]; omega
    · have hlt' : ¬ (k : Int) < m := by omega
      have HE : Hid (R = -1) := by
        show _ = _
        rw [← HK.out.2, List.drop_of_length_le (by rw [HM.out]; omega)]
        rfl
      clear HK
      go_wp2
      go_ret
      exact ⟨by rw [HE.out]; rfl, HB.out⟩
end Go.Proofs.YtmldkecaghokeaaGreatDoor.v6

namespace Go.Proofs.YtmldkecaghokeaaGreatDoor.v7
open Go.RowKit Go.PlainAid Go.Shelf
open Go.Proofs.YtmldkecaghokeaaGreatDoor.pj Go.Proofs.YtmldkecaghokeaaGreatDoor.rf Go.Proofs.YtmldkecaghokeaaGreatDoor.mo Go.Proofs.YtmldkecaghokeaaGreatDoor.mq Go.Proofs.YtmldkecaghokeaaGreatDoor.nd Go.Proofs.YtmldkecaghokeaaGreatDoor.nh Go.Proofs.YtmldkecaghokeaaGreatDoor.tb Go.Proofs.YtmldkecaghokeaaGreatDoor.tc Go.Proofs.YtmldkecaghokeaaGreatDoor.tj Go.Proofs.YtmldkecaghokeaaGreatDoor.n3 Go.Proofs.YtmldkecaghokeaaGreatDoor.n4 Go.Proofs.YtmldkecaghokeaaGreatDoor.o1 Go.Proofs.YtmldkecaghokeaaGreatDoor.o3 Go.Proofs.YtmldkecaghokeaaGreatDoor.o4 Go.Proofs.YtmldkecaghokeaaGreatDoor.o5 Go.Proofs.YtmldkecaghokeaaGreatDoor.o6 Go.Proofs.YtmldkecaghokeaaGreatDoor.kp Go.Proofs.YtmldkecaghokeaaGreatDoor.q2 Go.Proofs.YtmldkecaghokeaaGreatDoor.q5 Go.Proofs.YtmldkecaghokeaaGreatDoor.r1 Go.Proofs.YtmldkecaghokeaaGreatDoor.s1 Go.Proofs.YtmldkecaghokeaaGreatDoor.t5 Go.Proofs.YtmldkecaghokeaaGreatDoor.v2 Go.Proofs.YtmldkecaghokeaaGreatDoor.v4 Go.Proofs.YtmldkecaghokeaaGreatDoor.v5 Go.Proofs.YtmldkecaghokeaaGreatDoor.v6
set_option linter.unusedVariables false
set_option maxRecDepth 4000

def nV (g n c : Nat) : Value := .slice (some ⟨g, 0, none⟩) (n + 1) c
theorem addR_all {B ob g6 c6 n : Nat} {t : ByteArray} {go re : List Sg} {gv rv : Value} {w0 w4 wA w7 : World} {x : Sg} (hT : Two B ob t go re gv rv wA) (hF : Fr B ob w4 wA) (hW : Below w0.heap.size w0 wA) (hB : B ≤ wA.heap.size) (h0 : w0.heap.size ≤ ob) (hn : re.length = n)
    (ho : w7.ownsRow B 48 3 (nV g6 n c6) (n + 1) (gcs re ++ [.string x.name, .string x.id, .string x.mac])) (hg : wA.grownBy w7 rv.ownBlock) (hl : rv.ownBlock = some g6 ∨ g6 = wA.heap.size) :
    (Two B ob t go (re ++ [x]) gv (nV g6 n c6) (w7.setCell ⟨ob, 2, none⟩ (nV g6 n c6)) ∧ Fr B ob w4 (w7.setCell ⟨ob, 2, none⟩ (nV g6 n c6)) ∧ Below w0.heap.size w0 (w7.setCell ⟨ob, 2, none⟩ (nV g6 n c6)) ∧ B ≤ (w7.setCell ⟨ob, 2, none⟩ (nV g6 n c6)).heap.size) ∧ w7.cell? ⟨ob, 2, none⟩ = some rv ∧ w7.frozen? ⟨ob, 2, none⟩ = false := by
  have hlo := hT.lo
  have hrow := hT.r
  have hob := (Array.getElem?_eq_some_iff.1 hT.blk).1
  have hne : some ob ≠ rv.ownBlock := fun e => by have := (own_in hrow e.symm).1; omega
  have hbk := (hg.block ob hob hne).trans hT.blk
  have hL : Lg B (nV g6 n c6) (re ++ [x]) w7 := by
    unfold Lg
    rw [List.length_append, hn, gcs_app]
    exact ho
  refine ⟨⟨hT.addR hL hg (by rcases hl with h | h; exact .inl h.symm; exact .inr (by rw [h]; rfl)), hF.grow hB hrow hg, ?_, ?_⟩, ?_, ?_⟩
  · exact Below.setCell (p := ⟨ob, 2, none⟩) (Below.trans hW ⟨hg.os, hg.tape, hg.output, hg.size, fun j hj => hg.block j (Nat.lt_of_lt_of_le hj hW.size) (fun e => by have := (own_in hrow e.symm).1; omega)⟩) h0 _
  · simp only [World.setCell, Array.size_modify]; exact Nat.le_trans hB hg.size
  · exact cell_of_row _ _ 2 _ _ _ hbk
  · exact frozen_of_row _ _ 2 _ _ hbk
theorem addG_all {B ob g6 c6 n : Nat} {t : ByteArray} {go re : List Sg} {gv rv : Value} {w0 w4 wA w7 : World} {x : Sg} (hT : Two B ob t go re gv rv wA) (hF : Fr B ob w4 wA) (hW : Below w0.heap.size w0 wA) (hB : B ≤ wA.heap.size) (h0 : w0.heap.size ≤ ob) (hn : go.length = n)
    (ho : w7.ownsRow B 48 3 (nV g6 n c6) (n + 1) (gcs go ++ [.string x.name, .string x.id, .string x.mac])) (hg : wA.grownBy w7 gv.ownBlock) (hl : gv.ownBlock = some g6 ∨ g6 = wA.heap.size) :
    (Two B ob t (go ++ [x]) re (nV g6 n c6) rv (w7.setCell ⟨ob, 1, none⟩ (nV g6 n c6)) ∧ Fr B ob w4 (w7.setCell ⟨ob, 1, none⟩ (nV g6 n c6)) ∧ Below w0.heap.size w0 (w7.setCell ⟨ob, 1, none⟩ (nV g6 n c6)) ∧ B ≤ (w7.setCell ⟨ob, 1, none⟩ (nV g6 n c6)).heap.size) ∧ w7.cell? ⟨ob, 1, none⟩ = some gv ∧ w7.frozen? ⟨ob, 1, none⟩ = false := by
  have hlo := hT.lo
  have hrow := hT.g
  have hob := (Array.getElem?_eq_some_iff.1 hT.blk).1
  have hne : some ob ≠ gv.ownBlock := fun e => by have := (own_in hrow e.symm).1; omega
  have hbk := (hg.block ob hob hne).trans hT.blk
  have hL : Lg B (nV g6 n c6) (go ++ [x]) w7 := by
    unfold Lg
    rw [List.length_append, hn, gcs_app]
    exact ho
  refine ⟨⟨hT.addG hL hg (by rcases hl with h | h; exact .inl h.symm; exact .inr (by rw [h]; rfl)), hF.grow hB hrow hg, ?_, ?_⟩, ?_, ?_⟩
  · exact Below.setCell (p := ⟨ob, 1, none⟩) (Below.trans hW ⟨hg.os, hg.tape, hg.output, hg.size, fun j hj => hg.block j (Nat.lt_of_lt_of_le hj hW.size) (fun e => by have := (own_in hrow e.symm).1; omega)⟩) h0 _
  · simp only [World.setCell, Array.size_modify]; exact Nat.le_trans hB hg.size
  · exact cell_of_row _ _ 1 _ _ _ hbk
  · exact frozen_of_row _ _ 1 _ _ hbk
set_option maxHeartbeats 3200000 in
theorem openD_no (note : ByteArray) (kv : Value) (ks : List Ky) (E : Int) (hE : E ≠ 0) (w : World) (hk : ReadsY w kv ks)
    (CR : ∀ X, Calls Tryz.prog 17 #[.string note] X fun e W' => e = .returned (.tuple #[.string ByteArray.empty, .slice none 0 0, .int .i64 E]) ∧ Below X.heap.size X W') :
    Calls Tryz.prog 7 #[.string note, kv] w fun e w' => OpQ w.heap.size w' (noO E) e ∧ Below w.heap.size w w' := by
  obtain ⟨ka, kcp, rfl, _⟩ := id hk
  have C1 : Hid (∀ X, Calls _ _ _ _ _) := CR
  clear CR hk
  obtain ⟨W, HW⟩ : ∃ W, Hid (w.alloc (.cells #[.string ⟨#[]⟩, .slice none 0 0, .slice none 0 0] 26) = W) := ⟨_, rfl⟩
  have BW : Hid (Below w.heap.size w W) := by rw [← HW.out]; exact (Below.refl _ _).alloc (Nat.le_refl _) _
  have zW : W.heap.size = w.heap.size + 1 := by rw [← HW.out]; simp
  have HBK : Hid (W.heap[w.heap.size]? = some (.cells #[.string ⟨#[]⟩, .slice none 0 0, .slice none 0 0] 26 (0, 0))) := by rw [← HW.out]; exact heap_alloc_new w _
  have gE : (E == 0) = false := beq_eq_false_iff_ne.2 hE
  clear hE
  go_enter Tryz.func7, Tryz.ntmps7
  go_wp2_with fail
  rw [HW.out]
  go_wp2_with fail
  refine (C1.out _).mono ?_
  rintro e w1 ⟨rfl, hb1⟩
  have hbk : w1.heap[w.heap.size]? = some (.cells #[.string ⟨#[]⟩, .slice none 0 0, .slice none 0 0] 26 (0, 0)) := (hb1.block w.heap.size (by omega)).trans HBK.out
  have B1 : Hid (Below w.heap.size w w1) := BW.out.trans (hb1.mono BW.out.size)
  clear hb1
  have FIN : Hid (∀ W', W' = _ → _) := put_out w1 w.heap.size _ _ _ (.string ⟨#[]⟩) (.slice none 0 0) (.slice none 0 0) _ hbk
  have c0 := cell_of_row _ _ 0 _ _ _ hbk
  have c1 := cell_of_row _ _ 1 _ _ _ hbk
  have c2 := cell_of_row _ _ 2 _ _ _ hbk
  have f0 := frozen_of_row _ _ 0 _ _ hbk
  have f1 := frozen_of_row _ _ 1 _ _ hbk
  have f2 := frozen_of_row _ _ 2 _ _ hbk
  go_wp2
  first
  | (obtain ⟨⟨d0, d1, d2⟩, hbl, _⟩ := FIN.out _ rfl
     exact bodyPost_ret (v := .tuple #[.agg #[.string ⟨#[]⟩, .slice none 0 0, .slice none 0 0], .int .i64 E]) (by simp [results, Tryz.results7, go_sem, d0, d1, d2]) rfl ⟨opq_no _ _ E, B1.out.trans (hbl _ (Nat.le_refl _))⟩)
  | exact bodyPost_ret (v := .tuple #[.agg #[.string ⟨#[]⟩, .slice none 0 0, .slice none 0 0], .int .i64 E]) (by simp [results, Tryz.results7, go_sem, c0, c1, c2]) rfl ⟨opq_no _ _ E, B1.out⟩
set_option maxHeartbeats 12800000 in
theorem openD_ok (note body : ByteArray) (kv : Value) (ks : List Ky) (gs : List Sg) (R : Opn) (h1 : 1 ≤ gs.length) (h16 : gs.length ≤ 16) (zb : body.size ≤ 65536) (hz : ks.length ≤ 4398046511104) (hs : ∀ k ∈ ks, k.1.size ≤ 140737488351232 ∧ k.2.size ≤ 140737488351232) (hfin : ∀ g ∈ gs, Fine g)
    (hR : R = match opF ks body gs ([], []) with | none => noO 201 | some (go, re) => if go.length = 0 then noO 202 else ((body, go, re), 0))
    (w : World) (T : Hid (Tab4 w)) (hk : ReadsY w kv ks)
    (CR : ∀ X, Calls Tryz.prog 17 #[.string note] X fun e W' => ∃ a c, e = .returned (.tuple #[.string body, .slice a gs.length c, .int .i64 0]) ∧ ReadsG W' (.slice a gs.length c) gs ∧ Below X.heap.size X W') :
    Calls Tryz.prog 7 #[.string note, kv] w fun e w' => OpQ w.heap.size w' R e ∧ Below w.heap.size w w' := by
  obtain ⟨ka, kcp, rfl, _⟩ := id hk
  obtain ⟨n, HN⟩ : ∃ n, Hid (gs.length = n) := ⟨_, rfl⟩
  obtain ⟨m, HM⟩ : ∃ m, Hid (ks.length = m) := ⟨_, rfl⟩
  have C1 : Hid (∀ X, Calls Tryz.prog 17 #[.string note] X fun e W' => ∃ a c, e = .returned (.tuple #[.string body, .slice a n c, .int .i64 0]) ∧ ReadsG W' (.slice a n c) gs ∧ Below X.heap.size X W') := by rw [← HN.out]; exact CR
  have HY : Hid (ReadsY w (.slice ka m kcp) ks) := by rw [← HM.out]; exact hk
  have HS : Hid _ := hs
  have HZ : Hid (ks.length ≤ 4398046511104) := hz
  have HMZ : Hid _ := hfin
  obtain ⟨OF, HOF⟩ : ∃ OF, Hid (opF ks body gs ([], []) = OF) := ⟨_, rfl⟩
  rw [HOF.out] at hR
  have HRR : Hid _ := hR
  rw [HN.out] at h1 h16
  rw [HM.out] at hz ⊢
  clear CR hk hs hfin hR
  obtain ⟨i0, hi0, hi1, hi2, hi3⟩ := info_parts infoG
  have HI : Hid (Tryz.prog.info? 48 = some i0 ∧ i0.zero = some (.agg #[.string ⟨#[]⟩, .string ⟨#[]⟩, .string ⟨#[]⟩]) ∧ i0.size = 3 ∧ i0.bytes = 48) := ⟨hi0, hi1, hi2, hi3⟩
  clear hi0 hi1 hi2 hi3
  obtain ⟨W, HW⟩ : ∃ W, Hid (w.alloc (.cells #[.string ⟨#[]⟩, .slice none 0 0, .slice none 0 0] 26) = W) := ⟨_, rfl⟩
  have BW : Hid (Below w.heap.size w W) := by rw [← HW.out]; exact (Below.refl _ _).alloc (Nat.le_refl _) _
  have zW : w.heap.size + 1 ≤ W.heap.size := by rw [← HW.out]; simp
  have HBK : Hid (W.heap[w.heap.size]? = some (.cells #[.string ⟨#[]⟩, .slice none 0 0, .slice none 0 0] 26 (0, 0))) := by rw [← HW.out]; exact heap_alloc_new w _
  go_enter Tryz.func7, Tryz.ntmps7
  go_wp2_with fail
  rw [HW.out]
  go_wp2_with fail
  refine (C1.out _).mono ?_
  rintro e w1 ⟨sa, sc, rfl, hrd, hb1⟩
  have B1 : Hid (Below W.heap.size W w1) := hb1
  have HRD : Hid (ReadsG w1 (.slice sa n sc) gs) := hrd
  clear hb1 hrd C1
  obtain ⟨U, HU⟩ : ∃ U, Hid (w1.alloc (.cells #[.string body, .slice none 0 0, .slice none 0 0] 26) = U) := ⟨_, rfl⟩
  have BU : Hid (Below w1.heap.size w1 U) := by rw [← HU.out]; exact (Below.refl _ _).alloc (Nat.le_refl _) _
  have zU : w1.heap.size + 1 ≤ U.heap.size := by rw [← HU.out]; simp
  have HBU : Hid (U.heap[w1.heap.size]? = some (.cells #[.string body, .slice none 0 0, .slice none 0 0] 26 (0, 0))) := by rw [← HU.out]; exact heap_alloc_new w1 _
  have BWU : Hid (Below w.heap.size w U) := BW.out.trans ((B1.out.trans (BU.out.mono B1.out.size)).mono BW.out.size)
  obtain ⟨B, HB⟩ : ∃ B, Hid (U.heap.size = B) := ⟨_, rfl⟩
  obtain ⟨ob, HOB⟩ : ∃ ob, Hid (w1.heap.size = ob) := ⟨_, rfl⟩
  have z1 : w.heap.size < ob := by rw [← HOB.out]; have := B1.out.size; omega
  have z3 : ob < B := by rw [← HOB.out, ← HB.out]; omega
  have HTW : Hid (Two B ob body [] [] (.slice none 0 0) (.slice none 0 0) U) := by
    refine ⟨?_, z3, Lg.nil _ _, Lg.nil _ _, fun b e => by cases e⟩
    rw [← HOB.out]
    exact HBU.out
  have HRES : Hid (U.heap[w.heap.size]? = some (.cells #[.string ⟨#[]⟩, .slice none 0 0, .slice none 0 0] 26 (0, 0))) := by
    show _ = _
    rw [BU.out.block w.heap.size (by rw [HOB.out]; omega), B1.out.block w.heap.size (by omega)]
    exact HBK.out
  have HSG : Hid (∀ X, Fr B ob U X → n = 0 ∨ ∃ sb so, sa = some ⟨sb, so, none⟩ ∧ ∀ i x, gs[i]? = some x → X.cell? ⟨sb, so + i * 3, none⟩ = some (.string x.name) ∧ X.cell? ⟨sb, so + i * 3 + 1, none⟩ = some (.string x.id) ∧ X.cell? ⟨sb, so + i * 3 + 2, none⟩ = some (.string x.mac)) := by
    intro X hX
    obtain ⟨a', c', e', h0 | ⟨sb, so, rfl, hbb, hc⟩⟩ := HRD.out
    · exact .inl (by rw [← HN.out]; exact h0)
    · injection e' with e1 _ _
      refine .inr ⟨sb, so, e1, fun i x hi => ?_⟩
      have hbb2 := hbb
      rw [HOB.out] at hbb2
      have hs : X.heap[sb]? = w1.heap[sb]? := by
        rw [hX sb (by omega) (by omega), BU.out.block sb hbb]
      obtain ⟨q1, q2, q3⟩ := hc i x hi
      have k : ∀ off v, w1.cell? ⟨sb, off, none⟩ = some v → X.cell? ⟨sb, off, none⟩ = some v := fun off v h => (World.cell?_of_block (a := ⟨sb, off, none⟩) hs).trans h
      exact ⟨k _ _ q1, k _ _ q2, k _ _ q3⟩
  have HKX : Hid (∀ X, Below w.heap.size w X → ReadsY X (.slice ka ks.length kcp) ks) := fun X h => by rw [HM.out]; exact HY.out.later h
  have HRX : Hid (∀ X, Fr B ob U X → X.heap[w.heap.size]? = some (.cells #[.string ⟨#[]⟩, .slice none 0 0, .slice none 0 0] 26 (0, 0))) := fun X hX => (hX w.heap.size (by omega) (by omega)).trans HRES.out
  have TX : Hid (∀ X, Below w.heap.size w X → Tab4 X) := fun X h => T.out.down h
  clear HRES HBU HBK HRD HY
  go_upto_region 5 with fail
  rw [HU.out, HOB.out]
  go_wp2
  go_loopw [10] (fun i wr => ∃ k : Nat, k ≤ n ∧ i = .int .i64 k ∧ Hid (∃ gv rv go re, Two B ob body go re gv rv wr ∧ Fr B ob U wr ∧ Below w.heap.size w wr ∧ B ≤ wr.heap.size ∧ go.length ≤ k ∧ re.length ≤ k ∧ opF ks body (gs.drop k) (go, re) = OF)) (fun i _ => (n - intOf i).toNat)
  case atStart => exact ⟨0, by omega, rfl, _, _, [], [], HTW.out, Fr.refl _ _ _, BWU.out, Nat.le_of_eq HB.out.symm, by simp, by simp, HOF.out⟩
  case round =>
    obtain ⟨k, hk, rfl, HK⟩ := hrel
    obtain ⟨gv, rv, go, re, tw, fr, bw, hBw, lg, lr, ho⟩ := HK.out
    obtain ⟨ga, gc, hgv⟩ := tw.g.form
    obtain ⟨ra, rc, hrv⟩ := tw.r.form
    subst hgv hrv
    have HT : Hid (Two B ob body go re (.slice ga go.length gc) (.slice ra re.length rc) wr) := tw
    have HFR : Hid (Fr B ob U wr) := fr
    have HBW : Hid (Below w.heap.size w wr) := bw
    have HO : Hid (opF ks body (gs.drop k) (go, re) = OF) := ho
    obtain ⟨ng, HNG⟩ : ∃ ng, Hid (go.length = ng) := ⟨_, rfl⟩
    obtain ⟨nr, HNR⟩ : ∃ nr, Hid (re.length = nr) := ⟨_, rfl⟩
    have HT2 : Hid (Two B ob body go re (.slice ga ng gc) (.slice ra nr rc) wr) := by rw [← HNG.out, ← HNR.out]; exact HT.out
    have lg2 : ng ≤ k := by rw [← HNG.out]; exact lg
    have lr2 : nr ≤ k := by rw [← HNR.out]; exact lr
    clear HK tw fr bw ho HT lg lr
    by_cases hlt : k < n
    · have hlt' : (k : Int) < n := by omega
      have hkl : k < gs.length := by rw [HN.out]; exact hlt
      obtain ⟨x, HX⟩ : ∃ x, Hid (gs[k]'hkl = x) := ⟨_, rfl⟩
      have hst := HO.out
      rw [op_step ks body gs k hkl, HX.out] at hst
      have HST : Hid _ := hst
      have hsg : ∃ sb so, sa = some ⟨sb, so, none⟩ ∧ ∀ X, Fr B ob U X → X.cell? ⟨sb, so + k * 3, none⟩ = some (.string x.name) ∧ X.cell? ⟨sb, so + k * 3 + 1, none⟩ = some (.string x.id) ∧ X.cell? ⟨sb, so + k * 3 + 2, none⟩ = some (.string x.mac) := by
        rcases HSG.out wr HFR.out with h | ⟨sb, so, e, _⟩
        · omega
        · refine ⟨sb, so, e, fun X hX => ?_⟩
          rcases HSG.out X hX with h | ⟨sb', so', e', h'⟩
          · omega
          · rw [e] at e'
            injection e' with e'
            injection e' with e1 e2
            subst e1 e2
            exact h' k x (by rw [List.getElem?_eq_getElem hkl, HX.out])
      obtain ⟨sb, so, rfl, hsx⟩ := hsg
      have HSX : Hid _ := hsx
      obtain ⟨c1, c2, c3⟩ := hsx wr HFR.out
      have hfx : Fine x := by rw [← HX.out]; exact HMZ.out _ (List.getElem_mem hkl)
      have CW : Hid (Calls _ _ _ _ _) := ownerD x ks (.slice ka ks.length kcp) wr (HKX.out wr HBW.out) hfx.nm HZ.out HS.out (TX.out wr HBW.out)
      rw [HM.out] at CW
      have hol := own_lt x ks 0
      have holw := own_low x ks 0
      rw [HM.out] at hol
      have HSEC : Hid (0 ≤ ownF x ks 0 → ∃ (i : Nat) (hi : i < ks.length), ownF x ks 0 = i ∧ sec ks x = (ks[i]'hi).2) := by
        intro h
        refine ⟨(ownF x ks 0).toNat, by rw [HM.out]; omega, by omega, ?_⟩
        unfold sec
        rw [List.getD_eq_getElem?_getD, List.getElem?_eq_getElem (by rw [HM.out]; omega)]
        rfl
      obtain ⟨ov, HOV⟩ : ∃ ov, Hid (ownF x ks 0 = ov) := ⟨_, rfl⟩
      rw [HOV.out] at HST CW hol holw HSEC
      obtain ⟨sx, HSC⟩ : ∃ sx, Hid (sec ks x = sx) := ⟨_, rfl⟩
      rw [HSC.out] at HST HSEC
      clear hst HX HO HOV hsx HSC hfx
      obtain ⟨xn, xi, xm⟩ := x
      simp only at c1 c2 c3 HST CW
      by_cases hov : ov < 0
      · have HN2 : Hid (opF ks body (gs.drop (k + 1)) (go, re ++ [⟨xn, xi, xm⟩]) = OF) := by have := HST.out; rw [if_pos hov] at this; exact this
        clear HST HSEC
        go_wp2_with fail
        refine CW.out.mono ?_
        rintro e w5 ⟨rfl, hb5⟩
        have T5 : Hid (Two B ob body go re (.slice ga ng gc) (.slice ra nr rc) w5) := HT2.out.later hb5
        have F5 : Hid (Fr B ob U w5) := HFR.out.later hb5 hBw
        have W5 : Hid (Below w.heap.size w w5) := HBW.out.trans (hb5.mono HBW.out.size)
        have s5 : B ≤ w5.heap.size := Nat.le_trans hBw hb5.size
        clear hb5 CW c1 c2 c3
        obtain ⟨c1, c2, c3⟩ := HSX.out w5 F5.out
        have b2 := cell_of_row _ _ 2 _ _ _ T5.out.blk
        have hobw : ob < w5.heap.size := by omega
        have b2a : (w5.alloc (.cells #[.string xn, .string xi, .string xm] 48)).cell? ⟨ob, 2, none⟩ = some (.slice ra nr rc) := (World.cell?_alloc_lt _ _ _ hobw).trans b2
        have TA : Hid (Two B ob body go re (.slice ga ng gc) (.slice ra nr rc) (w5.alloc (.cells #[.string xn, .string xi, .string xm] 48))) := T5.out.later ((Below.refl _ _).alloc (Nat.le_refl _) _)
        have FA : Hid (Fr B ob U (w5.alloc (.cells #[.string xn, .string xi, .string xm] 48))) := F5.out.later ((Below.refl _ _).alloc (Nat.le_refl _) _) s5
        have WA : Hid (Below w.heap.size w (w5.alloc (.cells #[.string xn, .string xi, .string xm] 48))) := W5.out.alloc W5.out.size _
        have O4 : Hid ((w5.alloc (.cells #[.string xn, .string xi, .string xm] 48)).drew.ownsRow B 48 3 (.slice ra nr rc) nr (gcs re)) := by have := TA.out.r; unfold Lg at this; rw [HNR.out] at this; exact this
        have AR : Hid (∀ w7 g6 c6, w7.ownsRow B 48 3 (.slice (some ⟨g6, 0, none⟩) (nr + 1) c6) (nr + 1) (gcs re ++ [.string xn, .string xi, .string xm]) → (w5.alloc (.cells #[.string xn, .string xi, .string xm] 48)).grownBy w7 (Value.slice ra nr rc).ownBlock → ((Value.slice ra nr rc).ownBlock = some g6 ∨ g6 = w5.heap.size + 1) → _) := fun w7 g6 c6 h1 h2 h3 => addR_all (x := ⟨xn, xi, xm⟩) (n := nr) (c6 := c6) TA.out FA.out WA.out (by simp; omega) (by omega) HNR.out h1 h2 (by rcases h3 with h | h; exact .inl h; exact .inr (by rw [h]; simp))
        have hn1 : (nr + 1) * 48 ≤ 140737488355328 := by omega
        go_wp2_with fail
        go_region_law ((first | (have zz := O4.out; refine step_append_lies _ (by rfl) (.tmp 40) (.tmp 45) 24 (by rfl) B 48 i0 (.agg #[.string ⟨#[]⟩, .string ⟨#[]⟩, .string ⟨#[]⟩]) 3 48 Tryz.underlying24 HI.out.1 HI.out.2.1 HI.out.2.2.1 HI.out.2.2.2 rfl (by decide) (.slice ra nr rc) nr _ (by simp [Act.eval]) O4.out ⟨w5.heap.size, 0, none⟩ 1 1 [.string xn, .string xi, .string xm] (by simp [Act.eval]) rfl (new_three w5 _ _ _ _) (one_three _ _ _) (by omega) (by unfold maxLen; omega) hn1 (by simp; omega) (w5.heap.size + 1) (by simp) ?_; intro g6 c6 w7 ho7 hg7 hl7 hlt7; have A7 : Hid _ := AR.out w7 g6 c6 ho7 ⟨hg7.os, hg7.tape, hg7.output, hg7.size, hg7.block⟩ hl7; have cz := A7.out.2.1; have fz := A7.out.2.2; clear ho7 hg7 hl7 zz)))
        all_goals (
          go_wp2
          go_roundw
          case rel => exact ⟨k + 1, by omega, by go_num, _, _, go, re ++ [⟨xn, xi, xm⟩], A7.out.1.1, A7.out.1.2.1, A7.out.1.2.2.1, A7.out.1.2.2.2, by rw [HNG.out]; omega, by rw [List.length_append, HNR.out]; simp; omega, HN2.out⟩
          case measure => simp [intOf]; omega)
      · have hov0 : 0 ≤ ov := by omega
        obtain ⟨i, hi, hoi, hsec⟩ := HSEC.out hov0
        have hzs : sx.size ≤ 140737488351232 := by rw [hsec]; exact (HS.out _ (List.getElem_mem hi)).2
        have hky : ∃ kb ko, ka = some ⟨kb, ko, none⟩ ∧ ∀ X, Below w.heap.size w X → X.cell? ⟨kb, ko + i * 2 + 1, none⟩ = some (.string sx) := by
          obtain ⟨kb, ko, e, _⟩ := (HKX.out wr HBW.out).at i (ks[i]'hi) (List.getElem?_eq_getElem hi)
          refine ⟨kb, ko, e, fun X hX => ?_⟩
          obtain ⟨kb', ko', e', _, q1, q2⟩ := (HKX.out X hX).at i (ks[i]'hi) (List.getElem?_eq_getElem hi)
          rw [e] at e'
          injection e' with e'
          injection e' with e1 e2
          subst e1 e2
          rw [hsec]
          exact q2
        obtain ⟨kb, ko, rfl, hky⟩ := hky
        have HKC : Hid _ := hky
        have him : i < m := by rw [← HM.out]; exact hi
        have him' : (i : Int) < m := by omega
        subst hoi
        have CM : Hid (∀ X, Tab4 X → Calls _ _ _ _ _) := fun X tx => rmac sx body X (by omega) (by omega) tx
        have HST2 : Hid ((if xm = macF sx body then opF ks body (gs.drop (k + 1)) (go ++ [⟨xn, xi, xm⟩], re) else none) = OF) := by have := HST.out; rw [if_neg hov] at this; exact this
        obtain ⟨q, HQ⟩ : ∃ q, Hid (decide (xm = macF sx body) = q) := ⟨_, rfl⟩
        have gq : ((macF sx body).toList == xm.toList) = q := by rw [toList_eqB, eqB_symm]; exact HQ.out
        have HST3 : Hid ((if q = true then opF ks body (gs.drop (k + 1)) (go ++ [⟨xn, xi, xm⟩], re) else none) = OF) := by
          show _ = _
          rw [← HST2.out, ← HQ.out]
          by_cases e : xm = macF sx body <;> simp [e]
        generalize macF sx body = mc at *
        clear HST HST2 HSEC hsec hky hi HQ hov hov0 hol holw
        cases q
        · have HF : Hid (OF = none) := by show _ = _; rw [← HST3.out]; rfl
          have HR : Hid (R = noO 201) := by have := HRR.out; rw [HF.out] at this; exact this
          clear HST3
          go_wp2_with fail
          refine CW.out.mono ?_
          rintro e w5 ⟨rfl, hb5⟩
          have F5 : Hid (Fr B ob U w5) := HFR.out.later hb5 hBw
          have W5 : Hid (Below w.heap.size w w5) := HBW.out.trans (hb5.mono HBW.out.size)
          have s5 : B ≤ w5.heap.size := Nat.le_trans hBw hb5.size
          have y1 := HKC.out w5 W5.out
          clear hb5 CW c1 c2 c3
          go_wp2_with fail
          refine (CM.out _ (TX.out _ W5.out)).mono ?_
          rintro e w6 ⟨rfl, hb6⟩
          have F6 : Hid (Fr B ob U w6) := F5.out.later hb6 s5
          have W6 : Hid (Below w.heap.size w w6) := W5.out.trans (hb6.mono W5.out.size)
          clear hb6 y1
          obtain ⟨c1, c2, c3⟩ := HSX.out w6 F6.out
          have hbk := HRX.out _ F6.out
          have d0 := cell_of_row _ _ 0 _ _ _ hbk
          have d1 := cell_of_row _ _ 1 _ _ _ hbk
          have d2 := cell_of_row _ _ 2 _ _ _ hbk
          have f0 := frozen_of_row _ _ 0 _ _ hbk
          have f1 := frozen_of_row _ _ 1 _ _ hbk
          have f2 := frozen_of_row _ _ 2 _ _ hbk
          have FIN : Hid (∀ W', W' = _ → _) := put_out w6 w.heap.size _ _ _ (.string ⟨#[]⟩) (.slice none 0 0) (.slice none 0 0) _ hbk
          go_wp2
          first
          | (obtain ⟨⟨g0, g1, g2⟩, hbl, _⟩ := FIN.out _ rfl
             exact bodyPost_ret (v := .tuple #[.agg #[.string ⟨#[]⟩, .slice none 0 0, .slice none 0 0], .int .i64 201]) (by simp [results, Tryz.results7, go_sem, g0, g1, g2]) rfl ⟨by rw [HR.out]; exact opq_no _ _ 201, W6.out.trans (hbl _ (Nat.le_refl _))⟩)
          | exact bodyPost_ret (v := .tuple #[.agg #[.string ⟨#[]⟩, .slice none 0 0, .slice none 0 0], .int .i64 201]) (by simp [results, Tryz.results7, go_sem, d0, d1, d2]) rfl ⟨by rw [HR.out]; exact opq_no _ _ 201, W6.out⟩
        · have HN2 : Hid (opF ks body (gs.drop (k + 1)) (go ++ [⟨xn, xi, xm⟩], re) = OF) := HST3.out
          clear HST3
          go_wp2_with fail
          refine CW.out.mono ?_
          rintro e w4 ⟨rfl, hb4⟩
          have F4 : Hid (Fr B ob U w4) := HFR.out.later hb4 hBw
          have W4 : Hid (Below w.heap.size w w4) := HBW.out.trans (hb4.mono HBW.out.size)
          have T4 : Hid (Two B ob body go re (.slice ga ng gc) (.slice ra nr rc) w4) := HT2.out.later hb4
          have s4 : B ≤ w4.heap.size := Nat.le_trans hBw hb4.size
          have y1 := HKC.out w4 W4.out
          clear hb4 CW c1 c2 c3
          go_wp2_with fail
          refine (CM.out _ (TX.out _ W4.out)).mono ?_
          rintro e w5 ⟨rfl, hb5⟩
          have F5 : Hid (Fr B ob U w5) := F4.out.later hb5 s4
          have W5 : Hid (Below w.heap.size w w5) := W4.out.trans (hb5.mono W4.out.size)
          have T5 : Hid (Two B ob body go re (.slice ga ng gc) (.slice ra nr rc) w5) := T4.out.later hb5
          have s5 : B ≤ w5.heap.size := Nat.le_trans s4 hb5.size
          clear hb5 y1
          obtain ⟨c1, c2, c3⟩ := HSX.out w5 F5.out
          have b1 := cell_of_row _ _ 1 _ _ _ T5.out.blk
          have hobw : ob < w5.heap.size := by omega
          have b1a : (w5.alloc (.cells #[.string xn, .string xi, .string xm] 48)).cell? ⟨ob, 1, none⟩ = some (.slice ga ng gc) := (World.cell?_alloc_lt _ _ _ hobw).trans b1
          have TA : Hid (Two B ob body go re (.slice ga ng gc) (.slice ra nr rc) (w5.alloc (.cells #[.string xn, .string xi, .string xm] 48))) := T5.out.later ((Below.refl _ _).alloc (Nat.le_refl _) _)
          have FA : Hid (Fr B ob U (w5.alloc (.cells #[.string xn, .string xi, .string xm] 48))) := F5.out.later ((Below.refl _ _).alloc (Nat.le_refl _) _) s5
          have WA : Hid (Below w.heap.size w (w5.alloc (.cells #[.string xn, .string xi, .string xm] 48))) := W5.out.alloc W5.out.size _
          have O4 : Hid ((w5.alloc (.cells #[.string xn, .string xi, .string xm] 48)).drew.ownsRow B 48 3 (.slice ga ng gc) ng (gcs go)) := by have := TA.out.g; unfold Lg at this; rw [HNG.out] at this; exact this
          have AR : Hid (∀ w7 g6 c6, w7.ownsRow B 48 3 (.slice (some ⟨g6, 0, none⟩) (ng + 1) c6) (ng + 1) (gcs go ++ [.string xn, .string xi, .string xm]) → (w5.alloc (.cells #[.string xn, .string xi, .string xm] 48)).grownBy w7 (Value.slice ga ng gc).ownBlock → ((Value.slice ga ng gc).ownBlock = some g6 ∨ g6 = w5.heap.size + 1) → _) := fun w7 g6 c6 h1 h2 h3 => addG_all (x := ⟨xn, xi, xm⟩) (n := ng) (c6 := c6) TA.out FA.out WA.out (by simp; omega) (by omega) HNG.out h1 h2 (by rcases h3 with h | h; exact .inl h; exact .inr (by rw [h]; simp))
          have hn1 : (ng + 1) * 48 ≤ 140737488355328 := by omega
          go_wp2_with fail
          go_region_law ((first | (have zz := O4.out; refine step_append_lies _ (by rfl) (.tmp 64) (.tmp 69) 24 (by rfl) B 48 i0 (.agg #[.string ⟨#[]⟩, .string ⟨#[]⟩, .string ⟨#[]⟩]) 3 48 Tryz.underlying24 HI.out.1 HI.out.2.1 HI.out.2.2.1 HI.out.2.2.2 rfl (by decide) (.slice ga ng gc) ng _ (by simp [Act.eval]) O4.out ⟨w5.heap.size, 0, none⟩ 1 1 [.string xn, .string xi, .string xm] (by simp [Act.eval]) rfl (new_three w5 _ _ _ _) (one_three _ _ _) (by omega) (by unfold maxLen; omega) hn1 (by simp; omega) (w5.heap.size + 1) (by simp) ?_; intro g6 c6 w7 ho7 hg7 hl7 hlt7; have A7 : Hid _ := AR.out w7 g6 c6 ho7 ⟨hg7.os, hg7.tape, hg7.output, hg7.size, hg7.block⟩ hl7; have cz := A7.out.2.1; have fz := A7.out.2.2; clear ho7 hg7 hl7 zz)))
          all_goals (
            go_wp2
            go_roundw
            case rel => exact ⟨k + 1, by omega, by go_num, _, _, go ++ [⟨xn, xi, xm⟩], re, A7.out.1.1, A7.out.1.2.1, A7.out.1.2.2.1, A7.out.1.2.2.2, by rw [List.length_append, HNG.out]; simp; omega, by rw [HNR.out]; omega, HN2.out⟩
            case measure => simp [intOf]; omega)
    · have hlt' : ¬ (k : Int) < n := by omega
      have HF : Hid (OF = some (go, re)) := by
        show _ = _
        rw [← HO.out, List.drop_of_length_le (by rw [HN.out]; omega)]
        rfl
      have hbk := HRX.out _ HFR.out
      have c0 := cell_of_row _ _ 0 _ _ _ hbk
      have c1 := cell_of_row _ _ 1 _ _ _ hbk
      have c2 := cell_of_row _ _ 2 _ _ _ hbk
      have f0 := frozen_of_row _ _ 0 _ _ hbk
      have f1 := frozen_of_row _ _ 1 _ _ hbk
      have f2 := frozen_of_row _ _ 2 _ _ hbk
      have o0 := cell_of_row _ _ 0 _ _ _ HT2.out.blk
      have o1 := cell_of_row _ _ 1 _ _ _ HT2.out.blk
      have o2 := cell_of_row _ _ 2 _ _ _ HT2.out.blk
      have HRF : Hid (R = if go.length = 0 then noO 202 else ((body, go, re), 0)) := by have := HRR.out; rw [HF.out] at this; exact this
      rw [HNG.out] at HRF
      clear HO HF
      by_cases hn0 : ng = 0
      · subst hn0
        have HR : Hid (R = noO 202) := by show _ = _; rw [HRF.out, if_pos rfl]
        have FIN : Hid (∀ W', W' = _ → _) := put_out wr w.heap.size _ _ _ (.string ⟨#[]⟩) (.slice none 0 0) (.slice none 0 0) _ hbk
        clear HRF
        go_wp2
        first
        | (obtain ⟨⟨d0, d1, d2⟩, hbl, _⟩ := FIN.out _ rfl
           exact bodyPost_ret (v := .tuple #[.agg #[.string ⟨#[]⟩, .slice none 0 0, .slice none 0 0], .int .i64 202]) (by simp [results, Tryz.results7, go_sem, d0, d1, d2]) rfl ⟨by rw [HR.out]; exact opq_no _ _ 202, HBW.out.trans (hbl _ (Nat.le_refl _))⟩)
        | exact bodyPost_ret (v := .tuple #[.agg #[.string ⟨#[]⟩, .slice none 0 0, .slice none 0 0], .int .i64 202]) (by simp [results, Tryz.results7, go_sem, c0, c1, c2]) rfl ⟨by rw [HR.out]; exact opq_no _ _ 202, HBW.out⟩
      · have gn : ((ng : Int) == 0) = false := beq_eq_false_iff_ne.2 (by omega)
        have gn' : ¬ (ng : Int) = 0 := by omega
        have HR : Hid (R = ((body, go, re), 0)) := by show _ = _; rw [HRF.out, if_neg hn0]
        have FIN : Hid (∀ W', W' = _ → _) := put_out wr w.heap.size _ _ _ (.string body) (.slice ga ng gc) (.slice ra nr rc) _ hbk
        clear HRF hn0
        go_wp2
        obtain ⟨⟨d0, d1, d2⟩, hbl, hel⟩ := FIN.out _ rfl
        refine bodyPost_ret (v := .tuple #[.agg #[.string body, .slice ga ng gc, .slice ra nr rc], .int .i64 0]) (by simp [results, Tryz.results7, go_sem, d0, d1, d2]) rfl ⟨?_, HBW.out.trans (hbl _ (Nat.le_refl _))⟩
        rw [HR.out]
        refine ⟨ga, gc, ra, rc, by rw [HNG.out, HNR.out], ?_, ?_, (fun a e => by subst e; have := (own_in HT2.out.g rfl).1; omega), (fun a e => by subst e; have := (own_in HT2.out.r rfl).1; omega)⟩
        · show ReadsG _ (.slice ga go.length gc) go
          rw [HNG.out]
          exact lg_reads_same HT2.out.g (fun j h1 h2 => hel j (by omega))
        · show ReadsG _ (.slice ra re.length rc) re
          rw [HNR.out]
          exact lg_reads_same HT2.out.r (fun j h1 h2 => hel j (by omega))
end Go.Proofs.YtmldkecaghokeaaGreatDoor.v7

namespace Go.Proofs.YtmldkecaghokeaaGreatDoor.v8
open Go.RowKit Go.PlainAid Go.Shelf
open Go.Proofs.YtmldkecaghokeaaGreatDoor.ft Go.Proofs.YtmldkecaghokeaaGreatDoor.pj Go.Proofs.YtmldkecaghokeaaGreatDoor.rf Go.Proofs.YtmldkecaghokeaaGreatDoor.mo Go.Proofs.YtmldkecaghokeaaGreatDoor.nh Go.Proofs.YtmldkecaghokeaaGreatDoor.tj Go.Proofs.YtmldkecaghokeaaGreatDoor.n3 Go.Proofs.YtmldkecaghokeaaGreatDoor.n4 Go.Proofs.YtmldkecaghokeaaGreatDoor.o1 Go.Proofs.YtmldkecaghokeaaGreatDoor.o3 Go.Proofs.YtmldkecaghokeaaGreatDoor.o4 Go.Proofs.YtmldkecaghokeaaGreatDoor.o5 Go.Proofs.YtmldkecaghokeaaGreatDoor.o6 Go.Proofs.YtmldkecaghokeaaGreatDoor.kp Go.Proofs.YtmldkecaghokeaaGreatDoor.p2 Go.Proofs.YtmldkecaghokeaaGreatDoor.p3 Go.Proofs.YtmldkecaghokeaaGreatDoor.q2 Go.Proofs.YtmldkecaghokeaaGreatDoor.q5 Go.Proofs.YtmldkecaghokeaaGreatDoor.r1 Go.Proofs.YtmldkecaghokeaaGreatDoor.s1 Go.Proofs.YtmldkecaghokeaaGreatDoor.t3 Go.Proofs.YtmldkecaghokeaaGreatDoor.t4 Go.Proofs.YtmldkecaghokeaaGreatDoor.t5 Go.Proofs.YtmldkecaghokeaaGreatDoor.t6 Go.Proofs.YtmldkecaghokeaaGreatDoor.v2 Go.Proofs.YtmldkecaghokeaaGreatDoor.v4 Go.Proofs.YtmldkecaghokeaaGreatDoor.v5 Go.Proofs.YtmldkecaghokeaaGreatDoor.v7
set_option linter.unusedVariables false
set_option maxRecDepth 4000

-- both Opens, whatever is read
theorem openC (note : ByteArray) (hz : note.size ≤ 281474976710656) (RL : List ByteArray) (hG : Gives note RL) (kv : Value) (ks : List Ky) (w : World) (hk : ReadsY w kv ks) (hl : ks.length ≤ 4398046511104) (hs : ∀ k ∈ ks, k.1.size ≤ 140737488351232 ∧ k.2.size ≤ 140737488351232) (T : Hid (Tab w)) :
    Calls Tryz.prog 6 #[.string note, kv] w fun e w' => OpQ w.heap.size w' (opB note RL ks) e ∧ Below w.heap.size w w' := by
  unfold opB
  by_cases hb : 65536 < note.size
  · rw [if_pos hb]
    exact open_no note kv ks 121 (by decide) w hk (fun X => read_121 note hb hz X)
  · rw [if_neg hb]
    cases hr : readB note RL with
    | none => exact open_no note kv ks 200 (by decide) w hk (fun X => read_200 note (by omega) RL hG hr X)
    | some bg =>
      obtain ⟨body, gs⟩ := bg
      obtain ⟨z16, zb⟩ := readB_size hr
      obtain ⟨hp, h0⟩ := read_pw note RL hG body gs hr
      obtain ⟨_, hf⟩ := note_back note RL hG body gs hr
      exact open_ok note body kv ks gs _ (by omega) z16 hp (by omega) hl hs (fun g hg => by rw [(hf g hg).mac]; omega) rfl w T hk (fun X => read_ok note (by omega) RL hG body gs hr X)
theorem openD (note : ByteArray) (RL : List ByteArray) (hG : Gives note RL) (kv : Value) (ks : List Ky) (w : World) (hk : ReadsY w kv ks) (hl : ks.length ≤ 4398046511104) (hs : ∀ k ∈ ks, k.1.size ≤ 140737488351232 ∧ k.2.size ≤ 140737488351232) (T : Hid (Tab4 w)) :
    Calls Tryz.prog 7 #[.string note, kv] w fun e w' => OpQ w.heap.size w' (opB note RL ks) e ∧ Below w.heap.size w w' := by
  unfold opB
  by_cases hb : 65536 < note.size
  · rw [if_pos hb]
    exact openD_no note kv ks 121 (by decide) w hk (fun X => readD_big note hb X)
  · rw [if_neg hb]
    have hone := rd_one note RL hG
    cases hr : readB note RL with
    | none => exact openD_no note kv ks 200 (by decide) w hk (fun X => readD_no note (by omega) (hone.trans hr) X)
    | some bg =>
      obtain ⟨body, gs⟩ := bg
      obtain ⟨z16, zb⟩ := readB_size hr
      obtain ⟨_, h0⟩ := read_pw note RL hG body gs hr
      obtain ⟨_, hf⟩ := note_back note RL hG body gs hr
      refine openD_ok note body kv ks gs _ (by omega) z16 (by omega) hl hs hf rfl w T hk (fun X => (readD_ok note (by omega) body gs (hone.trans hr) X).mono ?_)
      rintro e W' ⟨a, c, h1, h2, h3⟩
      exact ⟨a, c, h1, h2.reads, h3⟩
set_option maxHeartbeats 1600000 in
theorem sameY (va vb : Value) (l : List Sg) (w : World) (ha : ReadsG w va l) (hb : ReadsG w vb l) (hz : l.length ≤ 1000000) :
    Calls Tryz.prog 20 #[va, vb] w fun e w' => e = .returned (.bool true) ∧ Below w.heap.size w w' := by
  obtain ⟨a, c, rfl, hca⟩ := ha
  obtain ⟨a', c', rfl, hcb⟩ := hb
  have HA : Hid _ := hca
  have HB2 : Hid _ := hcb
  clear hca hcb
  obtain ⟨n, HN⟩ : ∃ n, Hid (l.length = n) := ⟨_, rfl⟩
  have hzn : n ≤ 1000000 := by rw [← HN.out]; exact hz
  rw [HN.out]
  clear hz
  have hnn : ((n : Int) == (n : Int)) = true := beq_iff_eq.2 rfl
  go_enter Tryz.func20, Tryz.ntmps20
  go_wp2
  go_loopw [5] (fun i wr => ∃ k : Nat, k ≤ n ∧ i = .int .i64 k ∧ Hid (Below w.heap.size w wr)) (fun i _ => (n - intOf i).toNat)
  case atStart => exact ⟨0, by omega, rfl, Below.refl _ _⟩
  case round =>
    obtain ⟨k, hk, rfl, HB⟩ := hrel
    by_cases hlt : k < n
    · have hlt' : (k : Int) < n := by omega
      have hkl : k < l.length := by rw [HN.out]; exact hlt
      obtain ⟨x, HX⟩ : ∃ x, Hid (l[k]'hkl = x) := ⟨_, rfl⟩
      obtain ⟨b, off, rfl, hbw, hc⟩ : ∃ b off, a = some ⟨b, off, none⟩ ∧ b < w.heap.size ∧ ∀ i g, l[i]? = some g → w.cell? ⟨b, off + i * 3, none⟩ = some (.string g.name) ∧ w.cell? ⟨b, off + i * 3 + 1, none⟩ = some (.string g.id) ∧ w.cell? ⟨b, off + i * 3 + 2, none⟩ = some (.string g.mac) := by
        rcases HA.out with h | h
        · omega
        · exact h
      obtain ⟨b', off', rfl, hbw', hc'⟩ : ∃ b off, a' = some ⟨b, off, none⟩ ∧ b < w.heap.size ∧ ∀ i g, l[i]? = some g → w.cell? ⟨b, off + i * 3, none⟩ = some (.string g.name) ∧ w.cell? ⟨b, off + i * 3 + 1, none⟩ = some (.string g.id) ∧ w.cell? ⟨b, off + i * 3 + 2, none⟩ = some (.string g.mac) := by
        rcases HB2.out with h | h
        · omega
        · exact h
      obtain ⟨q1, q2, q3⟩ := hc k x (by rw [List.getElem?_eq_getElem hkl, HX.out])
      obtain ⟨r1, r2, r3⟩ := hc' k x (by rw [List.getElem?_eq_getElem hkl, HX.out])
      have c1 := (HB.out.cell (p := ⟨b, off + k * 3, none⟩) hbw).trans q1
      have c2 := (HB.out.cell (p := ⟨b, off + k * 3 + 1, none⟩) hbw).trans q2
      have c3 := (HB.out.cell (p := ⟨b, off + k * 3 + 2, none⟩) hbw).trans q3
      have d1 := (HB.out.cell (p := ⟨b', off' + k * 3, none⟩) hbw').trans r1
      have d2 := (HB.out.cell (p := ⟨b', off' + k * 3 + 1, none⟩) hbw').trans r2
      have d3 := (HB.out.cell (p := ⟨b', off' + k * 3 + 2, none⟩) hbw').trans r3
      have KN : Hid (∀ n, Below w.heap.size w (wr.drewN n)) := fun n => below_dN HB.out n
      clear hc hc' q1 q2 q3 r1 r2 r3 HX
      obtain ⟨xn, xi, xm⟩ := x
      simp only at c1 c2 c3 d1 d2 d3
      go_wp2_with fail
      go_quiet (fail)
      go_wp2
      go_roundw
      case rel => exact ⟨k + 1, by omega, by go_num, KN.out _⟩
      case measure => simp [intOf]; omega
    · have hlt' : ¬ (k : Int) < n := by omega
      go_wp2
      go_ret
      exact ⟨rfl, HB.out⟩
set_option maxHeartbeats 1600000 in
theorem openedY (t : ByteArray) (go re : List Sg) (ga ga' ra ra' : Option Addr) (gc gc' rc rc' : Nat) (w : World) (h1 : ReadsG w (.slice ga go.length gc) go) (h2 : ReadsG w (.slice ga' go.length gc') go) (h3 : ReadsG w (.slice ra re.length rc) re) (h4 : ReadsG w (.slice ra' re.length rc') re) (zg : go.length ≤ 1000000) (zr : re.length ≤ 1000000) :
    Calls Tryz.prog 8 #[.agg #[.string t, .slice ga go.length gc, .slice ra re.length rc], .agg #[.string t, .slice ga' go.length gc', .slice ra' re.length rc']] w fun e w' => e = .returned (.bool true) ∧ Below w.heap.size w w' := by
  have C1 : Hid (∀ X, Below w.heap.size w X → Calls _ _ _ _ _) := fun X h => sameY (.slice ga go.length gc) (.slice ga' go.length gc') go X (h1.later h) (h2.later h) zg
  have C2 : Hid (∀ X, Below w.heap.size w X → Calls _ _ _ _ _) := fun X h => sameY (.slice ra re.length rc) (.slice ra' re.length rc') re X (h3.later h) (h4.later h) zr
  clear h1 h2 h3 h4
  generalize go.length = ng at *
  generalize re.length = nr at *
  have gt : (t.toList == t.toList) = true := beq_iff_eq.2 rfl
  obtain ⟨W, HW⟩ : ∃ W, Hid ((w.alloc (.cells #[.string t, .slice ga ng gc, .slice ra nr rc] 26)).alloc (.cells #[.string t, .slice ga' ng gc', .slice ra' nr rc'] 26) = W) := ⟨_, rfl⟩
  have BW : Hid (Below w.heap.size w W) := by rw [← HW.out]; exact ((Below.refl _ _).alloc (Nat.le_refl _) _).alloc (by simp) _
  have SX : Hid (∀ X, Below (w.heap.size + 2) W X → (X.cell? ⟨w.heap.size, 0, none⟩ = some (.string t) ∧ X.cell? ⟨w.heap.size, 1, none⟩ = some (.slice ga ng gc) ∧ X.cell? ⟨w.heap.size, 2, none⟩ = some (.slice ra nr rc)) ∧ X.cell? ⟨w.heap.size + 1, 0, none⟩ = some (.string t) ∧ X.cell? ⟨w.heap.size + 1, 1, none⟩ = some (.slice ga' ng gc') ∧ X.cell? ⟨w.heap.size + 1, 2, none⟩ = some (.slice ra' nr rc')) := by
    rw [← HW.out]
    intro X h
    have k0 : ∀ off, X.cell? ⟨w.heap.size, off, none⟩ = (w.alloc (.cells #[.string t, .slice ga ng gc, .slice ra nr rc] 26)).cell? ⟨w.heap.size, off, none⟩ := fun off => (h.cell (p := ⟨w.heap.size, off, none⟩) (by show w.heap.size < w.heap.size + 2; omega)).trans (World.cell?_alloc_lt _ _ _ (by simp))
    have k1 : ∀ off, X.cell? ⟨w.heap.size + 1, off, none⟩ = ((w.alloc (.cells #[.string t, .slice ga ng gc, .slice ra nr rc] 26)).alloc (.cells #[.string t, .slice ga' ng gc', .slice ra' nr rc'] 26)).cell? ⟨w.heap.size + 1, off, none⟩ := fun off => h.cell (p := ⟨w.heap.size + 1, off, none⟩) (by show w.heap.size + 1 < w.heap.size + 2; omega)
    refine ⟨⟨?_, ?_, ?_⟩, ?_, ?_, ?_⟩
    · rw [k0, World.cell?_alloc_at _ _ _ _ rfl]; rfl
    · rw [k0, World.cell?_alloc_at _ _ _ _ rfl]; rfl
    · rw [k0, World.cell?_alloc_at _ _ _ _ rfl]; rfl
    · rw [k1, World.cell?_alloc_at _ _ _ _ (by simp)]; rfl
    · rw [k1, World.cell?_alloc_at _ _ _ _ (by simp)]; rfl
    · rw [k1, World.cell?_alloc_at _ _ _ _ (by simp)]; rfl
  have zW : w.heap.size + 2 ≤ W.heap.size := by rw [← HW.out]; simp
  obtain ⟨⟨a0, a1, a2⟩, b0, b1, b2⟩ := SX.out W (Below.refl _ _)
  go_enter Tryz.func8, Tryz.ntmps8
  go_upto_region 1 with fail
  rw [HW.out]
  go_wp2_with fail
  refine (C1.out W BW.out).mono ?_
  rintro e w1 ⟨rfl, hb1⟩
  have B1 : Hid (Below (w.heap.size + 2) W w1) := hb1.mono (by omega)
  have BB1 : Hid (Below w.heap.size w w1) := BW.out.trans (hb1.mono BW.out.size)
  clear hb1 a0 a1 a2 b0 b1 b2
  obtain ⟨⟨a0, a1, a2⟩, b0, b1, b2⟩ := SX.out w1 B1.out
  go_wp2_with fail
  refine (C2.out w1 BB1.out).mono ?_
  rintro e w2 ⟨rfl, hb2⟩
  have BB2 : Hid (Below w.heap.size w w2) := BB1.out.trans (hb2.mono BB1.out.size)
  clear hb2
  go_wp2
  go_ret
  exact ⟨rfl, BB2.out⟩
end Go.Proofs.YtmldkecaghokeaaGreatDoor.v8

namespace Go.Proofs.YtmldkecaghokeaaGreatDoor.v9
open Go.RowKit Go.PlainAid Go.Shelf
open Go.Proofs.YtmldkecaghokeaaGreatDoor.ft Go.Proofs.YtmldkecaghokeaaGreatDoor.pj Go.Proofs.YtmldkecaghokeaaGreatDoor.rf Go.Proofs.YtmldkecaghokeaaGreatDoor.mo Go.Proofs.YtmldkecaghokeaaGreatDoor.nd Go.Proofs.YtmldkecaghokeaaGreatDoor.nh Go.Proofs.YtmldkecaghokeaaGreatDoor.tj Go.Proofs.YtmldkecaghokeaaGreatDoor.n3 Go.Proofs.YtmldkecaghokeaaGreatDoor.n4 Go.Proofs.YtmldkecaghokeaaGreatDoor.o1 Go.Proofs.YtmldkecaghokeaaGreatDoor.o3 Go.Proofs.YtmldkecaghokeaaGreatDoor.o4 Go.Proofs.YtmldkecaghokeaaGreatDoor.o5 Go.Proofs.YtmldkecaghokeaaGreatDoor.o6 Go.Proofs.YtmldkecaghokeaaGreatDoor.kp Go.Proofs.YtmldkecaghokeaaGreatDoor.p2 Go.Proofs.YtmldkecaghokeaaGreatDoor.p3 Go.Proofs.YtmldkecaghokeaaGreatDoor.q2 Go.Proofs.YtmldkecaghokeaaGreatDoor.q5 Go.Proofs.YtmldkecaghokeaaGreatDoor.r1 Go.Proofs.YtmldkecaghokeaaGreatDoor.t5 Go.Proofs.YtmldkecaghokeaaGreatDoor.v2 Go.Proofs.YtmldkecaghokeaaGreatDoor.v4 Go.Proofs.YtmldkecaghokeaaGreatDoor.v8
set_option linter.unusedVariables false
set_option maxRecDepth 4000

theorem op_len (ks : List Ky) (body : ByteArray) : ∀ (gs : List Sg) (s r : List Sg × List Sg), opF ks body gs s = some r → r.1.length ≤ s.1.length + gs.length ∧ r.2.length ≤ s.2.length + gs.length
  | [], s, r, h => by
    rw [opF] at h
    obtain rfl := Option.some.inj h
    simp
  | g :: gs, s, r, h => by
    rw [opF] at h
    split at h
    · have := op_len ks body gs _ r h
      simp at this ⊢; omega
    · split at h
      · have := op_len ks body gs _ r h
        simp at this ⊢; omega
      · cases h
theorem opB_len (note : ByteArray) (RL : List ByteArray) (ks : List Ky) : (opB note RL ks).1.2.1.length ≤ 1000000 ∧ (opB note RL ks).1.2.2.length ≤ 1000000 := by
  unfold opB
  by_cases hb : 65536 < note.size
  · rw [if_pos hb]; exact ⟨Nat.zero_le _, Nat.zero_le _⟩
  · rw [if_neg hb]
    cases hr : readB note RL with
    | none => exact ⟨Nat.zero_le _, Nat.zero_le _⟩
    | some bg =>
      obtain ⟨body, gs⟩ := bg
      have z := (readB_size hr).1
      simp only
      cases hf : opF ks body gs ([], []) with
      | none => exact ⟨Nat.zero_le _, Nat.zero_le _⟩
      | some gr =>
        obtain ⟨go, re⟩ := gr
        have := op_len ks body gs _ _ hf
        simp at this
        simp only
        split
        · exact ⟨Nat.zero_le _, Nat.zero_le _⟩
        · exact ⟨by show go.length ≤ _; omega, by show re.length ≤ _; omega⟩
def OpR (B0 : Nat) (w' : World) (t : ByteArray) (go re : List Sg) (ng nr : Nat) (E : Int) (e : Ending) : Prop := ∃ ga gc ra rc, e = .returned (.tuple #[.agg #[.string t, .slice ga ng gc, .slice ra nr rc], .int .i64 E]) ∧ ReadsG w' (.slice ga ng gc) go ∧ ReadsG w' (.slice ra nr rc) re ∧ (∀ a, ga = some a → B0 ≤ a.block) ∧ ∀ a, ra = some a → B0 ≤ a.block
theorem opr_of {B0 : Nat} {w' : World} {t : ByteArray} {go re : List Sg} {ng nr : Nat} {E : Int} {e : Ending} (h : OpQ B0 w' ((t, go, re), E) e) (h1 : go.length = ng) (h2 : re.length = nr) : OpR B0 w' t go re ng nr E e := by
  subst h1 h2
  exact h
theorem reads_set {w : World} {a : Option Addr} {n c g off : Nat} {l : List Sg} {u : Value} (h : ReadsG w (.slice a n c) l) (hg : ∀ x, a = some x → g < x.block) : ReadsG (w.setCell ⟨g, off, none⟩ u) (.slice a n c) l := by
  obtain ⟨a', c', e, h0 | ⟨b, o, rfl, hb, hc⟩⟩ := h
  · exact ⟨a', c', e, .inl h0⟩
  · have e2 := e
    injection e2 with e1 _ _
    have hgb := hg ⟨b, o, none⟩ e1
    refine ⟨_, c', e, .inr ⟨b, o, rfl, by simpa [World.setCell] using hb, fun i x hi => ?_⟩⟩
    have hs : (w.setCell ⟨g, off, none⟩ u).heap[b]? = w.heap[b]? := set_else (fun e => by have : g < b := hgb; omega)
    obtain ⟨q1, q2, q3⟩ := hc i x hi
    exact ⟨(World.cell?_of_block (a := ⟨b, o + i * 3, none⟩) hs).trans q1, (World.cell?_of_block (a := ⟨b, o + i * 3 + 1, none⟩) hs).trans q2, (World.cell?_of_block (a := ⟨b, o + i * 3 + 2, none⟩) hs).trans q3⟩
-- two opened notes in their boxes
structure Pr2 (g o1 o2 : Nat) (t : ByteArray) (go re : List Sg) (ng nr : Nat) (ga ra ga' ra' : Option Addr) (gc rc gc' rc' : Nat) (w : World) : Prop where
  b1 : w.heap[o1]? = some (.cells #[.string t, .slice ga ng gc, .slice ra nr rc] 26 (0, 0))
  b2 : w.heap[o2]? = some (.cells #[.string t, .slice ga' ng gc', .slice ra' nr rc'] 26 (0, 0))
  n1 : g < o1
  n2 : g < o2
  g1 : ReadsG w (.slice ga ng gc) go
  r1 : ReadsG w (.slice ra nr rc) re
  g2 : ReadsG w (.slice ga' ng gc') go
  r2 : ReadsG w (.slice ra' nr rc') re
  h1 : ∀ a, ga = some a → g < a.block
  h2 : ∀ a, ra = some a → g < a.block
  h3 : ∀ a, ga' = some a → g < a.block
  h4 : ∀ a, ra' = some a → g < a.block
theorem Pr2.later {g o1 o2 : Nat} {t : ByteArray} {go re : List Sg} {ng nr : Nat} {ga ra ga' ra' : Option Addr} {gc rc gc' rc' : Nat} {w w' : World} (h : Pr2 g o1 o2 t go re ng nr ga ra ga' ra' gc rc gc' rc' w) (b : Below w.heap.size w w') : Pr2 g o1 o2 t go re ng nr ga ra ga' ra' gc rc gc' rc' w' :=
  ⟨(b.block o1 (Array.getElem?_eq_some_iff.1 h.b1).1).trans h.b1, (b.block o2 (Array.getElem?_eq_some_iff.1 h.b2).1).trans h.b2, h.n1, h.n2, h.g1.later b, h.r1.later b, h.g2.later b, h.r2.later b, h.h1, h.h2, h.h3, h.h4⟩
theorem Pr2.set {g o1 o2 off : Nat} {t : ByteArray} {go re : List Sg} {ng nr : Nat} {ga ra ga' ra' : Option Addr} {gc rc gc' rc' : Nat} {w : World} {u : Value} (h : Pr2 g o1 o2 t go re ng nr ga ra ga' ra' gc rc gc' rc' w) : Pr2 g o1 o2 t go re ng nr ga ra ga' ra' gc rc gc' rc' (w.setCell ⟨g, off, none⟩ u) :=
  ⟨(set_else (by have := h.n1; omega)).trans h.b1, (set_else (by have := h.n2; omega)).trans h.b2, h.n1, h.n2, reads_set h.g1 h.h1, reads_set h.r1 h.h2, reads_set h.g2 h.h3, reads_set h.r2 h.h4, h.h1, h.h2, h.h3, h.h4⟩
theorem Pr2.same {g o1 o2 : Nat} {t : ByteArray} {go re : List Sg} {ng nr : Nat} {ga ra ga' ra' : Option Addr} {gc rc gc' rc' : Nat} {w : World} (h : Pr2 g o1 o2 t go re ng nr ga ra ga' ra' gc rc gc' rc' w) (e1 : go.length = ng) (e2 : re.length = nr) (z1 : ng ≤ 1000000) (z2 : nr ≤ 1000000) :
    Calls Tryz.prog 8 #[.agg #[.string t, .slice ga ng gc, .slice ra nr rc], .agg #[.string t, .slice ga' ng gc', .slice ra' nr rc']] w fun e w' => e = .returned (.bool true) ∧ Below w.heap.size w w' := by
  subst e1 e2
  exact openedY t go re ga ga' ra ra' gc gc' rc rc' w h.g1 h.g2 h.r1 h.r2 z1 z2
theorem pr2_new {g : Nat} {t : ByteArray} {go re : List Sg} {ng nr : Nat} {ga ra ga' ra' : Option Addr} {gc rc gc' rc' : Nat} {w1 w2 w3 : World} (hg : g < w1.heap.size) (b2 : Below w1.heap.size w1 w2) (g1 : ReadsG w2 (.slice ga ng gc) go) (r1 : ReadsG w2 (.slice ra nr rc) re) (h1 : ∀ a, ga = some a → w1.heap.size ≤ a.block) (h2 : ∀ a, ra = some a → w1.heap.size ≤ a.block)
    (b3 : Below (w2.alloc (.cells #[.string t, .slice ga ng gc, .slice ra nr rc] 26)).heap.size (w2.alloc (.cells #[.string t, .slice ga ng gc, .slice ra nr rc] 26)) w3) (g2 : ReadsG w3 (.slice ga' ng gc') go) (r2 : ReadsG w3 (.slice ra' nr rc') re) (h3 : ∀ a, ga' = some a → (w2.alloc (.cells #[.string t, .slice ga ng gc, .slice ra nr rc] 26)).heap.size ≤ a.block) (h4 : ∀ a, ra' = some a → (w2.alloc (.cells #[.string t, .slice ga ng gc, .slice ra nr rc] 26)).heap.size ≤ a.block) :
    Pr2 g w2.heap.size w3.heap.size t go re ng nr ga ra ga' ra' gc rc gc' rc' (w3.alloc (.cells #[.string t, .slice ga' ng gc', .slice ra' nr rc'] 26)) := by
  have zz := b2.size
  have z3 := b3.size
  simp only [World.size_alloc] at b3 h3 h4 z3
  have e1 : (w2.alloc (.cells #[.string t, .slice ga ng gc, .slice ra nr rc] 26)).heap[w2.heap.size]? = some (.cells #[.string t, .slice ga ng gc, .slice ra nr rc] 26 (0, 0)) := heap_alloc_new w2 _
  have bA : Below w3.heap.size w3 (w3.alloc (.cells #[.string t, .slice ga' ng gc', .slice ra' nr rc'] 26)) := (Below.refl _ _).alloc (Nat.le_refl _) _
  have b23 : Below w2.heap.size w2 w3 := (((Below.refl _ _).alloc (Nat.le_refl _) _).trans (b3.mono (Nat.le_succ _)))
  refine ⟨(bA.block w2.heap.size (by omega)).trans ((b3.block w2.heap.size (Nat.lt_succ_self _)).trans e1), heap_alloc_new w3 _, by omega, by omega, (g1.later b23).later bA, (r1.later b23).later bA, g2.later bA, r2.later bA, fun a e => ?_, fun a e => ?_, fun a e => ?_, fun a e => ?_⟩
  · have := h1 a e; omega
  · have := h2 a e; omega
  · have := h3 a e; omega
  · have := h4 a e; omega
end Go.Proofs.YtmldkecaghokeaaGreatDoor.v9

namespace Go.Proofs.YtmldkecaghokeaaGreatDoor.va2
open Go.RowKit Go.PlainAid Go.Shelf
open Go.Proofs.YtmldkecaghokeaaGreatDoor.ft Go.Proofs.YtmldkecaghokeaaGreatDoor.pj Go.Proofs.YtmldkecaghokeaaGreatDoor.rf Go.Proofs.YtmldkecaghokeaaGreatDoor.mo Go.Proofs.YtmldkecaghokeaaGreatDoor.nd Go.Proofs.YtmldkecaghokeaaGreatDoor.nh Go.Proofs.YtmldkecaghokeaaGreatDoor.tj Go.Proofs.YtmldkecaghokeaaGreatDoor.n3 Go.Proofs.YtmldkecaghokeaaGreatDoor.n4 Go.Proofs.YtmldkecaghokeaaGreatDoor.o1 Go.Proofs.YtmldkecaghokeaaGreatDoor.o3 Go.Proofs.YtmldkecaghokeaaGreatDoor.o4 Go.Proofs.YtmldkecaghokeaaGreatDoor.o5 Go.Proofs.YtmldkecaghokeaaGreatDoor.o6 Go.Proofs.YtmldkecaghokeaaGreatDoor.kp Go.Proofs.YtmldkecaghokeaaGreatDoor.p2 Go.Proofs.YtmldkecaghokeaaGreatDoor.p3 Go.Proofs.YtmldkecaghokeaaGreatDoor.q2 Go.Proofs.YtmldkecaghokeaaGreatDoor.v4 Go.Proofs.YtmldkecaghokeaaGreatDoor.v8 Go.Proofs.YtmldkecaghokeaaGreatDoor.v9
set_option linter.unusedVariables false
set_option maxRecDepth 4000

set_option maxHeartbeats 12800000 in
theorem law_open (W0 : World) (b : ByteArray) (hb : b.size ≤ 140737488351232) (v : Value) (ks : List Ky) (hr : ReadsY W0 v ks) (hz : ks.length * 32 ≤ 140737488351232) (hs : ∀ k ∈ ks, k.1.size ≤ 140737488351232 ∧ k.2.size ≤ 140737488351232) (tabs : St8 W0 1 ∧ K64 W0 4 ∧ St8 W0 0 ∧ K64 W0 2) :
    Calls Tryz.prog 3 #[.string b, v] W0 fun e w' => e = .returned (.bool true) ∧ Below W0.heap.size W0 w' := by
  have T : Hid (Tab4 W0) := Tab4.of tabs
  clear tabs
  obtain ⟨RL, hG, _⟩ := gives_ex b
  obtain ⟨a, c, rfl, _⟩ := id hr
  have HR : Hid (ReadsY W0 (.slice a ks.length c) ks) := hr
  have HS : Hid _ := hs
  have HG : Hid (Gives b RL) := hG
  have C1 : Hid (Calls _ _ _ _ _) := keysC (.slice a ks.length c) ks W0 hr hz
  obtain ⟨O, HO⟩ : ∃ O, Hid (opB b RL ks = O) := ⟨_, rfl⟩
  have hlen := opB_len b RL ks
  rw [HO.out] at hlen
  obtain ⟨⟨t, go, re⟩, E⟩ := O
  obtain ⟨ng, HNG⟩ : ∃ ng, Hid (go.length = ng) := ⟨_, rfl⟩
  obtain ⟨nr, HNR⟩ : ∃ nr, Hid (re.length = nr) := ⟨_, rfl⟩
  have zg : ng ≤ 1000000 := by rw [← HNG.out]; exact hlen.1
  have zr : nr ≤ 1000000 := by rw [← HNR.out]; exact hlen.2
  have C2 : Hid (∀ w v, ReadsY w v ks → Tab4 w → Calls Tryz.prog 6 #[.string b, v] w fun e w' => OpR w.heap.size w' t go re ng nr E e ∧ Below w.heap.size w w') := fun w v h1 h2 => (openC b (by omega) RL hG v ks w h1 (by omega) hs h2.t).mono (by
    rintro e w' ⟨h, hb⟩
    rw [HO.out] at h
    exact ⟨opr_of h HNG.out HNR.out, hb⟩)
  have C3 : Hid (∀ w v, ReadsY w v ks → Tab4 w → Calls Tryz.prog 7 #[.string b, v] w fun e w' => OpR w.heap.size w' t go re ng nr E e ∧ Below w.heap.size w w') := fun w v h1 h2 => (openD b RL hG v ks w h1 (by omega) hs h2).mono (by
    rintro e w' ⟨h, hb⟩
    rw [HO.out] at h
    exact ⟨opr_of h HNG.out HNR.out, hb⟩)
  have C4 : Hid (∀ w g cap v, At w g (ks ++ [(behind, ByteArray.empty)]) → ReadsY w v ks → Calls _ _ _ _ _) := fun w g cap v h1 h2 => keptC g cap v ks w h1 h2 hz
  clear hr hs hG hlen HO
  obtain ⟨n, HN⟩ : ∃ n, Hid (ks.length = n) := ⟨_, rfl⟩
  have hzn : n * 32 ≤ 140737488351232 := by rw [← HN.out]; exact hz
  rw [HN.out] at C1 C4 ⊢
  clear hz
  have hEE : (E == E) = true := beq_iff_eq.2 rfl
  go_enter Tryz.func3, Tryz.ntmps3
  go_wp2_with fail
  refine C1.out.mono ?_
  rintro e w1 ⟨⟨g, cap, rfl, hk1⟩, hb1⟩
  have hcap : n + 1 ≤ cap := by have := hk1.cells.2.1; simp at this; rw [HN.out] at this; exact this
  have hfz : ∀ j, w1.frozen? ⟨g, j, none⟩ = false := hk1.cells.2.2.2.2.1
  have HFZ : Hid (∀ j, w1.frozen? ⟨g, j, none⟩ = false) := hfz
  have A1 : Hid (At w1 g (ks ++ [(behind, ByteArray.empty)])) := at_of hk1
  have HGB : Hid (W0.heap.size ≤ g) := hk1.cells.2.2.2.1
  have B1 : Hid (Below W0.heap.size W0 w1) := hb1
  clear hk1 hb1 hfz
  have hcap' : (n : Int) ≤ cap := by omega
  have hcap0 : ¬ cap = 0 := by omega
  have R1 : Hid (ReadsY w1 (.slice (some ⟨g, 0, none⟩) n cap) ks) := by
    have := A1.out.reads (cap := cap) (by rw [HN.out]; omega)
    rw [HN.out] at this
    exact this
  have T1 : Hid (Tab4 w1) := T.out.down B1.out
  go_wp2_with fail
  refine (C2.out _ _ R1.out T1.out).mono ?_
  rintro e w2 ⟨⟨ga, gc, ra, rc, rfl, hg1, hr1, hx1, hx2⟩, hb2⟩
  have B2 : Hid (Below w1.heap.size w1 w2) := hb2
  have G2 : Hid (_ ∧ _ ∧ _ ∧ _) := ⟨hg1, hr1, hx1, hx2⟩
  clear hb2 hg1 hr1 hx1 hx2
  obtain ⟨V2, HV2⟩ : ∃ V2, Hid (w2.alloc (.cells #[.string t, .slice ga ng gc, .slice ra nr rc] 26) = V2) := ⟨_, rfl⟩
  have BV2 : Hid (Below w2.heap.size w2 V2) := by rw [← HV2.out]; exact (Below.refl _ _).alloc (Nat.le_refl _) _
  have B2w : Hid (Below W0.heap.size W0 V2) := over (over B1.out B2.out) BV2.out
  have R2 : Hid (ReadsY V2 (.slice a n c) ks) := by have := HR.out.later B2w.out; rw [HN.out] at this; exact this
  have T2 : Hid (Tab4 V2) := T.out.down B2w.out
  go_upto_region 3 with fail
  rw [HV2.out]
  go_wp2_with fail
  refine (C3.out _ _ R2.out T2.out).mono ?_
  rintro e w3 ⟨⟨ga', gc', ra', rc', rfl, hg2, hr2, hx3, hx4⟩, hb3⟩
  have HP3 : Hid (Pr2 g w2.heap.size w3.heap.size t go re ng nr ga ra ga' ra' gc rc gc' rc' (w3.alloc (.cells #[.string t, .slice ga' ng gc', .slice ra' nr rc'] 26))) := pr2_new A1.out.1 B2.out G2.out.1 G2.out.2.1 G2.out.2.2.1 G2.out.2.2.2 (by rw [HV2.out]; exact hb3) hg2 hr2 (by rw [HV2.out]; exact hx3) (by rw [HV2.out]; exact hx4)
  have B3 : Hid (Below V2.heap.size V2 w3) := hb3
  clear hb3 hg2 hr2 hx3 hx4
  obtain ⟨V3, HV3⟩ : ∃ V3, Hid (w3.alloc (.cells #[.string t, .slice ga' ng gc', .slice ra' nr rc'] 26) = V3) := ⟨_, rfl⟩
  rw [HV3.out] at HP3
  have BV3 : Hid (Below w3.heap.size w3 V3) := by rw [← HV3.out]; exact (Below.refl _ _).alloc (Nat.le_refl _) _
  have B13 : Hid (Below w1.heap.size w1 V3) := over (over (over B2.out BV2.out) B3.out) BV3.out
  obtain ⟨o1, HO1⟩ : ∃ o1, Hid (w2.heap.size = o1) := ⟨_, rfl⟩
  obtain ⟨o2, HO2⟩ : ∃ o2, Hid (w3.heap.size = o2) := ⟨_, rfl⟩
  rw [HO1.out, HO2.out] at HP3
  have C5 : Hid (∀ w, Pr2 g o1 o2 t go re ng nr ga ra ga' ra' gc rc gc' rc' w → Calls _ _ _ _ _) := fun w h => h.same HNG.out HNR.out zg zr
  have a0 := cell_of_row _ _ 0 _ _ _ HP3.out.b1
  have a1 := cell_of_row _ _ 1 _ _ _ HP3.out.b1
  have a2 := cell_of_row _ _ 2 _ _ _ HP3.out.b1
  have d0 := cell_of_row _ _ 0 _ _ _ HP3.out.b2
  have d1 := cell_of_row _ _ 1 _ _ _ HP3.out.b2
  have d2 := cell_of_row _ _ 2 _ _ _ HP3.out.b2
  rw [HO1.out]
  go_upto_region 4 with fail
  rw [HV3.out, HO2.out]
  go_wp2_with fail
  refine (C5.out _ HP3.out).mono ?_
  rintro e w4 ⟨rfl, hb4⟩
  have P4 : Hid (Pr2 g o1 o2 t go re ng nr ga ra ga' ra' gc rc gc' rc' w4) := HP3.out.later hb4
  have B14 : Hid (Below w1.heap.size w1 w4) := over B13.out hb4
  have B4w : Hid (Below W0.heap.size W0 w4) := over B1.out B14.out
  have A4 : Hid (At w4 g (ks ++ [(behind, ByteArray.empty)])) := A1.out.later B14.out
  have R4 : Hid (ReadsY w4 (.slice a n c) ks) := by have := HR.out.later B4w.out; rw [HN.out] at this; exact this
  clear hb4 a0 a1 a2 d0 d1 d2
  cases ks with
  | nil =>
    have hn0 : n = 0 := HN.out.symm
    subst hn0
    go_upto_region 5 with (first | (go_at_call 9; refine (numC _ _).mono ?_; rintro e wz ⟨rfl, hz⟩; rw [hz]; clear hz wz) | (go_at_call 10; refine (C4.out w4 g cap _ A4.out R4.out).mono ?_; rintro e w5 ⟨rfl, hb5⟩; have B5 : Hid (Below W0.heap.size W0 w5) := over B4w.out hb5; have A5 : Hid (At w5 g [(behind, ByteArray.empty)]) := A4.out.later hb5; have R5 : Hid (ReadsY w5 (.slice a 0 c) []) := R4.out.later hb5; have P5 : Hid (Pr2 g o1 o2 t go re ng nr ga ra ga' ra' gc rc gc' rc' w5) := P4.out.later hb5; clear hb5))
    have a0 := cell_of_row _ _ 0 _ _ _ P5.out.b1
    have a1 := cell_of_row _ _ 1 _ _ _ P5.out.b1
    have a2 := cell_of_row _ _ 2 _ _ _ P5.out.b1
    have d0 := cell_of_row _ _ 0 _ _ _ P5.out.b2
    have d1 := cell_of_row _ _ 1 _ _ _ P5.out.b2
    have d2 := cell_of_row _ _ 2 _ _ _ P5.out.b2
    go_wp2_with fail
    refine (C5.out _ P5.out).mono ?_
    rintro e w6 ⟨rfl, hb6⟩
    have B6 : Hid (Below W0.heap.size W0 w6) := over B5.out hb6
    have A6 : Hid (At w6 g [(behind, ByteArray.empty)]) := A5.out.later hb6
    have R6 : Hid (ReadsY w6 (.slice a 0 c) []) := R5.out.later hb6
    clear hb6 a0 a1 a2 d0 d1 d2
    go_wp2_with (first | (go_at_call 9; refine (numC _ _).mono ?_; rintro e wz ⟨rfl, hz⟩; rw [hz]; clear hz wz) | (go_at_call 10; refine (C4.out w6 g cap _ A6.out R6.out).mono ?_; rintro e w7 ⟨rfl, hb7⟩; have B7 : Hid (Below W0.heap.size W0 w7) := over B6.out hb7; clear hb7))
    go_ret
    exact ⟨rfl, B7.out⟩
  | cons k r =>
    have hn0 : ¬ (n : Int) = 0 := by have := HN.out; simp at this; omega
    have hnb : ((n : Int) == 0) = false := beq_eq_false_iff_ne.2 hn0
    have hnp : (0 : Int) < (n : Int) + 1 := by omega
    go_upto_region 6 with (first | (go_at_call 9; refine (numC _ _).mono ?_; rintro e wz ⟨rfl, hz⟩; rw [hz]; clear hz wz) | (go_at_call 10; refine (C4.out w4 g cap _ A4.out R4.out).mono ?_; rintro e w5 ⟨rfl, hb5⟩; have B15 : Hid (Below w1.heap.size w1 w5) := over B14.out hb5; have A5 : Hid (At w5 g (k :: (r ++ [(behind, ByteArray.empty)]))) := A4.out.later hb5; have P5 : Hid (Pr2 g o1 o2 t go re ng nr ga ra ga' ra' gc rc gc' rc' w5) := P4.out.later hb5; have c0 := (A5.out.2 0 k rfl).1; have f0 : w5.frozen? ⟨g, 0, none⟩ = false := (B15.out.frozen (p := ⟨g, 0, none⟩) A1.out.1).trans (HFZ.out 0); clear hb5))
    obtain ⟨W6, HW6⟩ : ∃ W6, Hid (w5.setCell ⟨g, 0, none⟩ (.string another) = W6) := ⟨_, rfl⟩
    have hw6 : w5.setCell ⟨g, 0, none⟩ (.string ⟨#[97, 110, 111, 116, 104, 101, 114]⟩) = W6 := HW6.out
    have A6 : Hid (At W6 g (((another, k.2) :: r) ++ [(behind, ByteArray.empty)])) := by rw [← HW6.out]; exact at_set A5.out another
    have P6 : Hid (Pr2 g o1 o2 t go re ng nr ga ra ga' ra' gc rc gc' rc' W6) := by rw [← HW6.out]; exact P5.out.set
    have B5w : Hid (Below W0.heap.size W0 w5) := over B1.out B15.out
    have B6 : Hid (Below W0.heap.size W0 W6) := by rw [← HW6.out]; exact B5w.out.setCell HGB.out _
    have HN2 : Hid (((another, k.2) :: r).length = n) := HN.out
    have R6 : Hid (ReadsY W6 (.slice (some ⟨g, 0, none⟩) n cap) ((another, k.2) :: r)) := by
      have := A6.out.reads (cap := cap) (by rw [HN2.out]; omega)
      rw [HN2.out] at this
      exact this
    have HS2 : Hid (∀ x ∈ ((another, k.2) :: r), x.1.size ≤ 140737488351232 ∧ x.2.size ≤ 140737488351232) := by
      intro x hx
      rcases List.mem_cons.1 hx with rfl | hx
      · exact ⟨by show another.size ≤ 140737488351232; decide, (HS.out k (by simp)).2⟩
      · exact HS.out x (by simp [hx])
    have T6 : Hid (Tab4 W6) := T.out.down B6.out
    obtain ⟨O', HO'⟩ : ∃ O', Hid (opB b RL ((another, k.2) :: r) = O') := ⟨_, rfl⟩
    have hlen' := opB_len b RL ((another, k.2) :: r)
    rw [HO'.out] at hlen'
    obtain ⟨⟨t', go', re'⟩, E'⟩ := O'
    obtain ⟨mg, HMG⟩ : ∃ mg, Hid (go'.length = mg) := ⟨_, rfl⟩
    obtain ⟨mr, HMR⟩ : ∃ mr, Hid (re'.length = mr) := ⟨_, rfl⟩
    have yg : mg ≤ 1000000 := by rw [← HMG.out]; exact hlen'.1
    have yr : mr ≤ 1000000 := by rw [← HMR.out]; exact hlen'.2
    have hEE' : (E' == E') = true := beq_iff_eq.2 rfl
    have C6 : Hid (Calls Tryz.prog 6 #[.string b, .slice (some ⟨g, 0, none⟩) n cap] W6 fun e w' => OpR W6.heap.size w' t' go' re' mg mr E' e ∧ Below W6.heap.size W6 w') := (openC b (by omega) RL HG.out _ _ W6 R6.out (by rw [HN2.out]; omega) HS2.out T6.out.t).mono (by
      rintro e w' ⟨h, hb⟩
      rw [HO'.out] at h
      exact ⟨opr_of h HMG.out HMR.out, hb⟩)
    have C7 : Hid (∀ w, Below W6.heap.size W6 w → Calls Tryz.prog 7 #[.string b, .slice (some ⟨g, 0, none⟩) n cap] w fun e w' => OpR w.heap.size w' t' go' re' mg mr E' e ∧ Below w.heap.size w w') := fun w h => (openD b RL HG.out _ _ w (R6.out.later h) (by rw [HN2.out]; omega) HS2.out (T6.out.down h)).mono (by
      rintro e w' ⟨h, hb⟩
      rw [HO'.out] at h
      exact ⟨opr_of h HMG.out HMR.out, hb⟩)
    go_upto_region 7 with fail
    (try rw [hw6])
    clear hw6 c0 f0 hlen' HO'
    go_wp2_with fail
    refine C6.out.mono ?_
    rintro e w7 ⟨⟨ha, hc, ia, ic, rfl, hg7, hr7, hx5, hx6⟩, hb7⟩
    have B7 : Hid (Below W6.heap.size W6 w7) := hb7
    have G7 : Hid (_ ∧ _ ∧ _ ∧ _) := ⟨hg7, hr7, hx5, hx6⟩
    clear hb7 hg7 hr7 hx5 hx6
    obtain ⟨V7, HV7⟩ : ∃ V7, Hid (w7.alloc (.cells #[.string t', .slice ha mg hc, .slice ia mr ic] 26) = V7) := ⟨_, rfl⟩
    have BV7 : Hid (Below w7.heap.size w7 V7) := by rw [← HV7.out]; exact (Below.refl _ _).alloc (Nat.le_refl _) _
    have B67 : Hid (Below W6.heap.size W6 V7) := over B7.out BV7.out
    go_upto_region 8 with fail
    rw [HV7.out]
    go_wp2_with fail
    refine (C7.out _ B67.out).mono ?_
    rintro e w8 ⟨⟨ha', hc', ia', ic', rfl, hg8, hr8, hx7, hx8⟩, hb8⟩
    have HP8 : Hid (Pr2 g w7.heap.size w8.heap.size t' go' re' mg mr ha ia ha' ia' hc ic hc' ic' (w8.alloc (.cells #[.string t', .slice ha' mg hc', .slice ia' mr ic'] 26))) := pr2_new A6.out.1 B7.out G7.out.1 G7.out.2.1 G7.out.2.2.1 G7.out.2.2.2 (by rw [HV7.out]; exact hb8) hg8 hr8 (by rw [HV7.out]; exact hx7) (by rw [HV7.out]; exact hx8)
    have B8 : Hid (Below V7.heap.size V7 w8) := hb8
    clear hb8 hg8 hr8 hx7 hx8
    obtain ⟨V8, HV8⟩ : ∃ V8, Hid (w8.alloc (.cells #[.string t', .slice ha' mg hc', .slice ia' mr ic'] 26) = V8) := ⟨_, rfl⟩
    rw [HV8.out] at HP8
    have BV8 : Hid (Below w8.heap.size w8 V8) := by rw [← HV8.out]; exact (Below.refl _ _).alloc (Nat.le_refl _) _
    have B68 : Hid (Below W6.heap.size W6 V8) := over (over B67.out B8.out) BV8.out
    have P8 : Hid (Pr2 g o1 o2 t go re ng nr ga ra ga' ra' gc rc gc' rc' V8) := P6.out.later B68.out
    have B8w : Hid (Below W0.heap.size W0 V8) := over B6.out B68.out
    obtain ⟨o3, HO3⟩ : ∃ o3, Hid (w7.heap.size = o3) := ⟨_, rfl⟩
    obtain ⟨o4, HO4⟩ : ∃ o4, Hid (w8.heap.size = o4) := ⟨_, rfl⟩
    rw [HO3.out, HO4.out] at HP8
    have C8 : Hid (∀ w, Pr2 g o3 o4 t' go' re' mg mr ha ia ha' ia' hc ic hc' ic' w → Calls _ _ _ _ _) := fun w h => h.same HMG.out HMR.out yg yr
    have a0 := cell_of_row _ _ 0 _ _ _ P8.out.b1
    have a1 := cell_of_row _ _ 1 _ _ _ P8.out.b1
    have a2 := cell_of_row _ _ 2 _ _ _ P8.out.b1
    have d0 := cell_of_row _ _ 0 _ _ _ P8.out.b2
    have d1 := cell_of_row _ _ 1 _ _ _ P8.out.b2
    have d2 := cell_of_row _ _ 2 _ _ _ P8.out.b2
    rw [HO3.out]
    go_upto_region 9 with fail
    rw [HV8.out, HO4.out]
    go_wp2_with fail
    refine (C5.out _ P8.out).mono ?_
    rintro e w9 ⟨rfl, hb9⟩
    have P9 : Hid (Pr2 g o3 o4 t' go' re' mg mr ha ia ha' ia' hc ic hc' ic' w9) := HP8.out.later hb9
    have B9w : Hid (Below W0.heap.size W0 w9) := over B8w.out hb9
    clear hb9 a0 a1 a2 d0 d1 d2
    have a0 := cell_of_row _ _ 0 _ _ _ P9.out.b1
    have a1 := cell_of_row _ _ 1 _ _ _ P9.out.b1
    have a2 := cell_of_row _ _ 2 _ _ _ P9.out.b1
    have d0 := cell_of_row _ _ 0 _ _ _ P9.out.b2
    have d1 := cell_of_row _ _ 1 _ _ _ P9.out.b2
    have d2 := cell_of_row _ _ 2 _ _ _ P9.out.b2
    go_wp2_with fail
    refine (C8.out _ P9.out).mono ?_
    rintro e w10 ⟨rfl, hb10⟩
    have B10 : Hid (Below W0.heap.size W0 w10) := over B9w.out hb10
    clear hb10
    go_wp2_with (go_at_call 9; refine (numC _ _).mono ?_; rintro e wz ⟨rfl, hz⟩; rw [hz]; clear hz wz)
    go_ret
    exact ⟨rfl, B10.out⟩
end Go.Proofs.YtmldkecaghokeaaGreatDoor.va2
