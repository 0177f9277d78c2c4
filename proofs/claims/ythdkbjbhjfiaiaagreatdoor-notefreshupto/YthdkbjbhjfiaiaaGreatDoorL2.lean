import Derived.Test.YthdkbjbhjfiaiaaGreatDoorJ2
import Derived.BigQuiet
import Derived.Deep.QuietTactic
import Derived.Deep.AppendLies
import Derived.Deep.RegionLaw
namespace Go.Proofs.YthdkbjbhjfiaiaaGreatDoor.v5
open Go.RowKit Go.PlainAid Go.Shelf
open Go.Proofs.YthdkbjbhjfiaiaaGreatDoor.pj Go.Proofs.YthdkbjbhjfiaiaaGreatDoor.rf Go.Proofs.YthdkbjbhjfiaiaaGreatDoor.mo Go.Proofs.YthdkbjbhjfiaiaaGreatDoor.nd Go.Proofs.YthdkbjbhjfiaiaaGreatDoor.nh Go.Proofs.YthdkbjbhjfiaiaaGreatDoor.tb Go.Proofs.YthdkbjbhjfiaiaaGreatDoor.tc Go.Proofs.YthdkbjbhjfiaiaaGreatDoor.tj Go.Proofs.YthdkbjbhjfiaiaaGreatDoor.n3 Go.Proofs.YthdkbjbhjfiaiaaGreatDoor.n4 Go.Proofs.YthdkbjbhjfiaiaaGreatDoor.o1 Go.Proofs.YthdkbjbhjfiaiaaGreatDoor.o3 Go.Proofs.YthdkbjbhjfiaiaaGreatDoor.o4 Go.Proofs.YthdkbjbhjfiaiaaGreatDoor.o5 Go.Proofs.YthdkbjbhjfiaiaaGreatDoor.o6 Go.Proofs.YthdkbjbhjfiaiaaGreatDoor.kp Go.Proofs.YthdkbjbhjfiaiaaGreatDoor.q2 Go.Proofs.YthdkbjbhjfiaiaaGreatDoor.q5 Go.Proofs.YthdkbjbhjfiaiaaGreatDoor.r1 Go.Proofs.YthdkbjbhjfiaiaaGreatDoor.s1 Go.Proofs.YthdkbjbhjfiaiaaGreatDoor.t5 Go.Proofs.YthdkbjbhjfiaiaaGreatDoor.v2 Go.Proofs.YthdkbjbhjfiaiaaGreatDoor.v3 Go.Proofs.YthdkbjbhjfiaiaaGreatDoor.v4
set_option linter.unusedVariables false
set_option maxRecDepth 4000

def zO : Obj := .cells #[.string ⟨#[]⟩, .slice none 0 0, .slice none 0 0] 25
theorem put_out (w : World) (p : Nat) (a b c x y z : Value) (t : TypeId) (h : w.heap[p]? = some (.cells #[a, b, c] t (0, 0))) : ∀ W, W = ((w.setCell ⟨p, 0, none⟩ x).setCell ⟨p, 1, none⟩ y).setCell ⟨p, 2, none⟩ z → (W.cell? ⟨p, 0, none⟩ = some x ∧ W.cell? ⟨p, 1, none⟩ = some y ∧ W.cell? ⟨p, 2, none⟩ = some z) ∧ (∀ B, B ≤ p → Below B w W) ∧ ∀ k, k ≠ p → W.heap[k]? = w.heap[k]? := by
  intro W hW
  obtain ⟨h1, h2⟩ := put3 w p a b c x y z t h W hW
  refine ⟨h1, h2, fun k hk => ?_⟩
  rw [hW, set_else hk, set_else hk, set_else hk]
theorem reads_else {w w' : World} {v : Value} {l : List Sg} (h : ReadsG w v l) (hb : ∀ b, b < w.heap.size → (∀ off, v ≠ .slice (some ⟨b, off, none⟩) 0 0 ∨ True) → True) : True := trivial
theorem lg_reads_same {B : Nat} {v : Value} {l : List Sg} {w w' : World} (o : Lg B v l w) (h : ∀ j, B ≤ j → j < w.heap.size → w'.heap[j]? = w.heap[j]?) : ReadsG w' v l :=
  Lg.reads (own_same o (fun j hj => h j (own_in o hj).1 (own_in o hj).2))
set_option maxHeartbeats 3200000 in
theorem open_no (note : ByteArray) (kv : Value) (ks : List Ky) (E : Int) (hE : E ≠ 0) (w : World) (hk : ReadsY w kv ks)
    (CR : ∀ X, Calls Tryz.prog 19 #[.string note] X fun e W' => e = .returned (.tuple #[.string ByteArray.empty, .slice none 0 0, .int .i64 E]) ∧ Below X.heap.size X W') :
    Calls Tryz.prog 6 #[.string note, kv] w fun e w' => OpQ w.heap.size w' (noO E) e ∧ Below w.heap.size w w' := by
  obtain ⟨ka, kcp, rfl, _⟩ := id hk
  have C1 : Hid (∀ X, Calls _ _ _ _ _) := CR
  clear CR hk
  obtain ⟨W, HW⟩ : ∃ W, Hid (w.alloc (.cells #[.string ⟨#[]⟩, .slice none 0 0, .slice none 0 0] 25) = W) := ⟨_, rfl⟩
  have BW : Hid (Below w.heap.size w W) := by rw [← HW.out]; exact (Below.refl _ _).alloc (Nat.le_refl _) _
  have zW : W.heap.size = w.heap.size + 1 := by rw [← HW.out]; simp
  have HBK : Hid (W.heap[w.heap.size]? = some (.cells #[.string ⟨#[]⟩, .slice none 0 0, .slice none 0 0] 25 (0, 0))) := by rw [← HW.out]; exact heap_alloc_new w _
  have gE : (E == 0) = false := beq_eq_false_iff_ne.2 hE
  clear hE
  go_enter Tryz.func6, Tryz.ntmps6
  go_wp2_with fail
  rw [HW.out]
  go_wp2_with fail
  refine (C1.out _).mono ?_
  rintro e w1 ⟨rfl, hb1⟩
  have hbk : w1.heap[w.heap.size]? = some (.cells #[.string ⟨#[]⟩, .slice none 0 0, .slice none 0 0] 25 (0, 0)) := (hb1.block w.heap.size (by omega)).trans HBK.out
  have B1 : Hid (Below w.heap.size w w1) := BW.out.trans (hb1.mono BW.out.size)
  clear hb1
  have FIN : Hid (∀ W', W' = _ → _) := put_out w1 w.heap.size _ _ _ (.string ⟨#[]⟩) (.slice none 0 0) (.slice none 0 0) _ hbk
  have c0 := cell_of_row _ _ 0 _ _ _ hbk
  have c1 := cell_of_row _ _ 1 _ _ _ hbk
  have c2 := cell_of_row _ _ 2 _ _ _ hbk
  have f0 := frozen_of_row _ _ 0 _ _ hbk
  have f1 := frozen_of_row _ _ 1 _ _ hbk
  have f2 := frozen_of_row _ _ 2 _ _ hbk
  go_wp2
  first
  | (obtain ⟨⟨d0, d1, d2⟩, hbl, _⟩ := FIN.out _ rfl
     exact bodyPost_ret (v := .tuple #[.agg #[.string ⟨#[]⟩, .slice none 0 0, .slice none 0 0], .int .i64 E]) (by simp [results, Tryz.results6, go_sem, d0, d1, d2]) rfl ⟨opq_no _ _ E, B1.out.trans (hbl _ (Nat.le_refl _))⟩)
  | exact bodyPost_ret (v := .tuple #[.agg #[.string ⟨#[]⟩, .slice none 0 0, .slice none 0 0], .int .i64 E]) (by simp [results, Tryz.results6, go_sem, c0, c1, c2]) rfl ⟨opq_no _ _ E, B1.out⟩
set_option maxHeartbeats 12800000 in
theorem open_ok (note body : ByteArray) (kv : Value) (ks : List Ky) (gs : List Sg) (R : Opn) (h1 : 1 ≤ gs.length) (h16 : gs.length ≤ 16) (hp : Pw gs) (zb : body.size ≤ 65536) (hz : ks.length ≤ 4398046511104) (hs : ∀ k ∈ ks, k.1.size ≤ 140737488351232 ∧ k.2.size ≤ 140737488351232) (hfin : ∀ g ∈ gs, g.mac.size ≤ 1000)
    (hR : R = match opF ks body gs ([], []) with | none => noO 201 | some (go, re) => if go.length = 0 then noO 202 else ((body, go, re), 0))
    (w : World) (T : Hid (Tab w)) (hk : ReadsY w kv ks)
    (CR : ∀ X, Calls Tryz.prog 19 #[.string note] X fun e W' => ∃ a c, e = .returned (.tuple #[.string body, .slice a gs.length c, .int .i64 0]) ∧ ReadsG W' (.slice a gs.length c) gs ∧ Below X.heap.size X W') :
    Calls Tryz.prog 6 #[.string note, kv] w fun e w' => OpQ w.heap.size w' R e ∧ Below w.heap.size w w' := by
  obtain ⟨ka, kcp, rfl, _⟩ := id hk
  obtain ⟨n, HN⟩ : ∃ n, Hid (gs.length = n) := ⟨_, rfl⟩
  obtain ⟨m, HM⟩ : ∃ m, Hid (ks.length = m) := ⟨_, rfl⟩
  have C1 : Hid (∀ X, Calls Tryz.prog 19 #[.string note] X fun e W' => ∃ a c, e = .returned (.tuple #[.string body, .slice a n c, .int .i64 0]) ∧ ReadsG W' (.slice a n c) gs ∧ Below X.heap.size X W') := by rw [← HN.out]; exact CR
  have HY : Hid (ReadsY w (.slice ka m kcp) ks) := by rw [← HM.out]; exact hk
  have CS : Hid (∀ X sv, Tab X → ReadsG X sv gs → ReadsY X (.slice ka m kcp) ks → Calls Tryz.prog 20 #[sv, .slice ka m kcp] X fun e w' => ∃ g, e = .returned (.slice (some ⟨g, 0, none⟩) n n) ∧ X.heap.size ≤ g ∧ w'.heap[g]? = some (.cells (rw3 (rowI gs ks)) 3 (0, 0)) ∧ Below X.heap.size X w') := by
    intro X sv TX hX hY
    rw [← HN.out]
    exact signersC gs ks sv (.slice ka m kcp) X hX hY h1 h16 hz hs hp TX
  have HS : Hid _ := hs
  have HMZ : Hid _ := hfin
  obtain ⟨OF, HOF⟩ : ∃ OF, Hid (opF ks body gs ([], []) = OF) := ⟨_, rfl⟩
  rw [HOF.out] at hR
  have HRR : Hid _ := hR
  rw [HN.out] at h1 h16
  rw [HM.out] at hz ⊢
  clear CR hk hs hfin hR hp
  obtain ⟨i0, hi0, hi1, hi2, hi3⟩ := info_parts infoG
  have HI : Hid (Tryz.prog.info? 43 = some i0 ∧ i0.zero = some (.agg #[.string ⟨#[]⟩, .string ⟨#[]⟩, .string ⟨#[]⟩]) ∧ i0.size = 3 ∧ i0.bytes = 48) := ⟨hi0, hi1, hi2, hi3⟩
  clear hi0 hi1 hi2 hi3
  obtain ⟨W, HW⟩ : ∃ W, Hid (w.alloc (.cells #[.string ⟨#[]⟩, .slice none 0 0, .slice none 0 0] 25) = W) := ⟨_, rfl⟩
  have BW : Hid (Below w.heap.size w W) := by rw [← HW.out]; exact (Below.refl _ _).alloc (Nat.le_refl _) _
  have zW : W.heap.size = w.heap.size + 1 := by rw [← HW.out]; simp
  have HBK : Hid (W.heap[w.heap.size]? = some (.cells #[.string ⟨#[]⟩, .slice none 0 0, .slice none 0 0] 25 (0, 0))) := by rw [← HW.out]; exact heap_alloc_new w _
  go_enter Tryz.func6, Tryz.ntmps6
  go_wp2_with fail
  rw [HW.out]
  go_wp2_with fail
  refine (C1.out _).mono ?_
  rintro e w1 ⟨sa, sc, rfl, hrd, hb1⟩
  have B1 : Hid (Below W.heap.size W w1) := hb1
  have HRD : Hid (ReadsG w1 (.slice sa n sc) gs) := hrd
  clear hb1 hrd C1
  obtain ⟨U, HU⟩ : ∃ U, Hid (w1.alloc (.cells #[.string body, .slice none 0 0, .slice none 0 0] 25) = U) := ⟨_, rfl⟩
  have BU : Hid (Below w1.heap.size w1 U) := by rw [← HU.out]; exact (Below.refl _ _).alloc (Nat.le_refl _) _
  have zU : U.heap.size = w1.heap.size + 1 := by rw [← HU.out]; simp
  have HBU : Hid (U.heap[w1.heap.size]? = some (.cells #[.string body, .slice none 0 0, .slice none 0 0] 25 (0, 0))) := by rw [← HU.out]; exact heap_alloc_new w1 _
  have BWU : Hid (Below w.heap.size w U) := BW.out.trans ((B1.out.trans (BU.out.mono B1.out.size)).mono BW.out.size)
  have TU : Hid (Tab U) := T.out.down BWU.out
  go_wp2_with fail
  rw [HU.out]
  go_wp2_with fail
  refine (CS.out U _ TU.out (HRD.out.later BU.out) (HY.out.later BWU.out)).mono ?_
  rintro e w4 ⟨g, rfl, hg0, hrow, hb4⟩
  obtain ⟨B, HB⟩ : ∃ B, Hid (w4.heap.size = B) := ⟨_, rfl⟩
  obtain ⟨ob, HOB⟩ : ∃ ob, Hid (w1.heap.size = ob) := ⟨_, rfl⟩
  have z1 : w.heap.size < ob := by rw [← HOB.out]; have := B1.out.size; omega
  have z2 : ob < g := by rw [← HOB.out]; omega
  have z3 : ob < B := by rw [← HOB.out, ← HB.out]; have := hb4.size; omega
  have z4 : g < B := by rw [← HB.out]; exact (Array.getElem?_eq_some_iff.1 hrow).1
  have B4w : Hid (Below w.heap.size w w4) := BWU.out.trans (hb4.mono BWU.out.size)
  have HTW : Hid (Two B ob body [] [] (.slice none 0 0) (.slice none 0 0) w4) := by
    refine ⟨?_, z3, Lg.nil _ _, Lg.nil _ _, fun b e => by cases e⟩
    rw [← HOB.out]
    exact (hb4.block w1.heap.size (by omega)).trans HBU.out
  have HROW : Hid (w4.heap[g]? = some (.cells (rw3 (rowI gs ks)) 3 (0, 0))) := hrow
  have HRES : Hid (w4.heap[w.heap.size]? = some (.cells #[.string ⟨#[]⟩, .slice none 0 0, .slice none 0 0] 25 (0, 0))) := by
    show _ = _
    rw [hb4.block w.heap.size (by rw [zU, HOB.out]; omega), BU.out.block w.heap.size (by rw [HOB.out]; omega), B1.out.block w.heap.size (by omega)]
    exact HBK.out
  have HSG : Hid (∀ X, Fr B ob w4 X → n = 0 ∨ ∃ sb so, sa = some ⟨sb, so, none⟩ ∧ ∀ i x, gs[i]? = some x → X.cell? ⟨sb, so + i * 3, none⟩ = some (.string x.name) ∧ X.cell? ⟨sb, so + i * 3 + 1, none⟩ = some (.string x.id) ∧ X.cell? ⟨sb, so + i * 3 + 2, none⟩ = some (.string x.mac)) := by
    intro X hX
    obtain ⟨a', c', e', h0 | ⟨sb, so, rfl, hbb, hc⟩⟩ := HRD.out
    · exact .inl (by rw [← HN.out]; exact h0)
    · injection e' with e1 _ _
      refine .inr ⟨sb, so, e1, fun i x hi => ?_⟩
      rw [HOB.out] at hbb
      have hs : X.heap[sb]? = w1.heap[sb]? := by
        rw [hX sb (by omega) (by omega), hb4.block sb (by rw [zU, HOB.out]; omega), BU.out.block sb (by rw [HOB.out]; exact hbb)]
      obtain ⟨q1, q2, q3⟩ := hc i x hi
      have k : ∀ off v, w1.cell? ⟨sb, off, none⟩ = some v → X.cell? ⟨sb, off, none⟩ = some v := fun off v h => (World.cell?_of_block (a := ⟨sb, off, none⟩) hs).trans h
      exact ⟨k _ _ q1, k _ _ q2, k _ _ q3⟩
  have HKY : Hid (∀ X, Fr B ob w4 X → ∀ i y, ks[i]? = some y → ∃ kb ko, ka = some ⟨kb, ko, none⟩ ∧ X.cell? ⟨kb, ko + i * 2, none⟩ = some (.string y.1) ∧ X.cell? ⟨kb, ko + i * 2 + 1, none⟩ = some (.string y.2)) := by
    intro X hX i y hi
    have hh : ReadsY w4 (.slice ka ks.length kcp) ks := by rw [HM.out]; exact HY.out.later B4w.out
    have hh0 : ReadsY w (.slice ka ks.length kcp) ks := by rw [HM.out]; exact HY.out
    obtain ⟨kb0, ko0, e0, hb0, _, _⟩ := hh0.at i y hi
    obtain ⟨kb, ko, e1, hb, q1, q2⟩ := hh.at i y hi
    rw [e0] at e1
    injection e1 with e1
    injection e1 with e1 e2
    subst e1 e2
    have hs : X.heap[kb0]? = w4.heap[kb0]? := hX kb0 (by omega) (by omega)
    exact ⟨kb0, ko0, e0, (World.cell?_of_block (a := ⟨kb0, ko0 + i * 2, none⟩) hs).trans q1, (World.cell?_of_block (a := ⟨kb0, ko0 + i * 2 + 1, none⟩) hs).trans q2⟩
  have HSI : Hid (∀ X, Fr B ob w4 X → ∀ i (h : i < gs.length), X.cell? ⟨g, i, none⟩ = some (.int .i64 (ownF (gs[i]'h) ks 0))) := by
    intro X hX i h
    have hs : X.heap[g]? = some (.cells (rw3 (rowI gs ks)) 3 (0, 0)) := (hX g z4 (by omega)).trans HROW.out
    rw [cell_of_row _ _ i _ _ _ hs, rw3_get]
    unfold rowI
    rw [List.getElem?_map, List.getElem?_eq_getElem h]
    rfl
  have HRX : Hid (∀ X, Fr B ob w4 X → X.heap[w.heap.size]? = some (.cells #[.string ⟨#[]⟩, .slice none 0 0, .slice none 0 0] 25 (0, 0))) := fun X hX => (hX w.heap.size (by omega) (by omega)).trans HRES.out
  have TX : Hid (∀ X, Below w.heap.size w X → Tab X) := fun X h => T.out.down h
  clear hrow hb4 hg0 HRES HROW HBU HBK HRD HY CS TU
  rw [HOB.out]
  go_wp2
  go_loopw [30] (fun i wr => ∃ k : Nat, k ≤ n ∧ i = .int .i64 k ∧ Hid (∃ gv rv go re, Two B ob body go re gv rv wr ∧ Fr B ob w4 wr ∧ Below w.heap.size w wr ∧ B ≤ wr.heap.size ∧ go.length ≤ k ∧ re.length ≤ k ∧ opF ks body (gs.drop k) (go, re) = OF)) (fun i _ => (n - intOf i).toNat)
  case atStart => exact ⟨0, by omega, rfl, _, _, [], [], HTW.out, Fr.refl _ _ _, B4w.out, Nat.le_of_eq HB.out.symm, by simp, by simp, HOF.out⟩
  case round =>
    obtain ⟨k, hk, rfl, HK⟩ := hrel
    obtain ⟨gv, rv, go, re, tw, fr, bw, hBw, lg, lr, ho⟩ := HK.out
    obtain ⟨ga, gc, hgv⟩ := tw.g.form
    obtain ⟨ra, rc, hrv⟩ := tw.r.form
    subst hgv hrv
    have HT : Hid (Two B ob body go re (.slice ga go.length gc) (.slice ra re.length rc) wr) := tw
    have HFR : Hid (Fr B ob w4 wr) := fr
    have HBW : Hid (Below w.heap.size w wr) := bw
    have HO : Hid (opF ks body (gs.drop k) (go, re) = OF) := ho
    obtain ⟨ng, HNG⟩ : ∃ ng, Hid (go.length = ng) := ⟨_, rfl⟩
    obtain ⟨nr, HNR⟩ : ∃ nr, Hid (re.length = nr) := ⟨_, rfl⟩
    have HT2 : Hid (Two B ob body go re (.slice ga ng gc) (.slice ra nr rc) wr) := by rw [← HNG.out, ← HNR.out]; exact HT.out
    have lg2 : ng ≤ k := by rw [← HNG.out]; exact lg
    have lr2 : nr ≤ k := by rw [← HNR.out]; exact lr
    clear HK tw fr bw ho HT lg lr
    by_cases hlt : k < n
    · have hlt' : (k : Int) < n := by omega
      have hkl : k < gs.length := by rw [HN.out]; exact hlt
      obtain ⟨x, HX⟩ : ∃ x, Hid (gs[k]'hkl = x) := ⟨_, rfl⟩
      have hst := HO.out
      rw [op_step ks body gs k hkl, HX.out] at hst
      have HST : Hid _ := hst
      have hsg : ∃ sb so, sa = some ⟨sb, so, none⟩ ∧ ∀ X, Fr B ob w4 X → X.cell? ⟨sb, so + k * 3, none⟩ = some (.string x.name) ∧ X.cell? ⟨sb, so + k * 3 + 1, none⟩ = some (.string x.id) ∧ X.cell? ⟨sb, so + k * 3 + 2, none⟩ = some (.string x.mac) := by
        rcases HSG.out wr HFR.out with h | ⟨sb, so, e, _⟩
        · omega
        · refine ⟨sb, so, e, fun X hX => ?_⟩
          rcases HSG.out X hX with h | ⟨sb', so', e', h'⟩
          · omega
          · rw [e] at e'
            injection e' with e'
            injection e' with e1 e2
            subst e1 e2
            exact h' k x (by rw [List.getElem?_eq_getElem hkl, HX.out])
      obtain ⟨sb, so, rfl, hsx⟩ := hsg
      obtain ⟨c1, c2, c3⟩ := hsx wr HFR.out
      have HSI2 : Hid (∀ X, Fr B ob w4 X → X.cell? ⟨g, k, none⟩ = some (.int .i64 (ownF x ks 0))) := fun X hX => by rw [← HX.out]; exact HSI.out X hX k hkl
      have hxm : x.mac.size ≤ 1000 := by rw [← HX.out]; exact HMZ.out _ (List.getElem_mem hkl)
      have hol := own_lt x ks 0
      have holw := own_low x ks 0
      rw [HM.out] at hol
      have HSEC : Hid (0 ≤ ownF x ks 0 → ∃ (i : Nat) (hi : i < ks.length), ownF x ks 0 = i ∧ sec ks x = (ks[i]'hi).2) := by
        intro h
        refine ⟨(ownF x ks 0).toNat, by rw [HM.out]; omega, by omega, ?_⟩
        unfold sec
        rw [List.getD_eq_getElem?_getD, List.getElem?_eq_getElem (by rw [HM.out]; omega)]
        rfl
      obtain ⟨ov, HOV⟩ : ∃ ov, Hid (ownF x ks 0 = ov) := ⟨_, rfl⟩
      rw [HOV.out] at HST HSI2 hol holw HSEC
      obtain ⟨sx, HSX⟩ : ∃ sx, Hid (sec ks x = sx) := ⟨_, rfl⟩
      rw [HSX.out] at HST HSEC
      clear hst HX HO HOV hsx HSX
      obtain ⟨xn, xi, xm⟩ := x
      simp only at c1 c2 c3 hxm HST
      obtain ⟨V, HV⟩ : ∃ V, Hid (wr.alloc (.cells #[.string xn, .string xi, .string xm] 43) = V) := ⟨_, rfl⟩
      have BV : Hid (Below wr.heap.size wr V) := by rw [← HV.out]; exact (Below.refl _ _).alloc (Nat.le_refl _) _
      have zV : wr.heap.size + 1 ≤ V.heap.size := by rw [← HV.out]; simp
      have HBX : Hid (∀ X, Below (wr.heap.size + 1) V X → X.cell? ⟨wr.heap.size, 0, none⟩ = some (.string xn) ∧ X.cell? ⟨wr.heap.size, 1, none⟩ = some (.string xi) ∧ X.cell? ⟨wr.heap.size, 2, none⟩ = some (.string xm)) := by rw [← HV.out]; exact fun X h => box3 wr X _ _ _ _ h
      have HFV : Hid (∀ X, Below (wr.heap.size + 1) V X → Fr B ob w4 X) := fun X h => HFR.out.later (BV.out.trans (h.mono (by omega))) hBw
      have HTV : Hid (∀ X, Below (wr.heap.size + 1) V X → Two B ob body go re (.slice ga ng gc) (.slice ra nr rc) X) := fun X h => HT2.out.later (BV.out.trans (h.mono (by omega)))
      have HWV : Hid (∀ X, Below (wr.heap.size + 1) V X → Below w.heap.size w X) := fun X h => HBW.out.trans ((BV.out.trans (h.mono (by omega))).mono HBW.out.size)
      have v0 := HSI2.out V (HFV.out V (Below.refl _ _))
      by_cases hov : ov < 0
      · have HN2 : Hid (opF ks body (gs.drop (k + 1)) (go, re ++ [⟨xn, xi, xm⟩]) = OF) := by have := HST.out; rw [if_pos hov] at this; exact this
        have tv := HTV.out V (Below.refl _ _)
        have b2 := cell_of_row _ _ 2 _ _ _ tv.blk
        have HTA : Hid (Two B ob body go re (.slice ga ng gc) (.slice ra nr rc) (V.alloc (.cells #[.string xn, .string xi, .string xm] 43))) := HTV.out _ ((Below.refl _ _).alloc (by omega) _)
        have HFA : Hid (Fr B ob w4 (V.alloc (.cells #[.string xn, .string xi, .string xm] 43))) := HFV.out _ ((Below.refl _ _).alloc (by omega) _)
        have HWA : Hid (Below w.heap.size w (V.alloc (.cells #[.string xn, .string xi, .string xm] 43))) := HWV.out _ ((Below.refl _ _).alloc (by omega) _)
        have HOA : Hid ((V.alloc (.cells #[.string xn, .string xi, .string xm] 43)).ownsRow B 43 3 (.slice ra nr rc) nr (gcs re)) := by have := HTA.out.r; unfold Lg at this; rw [HNR.out] at this; exact this
        have zA : B ≤ (V.alloc (.cells #[.string xn, .string xi, .string xm] 43)).heap.size := by simp; omega
        obtain ⟨p0, p1, p2⟩ := HBX.out V (Below.refl _ _)
        have fz := frozen_of_row _ _ 2 _ _ tv.blk
        clear tv HST
        go_upto_region 9 with fail
        rw [HV.out]
        go_wp2_with (at_builtin; refine wpList_append_own_at _ rfl (.tmp 41) (.tmp 43) 23 rfl B 43 i0 (.agg #[.string ⟨#[]⟩, .string ⟨#[]⟩, .string ⟨#[]⟩]) 3 48 Tryz.underlying23 HI.out.1 HI.out.2.1 HI.out.2.2.1 HI.out.2.2.2 rfl (by decide) (.slice ra nr rc) nr _ rfl HOA.out ⟨V.heap.size, 0, none⟩ 1 1 [.string xn, .string xi, .string xm] rfl rfl (new_three _ _ _ _ _) (one_three _ _ _) (by unfold maxLen; omega) (by omega) zA ?_; intro v6 w6 hown6 hgr6 hnn6 hat6; have HO6 : Hid (Lg B v6 (re ++ [⟨xn, xi, xm⟩]) w6) := (by unfold Lg; rw [List.length_append, HNR.out, gcs_app]; exact hown6); have HG6 : Hid (World.grownBy _ w6 (Value.slice ra nr rc).ownBlock) := hgr6; have HAT : Hid (_ ∨ _) := hat6; obtain ⟨va, vc, hv6⟩ := HO6.out.form; subst hv6; have cz := World.cell?_of_block (a := ⟨ob, 2, none⟩) (hgr6.block ob (Array.getElem?_eq_some_iff.1 HTA.out.blk).1 (fun e => by have := (own_in HOA.out e.symm).1; omega)); have cz2 := cz.trans (cell_of_row _ _ 2 _ _ _ HTA.out.blk); have fz2 := (World.frozen?_of_block (a := ⟨ob, 2, none⟩) (hgr6.block ob (Array.getElem?_eq_some_iff.1 HTA.out.blk).1 (fun e => by have := (own_in HOA.out e.symm).1; omega))).trans (frozen_of_row _ _ 2 _ _ HTA.out.blk); clear hown6 hgr6 hnn6 hat6 cz)
        go_roundw
        case rel =>
          refine ⟨k + 1, by omega, by go_num, _, _, go, re ++ [⟨xn, xi, xm⟩], HTA.out.addR (v := .slice va (re.length + 1) vc) (x := ⟨xn, xi, xm⟩) (by have h := HO6.out; rw [show (re ++ [(⟨xn, xi, xm⟩ : Sg)]).length = re.length + 1 by simp] at h; exact h) HG6.out (by have h := HAT.out; rw [show (re ++ [(⟨xn, xi, xm⟩ : Sg)]).length = re.length + 1 by simp] at h; exact h), HFA.out.grow zA HOA.out HG6.out, ?_, ?_, by rw [HNG.out]; omega, by rw [List.length_append, HNR.out]; simp; omega, HN2.out⟩
          · exact Below.setCell (p := ⟨ob, 2, none⟩) (Below.trans HWA.out ⟨HG6.out.os, HG6.out.tape, HG6.out.output, HG6.out.size, fun j hj => HG6.out.block j (Nat.lt_of_lt_of_le hj HWA.out.size) (fun e => by have := (own_in HOA.out e.symm).1; omega)⟩) (by show w.heap.size ≤ ob; omega) _
          · simp only [World.setCell, Array.size_modify]; exact Nat.le_trans zA HG6.out.size
        case measure => simp [intOf]; omega
      · have hov0 : 0 ≤ ov := by omega
        obtain ⟨i, hi, hoi, hsec⟩ := HSEC.out hov0
        have hky : ∃ kb ko kn, ka = some ⟨kb, ko, none⟩ ∧ ∀ X, Fr B ob w4 X → X.cell? ⟨kb, ko + i * 2, none⟩ = some (.string kn) ∧ X.cell? ⟨kb, ko + i * 2 + 1, none⟩ = some (.string sx) := by
          obtain ⟨kb, ko, e, _⟩ := HKY.out wr HFR.out i (ks[i]'hi) (List.getElem?_eq_getElem hi)
          refine ⟨kb, ko, (ks[i]'hi).1, e, fun X hX => ?_⟩
          obtain ⟨kb', ko', e', q1, q2⟩ := HKY.out X hX i (ks[i]'hi) (List.getElem?_eq_getElem hi)
          rw [e] at e'
          injection e' with e'
          injection e' with e1 e2
          subst e1 e2
          rw [hsec]
          exact ⟨q1, q2⟩
        have hzs : sx.size ≤ 140737488351232 := by rw [hsec]; exact (HS.out _ (List.getElem_mem hi)).2
        obtain ⟨kb, ko, kn, rfl, hky⟩ := hky
        have HKC : Hid (∀ X, Fr B ob w4 X → X.cell? ⟨kb, ko + i * 2 + 1, none⟩ = some (.string sx)) := fun X hX => (hky X hX).2
        have him : i < m := by rw [← HM.out]; exact hi
        have him' : (i : Int) < m := by omega
        subst hoi
        have CM : Hid (∀ X, Tab X → Calls _ _ _ _ _) := fun X tx => macSum sx body X (by omega) (by omega) tx
        have zmc : (macF sx body).size = 32 := macF_size _ _
        have CE : Hid (∀ X, Calls _ _ _ _ _) := fun X => Go.Proofs.YthdkbjbhjfiaiaaGreatDoor.ng.same xm (macF sx body) X (by omega) (by omega)
        have HST2 : Hid ((if xm = macF sx body then opF ks body (gs.drop (k + 1)) (go ++ [⟨xn, xi, xm⟩], re) else none) = OF) := by have := HST.out; rw [if_neg hov] at this; exact this
        obtain ⟨q, HQ⟩ : ∃ q, Hid (decide (xm = macF sx body) = q) := ⟨_, rfl⟩
        rw [HQ.out] at CE
        have HST3 : Hid ((if q = true then opF ks body (gs.drop (k + 1)) (go ++ [⟨xn, xi, xm⟩], re) else none) = OF) := by
          show _ = _
          rw [← HST2.out, ← HQ.out]
          by_cases e : xm = macF sx body <;> simp [e]
        generalize macF sx body = mc at *
        have B0 : Hid (Below (wr.heap.size + 1) V V.drew) := below_dr (Below.refl _ _)
        have SS : Hid (∀ X, Below (wr.heap.size + 1) V X → X.cell? ⟨wr.heap.size, 2, none⟩ = some (.string xm) ∧ X.cell? ⟨g, k, none⟩ = some (.int .i64 (i : Int)) ∧ X.cell? ⟨kb, ko + i * 2 + 1, none⟩ = some (.string sx)) := fun X h => ⟨(HBX.out X h).2.2, HSI2.out X (HFV.out X h), HKC.out X (HFV.out X h)⟩
        clear HST HST2 HSEC hsec hky hi HQ zmc hov hov0 hol holw
        cases q
        · have HF : Hid (OF = none) := by show _ = _; rw [← HST3.out]; rfl
          have HR : Hid (R = noO 201) := by have := HRR.out; rw [HF.out] at this; exact this
          clear HST3
          go_upto_region 9 with fail
          rw [HV.out]
          go_wp2_with fail
          go_region_held_law (fun X => X.cell? ⟨wr.heap.size, 2, none⟩ = some (.string xm) ∧ X.cell? ⟨g, k, none⟩ = some (.int .i64 (i : Int)) ∧ X.cell? ⟨kb, ko + i * 2 + 1, none⟩ = some (.string sx)) (first | exact SS.out _ B0.out | exact SS.out _ B5.out | exact SS.out _ B6.out) ((first | (go_at_call 22; refine (CM.out _ (TX.out _ (HWV.out _ B0.out))).mono ?_; rintro _ w5 ⟨rfl, k5⟩; have B5 : Hid (Below (wr.heap.size + 1) V w5) := (B0.out.trans (k5.mono (by have := B0.out.size; omega))); clear k5) | (go_at_call 21; refine (CE.out _).mono ?_; rintro _ w6 ⟨rfl, k6⟩; have B6 : Hid (Below (wr.heap.size + 1) V w6) := (B5.out.trans (k6.mono (by have := B5.out.size; omega))); have hbk := HRX.out _ (HFV.out _ B6.out); have c0 := cell_of_row _ _ 0 _ _ _ hbk; have c1 := cell_of_row _ _ 1 _ _ _ hbk; have c2 := cell_of_row _ _ 2 _ _ _ hbk; have f0 := frozen_of_row _ _ 0 _ _ hbk; have f1 := frozen_of_row _ _ 1 _ _ hbk; have f2 := frozen_of_row _ _ 2 _ _ hbk; clear k6)))
          all_goals (
            have FIN : Hid (∀ W', W' = _ → _) := put_out w6 w.heap.size _ _ _ (.string ⟨#[]⟩) (.slice none 0 0) (.slice none 0 0) _ hbk
            go_wp2
            first
            | (obtain ⟨⟨d0, d1, d2⟩, hbl, _⟩ := FIN.out _ rfl
               exact bodyPost_ret (v := .tuple #[.agg #[.string ⟨#[]⟩, .slice none 0 0, .slice none 0 0], .int .i64 201]) (by simp [results, Tryz.results6, go_sem, d0, d1, d2]) rfl ⟨by rw [HR.out]; exact opq_no _ _ 201, (HWV.out _ B6.out).trans (hbl _ (Nat.le_refl _))⟩)
            | exact bodyPost_ret (v := .tuple #[.agg #[.string ⟨#[]⟩, .slice none 0 0, .slice none 0 0], .int .i64 201]) (by simp [results, Tryz.results6, go_sem, c0, c1, c2]) rfl ⟨by rw [HR.out]; exact opq_no _ _ 201, HWV.out _ B6.out⟩)
        · have HN2 : Hid (opF ks body (gs.drop (k + 1)) (go ++ [⟨xn, xi, xm⟩], re) = OF) := HST3.out
          clear HST3
          go_upto_region 9 with fail
          rw [HV.out]
          go_wp2_with fail
          go_region_held_law (fun X => X.cell? ⟨wr.heap.size, 2, none⟩ = some (.string xm) ∧ X.cell? ⟨g, k, none⟩ = some (.int .i64 (i : Int)) ∧ X.cell? ⟨kb, ko + i * 2 + 1, none⟩ = some (.string sx)) (first | exact SS.out _ B0.out | exact SS.out _ B5.out | exact SS.out _ B6.out) ((first | (go_at_call 22; refine (CM.out _ (TX.out _ (HWV.out _ B0.out))).mono ?_; rintro _ w5 ⟨rfl, k5⟩; have B5 : Hid (Below (wr.heap.size + 1) V w5) := (B0.out.trans (k5.mono (by have := B0.out.size; omega))); clear k5) | (go_at_call 21; refine (CE.out _).mono ?_; rintro _ w6 ⟨rfl, k6⟩; have B6 : Hid (Below (wr.heap.size + 1) V w6) := (B5.out.trans (k6.mono (by have := B5.out.size; omega))); clear k6)))
          all_goals (
            have HTA : Hid (Two B ob body go re (.slice ga ng gc) (.slice ra nr rc) (w6.alloc (.cells #[.string xn, .string xi, .string xm] 43))) := HTV.out _ (B6.out.alloc (by have := B6.out.size; omega) _)
            have HFA : Hid (Fr B ob w4 (w6.alloc (.cells #[.string xn, .string xi, .string xm] 43))) := HFV.out _ (B6.out.alloc (by have := B6.out.size; omega) _)
            have HWA : Hid (Below w.heap.size w (w6.alloc (.cells #[.string xn, .string xi, .string xm] 43))) := HWV.out _ (B6.out.alloc (by have := B6.out.size; omega) _)
            have HOA : Hid ((w6.alloc (.cells #[.string xn, .string xi, .string xm] 43)).ownsRow B 43 3 (.slice ga ng gc) ng (gcs go)) := by have := HTA.out.g; unfold Lg at this; rw [HNG.out] at this; exact this
            have zA : B ≤ (w6.alloc (.cells #[.string xn, .string xi, .string xm] 43)).heap.size := by have := B6.out.size; simp; omega
            obtain ⟨p0, p1, p2⟩ := HBX.out _ B6.out
            have b1 := cell_of_row _ _ 1 _ _ _ (HTV.out _ B6.out).blk
            go_wp2_with (at_builtin; refine wpList_append_own_at _ rfl (.tmp 62) (.tmp 64) 23 rfl B 43 i0 (.agg #[.string ⟨#[]⟩, .string ⟨#[]⟩, .string ⟨#[]⟩]) 3 48 Tryz.underlying23 HI.out.1 HI.out.2.1 HI.out.2.2.1 HI.out.2.2.2 rfl (by decide) (.slice ga ng gc) ng _ rfl HOA.out ⟨w6.heap.size, 0, none⟩ 1 1 [.string xn, .string xi, .string xm] rfl rfl (new_three _ _ _ _ _) (one_three _ _ _) (by unfold maxLen; omega) (by omega) zA ?_; intro v7 w7 hown7 hgr7 hnn7 hat7; have HO7 : Hid (Lg B v7 (go ++ [⟨xn, xi, xm⟩]) w7) := (by unfold Lg; rw [List.length_append, HNG.out, gcs_app]; exact hown7); have HG7 : Hid (World.grownBy _ w7 (Value.slice ga ng gc).ownBlock) := hgr7; have HAT : Hid (_ ∨ _) := hat7; obtain ⟨va, vc, hv7⟩ := HO7.out.form; subst hv7; have cz := World.cell?_of_block (a := ⟨ob, 1, none⟩) (hgr7.block ob (Array.getElem?_eq_some_iff.1 HTA.out.blk).1 (fun e => by have := (own_in HOA.out e.symm).1; omega)); have cz2 := cz.trans (cell_of_row _ _ 1 _ _ _ HTA.out.blk); have fz2 := (World.frozen?_of_block (a := ⟨ob, 1, none⟩) (hgr7.block ob (Array.getElem?_eq_some_iff.1 HTA.out.blk).1 (fun e => by have := (own_in HOA.out e.symm).1; omega))).trans (frozen_of_row _ _ 1 _ _ HTA.out.blk); clear hown7 hgr7 hnn7 hat7 cz)
            go_roundw
            case rel =>
              refine ⟨k + 1, by omega, by go_num, _, _, go ++ [⟨xn, xi, xm⟩], re, HTA.out.addG (v := .slice va (go.length + 1) vc) (x := ⟨xn, xi, xm⟩) (by have h := HO7.out; rw [show (go ++ [(⟨xn, xi, xm⟩ : Sg)]).length = go.length + 1 by simp] at h; exact h) HG7.out (by have h := HAT.out; rw [show (go ++ [(⟨xn, xi, xm⟩ : Sg)]).length = go.length + 1 by simp] at h; exact h), HFA.out.grow zA HOA.out HG7.out, ?_, ?_, by rw [List.length_append, HNG.out]; simp; omega, by rw [HNR.out]; omega, HN2.out⟩
              · exact Below.setCell (p := ⟨ob, 1, none⟩) (Below.trans HWA.out ⟨HG7.out.os, HG7.out.tape, HG7.out.output, HG7.out.size, fun j hj => HG7.out.block j (Nat.lt_of_lt_of_le hj HWA.out.size) (fun e => by have := (own_in HOA.out e.symm).1; omega)⟩) (by show w.heap.size ≤ ob; omega) _
              · simp only [World.setCell, Array.size_modify]; exact Nat.le_trans zA HG7.out.size
            case measure => simp [intOf]; omega)
    · have hlt' : ¬ (k : Int) < n := by omega
      have HF : Hid (OF = some (go, re)) := by
        show _ = _
        rw [← HO.out, List.drop_of_length_le (by rw [HN.out]; omega)]
        rfl
      have hbk := HRX.out _ HFR.out
      have c0 := cell_of_row _ _ 0 _ _ _ hbk
      have c1 := cell_of_row _ _ 1 _ _ _ hbk
      have c2 := cell_of_row _ _ 2 _ _ _ hbk
      have f0 := frozen_of_row _ _ 0 _ _ hbk
      have f1 := frozen_of_row _ _ 1 _ _ hbk
      have f2 := frozen_of_row _ _ 2 _ _ hbk
      have o0 := cell_of_row _ _ 0 _ _ _ HT2.out.blk
      have o1 := cell_of_row _ _ 1 _ _ _ HT2.out.blk
      have o2 := cell_of_row _ _ 2 _ _ _ HT2.out.blk
      have HRF : Hid (R = if go.length = 0 then noO 202 else ((body, go, re), 0)) := by have := HRR.out; rw [HF.out] at this; exact this
      rw [HNG.out] at HRF
      clear HO HF
      by_cases hn0 : ng = 0
      · subst hn0
        have HR : Hid (R = noO 202) := by show _ = _; rw [HRF.out, if_pos rfl]
        have FIN : Hid (∀ W', W' = _ → _) := put_out wr w.heap.size _ _ _ (.string ⟨#[]⟩) (.slice none 0 0) (.slice none 0 0) _ hbk
        clear HRF
        go_wp2
        first
        | (obtain ⟨⟨d0, d1, d2⟩, hbl, _⟩ := FIN.out _ rfl
           exact bodyPost_ret (v := .tuple #[.agg #[.string ⟨#[]⟩, .slice none 0 0, .slice none 0 0], .int .i64 202]) (by simp [results, Tryz.results6, go_sem, d0, d1, d2]) rfl ⟨by rw [HR.out]; exact opq_no _ _ 202, HBW.out.trans (hbl _ (Nat.le_refl _))⟩)
        | exact bodyPost_ret (v := .tuple #[.agg #[.string ⟨#[]⟩, .slice none 0 0, .slice none 0 0], .int .i64 202]) (by simp [results, Tryz.results6, go_sem, c0, c1, c2]) rfl ⟨by rw [HR.out]; exact opq_no _ _ 202, HBW.out⟩
      · have gn : ((ng : Int) == 0) = false := beq_eq_false_iff_ne.2 (by omega)
        have gn' : ¬ (ng : Int) = 0 := by omega
        have HR : Hid (R = ((body, go, re), 0)) := by show _ = _; rw [HRF.out, if_neg hn0]
        have FIN : Hid (∀ W', W' = _ → _) := put_out wr w.heap.size _ _ _ (.string body) (.slice ga ng gc) (.slice ra nr rc) _ hbk
        clear HRF hn0
        go_wp2
        obtain ⟨⟨d0, d1, d2⟩, hbl, hel⟩ := FIN.out _ rfl
        refine bodyPost_ret (v := .tuple #[.agg #[.string body, .slice ga ng gc, .slice ra nr rc], .int .i64 0]) (by simp [results, Tryz.results6, go_sem, d0, d1, d2]) rfl ⟨?_, HBW.out.trans (hbl _ (Nat.le_refl _))⟩
        rw [HR.out]
        refine ⟨ga, gc, ra, rc, by rw [HNG.out, HNR.out], ?_, ?_, (fun a e => by subst e; have := (own_in HT2.out.g rfl).1; omega), (fun a e => by subst e; have := (own_in HT2.out.r rfl).1; omega)⟩
        · show ReadsG _ (.slice ga go.length gc) go
          rw [HNG.out]
          exact lg_reads_same HT2.out.g (fun j h1 h2 => hel j (by omega))
        · show ReadsG _ (.slice ra re.length rc) re
          rw [HNR.out]
          exact lg_reads_same HT2.out.r (fun j h1 h2 => hel j (by omega))
end Go.Proofs.YthdkbjbhjfiaiaaGreatDoor.v5

namespace Go.Proofs.YthdkbjbhjfiaiaaGreatDoor.v6
open Go.RowKit Go.PlainAid Go.Shelf
open Go.Proofs.YthdkbjbhjfiaiaaGreatDoor.pj Go.Proofs.YthdkbjbhjfiaiaaGreatDoor.rf Go.Proofs.YthdkbjbhjfiaiaaGreatDoor.mo Go.Proofs.YthdkbjbhjfiaiaaGreatDoor.nh Go.Proofs.YthdkbjbhjfiaiaaGreatDoor.tj Go.Proofs.YthdkbjbhjfiaiaaGreatDoor.n3 Go.Proofs.YthdkbjbhjfiaiaaGreatDoor.n4 Go.Proofs.YthdkbjbhjfiaiaaGreatDoor.o1 Go.Proofs.YthdkbjbhjfiaiaaGreatDoor.o4 Go.Proofs.YthdkbjbhjfiaiaaGreatDoor.o5 Go.Proofs.YthdkbjbhjfiaiaaGreatDoor.o6 Go.Proofs.YthdkbjbhjfiaiaaGreatDoor.kp Go.Proofs.YthdkbjbhjfiaiaaGreatDoor.v2 Go.Proofs.YthdkbjbhjfiaiaaGreatDoor.v4
set_option linter.unusedVariables false
set_option maxRecDepth 4000

theorem eqB_symm (a b : ByteArray) : eqB a b = eqB b a := by
  unfold eqB
  by_cases h : a = b
  · subst h; rfl
  · rw [decide_eq_false h, decide_eq_false (fun e => h e.symm)]
theorem own_drop (g : Sg) (ks : List Ky) (k : Nat) (h : k < ks.length) : ownF g (ks.drop k) k = if kg (ks[k]'h) g = true then (k : Int) else ownF g (ks.drop (k + 1)) (k + 1) := by
  rw [List.drop_eq_getElem_cons h, ownF]
set_option maxHeartbeats 3200000 in
theorem ownerD (g : Sg) (ks : List Ky) (kv : Value) (w : World) (hk : ReadsY w kv ks) (hn : nm g.name = true) (hz : ks.length ≤ 4398046511104) (hs : ∀ k ∈ ks, k.1.size ≤ 140737488351232 ∧ k.2.size ≤ 140737488351232) (T : Hid (Tab4 w)) :
    Calls Tryz.prog 13 #[kv, .agg #[.string g.name, .string g.id, .string g.mac]] w fun e w' => e = .returned (.int .i64 (ownF g ks 0)) ∧ Below w.heap.size w w' := by
  obtain ⟨ka, kcp, rfl, _⟩ := id hk
  obtain ⟨m, HM⟩ : ∃ m, Hid (ks.length = m) := ⟨_, rfl⟩
  have HY : Hid (ReadsY w (.slice ka ks.length kcp) ks) := hk
  have HS : Hid _ := hs
  have HNM : Hid (nm g.name = true) := hn
  rw [HM.out] at hz ⊢
  clear hk hs hn
  obtain ⟨R, HR⟩ : ∃ R, Hid (ownF g ks 0 = R) := ⟨_, rfl⟩
  rw [HR.out]
  obtain ⟨gn, gi, gm⟩ := g
  simp only at HNM ⊢
  obtain ⟨W, HW⟩ : ∃ W, Hid (w.alloc (.cells #[.string gn, .string gi, .string gm] 43) = W) := ⟨_, rfl⟩
  have BW : Hid (Below w.heap.size w W) := by rw [← HW.out]; exact (Below.refl _ _).alloc (Nat.le_refl _) _
  have zW : w.heap.size + 1 ≤ W.heap.size := by rw [← HW.out]; simp
  have SX : Hid (∀ w', Below (w.heap.size + 1) W w' → w'.cell? ⟨w.heap.size, 0, none⟩ = some (.string gn) ∧ w'.cell? ⟨w.heap.size, 1, none⟩ = some (.string gi) ∧ w'.cell? ⟨w.heap.size, 2, none⟩ = some (.string gm)) := by
    rw [← HW.out]; exact fun w' h => box3 w w' _ _ _ _ h
  go_enter Tryz.func13, Tryz.ntmps13
  go_wp2_with fail
  rw [HW.out]
  go_loopw [5] (fun i wr => ∃ k : Nat, k ≤ m ∧ i = .int .i64 k ∧ Hid (Below (w.heap.size + 1) W wr ∧ ownF ⟨gn, gi, gm⟩ (ks.drop k) k = R)) (fun i _ => (m - intOf i).toNat)
  case atStart => exact ⟨0, by omega, rfl, Below.refl _ _, HR.out⟩
  case round =>
    obtain ⟨k, hk, rfl, HK⟩ := hrel
    have HB : Hid (Below w.heap.size w wr) := BW.out.trans (HK.out.1.mono (by omega))
    by_cases hlt : k < m
    · have hlt' : (k : Int) < m := by omega
      have hkl : k < ks.length := by rw [HM.out]; exact hlt
      obtain ⟨y, HYY⟩ : ∃ y, Hid (ks[k]'hkl = y) := ⟨_, rfl⟩
      have hst := HK.out.2
      rw [own_drop _ ks k hkl, HYY.out] at hst
      have HST : Hid _ := hst
      have HYX : Hid (∀ X, Below w.heap.size w X → ∃ b off, ka = some ⟨b, off, none⟩ ∧ X.cell? ⟨b, off + k * 2, none⟩ = some (.string y.1) ∧ X.cell? ⟨b, off + k * 2 + 1, none⟩ = some (.string y.2)) := fun X hX => by
        obtain ⟨b, off, e, hb, q1, q2⟩ := HY.out.at k y (by rw [List.getElem?_eq_getElem hkl, HYY.out])
        exact ⟨b, off, e, (hX.cell (p := ⟨b, off + k * 2, none⟩) hb).trans q1, (hX.cell (p := ⟨b, off + k * 2 + 1, none⟩) hb).trans q2⟩
      obtain ⟨b, off, rfl, c1, c2⟩ := HYX.out wr HB.out
      have hzy := HS.out y (by rw [← HYY.out]; exact List.getElem_mem hkl)
      have HC : Hid (∀ X, Below w.heap.size w X → X.cell? ⟨b, off + k * 2, none⟩ = some (.string y.1) ∧ X.cell? ⟨b, off + k * 2 + 1, none⟩ = some (.string y.2)) := fun X hX => by
        obtain ⟨b', off', e, q1, q2⟩ := HYX.out X hX
        injection e with e
        injection e with e1 e2
        subst e1 e2
        exact ⟨q1, q2⟩
      clear hst HYY HYX
      obtain ⟨kn, kx⟩ := y
      simp only at c1 c2 hzy
      have TW : Hid (Tab4 wr) := T.out.down HB.out
      have C1 : Hid (Calls _ _ _ _ _) := idD kn kx hzy.1 hzy.2 wr TW
      obtain ⟨kid, HKI⟩ : ∃ kid, Hid (kidF kn kx = kid) := ⟨_, rfl⟩
      have HKG : Hid (kg (kn, kx) ⟨gn, gi, gm⟩ = (eqB gn kn && eqB gi kid)) := by show _ = _; unfold kg one; rw [← HKI.out]
      rw [HKG.out] at HST
      have B9 : Hid (Below (w.heap.size + 1) W wr) := HK.out.1
      clear HK HKG
      by_cases hnm : nm kn = true
      · have hv : idV kn kx = .tuple #[.string kid, .int .i64 0] := by unfold idV; rw [if_pos hnm, HKI.out]
        rw [hv] at C1
        have e1 : (kn.toList == gn.toList) = eqB gn kn := by rw [toList_eqB, eqB_symm]
        have e2 : (kid.toList == gi.toList) = eqB gi kid := by rw [toList_eqB, eqB_symm]
        clear hv hnm
        generalize eqB gn kn = y1 at *
        generalize eqB gi kid = y2 at *
        cases y1
        · have HN : Hid (ownF ⟨gn, gi, gm⟩ (ks.drop (k + 1)) (k + 1) = R) := by have := HST.out; rw [Bool.false_and, if_neg (by decide)] at this; exact this
          clear HST
          go_wp2_with fail
          refine C1.out.mono ?_
          rintro e w1 ⟨rfl, hb1⟩
          have B1 : Hid (Below (w.heap.size + 1) W w1) := B9.out.trans (hb1.mono (by have := B9.out.size; omega))
          have BB1 : Hid (Below w.heap.size w w1) := BW.out.trans (B1.out.mono (by omega))
          obtain ⟨s0, s1, s2⟩ := SX.out _ B1.out
          obtain ⟨q1, q2⟩ := HC.out _ BB1.out
          have KN : Hid (∀ n, Below (w.heap.size + 1) W (w1.drewN n)) := fun n => below_dN B1.out n
          clear hb1 c1 c2
          go_wp2_with fail
          go_quiet (fail)
          go_wp2
          go_roundw
          case rel => exact ⟨k + 1, by omega, by go_num, KN.out _, HN.out⟩
          case measure => simp [intOf]; omega
        · cases y2
          · have HN : Hid (ownF ⟨gn, gi, gm⟩ (ks.drop (k + 1)) (k + 1) = R) := by have := HST.out; rw [Bool.and_false, if_neg (by decide)] at this; exact this
            clear HST
            go_wp2_with fail
            refine C1.out.mono ?_
            rintro e w1 ⟨rfl, hb1⟩
            have B1 : Hid (Below (w.heap.size + 1) W w1) := B9.out.trans (hb1.mono (by have := B9.out.size; omega))
            have BB1 : Hid (Below w.heap.size w w1) := BW.out.trans (B1.out.mono (by omega))
            obtain ⟨s0, s1, s2⟩ := SX.out _ B1.out
            obtain ⟨q1, q2⟩ := HC.out _ BB1.out
            have KN : Hid (∀ n, Below (w.heap.size + 1) W (w1.drewN n)) := fun n => below_dN B1.out n
            clear hb1 c1 c2
            go_wp2_with fail
            go_quiet (fail)
            go_wp2
            go_roundw
            case rel => exact ⟨k + 1, by omega, by go_num, KN.out _, HN.out⟩
            case measure => simp [intOf]; omega
          · have HN : Hid (R = (k : Int)) := by have := HST.out; rw [Bool.and_true, if_pos rfl] at this; exact this.symm
            clear HST
            go_wp2_with fail
            refine C1.out.mono ?_
            rintro e w1 ⟨rfl, hb1⟩
            have B1 : Hid (Below (w.heap.size + 1) W w1) := B9.out.trans (hb1.mono (by have := B9.out.size; omega))
            have BB1 : Hid (Below w.heap.size w w1) := BW.out.trans (B1.out.mono (by omega))
            obtain ⟨s0, s1, s2⟩ := SX.out _ B1.out
            obtain ⟨q1, q2⟩ := HC.out _ BB1.out
            have KM : Hid (∀ n, Below w.heap.size w (w1.drewN n)) := fun n => below_dN BB1.out n
            clear hb1 c1 c2
            go_wp2_with fail
            go_quiet (fail)
            go_wp2
            go_ret
            exact ⟨by rw [HN.out]; rfl, KM.out _⟩
      · have hv : idV kn kx = .tuple #[.string ByteArray.empty, .int .i64 203] := by unfold idV; rw [if_neg hnm]
        rw [hv] at C1
        have HN : Hid (ownF ⟨gn, gi, gm⟩ (ks.drop (k + 1)) (k + 1) = R) := by
          have := HST.out
          rw [if_neg (fun h => by
            have h1 := (Bool.and_eq_true_iff.1 h).1
            rw [eqB_true] at h1
            rw [← h1] at hnm
            exact hnm HNM.out)] at this
          exact this
        clear HST hv hnm
        go_wp2_with fail
        refine C1.out.mono ?_
        rintro e w1 ⟨rfl, hb1⟩
        have B1 : Hid (Below (w.heap.size + 1) W w1) := B9.out.trans (hb1.mono (by have := B9.out.size; omega))
        have KN : Hid (∀ n, Below (w.heap.size + 1) W (w1.drewN n)) := fun n => below_dN B1.out n
        clear hb1 c1 c2
        go_wp2_with fail
        go_quiet (fail)
        go_wp2
        go_roundw
        case rel => exact ⟨k + 1, by omega, by go_num, KN.out _, HN.out⟩
        case measure => simp [intOf]; omega
    · have hlt' : ¬ (k : Int) < m := by omega
      have HE : Hid (R = -1) := by
        show _ = _
        rw [← HK.out.2, List.drop_of_length_le (by rw [HM.out]; omega)]
        rfl
      clear HK
      go_wp2
      go_ret
      exact ⟨by rw [HE.out]; rfl, HB.out⟩
end Go.Proofs.YthdkbjbhjfiaiaaGreatDoor.v6

namespace Go.Proofs.YthdkbjbhjfiaiaaGreatDoor.v7
open Go.RowKit Go.PlainAid Go.Shelf
open Go.Proofs.YthdkbjbhjfiaiaaGreatDoor.pj Go.Proofs.YthdkbjbhjfiaiaaGreatDoor.rf Go.Proofs.YthdkbjbhjfiaiaaGreatDoor.mo Go.Proofs.YthdkbjbhjfiaiaaGreatDoor.mq Go.Proofs.YthdkbjbhjfiaiaaGreatDoor.nd Go.Proofs.YthdkbjbhjfiaiaaGreatDoor.nh Go.Proofs.YthdkbjbhjfiaiaaGreatDoor.tb Go.Proofs.YthdkbjbhjfiaiaaGreatDoor.tc Go.Proofs.YthdkbjbhjfiaiaaGreatDoor.tj Go.Proofs.YthdkbjbhjfiaiaaGreatDoor.n3 Go.Proofs.YthdkbjbhjfiaiaaGreatDoor.n4 Go.Proofs.YthdkbjbhjfiaiaaGreatDoor.o1 Go.Proofs.YthdkbjbhjfiaiaaGreatDoor.o3 Go.Proofs.YthdkbjbhjfiaiaaGreatDoor.o4 Go.Proofs.YthdkbjbhjfiaiaaGreatDoor.o5 Go.Proofs.YthdkbjbhjfiaiaaGreatDoor.o6 Go.Proofs.YthdkbjbhjfiaiaaGreatDoor.kp Go.Proofs.YthdkbjbhjfiaiaaGreatDoor.q2 Go.Proofs.YthdkbjbhjfiaiaaGreatDoor.q5 Go.Proofs.YthdkbjbhjfiaiaaGreatDoor.r1 Go.Proofs.YthdkbjbhjfiaiaaGreatDoor.s1 Go.Proofs.YthdkbjbhjfiaiaaGreatDoor.t5 Go.Proofs.YthdkbjbhjfiaiaaGreatDoor.v2 Go.Proofs.YthdkbjbhjfiaiaaGreatDoor.v4 Go.Proofs.YthdkbjbhjfiaiaaGreatDoor.v5 Go.Proofs.YthdkbjbhjfiaiaaGreatDoor.v6
set_option linter.unusedVariables false
set_option maxRecDepth 4000

def nV (g n c : Nat) : Value := .slice (some ⟨g, 0, none⟩) (n + 1) c
theorem addR_all {B ob g6 c6 n : Nat} {t : ByteArray} {go re : List Sg} {gv rv : Value} {w0 w4 wA w7 : World} {x : Sg} (hT : Two B ob t go re gv rv wA) (hF : Fr B ob w4 wA) (hW : Below w0.heap.size w0 wA) (hB : B ≤ wA.heap.size) (h0 : w0.heap.size ≤ ob) (hn : re.length = n)
    (ho : w7.ownsRow B 43 3 (nV g6 n c6) (n + 1) (gcs re ++ [.string x.name, .string x.id, .string x.mac])) (hg : wA.grownBy w7 rv.ownBlock) (hl : rv.ownBlock = some g6 ∨ g6 = wA.heap.size) :
    (Two B ob t go (re ++ [x]) gv (nV g6 n c6) (w7.setCell ⟨ob, 2, none⟩ (nV g6 n c6)) ∧ Fr B ob w4 (w7.setCell ⟨ob, 2, none⟩ (nV g6 n c6)) ∧ Below w0.heap.size w0 (w7.setCell ⟨ob, 2, none⟩ (nV g6 n c6)) ∧ B ≤ (w7.setCell ⟨ob, 2, none⟩ (nV g6 n c6)).heap.size) ∧ w7.cell? ⟨ob, 2, none⟩ = some rv ∧ w7.frozen? ⟨ob, 2, none⟩ = false := by
  have hlo := hT.lo
  have hrow := hT.r
  have hob := (Array.getElem?_eq_some_iff.1 hT.blk).1
  have hne : some ob ≠ rv.ownBlock := fun e => by have := (own_in hrow e.symm).1; omega
  have hbk := (hg.block ob hob hne).trans hT.blk
  have hL : Lg B (nV g6 n c6) (re ++ [x]) w7 := by
    unfold Lg
    rw [List.length_append, hn, gcs_app]
    exact ho
  refine ⟨⟨hT.addR hL hg (by rcases hl with h | h; exact .inl h.symm; exact .inr (by rw [h]; rfl)), hF.grow hB hrow hg, ?_, ?_⟩, ?_, ?_⟩
  · exact Below.setCell (p := ⟨ob, 2, none⟩) (Below.trans hW ⟨hg.os, hg.tape, hg.output, hg.size, fun j hj => hg.block j (Nat.lt_of_lt_of_le hj hW.size) (fun e => by have := (own_in hrow e.symm).1; omega)⟩) h0 _
  · simp only [World.setCell, Array.size_modify]; exact Nat.le_trans hB hg.size
  · exact cell_of_row _ _ 2 _ _ _ hbk
  · exact frozen_of_row _ _ 2 _ _ hbk
theorem addG_all {B ob g6 c6 n : Nat} {t : ByteArray} {go re : List Sg} {gv rv : Value} {w0 w4 wA w7 : World} {x : Sg} (hT : Two B ob t go re gv rv wA) (hF : Fr B ob w4 wA) (hW : Below w0.heap.size w0 wA) (hB : B ≤ wA.heap.size) (h0 : w0.heap.size ≤ ob) (hn : go.length = n)
    (ho : w7.ownsRow B 43 3 (nV g6 n c6) (n + 1) (gcs go ++ [.string x.name, .string x.id, .string x.mac])) (hg : wA.grownBy w7 gv.ownBlock) (hl : gv.ownBlock = some g6 ∨ g6 = wA.heap.size) :
    (Two B ob t (go ++ [x]) re (nV g6 n c6) rv (w7.setCell ⟨ob, 1, none⟩ (nV g6 n c6)) ∧ Fr B ob w4 (w7.setCell ⟨ob, 1, none⟩ (nV g6 n c6)) ∧ Below w0.heap.size w0 (w7.setCell ⟨ob, 1, none⟩ (nV g6 n c6)) ∧ B ≤ (w7.setCell ⟨ob, 1, none⟩ (nV g6 n c6)).heap.size) ∧ w7.cell? ⟨ob, 1, none⟩ = some gv ∧ w7.frozen? ⟨ob, 1, none⟩ = false := by
  have hlo := hT.lo
  have hrow := hT.g
  have hob := (Array.getElem?_eq_some_iff.1 hT.blk).1
  have hne : some ob ≠ gv.ownBlock := fun e => by have := (own_in hrow e.symm).1; omega
  have hbk := (hg.block ob hob hne).trans hT.blk
  have hL : Lg B (nV g6 n c6) (go ++ [x]) w7 := by
    unfold Lg
    rw [List.length_append, hn, gcs_app]
    exact ho
  refine ⟨⟨hT.addG hL hg (by rcases hl with h | h; exact .inl h.symm; exact .inr (by rw [h]; rfl)), hF.grow hB hrow hg, ?_, ?_⟩, ?_, ?_⟩
  · exact Below.setCell (p := ⟨ob, 1, none⟩) (Below.trans hW ⟨hg.os, hg.tape, hg.output, hg.size, fun j hj => hg.block j (Nat.lt_of_lt_of_le hj hW.size) (fun e => by have := (own_in hrow e.symm).1; omega)⟩) h0 _
  · simp only [World.setCell, Array.size_modify]; exact Nat.le_trans hB hg.size
  · exact cell_of_row _ _ 1 _ _ _ hbk
  · exact frozen_of_row _ _ 1 _ _ hbk
set_option maxHeartbeats 3200000 in
theorem openD_no (note : ByteArray) (kv : Value) (ks : List Ky) (E : Int) (hE : E ≠ 0) (w : World) (hk : ReadsY w kv ks)
    (CR : ∀ X, Calls Tryz.prog 12 #[.string note] X fun e W' => e = .returned (.tuple #[.string ByteArray.empty, .slice none 0 0, .int .i64 E]) ∧ Below X.heap.size X W') :
    Calls Tryz.prog 4 #[.string note, kv] w fun e w' => OpQ w.heap.size w' (noO E) e ∧ Below w.heap.size w w' := by
  obtain ⟨ka, kcp, rfl, _⟩ := id hk
  have C1 : Hid (∀ X, Calls _ _ _ _ _) := CR
  clear CR hk
  obtain ⟨W, HW⟩ : ∃ W, Hid (w.alloc (.cells #[.string ⟨#[]⟩, .slice none 0 0, .slice none 0 0] 25) = W) := ⟨_, rfl⟩
  have BW : Hid (Below w.heap.size w W) := by rw [← HW.out]; exact (Below.refl _ _).alloc (Nat.le_refl _) _
  have zW : W.heap.size = w.heap.size + 1 := by rw [← HW.out]; simp
  have HBK : Hid (W.heap[w.heap.size]? = some (.cells #[.string ⟨#[]⟩, .slice none 0 0, .slice none 0 0] 25 (0, 0))) := by rw [← HW.out]; exact heap_alloc_new w _
  have gE : (E == 0) = false := beq_eq_false_iff_ne.2 hE
  clear hE
  go_enter Tryz.func4, Tryz.ntmps4
  go_wp2_with fail
  rw [HW.out]
  go_wp2_with fail
  refine (C1.out _).mono ?_
  rintro e w1 ⟨rfl, hb1⟩
  have hbk : w1.heap[w.heap.size]? = some (.cells #[.string ⟨#[]⟩, .slice none 0 0, .slice none 0 0] 25 (0, 0)) := (hb1.block w.heap.size (by omega)).trans HBK.out
  have B1 : Hid (Below w.heap.size w w1) := BW.out.trans (hb1.mono BW.out.size)
  clear hb1
  have FIN : Hid (∀ W', W' = _ → _) := put_out w1 w.heap.size _ _ _ (.string ⟨#[]⟩) (.slice none 0 0) (.slice none 0 0) _ hbk
  have c0 := cell_of_row _ _ 0 _ _ _ hbk
  have c1 := cell_of_row _ _ 1 _ _ _ hbk
  have c2 := cell_of_row _ _ 2 _ _ _ hbk
  have f0 := frozen_of_row _ _ 0 _ _ hbk
  have f1 := frozen_of_row _ _ 1 _ _ hbk
  have f2 := frozen_of_row _ _ 2 _ _ hbk
  go_wp2
  first
  | (obtain ⟨⟨d0, d1, d2⟩, hbl, _⟩ := FIN.out _ rfl
     exact bodyPost_ret (v := .tuple #[.agg #[.string ⟨#[]⟩, .slice none 0 0, .slice none 0 0], .int .i64 E]) (by simp [results, Tryz.results4, go_sem, d0, d1, d2]) rfl ⟨opq_no _ _ E, B1.out.trans (hbl _ (Nat.le_refl _))⟩)
  | exact bodyPost_ret (v := .tuple #[.agg #[.string ⟨#[]⟩, .slice none 0 0, .slice none 0 0], .int .i64 E]) (by simp [results, Tryz.results4, go_sem, c0, c1, c2]) rfl ⟨opq_no _ _ E, B1.out⟩
set_option maxHeartbeats 12800000 in
theorem openD_ok (note body : ByteArray) (kv : Value) (ks : List Ky) (gs : List Sg) (R : Opn) (h1 : 1 ≤ gs.length) (h16 : gs.length ≤ 16) (zb : body.size ≤ 65536) (hz : ks.length ≤ 4398046511104) (hs : ∀ k ∈ ks, k.1.size ≤ 140737488351232 ∧ k.2.size ≤ 140737488351232) (hfin : ∀ g ∈ gs, Fine g)
    (hR : R = match opF ks body gs ([], []) with | none => noO 201 | some (go, re) => if go.length = 0 then noO 202 else ((body, go, re), 0))
    (w : World) (T : Hid (Tab4 w)) (hk : ReadsY w kv ks)
    (CR : ∀ X, Calls Tryz.prog 12 #[.string note] X fun e W' => ∃ a c, e = .returned (.tuple #[.string body, .slice a gs.length c, .int .i64 0]) ∧ ReadsG W' (.slice a gs.length c) gs ∧ Below X.heap.size X W') :
    Calls Tryz.prog 4 #[.string note, kv] w fun e w' => OpQ w.heap.size w' R e ∧ Below w.heap.size w w' := by
  obtain ⟨ka, kcp, rfl, _⟩ := id hk
  obtain ⟨n, HN⟩ : ∃ n, Hid (gs.length = n) := ⟨_, rfl⟩
  obtain ⟨m, HM⟩ : ∃ m, Hid (ks.length = m) := ⟨_, rfl⟩
  have C1 : Hid (∀ X, Calls Tryz.prog 12 #[.string note] X fun e W' => ∃ a c, e = .returned (.tuple #[.string body, .slice a n c, .int .i64 0]) ∧ ReadsG W' (.slice a n c) gs ∧ Below X.heap.size X W') := by rw [← HN.out]; exact CR
  have HY : Hid (ReadsY w (.slice ka m kcp) ks) := by rw [← HM.out]; exact hk
  have HS : Hid _ := hs
  have HZ : Hid (ks.length ≤ 4398046511104) := hz
  have HMZ : Hid _ := hfin
  obtain ⟨OF, HOF⟩ : ∃ OF, Hid (opF ks body gs ([], []) = OF) := ⟨_, rfl⟩
  rw [HOF.out] at hR
  have HRR : Hid _ := hR
  rw [HN.out] at h1 h16
  rw [HM.out] at hz ⊢
  clear CR hk hs hfin hR
  obtain ⟨i0, hi0, hi1, hi2, hi3⟩ := info_parts infoG
  have HI : Hid (Tryz.prog.info? 43 = some i0 ∧ i0.zero = some (.agg #[.string ⟨#[]⟩, .string ⟨#[]⟩, .string ⟨#[]⟩]) ∧ i0.size = 3 ∧ i0.bytes = 48) := ⟨hi0, hi1, hi2, hi3⟩
  clear hi0 hi1 hi2 hi3
  obtain ⟨W, HW⟩ : ∃ W, Hid (w.alloc (.cells #[.string ⟨#[]⟩, .slice none 0 0, .slice none 0 0] 25) = W) := ⟨_, rfl⟩
  have BW : Hid (Below w.heap.size w W) := by rw [← HW.out]; exact (Below.refl _ _).alloc (Nat.le_refl _) _
  have zW : w.heap.size + 1 ≤ W.heap.size := by rw [← HW.out]; simp
  have HBK : Hid (W.heap[w.heap.size]? = some (.cells #[.string ⟨#[]⟩, .slice none 0 0, .slice none 0 0] 25 (0, 0))) := by rw [← HW.out]; exact heap_alloc_new w _
  go_enter Tryz.func4, Tryz.ntmps4
  go_wp2_with fail
  rw [HW.out]
  go_wp2_with fail
  refine (C1.out _).mono ?_
  rintro e w1 ⟨sa, sc, rfl, hrd, hb1⟩
  have B1 : Hid (Below W.heap.size W w1) := hb1
  have HRD : Hid (ReadsG w1 (.slice sa n sc) gs) := hrd
  clear hb1 hrd C1
  obtain ⟨U, HU⟩ : ∃ U, Hid (w1.alloc (.cells #[.string body, .slice none 0 0, .slice none 0 0] 25) = U) := ⟨_, rfl⟩
  have BU : Hid (Below w1.heap.size w1 U) := by rw [← HU.out]; exact (Below.refl _ _).alloc (Nat.le_refl _) _
  have zU : w1.heap.size + 1 ≤ U.heap.size := by rw [← HU.out]; simp
  have HBU : Hid (U.heap[w1.heap.size]? = some (.cells #[.string body, .slice none 0 0, .slice none 0 0] 25 (0, 0))) := by rw [← HU.out]; exact heap_alloc_new w1 _
  have BWU : Hid (Below w.heap.size w U) := BW.out.trans ((B1.out.trans (BU.out.mono B1.out.size)).mono BW.out.size)
  obtain ⟨B, HB⟩ : ∃ B, Hid (U.heap.size = B) := ⟨_, rfl⟩
  obtain ⟨ob, HOB⟩ : ∃ ob, Hid (w1.heap.size = ob) := ⟨_, rfl⟩
  have z1 : w.heap.size < ob := by rw [← HOB.out]; have := B1.out.size; omega
  have z3 : ob < B := by rw [← HOB.out, ← HB.out]; omega
  have HTW : Hid (Two B ob body [] [] (.slice none 0 0) (.slice none 0 0) U) := by
    refine ⟨?_, z3, Lg.nil _ _, Lg.nil _ _, fun b e => by cases e⟩
    rw [← HOB.out]
    exact HBU.out
  have HRES : Hid (U.heap[w.heap.size]? = some (.cells #[.string ⟨#[]⟩, .slice none 0 0, .slice none 0 0] 25 (0, 0))) := by
    show _ = _
    rw [BU.out.block w.heap.size (by rw [HOB.out]; omega), B1.out.block w.heap.size (by omega)]
    exact HBK.out
  have HSG : Hid (∀ X, Fr B ob U X → n = 0 ∨ ∃ sb so, sa = some ⟨sb, so, none⟩ ∧ ∀ i x, gs[i]? = some x → X.cell? ⟨sb, so + i * 3, none⟩ = some (.string x.name) ∧ X.cell? ⟨sb, so + i * 3 + 1, none⟩ = some (.string x.id) ∧ X.cell? ⟨sb, so + i * 3 + 2, none⟩ = some (.string x.mac)) := by
    intro X hX
    obtain ⟨a', c', e', h0 | ⟨sb, so, rfl, hbb, hc⟩⟩ := HRD.out
    · exact .inl (by rw [← HN.out]; exact h0)
    · injection e' with e1 _ _
      refine .inr ⟨sb, so, e1, fun i x hi => ?_⟩
      have hbb2 := hbb
      rw [HOB.out] at hbb2
      have hs : X.heap[sb]? = w1.heap[sb]? := by
        rw [hX sb (by omega) (by omega), BU.out.block sb hbb]
      obtain ⟨q1, q2, q3⟩ := hc i x hi
      have k : ∀ off v, w1.cell? ⟨sb, off, none⟩ = some v → X.cell? ⟨sb, off, none⟩ = some v := fun off v h => (World.cell?_of_block (a := ⟨sb, off, none⟩) hs).trans h
      exact ⟨k _ _ q1, k _ _ q2, k _ _ q3⟩
  have HKX : Hid (∀ X, Below w.heap.size w X → ReadsY X (.slice ka ks.length kcp) ks) := fun X h => by rw [HM.out]; exact HY.out.later h
  have HRX : Hid (∀ X, Fr B ob U X → X.heap[w.heap.size]? = some (.cells #[.string ⟨#[]⟩, .slice none 0 0, .slice none 0 0] 25 (0, 0))) := fun X hX => (hX w.heap.size (by omega) (by omega)).trans HRES.out
  have TX : Hid (∀ X, Below w.heap.size w X → Tab4 X) := fun X h => T.out.down h
  clear HRES HBU HBK HRD HY
  go_upto_region 5 with fail
  rw [HU.out, HOB.out]
  go_wp2
  go_loopw [10] (fun i wr => ∃ k : Nat, k ≤ n ∧ i = .int .i64 k ∧ Hid (∃ gv rv go re, Two B ob body go re gv rv wr ∧ Fr B ob U wr ∧ Below w.heap.size w wr ∧ B ≤ wr.heap.size ∧ go.length ≤ k ∧ re.length ≤ k ∧ opF ks body (gs.drop k) (go, re) = OF)) (fun i _ => (n - intOf i).toNat)
  case atStart => exact ⟨0, by omega, rfl, _, _, [], [], HTW.out, Fr.refl _ _ _, BWU.out, Nat.le_of_eq HB.out.symm, by simp, by simp, HOF.out⟩
  case round =>
    obtain ⟨k, hk, rfl, HK⟩ := hrel
    obtain ⟨gv, rv, go, re, tw, fr, bw, hBw, lg, lr, ho⟩ := HK.out
    obtain ⟨ga, gc, hgv⟩ := tw.g.form
    obtain ⟨ra, rc, hrv⟩ := tw.r.form
    subst hgv hrv
    have HT : Hid (Two B ob body go re (.slice ga go.length gc) (.slice ra re.length rc) wr) := tw
    have HFR : Hid (Fr B ob U wr) := fr
    have HBW : Hid (Below w.heap.size w wr) := bw
    have HO : Hid (opF ks body (gs.drop k) (go, re) = OF) := ho
    obtain ⟨ng, HNG⟩ : ∃ ng, Hid (go.length = ng) := ⟨_, rfl⟩
    obtain ⟨nr, HNR⟩ : ∃ nr, Hid (re.length = nr) := ⟨_, rfl⟩
    have HT2 : Hid (Two B ob body go re (.slice ga ng gc) (.slice ra nr rc) wr) := by rw [← HNG.out, ← HNR.out]; exact HT.out
    have lg2 : ng ≤ k := by rw [← HNG.out]; exact lg
    have lr2 : nr ≤ k := by rw [← HNR.out]; exact lr
    clear HK tw fr bw ho HT lg lr
    by_cases hlt : k < n
    · have hlt' : (k : Int) < n := by omega
      have hkl : k < gs.length := by rw [HN.out]; exact hlt
      obtain ⟨x, HX⟩ : ∃ x, Hid (gs[k]'hkl = x) := ⟨_, rfl⟩
      have hst := HO.out
      rw [op_step ks body gs k hkl, HX.out] at hst
      have HST : Hid _ := hst
      have hsg : ∃ sb so, sa = some ⟨sb, so, none⟩ ∧ ∀ X, Fr B ob U X → X.cell? ⟨sb, so + k * 3, none⟩ = some (.string x.name) ∧ X.cell? ⟨sb, so + k * 3 + 1, none⟩ = some (.string x.id) ∧ X.cell? ⟨sb, so + k * 3 + 2, none⟩ = some (.string x.mac) := by
        rcases HSG.out wr HFR.out with h | ⟨sb, so, e, _⟩
        · omega
        · refine ⟨sb, so, e, fun X hX => ?_⟩
          rcases HSG.out X hX with h | ⟨sb', so', e', h'⟩
          · omega
          · rw [e] at e'
            injection e' with e'
            injection e' with e1 e2
            subst e1 e2
            exact h' k x (by rw [List.getElem?_eq_getElem hkl, HX.out])
      obtain ⟨sb, so, rfl, hsx⟩ := hsg
      have HSX : Hid _ := hsx
      obtain ⟨c1, c2, c3⟩ := hsx wr HFR.out
      have hfx : Fine x := by rw [← HX.out]; exact HMZ.out _ (List.getElem_mem hkl)
      have CW : Hid (Calls _ _ _ _ _) := ownerD x ks (.slice ka ks.length kcp) wr (HKX.out wr HBW.out) hfx.nm HZ.out HS.out (TX.out wr HBW.out)
      rw [HM.out] at CW
      have hol := own_lt x ks 0
      have holw := own_low x ks 0
      rw [HM.out] at hol
      have HSEC : Hid (0 ≤ ownF x ks 0 → ∃ (i : Nat) (hi : i < ks.length), ownF x ks 0 = i ∧ sec ks x = (ks[i]'hi).2) := by
        intro h
        refine ⟨(ownF x ks 0).toNat, by rw [HM.out]; omega, by omega, ?_⟩
        unfold sec
        rw [List.getD_eq_getElem?_getD, List.getElem?_eq_getElem (by rw [HM.out]; omega)]
        rfl
      obtain ⟨ov, HOV⟩ : ∃ ov, Hid (ownF x ks 0 = ov) := ⟨_, rfl⟩
      rw [HOV.out] at HST CW hol holw HSEC
      obtain ⟨sx, HSC⟩ : ∃ sx, Hid (sec ks x = sx) := ⟨_, rfl⟩
      rw [HSC.out] at HST HSEC
      clear hst HX HO HOV hsx HSC hfx
      obtain ⟨xn, xi, xm⟩ := x
      simp only at c1 c2 c3 HST CW
      by_cases hov : ov < 0
      · have HN2 : Hid (opF ks body (gs.drop (k + 1)) (go, re ++ [⟨xn, xi, xm⟩]) = OF) := by have := HST.out; rw [if_pos hov] at this; exact this
        clear HST HSEC
        go_wp2_with fail
        refine CW.out.mono ?_
        rintro e w5 ⟨rfl, hb5⟩
        have T5 : Hid (Two B ob body go re (.slice ga ng gc) (.slice ra nr rc) w5) := HT2.out.later hb5
        have F5 : Hid (Fr B ob U w5) := HFR.out.later hb5 hBw
        have W5 : Hid (Below w.heap.size w w5) := HBW.out.trans (hb5.mono HBW.out.size)
        have s5 : B ≤ w5.heap.size := Nat.le_trans hBw hb5.size
        clear hb5 CW c1 c2 c3
        obtain ⟨c1, c2, c3⟩ := HSX.out w5 F5.out
        have b2 := cell_of_row _ _ 2 _ _ _ T5.out.blk
        have hobw : ob < w5.heap.size := by omega
        have b2a : (w5.alloc (.cells #[.string xn, .string xi, .string xm] 43)).cell? ⟨ob, 2, none⟩ = some (.slice ra nr rc) := (World.cell?_alloc_lt _ _ _ hobw).trans b2
        have TA : Hid (Two B ob body go re (.slice ga ng gc) (.slice ra nr rc) (w5.alloc (.cells #[.string xn, .string xi, .string xm] 43))) := T5.out.later ((Below.refl _ _).alloc (Nat.le_refl _) _)
        have FA : Hid (Fr B ob U (w5.alloc (.cells #[.string xn, .string xi, .string xm] 43))) := F5.out.later ((Below.refl _ _).alloc (Nat.le_refl _) _) s5
        have WA : Hid (Below w.heap.size w (w5.alloc (.cells #[.string xn, .string xi, .string xm] 43))) := W5.out.alloc W5.out.size _
        have O4 : Hid ((w5.alloc (.cells #[.string xn, .string xi, .string xm] 43)).drew.ownsRow B 43 3 (.slice ra nr rc) nr (gcs re)) := by have := TA.out.r; unfold Lg at this; rw [HNR.out] at this; exact this
        have AR : Hid (∀ w7 g6 c6, w7.ownsRow B 43 3 (.slice (some ⟨g6, 0, none⟩) (nr + 1) c6) (nr + 1) (gcs re ++ [.string xn, .string xi, .string xm]) → (w5.alloc (.cells #[.string xn, .string xi, .string xm] 43)).grownBy w7 (Value.slice ra nr rc).ownBlock → ((Value.slice ra nr rc).ownBlock = some g6 ∨ g6 = w5.heap.size + 1) → _) := fun w7 g6 c6 h1 h2 h3 => addR_all (x := ⟨xn, xi, xm⟩) (n := nr) (c6 := c6) TA.out FA.out WA.out (by simp; omega) (by omega) HNR.out h1 h2 (by rcases h3 with h | h; exact .inl h; exact .inr (by rw [h]; simp))
        have hn1 : (nr + 1) * 48 ≤ 140737488355328 := by omega
        go_wp2_with fail
        go_region_law ((first | (have zz := O4.out; refine step_append_lies _ (by rfl) (.tmp 40) (.tmp 45) 23 (by rfl) B 43 i0 (.agg #[.string ⟨#[]⟩, .string ⟨#[]⟩, .string ⟨#[]⟩]) 3 48 Tryz.underlying23 HI.out.1 HI.out.2.1 HI.out.2.2.1 HI.out.2.2.2 rfl (by decide) (.slice ra nr rc) nr _ (by simp [Act.eval]) O4.out ⟨w5.heap.size, 0, none⟩ 1 1 [.string xn, .string xi, .string xm] (by simp [Act.eval]) rfl (new_three w5 _ _ _ _) (one_three _ _ _) (by omega) (by unfold maxLen; omega) hn1 (by simp; omega) (w5.heap.size + 1) (by simp) ?_; intro g6 c6 w7 ho7 hg7 hl7 hlt7; have A7 : Hid _ := AR.out w7 g6 c6 ho7 ⟨hg7.os, hg7.tape, hg7.output, hg7.size, hg7.block⟩ hl7; have cz := A7.out.2.1; have fz := A7.out.2.2; clear ho7 hg7 hl7 zz)))
        all_goals (
          go_wp2
          go_roundw
          case rel => exact ⟨k + 1, by omega, by go_num, _, _, go, re ++ [⟨xn, xi, xm⟩], A7.out.1.1, A7.out.1.2.1, A7.out.1.2.2.1, A7.out.1.2.2.2, by rw [HNG.out]; omega, by rw [List.length_append, HNR.out]; simp; omega, HN2.out⟩
          case measure => simp [intOf]; omega)
      · have hov0 : 0 ≤ ov := by omega
        obtain ⟨i, hi, hoi, hsec⟩ := HSEC.out hov0
        have hzs : sx.size ≤ 140737488351232 := by rw [hsec]; exact (HS.out _ (List.getElem_mem hi)).2
        have hky : ∃ kb ko, ka = some ⟨kb, ko, none⟩ ∧ ∀ X, Below w.heap.size w X → X.cell? ⟨kb, ko + i * 2 + 1, none⟩ = some (.string sx) := by
          obtain ⟨kb, ko, e, _⟩ := (HKX.out wr HBW.out).at i (ks[i]'hi) (List.getElem?_eq_getElem hi)
          refine ⟨kb, ko, e, fun X hX => ?_⟩
          obtain ⟨kb', ko', e', _, q1, q2⟩ := (HKX.out X hX).at i (ks[i]'hi) (List.getElem?_eq_getElem hi)
          rw [e] at e'
          injection e' with e'
          injection e' with e1 e2
          subst e1 e2
          rw [hsec]
          exact q2
        obtain ⟨kb, ko, rfl, hky⟩ := hky
        have HKC : Hid _ := hky
        have him : i < m := by rw [← HM.out]; exact hi
        have him' : (i : Int) < m := by omega
        subst hoi
        have CM : Hid (∀ X, Tab4 X → Calls _ _ _ _ _) := fun X tx => rmac sx body X (by omega) (by omega) tx
        have HST2 : Hid ((if xm = macF sx body then opF ks body (gs.drop (k + 1)) (go ++ [⟨xn, xi, xm⟩], re) else none) = OF) := by have := HST.out; rw [if_neg hov] at this; exact this
        obtain ⟨q, HQ⟩ : ∃ q, Hid (decide (xm = macF sx body) = q) := ⟨_, rfl⟩
        have gq : ((macF sx body).toList == xm.toList) = q := by rw [toList_eqB, eqB_symm]; exact HQ.out
        have HST3 : Hid ((if q = true then opF ks body (gs.drop (k + 1)) (go ++ [⟨xn, xi, xm⟩], re) else none) = OF) := by
          show _ = _
          rw [← HST2.out, ← HQ.out]
          by_cases e : xm = macF sx body <;> simp [e]
        generalize macF sx body = mc at *
        clear HST HST2 HSEC hsec hky hi HQ hov hov0 hol holw
        cases q
        · have HF : Hid (OF = none) := by show _ = _; rw [← HST3.out]; rfl
          have HR : Hid (R = noO 201) := by have := HRR.out; rw [HF.out] at this; exact this
          clear HST3
          go_wp2_with fail
          refine CW.out.mono ?_
          rintro e w5 ⟨rfl, hb5⟩
          have F5 : Hid (Fr B ob U w5) := HFR.out.later hb5 hBw
          have W5 : Hid (Below w.heap.size w w5) := HBW.out.trans (hb5.mono HBW.out.size)
          have s5 : B ≤ w5.heap.size := Nat.le_trans hBw hb5.size
          have y1 := HKC.out w5 W5.out
          clear hb5 CW c1 c2 c3
          go_wp2_with fail
          refine (CM.out _ (TX.out _ W5.out)).mono ?_
          rintro e w6 ⟨rfl, hb6⟩
          have F6 : Hid (Fr B ob U w6) := F5.out.later hb6 s5
          have W6 : Hid (Below w.heap.size w w6) := W5.out.trans (hb6.mono W5.out.size)
          clear hb6 y1
          obtain ⟨c1, c2, c3⟩ := HSX.out w6 F6.out
          have hbk := HRX.out _ F6.out
          have d0 := cell_of_row _ _ 0 _ _ _ hbk
          have d1 := cell_of_row _ _ 1 _ _ _ hbk
          have d2 := cell_of_row _ _ 2 _ _ _ hbk
          have f0 := frozen_of_row _ _ 0 _ _ hbk
          have f1 := frozen_of_row _ _ 1 _ _ hbk
          have f2 := frozen_of_row _ _ 2 _ _ hbk
          have FIN : Hid (∀ W', W' = _ → _) := put_out w6 w.heap.size _ _ _ (.string ⟨#[]⟩) (.slice none 0 0) (.slice none 0 0) _ hbk
          go_wp2
          first
          | (obtain ⟨⟨g0, g1, g2⟩, hbl, _⟩ := FIN.out _ rfl
             exact bodyPost_ret (v := .tuple #[.agg #[.string ⟨#[]⟩, .slice none 0 0, .slice none 0 0], .int .i64 201]) (by simp [results, Tryz.results4, go_sem, g0, g1, g2]) rfl ⟨by rw [HR.out]; exact opq_no _ _ 201, W6.out.trans (hbl _ (Nat.le_refl _))⟩)
          | exact bodyPost_ret (v := .tuple #[.agg #[.string ⟨#[]⟩, .slice none 0 0, .slice none 0 0], .int .i64 201]) (by simp [results, Tryz.results4, go_sem, d0, d1, d2]) rfl ⟨by rw [HR.out]; exact opq_no _ _ 201, W6.out⟩
        · have HN2 : Hid (opF ks body (gs.drop (k + 1)) (go ++ [⟨xn, xi, xm⟩], re) = OF) := HST3.out
          clear HST3
          go_wp2_with fail
          refine CW.out.mono ?_
          rintro e w4 ⟨rfl, hb4⟩
          have F4 : Hid (Fr B ob U w4) := HFR.out.later hb4 hBw
          have W4 : Hid (Below w.heap.size w w4) := HBW.out.trans (hb4.mono HBW.out.size)
          have T4 : Hid (Two B ob body go re (.slice ga ng gc) (.slice ra nr rc) w4) := HT2.out.later hb4
          have s4 : B ≤ w4.heap.size := Nat.le_trans hBw hb4.size
          have y1 := HKC.out w4 W4.out
          clear hb4 CW c1 c2 c3
          go_wp2_with fail
          refine (CM.out _ (TX.out _ W4.out)).mono ?_
          rintro e w5 ⟨rfl, hb5⟩
          have F5 : Hid (Fr B ob U w5) := F4.out.later hb5 s4
          have W5 : Hid (Below w.heap.size w w5) := W4.out.trans (hb5.mono W4.out.size)
          have T5 : Hid (Two B ob body go re (.slice ga ng gc) (.slice ra nr rc) w5) := T4.out.later hb5
          have s5 : B ≤ w5.heap.size := Nat.le_trans s4 hb5.size
          clear hb5 y1
          obtain ⟨c1, c2, c3⟩ := HSX.out w5 F5.out
          have b1 := cell_of_row _ _ 1 _ _ _ T5.out.blk
          have hobw : ob < w5.heap.size := by omega
          have b1a : (w5.alloc (.cells #[.string xn, .string xi, .string xm] 43)).cell? ⟨ob, 1, none⟩ = some (.slice ga ng gc) := (World.cell?_alloc_lt _ _ _ hobw).trans b1
          have TA : Hid (Two B ob body go re (.slice ga ng gc) (.slice ra nr rc) (w5.alloc (.cells #[.string xn, .string xi, .string xm] 43))) := T5.out.later ((Below.refl _ _).alloc (Nat.le_refl _) _)
          have FA : Hid (Fr B ob U (w5.alloc (.cells #[.string xn, .string xi, .string xm] 43))) := F5.out.later ((Below.refl _ _).alloc (Nat.le_refl _) _) s5
          have WA : Hid (Below w.heap.size w (w5.alloc (.cells #[.string xn, .string xi, .string xm] 43))) := W5.out.alloc W5.out.size _
          have O4 : Hid ((w5.alloc (.cells #[.string xn, .string xi, .string xm] 43)).drew.ownsRow B 43 3 (.slice ga ng gc) ng (gcs go)) := by have := TA.out.g; unfold Lg at this; rw [HNG.out] at this; exact this
          have AR : Hid (∀ w7 g6 c6, w7.ownsRow B 43 3 (.slice (some ⟨g6, 0, none⟩) (ng + 1) c6) (ng + 1) (gcs go ++ [.string xn, .string xi, .string xm]) → (w5.alloc (.cells #[.string xn, .string xi, .string xm] 43)).grownBy w7 (Value.slice ga ng gc).ownBlock → ((Value.slice ga ng gc).ownBlock = some g6 ∨ g6 = w5.heap.size + 1) → _) := fun w7 g6 c6 h1 h2 h3 => addG_all (x := ⟨xn, xi, xm⟩) (n := ng) (c6 := c6) TA.out FA.out WA.out (by simp; omega) (by omega) HNG.out h1 h2 (by rcases h3 with h | h; exact .inl h; exact .inr (by rw [h]; simp))
          have hn1 : (ng + 1) * 48 ≤ 140737488355328 := by omega
          go_wp2_with fail
          go_region_law ((first | (have zz := O4.out; refine step_append_lies _ (by rfl) (.tmp 64) (.tmp 69) 23 (by rfl) B 43 i0 (.agg #[.string ⟨#[]⟩, .string ⟨#[]⟩, .string ⟨#[]⟩]) 3 48 Tryz.underlying23 HI.out.1 HI.out.2.1 HI.out.2.2.1 HI.out.2.2.2 rfl (by decide) (.slice ga ng gc) ng _ (by simp [Act.eval]) O4.out ⟨w5.heap.size, 0, none⟩ 1 1 [.string xn, .string xi, .string xm] (by simp [Act.eval]) rfl (new_three w5 _ _ _ _) (one_three _ _ _) (by omega) (by unfold maxLen; omega) hn1 (by simp; omega) (w5.heap.size + 1) (by simp) ?_; intro g6 c6 w7 ho7 hg7 hl7 hlt7; have A7 : Hid _ := AR.out w7 g6 c6 ho7 ⟨hg7.os, hg7.tape, hg7.output, hg7.size, hg7.block⟩ hl7; have cz := A7.out.2.1; have fz := A7.out.2.2; clear ho7 hg7 hl7 zz)))
          all_goals (
            go_wp2
            go_roundw
            case rel => exact ⟨k + 1, by omega, by go_num, _, _, go ++ [⟨xn, xi, xm⟩], re, A7.out.1.1, A7.out.1.2.1, A7.out.1.2.2.1, A7.out.1.2.2.2, by rw [List.length_append, HNG.out]; simp; omega, by rw [HNR.out]; omega, HN2.out⟩
            case measure => simp [intOf]; omega)
    · have hlt' : ¬ (k : Int) < n := by omega
      have HF : Hid (OF = some (go, re)) := by
        show _ = _
        rw [← HO.out, List.drop_of_length_le (by rw [HN.out]; omega)]
        rfl
      have hbk := HRX.out _ HFR.out
      have c0 := cell_of_row _ _ 0 _ _ _ hbk
      have c1 := cell_of_row _ _ 1 _ _ _ hbk
      have c2 := cell_of_row _ _ 2 _ _ _ hbk
      have f0 := frozen_of_row _ _ 0 _ _ hbk
      have f1 := frozen_of_row _ _ 1 _ _ hbk
      have f2 := frozen_of_row _ _ 2 _ _ hbk
      have o0 := cell_of_row _ _ 0 _ _ _ HT2.out.blk
      have o1 := cell_of_row _ _ 1 _ _ _ HT2.out.blk
      have o2 := cell_of_row _ _ 2 _ _ _ HT2.out.blk
      have HRF : Hid (R = if go.length = 0 then noO 202 else ((body, go, re), 0)) := by have := HRR.out; rw [HF.out] at this; exact this
      rw [HNG.out] at HRF
      clear HO HF
      by_cases hn0 : ng = 0
      · subst hn0
        have HR : Hid (R = noO 202) := by show _ = _; rw [HRF.out, if_pos rfl]
        have FIN : Hid (∀ W', W' = _ → _) := put_out wr w.heap.size _ _ _ (.string ⟨#[]⟩) (.slice none 0 0) (.slice none 0 0) _ hbk
        clear HRF
        go_wp2
        first
        | (obtain ⟨⟨d0, d1, d2⟩, hbl, _⟩ := FIN.out _ rfl
           exact bodyPost_ret (v := .tuple #[.agg #[.string ⟨#[]⟩, .slice none 0 0, .slice none 0 0], .int .i64 202]) (by simp [results, Tryz.results4, go_sem, d0, d1, d2]) rfl ⟨by rw [HR.out]; exact opq_no _ _ 202, HBW.out.trans (hbl _ (Nat.le_refl _))⟩)
        | exact bodyPost_ret (v := .tuple #[.agg #[.string ⟨#[]⟩, .slice none 0 0, .slice none 0 0], .int .i64 202]) (by simp [results, Tryz.results4, go_sem, c0, c1, c2]) rfl ⟨by rw [HR.out]; exact opq_no _ _ 202, HBW.out⟩
      · have gn : ((ng : Int) == 0) = false := beq_eq_false_iff_ne.2 (by omega)
        have gn' : ¬ (ng : Int) = 0 := by omega
        have HR : Hid (R = ((body, go, re), 0)) := by show _ = _; rw [HRF.out, if_neg hn0]
        have FIN : Hid (∀ W', W' = _ → _) := put_out wr w.heap.size _ _ _ (.string body) (.slice ga ng gc) (.slice ra nr rc) _ hbk
        clear HRF hn0
        go_wp2
        obtain ⟨⟨d0, d1, d2⟩, hbl, hel⟩ := FIN.out _ rfl
        refine bodyPost_ret (v := .tuple #[.agg #[.string body, .slice ga ng gc, .slice ra nr rc], .int .i64 0]) (by simp [results, Tryz.results4, go_sem, d0, d1, d2]) rfl ⟨?_, HBW.out.trans (hbl _ (Nat.le_refl _))⟩
        rw [HR.out]
        refine ⟨ga, gc, ra, rc, by rw [HNG.out, HNR.out], ?_, ?_, (fun a e => by subst e; have := (own_in HT2.out.g rfl).1; omega), (fun a e => by subst e; have := (own_in HT2.out.r rfl).1; omega)⟩
        · show ReadsG _ (.slice ga go.length gc) go
          rw [HNG.out]
          exact lg_reads_same HT2.out.g (fun j h1 h2 => hel j (by omega))
        · show ReadsG _ (.slice ra re.length rc) re
          rw [HNR.out]
          exact lg_reads_same HT2.out.r (fun j h1 h2 => hel j (by omega))
end Go.Proofs.YthdkbjbhjfiaiaaGreatDoor.v7

namespace Go.Proofs.YthdkbjbhjfiaiaaGreatDoor.v8
open Go.RowKit Go.PlainAid Go.Shelf
open Go.Proofs.YthdkbjbhjfiaiaaGreatDoor.ft Go.Proofs.YthdkbjbhjfiaiaaGreatDoor.pj Go.Proofs.YthdkbjbhjfiaiaaGreatDoor.rf Go.Proofs.YthdkbjbhjfiaiaaGreatDoor.mo Go.Proofs.YthdkbjbhjfiaiaaGreatDoor.nh Go.Proofs.YthdkbjbhjfiaiaaGreatDoor.tj Go.Proofs.YthdkbjbhjfiaiaaGreatDoor.n3 Go.Proofs.YthdkbjbhjfiaiaaGreatDoor.n4 Go.Proofs.YthdkbjbhjfiaiaaGreatDoor.o1 Go.Proofs.YthdkbjbhjfiaiaaGreatDoor.o3 Go.Proofs.YthdkbjbhjfiaiaaGreatDoor.o4 Go.Proofs.YthdkbjbhjfiaiaaGreatDoor.o5 Go.Proofs.YthdkbjbhjfiaiaaGreatDoor.o6 Go.Proofs.YthdkbjbhjfiaiaaGreatDoor.kp Go.Proofs.YthdkbjbhjfiaiaaGreatDoor.p2 Go.Proofs.YthdkbjbhjfiaiaaGreatDoor.p3 Go.Proofs.YthdkbjbhjfiaiaaGreatDoor.q2 Go.Proofs.YthdkbjbhjfiaiaaGreatDoor.q5 Go.Proofs.YthdkbjbhjfiaiaaGreatDoor.r1 Go.Proofs.YthdkbjbhjfiaiaaGreatDoor.s1 Go.Proofs.YthdkbjbhjfiaiaaGreatDoor.t3 Go.Proofs.YthdkbjbhjfiaiaaGreatDoor.t4 Go.Proofs.YthdkbjbhjfiaiaaGreatDoor.t5 Go.Proofs.YthdkbjbhjfiaiaaGreatDoor.t6 Go.Proofs.YthdkbjbhjfiaiaaGreatDoor.v2 Go.Proofs.YthdkbjbhjfiaiaaGreatDoor.v4 Go.Proofs.YthdkbjbhjfiaiaaGreatDoor.v5 Go.Proofs.YthdkbjbhjfiaiaaGreatDoor.v7
set_option linter.unusedVariables false
set_option maxRecDepth 4000

-- both Opens, whatever is read
theorem openC (note : ByteArray) (hz : note.size ≤ 281474976710656) (RL : List ByteArray) (hG : Gives note RL) (kv : Value) (ks : List Ky) (w : World) (hk : ReadsY w kv ks) (hl : ks.length ≤ 4398046511104) (hs : ∀ k ∈ ks, k.1.size ≤ 140737488351232 ∧ k.2.size ≤ 140737488351232) (T : Hid (Tab w)) :
    Calls Tryz.prog 6 #[.string note, kv] w fun e w' => OpQ w.heap.size w' (opB note RL ks) e ∧ Below w.heap.size w w' := by
  unfold opB
  by_cases hb : 65536 < note.size
  · rw [if_pos hb]
    exact open_no note kv ks 121 (by decide) w hk (fun X => read_121 note hb hz X)
  · rw [if_neg hb]
    cases hr : readB note RL with
    | none => exact open_no note kv ks 200 (by decide) w hk (fun X => read_200 note (by omega) RL hG hr X)
    | some bg =>
      obtain ⟨body, gs⟩ := bg
      obtain ⟨z16, zb⟩ := readB_size hr
      obtain ⟨hp, h0⟩ := read_pw note RL hG body gs hr
      obtain ⟨_, hf⟩ := note_back note RL hG body gs hr
      exact open_ok note body kv ks gs _ (by omega) z16 hp (by omega) hl hs (fun g hg => by rw [(hf g hg).mac]; omega) rfl w T hk (fun X => read_ok note (by omega) RL hG body gs hr X)
theorem openD (note : ByteArray) (RL : List ByteArray) (hG : Gives note RL) (kv : Value) (ks : List Ky) (w : World) (hk : ReadsY w kv ks) (hl : ks.length ≤ 4398046511104) (hs : ∀ k ∈ ks, k.1.size ≤ 140737488351232 ∧ k.2.size ≤ 140737488351232) (T : Hid (Tab4 w)) :
    Calls Tryz.prog 4 #[.string note, kv] w fun e w' => OpQ w.heap.size w' (opB note RL ks) e ∧ Below w.heap.size w w' := by
  unfold opB
  by_cases hb : 65536 < note.size
  · rw [if_pos hb]
    exact openD_no note kv ks 121 (by decide) w hk (fun X => readD_big note hb X)
  · rw [if_neg hb]
    have hone := rd_one note RL hG
    cases hr : readB note RL with
    | none => exact openD_no note kv ks 200 (by decide) w hk (fun X => readD_no note (by omega) (hone.trans hr) X)
    | some bg =>
      obtain ⟨body, gs⟩ := bg
      obtain ⟨z16, zb⟩ := readB_size hr
      obtain ⟨_, h0⟩ := read_pw note RL hG body gs hr
      obtain ⟨_, hf⟩ := note_back note RL hG body gs hr
      refine openD_ok note body kv ks gs _ (by omega) z16 (by omega) hl hs hf rfl w T hk (fun X => (readD_ok note (by omega) body gs (hone.trans hr) X).mono ?_)
      rintro e W' ⟨a, c, h1, h2, h3⟩
      exact ⟨a, c, h1, h2.reads, h3⟩
set_option maxHeartbeats 1600000 in
theorem sameY (va vb : Value) (l : List Sg) (w : World) (ha : ReadsG w va l) (hb : ReadsG w vb l) (hz : l.length ≤ 1000000) :
    Calls Tryz.prog 25 #[va, vb] w fun e w' => e = .returned (.bool true) ∧ Below w.heap.size w w' := by
  obtain ⟨a, c, rfl, hca⟩ := ha
  obtain ⟨a', c', rfl, hcb⟩ := hb
  have HA : Hid _ := hca
  have HB2 : Hid _ := hcb
  clear hca hcb
  obtain ⟨n, HN⟩ : ∃ n, Hid (l.length = n) := ⟨_, rfl⟩
  have hzn : n ≤ 1000000 := by rw [← HN.out]; exact hz
  rw [HN.out]
  clear hz
  have hnn : ((n : Int) == (n : Int)) = true := beq_iff_eq.2 rfl
  go_enter Tryz.func25, Tryz.ntmps25
  go_wp2
  go_loopw [5] (fun i wr => ∃ k : Nat, k ≤ n ∧ i = .int .i64 k ∧ Hid (Below w.heap.size w wr)) (fun i _ => (n - intOf i).toNat)
  case atStart => exact ⟨0, by omega, rfl, Below.refl _ _⟩
  case round =>
    obtain ⟨k, hk, rfl, HB⟩ := hrel
    by_cases hlt : k < n
    · have hlt' : (k : Int) < n := by omega
      have hkl : k < l.length := by rw [HN.out]; exact hlt
      obtain ⟨x, HX⟩ : ∃ x, Hid (l[k]'hkl = x) := ⟨_, rfl⟩
      obtain ⟨b, off, rfl, hbw, hc⟩ : ∃ b off, a = some ⟨b, off, none⟩ ∧ b < w.heap.size ∧ ∀ i g, l[i]? = some g → w.cell? ⟨b, off + i * 3, none⟩ = some (.string g.name) ∧ w.cell? ⟨b, off + i * 3 + 1, none⟩ = some (.string g.id) ∧ w.cell? ⟨b, off + i * 3 + 2, none⟩ = some (.string g.mac) := by
        rcases HA.out with h | h
        · omega
        · exact h
      obtain ⟨b', off', rfl, hbw', hc'⟩ : ∃ b off, a' = some ⟨b, off, none⟩ ∧ b < w.heap.size ∧ ∀ i g, l[i]? = some g → w.cell? ⟨b, off + i * 3, none⟩ = some (.string g.name) ∧ w.cell? ⟨b, off + i * 3 + 1, none⟩ = some (.string g.id) ∧ w.cell? ⟨b, off + i * 3 + 2, none⟩ = some (.string g.mac) := by
        rcases HB2.out with h | h
        · omega
        · exact h
      obtain ⟨q1, q2, q3⟩ := hc k x (by rw [List.getElem?_eq_getElem hkl, HX.out])
      obtain ⟨r1, r2, r3⟩ := hc' k x (by rw [List.getElem?_eq_getElem hkl, HX.out])
      have c1 := (HB.out.cell (p := ⟨b, off + k * 3, none⟩) hbw).trans q1
      have c2 := (HB.out.cell (p := ⟨b, off + k * 3 + 1, none⟩) hbw).trans q2
      have c3 := (HB.out.cell (p := ⟨b, off + k * 3 + 2, none⟩) hbw).trans q3
      have d1 := (HB.out.cell (p := ⟨b', off' + k * 3, none⟩) hbw').trans r1
      have d2 := (HB.out.cell (p := ⟨b', off' + k * 3 + 1, none⟩) hbw').trans r2
      have d3 := (HB.out.cell (p := ⟨b', off' + k * 3 + 2, none⟩) hbw').trans r3
      have KN : Hid (∀ n, Below w.heap.size w (wr.drewN n)) := fun n => below_dN HB.out n
      clear hc hc' q1 q2 q3 r1 r2 r3 HX
      obtain ⟨xn, xi, xm⟩ := x
      simp only at c1 c2 c3 d1 d2 d3
      go_wp2_with fail
      go_quiet (fail)
      go_wp2
      go_roundw
      case rel => exact ⟨k + 1, by omega, by go_num, KN.out _⟩
      case measure => simp [intOf]; omega
    · have hlt' : ¬ (k : Int) < n := by omega
      go_wp2
      go_ret
      exact ⟨rfl, HB.out⟩
set_option maxHeartbeats 1600000 in
theorem openedY (t : ByteArray) (go re : List Sg) (ga ga' ra ra' : Option Addr) (gc gc' rc rc' : Nat) (w : World) (h1 : ReadsG w (.slice ga go.length gc) go) (h2 : ReadsG w (.slice ga' go.length gc') go) (h3 : ReadsG w (.slice ra re.length rc) re) (h4 : ReadsG w (.slice ra' re.length rc') re) (zg : go.length ≤ 1000000) (zr : re.length ≤ 1000000) :
    Calls Tryz.prog 10 #[.agg #[.string t, .slice ga go.length gc, .slice ra re.length rc], .agg #[.string t, .slice ga' go.length gc', .slice ra' re.length rc']] w fun e w' => e = .returned (.bool true) ∧ Below w.heap.size w w' := by
  have C1 : Hid (∀ X, Below w.heap.size w X → Calls _ _ _ _ _) := fun X h => sameY (.slice ga go.length gc) (.slice ga' go.length gc') go X (h1.later h) (h2.later h) zg
  have C2 : Hid (∀ X, Below w.heap.size w X → Calls _ _ _ _ _) := fun X h => sameY (.slice ra re.length rc) (.slice ra' re.length rc') re X (h3.later h) (h4.later h) zr
  clear h1 h2 h3 h4
  generalize go.length = ng at *
  generalize re.length = nr at *
  have gt : (t.toList == t.toList) = true := beq_iff_eq.2 rfl
  obtain ⟨W, HW⟩ : ∃ W, Hid ((w.alloc (.cells #[.string t, .slice ga ng gc, .slice ra nr rc] 25)).alloc (.cells #[.string t, .slice ga' ng gc', .slice ra' nr rc'] 25) = W) := ⟨_, rfl⟩
  have BW : Hid (Below w.heap.size w W) := by rw [← HW.out]; exact ((Below.refl _ _).alloc (Nat.le_refl _) _).alloc (by simp) _
  have SX : Hid (∀ X, Below (w.heap.size + 2) W X → (X.cell? ⟨w.heap.size, 0, none⟩ = some (.string t) ∧ X.cell? ⟨w.heap.size, 1, none⟩ = some (.slice ga ng gc) ∧ X.cell? ⟨w.heap.size, 2, none⟩ = some (.slice ra nr rc)) ∧ X.cell? ⟨w.heap.size + 1, 0, none⟩ = some (.string t) ∧ X.cell? ⟨w.heap.size + 1, 1, none⟩ = some (.slice ga' ng gc') ∧ X.cell? ⟨w.heap.size + 1, 2, none⟩ = some (.slice ra' nr rc')) := by
    rw [← HW.out]
    intro X h
    have k0 : ∀ off, X.cell? ⟨w.heap.size, off, none⟩ = (w.alloc (.cells #[.string t, .slice ga ng gc, .slice ra nr rc] 25)).cell? ⟨w.heap.size, off, none⟩ := fun off => (h.cell (p := ⟨w.heap.size, off, none⟩) (by show w.heap.size < w.heap.size + 2; omega)).trans (World.cell?_alloc_lt _ _ _ (by simp))
    have k1 : ∀ off, X.cell? ⟨w.heap.size + 1, off, none⟩ = ((w.alloc (.cells #[.string t, .slice ga ng gc, .slice ra nr rc] 25)).alloc (.cells #[.string t, .slice ga' ng gc', .slice ra' nr rc'] 25)).cell? ⟨w.heap.size + 1, off, none⟩ := fun off => h.cell (p := ⟨w.heap.size + 1, off, none⟩) (by show w.heap.size + 1 < w.heap.size + 2; omega)
    refine ⟨⟨?_, ?_, ?_⟩, ?_, ?_, ?_⟩
    · rw [k0, World.cell?_alloc_at _ _ _ _ rfl]; rfl
    · rw [k0, World.cell?_alloc_at _ _ _ _ rfl]; rfl
    · rw [k0, World.cell?_alloc_at _ _ _ _ rfl]; rfl
    · rw [k1, World.cell?_alloc_at _ _ _ _ (by simp)]; rfl
    · rw [k1, World.cell?_alloc_at _ _ _ _ (by simp)]; rfl
    · rw [k1, World.cell?_alloc_at _ _ _ _ (by simp)]; rfl
  have zW : w.heap.size + 2 ≤ W.heap.size := by rw [← HW.out]; simp
  obtain ⟨⟨a0, a1, a2⟩, b0, b1, b2⟩ := SX.out W (Below.refl _ _)
  go_enter Tryz.func10, Tryz.ntmps10
  go_upto_region 1 with fail
  rw [HW.out]
  go_wp2_with fail
  refine (C1.out W BW.out).mono ?_
  rintro e w1 ⟨rfl, hb1⟩
  have B1 : Hid (Below (w.heap.size + 2) W w1) := hb1.mono (by omega)
  have BB1 : Hid (Below w.heap.size w w1) := BW.out.trans (hb1.mono BW.out.size)
  clear hb1 a0 a1 a2 b0 b1 b2
  obtain ⟨⟨a0, a1, a2⟩, b0, b1, b2⟩ := SX.out w1 B1.out
  go_wp2_with fail
  refine (C2.out w1 BB1.out).mono ?_
  rintro e w2 ⟨rfl, hb2⟩
  have BB2 : Hid (Below w.heap.size w w2) := BB1.out.trans (hb2.mono BB1.out.size)
  clear hb2
  go_wp2
  go_ret
  exact ⟨rfl, BB2.out⟩
end Go.Proofs.YthdkbjbhjfiaiaaGreatDoor.v8
