import Derived.Test.YtjjeiklhmbhhoaaDoorCi
import Derived.Test.YtjjeiklhmbhhoaaDoorCt
import Derived.Test.YtjjeiklhmbhhoaaDoorCn
import Derived.Test.YtjjeiklhmbhhoaaDoorCd
import Derived.Test.YtjjeiklhmbhhoaaDoorCe
namespace Go.Proofs.YtjjeiklhmbhhoaaDoor.cj
open Go.RowKit Go.PlainAid
open Go.Proofs.YtjjeiklhmbhhoaaDoor.ca Go.Proofs.YtjjeiklhmbhhoaaDoor.cb Go.Proofs.YtjjeiklhmbhhoaaDoor.cp Go.Proofs.YtjjeiklhmbhhoaaDoor.cs Go.Proofs.YtjjeiklhmbhhoaaDoor.ct Go.Proofs.YtjjeiklhmbhhoaaDoor.cn Go.Proofs.YtjjeiklhmbhhoaaDoor.cc Go.Proofs.YtjjeiklhmbhhoaaDoor.cd Go.Proofs.YtjjeiklhmbhhoaaDoor.ce Go.Proofs.YtjjeiklhmbhhoaaDoor.ci
set_option linter.unusedVariables false

theorem two_one (x y : Value) (hx : x.oneCell' = true) (hy : y.oneCell' = true) : ∀ u ∈ [x, y], u.oneCell' = true := by
  intro u hu
  simp only [List.mem_cons, List.not_mem_nil, or_false] at hu
  rcases hu with rfl | rfl
  · exact hx
  · exact hy
def Gives (f : Nat) (lo hi : Int) (X : List (Nat × Nat)) (ec : Int) : Prop := ∀ w, Calls Tryd.prog f #[.int .i64 lo, .int .i64 hi] w fun e w' => (∃ v, e = .returned (.tuple #[v, .int .i64 ec]) ∧ w'.ownsRow w.heap.size 29 2 v X.length (cls X)) ∧ Below w.heap.size w w'
def GivesT (T : World → Prop) (f : Nat) (lo hi : Int) (X : List (Nat × Nat)) (ec : Int) : Prop := ∀ w, T w → Calls Tryd.prog f #[.int .i64 lo, .int .i64 hi] w fun e w' => (∃ v, e = .returned (.tuple #[v, .int .i64 ec]) ∧ w'.ownsRow w.heap.size 29 2 v X.length (cls X)) ∧ Below w.heap.size w w'
theorem gives {T : World → Prop} (CV : CoverC T) (lo hi : Int) (h0 : i64 lo) (h1 : i64 hi) : ∃ X ec, X.length ≤ 122 ∧ GivesT T 7 lo hi X ec ∧ Gives 9 lo hi X ec :=
  ⟨covI lo hi, covE lo hi, covI_len lo hi, fun w h => CV.covers lo hi h0 h1 w h, fun w => rCover lo hi h0.1 h0.2 h1.1 h1.2 w⟩
set_option maxHeartbeats 6400000 in
set_option maxRecDepth 100000 in
theorem tree_fresh {T : World → Prop} (CV : CoverC T) (lo hi fr tt : Int) (h0 : i64 lo) (h1 : i64 hi) (h2 : i64 fr) (h3 : i64 tt) (w : World) (hT : T w) :
    Calls Tryd.prog 5 #[.int .i64 lo, .int .i64 hi, .int .i64 fr, .int .i64 tt] w fun e w' => e = .returned (.bool true) ∧ Below w.heap.size w w' := by
  obtain ⟨X, ex, hXl, c1, r1⟩ := gives CV lo hi h0 h1
  obtain ⟨Y, ey, hYl, c2, r2⟩ := gives CV fr tt h2 h3
  have HTW : Hid (T w) := hT
  have LT : Hid (∀ {w w' : World}, T w → Below w.heap.size w w' → T w') := CV.later
  have CX : Hid (GivesT T 7 lo hi X ex) := c1
  have RX : Hid (Gives 9 lo hi X ex) := r1
  have CY : Hid (GivesT T 7 fr tt Y ey) := c2
  have RY : Hid (Gives 9 fr tt Y ey) := r2
  obtain ⟨nx, HNX⟩ : ∃ n, Hid (X.length = n) := ⟨_, rfl⟩
  obtain ⟨ny, HNY⟩ : ∃ n, Hid (Y.length = n) := ⟨_, rfl⟩
  have hnx : nx ≤ 122 := by rw [← HNX.out]; exact hXl
  have hny : ny ≤ 122 := by rw [← HNY.out]; exact hYl
  have NX : Hid (∀ w, Calls _ _ _ _ _) := fun w => num ex w
  have NY : Hid (∀ w, Calls _ _ _ _ _) := fun w => num ey w
  have qx : (ex == ex) = true := beq_self_eq_true _
  have qy : (ey == ey) = true := beq_self_eq_true _
  have SM : Hid (∀ (wx : World) (u v : Value) (L : List (Nat × Nat)), L.length ≤ 122 → ReadsA wx u L → ReadsA wx v L → Calls Tryd.prog 10 #[u, v] wx fun e w' => e = .returned (.bool true) ∧ ∃ m, w' = wx.drewN m) := fun wx u v L hL a b => same u v L wx a b (by omega)
  have HXL : Hid (X.length ≤ 122) := hXl
  have HYL : Hid (Y.length ≤ 122) := hYl
  obtain ⟨iA, hi', hz0, hz1, hz2⟩ := info_parts hiA
  have HIN : Hid (_ ∧ _ ∧ _ ∧ _) := ⟨hi', hz0, hz1, hz2⟩
  have HCX : Hid ((cls X).length = nx * 2) := by show _ = _; rw [cls_len, HNX.out]
  have HCY : Hid ((cls Y).length = ny * 2) := by show _ = _; rw [cls_len, HNY.out]
  clear CV hT c1 r1 c2 r2 hXl hYl hi' hz0 hz1 hz2 h0 h1 h2 h3
  go_enter Tryd.func5, Tryd.ntmps5
  go_wp2_with fail
  refine (RX.out _).mono ?_
  rintro e w1 ⟨⟨x, rfl, ho⟩, hb⟩
  have T1 : Hid (T w1) := LT.out HTW.out hb
  have Ox : Hid (w1.ownsRow w.heap.size 29 2 x X.length (cls X)) := ho
  have D1 : Hid (Below w.heap.size w w1) := hb
  clear ho hb
  go_wp2_with fail
  refine (RY.out _).mono ?_
  rintro e w2 ⟨⟨y, rfl, ho⟩, hb⟩
  have T2 : Hid (T w2) := LT.out T1.out hb
  have Oy : Hid (w2.ownsRow w1.heap.size 29 2 y Y.length (cls Y)) := ho
  have D2 : Hid (Below w1.heap.size w1 w2) := hb
  clear ho hb
  go_wp2_with fail
  refine (CX.out _ T2.out).mono ?_
  rintro e w3 ⟨⟨l, rfl, ho⟩, hb⟩
  have T3 : Hid (T w3) := LT.out T2.out hb
  have Ol : Hid (w3.ownsRow w2.heap.size 29 2 l X.length (cls X)) := ho
  have D3 : Hid (Below w2.heap.size w2 w3) := hb
  clear ho hb
  go_wp2_with fail
  refine (CX.out _ T3.out).mono ?_
  rintro e w4 ⟨⟨k, rfl, ho⟩, hb⟩
  have T4 : Hid (T w4) := LT.out T3.out hb
  have Ok : Hid (w4.ownsRow w3.heap.size 29 2 k X.length (cls X)) := ho
  have D4 : Hid (Below w3.heap.size w3 w4) := hb
  clear ho hb
  go_wp2_with fail
  refine (CY.out _ T4.out).mono ?_
  rintro e w5 ⟨⟨m, rfl, ho⟩, hb⟩
  have T5 : Hid (T w5) := LT.out T4.out hb
  have Om : Hid (w5.ownsRow w4.heap.size 29 2 m Y.length (cls Y)) := ho
  have D5 : Hid (Below w4.heap.size w4 w5) := hb
  clear ho hb
  go_wp2_with fail
  refine (CY.out _ T5.out).mono ?_
  rintro e w6 ⟨⟨o, rfl, ho⟩, hb⟩
  have T6 : Hid (T w6) := LT.out T5.out hb
  have Oo : Hid (w6.ownsRow w5.heap.size 29 2 o Y.length (cls Y)) := ho
  have D6 : Hid (Below w5.heap.size w5 w6) := hb
  clear ho hb
  go_wp2_with fail
  refine (CX.out _ T6.out).mono ?_
  rintro e w7 ⟨⟨z, rfl, ho⟩, hb⟩
  have Oz : Hid (w7.ownsRow w6.heap.size 29 2 z X.length (cls X)) := ho
  have D7 : Hid (Below w6.heap.size w6 w7) := hb
  clear ho hb
  have Px : Hid (w7.ownsRow w.heap.size 29 2 x X.length (cls X)) := own_down (own_later (own_later (own_later (own_later (own_later (own_later Ox.out D2.out) D3.out) D4.out) D5.out) D6.out) D7.out) (Nat.le_refl _)
  have Py : Hid (w7.ownsRow w.heap.size 29 2 y Y.length (cls Y)) := own_down (own_later (own_later (own_later (own_later (own_later Oy.out D3.out) D4.out) D5.out) D6.out) D7.out) (Nat.le_trans (Nat.le_refl _) D1.out.size)
  have Pl : Hid (w7.ownsRow w.heap.size 29 2 l X.length (cls X)) := own_down (own_later (own_later (own_later (own_later Ol.out D4.out) D5.out) D6.out) D7.out) (Nat.le_trans (Nat.le_trans (Nat.le_refl _) D1.out.size) D2.out.size)
  have Pk : Hid (w7.ownsRow w.heap.size 29 2 k X.length (cls X)) := own_down (own_later (own_later (own_later Ok.out D5.out) D6.out) D7.out) (Nat.le_trans (Nat.le_trans (Nat.le_trans (Nat.le_refl _) D1.out.size) D2.out.size) D3.out.size)
  have Pm : Hid (w7.ownsRow w.heap.size 29 2 m Y.length (cls Y)) := own_down (own_later (own_later Om.out D6.out) D7.out) (Nat.le_trans (Nat.le_trans (Nat.le_trans (Nat.le_trans (Nat.le_refl _) D1.out.size) D2.out.size) D3.out.size) D4.out.size)
  have Po : Hid (w7.ownsRow w.heap.size 29 2 o Y.length (cls Y)) := own_down (own_later Oo.out D7.out) (Nat.le_trans (Nat.le_trans (Nat.le_trans (Nat.le_trans (Nat.le_trans (Nat.le_refl _) D1.out.size) D2.out.size) D3.out.size) D4.out.size) D5.out.size)
  have Pz : Hid (w7.ownsRow w.heap.size 29 2 z X.length (cls X)) := own_down Oz.out (Nat.le_trans (Nat.le_trans (Nat.le_trans (Nat.le_trans (Nat.le_trans (Nat.le_trans (Nat.le_refl _) D1.out.size) D2.out.size) D3.out.size) D4.out.size) D5.out.size) D6.out.size)
  have BW7 : Hid (Below w.heap.size w w7) := over (over (over (over (over (over D1.out D2.out) D3.out) D4.out) D5.out) D6.out) D7.out
  have OFLM : Hid (Off l m) := off_of Ol.out Om.out (Nat.le_trans (Nat.le_refl _) D4.out.size)
  have OFLx : Hid (Off l x) := Off.symm (off_of Ox.out Ol.out (Nat.le_trans (Nat.le_refl _) D2.out.size))
  have OFMx : Hid (Off m x) := Off.symm (off_of Ox.out Om.out (Nat.le_trans (Nat.le_trans (Nat.le_trans (Nat.le_refl _) D2.out.size) D3.out.size) D4.out.size))
  have OFLy : Hid (Off l y) := Off.symm (off_of Oy.out Ol.out (Nat.le_refl _))
  have OFMy : Hid (Off m y) := Off.symm (off_of Oy.out Om.out (Nat.le_trans (Nat.le_trans (Nat.le_refl _) D3.out.size) D4.out.size))
  have OFLk : Hid (Off l k) := off_of Ol.out Ok.out (Nat.le_refl _)
  have OFMk : Hid (Off m k) := Off.symm (off_of Ok.out Om.out (Nat.le_refl _))
  have OFLo : Hid (Off l o) := off_of Ol.out Oo.out (Nat.le_trans (Nat.le_trans (Nat.le_refl _) D4.out.size) D5.out.size)
  have OFMo : Hid (Off m o) := off_of Om.out Oo.out (Nat.le_refl _)
  have OFLz : Hid (Off l z) := off_of Ol.out Oz.out (Nat.le_trans (Nat.le_trans (Nat.le_trans (Nat.le_refl _) D4.out.size) D5.out.size) D6.out.size)
  have OFMz : Hid (Off m z) := off_of Om.out Oz.out (Nat.le_trans (Nat.le_refl _) D6.out.size)
  have F7 : Hid (Fr w7 w.heap.size l m X.length Y.length (cls X) (cls Y) [(x, X), (y, Y), (k, X), (o, Y), (z, X)]) := by
    refine ⟨Pl.out, Pm.out, OFLM.out, ?_, ?_, ?_⟩
    · intro a ha
      simp only [List.mem_cons, List.not_mem_nil, or_false] at ha
      rcases ha with rfl | rfl | rfl | rfl | rfl
      · exact Px.out
      · exact Py.out
      · exact Pk.out
      · exact Po.out
      · exact Pz.out
    · intro a ha
      simp only [List.mem_cons, List.not_mem_nil, or_false] at ha
      rcases ha with rfl | rfl | rfl | rfl | rfl
      · exact OFLx.out
      · exact OFLy.out
      · exact OFLk.out
      · exact OFLo.out
      · exact OFLz.out
    · intro a ha
      simp only [List.mem_cons, List.not_mem_nil, or_false] at ha
      rcases ha with rfl | rfl | rfl | rfl | rfl
      · exact OFMx.out
      · exact OFMy.out
      · exact OFMk.out
      · exact OFMo.out
      · exact OFMz.out
  have Mx : Hid ((x, X) ∈ [(x, X), (y, Y), (k, X), (o, Y), (z, X)]) := by show _ ∈ _; simp
  have My : Hid ((y, Y) ∈ [(x, X), (y, Y), (k, X), (o, Y), (z, X)]) := by show _ ∈ _; simp
  have Mk : Hid ((k, X) ∈ [(x, X), (y, Y), (k, X), (o, Y), (z, X)]) := by show _ ∈ _; simp
  have Mo : Hid ((o, Y) ∈ [(x, X), (y, Y), (k, X), (o, Y), (z, X)]) := by show _ ∈ _; simp
  have Mz : Hid ((z, X) ∈ [(x, X), (y, Y), (k, X), (o, Y), (z, X)]) := by show _ ∈ _; simp
  clear OFLM OFLx OFLy OFLk OFLo OFLz OFMx OFMy OFMk OFMo OFMz Ox Oy Ol Ok Om Oo Oz Px Py Pl Pk Pm Po Pz D1 D2 D3 D4 D5 D6 D7
  rw [HNX.out, HNY.out] at F7
  obtain ⟨al, cl, rfl⟩ := own_form F7.out.rp
  obtain ⟨am, cm, rfl⟩ := own_form F7.out.rq
  go_wp2_with fail
  refine (NX.out _).mono ?_
  rintro e wn ⟨rfl, hw⟩
  replace hw := hw.symm
  subst hw
  go_wp2_with fail
  refine (NY.out _).mono ?_
  rintro e wn ⟨rfl, hw⟩
  replace hw := hw.symm
  subst hw
  go_wp2_with fail
  refine (SM.out _ _ _ X HXL.out (own_readsA F7.out.rp) (own_readsA (F7.out.rs _ Mx.out))).mono ?_
  rintro e w8 ⟨rfl, j8, hj8⟩
  have E8 : Hid (Below w7.heap.size w7 w8) := by subst hj8; exact below_dN (Below.refl _ _) j8
  have F8 : Hid (Fr w8 w.heap.size (.slice al nx cl) (.slice am ny cm) nx ny (cls X) (cls Y) [(x, X), (y, Y), (k, X), (o, Y), (z, X)]) := F7.out.later E8.out
  have BW8 : Hid (Below w.heap.size w w8) := over BW7.out E8.out
  clear hj8 F7 BW7 E8
  go_wp2_with fail
  refine (SM.out _ _ _ Y HYL.out (own_readsA F8.out.rq) (own_readsA (F8.out.rs _ My.out))).mono ?_
  rintro e w9 ⟨rfl, j9, hj9⟩
  have E9 : Hid (Below w8.heap.size w8 w9) := by subst hj9; exact below_dN (Below.refl _ _) j9
  have F9 : Hid (Fr w9 w.heap.size (.slice al nx cl) (.slice am ny cm) nx ny (cls X) (cls Y) [(x, X), (y, Y), (k, X), (o, Y), (z, X)]) := F8.out.later E9.out
  have BW9 : Hid (Below w.heap.size w w9) := over BW8.out E9.out
  clear hj9 F8 BW8 E9
  go_wp2_with fail
  refine (SM.out _ _ _ X HXL.out (own_readsA (F9.out.rs _ Mk.out)) (own_readsA (F9.out.rs _ Mx.out))).mono ?_
  rintro e w10 ⟨rfl, j10, hj10⟩
  have E10 : Hid (Below w9.heap.size w9 w10) := by subst hj10; exact below_dN (Below.refl _ _) j10
  have F10 : Hid (Fr w10 w.heap.size (.slice al nx cl) (.slice am ny cm) nx ny (cls X) (cls Y) [(x, X), (y, Y), (k, X), (o, Y), (z, X)]) := F9.out.later E10.out
  have BW10 : Hid (Below w.heap.size w w10) := over BW9.out E10.out
  clear hj10 F9 BW9 E10
  go_wp2_with fail
  refine (SM.out _ _ _ Y HYL.out (own_readsA (F10.out.rs _ Mo.out)) (own_readsA (F10.out.rs _ My.out))).mono ?_
  rintro e w11 ⟨rfl, j11, hj11⟩
  have E11 : Hid (Below w10.heap.size w10 w11) := by subst hj11; exact below_dN (Below.refl _ _) j11
  have F11 : Hid (Fr w11 w.heap.size (.slice al nx cl) (.slice am ny cm) nx ny (cls X) (cls Y) [(x, X), (y, Y), (k, X), (o, Y), (z, X)]) := F10.out.later E11.out
  have BW11 : Hid (Below w.heap.size w w11) := over BW10.out E11.out
  clear hj11 F10 BW10 E11
  go_wp2_with fail
  refine (SM.out _ _ _ X HXL.out (own_readsA (F11.out.rs _ Mz.out)) (own_readsA (F11.out.rs _ Mx.out))).mono ?_
  rintro e w12 ⟨rfl, j12, hj12⟩
  have E12 : Hid (Below w11.heap.size w11 w12) := by subst hj12; exact below_dN (Below.refl _ _) j12
  have F12 : Hid (Fr w12 w.heap.size (.slice al nx cl) (.slice am ny cm) nx ny (cls X) (cls Y) [(x, X), (y, Y), (k, X), (o, Y), (z, X)]) := F11.out.later E12.out
  have BW12 : Hid (Below w.heap.size w w12) := over BW11.out E12.out
  clear hj12 F11 BW11 E12
  go_wp2
  go_loopw [23] (fun i wr => ∃ (kk : Nat), kk ≤ nx ∧ i = .int .i64 kk ∧ Hid (Fr wr w.heap.size (.slice al nx cl) (.slice am ny cm) nx ny (fillM (-1) (cls X) kk) (cls Y) [(x, X), (y, Y), (k, X), (o, Y), (z, X)] ∧ Below w.heap.size w wr)) (fun i _ => (nx - intOf i).toNat)
  case atStart => exact ⟨0, by omega, rfl, (by rw [fillM_zero]; exact F12.out), BW12.out⟩
  case round =>
    clear F12 BW12
    obtain ⟨k', hk, rfl, HL⟩ := hrel
    by_cases hlt : k' < nx
    · have hlt' : (k' : Int) < nx := by omega
      have hfl : (fillM (-1) (cls X) k').length = nx * 2 := fillM_len _ _ nx k' HCX.out (Nat.le_of_lt hlt)
      obtain ⟨g, hal, hg⟩ := own_some HL.out.1.rp (by omega)
      subst hal
      obtain ⟨o1, d1⟩ : ∃ o1, wr.cell? ⟨g, k' * 2, none⟩ = some o1 := ⟨(fillM (-1) (cls X) k')[k' * 2]'(by omega), by rw [HL.out.1.rp.cellAt (k' * 2) (by omega)]; exact List.getElem?_eq_getElem _⟩
      obtain ⟨o2, d2⟩ : ∃ o2, wr.cell? ⟨g, k' * 2 + 1, none⟩ = some o2 := ⟨(fillM (-1) (cls X) k')[k' * 2 + 1]'(by omega), by rw [HL.out.1.rp.cellAt (k' * 2 + 1) (by omega)]; exact List.getElem?_eq_getElem _⟩
      have f1 := HL.out.1.rp.frozenAt (k' * 2)
      have f2 := HL.out.1.rp.frozenAt (k' * 2 + 1)
      have ST := (HL.out.1.put (k' * 2) (.int .i64 (-1))).put (k' * 2 + 1) (.int .i64 0)
      rw [fillM_set (-1) (cls X) k' (by rw [HCX.out]; omega)] at ST
      have HST : Hid (Fr ((wr.setCell ⟨g, k' * 2, none⟩ (.int .i64 (-1))).setCell ⟨g, k' * 2 + 1, none⟩ (.int .i64 0)) w.heap.size (.slice (some ⟨g, 0, none⟩) nx cl) (.slice am ny cm) nx ny (fillM (-1) (cls X) (k' + 1)) (cls Y) [(x, X), (y, Y), (k, X), (o, Y), (z, X)]) := ST
      have HSB : Hid (Below w.heap.size w ((wr.setCell ⟨g, k' * 2, none⟩ (.int .i64 (-1))).setCell ⟨g, k' * 2 + 1, none⟩ (.int .i64 0))) := (HL.out.2.setCell (p := ⟨g, k' * 2, none⟩) hg _).setCell (p := ⟨g, k' * 2 + 1, none⟩) hg _
      clear ST hfl
      go_wp2
      go_roundw
      case rel => exact ⟨k' + 1, by omega, by go_num, HST.out, HSB.out⟩
      case measure => simp [intOf]; omega
    · have hlt' : ¬ (k' : Int) < nx := by omega
      obtain rfl : nx = k' := by omega
      obtain ⟨x1, rfl⟩ : ∃ wz, wz = wr := ⟨_, rfl⟩
      have G1 : Hid (Fr x1 w.heap.size (.slice al nx cl) (.slice am ny cm) nx ny (mks (-1) nx) (cls Y) [(x, X), (y, Y), (k, X), (o, Y), (z, X)]) := by
        have h1 := HL.out.1
        rw [fillM_end _ _ _ HCX.out] at h1
        exact h1
      have H1 : Hid (Below w.heap.size w x1) := HL.out.2
      clear HL
      go_wp2
      go_loopw [24] (fun i wr => ∃ (kk : Nat), kk ≤ ny ∧ i = .int .i64 kk ∧ Hid (Fr wr w.heap.size (.slice al nx cl) (.slice am ny cm) nx ny (mks (-1) nx) (fillM (-2) (cls Y) kk) [(x, X), (y, Y), (k, X), (o, Y), (z, X)] ∧ Below w.heap.size w wr)) (fun i _ => (ny - intOf i).toNat)
      case atStart => exact ⟨0, by omega, rfl, (by rw [fillM_zero]; exact G1.out), H1.out⟩
      case round =>
        clear G1 H1
        obtain ⟨k', hk, rfl, HL⟩ := hrel
        by_cases hlt : k' < ny
        · have hlt' : (k' : Int) < ny := by omega
          have hfl : (fillM (-2) (cls Y) k').length = ny * 2 := fillM_len _ _ ny k' HCY.out (Nat.le_of_lt hlt)
          obtain ⟨g, hal, hg⟩ := own_some HL.out.1.rq (by omega)
          subst hal
          obtain ⟨o1, d1⟩ : ∃ o1, wr.cell? ⟨g, k' * 2, none⟩ = some o1 := ⟨(fillM (-2) (cls Y) k')[k' * 2]'(by omega), by rw [HL.out.1.rq.cellAt (k' * 2) (by omega)]; exact List.getElem?_eq_getElem _⟩
          obtain ⟨o2, d2⟩ : ∃ o2, wr.cell? ⟨g, k' * 2 + 1, none⟩ = some o2 := ⟨(fillM (-2) (cls Y) k')[k' * 2 + 1]'(by omega), by rw [HL.out.1.rq.cellAt (k' * 2 + 1) (by omega)]; exact List.getElem?_eq_getElem _⟩
          have f1 := HL.out.1.rq.frozenAt (k' * 2)
          have f2 := HL.out.1.rq.frozenAt (k' * 2 + 1)
          have ST := (HL.out.1.swap.put (k' * 2) (.int .i64 (-2))).put (k' * 2 + 1) (.int .i64 0)
          rw [fillM_set (-2) (cls Y) k' (by rw [HCY.out]; omega)] at ST
          have HST : Hid (Fr ((wr.setCell ⟨g, k' * 2, none⟩ (.int .i64 (-2))).setCell ⟨g, k' * 2 + 1, none⟩ (.int .i64 0)) w.heap.size (.slice al nx cl) (.slice (some ⟨g, 0, none⟩) ny cm) nx ny (mks (-1) nx) (fillM (-2) (cls Y) (k' + 1)) [(x, X), (y, Y), (k, X), (o, Y), (z, X)]) := ST.swap
          have HSB : Hid (Below w.heap.size w ((wr.setCell ⟨g, k' * 2, none⟩ (.int .i64 (-2))).setCell ⟨g, k' * 2 + 1, none⟩ (.int .i64 0))) := (HL.out.2.setCell (p := ⟨g, k' * 2, none⟩) hg _).setCell (p := ⟨g, k' * 2 + 1, none⟩) hg _
          clear ST hfl
          go_wp2
          go_roundw
          case rel => exact ⟨k' + 1, by omega, by go_num, HST.out, HSB.out⟩
          case measure => simp [intOf]; omega
        · have hlt' : ¬ (k' : Int) < ny := by omega
          obtain rfl : ny = k' := by omega
          obtain ⟨x2, rfl⟩ : ∃ wz, wz = wr := ⟨_, rfl⟩
          have G2 : Hid (Fr x2 w.heap.size (.slice al nx cl) (.slice am ny cm) nx ny (mks (-1) nx) (mks (-2) ny) [(x, X), (y, Y), (k, X), (o, Y), (z, X)]) := by
            have h1 := HL.out.1
            rw [fillM_end _ _ _ HCY.out] at h1
            exact h1
          have H2 : Hid (Below w.heap.size w x2) := HL.out.2
          clear HL
          have FXGA : Hid (Fr (x2.alloc (.cells #[.int .i64 (-1), .int .i64 0] 29)) w.heap.size (.slice al nx cl) (.slice am ny cm) nx ny (mks (-1) nx) (mks (-2) ny) [(x, X), (y, Y), (k, X), (o, Y), (z, X)]) := G2.out.later ((Below.refl _ _).alloc (Nat.le_refl _) _)
          have BXGA : Hid (Below w.heap.size w (x2.alloc (.cells #[.int .i64 (-1), .int .i64 0] 29))) := H2.out.alloc H2.out.size _
          go_upto_region 19 with (at_builtin; refine wpList_append_own_at _ rfl _ _ 22 rfl w.heap.size 29 iA (.agg #[.int .i64 0, .int .i64 0]) 2 16 Tryd.underlying22 HIN.out.1 HIN.out.2.1 HIN.out.2.2.1 HIN.out.2.2.2 rfl (by decide) _ (nx) _ rfl FXGA.out.rp ⟨x2.heap.size, 0, none⟩ 1 1 [.int .i64 (-1), .int .i64 0] rfl rfl (two_cells _ _ _ _) (two_one _ _ rfl rfl) (by unfold maxLen; omega) (by omega) BXGA.out.size ?_; intro pp x3 ho hg hnn hat; have GA : Hid (Fr x3 w.heap.size pp (.slice am ny cm) (nx + 1) ny (mks (-1) (nx + 1)) (mks (-2) ny) [(x, X), (y, Y), (k, X), (o, Y), (z, X)]) := (by rw [← mks_succ] at ho; exact FXGA.out.grow ho hg hat); have HA : Hid (Below w.heap.size w x3) := Below.grown BXGA.out hg BXGA.out.size (fun j hj => (FXGA.out.rp.lt _ hj).1); clear ho hg hnn hat)
          clear FXGA BXGA
          have FXGB : Hid (Fr (x3.alloc (.cells #[.int .i64 (-2), .int .i64 0] 29)) w.heap.size pp (.slice am ny cm) (nx + 1) ny (mks (-1) (nx + 1)) (mks (-2) ny) [(x, X), (y, Y), (k, X), (o, Y), (z, X)]) := GA.out.later ((Below.refl _ _).alloc (Nat.le_refl _) _)
          have BXGB : Hid (Below w.heap.size w (x3.alloc (.cells #[.int .i64 (-2), .int .i64 0] 29))) := HA.out.alloc HA.out.size _
          go_upto_region 20 with (at_builtin; refine wpList_append_own_at _ rfl _ _ 22 rfl w.heap.size 29 iA (.agg #[.int .i64 0, .int .i64 0]) 2 16 Tryd.underlying22 HIN.out.1 HIN.out.2.1 HIN.out.2.2.1 HIN.out.2.2.2 rfl (by decide) _ (ny) _ rfl FXGB.out.rq ⟨x3.heap.size, 0, none⟩ 1 1 [.int .i64 (-2), .int .i64 0] rfl rfl (two_cells _ _ _ _) (two_one _ _ rfl rfl) (by unfold maxLen; omega) (by omega) BXGB.out.size ?_; intro qq x4 ho hg hnn hat; have GB : Hid (Fr x4 w.heap.size pp qq (nx + 1) (ny + 1) (mks (-1) (nx + 1)) (mks (-2) (ny + 1)) [(x, X), (y, Y), (k, X), (o, Y), (z, X)]) := (by rw [← mks_succ] at ho; exact (FXGB.out.swap.grow ho hg hat).swap); have HBB : Hid (Below w.heap.size w x4) := Below.grown BXGB.out hg BXGB.out.size (fun j hj => (FXGB.out.rq.lt _ hj).1); clear ho hg hnn hat)
          clear FXGB BXGB
          clear G2 H2 GA HA
          go_wp2
          go_loopw [25, 26, 27] (fun p q i wr => ∃ (j : Nat), 1 ≤ j ∧ j ≤ 200 ∧ i = .int .i64 j ∧ Hid (Fr wr w.heap.size p q (nx + j) (ny + j) (mks (-1) (nx + j)) (mks (-2) (ny + j)) [(x, X), (y, Y), (k, X), (o, Y), (z, X)] ∧ Below w.heap.size w wr)) (fun _ _ i _ => (200 - intOf i).toNat)
          case atStart => exact ⟨1, by omega, by omega, rfl, GB.out, HBB.out⟩
          case round =>
            clear GB HBB
            obtain ⟨j, hj1, hj, rfl, HL⟩ := hrel
            by_cases hlt : j < 200
            · have hlt' : (j : Int) < 200 := by omega
              have K0 : Hid (Fr wr w.heap.size u25 u26 (nx + j) (ny + j) (mks (-1) (nx + j)) (mks (-2) (ny + j)) [(x, X), (y, Y), (k, X), (o, Y), (z, X)]) := HL.out.1
              have J0 : Hid (Below w.heap.size w wr) := HL.out.2
              have FXK1 : Hid (Fr (wr.alloc (.cells #[.int .i64 (-1), .int .i64 0] 29)) w.heap.size u25 u26 (nx + j) (ny + j) (mks (-1) (nx + j)) (mks (-2) (ny + j)) [(x, X), (y, Y), (k, X), (o, Y), (z, X)]) := K0.out.later ((Below.refl _ _).alloc (Nat.le_refl _) _)
              have BXK1 : Hid (Below w.heap.size w (wr.alloc (.cells #[.int .i64 (-1), .int .i64 0] 29))) := J0.out.alloc J0.out.size _
              go_upto_region 24 with (at_builtin; refine wpList_append_own_at _ rfl _ _ 22 rfl w.heap.size 29 iA (.agg #[.int .i64 0, .int .i64 0]) 2 16 Tryd.underlying22 HIN.out.1 HIN.out.2.1 HIN.out.2.2.1 HIN.out.2.2.2 rfl (by decide) _ ((nx + j)) _ rfl FXK1.out.rp ⟨wr.heap.size, 0, none⟩ 1 1 [.int .i64 (-1), .int .i64 0] rfl rfl (two_cells _ _ _ _) (two_one _ _ rfl rfl) (by unfold maxLen; omega) (by omega) BXK1.out.size ?_; intro pp v1 ho hg hnn hat; have K1 : Hid (Fr v1 w.heap.size pp u26 ((nx + j) + 1) (ny + j) (mks (-1) ((nx + j) + 1)) (mks (-2) (ny + j)) [(x, X), (y, Y), (k, X), (o, Y), (z, X)]) := (by rw [← mks_succ] at ho; exact FXK1.out.grow ho hg hat); have J1 : Hid (Below w.heap.size w v1) := Below.grown BXK1.out hg BXK1.out.size (fun j hj => (FXK1.out.rp.lt _ hj).1); clear ho hg hnn hat)
              clear FXK1 BXK1
              have FXK2 : Hid (Fr (v1.alloc (.cells #[.int .i64 (-2), .int .i64 0] 29)) w.heap.size pp u26 (nx + j + 1) (ny + j) (mks (-1) (nx + j + 1)) (mks (-2) (ny + j)) [(x, X), (y, Y), (k, X), (o, Y), (z, X)]) := K1.out.later ((Below.refl _ _).alloc (Nat.le_refl _) _)
              have BXK2 : Hid (Below w.heap.size w (v1.alloc (.cells #[.int .i64 (-2), .int .i64 0] 29))) := J1.out.alloc J1.out.size _
              go_wp2_with (at_builtin; refine wpList_append_own_at _ rfl _ _ 22 rfl w.heap.size 29 iA (.agg #[.int .i64 0, .int .i64 0]) 2 16 Tryd.underlying22 HIN.out.1 HIN.out.2.1 HIN.out.2.2.1 HIN.out.2.2.2 rfl (by decide) _ ((ny + j)) _ rfl FXK2.out.rq ⟨v1.heap.size, 0, none⟩ 1 1 [.int .i64 (-2), .int .i64 0] rfl rfl (two_cells _ _ _ _) (two_one _ _ rfl rfl) (by unfold maxLen; omega) (by omega) BXK2.out.size ?_; intro qq v2 ho hg hnn hat; have K2 : Hid (Fr v2 w.heap.size pp qq (nx + j + 1) ((ny + j) + 1) (mks (-1) (nx + j + 1)) (mks (-2) ((ny + j) + 1)) [(x, X), (y, Y), (k, X), (o, Y), (z, X)]) := (by rw [← mks_succ] at ho; exact (FXK2.out.swap.grow ho hg hat).swap); have J2 : Hid (Below w.heap.size w v2) := Below.grown BXK2.out hg BXK2.out.size (fun j hj => (FXK2.out.rq.lt _ hj).1); clear ho hg hnn hat)
              clear FXK2 BXK2
              go_roundw
              case rel => exact ⟨j + 1, by omega, by omega, by go_num, K2.out, J2.out⟩
              case measure => simp [intOf]; omega
            · have hlt' : ¬ (j : Int) < 200 := by omega
              obtain ⟨wz, rfl⟩ : ∃ wz, wz = wr := ⟨_, rfl⟩
              obtain rfl : j = 200 := by omega
              have G4 : Hid (Fr wz w.heap.size u25 u26 (nx + 200) (ny + 200) (mks (-1) (nx + 200)) (mks (-2) (ny + 200)) [(x, X), (y, Y), (k, X), (o, Y), (z, X)]) := HL.out.1
              have H5 : Hid (Below w.heap.size w wz) := HL.out.2
              clear HL
              obtain ⟨ap, cp, hp⟩ := own_form G4.out.rp
              obtain ⟨aq, cq, hq⟩ := own_form G4.out.rq
              subst hp hq
              obtain ⟨gp, hap, _⟩ := own_some G4.out.rp (by omega)
              obtain ⟨gq, haq, _⟩ := own_some G4.out.rq (by omega)
              subst hap haq
              obtain ⟨nz1, HZ1⟩ : ∃ z, Hid (nx + 200 = z) := ⟨_, rfl⟩
              obtain ⟨nz2, HZ2⟩ : ∃ z, Hid (ny + 200 = z) := ⟨_, rfl⟩
              have hz1 : nz1 ≤ 400 := by rw [← HZ1.out]; omega
              have hz2 : nz2 ≤ 400 := by rw [← HZ2.out]; omega
              rw [HZ1.out, HZ2.out] at G4
              have E1 : (nx : Int) + 200 = nz1 := by have := HZ1.out; omega
              have E2 : (ny : Int) + 200 = nz2 := by have := HZ2.out; omega
              rw [HZ1.out, HZ2.out]
              have G5 := G4
              clear E1 E2 hlt
              go_wp2
              go_loopw [28] (fun i wr => ∃ (kk : Nat), kk ≤ nz1 ∧ i = .int .i64 kk ∧ wr = wz) (fun i _ => (nz1 - intOf i).toNat)
              case atStart => exact ⟨0, by omega, rfl, rfl⟩
              case round =>
                obtain ⟨k', hk, rfl, rfl⟩ := hrel
                by_cases hlt : k' < nz1
                · have hlt' : (k' : Int) < nz1 := by omega
                  have d1 : wr.cell? ⟨gp, k' * 2, none⟩ = some (.int .i64 (-1)) := by
                    rw [G4.out.rp.cellAt (k' * 2) (by omega)]
                    exact mks_get _ _ _ hlt
                  go_wp2
                  go_roundw
                  case rel => exact ⟨k' + 1, by omega, by go_num, by first | rfl | trivial⟩
                  case measure => simp [intOf]; omega
                · have hlt' : ¬ (k' : Int) < nz1 := by omega
                  clear hk
                  obtain ⟨wz, rfl⟩ : ∃ wz, wz = wr := ⟨_, rfl⟩
                  go_wp2
                  go_loopw [29] (fun i wr => ∃ (kk : Nat), kk ≤ nz2 ∧ i = .int .i64 kk ∧ wr = wz) (fun i _ => (nz2 - intOf i).toNat)
                  case atStart => exact ⟨0, by omega, rfl, rfl⟩
                  case round =>
                    obtain ⟨k', hk, rfl, rfl⟩ := hrel
                    by_cases hlt : k' < nz2
                    · have hlt' : (k' : Int) < nz2 := by omega
                      have d1 : wr.cell? ⟨gq, k' * 2, none⟩ = some (.int .i64 (-2)) := by
                        rw [G5.out.rq.cellAt (k' * 2) (by omega)]
                        exact mks_get _ _ _ hlt
                      go_wp2
                      go_roundw
                      case rel => exact ⟨k' + 1, by omega, by go_num, by first | rfl | trivial⟩
                      case measure => simp [intOf]; omega
                    · have hlt' : ¬ (k' : Int) < nz2 := by omega
                      clear hk
                      go_wp2_with fail
                      refine (CX.out _ (LT.out HTW.out H5.out)).mono ?_
                      rintro e y1 ⟨⟨ag, rfl, ho⟩, hb⟩
                      have OG : Hid (ReadsA y1 ag X) := own_readsA ho
                      have FA : Hid (∀ q ∈ [(x, X), (y, Y), (k, X), (o, Y), (z, X)], ReadsA y1 q.1 q.2) := fun q hq => (own_readsA (G5.out.rs q hq)).later hb
                      have BY : Hid (Below w.heap.size w y1) := over H5.out hb
                      clear ho hb
                      go_wp2_with fail
                      refine (SM.out _ _ _ X HXL.out (FA.out _ Mk.out) (FA.out _ Mx.out)).mono ?_
                      rintro e y2 ⟨rfl, jj, hjj⟩
                      have Q2 : Hid (Below y1.heap.size y1 y2) := by subst hjj; exact below_dN (Below.refl _ _) jj
                      clear hjj
                      go_wp2_with fail
                      refine (SM.out _ _ _ Y HYL.out ((FA.out _ Mo.out).later Q2.out) ((FA.out _ My.out).later Q2.out)).mono ?_
                      rintro e y3 ⟨rfl, jj, hjj⟩
                      have Q3 : Hid (Below y1.heap.size y1 y3) := by subst hjj; exact below_dN (Q2.out) jj
                      clear hjj
                      go_wp2_with fail
                      refine (SM.out _ _ _ X HXL.out ((FA.out _ Mz.out).later Q3.out) ((FA.out _ Mx.out).later Q3.out)).mono ?_
                      rintro e y4 ⟨rfl, jj, hjj⟩
                      have Q4 : Hid (Below y1.heap.size y1 y4) := by subst hjj; exact below_dN (Q3.out) jj
                      clear hjj
                      go_wp2_with fail
                      refine (SM.out _ _ _ X HXL.out (OG.out.later Q4.out) ((FA.out _ Mx.out).later Q4.out)).mono ?_
                      rintro e y5 ⟨rfl, jj, hjj⟩
                      have Q5 : Hid (Below y1.heap.size y1 y5) := by subst hjj; exact below_dN (Q4.out) jj
                      clear hjj
                      go_wp2
                      go_ret
                      exact ⟨rfl, over BY.out Q5.out⟩
end Go.Proofs.YtjjeiklhmbhhoaaDoor.cj
