import Derived.Test.YtoakkoalkpfkmaaD8
import Derived.Test.YtoakkoalkpfkmaaD9
namespace Go.Proofs.Ytoakkoalkpfkmaa.da
open Go.RowKit Go.PlainAid
open Go.Proofs.Ytoakkoalkpfkmaa.ca Go.Proofs.Ytoakkoalkpfkmaa.cp Go.Proofs.Ytoakkoalkpfkmaa.d1 Go.Proofs.Ytoakkoalkpfkmaa.d5 Go.Proofs.Ytoakkoalkpfkmaa.d6 Go.Proofs.Ytoakkoalkpfkmaa.d8 Go.Proofs.Ytoakkoalkpfkmaa.d9
set_option linter.unusedVariables false

set_option maxHeartbeats 6400000 in
set_option maxRecDepth 100000 in
theorem tiles_all (h : Int) (zh : (Lit.int .i64 h).wf = true) (n : Int) (zn : (Lit.int .i64 n).wf = true) (w : World) :
    Calls Try.prog 3 #[.int .i64 h, .int .i64 n] w fun e w' => e = .returned (.bool true) ∧ Below w.heap.size w w' := by
  obtain ⟨n2, HN2⟩ : ∃ n2, Hid (IntKind.i64.wrap (Int.tdiv n 2) = n2) := ⟨_, rfl⟩
  have hn2 := HN2.out
  obtain ⟨X, HX⟩ : ∃ X, Hid (allI h n = X) := ⟨_, rfl⟩
  obtain ⟨Y, HY⟩ : ∃ Y, Hid (allI h n2 = Y) := ⟨_, rfl⟩
  obtain ⟨ex, HEX⟩ : ∃ e, Hid (allE h n = e) := ⟨_, rfl⟩
  obtain ⟨ey, HEY⟩ : ∃ e, Hid (allE h n2 = e) := ⟨_, rfl⟩
  have HXL : Hid (X.length ≤ 65536) := by show _ ≤ _; rw [← HX.out]; exact allI_len h n
  have HYL : Hid (Y.length ≤ 65536) := by show _ ≤ _; rw [← HY.out]; exact allI_len h n2
  have PX : Hid (∀ w, Calls Try.prog 4 #[.int .i64 h, .int .i64 n] w fun e w' => (∃ v, e = .returned (.tuple #[v, .int .i64 ex]) ∧ w'.ownsRow w.heap.size 31 4 v X.length (cl4s X)) ∧ Below w.heap.size w w') := by
    have := allC h n; unfold Gives at this; rw [HX.out, HEX.out] at this; exact this
  have PY : Hid (∀ w, Calls Try.prog 4 #[.int .i64 h, .int .i64 n2] w fun e w' => (∃ v, e = .returned (.tuple #[v, .int .i64 ey]) ∧ w'.ownsRow w.heap.size 31 4 v Y.length (cl4s Y)) ∧ Below w.heap.size w w') := by
    have := allC h n2; unfold Gives at this; rw [HY.out, HEY.out] at this; exact this
  have RX : Hid (∀ w, Calls Try.prog 5 #[.int .i64 h, .int .i64 n] w fun e w' => (∃ v, e = .returned (.tuple #[v, .int .i64 ex]) ∧ w'.ownsRow w.heap.size 31 4 v X.length (cl4s X)) ∧ Below w.heap.size w w') := by
    have := rallC h n; unfold Gives at this; rw [HX.out, HEX.out] at this; exact this
  have RY : Hid (∀ w, Calls Try.prog 5 #[.int .i64 h, .int .i64 n2] w fun e w' => (∃ v, e = .returned (.tuple #[v, .int .i64 ey]) ∧ w'.ownsRow w.heap.size 31 4 v Y.length (cl4s Y)) ∧ Below w.heap.size w w') := by
    have := rallC h n2; unfold Gives at this; rw [HY.out, HEY.out] at this; exact this
  obtain ⟨nx, HNX⟩ : ∃ n, Hid (X.length = n) := ⟨_, rfl⟩
  have hnx : nx ≤ 65536 := by rw [← HNX.out]; exact HXL.out
  have NX : Hid (∀ w, Calls _ _ _ _ _) := fun w => numL ex w
  have NY : Hid (∀ w, Calls _ _ _ _ _) := fun w => numL ey w
  have qx : (ex == ex) = true := beq_self_eq_true _
  have qy : (ey == ey) = true := beq_self_eq_true _
  have SM : Hid (∀ (wx : World) (u v : Value) (L : List Tl), L.length ≤ 65536 → ReadsT4 wx u L → ReadsT4 wx v L → Calls Try.prog 7 #[u, v] wx fun e w' => e = .returned (.bool true) ∧ ∃ m, w' = wx.drewN m) := fun wx u v L hL a b => same4 u v L wx a b (by omega)
  obtain ⟨iA, hi', hz0, hz1, hz2⟩ := parts4 hi4
  have HIN : Hid (_ ∧ _ ∧ _ ∧ _) := ⟨hi', hz0, hz1, hz2⟩
  have HCX : Hid ((cl4s X).length = nx * 4) := by show _ = _; rw [cl4s_len, HNX.out]
  clear hi' hz0 hz1 hz2
  go_enter Try.func3, Try.ntmps3
  go_wp2_with fail
  refine (PX.out _).mono ?_
  rintro e w1 ⟨⟨l, rfl, ho⟩, hb⟩
  have Ol : Hid (w1.ownsRow w.heap.size 31 4 l X.length (cl4s X)) := ho
  have D1 : Hid (Below w.heap.size w w1) := hb
  clear ho hb
  go_wp2_with fail
  refine (PX.out _).mono ?_
  rintro e w2 ⟨⟨k, rfl, ho⟩, hb⟩
  have Ok : Hid (w2.ownsRow w1.heap.size 31 4 k X.length (cl4s X)) := ho
  have D2 : Hid (Below w1.heap.size w1 w2) := hb
  clear ho hb
  go_wp2_with fail
  refine (PY.out _).mono ?_
  rintro e w3 ⟨⟨o, rfl, ho⟩, hb⟩
  have Oo : Hid (w3.ownsRow w2.heap.size 31 4 o Y.length (cl4s Y)) := ho
  have D3 : Hid (Below w2.heap.size w2 w3) := hb
  clear ho hb
  go_wp2_with fail
  refine (PY.out _).mono ?_
  rintro e w4 ⟨⟨p, rfl, ho⟩, hb⟩
  have Op : Hid (w4.ownsRow w3.heap.size 31 4 p Y.length (cl4s Y)) := ho
  have D4 : Hid (Below w3.heap.size w3 w4) := hb
  clear ho hb
  go_wp2_with fail
  refine (PX.out _).mono ?_
  rintro e w5 ⟨⟨z, rfl, ho⟩, hb⟩
  have Oz : Hid (w5.ownsRow w4.heap.size 31 4 z X.length (cl4s X)) := ho
  have D5 : Hid (Below w4.heap.size w4 w5) := hb
  clear ho hb
  go_wp2_with fail
  refine (RX.out _).mono ?_
  rintro e w6 ⟨⟨m, rfl, ho⟩, hb⟩
  have Om : Hid (w6.ownsRow w5.heap.size 31 4 m X.length (cl4s X)) := ho
  have D6 : Hid (Below w5.heap.size w5 w6) := hb
  clear ho hb
  go_wp2_with fail
  refine (RY.out _).mono ?_
  rintro e w7 ⟨⟨q, rfl, ho⟩, hb⟩
  have Oq : Hid (w7.ownsRow w6.heap.size 31 4 q Y.length (cl4s Y)) := ho
  have D7 : Hid (Below w6.heap.size w6 w7) := hb
  clear ho hb
  have Pl : Hid (w7.ownsRow w.heap.size 31 4 l X.length (cl4s X)) := own_down (own_later (own_later (own_later (own_later (own_later (own_later Ol.out D2.out) D3.out) D4.out) D5.out) D6.out) D7.out) (Nat.le_refl _)
  have Pk : Hid (w7.ownsRow w.heap.size 31 4 k X.length (cl4s X)) := own_down (own_later (own_later (own_later (own_later (own_later Ok.out D3.out) D4.out) D5.out) D6.out) D7.out) (Nat.le_trans (Nat.le_refl _) D1.out.size)
  have Po : Hid (w7.ownsRow w.heap.size 31 4 o Y.length (cl4s Y)) := own_down (own_later (own_later (own_later (own_later Oo.out D4.out) D5.out) D6.out) D7.out) (Nat.le_trans (Nat.le_trans (Nat.le_refl _) D1.out.size) D2.out.size)
  have Pp : Hid (w7.ownsRow w.heap.size 31 4 p Y.length (cl4s Y)) := own_down (own_later (own_later (own_later Op.out D5.out) D6.out) D7.out) (Nat.le_trans (Nat.le_trans (Nat.le_trans (Nat.le_refl _) D1.out.size) D2.out.size) D3.out.size)
  have Pz : Hid (w7.ownsRow w.heap.size 31 4 z X.length (cl4s X)) := own_down (own_later (own_later Oz.out D6.out) D7.out) (Nat.le_trans (Nat.le_trans (Nat.le_trans (Nat.le_trans (Nat.le_refl _) D1.out.size) D2.out.size) D3.out.size) D4.out.size)
  have Pm : Hid (w7.ownsRow w.heap.size 31 4 m X.length (cl4s X)) := own_down (own_later Om.out D7.out) (Nat.le_trans (Nat.le_trans (Nat.le_trans (Nat.le_trans (Nat.le_trans (Nat.le_refl _) D1.out.size) D2.out.size) D3.out.size) D4.out.size) D5.out.size)
  have Pq : Hid (w7.ownsRow w.heap.size 31 4 q Y.length (cl4s Y)) := own_down Oq.out (Nat.le_trans (Nat.le_trans (Nat.le_trans (Nat.le_trans (Nat.le_trans (Nat.le_trans (Nat.le_refl _) D1.out.size) D2.out.size) D3.out.size) D4.out.size) D5.out.size) D6.out.size)
  have BW7 : Hid (Below w.heap.size w w7) := (over (over (over (over (over (over D1.out D2.out) D3.out) D4.out) D5.out) D6.out) D7.out)
  have OFk : Hid (Off l k) := off_of Ol.out Ok.out (Nat.le_refl _)
  have OFo : Hid (Off l o) := off_of Ol.out Oo.out (Nat.le_trans (Nat.le_refl _) D2.out.size)
  have OFp : Hid (Off l p) := off_of Ol.out Op.out (Nat.le_trans (Nat.le_trans (Nat.le_refl _) D2.out.size) D3.out.size)
  have OFz : Hid (Off l z) := off_of Ol.out Oz.out (Nat.le_trans (Nat.le_trans (Nat.le_trans (Nat.le_refl _) D2.out.size) D3.out.size) D4.out.size)
  have OFm : Hid (Off l m) := off_of Ol.out Om.out (Nat.le_trans (Nat.le_trans (Nat.le_trans (Nat.le_trans (Nat.le_refl _) D2.out.size) D3.out.size) D4.out.size) D5.out.size)
  have OFq : Hid (Off l q) := off_of Ol.out Oq.out (Nat.le_trans (Nat.le_trans (Nat.le_trans (Nat.le_trans (Nat.le_trans (Nat.le_refl _) D2.out.size) D3.out.size) D4.out.size) D5.out.size) D6.out.size)
  have F7 : Hid (Fr1 w7 w.heap.size l X.length (cl4s X) [(k, X), (o, Y), (p, Y), (z, X), (m, X), (q, Y)]) := by
    refine ⟨Pl.out, ?_, ?_⟩
    · intro a ha
      simp only [List.mem_cons, List.not_mem_nil, or_false] at ha
      rcases ha with rfl | rfl | rfl | rfl | rfl | rfl
      · exact Pk.out
      · exact Po.out
      · exact Pp.out
      · exact Pz.out
      · exact Pm.out
      · exact Pq.out
    · intro a ha
      simp only [List.mem_cons, List.not_mem_nil, or_false] at ha
      rcases ha with rfl | rfl | rfl | rfl | rfl | rfl
      · exact OFk.out
      · exact OFo.out
      · exact OFp.out
      · exact OFz.out
      · exact OFm.out
      · exact OFq.out
  have Mk : Hid ((k, X) ∈ [(k, X), (o, Y), (p, Y), (z, X), (m, X), (q, Y)]) := by show _ ∈ _; simp
  have Mo : Hid ((o, Y) ∈ [(k, X), (o, Y), (p, Y), (z, X), (m, X), (q, Y)]) := by show _ ∈ _; simp
  have Mp : Hid ((p, Y) ∈ [(k, X), (o, Y), (p, Y), (z, X), (m, X), (q, Y)]) := by show _ ∈ _; simp
  have Mz : Hid ((z, X) ∈ [(k, X), (o, Y), (p, Y), (z, X), (m, X), (q, Y)]) := by show _ ∈ _; simp
  have Mm : Hid ((m, X) ∈ [(k, X), (o, Y), (p, Y), (z, X), (m, X), (q, Y)]) := by show _ ∈ _; simp
  have Mq : Hid ((q, Y) ∈ [(k, X), (o, Y), (p, Y), (z, X), (m, X), (q, Y)]) := by show _ ∈ _; simp
  have PMF : Hid (∃ a c, m = .slice a nx c) := by have := own_form Pm.out; rw [HNX.out] at this; exact this
  clear OFk OFo OFp OFz OFm OFq Ol Ok Oo Op Oz Om Oq Pl Pk Po Pp Pz Pm Pq D1 D2 D3 D4 D5 D6 D7
  obtain ⟨st, HST⟩ : ∃ st, Hid ([(k, X), (o, Y), (p, Y), (z, X), (m, X), (q, Y)] = st) := ⟨_, rfl⟩
  rw [HST.out] at F7 Mk Mo Mp Mz Mm Mq
  rw [HNX.out] at F7
  obtain ⟨al, cl, rfl⟩ := own_form F7.out.rp
  go_wp2_with fail
  refine (NX.out _).mono ?_
  rintro e wn ⟨rfl, hw⟩
  replace hw := hw.symm
  subst hw
  go_wp2_with fail
  refine (NY.out _).mono ?_
  rintro e wn ⟨rfl, hw⟩
  replace hw := hw.symm
  subst hw
  go_wp2_with fail
  refine (SM.out _ _ _ X HXL.out (own_reads4 F7.out.rp) (own_reads4 (F7.out.rs _ Mm.out))).mono ?_
  rintro e w8 ⟨rfl, jj, hjj⟩
  have E8 : Hid (Below w7.heap.size w7 w8) := by subst hjj; exact below_dN (Below.refl _ _) jj
  have F8 : Hid (Fr1 w8 w.heap.size (.slice al nx cl) nx (cl4s X) st) := F7.out.later E8.out
  have BW8 : Hid (Below w.heap.size w w8) := over BW7.out E8.out
  clear hjj F7 BW7 E8
  go_wp2_with fail
  refine (SM.out _ _ _ X HXL.out (own_reads4 (F8.out.rs _ Mk.out)) (own_reads4 (F8.out.rs _ Mm.out))).mono ?_
  rintro e w9 ⟨rfl, jj, hjj⟩
  have E9 : Hid (Below w8.heap.size w8 w9) := by subst hjj; exact below_dN (Below.refl _ _) jj
  have F9 : Hid (Fr1 w9 w.heap.size (.slice al nx cl) nx (cl4s X) st) := F8.out.later E9.out
  have BW9 : Hid (Below w.heap.size w w9) := over BW8.out E9.out
  clear hjj F8 BW8 E9
  go_wp2_with fail
  refine (SM.out _ _ _ Y HYL.out (own_reads4 (F9.out.rs _ Mo.out)) (own_reads4 (F9.out.rs _ Mq.out))).mono ?_
  rintro e w10 ⟨rfl, jj, hjj⟩
  have E10 : Hid (Below w9.heap.size w9 w10) := by subst hjj; exact below_dN (Below.refl _ _) jj
  have F10 : Hid (Fr1 w10 w.heap.size (.slice al nx cl) nx (cl4s X) st) := F9.out.later E10.out
  have BW10 : Hid (Below w.heap.size w w10) := over BW9.out E10.out
  clear hjj F9 BW9 E10
  go_wp2_with fail
  refine (SM.out _ _ _ Y HYL.out (own_reads4 (F10.out.rs _ Mp.out)) (own_reads4 (F10.out.rs _ Mq.out))).mono ?_
  rintro e w11 ⟨rfl, jj, hjj⟩
  have E11 : Hid (Below w10.heap.size w10 w11) := by subst hjj; exact below_dN (Below.refl _ _) jj
  have F11 : Hid (Fr1 w11 w.heap.size (.slice al nx cl) nx (cl4s X) st) := F10.out.later E11.out
  have BW11 : Hid (Below w.heap.size w w11) := over BW10.out E11.out
  clear hjj F10 BW10 E11
  go_wp2_with fail
  refine (SM.out _ _ _ X HXL.out (own_reads4 (F11.out.rs _ Mz.out)) (own_reads4 (F11.out.rs _ Mm.out))).mono ?_
  rintro e w12 ⟨rfl, jj, hjj⟩
  have E12 : Hid (Below w11.heap.size w11 w12) := by subst hjj; exact below_dN (Below.refl _ _) jj
  have F12 : Hid (Fr1 w12 w.heap.size (.slice al nx cl) nx (cl4s X) st) := F11.out.later E12.out
  have BW12 : Hid (Below w.heap.size w w12) := over BW11.out E12.out
  clear hjj F11 BW11 E12
  go_wp2
  go_loopw [19] (fun i wr => ∃ (kk : Nat), kk ≤ nx ∧ i = .int .i64 kk ∧ Hid (Fr1 wr w.heap.size (.slice al nx cl) nx (fillM (cl4s X) kk) st ∧ Below w.heap.size w wr)) (fun i _ => (nx - intOf i).toNat)
  case atStart => exact ⟨0, by omega, rfl, (by rw [fillM_zero]; exact F12.out), BW12.out⟩
  case round =>
    clear F12 BW12
    obtain ⟨k', hk, rfl, HL⟩ := hrel
    by_cases hlt : k' < nx
    · have hlt' : (k' : Int) < nx := by omega
      have hfl : (fillM (cl4s X) k').length = nx * 4 := fillM_len _ nx k' HCX.out (Nat.le_of_lt hlt)
      obtain ⟨g, hal, hg⟩ := own_some HL.out.1.rp (by omega)
      subst hal
      obtain ⟨o0, d0⟩ : ∃ o, wr.cell? ⟨g, k' * 4, none⟩ = some o := ⟨(fillM (cl4s X) k')[k' * 4]'(by omega), by rw [HL.out.1.rp.cellAt (k' * 4) (by omega)]; exact List.getElem?_eq_getElem _⟩
      obtain ⟨o1, d1⟩ : ∃ o, wr.cell? ⟨g, k' * 4 + 1, none⟩ = some o := ⟨(fillM (cl4s X) k')[k' * 4 + 1]'(by omega), by rw [HL.out.1.rp.cellAt (k' * 4 + 1) (by omega)]; exact List.getElem?_eq_getElem _⟩
      obtain ⟨o2, d2⟩ : ∃ o, wr.cell? ⟨g, k' * 4 + 2, none⟩ = some o := ⟨(fillM (cl4s X) k')[k' * 4 + 2]'(by omega), by rw [HL.out.1.rp.cellAt (k' * 4 + 2) (by omega)]; exact List.getElem?_eq_getElem _⟩
      obtain ⟨o3, d3⟩ : ∃ o, wr.cell? ⟨g, k' * 4 + 3, none⟩ = some o := ⟨(fillM (cl4s X) k')[k' * 4 + 3]'(by omega), by rw [HL.out.1.rp.cellAt (k' * 4 + 3) (by omega)]; exact List.getElem?_eq_getElem _⟩
      have f0 := HL.out.1.rp.frozenAt (k' * 4)
      have f1 := HL.out.1.rp.frozenAt (k' * 4 + 1)
      have f2 := HL.out.1.rp.frozenAt (k' * 4 + 2)
      have f3 := HL.out.1.rp.frozenAt (k' * 4 + 3)
      have ST := (((HL.out.1.put (k' * 4) (.int .i64 (-1))).put (k' * 4 + 1) (.int .i64 0)).put (k' * 4 + 2) (.int .i64 0)).put (k' * 4 + 3) (.int .i64 0)
      rw [fillM_set (cl4s X) k' (by rw [HCX.out]; omega)] at ST
      have HSTT : Hid (Fr1 _ _ _ _ _ _) := ST
      have HSB : Hid (Below w.heap.size w ((((wr.setCell ⟨g, k' * 4, none⟩ (.int .i64 (-1))).setCell ⟨g, k' * 4 + 1, none⟩ (.int .i64 0)).setCell ⟨g, k' * 4 + 2, none⟩ (.int .i64 0)).setCell ⟨g, k' * 4 + 3, none⟩ (.int .i64 0))) := (((HL.out.2.setCell (p := ⟨g, k' * 4, none⟩) hg _).setCell (p := ⟨g, k' * 4 + 1, none⟩) hg _).setCell (p := ⟨g, k' * 4 + 2, none⟩) hg _).setCell (p := ⟨g, k' * 4 + 3, none⟩) hg _
      clear ST hfl
      go_wp2
      go_roundw
      case rel => exact ⟨k' + 1, by omega, by go_num, HSTT.out, HSB.out⟩
      case measure => simp [intOf]; omega
    · have hlt' : ¬ (k' : Int) < nx := by omega
      obtain rfl : nx = k' := by omega
      obtain ⟨x1, rfl⟩ : ∃ wz, wz = wr := ⟨_, rfl⟩
      have G1 : Hid (Fr1 x1 w.heap.size (.slice al nx cl) nx (mks nx) st) := by
        have h1 := HL.out.1
        rw [fillM_end _ _ HCX.out] at h1
        exact h1
      have H1 : Hid (Below w.heap.size w x1) := HL.out.2
      clear HL
      have FXGA : Hid (Fr1 (x1.alloc (.cells #[.int .i64 (-1), .int .i64 0, .int .i64 0, .int .i64 0] 31)) w.heap.size (.slice al nx cl) nx (mks nx) st) := G1.out.later ((Below.refl _ _).alloc (Nat.le_refl _) _)
      have BXGA : Hid (Below w.heap.size w (x1.alloc (.cells #[.int .i64 (-1), .int .i64 0, .int .i64 0, .int .i64 0] 31))) := H1.out.alloc H1.out.size _
      go_wp2_with (at_builtin; refine wpList_append_own_at _ rfl _ _ 22 rfl w.heap.size 31 iA (.agg #[.int .i64 0, .int .i64 0, .int .i64 0, .int .i64 0]) 4 32 Try.underlying22 HIN.out.1 HIN.out.2.1 HIN.out.2.2.1 HIN.out.2.2.2 rfl (by decide) _ (nx) _ rfl FXGA.out.rp ⟨x1.heap.size, 0, none⟩ 1 1 mk1 rfl rfl (four_cells _ _ _ _ _ _) (four_one ((-1 : Int), (0 : Int), (0 : Int), (0 : Int))) (by unfold maxLen; omega) (by omega) BXGA.out.size ?_; intro pp x3 ho hg hnn hat; have GA : Hid (Fr1 x3 w.heap.size pp (nx + 1) (mks (nx + 1)) st) := (by rw [← mks_succ] at ho; exact FXGA.out.grow ho hg hat); have HA : Hid (Below w.heap.size w x3) := Below.grown BXGA.out hg BXGA.out.size (fun j hj => (FXGA.out.rp.lt _ hj).1); clear ho hg hnn hat)
      clear FXGA BXGA G1 H1
      go_loopw [20, 21] (fun p i wr => ∃ (j : Nat), 1 ≤ j ∧ j ≤ 65 ∧ i = .int .i64 ((j : Int) - 1) ∧ Hid (Fr1 wr w.heap.size p (nx + j) (mks (nx + j)) st ∧ Below w.heap.size w wr)) (fun _ i _ => (64 - intOf i).toNat)
      case atStart => exact ⟨1, by omega, by omega, rfl, GA.out, HA.out⟩
      case round =>
        clear GA HA
        obtain ⟨j, hj1, hj, rfl, HL⟩ := hrel
        by_cases hlt : j < 65
        · have hlt' : (j : Int) - 1 < 64 := by omega
          have K0 : Hid (Fr1 wr w.heap.size u20 (nx + j) (mks (nx + j)) st) := HL.out.1
          have J0 : Hid (Below w.heap.size w wr) := HL.out.2
          have FXK1 : Hid (Fr1 (wr.alloc (.cells #[.int .i64 (-1), .int .i64 0, .int .i64 0, .int .i64 0] 31)) w.heap.size u20 (nx + j) (mks (nx + j)) st) := K0.out.later ((Below.refl _ _).alloc (Nat.le_refl _) _)
          have BXK1 : Hid (Below w.heap.size w (wr.alloc (.cells #[.int .i64 (-1), .int .i64 0, .int .i64 0, .int .i64 0] 31))) := J0.out.alloc J0.out.size _
          go_wp2_with (at_builtin; refine wpList_append_own_at _ rfl _ _ 22 rfl w.heap.size 31 iA (.agg #[.int .i64 0, .int .i64 0, .int .i64 0, .int .i64 0]) 4 32 Try.underlying22 HIN.out.1 HIN.out.2.1 HIN.out.2.2.1 HIN.out.2.2.2 rfl (by decide) _ ((nx + j)) _ rfl FXK1.out.rp ⟨wr.heap.size, 0, none⟩ 1 1 mk1 rfl rfl (four_cells _ _ _ _ _ _) (four_one ((-1 : Int), (0 : Int), (0 : Int), (0 : Int))) (by unfold maxLen; omega) (by omega) BXK1.out.size ?_; intro pp v1 ho hg hnn hat; have K1 : Hid (Fr1 v1 w.heap.size pp ((nx + j) + 1) (mks ((nx + j) + 1)) st) := (by rw [← mks_succ] at ho; exact FXK1.out.grow ho hg hat); have J1 : Hid (Below w.heap.size w v1) := Below.grown BXK1.out hg BXK1.out.size (fun j hj => (FXK1.out.rp.lt _ hj).1); clear ho hg hnn hat)
          clear FXK1 BXK1
          go_roundw
          case rel => exact ⟨j + 1, by omega, by omega, by go_num, K1.out, J1.out⟩
          case measure => simp [intOf]; omega
        · have hlt' : ¬ (j : Int) - 1 < 64 := by omega
          obtain ⟨wz, rfl⟩ : ∃ wz, wz = wr := ⟨_, rfl⟩
          obtain rfl : j = 65 := by omega
          have G5 : Hid (Fr1 wz w.heap.size u20 (nx + 65) (mks (nx + 65)) st) := HL.out.1
          have H5 : Hid (Below w.heap.size w wz) := HL.out.2
          clear HL
          obtain ⟨ap, cp, hp⟩ := own_form G5.out.rp
          subst hp
          clear hlt
          go_wp2_with fail
          refine (PX.out _).mono ?_
          rintro e y1 ⟨⟨ag, rfl, ho⟩, hb⟩
          have OG : Hid (ReadsT4 y1 ag X) := own_reads4 ho
          have FA : Hid (∀ q ∈ st, ReadsT4 y1 q.1 q.2) := fun q hq => (own_reads4 (G5.out.rs q hq)).later hb
          have BY : Hid (Below w.heap.size w y1) := over H5.out hb
          have Q1 : Hid (Below y1.heap.size y1 y1) := Below.refl _ _
          clear ho hb
          go_wp2_with fail
          refine (SM.out _ _ _ X HXL.out ((FA.out _ Mk.out).later Q1.out) ((FA.out _ Mm.out).later Q1.out)).mono ?_
          rintro e y2 ⟨rfl, jj, hjj⟩
          have Q2 : Hid (Below y1.heap.size y1 y2) := by subst hjj; exact below_dN (Q1.out) jj
          clear hjj
          go_wp2_with fail
          refine (SM.out _ _ _ Y HYL.out ((FA.out _ Mo.out).later Q2.out) ((FA.out _ Mq.out).later Q2.out)).mono ?_
          rintro e y3 ⟨rfl, jj, hjj⟩
          have Q3 : Hid (Below y1.heap.size y1 y3) := by subst hjj; exact below_dN (Q2.out) jj
          clear hjj
          go_wp2_with fail
          refine (SM.out _ _ _ Y HYL.out ((FA.out _ Mp.out).later Q3.out) ((FA.out _ Mq.out).later Q3.out)).mono ?_
          rintro e y4 ⟨rfl, jj, hjj⟩
          have Q4 : Hid (Below y1.heap.size y1 y4) := by subst hjj; exact below_dN (Q3.out) jj
          clear hjj
          go_wp2_with fail
          refine (SM.out _ _ _ X HXL.out ((FA.out _ Mz.out).later Q4.out) ((FA.out _ Mm.out).later Q4.out)).mono ?_
          rintro e y5 ⟨rfl, jj, hjj⟩
          have Q5 : Hid (Below y1.heap.size y1 y5) := by subst hjj; exact below_dN (Q4.out) jj
          clear hjj
          go_wp2_with fail
          refine (SM.out _ _ _ X HXL.out (OG.out.later Q5.out) ((FA.out _ Mm.out).later Q5.out)).mono ?_
          rintro e y6 ⟨rfl, jj, hjj⟩
          have Q6 : Hid (Below y1.heap.size y1 y6) := by subst hjj; exact below_dN (Q5.out) jj
          clear hjj
          obtain ⟨am, cm, rfl⟩ := PMF.out
          have hlen : (((nx + 65 : Nat) : Int) == (nx : Int) + 65) = true := by rw [beq_iff_eq]; omega
          go_wp2
          go_ret
          exact ⟨by first | rfl | simp, over BY.out Q6.out⟩
end Go.Proofs.Ytoakkoalkpfkmaa.da
