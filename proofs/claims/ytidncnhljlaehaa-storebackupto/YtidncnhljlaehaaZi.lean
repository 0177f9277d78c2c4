import Derived.Test.YtidncnhljlaehaaZh
import Derived.Test.YtidncnhljlaehaaZf
import Derived.Test.YtidncnhljlaehaaZb
namespace Go.Proofs.Ytidncnhljlaehaa.zi
open Go.RowKit Go.PlainAid Go.Maps Go.Shelf
open Go.Proofs.Ytidncnhljlaehaa.ca Go.Proofs.Ytidncnhljlaehaa.cb Go.Proofs.Ytidncnhljlaehaa.cp Go.Proofs.Ytidncnhljlaehaa.kp Go.Proofs.Ytidncnhljlaehaa.ka Go.Proofs.Ytidncnhljlaehaa.ya Go.Proofs.Ytidncnhljlaehaa.yb Go.Proofs.Ytidncnhljlaehaa.yc Go.Proofs.Ytidncnhljlaehaa.yd Go.Proofs.Ytidncnhljlaehaa.ye Go.Proofs.Ytidncnhljlaehaa.yf Go.Proofs.Ytidncnhljlaehaa.yg Go.Proofs.Ytidncnhljlaehaa.yi Go.Proofs.Ytidncnhljlaehaa.yk Go.Proofs.Ytidncnhljlaehaa.yl Go.Proofs.Ytidncnhljlaehaa.ym Go.Proofs.Ytidncnhljlaehaa.yn Go.Proofs.Ytidncnhljlaehaa.yo Go.Proofs.Ytidncnhljlaehaa.yp Go.Proofs.Ytidncnhljlaehaa.yq Go.Proofs.Ytidncnhljlaehaa.yr Go.Proofs.Ytidncnhljlaehaa.yt Go.Proofs.Ytidncnhljlaehaa.yu Go.Proofs.Ytidncnhljlaehaa.yv Go.Proofs.Ytidncnhljlaehaa.yx Go.Proofs.Ytidncnhljlaehaa.za Go.Proofs.Ytidncnhljlaehaa.zb Go.Proofs.Ytidncnhljlaehaa.zf Go.Proofs.Ytidncnhljlaehaa.zg Go.Proofs.Ytidncnhljlaehaa.zh
set_option linter.unusedVariables false
set_option linter.unusedSimpArgs false
theorem cap_doO (s : S) (o : Opn) : (doO s o).cap = s.cap := by
  unfold doO doS
  split
  · unfold putS
    split
    · rfl
    · split
      · split
        · rfl
        · rw [cap_spend]; rfl
      · rfl
  · split
    · unfold cutS
      split
      · rfl
      · split
        · rw [cap_spend]; rfl
        · rfl
    · split
      · unfold syncS
        split
        · rfl
        · split
          · exact cap_spend s
          · exact cap_spend s
      · split
        · unfold armS
          split <;> rfl
        · split
          · rfl
          · split <;> rfl
theorem cap_fold (l : List Opn) : ∀ s : S, (l.foldl doO s).cap = s.cap := by
  induction l with
  | nil => intro s; rfl
  | cons o l ih => intro s; rw [List.foldl_cons, ih, cap_doO]
theorem crash_none (s : S) : crashS s ⟨#[]⟩ = old ⟨s.cap, s.dur, [], 0, false, 0⟩ (s.age + 1) := by
  unfold crashS
  rw [zb.kd_no (by rfl)]
  rfl
theorem names_len {s : S} (h : OkS s) (kind : Int) (k : ByteArray) : (aN s kind k).length ≤ 140737488355328 := by
  unfold aN
  split
  · unfold keysS
    split
    · simp
    · unfold keysL
      have h1 := h.lnow
      have h2 := List.length_filter_le (fun p : Rec => Lib.hasPrefix (bs p.1) (bs k)) (now s)
      rw [List.length_map]
      omega
  · simp
set_option maxRecDepth 100000 in
set_option maxHeartbeats 25600000 in
theorem backW (c : Int) (v v2 : Value) (l f : List Opn) (w : World) (hv : ReadsO w.heap.size w v l) (hv2 : ReadsO w.heap.size w v2 f) (hm : 1 + tw l + tw f ≤ 140737488355000) (hn : l.length + f.length < 1099511627776) :
    Calls Try.prog 5 #[.int .i64 c, v, v2] w fun e w' => e = .returned (.bool true) ∧ Below w.heap.size w w' := by
  have CB : Hid (Calls _ _ _ _ _) := begunC w
  by_cases hc : 0 ≤ c ∧ c ≤ 1073741824
  · have CN : Hid (∀ w1, Calls _ _ _ _ _) := fun w1 => newC c w1 hc
    obtain ⟨va, vc, rfl, _⟩ := hv.form
    obtain ⟨fa, fc, rfl, _⟩ := hv2.form
    have HV : Hid (ReadsO w.heap.size w (.slice va l.length vc) l) := hv
    have HV2 : Hid (ReadsO w.heap.size w (.slice fa f.length fc) f) := hv2
    have HC : Hid _ := hc
    clear hv hv2 hc
    obtain ⟨s1, HS1⟩ : ∃ s1, Hid (l.foldl doO ⟨c, [], [], 0, false, 0⟩ = s1) := ⟨_, rfl⟩
    have hst := steps ⟨c, [], [], 0, false, 0⟩ l l.length
    rw [List.take_length, HS1.out] at hst
    have hms : mass ⟨c, [], [], 0, false, 0⟩ = 1 := rfl
    have hns : nums ⟨c, [], [], 0, false, 0⟩ = 0 := rfl
    rw [hms, hns] at hst
    have hage : s1.age ≤ l.length := by have := hst.2.2; simpa using this
    have hcap : s1.cap = c := by rw [← HS1.out, cap_fold]
    have hmas : isz s1.dur + pw s1.pend ≤ 1 + tw l := hst.1
    have hnum : s1.dur.length + s1.pend.length ≤ l.length := by have := hst.2.1; unfold nums at this; omega
    have HCR : Hid (crashS s1 ⟨#[]⟩ = old ⟨c, s1.dur, [], 0, false, 0⟩ (s1.age + 1)) := (crash_none s1).trans (by rw [hcap])
    clear hst hms hns
    go_enter Try.func5, Try.ntmps5
    go_wp2_with fail
    refine CB.out.mono ?_
    rintro _ w1 ⟨rfl, b1⟩
    have B1 : Hid (Below w.heap.size w w1) := b1
    clear b1
    go_wp2_with fail
    refine (CN.out _).mono ?_
    rintro _ w2 ⟨g, bn, bd, rfl, h3, b3⟩
    have A2 : Hid (At w1.heap.size g bn bd ⟨c, [], [], 0, false, 0⟩ w1 w2) := ⟨⟨_, h3⟩, b3⟩
    have VU : Hid (ReadsO w1.heap.size w1 (.slice va l.length vc) l) := ReadsO_up (HV.out.later B1.out) B1.out.size
    have VF : Hid (ReadsO w1.heap.size w1 (.slice fa f.length fc) f) := ReadsO_up (HV2.out.later B1.out) B1.out.size
    clear h3 b3 HV HV2
    go_wp2_with fail
    have CP := aPlay l A2.out (VU.out.later A2.out.bl) (Nat.le_refl _) (by show 1 + tw l ≤ _; omega) (by show 0 + l.length < _; omega) (by show 0 + l.length < _; omega)
    rw [HS1.out] at CP
    refine CP.mono ?_
    clear CP
    rintro _ w3 ⟨rfl, a3⟩
    have A3 : Hid (At w1.heap.size g bn bd s1 w1 w3) := a3
    clear a3 A2
    obtain ⟨pv3, h3⟩ := A3.out.ex
    have HO3 : Hid (OkS s1) := h3.ok
    have CI := imageC h3 (by omega)
    have CO := fun w4 => openC s1.dur c w4 HC.out HO3.out.srt HO3.out.dur (by omega) (by omega)
    have CO' : Hid (∀ w4, Calls _ _ _ _ _) := CO
    obtain ⟨I, HI⟩ : ∃ I, Hid (imageT s1.dur = I) := ⟨_, rfl⟩
    rw [HI.out] at CI CO'
    clear CO h3
    go_wp2_with fail
    refine CI.mono ?_
    clear CI
    rintro _ w4 ⟨rfl, b4⟩
    have A4 : Hid (At w1.heap.size g bn bd s1 w1 w4) := A3.out.lat b4 (Nat.le_refl _)
    clear b4 A3
    go_wp2_with fail
    refine (CO'.out _).mono ?_
    rintro _ w5 ⟨g', bn', bd', rfl, h5, b5⟩
    obtain ⟨pv4, h4⟩ := A4.out.ex
    have h45 := sr_later h4 b5
    have hlow : w1.heap.size ≤ w4.heap.size := A4.out.bl.size
    have h5' : Sr w1.heap.size g' bn' bd' (.slice none 0 0) ⟨c, s1.dur, [], 0, false, 0⟩ w5 := by
      obtain ⟨x1, x2, x3, x4, x5, x6, x7⟩ := h5
      exact ⟨x1, x2, x3, x4, World.ownsRow_nil _ _ _ _, by omega, x7⟩
    have dj : ∀ j, Fr g bn bd pv4 j → ¬ Fr g' bn' bd' (.slice none 0 0) j := fun j hj hF => by
      have q1 := (sr_in h4 j hj).1
      have q2 := (sr_in h5 j hF).2
      omega
    have CC : Hid (Calls Try.prog 20 #[.pointer (some ⟨g, 0, none⟩), .string ⟨#[]⟩] w5 fun e w' => e = .returned (.tuple #[]) ∧ Tw w1.heap.size g bn bd g' bn' bd' (old ⟨c, s1.dur, [], 0, false, 0⟩ (s1.age + 1)) ⟨c, s1.dur, [], 0, false, 0⟩ w1 w') := by
      have C := crashC (⟨#[]⟩ : ByteArray) h45 (by show 0 ≤ _; omega) (by omega)
      rw [HCR.out] at C
      refine C.mono ?_
      rintro _ w' ⟨rfl, r⟩
      exact ⟨rfl, Tw.left h45 h5' dj (A4.out.bl.trans (b5.mono hlow)) (Nat.le_refl _) r⟩
    clear h4 h45 h5 h5' dj b5 A4
    go_wp2_with fail
    refine CC.out.mono ?_
    rintro _ w6 ⟨rfl, t6⟩
    have T6 : Hid (Tw w1.heap.size g bn bd g' bn' bd' (old ⟨c, s1.dur, [], 0, false, 0⟩ (s1.age + 1)) ⟨c, s1.dur, [], 0, false, 0⟩ w1 w6) := t6
    clear t6 CC
    -- images of two stores
    have CM : Hid (∀ (t : S) (a : Nat) (wx : World), Tw w1.heap.size g bn bd g' bn' bd' (old t a) t w1 wx → isz t.dur ≤ 140737488355000 → (Calls Try.prog 23 #[.pointer (some ⟨g, 0, none⟩)] wx fun e w' => e = .returned (.string (imageT t.dur)) ∧ Tw w1.heap.size g bn bd g' bn' bd' (old t a) t w1 w') ∧ (Calls Try.prog 23 #[.pointer (some ⟨g', 0, none⟩)] wx fun e w' => e = .returned (.string (imageT t.dur)) ∧ Tw w1.heap.size g bn bd g' bn' bd' (old t a) t w1 w')) := fun t a wx h hz => by
      obtain ⟨pv, pv', q1, q2, _⟩ := h.ex
      refine ⟨(imageC q1 hz).mono ?_, (imageC q2 hz).mono ?_⟩
      · rintro _ w' ⟨rfl, b⟩; exact ⟨rfl, h.later b (Nat.le_refl _)⟩
      · rintro _ w' ⟨rfl, b⟩; exact ⟨rfl, h.later b (Nat.le_refl _)⟩
    have hI0 : (I.toList != I.toList) = false := by simp
    have hI1 : (I.toList == I.toList) = true := by simp
    go_wp2_with fail
    have C1 := (CM.out _ _ _ T6.out (by show isz s1.dur ≤ _; omega)).2
    rw [show imageT (⟨c, s1.dur, [], 0, false, 0⟩ : S).dur = I from HI.out] at C1
    refine C1.mono ?_
    clear C1
    rintro _ w7 ⟨rfl, t7⟩
    have T7 : Hid (Tw _ _ _ _ _ _ _ _ _ _ _) := t7
    clear t7 T6
    go_wp2_with fail
    have C1 := (CM.out _ _ _ T7.out (by show isz s1.dur ≤ _; omega)).1
    rw [show imageT (⟨c, s1.dur, [], 0, false, 0⟩ : S).dur = I from HI.out] at C1
    refine C1.mono ?_
    clear C1
    rintro _ w8 ⟨rfl, t8⟩
    have T8 : Hid (Tw _ _ _ _ _ _ _ _ _ _ _) := t8
    clear t8 T7
    go_wp2_with fail
    go_loopw [12] (fun iv wr => ∃ (j : Nat) (t : S) (a : Nat), iv = .int .i64 j ∧ j ≤ f.length ∧ Hid (Tw w1.heap.size g bn bd g' bn' bd' (old t a) t w1 wr ∧ mass t ≤ 1 + tw l + tw (f.take j) ∧ nums t ≤ l.length + j ∧ a ≤ l.length + 1 + j ∧ t.age ≤ j)) (fun iv _ => (f.length - intOf iv).toNat)
    case atStart => exact ⟨0, _, _, rfl, Nat.zero_le _, T8.out, by show isz s1.dur + 0 ≤ _; omega, by show s1.dur.length + 0 ≤ _; omega, by omega, Nat.le_refl _⟩
    case round =>
      clear T8
      obtain ⟨j, t, a, rfl, hj, HH⟩ := hrel
      have hma := HH.out.2.1
      have hnu := HH.out.2.2.1
      have hag := HH.out.2.2.2.1
      have hta := HH.out.2.2.2.2
      have htk := tw_take f j
      by_cases hlt : j < f.length
      · have hlt' : (j : Int) < f.length := by omega
        obtain ⟨o, ho⟩ : ∃ o, f[j]? = some o := ⟨_, List.getElem?_eq_getElem hlt⟩
        obtain ⟨b, off, e1, d0, d1, d2, d3, hoo⟩ := ops_at (VF.out.later HH.out.1.bl) j o ho hlt
        subst e1
        have htw := tw_at f j o ho
        have hgr := grows t o
        have hgo := grows (old t a) o
        obtain ⟨a', HA⟩ := alikeO t a o
        rw [HA] at hgo
        have hga : a' ≤ a + 1 := hgo.2.2
        have HT1 : Hid (mass (doO t o) ≤ 1 + tw l + tw (f.take (j + 1)) ∧ nums (doO t o) ≤ l.length + (j + 1) ∧ a' ≤ l.length + 1 + (j + 1) ∧ (doO t o).age ≤ j + 1) := ⟨by omega, by omega, by omega, by omega⟩
        obtain ⟨pv, pv', hs, ht, dj⟩ := HH.out.1.ex
        have HNL : Hid ((aN t o.kind o.key).length ≤ 140737488355328) := names_len ht.ok _ _
        have C1 : Hid (∀ ob, Calls _ _ _ _ _) := fun ob => fst_do o ob hs HH.out.1.bl.size hoo (by show nums t + 1 < _; omega) (by show a < _; omega) (by show mass t ≤ _; omega)
        have C2 : Hid (∀ ob ga w5 na nl nc, Fst w1.heap.size g bn bd pv (old t a) o ob na nl nc wr w5 → Calls _ _ _ _ _) := fun ob ga w5 na nl nc h => snd_do o ob ga hs ht dj HH.out.1.bl (Nat.le_refl _) hoo (by omega) (by omega) (by omega) h
        have HAO : Hid (doO (old t a) o = old (doO t o) a') := HA
        have HE1 := (alike t a o.kind o.key o.data o.n).1
        obtain ⟨r1, r2, r3, r4, r5, r6⟩ := ans_old t a o.kind o.key
        unfold gotV at C1 C2
        rw [HE1, r1, r3, r4, r5, r6] at C1
        have HR2 : Hid _ := r2
        clear HE1 r1 r2 r3 r4 r5 r6 HA hgo hgr htw hs ht dj hoo ho
        obtain ⟨xT, HxT⟩ : ∃ x, Hid (aT t o.kind o.key = x) := ⟨_, rfl⟩
        obtain ⟨xE, HxE⟩ : ∃ x, Hid ((doS t o.kind o.key o.data o.n).1 = x) := ⟨_, rfl⟩
        obtain ⟨xA, HxA⟩ : ∃ x, Hid (aA t o.kind = x) := ⟨_, rfl⟩
        obtain ⟨xB, HxB⟩ : ∃ x, Hid (aB t o.kind = x) := ⟨_, rfl⟩
        obtain ⟨xC, HxC⟩ : ∃ x, Hid (aC t o.kind = x) := ⟨_, rfl⟩
        obtain ⟨xD, HxD⟩ : ∃ x, Hid (aD t o.kind = x) := ⟨_, rfl⟩
        obtain ⟨gl, HgL⟩ : ∃ x, Hid (aG (old t a) o.kind = x) := ⟨_, rfl⟩
        obtain ⟨gr, HgR⟩ : ∃ x, Hid (aG t o.kind = x) := ⟨_, rfl⟩
        rw [HxT.out, HxE.out, HxA.out, HxB.out, HxC.out, HxD.out, HgL.out] at C1
        rw [HxT.out, HxE.out, HxA.out, HxB.out, HxC.out, HxD.out, HgR.out] at C2
        clear HxT HxE HxA HxB HxC HxD HgL HgR
        obtain ⟨kd, hkd⟩ : ∃ x, o.kind = x := ⟨_, rfl⟩
        obtain ⟨ky, hky⟩ : ∃ x, o.key = x := ⟨_, rfl⟩
        obtain ⟨dt, hdt⟩ : ∃ x, o.data = x := ⟨_, rfl⟩
        obtain ⟨nn, hnn⟩ : ∃ x, o.n = x := ⟨_, rfl⟩
        rw [hkd] at d0
        rw [hky] at d1
        rw [hdt] at d2
        rw [hnn] at d3
        rw [hkd, hky, hdt, hnn] at C1 C2
        clear hkd hky hdt hnn
        go_wp2_with fail
        refine (C1.out _).mono ?_
        rintro _ w9 ⟨na, nl, nc, rfl, h9⟩
        have H9 : Hid (Fst _ _ _ _ _ _ _ _ _ _ _ _ _) := h9
        have hb9 := h9.2.2
        have hlt9 : wr.heap.size < w9.heap.size := (Array.getElem?_eq_some_iff.1 hb9).1
        obtain ⟨ga, HGA⟩ : ∃ ga, ga = Obj.cells #[.string xT, .slice na nl nc, .int .i64 xE, .int .i64 xA, .int .i64 xB, .int .i64 xC, .bool xD, .int .i64 gl] 31 (0, 0) := ⟨_, rfl⟩
        have bA : Below w9.heap.size w9 (w9.alloc ga) := (Below.refl _ w9).alloc (Nat.le_refl _) _
        obtain ⟨c0, c1, c2, c3⟩ := zc.four ((bA.block _ hlt9).trans hb9)
        rw [HGA] at c0 c1 c2 c3
        clear bA hb9 h9 d0 d1 d2 d3
        go_wp2_with fail
        refine (C2.out _ _ w9 _ _ _ H9.out).mono ?_
        rintro _ w10 ⟨nb, ml, mc, rfl, h10⟩
        have hga := h10.1
        have H10 : Hid _ := h10.2.2
        have hq10 := h10.2.1
        obtain ⟨g0, g1, g2, g3, g4, g5, g6, g7⟩ := eight hga
        obtain ⟨f0, f1, f2, f3, f4, f5, f6, f7⟩ := froz8 hga
        clear h10 c0 c1 c2 c3 C1 C2 HGA
        go_upto_region 19 with fail
        have hset : (w10.setCell ⟨w9.heap.size, 7, none⟩ (.int .i64 0)).heap[w9.heap.size]? = some (.cells #[.string xT, .slice na nl nc, .int .i64 xE, .int .i64 xA, .int .i64 xB, .int .i64 xC, .bool xD, .int .i64 0] 31 (0, 0)) := heap_setCell_same _ _ 7 _ _ _ hga
        obtain ⟨w11, HW11⟩ : ∃ x, x = w10.setCell ⟨w9.heap.size, 7, none⟩ (.int .i64 0) := ⟨_, rfl⟩
        have k11 : Kp (fun q => q = w9.heap.size) w10 w11 := by rw [HW11]; exact kset _ _ _ _
        have hz11 : w11.heap.size = w10.heap.size := by rw [HW11]; simp
        rw [← HW11] at hset ⊢
        obtain ⟨t11, x11, y11⟩ := H10.out w11 k11
        rw [HAO.out] at t11
        rw [HR2.out] at x11
        obtain ⟨w12, HW12⟩ : ∃ x, x = w11.alloc (.cells #[.string xT, .slice nb ml mc, .int .i64 xE, .int .i64 xA, .int .i64 xB, .int .i64 xC, .bool xD, .int .i64 0] 31) := ⟨_, rfl⟩
        have b12 : Below w11.heap.size w11 w12 := by rw [HW12]; exact (Below.refl _ w11).alloc (Nat.le_refl _) _
        have hl12 : w12.heap[w9.heap.size]? = _ := (b12.block _ (by omega)).trans hset
        have hr12 : w12.heap[w10.heap.size]? = some (.cells #[.string xT, .slice nb ml mc, .int .i64 xE, .int .i64 xA, .int .i64 xB, .int .i64 xC, .bool xD, .int .i64 0] 31 (0, 0)) := by rw [HW12, ← hz11]; exact heap_alloc_new w11 _
        have T12 : Hid (Tw w1.heap.size g bn bd g' bn' bd' (old (doO t o) a') (doO t o) w1 w12) := t11.later b12 (Nat.le_refl _)
        have CS : Hid (Calls _ _ _ _ _) := same12 xT na nb nl nc ml mc xE xA xB xC 0 xD (aN t o.kind o.key) w12 (x11.later b12) (y11.later b12) HNL.out
        obtain ⟨l0, l1, l2, l3, l4, l5, l6, l7⟩ := eight hl12
        obtain ⟨r0, r1, r2, r3, r4, r5, r6, r7⟩ := eight hr12
        rw [← HW12]
        clear hset hga HW11 HW12 k11 b12 hl12 hr12 t11 x11 y11 g0 g1 g2 g3 g4 g5 g6 g7 f0 f1 f2 f3 f4 f5 f6 f7 H10 H9 hz11
        go_wp2_with fail
        refine CS.out.mono ?_
        rintro _ w13 ⟨rfl, b13⟩
        have T13 : Hid (Tw _ _ _ _ _ _ _ _ _ _ _) := T12.out.later b13 (Nat.le_refl _)
        clear b13 T12
        go_wp2
        go_roundw
        case rel => exact ⟨j + 1, doO t o, a', by go_num, by omega, T13.out, HT1.out⟩
        case measure => simp [intOf]; omega
      · have hlt' : ¬ (j : Int) < f.length := by omega
        have hzt : isz t.dur ≤ 140737488355000 := by unfold mass at hma; omega
        obtain ⟨J, HJ⟩ : ∃ J, Hid (imageT t.dur = J) := ⟨_, rfl⟩
        have hJ : (J.toList == J.toList) = true := by simp
        go_wp2_with fail
        have C1 := (CM.out _ _ _ HH.out.1 hzt).1
        rw [HJ.out] at C1
        refine C1.mono ?_
        clear C1
        rintro _ w9 ⟨rfl, t9⟩
        have T9 : Hid (Tw _ _ _ _ _ _ _ _ _ _ _) := t9
        clear t9
        go_wp2_with fail
        have C1 := (CM.out _ _ _ T9.out hzt).2
        rw [HJ.out] at C1
        refine C1.mono ?_
        clear C1
        rintro _ w10 ⟨rfl, t10⟩
        have T10 : Hid (Tw _ _ _ _ _ _ _ _ _ _ _) := t10
        clear t10
        go_wp2
        go_ret
        exact ⟨rfl, over B1.out T10.out.bl⟩
  · have CN : Hid (∀ w1, Calls _ _ _ _ _) := fun w1 => newNo c w1 hc
    rcases (show c < 0 ∨ 1073741824 < c by omega) with h | h
    · have hq : decide (c < 0) = true := decide_eq_true h
      clear hc hv hv2
      go_enter Try.func5, Try.ntmps5
      go_wp2_with (first | (go_at_call 9; refine CB.out.mono ?_; rintro _ w1 ⟨rfl, b1⟩; have B1 : Hid (Below w.heap.size w w1) := b1; clear b1) | (go_at_call 10; refine (CN.out _).mono ?_; rintro _ _ ⟨rfl, hw⟩; rw [hw]; clear hw) | go_in)
      go_ret
      exact ⟨rfl, B1.out⟩
    · have hq : decide (c < 0) = false := decide_eq_false (by omega)
      have hq2 : decide (1073741824 < c) = true := decide_eq_true h
      clear hc hv hv2
      go_enter Try.func5, Try.ntmps5
      go_wp2_with (first | (go_at_call 9; refine CB.out.mono ?_; rintro _ w1 ⟨rfl, b1⟩; have B1 : Hid (Below w.heap.size w w1) := b1; clear b1) | (go_at_call 10; refine (CN.out _).mono ?_; rintro _ _ ⟨rfl, hw⟩; rw [hw]; clear hw) | go_in)
      go_ret
      exact ⟨rfl, B1.out⟩
theorem back_walk (c : Int) (wc : (Lit.int .i64 c).wf = true) (v : Value) (l : List Opn) {W : World} (hv : ReadsO W.heap.size W v l) (z : tw l ≤ 1048576) (y : l.length ≤ 1048576) (v2 : Value) (f : List Opn) (hv2 : ReadsO W.heap.size W v2 f) (z2 : tw f ≤ 1048576) (y2 : f.length ≤ 1048576) :
    Calls Try.prog 5 #[.int .i64 c, v, v2] W fun e w' => e = .returned (.bool true) ∧ Below W.heap.size W w' := backW c v v2 l f W hv hv2 (by omega) (by omega)
end Go.Proofs.Ytidncnhljlaehaa.zi
