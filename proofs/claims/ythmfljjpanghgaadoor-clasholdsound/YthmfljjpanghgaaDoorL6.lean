import Derived.Test.YthmfljjpanghgaaDoorL5
import Derived.Test.YthmfljjpanghgaaDoorL4
import Derived.Test.YthmfljjpanghgaaDoorG4
namespace Go.Proofs.YthmfljjpanghgaaDoor.od
open Go.RowKit Go.PlainAid
open Go.Proofs.YthmfljjpanghgaaDoor.pl Go.Proofs.YthmfljjpanghgaaDoor.pi Go.Proofs.YthmfljjpanghgaaDoor.pj Go.Proofs.YthmfljjpanghgaaDoor.ca Go.Proofs.YthmfljjpanghgaaDoor.cb Go.Proofs.YthmfljjpanghgaaDoor.cp Go.Proofs.YthmfljjpanghgaaDoor.cv Go.Proofs.YthmfljjpanghgaaDoor.ga Go.Proofs.YthmfljjpanghgaaDoor.gb Go.Proofs.YthmfljjpanghgaaDoor.aa Go.Proofs.YthmfljjpanghgaaDoor.ba Go.Proofs.YthmfljjpanghgaaDoor.bb Go.Proofs.YthmfljjpanghgaaDoor.ka Go.Proofs.YthmfljjpanghgaaDoor.kb Go.Proofs.YthmfljjpanghgaaDoor.kc Go.Proofs.YthmfljjpanghgaaDoor.kp Go.Proofs.YthmfljjpanghgaaDoor.lk Go.Proofs.YthmfljjpanghgaaDoor.qa Go.Proofs.YthmfljjpanghgaaDoor.qb Go.Proofs.YthmfljjpanghgaaDoor.qc Go.Proofs.YthmfljjpanghgaaDoor.ta Go.Proofs.YthmfljjpanghgaaDoor.tb Go.Proofs.YthmfljjpanghgaaDoor.tc Go.Proofs.YthmfljjpanghgaaDoor.ua Go.Proofs.YthmfljjpanghgaaDoor.ui Go.Proofs.YthmfljjpanghgaaDoor.uk Go.Proofs.YthmfljjpanghgaaDoor.un Go.Proofs.YthmfljjpanghgaaDoor.uq Go.Proofs.YthmfljjpanghgaaDoor.us Go.Proofs.YthmfljjpanghgaaDoor.oa Go.Proofs.YthmfljjpanghgaaDoor.ob Go.Proofs.YthmfljjpanghgaaDoor.oc
set_option linter.unusedVariables false

theorem old_clash {wd m : Int} {xs : List ByteArray} {old : ByteArray} {proof : List ByteArray} (hx : Fits xs) (h : qw.conA wd m xs.length old (RT wd xs) proof = 0) (hne : RT wd (xs.take m.toNat) ≠ old) :
    ∃ A B, oldX wd m xs old proof = some (A, B) ∧ A ≠ B ∧ cutS A wd = cutS B wd ∧ A.size ≤ 1125899906842624 ∧ B.size ≤ 1125899906842624 := by
  obtain ⟨A, B, f1, f2, f3⟩ := old_sound h hne
  obtain ⟨M, rfl, m1, m2⟩ := old_inner h hne
  obtain ⟨M', N, hM, hN, h1, h2, h3, h4, h5, h6, h7, h8⟩ := conA_ok h
  obtain rfl : M = M' := by omega
  obtain rfl : xs.length = N := by omega
  rw [Int.toNat_natCast] at f1 hne
  have sT : Sml (gw (HH wd) (lkO M) (fun _ => ByteArray.empty) (nxO M old) proof 0 xs.length).1 := Fl.sml (oldFl (base := 2) (pb := 0) (mb := 1) (ob := 1) (M := M) (N := xs.length) (wd := wd) (old := old) h2 (Nat.le_refl _) (by omega) (by omega) h5) xs.length 0 xs.length proof rfl (by omega) ⟨by rw [h3 (by omega)]; exact Nat.le_refl _, h4, Nat.le_refl _⟩
  have sU : Sml (ownT wd (lkO M) xs) := ux.own_sml wd _ xs hx xs.length 0 xs.length rfl (by omega) (Nat.le_refl _)
  obtain ⟨z1, z2⟩ := ux.fst_size _ _ sT sU f1
  refine ⟨A, B, ?_, f2, f3, by omega, by omega⟩
  unfold oldX
  rw [if_pos h, Int.toNat_natCast, if_neg hne]
  exact f1
theorem boundC (m : Int) (n : Nat) (h1 : 0 ≤ m) (h2 : m ≤ n) (w : World) : Calls Tryd.prog 28 #[.int .i64 m, .int .i64 n] w fun e w' => e = .returned (.int .i64 m) ∧ w' = w := by
  have d1 : decide (m < 0) = false := decide_eq_false (by omega)
  have d2 : decide ((n : Int) < m) = false := decide_eq_false (by omega)
  go_enter Tryd.func28, Tryd.ntmps28
  go_wp2
  go_ret
  exact ⟨rfl, rfl⟩
set_option maxRecDepth 100000 in
set_option maxHeartbeats 12800000 in
theorem old_walk (w : World) (wd : Int) (w0 : (Lit.int .i64 wd).wf = true) (vl : Value) (xs : List ByteArray) (hl : ReadsT w vl xs) (hno : ∀ k c, vl = .slice none k c → c = 0) (hxs : ∀ x ∈ xs, x.size ≤ 140737488351232) (hxm : xs.length * 16 ≤ 140737488351232) (m : Int) (w2 : (Lit.int .i64 m).wf = true) (old : ByteArray) (zo : old.size ≤ 140737488351232) (vp : Value) (proof : List ByteArray) (hp : ReadsT w vp proof) (hpn : ∀ k c, vp = .slice none k c → c = 0) (hps : ∀ x ∈ proof, x.size ≤ 140737488351232) (hpm : proof.length * 16 ≤ 140737488351232) (hT : Tab w) :
    Calls Tryd.prog 6 #[.int .i64 wd, vl, .int .i64 m, .string old, vp] w fun e w' => e = .returned (.bool true) ∧ Below w.heap.size w w' := by
  have hwd := i64_of w0
  have hx : Fits xs := ⟨fun x h => Nat.le_trans (hxs x h) (by decide), hxm⟩
  have BC : Hid (Calls _ _ _ _ _) := ut.begunC w hT
  have RC : Hid (∀ W, Below w.heap.size w W → Calls _ _ _ _ _) := fun W b => mb.rootC wd vl xs W hwd (hT.down b) (hl.later b) hx
  have IC : Hid (∀ W, Below w.heap.size w W → Calls _ _ _ _ _) := fun W b => qw.consC wd m xs.length hwd old (RT wd xs) vp proof W (hp.later b) (by omega) (hT.down b)
  have KC : Hid (∀ W, Below w.heap.size w W → Calls _ _ _ _ _) := fun W b => kOldC wd m hwd vl xs old vp proof W (hl.later b) hno (hp.later b) hx (by omega) (hT.down b)
  have CL : Hid (qw.conA wd m xs.length old (RT wd xs) proof = 0 → RT wd (xs.take m.toNat) ≠ old → _) := old_clash (wd := wd) (m := m) (xs := xs) (old := old) (proof := proof) hx
  have RY : Hid (∀ A B, A.size ≤ 1125899906842624 → B.size ≤ 1125899906842624 → A ≠ B → cutS A wd = cutS B wd → ∀ W, Below w.heap.size w W → Calls _ _ _ _ _) := fun A B h1 h2 h3 h4 W b => right_yes wd A B W (hT.down b) h1 h2 h3 h4
  have RZ : Hid (∀ W, Calls _ _ _ _ _) := fun W => right_no wd W
  obtain ⟨la, lc, rfl, hlc, hlh⟩ := hl
  have RM : Hid (∀ k, k ≤ xs.length → ∀ W, Below w.heap.size w W → Calls Tryd.prog 12 #[.int .i64 wd, .slice la k lc] W fun e w'' => e = .returned (.string (RT wd (xs.take k))) ∧ Below W.heap.size W w'') := fun k hk W b => mb.rootC wd _ (xs.take k) W hwd (hT.down b) (zk.preT (ReadsT.later ⟨la, lc, rfl, hlc, hlh⟩ b) hk) (hx.take k)
  obtain ⟨pa, pc, rfl, _⟩ := hp
  have BD : Hid (0 ≤ m → m ≤ xs.length → ∀ W, Calls _ _ _ _ _) := fun h1 h2 W => boundC m xs.length h1 h2 W
  obtain ⟨E, HE⟩ : ∃ E, Hid (qw.conA wd m xs.length old (RT wd xs) proof = E) := ⟨_, rfl⟩
  obtain ⟨y2, HY2⟩ : ∃ y, Hid (RT wd xs = y) := ⟨_, rfl⟩
  have HEC : Hid (qw.conA wd m xs.length old (RT wd xs) proof = E) := HE.out
  rw [HE.out] at IC
  rw [HY2.out] at RC IC
  obtain ⟨n, HN⟩ : ∃ n, Hid (xs.length = n) := ⟨_, rfl⟩
  obtain ⟨k, HK⟩ : ∃ n, Hid (proof.length = n) := ⟨_, rfl⟩
  rw [HN.out] at RC IC KC RM BD hlc hlh ⊢
  rw [HK.out] at IC KC ⊢
  clear w0 w2 hxs zo hpn hps hT hx
  by_cases h : E = 0
  · subst h
    have hcon := HE.out
    cases la with
    | none =>
      obtain rfl : lc = 0 := hno _ _ rfl
      have hn0 : n = 0 := by omega
      have hxs : xs = [] := List.length_eq_zero_iff.1 (HN.out.trans hn0)
      obtain ⟨hm0, hE0⟩ : m = 0 ∧ EF wd = old := by
        obtain ⟨M, N, e, hN, i1, i2, i3, i4, i5, i6, i7, i8⟩ := conA_ok hcon
        have h1 := HN.out
        have h2 : M = 0 := by omega
        exact ⟨by omega, i7 h2⟩
      subst hm0
      have RN : Hid (∀ W, Below w.heap.size w W → Calls _ _ _ _ _) := RM.out 0 (Nat.zero_le _)
      have ho : RT wd (xs.take (0 : Int).toNat) = old := by rw [hxs, List.take_nil, RT_nil]; exact hE0
      have ho2 : RT wd (xs.take 0) = old := ho
      have HO : Hid (oldX wd 0 xs old proof = none) := by show _ = _; unfold oldX; rw [if_pos hcon, if_pos ho]
      rw [ho2] at RN
      rw [HO.out] at KC
      have BE : Hid (∀ W, Calls _ _ _ _ _) := BD.out (Int.le_refl _) (by omega)
      have qo : (old.toList == old.toList) = true := beq_self_eq_true _
      have d1 : decide ((n : Int) < 0) = false := decide_eq_false (by omega)
      clear hlh hcon hxs hE0 ho ho2 hlc HE HEC HO hn0
      rw [show clV none = .agg #[.string ⟨#[]⟩, .string ⟨#[]⟩, .bool false] from rfl] at KC RZ
      go_enter Tryd.func6, Tryd.ntmps6
      go_wp2_with fail
      refine BC.out.mono ?_
      rintro e w1 ⟨rfl, hb1⟩
      have B1 : Hid (Below w.heap.size w w1) := hb1
      clear hb1
      go_wp2_with fail
      refine (RC.out _ B1.out).mono ?_
      rintro e w2 ⟨rfl, hb2⟩
      have B2 : Hid (Below w.heap.size w w2) := over B1.out hb2
      clear hb2
      go_wp2_with fail
      refine (IC.out _ B2.out).mono ?_
      rintro e w3 ⟨rfl, hb3⟩
      have B3 : Hid (Below w.heap.size w w3) := over B2.out hb3
      clear hb3
      go_wp2_with fail
      refine (BE.out _).mono ?_
      rintro e w4 ⟨rfl, hw4⟩
      subst hw4
      go_wp2_with fail
      refine (RN.out _ B3.out).mono ?_
      rintro e w5 ⟨rfl, hb5⟩
      have B5 : Hid (Below w.heap.size w w5) := over B3.out hb5
      clear hb5
      go_wp2_with fail
      refine (KC.out _ B5.out).mono ?_
      rintro e w6 ⟨rfl, hb6⟩
      have B6 : Hid (Below w.heap.size w w6) := over B5.out hb6
      clear hb6
      go_wp2_with fail
      refine (RZ.out _).mono ?_
      rintro e w7 ⟨rfl, hb7⟩
      have B7 : Hid (Below w.heap.size w w7) := over B6.out hb7
      clear hb7
      go_wp2
      go_ret
      exact ⟨rfl, B7.out⟩
    | some ad =>
    obtain ⟨M, N, rfl, hN, i1, i2, i3, i4, i5, i6, i7, i8⟩ := conA_ok hcon
    have hnN : N = n := by have := HN.out; omega
    subst hnN
    have RN : Hid (∀ W, Below w.heap.size w W → Calls _ _ _ _ _) := RM.out M i1
    have BE : Hid (∀ W, Calls _ _ _ _ _) := BD.out (by omega) (by omega)
    have IN : Hid (RT wd (xs.take M) ≠ old → 1 ≤ M ∧ M < N) := fun hne => by
      obtain ⟨M', e, q1, q2⟩ := old_inner (wd := wd) (m := (M : Int)) (xs := xs) (old := old) (proof := proof) HE.out (by rw [Int.toNat_natCast]; exact hne)
      have := HN.out
      omega
    rw [Int.toNat_natCast] at CL
    have HOX : Hid (RT wd (xs.take M) = old → oldX wd M xs old proof = none) := fun e => by unfold oldX; rw [if_pos hcon, Int.toNat_natCast, if_pos e]
    obtain ⟨o, HOO⟩ : ∃ o, Hid (RT wd (xs.take M) = o) := ⟨_, rfl⟩
    rw [HOO.out] at RN IN CL HOX
    have g1 : (M : Int) ≤ lc := by omega
    have d1 : decide ((M : Int) < 0) = false := decide_eq_false (by omega)
    have d2 : decide ((N : Int) < M) = false := decide_eq_false (by omega)
    by_cases hs : o = old
    · have qo : (old.toList == o.toList) = true := by rw [beqL]; exact decide_eq_true hs.symm
      rw [HOX.out hs] at KC
      clear hlh hs i2 i3 i4 i5 i6 i7 i8 hcon IN hN HE HEC HOX
      rw [show clV none = .agg #[.string ⟨#[]⟩, .string ⟨#[]⟩, .bool false] from rfl] at KC RZ
      go_enter Tryd.func6, Tryd.ntmps6
      go_wp2_with fail
      refine BC.out.mono ?_
      rintro e w1 ⟨rfl, hb1⟩
      have B1 : Hid (Below w.heap.size w w1) := hb1
      clear hb1
      go_wp2_with fail
      refine (RC.out _ B1.out).mono ?_
      rintro e w2 ⟨rfl, hb2⟩
      have B2 : Hid (Below w.heap.size w w2) := over B1.out hb2
      clear hb2
      go_wp2_with fail
      refine (IC.out _ B2.out).mono ?_
      rintro e w3 ⟨rfl, hb3⟩
      have B3 : Hid (Below w.heap.size w w3) := over B2.out hb3
      clear hb3
      go_wp2_with fail
      refine (BE.out _).mono ?_
      rintro e w4 ⟨rfl, hw4⟩
      subst hw4
      go_wp2_with fail
      refine (RN.out _ B3.out).mono ?_
      rintro e w5 ⟨rfl, hb5⟩
      have B5 : Hid (Below w.heap.size w w5) := over B3.out hb5
      clear hb5
      go_wp2_with fail
      refine (KC.out _ B5.out).mono ?_
      rintro e w6 ⟨rfl, hb6⟩
      have B6 : Hid (Below w.heap.size w w6) := over B5.out hb6
      clear hb6
      go_wp2_with fail
      refine (RZ.out _).mono ?_
      rintro e w7 ⟨rfl, hb7⟩
      have B7 : Hid (Below w.heap.size w w7) := over B6.out hb7
      clear hb7
      go_wp2
      go_ret
      exact ⟨rfl, B7.out⟩
    · have qo : (old.toList == o.toList) = false := by rw [beqL]; exact decide_eq_false (fun e => hs e.symm)
      obtain ⟨m1, m2⟩ := IN.out hs
      obtain ⟨A, B, f1, f2, f3, z1, z2⟩ := CL.out hcon hs
      have RW : Hid (∀ W, Below w.heap.size w W → Calls _ _ _ _ _) := RY.out A B z1 z2 f2 f3
      rw [f1] at KC
      rw [show clV (some (A, B)) = .agg #[.string A, .string B, .bool true] from rfl] at KC RW
      have d3 : ((M : Int) == 0) = false := by rw [beq_eq_false_iff_ne]; omega
      have d4 : ((M : Int) == N) = false := by rw [beq_eq_false_iff_ne]; omega
      have d5 : (M == N) = false := by rw [beq_eq_false_iff_ne]; omega
      have d6 : (M == 0) = false := by rw [beq_eq_false_iff_ne]; omega
      clear hlh hs i2 i3 i4 i5 i6 i7 i8 hcon IN hN HE HEC HOX f1 f2 f3 z1 z2
      go_enter Tryd.func6, Tryd.ntmps6
      go_wp2_with fail
      refine BC.out.mono ?_
      rintro e w1 ⟨rfl, hb1⟩
      have B1 : Hid (Below w.heap.size w w1) := hb1
      clear hb1
      go_wp2_with fail
      refine (RC.out _ B1.out).mono ?_
      rintro e w2 ⟨rfl, hb2⟩
      have B2 : Hid (Below w.heap.size w w2) := over B1.out hb2
      clear hb2
      go_wp2_with fail
      refine (IC.out _ B2.out).mono ?_
      rintro e w3 ⟨rfl, hb3⟩
      have B3 : Hid (Below w.heap.size w w3) := over B2.out hb3
      clear hb3
      go_wp2_with fail
      refine (BE.out _).mono ?_
      rintro e w4 ⟨rfl, hw4⟩
      subst hw4
      go_wp2_with fail
      refine (RN.out _ B3.out).mono ?_
      rintro e w5 ⟨rfl, hb5⟩
      have B5 : Hid (Below w.heap.size w w5) := over B3.out hb5
      clear hb5
      go_wp2_with fail
      refine (KC.out _ B5.out).mono ?_
      rintro e w6 ⟨rfl, hb6⟩
      have B6 : Hid (Below w.heap.size w w6) := over B5.out hb6
      clear hb6
      go_wp2_with fail
      refine (RW.out _ B6.out).mono ?_
      rintro e w7 ⟨rfl, hb7⟩
      have B7 : Hid (Below w.heap.size w w7) := over B6.out hb7
      clear hb7
      go_wp2
      go_ret
      exact ⟨rfl, B7.out⟩
  · have q : (E == 0) = false := by rw [beq_eq_false_iff_ne]; exact h
    have q2 : (E != 0) = true := by rw [bne, q]; rfl
    have HO : Hid (oldX wd m xs old proof = none) := by show _ = _; unfold oldX; rw [if_neg (by rw [HEC.out]; exact h)]
    rw [HO.out] at KC
    clear h hlh HE HEC HO
    rw [show clV none = .agg #[.string ⟨#[]⟩, .string ⟨#[]⟩, .bool false] from rfl] at KC RZ
    go_enter Tryd.func6, Tryd.ntmps6
    go_wp2_with fail
    refine BC.out.mono ?_
    rintro e w1 ⟨rfl, hb1⟩
    have B1 : Hid (Below w.heap.size w w1) := hb1
    clear hb1
    go_wp2_with fail
    refine (RC.out _ B1.out).mono ?_
    rintro e w2 ⟨rfl, hb2⟩
    have B2 : Hid (Below w.heap.size w w2) := over B1.out hb2
    clear hb2
    go_wp2_with fail
    refine (IC.out _ B2.out).mono ?_
    rintro e w3 ⟨rfl, hb3⟩
    have B3 : Hid (Below w.heap.size w w3) := over B2.out hb3
    clear hb3
    go_wp2_with fail
    refine (KC.out _ B3.out).mono ?_
    rintro e w6 ⟨rfl, hb6⟩
    have B6 : Hid (Below w.heap.size w w6) := over B3.out hb6
    clear hb6
    go_wp2_with fail
    refine (RZ.out _).mono ?_
    rintro e w7 ⟨rfl, hb7⟩
    have B7 : Hid (Below w.heap.size w w7) := over B6.out hb7
    clear hb7
    go_wp2
    go_ret
    exact ⟨rfl, B7.out⟩
end Go.Proofs.YthmfljjpanghgaaDoor.od
