import Derived.Test.YtgiipbdogphjlaaYu
import Derived.Test.YtgiipbdogphjlaaYq
import Derived.Test.YtgiipbdogphjlaaBn
namespace Go.Proofs.Ytgiipbdogphjlaa.yv
open Go.RowKit Go.PlainAid Go.Maps Go.Shelf
open Go.Proofs.Ytgiipbdogphjlaa.ca Go.Proofs.Ytgiipbdogphjlaa.cb Go.Proofs.Ytgiipbdogphjlaa.cp Go.Proofs.Ytgiipbdogphjlaa.kp Go.Proofs.Ytgiipbdogphjlaa.ka Go.Proofs.Ytgiipbdogphjlaa.ya Go.Proofs.Ytgiipbdogphjlaa.yb Go.Proofs.Ytgiipbdogphjlaa.yc Go.Proofs.Ytgiipbdogphjlaa.yd Go.Proofs.Ytgiipbdogphjlaa.ye Go.Proofs.Ytgiipbdogphjlaa.yf Go.Proofs.Ytgiipbdogphjlaa.yg Go.Proofs.Ytgiipbdogphjlaa.ym Go.Proofs.Ytgiipbdogphjlaa.yn Go.Proofs.Ytgiipbdogphjlaa.yo Go.Proofs.Ytgiipbdogphjlaa.yp Go.Proofs.Ytgiipbdogphjlaa.yq Go.Proofs.Ytgiipbdogphjlaa.yr Go.Proofs.Ytgiipbdogphjlaa.ys Go.Proofs.Ytgiipbdogphjlaa.yt Go.Proofs.Ytgiipbdogphjlaa.yu Go.Proofs.Ytgiipbdogphjlaa.bn Go.Proofs.Ytgiipbdogphjlaa.sb Go.Proofs.Ytgiipbdogphjlaa.mc
set_option linter.unusedVariables false
set_option linter.unusedSimpArgs false
theorem ReadsO_up {B B' : Nat} {w : World} {v : Value} {l : List Opn} (h : ReadsO B w v l) (hB : B ≤ B') : ReadsO B' w v l := by
  obtain ⟨⟨a, c, e, h1⟩, h2⟩ := h
  refine ⟨⟨a, c, e, h1.imp id ?_⟩, h2⟩
  rintro ⟨b, off, e1, e2, h3⟩
  exact ⟨b, off, e1, by omega, h3⟩
theorem below_dm {B m : Nat} {a w w' : World} (h : Below B a w) (e : w' = w.drewN m) : Below B a w' := by rw [e]; exact below_dN h m
-- a store in memory, its blocks above B, behind whatever was done since w
structure At (B g bn bd : Nat) (s : S) (w w' : World) : Prop where
  ex : ∃ pv, Sr B g bn bd pv s w'
  bl : Below B w w'
theorem At.lat {B g bn bd : Nat} {s : S} {w w1 w2 : World} (h : At B g bn bd s w w1) (hb : Below w1.heap.size w1 w2) (hB : B ≤ w.heap.size) : At B g bn bd s w w2 := by
  obtain ⟨⟨pv, h1⟩, h2⟩ := h
  exact ⟨⟨pv, sr_later h1 hb⟩, h2.trans (hb.mono (Nat.le_trans hB h2.size))⟩
set_option maxRecDepth 20000 in
set_option maxHeartbeats 12800000 in
theorem twiceW (c : Int) (v : Value) (l : List Opn) (one two : ByteArray) (w : World) (hv : ReadsO w.heap.size w v l) (h1 : one.size ≤ 140737488355328) (h2 : two.size ≤ 140737488355328) (hm : 1 + tw l ≤ 140737488355000) (hn : l.length < 3518437208882) :
    Calls Try.prog 4 #[.int .i64 c, v, .string one, .string two] w fun e w' => e = .returned (.bool true) ∧ Below w.heap.size w w' := by
  have CB : Hid (Calls _ _ _ _ _) := begunC w
  by_cases hc : 0 ≤ c ∧ c ≤ 1073741824
  · have HV : Hid (ReadsO w.heap.size w v l) := hv
    obtain ⟨s1, HS1⟩ : ∃ s1, Hid (l.foldl doO ⟨c, [], [], 0, false, 0⟩ = s1) := ⟨_, rfl⟩
    have hst := steps ⟨c, [], [], 0, false, 0⟩ l l.length
    rw [List.take_length, HS1.out] at hst
    have hms : mass ⟨c, [], [], 0, false, 0⟩ = 1 := rfl
    have hns : nums ⟨c, [], [], 0, false, 0⟩ = 0 := rfl
    rw [hms, hns] at hst
    have hage : s1.age ≤ l.length := by have := hst.2.2; simpa using this
    obtain ⟨s2, HS2⟩ : ∃ s2, Hid (crashS s1 one = s2) := ⟨_, rfl⟩
    have H2 : Hid (s2.off = false ∧ s2.pend = [] ∧ s2.age = s1.age + 1 ∧ isz s2.dur ≤ 140737488355000 ∧ now s2 = s2.dur ∧ crashS s2 two = ⟨s2.cap, s2.dur, [], 0, false, s2.age + 1⟩) := by
      rw [← HS2.out]
      refine ⟨rfl, rfl, rfl, ?_, rfl, rfl⟩
      have h3 := isz_kd one s1.pend s1.dur s1.pend.length
      rw [List.take_length] at h3
      have h4 : mass s1 = isz s1.dur + pw s1.pend := rfl
      show isz (kdN one s1.pend s1.dur s1.pend.length) ≤ _
      omega
    obtain ⟨s3, HS3⟩ : ∃ s3, Hid (crashS s2 two = s3) := ⟨_, rfl⟩
    have CN : Hid (∀ w1, Calls _ _ _ _ _) := fun w1 => newC c w1 hc
    have CP : Hid (∀ B g bn bd w0 w1, At B g bn bd ⟨c, [], [], 0, false, 0⟩ w0 w1 → ReadsO B w1 v l → B ≤ w0.heap.size → Calls Try.prog 16 #[.pointer (some ⟨g, 0, none⟩), v] w1 fun e w' => e = .returned (.tuple #[]) ∧ At B g bn bd s1 w0 w') := fun B g bn bd w0 w1 h hr hB => by
      obtain ⟨⟨pv, h5⟩, h6⟩ := h
      have C := playC l h5 hr (by rw [hms]; omega) (by rw [hns]; omega) (by show 0 + l.length < _; omega) (Nat.le_trans hB h6.size)
      rw [HS1.out] at C
      refine C.mono ?_
      rintro e w' ⟨rfl, r⟩
      have hb := Rn.below h5 r (Nat.le_trans hB h6.size)
      obtain ⟨p, h7, _, _⟩ := r
      exact ⟨rfl, ⟨p, h7⟩, h6.trans hb⟩
    have CC : Hid (∀ B g bn bd w0 w1, At B g bn bd s1 w0 w1 → B ≤ w0.heap.size → Calls Try.prog 17 #[.pointer (some ⟨g, 0, none⟩), .string one] w1 fun e w' => e = .returned (.tuple #[]) ∧ At B g bn bd s2 w0 w') := fun B g bn bd w0 w1 h hB => by
      obtain ⟨⟨pv, h5⟩, h6⟩ := h
      have C := crashC one h5 h1 (by omega)
      rw [HS2.out] at C
      refine C.mono ?_
      rintro e w' ⟨rfl, r⟩
      have hb := Rn.below h5 r (Nat.le_trans hB h6.size)
      obtain ⟨p, h7, _, _⟩ := r
      exact ⟨rfl, ⟨p, h7⟩, h6.trans hb⟩
    obtain ⟨xs, HXS⟩ : ∃ xs, Hid (keysL ⟨#[]⟩ s2.dur = xs) := ⟨_, rfl⟩
    obtain ⟨T, HT⟩ : ∃ T, Hid (tot s2.dur = T) := ⟨_, rfl⟩
    obtain ⟨im, HIM⟩ : ∃ im, Hid (imageT s2.dur = im) := ⟨_, rfl⟩
    have H3 : Hid (s3.off = false ∧ s3.pend = [] ∧ s3.age = s2.age + 1 ∧ s3.dur = s2.dur ∧ now s3 = s2.dur) := by rw [← HS3.out, H2.out.2.2.2.2.2]; exact ⟨rfl, rfl, rfl, rfl, rfl⟩
    have CI : Hid (∀ s B g bn bd w0 w1, s.dur = s2.dur → At B g bn bd s w0 w1 → B ≤ w0.heap.size → Calls Try.prog 18 #[.pointer (some ⟨g, 0, none⟩)] w1 fun e w' => e = .returned (.string im) ∧ At B g bn bd s w0 w' ∧ Below w1.heap.size w1 w') := fun s B g bn bd w0 w1 hs h hB => by
      obtain ⟨pv, h5⟩ := h.ex
      have C := imageC h5 (by rw [hs]; exact H2.out.2.2.2.1)
      rw [hs, HIM.out] at C
      refine C.mono ?_
      rintro e w' ⟨rfl, b⟩
      exact ⟨rfl, h.lat b hB, b⟩
    have CK : Hid (∀ s B g bn bd w0 w1, s.off = false → now s = s2.dur → At B g bn bd s w0 w1 → B ≤ w0.heap.size → Calls Try.prog 13 #[.pointer (some ⟨g, 0, none⟩), .string ⟨#[]⟩] w1 fun e w' => ∃ v, e = .returned v ∧ w'.ownsRow w1.heap.size 9 1 v xs.length (xs.map Value.string) ∧ At B g bn bd s w0 w' ∧ Below w1.heap.size w1 w' ∧ ∃ pv, Sr B g bn bd pv s w' ∧ ∀ j, Fr g bn bd pv j → j < w1.heap.size) := fun s B g bn bd w0 w1 ho hs h hB => by
      obtain ⟨pv, h5⟩ := h.ex
      have C := keysC ⟨#[]⟩ h5
      have e : keysS s ⟨#[]⟩ = xs := by unfold keysS; rw [ho, hs]; exact HXS.out
      rw [e] at C
      refine C.mono ?_
      rintro e w' ⟨v, rfl, o, b⟩
      exact ⟨v, rfl, o, h.lat b hB, b, pv, sr_later h5 b, fun j hj => (sr_in h5 j hj).1⟩
    have CU : Hid (∀ s B g bn bd w0 w1, now s = s2.dur → At B g bn bd s w0 w1 → Calls Try.prog 11 #[.pointer (some ⟨g, 0, none⟩)] w1 fun e w' => e = .returned (.int .i64 (T : Nat)) ∧ w' = w1) := fun s B g bn bd w0 w1 hs h => by
      obtain ⟨pv, h5⟩ := h.ex
      have C := usedC h5.row
      rw [hs, HT.out] at C
      exact C
    have CA : Hid (∀ s B g bn bd w0 w1, At B g bn bd s w0 w1 → Calls Try.prog 19 #[.pointer (some ⟨g, 0, none⟩)] w1 fun e w' => e = .returned (.int .i64 s.age) ∧ w' = w1) := fun s B g bn bd w0 w1 h => by
      obtain ⟨pv, h5⟩ := h.ex
      exact ageC h5.row
    have CD : Hid (∀ B g bn bd w0 w1, At B g bn bd s3 w0 w1 → Calls Try.prog 21 #[.pointer (some ⟨g, 0, none⟩)] w1 fun e w' => e = .returned (.bool false) ∧ w' = w1) := fun B g bn bd w0 w1 h => by
      obtain ⟨pv, h5⟩ := h.ex
      have C := downC h5.row
      rw [H3.out.1] at C
      exact C
    have CZ : Hid (∀ B g bn bd w0 w1, At B g bn bd s3 w0 w1 → Calls Try.prog 22 #[.pointer (some ⟨g, 0, none⟩)] w1 fun e w' => e = .returned (.int .i64 0) ∧ w' = w1) := fun B g bn bd w0 w1 h => by
      obtain ⟨pv, h5⟩ := h.ex
      have C := pendingC h5.row h5.pr
      rw [H3.out.2.1] at C
      exact C
    have CC2 : Hid (∀ B g bn bd w0 w1 Bk vk, At B g bn bd s2 w0 w1 → w1.ownsRow Bk 9 1 vk xs.length (xs.map Value.string) → (∃ pv, Sr B g bn bd pv s2 w1 ∧ ∀ j, Fr g bn bd pv j → j < Bk) → B ≤ w0.heap.size → Calls Try.prog 17 #[.pointer (some ⟨g, 0, none⟩), .string two] w1 fun e w' => e = .returned (.tuple #[]) ∧ At B g bn bd s3 w0 w' ∧ w'.ownsRow Bk 9 1 vk xs.length (xs.map Value.string)) := fun B g bn bd w0 w1 Bk vk h ho hf hB => by
      obtain ⟨pv, h5, hfr⟩ := hf
      have C := crashC two h5 h2 (by rw [H2.out.2.2.1]; omega)
      rw [HS3.out] at C
      refine C.mono ?_
      rintro e w' ⟨rfl, r⟩
      have hb := Rn.below h5 r (Nat.le_trans hB h.bl.size)
      obtain ⟨p, h7, k7, _⟩ := r
      exact ⟨rfl, ⟨⟨p, h7⟩, h.bl.trans hb⟩, own_kp ho k7 (fun j hj e => by have := hfr j e; have := (ho.lt _ hj.symm).1; omega)⟩
    have HAG : Hid (s3.age = s2.age + 1 ∧ s2.age ≤ l.length + 1) := ⟨H3.out.2.2.1, by rw [H2.out.2.2.1]; omega⟩
    obtain ⟨g2, hg2⟩ : ∃ q, s2.age = q := ⟨_, rfl⟩
    obtain ⟨g3, hg3⟩ : ∃ q, s3.age = q := ⟨_, rfl⟩
    have HG : Hid (g3 = g2 + 1) := by have := HAG.out.1; rw [hg2, hg3] at this; exact this
    have hg2b : g2 ≤ l.length + 1 := by have := HAG.out.2; rw [hg2] at this; exact this
    have CA2 : Hid (∀ B g bn bd w0 w1, At B g bn bd s2 w0 w1 → Calls _ _ _ _ _) := fun B g bn bd w0 w1 h => CA.out s2 B g bn bd w0 w1 h
    have CA3 : Hid (∀ B g bn bd w0 w1, At B g bn bd s3 w0 w1 → Calls _ _ _ _ _) := fun B g bn bd w0 w1 h => CA.out s3 B g bn bd w0 w1 h
    rw [hg2] at CA2
    rw [hg3] at CA3
    have hwa : IntKind.i64.wrap ((g2 : Int) + 1) = (g3 : Int) := by
      rw [HG.out, show (g2 : Int) + 1 = ((g2 + 1 : Nat) : Int) by omega]
      exact wrap_is _ (by omega)
    have CS : Hid (∀ w1 va vb Ba Bb, w1.ownsRow Ba 9 1 va xs.length (xs.map Value.string) → w1.ownsRow Bb 9 1 vb xs.length (xs.map Value.string) → Calls Try.prog 20 #[va, vb] w1 fun e w' => e = .returned (.bool true) ∧ ∃ m, w' = w1.drewN m) := fun w1 va vb Ba Bb ha hb => by
      have C := same va vb xs xs w1 (own_readsT ha) (own_readsT hb) (by
        have h9 : xs.length ≤ s2.dur.length := by rw [← HXS.out]; unfold keysL; rw [List.length_map]; exact List.length_filter_le _ _
        have h10 := isz_kd one s1.pend s1.dur s1.pend.length
        have h11 : ∀ r : List Rec, r.length ≤ isz r := fun r => by
          induction r with
          | nil => simp [isz]
          | cons p r ih => simp only [isz, List.length_cons]; omega
        have := h11 s2.dur
        have := H2.out.2.2.2.1
        omega)
      rw [decide_eq_true rfl] at C
      exact C
    have hie : (im.toList == im.toList) = true := by simp
    have HSO : Hid (s2.off = false ∧ now s2 = s2.dur) := ⟨H2.out.1, H2.out.2.2.2.2.1⟩
    clear hst hms hns hage hg2 hg3 hv H2 HAG CA
    go_enter Try.func4, Try.ntmps4
    go_upto_region 12 with (first
      | (go_at_call 9; refine CB.out.mono ?_; rintro _ w1 ⟨rfl, b1⟩; have B1 : Hid (Below w.heap.size w w1) := b1; clear b1)
      | (go_at_call 10; refine (CN.out _).mono ?_; rintro _ w2 ⟨g, bn, bd, rfl, h3, b3⟩; have A2 : Hid (At w1.heap.size g bn bd ⟨c, [], [], 0, false, 0⟩ w1 w2) := ⟨⟨_, h3⟩, b3⟩; have V2 : Hid (ReadsO w1.heap.size w2 v l) := (ReadsO_up (HV.out.later B1.out) B1.out.size).later b3; clear h3 b3)
      | (go_at_call 16; refine (CP.out _ g bn bd w1 w2 A2.out V2.out (Nat.le_refl _)).mono ?_; rintro _ w3 ⟨rfl, a3⟩; have A3 : Hid (At w1.heap.size g bn bd s1 w1 w3) := a3; clear a3 A2 V2)
      | (go_at_call 17; refine (CC.out _ g bn bd w1 w3 A3.out (Nat.le_refl _)).mono ?_; rintro _ w4 ⟨rfl, a4⟩; have A4 : Hid (At w1.heap.size g bn bd s2 w1 w4) := a4; clear a4 CC)
      | (go_at_call 18; refine (CI.out s2 _ g bn bd w1 w4 rfl A4.out (Nat.le_refl _)).mono ?_; rintro _ w5 ⟨rfl, a5, _⟩; have A5 : Hid (At w1.heap.size g bn bd s2 w1 w5) := a5; clear a5)
      | (go_at_call 13; refine (CK.out s2 _ g bn bd w1 w5 HSO.out.1 HSO.out.2 A5.out (Nat.le_refl _)).mono ?_; rintro _ w6 ⟨v6, rfl, o6, a6, _, f6⟩; have A6 : Hid (At w1.heap.size g bn bd s2 w1 w6) := a6; have O6 : Hid (w6.ownsRow w5.heap.size 9 1 v6 xs.length (xs.map Value.string)) := o6; have F6 : Hid (∃ pv, Sr w1.heap.size g bn bd pv s2 w6 ∧ ∀ j, Fr g bn bd pv j → j < w5.heap.size) := f6; clear a6 o6 f6)
      | (go_at_call 11; refine (CU.out s2 _ g bn bd w1 w6 HSO.out.2 A6.out).mono ?_; rintro _ _ ⟨rfl, hw⟩; rw [hw]; clear hw)
      | (go_at_call 19; refine (CA2.out _ g bn bd w1 w6 A6.out).mono ?_; rintro _ _ ⟨rfl, hw⟩; rw [hw]; clear hw)
      | (go_at_call 17; refine (CC2.out _ g bn bd w1 w6 _ v6 A6.out O6.out F6.out (Nat.le_refl _)).mono ?_; rintro _ w7 ⟨rfl, a7, o7⟩; have A7 : Hid (At w1.heap.size g bn bd s3 w1 w7) := a7; have O7 : Hid (w7.ownsRow w5.heap.size 9 1 v6 xs.length (xs.map Value.string)) := o7; clear a7 o7 CC2)
      | go_in)
    go_wp2_with (first
      | (go_at_call 13; refine (CK.out s3 _ g bn bd w1 w7 H3.out.1 H3.out.2.2.2.2 A7.out (Nat.le_refl _)).mono ?_; rintro _ w8 ⟨v8, rfl, o8, a8, b8, _⟩; have A8 : Hid (At w1.heap.size g bn bd s3 w1 w8) := a8; have O8 : Hid (w8.ownsRow w7.heap.size 9 1 v8 xs.length (xs.map Value.string)) := o8; have P8 : Hid (w8.ownsRow w5.heap.size 9 1 v6 xs.length (xs.map Value.string)) := own_later O7.out b8; clear a8 o8 b8)
      | (go_at_call 20; refine (CS.out w8 v8 v6 _ _ O8.out P8.out).mono ?_; rintro _ w9 ⟨rfl, m9, hw9⟩; have A9 : Hid (At w1.heap.size g bn bd s3 w1 w9) := A8.out.lat (below_dm (Below.refl _ _) hw9) (Nat.le_refl _); clear hw9)
      | (go_at_call 18; refine (CI.out s3 _ g bn bd w1 w9 H3.out.2.2.2.1 A9.out (Nat.le_refl _)).mono ?_; rintro _ w10 ⟨rfl, a10, _⟩; have A10 : Hid (At w1.heap.size g bn bd s3 w1 w10) := a10; clear a10)
      | (go_at_call 11; refine (CU.out s3 _ g bn bd w1 w10 H3.out.2.2.2.2 A10.out).mono ?_; rintro _ _ ⟨rfl, hw⟩; rw [hw]; clear hw)
      | (go_at_call 19; refine (CA3.out _ g bn bd w1 w10 A10.out).mono ?_; rintro _ _ ⟨rfl, hw⟩; rw [hw]; clear hw)
      | (go_at_call 21; refine (CD.out _ g bn bd w1 w10 A10.out).mono ?_; rintro _ _ ⟨rfl, hw⟩; rw [hw]; clear hw)
      | (go_at_call 22; refine (CZ.out _ g bn bd w1 w10 A10.out).mono ?_; rintro _ _ ⟨rfl, hw⟩; rw [hw]; clear hw)
      | go_in)
    go_ret
    exact ⟨rfl, over B1.out A10.out.bl⟩
  · have CN : Hid (∀ w1, Calls _ _ _ _ _) := fun w1 => newNo c w1 hc
    rcases (show c < 0 ∨ 1073741824 < c by omega) with h | h
    · have hq : decide (c < 0) = true := decide_eq_true h
      clear hc hv
      go_enter Try.func4, Try.ntmps4
      go_wp2_with (first | (go_at_call 9; refine CB.out.mono ?_; rintro _ w1 ⟨rfl, b1⟩; have B1 : Hid (Below w.heap.size w w1) := b1; clear b1) | (go_at_call 10; refine (CN.out _).mono ?_; rintro _ _ ⟨rfl, hw⟩; rw [hw]; clear hw) | go_in)
      go_ret
      exact ⟨rfl, B1.out⟩
    · have hq : decide (c < 0) = false := decide_eq_false (by omega)
      have hq2 : decide (1073741824 < c) = true := decide_eq_true h
      clear hc hv
      go_enter Try.func4, Try.ntmps4
      go_wp2_with (first | (go_at_call 9; refine CB.out.mono ?_; rintro _ w1 ⟨rfl, b1⟩; have B1 : Hid (Below w.heap.size w w1) := b1; clear b1) | (go_at_call 10; refine (CN.out _).mono ?_; rintro _ _ ⟨rfl, hw⟩; rw [hw]; clear hw) | go_in)
      go_ret
      exact ⟨rfl, B1.out⟩
-- as its frame hands it the arguments
theorem twice_walk (c : Int) (wc : (Lit.int .i64 c).wf = true) (v : Value) (l : List Opn) {W : World} (hv : ReadsO W.heap.size W v l) (z : tw l ≤ 1048576) (y : l.length ≤ 1048576) (one : ByteArray) (z1 : one.size ≤ 1048576) (two : ByteArray) (z2 : two.size ≤ 1048576) :
    Calls Try.prog 4 #[.int .i64 c, v, .string one, .string two] W fun e w' => e = .returned (.bool true) ∧ Below W.heap.size W w' := twiceW c v l one two W hv (by omega) (by omega) (by omega) (by omega)
end Go.Proofs.Ytgiipbdogphjlaa.yv
