import Derived.Test.YtpcllegjnbeppaaGreatK2
import Derived.Test.YtpcllegjnbeppaaGreatG7
import Derived.Test.YtpcllegjnbeppaaGreatG1
import Derived.Lib.AppendStr
namespace Go.Proofs.YtpcllegjnbeppaaGreat.jl
open Go.RowKit Go.PlainAid Go.Maps Go.Shelf
open Go.Proofs.YtpcllegjnbeppaaGreat.kp Go.Proofs.YtpcllegjnbeppaaGreat.ka Go.Proofs.YtpcllegjnbeppaaGreat.ya Go.Proofs.YtpcllegjnbeppaaGreat.yb Go.Proofs.YtpcllegjnbeppaaGreat.yc Go.Proofs.YtpcllegjnbeppaaGreat.yd Go.Proofs.YtpcllegjnbeppaaGreat.ye Go.Proofs.YtpcllegjnbeppaaGreat.yf Go.Proofs.YtpcllegjnbeppaaGreat.yi Go.Proofs.YtpcllegjnbeppaaGreat.yk Go.Proofs.YtpcllegjnbeppaaGreat.yl Go.Proofs.YtpcllegjnbeppaaGreat.ym
open Go.Proofs.YtpcllegjnbeppaaGreat.tqa Go.Proofs.YtpcllegjnbeppaaGreat.tba Go.Proofs.YtpcllegjnbeppaaGreat.tbd Go.Proofs.YtpcllegjnbeppaaGreat.tbe
open Go.Proofs.YtpcllegjnbeppaaGreat.tqb (over keyC keyNo)
open Go.Proofs.YtpcllegjnbeppaaGreat.yj
open Go.Proofs.YtpcllegjnbeppaaGreat.ec (bdropS)
open Go.Proofs.YtpcllegjnbeppaaGreat.xc (Ds Rd Dt)
open Go.Proofs.YtpcllegjnbeppaaGreat.jg Go.Proofs.YtpcllegjnbeppaaGreat.jj
set_option linter.unusedVariables false
set_option linter.unusedSimpArgs false
open Go.Proofs.YtpcllegjnbeppaaGreat.jk
set_option maxRecDepth 100000 in
set_option maxHeartbeats 12800000 in
theorem recordsT {g bn bd g' : Nat} {s : S} {w0 w : World} (o : Stp) (h : Two g bn bd g' s s w0 w) (hf : Fine o) (hl : 2 * (s.dur.length + s.pend.length) + 1 < 3518437208883) (ha : s.age < 4398046511104) :
    Calls Tryz.prog 7 #[.pointer (some ⟨g, 0, none⟩), .pointer (some ⟨g', 0, none⟩), .agg (scs o)] w fun e w' => e = .returned (.bool true) ∧ Two g bn bd g' (recS s o) (recS s o) w0 w' := by
  have hl1 : s.dur.length + s.pend.length + 1 < 3518437208883 := by omega
  obtain ⟨W, HW⟩ : ∃ W, Hid (w.alloc (.cells (scs o) 29) = W) := ⟨_, rfl⟩
  have hb : Bp w.heap.size g bn bd g' o s s w0 W := by rw [← HW.out]; exact Bp.box h
  have HB : Hid (Bp w.heap.size g bn bd g' o s s w0 W) := hb
  obtain ⟨c0, c1, c2, c3, c4, c5, c6⟩ := hb.cells
  have hok := hb.ok
  obtain ⟨dd, sp, k, n, m, key, text⟩ := o
  have HF : Hid (Fine _) := hf
  unfold scs at HW
  show Calls Tryz.prog 7 #[.pointer (some ⟨g, 0, none⟩), .pointer (some ⟨g', 0, none⟩), .agg #[.int .i64 dd, .int .i64 sp, .int .i64 k, .int .i64 n, .int .i64 m, .string key, .string text]] w _
  simp only at c0 c1 c2 c3 c4 c5 c6
  clear h hb hf
  by_cases e1 : dd = 1
  · subst e1
    have HR : Hid (recS s ⟨1, sp, k, n, m, key, text⟩ = (bputS s sp k n text).2) := by show _ = _; unfold recS; simp
    rw [HR.out]
    have C1 : Hid (∀ w1, Bp w.heap.size g bn bd g' ⟨1, sp, k, n, m, key, text⟩ s s w0 w1 → Calls _ _ _ _ _) := fun w1 h1 => put1 sp k n text h1 HF.out.sp HF.out.n hl1
    have C2 : Hid (∀ w1, Bp w.heap.size g bn bd g' ⟨1, sp, k, n, m, key, text⟩ (bputS s sp k n text).2 s w0 w1 → Calls _ _ _ _ _) := fun w1 h1 => put2 sp k n text h1 HF.out.sp HF.out.n hl1
    obtain ⟨R, HRR⟩ : ∃ R, Hid (bputS s sp k n text = R) := ⟨_, rfl⟩
    rw [HRR.out] at C1 C2 ⊢
    clear  HR HF
    go_enter Tryz.func7, Tryz.ntmps7
    go_upto_region 1 with fail
    rw [HW.out]
    go_wp2_with (first | (go_at_call 24; refine (C1.out _ HB.out).mono ?_; rintro _ w3 ⟨rfl, h3⟩; have H3 : Hid (Bp _ _ _ _ _ _ _ _ _ w3) := h3; obtain ⟨a0, a1, a2, a3, a4, a5, a6⟩ := h3.cells; clear h3) | (go_at_call 25; refine (C2.out _ H3.out).mono ?_; rintro _ w4 ⟨rfl, h4⟩; have H4 : Hid (Bp _ _ _ _ _ _ _ _ _ w4) := h4; clear h4) | go_in)
    go_ret
    exact ⟨rfl, H4.out.1⟩
  by_cases e2 : dd = 2
  · subst e2
    have HR : Hid (recS s ⟨2, sp, k, n, m, key, text⟩ = s) := by show _ = _; unfold recS; simp
    rw [HR.out]
    have C1 : Hid (∀ w1, Bp w.heap.size g bn bd g' ⟨2, sp, k, n, m, key, text⟩ s s w0 w1 → Calls _ _ _ _ _) := fun w1 h1 => get1 sp k n h1 HF.out.sp HF.out.n
    have C2 : Hid (∀ w1, Bp w.heap.size g bn bd g' ⟨2, sp, k, n, m, key, text⟩ s s w0 w1 → Calls _ _ _ _ _) := fun w1 h1 => get2 sp k n h1 HF.out.sp HF.out.n
    obtain ⟨R, HRR⟩ : ∃ R, Hid (bgetS s sp k n = R) := ⟨_, rfl⟩
    rw [HRR.out] at C1 C2
    have tt : (R.1.toList == R.1.toList) = true := by simp
    clear e1 HR HF
    go_enter Tryz.func7, Tryz.ntmps7
    go_upto_region 1 with fail
    rw [HW.out]
    go_wp2_with (first | (go_at_call 26; refine (C1.out _ HB.out).mono ?_; rintro _ w3 ⟨rfl, b3⟩; have h3 := Bp.later HB.out b3; have H3 : Hid (Bp _ _ _ _ _ _ _ _ _ w3) := h3; obtain ⟨a0, a1, a2, a3, a4, a5, a6⟩ := h3.cells; clear h3 b3) | (go_at_call 27; refine (C2.out _ H3.out).mono ?_; rintro _ w4 ⟨rfl, b4⟩; have H4 : Hid (Bp _ _ _ _ _ _ _ _ _ w4) := Bp.later H3.out b4; clear b4) | go_in)
    go_ret
    exact ⟨rfl, H4.out.1⟩
  by_cases e3 : dd = 3
  · subst e3
    have HR : Hid (recS s ⟨3, sp, k, n, m, key, text⟩ = (bdropS s sp k n).2) := by show _ = _; unfold recS; simp
    rw [HR.out]
    have C1 : Hid (∀ w1, Bp w.heap.size g bn bd g' ⟨3, sp, k, n, m, key, text⟩ s s w0 w1 → Calls _ _ _ _ _) := fun w1 h1 => drop1 sp k n h1 HF.out.sp HF.out.n hl1
    have C2 : Hid (∀ w1, Bp w.heap.size g bn bd g' ⟨3, sp, k, n, m, key, text⟩ (bdropS s sp k n).2 s w0 w1 → Calls _ _ _ _ _) := fun w1 h1 => drop2 sp k n h1 HF.out.sp HF.out.n hl1
    obtain ⟨R, HRR⟩ : ∃ R, Hid (bdropS s sp k n = R) := ⟨_, rfl⟩
    rw [HRR.out] at C1 C2 ⊢
    clear e1 e2 HR HF
    go_enter Tryz.func7, Tryz.ntmps7
    go_upto_region 1 with fail
    rw [HW.out]
    go_wp2_with (first | (go_at_call 28; refine (C1.out _ HB.out).mono ?_; rintro _ w3 ⟨rfl, h3⟩; have H3 : Hid (Bp _ _ _ _ _ _ _ _ _ w3) := h3; obtain ⟨a0, a1, a2, a3, a4, a5, a6⟩ := h3.cells; clear h3) | (go_at_call 29; refine (C2.out _ H3.out).mono ?_; rintro _ w4 ⟨rfl, h4⟩; have H4 : Hid (Bp _ _ _ _ _ _ _ _ _ w4) := h4; clear h4) | go_in)
    go_ret
    exact ⟨rfl, H4.out.1⟩
  by_cases e4 : dd = 4
  · subst e4
    have HR : Hid (recS s ⟨4, sp, k, n, m, key, text⟩ = s) := by show _ = _; unfold recS; simp
    rw [HR.out]
    have C1 : Hid (∀ w1, Bp w.heap.size g bn bd g' ⟨4, sp, k, n, m, key, text⟩ s s w0 w1 → Calls _ _ _ _ _) := fun w1 h1 => numb1 sp k h1 HF.out.sp
    have C2 : Hid (∀ w1, Bp w.heap.size g bn bd g' ⟨4, sp, k, n, m, key, text⟩ s s w0 w1 → Calls _ _ _ _ _) := fun w1 h1 => numb2 sp k h1 HF.out.sp
    have HLN : Hid ((numbersS s sp k).length ≤ 140737488351232) := numb_len hok sp k
    obtain ⟨L, HL⟩ : ∃ L, Hid ((numbersS s sp k) = L) := ⟨_, rfl⟩
    rw [HL.out] at C1 C2 HLN
    clear e1 e2 e3 HR HF
    go_enter Tryz.func7, Tryz.ntmps7
    go_upto_region 1 with fail
    rw [HW.out]
    go_wp2_with (first | (go_at_call 30; refine (C1.out _ HB.out).mono ?_; rintro _ w3 ⟨v3, rfl, r3, b3⟩; have h3 := Bp.later HB.out b3; have R3 : Hid (ReadsN w3 v3 L) := r3; have H3 : Hid (Bp _ _ _ _ _ _ _ _ _ w3) := h3; obtain ⟨a0, a1, a2, a3, a4, a5, a6⟩ := h3.cells; clear h3 b3 r3) | (go_at_call 32; refine (C2.out _ H3.out).mono ?_; rintro _ w4 ⟨v4, rfl, r4, b4⟩; have H4 : Hid (Bp _ _ _ _ _ _ _ _ _ w4) := Bp.later H3.out b4; have R4 : Hid (ReadsN w4 v4 L ∧ ReadsN w4 v3 L) := ⟨r4, R3.out.later b4⟩; clear b4 r4) | (go_at_call 31; refine (sameIntsC v3 v4 L L w4 R4.out.2 R4.out.1 HLN.out HLN.out rfl).mono ?_; rintro _ w5 ⟨rfl, b5⟩; have H5 : Hid (Bp _ _ _ _ _ _ _ _ _ w5) := Bp.later H4.out b5; clear b5) | go_in)
    go_ret
    exact ⟨rfl, H5.out.1⟩
  by_cases e5 : dd = 5
  · subst e5
    have HR : Hid (recS s ⟨5, sp, k, n, m, key, text⟩ = s) := by show _ = _; unfold recS; simp
    rw [HR.out]
    have C1 : Hid (∀ w1, Bp w.heap.size g bn bd g' ⟨5, sp, k, n, m, key, text⟩ s s w0 w1 → Calls _ _ _ _ _) := fun w1 h1 => spac1  h1 
    have C2 : Hid (∀ w1, Bp w.heap.size g bn bd g' ⟨5, sp, k, n, m, key, text⟩ s s w0 w1 → Calls _ _ _ _ _) := fun w1 h1 => spac2  h1 
    have HLN : Hid ((spacesS s).length ≤ 140737488351232) := spac_len hok
    obtain ⟨L, HL⟩ : ∃ L, Hid ((spacesS s) = L) := ⟨_, rfl⟩
    rw [HL.out] at C1 C2 HLN
    clear e1 e2 e3 e4 HR HF
    go_enter Tryz.func7, Tryz.ntmps7
    go_upto_region 1 with fail
    rw [HW.out]
    go_wp2_with (first | (go_at_call 33; refine (C1.out _ HB.out).mono ?_; rintro _ w3 ⟨v3, rfl, r3, b3⟩; have h3 := Bp.later HB.out b3; have R3 : Hid (ReadsN w3 v3 L) := r3; have H3 : Hid (Bp _ _ _ _ _ _ _ _ _ w3) := h3; obtain ⟨a0, a1, a2, a3, a4, a5, a6⟩ := h3.cells; clear h3 b3 r3) | (go_at_call 34; refine (C2.out _ H3.out).mono ?_; rintro _ w4 ⟨v4, rfl, r4, b4⟩; have H4 : Hid (Bp _ _ _ _ _ _ _ _ _ w4) := Bp.later H3.out b4; have R4 : Hid (ReadsN w4 v4 L ∧ ReadsN w4 v3 L) := ⟨r4, R3.out.later b4⟩; clear b4 r4) | (go_at_call 31; refine (sameIntsC v3 v4 L L w4 R4.out.2 R4.out.1 HLN.out HLN.out rfl).mono ?_; rintro _ w5 ⟨rfl, b5⟩; have H5 : Hid (Bp _ _ _ _ _ _ _ _ _ w5) := Bp.later H4.out b5; clear b5) | go_in)
    go_ret
    exact ⟨rfl, H5.out.1⟩
  by_cases e6 : dd = 6
  · subst e6
    have HR : Hid (recS s ⟨6, sp, k, n, m, key, text⟩ = (wipeS s sp).2) := by show _ = _; unfold recS; simp
    rw [HR.out]
    have C1 : Hid (∀ w1, Bp w.heap.size g bn bd g' ⟨6, sp, k, n, m, key, text⟩ s s w0 w1 → Calls _ _ _ _ _) := fun w1 h1 => wipe1 sp h1 HF.out.sp hl
    have C2 : Hid (∀ w1, Bp w.heap.size g bn bd g' ⟨6, sp, k, n, m, key, text⟩ (wipeS s sp).2 s w0 w1 → Calls _ _ _ _ _) := fun w1 h1 => wipe2 sp h1 HF.out.sp hl
    obtain ⟨R, HRR⟩ : ∃ R, Hid (wipeS s sp = R) := ⟨_, rfl⟩
    rw [HRR.out] at C1 C2 ⊢
    clear e1 e2 e3 e4 e5 HR HF
    go_enter Tryz.func7, Tryz.ntmps7
    go_upto_region 1 with fail
    rw [HW.out]
    go_wp2_with (first | (go_at_call 35; refine (C1.out _ HB.out).mono ?_; rintro _ w3 ⟨rfl, h3⟩; have H3 : Hid (Bp _ _ _ _ _ _ _ _ _ w3) := h3; obtain ⟨a0, a1, a2, a3, a4, a5, a6⟩ := h3.cells; clear h3) | (go_at_call 36; refine (C2.out _ H3.out).mono ?_; rintro _ w4 ⟨rfl, h4⟩; have H4 : Hid (Bp _ _ _ _ _ _ _ _ _ w4) := h4; clear h4) | go_in)
    go_ret
    exact ⟨rfl, H4.out.1⟩
  have HR : Hid (recS s ⟨dd, sp, k, n, m, key, text⟩ = s) := by show _ = _; unfold recS; simp [e1, e3, e6]
  rw [HR.out]
  have g1 : (dd == 1) = false := by rw [beq_eq_false_iff_ne]; exact e1
  have g2 : (dd == 2) = false := by rw [beq_eq_false_iff_ne]; exact e2
  have g3 : (dd == 3) = false := by rw [beq_eq_false_iff_ne]; exact e3
  have g4 : (dd == 4) = false := by rw [beq_eq_false_iff_ne]; exact e4
  have g5 : (dd == 5) = false := by rw [beq_eq_false_iff_ne]; exact e5
  have g6 : (dd == 6) = false := by rw [beq_eq_false_iff_ne]; exact e6
  clear e1 e2 e3 e4 e5 e6 HR HF
  go_enter Tryz.func7, Tryz.ntmps7
  go_upto_region 1 with fail
  rw [HW.out]
  go_wp2
  go_ret
  exact ⟨rfl, HB.out.1⟩
end Go.Proofs.YtpcllegjnbeppaaGreat.jl

namespace Go.Proofs.YtpcllegjnbeppaaGreat.jm
open Go.RowKit Go.PlainAid Go.Maps Go.Shelf
open Go.Proofs.YtpcllegjnbeppaaGreat.kp Go.Proofs.YtpcllegjnbeppaaGreat.ka Go.Proofs.YtpcllegjnbeppaaGreat.ya Go.Proofs.YtpcllegjnbeppaaGreat.yb Go.Proofs.YtpcllegjnbeppaaGreat.yc Go.Proofs.YtpcllegjnbeppaaGreat.yd Go.Proofs.YtpcllegjnbeppaaGreat.ye Go.Proofs.YtpcllegjnbeppaaGreat.yf Go.Proofs.YtpcllegjnbeppaaGreat.yi Go.Proofs.YtpcllegjnbeppaaGreat.yk Go.Proofs.YtpcllegjnbeppaaGreat.yl Go.Proofs.YtpcllegjnbeppaaGreat.ym
open Go.Proofs.YtpcllegjnbeppaaGreat.tqa Go.Proofs.YtpcllegjnbeppaaGreat.tba Go.Proofs.YtpcllegjnbeppaaGreat.tbd Go.Proofs.YtpcllegjnbeppaaGreat.tbe
open Go.Proofs.YtpcllegjnbeppaaGreat.tqb (over keyC keyNo)
open Go.Proofs.YtpcllegjnbeppaaGreat.yj
open Go.Proofs.YtpcllegjnbeppaaGreat.ec (bdropS)
open Go.Proofs.YtpcllegjnbeppaaGreat.xc (Ds Rd Dt)
open Go.Proofs.YtpcllegjnbeppaaGreat.jg Go.Proofs.YtpcllegjnbeppaaGreat.jj
set_option linter.unusedVariables false
set_option linter.unusedSimpArgs false
open Go.Proofs.YtpcllegjnbeppaaGreat.jk
open Go.Proofs.YtpcllegjnbeppaaGreat.tda (keyR keyNoR)
open Go.Proofs.YtpcllegjnbeppaaGreat.tdb (frameR frameNoR frameBigR)
theorem frAny (k n : Int) (p : ByteArray) (w : World) (n1 : n ≤ 9223372036854775807) : Calls Tryz.prog 39 #[.int .i64 k, .int .i64 n, .string p] w fun e w' => ∃ x, e = .returned (.tuple #[.string (frB k n p), .int .i64 x]) ∧ Below w.heap.size w w' := by
  unfold frB
  by_cases h : 1 ≤ k ∧ k ≤ 255 ∧ 0 ≤ n
  · by_cases hp : p.size ≤ 524288
    · rw [if_pos ⟨h.1, h.2.1, h.2.2, hp⟩]
      exact (frameR k n p w h.1 h.2.1 h.2.2 n1 hp).mono fun e w' ⟨q1, q2⟩ => ⟨_, q1, q2⟩
    · rw [if_neg (fun z => hp z.2.2.2)]
      exact (frameBigR k n p w h.1 h.2.1 h.2.2 (by omega)).mono fun e w' ⟨q1, q2⟩ => ⟨_, q1, by rw [q2]; exact Below.refl _ _⟩
  · rw [if_neg (fun z => h ⟨z.1, z.2.1, z.2.2.1⟩)]
    exact (frameNoR k n p w h).mono fun e w' ⟨q1, q2⟩ => ⟨_, q1, by rw [q2]; exact Below.refl _ _⟩
theorem keAny (sp k n : Int) (w : World) (h1 : sp ≤ 9223372036854775807) (n1 : n ≤ 9223372036854775807) : Calls Tryz.prog 40 #[.int .i64 sp, .int .i64 k, .int .i64 n] w fun e w' => ∃ x, e = .returned (.tuple #[.string (keB sp k n), .int .i64 x]) ∧ Below w.heap.size w w' := by
  unfold keB
  by_cases h : 0 ≤ sp ∧ 1 ≤ k ∧ k ≤ 255 ∧ 0 ≤ n
  · rw [if_pos h]
    exact (keyR sp k n w h.1 h1 h.2.1 h.2.2.1 h.2.2.2 n1).mono fun e w' ⟨q1, q2⟩ => ⟨_, q1, q2⟩
  · rw [if_neg h]
    exact (keyNoR sp k n w h).mono fun e w' ⟨q1, q2⟩ => ⟨_, q1, by rw [q2]; exact Below.refl _ _⟩
set_option maxRecDepth 100000 in
set_option maxHeartbeats 12800000 in
theorem othersT {g bn bd g' : Nat} {s : S} {w0 w : World} (o : Stp) (h : Two g bn bd g' s s w0 w) (hf : Fine o) (hl : 2 * (s.dur.length + s.pend.length) + 1 < 3518437208883) (ha : s.age < 4398046511104) :
    Calls Tryz.prog 8 #[.pointer (some ⟨g, 0, none⟩), .pointer (some ⟨g', 0, none⟩), .agg (scs o)] w fun e w' => e = .returned (.tuple #[]) ∧ Two g bn bd g' (othS s o) (othS s o) w0 w' := by
  have hl1 : s.dur.length + s.pend.length + 1 < 3518437208883 := by omega
  obtain ⟨W, HW⟩ : ∃ W, Hid (w.alloc (.cells (scs o) 29) = W) := ⟨_, rfl⟩
  have hb : Bp w.heap.size g bn bd g' o s s w0 W := by rw [← HW.out]; exact Bp.box h
  have HB : Hid (Bp w.heap.size g bn bd g' o s s w0 W) := hb
  obtain ⟨c0, c1, c2, c3, c4, c5, c6⟩ := hb.cells
  have hok := hb.ok
  obtain ⟨dd, sp, k, n, m, key, text⟩ := o
  have HF : Hid (Fine _) := hf
  unfold scs at HW
  show Calls Tryz.prog 8 #[.pointer (some ⟨g, 0, none⟩), .pointer (some ⟨g', 0, none⟩), .agg #[.int .i64 dd, .int .i64 sp, .int .i64 k, .int .i64 n, .int .i64 m, .string key, .string text]] w _
  simp only at c0 c1 c2 c3 c4 c5 c6
  clear h hb hf
  by_cases e7 : dd = 7
  · subst e7
    have HR : Hid (othS s ⟨7, sp, k, n, m, key, text⟩ = (putS s key text).2) := by show _ = _; unfold othS; simp
    rw [HR.out]
    have C1 : Hid (∀ w1, Bp w.heap.size g bn bd g' ⟨7, sp, k, n, m, key, text⟩ s s w0 w1 → Calls _ _ _ _ _) := fun w1 h1 => sput1 key text h1 (by have := HF.out.key; simp only at this; omega) (by have := HF.out.text; simp only at this; omega) hl1
    have C2 : Hid (∀ w1, Bp w.heap.size g bn bd g' ⟨7, sp, k, n, m, key, text⟩ (putS s key text).2 s w0 w1 → Calls _ _ _ _ _) := fun w1 h1 => sput2 key text h1 (by have := HF.out.key; simp only at this; omega) (by have := HF.out.text; simp only at this; omega) hl1
    obtain ⟨R, HRR⟩ : ∃ R, Hid (putS s key text = R) := ⟨_, rfl⟩
    rw [HRR.out] at C1 C2 ⊢
    clear  HR HF
    go_enter Tryz.func8, Tryz.ntmps8
    go_upto_region 1 with fail
    rw [HW.out]
    go_wp2_with (first | (go_at_call 37; refine (C1.out _ HB.out).mono ?_; rintro _ w3 ⟨rfl, h3⟩; have H3 : Hid (Bp _ _ _ _ _ _ _ _ _ w3) := h3; obtain ⟨a0, a1, a2, a3, a4, a5, a6⟩ := h3.cells; clear h3) | (go_at_call 38; refine (C2.out _ H3.out).mono ?_; rintro _ w4 ⟨rfl, h4⟩; have H4 : Hid (Bp _ _ _ _ _ _ _ _ _ w4) := h4; clear h4) | go_in)
    go_end0
    exact ⟨rfl, H4.out.1⟩
  by_cases e8 : dd = 8
  · subst e8
    have HR : Hid (othS s ⟨8, sp, k, n, m, key, text⟩ = (putS s (keB sp k m) (frB k n text)).2) := by show _ = _; unfold othS; simp
    rw [HR.out]
    have CF : Hid (∀ w1, Calls Tryz.prog 39 #[.int .i64 k, .int .i64 n, .string text] w1 fun e w' => ∃ x, e = .returned (.tuple #[.string (frB k n text), .int .i64 x]) ∧ Below w1.heap.size w1 w') := fun w1 => frAny k n text w1 HF.out.n
    have CK : Hid (∀ w1, Calls Tryz.prog 40 #[.int .i64 sp, .int .i64 k, .int .i64 m] w1 fun e w' => ∃ x, e = .returned (.tuple #[.string (keB sp k m), .int .i64 x]) ∧ Below w1.heap.size w1 w') := fun w1 => keAny sp k m w1 HF.out.sp HF.out.m
    have z1 := frB_size k n text
    have z2 := keB_size sp k m
    have z3 := HF.out.text
    simp only at z3
    have C1 : Hid (∀ w1, Bp w.heap.size g bn bd g' ⟨8, sp, k, n, m, key, text⟩ s s w0 w1 → Calls _ _ _ _ _) := fun w1 h1 => sput1 (keB sp k m) (frB k n text) h1 (by omega) (by omega) hl1
    have C2 : Hid (∀ w1, Bp w.heap.size g bn bd g' ⟨8, sp, k, n, m, key, text⟩ (putS s (keB sp k m) (frB k n text)).2 s w0 w1 → Calls _ _ _ _ _) := fun w1 h1 => sput2 (keB sp k m) (frB k n text) h1 (by omega) (by omega) hl1
    clear z1 z2 z3
    generalize keB sp k m = KK at *
    generalize frB k n text = FF at *
    obtain ⟨R, HRR⟩ : ∃ R, Hid (putS s KK FF = R) := ⟨_, rfl⟩
    rw [HRR.out] at C1 C2 ⊢
    clear e7 HR HF
    go_enter Tryz.func8, Tryz.ntmps8
    go_upto_region 1 with fail
    rw [HW.out]
    go_wp2_with (first | (go_at_call 39; refine (CF.out _).mono ?_; rintro _ w5 ⟨x5, rfl, b5⟩; have h5 := Bp.later HB.out b5; have H5 : Hid (Bp _ _ _ _ _ _ _ _ _ w5) := h5; obtain ⟨a0, a1, a2, a3, a4, a5, a6⟩ := h5.cells; clear h5 b5) | (go_at_call 40; refine (CK.out _).mono ?_; rintro _ w6 ⟨x6, rfl, b6⟩; have H6 : Hid (Bp _ _ _ _ _ _ _ _ _ w6) := Bp.later H5.out b6; clear b6) | (go_at_call 37; refine (C1.out _ H6.out).mono ?_; rintro _ w3 ⟨rfl, h3⟩; have H3 : Hid (Bp _ _ _ _ _ _ _ _ _ w3) := h3; clear h3) | (go_at_call 38; refine (C2.out _ H3.out).mono ?_; rintro _ w4 ⟨rfl, h4⟩; have H4 : Hid (Bp _ _ _ _ _ _ _ _ _ w4) := h4; clear h4) | go_in)
    go_end0
    exact ⟨rfl, H4.out.1⟩
  by_cases e9 : dd = 9
  · subst e9
    have HR : Hid (othS s ⟨9, sp, k, n, m, key, text⟩ = (syncS s).2) := by show _ = _; unfold othS; simp
    rw [HR.out]
    have C1 : Hid (∀ w1, Bp w.heap.size g bn bd g' ⟨9, sp, k, n, m, key, text⟩ s s w0 w1 → Calls _ _ _ _ _) := fun w1 h1 => sync1  h1 
    have C2 : Hid (∀ w1, Bp w.heap.size g bn bd g' ⟨9, sp, k, n, m, key, text⟩ (syncS s).2 s w0 w1 → Calls _ _ _ _ _) := fun w1 h1 => sync2  h1 
    obtain ⟨R, HRR⟩ : ∃ R, Hid (syncS s = R) := ⟨_, rfl⟩
    rw [HRR.out] at C1 C2 ⊢
    clear e7 e8 HR HF
    go_enter Tryz.func8, Tryz.ntmps8
    go_upto_region 1 with fail
    rw [HW.out]
    go_wp2_with (first | (go_at_call 19; refine (C1.out _ HB.out).mono ?_; rintro _ w3 ⟨rfl, h3⟩; have H3 : Hid (Bp _ _ _ _ _ _ _ _ _ w3) := h3; obtain ⟨a0, a1, a2, a3, a4, a5, a6⟩ := h3.cells; clear h3) | (go_at_call 20; refine (C2.out _ H3.out).mono ?_; rintro _ w4 ⟨rfl, h4⟩; have H4 : Hid (Bp _ _ _ _ _ _ _ _ _ w4) := h4; clear h4) | go_in)
    go_end0
    exact ⟨rfl, H4.out.1⟩
  by_cases e10 : dd = 10
  · subst e10
    have HR : Hid (othS s ⟨10, sp, k, n, m, key, text⟩ = armS s m) := by show _ = _; unfold othS; simp
    rw [HR.out]
    have C1 : Hid (∀ w1, Bp w.heap.size g bn bd g' ⟨10, sp, k, n, m, key, text⟩ s s w0 w1 → Calls _ _ _ _ _) := fun w1 h1 => arm1 m h1 HF.out.m
    have C2 : Hid (∀ w1, Bp w.heap.size g bn bd g' ⟨10, sp, k, n, m, key, text⟩ (armS s m) s w0 w1 → Calls _ _ _ _ _) := fun w1 h1 => arm2 m h1 HF.out.m
    obtain ⟨R, HRR⟩ : ∃ R, Hid (armS s m = R) := ⟨_, rfl⟩
    rw [HRR.out] at C1 C2 ⊢
    clear e7 e8 e9 HR HF
    go_enter Tryz.func8, Tryz.ntmps8
    go_upto_region 1 with fail
    rw [HW.out]
    go_wp2_with (first | (go_at_call 17; refine (C1.out _ HB.out).mono ?_; rintro _ w3 ⟨rfl, h3⟩; have H3 : Hid (Bp _ _ _ _ _ _ _ _ _ w3) := h3; obtain ⟨a0, a1, a2, a3, a4, a5, a6⟩ := h3.cells; clear h3) | (go_at_call 18; refine (C2.out _ H3.out).mono ?_; rintro _ w4 ⟨rfl, h4⟩; have H4 : Hid (Bp _ _ _ _ _ _ _ _ _ w4) := h4; clear h4) | go_in)
    go_end0
    exact ⟨rfl, H4.out.1⟩
  by_cases e11 : dd = 11
  · subst e11
    have HR : Hid (othS s ⟨11, sp, k, n, m, key, text⟩ = crashS s text) := by show _ = _; unfold othS; simp
    rw [HR.out]
    have C1 : Hid (∀ w1, Bp w.heap.size g bn bd g' ⟨11, sp, k, n, m, key, text⟩ s s w0 w1 → Calls _ _ _ _ _) := fun w1 h1 => crash1 text h1 (by have := HF.out.text; simp only at this; omega) ha
    have C2 : Hid (∀ w1, Bp w.heap.size g bn bd g' ⟨11, sp, k, n, m, key, text⟩ (crashS s text) s w0 w1 → Calls _ _ _ _ _) := fun w1 h1 => crash2 text h1 (by have := HF.out.text; simp only at this; omega) ha
    obtain ⟨R, HRR⟩ : ∃ R, Hid (crashS s text = R) := ⟨_, rfl⟩
    rw [HRR.out] at C1 C2 ⊢
    clear e7 e8 e9 e10 HR HF
    go_enter Tryz.func8, Tryz.ntmps8
    go_upto_region 1 with fail
    rw [HW.out]
    go_wp2_with (first | (go_at_call 41; refine (C1.out _ HB.out).mono ?_; rintro _ w3 ⟨rfl, h3⟩; have H3 : Hid (Bp _ _ _ _ _ _ _ _ _ w3) := h3; obtain ⟨a0, a1, a2, a3, a4, a5, a6⟩ := h3.cells; clear h3) | (go_at_call 42; refine (C2.out _ H3.out).mono ?_; rintro _ w4 ⟨rfl, h4⟩; have H4 : Hid (Bp _ _ _ _ _ _ _ _ _ w4) := h4; clear h4) | go_in)
    go_end0
    exact ⟨rfl, H4.out.1⟩
  have HR : Hid (othS s ⟨dd, sp, k, n, m, key, text⟩ = s) := by show _ = _; unfold othS; simp [e7, e8, e9, e10, e11]
  rw [HR.out]
  have g7 : (dd == 7) = false := by rw [beq_eq_false_iff_ne]; exact e7
  have g8 : (dd == 8) = false := by rw [beq_eq_false_iff_ne]; exact e8
  have g9 : (dd == 9) = false := by rw [beq_eq_false_iff_ne]; exact e9
  have g10 : (dd == 10) = false := by rw [beq_eq_false_iff_ne]; exact e10
  have g11 : (dd == 11) = false := by rw [beq_eq_false_iff_ne]; exact e11
  clear e7 e8 e9 e10 e11 HR HF
  go_enter Tryz.func8, Tryz.ntmps8
  go_upto_region 1 with fail
  rw [HW.out]
  go_wp2
  go_end0
  exact ⟨rfl, HB.out.1⟩
end Go.Proofs.YtpcllegjnbeppaaGreat.jm

namespace Go.Proofs.YtpcllegjnbeppaaGreat.xi
open Go.RowKit Go.PlainAid Go.Maps Go.Shelf
open Go.Proofs.YtpcllegjnbeppaaGreat.ca Go.Proofs.YtpcllegjnbeppaaGreat.cb Go.Proofs.YtpcllegjnbeppaaGreat.cp Go.Proofs.YtpcllegjnbeppaaGreat.kp Go.Proofs.YtpcllegjnbeppaaGreat.ka Go.Proofs.YtpcllegjnbeppaaGreat.ya Go.Proofs.YtpcllegjnbeppaaGreat.yb Go.Proofs.YtpcllegjnbeppaaGreat.yc Go.Proofs.YtpcllegjnbeppaaGreat.yd Go.Proofs.YtpcllegjnbeppaaGreat.ye Go.Proofs.YtpcllegjnbeppaaGreat.yf Go.Proofs.YtpcllegjnbeppaaGreat.yi Go.Proofs.YtpcllegjnbeppaaGreat.yo Go.Proofs.YtpcllegjnbeppaaGreat.yp Go.Proofs.YtpcllegjnbeppaaGreat.zf Go.Proofs.YtpcllegjnbeppaaGreat.zg Go.Proofs.YtpcllegjnbeppaaGreat.xa Go.Proofs.YtpcllegjnbeppaaGreat.xb Go.Proofs.YtpcllegjnbeppaaGreat.xc
set_option linter.unusedVariables false
set_option linter.unusedSimpArgs false
abbrev bc := Lib.byteCells
theorem bc_str (s : ByteArray) : Lib.strCells s = bc (bs s) := by
  simp [Lib.strCells, Lib.byteCells, bs]
theorem bc_app (l l' : List UInt8) : bc (l ++ l') = bc l ++ bc l' := by simp [bc, Lib.byteCells]
theorem bc_len (l : List UInt8) : (bc l).length = l.length := by simp [bc, Lib.byteCells]
theorem info_u8 : (Tryz.prog.info? 5).map (fun i => (i.zero, i.size, i.bytes)) = some (some (.int .u8 0), 1, 1) := by kernel_rfl
-- a row of bytes of the call's own, read as a text
theorem conv_own {B : Nat} {v : Value} {l : List UInt8} {w : World} (h : w.ownsRow B 5 1 v l.length (bc l)) (hp : 0 < l.length) : (convert 84 9 v).run Tryz.prog w = .ok (.string (tx l)) w := by
  rcases h.2 with ⟨_, h0⟩ | ⟨g, cap, cur, rfl, _, h3, h4, h5, h6, h7⟩
  · omega
  · rw [run_convert_bytes_string _ 84 9 5 _ _ _ Tryz.underlying84 Tryz.underlying5 Tryz.underlying9]
    have e1 : tx l = (l.map fun b => (b.toNat : Int)).foldl (fun r n => r.push (UInt8.ofNat n.toNat)) ByteArray.empty := by
      apply bs_inj
      rw [bs_tx]
      have := nb.foldl_data (l.map fun b => (b.toNat : Int)) ByteArray.empty
      unfold bs
      rw [this]
      have hid : ((fun n : Int => UInt8.ofNat n.toNat) ∘ fun b : UInt8 => (b.toNat : Int)) = id := by funext b; simp
      simp [hid]
    rw [e1]
    refine run_bytesToString _ _ _ _ (l.map fun b => (b.toNat : Int)) ?_
    have h8 := run_loadCells_list (P := Tryz.prog) (w := w) ⟨g, 0, none⟩ ((l.map fun b => (b.toNat : Int)).map (Value.int .u8)) ?_
    · simpa using h8
    · intro j x hj
      have e : (Addr.add ⟨g, 0, none⟩ j) = ⟨g, j, none⟩ := by simp [Addr.add]; omega
      have hjl : j < l.length := by
        have := (List.getElem?_eq_some_iff.1 hj).1
        simpa using this
      rw [e, cell_of_row _ _ _ _ _ _ h3]
      have h9 : (cur.toList.take (l.length * 1))[j]? = (bc l)[j]? := by rw [h7]
      rw [List.getElem?_take_of_lt (by omega)] at h9
      have h10 : (bc l)[j]? = some x := by
        rw [← hj]; simp only [bc, Lib.byteCells, List.getElem?_map, Option.map_map]; rfl
      rw [h10] at h9
      simpa using h9
theorem tr1 : (5 : Nat) ≠ 97 := by decide
structure Im (w : World) (bv : Value) (l : List UInt8) (pk pd : ByteArray) (pb : Nat) (wx : World) : Prop where
  own : wx.ownsRow w.heap.size 5 1 bv l.length (bc l)
  bl : Below w.heap.size w wx
  box : wx.heap[pb]? = some (.cells #[.string pk, .string pd] 97 (0, 0))
theorem Im.later {w w1 w2 : World} {bv : Value} {l : List UInt8} {pk pd : ByteArray} {pb : Nat} (h : Im w bv l pk pd pb w1) (b : Below w1.heap.size w1 w2) : Im w bv l pk pd pb w2 :=
  ⟨own_kp h.own (Kp.of_below (A := fun _ => False) b) (fun _ _ e => e), over h.bl b, (b.block _ (Array.getElem?_eq_some_iff.1 h.box).1).trans h.box⟩
theorem Im.grown {w w1 w2 : World} {bv bv' : Value} {l l' : List UInt8} {pk pd : ByteArray} {pb : Nat} (h : Im w bv l pk pd pb w1) (o : w2.ownsRow w.heap.size 5 1 bv' (l.length + l'.length) (bc l ++ bc l')) (hg : w1.grownBy w2 bv.ownBlock) : Im w bv' (l ++ l') pk pd pb w2 := by
  refine ⟨?_, below_grownBy h.bl hg (Nat.le_refl _) (fun i hi => (h.own.lt _ hi).1), (hg.block _ (Array.getElem?_eq_some_iff.1 h.box).1 (own_tag h.own h.box tr1)).trans h.box⟩
  rw [List.length_append, bc_app]
  exact o
theorem Im.cells {w w1 : World} {bv : Value} {l : List UInt8} {pk pd : ByteArray} {pb : Nat} (h : Im w bv l pk pd pb w1) : w1.cell? ⟨pb, 0, none⟩ = some (.string pk) ∧ w1.cell? ⟨pb, 1, none⟩ = some (.string pd) :=
  ⟨cell_of_row _ _ 0 _ _ _ h.box, cell_of_row _ _ 1 _ _ _ h.box⟩
theorem new_four (W : World) (u v x y : Value) (t : TypeId) : ∀ (j : Nat) (z : Value), [u, v, x, y][j]? = some z → (W.alloc (.cells #[u, v, x, y] t)).cell? (Addr.add ⟨W.heap.size, 0, none⟩ j) = some z := by
  intro j z h
  have hb : (W.alloc (.cells #[u, v, x, y] t)).heap[W.heap.size]? = some (.cells #[u, v, x, y] t (0, 0)) := (MapKept.heap_alloc W _).1
  have e : (Addr.add ⟨W.heap.size, 0, none⟩ j) = ⟨W.heap.size, j, none⟩ := by simp [Addr.add]; omega
  rw [e, cell_of_row _ _ j _ _ _ hb]
  simpa using h
theorem bytes1 (n : Nat) (h : n < 256) : bc (beN 1 n 1) = [.int .u8 n] := by
  simp [bc, Lib.byteCells, beN]
  omega
theorem bytes4 (n : Nat) (h : n < 16777216) : bc (beN 4 n 4) = [.int .u8 0, .int .u8 ((n / 65536 % 256 : Nat) : Int), .int .u8 ((n / 256 % 256 : Nat) : Int), .int .u8 ((n % 256 : Nat) : Int)] := by
  simp [bc, Lib.byteCells, beN]
  omega
end Go.Proofs.YtpcllegjnbeppaaGreat.xi

namespace Go.Proofs.YtpcllegjnbeppaaGreat.xj
open Go.RowKit Go.PlainAid Go.Maps Go.Shelf
open Go.Proofs.YtpcllegjnbeppaaGreat.ca Go.Proofs.YtpcllegjnbeppaaGreat.cb Go.Proofs.YtpcllegjnbeppaaGreat.cp Go.Proofs.YtpcllegjnbeppaaGreat.kp Go.Proofs.YtpcllegjnbeppaaGreat.ka Go.Proofs.YtpcllegjnbeppaaGreat.ya Go.Proofs.YtpcllegjnbeppaaGreat.yb Go.Proofs.YtpcllegjnbeppaaGreat.yc Go.Proofs.YtpcllegjnbeppaaGreat.yd Go.Proofs.YtpcllegjnbeppaaGreat.ye Go.Proofs.YtpcllegjnbeppaaGreat.yf Go.Proofs.YtpcllegjnbeppaaGreat.yi Go.Proofs.YtpcllegjnbeppaaGreat.yo Go.Proofs.YtpcllegjnbeppaaGreat.yp Go.Proofs.YtpcllegjnbeppaaGreat.zf Go.Proofs.YtpcllegjnbeppaaGreat.zg Go.Proofs.YtpcllegjnbeppaaGreat.xa Go.Proofs.YtpcllegjnbeppaaGreat.xb Go.Proofs.YtpcllegjnbeppaaGreat.xc Go.Proofs.YtpcllegjnbeppaaGreat.xi
set_option linter.unusedVariables false
set_option linter.unusedSimpArgs false
theorem one_i (x : Int) : ∀ u ∈ [Value.int .u8 x], u.oneCell' = true := by
  intro u hu; simp only [List.mem_cons, List.not_mem_nil, or_false] at hu; rcases hu with rfl; rfl
theorem four_i (a b c d : Int) : ∀ u ∈ [Value.int .u8 a, .int .u8 b, .int .u8 c, .int .u8 d], u.oneCell' = true := by
  intro u hu; simp only [List.mem_cons, List.not_mem_nil, or_false] at hu; rcases hu with rfl | rfl | rfl | rfl <;> rfl
theorem imageT_tx (r : List Rec) : imageT r = tx (imgB r) := rfl
set_option maxRecDepth 40000 in
set_option maxHeartbeats 12800000 in
theorem imageD {B g : Nat} {dv wv vv : Value} {s : S} {w : World} (h : Ds B g dv wv vv s w) (hz : isz s.dur ≤ 140737488355000) :
    Calls Tryz.prog 16 #[.pointer (some ⟨g, 0, none⟩)] w fun e w' => e = .returned (.string (imageT s.dur)) ∧ Below w.heap.size w w' := by
  have H : Hid (Ds B g dv wv vv s w) := h
  obtain ⟨da, dc, hdv⟩ := lr_form h.dl
  subst hdv
  obtain ⟨i0, hi, hz0, hz1, hz2⟩ := info_parts info_u8
  have HIN : Hid (_ ∧ _ ∧ _ ∧ _) := ⟨hi, hz0, hz1, hz2⟩
  clear hi hz0 hz1 hz2
  have DC : Hid (∀ (j : Nat) (p : Rec), s.dur[j]? = some p → (p.1.size ≤ 64 ∧ p.2.size ≤ 1048576) ∧ ∃ gv, da = some ⟨gv, 0, none⟩ ∧ ∀ wr, Below w.heap.size w wr → wr.cell? ⟨gv, j * 2, none⟩ = some (.string p.1) ∧ wr.cell? ⟨gv, j * 2 + 1, none⟩ = some (.string p.2)) := fun j p hp => by
    obtain ⟨gv, e, hg, q1, q2⟩ := lr_at H.out.dl j p hp
    have hk := H.out.ok.dur p (List.mem_of_getElem? hp)
    exact ⟨⟨hk.2.1, hk.2.2⟩, gv, e, fun wr b => ⟨(b.cell hg).trans q1, (b.cell hg).trans q2⟩⟩
  have C1 : Hid (∀ wr, Below w.heap.size w wr → wr.cell? ⟨g, 1, none⟩ = some (.slice da s.dur.length dc)) := fun wr b => (H.out.later b).row.c1
  obtain ⟨D, HD⟩ : ∃ D, Hid (s.dur = D) := ⟨_, rfl⟩
  rw [HD.out] at DC C1 hz ⊢
  obtain ⟨L, hL⟩ : ∃ L, D.length = L := ⟨_, rfl⟩
  have HLL : Hid _ := hL
  have hLb : L ≤ 140737488355000 := by have := len_isz D; omega
  rw [hL] at C1
  rw [imageT_tx]
  clear h hL
  have A0 : Hid (World.ownsRow (w.alloc (.cells #[.int .u8 83] 5)) w.heap.size 5 1 (.slice none 0 0) 0 []) := World.ownsRow_nil _ _ _ _
  have b0 : Hid (Below w.heap.size w (w.alloc (.cells #[.int .u8 83] 5))) := (Below.refl _ w).alloc (Nat.le_refl _) _
  go_enter Tryz.func16, Tryz.ntmps16
  go_wp2_with (first | (at_builtin; (refine wpList_append_own _ rfl _ _ 84 rfl w.heap.size 5 i0 (.int .u8 0) 1 1 Tryz.underlying84 HIN.out.1 HIN.out.2.1 HIN.out.2.2.1 HIN.out.2.2.2 rfl (by decide) _ 0 _ rfl A0.out ⟨w.heap.size, 0, none⟩ 1 1 [.int .u8 83] rfl rfl (new_text _ _ _) (one_i _) (by unfold maxLen; omega) (by omega) (by simp; try omega) ?_; intro v1 w1 ho hg hnn; have HO1 : Hid (World.ownsRow _ _ _ _ _ _ _) := ho; have HG1 : Hid (World.grownBy _ _ _) := hg; clear ho hg hnn)) | go_in)
  have I1 : Hid (w1.ownsRow w.heap.size 5 1 v1 (imgB (D.take 0)).length (bc (imgB (D.take 0))) ∧ Below w.heap.size w w1) := ⟨HO1.out, below_grownBy b0.out HG1.out (Nat.le_refl _) (fun i hi => by cases hi)⟩
  clear HO1 HG1 A0 b0
  go_loopw [3, 4] (fun bv iv wr => ∃ j : Nat, j ≤ L ∧ iv = .int .i64 j ∧ Hid (wr.ownsRow w.heap.size 5 1 bv (imgB (D.take j)).length (bc (imgB (D.take j))) ∧ Below w.heap.size w wr)) (fun _ iv _ => (L - intOf iv).toNat)
  case atStart => exact ⟨0, Nat.zero_le _, rfl, I1.out⟩
  case round =>
    clear I1
    obtain ⟨j, hj, rfl, HH⟩ := hrel
    have c1 := C1.out wr HH.out.2
    obtain ⟨oa, oc, hov⟩ := own_formS HH.out.1
    subst hov
    by_cases hlt : j < L
    · have hlt' : (j : Int) < L := by omega
      have HJ1 : Hid (j + 1 ≤ L) := hlt
      obtain ⟨p, hp⟩ : ∃ p, D[j]? = some p := ⟨_, List.getElem?_eq_getElem (by have := HLL.out; omega)⟩
      obtain ⟨⟨hpk, hpd⟩, gv, hda, hcx⟩ := DC.out j p hp
      obtain ⟨q0, q1⟩ := hcx wr HH.out.2
      have hnx := img_next D j p hp
      have hi1 := imgB_len (D.take j)
      have hi2 := imgB_len (D.take (j + 1))
      have hi3 := isz_take D (j + 1)
      have hi4 := isz_at D j p hp
      obtain ⟨pk, pd⟩ := p
      simp only at hpk hpd q0 q1 hnx hi4
      obtain ⟨I, HI⟩ : ∃ I, Hid (imgB (D.take j) = I) := ⟨_, rfl⟩
      rw [HI.out] at hnx HH hi1 ⊢
      obtain ⟨n, HN⟩ : ∃ n, Hid (I.length = n) := ⟨_, rfl⟩
      have hn0 := HN.out
      rw [HN.out] at HH ⊢
      have hnb : n + 1 + pk.size + 4 + pd.size ≤ 140737488355000 := by omega
      have HNX : Hid (imgB (D.take (j + 1)) = ((I ++ beN 1 pk.size 1) ++ bs pk ++ beN 4 pd.size 4) ++ bs pd) := by
        show _ = _
        rw [hnx]; simp only [recB, List.append_assoc]
      subst hda
      clear hp hcx hnx hi1 hi2 hi3 hi4
      obtain ⟨wa, HWA⟩ : ∃ x, x = wr.alloc (.cells #[.string pk, .string pd] 97) := ⟨_, rfl⟩
      obtain ⟨pb, hpb⟩ : ∃ x, wr.heap.size = x := ⟨_, rfl⟩
      have M0 : Hid (Im w (.slice oa n oc) I pk pd pb wa) := by
        rw [HWA, ← hpb]
        have b : Below wr.heap.size wr (wr.alloc (.cells #[.string pk, .string pd] 97)) := (Below.refl _ wr).alloc (Nat.le_refl _) _
        exact ⟨by rw [HN.out]; exact own_kp HH.out.1 (Kp.of_below (A := fun _ => False) b) (fun _ _ e => e), over HH.out.2 b, heap_alloc_new wr _⟩
      go_upto_region 7 with fail
      rw [← HWA]
      clear HWA hpb q0 q1 c1
      obtain ⟨r0, r1⟩ := M0.out.cells
      have hwk : IntKind.u8.wrap (pk.size : Int) = (pk.size : Int) := by rw [IntKind.wrap_u8]; omega
      have hs0 : w.heap.size ≤ wa.heap.size := M0.out.bl.size
      have M1 : Hid (Im w (.slice oa n oc) I pk pd pb (wa.alloc (.cells #[.int .u8 (pk.size : Int)] 5))) := M0.out.later ((Below.refl _ wa).alloc (Nat.le_refl _) _)
      have R1 : Hid (World.ownsRow (wa.alloc (.cells #[.int .u8 (pk.size : Int)] 5)) w.heap.size 5 1 (.slice oa n oc) n (bc I)) := by have := M1.out.own; rw [HN.out] at this; exact this
      go_upto_region 9 with (first | (at_builtin; (refine wpList_append_own _ rfl _ _ 84 rfl w.heap.size 5 i0 (.int .u8 0) 1 1 Tryz.underlying84 HIN.out.1 HIN.out.2.1 HIN.out.2.2.1 HIN.out.2.2.2 rfl (by decide) _ n _ rfl R1.out ⟨wa.heap.size, 0, none⟩ 1 1 [.int .u8 (pk.size : Int)] rfl rfl (new_text _ _ _) (one_i _) (by unfold maxLen; omega) (by omega) (by simp; omega) ?_; intro v1 w1 ho hg hnn; have HO1 : Hid (World.ownsRow _ _ _ _ _ _ _) := ho; have HG1 : Hid (World.grownBy _ _ _) := hg; clear ho hg hnn)) | go_in)
      have M2 : Hid (Im w v1 (I ++ beN 1 pk.size 1) pk pd pb w1) := M1.out.grown (by rw [HN.out, beN_len, bytes1 _ (by omega)]; exact HO1.out) HG1.out
      obtain ⟨r2, r3⟩ := M2.out.cells
      have hs1 : w.heap.size ≤ w1.heap.size := M2.out.bl.size
      have R2 : Hid (World.ownsRow w1 w.heap.size 5 1 v1 (n + 1) (bc (I ++ beN 1 pk.size 1))) := by have := M2.out.own; rw [List.length_append, beN_len, HN.out] at this; exact this
      clear M0 M1 R1 HO1 HG1 r0 r1
      go_upto_region 10 with (first | (at_builtin; (refine Lib.wpList_append_own_string _ rfl _ _ 84 9 rfl w.heap.size 5 i0 Tryz.underlying84 Tryz.underlying9 HIN.out.1 HIN.out.2.1 HIN.out.2.2.1 HIN.out.2.2.2 _ (n + 1) _ rfl R2.out pk rfl (by unfold maxLen; omega) (by omega) (by omega) ?_; intro v2 w2 ho hg hnn; have HO2 : Hid (World.ownsRow _ _ _ _ _ _ _) := ho; have HG2 : Hid (World.grownBy _ _ _) := hg; clear ho hg hnn)) | go_in)
      have M3 : Hid (Im w v2 (I ++ beN 1 pk.size 1 ++ bs pk) pk pd pb w2) := M2.out.grown (by have := HO2.out; rw [bc_str] at this; rw [List.length_append, beN_len, HN.out, bs_len]; exact this) HG2.out
      obtain ⟨r4, r5⟩ := M3.out.cells
      have hs2 : w.heap.size ≤ w2.heap.size := M3.out.bl.size
      obtain ⟨z, hz1⟩ : ∃ z, pd.size = z := ⟨_, rfl⟩
      obtain ⟨a2, ha2⟩ : ∃ x, z / 65536 = x := ⟨_, rfl⟩
      obtain ⟨a3, ha3⟩ : ∃ x, z / 256 = x := ⟨_, rfl⟩
      obtain ⟨b2, hb2⟩ : ∃ x, a2 % 256 = x := ⟨_, rfl⟩
      obtain ⟨b3, hb3⟩ : ∃ x, a3 % 256 = x := ⟨_, rfl⟩
      obtain ⟨b4, hb4⟩ : ∃ x, z % 256 = x := ⟨_, rfl⟩
      have HB4 : Hid (bc (beN 4 pd.size 4) = [.int .u8 0, .int .u8 (b2 : Int), .int .u8 (b3 : Int), .int .u8 (b4 : Int)]) := by
        show _ = _
        rw [bytes4 pd.size (by omega), hz1, ha2, ha3, hb2, hb3, hb4]
      have e1 : Int.tdiv (z : Int) 16777216 = 0 := by
        have h1 : Int.tdiv (z : Int) 16777216 = ((z / 16777216 : Nat) : Int) := rfl
        rw [h1, Nat.div_eq_of_lt (by omega)]; rfl
      have e2 : Int.tdiv (z : Int) 65536 = (a2 : Int) := by rw [← ha2]; rfl
      have e3 : Int.tdiv (z : Int) 256 = (a3 : Int) := by rw [← ha3]; rfl
      have e4 : Int.tmod (a2 : Int) 256 = (b2 : Int) := by rw [← hb2]; rfl
      have e5 : Int.tmod (a3 : Int) 256 = (b3 : Int) := by rw [← hb3]; rfl
      have e6 : Int.tmod (z : Int) 256 = (b4 : Int) := by rw [← hb4]; rfl
      have hb2' : b2 < 256 := by omega
      have hb3' : b3 < 256 := by omega
      have hb4' : b4 < 256 := by omega
      have ha2' : a2 ≤ 1048576 := by omega
      have ha3' : a3 ≤ 1048576 := by omega
      have w1' : IntKind.i64.wrap (a2 : Int) = a2 := wrap_is _ (by omega)
      have w2' : IntKind.i64.wrap (a3 : Int) = a3 := wrap_is _ (by omega)
      have w3 : IntKind.i64.wrap (b2 : Int) = b2 := wrap_is _ (by omega)
      have w4 : IntKind.i64.wrap (b3 : Int) = b3 := wrap_is _ (by omega)
      have w5 : IntKind.i64.wrap (b4 : Int) = b4 := wrap_is _ (by omega)
      have w6 : IntKind.u8.wrap (b2 : Int) = b2 := by rw [IntKind.wrap_u8]; omega
      have w7 : IntKind.u8.wrap (b3 : Int) = b3 := by rw [IntKind.wrap_u8]; omega
      have w8 : IntKind.u8.wrap (b4 : Int) = b4 := by rw [IntKind.wrap_u8]; omega
      have M4 : Hid (Im w v2 (I ++ beN 1 pk.size 1 ++ bs pk) pk pd pb (w2.alloc (.cells #[.int .u8 0, .int .u8 (b2 : Int), .int .u8 (b3 : Int), .int .u8 (b4 : Int)] 5))) := M3.out.later ((Below.refl _ w2).alloc (Nat.le_refl _) _)
      have R4 : Hid (World.ownsRow (w2.alloc (.cells #[.int .u8 0, .int .u8 (b2 : Int), .int .u8 (b3 : Int), .int .u8 (b4 : Int)] 5)) w.heap.size 5 1 v2 (n + 1 + pk.size) (bc (I ++ beN 1 pk.size 1 ++ bs pk))) := by have := M4.out.own; rw [List.length_append, List.length_append, beN_len, HN.out, bs_len] at this; exact this
      have hzz : z ≤ 1048576 := by omega
      have hnz : n + 1 + pk.size + 4 + z ≤ 140737488355000 := by omega
      clear ha2 ha3 hb2 hb3 hb4 M2 R2 HO2 HG2 r2 r3
      go_upto_region 11 with (first | (at_builtin; (refine wpList_append_own _ rfl _ _ 84 rfl w.heap.size 5 i0 (.int .u8 0) 1 1 Tryz.underlying84 HIN.out.1 HIN.out.2.1 HIN.out.2.2.1 HIN.out.2.2.2 rfl (by decide) _ (n + 1 + pk.size) _ rfl R4.out ⟨w2.heap.size, 0, none⟩ 4 4 [.int .u8 0, .int .u8 (b2 : Int), .int .u8 (b3 : Int), .int .u8 (b4 : Int)] rfl rfl (new_four _ _ _ _ _ _) (four_i _ _ _ _) (by unfold maxLen; omega) (by omega) (by simp; omega) ?_; intro v3 w9 ho hg hnn; have HO3 : Hid (World.ownsRow _ _ _ _ _ _ _) := ho; have HG3 : Hid (World.grownBy _ _ _) := hg; clear ho hg hnn)) | go_in)
      have M5 : Hid (Im w v3 (I ++ beN 1 pk.size 1 ++ bs pk ++ beN 4 pd.size 4) pk pd pb w9) := M4.out.grown (by rw [List.length_append, List.length_append, beN_len, beN_len, HN.out, bs_len, HB4.out]; exact HO3.out) HG3.out
      obtain ⟨r6, r7⟩ := M5.out.cells
      have hs3 : w.heap.size ≤ w9.heap.size := M5.out.bl.size
      have R5 : Hid (World.ownsRow w9 w.heap.size 5 1 v3 (n + 1 + pk.size + 4) (bc (I ++ beN 1 pk.size 1 ++ bs pk ++ beN 4 pd.size 4))) := by have := M5.out.own; rw [List.length_append, List.length_append, List.length_append, beN_len, beN_len, HN.out, bs_len] at this; exact this
      clear M4 R4 HO3 HG3 r4 r5
      go_wp2_with (first | (at_builtin; (refine Lib.wpList_append_own_string _ rfl _ _ 84 9 rfl w.heap.size 5 i0 Tryz.underlying84 Tryz.underlying9 HIN.out.1 HIN.out.2.1 HIN.out.2.2.1 HIN.out.2.2.2 _ (n + 1 + pk.size + 4) _ rfl R5.out pd rfl (by unfold maxLen; omega) (by omega) (by omega) ?_; intro v4 w10 ho hg hnn; have HO4 : Hid (World.ownsRow _ _ _ _ _ _ _) := ho; have HG4 : Hid (World.grownBy _ _ _) := hg; clear ho hg hnn)) | go_in)
      have M6 : Hid (Im w v4 (I ++ beN 1 pk.size 1 ++ bs pk ++ beN 4 pd.size 4 ++ bs pd) pk pd pb w10) := M5.out.grown (by have := HO4.out; rw [bc_str] at this; rw [List.length_append, List.length_append, List.length_append, beN_len, beN_len, HN.out, bs_len, bs_len]; exact this) HG4.out
      go_roundw
      case rel => exact ⟨j + 1, HJ1.out, by go_num, by rw [HNX.out]; exact ⟨M6.out.own, M6.out.bl⟩⟩
      case measure => have hj1 := HJ1.out; simp [intOf]; omega
    · have hlt' : ¬ (j : Int) < L := by omega
      have e : D.take j = D := List.take_of_length_le (by have := HLL.out; omega)
      rw [e] at HH ⊢
      have h1 := HH.out
      have hpos : 0 < (imgB D).length := by rw [imgB_len]; have := len_isz D; omega
      have HCV : Hid (Below w.heap.size w wr) := h1.2
      have hcv := conv_own h1.1 hpos
      clear h1 e
      go_wp2
      go_ret
      exact ⟨rfl, HCV.out⟩
end Go.Proofs.YtpcllegjnbeppaaGreat.xj

namespace Go.Proofs.YtpcllegjnbeppaaGreat.jn
open Go.RowKit Go.PlainAid Go.Maps Go.Shelf
open Go.Proofs.YtpcllegjnbeppaaGreat.kp Go.Proofs.YtpcllegjnbeppaaGreat.ka Go.Proofs.YtpcllegjnbeppaaGreat.ya Go.Proofs.YtpcllegjnbeppaaGreat.yb Go.Proofs.YtpcllegjnbeppaaGreat.yc Go.Proofs.YtpcllegjnbeppaaGreat.yd Go.Proofs.YtpcllegjnbeppaaGreat.ye Go.Proofs.YtpcllegjnbeppaaGreat.yf Go.Proofs.YtpcllegjnbeppaaGreat.yo Go.Proofs.YtpcllegjnbeppaaGreat.yp
open Go.Proofs.YtpcllegjnbeppaaGreat.tqb (over)
open Go.Proofs.YtpcllegjnbeppaaGreat.xc (Ds Rd Dt newD newDNo usedD pendD downD)
open Go.Proofs.YtpcllegjnbeppaaGreat.jj Go.Proofs.YtpcllegjnbeppaaGreat.jk
set_option linter.unusedVariables false
set_option linter.unusedSimpArgs false
-- a script of steps in memory
structure ReadsS (B : Nat) (w : World) (v : Value) (l : List Stp) : Prop where
  form : ∃ a c, v = .slice a l.length c ∧ (l.length = 0 ∨ ∃ b off, a = some ⟨b, off, none⟩ ∧ b < B ∧ ∀ i o, l[i]? = some o → w.cell? ⟨b, off + i * 7, none⟩ = some (.int .i64 o.d) ∧ w.cell? ⟨b, off + i * 7 + 1, none⟩ = some (.int .i64 o.sp) ∧ w.cell? ⟨b, off + i * 7 + 2, none⟩ = some (.int .i64 o.k) ∧ w.cell? ⟨b, off + i * 7 + 3, none⟩ = some (.int .i64 o.n) ∧ w.cell? ⟨b, off + i * 7 + 4, none⟩ = some (.int .i64 o.m) ∧ w.cell? ⟨b, off + i * 7 + 5, none⟩ = some (.string o.key) ∧ w.cell? ⟨b, off + i * 7 + 6, none⟩ = some (.string o.text))
  each : ∀ o ∈ l, Fine o
theorem ReadsS.later {B : Nat} {w w' : World} {v : Value} {l : List Stp} (h : ReadsS B w v l) (hb : Below B w w') : ReadsS B w' v l := by
  obtain ⟨⟨a, c, e, h1⟩, h2⟩ := h
  refine ⟨⟨a, c, e, h1.imp id ?_⟩, h2⟩
  rintro ⟨b, off, e1, e2, h3⟩
  refine ⟨b, off, e1, e2, fun i o ho => ?_⟩
  have key : ∀ j x, w.cell? ⟨b, j, none⟩ = some x → w'.cell? ⟨b, j, none⟩ = some x := fun j x hx => by
    rw [← hx]
    unfold World.cell?
    rw [show (⟨b, j, none⟩ : Addr).block = b from rfl, hb.block b e2]
  obtain ⟨q0, q1, q2, q3, q4, q5, q6⟩ := h3 i o ho
  exact ⟨key _ _ q0, key _ _ q1, key _ _ q2, key _ _ q3, key _ _ q4, key _ _ q5, key _ _ q6⟩
theorem sr_zero {B g bn bd : Nat} {pv : Value} {s : S} {w : World} (h : Sr B g bn bd pv s w) : Sr 0 g bn bd pv s w := by
  refine ⟨h.row, h.mn, h.md, h.ne, ?_, ⟨Nat.zero_le _, Nat.zero_le _, Nat.zero_le _⟩, h.ok⟩
  obtain ⟨h1, h2⟩ := h.pr
  refine ⟨h1, ?_⟩
  rcases h2 with h2 | ⟨g', cap, cur, e, hb, hr⟩
  · exact .inl h2
  · exact .inr ⟨g', cap, cur, e, Nat.zero_le _, hr⟩
theorem row_zero {w : World} {B t z n : Nat} {v : Value} {xs : List Value} (h : w.ownsRow B t z v n xs) : w.ownsRow 0 t z v n xs := by
  obtain ⟨h1, h2⟩ := h
  refine ⟨h1, ?_⟩
  rcases h2 with h2 | ⟨g', cap, cur, e, hb, hr⟩
  · exact .inl h2
  · exact .inr ⟨g', cap, cur, e, Nat.zero_le _, hr⟩
theorem ds_zero {B g : Nat} {dv wv vv : Value} {s : S} {w : World} (h : Ds B g dv wv vv s w) : Ds 0 g dv wv vv s w := ⟨h.row, row_zero h.dl, row_zero h.vl, row_zero h.wl, Nat.zero_le _, h.ok⟩
theorem two_new {g bn bd g' : Nat} {c : Int} {w w1 w2 : World} (h1 : Sr w.heap.size g bn bd (.slice none 0 0) ⟨c, [], [], 0, false, 0⟩ w1) (b1 : Below w.heap.size w w1) (h2 : Ds w1.heap.size g' (.slice none 0 0) (.slice none 0 0) (.slice none 0 0) ⟨c, [], [], 0, false, 0⟩ w2) (b2 : Below w1.heap.size w1 w2) : Two g bn bd g' ⟨c, [], [], 0, false, 0⟩ ⟨c, [], [], 0, false, 0⟩ w w2 := by
  refine ⟨⟨_, _, _, _, sr_later (sr_zero h1) b2, ds_zero h2, ?_, ?_⟩, over b1 b2⟩
  · rintro j (rfl | rfl | rfl | e)
    · exact h1.low.1
    · exact h1.low.2.1
    · exact h1.low.2.2
    · cases e
  · rintro j (rfl | e)
    · exact Nat.le_trans b1.size h2.low
    · cases e
theorem grow0 (c : Int) : Gr ⟨c, [], [], 0, false, 0⟩ 1 0 := ⟨by simp [isz, pP], by show 0 + 0 ≤ 0 + 0; omega, Nat.le_refl _⟩
-- what both tell of their stores
section
variable {g bn bd g' : Nat} {s t : S} {w0 w : World}
theorem used1 (h : Two g bn bd g' s t w0 w) : Calls Tryz.prog 9 #[.pointer (some ⟨g, 0, none⟩)] w fun e w' => e = .returned (.int .i64 (tot (now s) : Nat)) ∧ w' = w := by
  obtain ⟨pv, h1, _⟩ := h.fst
  exact usedC h1.row
theorem used2 (h : Two g bn bd g' s t w0 w) : Calls Tryz.prog 10 #[.pointer (some ⟨g', 0, none⟩)] w fun e w' => e = .returned (.int .i64 (tot (now t) : Nat)) ∧ Below w.heap.size w w' := by
  obtain ⟨dv, wv, vv, h1, _⟩ := h.snd
  exact usedD h1
theorem pend1 (h : Two g bn bd g' s t w0 w) : Calls Tryz.prog 11 #[.pointer (some ⟨g, 0, none⟩)] w fun e w' => e = .returned (.int .i64 s.pend.length) ∧ w' = w := by
  obtain ⟨pv, h1, _⟩ := h.fst
  exact pendingC h1.row h1.pr
theorem pend2 (h : Two g bn bd g' s t w0 w) : Calls Tryz.prog 12 #[.pointer (some ⟨g', 0, none⟩)] w fun e w' => e = .returned (.int .i64 t.pend.length) ∧ w' = w := by
  obtain ⟨dv, wv, vv, h1, _⟩ := h.snd
  exact pendD h1
theorem down1 (h : Two g bn bd g' s t w0 w) : Calls Tryz.prog 13 #[.pointer (some ⟨g, 0, none⟩)] w fun e w' => e = .returned (.bool s.off) ∧ w' = w := by
  obtain ⟨pv, h1, _⟩ := h.fst
  exact downC h1.row
theorem down2 (h : Two g bn bd g' s t w0 w) : Calls Tryz.prog 14 #[.pointer (some ⟨g', 0, none⟩)] w fun e w' => e = .returned (.bool t.off) ∧ w' = w := by
  obtain ⟨dv, wv, vv, h1, _⟩ := h.snd
  exact downD h1
theorem image1 (h : Two g bn bd g' s t w0 w) (hi : isz s.dur ≤ 140737488355000) : Calls Tryz.prog 15 #[.pointer (some ⟨g, 0, none⟩)] w fun e w' => e = .returned (.string (imageT s.dur)) ∧ Below w.heap.size w w' := by
  obtain ⟨pv, h1, _⟩ := h.fst
  exact imageC h1 hi
theorem image2 (h : Two g bn bd g' s t w0 w) (hi : isz t.dur ≤ 140737488355000) : Calls Tryz.prog 16 #[.pointer (some ⟨g', 0, none⟩)] w fun e w' => e = .returned (.string (imageT t.dur)) ∧ Below w.heap.size w w' := by
  obtain ⟨dv, wv, vv, h1, _⟩ := h.snd
  exact xj.imageD h1 hi
end
theorem recordsNo (c : Int) (v : Value) (w : World) (hc : ¬ (0 ≤ c ∧ c ≤ 1073741824)) : Calls Tryz.prog 3 #[.int .i64 c, v] w fun e w' => e = .returned (.bool true) ∧ Below w.heap.size w w' := by
  have C1 : Hid (∀ w, Calls _ _ _ _ _) := fun w => yg.newNo c w hc
  have C2 : Hid (∀ w, Calls _ _ _ _ _) := fun w => newDNo c w hc
  have HB : Hid (Below w.heap.size w w) := Below.refl _ _
  clear hc
  go_enter Tryz.func3, Tryz.ntmps3
  go_wp2_with (first | (go_at_call 5; refine (C1.out _).mono ?_; rintro _ wz ⟨rfl, hwz⟩; rw [hwz]; clear hwz) | (go_at_call 6; refine (C2.out _).mono ?_; rintro _ wz ⟨rfl, hwz⟩; rw [hwz]; clear hwz) | go_in)
  go_ret
  exact ⟨rfl, HB.out⟩
set_option maxRecDepth 100000 in
set_option maxHeartbeats 12800000 in
theorem recordsYes (c : Int) (v : Value) (l : List Stp) (w : World) (hv : ReadsS w.heap.size w v l) (hm : tS l ≤ 1048576) (hc : 0 ≤ c ∧ c ≤ 1073741824) :
    Calls Tryz.prog 3 #[.int .i64 c, v] w fun e w' => e = .returned (.bool true) ∧ Below w.heap.size w w' := by
  have CN : Hid (∀ w1, Calls _ _ _ _ _) := fun w1 => yg.newC c w1 hc
  have CM : Hid (∀ w1, Calls _ _ _ _ _) := fun w1 => newD c w1 hc
  obtain ⟨va, vc, rfl, _⟩ := hv.form
  have HV : Hid (ReadsS w.heap.size w (.slice va l.length vc) l) := hv
  have hn := len_tS l
  have HM : Hid (tS l ≤ 1048576 ∧ l.length ≤ 1048576) := ⟨hm, by omega⟩
  obtain ⟨N, HN⟩ : ∃ N, Hid (l.length = N) := ⟨_, rfl⟩
  rw [HN.out] at hn HV ⊢
  have hNb : (N : Int) ≤ 1048576 := by omega
  clear hv hc hm hn
  go_enter Tryz.func3, Tryz.ntmps3
  go_upto_region 2 with (first | (go_at_call 5; refine (CN.out _).mono ?_; rintro _ w1 ⟨g, bn, bd, rfl, h1, b1⟩; have N1 : Hid (Sr _ _ _ _ _ _ w1) := h1; have B1 : Hid (Below w.heap.size w w1) := b1; clear h1 b1) | go_in)
  go_upto_region 3 with (first | (go_at_call 6; refine (CM.out _).mono ?_; rintro _ w2 ⟨g', rfl, h2, b2⟩; have D2 : Hid (Ds _ _ _ _ _ _ w2) := h2; have B2 : Hid (Below w1.heap.size w1 w2) := b2; clear h2 b2) | go_in)
  have PR : Hid (Two g bn bd g' ⟨c, [], [], 0, false, 0⟩ ⟨c, [], [], 0, false, 0⟩ w w2) := two_new N1.out B1.out D2.out B2.out
  clear CN CM N1 D2 B1 B2
  go_wp2_with fail
  go_loopw [7] (fun iv wr => ∃ (i : Nat) (s : S), i ≤ N ∧ iv = .int .i64 i ∧ Hid (Two g bn bd g' s s w wr) ∧ Hid (Gr s (1 + 8 * tS (l.take i)) i)) (fun iv _ => (N - intOf iv).toNat)
  case atStart => exact ⟨0, _, Nat.zero_le _, rfl, PR.out, (grow0 c).mono (by omega) (Nat.le_refl _)⟩
  case round =>
    clear PR
    obtain ⟨i, s, hiN, rfl, HO, HB⟩ := hrel
    have htk := tS_take l i
    have hmm := HM.out
    have hnm := HB.out.nums
    have hag := HB.out.age
    have hbl := HO.out.bl
    by_cases hlt : i < N
    · have hlt' : (i : Int) < N := by omega
      have hil : i < l.length := by rw [HN.out]; exact hlt
      obtain ⟨o, ho⟩ : ∃ o, l[i]? = some o := ⟨_, List.getElem?_eq_getElem hil⟩
      have hoo := HV.out.each o (List.mem_of_getElem? ho)
      obtain ⟨va', vc', e', h0 | ⟨b, off, e2, _, hcell⟩⟩ := (HV.out.later hbl).form
      · omega
      have e3 := (Value.slice.inj e').1
      rw [e2] at e3
      clear e' e2
      subst e3
      have hb0 : b < wr.heap.size := by
        obtain ⟨d0, _⟩ := hcell i o ho
        exact World.block_lt_of_cell? _ _ d0
      have HC2 : Hid (∀ w1, Two g bn bd g' (recS s o) (recS s o) w w1 → _) := fun w1 h1 => (HV.out.later h1.bl).form
      obtain ⟨d0, d1, d2, d3, d4, d5, d6⟩ := hcell i o ho
      have htw := tS_at l i o ho
      have G1 := HB.out.recs o
      have G2 := HB.out.stp o
      have hl1 : 2 * (s.dur.length + s.pend.length) + 1 < 3518437208883 := by omega
      have hn2 := G1.1.nums
      have htk2 := tS_take l (i + 1)
      have CR : Hid (Calls _ _ _ _ _) := jl.recordsT o HO.out hoo hl1 (by omega)
      have hl2 : 2 * ((recS s o).dur.length + (recS s o).pend.length) + 1 < 3518437208883 := by omega
      have CO : Hid (∀ w1, Two g bn bd g' (recS s o) (recS s o) w w1 → Calls _ _ _ _ _) := fun w1 h1 => jm.othersT o h1 hoo hl2 (by have := G1.1.age; omega)
      have HG : Hid (Gr (stp s o) (1 + 8 * tS (l.take (i + 1))) (i + 1)) := G2.mono (by omega) (Nat.le_refl _)
      unfold stp at HG
      obtain ⟨s1, HS1⟩ : ∃ t, Hid (recS s o = t) := ⟨_, rfl⟩
      rw [HS1.out] at CR CO HG HC2
      obtain ⟨s2, HS2⟩ : ∃ t, Hid (othS s1 o = t) := ⟨_, rfl⟩
      rw [HS2.out] at CO HG
      have HO2 : Hid (l[i]? = some o) := ho
      have SC : Hid (∀ w1, Two g bn bd g' s1 s1 w w1 → w1.cell? ⟨b, off + i * 7, none⟩ = some (.int .i64 o.d) ∧ w1.cell? ⟨b, off + i * 7 + 1, none⟩ = some (.int .i64 o.sp) ∧ w1.cell? ⟨b, off + i * 7 + 2, none⟩ = some (.int .i64 o.k) ∧ w1.cell? ⟨b, off + i * 7 + 3, none⟩ = some (.int .i64 o.n) ∧ w1.cell? ⟨b, off + i * 7 + 4, none⟩ = some (.int .i64 o.m) ∧ w1.cell? ⟨b, off + i * 7 + 5, none⟩ = some (.string o.key) ∧ w1.cell? ⟨b, off + i * 7 + 6, none⟩ = some (.string o.text)) := fun w1 h1 => by
        obtain ⟨va2, vc2, e4, h0 | ⟨b2, off2, e5, _, hcell2⟩⟩ := HC2.out w1 h1
        · omega
        have e6 := (Value.slice.inj e4).1
        rw [e5] at e6
        have e7 := Option.some.inj e6
        injection e7 with e8 e9 e10
        subst e8 e9
        exact hcell2 i o ho
      have U1 : Hid (∀ w1, Two g bn bd g' s2 s2 w w1 → Calls _ _ _ _ _) := fun w1 h1 => used1 h1
      have U2 : Hid (∀ w1, Two g bn bd g' s2 s2 w w1 → Calls _ _ _ _ _) := fun w1 h1 => used2 h1
      have P1 : Hid (∀ w1, Two g bn bd g' s2 s2 w w1 → Calls _ _ _ _ _) := fun w1 h1 => pend1 h1
      have P2 : Hid (∀ w1, Two g bn bd g' s2 s2 w w1 → Calls _ _ _ _ _) := fun w1 h1 => pend2 h1
      have D1 : Hid (∀ w1, Two g bn bd g' s2 s2 w w1 → Calls _ _ _ _ _) := fun w1 h1 => down1 h1
      have D2 : Hid (∀ w1, Two g bn bd g' s2 s2 w w1 → Calls _ _ _ _ _) := fun w1 h1 => down2 h1
      generalize s2.off = so at *
      generalize tot (now s2) = su at *
      generalize s2.pend.length = sq at *
      obtain ⟨dd, sp, k, n, m, key, text⟩ := o
      unfold scs at CR CO
      simp only at CR CO SC d0 d1 d2 d3 d4 d5 d6
      clear hcell ho hoo htw htk hmm hnm hag hbl HB HS1 HS2 hil HC2 G1 G2 hl1 hn2 htk2 hl2 HO2 hb0
      go_wp2_with (first | (go_at_call 7; refine CR.out.mono ?_; rintro _ w5 ⟨rfl, h5⟩; have H5 : Hid (Two _ _ _ _ _ _ _ w5) := h5; obtain ⟨a0, a1, a2, a3, a4, a5, a6⟩ := SC.out _ h5; clear h5) | (go_at_call 8; refine (CO.out _ H5.out).mono ?_; rintro _ w6 ⟨rfl, h6⟩; have H6 : Hid (Two _ _ _ _ _ _ _ w6) := h6; clear h6) | (go_at_call 9; refine (U1.out _ H6.out).mono ?_; rintro _ wz ⟨rfl, hwz⟩; rw [hwz]; clear hwz) | (go_at_call 10; refine (U2.out _ H6.out).mono ?_; rintro _ w7 ⟨rfl, b7⟩; have H7 : Hid (Two _ _ _ _ _ _ _ w7) := H6.out.later b7; clear b7) | (go_at_call 11; refine (P1.out _ H7.out).mono ?_; rintro _ wz ⟨rfl, hwz⟩; rw [hwz]; clear hwz) | (go_at_call 12; refine (P2.out _ H7.out).mono ?_; rintro _ wz ⟨rfl, hwz⟩; rw [hwz]; clear hwz) | (go_at_call 13; refine (D1.out _ H7.out).mono ?_; rintro _ wz ⟨rfl, hwz⟩; rw [hwz]; clear hwz) | (go_at_call 14; refine (D2.out _ H7.out).mono ?_; rintro _ wz ⟨rfl, hwz⟩; rw [hwz]; clear hwz) | go_in)
      go_roundw
      case rel => exact ⟨i + 1, s2, by omega, by go_num, H7.out, HG.out⟩
      case measure => simp [intOf]; omega
    · have hlt' : ¬ (i : Int) < N := by omega
      have hi : isz s.dur ≤ 140737488355000 := by have := HB.out.m; omega
      have CI : Hid (∀ w1, Two g bn bd g' s s w w1 → Calls _ _ _ _ _) := fun w1 h1 => image1 h1 hi
      have CJ : Hid (∀ w1, Two g bn bd g' s s w w1 → Calls _ _ _ _ _) := fun w1 h1 => image2 h1 hi
      generalize imageT s.dur = it at *
      have tt : (it.toList == it.toList) = true := by simp
      clear htk hmm hnm hag hbl HB hi
      go_wp2_with (first | (go_at_call 15; refine (CI.out _ HO.out).mono ?_; rintro _ w5 ⟨rfl, b5⟩; have H5 : Hid (Two _ _ _ _ _ _ _ w5) := HO.out.later b5; clear b5) | (go_at_call 16; refine (CJ.out _ H5.out).mono ?_; rintro _ w6 ⟨rfl, b6⟩; have H6 : Hid (Two _ _ _ _ _ _ _ w6) := H5.out.later b6; clear b6) | go_in)
      go_ret
      exact ⟨by simp, H6.out.bl⟩
theorem records_walk {Q : Prop} (c : Int) (hc : Q) (v : Value) (l : List Stp) (w : World) (hv : ReadsS w.heap.size w v l) (hm : tS l ≤ 1048576) :
    Calls Tryz.prog 3 #[.int .i64 c, v] w fun e w' => e = .returned (.bool true) ∧ Below w.heap.size w w' := by
  by_cases h : 0 ≤ c ∧ c ≤ 1073741824
  · exact recordsYes c v l w hv hm h
  · exact recordsNo c v w h
end Go.Proofs.YtpcllegjnbeppaaGreat.jn
