import Derived.Test.YtmindflfjocjlaaGreatRi0
import Derived.Test.YtmindflfjocjlaaGreatQ00
import Derived.Test.YtmindflfjocjlaaGreatQ01
import Derived.ArgAppend
import Derived.Deep.DeepAppendRoom
import Derived.Deep.DeepCutAuto
namespace Go.Proofs.YtmindflfjocjlaaGreat.jl
open Go.RowKit Go.PlainAid Go.Maps Go.Shelf
open Go.Proofs.YtmindflfjocjlaaGreat.kp Go.Proofs.YtmindflfjocjlaaGreat.ka Go.Proofs.YtmindflfjocjlaaGreat.ya Go.Proofs.YtmindflfjocjlaaGreat.yb Go.Proofs.YtmindflfjocjlaaGreat.yc Go.Proofs.YtmindflfjocjlaaGreat.yd Go.Proofs.YtmindflfjocjlaaGreat.ye Go.Proofs.YtmindflfjocjlaaGreat.yf Go.Proofs.YtmindflfjocjlaaGreat.yi Go.Proofs.YtmindflfjocjlaaGreat.yk Go.Proofs.YtmindflfjocjlaaGreat.yl Go.Proofs.YtmindflfjocjlaaGreat.ym
open Go.Proofs.YtmindflfjocjlaaGreat.tqa Go.Proofs.YtmindflfjocjlaaGreat.tba Go.Proofs.YtmindflfjocjlaaGreat.tbd Go.Proofs.YtmindflfjocjlaaGreat.tbe
open Go.Proofs.YtmindflfjocjlaaGreat.tqb (over keyC keyNo)
open Go.Proofs.YtmindflfjocjlaaGreat.yj
open Go.Proofs.YtmindflfjocjlaaGreat.ec (bdropS)
open Go.Proofs.YtmindflfjocjlaaGreat.xc (Ds Rd Dt)
open Go.Proofs.YtmindflfjocjlaaGreat.jg Go.Proofs.YtmindflfjocjlaaGreat.jj
set_option linter.unusedVariables false
set_option linter.unusedSimpArgs false
open Go.Proofs.YtmindflfjocjlaaGreat.jk
set_option maxRecDepth 100000 in
set_option maxHeartbeats 12800000 in
theorem recordsT {g bn bd g' : Nat} {s : S} {w0 w : World} (o : Stp) (h : Two g bn bd g' s s w0 w) (hf : Fine o) (hl : 2 * (s.dur.length + s.pend.length) + 1 < 3518437208883) (ha : s.age < 4398046511104) :
    Calls Tryz.prog 6 #[.pointer (some ⟨g, 0, none⟩), .pointer (some ⟨g', 0, none⟩), .agg (scs o)] w fun e w' => e = .returned (.bool true) ∧ Two g bn bd g' (recS s o) (recS s o) w0 w' := by
  have hl1 : s.dur.length + s.pend.length + 1 < 3518437208883 := by omega
  obtain ⟨W, HW⟩ : ∃ W, Hid (w.alloc (.cells (scs o) 29) = W) := ⟨_, rfl⟩
  have hb : Bp w.heap.size g bn bd g' o s s w0 W := by rw [← HW.out]; exact Bp.box h
  have HB : Hid (Bp w.heap.size g bn bd g' o s s w0 W) := hb
  obtain ⟨c0, c1, c2, c3, c4, c5, c6⟩ := hb.cells
  have hok := hb.ok
  obtain ⟨dd, sp, k, n, m, key, text⟩ := o
  have HF : Hid (Fine _) := hf
  unfold scs at HW
  show Calls Tryz.prog 6 #[.pointer (some ⟨g, 0, none⟩), .pointer (some ⟨g', 0, none⟩), .agg #[.int .i64 dd, .int .i64 sp, .int .i64 k, .int .i64 n, .int .i64 m, .string key, .string text]] w _
  simp only at c0 c1 c2 c3 c4 c5 c6
  clear h hb hf
  by_cases e1 : dd = 1
  · subst e1
    have HR : Hid (recS s ⟨1, sp, k, n, m, key, text⟩ = (bputS s sp k n text).2) := by show _ = _; unfold recS; simp
    rw [HR.out]
    have C1 : Hid (∀ w1, Bp w.heap.size g bn bd g' ⟨1, sp, k, n, m, key, text⟩ s s w0 w1 → Calls _ _ _ _ _) := fun w1 h1 => put1 sp k n text h1 HF.out.sp HF.out.n hl1
    have C2 : Hid (∀ w1, Bp w.heap.size g bn bd g' ⟨1, sp, k, n, m, key, text⟩ (bputS s sp k n text).2 s w0 w1 → Calls _ _ _ _ _) := fun w1 h1 => put2 sp k n text h1 HF.out.sp HF.out.n hl1
    obtain ⟨R, HRR⟩ : ∃ R, Hid (bputS s sp k n text = R) := ⟨_, rfl⟩
    rw [HRR.out] at C1 C2 ⊢
    clear  HR HF
    go_enter Tryz.func6, Tryz.ntmps6
    go_upto_region 1 with fail
    rw [HW.out]
    go_wp2_with (first | (go_at_call 18; refine (C1.out _ HB.out).mono ?_; rintro _ w3 ⟨rfl, h3⟩; have H3 : Hid (Bp _ _ _ _ _ _ _ _ _ w3) := h3; obtain ⟨a0, a1, a2, a3, a4, a5, a6⟩ := h3.cells; clear h3) | (go_at_call 19; refine (C2.out _ H3.out).mono ?_; rintro _ w4 ⟨rfl, h4⟩; have H4 : Hid (Bp _ _ _ _ _ _ _ _ _ w4) := h4; clear h4) | go_in)
    go_ret
    exact ⟨rfl, H4.out.1⟩
  by_cases e2 : dd = 2
  · subst e2
    have HR : Hid (recS s ⟨2, sp, k, n, m, key, text⟩ = s) := by show _ = _; unfold recS; simp
    rw [HR.out]
    have C1 : Hid (∀ w1, Bp w.heap.size g bn bd g' ⟨2, sp, k, n, m, key, text⟩ s s w0 w1 → Calls _ _ _ _ _) := fun w1 h1 => get1 sp k n h1 HF.out.sp HF.out.n
    have C2 : Hid (∀ w1, Bp w.heap.size g bn bd g' ⟨2, sp, k, n, m, key, text⟩ s s w0 w1 → Calls _ _ _ _ _) := fun w1 h1 => get2 sp k n h1 HF.out.sp HF.out.n
    obtain ⟨R, HRR⟩ : ∃ R, Hid (bgetS s sp k n = R) := ⟨_, rfl⟩
    rw [HRR.out] at C1 C2
    have tt : (R.1.toList == R.1.toList) = true := by simp
    clear e1 HR HF
    go_enter Tryz.func6, Tryz.ntmps6
    go_upto_region 1 with fail
    rw [HW.out]
    go_wp2_with (first | (go_at_call 20; refine (C1.out _ HB.out).mono ?_; rintro _ w3 ⟨rfl, b3⟩; have h3 := Bp.later HB.out b3; have H3 : Hid (Bp _ _ _ _ _ _ _ _ _ w3) := h3; obtain ⟨a0, a1, a2, a3, a4, a5, a6⟩ := h3.cells; clear h3 b3) | (go_at_call 21; refine (C2.out _ H3.out).mono ?_; rintro _ w4 ⟨rfl, b4⟩; have H4 : Hid (Bp _ _ _ _ _ _ _ _ _ w4) := Bp.later H3.out b4; clear b4) | go_in)
    go_ret
    exact ⟨rfl, H4.out.1⟩
  by_cases e3 : dd = 3
  · subst e3
    have HR : Hid (recS s ⟨3, sp, k, n, m, key, text⟩ = (bdropS s sp k n).2) := by show _ = _; unfold recS; simp
    rw [HR.out]
    have C1 : Hid (∀ w1, Bp w.heap.size g bn bd g' ⟨3, sp, k, n, m, key, text⟩ s s w0 w1 → Calls _ _ _ _ _) := fun w1 h1 => drop1 sp k n h1 HF.out.sp HF.out.n hl1
    have C2 : Hid (∀ w1, Bp w.heap.size g bn bd g' ⟨3, sp, k, n, m, key, text⟩ (bdropS s sp k n).2 s w0 w1 → Calls _ _ _ _ _) := fun w1 h1 => drop2 sp k n h1 HF.out.sp HF.out.n hl1
    obtain ⟨R, HRR⟩ : ∃ R, Hid (bdropS s sp k n = R) := ⟨_, rfl⟩
    rw [HRR.out] at C1 C2 ⊢
    clear e1 e2 HR HF
    go_enter Tryz.func6, Tryz.ntmps6
    go_upto_region 1 with fail
    rw [HW.out]
    go_wp2_with (first | (go_at_call 22; refine (C1.out _ HB.out).mono ?_; rintro _ w3 ⟨rfl, h3⟩; have H3 : Hid (Bp _ _ _ _ _ _ _ _ _ w3) := h3; obtain ⟨a0, a1, a2, a3, a4, a5, a6⟩ := h3.cells; clear h3) | (go_at_call 23; refine (C2.out _ H3.out).mono ?_; rintro _ w4 ⟨rfl, h4⟩; have H4 : Hid (Bp _ _ _ _ _ _ _ _ _ w4) := h4; clear h4) | go_in)
    go_ret
    exact ⟨rfl, H4.out.1⟩
  by_cases e4 : dd = 4
  · subst e4
    have HR : Hid (recS s ⟨4, sp, k, n, m, key, text⟩ = s) := by show _ = _; unfold recS; simp
    rw [HR.out]
    have C1 : Hid (∀ w1, Bp w.heap.size g bn bd g' ⟨4, sp, k, n, m, key, text⟩ s s w0 w1 → Calls _ _ _ _ _) := fun w1 h1 => numb1 sp k h1 HF.out.sp
    have C2 : Hid (∀ w1, Bp w.heap.size g bn bd g' ⟨4, sp, k, n, m, key, text⟩ s s w0 w1 → Calls _ _ _ _ _) := fun w1 h1 => numb2 sp k h1 HF.out.sp
    have HLN : Hid ((numbersS s sp k).length ≤ 140737488351232) := numb_len hok sp k
    obtain ⟨L, HL⟩ : ∃ L, Hid ((numbersS s sp k) = L) := ⟨_, rfl⟩
    rw [HL.out] at C1 C2 HLN
    clear e1 e2 e3 HR HF
    go_enter Tryz.func6, Tryz.ntmps6
    go_upto_region 1 with fail
    rw [HW.out]
    go_wp2_with (first | (go_at_call 12; refine (C1.out _ HB.out).mono ?_; rintro _ w3 ⟨v3, rfl, r3, b3⟩; have h3 := Bp.later HB.out b3; have R3 : Hid (ReadsN w3 v3 L) := r3; have H3 : Hid (Bp _ _ _ _ _ _ _ _ _ w3) := h3; obtain ⟨a0, a1, a2, a3, a4, a5, a6⟩ := h3.cells; clear h3 b3 r3) | (go_at_call 10; refine (C2.out _ H3.out).mono ?_; rintro _ w4 ⟨v4, rfl, r4, b4⟩; have H4 : Hid (Bp _ _ _ _ _ _ _ _ _ w4) := Bp.later H3.out b4; have R4 : Hid (ReadsN w4 v4 L ∧ ReadsN w4 v3 L) := ⟨r4, R3.out.later b4⟩; clear b4 r4) | (go_at_call 13; refine (sameIntsC v3 v4 L L w4 R4.out.2 R4.out.1 HLN.out HLN.out rfl).mono ?_; rintro _ w5 ⟨rfl, b5⟩; have H5 : Hid (Bp _ _ _ _ _ _ _ _ _ w5) := Bp.later H4.out b5; clear b5) | go_in)
    go_ret
    exact ⟨rfl, H5.out.1⟩
  by_cases e5 : dd = 5
  · subst e5
    have HR : Hid (recS s ⟨5, sp, k, n, m, key, text⟩ = s) := by show _ = _; unfold recS; simp
    rw [HR.out]
    have C1 : Hid (∀ w1, Bp w.heap.size g bn bd g' ⟨5, sp, k, n, m, key, text⟩ s s w0 w1 → Calls _ _ _ _ _) := fun w1 h1 => spac1  h1 
    have C2 : Hid (∀ w1, Bp w.heap.size g bn bd g' ⟨5, sp, k, n, m, key, text⟩ s s w0 w1 → Calls _ _ _ _ _) := fun w1 h1 => spac2  h1 
    have HLN : Hid ((spacesS s).length ≤ 140737488351232) := spac_len hok
    obtain ⟨L, HL⟩ : ∃ L, Hid ((spacesS s) = L) := ⟨_, rfl⟩
    rw [HL.out] at C1 C2 HLN
    clear e1 e2 e3 e4 HR HF
    go_enter Tryz.func6, Tryz.ntmps6
    go_upto_region 1 with fail
    rw [HW.out]
    go_wp2_with (first | (go_at_call 14; refine (C1.out _ HB.out).mono ?_; rintro _ w3 ⟨v3, rfl, r3, b3⟩; have h3 := Bp.later HB.out b3; have R3 : Hid (ReadsN w3 v3 L) := r3; have H3 : Hid (Bp _ _ _ _ _ _ _ _ _ w3) := h3; obtain ⟨a0, a1, a2, a3, a4, a5, a6⟩ := h3.cells; clear h3 b3 r3) | (go_at_call 11; refine (C2.out _ H3.out).mono ?_; rintro _ w4 ⟨v4, rfl, r4, b4⟩; have H4 : Hid (Bp _ _ _ _ _ _ _ _ _ w4) := Bp.later H3.out b4; have R4 : Hid (ReadsN w4 v4 L ∧ ReadsN w4 v3 L) := ⟨r4, R3.out.later b4⟩; clear b4 r4) | (go_at_call 13; refine (sameIntsC v3 v4 L L w4 R4.out.2 R4.out.1 HLN.out HLN.out rfl).mono ?_; rintro _ w5 ⟨rfl, b5⟩; have H5 : Hid (Bp _ _ _ _ _ _ _ _ _ w5) := Bp.later H4.out b5; clear b5) | go_in)
    go_ret
    exact ⟨rfl, H5.out.1⟩
  by_cases e6 : dd = 6
  · subst e6
    have HR : Hid (recS s ⟨6, sp, k, n, m, key, text⟩ = (wipeS s sp).2) := by show _ = _; unfold recS; simp
    rw [HR.out]
    have C1 : Hid (∀ w1, Bp w.heap.size g bn bd g' ⟨6, sp, k, n, m, key, text⟩ s s w0 w1 → Calls _ _ _ _ _) := fun w1 h1 => wipe1 sp h1 HF.out.sp hl
    have C2 : Hid (∀ w1, Bp w.heap.size g bn bd g' ⟨6, sp, k, n, m, key, text⟩ (wipeS s sp).2 s w0 w1 → Calls _ _ _ _ _) := fun w1 h1 => wipe2 sp h1 HF.out.sp hl
    obtain ⟨R, HRR⟩ : ∃ R, Hid (wipeS s sp = R) := ⟨_, rfl⟩
    rw [HRR.out] at C1 C2 ⊢
    clear e1 e2 e3 e4 e5 HR HF
    go_enter Tryz.func6, Tryz.ntmps6
    go_upto_region 1 with fail
    rw [HW.out]
    go_wp2_with (first | (go_at_call 24; refine (C1.out _ HB.out).mono ?_; rintro _ w3 ⟨rfl, h3⟩; have H3 : Hid (Bp _ _ _ _ _ _ _ _ _ w3) := h3; obtain ⟨a0, a1, a2, a3, a4, a5, a6⟩ := h3.cells; clear h3) | (go_at_call 25; refine (C2.out _ H3.out).mono ?_; rintro _ w4 ⟨rfl, h4⟩; have H4 : Hid (Bp _ _ _ _ _ _ _ _ _ w4) := h4; clear h4) | go_in)
    go_ret
    exact ⟨rfl, H4.out.1⟩
  have HR : Hid (recS s ⟨dd, sp, k, n, m, key, text⟩ = s) := by show _ = _; unfold recS; simp [e1, e3, e6]
  rw [HR.out]
  have g1 : (dd == 1) = false := by rw [beq_eq_false_iff_ne]; exact e1
  have g2 : (dd == 2) = false := by rw [beq_eq_false_iff_ne]; exact e2
  have g3 : (dd == 3) = false := by rw [beq_eq_false_iff_ne]; exact e3
  have g4 : (dd == 4) = false := by rw [beq_eq_false_iff_ne]; exact e4
  have g5 : (dd == 5) = false := by rw [beq_eq_false_iff_ne]; exact e5
  have g6 : (dd == 6) = false := by rw [beq_eq_false_iff_ne]; exact e6
  clear e1 e2 e3 e4 e5 e6 HR HF
  go_enter Tryz.func6, Tryz.ntmps6
  go_upto_region 1 with fail
  rw [HW.out]
  go_wp2
  go_ret
  exact ⟨rfl, HB.out.1⟩
end Go.Proofs.YtmindflfjocjlaaGreat.jl

namespace Go.Proofs.YtmindflfjocjlaaGreat.jm
open Go.RowKit Go.PlainAid Go.Maps Go.Shelf
open Go.Proofs.YtmindflfjocjlaaGreat.kp Go.Proofs.YtmindflfjocjlaaGreat.ka Go.Proofs.YtmindflfjocjlaaGreat.ya Go.Proofs.YtmindflfjocjlaaGreat.yb Go.Proofs.YtmindflfjocjlaaGreat.yc Go.Proofs.YtmindflfjocjlaaGreat.yd Go.Proofs.YtmindflfjocjlaaGreat.ye Go.Proofs.YtmindflfjocjlaaGreat.yf Go.Proofs.YtmindflfjocjlaaGreat.yi Go.Proofs.YtmindflfjocjlaaGreat.yk Go.Proofs.YtmindflfjocjlaaGreat.yl Go.Proofs.YtmindflfjocjlaaGreat.ym
open Go.Proofs.YtmindflfjocjlaaGreat.tqa Go.Proofs.YtmindflfjocjlaaGreat.tba Go.Proofs.YtmindflfjocjlaaGreat.tbd Go.Proofs.YtmindflfjocjlaaGreat.tbe
open Go.Proofs.YtmindflfjocjlaaGreat.tqb (over keyC keyNo)
open Go.Proofs.YtmindflfjocjlaaGreat.yj
open Go.Proofs.YtmindflfjocjlaaGreat.ec (bdropS)
open Go.Proofs.YtmindflfjocjlaaGreat.xc (Ds Rd Dt)
open Go.Proofs.YtmindflfjocjlaaGreat.jg Go.Proofs.YtmindflfjocjlaaGreat.jj
set_option linter.unusedVariables false
set_option linter.unusedSimpArgs false
open Go.Proofs.YtmindflfjocjlaaGreat.jk
open Go.Proofs.YtmindflfjocjlaaGreat.tda (keyR keyNoR)
open Go.Proofs.YtmindflfjocjlaaGreat.tdb (frameR frameNoR frameBigR)
theorem frAny (k n : Int) (p : ByteArray) (w : World) (n1 : n ≤ 9223372036854775807) : Calls Tryz.prog 28 #[.int .i64 k, .int .i64 n, .string p] w fun e w' => ∃ x, e = .returned (.tuple #[.string (frB k n p), .int .i64 x]) ∧ Below w.heap.size w w' := by
  unfold frB
  by_cases h : 1 ≤ k ∧ k ≤ 255 ∧ 0 ≤ n
  · by_cases hp : p.size ≤ 524288
    · rw [if_pos ⟨h.1, h.2.1, h.2.2, hp⟩]
      exact (frameR k n p w h.1 h.2.1 h.2.2 n1 hp).mono fun e w' ⟨q1, q2⟩ => ⟨_, q1, q2⟩
    · rw [if_neg (fun z => hp z.2.2.2)]
      exact (frameBigR k n p w h.1 h.2.1 h.2.2 (by omega)).mono fun e w' ⟨q1, q2⟩ => ⟨_, q1, by rw [q2]; exact Below.refl _ _⟩
  · rw [if_neg (fun z => h ⟨z.1, z.2.1, z.2.2.1⟩)]
    exact (frameNoR k n p w h).mono fun e w' ⟨q1, q2⟩ => ⟨_, q1, by rw [q2]; exact Below.refl _ _⟩
theorem keAny (sp k n : Int) (w : World) (h1 : sp ≤ 9223372036854775807) (n1 : n ≤ 9223372036854775807) : Calls Tryz.prog 29 #[.int .i64 sp, .int .i64 k, .int .i64 n] w fun e w' => ∃ x, e = .returned (.tuple #[.string (keB sp k n), .int .i64 x]) ∧ Below w.heap.size w w' := by
  unfold keB
  by_cases h : 0 ≤ sp ∧ 1 ≤ k ∧ k ≤ 255 ∧ 0 ≤ n
  · rw [if_pos h]
    exact (keyR sp k n w h.1 h1 h.2.1 h.2.2.1 h.2.2.2 n1).mono fun e w' ⟨q1, q2⟩ => ⟨_, q1, q2⟩
  · rw [if_neg h]
    exact (keyNoR sp k n w h).mono fun e w' ⟨q1, q2⟩ => ⟨_, q1, by rw [q2]; exact Below.refl _ _⟩
set_option maxRecDepth 100000 in
set_option maxHeartbeats 12800000 in
theorem othersT {g bn bd g' : Nat} {s : S} {w0 w : World} (o : Stp) (h : Two g bn bd g' s s w0 w) (hf : Fine o) (hl : 2 * (s.dur.length + s.pend.length) + 1 < 3518437208883) (ha : s.age < 4398046511104) :
    Calls Tryz.prog 7 #[.pointer (some ⟨g, 0, none⟩), .pointer (some ⟨g', 0, none⟩), .agg (scs o)] w fun e w' => e = .returned (.tuple #[]) ∧ Two g bn bd g' (othS s o) (othS s o) w0 w' := by
  have hl1 : s.dur.length + s.pend.length + 1 < 3518437208883 := by omega
  obtain ⟨W, HW⟩ : ∃ W, Hid (w.alloc (.cells (scs o) 29) = W) := ⟨_, rfl⟩
  have hb : Bp w.heap.size g bn bd g' o s s w0 W := by rw [← HW.out]; exact Bp.box h
  have HB : Hid (Bp w.heap.size g bn bd g' o s s w0 W) := hb
  obtain ⟨c0, c1, c2, c3, c4, c5, c6⟩ := hb.cells
  have hok := hb.ok
  obtain ⟨dd, sp, k, n, m, key, text⟩ := o
  have HF : Hid (Fine _) := hf
  unfold scs at HW
  show Calls Tryz.prog 7 #[.pointer (some ⟨g, 0, none⟩), .pointer (some ⟨g', 0, none⟩), .agg #[.int .i64 dd, .int .i64 sp, .int .i64 k, .int .i64 n, .int .i64 m, .string key, .string text]] w _
  simp only at c0 c1 c2 c3 c4 c5 c6
  clear h hb hf
  by_cases e7 : dd = 7
  · subst e7
    have HR : Hid (othS s ⟨7, sp, k, n, m, key, text⟩ = (putS s key text).2) := by show _ = _; unfold othS; simp
    rw [HR.out]
    have C1 : Hid (∀ w1, Bp w.heap.size g bn bd g' ⟨7, sp, k, n, m, key, text⟩ s s w0 w1 → Calls _ _ _ _ _) := fun w1 h1 => sput1 key text h1 (by have := HF.out.key; simp only at this; omega) (by have := HF.out.text; simp only at this; omega) hl1
    have C2 : Hid (∀ w1, Bp w.heap.size g bn bd g' ⟨7, sp, k, n, m, key, text⟩ (putS s key text).2 s w0 w1 → Calls _ _ _ _ _) := fun w1 h1 => sput2 key text h1 (by have := HF.out.key; simp only at this; omega) (by have := HF.out.text; simp only at this; omega) hl1
    obtain ⟨R, HRR⟩ : ∃ R, Hid (putS s key text = R) := ⟨_, rfl⟩
    rw [HRR.out] at C1 C2 ⊢
    clear  HR HF
    go_enter Tryz.func7, Tryz.ntmps7
    go_upto_region 1 with fail
    rw [HW.out]
    go_wp2_with (first | (go_at_call 26; refine (C1.out _ HB.out).mono ?_; rintro _ w3 ⟨rfl, h3⟩; have H3 : Hid (Bp _ _ _ _ _ _ _ _ _ w3) := h3; obtain ⟨a0, a1, a2, a3, a4, a5, a6⟩ := h3.cells; clear h3) | (go_at_call 27; refine (C2.out _ H3.out).mono ?_; rintro _ w4 ⟨rfl, h4⟩; have H4 : Hid (Bp _ _ _ _ _ _ _ _ _ w4) := h4; clear h4) | go_in)
    go_end0
    exact ⟨rfl, H4.out.1⟩
  by_cases e8 : dd = 8
  · subst e8
    have HR : Hid (othS s ⟨8, sp, k, n, m, key, text⟩ = (putS s (keB sp k m) (frB k n text)).2) := by show _ = _; unfold othS; simp
    rw [HR.out]
    have CF : Hid (∀ w1, Calls Tryz.prog 28 #[.int .i64 k, .int .i64 n, .string text] w1 fun e w' => ∃ x, e = .returned (.tuple #[.string (frB k n text), .int .i64 x]) ∧ Below w1.heap.size w1 w') := fun w1 => frAny k n text w1 HF.out.n
    have CK : Hid (∀ w1, Calls Tryz.prog 29 #[.int .i64 sp, .int .i64 k, .int .i64 m] w1 fun e w' => ∃ x, e = .returned (.tuple #[.string (keB sp k m), .int .i64 x]) ∧ Below w1.heap.size w1 w') := fun w1 => keAny sp k m w1 HF.out.sp HF.out.m
    have z1 := frB_size k n text
    have z2 := keB_size sp k m
    have z3 := HF.out.text
    simp only at z3
    have C1 : Hid (∀ w1, Bp w.heap.size g bn bd g' ⟨8, sp, k, n, m, key, text⟩ s s w0 w1 → Calls _ _ _ _ _) := fun w1 h1 => sput1 (keB sp k m) (frB k n text) h1 (by omega) (by omega) hl1
    have C2 : Hid (∀ w1, Bp w.heap.size g bn bd g' ⟨8, sp, k, n, m, key, text⟩ (putS s (keB sp k m) (frB k n text)).2 s w0 w1 → Calls _ _ _ _ _) := fun w1 h1 => sput2 (keB sp k m) (frB k n text) h1 (by omega) (by omega) hl1
    clear z1 z2 z3
    generalize keB sp k m = KK at *
    generalize frB k n text = FF at *
    obtain ⟨R, HRR⟩ : ∃ R, Hid (putS s KK FF = R) := ⟨_, rfl⟩
    rw [HRR.out] at C1 C2 ⊢
    clear e7 HR HF
    go_enter Tryz.func7, Tryz.ntmps7
    go_upto_region 1 with fail
    rw [HW.out]
    go_wp2_with (first | (go_at_call 28; refine (CF.out _).mono ?_; rintro _ w5 ⟨x5, rfl, b5⟩; have h5 := Bp.later HB.out b5; have H5 : Hid (Bp _ _ _ _ _ _ _ _ _ w5) := h5; obtain ⟨a0, a1, a2, a3, a4, a5, a6⟩ := h5.cells; clear h5 b5) | (go_at_call 29; refine (CK.out _).mono ?_; rintro _ w6 ⟨x6, rfl, b6⟩; have H6 : Hid (Bp _ _ _ _ _ _ _ _ _ w6) := Bp.later H5.out b6; clear b6) | (go_at_call 26; refine (C1.out _ H6.out).mono ?_; rintro _ w3 ⟨rfl, h3⟩; have H3 : Hid (Bp _ _ _ _ _ _ _ _ _ w3) := h3; clear h3) | (go_at_call 27; refine (C2.out _ H3.out).mono ?_; rintro _ w4 ⟨rfl, h4⟩; have H4 : Hid (Bp _ _ _ _ _ _ _ _ _ w4) := h4; clear h4) | go_in)
    go_end0
    exact ⟨rfl, H4.out.1⟩
  by_cases e9 : dd = 9
  · subst e9
    have HR : Hid (othS s ⟨9, sp, k, n, m, key, text⟩ = (syncS s).2) := by show _ = _; unfold othS; simp
    rw [HR.out]
    have C1 : Hid (∀ w1, Bp w.heap.size g bn bd g' ⟨9, sp, k, n, m, key, text⟩ s s w0 w1 → Calls _ _ _ _ _) := fun w1 h1 => sync1  h1 
    have C2 : Hid (∀ w1, Bp w.heap.size g bn bd g' ⟨9, sp, k, n, m, key, text⟩ (syncS s).2 s w0 w1 → Calls _ _ _ _ _) := fun w1 h1 => sync2  h1 
    obtain ⟨R, HRR⟩ : ∃ R, Hid (syncS s = R) := ⟨_, rfl⟩
    rw [HRR.out] at C1 C2 ⊢
    clear e7 e8 HR HF
    go_enter Tryz.func7, Tryz.ntmps7
    go_upto_region 1 with fail
    rw [HW.out]
    go_wp2_with (first | (go_at_call 30; refine (C1.out _ HB.out).mono ?_; rintro _ w3 ⟨rfl, h3⟩; have H3 : Hid (Bp _ _ _ _ _ _ _ _ _ w3) := h3; obtain ⟨a0, a1, a2, a3, a4, a5, a6⟩ := h3.cells; clear h3) | (go_at_call 31; refine (C2.out _ H3.out).mono ?_; rintro _ w4 ⟨rfl, h4⟩; have H4 : Hid (Bp _ _ _ _ _ _ _ _ _ w4) := h4; clear h4) | go_in)
    go_end0
    exact ⟨rfl, H4.out.1⟩
  by_cases e10 : dd = 10
  · subst e10
    have HR : Hid (othS s ⟨10, sp, k, n, m, key, text⟩ = armS s m) := by show _ = _; unfold othS; simp
    rw [HR.out]
    have C1 : Hid (∀ w1, Bp w.heap.size g bn bd g' ⟨10, sp, k, n, m, key, text⟩ s s w0 w1 → Calls _ _ _ _ _) := fun w1 h1 => arm1 m h1 HF.out.m
    have C2 : Hid (∀ w1, Bp w.heap.size g bn bd g' ⟨10, sp, k, n, m, key, text⟩ (armS s m) s w0 w1 → Calls _ _ _ _ _) := fun w1 h1 => arm2 m h1 HF.out.m
    obtain ⟨R, HRR⟩ : ∃ R, Hid (armS s m = R) := ⟨_, rfl⟩
    rw [HRR.out] at C1 C2 ⊢
    clear e7 e8 e9 HR HF
    go_enter Tryz.func7, Tryz.ntmps7
    go_upto_region 1 with fail
    rw [HW.out]
    go_wp2_with (first | (go_at_call 32; refine (C1.out _ HB.out).mono ?_; rintro _ w3 ⟨rfl, h3⟩; have H3 : Hid (Bp _ _ _ _ _ _ _ _ _ w3) := h3; obtain ⟨a0, a1, a2, a3, a4, a5, a6⟩ := h3.cells; clear h3) | (go_at_call 33; refine (C2.out _ H3.out).mono ?_; rintro _ w4 ⟨rfl, h4⟩; have H4 : Hid (Bp _ _ _ _ _ _ _ _ _ w4) := h4; clear h4) | go_in)
    go_end0
    exact ⟨rfl, H4.out.1⟩
  by_cases e11 : dd = 11
  · subst e11
    have HR : Hid (othS s ⟨11, sp, k, n, m, key, text⟩ = crashS s text) := by show _ = _; unfold othS; simp
    rw [HR.out]
    have C1 : Hid (∀ w1, Bp w.heap.size g bn bd g' ⟨11, sp, k, n, m, key, text⟩ s s w0 w1 → Calls _ _ _ _ _) := fun w1 h1 => crash1 text h1 (by have := HF.out.text; simp only at this; omega) ha
    have C2 : Hid (∀ w1, Bp w.heap.size g bn bd g' ⟨11, sp, k, n, m, key, text⟩ (crashS s text) s w0 w1 → Calls _ _ _ _ _) := fun w1 h1 => crash2 text h1 (by have := HF.out.text; simp only at this; omega) ha
    obtain ⟨R, HRR⟩ : ∃ R, Hid (crashS s text = R) := ⟨_, rfl⟩
    rw [HRR.out] at C1 C2 ⊢
    clear e7 e8 e9 e10 HR HF
    go_enter Tryz.func7, Tryz.ntmps7
    go_upto_region 1 with fail
    rw [HW.out]
    go_wp2_with (first | (go_at_call 8; refine (C1.out _ HB.out).mono ?_; rintro _ w3 ⟨rfl, h3⟩; have H3 : Hid (Bp _ _ _ _ _ _ _ _ _ w3) := h3; obtain ⟨a0, a1, a2, a3, a4, a5, a6⟩ := h3.cells; clear h3) | (go_at_call 9; refine (C2.out _ H3.out).mono ?_; rintro _ w4 ⟨rfl, h4⟩; have H4 : Hid (Bp _ _ _ _ _ _ _ _ _ w4) := h4; clear h4) | go_in)
    go_end0
    exact ⟨rfl, H4.out.1⟩
  have HR : Hid (othS s ⟨dd, sp, k, n, m, key, text⟩ = s) := by show _ = _; unfold othS; simp [e7, e8, e9, e10, e11]
  rw [HR.out]
  have g7 : (dd == 7) = false := by rw [beq_eq_false_iff_ne]; exact e7
  have g8 : (dd == 8) = false := by rw [beq_eq_false_iff_ne]; exact e8
  have g9 : (dd == 9) = false := by rw [beq_eq_false_iff_ne]; exact e9
  have g10 : (dd == 10) = false := by rw [beq_eq_false_iff_ne]; exact e10
  have g11 : (dd == 11) = false := by rw [beq_eq_false_iff_ne]; exact e11
  clear e7 e8 e9 e10 e11 HR HF
  go_enter Tryz.func7, Tryz.ntmps7
  go_upto_region 1 with fail
  rw [HW.out]
  go_wp2
  go_end0
  exact ⟨rfl, HB.out.1⟩
end Go.Proofs.YtmindflfjocjlaaGreat.jm

namespace Go.Proofs.YtmindflfjocjlaaGreat.jo
open Go.RowKit Go.PlainAid Go.Maps Go.Shelf
open Go.Proofs.YtmindflfjocjlaaGreat.kp Go.Proofs.YtmindflfjocjlaaGreat.ka Go.Proofs.YtmindflfjocjlaaGreat.ya Go.Proofs.YtmindflfjocjlaaGreat.yb Go.Proofs.YtmindflfjocjlaaGreat.yc Go.Proofs.YtmindflfjocjlaaGreat.yd Go.Proofs.YtmindflfjocjlaaGreat.ye Go.Proofs.YtmindflfjocjlaaGreat.yf
open Go.Proofs.YtmindflfjocjlaaGreat.tqb (over)
open Go.Proofs.YtmindflfjocjlaaGreat.xc (Ds Rd Dt newD newDNo)
open Go.Proofs.YtmindflfjocjlaaGreat.jj Go.Proofs.YtmindflfjocjlaaGreat.jk
set_option linter.unusedVariables false
set_option linter.unusedSimpArgs false
-- a script of steps in memory
structure ReadsS (B : Nat) (w : World) (v : Value) (l : List Stp) : Prop where
  form : ∃ a c, v = .slice a l.length c ∧ (l.length = 0 ∨ ∃ b off, a = some ⟨b, off, none⟩ ∧ b < B ∧ ∀ i o, l[i]? = some o → w.cell? ⟨b, off + i * 7, none⟩ = some (.int .i64 o.d) ∧ w.cell? ⟨b, off + i * 7 + 1, none⟩ = some (.int .i64 o.sp) ∧ w.cell? ⟨b, off + i * 7 + 2, none⟩ = some (.int .i64 o.k) ∧ w.cell? ⟨b, off + i * 7 + 3, none⟩ = some (.int .i64 o.n) ∧ w.cell? ⟨b, off + i * 7 + 4, none⟩ = some (.int .i64 o.m) ∧ w.cell? ⟨b, off + i * 7 + 5, none⟩ = some (.string o.key) ∧ w.cell? ⟨b, off + i * 7 + 6, none⟩ = some (.string o.text))
  each : ∀ o ∈ l, Fine o
theorem ReadsS.later {B : Nat} {w w' : World} {v : Value} {l : List Stp} (h : ReadsS B w v l) (hb : Below B w w') : ReadsS B w' v l := by
  obtain ⟨⟨a, c, e, h1⟩, h2⟩ := h
  refine ⟨⟨a, c, e, h1.imp id ?_⟩, h2⟩
  rintro ⟨b, off, e1, e2, h3⟩
  refine ⟨b, off, e1, e2, fun i o ho => ?_⟩
  have key : ∀ j x, w.cell? ⟨b, j, none⟩ = some x → w'.cell? ⟨b, j, none⟩ = some x := fun j x hx => by
    rw [← hx]
    unfold World.cell?
    rw [show (⟨b, j, none⟩ : Addr).block = b from rfl, hb.block b e2]
  obtain ⟨q0, q1, q2, q3, q4, q5, q6⟩ := h3 i o ho
  exact ⟨key _ _ q0, key _ _ q1, key _ _ q2, key _ _ q3, key _ _ q4, key _ _ q5, key _ _ q6⟩
theorem sr_zero {B g bn bd : Nat} {pv : Value} {s : S} {w : World} (h : Sr B g bn bd pv s w) : Sr 0 g bn bd pv s w := by
  refine ⟨h.row, h.mn, h.md, h.ne, ?_, ⟨Nat.zero_le _, Nat.zero_le _, Nat.zero_le _⟩, h.ok⟩
  obtain ⟨h1, h2⟩ := h.pr
  refine ⟨h1, ?_⟩
  rcases h2 with h2 | ⟨g', cap, cur, e, hb, hr⟩
  · exact .inl h2
  · exact .inr ⟨g', cap, cur, e, Nat.zero_le _, hr⟩
theorem row_zero {w : World} {B t z n : Nat} {v : Value} {xs : List Value} (h : w.ownsRow B t z v n xs) : w.ownsRow 0 t z v n xs := by
  obtain ⟨h1, h2⟩ := h
  refine ⟨h1, ?_⟩
  rcases h2 with h2 | ⟨g', cap, cur, e, hb, hr⟩
  · exact .inl h2
  · exact .inr ⟨g', cap, cur, e, Nat.zero_le _, hr⟩
theorem ds_zero {B g : Nat} {dv wv vv : Value} {s : S} {w : World} (h : Ds B g dv wv vv s w) : Ds 0 g dv wv vv s w := ⟨h.row, row_zero h.dl, row_zero h.vl, row_zero h.wl, Nat.zero_le _, h.ok⟩
theorem two_new {g bn bd g' : Nat} {c : Int} {w w1 w2 : World} (h1 : Sr w.heap.size g bn bd (.slice none 0 0) ⟨c, [], [], 0, false, 0⟩ w1) (b1 : Below w.heap.size w w1) (h2 : Ds w1.heap.size g' (.slice none 0 0) (.slice none 0 0) (.slice none 0 0) ⟨c, [], [], 0, false, 0⟩ w2) (b2 : Below w1.heap.size w1 w2) : Two g bn bd g' ⟨c, [], [], 0, false, 0⟩ ⟨c, [], [], 0, false, 0⟩ w w2 := by
  refine ⟨⟨_, _, _, _, sr_later (sr_zero h1) b2, ds_zero h2, ?_, ?_⟩, over b1 b2⟩
  · rintro j (rfl | rfl | rfl | e)
    · exact h1.low.1
    · exact h1.low.2.1
    · exact h1.low.2.2
    · cases e
  · rintro j (rfl | e)
    · exact Nat.le_trans b1.size h2.low
    · cases e
theorem grow0 (c : Int) : Gr ⟨c, [], [], 0, false, 0⟩ 1 0 := ⟨by simp [Go.Proofs.YtmindflfjocjlaaGreat.yo.isz, pP], by show 0 + 0 ≤ 0 + 0; omega, Nat.le_refl _⟩
end Go.Proofs.YtmindflfjocjlaaGreat.jo

namespace Go.Proofs.YtmindflfjocjlaaGreat.fa
open Go.RowKit Go.PlainAid
open Go.Proofs.YtmindflfjocjlaaGreat.kp Go.Proofs.YtmindflfjocjlaaGreat.ka
set_option linter.unusedVariables false

theorem own_below {w w' : World} {B t z n : Nat} {v : Value} {xs : List Value} (o : w.ownsRow B t z v n xs) (hb : Below w.heap.size w w') : w'.ownsRow B t z v n xs := Go.Proofs.YtmindflfjocjlaaGreat.cp.own_later o hb
theorem own_mono {w : World} {B B' t z n : Nat} {v : Value} {xs : List Value} (o : w.ownsRow B t z v n xs) (h : B' ≤ B) : w.ownsRow B' t z v n xs := Go.Proofs.YtmindflfjocjlaaGreat.cp.own_down o h
theorem info_ints : (Tryz.prog.info? 3).map (fun i => (i.zero, i.size, i.bytes)) = some (some (.int .i64 0), 1, 8) := by kernel_rfl
theorem new_one (W : World) (a : Value) (t : TypeId) : ∀ (j : Nat) (u : Value), [a][j]? = some u → (W.alloc (.cells #[a] t)).cell? (Addr.add ⟨W.heap.size, 0, none⟩ j) = some u := by
  intro j y h
  have hb : (W.alloc (.cells #[a] t)).heap[W.heap.size]? = some (.cells #[a] t (0, 0)) := (Go.MapKept.heap_alloc W _).1
  have e : (Addr.add ⟨W.heap.size, 0, none⟩ j) = ⟨W.heap.size, j, none⟩ := by cases j <;> simp [Addr.add]
  rw [e, cell_of_row _ _ _ _ _ _ hb]
  simpa using h
theorem infoL : (Tryz.prog.info? 32).map (fun i => (i.zero, i.size, i.bytes)) = some (some (.slice none 0 0), 1, 24) := by kernel_rfl
-- rows of unlike elements: the one grows, the other is kept
theorem own_other {w w' : World} {B B' e e' size size' n n' : Nat} {v v' : Value} {xs xs' : List Value} (h : w.ownsRow B e size v n xs) (h' : w.ownsRow B' e' size' v' n' xs') (hne : e ≠ e') (hg : w.grownBy w' v'.ownBlock) : w'.ownsRow B e size v n xs := by
  refine ⟨h.1, ?_⟩
  rcases h.2 with hn | ⟨g, cap, cur, rfl, hb, hgg, rest⟩
  · exact .inl hn
  · refine .inr ⟨g, cap, cur, rfl, hb, ?_, rest⟩
    rw [hg.block g (Array.getElem?_eq_some_iff.1 hgg).1 ?_]
    · exact hgg
    · intro he
      rcases h'.2 with ⟨rfl, _⟩ | ⟨g', cap', cur', rfl, _, hgg', _⟩
      · cases he
      · have e1 : g = g' := Option.some.inj he
        subst e1
        rw [hgg] at hgg'
        simp only [Option.some.injEq, Obj.cells.injEq] at hgg'
        exact hne hgg'.2.1
-- a row of lists, each of its own
structure Fam (w : World) (B : Nat) (mv : Value) (ms : List Value) (xss : List (List Int)) : Prop where
  row : w.ownsRow B 32 1 mv ms.length ms
  lx : xss.length = ms.length
  one : ∀ (t : Nat) (v : Value) (xs : List Int), ms[t]? = some v → xss[t]? = some xs → w.ownsRow B 3 1 v xs.length (xs.map (Value.int .i64))
  apart : ∀ (i j : Nat) (v u : Value) (g : Nat), i ≠ j → ms[i]? = some v → ms[j]? = some u → v.ownBlock = some g → u.ownBlock ≠ some g
theorem Fam.nil (w : World) (B : Nat) : Fam w B (.slice none 0 0) [] [] := ⟨World.ownsRow_nil _ _ _ _, rfl, fun t v xs h => by simp at h, fun i j v u g _ h => by simp at h⟩
theorem Fam.later {w w' : World} {B : Nat} {mv : Value} {ms : List Value} {xss : List (List Int)} (h : Fam w B mv ms xss) (hb : Below w.heap.size w w') : Fam w' B mv ms xss :=
  ⟨own_below h.row hb, h.lx, fun t v xs h1 h2 => own_below (h.one t v xs h1 h2) hb, h.apart⟩
theorem Fam.lt {w : World} {B : Nat} {mv : Value} {ms : List Value} {xss : List (List Int)} (h : Fam w B mv ms xss) (t : Nat) (v : Value) (g : Nat) (h1 : ms[t]? = some v) (h2 : v.ownBlock = some g) : g < w.heap.size := by
  have hl := (List.getElem?_eq_some_iff.1 h1).1
  have h3 := h.one t v _ h1 (List.getElem?_eq_getElem (by rw [h.lx]; exact hl))
  exact (h3.lt _ h2).2
theorem Fam.put {w w' : World} {B S k : Nat} {mv mv' l : Value} {ms : List Value} {xss : List (List Int)} {xs : List Int} (h : Fam w B mv ms xss) (hk : ms.length = k) (hS : B ≤ S) (hm : ∀ (t : Nat) (v : Value) (g : Nat), ms[t]? = some v → v.ownBlock = some g → g < S) (hl : w.ownsRow S 3 1 l xs.length (xs.map (Value.int .i64)))
    (ho : w'.ownsRow B 32 1 mv' (k + 1) (ms ++ [l])) (hg : w.grownBy w' mv.ownBlock) : Fam w' B mv' (ms ++ [l]) (xss ++ [xs]) := by
  have hne : (3 : Nat) ≠ 32 := by decide
  have hlx := h.lx
  refine ⟨by rw [List.length_append, hk]; exact ho, by simp [hlx], fun t v ys h1 h2 => ?_, fun i j v u g hij h1 h2 h3 h4 => ?_⟩
  · rcases Nat.lt_or_ge t ms.length with e | e
    · rw [List.getElem?_append_left e] at h1
      rw [List.getElem?_append_left (by omega)] at h2
      exact own_other (h.one t v ys h1 h2) h.row hne hg
    · rw [List.getElem?_append_right e] at h1
      rw [List.getElem?_append_right (by omega)] at h2
      have e0 : t - ms.length = 0 := by
        rcases Nat.eq_zero_or_pos (t - ms.length) with e | e
        · exact e
        · rw [List.getElem?_eq_none (by simp; omega)] at h1; cases h1
      rw [e0] at h1
      rw [show t - xss.length = 0 by omega] at h2
      obtain rfl : l = v := by simpa using h1
      obtain rfl : xs = ys := by simpa using h2
      exact own_mono (own_other hl h.row hne hg) hS
  · have key : ∀ (t : Nat) (x : Value), (ms ++ [l])[t]? = some x → (ms[t]? = some x ∧ t < ms.length) ∨ (x = l ∧ t = ms.length) := by
      intro t x hx
      rcases Nat.lt_or_ge t ms.length with e | e
      · rw [List.getElem?_append_left e] at hx
        exact .inl ⟨hx, e⟩
      · rw [List.getElem?_append_right e] at hx
        rcases Nat.eq_zero_or_pos (t - ms.length) with e0 | e0
        · rw [e0] at hx
          exact .inr ⟨by simpa using hx.symm, by omega⟩
        · rw [List.getElem?_eq_none (by simp; omega)] at hx; cases hx
    rcases key i v h1 with ⟨a1, a2⟩ | ⟨rfl, a2⟩
    · rcases key j u h2 with ⟨b1, b2⟩ | ⟨rfl, b2⟩
      · exact h.apart i j v u g hij a1 b1 h3 h4
      · have := hm i v g a1 h3
        have := (hl.lt _ h4).1
        omega
    · rcases key j u h2 with ⟨b1, b2⟩ | ⟨rfl, b2⟩
      · have := hm j u g b1 h4
        have := (hl.lt _ h3).1
        omega
      · omega
-- the mark of list i
def mk (i : Nat) : Int := -20 - i
def mks (n : Nat) (M : Int) : List Value := (List.replicate n M).map (Value.int .i64)
-- one element of an own row is written
theorem own_put {w : World} {B t n g cap k : Nat} {xs : List Value} (h : w.ownsRow B t 1 (.slice (some ⟨g, 0, none⟩) n cap) n xs) (hk : k < n) (u : Value) : (w.setCell ⟨g, k, none⟩ u).ownsRow B t 1 (.slice (some ⟨g, 0, none⟩) n cap) n (xs.set k u) := by
  refine ⟨by rw [List.length_set]; exact h.1, ?_⟩
  rcases h.2 with ⟨e, _⟩ | ⟨g', cap', cur, e, h2, h3, h4, h5, h6, h7⟩
  · cases e
  · injection e with e1 _ e3
    injection e1 with e1
    injection e1 with e1 _ _
    subst e1 e3
    refine .inr ⟨g, cap, cur.setIfInBounds k u, rfl, h2, heap_setCell_same _ _ k _ _ _ h3, h4, h5, by simpa using h6, ?_⟩
    rw [← h7, Array.toList_setIfInBounds, List.take_set]
theorem own_prefix {w : World} {B t N n g cap : Nat} {xs : List Value} (h : w.ownsRow B t 1 (.slice (some ⟨g, 0, none⟩) N cap) N xs) (hn : n ≤ N) : w.ownsRow B t 1 (.slice (some ⟨g, 0, none⟩) n cap) n (xs.take n) := by
  have hl := h.1
  refine ⟨by rw [List.length_take]; omega, ?_⟩
  rcases h.2 with ⟨e, _⟩ | ⟨g', cap', cur, e, h2, h3, h4, h5, h6, h7⟩
  · cases e
  · injection e with e1 _ e3
    injection e1 with e1
    injection e1 with e1 _ _
    subst e1 e3
    refine .inr ⟨g, cap, cur, rfl, h2, h3, by omega, h5, h6, ?_⟩
    rw [← h7, List.take_take]
    congr 1
    omega
theorem own_cap {w : World} {B B' t n n' g cap cap' : Nat} {xs xs' : List Value} (h : w.ownsRow B t 1 (.slice (some ⟨g, 0, none⟩) n cap) n xs) (h' : w.ownsRow B' t 1 (.slice (some ⟨g, 0, none⟩) n' cap') n' xs') : cap = cap' := by
  rcases h.2 with ⟨e, _⟩ | ⟨a, b, cur, e, _, h3, _, _, h6, _⟩
  · cases e
  · rcases h'.2 with ⟨e', _⟩ | ⟨a', b', cur', e', _, h3', _, _, h6', _⟩
    · cases e'
    · injection e with e1 _ e3
      injection e1 with e1
      injection e1 with e1 _ _
      injection e' with e1' _ e3'
      injection e1' with e1'
      injection e1' with e1' _ _
      subst e1 e3 e1' e3'
      rw [h3] at h3'
      simp only [Option.some.injEq, Obj.cells.injEq] at h3'
      rw [← h3'.1] at h6'
      omega
theorem own_shape {w : World} {B t n : Nat} {v : Value} {xs : List Value} (h : w.ownsRow B t 1 v n xs) : (v = .slice none 0 0 ∧ n = 0) ∨ ∃ g cap, v = .slice (some ⟨g, 0, none⟩) n cap ∧ n ≤ cap ∧ B ≤ g ∧ g < w.heap.size := by
  rcases h.2 with h1 | ⟨g, cap, cur, e, h2, h3, h4, _⟩
  · exact .inl h1
  · exact .inr ⟨g, cap, e, h4, h2, (Array.getElem?_eq_some_iff.1 h3).1⟩
-- a list that grows, and what it came of
structure J (w0 w : World) (B : Nat) (v l : Value) (n m : Nat) (M : Int) : Prop where
  own : w.ownsRow B 3 1 l (n + m) (mks (n + m) M)
  old : w.ownsRow B 3 1 v n (mks n M)
  at_ : l.ownBlock = v.ownBlock ∨ ∃ g, l.ownBlock = some g ∧ w0.heap.size ≤ g
  gr : w0.grownBy w v.ownBlock
theorem grown_refl (w : World) (r : Option Nat) : w.grownBy w r := ⟨rfl, rfl, rfl, Nat.le_refl _, fun _ _ _ => rfl⟩
theorem grown_trans {a b c : World} {r s : Option Nat} (h1 : a.grownBy b r) (h2 : b.grownBy c s) (h : s = r ∨ s = none ∨ ∃ g, s = some g ∧ a.heap.size ≤ g) : a.grownBy c r :=
  ⟨h2.os.trans h1.os, h2.tape.trans h1.tape, h2.output.trans h1.output, Nat.le_trans h1.size h2.size, fun k hk hr => (h2.block k (Nat.lt_of_lt_of_le hk h1.size) (fun e => by
    rcases h with h | h | ⟨g, h, hg⟩
    · exact hr (e.trans h)
    · rw [h] at e; cases e
    · rw [h] at e
      have := Option.some.inj e
      omega)).trans (h1.block k hk hr)⟩
theorem J.start {w : World} {B n : Nat} {v : Value} {M : Int} (h : w.ownsRow B 3 1 v n (mks n M)) : J w w B v v n 0 M := ⟨h, h, .inl rfl, grown_refl _ _⟩
theorem J.alloc {w0 w : World} {B n m : Nat} {v l : Value} {M : Int} (h : J w0 w B v l n m M) (o : Obj) : J w0 (w.alloc o) B v l n m M :=
  ⟨h.own.alloc o, h.old.alloc o, h.at_, grown_trans h.gr (World.grownBy_alloc w o none) (.inr (.inl rfl))⟩
theorem mks_succ (n : Nat) (M : Int) : mks n M ++ [(Value.int .i64) M] = mks (n + 1) M := by
  unfold mks
  rw [List.replicate_succ', List.map_append]
  rfl
theorem mks_take (n N : Nat) (M : Int) (h : n ≤ N) : (mks N M).take n = mks n M := by
  unfold mks
  rw [← List.map_take, List.take_replicate, Nat.min_eq_left h]
theorem J.spare {w0 w w5 : World} {B n m g cap : Nat} {v : Value} {M : Int} (h : J w0 w B v (.slice (some ⟨g, 0, none⟩) (n + m) cap) n m M) (ho : w5.ownsRow B 3 1 (.slice (some ⟨g, 0, none⟩) (n + m + 1) cap) (n + m + 1) (mks (n + m) M ++ [(Value.int .i64) M])) (hg : w.grownBy w5 (some g)) : J w0 w5 B v (.slice (some ⟨g, 0, none⟩) (n + (m + 1)) cap) n (m + 1) M := by
  rw [mks_succ] at ho
  refine ⟨ho, ?_, h.at_, grown_trans h.gr hg ?_⟩
  · rcases own_shape h.old with ⟨rfl, rfl⟩ | ⟨g', cap', rfl, _⟩
    · exact World.ownsRow_nil _ _ _ _
    · rcases Decidable.em (g' = g) with rfl | hne
      · obtain rfl := own_cap h.old h.own
        have := own_prefix ho (n := n) (by omega)
        rwa [mks_take _ _ _ (by omega)] at this
      · exact h.old.kept hg (.inr (fun e => hne (Option.some.inj e)))
  · rcases h.at_ with e | ⟨g', e, h2⟩
    · exact .inl e
    · exact .inr (.inr ⟨g', e, h2⟩)
theorem J.grow {w0 w w5 : World} {B n m : Nat} {v l l' : Value} {M : Int} (h : J w0 w B v l n m M) (hB : B ≤ w.heap.size) (ho : w5.ownsRow w.heap.size 3 1 l' (n + m + 1) (mks (n + m) M ++ [(Value.int .i64) M])) (hg : w.grownBy w5 none) : J w0 w5 B v l' n (m + 1) M := by
  rw [mks_succ] at ho
  have hs := h.gr.size
  refine ⟨own_mono ho hB, h.old.kept hg (by cases hv : v.ownBlock with | none => exact .inl rfl | some g => exact .inr (by simp)), ?_, grown_trans h.gr hg (.inr (.inl rfl))⟩
  rcases own_shape ho with ⟨_, e⟩ | ⟨g, cap, rfl, _, h2, _⟩
  · omega
  · exact .inr ⟨g, rfl, by omega⟩
theorem J.forms {w0 w : World} {B n m : Nat} {v l : Value} {M : Int} (h : J w0 w B v l n m M) : (∃ ao cap, l = .slice ao (n + m) cap ∧ cap < n + m + 1 ∧ (ao = none → n + m = 0 ∧ cap = 0)) ∨ ∃ g cap, l = .slice (some ⟨g, 0, none⟩) (n + m) cap ∧ n + m + 1 ≤ cap := by
  rcases own_shape h.own with ⟨rfl, e⟩ | ⟨g, cap, rfl, h2, _⟩
  · exact .inl ⟨none, 0, by rw [e], by omega, fun _ => ⟨e, rfl⟩⟩
  · rcases Nat.lt_or_ge cap (n + m + 1) with hc | hc
    · exact .inl ⟨_, cap, rfl, hc, fun e => by cases e⟩
    · exact .inr ⟨g, cap, rfl, hc⟩
theorem own_cells {w : World} {B t n : Nat} {ao : Option Addr} {cap : Nat} {xs : List Value} (h : w.ownsRow B t 1 (.slice ao n cap) n xs) : ∀ b, ao = some b → ∀ (j : Nat) (u : Value), xs[j]? = some u → w.cell? (b.add j) = some u := by
  intro b e j u hu
  subst e
  have hl := h.1
  have hj := (List.getElem?_eq_some_iff.1 hu).1
  rcases own_shape h with ⟨e, _⟩ | ⟨g, cap', e, _⟩
  · cases e
  · injection e with e1 _ e3
    injection e1 with e1
    subst e1 e3
    have := h.cellAt j (by omega)
    have e2 : (Addr.add ⟨g, 0, none⟩ j) = ⟨g, j, none⟩ := by cases j <;> simp [Addr.add]
    rw [e2, this]
    exact hu
-- the lists one after another
structure Grew (w : World) (B S : Nat) (nv : Value) (vs : List Value) (ns : List Nat) (ms : List Value) : Prop where
  olds : ∀ (t : Nat) (v : Value), vs[t]? = some v → w.ownsRow B 3 1 v (ns.getD t 0) (mks (ns.getD t 0) (mk t))
  row : w.ownsRow S 32 1 nv ms.length ms
  one : ∀ (t : Nat) (v : Value), ms[t]? = some v → w.ownsRow B 3 1 v (ns.getD t 0 + 64) (mks (ns.getD t 0 + 64) (mk t))
  blk : ∀ (t : Nat) (v u : Value), ms[t]? = some v → vs[t]? = some u → v.ownBlock = u.ownBlock ∨ ∃ g, v.ownBlock = some g ∧ S ≤ g
theorem Grew.keep {w w' : World} {B S q : Nat} {nv v : Value} {vs : List Value} {ns : List Nat} {ms : List Value} (h : Grew w B S nv vs ns ms) (hap : ∀ (i j : Nat) (v u : Value) (g : Nat), i ≠ j → vs[i]? = some v → vs[j]? = some u → v.ownBlock = some g → u.ownBlock ≠ some g) (hlt : ∀ (t : Nat) (v : Value) (g : Nat), vs[t]? = some v → v.ownBlock = some g → g < S)
    (hv : vs[q]? = some v) (hm : ms.length = q) (hvl : ∀ t, t < q → ∃ u, vs[t]? = some u) (hg : w.grownBy w' v.ownBlock) (ho : w'.ownsRow B 3 1 v (ns.getD q 0) (mks (ns.getD q 0) (fa.mk q))) : Grew w' B S nv vs ns ms := by
  have hne : (3 : Nat) ≠ 32 := by decide
  refine ⟨fun t u hu => ?_, own_other h.row (h.olds q v hv) (fun e => hne e.symm) hg, fun t u hu => ?_, h.blk⟩
  · rcases Decidable.em (t = q) with rfl | htq
    · rw [hv] at hu
      obtain rfl := Option.some.inj hu
      exact ho
    · refine (h.olds t u hu).kept hg ?_
      cases e : u.ownBlock with
      | none => exact .inl rfl
      | some g => exact .inr (fun e2 => hap t q u v g htq hu hv e e2.symm)
  · have htq : t < q := by have := (List.getElem?_eq_some_iff.1 hu).1; omega
    obtain ⟨x, hx⟩ := hvl t htq
    refine (h.one t u hu).kept hg ?_
    cases e : u.ownBlock with
    | none => exact .inl rfl
    | some g =>
      refine .inr (fun e2 => ?_)
      rcases h.blk t u x hu hx with e3 | ⟨g', e3, h3⟩
      · exact hap t q x v g (by omega) hx hv (e3.symm.trans e) e2.symm
      · rw [e] at e3
        obtain rfl := Option.some.inj e3
        have := hlt q v g hv e2.symm
        omega
theorem Grew.push {w w' : World} {B S q : Nat} {nv nv' l : Value} {vs : List Value} {ns : List Nat} {ms : List Value} (h : Grew w B S nv vs ns ms) (hm : ms.length = q) (hl : w.ownsRow B 3 1 l (ns.getD q 0 + 64) (mks (ns.getD q 0 + 64) (fa.mk q)))
    (hb : ∀ u, vs[q]? = some u → l.ownBlock = u.ownBlock ∨ ∃ g, l.ownBlock = some g ∧ S ≤ g) (ho : w'.ownsRow S 32 1 nv' (q + 1) (ms ++ [l])) (hg : w.grownBy w' nv.ownBlock) : Grew w' B S nv' vs ns (ms ++ [l]) := by
  have hne : (3 : Nat) ≠ 32 := by decide
  have key : ∀ (t : Nat) (x : Value), (ms ++ [l])[t]? = some x → (ms[t]? = some x) ∨ (x = l ∧ t = q) := by
    intro t x hx
    rcases Nat.lt_or_ge t ms.length with e | e
    · rw [List.getElem?_append_left e] at hx
      exact .inl hx
    · rw [List.getElem?_append_right e] at hx
      rcases Nat.eq_zero_or_pos (t - ms.length) with e0 | e0
      · rw [e0] at hx
        exact .inr ⟨by simpa using hx.symm, by omega⟩
      · rw [List.getElem?_eq_none (by simp; omega)] at hx; cases hx
  refine ⟨fun t u hu => own_other (h.olds t u hu) h.row hne hg, by rw [List.length_append, hm]; exact ho, fun t u hu => ?_, fun t u x hu hx => ?_⟩
  · rcases key t u hu with e | ⟨rfl, rfl⟩
    · exact own_other (h.one t u e) h.row hne hg
    · exact own_other hl h.row hne hg
  · rcases key t u hu with e | ⟨rfl, rfl⟩
    · exact h.blk t u x e hx
    · exact hb x hx
theorem Grew.below {w w' : World} {B S : Nat} {nv : Value} {vs : List Value} {ns : List Nat} {ms : List Value} (h : Grew w B S nv vs ns ms) (hb : Below w.heap.size w w') : Grew w' B S nv vs ns ms :=
  ⟨fun t v hv => own_below (h.olds t v hv) hb, own_below h.row hb, fun t v hv => own_below (h.one t v hv) hb, h.blk⟩
-- a list of the row is written
theorem Fam.set {w : World} {B k g cap m : Nat} {mv : Value} {ms : List Value} {xss : List (List Int)} {xs : List Int} (h : Fam w B mv ms xss) (hv : ms[k]? = some (.slice (some ⟨g, 0, none⟩) xs.length cap)) (hx : xss[k]? = some xs) (hm : m < xs.length) (x : Int) : Fam (w.setCell ⟨g, m, none⟩ (.int .i64 x)) B mv ms (xss.set k (xs.set m x)) := by
  have hne : (3 : Nat) ≠ 32 := by decide
  have hme := h.one k _ xs hv hx
  have hg : w.grownBy (w.setCell ⟨g, m, none⟩ (.int .i64 x)) (some g) := ⟨rfl, rfl, rfl, by simp [World.setCell], fun i _ hi => Below.heap_setCell _ _ _ _ (by intro e; exact hi (congrArg some (by first | exact e | exact e.symm)))⟩
  refine ⟨own_other h.row hme (fun e => hne e.symm) hg, by rw [List.length_set]; exact h.lx, fun t v ys h1 h2 => ?_, h.apart⟩
  rcases Decidable.em (t = k) with rfl | htk
  · rw [hv] at h1
    obtain rfl := Option.some.inj h1
    rw [List.getElem?_set_self (List.getElem?_eq_some_iff.1 hx).1] at h2
    obtain rfl := Option.some.inj h2
    rw [List.length_set, List.map_set]
    exact own_put hme hm _
  · rw [List.getElem?_set_ne (fun e => htk e.symm)] at h2
    refine (h.one t v ys h1 h2).kept hg ?_
    cases e : v.ownBlock with
    | none => exact .inl rfl
    | some g' => exact .inr (fun e2 => h.apart t k v _ g' htk h1 hv e (by rw [e2]; rfl))
end Go.Proofs.YtmindflfjocjlaaGreat.fa
