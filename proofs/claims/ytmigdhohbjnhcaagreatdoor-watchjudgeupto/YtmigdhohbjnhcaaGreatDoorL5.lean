import Derived.Test.YtmigdhohbjnhcaaGreatDoorL2
import Derived.Test.YtmigdhohbjnhcaaGreatDoorM3
namespace Go.Proofs.YtmigdhohbjnhcaaGreatDoor.wj1
open Go.RowKit Go.PlainAid Go.Shelf
open Go.Proofs.YtmigdhohbjnhcaaGreatDoor.ft Go.Proofs.YtmigdhohbjnhcaaGreatDoor.pj Go.Proofs.YtmigdhohbjnhcaaGreatDoor.rf Go.Proofs.YtmigdhohbjnhcaaGreatDoor.ta Go.Proofs.YtmigdhohbjnhcaaGreatDoor.tb Go.Proofs.YtmigdhohbjnhcaaGreatDoor.tc Go.Proofs.YtmigdhohbjnhcaaGreatDoor.tj Go.Proofs.YtmigdhohbjnhcaaGreatDoor.wa Go.Proofs.YtmigdhohbjnhcaaGreatDoor.wb Go.Proofs.YtmigdhohbjnhcaaGreatDoor.o1 Go.Proofs.YtmigdhohbjnhcaaGreatDoor.q2 Go.Proofs.YtmigdhohbjnhcaaGreatDoor.q5 Go.Proofs.YtmigdhohbjnhcaaGreatDoor.r1 Go.Proofs.YtmigdhohbjnhcaaGreatDoor.v4 Go.Proofs.YtmigdhohbjnhcaaGreatDoor.v8 Go.Proofs.YtmigdhohbjnhcaaGreatDoor.z1 Go.Proofs.YtmigdhohbjnhcaaGreatDoor.z6
set_option linter.unusedVariables false
set_option maxRecDepth 4000

-- a block of four cells, of two
theorem cells4 {W : World} {b : Nat} {t : TypeId} {a0 a1 a2 a3 : Value} (h : W.heap[b]? = some (.cells #[a0, a1, a2, a3] t (0, 0))) : W.cell? ⟨b, 0, none⟩ = some a0 ∧ W.cell? ⟨b, 1, none⟩ = some a1 ∧ W.cell? ⟨b, 2, none⟩ = some a2 ∧ W.cell? ⟨b, 3, none⟩ = some a3 ∧ W.frozen? ⟨b, 0, none⟩ = false ∧ W.frozen? ⟨b, 1, none⟩ = false ∧ W.frozen? ⟨b, 2, none⟩ = false ∧ W.frozen? ⟨b, 3, none⟩ = false := by
  refine ⟨?_, ?_, ?_, ?_, frozen_of_row W b 0 _ _ h, frozen_of_row W b 1 _ _ h, frozen_of_row W b 2 _ _ h, frozen_of_row W b 3 _ _ h⟩ <;> (rw [cell_of_row _ _ _ _ _ _ h]; rfl)
theorem cells2 {W : World} {b : Nat} {t : TypeId} {a0 a1 : Value} (h : W.heap[b]? = some (.cells #[a0, a1] t (0, 0))) : W.cell? ⟨b, 0, none⟩ = some a0 ∧ W.cell? ⟨b, 1, none⟩ = some a1 := by
  refine ⟨?_, ?_⟩ <;> (rw [cell_of_row _ _ _ _ _ _ h]; rfl)
theorem four_row {W : World} {b : Nat} {t : TypeId} {a0 a1 a2 a3 : Value} (h : W.heap[b]? = some (.cells #[a0, a1, a2, a3] t (0, 0))) (x0 x1 x2 x3 : Value) : ((((W.setCell ⟨b, 0, none⟩ x0).setCell ⟨b, 1, none⟩ x1).setCell ⟨b, 2, none⟩ x2).setCell ⟨b, 3, none⟩ x3).heap[b]? = some (.cells #[x0, x1, x2, x3] t (0, 0)) := by
  have h1 := heap_setCell_same W b 0 _ _ x0 h
  have h2 := heap_setCell_same _ b 1 _ _ x1 h1
  have h3 := heap_setCell_same _ b 2 _ _ x2 h2
  exact heap_setCell_same _ b 3 _ _ x3 h3
theorem four_below {B : Nat} {w W : World} (hb : Below B w W) (b : Nat) (h : B ≤ b) (x0 x1 x2 x3 : Value) : Below B w ((((W.setCell ⟨b, 0, none⟩ x0).setCell ⟨b, 1, none⟩ x1).setCell ⟨b, 2, none⟩ x2).setCell ⟨b, 3, none⟩ x3) :=
  (((hb.setCell (p := ⟨b, 0, none⟩) h _).setCell (p := ⟨b, 1, none⟩) h _).setCell (p := ⟨b, 2, none⟩) h _).setCell (p := ⟨b, 3, none⟩) h _
-- the key in its box, the answer in its cells
structure Rb (w : World) (K R : Nat) (k : Ky) (W : World) : Prop where
  bl : Below w.heap.size w W
  lk : w.heap.size ≤ K
  lo : w.heap.size ≤ R
  key : W.heap[K]? = some (.cells #[.string k.1, .string k.2] 23 (0, 0))
  res : W.heap[R]? = some (.cells #[.string ⟨#[]⟩, .int .i64 0, .string ⟨#[]⟩, .slice none 0 0] 32 (0, 0))
theorem Rb.later {w : World} {K R : Nat} {k : Ky} {W W' : World} (t : Rb w K R k W) (h : Below W.heap.size W W') : Rb w K R k W' :=
  ⟨t.bl.trans (h.mono t.bl.size), t.lk, t.lo, (h.block _ (Array.getElem?_eq_some_iff.1 t.key).1).trans t.key, (h.block _ (Array.getElem?_eq_some_iff.1 t.res).1).trans t.res⟩
theorem Rb.fin {w : World} {K R : Nat} {k : Ky} {W : World} (t : Rb w K R k W) (x0 x1 x2 x3 : Value) : ∃ W9, Hid ((((W.setCell ⟨R, 0, none⟩ x0).setCell ⟨R, 1, none⟩ x1).setCell ⟨R, 2, none⟩ x2).setCell ⟨R, 3, none⟩ x3 = W9) ∧ Hid (Below w.heap.size w W9) ∧ W9.cell? ⟨R, 0, none⟩ = some x0 ∧ W9.cell? ⟨R, 1, none⟩ = some x1 ∧ W9.cell? ⟨R, 2, none⟩ = some x2 ∧ W9.cell? ⟨R, 3, none⟩ = some x3 := by
  obtain ⟨d0, d1, d2, d3, -⟩ := cells4 (four_row t.res x0 x1 x2 x3)
  exact ⟨_, rfl, four_below t.bl _ t.lo _ _ _ _, d0, d1, d2, d3⟩
theorem rb_new (w : World) (k : Ky) : Rb w w.heap.size (w.heap.size + 1) k ((w.alloc (.cells #[.string k.1, .string k.2] 23)).alloc (.cells #[.string ⟨#[]⟩, .int .i64 0, .string ⟨#[]⟩, .slice none 0 0] 32)) := by
  have ez : (w.alloc (.cells #[.string k.1, .string k.2] 23)).heap.size = w.heap.size + 1 := by simp
  refine ⟨((Below.refl _ _).alloc (Nat.le_refl _) _).alloc (by rw [ez]; omega) _, Nat.le_refl _, by omega, ?_, ?_⟩
  · rw [Below.heap_alloc _ _ _ (by rw [ez]; omega)]
    exact heap_alloc_new _ _
  · rw [← ez]
    exact heap_alloc_new _ _
-- one key as a list
theorem one_key (W : World) (k : Ky) : ReadsY (W.alloc (.cells #[.string k.1, .string k.2] 23)) (.slice (some ⟨W.heap.size, 0, none⟩) 1 1) [k] := by
  refine ⟨some ⟨W.heap.size, 0, none⟩, 1, rfl, Nat.le_refl _, (fun e => by cases e), .inr ⟨W.heap.size, 0, rfl, fun i st h => ?_⟩⟩
  match i, h with
  | 0, h =>
    simp at h
    subst h
    exact cells2 (heap_alloc_new _ _)
  | i + 1, h => simp at h
-- WHAT A NOTE BY A KEY TELLS
structure Rd4 where
  o : ByteArray
  n : Int
  r : ByteArray
  e : Int
def no4 (e : Int) : Rd4 := ⟨⟨#[]⟩, 0, ⟨#[]⟩, e⟩
noncomputable def rlO (s : ByteArray) : List ByteArray := Classical.choose (gives_ex s)
theorem rlO_gives (s : ByteArray) : Gives s (rlO s) := (Classical.choose_spec (gives_ex s)).1
noncomputable def opO (k : Ky) (s : ByteArray) : Opn := opB s (rlO s) [k]
noncomputable def rd (k : Ky) (s : ByteArray) : Rd4 :=
  if (opO k s).2 ≠ 0 then no4 (opO k s).2
  else if pvF (opO k s).1.1 ≠ 0 then no4 (pvF (opO k s).1.1)
  else if (pv (opO k s).1.1).o ≠ k.1 then no4 220
  else ⟨(pv (opO k s).1.1).o, (pv (opO k s).1.1).n, (pv (opO k s).1.1).r, 0⟩
def RdQ (x : Rd4) (e : Ending) : Prop := ∃ a l c, e = .returned (.tuple #[.agg #[.string x.o, .int .i64 x.n, .string x.r, .slice a l c], .int .i64 x.e])
theorem opO_size (k : Ky) (s : ByteArray) : (opO k s).1.1.size ≤ 65536 := by
  unfold opO opB
  by_cases hb : 65536 < s.size
  · rw [if_pos hb]; exact Nat.zero_le _
  · rw [if_neg hb]
    cases hr : readB s (rlO s) with
    | none => exact Nat.zero_le _
    | some bg =>
      obtain ⟨body, gs⟩ := bg
      have z := (readB_size hr).2
      simp only
      cases hf : opF [k] body gs ([], []) with
      | none => exact Nat.zero_le _
      | some gr =>
        obtain ⟨go, re⟩ := gr
        simp only
        split
        · exact Nat.zero_le _
        · show body.size ≤ _
          omega
end Go.Proofs.YtmigdhohbjnhcaaGreatDoor.wj1

namespace Go.Proofs.YtmigdhohbjnhcaaGreatDoor.wj2
open Go.RowKit Go.PlainAid Go.Shelf
open Go.Proofs.YtmigdhohbjnhcaaGreatDoor.ft Go.Proofs.YtmigdhohbjnhcaaGreatDoor.pj Go.Proofs.YtmigdhohbjnhcaaGreatDoor.rf Go.Proofs.YtmigdhohbjnhcaaGreatDoor.ta Go.Proofs.YtmigdhohbjnhcaaGreatDoor.tb Go.Proofs.YtmigdhohbjnhcaaGreatDoor.tc Go.Proofs.YtmigdhohbjnhcaaGreatDoor.tj Go.Proofs.YtmigdhohbjnhcaaGreatDoor.wa Go.Proofs.YtmigdhohbjnhcaaGreatDoor.wb Go.Proofs.YtmigdhohbjnhcaaGreatDoor.o1 Go.Proofs.YtmigdhohbjnhcaaGreatDoor.q2 Go.Proofs.YtmigdhohbjnhcaaGreatDoor.r1 Go.Proofs.YtmigdhohbjnhcaaGreatDoor.v4 Go.Proofs.YtmigdhohbjnhcaaGreatDoor.v8 Go.Proofs.YtmigdhohbjnhcaaGreatDoor.z1 Go.Proofs.YtmigdhohbjnhcaaGreatDoor.z6 Go.Proofs.YtmigdhohbjnhcaaGreatDoor.wj1
set_option linter.unusedVariables false
set_option maxRecDepth 4000

set_option maxHeartbeats 6400000 in
theorem readW (k : Ky) (s : ByteArray) (hs : s.size ≤ 2097152) (hk : k.1.size ≤ 2097152 ∧ k.2.size ≤ 2097152) (w : World) (T : Hid (Tab4 w)) (N : Hid (NumW w)) :
    Calls Tryz.prog 6 #[.agg #[.string k.1, .string k.2], .string s] w fun e w' => RdQ (rd k s) e ∧ Below w.heap.size w w' := by
  obtain ⟨W1, HW1⟩ : ∃ W1, Hid ((w.alloc (.cells #[.string k.1, .string k.2] 23)).alloc (.cells #[.string ⟨#[]⟩, .int .i64 0, .string ⟨#[]⟩, .slice none 0 0] 32) = W1) := ⟨_, rfl⟩
  have R1' : Hid (Rb w w.heap.size (w.heap.size + 1) k W1) := by rw [← HW1.out]; exact rb_new w k
  obtain ⟨K, HK⟩ : ∃ K, Hid (w.heap.size = K) := ⟨_, rfl⟩
  obtain ⟨R, HR⟩ : ∃ R, Hid (w.heap.size + 1 = R) := ⟨_, rfl⟩
  have R1 : Hid (Rb w K R k W1) := by rw [← HK.out, ← HR.out]; exact R1'.out
  obtain ⟨W2, HW2⟩ : ∃ W2, Hid (W1.alloc (.cells #[.string k.1, .string k.2] 23) = W2) := ⟨_, rfl⟩
  have b2 : Below W1.heap.size W1 W2 := by rw [← HW2.out]; exact (Below.refl _ _).alloc (Nat.le_refl _) _
  have R2 : Hid (Rb w K R k W2) := R1.out.later b2
  have RY : ReadsY W2 (.slice (some ⟨W1.heap.size, 0, none⟩) 1 1) [k] := by rw [← HW2.out]; exact one_key W1 k
  have OC : Calls Tryz.prog _ _ _ _ := openC s (by omega) (rlO s) (rlO_gives s) _ [k] W2 RY (by show 1 ≤ _; omega) (fun q hq => by simp only [List.mem_singleton] at hq; subst hq; exact ⟨by omega, by omega⟩) (T.out.down R2.out.bl).t
  have hsz := opO_size k s
  rw [show opB s (rlO s) [k] = opO k s from rfl] at OC
  have HRD : Hid (rd k s = if (opO k s).2 ≠ 0 then no4 (opO k s).2 else if pvF (opO k s).1.1 ≠ 0 then no4 (pvF (opO k s).1.1) else if (pv (opO k s).1.1).o ≠ k.1 then no4 220 else ⟨(pv (opO k s).1.1).o, (pv (opO k s).1.1).n, (pv (opO k s).1.1).r, 0⟩) := rfl
  generalize opO k s = OO at OC hsz HRD
  obtain ⟨⟨t, go, re⟩, E⟩ := OO
  simp only at hsz HRD
  have OCH : Hid (Calls Tryz.prog _ _ _ _) := OC
  have PC : Hid (∀ W : World, NumW W → Calls Tryz.prog _ _ _ _) := fun W hn => parseC2 t (by omega) W hn
  have NN : Hid (∀ W, Below w.heap.size w W → NumW W) := fun W h => N.out.down h
  obtain ⟨⟨po, pn, pr, pl⟩, HPV⟩ : ∃ x, Hid (pv t = x) := ⟨_, rfl⟩
  obtain ⟨pe, HPE⟩ : ∃ x, Hid (pvF t = x) := ⟨_, rfl⟩
  rw [HPV.out, HPE.out] at PC HRD
  simp only at PC HRD
  obtain ⟨kn, ks⟩ := k
  simp only at HRD R1 R2 HW1 HW2
  clear OC b2 RY R1' T N hsz hs hk
  obtain ⟨k0, k1⟩ := cells2 R1.out.key
  go_enter Tryz.func6, Tryz.ntmps6
  go_upto_region 1 with fail
  rw [HW1.out, HR.out, HK.out]
  go_wp2_with fail
  rw [show W1.alloc (.cells #[.string kn, .string ks] 23) = W2 from HW2.out]
  refine OCH.out.mono ?_
  rintro e w3 ⟨⟨ga, gc, ra, rc, rfl, -, -, -, -⟩, hb⟩
  have R3 : Hid (Rb w K R (kn, ks) w3) := R2.out.later hb
  clear hb OCH R2 R1 k0 k1
  simp only
  generalize go.length = ng
  generalize re.length = nr
  obtain ⟨W4, HW4⟩ : ∃ W, Hid (w3.alloc (.cells #[.string t, .slice ga ng gc, .slice ra nr rc] 39) = W) := ⟨_, rfl⟩
  have b4 : Below w3.heap.size w3 W4 := by rw [← HW4.out]; exact (Below.refl _ _).alloc (Nat.le_refl _) _
  have R4 : Hid (Rb w K R (kn, ks) W4) := R3.out.later b4
  have O4 : Hid (W4.cell? ⟨w3.heap.size, 0, none⟩ = some (.string t)) := by show _ = _; rw [← HW4.out, World.cell?_alloc_at _ _ _ _ rfl]; rfl
  clear b4
  go_upto_region 2 with fail
  rw [HW4.out]
  obtain ⟨m0, m1, m2, m3, n0, n1, n2, n3⟩ := cells4 R4.out.res
  by_cases hE : E = 0
  · subst hE
    have o4 := O4.out
    go_upto_region 4 with fail
    go_wp2_with fail
    refine (PC.out W4 (NN.out _ R4.out.bl)).mono ?_
    rintro e w5 ⟨⟨a, c, rfl, -⟩, hb⟩
    have R5 : Hid (Rb w K R (kn, ks) w5) := R4.out.later hb
    clear hb o4 O4 m0 m1 m2 m3 n0 n1 n2 n3
    generalize pl.length = np
    obtain ⟨W6, HW6⟩ : ∃ W, Hid (w5.alloc (.cells #[.string po, .int .i64 pn, .string pr, .slice a np c] 32) = W) := ⟨_, rfl⟩
    have b6 : Below w5.heap.size w5 W6 := by rw [← HW6.out]; exact (Below.refl _ _).alloc (Nat.le_refl _) _
    have R6 : Hid (Rb w K R (kn, ks) W6) := R5.out.later b6
    have P6 : Hid (W6.heap[w5.heap.size]? = some (.cells #[.string po, .int .i64 pn, .string pr, .slice a np c] 32 (0, 0))) := by show _ = _; rw [← HW6.out]; exact heap_alloc_new _ _
    clear b6
    go_upto_region 5 with fail
    rw [HW6.out]
    obtain ⟨m0, m1, m2, m3, n0, n1, n2, n3⟩ := cells4 R6.out.res
    by_cases hP : pe = 0
    · subst hP
      obtain ⟨q0, q1, q2, q3, -⟩ := cells4 P6.out
      obtain ⟨k0, k1⟩ := cells2 R6.out.key
      by_cases hq : po = kn
      · subst hq
        have HV : Hid (rd (po, ks) s = ⟨po, pn, pr, 0⟩) := by
          show _ = _
          rw [HRD.out, if_neg (fun e => e rfl), if_neg (fun e => e rfl), if_neg (fun e => e rfl)]
        go_wp2
        obtain ⟨W9, HW9, B9, d0, d1, d2, d3⟩ := R6.out.fin (.string po) (.int .i64 pn) (.string pr) (.slice a np c)
        rw [HW9.out]
        refine bodyPost_ret (by simp [results, Tryz.results6, go_sem, d0, d1, d2, d3]; try rfl) rfl ?_
        exact ⟨⟨a, np, c, by rw [HV.out]⟩, B9.out⟩
      · have HV : Hid (rd (kn, ks) s = no4 220) := by
          show _ = _
          rw [HRD.out, if_neg (fun e => e rfl), if_neg (fun e => e rfl), if_pos hq]
        have ht : (po.toList == kn.toList) = false := by rw [toList_bs]; exact decide_eq_false hq
        clear hq
        go_wp2
        obtain ⟨W9, HW9, B9, d0, d1, d2, d3⟩ := R6.out.fin (.string ⟨#[]⟩) (.int .i64 0) (.string ⟨#[]⟩) (.slice none 0 0)
        rw [HW9.out]
        refine bodyPost_ret (by simp [results, Tryz.results6, go_sem, d0, d1, d2, d3]; try rfl) rfl ?_
        exact ⟨⟨none, 0, 0, by rw [HV.out]; rfl⟩, B9.out⟩
    · have HV : Hid (rd (kn, ks) s = no4 pe) := by
        show _ = _
        rw [HRD.out, if_neg (fun e => e rfl), if_pos hP]
      have hP' : (pe == 0) = false := beq_eq_false_iff_ne.2 hP
      go_wp2
      obtain ⟨W9, HW9, B9, d0, d1, d2, d3⟩ := R6.out.fin (.string ⟨#[]⟩) (.int .i64 0) (.string ⟨#[]⟩) (.slice none 0 0)
      rw [HW9.out]
      refine bodyPost_ret (by simp [results, Tryz.results6, go_sem, d0, d1, d2, d3]; try rfl) rfl ?_
      exact ⟨⟨none, 0, 0, by rw [HV.out]; rfl⟩, B9.out⟩
  · have HV : Hid (rd (kn, ks) s = no4 E) := by
      show _ = _
      rw [HRD.out, if_pos hE]
    have hE' : (E == 0) = false := beq_eq_false_iff_ne.2 hE
    go_wp2
    obtain ⟨W9, HW9, B9, d0, d1, d2, d3⟩ := R4.out.fin (.string ⟨#[]⟩) (.int .i64 0) (.string ⟨#[]⟩) (.slice none 0 0)
    rw [HW9.out]
    refine bodyPost_ret (by simp [results, Tryz.results6, go_sem, d0, d1, d2, d3]; try rfl) rfl ?_
    exact ⟨⟨none, 0, 0, by rw [HV.out]; rfl⟩, B9.out⟩
end Go.Proofs.YtmigdhohbjnhcaaGreatDoor.wj2

namespace Go.Proofs.YtmigdhohbjnhcaaGreatDoor.wj3
open Go.RowKit Go.PlainAid Go.Shelf
open Go.Proofs.YtmigdhohbjnhcaaGreatDoor.ft Go.Proofs.YtmigdhohbjnhcaaGreatDoor.pj Go.Proofs.YtmigdhohbjnhcaaGreatDoor.rf Go.Proofs.YtmigdhohbjnhcaaGreatDoor.ta Go.Proofs.YtmigdhohbjnhcaaGreatDoor.tb Go.Proofs.YtmigdhohbjnhcaaGreatDoor.tc Go.Proofs.YtmigdhohbjnhcaaGreatDoor.tj Go.Proofs.YtmigdhohbjnhcaaGreatDoor.wa Go.Proofs.YtmigdhohbjnhcaaGreatDoor.wb Go.Proofs.YtmigdhohbjnhcaaGreatDoor.o1 Go.Proofs.YtmigdhohbjnhcaaGreatDoor.q2 Go.Proofs.YtmigdhohbjnhcaaGreatDoor.r1 Go.Proofs.YtmigdhohbjnhcaaGreatDoor.v4 Go.Proofs.YtmigdhohbjnhcaaGreatDoor.v8 Go.Proofs.YtmigdhohbjnhcaaGreatDoor.z1 Go.Proofs.YtmigdhohbjnhcaaGreatDoor.z6 Go.Proofs.YtmigdhohbjnhcaaGreatDoor.wj1
set_option linter.unusedVariables false
set_option maxRecDepth 4000

set_option maxHeartbeats 6400000 in
theorem openedD (k : Ky) (s : ByteArray) (hs : s.size ≤ 2097152) (hk : k.1.size ≤ 2097152 ∧ k.2.size ≤ 2097152) (w : World) (T : Hid (Tab4 w)) (N : Hid (NumW w)) :
    Calls Tryz.prog 7 #[.string s, .agg #[.string k.1, .string k.2]] w fun e w' => RdQ (rd k s) e ∧ Below w.heap.size w w' := by
  obtain ⟨W1, HW1⟩ : ∃ W1, Hid ((w.alloc (.cells #[.string k.1, .string k.2] 23)).alloc (.cells #[.string ⟨#[]⟩, .int .i64 0, .string ⟨#[]⟩, .slice none 0 0] 32) = W1) := ⟨_, rfl⟩
  have R1' : Hid (Rb w w.heap.size (w.heap.size + 1) k W1) := by rw [← HW1.out]; exact rb_new w k
  obtain ⟨K, HK⟩ : ∃ K, Hid (w.heap.size = K) := ⟨_, rfl⟩
  obtain ⟨R, HR⟩ : ∃ R, Hid (w.heap.size + 1 = R) := ⟨_, rfl⟩
  have R1 : Hid (Rb w K R k W1) := by rw [← HK.out, ← HR.out]; exact R1'.out
  obtain ⟨W2, HW2⟩ : ∃ W2, Hid (W1.alloc (.cells #[.string k.1, .string k.2] 23) = W2) := ⟨_, rfl⟩
  have b2 : Below W1.heap.size W1 W2 := by rw [← HW2.out]; exact (Below.refl _ _).alloc (Nat.le_refl _) _
  have R2 : Hid (Rb w K R k W2) := R1.out.later b2
  have RY : ReadsY W2 (.slice (some ⟨W1.heap.size, 0, none⟩) 1 1) [k] := by rw [← HW2.out]; exact one_key W1 k
  have OC : Calls Tryz.prog _ _ _ _ := openD s (rlO s) (rlO_gives s) _ [k] W2 RY (by show 1 ≤ _; omega) (fun q hq => by simp only [List.mem_singleton] at hq; subst hq; exact ⟨by omega, by omega⟩) (T.out.down R2.out.bl)
  have hsz := opO_size k s
  rw [show opB s (rlO s) [k] = opO k s from rfl] at OC
  have HRD : Hid (rd k s = if (opO k s).2 ≠ 0 then no4 (opO k s).2 else if pvF (opO k s).1.1 ≠ 0 then no4 (pvF (opO k s).1.1) else if (pv (opO k s).1.1).o ≠ k.1 then no4 220 else ⟨(pv (opO k s).1.1).o, (pv (opO k s).1.1).n, (pv (opO k s).1.1).r, 0⟩) := rfl
  generalize opO k s = OO at OC hsz HRD
  obtain ⟨⟨t, go, re⟩, E⟩ := OO
  simp only at hsz HRD
  have OCH : Hid (Calls Tryz.prog _ _ _ _) := OC
  have PC : Hid (∀ W : World, NumW W → Calls Tryz.prog _ _ _ _) := fun W hn => parseD2 t (by omega) W
  have NN : Hid (∀ W, Below w.heap.size w W → NumW W) := fun W h => N.out.down h
  obtain ⟨⟨po, pn, pr, pl⟩, HPV⟩ : ∃ x, Hid (pv t = x) := ⟨_, rfl⟩
  obtain ⟨pe, HPE⟩ : ∃ x, Hid (pvF t = x) := ⟨_, rfl⟩
  rw [HPV.out, HPE.out] at PC HRD
  simp only at PC HRD
  obtain ⟨kn, ks⟩ := k
  simp only at HRD R1 R2 HW1 HW2
  clear OC b2 RY R1' T N hsz hs hk
  obtain ⟨k0, k1⟩ := cells2 R1.out.key
  go_enter Tryz.func7, Tryz.ntmps7
  go_upto_region 1 with fail
  rw [HW1.out, HR.out, HK.out]
  go_wp2_with fail
  rw [show W1.alloc (.cells #[.string kn, .string ks] 23) = W2 from HW2.out]
  refine OCH.out.mono ?_
  rintro e w3 ⟨⟨ga, gc, ra, rc, rfl, -, -, -, -⟩, hb⟩
  have R3 : Hid (Rb w K R (kn, ks) w3) := R2.out.later hb
  clear hb OCH R2 R1 k0 k1
  simp only
  generalize go.length = ng
  generalize re.length = nr
  obtain ⟨W4, HW4⟩ : ∃ W, Hid (w3.alloc (.cells #[.string t, .slice ga ng gc, .slice ra nr rc] 39) = W) := ⟨_, rfl⟩
  have b4 : Below w3.heap.size w3 W4 := by rw [← HW4.out]; exact (Below.refl _ _).alloc (Nat.le_refl _) _
  have R4 : Hid (Rb w K R (kn, ks) W4) := R3.out.later b4
  have O4 : Hid (W4.cell? ⟨w3.heap.size, 0, none⟩ = some (.string t)) := by show _ = _; rw [← HW4.out, World.cell?_alloc_at _ _ _ _ rfl]; rfl
  clear b4
  go_upto_region 2 with fail
  rw [HW4.out]
  obtain ⟨m0, m1, m2, m3, n0, n1, n2, n3⟩ := cells4 R4.out.res
  by_cases hE : E = 0
  · subst hE
    have o4 := O4.out
    go_upto_region 4 with fail
    go_wp2_with fail
    refine (PC.out W4 (NN.out _ R4.out.bl)).mono ?_
    rintro e w5 ⟨⟨a, c, rfl, -⟩, hb⟩
    have R5 : Hid (Rb w K R (kn, ks) w5) := R4.out.later hb
    clear hb o4 O4 m0 m1 m2 m3 n0 n1 n2 n3
    generalize pl.length = np
    obtain ⟨W6, HW6⟩ : ∃ W, Hid (w5.alloc (.cells #[.string po, .int .i64 pn, .string pr, .slice a np c] 32) = W) := ⟨_, rfl⟩
    have b6 : Below w5.heap.size w5 W6 := by rw [← HW6.out]; exact (Below.refl _ _).alloc (Nat.le_refl _) _
    have R6 : Hid (Rb w K R (kn, ks) W6) := R5.out.later b6
    have P6 : Hid (W6.heap[w5.heap.size]? = some (.cells #[.string po, .int .i64 pn, .string pr, .slice a np c] 32 (0, 0))) := by show _ = _; rw [← HW6.out]; exact heap_alloc_new _ _
    clear b6
    go_upto_region 5 with fail
    rw [HW6.out]
    obtain ⟨m0, m1, m2, m3, n0, n1, n2, n3⟩ := cells4 R6.out.res
    by_cases hP : pe = 0
    · subst hP
      obtain ⟨q0, q1, q2, q3, -⟩ := cells4 P6.out
      obtain ⟨k0, k1⟩ := cells2 R6.out.key
      by_cases hq : po = kn
      · subst hq
        have HV : Hid (rd (po, ks) s = ⟨po, pn, pr, 0⟩) := by
          show _ = _
          rw [HRD.out, if_neg (fun e => e rfl), if_neg (fun e => e rfl), if_neg (fun e => e rfl)]
        go_wp2
        obtain ⟨W9, HW9, B9, d0, d1, d2, d3⟩ := R6.out.fin (.string po) (.int .i64 pn) (.string pr) (.slice a np c)
        rw [HW9.out]
        refine bodyPost_ret (by simp [results, Tryz.results7, go_sem, d0, d1, d2, d3]; try rfl) rfl ?_
        exact ⟨⟨a, np, c, by rw [HV.out]⟩, B9.out⟩
      · have HV : Hid (rd (kn, ks) s = no4 220) := by
          show _ = _
          rw [HRD.out, if_neg (fun e => e rfl), if_neg (fun e => e rfl), if_pos hq]
        have ht : (po.toList == kn.toList) = false := by rw [toList_bs]; exact decide_eq_false hq
        clear hq
        go_wp2
        obtain ⟨W9, HW9, B9, d0, d1, d2, d3⟩ := R6.out.fin (.string ⟨#[]⟩) (.int .i64 0) (.string ⟨#[]⟩) (.slice none 0 0)
        rw [HW9.out]
        refine bodyPost_ret (by simp [results, Tryz.results7, go_sem, d0, d1, d2, d3]; try rfl) rfl ?_
        exact ⟨⟨none, 0, 0, by rw [HV.out]; rfl⟩, B9.out⟩
    · have HV : Hid (rd (kn, ks) s = no4 pe) := by
        show _ = _
        rw [HRD.out, if_neg (fun e => e rfl), if_pos hP]
      have hP' : (pe == 0) = false := beq_eq_false_iff_ne.2 hP
      go_wp2
      obtain ⟨W9, HW9, B9, d0, d1, d2, d3⟩ := R6.out.fin (.string ⟨#[]⟩) (.int .i64 0) (.string ⟨#[]⟩) (.slice none 0 0)
      rw [HW9.out]
      refine bodyPost_ret (by simp [results, Tryz.results7, go_sem, d0, d1, d2, d3]; try rfl) rfl ?_
      exact ⟨⟨none, 0, 0, by rw [HV.out]; rfl⟩, B9.out⟩
  · have HV : Hid (rd (kn, ks) s = no4 E) := by
      show _ = _
      rw [HRD.out, if_pos hE]
    have hE' : (E == 0) = false := beq_eq_false_iff_ne.2 hE
    go_wp2
    obtain ⟨W9, HW9, B9, d0, d1, d2, d3⟩ := R4.out.fin (.string ⟨#[]⟩) (.int .i64 0) (.string ⟨#[]⟩) (.slice none 0 0)
    rw [HW9.out]
    refine bodyPost_ret (by simp [results, Tryz.results7, go_sem, d0, d1, d2, d3]; try rfl) rfl ?_
    exact ⟨⟨none, 0, 0, by rw [HV.out]; rfl⟩, B9.out⟩
end Go.Proofs.YtmigdhohbjnhcaaGreatDoor.wj3

namespace Go.Proofs.YtmigdhohbjnhcaaGreatDoor.wj4
open Go.RowKit Go.PlainAid Go.Shelf
open Go.Proofs.YtmigdhohbjnhcaaGreatDoor.ft Go.Proofs.YtmigdhohbjnhcaaGreatDoor.pj Go.Proofs.YtmigdhohbjnhcaaGreatDoor.rf Go.Proofs.YtmigdhohbjnhcaaGreatDoor.ta Go.Proofs.YtmigdhohbjnhcaaGreatDoor.tb Go.Proofs.YtmigdhohbjnhcaaGreatDoor.tc Go.Proofs.YtmigdhohbjnhcaaGreatDoor.tj Go.Proofs.YtmigdhohbjnhcaaGreatDoor.wa Go.Proofs.YtmigdhohbjnhcaaGreatDoor.wb Go.Proofs.YtmigdhohbjnhcaaGreatDoor.o1 Go.Proofs.YtmigdhohbjnhcaaGreatDoor.wj1 Go.Proofs.YtmigdhohbjnhcaaGreatDoor.wj2 Go.Proofs.YtmigdhohbjnhcaaGreatDoor.wj3
set_option linter.unusedVariables false
set_option maxRecDepth 4000

-- a key and evidence in their boxes
structure Jb (w : World) (K V : Nat) (k v : Ky) (W : World) : Prop where
  bl : Below w.heap.size w W
  key : W.heap[K]? = some (.cells #[.string k.1, .string k.2] 23 (0, 0))
  evi : W.heap[V]? = some (.cells #[.string v.1, .string v.2] 25 (0, 0))
theorem Jb.later {w : World} {K V : Nat} {k v : Ky} {W W' : World} (t : Jb w K V k v W) (h : Below W.heap.size W W') : Jb w K V k v W' :=
  ⟨t.bl.trans (h.mono t.bl.size), (h.block _ (Array.getElem?_eq_some_iff.1 t.key).1).trans t.key, (h.block _ (Array.getElem?_eq_some_iff.1 t.evi).1).trans t.evi⟩
theorem jb_new (w : World) (k v : Ky) : Jb w w.heap.size (w.heap.size + 1) k v ((w.alloc (.cells #[.string k.1, .string k.2] 23)).alloc (.cells #[.string v.1, .string v.2] 25)) := by
  have ez : (w.alloc (.cells #[.string k.1, .string k.2] 23)).heap.size = w.heap.size + 1 := by simp
  refine ⟨((Below.refl _ _).alloc (Nat.le_refl _) _).alloc (by rw [ez]; omega) _, ?_, ?_⟩
  · rw [Below.heap_alloc _ _ _ (by rw [ez]; omega)]
    exact heap_alloc_new _ _
  · rw [← ez]
    exact heap_alloc_new _ _
-- the judgement
def jdX (x y : Rd4) : Int := if x.e ≠ 0 ∨ y.e ≠ 0 ∨ x.n ≠ y.n ∨ x.r = y.r then 243 else 0
noncomputable def jd (k v : Ky) : Int := jdX (rd k v.1) (rd k v.2)
-- the program
set_option maxHeartbeats 3200000 in
theorem judgeC (k v : Ky) (hk : k.1.size ≤ 2097152 ∧ k.2.size ≤ 2097152) (hv : v.1.size ≤ 2097152 ∧ v.2.size ≤ 2097152) (w : World) (T : Hid (Tab4 w)) (N : Hid (NumW w)) :
    Calls Tryz.prog 4 #[.agg #[.string k.1, .string k.2], .agg #[.string v.1, .string v.2]] w fun e w' => e = .returned (.int .i64 (jd k v)) ∧ Below w.heap.size w w' := by
  obtain ⟨W1, HW1⟩ : ∃ W1, Hid ((w.alloc (.cells #[.string k.1, .string k.2] 23)).alloc (.cells #[.string v.1, .string v.2] 25) = W1) := ⟨_, rfl⟩
  have J1' : Hid (Jb w w.heap.size (w.heap.size + 1) k v W1) := by rw [← HW1.out]; exact jb_new w k v
  obtain ⟨K, HK⟩ : ∃ K, Hid (w.heap.size = K) := ⟨_, rfl⟩
  obtain ⟨V, HV⟩ : ∃ R, Hid (w.heap.size + 1 = R) := ⟨_, rfl⟩
  have J1 : Hid (Jb w K V k v W1) := by rw [← HK.out, ← HV.out]; exact J1'.out
  have CC : Hid (∀ (s : ByteArray), s.size ≤ 2097152 → ∀ W, Below w.heap.size w W → Calls Tryz.prog _ _ _ _) := fun s hs W hb => readW k s hs hk W (T.out.down hb) (N.out.down hb)
  obtain ⟨⟨xo, xn, xr, xe⟩, HX⟩ : ∃ x, Hid (rd k v.1 = x) := ⟨_, rfl⟩
  obtain ⟨⟨yo, yn, yr, ye⟩, HY⟩ : ∃ x, Hid (rd k v.2 = x) := ⟨_, rfl⟩
  have HJ : Hid (jd k v = if xe ≠ 0 ∨ ye ≠ 0 ∨ xn ≠ yn ∨ xr = yr then 243 else 0) := by
    show _ = _
    unfold jd jdX
    rw [HX.out, HY.out]
  have C1 : Hid (Calls Tryz.prog _ _ _ _) := CC.out v.1 hv.1 W1 J1.out.bl
  rw [HX.out] at C1
  obtain ⟨kn, ks⟩ := k
  obtain ⟨v1, v2⟩ := v
  simp only at C1 HW1 HY hv J1
  clear J1' T N
  obtain ⟨k0, k1⟩ := cells2 J1.out.key
  obtain ⟨u0, u1⟩ := cells2 J1.out.evi
  go_enter Tryz.func4, Tryz.ntmps4
  go_upto_region 1 with fail
  rw [HW1.out, HV.out, HK.out]
  go_wp2_with fail
  refine C1.out.mono ?_
  rintro e w2 ⟨⟨xa, xl, xc, rfl⟩, hb⟩
  have J2 : Hid (Jb w K V (kn, ks) (v1, v2) w2) := J1.out.later hb
  clear hb C1 k0 k1 u0 u1 J1
  obtain ⟨W3, HW3⟩ : ∃ W, Hid (w2.alloc (.cells #[.string xo, .int .i64 xn, .string xr, .slice xa xl xc] 32) = W) := ⟨_, rfl⟩
  have b3 : Below w2.heap.size w2 W3 := by rw [← HW3.out]; exact (Below.refl _ _).alloc (Nat.le_refl _) _
  have J3 : Hid (Jb w K V (kn, ks) (v1, v2) W3) := J2.out.later b3
  have P3 : Hid (W3.heap[w2.heap.size]? = some (.cells #[.string xo, .int .i64 xn, .string xr, .slice xa xl xc] 32 (0, 0))) := by show _ = _; rw [← HW3.out]; exact heap_alloc_new _ _
  have C2 : Hid (Calls Tryz.prog _ _ _ _) := CC.out v2 hv.2 W3 J3.out.bl
  rw [HY.out] at C2
  clear b3 J2
  obtain ⟨k0, k1⟩ := cells2 J3.out.key
  obtain ⟨u0, u1⟩ := cells2 J3.out.evi
  go_upto_region 2 with fail
  rw [show w2.alloc (.cells #[.string xo, .int .i64 xn, .string xr, .slice xa xl xc] 32) = W3 from HW3.out]
  go_wp2_with fail
  refine C2.out.mono ?_
  rintro e w4 ⟨⟨ya, yl, yc, rfl⟩, hb⟩
  have J4 : Hid (Jb w K V (kn, ks) (v1, v2) w4) := J3.out.later hb
  have P4 : Hid (w4.heap[w2.heap.size]? = some (.cells #[.string xo, .int .i64 xn, .string xr, .slice xa xl xc] 32 (0, 0))) := (hb.block _ (Array.getElem?_eq_some_iff.1 P3.out).1).trans P3.out
  clear hb C2 k0 k1 u0 u1 J3
  obtain ⟨W5, HW5⟩ : ∃ W, Hid (w4.alloc (.cells #[.string yo, .int .i64 yn, .string yr, .slice ya yl yc] 32) = W) := ⟨_, rfl⟩
  have b5 : Below w4.heap.size w4 W5 := by rw [← HW5.out]; exact (Below.refl _ _).alloc (Nat.le_refl _) _
  have J5 : Hid (Jb w K V (kn, ks) (v1, v2) W5) := J4.out.later b5
  have Q5 : Hid (W5.heap[w4.heap.size]? = some (.cells #[.string yo, .int .i64 yn, .string yr, .slice ya yl yc] 32 (0, 0))) := by show _ = _; rw [← HW5.out]; exact heap_alloc_new _ _
  have P5 : Hid (W5.heap[w2.heap.size]? = some (.cells #[.string xo, .int .i64 xn, .string xr, .slice xa xl xc] 32 (0, 0))) := (b5.block _ (Array.getElem?_eq_some_iff.1 P4.out).1).trans P4.out
  clear b5 J4
  go_upto_region 3 with fail
  rw [HW5.out]
  obtain ⟨p0, p1, p2, p3, -⟩ := cells4 P5.out
  obtain ⟨q0, q1, q2, q3, -⟩ := cells4 Q5.out
  by_cases e1 : xe = 0
  · subst e1
    by_cases e2 : ye = 0
    · subst e2
      by_cases e3 : xn = yn
      · subst e3
        by_cases e4 : xr = yr
        · subst e4
          have HR : Hid (jd (kn, ks) (v1, v2) = 243) := by show _ = _; rw [HJ.out]; exact if_pos (by simp)
          go_wp2
          go_ret
          exact ⟨by rw [HR.out]; rfl, J5.out.bl⟩
        · have HR : Hid (jd (kn, ks) (v1, v2) = 0) := by show _ = _; rw [HJ.out]; exact if_neg (by simp [e4])
          have ht : (xr.toList == yr.toList) = false := by rw [toList_bs]; exact decide_eq_false e4
          clear e4
          go_wp2
          go_ret
          exact ⟨by rw [HR.out]; rfl, J5.out.bl⟩
      · have HR : Hid (jd (kn, ks) (v1, v2) = 243) := by show _ = _; rw [HJ.out]; exact if_pos (by simp [e3])
        have e3' : (xn == yn) = false := beq_eq_false_iff_ne.2 e3
        go_wp2
        go_ret
        exact ⟨by rw [HR.out]; rfl, J5.out.bl⟩
    · have HR : Hid (jd (kn, ks) (v1, v2) = 243) := by show _ = _; rw [HJ.out]; exact if_pos (by simp [e2])
      have e2' : (ye == 0) = false := beq_eq_false_iff_ne.2 e2
      go_wp2
      go_ret
      exact ⟨by rw [HR.out]; rfl, J5.out.bl⟩
  · have HR : Hid (jd (kn, ks) (v1, v2) = 243) := by show _ = _; rw [HJ.out]; exact if_pos (by simp [e1])
    have e1' : (xe == 0) = false := beq_eq_false_iff_ne.2 e1
    go_wp2
    go_ret
    exact ⟨by rw [HR.out]; rfl, J5.out.bl⟩
-- the document
set_option maxHeartbeats 3200000 in
theorem judgeD (k v : Ky) (hk : k.1.size ≤ 2097152 ∧ k.2.size ≤ 2097152) (hv : v.1.size ≤ 2097152 ∧ v.2.size ≤ 2097152) (w : World) (T : Hid (Tab4 w)) (N : Hid (NumW w)) :
    Calls Tryz.prog 5 #[.agg #[.string k.1, .string k.2], .agg #[.string v.1, .string v.2]] w fun e w' => e = .returned (.int .i64 (jd k v)) ∧ Below w.heap.size w w' := by
  obtain ⟨W1, HW1⟩ : ∃ W1, Hid ((w.alloc (.cells #[.string k.1, .string k.2] 23)).alloc (.cells #[.string v.1, .string v.2] 25) = W1) := ⟨_, rfl⟩
  have J1' : Hid (Jb w w.heap.size (w.heap.size + 1) k v W1) := by rw [← HW1.out]; exact jb_new w k v
  obtain ⟨K, HK⟩ : ∃ K, Hid (w.heap.size = K) := ⟨_, rfl⟩
  obtain ⟨V, HV⟩ : ∃ R, Hid (w.heap.size + 1 = R) := ⟨_, rfl⟩
  have J1 : Hid (Jb w K V k v W1) := by rw [← HK.out, ← HV.out]; exact J1'.out
  have CC : Hid (∀ (s : ByteArray), s.size ≤ 2097152 → ∀ W, Below w.heap.size w W → Calls Tryz.prog _ _ _ _) := fun s hs W hb => openedD k s hs hk W (T.out.down hb) (N.out.down hb)
  obtain ⟨⟨xo, xn, xr, xe⟩, HX⟩ : ∃ x, Hid (rd k v.1 = x) := ⟨_, rfl⟩
  obtain ⟨⟨yo, yn, yr, ye⟩, HY⟩ : ∃ x, Hid (rd k v.2 = x) := ⟨_, rfl⟩
  have HJ : Hid (jd k v = if xe ≠ 0 ∨ ye ≠ 0 ∨ xn ≠ yn ∨ xr = yr then 243 else 0) := by
    show _ = _
    unfold jd jdX
    rw [HX.out, HY.out]
  have C1 : Hid (Calls Tryz.prog _ _ _ _) := CC.out v.1 hv.1 W1 J1.out.bl
  rw [HX.out] at C1
  obtain ⟨kn, ks⟩ := k
  obtain ⟨v1, v2⟩ := v
  simp only at C1 HW1 HY hv J1
  clear J1' T N
  obtain ⟨k0, k1⟩ := cells2 J1.out.key
  obtain ⟨u0, u1⟩ := cells2 J1.out.evi
  go_enter Tryz.func5, Tryz.ntmps5
  go_upto_region 1 with fail
  rw [HW1.out, HV.out, HK.out]
  go_wp2_with fail
  refine C1.out.mono ?_
  rintro e w2 ⟨⟨xa, xl, xc, rfl⟩, hb⟩
  have J2 : Hid (Jb w K V (kn, ks) (v1, v2) w2) := J1.out.later hb
  clear hb C1 k0 k1 u0 u1 J1
  obtain ⟨W3, HW3⟩ : ∃ W, Hid (w2.alloc (.cells #[.string xo, .int .i64 xn, .string xr, .slice xa xl xc] 32) = W) := ⟨_, rfl⟩
  have b3 : Below w2.heap.size w2 W3 := by rw [← HW3.out]; exact (Below.refl _ _).alloc (Nat.le_refl _) _
  have J3 : Hid (Jb w K V (kn, ks) (v1, v2) W3) := J2.out.later b3
  have P3 : Hid (W3.heap[w2.heap.size]? = some (.cells #[.string xo, .int .i64 xn, .string xr, .slice xa xl xc] 32 (0, 0))) := by show _ = _; rw [← HW3.out]; exact heap_alloc_new _ _
  have C2 : Hid (Calls Tryz.prog _ _ _ _) := CC.out v2 hv.2 W3 J3.out.bl
  rw [HY.out] at C2
  clear b3 J2
  obtain ⟨k0, k1⟩ := cells2 J3.out.key
  obtain ⟨u0, u1⟩ := cells2 J3.out.evi
  go_upto_region 2 with fail
  rw [show w2.alloc (.cells #[.string xo, .int .i64 xn, .string xr, .slice xa xl xc] 32) = W3 from HW3.out]
  go_wp2_with fail
  refine C2.out.mono ?_
  rintro e w4 ⟨⟨ya, yl, yc, rfl⟩, hb⟩
  have J4 : Hid (Jb w K V (kn, ks) (v1, v2) w4) := J3.out.later hb
  have P4 : Hid (w4.heap[w2.heap.size]? = some (.cells #[.string xo, .int .i64 xn, .string xr, .slice xa xl xc] 32 (0, 0))) := (hb.block _ (Array.getElem?_eq_some_iff.1 P3.out).1).trans P3.out
  clear hb C2 k0 k1 u0 u1 J3
  obtain ⟨W5, HW5⟩ : ∃ W, Hid (w4.alloc (.cells #[.string yo, .int .i64 yn, .string yr, .slice ya yl yc] 32) = W) := ⟨_, rfl⟩
  have b5 : Below w4.heap.size w4 W5 := by rw [← HW5.out]; exact (Below.refl _ _).alloc (Nat.le_refl _) _
  have J5 : Hid (Jb w K V (kn, ks) (v1, v2) W5) := J4.out.later b5
  have Q5 : Hid (W5.heap[w4.heap.size]? = some (.cells #[.string yo, .int .i64 yn, .string yr, .slice ya yl yc] 32 (0, 0))) := by show _ = _; rw [← HW5.out]; exact heap_alloc_new _ _
  have P5 : Hid (W5.heap[w2.heap.size]? = some (.cells #[.string xo, .int .i64 xn, .string xr, .slice xa xl xc] 32 (0, 0))) := (b5.block _ (Array.getElem?_eq_some_iff.1 P4.out).1).trans P4.out
  clear b5 J4
  go_upto_region 3 with fail
  rw [HW5.out]
  obtain ⟨p0, p1, p2, p3, -⟩ := cells4 P5.out
  obtain ⟨q0, q1, q2, q3, -⟩ := cells4 Q5.out
  by_cases e1 : xe = 0
  · subst e1
    by_cases e2 : ye = 0
    · subst e2
      by_cases e3 : xn = yn
      · subst e3
        by_cases e4 : xr = yr
        · subst e4
          have HR : Hid (jd (kn, ks) (v1, v2) = 243) := by show _ = _; rw [HJ.out]; exact if_pos (by simp)
          go_wp2
          go_ret
          exact ⟨by rw [HR.out]; rfl, J5.out.bl⟩
        · have HR : Hid (jd (kn, ks) (v1, v2) = 0) := by show _ = _; rw [HJ.out]; exact if_neg (by simp [e4])
          have ht : (xr.toList == yr.toList) = false := by rw [toList_bs]; exact decide_eq_false e4
          clear e4
          go_wp2
          go_ret
          exact ⟨by rw [HR.out]; rfl, J5.out.bl⟩
      · have HR : Hid (jd (kn, ks) (v1, v2) = 243) := by show _ = _; rw [HJ.out]; exact if_pos (by simp [e3])
        have e3' : (xn == yn) = false := beq_eq_false_iff_ne.2 e3
        go_wp2
        go_ret
        exact ⟨by rw [HR.out]; rfl, J5.out.bl⟩
    · have HR : Hid (jd (kn, ks) (v1, v2) = 243) := by show _ = _; rw [HJ.out]; exact if_pos (by simp [e2])
      have e2' : (ye == 0) = false := beq_eq_false_iff_ne.2 e2
      go_wp2
      go_ret
      exact ⟨by rw [HR.out]; rfl, J5.out.bl⟩
  · have HR : Hid (jd (kn, ks) (v1, v2) = 243) := by show _ = _; rw [HJ.out]; exact if_pos (by simp [e1])
    have e1' : (xe == 0) = false := beq_eq_false_iff_ne.2 e1
    go_wp2
    go_ret
    exact ⟨by rw [HR.out]; rfl, J5.out.bl⟩
-- THE LAW: WatchJudge
set_option maxHeartbeats 1600000 in
theorem law_judge (k v : Ky) (hk : k.1.size ≤ 2097152 ∧ k.2.size ≤ 2097152) (hv : v.1.size ≤ 2097152 ∧ v.2.size ≤ 2097152) (w : World) (T : Hid (Tab4 w)) (N : Hid (NumW w)) :
    Calls Tryz.prog 3 #[.agg #[.string k.1, .string k.2], .agg #[.string v.1, .string v.2]] w fun e w' => e = .returned (.bool true) ∧ Below w.heap.size w w' := by
  obtain ⟨W1, HW1⟩ : ∃ W1, Hid ((w.alloc (.cells #[.string k.1, .string k.2] 23)).alloc (.cells #[.string v.1, .string v.2] 25) = W1) := ⟨_, rfl⟩
  have J1' : Hid (Jb w w.heap.size (w.heap.size + 1) k v W1) := by rw [← HW1.out]; exact jb_new w k v
  obtain ⟨K, HK⟩ : ∃ K, Hid (w.heap.size = K) := ⟨_, rfl⟩
  obtain ⟨V, HV⟩ : ∃ R, Hid (w.heap.size + 1 = R) := ⟨_, rfl⟩
  have J1 : Hid (Jb w K V k v W1) := by rw [← HK.out, ← HV.out]; exact J1'.out
  have C1 : Hid (Calls Tryz.prog _ _ _ _) := judgeC k v hk hv W1 (T.out.down J1.out.bl) (N.out.down J1.out.bl)
  have C2 : Hid (∀ W, Below w.heap.size w W → Calls Tryz.prog _ _ _ _) := fun W hb => judgeD k v hk hv W (T.out.down hb) (N.out.down hb)
  generalize jd k v = J at C1 C2
  obtain ⟨kn, ks⟩ := k
  obtain ⟨v1, v2⟩ := v
  simp only at C1 C2 HW1 J1
  clear J1' T N
  obtain ⟨k0, k1⟩ := cells2 J1.out.key
  obtain ⟨u0, u1⟩ := cells2 J1.out.evi
  go_enter Tryz.func3, Tryz.ntmps3
  go_upto_region 1 with fail
  rw [HW1.out, HV.out, HK.out]
  go_wp2_with fail
  refine C1.out.mono ?_
  rintro e w2 ⟨rfl, hb⟩
  have J2 : Hid (Jb w K V (kn, ks) (v1, v2) w2) := J1.out.later hb
  clear hb C1 k0 k1 u0 u1 J1
  obtain ⟨k0, k1⟩ := cells2 J2.out.key
  obtain ⟨u0, u1⟩ := cells2 J2.out.evi
  go_wp2_with fail
  refine (C2.out w2 J2.out.bl).mono ?_
  rintro e w3 ⟨rfl, hb⟩
  have J3 : Hid (Jb w K V (kn, ks) (v1, v2) w3) := J2.out.later hb
  clear hb
  go_wp2
  go_ret
  exact ⟨by simp, J3.out.bl⟩
end Go.Proofs.YtmigdhohbjnhcaaGreatDoor.wj4
