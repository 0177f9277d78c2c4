import Derived.Test.YtkgadgkomdjplaaKp
import Derived.Test.YtkgadgkomdjplaaEa
import Derived.Test.YtkgadgkomdjplaaNf
import Derived.Test.YtkgadgkomdjplaaNg
import Derived.BigQuiet
import Derived.Deep.DeepCutAuto
import Derived.Deep.RegionHeld3
namespace Go.Proofs.Ytkgadgkomdjplaa.eb
open Go.RowKit Go.PlainAid
open Go.Proofs.Ytkgadgkomdjplaa.ca Go.Proofs.Ytkgadgkomdjplaa.cb Go.Proofs.Ytkgadgkomdjplaa.cp Go.Proofs.Ytkgadgkomdjplaa.ga Go.Proofs.Ytkgadgkomdjplaa.kp Go.Proofs.Ytkgadgkomdjplaa.na Go.Proofs.Ytkgadgkomdjplaa.nb Go.Proofs.Ytkgadgkomdjplaa.nc Go.Proofs.Ytkgadgkomdjplaa.nf Go.Proofs.Ytkgadgkomdjplaa.ng Go.Proofs.Ytkgadgkomdjplaa.ea
set_option linter.unusedVariables false

-- a reader's state in memory; behind it stands what the reader makes
def rdL (b : ByteArray) (p : Nat) (e : Int) (rest : List Value) : List Value := .string b :: .int .i64 p :: .int .i64 e :: rest
def Rd (T g : Nat) (b : ByteArray) (p : Nat) (e : Int) (rest : List Value) (w : World) : Prop := w.heap[g]? = some (.cells (rdL b p e rest).toArray T (0, 0))
theorem Rd.lt {T g : Nat} {b : ByteArray} {p : Nat} {e : Int} {rest : List Value} {w : World} (h : Rd T g b p e rest w) : g < w.heap.size := (Array.getElem?_eq_some_iff.1 h).1
theorem Rd.keep {T g : Nat} {b : ByteArray} {p : Nat} {e : Int} {rest : List Value} {w w' : World} {A : Nat → Prop} (h : Rd T g b p e rest w) (k : Kp A w w') (hn : ¬ A g) : Rd T g b p e rest w' := (k.block _ h.lt hn).trans h
theorem Rd.b {T g : Nat} {b : ByteArray} {p : Nat} {e : Int} {rest : List Value} {w : World} (h : Rd T g b p e rest w) : w.cell? ⟨g, 0, none⟩ = some (.string b) := cell_of_row _ _ 0 _ _ _ h
theorem Rd.p {T g : Nat} {b : ByteArray} {p : Nat} {e : Int} {rest : List Value} {w : World} (h : Rd T g b p e rest w) : w.cell? ⟨g, 1, none⟩ = some (.int .i64 p) := cell_of_row _ _ 1 _ _ _ h
theorem Rd.e {T g : Nat} {b : ByteArray} {p : Nat} {e : Int} {rest : List Value} {w : World} (h : Rd T g b p e rest w) : w.cell? ⟨g, 2, none⟩ = some (.int .i64 e) := cell_of_row _ _ 2 _ _ _ h
theorem Rd.setp {T g : Nat} {b : ByteArray} {p : Nat} {e : Int} {rest : List Value} {w : World} (h : Rd T g b p e rest w) (q : Nat) : Rd T g b q e rest (w.setCell ⟨g, 1, none⟩ (.int .i64 q)) := heap_setCell_same _ _ 1 _ _ _ h
theorem Rd.sete {T g : Nat} {b : ByteArray} {p : Nat} {e : Int} {rest : List Value} {w : World} (h : Rd T g b p e rest w) (f : Int) : Rd T g b p f rest (w.setCell ⟨g, 2, none⟩ (.int .i64 f)) := heap_setCell_same _ _ 2 _ _ _ h

theorem refuseC (T g : Nat) (b : ByteArray) (p : Nat) (e f : Int) (rest : List Value) (w : World) (h : Rd T g b p e rest w) :
    Calls Try.prog 69 #[.pointer (some ⟨g, 0, none⟩), .int .i64 f] w fun x w' => x = .returned (.tuple #[]) ∧ Rd T g b p (refu e f) rest w' ∧ Kp (fun k => k = g) w w' := by
  have c2 := h.e
  have f2 := frozen_of_row _ _ 2 _ _ h
  by_cases he : e = 0
  · subst he
    have HR : Hid (Rd T g b p f rest (w.setCell ⟨g, 2, none⟩ (.int .i64 f))) := h.sete f
    have HK : Hid (Kp (fun k => k = g) w (w.setCell ⟨g, 2, none⟩ (.int .i64 f))) := Kp.setCell _ _ _ _ rfl
    clear h
    go_enter Try.func69, Try.ntmps69
    go_wp2
    go_end0
    exact ⟨rfl, HR.out, HK.out⟩
  · have he' : (e == 0) = false := by rw [beq_eq_false_iff_ne]; exact he
    have HE : Hid (refu e f = e) := refu_not e f he
    have H : Hid (Rd T g b p e rest w) := h
    clear h he
    go_enter Try.func69, Try.ntmps69
    go_wp2
    go_end0
    exact ⟨rfl, by rw [HE.out]; exact H.out, Kp.refl _ _⟩

theorem ret_v {a b : Value} (h : a = b) : Ending.returned a = .returned b := by rw [h]

theorem Rd.dN {T g : Nat} {b : ByteArray} {p : Nat} {e : Int} {rest : List Value} {w : World} (h : Rd T g b p e rest w) (n : Nat) : Rd T g b p e rest (w.drewN n) := h.keep (A := fun _ => False) (Kp.of_below (below_dN (Below.refl _ _) n)) (fun e => e)
theorem Kp.dN {A : Nat → Prop} (w : World) (n : Nat) : Kp A w (w.drewN n) := Kp.of_below (below_dN (Below.refl _ _) n)
set_option maxHeartbeats 1600000 in
theorem numberC (T g : Nat) (b : ByteArray) (p : Nat) (e : Int) (rest : List Value) (w : World) (h : Rd T g b p e rest w) (hb : b.size ≤ 140737488355328) (hp : Ok b p e) :
    Calls Try.prog 91 #[.pointer (some ⟨g, 0, none⟩)] w fun x w' => x = .returned (.int .u64 (numS b p e).1) ∧ Rd T g b (numS b p e).2.1 (numS b p e).2.2 rest w' ∧ Kp (fun k => k = g) w w' := by
  have c0 := h.b
  have c1 := h.p
  have c2 := h.e
  by_cases he : e = 0
  · subst he
    have CV : Hid (∀ w, Calls _ _ _ _ _) := fun w => var_any b p w (by omega) hp.1
    have H : Hid (Rd T g b p 0 rest w) := h
    by_cases hv : (varR b p 10 0 0).2.2 = 0
    · obtain ⟨q, hq, hq2⟩ : ∃ q : Nat, (varR b p 10 0 0).2.1 = q ∧ q ≤ b.size := by
        rcases var_in b p hp.1 with ⟨_, ⟨q, h1, h2, _⟩, _⟩ | ⟨h1, _⟩
        · exact ⟨q, h1, h2⟩
        · exact absurd hv h1
      have HN : Hid (numS b p 0 = ((varR b p 10 0 0).1, q, 0)) := by
        show _ = _
        rw [numS_yes b p hv, hq]; rfl
      rw [HN.out]
      obtain ⟨x, HX⟩ : ∃ x, Hid ((varR b p 10 0 0).1 = x) := ⟨_, rfl⟩
      rw [HX.out, hq, hv] at CV
      rw [HX.out]
      clear h hp hv hq
      go_enter Try.func91, Try.ntmps91
      go_upto_region 3 with fail
      go_quiet ((go_at_call 108; exact Calls.quiet_of_same (CV.out _)))
      obtain ⟨w1, HW⟩ : ∃ w1, w1 = w.drewN nq := ⟨_, rfl⟩
      have H1 : Hid (Rd T g b p 0 rest w1) := by rw [HW]; exact H.out.dN nq
      have K1 : Hid (Kp (fun k => k = g) w w1) := by rw [HW]; exact Kp.dN w nq
      rw [← HW]
      have f1 := frozen_of_row _ _ 1 _ _ H1.out
      clear HW c0 c1 c2
      have c1 := H1.out.p
      go_wp2
      go_ret
      exact ⟨rfl, H1.out.setp q, K1.out.trans (Kp.setCell _ _ _ _ rfl)⟩
    · have HN : Hid (numS b p 0 = (0, p, (varR b p 10 0 0).2.2)) := numS_bad b p hv
      rw [HN.out]
      obtain ⟨x, y, z, HX⟩ : ∃ x y z, Hid (varR b p 10 0 0 = (x, y, z)) := ⟨_, _, _, rfl⟩
      rw [HX.out] at CV hv ⊢
      have hv' : (z != 0) = true := by rw [bne_iff_ne]; exact hv
      have HZ : Hid (refu 0 z = z) := refu_zero z
      clear h hp hv
      go_enter Try.func91, Try.ntmps91
      go_upto_region 3 with fail
      go_quiet ((go_at_call 108; exact Calls.quiet_of_same (CV.out _)))
      obtain ⟨w1, HW⟩ : ∃ w1, w1 = w.drewN nq := ⟨_, rfl⟩
      have H1 : Hid (Rd T g b p 0 rest w1) := by rw [HW]; exact H.out.dN nq
      have K1 : Hid (Kp (fun k => k = g) w w1) := by rw [HW]; exact Kp.dN w nq
      rw [← HW]
      clear HW c0 c1 c2
      go_wp2_with (go_at_call 69; refine (refuseC T g b p 0 z rest _ H1.out).mono ?_; rintro _ w2 ⟨rfl, r2, k2⟩; have R2 : Hid (Rd T g b p (refu 0 z) rest w2) := r2; have K2 : Hid (Kp _ _ _) := k2; clear r2 k2)
      go_ret
      exact ⟨rfl, R2.out, K1.out.trans K2.out⟩
  · have he' : (e != 0) = true := by rw [bne_iff_ne]; exact he
    have HE : Hid (numS b p e = (0, p, e)) := numS_not b p e he
    have H : Hid (Rd T g b p e rest w) := h
    clear h he hp
    rw [HE.out]
    go_enter Try.func91, Try.ntmps91
    go_wp2
    go_ret
    exact ⟨rfl, H.out, Kp.refl _ _⟩

theorem atMostC (T g : Nat) (b : ByteArray) (p : Nat) (e m f : Int) (rest : List Value) (w : World) (h : Rd T g b p e rest w) (hb : b.size ≤ 140737488355328) (hp : Ok b p e) (hm : -1000 ≤ m) (hm' : m ≤ 4611686018427387904) :
    Calls Try.prog 67 #[.pointer (some ⟨g, 0, none⟩), .int .i64 m, .int .i64 f] w fun x w' => x = .returned (.int .i64 (mostS b m f p e).1) ∧ Rd T g b (mostS b m f p e).2.1 (mostS b m f p e).2.2 rest w' ∧ Kp (fun k => k = g) w w' := by
  obtain ⟨hn1, hn2, hn3⟩ := num_ok b p e hp
  have CN : Hid (Calls _ _ _ _ _) := numberC T g b p e rest w h hb hp
  have HM : Hid (mostS b m f p e = if m < 0 ∨ m < (numS b p e).1 then (0, (numS b p e).2.1, refu (numS b p e).2.2 f) else numS b p e) := rfl
  obtain ⟨x, q, z, HX⟩ : ∃ x q z, Hid (numS b p e = (x, q, z)) := ⟨_, _, _, rfl⟩
  rw [HX.out] at CN HM hn1 hn2 hn3
  clear h hp
  by_cases h0 : m < 0
  · have HO : Hid (mostS b m f p e = (0, q, refu z f)) := by show _ = _; rw [HM.out, if_pos (.inl h0)]
    rw [HO.out]
    have g0 : decide (m < 0) = true := by simpa using h0
    go_enter Try.func67, Try.ntmps67
    go_wp2_with (first | (go_at_call 91; refine CN.out.mono ?_; rintro _ w1 ⟨rfl, r1, k1⟩; have R1 : Hid (Rd T g b q z rest w1) := r1; have K1 : Hid (Kp _ _ _) := k1; clear r1 k1) | (go_at_call 69; refine (refuseC T g b q z f rest _ R1.out).mono ?_; rintro _ w2 ⟨rfl, r2, k2⟩; have R2 : Hid (Rd T g b q (refu z f) rest w2) := r2; have K2 : Hid (Kp _ _ _) := k2; clear r2 k2))
    go_ret
    exact ⟨rfl, R2.out, K1.out.trans K2.out⟩
  have g0 : decide (m < 0) = false := by simpa using h0
  have gu : IntKind.u64.wrap m = m := u64_nonneg (by omega) (by omega)
  by_cases h1 : m < x
  · have HO : Hid (mostS b m f p e = (0, q, refu z f)) := by show _ = _; rw [HM.out, if_pos (.inr h1)]
    rw [HO.out]
    go_enter Try.func67, Try.ntmps67
    go_wp2_with (first | (go_at_call 91; refine CN.out.mono ?_; rintro _ w1 ⟨rfl, r1, k1⟩; have R1 : Hid (Rd T g b q z rest w1) := r1; have K1 : Hid (Kp _ _ _) := k1; clear r1 k1) | (go_at_call 69; refine (refuseC T g b q z f rest _ R1.out).mono ?_; rintro _ w2 ⟨rfl, r2, k2⟩; have R2 : Hid (Rd T g b q (refu z f) rest w2) := r2; have K2 : Hid (Kp _ _ _) := k2; clear r2 k2))
    go_ret
    exact ⟨rfl, R2.out, K1.out.trans K2.out⟩
  · have HO : Hid (mostS b m f p e = (x, q, z)) := by
      show _ = _
      have h2 : ¬ (m < 0 ∨ m < x) := by omega
      rw [HM.out, if_neg h2]
    rw [HO.out]
    go_enter Try.func67, Try.ntmps67
    go_wp2_with (first | (go_at_call 91; refine CN.out.mono ?_; rintro _ w1 ⟨rfl, r1, k1⟩; have R1 : Hid (Rd T g b q z rest w1) := r1; have K1 : Hid (Kp _ _ _) := k1; clear r1 k1))
    go_ret
    exact ⟨rfl, R1.out, K1.out⟩

theorem sizeC (T g : Nat) (b : ByteArray) (p : Nat) (e : Int) (rest : List Value) (w : World) (h : Rd T g b p e rest w) (hb : b.size ≤ 140737488355328) (hp : Ok b p e) :
    Calls Try.prog 107 #[.pointer (some ⟨g, 0, none⟩)] w fun x w' => x = .returned (.int .i64 (mostS b 4611686018427387904 10 p e).1) ∧ Rd T g b (mostS b 4611686018427387904 10 p e).2.1 (mostS b 4611686018427387904 10 p e).2.2 rest w' ∧ Kp (fun k => k = g) w w' := by
  have CN : Hid (Calls _ _ _ _ _) := atMostC T g b p e 4611686018427387904 10 rest w h hb hp (by decide) (by decide)
  go_enter Try.func107, Try.ntmps107
  go_wp2_with (go_at_call 67; refine CN.out.mono ?_; rintro _ w1 ⟨rfl, r1, k1⟩; have R1 : Hid (Rd T g b _ _ rest w1) := r1; have K1 : Hid (Kp _ _ _) := k1; clear r1 k1)
  go_ret
  exact ⟨rfl, R1.out, K1.out⟩

theorem endC (T g : Nat) (b : ByteArray) (p : Nat) (e : Int) (rest : List Value) (w : World) (h : Rd T g b p e rest w) (hb : b.size ≤ 140737488355328) (hp : Ok b p e) :
    Calls Try.prog 37 #[.pointer (some ⟨g, 0, none⟩)] w fun x w' => x = .returned (.int .i64 (endS b p e)) ∧ Rd T g b p (endS b p e) rest w' ∧ Kp (fun k => k = g) w w' := by
  have c0 := h.b
  have c1 := h.p
  have hp1 : p ≤ b.size := hp.1
  have H : Hid (Rd T g b p e rest w) := h
  by_cases hlt : p < b.size
  · have HE : Hid (endS b p e = refu e 111) := if_pos hlt
    have hlt' : (p : Int) < b.size := by omega
    clear h hp
    rw [HE.out]
    go_enter Try.func37, Try.ntmps37
    go_upto_region 1 with fail
    go_quiet (fail)
    obtain ⟨w1, HW⟩ : ∃ w1, w1 = w.drewN nq := ⟨_, rfl⟩
    have H1 : Hid (Rd T g b p e rest w1) := by rw [HW]; exact H.out.dN nq
    have K1 : Hid (Kp (fun k => k = g) w w1) := by rw [HW]; exact Kp.dN w nq
    rw [← HW]
    clear HW c0 c1
    go_wp2_with (go_at_call 69; refine (refuseC T g b p e 111 rest _ H1.out).mono ?_; rintro _ w2 ⟨rfl, r2, k2⟩; have R2 : Hid (Rd T g b p (refu e 111) rest w2) := r2; have K2 : Hid (Kp _ _ _) := k2; have c2 := r2.e; clear r2 k2)
    go_ret
    exact ⟨rfl, R2.out, K1.out.trans K2.out⟩
  · have HE : Hid (endS b p e = e) := if_neg hlt
    have hlt' : ¬ (p : Int) < b.size := by omega
    clear h hp
    rw [HE.out]
    go_enter Try.func37, Try.ntmps37
    go_upto_region 1 with fail
    go_quiet (fail)
    obtain ⟨w1, HW⟩ : ∃ w1, w1 = w.drewN nq := ⟨_, rfl⟩
    have H1 : Hid (Rd T g b p e rest w1) := by rw [HW]; exact H.out.dN nq
    have K1 : Hid (Kp (fun k => k = g) w w1) := by rw [HW]; exact Kp.dN w nq
    rw [← HW]
    clear HW c0 c1
    have c2 := H1.out.e
    go_wp2
    go_ret
    exact ⟨rfl, H1.out, K1.out⟩
end Go.Proofs.Ytkgadgkomdjplaa.eb
