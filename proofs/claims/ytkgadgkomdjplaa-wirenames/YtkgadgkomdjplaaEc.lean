import Derived.Test.YtkgadgkomdjplaaEb
import Derived.Test.YtkgadgkomdjplaaSb
import Derived.Laws.AppendOwnNone
import Derived.Lib.SliceRun
import Derived.Handy
namespace Go.Proofs.Ytkgadgkomdjplaa.ec
open Go.RowKit Go.PlainAid Go.Shelf
open Go.Proofs.Ytkgadgkomdjplaa.ca Go.Proofs.Ytkgadgkomdjplaa.cb Go.Proofs.Ytkgadgkomdjplaa.cp Go.Proofs.Ytkgadgkomdjplaa.ga Go.Proofs.Ytkgadgkomdjplaa.kp Go.Proofs.Ytkgadgkomdjplaa.na Go.Proofs.Ytkgadgkomdjplaa.nb Go.Proofs.Ytkgadgkomdjplaa.nc Go.Proofs.Ytkgadgkomdjplaa.nf Go.Proofs.Ytkgadgkomdjplaa.ng Go.Proofs.Ytkgadgkomdjplaa.ea Go.Proofs.Ytkgadgkomdjplaa.eb Go.Proofs.Ytkgadgkomdjplaa.sb
set_option linter.unusedVariables false

theorem cloneC (s : ByteArray) (w : World) (h : s.size ≤ 140737488355328) :
    Calls Try.prog 92 #[.string s] w fun e w' => e = .returned (.string s) ∧ Below w.heap.size w w' := by
  have CC : Hid (∀ w, Calls Try.prog 109 #[.string s] w fun e w' => e = .returned (.string s) ∧ Below w.heap.size w w') := fun w => AnyPu.stringslite_Clone laysC s w (by omega)
  go_enter Try.func92, Try.ntmps92
  go_wp2_with (go_at_call 109; refine (CC.out _).mono ?_; rintro _ w1 ⟨rfl, k1⟩; have K1 : Hid (Below w.heap.size w w1) := k1; clear k1)
  go_ret
  exact ⟨rfl, K1.out⟩

theorem below_dr {B : Nat} {w w' : World} (h : Below B w w') : Below B w w'.drew := below_dN h 1
set_option maxHeartbeats 1600000 in
theorem takeC (T g : Nat) (b : ByteArray) (p : Nat) (e : Int) (rest : List Value) (c : Nat) (w : World) (h : Rd T g b p e rest w) (hb : b.size ≤ 140737488355328) (hp : Ok b p e) (hc : c ≤ 140737488355328) :
    Calls Try.prog 68 #[.pointer (some ⟨g, 0, none⟩), .int .i64 c] w fun x w' => x = .returned (.string (takeS b c p e).1) ∧ Rd T g b (takeS b c p e).2.1 (takeS b c p e).2.2 rest w' ∧ Kp (fun k => k = g) w w' := by
  have c0 := h.b
  have c1 := h.p
  have hp1 : p ≤ b.size := hp.1
  have H : Hid (Rd T g b p e rest w) := h
  by_cases hs : b.size < p + c
  · have hs' : (b.size : Int) - p < c := by omega
    obtain ⟨f, hf, HT⟩ : ∃ f, (f != 0) = true ∧ Hid (takeS b c p e = (ByteArray.empty, p, f) ∧ refu e 12 = f) := by
      by_cases he : e = 0
      · subst he
        exact ⟨12, by decide, takeS_short b c p hs, rfl⟩
      · exact ⟨e, by rw [bne_iff_ne]; exact he, takeS_not b c p e he, refu_not e 12 he⟩
    rw [HT.out.1]
    clear h hp
    go_enter Try.func68, Try.ntmps68
    go_upto_region 1 with fail
    go_quiet (fail)
    obtain ⟨w1, HW⟩ : ∃ w1, w1 = w.drewN nq := ⟨_, rfl⟩
    have H1 : Hid (Rd T g b p e rest w1) := by rw [HW]; exact H.out.dN nq
    have K1 : Hid (Kp (fun k => k = g) w w1) := by rw [HW]; exact Kp.dN w nq
    rw [← HW]
    clear HW c0 c1
    go_wp2_with (go_at_call 69; refine (refuseC T g b p e 12 rest _ H1.out).mono ?_; rintro _ w2 ⟨rfl, r2, k2⟩; rw [HT.out.2] at r2; have R2 : Hid (Rd T g b p f rest w2) := r2; have K2 : Hid (Kp _ _ _) := k2; have c2 := r2.e; clear r2 k2)
    go_ret
    exact ⟨rfl, R2.out, K1.out.trans K2.out⟩
  have hs' : ¬ (b.size : Int) - p < c := by omega
  by_cases he : e = 0
  · subst he
    have HT : Hid (takeS b c p 0 = (b.extract p (p + c), p + c, 0)) := takeS_yes b c p (by omega)
    rw [HT.out]
    have hcs : (b.extract p (p + c)).size = c := by rw [ByteArray.size_extract]; omega
    have CC : Hid (∀ w, Calls _ _ _ _ _) := fun w => cloneC (b.extract p (p + c)) w (by omega)
    have hpc : p + c ≤ b.size := by omega
    clear h hp
    go_enter Try.func68, Try.ntmps68
    go_upto_region 1 with fail
    go_quiet (fail)
    obtain ⟨w1, HW⟩ : ∃ w1, w1 = w.drewN nq := ⟨_, rfl⟩
    have H1 : Hid (Rd T g b p 0 rest w1) := by rw [HW]; exact H.out.dN nq
    have K1 : Hid (Kp (fun k => k = g) w w1) := by rw [HW]; exact Kp.dN w nq
    rw [← HW]
    clear HW c0 c1
    have c1 := H1.out.p
    have c2 := H1.out.e
    have f1 := frozen_of_row _ _ 1 _ _ H1.out
    have e1 : ((p + c : Nat) : Int) = (p : Int) + c := by omega
    have H2 : Hid (Rd T g b (p + c) 0 rest (w1.setCell ⟨g, 1, none⟩ (.int .i64 ((p : Int) + c)))) := by have := H1.out.setp (p + c); rw [e1] at this; exact this
    have K2 : Hid (Kp (fun k => k = g) w (w1.setCell ⟨g, 1, none⟩ (.int .i64 ((p : Int) + c)))) := K1.out.trans (Kp.setCell _ _ _ _ rfl)
    go_upto_region 7 with fail
    obtain ⟨w2, HW⟩ : ∃ w2, w2 = w1.setCell ⟨g, 1, none⟩ (.int .i64 ((p : Int) + c)) := ⟨_, rfl⟩
    rw [← HW] at H2 K2 ⊢
    clear HW c1 c2 f1 H1 K1
    have R2 : Hid (Rd T g b (p + c) 0 rest w2.drew) := H2.out
    have K2d : Hid (Kp (fun k => k = g) w w2.drew) := K2.out.trans (Kp.of_below (below_dr (Below.refl _ _)))
    have SX : Hid (∀ w', Rd T g b (p + c) 0 rest w' → Kp (fun k => k = g) w w' → w'.cell? ⟨g, 0, none⟩ = some (.string b) ∧ w'.cell? ⟨g, 1, none⟩ = some (.int .i64 ((p : Int) + c)) ∧ Rd T g b (p + c) 0 rest w' ∧ Kp (fun k => k = g) w w') := fun w' r k => ⟨r.b, by have := r.p; rw [e1] at this; exact this, r, k⟩
    have RX : Hid (∀ w', Below w2.drew.heap.size w2.drew w' → Rd T g b (p + c) 0 rest w' ∧ Kp (fun k => k = g) w w') := fun w' hb' => ⟨R2.out.keep (A := fun _ => False) (Kp.of_below hb') (fun e => e), K2d.out.trans (Kp.of_below hb')⟩
    have hb1 : (0 : Int) ≤ (p : Int) + c ∧ (p : Int) + c ≤ b.size := by omega
    have hb2 : (p : Int) ≤ (p : Int) + c := by omega
    go_region_held3 (fun w' => w'.cell? ⟨g, 0, none⟩ = some (.string b) ∧ w'.cell? ⟨g, 1, none⟩ = some (.int .i64 ((p : Int) + c)) ∧ Rd T g b (p + c) 0 rest w' ∧ Kp (fun k => k = g) w w') (first | exact SX.out _ R2.out K2d.out | exact SX.out _ R3.out.1 R3.out.2) ((go_at_call 92; refine (CC.out _).mono ?_; rintro _ w3 ⟨rfl, k3⟩; have R3 : Hid (Rd T g b (p + c) 0 rest w3 ∧ Kp (fun k => k = g) w w3) := RX.out _ k3; clear k3))
    go_wp2
    go_ret
    exact ⟨rfl, R3.out.1, R3.out.2⟩
  · have he' : (e != 0) = true := by rw [bne_iff_ne]; exact he
    have HE : Hid (takeS b c p e = (ByteArray.empty, p, e)) := takeS_not b c p e he
    clear h he hp
    rw [HE.out]
    go_enter Try.func68, Try.ntmps68
    go_upto_region 1 with fail
    go_quiet (fail)
    obtain ⟨w1, HW⟩ : ∃ w1, w1 = w.drewN nq := ⟨_, rfl⟩
    have H1 : Hid (Rd T g b p e rest w1) := by rw [HW]; exact H.out.dN nq
    have K1 : Hid (Kp (fun k => k = g) w w1) := by rw [HW]; exact Kp.dN w nq
    rw [← HW]
    clear HW c0 c1
    have c2 := H1.out.e
    go_wp2
    go_ret
    exact ⟨rfl, H1.out, K1.out⟩
end Go.Proofs.Ytkgadgkomdjplaa.ec
