import Derived.Test.YtkgadgkomdjplaaFb
namespace Go.Proofs.Ytkgadgkomdjplaa.fc
open Go.RowKit Go.PlainAid
open Go.Proofs.Ytkgadgkomdjplaa.ca Go.Proofs.Ytkgadgkomdjplaa.cb Go.Proofs.Ytkgadgkomdjplaa.cp Go.Proofs.Ytkgadgkomdjplaa.ga Go.Proofs.Ytkgadgkomdjplaa.kp Go.Proofs.Ytkgadgkomdjplaa.na Go.Proofs.Ytkgadgkomdjplaa.nb Go.Proofs.Ytkgadgkomdjplaa.nc Go.Proofs.Ytkgadgkomdjplaa.nf Go.Proofs.Ytkgadgkomdjplaa.ng Go.Proofs.Ytkgadgkomdjplaa.ea Go.Proofs.Ytkgadgkomdjplaa.eb Go.Proofs.Ytkgadgkomdjplaa.ec Go.Proofs.Ytkgadgkomdjplaa.ed Go.Proofs.Ytkgadgkomdjplaa.ee Go.Proofs.Ytkgadgkomdjplaa.ka Go.Proofs.Ytkgadgkomdjplaa.bn Go.Proofs.Ytkgadgkomdjplaa.fa Go.Proofs.Ytkgadgkomdjplaa.fb
set_option linter.unusedVariables false

set_option maxHeartbeats 1600000 in
theorem pBytes (T g : Nat) (b : ByteArray) (p : Nat) (e : Int) (rest : List Value) (c : Nat) (w : World) (h : Rd T g b p e rest w) (hb : b.size ≤ 140737488355328) (hp : Ok b p e) (hc : c ≤ 140737488355328) :
    Calls Try.prog 40 #[.pointer (some ⟨g, 0, none⟩), .int .i64 c] w fun x w' => x = .returned (.string (takeS b c p e).1) ∧ Rd T g b (takeS b c p e).2.1 (takeS b c p e).2.2 rest w' ∧ Kp (fun k => k = g) w w' := by
  have c0 := h.b
  have c1 := h.p
  have c2 := h.e
  have hp1 : p ≤ b.size := hp.1
  have H : Hid (Rd T g b p e rest w) := h
  by_cases he : e = 0
  · subst he
    have g0 : ((0 : Int) == 0) = true := rfl
    by_cases hs : b.size < p + c
    · have hs' : (b.size : Int) - p < c := by omega
      rw [takeS_short b c p hs]
      have HZ : Hid (refu 0 12 = 12) := rfl
      clear h hp
      go_enter Try.func40, Try.ntmps40
      go_upto_region 1 with fail
      go_quiet (fail)
      obtain ⟨w1, HW⟩ : ∃ w1, w1 = w.drewN nq := ⟨_, rfl⟩
      have H1 : Hid (Rd T g b p 0 rest w1) := by rw [HW]; exact H.out.dN nq
      have K1 : Hid (Kp (fun k => k = g) w w1) := by rw [HW]; exact Kp.dN w nq
      rw [← HW]
      clear HW c0 c1 c2
      go_wp2_with (go_at_call 61; refine (pRefuse T g b p 0 12 rest _ H1.out).mono ?_; rintro _ w2 ⟨rfl, r2, k2⟩; rw [HZ.out] at r2; have R2 : Hid (Rd T g b p 12 rest w2) := r2; have K2 : Hid (Kp _ _ _) := k2; have c2 := Rd.e r2; clear r2 k2)
      go_ret
      exact ⟨rfl, R2.out, K1.out.trans K2.out⟩
    · have hs' : ¬ (b.size : Int) - p < c := by omega
      rw [takeS_yes b c p (by omega)]
      clear h hp
      go_enter Try.func40, Try.ntmps40
      go_upto_region 1 with fail
      go_quiet (fail)
      obtain ⟨w1, HW⟩ : ∃ w1, w1 = w.drewN nq := ⟨_, rfl⟩
      have H1 : Hid (Rd T g b p 0 rest w1) := by rw [HW]; exact H.out.dN nq
      have K1 : Hid (Kp (fun k => k = g) w w1) := by rw [HW]; exact Kp.dN w nq
      rw [← HW]
      clear HW c0 c1 c2
      have c1 := H1.out.p
      have c2 := H1.out.e
      have f1 := frozen_of_row _ _ 1 _ _ H1.out
      have e1 : ((p + c : Nat) : Int) = (p : Int) + c := by omega
      have e2 : (p : Int) + c - c = p := by omega
      have H2 : Hid (Rd T g b (p + c) 0 rest (w1.setCell ⟨g, 1, none⟩ (.int .i64 ((p : Int) + c)))) := by have := H1.out.setp (p + c); rw [e1] at this; exact this
      have K2 : Hid (Kp (fun k => k = g) w (w1.setCell ⟨g, 1, none⟩ (.int .i64 ((p : Int) + c)))) := K1.out.trans (Kp.setCell _ _ _ _ rfl)
      go_upto_region 6 with fail
      obtain ⟨w2, HW⟩ : ∃ w2, w2 = w1.setCell ⟨g, 1, none⟩ (.int .i64 ((p : Int) + c)) := ⟨_, rfl⟩
      rw [← HW] at H2 K2 ⊢
      clear HW c1 c2 f1 H1 K1
      have d0 := H2.out.b
      have d1 := H2.out.p
      rw [e1] at d1
      have hb1 : (0 : Int) ≤ (p : Int) + c ∧ (p : Int) + c ≤ b.size := by omega
      have hb2 : (p : Int) ≤ (p : Int) + c := by omega
      go_quiet (fail)
      go_wp2
      go_ret
      exact ⟨rfl, H2.out.dN _, K2.out.trans (Kp.dN _ _)⟩
  · have he1 : (e == 0) = false := by rw [beq_eq_false_iff_ne]; exact he
    have he' : (e != 0) = true := by rw [bne_iff_ne]; exact he
    rw [takeS_not b c p e he]
    clear h he hp
    go_enter Try.func40, Try.ntmps40
    go_upto_region 1 with fail
    go_quiet (fail)
    obtain ⟨w1, HW⟩ : ∃ w1, w1 = w.drewN nq := ⟨_, rfl⟩
    have H1 : Hid (Rd T g b p e rest w1) := by rw [HW]; exact H.out.dN nq
    have K1 : Hid (Kp (fun k => k = g) w w1) := by rw [HW]; exact Kp.dN w nq
    rw [← HW]
    clear HW c0 c1 c2
    have c2 := H1.out.e
    go_wp2
    go_ret
    exact ⟨rfl, H1.out, K1.out⟩

set_option maxHeartbeats 1600000 in
theorem pEnd (T g : Nat) (b : ByteArray) (p : Nat) (e : Int) (rest : List Value) (w : World) (h : Rd T g b p e rest w) (hb : b.size ≤ 140737488355328) (hp : Ok b p e) :
    Calls Try.prog 41 #[.pointer (some ⟨g, 0, none⟩)] w fun x w' => x = .returned (.int .i64 (endS b p e)) ∧ Rd T g b p (endS b p e) rest w' ∧ Kp (fun k => k = g) w w' := by
  have c0 := h.b
  have c1 := h.p
  have c2 := h.e
  have hp1 : p ≤ b.size := hp.1
  have H : Hid (Rd T g b p e rest w) := h
  by_cases he : e = 0
  · subst he
    have g0 : ((0 : Int) == 0) = true := rfl
    by_cases hlt : p < b.size
    · have HE : Hid (endS b p 0 = refu 0 111) := if_pos hlt
      have hlt' : (p : Int) < b.size := by omega
      clear h hp
      rw [HE.out]
      go_enter Try.func41, Try.ntmps41
      go_upto_region 1 with fail
      go_quiet (fail)
      obtain ⟨w1, HW⟩ : ∃ w1, w1 = w.drewN nq := ⟨_, rfl⟩
      have H1 : Hid (Rd T g b p 0 rest w1) := by rw [HW]; exact H.out.dN nq
      have K1 : Hid (Kp (fun k => k = g) w w1) := by rw [HW]; exact Kp.dN w nq
      rw [← HW]
      clear HW c0 c1 c2
      go_wp2_with (go_at_call 61; refine (pRefuse T g b p 0 111 rest _ H1.out).mono ?_; rintro _ w2 ⟨rfl, r2, k2⟩; have R2 : Hid (Rd T g b p (refu 0 111) rest w2) := r2; have K2 : Hid (Kp _ _ _) := k2; have c2 := Rd.e r2; clear r2 k2)
      go_ret
      exact ⟨rfl, R2.out, K1.out.trans K2.out⟩
    · have HE : Hid (endS b p 0 = 0) := if_neg hlt
      have hlt' : ¬ (p : Int) < b.size := by omega
      clear h hp
      rw [HE.out]
      go_enter Try.func41, Try.ntmps41
      go_upto_region 1 with fail
      go_quiet (fail)
      obtain ⟨w1, HW⟩ : ∃ w1, w1 = w.drewN nq := ⟨_, rfl⟩
      have H1 : Hid (Rd T g b p 0 rest w1) := by rw [HW]; exact H.out.dN nq
      have K1 : Hid (Kp (fun k => k = g) w w1) := by rw [HW]; exact Kp.dN w nq
      rw [← HW]
      clear HW c0 c1 c2
      have c2 := H1.out.e
      go_wp2
      go_ret
      exact ⟨rfl, H1.out, K1.out⟩
  · have HE : Hid (endS b p e = e) := by show _ = _; unfold endS; rw [refu_not e 111 he]; split <;> rfl
    have he1 : (e == 0) = false := by rw [beq_eq_false_iff_ne]; exact he
    rw [HE.out]
    clear h he hp
    go_enter Try.func41, Try.ntmps41
    go_upto_region 1 with fail
    go_quiet (fail)
    obtain ⟨w1, HW⟩ : ∃ w1, w1 = w.drewN nq := ⟨_, rfl⟩
    have H1 : Hid (Rd T g b p e rest w1) := by rw [HW]; exact H.out.dN nq
    have K1 : Hid (Kp (fun k => k = g) w w1) := by rw [HW]; exact Kp.dN w nq
    rw [← HW]
    clear HW c0 c1 c2
    have c2 := H1.out.e
    go_wp2
    go_ret
    exact ⟨rfl, H1.out, K1.out⟩

set_option maxHeartbeats 1600000 in
theorem pHashes (T g : Nat) (b : ByteArray) (p : Nat) (e : Int) (rest : List Value) (wd n : Nat) (w : World) (h : Rd T g b p e rest w) (hb : b.size ≤ 140737488355328) (hp : Ok b p e) (hw : wd ≤ 1000) (hn : n ≤ 1000000) :
    Calls Try.prog 56 #[.pointer (some ⟨g, 0, none⟩), .int .i64 n, .int .i64 wd] w fun x w' => (∃ v, x = .returned v ∧ w'.ownsRow w.heap.size 9 1 v (hashesS b wd n p e).1.length ((hashesS b wd n p e).1.map Value.string)) ∧ Rd T g b (hashesS b wd n p e).2.1 (hashesS b wd n p e).2.2 rest w' ∧ Kp (fun k => k = g) w w' := by
  obtain ⟨i9, hi, hz0, hz1, hz2⟩ := info_parts hi9
  have HIN : Hid (_ ∧ _ ∧ _ ∧ _) := ⟨hi, hz0, hz1, hz2⟩
  clear hi hz0 hz1 hz2
  have hg := h.lt
  have H0 : Hid (HI T g b wd n p e rest w (.slice none 0 0) [] p e w) := ⟨h, hp, Kp.refl _ _, World.ownsRow_nil _ _ _ _, by simp, by simp⟩
  obtain ⟨R, HR⟩ : ∃ R, Hid (hashesS b wd n p e = R) := ⟨_, rfl⟩
  rw [HR.out]
  clear h hp
  go_enter Try.func56, Try.ntmps56
  go_wp2
  go_loopw [7, 8] (fun v i wr => ∃ (m : Nat) (xs : List ByteArray) (q : Nat) (z : Int), m ≤ n ∧ i = .int .i64 m ∧ Hid (xs.length = m ∧ HI T g b wd n p e rest w v xs q z wr)) (fun _ i _ => (n - intOf i).toNat)
  case atStart => exact ⟨0, [], p, e, by omega, rfl, rfl, H0.out⟩
  case round =>
    clear H0
    obtain ⟨m, xs, q, z, hm, rfl, HHH⟩ := hrel
    have HM : Hid (xs.length = m) := HHH.out.1
    have HH : Hid (HI T g b wd n p e rest w _ xs q z wr) := HHH.out.2
    clear HHH
    obtain ⟨a, c, hv⟩ := own_formS HH.out.own
    subst hv
    rw [HM.out] at HH ⊢
    have c2 := HH.out.rd.e
    by_cases hlt : m < n
    · have hlt' : (m : Int) < n := by omega
      by_cases hz : z = 0
      · subst hz
        have CT : Hid (Calls _ _ _ _ _) := pBytes T g b q 0 rest wd wr HH.out.rd hb HH.out.ok (by omega)
        obtain ⟨x, HX⟩ : ∃ x, Hid ((takeS b wd q 0).1 = x) := ⟨_, rfl⟩
        rw [HX.out] at CT
        have HO : Hid (wr.ownsRow w.heap.size 9 1 (.slice a m c) m (xs.map Value.string)) := by have := HH.out.own; rw [HM.out] at this; exact this
        have hsz : w.heap.size ≤ wr.heap.size := HH.out.kp.size
        go_wp2_with (first | (go_at_call 40; refine CT.out.mono ?_; rintro _ w1 ⟨rfl, r1, k1⟩; have R1 : Hid (Rd T g b _ _ rest w1) := r1; have K1 : Hid (Kp (fun k => k = g) wr w1) := k1; have O1 : Hid (w1.ownsRow w.heap.size 9 1 (.slice a m c) m (xs.map Value.string)) := own_kp HO.out k1 (fun j hj => by omega); have hsz1 : w.heap.size ≤ w1.heap.size := Nat.le_trans hsz k1.size; clear r1 k1) | (at_builtin; refine wpList_append_own _ rfl _ _ 27 rfl w.heap.size 9 i9 (.string ByteArray.empty) 1 16 Try.underlying27 HIN.out.1 HIN.out.2.1 HIN.out.2.2.1 HIN.out.2.2.2 rfl (by decide) _ m _ rfl (O1.out.alloc _) ⟨w1.heap.size, 0, none⟩ 1 1 [.string x] rfl rfl (new_text _ _ _) (one_text _) (by unfold maxLen; omega) (by omega) (by simp; omega) ?_; intro v' w3 hown' hgrow3 hnil3; have O3 : Hid (w3.ownsRow w.heap.size 9 1 v' (m + 1) (xs.map Value.string ++ [.string x])) := hown'; have B3 : Hid (Below w.heap.size w1 w3) := Below.grown ((Below.refl _ _).alloc hsz1 _) hgrow3 (by simp; omega) (fun j hj => (O1.out.lt _ hj).1); clear hown' hgrow3 hnil3))
        go_roundw
        case rel =>
          refine ⟨m + 1, xs ++ [x], (takeS b wd q 0).2.1, (takeS b wd q 0).2.2, by omega, by go_num, by rw [List.length_append, HM.out]; rfl, ?_⟩
          have := HH.out.step hg (by rw [HM.out]; exact hlt) K1.out R1.out B3.out (by rw [HM.out, HX.out]; exact O3.out)
          rw [HX.out] at this
          exact this
        case measure => simp [intOf]; omega
      · have hz' : (z == 0) = false := by rw [beq_eq_false_iff_ne]; exact hz
        have HE : Hid (R = (xs, q, z)) := by show _ = _; rw [← HR.out, HH.out.eq, hashesS_not b wd _ q z hz]; simp
        have HO : Hid (wr.ownsRow w.heap.size 9 1 (.slice a m c) xs.length (xs.map Value.string) ∧ Rd T g b q z rest wr ∧ Kp (fun k => k = g) w wr) := ⟨HH.out.own, HH.out.rd, HH.out.kp⟩
        clear hz
        go_wp2
        go_ret
        rw [HE.out]
        exact ⟨⟨_, rfl, HO.out.1⟩, HO.out.2⟩
    · have hlt' : ¬ (m : Int) < n := by omega
      have HE : Hid (R = (xs, q, z)) := by
        show _ = _
        rw [← HR.out, HH.out.eq, HM.out, show n - m = 0 by omega]
        simp [hashesS]
      have HO : Hid (wr.ownsRow w.heap.size 9 1 (.slice a m c) xs.length (xs.map Value.string) ∧ Rd T g b q z rest wr ∧ Kp (fun k => k = g) w wr) := ⟨HH.out.own, HH.out.rd, HH.out.kp⟩
      go_wp2
      go_ret
      rw [HE.out]
      exact ⟨⟨_, rfl, HO.out.1⟩, HO.out.2⟩
end Go.Proofs.Ytkgadgkomdjplaa.fc
