import Derived.Test.YtkgadgkomdjplaaFa
namespace Go.Proofs.Ytkgadgkomdjplaa.fb
open Go.RowKit Go.PlainAid
open Go.Proofs.Ytkgadgkomdjplaa.ca Go.Proofs.Ytkgadgkomdjplaa.cb Go.Proofs.Ytkgadgkomdjplaa.cp Go.Proofs.Ytkgadgkomdjplaa.ga Go.Proofs.Ytkgadgkomdjplaa.kp Go.Proofs.Ytkgadgkomdjplaa.na Go.Proofs.Ytkgadgkomdjplaa.nb Go.Proofs.Ytkgadgkomdjplaa.nc Go.Proofs.Ytkgadgkomdjplaa.nf Go.Proofs.Ytkgadgkomdjplaa.ng Go.Proofs.Ytkgadgkomdjplaa.ea Go.Proofs.Ytkgadgkomdjplaa.eb Go.Proofs.Ytkgadgkomdjplaa.ec Go.Proofs.Ytkgadgkomdjplaa.ed Go.Proofs.Ytkgadgkomdjplaa.ee Go.Proofs.Ytkgadgkomdjplaa.ka Go.Proofs.Ytkgadgkomdjplaa.bn Go.Proofs.Ytkgadgkomdjplaa.fa
set_option linter.unusedVariables false

-- what is behind a byte, in cases
theorem byte_cases (b : ByteArray) (p : Nat) (e : Int) (hp : p ≤ b.size) :
    (∃ z, z ≠ 0 ∧ (takeS b 1 p e).2 = (p, z) ∧ byteS b p e = 0 ∧ ∀ c, markS b c p e = (p, z)) ∨
    (e = 0 ∧ p < b.size ∧ (takeS b 1 p e).2 = (p + 1, 0) ∧ byteS b p e = bt b p) := by
  by_cases he : e = 0
  · subst he
    by_cases hs : b.size ≤ p
    · exact .inl ⟨12, by decide, take1_short b p hs, byteS_short b p hs, fun c => markS_short b c p hs⟩
    · exact .inr ⟨rfl, by omega, take1_yes b p (by omega), byteS_yes b p (by omega)⟩
  · exact .inl ⟨e, he, take1_not b p e he, byteS_not b p e he, fun c => markS_not b c p e he⟩

set_option maxHeartbeats 1600000 in
theorem pLetter (T g : Nat) (b : ByteArray) (p : Nat) (e c : Int) (rest : List Value) (w : World) (h : Rd T g b p e rest w) (hb : b.size ≤ 140737488355328) (hp : Ok b p e) (h0 : 0 ≤ c) (h1 : c ≤ 255) :
    Calls Try.prog 38 #[.pointer (some ⟨g, 0, none⟩), .int .u8 c] w fun x w' => x = .returned (.tuple #[]) ∧ Rd T g b (markS b c p e).1 (markS b c p e).2 rest w' ∧ Kp (fun k => k = g) w w' := by
  have CT : Hid (Calls _ _ _ _ _) := pTake T g b p e rest w h hb hp
  rcases byte_cases b p e hp.1 with ⟨z, hz, ht, hbv, hm⟩ | ⟨rfl, hlt, ht, hbv⟩
  · rw [hm c]
    rw [ht, hbv] at CT
    have hz' : (z == 0) = false := by rw [beq_eq_false_iff_ne]; exact hz
    clear h hp hm hz ht hbv
    go_enter Try.func38, Try.ntmps38
    go_wp2_with (go_at_call 70; refine CT.out.mono ?_; rintro _ w1 ⟨rfl, r1, k1⟩; have R1 : Hid (Rd T g b p z rest w1) := r1; have K1 : Hid (Kp _ _ _) := k1; have c2 := Rd.e r1; clear r1 k1)
    go_end0
    exact ⟨rfl, R1.out, K1.out⟩
  · rw [ht, hbv] at CT
    have hb0 := bt_nonneg b p
    have hb1 := bt_le b p
    by_cases hc : bt b p = c
    · rw [markS_yes b c p hlt h0 h1 hc]
      have HC : Hid (bt b p = c) := hc
      rw [hc] at CT
      have gc : (c != c) = false := by simp
      clear h hp ht hbv hc
      go_enter Try.func38, Try.ntmps38
      go_wp2_with (go_at_call 70; refine CT.out.mono ?_; rintro _ w1 ⟨rfl, r1, k1⟩; have R1 : Hid (Rd T g b (p + 1) 0 rest w1) := r1; have K1 : Hid (Kp _ _ _) := k1; have c2 := Rd.e r1; clear r1 k1)
      go_end0
      exact ⟨rfl, R1.out, K1.out⟩
    · rw [markS_bad b c p hlt h0 h1 hc]
      obtain ⟨v, HV⟩ : ∃ v, Hid (bt b p = v) := ⟨_, rfl⟩
      rw [HV.out] at CT hc hb0 hb1
      have gc : (v != c) = true := by rw [bne_iff_ne]; exact hc
      have HZ : Hid (refu 0 110 = 110) := rfl
      clear h hp ht hbv hc
      go_enter Try.func38, Try.ntmps38
      go_wp2_with (first | (go_at_call 70; refine CT.out.mono ?_; rintro _ w1 ⟨rfl, r1, k1⟩; have R1 : Hid (Rd T g b (p + 1) 0 rest w1) := r1; have K1 : Hid (Kp _ _ _) := k1; have c2 := Rd.e r1; clear r1 k1) | (go_at_call 61; refine (pRefuse T g b (p + 1) 0 110 rest _ R1.out).mono ?_; rintro _ w2 ⟨rfl, r2, k2⟩; rw [HZ.out] at r2; have R2 : Hid (Rd T g b (p + 1) 110 rest w2) := r2; have K2 : Hid (Kp _ _ _) := k2; clear r2 k2))
      go_end0
      exact ⟨rfl, R2.out, K1.out.trans K2.out⟩

set_option maxHeartbeats 1600000 in
theorem pWidth (T g : Nat) (b : ByteArray) (p : Nat) (e : Int) (rest : List Value) (w : World) (h : Rd T g b p e rest w) (hb : b.size ≤ 140737488355328) (hp : Ok b p e) :
    Calls Try.prog 55 #[.pointer (some ⟨g, 0, none⟩)] w fun x w' => x = .returned (.int .i64 (widthS b p e).1) ∧ Rd T g b (widthS b p e).2.1 (widthS b p e).2.2 rest w' ∧ Kp (fun k => k = g) w w' := by
  have CT : Hid (Calls _ _ _ _ _) := pTake T g b p e rest w h hb hp
  rcases byte_cases b p e hp.1 with ⟨z, hz, ht, hbv, hm⟩ | ⟨rfl, hlt, ht, hbv⟩
  · have HW : Hid (widthS b p e = (0, p, z)) := by
      show _ = _
      rw [widthS_eq b p e 0 p z hbv ht, if_neg (by decide), refu_not z 10 hz]
    rw [HW.out]
    rw [ht, hbv] at CT
    have hz' : (z == 0) = false := by rw [beq_eq_false_iff_ne]; exact hz
    clear h hp hm hz ht hbv
    go_enter Try.func55, Try.ntmps55
    go_wp2_with (go_at_call 70; refine CT.out.mono ?_; rintro _ w1 ⟨rfl, r1, k1⟩; have R1 : Hid (Rd T g b p z rest w1) := r1; have K1 : Hid (Kp _ _ _) := k1; have c2 := Rd.e r1; clear r1 k1)
    go_ret
    exact ⟨rfl, R1.out, K1.out⟩
  · have HW : Hid (widthS b p 0 = (bt b p, p + 1, if 1 ≤ bt b p ∧ bt b p ≤ 32 then 0 else refu 0 10)) := widthS_eq b p 0 _ _ _ hbv ht
    rw [HW.out]
    rw [ht, hbv] at CT
    obtain ⟨v, HV⟩ : ∃ v, Hid (bt b p = v) := ⟨_, rfl⟩
    have hb0 := bt_nonneg b p
    have hb1 := bt_le b p
    rw [HV.out] at CT hb0 hb1 ⊢
    clear h hp ht hbv
    by_cases g1 : 1 ≤ v
    · by_cases g2 : v ≤ 32
      · rw [if_pos ⟨g1, g2⟩]
        have g1' : ¬ v < 1 := by omega
        have g2' : ¬ 32 < v := by omega
        go_enter Try.func55, Try.ntmps55
        go_wp2_with (go_at_call 70; refine CT.out.mono ?_; rintro _ w1 ⟨rfl, r1, k1⟩; have R1 : Hid (Rd T g b (p + 1) 0 rest w1) := r1; have K1 : Hid (Kp _ _ _) := k1; have c2 := Rd.e r1; clear r1 k1)
        go_ret
        exact ⟨rfl, R1.out, K1.out⟩
      · rw [if_neg (fun h => g2 h.2)]
        have g1' : ¬ v < 1 := by omega
        have g2' : 32 < v := by omega
        go_enter Try.func55, Try.ntmps55
        go_wp2_with (first | (go_at_call 70; refine CT.out.mono ?_; rintro _ w1 ⟨rfl, r1, k1⟩; have R1 : Hid (Rd T g b (p + 1) 0 rest w1) := r1; have K1 : Hid (Kp _ _ _) := k1; have c2 := Rd.e r1; clear r1 k1) | (go_at_call 61; refine (pRefuse T g b (p + 1) 0 10 rest _ R1.out).mono ?_; rintro _ w2 ⟨rfl, r2, k2⟩; have R2 : Hid (Rd T g b (p + 1) (refu 0 10) rest w2) := r2; have K2 : Hid (Kp _ _ _) := k2; clear r2 k2))
        go_ret
        exact ⟨rfl, R2.out, K1.out.trans K2.out⟩
    · rw [if_neg (fun h => g1 h.1)]
      have g1' : v < 1 := by omega
      go_enter Try.func55, Try.ntmps55
      go_wp2_with (first | (go_at_call 70; refine CT.out.mono ?_; rintro _ w1 ⟨rfl, r1, k1⟩; have R1 : Hid (Rd T g b (p + 1) 0 rest w1) := r1; have K1 : Hid (Kp _ _ _) := k1; have c2 := Rd.e r1; clear r1 k1) | (go_at_call 61; refine (pRefuse T g b (p + 1) 0 10 rest _ R1.out).mono ?_; rintro _ w2 ⟨rfl, r2, k2⟩; have R2 : Hid (Rd T g b (p + 1) (refu 0 10) rest w2) := r2; have K2 : Hid (Kp _ _ _) := k2; clear r2 k2))
      go_ret
      exact ⟨rfl, R2.out, K1.out.trans K2.out⟩

set_option maxHeartbeats 1600000 in
theorem pNumber (T g : Nat) (b : ByteArray) (p : Nat) (e m f : Int) (rest : List Value) (w : World) (h : Rd T g b p e rest w) (hb : b.size ≤ 140737488355328) (hp : Ok b p e) (hm : 0 ≤ m) (hm' : m ≤ 4611686018427387904) :
    Calls Try.prog 39 #[.pointer (some ⟨g, 0, none⟩), .int .i64 m, .int .i64 f] w fun x w' => x = .returned (.int .i64 (mostS b m f p e).1) ∧ Rd T g b (mostS b m f p e).2.1 (mostS b m f p e).2.2 rest w' ∧ Kp (fun k => k = g) w w' := by
  have c0 := h.b
  have c1 := h.p
  have c2 := h.e
  have H : Hid (Rd T g b p e rest w) := h
  by_cases he : e = 0
  · subst he
    have CV : Hid (∀ w, Calls _ _ _ _ _) := fun w => rvar_any b p w (by omega) hp.1
    have HM : Hid (mostS b m f p 0 = if m < 0 ∨ m < (numS b p 0).1 then (0, (numS b p 0).2.1, refu (numS b p 0).2.2 f) else numS b p 0) := rfl
    have gu : IntKind.u64.wrap m = m := u64_nonneg (by omega) (by omega)
    rcases var_in b p hp.1 with ⟨hv, ⟨q, hq, hq2, _⟩, hv0, hv1⟩ | ⟨hv, _⟩
    · have HN : Hid (numS b p 0 = ((varR b p 10 0 0).1, q, 0)) := by
        show _ = _
        rw [numS_yes b p hv, hq]; rfl
      rw [HN.out] at HM
      obtain ⟨x, HX⟩ : ∃ x, Hid ((varR b p 10 0 0).1 = x) := ⟨_, rfl⟩
      rw [HX.out, hq, hv] at CV
      rw [HX.out] at HM hv0 hv1
      by_cases h1 : m < x
      · have HO : Hid (mostS b m f p 0 = (0, q, f)) := by
          show _ = _
          rw [HM.out, if_pos (.inr h1)]; rfl
        have HZ : Hid (refu 0 f = f) := rfl
        rw [HO.out]
        clear h hp hv hq HM
        go_enter Try.func39, Try.ntmps39
        go_upto_region 3 with fail
        go_quiet ((go_at_call 71; exact Calls.quiet_of_same (CV.out _)))
        obtain ⟨w1, HW⟩ : ∃ w1, w1 = w.drewN nq := ⟨_, rfl⟩
        have H1 : Hid (Rd T g b p 0 rest w1) := by rw [HW]; exact H.out.dN nq
        have K1 : Hid (Kp (fun k => k = g) w w1) := by rw [HW]; exact Kp.dN w nq
        rw [← HW]
        have f1 := frozen_of_row _ _ 1 _ _ H1.out
        clear HW c0 c1 c2
        have c1 := H1.out.p
        go_wp2_with (go_at_call 61; refine (pRefuse T g b q 0 f rest _ (H1.out.setp q)).mono ?_; rintro _ w2 ⟨rfl, r2, k2⟩; rw [HZ.out] at r2; have R2 : Hid (Rd T g b q f rest w2) := r2; have K2 : Hid (Kp _ _ _) := k2; clear r2 k2)
        go_ret
        exact ⟨rfl, R2.out, (K1.out.trans (Kp.setCell _ _ _ _ rfl)).trans K2.out⟩
      · have HO : Hid (mostS b m f p 0 = (x, q, 0)) := by
          show _ = _
          have h2 : ¬ (m < 0 ∨ m < x) := by omega
          rw [HM.out, if_neg h2]
        rw [HO.out]
        clear h hp hv hq HM
        go_enter Try.func39, Try.ntmps39
        go_upto_region 3 with fail
        go_quiet ((go_at_call 71; exact Calls.quiet_of_same (CV.out _)))
        obtain ⟨w1, HW⟩ : ∃ w1, w1 = w.drewN nq := ⟨_, rfl⟩
        have H1 : Hid (Rd T g b p 0 rest w1) := by rw [HW]; exact H.out.dN nq
        have K1 : Hid (Kp (fun k => k = g) w w1) := by rw [HW]; exact Kp.dN w nq
        rw [← HW]
        have f1 := frozen_of_row _ _ 1 _ _ H1.out
        clear HW c0 c1 c2
        have c1 := H1.out.p
        go_wp2
        go_ret
        exact ⟨rfl, H1.out.setp q, K1.out.trans (Kp.setCell _ _ _ _ rfl)⟩
    · have HO : Hid (mostS b m f p 0 = (0, p, (varR b p 10 0 0).2.2)) := by
        show _ = _
        have h2 : ¬ (m < 0 ∨ m < (0 : Int)) := by omega
        rw [HM.out, numS_bad b p hv, if_neg h2]
      rw [HO.out]
      obtain ⟨x, y, z, HX⟩ : ∃ x y z, Hid (varR b p 10 0 0 = (x, y, z)) := ⟨_, _, _, rfl⟩
      rw [HX.out] at CV hv ⊢
      have hv' : (z != 0) = true := by rw [bne_iff_ne]; exact hv
      have HZ : Hid (refu 0 z = z) := refu_zero z
      clear h hp hv HM
      go_enter Try.func39, Try.ntmps39
      go_upto_region 3 with fail
      go_quiet ((go_at_call 71; exact Calls.quiet_of_same (CV.out _)))
      obtain ⟨w1, HW⟩ : ∃ w1, w1 = w.drewN nq := ⟨_, rfl⟩
      have H1 : Hid (Rd T g b p 0 rest w1) := by rw [HW]; exact H.out.dN nq
      have K1 : Hid (Kp (fun k => k = g) w w1) := by rw [HW]; exact Kp.dN w nq
      rw [← HW]
      clear HW c0 c1 c2
      go_wp2_with (go_at_call 61; refine (pRefuse T g b p 0 z rest _ H1.out).mono ?_; rintro _ w2 ⟨rfl, r2, k2⟩; have R2 : Hid (Rd T g b p (refu 0 z) rest w2) := r2; have K2 : Hid (Kp _ _ _) := k2; clear r2 k2)
      go_ret
      exact ⟨rfl, R2.out, K1.out.trans K2.out⟩
  · have he' : (e != 0) = true := by rw [bne_iff_ne]; exact he
    rw [mostS_not b m f p e he]
    clear h he hp
    go_enter Try.func39, Try.ntmps39
    go_wp2
    go_ret
    exact ⟨rfl, H.out, Kp.refl _ _⟩
end Go.Proofs.Ytkgadgkomdjplaa.fb
