import Derived.Test.YthpfgdhmpeadeaaDoorG3
namespace Go.Proofs.YthpfgdhmpeadeaaDoor.fa
open Go.RowKit Go.PlainAid
open Go.Proofs.YthpfgdhmpeadeaaDoor.ca Go.Proofs.YthpfgdhmpeadeaaDoor.cb Go.Proofs.YthpfgdhmpeadeaaDoor.cp Go.Proofs.YthpfgdhmpeadeaaDoor.ga Go.Proofs.YthpfgdhmpeadeaaDoor.kp Go.Proofs.YthpfgdhmpeadeaaDoor.na Go.Proofs.YthpfgdhmpeadeaaDoor.nb Go.Proofs.YthpfgdhmpeadeaaDoor.nc Go.Proofs.YthpfgdhmpeadeaaDoor.nf Go.Proofs.YthpfgdhmpeadeaaDoor.ng Go.Proofs.YthpfgdhmpeadeaaDoor.ea Go.Proofs.YthpfgdhmpeadeaaDoor.eb Go.Proofs.YthpfgdhmpeadeaaDoor.ec Go.Proofs.YthpfgdhmpeadeaaDoor.ed Go.Proofs.YthpfgdhmpeadeaaDoor.ee Go.Proofs.YthpfgdhmpeadeaaDoor.ka Go.Proofs.YthpfgdhmpeadeaaDoor.bn
set_option linter.unusedVariables false

-- one byte, in cases
theorem ext1_size (b : ByteArray) (p : Nat) (h : p < b.size) : (b.extract p (p + 1)).size = 1 := by rw [ByteArray.size_extract]; omega
theorem ext1_bt (b : ByteArray) (p : Nat) (h : p < b.size) : bt (b.extract p (p + 1)) 0 = bt b p := by
  rw [bt_extract b p (p + 1) 0 (by omega) (by omega), Nat.add_zero]
theorem byteS_not (b : ByteArray) (p : Nat) (e : Int) (h : e ≠ 0) : byteS b p e = 0 := by unfold byteS; rw [takeS_not b 1 p e h]; rfl
theorem byteS_short (b : ByteArray) (p : Nat) (h : b.size ≤ p) : byteS b p 0 = 0 := by unfold byteS; rw [takeS_short b 1 p (by omega)]; rfl
theorem byteS_yes (b : ByteArray) (p : Nat) (h : p < b.size) : byteS b p 0 = bt b p := by
  unfold byteS
  rw [takeS_yes b 1 p (by omega)]
  show (if (b.extract p (p + 1)).size = 1 then bt (b.extract p (p + 1)) 0 else 0) = _
  rw [if_pos (ext1_size b p h), ext1_bt b p h]
theorem one_eq (x : ByteArray) (c : Int) (hx : x.size = 1) (h0 : 0 ≤ c) (h1 : c ≤ 255) : x = str [c] ↔ bt x 0 = c := by
  have hs : bt (str [c]) 0 = c := by rw [str_bt [c] 0 (by simp) h0 h1]; rfl
  constructor
  · rintro rfl; exact hs
  · intro h
    apply ext_bt
    · rw [hx, str_size]; rfl
    · intro k hk
      have : k = 0 := by omega
      subst this
      rw [hs, h]
theorem str1_ne (c : Int) : ¬ (ByteArray.empty = str [c]) := fun h => by
  have h2 : (str [c]).size = 1 := str_size [c]
  rw [← h] at h2
  exact absurd h2 (by decide)
theorem markS_not (b : ByteArray) (c : Int) (p : Nat) (e : Int) (h : e ≠ 0) : markS b c p e = (p, e) := by
  unfold markS; rw [takeS_not b 1 p e h]
  show (p, if ByteArray.empty = str [c] then e else refu e 110) = _
  rw [if_neg (str1_ne c), refu_not e 110 h]
theorem markS_short (b : ByteArray) (c : Int) (p : Nat) (h : b.size ≤ p) : markS b c p 0 = (p, 12) := by
  unfold markS; rw [takeS_short b 1 p (by omega)]
  show (p, if ByteArray.empty = str [c] then 12 else refu 12 110) = _
  rw [if_neg (str1_ne c)]; rfl
theorem markS_yes (b : ByteArray) (c : Int) (p : Nat) (h : p < b.size) (h0 : 0 ≤ c) (h1 : c ≤ 255) (hc : bt b p = c) : markS b c p 0 = (p + 1, 0) := by
  unfold markS; rw [takeS_yes b 1 p (by omega)]
  show (p + 1, if b.extract p (p + 1) = str [c] then (0 : Int) else refu 0 110) = _
  rw [if_pos ((one_eq _ c (ext1_size b p h) h0 h1).2 ((ext1_bt b p h).trans hc))]
theorem markS_bad (b : ByteArray) (c : Int) (p : Nat) (h : p < b.size) (h0 : 0 ≤ c) (h1 : c ≤ 255) (hc : bt b p ≠ c) : markS b c p 0 = (p + 1, 110) := by
  unfold markS; rw [takeS_yes b 1 p (by omega)]
  show (p + 1, if b.extract p (p + 1) = str [c] then (0 : Int) else refu 0 110) = _
  rw [if_neg (fun e => hc ((ext1_bt b p h).symm.trans ((one_eq _ c (ext1_size b p h) h0 h1).1 e)))]; rfl
theorem take1_not (b : ByteArray) (p : Nat) (e : Int) (h : e ≠ 0) : (takeS b 1 p e).2 = (p, e) := by rw [takeS_not b 1 p e h]
theorem take1_short (b : ByteArray) (p : Nat) (h : b.size ≤ p) : (takeS b 1 p 0).2 = (p, 12) := by rw [takeS_short b 1 p (by omega)]
theorem take1_yes (b : ByteArray) (p : Nat) (h : p < b.size) : (takeS b 1 p 0).2 = (p + 1, 0) := by rw [takeS_yes b 1 p (by omega)]
theorem widthS_eq (b : ByteArray) (p : Nat) (e : Int) (v : Int) (q : Nat) (z : Int) (h1 : byteS b p e = v) (h2 : (takeS b 1 p e).2 = (q, z)) : widthS b p e = (v, q, if 1 ≤ v ∧ v ≤ 32 then z else refu z 10) := by
  unfold widthS; rw [h1, h2]

theorem pRefuse (T g : Nat) (b : ByteArray) (p : Nat) (e f : Int) (rest : List Value) (w : World) (h : Rd T g b p e rest w) :
    Calls Tryd.prog 44 #[.pointer (some ⟨g, 0, none⟩), .int .i64 f] w fun x w' => x = .returned (.tuple #[]) ∧ Rd T g b p (refu e f) rest w' ∧ Kp (fun k => k = g) w w' := by
  have c2 := h.e
  have f2 := frozen_of_row _ _ 2 _ _ h
  by_cases he : e = 0
  · subst he
    have HR : Hid (Rd T g b p f rest (w.setCell ⟨g, 2, none⟩ (.int .i64 f))) := h.sete f
    have HK : Hid (Kp (fun k => k = g) w (w.setCell ⟨g, 2, none⟩ (.int .i64 f))) := Kp.setCell _ _ _ _ rfl
    clear h
    go_enter Tryd.func44, Tryd.ntmps44
    go_wp2
    go_end0
    exact ⟨rfl, HR.out, HK.out⟩
  · have he' : (e == 0) = false := by rw [beq_eq_false_iff_ne]; exact he
    have HE : Hid (refu e f = e) := refu_not e f he
    have H : Hid (Rd T g b p e rest w) := h
    clear h he
    go_enter Tryd.func44, Tryd.ntmps44
    go_wp2
    go_end0
    exact ⟨rfl, by rw [HE.out]; exact H.out, Kp.refl _ _⟩

set_option maxHeartbeats 1600000 in
theorem pTake (T g : Nat) (b : ByteArray) (p : Nat) (e : Int) (rest : List Value) (w : World) (h : Rd T g b p e rest w) (hb : b.size ≤ 140737488355328) (hp : Ok b p e) :
    Calls Tryd.prog 68 #[.pointer (some ⟨g, 0, none⟩)] w fun x w' => x = .returned (.int .i64 (byteS b p e)) ∧ Rd T g b (takeS b 1 p e).2.1 (takeS b 1 p e).2.2 rest w' ∧ Kp (fun k => k = g) w w' := by
  have c0 := h.b
  have c1 := h.p
  have c2 := h.e
  have hp1 : p ≤ b.size := hp.1
  have H : Hid (Rd T g b p e rest w) := h
  by_cases he : e = 0
  · subst he
    by_cases hs : b.size ≤ p
    · rw [byteS_short b p hs, take1_short b p hs]
      have hs' : (b.size : Int) ≤ p := by omega
      have HZ : Hid (refu 0 12 = 12) := rfl
      clear h hp
      go_enter Tryd.func68, Tryd.ntmps68
      go_upto_region 3 with fail
      go_quiet (fail)
      obtain ⟨w1, HW⟩ : ∃ w1, w1 = w.drewN nq := ⟨_, rfl⟩
      have H1 : Hid (Rd T g b p 0 rest w1) := by rw [HW]; exact H.out.dN nq
      have K1 : Hid (Kp (fun k => k = g) w w1) := by rw [HW]; exact Kp.dN w nq
      rw [← HW]
      clear HW c0 c1 c2
      go_wp2_with (go_at_call 44; refine (pRefuse T g b p 0 12 rest _ H1.out).mono ?_; rintro _ w2 ⟨rfl, r2, k2⟩; rw [HZ.out] at r2; have R2 : Hid (Rd T g b p 12 rest w2) := r2; have K2 : Hid (Kp _ _ _) := k2; clear r2 k2)
      go_ret
      exact ⟨rfl, R2.out, K1.out.trans K2.out⟩
    · have hlt : p < b.size := by omega
      rw [byteS_yes b p hlt, take1_yes b p hlt]
      have hs' : ¬ (b.size : Int) ≤ p := by omega
      have hgb := get_bt b p hlt
      have HB : Hid (wrap64 ((b[p]'hlt).toNat : Int) = bt b p) := by
        show _ = _
        rw [hgb]
        have := bt_nonneg b p
        have := bt_le b p
        unfold wrap64; omega
      clear hgb
      have e1 : ((p + 1 : Nat) : Int) = (p : Int) + 1 := by omega
      have e2 : ((p : Int) + 1 - 1) = p := by omega
      clear h hp
      go_enter Tryd.func68, Tryd.ntmps68
      go_upto_region 3 with fail
      go_quiet (fail)
      obtain ⟨w1, HW⟩ : ∃ w1, w1 = w.drewN nq := ⟨_, rfl⟩
      have H1 : Hid (Rd T g b p 0 rest w1) := by rw [HW]; exact H.out.dN nq
      have K1 : Hid (Kp (fun k => k = g) w w1) := by rw [HW]; exact Kp.dN w nq
      rw [← HW]
      clear HW c0 c1 c2
      have c1 := H1.out.p
      have f1 := frozen_of_row _ _ 1 _ _ H1.out
      have H2 : Hid (Rd T g b (p + 1) 0 rest (w1.setCell ⟨g, 1, none⟩ (.int .i64 ((p : Int) + 1)))) := by have := H1.out.setp (p + 1); rw [e1] at this; exact this
      have K2 : Hid (Kp (fun k => k = g) w (w1.setCell ⟨g, 1, none⟩ (.int .i64 ((p : Int) + 1)))) := K1.out.trans (Kp.setCell _ _ _ _ rfl)
      go_upto_region 7 with fail
      obtain ⟨w2, HW⟩ : ∃ w2, w2 = w1.setCell ⟨g, 1, none⟩ (.int .i64 ((p : Int) + 1)) := ⟨_, rfl⟩
      rw [← HW] at H2 K2 ⊢
      clear HW c1 f1 H1 K1
      have d0 := H2.out.b
      have d1 := H2.out.p
      rw [e1] at d1
      have hlt' : (p : Int) < b.size := by omega
      go_quiet (fail)
      go_wp2
      go_ret
      exact ⟨ret_v (congrArg (Value.int .i64) HB.out), H2.out.dN _, K2.out.trans (Kp.dN _ _)⟩
  · have he' : (e != 0) = true := by rw [bne_iff_ne]; exact he
    rw [byteS_not b p e he, take1_not b p e he]
    clear h he hp
    go_enter Tryd.func68, Tryd.ntmps68
    go_wp2
    go_ret
    exact ⟨rfl, H.out, Kp.refl _ _⟩
end Go.Proofs.YthpfgdhmpeadeaaDoor.fa

namespace Go.Proofs.YthpfgdhmpeadeaaDoor.fb
open Go.RowKit Go.PlainAid
open Go.Proofs.YthpfgdhmpeadeaaDoor.ca Go.Proofs.YthpfgdhmpeadeaaDoor.cb Go.Proofs.YthpfgdhmpeadeaaDoor.cp Go.Proofs.YthpfgdhmpeadeaaDoor.ga Go.Proofs.YthpfgdhmpeadeaaDoor.kp Go.Proofs.YthpfgdhmpeadeaaDoor.na Go.Proofs.YthpfgdhmpeadeaaDoor.nb Go.Proofs.YthpfgdhmpeadeaaDoor.nc Go.Proofs.YthpfgdhmpeadeaaDoor.nf Go.Proofs.YthpfgdhmpeadeaaDoor.ng Go.Proofs.YthpfgdhmpeadeaaDoor.ea Go.Proofs.YthpfgdhmpeadeaaDoor.eb Go.Proofs.YthpfgdhmpeadeaaDoor.ec Go.Proofs.YthpfgdhmpeadeaaDoor.ed Go.Proofs.YthpfgdhmpeadeaaDoor.ee Go.Proofs.YthpfgdhmpeadeaaDoor.ka Go.Proofs.YthpfgdhmpeadeaaDoor.bn Go.Proofs.YthpfgdhmpeadeaaDoor.fa
set_option linter.unusedVariables false

-- what is behind a byte, in cases
theorem byte_cases (b : ByteArray) (p : Nat) (e : Int) (hp : p ≤ b.size) :
    (∃ z, z ≠ 0 ∧ (takeS b 1 p e).2 = (p, z) ∧ byteS b p e = 0 ∧ ∀ c, markS b c p e = (p, z)) ∨
    (e = 0 ∧ p < b.size ∧ (takeS b 1 p e).2 = (p + 1, 0) ∧ byteS b p e = bt b p) := by
  by_cases he : e = 0
  · subst he
    by_cases hs : b.size ≤ p
    · exact .inl ⟨12, by decide, take1_short b p hs, byteS_short b p hs, fun c => markS_short b c p hs⟩
    · exact .inr ⟨rfl, by omega, take1_yes b p (by omega), byteS_yes b p (by omega)⟩
  · exact .inl ⟨e, he, take1_not b p e he, byteS_not b p e he, fun c => markS_not b c p e he⟩

set_option maxHeartbeats 1600000 in
theorem pLetter (T g : Nat) (b : ByteArray) (p : Nat) (e c : Int) (rest : List Value) (w : World) (h : Rd T g b p e rest w) (hb : b.size ≤ 140737488355328) (hp : Ok b p e) (h0 : 0 ≤ c) (h1 : c ≤ 255) :
    Calls Tryd.prog 41 #[.pointer (some ⟨g, 0, none⟩), .int .u8 c] w fun x w' => x = .returned (.tuple #[]) ∧ Rd T g b (markS b c p e).1 (markS b c p e).2 rest w' ∧ Kp (fun k => k = g) w w' := by
  have CT : Hid (Calls _ _ _ _ _) := pTake T g b p e rest w h hb hp
  rcases byte_cases b p e hp.1 with ⟨z, hz, ht, hbv, hm⟩ | ⟨rfl, hlt, ht, hbv⟩
  · rw [hm c]
    rw [ht, hbv] at CT
    have hz' : (z == 0) = false := by rw [beq_eq_false_iff_ne]; exact hz
    clear h hp hm hz ht hbv
    go_enter Tryd.func41, Tryd.ntmps41
    go_wp2_with (go_at_call 68; refine CT.out.mono ?_; rintro _ w1 ⟨rfl, r1, k1⟩; have R1 : Hid (Rd T g b p z rest w1) := r1; have K1 : Hid (Kp _ _ _) := k1; have c2 := Rd.e r1; clear r1 k1)
    go_end0
    exact ⟨rfl, R1.out, K1.out⟩
  · rw [ht, hbv] at CT
    have hb0 := bt_nonneg b p
    have hb1 := bt_le b p
    by_cases hc : bt b p = c
    · rw [markS_yes b c p hlt h0 h1 hc]
      have HC : Hid (bt b p = c) := hc
      rw [hc] at CT
      have gc : (c != c) = false := by simp
      clear h hp ht hbv hc
      go_enter Tryd.func41, Tryd.ntmps41
      go_wp2_with (go_at_call 68; refine CT.out.mono ?_; rintro _ w1 ⟨rfl, r1, k1⟩; have R1 : Hid (Rd T g b (p + 1) 0 rest w1) := r1; have K1 : Hid (Kp _ _ _) := k1; have c2 := Rd.e r1; clear r1 k1)
      go_end0
      exact ⟨rfl, R1.out, K1.out⟩
    · rw [markS_bad b c p hlt h0 h1 hc]
      obtain ⟨v, HV⟩ : ∃ v, Hid (bt b p = v) := ⟨_, rfl⟩
      rw [HV.out] at CT hc hb0 hb1
      have gc : (v != c) = true := by rw [bne_iff_ne]; exact hc
      have HZ : Hid (refu 0 110 = 110) := rfl
      clear h hp ht hbv hc
      go_enter Tryd.func41, Tryd.ntmps41
      go_wp2_with (first | (go_at_call 68; refine CT.out.mono ?_; rintro _ w1 ⟨rfl, r1, k1⟩; have R1 : Hid (Rd T g b (p + 1) 0 rest w1) := r1; have K1 : Hid (Kp _ _ _) := k1; have c2 := Rd.e r1; clear r1 k1) | (go_at_call 44; refine (pRefuse T g b (p + 1) 0 110 rest _ R1.out).mono ?_; rintro _ w2 ⟨rfl, r2, k2⟩; rw [HZ.out] at r2; have R2 : Hid (Rd T g b (p + 1) 110 rest w2) := r2; have K2 : Hid (Kp _ _ _) := k2; clear r2 k2))
      go_end0
      exact ⟨rfl, R2.out, K1.out.trans K2.out⟩

set_option maxHeartbeats 1600000 in
theorem pWidth (T g : Nat) (b : ByteArray) (p : Nat) (e : Int) (rest : List Value) (w : World) (h : Rd T g b p e rest w) (hb : b.size ≤ 140737488355328) (hp : Ok b p e) :
    Calls Tryd.prog 42 #[.pointer (some ⟨g, 0, none⟩)] w fun x w' => x = .returned (.int .i64 (widthS b p e).1) ∧ Rd T g b (widthS b p e).2.1 (widthS b p e).2.2 rest w' ∧ Kp (fun k => k = g) w w' := by
  have CT : Hid (Calls _ _ _ _ _) := pTake T g b p e rest w h hb hp
  rcases byte_cases b p e hp.1 with ⟨z, hz, ht, hbv, hm⟩ | ⟨rfl, hlt, ht, hbv⟩
  · have HW : Hid (widthS b p e = (0, p, z)) := by
      show _ = _
      rw [widthS_eq b p e 0 p z hbv ht, if_neg (by decide), refu_not z 10 hz]
    rw [HW.out]
    rw [ht, hbv] at CT
    have hz' : (z == 0) = false := by rw [beq_eq_false_iff_ne]; exact hz
    clear h hp hm hz ht hbv
    go_enter Tryd.func42, Tryd.ntmps42
    go_wp2_with (go_at_call 68; refine CT.out.mono ?_; rintro _ w1 ⟨rfl, r1, k1⟩; have R1 : Hid (Rd T g b p z rest w1) := r1; have K1 : Hid (Kp _ _ _) := k1; have c2 := Rd.e r1; clear r1 k1)
    go_ret
    exact ⟨rfl, R1.out, K1.out⟩
  · have HW : Hid (widthS b p 0 = (bt b p, p + 1, if 1 ≤ bt b p ∧ bt b p ≤ 32 then 0 else refu 0 10)) := widthS_eq b p 0 _ _ _ hbv ht
    rw [HW.out]
    rw [ht, hbv] at CT
    obtain ⟨v, HV⟩ : ∃ v, Hid (bt b p = v) := ⟨_, rfl⟩
    have hb0 := bt_nonneg b p
    have hb1 := bt_le b p
    rw [HV.out] at CT hb0 hb1 ⊢
    clear h hp ht hbv
    by_cases g1 : 1 ≤ v
    · by_cases g2 : v ≤ 32
      · rw [if_pos ⟨g1, g2⟩]
        have g1' : ¬ v < 1 := by omega
        have g2' : ¬ 32 < v := by omega
        go_enter Tryd.func42, Tryd.ntmps42
        go_wp2_with (go_at_call 68; refine CT.out.mono ?_; rintro _ w1 ⟨rfl, r1, k1⟩; have R1 : Hid (Rd T g b (p + 1) 0 rest w1) := r1; have K1 : Hid (Kp _ _ _) := k1; have c2 := Rd.e r1; clear r1 k1)
        go_ret
        exact ⟨rfl, R1.out, K1.out⟩
      · rw [if_neg (fun h => g2 h.2)]
        have g1' : ¬ v < 1 := by omega
        have g2' : 32 < v := by omega
        go_enter Tryd.func42, Tryd.ntmps42
        go_wp2_with (first | (go_at_call 68; refine CT.out.mono ?_; rintro _ w1 ⟨rfl, r1, k1⟩; have R1 : Hid (Rd T g b (p + 1) 0 rest w1) := r1; have K1 : Hid (Kp _ _ _) := k1; have c2 := Rd.e r1; clear r1 k1) | (go_at_call 44; refine (pRefuse T g b (p + 1) 0 10 rest _ R1.out).mono ?_; rintro _ w2 ⟨rfl, r2, k2⟩; have R2 : Hid (Rd T g b (p + 1) (refu 0 10) rest w2) := r2; have K2 : Hid (Kp _ _ _) := k2; clear r2 k2))
        go_ret
        exact ⟨rfl, R2.out, K1.out.trans K2.out⟩
    · rw [if_neg (fun h => g1 h.1)]
      have g1' : v < 1 := by omega
      go_enter Tryd.func42, Tryd.ntmps42
      go_wp2_with (first | (go_at_call 68; refine CT.out.mono ?_; rintro _ w1 ⟨rfl, r1, k1⟩; have R1 : Hid (Rd T g b (p + 1) 0 rest w1) := r1; have K1 : Hid (Kp _ _ _) := k1; have c2 := Rd.e r1; clear r1 k1) | (go_at_call 44; refine (pRefuse T g b (p + 1) 0 10 rest _ R1.out).mono ?_; rintro _ w2 ⟨rfl, r2, k2⟩; have R2 : Hid (Rd T g b (p + 1) (refu 0 10) rest w2) := r2; have K2 : Hid (Kp _ _ _) := k2; clear r2 k2))
      go_ret
      exact ⟨rfl, R2.out, K1.out.trans K2.out⟩

set_option maxHeartbeats 1600000 in
theorem pNumber (T g : Nat) (b : ByteArray) (p : Nat) (e m f : Int) (rest : List Value) (w : World) (h : Rd T g b p e rest w) (hb : b.size ≤ 140737488355328) (hp : Ok b p e) (hm : 0 ≤ m) (hm' : m ≤ 4611686018427387904) :
    Calls Tryd.prog 43 #[.pointer (some ⟨g, 0, none⟩), .int .i64 m, .int .i64 f] w fun x w' => x = .returned (.int .i64 (mostS b m f p e).1) ∧ Rd T g b (mostS b m f p e).2.1 (mostS b m f p e).2.2 rest w' ∧ Kp (fun k => k = g) w w' := by
  have c0 := h.b
  have c1 := h.p
  have c2 := h.e
  have H : Hid (Rd T g b p e rest w) := h
  by_cases he : e = 0
  · subst he
    have CV : Hid (∀ w, Calls _ _ _ _ _) := fun w => rvar_any b p w (by omega) hp.1
    have HM : Hid (mostS b m f p 0 = if m < 0 ∨ m < (numS b p 0).1 then (0, (numS b p 0).2.1, refu (numS b p 0).2.2 f) else numS b p 0) := rfl
    have gu : IntKind.u64.wrap m = m := u64_nonneg (by omega) (by omega)
    rcases var_in b p hp.1 with ⟨hv, ⟨q, hq, hq2, _⟩, hv0, hv1⟩ | ⟨hv, _⟩
    · have HN : Hid (numS b p 0 = ((varR b p 10 0 0).1, q, 0)) := by
        show _ = _
        rw [numS_yes b p hv, hq]; rfl
      rw [HN.out] at HM
      obtain ⟨x, HX⟩ : ∃ x, Hid ((varR b p 10 0 0).1 = x) := ⟨_, rfl⟩
      rw [HX.out, hq, hv] at CV
      rw [HX.out] at HM hv0 hv1
      by_cases h1 : m < x
      · have HO : Hid (mostS b m f p 0 = (0, q, f)) := by
          show _ = _
          rw [HM.out, if_pos (.inr h1)]; rfl
        have HZ : Hid (refu 0 f = f) := rfl
        rw [HO.out]
        clear h hp hv hq HM
        go_enter Tryd.func43, Tryd.ntmps43
        go_upto_region 3 with fail
        go_quiet ((go_at_call 69; exact Calls.quiet_of_same (CV.out _)))
        obtain ⟨w1, HW⟩ : ∃ w1, w1 = w.drewN nq := ⟨_, rfl⟩
        have H1 : Hid (Rd T g b p 0 rest w1) := by rw [HW]; exact H.out.dN nq
        have K1 : Hid (Kp (fun k => k = g) w w1) := by rw [HW]; exact Kp.dN w nq
        rw [← HW]
        have f1 := frozen_of_row _ _ 1 _ _ H1.out
        clear HW c0 c1 c2
        have c1 := H1.out.p
        go_wp2_with (go_at_call 44; refine (pRefuse T g b q 0 f rest _ (H1.out.setp q)).mono ?_; rintro _ w2 ⟨rfl, r2, k2⟩; rw [HZ.out] at r2; have R2 : Hid (Rd T g b q f rest w2) := r2; have K2 : Hid (Kp _ _ _) := k2; clear r2 k2)
        go_ret
        exact ⟨rfl, R2.out, (K1.out.trans (Kp.setCell _ _ _ _ rfl)).trans K2.out⟩
      · have HO : Hid (mostS b m f p 0 = (x, q, 0)) := by
          show _ = _
          have h2 : ¬ (m < 0 ∨ m < x) := by omega
          rw [HM.out, if_neg h2]
        rw [HO.out]
        clear h hp hv hq HM
        go_enter Tryd.func43, Tryd.ntmps43
        go_upto_region 3 with fail
        go_quiet ((go_at_call 69; exact Calls.quiet_of_same (CV.out _)))
        obtain ⟨w1, HW⟩ : ∃ w1, w1 = w.drewN nq := ⟨_, rfl⟩
        have H1 : Hid (Rd T g b p 0 rest w1) := by rw [HW]; exact H.out.dN nq
        have K1 : Hid (Kp (fun k => k = g) w w1) := by rw [HW]; exact Kp.dN w nq
        rw [← HW]
        have f1 := frozen_of_row _ _ 1 _ _ H1.out
        clear HW c0 c1 c2
        have c1 := H1.out.p
        go_wp2
        go_ret
        exact ⟨rfl, H1.out.setp q, K1.out.trans (Kp.setCell _ _ _ _ rfl)⟩
    · have HO : Hid (mostS b m f p 0 = (0, p, (varR b p 10 0 0).2.2)) := by
        show _ = _
        have h2 : ¬ (m < 0 ∨ m < (0 : Int)) := by omega
        rw [HM.out, numS_bad b p hv, if_neg h2]
      rw [HO.out]
      obtain ⟨x, y, z, HX⟩ : ∃ x y z, Hid (varR b p 10 0 0 = (x, y, z)) := ⟨_, _, _, rfl⟩
      rw [HX.out] at CV hv ⊢
      have hv' : (z != 0) = true := by rw [bne_iff_ne]; exact hv
      have HZ : Hid (refu 0 z = z) := refu_zero z
      clear h hp hv HM
      go_enter Tryd.func43, Tryd.ntmps43
      go_upto_region 3 with fail
      go_quiet ((go_at_call 69; exact Calls.quiet_of_same (CV.out _)))
      obtain ⟨w1, HW⟩ : ∃ w1, w1 = w.drewN nq := ⟨_, rfl⟩
      have H1 : Hid (Rd T g b p 0 rest w1) := by rw [HW]; exact H.out.dN nq
      have K1 : Hid (Kp (fun k => k = g) w w1) := by rw [HW]; exact Kp.dN w nq
      rw [← HW]
      clear HW c0 c1 c2
      go_wp2_with (go_at_call 44; refine (pRefuse T g b p 0 z rest _ H1.out).mono ?_; rintro _ w2 ⟨rfl, r2, k2⟩; have R2 : Hid (Rd T g b p (refu 0 z) rest w2) := r2; have K2 : Hid (Kp _ _ _) := k2; clear r2 k2)
      go_ret
      exact ⟨rfl, R2.out, K1.out.trans K2.out⟩
  · have he' : (e != 0) = true := by rw [bne_iff_ne]; exact he
    rw [mostS_not b m f p e he]
    clear h he hp
    go_enter Tryd.func43, Tryd.ntmps43
    go_wp2
    go_ret
    exact ⟨rfl, H.out, Kp.refl _ _⟩
end Go.Proofs.YthpfgdhmpeadeaaDoor.fb

namespace Go.Proofs.YthpfgdhmpeadeaaDoor.fc
open Go.RowKit Go.PlainAid
open Go.Proofs.YthpfgdhmpeadeaaDoor.ca Go.Proofs.YthpfgdhmpeadeaaDoor.cb Go.Proofs.YthpfgdhmpeadeaaDoor.cp Go.Proofs.YthpfgdhmpeadeaaDoor.ga Go.Proofs.YthpfgdhmpeadeaaDoor.kp Go.Proofs.YthpfgdhmpeadeaaDoor.na Go.Proofs.YthpfgdhmpeadeaaDoor.nb Go.Proofs.YthpfgdhmpeadeaaDoor.nc Go.Proofs.YthpfgdhmpeadeaaDoor.nf Go.Proofs.YthpfgdhmpeadeaaDoor.ng Go.Proofs.YthpfgdhmpeadeaaDoor.ea Go.Proofs.YthpfgdhmpeadeaaDoor.eb Go.Proofs.YthpfgdhmpeadeaaDoor.ec Go.Proofs.YthpfgdhmpeadeaaDoor.ed Go.Proofs.YthpfgdhmpeadeaaDoor.ee Go.Proofs.YthpfgdhmpeadeaaDoor.ka Go.Proofs.YthpfgdhmpeadeaaDoor.bn Go.Proofs.YthpfgdhmpeadeaaDoor.fa Go.Proofs.YthpfgdhmpeadeaaDoor.fb
set_option linter.unusedVariables false

set_option maxHeartbeats 1600000 in
theorem pBytes (T g : Nat) (b : ByteArray) (p : Nat) (e : Int) (rest : List Value) (c : Nat) (w : World) (h : Rd T g b p e rest w) (hb : b.size ≤ 140737488355328) (hp : Ok b p e) (hc : c ≤ 140737488355328) :
    Calls Tryd.prog 70 #[.pointer (some ⟨g, 0, none⟩), .int .i64 c] w fun x w' => x = .returned (.string (takeS b c p e).1) ∧ Rd T g b (takeS b c p e).2.1 (takeS b c p e).2.2 rest w' ∧ Kp (fun k => k = g) w w' := by
  have c0 := h.b
  have c1 := h.p
  have c2 := h.e
  have hp1 : p ≤ b.size := hp.1
  have H : Hid (Rd T g b p e rest w) := h
  by_cases he : e = 0
  · subst he
    have g0 : ((0 : Int) == 0) = true := rfl
    by_cases hs : b.size < p + c
    · have hs' : (b.size : Int) - p < c := by omega
      rw [takeS_short b c p hs]
      have HZ : Hid (refu 0 12 = 12) := rfl
      clear h hp
      go_enter Tryd.func70, Tryd.ntmps70
      go_upto_region 1 with fail
      go_quiet (fail)
      obtain ⟨w1, HW⟩ : ∃ w1, w1 = w.drewN nq := ⟨_, rfl⟩
      have H1 : Hid (Rd T g b p 0 rest w1) := by rw [HW]; exact H.out.dN nq
      have K1 : Hid (Kp (fun k => k = g) w w1) := by rw [HW]; exact Kp.dN w nq
      rw [← HW]
      clear HW c0 c1 c2
      go_wp2_with (go_at_call 44; refine (pRefuse T g b p 0 12 rest _ H1.out).mono ?_; rintro _ w2 ⟨rfl, r2, k2⟩; rw [HZ.out] at r2; have R2 : Hid (Rd T g b p 12 rest w2) := r2; have K2 : Hid (Kp _ _ _) := k2; have c2 := Rd.e r2; clear r2 k2)
      go_ret
      exact ⟨rfl, R2.out, K1.out.trans K2.out⟩
    · have hs' : ¬ (b.size : Int) - p < c := by omega
      rw [takeS_yes b c p (by omega)]
      clear h hp
      go_enter Tryd.func70, Tryd.ntmps70
      go_upto_region 1 with fail
      go_quiet (fail)
      obtain ⟨w1, HW⟩ : ∃ w1, w1 = w.drewN nq := ⟨_, rfl⟩
      have H1 : Hid (Rd T g b p 0 rest w1) := by rw [HW]; exact H.out.dN nq
      have K1 : Hid (Kp (fun k => k = g) w w1) := by rw [HW]; exact Kp.dN w nq
      rw [← HW]
      clear HW c0 c1 c2
      have c1 := H1.out.p
      have c2 := H1.out.e
      have f1 := frozen_of_row _ _ 1 _ _ H1.out
      have e1 : ((p + c : Nat) : Int) = (p : Int) + c := by omega
      have e2 : (p : Int) + c - c = p := by omega
      have H2 : Hid (Rd T g b (p + c) 0 rest (w1.setCell ⟨g, 1, none⟩ (.int .i64 ((p : Int) + c)))) := by have := H1.out.setp (p + c); rw [e1] at this; exact this
      have K2 : Hid (Kp (fun k => k = g) w (w1.setCell ⟨g, 1, none⟩ (.int .i64 ((p : Int) + c)))) := K1.out.trans (Kp.setCell _ _ _ _ rfl)
      go_upto_region 6 with fail
      obtain ⟨w2, HW⟩ : ∃ w2, w2 = w1.setCell ⟨g, 1, none⟩ (.int .i64 ((p : Int) + c)) := ⟨_, rfl⟩
      rw [← HW] at H2 K2 ⊢
      clear HW c1 c2 f1 H1 K1
      have d0 := H2.out.b
      have d1 := H2.out.p
      rw [e1] at d1
      have hb1 : (0 : Int) ≤ (p : Int) + c ∧ (p : Int) + c ≤ b.size := by omega
      have hb2 : (p : Int) ≤ (p : Int) + c := by omega
      go_quiet (fail)
      go_wp2
      go_ret
      exact ⟨rfl, H2.out.dN _, K2.out.trans (Kp.dN _ _)⟩
  · have he1 : (e == 0) = false := by rw [beq_eq_false_iff_ne]; exact he
    have he' : (e != 0) = true := by rw [bne_iff_ne]; exact he
    rw [takeS_not b c p e he]
    clear h he hp
    go_enter Tryd.func70, Tryd.ntmps70
    go_upto_region 1 with fail
    go_quiet (fail)
    obtain ⟨w1, HW⟩ : ∃ w1, w1 = w.drewN nq := ⟨_, rfl⟩
    have H1 : Hid (Rd T g b p e rest w1) := by rw [HW]; exact H.out.dN nq
    have K1 : Hid (Kp (fun k => k = g) w w1) := by rw [HW]; exact Kp.dN w nq
    rw [← HW]
    clear HW c0 c1 c2
    have c2 := H1.out.e
    go_wp2
    go_ret
    exact ⟨rfl, H1.out, K1.out⟩

set_option maxHeartbeats 1600000 in
theorem pEnd (T g : Nat) (b : ByteArray) (p : Nat) (e : Int) (rest : List Value) (w : World) (h : Rd T g b p e rest w) (hb : b.size ≤ 140737488355328) (hp : Ok b p e) :
    Calls Tryd.prog 46 #[.pointer (some ⟨g, 0, none⟩)] w fun x w' => x = .returned (.int .i64 (endS b p e)) ∧ Rd T g b p (endS b p e) rest w' ∧ Kp (fun k => k = g) w w' := by
  have c0 := h.b
  have c1 := h.p
  have c2 := h.e
  have hp1 : p ≤ b.size := hp.1
  have H : Hid (Rd T g b p e rest w) := h
  by_cases he : e = 0
  · subst he
    have g0 : ((0 : Int) == 0) = true := rfl
    by_cases hlt : p < b.size
    · have HE : Hid (endS b p 0 = refu 0 111) := if_pos hlt
      have hlt' : (p : Int) < b.size := by omega
      clear h hp
      rw [HE.out]
      go_enter Tryd.func46, Tryd.ntmps46
      go_upto_region 1 with fail
      go_quiet (fail)
      obtain ⟨w1, HW⟩ : ∃ w1, w1 = w.drewN nq := ⟨_, rfl⟩
      have H1 : Hid (Rd T g b p 0 rest w1) := by rw [HW]; exact H.out.dN nq
      have K1 : Hid (Kp (fun k => k = g) w w1) := by rw [HW]; exact Kp.dN w nq
      rw [← HW]
      clear HW c0 c1 c2
      go_wp2_with (go_at_call 44; refine (pRefuse T g b p 0 111 rest _ H1.out).mono ?_; rintro _ w2 ⟨rfl, r2, k2⟩; have R2 : Hid (Rd T g b p (refu 0 111) rest w2) := r2; have K2 : Hid (Kp _ _ _) := k2; have c2 := Rd.e r2; clear r2 k2)
      go_ret
      exact ⟨rfl, R2.out, K1.out.trans K2.out⟩
    · have HE : Hid (endS b p 0 = 0) := if_neg hlt
      have hlt' : ¬ (p : Int) < b.size := by omega
      clear h hp
      rw [HE.out]
      go_enter Tryd.func46, Tryd.ntmps46
      go_upto_region 1 with fail
      go_quiet (fail)
      obtain ⟨w1, HW⟩ : ∃ w1, w1 = w.drewN nq := ⟨_, rfl⟩
      have H1 : Hid (Rd T g b p 0 rest w1) := by rw [HW]; exact H.out.dN nq
      have K1 : Hid (Kp (fun k => k = g) w w1) := by rw [HW]; exact Kp.dN w nq
      rw [← HW]
      clear HW c0 c1 c2
      have c2 := H1.out.e
      go_wp2
      go_ret
      exact ⟨rfl, H1.out, K1.out⟩
  · have HE : Hid (endS b p e = e) := by show _ = _; unfold endS; rw [refu_not e 111 he]; split <;> rfl
    have he1 : (e == 0) = false := by rw [beq_eq_false_iff_ne]; exact he
    rw [HE.out]
    clear h he hp
    go_enter Tryd.func46, Tryd.ntmps46
    go_upto_region 1 with fail
    go_quiet (fail)
    obtain ⟨w1, HW⟩ : ∃ w1, w1 = w.drewN nq := ⟨_, rfl⟩
    have H1 : Hid (Rd T g b p e rest w1) := by rw [HW]; exact H.out.dN nq
    have K1 : Hid (Kp (fun k => k = g) w w1) := by rw [HW]; exact Kp.dN w nq
    rw [← HW]
    clear HW c0 c1 c2
    have c2 := H1.out.e
    go_wp2
    go_ret
    exact ⟨rfl, H1.out, K1.out⟩

set_option maxHeartbeats 1600000 in
theorem pHashes (T g : Nat) (b : ByteArray) (p : Nat) (e : Int) (rest : List Value) (wd n : Nat) (w : World) (h : Rd T g b p e rest w) (hb : b.size ≤ 140737488355328) (hp : Ok b p e) (hw : wd ≤ 1000) (hn : n ≤ 1000000) :
    Calls Tryd.prog 45 #[.pointer (some ⟨g, 0, none⟩), .int .i64 n, .int .i64 wd] w fun x w' => (∃ v, x = .returned v ∧ w'.ownsRow w.heap.size 9 1 v (hashesS b wd n p e).1.length ((hashesS b wd n p e).1.map Value.string)) ∧ Rd T g b (hashesS b wd n p e).2.1 (hashesS b wd n p e).2.2 rest w' ∧ Kp (fun k => k = g) w w' := by
  obtain ⟨i9, hi, hz0, hz1, hz2⟩ := info_parts hi9
  have HIN : Hid (_ ∧ _ ∧ _ ∧ _) := ⟨hi, hz0, hz1, hz2⟩
  clear hi hz0 hz1 hz2
  have hg := h.lt
  have H0 : Hid (HI T g b wd n p e rest w (.slice none 0 0) [] p e w) := ⟨h, hp, Kp.refl _ _, World.ownsRow_nil _ _ _ _, by simp, by simp⟩
  obtain ⟨R, HR⟩ : ∃ R, Hid (hashesS b wd n p e = R) := ⟨_, rfl⟩
  rw [HR.out]
  clear h hp
  go_enter Tryd.func45, Tryd.ntmps45
  go_wp2
  go_loopw [7, 8] (fun v i wr => ∃ (m : Nat) (xs : List ByteArray) (q : Nat) (z : Int), m ≤ n ∧ i = .int .i64 m ∧ Hid (xs.length = m ∧ HI T g b wd n p e rest w v xs q z wr)) (fun _ i _ => (n - intOf i).toNat)
  case atStart => exact ⟨0, [], p, e, by omega, rfl, rfl, H0.out⟩
  case round =>
    clear H0
    obtain ⟨m, xs, q, z, hm, rfl, HHH⟩ := hrel
    have HM : Hid (xs.length = m) := HHH.out.1
    have HH : Hid (HI T g b wd n p e rest w _ xs q z wr) := HHH.out.2
    clear HHH
    obtain ⟨a, c, hv⟩ := own_formS HH.out.own
    subst hv
    rw [HM.out] at HH ⊢
    have c2 := HH.out.rd.e
    by_cases hlt : m < n
    · have hlt' : (m : Int) < n := by omega
      by_cases hz : z = 0
      · subst hz
        have CT : Hid (Calls _ _ _ _ _) := pBytes T g b q 0 rest wd wr HH.out.rd hb HH.out.ok (by omega)
        obtain ⟨x, HX⟩ : ∃ x, Hid ((takeS b wd q 0).1 = x) := ⟨_, rfl⟩
        rw [HX.out] at CT
        have HO : Hid (wr.ownsRow w.heap.size 9 1 (.slice a m c) m (xs.map Value.string)) := by have := HH.out.own; rw [HM.out] at this; exact this
        have hsz : w.heap.size ≤ wr.heap.size := HH.out.kp.size
        go_wp2_with (first | (go_at_call 70; refine CT.out.mono ?_; rintro _ w1 ⟨rfl, r1, k1⟩; have R1 : Hid (Rd T g b _ _ rest w1) := r1; have K1 : Hid (Kp (fun k => k = g) wr w1) := k1; have O1 : Hid (w1.ownsRow w.heap.size 9 1 (.slice a m c) m (xs.map Value.string)) := own_kp HO.out k1 (fun j hj => by omega); have hsz1 : w.heap.size ≤ w1.heap.size := Nat.le_trans hsz k1.size; clear r1 k1) | (at_builtin; refine wpList_append_own _ rfl _ _ 22 rfl w.heap.size 9 i9 (.string ByteArray.empty) 1 16 Tryd.underlying22 HIN.out.1 HIN.out.2.1 HIN.out.2.2.1 HIN.out.2.2.2 rfl (by decide) _ m _ rfl (O1.out.alloc _) ⟨w1.heap.size, 0, none⟩ 1 1 [.string x] rfl rfl (new_text _ _ _) (one_text _) (by unfold maxLen; omega) (by omega) (by simp; omega) ?_; intro v' w3 hown' hgrow3 hnil3; have O3 : Hid (w3.ownsRow w.heap.size 9 1 v' (m + 1) (xs.map Value.string ++ [.string x])) := hown'; have B3 : Hid (Below w.heap.size w1 w3) := Below.grown ((Below.refl _ _).alloc hsz1 _) hgrow3 (by simp; omega) (fun j hj => (O1.out.lt _ hj).1); clear hown' hgrow3 hnil3))
        go_roundw
        case rel =>
          refine ⟨m + 1, xs ++ [x], (takeS b wd q 0).2.1, (takeS b wd q 0).2.2, by omega, by go_num, by rw [List.length_append, HM.out]; rfl, ?_⟩
          have := HH.out.step hg (by rw [HM.out]; exact hlt) K1.out R1.out B3.out (by rw [HM.out, HX.out]; exact O3.out)
          rw [HX.out] at this
          exact this
        case measure => simp [intOf]; omega
      · have hz' : (z == 0) = false := by rw [beq_eq_false_iff_ne]; exact hz
        have HE : Hid (R = (xs, q, z)) := by show _ = _; rw [← HR.out, HH.out.eq, hashesS_not b wd _ q z hz]; simp
        have HO : Hid (wr.ownsRow w.heap.size 9 1 (.slice a m c) xs.length (xs.map Value.string) ∧ Rd T g b q z rest wr ∧ Kp (fun k => k = g) w wr) := ⟨HH.out.own, HH.out.rd, HH.out.kp⟩
        clear hz
        go_wp2
        go_ret
        rw [HE.out]
        exact ⟨⟨_, rfl, HO.out.1⟩, HO.out.2⟩
    · have hlt' : ¬ (m : Int) < n := by omega
      have HE : Hid (R = (xs, q, z)) := by
        show _ = _
        rw [← HR.out, HH.out.eq, HM.out, show n - m = 0 by omega]
        simp [hashesS]
      have HO : Hid (wr.ownsRow w.heap.size 9 1 (.slice a m c) xs.length (xs.map Value.string) ∧ Rd T g b q z rest wr ∧ Kp (fun k => k = g) w wr) := ⟨HH.out.own, HH.out.rd, HH.out.kp⟩
      go_wp2
      go_ret
      rw [HE.out]
      exact ⟨⟨_, rfl, HO.out.1⟩, HO.out.2⟩
end Go.Proofs.YthpfgdhmpeadeaaDoor.fc
