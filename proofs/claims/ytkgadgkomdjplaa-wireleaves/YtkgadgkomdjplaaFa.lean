import Derived.Test.YtkgadgkomdjplaaEe
namespace Go.Proofs.Ytkgadgkomdjplaa.fa
open Go.RowKit Go.PlainAid
open Go.Proofs.Ytkgadgkomdjplaa.ca Go.Proofs.Ytkgadgkomdjplaa.cb Go.Proofs.Ytkgadgkomdjplaa.cp Go.Proofs.Ytkgadgkomdjplaa.ga Go.Proofs.Ytkgadgkomdjplaa.kp Go.Proofs.Ytkgadgkomdjplaa.na Go.Proofs.Ytkgadgkomdjplaa.nb Go.Proofs.Ytkgadgkomdjplaa.nc Go.Proofs.Ytkgadgkomdjplaa.nf Go.Proofs.Ytkgadgkomdjplaa.ng Go.Proofs.Ytkgadgkomdjplaa.ea Go.Proofs.Ytkgadgkomdjplaa.eb Go.Proofs.Ytkgadgkomdjplaa.ec Go.Proofs.Ytkgadgkomdjplaa.ed Go.Proofs.Ytkgadgkomdjplaa.ee Go.Proofs.Ytkgadgkomdjplaa.ka Go.Proofs.Ytkgadgkomdjplaa.bn
set_option linter.unusedVariables false

-- one byte, in cases
theorem ext1_size (b : ByteArray) (p : Nat) (h : p < b.size) : (b.extract p (p + 1)).size = 1 := by rw [ByteArray.size_extract]; omega
theorem ext1_bt (b : ByteArray) (p : Nat) (h : p < b.size) : bt (b.extract p (p + 1)) 0 = bt b p := by
  rw [bt_extract b p (p + 1) 0 (by omega) (by omega), Nat.add_zero]
theorem byteS_not (b : ByteArray) (p : Nat) (e : Int) (h : e ≠ 0) : byteS b p e = 0 := by unfold byteS; rw [takeS_not b 1 p e h]; rfl
theorem byteS_short (b : ByteArray) (p : Nat) (h : b.size ≤ p) : byteS b p 0 = 0 := by unfold byteS; rw [takeS_short b 1 p (by omega)]; rfl
theorem byteS_yes (b : ByteArray) (p : Nat) (h : p < b.size) : byteS b p 0 = bt b p := by
  unfold byteS
  rw [takeS_yes b 1 p (by omega)]
  show (if (b.extract p (p + 1)).size = 1 then bt (b.extract p (p + 1)) 0 else 0) = _
  rw [if_pos (ext1_size b p h), ext1_bt b p h]
theorem one_eq (x : ByteArray) (c : Int) (hx : x.size = 1) (h0 : 0 ≤ c) (h1 : c ≤ 255) : x = str [c] ↔ bt x 0 = c := by
  have hs : bt (str [c]) 0 = c := by rw [str_bt [c] 0 (by simp) h0 h1]; rfl
  constructor
  · rintro rfl; exact hs
  · intro h
    apply ext_bt
    · rw [hx, str_size]; rfl
    · intro k hk
      have : k = 0 := by omega
      subst this
      rw [hs, h]
theorem str1_ne (c : Int) : ¬ (ByteArray.empty = str [c]) := fun h => by
  have h2 : (str [c]).size = 1 := str_size [c]
  rw [← h] at h2
  exact absurd h2 (by decide)
theorem markS_not (b : ByteArray) (c : Int) (p : Nat) (e : Int) (h : e ≠ 0) : markS b c p e = (p, e) := by
  unfold markS; rw [takeS_not b 1 p e h]
  show (p, if ByteArray.empty = str [c] then e else refu e 110) = _
  rw [if_neg (str1_ne c), refu_not e 110 h]
theorem markS_short (b : ByteArray) (c : Int) (p : Nat) (h : b.size ≤ p) : markS b c p 0 = (p, 12) := by
  unfold markS; rw [takeS_short b 1 p (by omega)]
  show (p, if ByteArray.empty = str [c] then 12 else refu 12 110) = _
  rw [if_neg (str1_ne c)]; rfl
theorem markS_yes (b : ByteArray) (c : Int) (p : Nat) (h : p < b.size) (h0 : 0 ≤ c) (h1 : c ≤ 255) (hc : bt b p = c) : markS b c p 0 = (p + 1, 0) := by
  unfold markS; rw [takeS_yes b 1 p (by omega)]
  show (p + 1, if b.extract p (p + 1) = str [c] then (0 : Int) else refu 0 110) = _
  rw [if_pos ((one_eq _ c (ext1_size b p h) h0 h1).2 ((ext1_bt b p h).trans hc))]
theorem markS_bad (b : ByteArray) (c : Int) (p : Nat) (h : p < b.size) (h0 : 0 ≤ c) (h1 : c ≤ 255) (hc : bt b p ≠ c) : markS b c p 0 = (p + 1, 110) := by
  unfold markS; rw [takeS_yes b 1 p (by omega)]
  show (p + 1, if b.extract p (p + 1) = str [c] then (0 : Int) else refu 0 110) = _
  rw [if_neg (fun e => hc ((ext1_bt b p h).symm.trans ((one_eq _ c (ext1_size b p h) h0 h1).1 e)))]; rfl
theorem take1_not (b : ByteArray) (p : Nat) (e : Int) (h : e ≠ 0) : (takeS b 1 p e).2 = (p, e) := by rw [takeS_not b 1 p e h]
theorem take1_short (b : ByteArray) (p : Nat) (h : b.size ≤ p) : (takeS b 1 p 0).2 = (p, 12) := by rw [takeS_short b 1 p (by omega)]
theorem take1_yes (b : ByteArray) (p : Nat) (h : p < b.size) : (takeS b 1 p 0).2 = (p + 1, 0) := by rw [takeS_yes b 1 p (by omega)]
theorem widthS_eq (b : ByteArray) (p : Nat) (e : Int) (v : Int) (q : Nat) (z : Int) (h1 : byteS b p e = v) (h2 : (takeS b 1 p e).2 = (q, z)) : widthS b p e = (v, q, if 1 ≤ v ∧ v ≤ 32 then z else refu z 10) := by
  unfold widthS; rw [h1, h2]

theorem pRefuse (T g : Nat) (b : ByteArray) (p : Nat) (e f : Int) (rest : List Value) (w : World) (h : Rd T g b p e rest w) :
    Calls Try.prog 61 #[.pointer (some ⟨g, 0, none⟩), .int .i64 f] w fun x w' => x = .returned (.tuple #[]) ∧ Rd T g b p (refu e f) rest w' ∧ Kp (fun k => k = g) w w' := by
  have c2 := h.e
  have f2 := frozen_of_row _ _ 2 _ _ h
  by_cases he : e = 0
  · subst he
    have HR : Hid (Rd T g b p f rest (w.setCell ⟨g, 2, none⟩ (.int .i64 f))) := h.sete f
    have HK : Hid (Kp (fun k => k = g) w (w.setCell ⟨g, 2, none⟩ (.int .i64 f))) := Kp.setCell _ _ _ _ rfl
    clear h
    go_enter Try.func61, Try.ntmps61
    go_wp2
    go_end0
    exact ⟨rfl, HR.out, HK.out⟩
  · have he' : (e == 0) = false := by rw [beq_eq_false_iff_ne]; exact he
    have HE : Hid (refu e f = e) := refu_not e f he
    have H : Hid (Rd T g b p e rest w) := h
    clear h he
    go_enter Try.func61, Try.ntmps61
    go_wp2
    go_end0
    exact ⟨rfl, by rw [HE.out]; exact H.out, Kp.refl _ _⟩

set_option maxHeartbeats 1600000 in
theorem pTake (T g : Nat) (b : ByteArray) (p : Nat) (e : Int) (rest : List Value) (w : World) (h : Rd T g b p e rest w) (hb : b.size ≤ 140737488355328) (hp : Ok b p e) :
    Calls Try.prog 70 #[.pointer (some ⟨g, 0, none⟩)] w fun x w' => x = .returned (.int .i64 (byteS b p e)) ∧ Rd T g b (takeS b 1 p e).2.1 (takeS b 1 p e).2.2 rest w' ∧ Kp (fun k => k = g) w w' := by
  have c0 := h.b
  have c1 := h.p
  have c2 := h.e
  have hp1 : p ≤ b.size := hp.1
  have H : Hid (Rd T g b p e rest w) := h
  by_cases he : e = 0
  · subst he
    by_cases hs : b.size ≤ p
    · rw [byteS_short b p hs, take1_short b p hs]
      have hs' : (b.size : Int) ≤ p := by omega
      have HZ : Hid (refu 0 12 = 12) := rfl
      clear h hp
      go_enter Try.func70, Try.ntmps70
      go_upto_region 3 with fail
      go_quiet (fail)
      obtain ⟨w1, HW⟩ : ∃ w1, w1 = w.drewN nq := ⟨_, rfl⟩
      have H1 : Hid (Rd T g b p 0 rest w1) := by rw [HW]; exact H.out.dN nq
      have K1 : Hid (Kp (fun k => k = g) w w1) := by rw [HW]; exact Kp.dN w nq
      rw [← HW]
      clear HW c0 c1 c2
      go_wp2_with (go_at_call 61; refine (pRefuse T g b p 0 12 rest _ H1.out).mono ?_; rintro _ w2 ⟨rfl, r2, k2⟩; rw [HZ.out] at r2; have R2 : Hid (Rd T g b p 12 rest w2) := r2; have K2 : Hid (Kp _ _ _) := k2; clear r2 k2)
      go_ret
      exact ⟨rfl, R2.out, K1.out.trans K2.out⟩
    · have hlt : p < b.size := by omega
      rw [byteS_yes b p hlt, take1_yes b p hlt]
      have hs' : ¬ (b.size : Int) ≤ p := by omega
      have hgb := get_bt b p hlt
      have HB : Hid (wrap64 ((b[p]'hlt).toNat : Int) = bt b p) := by
        show _ = _
        rw [hgb]
        have := bt_nonneg b p
        have := bt_le b p
        unfold wrap64; omega
      clear hgb
      have e1 : ((p + 1 : Nat) : Int) = (p : Int) + 1 := by omega
      have e2 : ((p : Int) + 1 - 1) = p := by omega
      clear h hp
      go_enter Try.func70, Try.ntmps70
      go_upto_region 3 with fail
      go_quiet (fail)
      obtain ⟨w1, HW⟩ : ∃ w1, w1 = w.drewN nq := ⟨_, rfl⟩
      have H1 : Hid (Rd T g b p 0 rest w1) := by rw [HW]; exact H.out.dN nq
      have K1 : Hid (Kp (fun k => k = g) w w1) := by rw [HW]; exact Kp.dN w nq
      rw [← HW]
      clear HW c0 c1 c2
      have c1 := H1.out.p
      have f1 := frozen_of_row _ _ 1 _ _ H1.out
      have H2 : Hid (Rd T g b (p + 1) 0 rest (w1.setCell ⟨g, 1, none⟩ (.int .i64 ((p : Int) + 1)))) := by have := H1.out.setp (p + 1); rw [e1] at this; exact this
      have K2 : Hid (Kp (fun k => k = g) w (w1.setCell ⟨g, 1, none⟩ (.int .i64 ((p : Int) + 1)))) := K1.out.trans (Kp.setCell _ _ _ _ rfl)
      go_upto_region 7 with fail
      obtain ⟨w2, HW⟩ : ∃ w2, w2 = w1.setCell ⟨g, 1, none⟩ (.int .i64 ((p : Int) + 1)) := ⟨_, rfl⟩
      rw [← HW] at H2 K2 ⊢
      clear HW c1 f1 H1 K1
      have d0 := H2.out.b
      have d1 := H2.out.p
      rw [e1] at d1
      have hlt' : (p : Int) < b.size := by omega
      go_quiet (fail)
      go_wp2
      go_ret
      exact ⟨ret_v (congrArg (Value.int .i64) HB.out), H2.out.dN _, K2.out.trans (Kp.dN _ _)⟩
  · have he' : (e != 0) = true := by rw [bne_iff_ne]; exact he
    rw [byteS_not b p e he, take1_not b p e he]
    clear h he hp
    go_enter Try.func70, Try.ntmps70
    go_wp2
    go_ret
    exact ⟨rfl, H.out, Kp.refl _ _⟩
end Go.Proofs.Ytkgadgkomdjplaa.fa
