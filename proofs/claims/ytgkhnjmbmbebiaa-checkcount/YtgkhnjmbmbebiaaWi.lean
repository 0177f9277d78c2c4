import Derived.Test.YtgkhnjmbmbebiaaKp
import Derived.Test.YtgkhnjmbmbebiaaBb
namespace Go.Proofs.Ytgkhnjmbmbebiaa.wi
open Go.RowKit Go.PlainAid
open Go.Proofs.Ytgkhnjmbmbebiaa.ca Go.Proofs.Ytgkhnjmbmbebiaa.cb Go.Proofs.Ytgkhnjmbmbebiaa.cp Go.Proofs.Ytgkhnjmbmbebiaa.ga Go.Proofs.Ytgkhnjmbmbebiaa.aa Go.Proofs.Ytgkhnjmbmbebiaa.ba Go.Proofs.Ytgkhnjmbmbebiaa.bb Go.Proofs.Ytgkhnjmbmbebiaa.kp
set_option linter.unusedVariables false

theorem two_box (w : World) (x y x' y' : Value) (t t' : TypeId) : ((w.alloc (.cells #[x, y] t)).alloc (.cells #[x', y'] t')).cell? ⟨w.heap.size, 0, none⟩ = some x ∧ ((w.alloc (.cells #[x, y] t)).alloc (.cells #[x', y'] t')).cell? ⟨w.heap.size, 1, none⟩ = some y ∧ ((w.alloc (.cells #[x, y] t)).alloc (.cells #[x', y'] t')).cell? ⟨w.heap.size + 1, 0, none⟩ = some x' ∧ ((w.alloc (.cells #[x, y] t)).alloc (.cells #[x', y'] t')).cell? ⟨w.heap.size + 1, 1, none⟩ = some y' := by
  have s1 : (w.alloc (.cells #[x, y] t)).heap.size = w.heap.size + 1 := by simp
  have B : Below (w.alloc (.cells #[x, y] t)).heap.size (w.alloc (.cells #[x, y] t)) ((w.alloc (.cells #[x, y] t)).alloc (.cells #[x', y'] t')) := (Below.refl _ _).alloc (Nat.le_refl _) _
  refine ⟨?_, ?_, ?_, ?_⟩
  · refine (B.cell (p := ⟨w.heap.size, 0, none⟩) (by show w.heap.size < _; rw [s1]; omega)).trans ?_
    rw [World.cell?_alloc_at _ _ _ _ rfl]; rfl
  · refine (B.cell (p := ⟨w.heap.size, 1, none⟩) (by show w.heap.size < _; rw [s1]; omega)).trans ?_
    rw [World.cell?_alloc_at _ _ _ _ rfl]; rfl
  · rw [← s1, World.cell?_alloc_at _ _ _ _ rfl]; rfl
  · rw [← s1, World.cell?_alloc_at _ _ _ _ rfl]; rfl
section
variable {X V : Type} {F : Nat → Prop} {St : X → World → Prop} {enc : V → Value} {W : Wy X V} {P : X → Nat → Nat → Prop} {Q : V → Prop} {lg hg jg : Nat} {lv hv jv : Array Value}
set_option maxHeartbeats 6400000 in
theorem walkC (K : Wk F St enc W P Q lg hg jg lv hv jv) (n : Nat) : ∀ (a b : Nat) (x : X) (w : World), b - a = n → a < b → b ≤ 4611686018427387904 → P x a b → St x w →
    Calls Try.prog 23 #[.agg #[.int .i64 a, .int .i64 b], .func (.func lg) #[] lv, .func (.func hg) #[] hv, .func (.func jg) #[] jv] w fun e w' => e = .returned (enc (go W x a b).1) ∧ St (go W x a b).2 w' ∧ Kp F w w' ∧ Q (go W x a b).1 := by
  induction n using Nat.strongRecOn with
  | ind n ih =>
    intro a b x w hn hab hb hP hS
    have IH : Hid (∀ (a' b' : Nat), b' - a' < n → a' < b' → b' ≤ 4611686018427387904 → ∀ x w, P x a' b' → St x w →
      Calls Try.prog 23 #[.agg #[.int .i64 a', .int .i64 b'], .func (.func lg) #[] lv, .func (.func hg) #[] hv, .func (.func jg) #[] jv] w fun e w' => e = .returned (enc (go W x a' b').1) ∧ St (go W x a' b').2 w' ∧ Kp F w w' ∧ Q (go W x a' b').1) := fun a' b' h1 h2 h3 x w => ih (b' - a') h1 a' b' x w rfl h2 h3
    have eg := K.lent
    have eh := K.hent
    have ej := K.jent
    have BA : Hid (Below w.heap.size w (w.alloc (.cells #[.int .i64 a, .int .i64 b] 47))) := (Below.refl _ _).alloc (Nat.le_refl _) _
    have HA : Hid (St x (w.alloc (.cells #[.int .i64 a, .int .i64 b] 47))) := K.later hS BA.out
    have LC : Hid (Calls _ _ _ _ _) := K.look x a b (w.alloc (.cells #[.int .i64 a, .int .i64 b] 47)) hab hb hP HA.out
    have HVC : Hid (∀ w, (W.lk x a b).1 < 2 → St (W.lk x a b).2 w → Calls _ _ _ _ _) := fun w h1 h2 => K.have' x a b w hab hb hP h1 h2
    have hwide := K.wide hab hP
    have hfour := K.four hab hP
    have HBX : Hid (Bx (w.alloc (.cells #[.int .i64 a, .int .i64 b] 47)) w.heap.size a b) := ⟨by rw [World.cell?_alloc_at _ _ _ _ rfl]; rfl, by rw [World.cell?_alloc_at _ _ _ _ rfl]; rfl⟩
    have HF : Hid (∀ b, F b → b < w.heap.size) := K.fl hS
    obtain ⟨s, HS⟩ : ∃ s, Hid ((W.lk x a b).1 = s) := ⟨_, rfl⟩
    obtain ⟨y, HY⟩ : ∃ y, Hid ((W.lk x a b).2 = y) := ⟨_, rfl⟩
    obtain ⟨G, HG⟩ : ∃ G, Hid (go W x a b = G) := ⟨_, rfl⟩
    have KK : Hid (Wk F St enc W P Q lg hg jg lv hv jv) := K
    have HP : Hid (P x a b ∧ a < b) := ⟨hP, hab⟩
    rw [HG.out]
    rw [HS.out, HY.out] at HVC LC
    rw [HS.out] at hwide hfour
    clear ih hS K hP
    rcases (show s = 0 ∨ s = 1 ∨ s = 2 ∨ s = 3 by omega) with rfl | rfl | rfl | rfl
    rotate_left 2
    · have h2 := hwide (by omega)
      have hh := half_lt h2
      have HC : Hid (∀ w, Calls _ _ _ _ _) := fun w => halves a b h2 hb w
      have HGE : Hid (go W x a b = _) := go_left HS.out h2
      have HPP : Hid (_ ∧ _) := KK.out.left HP.out.2 HP.out.1 HS.out
      rw [HG.out, HY.out] at HGE
      rw [HY.out] at HPP
      obtain ⟨k, HK⟩ : ∃ k, Hid (a + half (b - a) = k) := ⟨_, rfl⟩
      have hk : a < k ∧ k < b := by rw [← HK.out]; omega
      rw [HK.out] at HC HGE HPP
      unfold pv at HC
      obtain ⟨A, HAA⟩ : ∃ A, Hid (go W y a k = A) := ⟨_, rfl⟩
      rw [HAA.out] at HGE HPP
      obtain ⟨B, HBB⟩ : ∃ B, Hid (go W A.2 k b = B) := ⟨_, rfl⟩
      rw [HBB.out] at HGE
      have I1 : Hid (∀ w', St y w' → Calls _ _ _ _ _) := fun w' h => IH.out a k (by omega) hk.1 (by omega) y w' HPP.out.1 h
      have I2 : Hid (∀ w', St A.2 w' → Calls _ _ _ _ _) := fun w' h => IH.out k b (by omega) hk.2 hb A.2 w' HPP.out.2 h
      rw [HAA.out] at I1
      rw [HBB.out] at I2
      obtain ⟨va, HVA⟩ : ∃ va, Hid (enc A.1 = va) := ⟨_, rfl⟩
      obtain ⟨vb, HVB⟩ : ∃ vb, Hid (enc B.1 = vb) := ⟨_, rfl⟩
      have JC : Hid (∀ w, Q A.1 → Q B.1 → St B.2 w → Calls _ _ _ _ _) := fun w h1 h2 h3 => KK.out.join A.1 B.1 B.2 w h1 h2 h3
      rw [HVA.out] at I1
      rw [HVB.out] at I2
      rw [HVA.out, HVB.out] at JC
      clear hwide hfour h2 hh HK HS HVC
      go_enter Try.func23, Try.ntmps23
      go_wp2_with fail
      refine LC.out.mono ?_
      rintro e w1 ⟨rfl, hs1, hk1⟩
      have S1 : Hid (St y w1) := hs1
      have K1 : Hid (Kp F w w1) := (Kp.of_below BA.out).trans hk1
      have c1 := hk1.cell HBX.out.1 (fun h => by have := HF.out _ h; omega)
      have c2 := hk1.cell HBX.out.2 (fun h => by have := HF.out _ h; omega)
      clear hs1 hk1
      go_wp2_with fail
      refine (HC.out _).mono ?_
      rintro e w2 ⟨rfl, hb2⟩
      have B3 : Hid (Below w2.heap.size w2 ((w2.alloc (.cells #[.int .i64 a, .int .i64 k] 47)).alloc (.cells #[.int .i64 k, .int .i64 b] 47))) := ((Below.refl _ _).alloc (Nat.le_refl _) _).alloc (by simp) _
      have S3 : Hid (St y ((w2.alloc (.cells #[.int .i64 a, .int .i64 k] 47)).alloc (.cells #[.int .i64 k, .int .i64 b] 47))) := KK.out.later (KK.out.later S1.out hb2) B3.out
      have K3 : Hid (Kp F w ((w2.alloc (.cells #[.int .i64 a, .int .i64 k] 47)).alloc (.cells #[.int .i64 k, .int .i64 b] 47))) := (K1.out.trans (Kp.of_below hb2)).trans (Kp.of_below B3.out)
      have HN : Hid (¬ F w2.heap.size ∧ ¬ F (w2.heap.size + 1)) := by
        have z : w.heap.size ≤ w2.heap.size := Nat.le_trans K1.out.size hb2.size
        exact ⟨fun h => by have := HF.out _ h; omega, fun h => by have := HF.out _ h; omega⟩
      have HBB2 : Hid (_ ∧ _ ∧ _ ∧ _) := two_box w2 (.int .i64 a) (.int .i64 k) (.int .i64 k) (.int .i64 b) 47 47
      clear hb2 c1 c2
      go_wp2_with fail
      refine (I1.out _ S3.out).mono ?_
      rintro e w4 ⟨rfl, hs4, hk4, hq4⟩
      have S4 : Hid (St A.2 w4 ∧ Q A.1) := ⟨hs4, hq4⟩
      have K4 : Hid (Kp F w w4) := K3.out.trans hk4
      have c3 := hk4.cell HBB2.out.2.2.1 HN.out.2
      have c4 := hk4.cell HBB2.out.2.2.2 HN.out.2
      clear hs4 hk4 hq4 HN HBB2
      go_wp2_with fail
      refine (I2.out _ S4.out.1).mono ?_
      rintro e w5 ⟨rfl, hs5, hk5, hq5⟩
      have S5 : Hid (St B.2 w5 ∧ Q B.1) := ⟨hs5, hq5⟩
      have K5 : Hid (Kp F w w5) := K4.out.trans hk5
      clear hs5 hk5 hq5 c3 c4
      go_wp2_with fail
      refine (JC.out _ S4.out.2 S5.out.2 S5.out.1).mono ?_
      rintro e w6 ⟨rfl, hb6⟩
      have S6 : Hid (St B.2 w6 ∧ Kp F w w6) := ⟨KK.out.later S5.out.1 hb6, K5.out.trans (Kp.of_below hb6)⟩
      clear hb6
      go_wp2
      go_ret
      rw [HGE.out]
      exact ⟨rfl, S6.out.1, S6.out.2, KK.out.qj S4.out.2 S5.out.2⟩
    · have h2 := hwide (by omega)
      have hh := half_lt h2
      have HC : Hid (∀ w, Calls _ _ _ _ _) := fun w => halves a b h2 hb w
      have HGE : Hid (go W x a b = _) := go_right (by rw [HS.out]; omega) h2
      have HPP : Hid (_ ∧ _) := KK.out.right HP.out.2 HP.out.1 HS.out
      rw [HG.out, HY.out] at HGE
      rw [HY.out] at HPP
      obtain ⟨k, HK⟩ : ∃ k, Hid (a + half (b - a) = k) := ⟨_, rfl⟩
      have hk : a < k ∧ k < b := by rw [← HK.out]; omega
      rw [HK.out] at HC HGE HPP
      unfold pv at HC
      obtain ⟨A, HAA⟩ : ∃ A, Hid (go W y k b = A) := ⟨_, rfl⟩
      rw [HAA.out] at HGE HPP
      obtain ⟨B, HBB⟩ : ∃ B, Hid (go W A.2 a k = B) := ⟨_, rfl⟩
      rw [HBB.out] at HGE
      have I1 : Hid (∀ w', St y w' → Calls _ _ _ _ _) := fun w' h => IH.out k b (by omega) hk.2 hb y w' HPP.out.1 h
      have I2 : Hid (∀ w', St A.2 w' → Calls _ _ _ _ _) := fun w' h => IH.out a k (by omega) hk.1 (by omega) A.2 w' HPP.out.2 h
      rw [HAA.out] at I1
      rw [HBB.out] at I2
      obtain ⟨va, HVA⟩ : ∃ va, Hid (enc A.1 = va) := ⟨_, rfl⟩
      obtain ⟨vb, HVB⟩ : ∃ vb, Hid (enc B.1 = vb) := ⟨_, rfl⟩
      have JC : Hid (∀ w, Q B.1 → Q A.1 → St B.2 w → Calls _ _ _ _ _) := fun w h1 h2 h3 => KK.out.join B.1 A.1 B.2 w h1 h2 h3
      rw [HVA.out] at I1
      rw [HVB.out] at I2
      rw [HVA.out, HVB.out] at JC
      clear hwide hfour h2 hh HK HS HVC
      go_enter Try.func23, Try.ntmps23
      go_wp2_with fail
      refine LC.out.mono ?_
      rintro e w1 ⟨rfl, hs1, hk1⟩
      have S1 : Hid (St y w1) := hs1
      have K1 : Hid (Kp F w w1) := (Kp.of_below BA.out).trans hk1
      have c1 := hk1.cell HBX.out.1 (fun h => by have := HF.out _ h; omega)
      have c2 := hk1.cell HBX.out.2 (fun h => by have := HF.out _ h; omega)
      clear hs1 hk1
      go_wp2_with fail
      refine (HC.out _).mono ?_
      rintro e w2 ⟨rfl, hb2⟩
      have B3 : Hid (Below w2.heap.size w2 ((w2.alloc (.cells #[.int .i64 a, .int .i64 k] 47)).alloc (.cells #[.int .i64 k, .int .i64 b] 47))) := ((Below.refl _ _).alloc (Nat.le_refl _) _).alloc (by simp) _
      have S3 : Hid (St y ((w2.alloc (.cells #[.int .i64 a, .int .i64 k] 47)).alloc (.cells #[.int .i64 k, .int .i64 b] 47))) := KK.out.later (KK.out.later S1.out hb2) B3.out
      have K3 : Hid (Kp F w ((w2.alloc (.cells #[.int .i64 a, .int .i64 k] 47)).alloc (.cells #[.int .i64 k, .int .i64 b] 47))) := (K1.out.trans (Kp.of_below hb2)).trans (Kp.of_below B3.out)
      have HN : Hid (¬ F w2.heap.size ∧ ¬ F (w2.heap.size + 1)) := by
        have z : w.heap.size ≤ w2.heap.size := Nat.le_trans K1.out.size hb2.size
        exact ⟨fun h => by have := HF.out _ h; omega, fun h => by have := HF.out _ h; omega⟩
      have HBB2 : Hid (_ ∧ _ ∧ _ ∧ _) := two_box w2 (.int .i64 a) (.int .i64 k) (.int .i64 k) (.int .i64 b) 47 47
      have d1 := HBB2.out.2.2.1
      have d2 := HBB2.out.2.2.2
      clear hb2 c1 c2
      go_wp2_with fail
      refine (I1.out _ S3.out).mono ?_
      rintro e w4 ⟨rfl, hs4, hk4, hq4⟩
      have S4 : Hid (St A.2 w4 ∧ Q A.1) := ⟨hs4, hq4⟩
      have K4 : Hid (Kp F w w4) := K3.out.trans hk4
      have c3 := hk4.cell HBB2.out.1 HN.out.1
      have c4 := hk4.cell HBB2.out.2.1 HN.out.1
      clear hs4 hk4 hq4 HN HBB2 d1 d2
      go_wp2_with fail
      refine (I2.out _ S4.out.1).mono ?_
      rintro e w5 ⟨rfl, hs5, hk5, hq5⟩
      have S5 : Hid (St B.2 w5 ∧ Q B.1) := ⟨hs5, hq5⟩
      have K5 : Hid (Kp F w w5) := K4.out.trans hk5
      clear hs5 hk5 hq5 c3 c4
      go_wp2_with fail
      refine (JC.out _ S5.out.2 S4.out.2 S5.out.1).mono ?_
      rintro e w6 ⟨rfl, hb6⟩
      have S6 : Hid (St B.2 w6 ∧ Kp F w w6) := ⟨KK.out.later S5.out.1 hb6, K5.out.trans (Kp.of_below hb6)⟩
      clear hb6
      go_wp2
      go_ret
      rw [HGE.out]
      exact ⟨rfl, S6.out.1, S6.out.2, KK.out.qj S5.out.2 S4.out.2⟩
    all_goals (
      have HGE : Hid (go W x a b = _) := go_stop (by rw [HS.out]; omega)
      have HQ : Hid (Q _) := KK.out.qh HP.out.2 HP.out.1 (by rw [HS.out]; omega)
      rw [HG.out, HS.out, HY.out] at HGE
      rw [HS.out, HY.out, ← HGE.out] at HQ
      rw [← HGE.out] at HVC
      obtain ⟨vg, HVG⟩ : ∃ vg, Hid (enc G.1 = vg) := ⟨_, rfl⟩
      rw [HVG.out] at HVC ⊢
      clear hwide hfour HS HGE
      go_enter Try.func23, Try.ntmps23
      go_wp2_with fail
      refine LC.out.mono ?_
      rintro e w1 ⟨rfl, hs1, hk1⟩
      have S1 : Hid (St y w1) := hs1
      have K1 : Hid (Kp F w w1) := (Kp.of_below BA.out).trans hk1
      have c1 := hk1.cell HBX.out.1 (fun h => by have := HF.out _ h; omega)
      have c2 := hk1.cell HBX.out.2 (fun h => by have := HF.out _ h; omega)
      clear hs1 hk1
      go_wp2_with fail
      refine (HVC.out _ (by omega) S1.out).mono ?_
      rintro e w2 ⟨rfl, hs2, hk2⟩
      have S2 : Hid (St G.2 w2 ∧ Kp F w w2) := ⟨hs2, K1.out.trans hk2⟩
      clear hs2 hk2 c1 c2
      go_wp2
      go_ret
      exact ⟨rfl, S2.out.1, S2.out.2, HQ.out⟩)
end
end Go.Proofs.Ytgkhnjmbmbebiaa.wi
