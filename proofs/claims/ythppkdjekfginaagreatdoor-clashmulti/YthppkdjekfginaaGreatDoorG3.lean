import Derived.Test.YthppkdjekfginaaGreatDoorG1
import Derived.Deep.DeepCutAuto
import Derived.BigQuiet
import Derived.Deep.AppendLies
import Derived.Laws.AppendOwnNone
import Derived.Lib.SliceRun
import Derived.RowKit3
import Derived.Handy
namespace Go.Proofs.YthppkdjekfginaaGreatDoor.wi
open Go.RowKit Go.PlainAid
open Go.Proofs.YthppkdjekfginaaGreatDoor.ca Go.Proofs.YthppkdjekfginaaGreatDoor.cb Go.Proofs.YthppkdjekfginaaGreatDoor.cp Go.Proofs.YthppkdjekfginaaGreatDoor.ga Go.Proofs.YthppkdjekfginaaGreatDoor.aa Go.Proofs.YthppkdjekfginaaGreatDoor.ba Go.Proofs.YthppkdjekfginaaGreatDoor.bb Go.Proofs.YthppkdjekfginaaGreatDoor.kp
set_option linter.unusedVariables false

theorem two_box (w : World) (x y x' y' : Value) (t t' : TypeId) : ((w.alloc (.cells #[x, y] t)).alloc (.cells #[x', y'] t')).cell? ⟨w.heap.size, 0, none⟩ = some x ∧ ((w.alloc (.cells #[x, y] t)).alloc (.cells #[x', y'] t')).cell? ⟨w.heap.size, 1, none⟩ = some y ∧ ((w.alloc (.cells #[x, y] t)).alloc (.cells #[x', y'] t')).cell? ⟨w.heap.size + 1, 0, none⟩ = some x' ∧ ((w.alloc (.cells #[x, y] t)).alloc (.cells #[x', y'] t')).cell? ⟨w.heap.size + 1, 1, none⟩ = some y' := by
  have s1 : (w.alloc (.cells #[x, y] t)).heap.size = w.heap.size + 1 := by simp
  have B : Below (w.alloc (.cells #[x, y] t)).heap.size (w.alloc (.cells #[x, y] t)) ((w.alloc (.cells #[x, y] t)).alloc (.cells #[x', y'] t')) := (Below.refl _ _).alloc (Nat.le_refl _) _
  refine ⟨?_, ?_, ?_, ?_⟩
  · refine (B.cell (p := ⟨w.heap.size, 0, none⟩) (by show w.heap.size < _; rw [s1]; omega)).trans ?_
    rw [World.cell?_alloc_at _ _ _ _ rfl]; rfl
  · refine (B.cell (p := ⟨w.heap.size, 1, none⟩) (by show w.heap.size < _; rw [s1]; omega)).trans ?_
    rw [World.cell?_alloc_at _ _ _ _ rfl]; rfl
  · rw [← s1, World.cell?_alloc_at _ _ _ _ rfl]; rfl
  · rw [← s1, World.cell?_alloc_at _ _ _ _ rfl]; rfl
section
variable {X V : Type} {F : Nat → Prop} {St : X → World → Prop} {enc : V → Value} {W : Wy X V} {P : X → Nat → Nat → Prop} {Q : V → Prop} {lg hg jg : Nat} {lv hv jv : Array Value}
set_option maxHeartbeats 6400000 in
theorem walkC (K : Wk F St enc W P Q lg hg jg lv hv jv) (n : Nat) : ∀ (a b : Nat) (x : X) (w : World), b - a = n → a < b → b ≤ 4611686018427387904 → P x a b → St x w →
    Calls Tryz.prog 112 #[.agg #[.int .i64 a, .int .i64 b], .func (.func lg) #[] lv, .func (.func hg) #[] hv, .func (.func jg) #[] jv] w fun e w' => e = .returned (enc (go W x a b).1) ∧ St (go W x a b).2 w' ∧ Kp F w w' ∧ Q (go W x a b).1 := by
  induction n using Nat.strongRecOn with
  | ind n ih =>
    intro a b x w hn hab hb hP hS
    have IH : Hid (∀ (a' b' : Nat), b' - a' < n → a' < b' → b' ≤ 4611686018427387904 → ∀ x w, P x a' b' → St x w →
      Calls Tryz.prog 112 #[.agg #[.int .i64 a', .int .i64 b'], .func (.func lg) #[] lv, .func (.func hg) #[] hv, .func (.func jg) #[] jv] w fun e w' => e = .returned (enc (go W x a' b').1) ∧ St (go W x a' b').2 w' ∧ Kp F w w' ∧ Q (go W x a' b').1) := fun a' b' h1 h2 h3 x w => ih (b' - a') h1 a' b' x w rfl h2 h3
    have eg := K.lent
    have eh := K.hent
    have ej := K.jent
    have BA : Hid (Below w.heap.size w (w.alloc (.cells #[.int .i64 a, .int .i64 b] 117))) := (Below.refl _ _).alloc (Nat.le_refl _) _
    have HA : Hid (St x (w.alloc (.cells #[.int .i64 a, .int .i64 b] 117))) := K.later hS BA.out
    have LC : Hid (Calls _ _ _ _ _) := K.look x a b (w.alloc (.cells #[.int .i64 a, .int .i64 b] 117)) hab hb hP HA.out
    have HVC : Hid (∀ w, (W.lk x a b).1 < 2 → St (W.lk x a b).2 w → Calls _ _ _ _ _) := fun w h1 h2 => K.have' x a b w hab hb hP h1 h2
    have hwide := K.wide hab hP
    have hfour := K.four hab hP
    have HBX : Hid (Bx (w.alloc (.cells #[.int .i64 a, .int .i64 b] 117)) w.heap.size a b) := ⟨by rw [World.cell?_alloc_at _ _ _ _ rfl]; rfl, by rw [World.cell?_alloc_at _ _ _ _ rfl]; rfl⟩
    have HF : Hid (∀ b, F b → b < w.heap.size) := K.fl hS
    obtain ⟨s, HS⟩ : ∃ s, Hid ((W.lk x a b).1 = s) := ⟨_, rfl⟩
    obtain ⟨y, HY⟩ : ∃ y, Hid ((W.lk x a b).2 = y) := ⟨_, rfl⟩
    obtain ⟨G, HG⟩ : ∃ G, Hid (go W x a b = G) := ⟨_, rfl⟩
    have KK : Hid (Wk F St enc W P Q lg hg jg lv hv jv) := K
    have HP : Hid (P x a b ∧ a < b) := ⟨hP, hab⟩
    rw [HG.out]
    rw [HS.out, HY.out] at HVC LC
    rw [HS.out] at hwide hfour
    clear ih hS K hP
    rcases (show s = 0 ∨ s = 1 ∨ s = 2 ∨ s = 3 by omega) with rfl | rfl | rfl | rfl
    rotate_left 2
    · have h2 := hwide (by omega)
      have hh := half_lt h2
      have HC : Hid (∀ w, Calls _ _ _ _ _) := fun w => halves a b h2 hb w
      have HGE : Hid (go W x a b = _) := go_left HS.out h2
      have HPP : Hid (_ ∧ _) := KK.out.left HP.out.2 HP.out.1 HS.out
      rw [HG.out, HY.out] at HGE
      rw [HY.out] at HPP
      obtain ⟨k, HK⟩ : ∃ k, Hid (a + half (b - a) = k) := ⟨_, rfl⟩
      have hk : a < k ∧ k < b := by rw [← HK.out]; omega
      rw [HK.out] at HC HGE HPP
      unfold pv at HC
      obtain ⟨A, HAA⟩ : ∃ A, Hid (go W y a k = A) := ⟨_, rfl⟩
      rw [HAA.out] at HGE HPP
      obtain ⟨B, HBB⟩ : ∃ B, Hid (go W A.2 k b = B) := ⟨_, rfl⟩
      rw [HBB.out] at HGE
      have I1 : Hid (∀ w', St y w' → Calls _ _ _ _ _) := fun w' h => IH.out a k (by omega) hk.1 (by omega) y w' HPP.out.1 h
      have I2 : Hid (∀ w', St A.2 w' → Calls _ _ _ _ _) := fun w' h => IH.out k b (by omega) hk.2 hb A.2 w' HPP.out.2 h
      rw [HAA.out] at I1
      rw [HBB.out] at I2
      obtain ⟨va, HVA⟩ : ∃ va, Hid (enc A.1 = va) := ⟨_, rfl⟩
      obtain ⟨vb, HVB⟩ : ∃ vb, Hid (enc B.1 = vb) := ⟨_, rfl⟩
      have JC : Hid (∀ w, Q A.1 → Q B.1 → St B.2 w → Calls _ _ _ _ _) := fun w h1 h2 h3 => KK.out.join A.1 B.1 B.2 w h1 h2 h3
      rw [HVA.out] at I1
      rw [HVB.out] at I2
      rw [HVA.out, HVB.out] at JC
      clear hwide hfour h2 hh HK HS HVC
      go_enter Tryz.func112, Tryz.ntmps112
      go_wp2_with fail
      refine LC.out.mono ?_
      rintro e w1 ⟨rfl, hs1, hk1⟩
      have S1 : Hid (St y w1) := hs1
      have K1 : Hid (Kp F w w1) := (Kp.of_below BA.out).trans hk1
      have c1 := hk1.cell HBX.out.1 (fun h => by have := HF.out _ h; omega)
      have c2 := hk1.cell HBX.out.2 (fun h => by have := HF.out _ h; omega)
      clear hs1 hk1
      go_wp2_with fail
      refine (HC.out _).mono ?_
      rintro e w2 ⟨rfl, hb2⟩
      have B3 : Hid (Below w2.heap.size w2 ((w2.alloc (.cells #[.int .i64 a, .int .i64 k] 117)).alloc (.cells #[.int .i64 k, .int .i64 b] 117))) := ((Below.refl _ _).alloc (Nat.le_refl _) _).alloc (by simp) _
      have S3 : Hid (St y ((w2.alloc (.cells #[.int .i64 a, .int .i64 k] 117)).alloc (.cells #[.int .i64 k, .int .i64 b] 117))) := KK.out.later (KK.out.later S1.out hb2) B3.out
      have K3 : Hid (Kp F w ((w2.alloc (.cells #[.int .i64 a, .int .i64 k] 117)).alloc (.cells #[.int .i64 k, .int .i64 b] 117))) := (K1.out.trans (Kp.of_below hb2)).trans (Kp.of_below B3.out)
      have HN : Hid (¬ F w2.heap.size ∧ ¬ F (w2.heap.size + 1)) := by
        have z : w.heap.size ≤ w2.heap.size := Nat.le_trans K1.out.size hb2.size
        exact ⟨fun h => by have := HF.out _ h; omega, fun h => by have := HF.out _ h; omega⟩
      have HBB2 : Hid (_ ∧ _ ∧ _ ∧ _) := two_box w2 (.int .i64 a) (.int .i64 k) (.int .i64 k) (.int .i64 b) 117 117
      clear hb2 c1 c2
      go_wp2_with fail
      refine (I1.out _ S3.out).mono ?_
      rintro e w4 ⟨rfl, hs4, hk4, hq4⟩
      have S4 : Hid (St A.2 w4 ∧ Q A.1) := ⟨hs4, hq4⟩
      have K4 : Hid (Kp F w w4) := K3.out.trans hk4
      have c3 := hk4.cell HBB2.out.2.2.1 HN.out.2
      have c4 := hk4.cell HBB2.out.2.2.2 HN.out.2
      clear hs4 hk4 hq4 HN HBB2
      go_wp2_with fail
      refine (I2.out _ S4.out.1).mono ?_
      rintro e w5 ⟨rfl, hs5, hk5, hq5⟩
      have S5 : Hid (St B.2 w5 ∧ Q B.1) := ⟨hs5, hq5⟩
      have K5 : Hid (Kp F w w5) := K4.out.trans hk5
      clear hs5 hk5 hq5 c3 c4
      go_wp2_with fail
      refine (JC.out _ S4.out.2 S5.out.2 S5.out.1).mono ?_
      rintro e w6 ⟨rfl, hb6⟩
      have S6 : Hid (St B.2 w6 ∧ Kp F w w6) := ⟨KK.out.later S5.out.1 hb6, K5.out.trans (Kp.of_below hb6)⟩
      clear hb6
      go_wp2
      go_ret
      rw [HGE.out]
      exact ⟨rfl, S6.out.1, S6.out.2, KK.out.qj S4.out.2 S5.out.2⟩
    · have h2 := hwide (by omega)
      have hh := half_lt h2
      have HC : Hid (∀ w, Calls _ _ _ _ _) := fun w => halves a b h2 hb w
      have HGE : Hid (go W x a b = _) := go_right (by rw [HS.out]; omega) h2
      have HPP : Hid (_ ∧ _) := KK.out.right HP.out.2 HP.out.1 HS.out
      rw [HG.out, HY.out] at HGE
      rw [HY.out] at HPP
      obtain ⟨k, HK⟩ : ∃ k, Hid (a + half (b - a) = k) := ⟨_, rfl⟩
      have hk : a < k ∧ k < b := by rw [← HK.out]; omega
      rw [HK.out] at HC HGE HPP
      unfold pv at HC
      obtain ⟨A, HAA⟩ : ∃ A, Hid (go W y k b = A) := ⟨_, rfl⟩
      rw [HAA.out] at HGE HPP
      obtain ⟨B, HBB⟩ : ∃ B, Hid (go W A.2 a k = B) := ⟨_, rfl⟩
      rw [HBB.out] at HGE
      have I1 : Hid (∀ w', St y w' → Calls _ _ _ _ _) := fun w' h => IH.out k b (by omega) hk.2 hb y w' HPP.out.1 h
      have I2 : Hid (∀ w', St A.2 w' → Calls _ _ _ _ _) := fun w' h => IH.out a k (by omega) hk.1 (by omega) A.2 w' HPP.out.2 h
      rw [HAA.out] at I1
      rw [HBB.out] at I2
      obtain ⟨va, HVA⟩ : ∃ va, Hid (enc A.1 = va) := ⟨_, rfl⟩
      obtain ⟨vb, HVB⟩ : ∃ vb, Hid (enc B.1 = vb) := ⟨_, rfl⟩
      have JC : Hid (∀ w, Q B.1 → Q A.1 → St B.2 w → Calls _ _ _ _ _) := fun w h1 h2 h3 => KK.out.join B.1 A.1 B.2 w h1 h2 h3
      rw [HVA.out] at I1
      rw [HVB.out] at I2
      rw [HVA.out, HVB.out] at JC
      clear hwide hfour h2 hh HK HS HVC
      go_enter Tryz.func112, Tryz.ntmps112
      go_wp2_with fail
      refine LC.out.mono ?_
      rintro e w1 ⟨rfl, hs1, hk1⟩
      have S1 : Hid (St y w1) := hs1
      have K1 : Hid (Kp F w w1) := (Kp.of_below BA.out).trans hk1
      have c1 := hk1.cell HBX.out.1 (fun h => by have := HF.out _ h; omega)
      have c2 := hk1.cell HBX.out.2 (fun h => by have := HF.out _ h; omega)
      clear hs1 hk1
      go_wp2_with fail
      refine (HC.out _).mono ?_
      rintro e w2 ⟨rfl, hb2⟩
      have B3 : Hid (Below w2.heap.size w2 ((w2.alloc (.cells #[.int .i64 a, .int .i64 k] 117)).alloc (.cells #[.int .i64 k, .int .i64 b] 117))) := ((Below.refl _ _).alloc (Nat.le_refl _) _).alloc (by simp) _
      have S3 : Hid (St y ((w2.alloc (.cells #[.int .i64 a, .int .i64 k] 117)).alloc (.cells #[.int .i64 k, .int .i64 b] 117))) := KK.out.later (KK.out.later S1.out hb2) B3.out
      have K3 : Hid (Kp F w ((w2.alloc (.cells #[.int .i64 a, .int .i64 k] 117)).alloc (.cells #[.int .i64 k, .int .i64 b] 117))) := (K1.out.trans (Kp.of_below hb2)).trans (Kp.of_below B3.out)
      have HN : Hid (¬ F w2.heap.size ∧ ¬ F (w2.heap.size + 1)) := by
        have z : w.heap.size ≤ w2.heap.size := Nat.le_trans K1.out.size hb2.size
        exact ⟨fun h => by have := HF.out _ h; omega, fun h => by have := HF.out _ h; omega⟩
      have HBB2 : Hid (_ ∧ _ ∧ _ ∧ _) := two_box w2 (.int .i64 a) (.int .i64 k) (.int .i64 k) (.int .i64 b) 117 117
      have d1 := HBB2.out.2.2.1
      have d2 := HBB2.out.2.2.2
      clear hb2 c1 c2
      go_wp2_with fail
      refine (I1.out _ S3.out).mono ?_
      rintro e w4 ⟨rfl, hs4, hk4, hq4⟩
      have S4 : Hid (St A.2 w4 ∧ Q A.1) := ⟨hs4, hq4⟩
      have K4 : Hid (Kp F w w4) := K3.out.trans hk4
      have c3 := hk4.cell HBB2.out.1 HN.out.1
      have c4 := hk4.cell HBB2.out.2.1 HN.out.1
      clear hs4 hk4 hq4 HN HBB2 d1 d2
      go_wp2_with fail
      refine (I2.out _ S4.out.1).mono ?_
      rintro e w5 ⟨rfl, hs5, hk5, hq5⟩
      have S5 : Hid (St B.2 w5 ∧ Q B.1) := ⟨hs5, hq5⟩
      have K5 : Hid (Kp F w w5) := K4.out.trans hk5
      clear hs5 hk5 hq5 c3 c4
      go_wp2_with fail
      refine (JC.out _ S5.out.2 S4.out.2 S5.out.1).mono ?_
      rintro e w6 ⟨rfl, hb6⟩
      have S6 : Hid (St B.2 w6 ∧ Kp F w w6) := ⟨KK.out.later S5.out.1 hb6, K5.out.trans (Kp.of_below hb6)⟩
      clear hb6
      go_wp2
      go_ret
      rw [HGE.out]
      exact ⟨rfl, S6.out.1, S6.out.2, KK.out.qj S5.out.2 S4.out.2⟩
    all_goals (
      have HGE : Hid (go W x a b = _) := go_stop (by rw [HS.out]; omega)
      have HQ : Hid (Q _) := KK.out.qh HP.out.2 HP.out.1 (by rw [HS.out]; omega)
      rw [HG.out, HS.out, HY.out] at HGE
      rw [HS.out, HY.out, ← HGE.out] at HQ
      rw [← HGE.out] at HVC
      obtain ⟨vg, HVG⟩ : ∃ vg, Hid (enc G.1 = vg) := ⟨_, rfl⟩
      rw [HVG.out] at HVC ⊢
      clear hwide hfour HS HGE
      go_enter Tryz.func112, Tryz.ntmps112
      go_wp2_with fail
      refine LC.out.mono ?_
      rintro e w1 ⟨rfl, hs1, hk1⟩
      have S1 : Hid (St y w1) := hs1
      have K1 : Hid (Kp F w w1) := (Kp.of_below BA.out).trans hk1
      have c1 := hk1.cell HBX.out.1 (fun h => by have := HF.out _ h; omega)
      have c2 := hk1.cell HBX.out.2 (fun h => by have := HF.out _ h; omega)
      clear hs1 hk1
      go_wp2_with fail
      refine (HVC.out _ (by omega) S1.out).mono ?_
      rintro e w2 ⟨rfl, hs2, hk2⟩
      have S2 : Hid (St G.2 w2 ∧ Kp F w w2) := ⟨hs2, K1.out.trans hk2⟩
      clear hs2 hk2 c1 c2
      go_wp2
      go_ret
      exact ⟨rfl, S2.out.1, S2.out.2, HQ.out⟩)
end
end Go.Proofs.YthppkdjekfginaaGreatDoor.wi

namespace Go.Proofs.YthppkdjekfginaaGreatDoor.wt
open Go.RowKit Go.PlainAid
open Go.Proofs.YthppkdjekfginaaGreatDoor.ca Go.Proofs.YthppkdjekfginaaGreatDoor.cb Go.Proofs.YthppkdjekfginaaGreatDoor.cp Go.Proofs.YthppkdjekfginaaGreatDoor.ga Go.Proofs.YthppkdjekfginaaGreatDoor.aa Go.Proofs.YthppkdjekfginaaGreatDoor.ba Go.Proofs.YthppkdjekfginaaGreatDoor.bb Go.Proofs.YthppkdjekfginaaGreatDoor.kp
set_option linter.unusedVariables false

theorem two_box (w : World) (x y x' y' : Value) (t t' : TypeId) : ((w.alloc (.cells #[x, y] t)).alloc (.cells #[x', y'] t')).cell? ⟨w.heap.size, 0, none⟩ = some x ∧ ((w.alloc (.cells #[x, y] t)).alloc (.cells #[x', y'] t')).cell? ⟨w.heap.size, 1, none⟩ = some y ∧ ((w.alloc (.cells #[x, y] t)).alloc (.cells #[x', y'] t')).cell? ⟨w.heap.size + 1, 0, none⟩ = some x' ∧ ((w.alloc (.cells #[x, y] t)).alloc (.cells #[x', y'] t')).cell? ⟨w.heap.size + 1, 1, none⟩ = some y' := by
  have s1 : (w.alloc (.cells #[x, y] t)).heap.size = w.heap.size + 1 := by simp
  have B : Below (w.alloc (.cells #[x, y] t)).heap.size (w.alloc (.cells #[x, y] t)) ((w.alloc (.cells #[x, y] t)).alloc (.cells #[x', y'] t')) := (Below.refl _ _).alloc (Nat.le_refl _) _
  refine ⟨?_, ?_, ?_, ?_⟩
  · refine (B.cell (p := ⟨w.heap.size, 0, none⟩) (by show w.heap.size < _; rw [s1]; omega)).trans ?_
    rw [World.cell?_alloc_at _ _ _ _ rfl]; rfl
  · refine (B.cell (p := ⟨w.heap.size, 1, none⟩) (by show w.heap.size < _; rw [s1]; omega)).trans ?_
    rw [World.cell?_alloc_at _ _ _ _ rfl]; rfl
  · rw [← s1, World.cell?_alloc_at _ _ _ _ rfl]; rfl
  · rw [← s1, World.cell?_alloc_at _ _ _ _ rfl]; rfl
section
variable {X V : Type} {F : Nat → Prop} {St : X → World → Prop} {enc : V → Value} {W : Wy X V} {P : X → Nat → Nat → Prop} {Q : V → Prop} {lg hg jg : Nat} {lv hv jv : Array Value}
set_option maxHeartbeats 6400000 in
theorem walkC (K : Wk F St enc W P Q lg hg jg lv hv jv) (n : Nat) : ∀ (a b : Nat) (x : X) (w : World), b - a = n → a < b → b ≤ 4611686018427387904 → P x a b → St x w →
    Calls Tryz.prog 125 #[.agg #[.int .i64 a, .int .i64 b], .func (.func lg) #[] lv, .func (.func hg) #[] hv, .func (.func jg) #[] jv] w fun e w' => e = .returned (enc (go W x a b).1) ∧ St (go W x a b).2 w' ∧ Kp F w w' ∧ Q (go W x a b).1 := by
  induction n using Nat.strongRecOn with
  | ind n ih =>
    intro a b x w hn hab hb hP hS
    have IH : Hid (∀ (a' b' : Nat), b' - a' < n → a' < b' → b' ≤ 4611686018427387904 → ∀ x w, P x a' b' → St x w →
      Calls Tryz.prog 125 #[.agg #[.int .i64 a', .int .i64 b'], .func (.func lg) #[] lv, .func (.func hg) #[] hv, .func (.func jg) #[] jv] w fun e w' => e = .returned (enc (go W x a' b').1) ∧ St (go W x a' b').2 w' ∧ Kp F w w' ∧ Q (go W x a' b').1) := fun a' b' h1 h2 h3 x w => ih (b' - a') h1 a' b' x w rfl h2 h3
    have eg := K.lent
    have eh := K.hent
    have ej := K.jent
    have BA : Hid (Below w.heap.size w (w.alloc (.cells #[.int .i64 a, .int .i64 b] 117))) := (Below.refl _ _).alloc (Nat.le_refl _) _
    have HA : Hid (St x (w.alloc (.cells #[.int .i64 a, .int .i64 b] 117))) := K.later hS BA.out
    have LC : Hid (Calls _ _ _ _ _) := K.look x a b (w.alloc (.cells #[.int .i64 a, .int .i64 b] 117)) hab hb hP HA.out
    have HVC : Hid (∀ w, (W.lk x a b).1 < 2 → St (W.lk x a b).2 w → Calls _ _ _ _ _) := fun w h1 h2 => K.have' x a b w hab hb hP h1 h2
    have hwide := K.wide hab hP
    have hfour := K.four hab hP
    have HBX : Hid (Bx (w.alloc (.cells #[.int .i64 a, .int .i64 b] 117)) w.heap.size a b) := ⟨by rw [World.cell?_alloc_at _ _ _ _ rfl]; rfl, by rw [World.cell?_alloc_at _ _ _ _ rfl]; rfl⟩
    have HF : Hid (∀ b, F b → b < w.heap.size) := K.fl hS
    obtain ⟨s, HS⟩ : ∃ s, Hid ((W.lk x a b).1 = s) := ⟨_, rfl⟩
    obtain ⟨y, HY⟩ : ∃ y, Hid ((W.lk x a b).2 = y) := ⟨_, rfl⟩
    obtain ⟨G, HG⟩ : ∃ G, Hid (go W x a b = G) := ⟨_, rfl⟩
    have KK : Hid (Wk F St enc W P Q lg hg jg lv hv jv) := K
    have HP : Hid (P x a b ∧ a < b) := ⟨hP, hab⟩
    rw [HG.out]
    rw [HS.out, HY.out] at HVC LC
    rw [HS.out] at hwide hfour
    clear ih hS K hP
    rcases (show s = 0 ∨ s = 1 ∨ s = 2 ∨ s = 3 by omega) with rfl | rfl | rfl | rfl
    rotate_left 2
    · have h2 := hwide (by omega)
      have hh := half_lt h2
      have HC : Hid (∀ w, Calls _ _ _ _ _) := fun w => halves a b h2 hb w
      have HGE : Hid (go W x a b = _) := go_left HS.out h2
      have HPP : Hid (_ ∧ _) := KK.out.left HP.out.2 HP.out.1 HS.out
      rw [HG.out, HY.out] at HGE
      rw [HY.out] at HPP
      obtain ⟨k, HK⟩ : ∃ k, Hid (a + half (b - a) = k) := ⟨_, rfl⟩
      have hk : a < k ∧ k < b := by rw [← HK.out]; omega
      rw [HK.out] at HC HGE HPP
      unfold pv at HC
      obtain ⟨A, HAA⟩ : ∃ A, Hid (go W y a k = A) := ⟨_, rfl⟩
      rw [HAA.out] at HGE HPP
      obtain ⟨B, HBB⟩ : ∃ B, Hid (go W A.2 k b = B) := ⟨_, rfl⟩
      rw [HBB.out] at HGE
      have I1 : Hid (∀ w', St y w' → Calls _ _ _ _ _) := fun w' h => IH.out a k (by omega) hk.1 (by omega) y w' HPP.out.1 h
      have I2 : Hid (∀ w', St A.2 w' → Calls _ _ _ _ _) := fun w' h => IH.out k b (by omega) hk.2 hb A.2 w' HPP.out.2 h
      rw [HAA.out] at I1
      rw [HBB.out] at I2
      obtain ⟨va, HVA⟩ : ∃ va, Hid (enc A.1 = va) := ⟨_, rfl⟩
      obtain ⟨vb, HVB⟩ : ∃ vb, Hid (enc B.1 = vb) := ⟨_, rfl⟩
      have JC : Hid (∀ w, Q A.1 → Q B.1 → St B.2 w → Calls _ _ _ _ _) := fun w h1 h2 h3 => KK.out.join A.1 B.1 B.2 w h1 h2 h3
      rw [HVA.out] at I1
      rw [HVB.out] at I2
      rw [HVA.out, HVB.out] at JC
      clear hwide hfour h2 hh HK HS HVC
      go_enter Tryz.func125, Tryz.ntmps125
      go_wp2_with fail
      refine LC.out.mono ?_
      rintro e w1 ⟨rfl, hs1, hk1⟩
      have S1 : Hid (St y w1) := hs1
      have K1 : Hid (Kp F w w1) := (Kp.of_below BA.out).trans hk1
      have c1 := hk1.cell HBX.out.1 (fun h => by have := HF.out _ h; omega)
      have c2 := hk1.cell HBX.out.2 (fun h => by have := HF.out _ h; omega)
      clear hs1 hk1
      go_wp2_with fail
      refine (HC.out _).mono ?_
      rintro e w2 ⟨rfl, hb2⟩
      have B3 : Hid (Below w2.heap.size w2 ((w2.alloc (.cells #[.int .i64 a, .int .i64 k] 117)).alloc (.cells #[.int .i64 k, .int .i64 b] 117))) := ((Below.refl _ _).alloc (Nat.le_refl _) _).alloc (by simp) _
      have S3 : Hid (St y ((w2.alloc (.cells #[.int .i64 a, .int .i64 k] 117)).alloc (.cells #[.int .i64 k, .int .i64 b] 117))) := KK.out.later (KK.out.later S1.out hb2) B3.out
      have K3 : Hid (Kp F w ((w2.alloc (.cells #[.int .i64 a, .int .i64 k] 117)).alloc (.cells #[.int .i64 k, .int .i64 b] 117))) := (K1.out.trans (Kp.of_below hb2)).trans (Kp.of_below B3.out)
      have HN : Hid (¬ F w2.heap.size ∧ ¬ F (w2.heap.size + 1)) := by
        have z : w.heap.size ≤ w2.heap.size := Nat.le_trans K1.out.size hb2.size
        exact ⟨fun h => by have := HF.out _ h; omega, fun h => by have := HF.out _ h; omega⟩
      have HBB2 : Hid (_ ∧ _ ∧ _ ∧ _) := two_box w2 (.int .i64 a) (.int .i64 k) (.int .i64 k) (.int .i64 b) 117 117
      clear hb2 c1 c2
      go_wp2_with fail
      refine (I1.out _ S3.out).mono ?_
      rintro e w4 ⟨rfl, hs4, hk4, hq4⟩
      have S4 : Hid (St A.2 w4 ∧ Q A.1) := ⟨hs4, hq4⟩
      have K4 : Hid (Kp F w w4) := K3.out.trans hk4
      have c3 := hk4.cell HBB2.out.2.2.1 HN.out.2
      have c4 := hk4.cell HBB2.out.2.2.2 HN.out.2
      clear hs4 hk4 hq4 HN HBB2
      go_wp2_with fail
      refine (I2.out _ S4.out.1).mono ?_
      rintro e w5 ⟨rfl, hs5, hk5, hq5⟩
      have S5 : Hid (St B.2 w5 ∧ Q B.1) := ⟨hs5, hq5⟩
      have K5 : Hid (Kp F w w5) := K4.out.trans hk5
      clear hs5 hk5 hq5 c3 c4
      go_wp2_with fail
      refine (JC.out _ S4.out.2 S5.out.2 S5.out.1).mono ?_
      rintro e w6 ⟨rfl, hb6⟩
      have S6 : Hid (St B.2 w6 ∧ Kp F w w6) := ⟨KK.out.later S5.out.1 hb6, K5.out.trans (Kp.of_below hb6)⟩
      clear hb6
      go_wp2
      go_ret
      rw [HGE.out]
      exact ⟨rfl, S6.out.1, S6.out.2, KK.out.qj S4.out.2 S5.out.2⟩
    · have h2 := hwide (by omega)
      have hh := half_lt h2
      have HC : Hid (∀ w, Calls _ _ _ _ _) := fun w => halves a b h2 hb w
      have HGE : Hid (go W x a b = _) := go_right (by rw [HS.out]; omega) h2
      have HPP : Hid (_ ∧ _) := KK.out.right HP.out.2 HP.out.1 HS.out
      rw [HG.out, HY.out] at HGE
      rw [HY.out] at HPP
      obtain ⟨k, HK⟩ : ∃ k, Hid (a + half (b - a) = k) := ⟨_, rfl⟩
      have hk : a < k ∧ k < b := by rw [← HK.out]; omega
      rw [HK.out] at HC HGE HPP
      unfold pv at HC
      obtain ⟨A, HAA⟩ : ∃ A, Hid (go W y k b = A) := ⟨_, rfl⟩
      rw [HAA.out] at HGE HPP
      obtain ⟨B, HBB⟩ : ∃ B, Hid (go W A.2 a k = B) := ⟨_, rfl⟩
      rw [HBB.out] at HGE
      have I1 : Hid (∀ w', St y w' → Calls _ _ _ _ _) := fun w' h => IH.out k b (by omega) hk.2 hb y w' HPP.out.1 h
      have I2 : Hid (∀ w', St A.2 w' → Calls _ _ _ _ _) := fun w' h => IH.out a k (by omega) hk.1 (by omega) A.2 w' HPP.out.2 h
      rw [HAA.out] at I1
      rw [HBB.out] at I2
      obtain ⟨va, HVA⟩ : ∃ va, Hid (enc A.1 = va) := ⟨_, rfl⟩
      obtain ⟨vb, HVB⟩ : ∃ vb, Hid (enc B.1 = vb) := ⟨_, rfl⟩
      have JC : Hid (∀ w, Q B.1 → Q A.1 → St B.2 w → Calls _ _ _ _ _) := fun w h1 h2 h3 => KK.out.join B.1 A.1 B.2 w h1 h2 h3
      rw [HVA.out] at I1
      rw [HVB.out] at I2
      rw [HVA.out, HVB.out] at JC
      clear hwide hfour h2 hh HK HS HVC
      go_enter Tryz.func125, Tryz.ntmps125
      go_wp2_with fail
      refine LC.out.mono ?_
      rintro e w1 ⟨rfl, hs1, hk1⟩
      have S1 : Hid (St y w1) := hs1
      have K1 : Hid (Kp F w w1) := (Kp.of_below BA.out).trans hk1
      have c1 := hk1.cell HBX.out.1 (fun h => by have := HF.out _ h; omega)
      have c2 := hk1.cell HBX.out.2 (fun h => by have := HF.out _ h; omega)
      clear hs1 hk1
      go_wp2_with fail
      refine (HC.out _).mono ?_
      rintro e w2 ⟨rfl, hb2⟩
      have B3 : Hid (Below w2.heap.size w2 ((w2.alloc (.cells #[.int .i64 a, .int .i64 k] 117)).alloc (.cells #[.int .i64 k, .int .i64 b] 117))) := ((Below.refl _ _).alloc (Nat.le_refl _) _).alloc (by simp) _
      have S3 : Hid (St y ((w2.alloc (.cells #[.int .i64 a, .int .i64 k] 117)).alloc (.cells #[.int .i64 k, .int .i64 b] 117))) := KK.out.later (KK.out.later S1.out hb2) B3.out
      have K3 : Hid (Kp F w ((w2.alloc (.cells #[.int .i64 a, .int .i64 k] 117)).alloc (.cells #[.int .i64 k, .int .i64 b] 117))) := (K1.out.trans (Kp.of_below hb2)).trans (Kp.of_below B3.out)
      have HN : Hid (¬ F w2.heap.size ∧ ¬ F (w2.heap.size + 1)) := by
        have z : w.heap.size ≤ w2.heap.size := Nat.le_trans K1.out.size hb2.size
        exact ⟨fun h => by have := HF.out _ h; omega, fun h => by have := HF.out _ h; omega⟩
      have HBB2 : Hid (_ ∧ _ ∧ _ ∧ _) := two_box w2 (.int .i64 a) (.int .i64 k) (.int .i64 k) (.int .i64 b) 117 117
      have d1 := HBB2.out.2.2.1
      have d2 := HBB2.out.2.2.2
      clear hb2 c1 c2
      go_wp2_with fail
      refine (I1.out _ S3.out).mono ?_
      rintro e w4 ⟨rfl, hs4, hk4, hq4⟩
      have S4 : Hid (St A.2 w4 ∧ Q A.1) := ⟨hs4, hq4⟩
      have K4 : Hid (Kp F w w4) := K3.out.trans hk4
      have c3 := hk4.cell HBB2.out.1 HN.out.1
      have c4 := hk4.cell HBB2.out.2.1 HN.out.1
      clear hs4 hk4 hq4 HN HBB2 d1 d2
      go_wp2_with fail
      refine (I2.out _ S4.out.1).mono ?_
      rintro e w5 ⟨rfl, hs5, hk5, hq5⟩
      have S5 : Hid (St B.2 w5 ∧ Q B.1) := ⟨hs5, hq5⟩
      have K5 : Hid (Kp F w w5) := K4.out.trans hk5
      clear hs5 hk5 hq5 c3 c4
      go_wp2_with fail
      refine (JC.out _ S5.out.2 S4.out.2 S5.out.1).mono ?_
      rintro e w6 ⟨rfl, hb6⟩
      have S6 : Hid (St B.2 w6 ∧ Kp F w w6) := ⟨KK.out.later S5.out.1 hb6, K5.out.trans (Kp.of_below hb6)⟩
      clear hb6
      go_wp2
      go_ret
      rw [HGE.out]
      exact ⟨rfl, S6.out.1, S6.out.2, KK.out.qj S5.out.2 S4.out.2⟩
    all_goals (
      have HGE : Hid (go W x a b = _) := go_stop (by rw [HS.out]; omega)
      have HQ : Hid (Q _) := KK.out.qh HP.out.2 HP.out.1 (by rw [HS.out]; omega)
      rw [HG.out, HS.out, HY.out] at HGE
      rw [HS.out, HY.out, ← HGE.out] at HQ
      rw [← HGE.out] at HVC
      obtain ⟨vg, HVG⟩ : ∃ vg, Hid (enc G.1 = vg) := ⟨_, rfl⟩
      rw [HVG.out] at HVC ⊢
      clear hwide hfour HS HGE
      go_enter Tryz.func125, Tryz.ntmps125
      go_wp2_with fail
      refine LC.out.mono ?_
      rintro e w1 ⟨rfl, hs1, hk1⟩
      have S1 : Hid (St y w1) := hs1
      have K1 : Hid (Kp F w w1) := (Kp.of_below BA.out).trans hk1
      have c1 := hk1.cell HBX.out.1 (fun h => by have := HF.out _ h; omega)
      have c2 := hk1.cell HBX.out.2 (fun h => by have := HF.out _ h; omega)
      clear hs1 hk1
      go_wp2_with fail
      refine (HVC.out _ (by omega) S1.out).mono ?_
      rintro e w2 ⟨rfl, hs2, hk2⟩
      have S2 : Hid (St G.2 w2 ∧ Kp F w w2) := ⟨hs2, K1.out.trans hk2⟩
      clear hs2 hk2 c1 c2
      go_wp2
      go_ret
      exact ⟨rfl, S2.out.1, S2.out.2, HQ.out⟩)
end
end Go.Proofs.YthppkdjekfginaaGreatDoor.wt

namespace Go.Proofs.YthppkdjekfginaaGreatDoor.tl
open Go.RowKit Go.PlainAid
open Go.Proofs.YthppkdjekfginaaGreatDoor.ca Go.Proofs.YthppkdjekfginaaGreatDoor.cb Go.Proofs.YthppkdjekfginaaGreatDoor.cp Go.Proofs.YthppkdjekfginaaGreatDoor.ga Go.Proofs.YthppkdjekfginaaGreatDoor.aa Go.Proofs.YthppkdjekfginaaGreatDoor.ba Go.Proofs.YthppkdjekfginaaGreatDoor.bb Go.Proofs.YthppkdjekfginaaGreatDoor.kp Go.Proofs.YthppkdjekfginaaGreatDoor.lk Go.Proofs.YthppkdjekfginaaGreatDoor.wi
set_option linter.unusedVariables false

-- the tally of a shape
def WT (lk : Nat → Nat → Nat) (cur : Nat → Nat) : Wy Nat Int where
  lk := fun x a b => (lk a b, if lk a b < 2 then cur b else x)
  hv := fun x a b s => (if s = 1 then 1 else 0, x)
  jn := fun l r => IntKind.i64.wrap (l + r)
theorem go_tally {lk : Nat → Nat → Nat} {cur : Nat → Nat} (hw : ∀ {a b}, a < b → 2 ≤ lk a b → 2 ≤ b - a) (hf : ∀ a b, lk a b ≤ 3) (ht : ∀ {a b}, lk a b = 3 → ∀ p, cur p = cur 0) (n : Nat) :
    ∀ a b, b - a = n → a < b → b ≤ 4611686018427387904 → go (WT lk cur) (cur a) a b = (((WL lk a b).length : Int), cur b) ∧ (WL lk a b).length ≤ b - a := by
  induction n using Nat.strongRecOn with
  | ind n ih =>
    intro a b hn hab hb
    have h3 := hf a b
    rcases (show lk a b = 0 ∨ lk a b = 1 ∨ lk a b = 2 ∨ lk a b = 3 by omega) with h | h | h | h
    · have e : (WT lk cur).lk (cur a) a b = (0, cur b) := by show (lk a b, _) = _; rw [h]; rfl
      rw [go_stop (by rw [e]; show 0 < 2; omega), e, WL_pass h]
      exact ⟨rfl, by simp⟩
    · have e : (WT lk cur).lk (cur a) a b = (1, cur b) := by show (lk a b, _) = _; rw [h]; rfl
      rw [go_stop (by rw [e]; show 1 < 2; omega), e, WL_take h]
      exact ⟨rfl, by simp; omega⟩
    · have h2 := hw hab (by omega)
      have hh := half_lt h2
      have e : (WT lk cur).lk (cur a) a b = (2, cur a) := by show (lk a b, _) = _; rw [h]; rfl
      obtain ⟨i1, l1⟩ := ih (half (b - a)) (by omega) a (a + half (b - a)) (by omega) (by omega) (by omega)
      obtain ⟨i2, l2⟩ := ih (b - a - half (b - a)) (by omega) (a + half (b - a)) b (by omega) (by omega) hb
      rw [go_left (by rw [e]) h2, e]
      simp only
      rw [i1, i2, WL_left h h2, List.length_append]
      refine ⟨?_, by omega⟩
      show (IntKind.i64.wrap _, _) = _
      rw [IntKind.wrap_i64]
      simp only [Prod.mk.injEq, and_true]
      omega
    · have h2 := hw hab (by omega)
      have hh := half_lt h2
      have hc := ht h
      have e : (WT lk cur).lk (cur a) a b = (3, cur a) := by show (lk a b, _) = _; rw [h]; rfl
      obtain ⟨i1, l1⟩ := ih (half (b - a)) (by omega) a (a + half (b - a)) (by omega) (by omega) (by omega)
      obtain ⟨i2, l2⟩ := ih (b - a - half (b - a)) (by omega) (a + half (b - a)) b (by omega) (by omega) hb
      rw [go_right (by rw [e]; exact Nat.le_refl _) h2, e]
      simp only
      rw [show cur a = cur (a + half (b - a)) by rw [hc a, hc (a + half (b - a))], i2]
      simp only
      rw [show cur b = cur a by rw [hc a, hc b], i1, WL_right (by omega) h2, List.length_append]
      refine ⟨?_, by omega⟩
      show (IntKind.i64.wrap _, _) = _
      rw [IntKind.wrap_i64, show cur (a + half (b - a)) = cur a by rw [hc a, hc (a + half (b - a))]]
      simp only [Prod.mk.injEq, and_true]
      omega
theorem haveT (a b s : Nat) (hs : s < 2) (w : World) : Calls Tryz.prog 111 #[.agg #[.int .i64 a, .int .i64 b], .int .i64 s] w fun e w' => e = .returned (.int .i64 (if s = 1 then 1 else 0)) ∧ Below w.heap.size w w' := by
  have B0 : Hid (Below w.heap.size w (w.alloc (.cells #[.int .i64 a, .int .i64 b] 117))) := (Below.refl _ _).alloc (Nat.le_refl _) _
  rcases (show s = 0 ∨ s = 1 by omega) with rfl | rfl
  · go_enter Tryz.func111, Tryz.ntmps111
    go_wp2
    go_ret
    exact ⟨rfl, B0.out⟩
  · go_enter Tryz.func111, Tryz.ntmps111
    go_wp2
    go_ret
    exact ⟨rfl, B0.out⟩
theorem joinT (l r : Int) (w : World) : Calls Tryz.prog 113 #[.int .i64 l, .int .i64 r] w fun e w' => e = .returned (.int .i64 (IntKind.i64.wrap (l + r))) ∧ w' = w := by
  obtain ⟨x, HX⟩ : ∃ x, Hid (IntKind.i64.wrap (l + r) = x) := ⟨_, rfl⟩
  have hx := HX.out
  rw [hx]
  go_enter Tryz.func113, Tryz.ntmps113
  go_wp2
  go_ret
  exact ⟨rfl, rfl⟩
section
variable {D F : Nat → Prop} {SS : Nat → World → Prop} {lk : Nat → Nat → Nat} {cur : Nat → Nat} {lg : Nat} {lv : Array Value}
theorem KT (S : Shp D F SS lk cur lg lv) : Wk F SS (fun v : Int => Value.int .i64 v) (WT lk cur) (fun x a b => x = cur a ∧ a < b ∧ b ≤ 4611686018427387904) (fun _ => True) lg 111 113 lv #[] #[] where
  lent := S.enter
  hent := fun args w => by simp [go_sem]
  jent := fun args w => by simp [go_sem]
  later := fun h b => S.later h b
  fl := fun h b hb => S.fl h b (S.fd b hb)
  look := fun x a b w hab hb hP hS => by
    obtain ⟨rfl, _⟩ := hP
    exact S.call a b w hab hb hS
  have' := fun x a b w hab hb hP h hS => (haveT a b (lk a b) h w).mono fun e w' hh => ⟨hh.1, S.later hS hh.2, Kp.of_below hh.2⟩
  join := fun l r x w _ _ _ => (joinT l r w).mono fun e w' hh => ⟨hh.1, by rw [hh.2]; exact Below.refl _ _⟩
  qh := fun _ _ _ => trivial
  qj := fun _ _ => trivial
  wide := fun hab _ h => S.wide hab h
  four := fun _ _ => S.four _ _
  left := fun {x a b} hab hP h => by
    obtain ⟨rfl, _, hb⟩ := hP
    have h' : lk a b = 2 := h
    have h2 := S.wide hab (by omega)
    have hh := half_lt h2
    have e : (WT lk cur).lk (cur a) a b = (2, cur a) := by show (lk a b, _) = _; rw [h']; rfl
    rw [e]
    simp only
    rw [(go_tally S.wide S.four S.turn (half (b - a)) a (a + half (b - a)) (by omega) (by omega) (by omega)).1]
    exact ⟨⟨by first | rfl | trivial, by omega, by omega⟩, rfl, by omega, hb⟩
  right := fun {x a b} hab hP h => by
    obtain ⟨rfl, _, hb⟩ := hP
    have h' : lk a b = 3 := h
    have hc := S.turn h'
    have h2 := S.wide hab (by omega)
    have hh := half_lt h2
    have e : (WT lk cur).lk (cur a) a b = (3, cur a) := by show (lk a b, _) = _; rw [h']; rfl
    rw [e]
    simp only
    rw [show cur a = cur (a + half (b - a)) by rw [hc a, hc (a + half (b - a))], (go_tally S.wide S.four S.turn (b - a - half (b - a)) (a + half (b - a)) b (by omega) (by omega) hb).1]
    exact ⟨⟨by first | rfl | trivial, by omega, hb⟩, by first | (show cur b = cur (a + half (b - a)); rw [hc b, hc (a + half (b - a))]) | (show cur b = cur a; rw [hc a, hc b]), by omega, by omega⟩
theorem tallyC (S : Shp D F SS lk cur lg lv) (n : Nat) (h1 : 1 ≤ n) (hn : n ≤ 4611686018427387904) (w : World) (hS : SS (cur 0) w) :
    Calls Tryz.prog 77 #[.int .i64 n, .func (.func lg) #[] lv] w fun e w' => e = .returned (.int .i64 ((WL lk 0 n).length : Nat)) ∧ SS (cur n) w' ∧ Kp F w w' := by
  have HC : Hid (Calls _ _ _ _ _) := walkC (KT S) n 0 n (cur 0) w rfl (by omega) hn ⟨rfl, by omega, hn⟩ hS
  rw [(go_tally S.wide S.four S.turn n 0 n rfl (by omega) hn).1] at HC
  clear hS
  go_enter Tryz.func77, Tryz.ntmps77
  go_wp2_with fail
  refine HC.out.mono ?_
  rintro e w1 ⟨rfl, hs, hk, _⟩
  have H : Hid (SS (cur n) w1 ∧ Kp F w w1) := ⟨hs, hk⟩
  clear hs hk
  go_wp2
  go_ret
  exact ⟨rfl, H.out.1, H.out.2⟩
end
-- of an older tree without leaves nothing is asked
theorem tallyZ (ob mb n : Nat) (w : World) (hO : Bx w ob 0 0) (hP : w.cell? ⟨mb, 0, none⟩ = some (.int .i64 0)) :
    Calls Tryz.prog 77 #[.int .i64 n, .func (.func 116) #[] #[.pointer (some ⟨mb, 0, none⟩), .pointer (some ⟨ob, 0, none⟩)]] w fun e w' => e = .returned (.int .i64 0) ∧ Below w.heap.size w w' := by
  have HW : Hid (Calls Tryz.prog 112 #[.agg #[.int .i64 0, .int .i64 n], .func (.func 116) #[] #[.pointer (some ⟨mb, 0, none⟩), .pointer (some ⟨ob, 0, none⟩)], .func (.func 111) #[] #[], .func (.func 113) #[] #[]] w fun e w' => e = .returned (.int .i64 0) ∧ Below w.heap.size w w') := by
    have BA : Hid (Below w.heap.size w (w.alloc (.cells #[.int .i64 0, .int .i64 n] 117))) := (Below.refl _ _).alloc (Nat.le_refl _) _
    have HBX : Hid (Bx (w.alloc (.cells #[.int .i64 0, .int .i64 n] 117)) w.heap.size 0 n) := part_box w 0 n
    have L : Hid (Calls _ _ _ _ _) := lookZ ob mb 0 n (w.alloc (.cells #[.int .i64 0, .int .i64 n] 117)) (hO.later BA.out) ((BA.out.cell (World.block_lt_of_cell? _ _ hP)).trans hP)
    have HV : Hid (∀ w, Calls _ _ _ _ _) := fun w => haveT 0 n 0 (by omega) w
    show Calls _ _ _ _ _
    clear hO hP
    go_enter Tryz.func112, Tryz.ntmps112
    go_wp2_with fail
    refine L.out.mono ?_
    rintro e w1 ⟨rfl, hb1⟩
    have B1 : Hid (Below w.heap.size w w1) := over BA.out hb1
    obtain ⟨c1, c2⟩ := HBX.out.later hb1
    clear hb1
    go_wp2_with fail
    refine (HV.out _).mono ?_
    rintro e w2 ⟨rfl, hb2⟩
    have B2 : Hid (Below w.heap.size w w2) := over B1.out hb2
    clear hb2 c1 c2
    go_wp2
    go_ret
    exact ⟨rfl, B2.out⟩
  clear hO hP
  go_enter Tryz.func77, Tryz.ntmps77
  go_wp2_with fail
  refine HW.out.mono ?_
  rintro e w1 ⟨rfl, hb1⟩
  have B1 : Hid (Below w.heap.size w w1) := hb1
  clear hb1
  go_wp2
  go_ret
  exact ⟨rfl, B1.out⟩
end Go.Proofs.YthppkdjekfginaaGreatDoor.tl

namespace Go.Proofs.YthppkdjekfginaaGreatDoor.mj
open Go.RowKit Go.PlainAid
open Go.Proofs.YthppkdjekfginaaGreatDoor.ca Go.Proofs.YthppkdjekfginaaGreatDoor.cp Go.Proofs.YthppkdjekfginaaGreatDoor.mi
set_option linter.unusedVariables false

set_option maxHeartbeats 1600000 in
theorem checkP (v : Value) (xs : List Int) (n : Int) (w : World) (hR : ReadsI w v xs) (hz : xs.length ≤ 140737488355328) :
    Calls Tryz.prog 110 #[.int .i64 n, v] w fun e w' => e = .returned (.int .i64 (places xs n)) ∧ w' = w := by
  obtain ⟨a, cap, rfl, _, h1⟩ := hR
  have HC : Hid (xs.length = 0 ∨ ∃ b off, a = some ⟨b, off, none⟩ ∧ ∀ i, i < xs.length → w.cell? ⟨b, off + i, none⟩ = some (.int .i64 (xs.getD i 0))) := h1
  obtain ⟨l, HN⟩ : ∃ n, Hid (xs.length = n) := ⟨_, rfl⟩
  obtain ⟨r, HR⟩ : ∃ r, Hid (places xs n = r) := ⟨_, rfl⟩
  rw [HR.out]
  rw [HN.out] at HC hz ⊢
  clear h1
  by_cases h0 : l = 0
  · have HE : Hid (r = 82) := by
      show _ = _
      rw [← HR.out]; unfold places; rw [HN.out, if_pos h0]
    subst h0
    go_enter Tryz.func110, Tryz.ntmps110
    go_wp2
    go_ret
    exact ⟨by first | (rw [HE.out]; done) | (rw [HE.out]; rfl), rfl⟩
  · have hb : ((l : Int) == 0) = false := by rw [beq_eq_false_iff_ne]; omega
    by_cases h2 : 1024 < l
    · have HE : Hid (r = 83) := by
        show _ = _
        rw [← HR.out]; unfold places; rw [HN.out, if_neg h0, if_pos h2]
      have hb2 : decide ((1024 : Int) < l) = true := decide_eq_true (by omega)
      clear h0 h2
      go_enter Tryz.func110, Tryz.ntmps110
      go_wp2
      go_ret
      exact ⟨by first | (rw [HE.out]; done) | (rw [HE.out]; rfl), rfl⟩
    · have HS0 : Hid (scan (bad xs n) l 0 = r) := by
        show _ = _
        rw [← HR.out]; unfold places; rw [HN.out, if_neg h0, if_neg h2]
      have hb2 : decide ((1024 : Int) < l) = false := decide_eq_false (by omega)
      have HL : Hid (l ≠ 0 ∧ l ≤ 1024) := ⟨h0, by omega⟩
      clear h0 h2
      go_enter Tryz.func110, Tryz.ntmps110
      go_wp2
      go_loopw [15] (fun i wr => ∃ k : Nat, k ≤ l ∧ i = .int .i64 k ∧ Hid (scan (bad xs n) (l - k) k = r) ∧ w = wr) (fun i _ => (l - intOf i).toNat)
      case atStart => exact ⟨0, by omega, rfl, HS0, rfl⟩
      case round =>
        obtain ⟨k, hk, rfl, HS, rfl⟩ := hrel
        have HB := HL.out
        by_cases hlt : k < l
        · have hlt' : (k : Int) < l := by omega
          obtain ⟨b, off, rfl, hc⟩ : ∃ b off, a = some ⟨b, off, none⟩ ∧ ∀ i, i < l → w.cell? ⟨b, off + i, none⟩ = some (.int .i64 (xs.getD i 0)) := by
            rcases HC.out with h | h
            · omega
            · exact h
          obtain ⟨X, HX⟩ : ∃ X, Hid (xs.getD k 0 = X) := ⟨_, rfl⟩
          have c1 := hc k hlt
          rw [HX.out] at c1
          have HST : Hid (scan (bad xs n) (l - k) k = if bad xs n k = 0 then scan (bad xs n) (l - (k + 1)) (k + 1) else bad xs n k) := by
            show _ = _
            rw [show l - k = (l - (k + 1)) + 1 by omega]; rfl
          by_cases x1 : X < 0
          · have d1 : decide (X < 0) = true := decide_eq_true x1
            have HE : Hid (r = 81) := by
              show _ = _
              rw [← HS.out, HST.out, show bad xs n k = 81 by unfold bad; rw [HX.out, if_pos x1]]; rfl
            clear x1 hc hb hb2 HB
            go_wp2
            go_ret
            exact ⟨by first | (rw [HE.out]; done) | (rw [HE.out]; rfl), rfl⟩
          · have d1 : decide (X < 0) = false := decide_eq_false x1
            by_cases x2 : n ≤ X
            · have d2 : decide (n ≤ X) = true := decide_eq_true x2
              have HE : Hid (r = 81) := by
                show _ = _
                rw [← HS.out, HST.out, show bad xs n k = 81 by unfold bad; rw [HX.out, if_neg x1, if_pos x2]]; rfl
              clear x1 x2 hc hb hb2 HB
              go_wp2
              go_ret
              exact ⟨by first | (rw [HE.out]; done) | (rw [HE.out]; rfl), rfl⟩
            · have d2 : decide (n ≤ X) = false := decide_eq_false x2
              cases k with
              | zero =>
                have HS1 : Hid (scan (bad xs n) (l - (0 + 1)) (0 + 1) = r) := by
                  show _ = _
                  rw [← HS.out, HST.out, if_pos (show bad xs n 0 = 0 by unfold bad; rw [HX.out, if_neg x1, if_neg x2, if_neg (by omega)])]
                have d3 : decide ((0 : Int) < ((0 : Nat) : Int)) = false := rfl
                rw [Nat.add_zero] at c1
                clear x1 x2 hc hb hb2 HB HX
                go_wp2
                go_roundw
                case rel => exact ⟨0 + 1, by omega, by go_num, HS1.out, by first | rfl | trivial⟩
                case measure => simp [intOf]; omega
              | succ k =>
                obtain ⟨Y, HY⟩ : ∃ X, Hid (xs.getD k 0 = X) := ⟨_, rfl⟩
                have c2 := hc k (by omega)
                rw [HY.out] at c2
                have e1 : (((k + 1 : Nat) : Int) - 1) = k := by omega
                have d3 : decide ((0 : Int) < ((k + 1 : Nat) : Int)) = true := decide_eq_true (by omega)
                by_cases x4 : X ≤ Y
                · have d4 : decide (X ≤ Y) = true := decide_eq_true x4
                  have HE : Hid (r = 84) := by
                    show _ = _
                    rw [← HS.out, HST.out, show bad xs n (k + 1) = 84 by unfold bad; rw [HX.out, Nat.add_sub_cancel, HY.out, if_neg x1, if_neg x2, if_pos ⟨by omega, x4⟩]]; rfl
                  clear x1 x2 x4 hc hb hb2 HB
                  go_wp2
                  go_ret
                  exact ⟨by first | (rw [HE.out]; done) | (rw [HE.out]; rfl), rfl⟩
                · have d4 : decide (X ≤ Y) = false := decide_eq_false x4
                  have HS1 : Hid (scan (bad xs n) (l - (k + 1 + 1)) (k + 1 + 1) = r) := by
                    show _ = _
                    rw [← HS.out, HST.out, if_pos (show bad xs n (k + 1) = 0 by unfold bad; rw [HX.out, Nat.add_sub_cancel, HY.out, if_neg x1, if_neg x2, if_neg (fun h => x4 h.2)])]
                  clear x1 x2 x4 hc hb hb2 HB
                  go_wp2
                  go_roundw
                  case rel => exact ⟨k + 1 + 1, by omega, by go_num, HS1.out, by first | rfl | trivial⟩
                  case measure => simp [intOf]; omega
        · have hlt' : ¬ (k : Int) < l := by omega
          have HE : Hid (r = 0) := by
            show _ = _
            rw [← HS.out, show l - k = 0 by omega]; rfl
          clear hlt hb hb2 HB
          go_wp2
          go_ret
          exact ⟨by first | (rw [HE.out]; done) | (rw [HE.out]; rfl), rfl⟩
end Go.Proofs.YthppkdjekfginaaGreatDoor.mj

namespace Go.Proofs.YthppkdjekfginaaGreatDoor.co
open Go.RowKit Go.PlainAid
open Go.Proofs.YthppkdjekfginaaGreatDoor.ca Go.Proofs.YthppkdjekfginaaGreatDoor.cb Go.Proofs.YthppkdjekfginaaGreatDoor.cp Go.Proofs.YthppkdjekfginaaGreatDoor.ga Go.Proofs.YthppkdjekfginaaGreatDoor.aa Go.Proofs.YthppkdjekfginaaGreatDoor.ba Go.Proofs.YthppkdjekfginaaGreatDoor.bb Go.Proofs.YthppkdjekfginaaGreatDoor.kp Go.Proofs.YthppkdjekfginaaGreatDoor.lk Go.Proofs.YthppkdjekfginaaGreatDoor.mi Go.Proofs.YthppkdjekfginaaGreatDoor.mj Go.Proofs.YthppkdjekfginaaGreatDoor.lm Go.Proofs.YthppkdjekfginaaGreatDoor.tl
set_option linter.unusedVariables false

-- what is refused, and how many hashes there are
def ref9 (kind a b n : Int) (xs : List Int) : Int :=
  if kind < 1 ∨ 4 < kind then 110 else if n < 0 ∨ 4611686018427387904 < n then 80 else
  if kind = 1 then (if a < 0 ∨ n ≤ a then 81 else 0) else if kind = 2 then (if a < 0 ∨ n < a then 80 else 0) else
  if kind = 3 then (if a < 0 ∨ b ≤ a ∨ n < b then 81 else 0) else places xs n
def num9 (kind a b n : Int) (xs : List Int) : Nat :=
  if kind = 1 then (WL (lkI a.toNat) 0 n.toNat).length else if kind = 2 then (if a = 0 then 0 else (WL (lkC a.toNat) 0 n.toNat).length) else
  if kind = 3 then (WL (lkR a.toNat b.toNat) 0 n.toNat).length else (WL (lkM (natL xs)) 0 n.toNat).length
def cnt9 (kind a b n : Int) (xs : List Int) : Int × Int := if ref9 kind a b n xs = 0 then (((num9 kind a b n xs : Nat) : Int), 0) else (0, ref9 kind a b n xs)
set_option maxHeartbeats 1600000 in
theorem refuseC (kind a b n : Int) (v : Value) (xs : List Int) (w : World) (hR : ReadsI w v xs) (hz : xs.length ≤ 140737488355328) :
    Calls Tryz.prog 76 #[.int .i64 kind, .int .i64 a, .int .i64 b, .int .i64 n, v] w fun e w' => e = .returned (.int .i64 (ref9 kind a b n xs)) ∧ w' = w := by
  have PC : Hid (Calls _ _ _ _ _) := checkP v xs n w hR hz
  obtain ⟨r, HR⟩ : ∃ r, Hid (ref9 kind a b n xs = r) := ⟨_, rfl⟩
  rw [HR.out]
  have hr := HR.out
  unfold ref9 at hr
  clear hR
  by_cases k1 : kind < 1
  · obtain rfl : 110 = r := by rw [← hr, if_pos (.inl k1)]
    have d1 : decide (kind < 1) = true := decide_eq_true k1
    clear hr k1
    go_enter Tryz.func76, Tryz.ntmps76
    go_wp2
    go_ret
    exact ⟨rfl, rfl⟩
  have d1 : decide (kind < 1) = false := decide_eq_false k1
  by_cases k2 : 4 < kind
  · obtain rfl : 110 = r := by rw [← hr, if_pos (.inr k2)]
    have d2 : decide (4 < kind) = true := decide_eq_true k2
    clear hr k1 k2
    go_enter Tryz.func76, Tryz.ntmps76
    go_wp2
    go_ret
    exact ⟨rfl, rfl⟩
  have d2 : decide (4 < kind) = false := decide_eq_false k2
  rw [if_neg (by omega)] at hr
  by_cases n1 : n < 0
  · obtain rfl : 80 = r := by rw [← hr, if_pos (.inl n1)]
    have d3 : decide (n < 0) = true := decide_eq_true n1
    clear hr k1 k2 n1
    go_enter Tryz.func76, Tryz.ntmps76
    go_wp2
    go_ret
    exact ⟨rfl, rfl⟩
  have d3 : decide (n < 0) = false := decide_eq_false n1
  by_cases n2 : 4611686018427387904 < n
  · obtain rfl : 80 = r := by rw [← hr, if_pos (.inr n2)]
    have d4 : decide (4611686018427387904 < n) = true := decide_eq_true n2
    clear hr k1 k2 n1 n2
    go_enter Tryz.func76, Tryz.ntmps76
    go_wp2
    go_ret
    exact ⟨rfl, rfl⟩
  have d4 : decide (4611686018427387904 < n) = false := decide_eq_false n2
  rw [if_neg (by omega)] at hr
  rcases (show kind = 1 ∨ kind = 2 ∨ kind = 3 ∨ kind = 4 by omega) with rfl | rfl | rfl | rfl
  · rw [if_pos rfl] at hr
    by_cases a1 : a < 0
    · obtain rfl : 81 = r := by rw [← hr, if_pos (.inl a1)]
      have d5 : decide (a < 0) = true := decide_eq_true a1
      clear hr k1 k2 n1 n2 a1
      go_enter Tryz.func76, Tryz.ntmps76
      go_wp2
      go_ret
      exact ⟨rfl, rfl⟩
    have d5 : decide (a < 0) = false := decide_eq_false a1
    by_cases a2 : n ≤ a
    · obtain rfl : 81 = r := by rw [← hr, if_pos (.inr a2)]
      have d6 : decide (n ≤ a) = true := decide_eq_true a2
      clear hr k1 k2 n1 n2 a1 a2
      go_enter Tryz.func76, Tryz.ntmps76
      go_wp2
      go_ret
      exact ⟨rfl, rfl⟩
    have d6 : decide (n ≤ a) = false := decide_eq_false a2
    obtain rfl : 0 = r := by rw [← hr, if_neg (by omega)]
    clear hr k1 k2 n1 n2 a1 a2
    go_enter Tryz.func76, Tryz.ntmps76
    go_wp2
    go_ret
    exact ⟨rfl, rfl⟩
  · rw [if_neg (by omega), if_pos rfl] at hr
    by_cases a1 : a < 0
    · obtain rfl : 80 = r := by rw [← hr, if_pos (.inl a1)]
      have d5 : decide (a < 0) = true := decide_eq_true a1
      clear hr k1 k2 n1 n2 a1
      go_enter Tryz.func76, Tryz.ntmps76
      go_wp2
      go_ret
      exact ⟨rfl, rfl⟩
    have d5 : decide (a < 0) = false := decide_eq_false a1
    by_cases a2 : n < a
    · obtain rfl : 80 = r := by rw [← hr, if_pos (.inr a2)]
      have d6 : decide (n < a) = true := decide_eq_true a2
      clear hr k1 k2 n1 n2 a1 a2
      go_enter Tryz.func76, Tryz.ntmps76
      go_wp2
      go_ret
      exact ⟨rfl, rfl⟩
    have d6 : decide (n < a) = false := decide_eq_false a2
    obtain rfl : 0 = r := by rw [← hr, if_neg (by omega)]
    clear hr k1 k2 n1 n2 a1 a2
    go_enter Tryz.func76, Tryz.ntmps76
    go_wp2
    go_ret
    exact ⟨rfl, rfl⟩
  · rw [if_neg (by omega), if_neg (by omega), if_pos rfl] at hr
    by_cases a1 : a < 0
    · obtain rfl : 81 = r := by rw [← hr, if_pos (.inl a1)]
      have d5 : decide (a < 0) = true := decide_eq_true a1
      clear hr k1 k2 n1 n2 a1
      go_enter Tryz.func76, Tryz.ntmps76
      go_wp2
      go_ret
      exact ⟨rfl, rfl⟩
    have d5 : decide (a < 0) = false := decide_eq_false a1
    by_cases a2 : b ≤ a
    · obtain rfl : 81 = r := by rw [← hr, if_pos (.inr (.inl a2))]
      have d6 : decide (b ≤ a) = true := decide_eq_true a2
      clear hr k1 k2 n1 n2 a1 a2
      go_enter Tryz.func76, Tryz.ntmps76
      go_wp2
      go_ret
      exact ⟨rfl, rfl⟩
    have d6 : decide (b ≤ a) = false := decide_eq_false a2
    by_cases a3 : n < b
    · obtain rfl : 81 = r := by rw [← hr, if_pos (.inr (.inr a3))]
      have d7 : decide (n < b) = true := decide_eq_true a3
      clear hr k1 k2 n1 n2 a1 a2 a3
      go_enter Tryz.func76, Tryz.ntmps76
      go_wp2
      go_ret
      exact ⟨rfl, rfl⟩
    have d7 : decide (n < b) = false := decide_eq_false a3
    obtain rfl : 0 = r := by rw [← hr, if_neg (by omega)]
    clear hr k1 k2 n1 n2 a1 a2 a3
    go_enter Tryz.func76, Tryz.ntmps76
    go_wp2
    go_ret
    exact ⟨rfl, rfl⟩
  · rw [if_neg (by omega), if_neg (by omega), if_neg (by omega)] at hr
    rw [hr] at PC
    clear hr k1 k2 n1 n2
    go_enter Tryz.func76, Tryz.ntmps76
    go_wp2_with fail
    refine PC.out.mono ?_
    rintro e w1 ⟨rfl, rfl⟩
    go_wp2
    go_ret
    exact ⟨rfl, rfl⟩
-- the shapes are made
theorem inclusionC (i : Int) (w : World) : Calls Tryz.prog 114 #[.int .i64 i] w fun e w' => e = .returned (.func (.func 127) #[] #[.pointer (some ⟨w.heap.size, 0, none⟩)]) ∧ w' = w.alloc (.cells #[.int .i64 i] 3) := by
  go_enter Tryz.func114, Tryz.ntmps114
  go_wp2
  go_ret
  exact ⟨rfl, rfl⟩
theorem consistencyC (m : Int) (w : World) : Calls Tryz.prog 84 #[.int .i64 m] w fun e w' => e = .returned (.func (.func 116) #[] #[.pointer (some ⟨w.heap.size, 0, none⟩), .pointer (some ⟨w.heap.size + 1, 0, none⟩)]) ∧ w' = (w.alloc (.cells #[.int .i64 m] 3)).alloc (.cells #[.int .i64 0, .int .i64 m] 117) := by
  go_enter Tryz.func84, Tryz.ntmps84
  go_wp2
  go_ret
  exact ⟨by simp, rfl⟩
theorem rangedC (lo hi : Int) (w : World) : Calls Tryz.prog 67 #[.int .i64 lo, .int .i64 hi] w fun e w' => e = .returned (.func (.func 105) #[] #[.pointer (some ⟨w.heap.size, 0, none⟩), .pointer (some ⟨w.heap.size + 1, 0, none⟩)]) ∧ w' = (w.alloc (.cells #[.int .i64 lo] 3)).alloc (.cells #[.int .i64 hi] 3) := by
  go_enter Tryz.func67, Tryz.ntmps67
  go_wp2
  go_ret
  exact ⟨by simp, rfl⟩
theorem multiC (a : Option Addr) (l c : Nat) (w : World) : Calls Tryz.prog 72 #[.slice a l c] w fun e w' => e = .returned (.func (.func 107) #[] #[.pointer (some ⟨w.heap.size, 0, none⟩)]) ∧ w' = w.alloc (.cells #[.slice a l c] 33) := by
  go_enter Tryz.func72, Tryz.ntmps72
  go_wp2
  go_ret
  exact ⟨rfl, rfl⟩
end Go.Proofs.YthppkdjekfginaaGreatDoor.co

namespace Go.Proofs.YthppkdjekfginaaGreatDoor.cn
open Go.RowKit Go.PlainAid
open Go.Proofs.YthppkdjekfginaaGreatDoor.ca Go.Proofs.YthppkdjekfginaaGreatDoor.cb Go.Proofs.YthppkdjekfginaaGreatDoor.cp Go.Proofs.YthppkdjekfginaaGreatDoor.ga Go.Proofs.YthppkdjekfginaaGreatDoor.aa Go.Proofs.YthppkdjekfginaaGreatDoor.ba Go.Proofs.YthppkdjekfginaaGreatDoor.bb Go.Proofs.YthppkdjekfginaaGreatDoor.kp Go.Proofs.YthppkdjekfginaaGreatDoor.lk Go.Proofs.YthppkdjekfginaaGreatDoor.mi Go.Proofs.YthppkdjekfginaaGreatDoor.mj Go.Proofs.YthppkdjekfginaaGreatDoor.lm Go.Proofs.YthppkdjekfginaaGreatDoor.tl Go.Proofs.YthppkdjekfginaaGreatDoor.co
set_option linter.unusedVariables false

def Made (w : World) (n t : Nat) (e : Ending) (w1 : World) : Prop :=
  Below w.heap.size w w1 ∧ ∃ lg lv, e = .returned (.func (.func lg) #[] lv) ∧ Calls Tryz.prog 77 #[.int .i64 n, .func (.func lg) #[] lv] w1 fun e w' => e = .returned (.int .i64 t) ∧ Below w.heap.size w w'
theorem below_of {w w1 w2 : World} {F : Nat → Prop} (h : Below w.heap.size w w1) (k : Kp F w1 w2) (hF : ∀ b, F b → w.heap.size ≤ b) : Below w.heap.size w w2 :=
  h.trans (k.below hF h.size)
theorem shape1x (a n : Nat) (b : Int) (v : Value) (h1 : a < n) (hn : n ≤ 4611686018427387904) (w : World) :
    Calls Tryz.prog 78 #[.int .i64 1, .int .i64 a, .int .i64 b, v] w (Made w n (WL (lkI a) 0 n).length) := by
  have IC : Hid (∀ w, Calls _ _ _ _ _) := fun w => inclusionC a w
  go_enter Tryz.func78, Tryz.ntmps78
  go_wp2_with fail
  refine (IC.out _).mono ?_
  rintro e w1 ⟨rfl, rfl⟩
  go_wp2
  go_ret
  have BA : Below w.heap.size w (w.alloc (.cells #[.int .i64 a] 3)) := (Below.refl _ _).alloc (Nat.le_refl _) _
  refine ⟨BA, _, _, rfl, (tallyC (ShI w.heap.size a) n (by omega) hn _ (by rw [World.cell?_alloc_at _ _ _ _ rfl]; rfl)).mono ?_⟩
  rintro e w2 ⟨rfl, _, k⟩
  exact ⟨rfl, below_of BA k (fun b h => h.elim)⟩
theorem shape2x (a n : Nat) (b : Int) (v : Value) (h1 : 1 ≤ a) (h2 : a ≤ n) (hn : n ≤ 4611686018427387904) (w : World) :
    Calls Tryz.prog 78 #[.int .i64 2, .int .i64 a, .int .i64 b, v] w (Made w n (WL (lkC a) 0 n).length) := by
  have IC : Hid (∀ w, Calls _ _ _ _ _) := fun w => consistencyC a w
  go_enter Tryz.func78, Tryz.ntmps78
  go_wp2_with fail
  refine (IC.out _).mono ?_
  rintro e w1 ⟨rfl, rfl⟩
  go_wp2
  go_ret
  have BA : Below w.heap.size w ((w.alloc (.cells #[.int .i64 a] 3)).alloc (.cells #[.int .i64 0, .int .i64 a] 117)) := ((Below.refl _ _).alloc (Nat.le_refl _) _).alloc (by simp) _
  have B2 : Below (w.alloc (.cells #[.int .i64 a] 3)).heap.size (w.alloc (.cells #[.int .i64 a] 3)) ((w.alloc (.cells #[.int .i64 a] 3)).alloc (.cells #[.int .i64 0, .int .i64 a] 117)) := (Below.refl _ _).alloc (Nat.le_refl _) _
  have s1 : (w.alloc (.cells #[.int .i64 a] 3)).heap.size = w.heap.size + 1 := by simp
  refine ⟨BA, _, _, rfl, (tallyC (ShC (w.heap.size + 1) w.heap.size a h1 (by omega)) n (by omega) hn _ ⟨?_, ?_⟩).mono ?_⟩
  · rw [← s1]; exact ⟨by rw [World.cell?_alloc_at _ _ _ _ rfl]; rfl, by rw [World.cell?_alloc_at _ _ _ _ rfl]; rfl⟩
  · refine (B2.cell (p := ⟨w.heap.size, 0, none⟩) (by show w.heap.size < _; rw [s1]; omega)).trans ?_
    rw [World.cell?_alloc_at _ _ _ _ rfl]; rfl
  · rintro e w2 ⟨rfl, _, k⟩
    exact ⟨rfl, below_of BA k (fun b h => h.elim)⟩
theorem shape0x (n : Nat) (b : Int) (v : Value) (w : World) :
    Calls Tryz.prog 78 #[.int .i64 2, .int .i64 0, .int .i64 b, v] w (Made w n 0) := by
  have IC : Hid (∀ w, Calls _ _ _ _ _) := fun w => consistencyC 0 w
  go_enter Tryz.func78, Tryz.ntmps78
  go_wp2_with fail
  refine (IC.out _).mono ?_
  rintro e w1 ⟨rfl, rfl⟩
  go_wp2
  go_ret
  have BA : Below w.heap.size w ((w.alloc (.cells #[.int .i64 0] 3)).alloc (.cells #[.int .i64 0, .int .i64 0] 117)) := ((Below.refl _ _).alloc (Nat.le_refl _) _).alloc (by simp) _
  have B2 : Below (w.alloc (.cells #[.int .i64 0] 3)).heap.size (w.alloc (.cells #[.int .i64 0] 3)) ((w.alloc (.cells #[.int .i64 0] 3)).alloc (.cells #[.int .i64 0, .int .i64 0] 117)) := (Below.refl _ _).alloc (Nat.le_refl _) _
  have s1 : (w.alloc (.cells #[.int .i64 0] 3)).heap.size = w.heap.size + 1 := by simp
  refine ⟨BA, _, _, rfl, (tallyZ (w.heap.size + 1) w.heap.size n _ ?_ ?_).mono ?_⟩
  · rw [← s1]; exact ⟨by rw [World.cell?_alloc_at _ _ _ _ rfl]; rfl, by rw [World.cell?_alloc_at _ _ _ _ rfl]; rfl⟩
  · refine (B2.cell (p := ⟨w.heap.size, 0, none⟩) (by show w.heap.size < _; rw [s1]; omega)).trans ?_
    rw [World.cell?_alloc_at _ _ _ _ rfl]; rfl
  · rintro e w2 ⟨rfl, k⟩
    exact ⟨rfl, below_of BA (Kp.of_below (A := no) k) (fun b h => h.elim)⟩
theorem two_int (w : World) (x y : Value) (t t' : TypeId) : ((w.alloc (.cells #[x] t)).alloc (.cells #[y] t')).cell? ⟨w.heap.size, 0, none⟩ = some x ∧ ((w.alloc (.cells #[x] t)).alloc (.cells #[y] t')).cell? ⟨w.heap.size + 1, 0, none⟩ = some y := by
  have B2 : Below (w.alloc (.cells #[x] t)).heap.size (w.alloc (.cells #[x] t)) ((w.alloc (.cells #[x] t)).alloc (.cells #[y] t')) := (Below.refl _ _).alloc (Nat.le_refl _) _
  have s1 : (w.alloc (.cells #[x] t)).heap.size = w.heap.size + 1 := by simp
  constructor
  · refine (B2.cell (p := ⟨w.heap.size, 0, none⟩) (by show w.heap.size < _; rw [s1]; omega)).trans ?_
    rw [World.cell?_alloc_at _ _ _ _ rfl]; rfl
  · rw [← s1, World.cell?_alloc_at _ _ _ _ rfl]; rfl
theorem shape3 (a b n : Nat) (v : Value) (h1 : a < b) (h2 : b ≤ n) (hn : n ≤ 4611686018427387904) (w : World) :
    Calls Tryz.prog 78 #[.int .i64 3, .int .i64 a, .int .i64 b, v] w (Made w n (WL (lkR a b) 0 n).length) := by
  have IC : Hid (∀ w, Calls _ _ _ _ _) := fun w => rangedC a b w
  go_enter Tryz.func78, Tryz.ntmps78
  go_wp2_with fail
  refine (IC.out _).mono ?_
  rintro e w1 ⟨rfl, rfl⟩
  go_wp2
  go_ret
  have BA : Below w.heap.size w ((w.alloc (.cells #[.int .i64 a] 3)).alloc (.cells #[.int .i64 b] 3)) := ((Below.refl _ _).alloc (Nat.le_refl _) _).alloc (by simp) _
  refine ⟨BA, _, _, rfl, (tallyC (ShR w.heap.size (w.heap.size + 1) a b) n (by omega) hn _ (two_int _ _ _ _ _)).mono ?_⟩
  rintro e w2 ⟨rfl, _, k⟩
  exact ⟨rfl, below_of BA k (fun b h => h.elim)⟩
-- the places' shape
theorem cnt_zero {xs : List Int} (hr : Ris xs) : cnt xs 0 = 0 := cnt_is hr (Nat.zero_le _) (fun j h => by omega) (fun j _ h => by have := hr.1 j h; simpa using this)
theorem SM_new {w : World} {v : Value} {xs : List Int} (hr : Ris xs) (hR : ReadsI w v xs) (h1 : 1 ≤ xs.length) : ∃ g, g < w.heap.size ∧ SM w.heap.size g xs (cnt xs 0) (w.alloc (.cells #[v] 33)) := by
  obtain ⟨a, cap, rfl, hc, hh⟩ := hR
  obtain ⟨g, off, rfl, hh'⟩ := hh.resolve_left (by omega)
  clear hh
  have hh := hh'
  have hg := World.block_lt_of_cell? _ _ (hh 0 (by omega))
  have B2 : Below w.heap.size w (w.alloc (.cells #[.slice (some ⟨g, off, none⟩) xs.length cap] 33)) := (Below.refl _ _).alloc (Nat.le_refl _) _
  refine ⟨g, hg, fun e => ?_, Nat.lt_of_lt_of_le hg B2.size, .slice (some ⟨g, off, none⟩) xs.length cap, ?_, ?_⟩
  · have hg' : g < w.heap.size := hg
    omega
  · exact (heap_alloc_new w _).trans rfl
  · rw [cnt_zero hr, List.drop_zero]
    exact ⟨_, cap, rfl, hc, .inr ⟨off, rfl, fun i hi => (B2.cell (World.block_lt_of_cell? _ _ (hh i hi))).trans (hh i hi)⟩⟩
theorem ris_of {xs : List Int} {n : Int} (h : places xs n = 0) : Ris xs := by
  obtain ⟨h1, h2, h3, h4⟩ := places_ok h
  exact ⟨fun j hj => (h3 j hj).1, fun i j hij hj => by
    have := rise_lt h4 i (j - i - 1) (by omega)
    rwa [show i + (j - i - 1) + 1 = j by omega] at this⟩
theorem shape4 (a b : Int) (n : Nat) (v : Value) (xs : List Int) (hp : places xs n = 0) (hn : n ≤ 4611686018427387904) (w : World) (hR : ReadsI w v xs) :
    Calls Tryz.prog 78 #[.int .i64 4, .int .i64 a, .int .i64 b, v] w (Made w n (WL (lkM (natL xs)) 0 n).length) := by
  obtain ⟨p1, p2, p3, p4⟩ := places_ok hp
  have hr := ris_of hp
  obtain ⟨g, hg, hS⟩ := SM_new hr hR p1
  obtain ⟨va, vc, rfl, _⟩ := hR
  have HS : Hid (_ ∧ _) := ⟨hg, hS⟩
  have IC : Hid (∀ w, Calls _ _ _ _ _) := fun w => multiC va xs.length vc w
  obtain ⟨l, HL⟩ : ∃ l, Hid (xs.length = l) := ⟨_, rfl⟩
  have h1n : 1 ≤ n := by have := p3 0 (by omega); omega
  rw [HL.out] at IC HS ⊢
  have HP : Hid (_ ∧ _) := ⟨hr, p3⟩
  clear hS p3 p4 hp hr p1 p2
  go_enter Tryz.func78, Tryz.ntmps78
  go_wp2_with fail
  refine (IC.out _).mono ?_
  rintro e w1 ⟨rfl, rfl⟩
  go_wp2
  go_ret
  have BA : Below w.heap.size w (w.alloc (.cells #[.slice va l vc] 33)) := (Below.refl _ _).alloc (Nat.le_refl _) _
  refine ⟨BA, _, _, rfl, (tallyC (ShM w.heap.size g xs HP.out.1 (fun j hj => by have := (HP.out.2 j hj).2; omega)) n h1n hn _ HS.out.2).mono ?_⟩
  rintro e w2 ⟨rfl, _, k⟩
  exact ⟨rfl, below_of BA k (fun b h => by omega)⟩
set_option maxHeartbeats 1600000 in
theorem countC (kind a b n : Int) (v : Value) (xs : List Int) (w : World) (hR : ReadsI w v xs) (hz : xs.length ≤ 140737488355328) :
    Calls Tryz.prog 44 #[.int .i64 kind, .int .i64 a, .int .i64 b, .int .i64 n, v] w fun e w' => e = .returned (.tuple #[.int .i64 (cnt9 kind a b n xs).1, .int .i64 (cnt9 kind a b n xs).2]) ∧ Below w.heap.size w w' := by
  have RC : Hid (Calls _ _ _ _ _) := refuseC kind a b n v xs w hR hz
  by_cases h0 : ref9 kind a b n xs = 0
  · have hc : cnt9 kind a b n xs = (((num9 kind a b n xs : Nat) : Int), 0) := by unfold cnt9; rw [if_pos h0]
    have SC : Hid (Calls Tryz.prog 78 #[.int .i64 kind, .int .i64 a, .int .i64 b, v] w (Made w n.toNat (num9 kind a b n xs)) ∧ (n.toNat : Int) = n) := by
      have hr := h0
      unfold ref9 at hr
      by_cases k1 : kind < 1 ∨ 4 < kind
      · rw [if_pos k1] at hr; omega
      rw [if_neg k1] at hr
      by_cases k2 : n < 0 ∨ 4611686018427387904 < n
      · rw [if_pos k2] at hr; omega
      rw [if_neg k2] at hr
      obtain ⟨N, rfl⟩ : ∃ N : Nat, n = N := ⟨n.toNat, by omega⟩
      rw [Int.toNat_natCast]
      refine ⟨?_, rfl⟩
      unfold num9
      rw [Int.toNat_natCast]
      rcases (show kind = 1 ∨ kind = 2 ∨ kind = 3 ∨ kind = 4 by omega) with rfl | rfl | rfl | rfl
      · rw [if_pos rfl] at hr ⊢
        by_cases g : a < 0 ∨ (N : Int) ≤ a
        · rw [if_pos g] at hr; omega
        obtain ⟨A, rfl⟩ : ∃ A : Nat, a = A := ⟨a.toNat, by omega⟩
        exact shape1x A N b v (by omega) (by omega) w
      · rw [if_neg (by omega), if_pos rfl] at hr ⊢
        by_cases g : a < 0 ∨ (N : Int) < a
        · rw [if_pos g] at hr; omega
        obtain ⟨A, rfl⟩ : ∃ A : Nat, a = A := ⟨a.toNat, by omega⟩
        by_cases hA : A = 0
        · subst hA
          rw [if_pos (by rfl)]
          exact shape0x N b v w
        · rw [if_neg (by omega)]
          exact shape2x A N b v (by omega) (by omega) (by omega) w
      · rw [if_neg (by omega), if_neg (by omega), if_pos rfl] at hr ⊢
        by_cases g : a < 0 ∨ b ≤ a ∨ (N : Int) < b
        · rw [if_pos g] at hr; omega
        obtain ⟨A, rfl⟩ : ∃ A : Nat, a = A := ⟨a.toNat, by omega⟩
        obtain ⟨B, rfl⟩ : ∃ B : Nat, b = B := ⟨b.toNat, by omega⟩
        exact shape3 A B N v (by omega) (by omega) (by omega) w
      · rw [if_neg (by omega), if_neg (by omega), if_neg (by omega)] at hr ⊢
        exact shape4 a b N v xs hr (by omega) w hR
    rw [hc]
    rw [h0] at RC
    obtain ⟨t, HT⟩ : ∃ t, Hid (num9 kind a b n xs = t) := ⟨_, rfl⟩
    rw [HT.out] at SC ⊢
    obtain ⟨va, vc, rfl, _⟩ := hR
    clear h0 hc
    go_enter Tryz.func44, Tryz.ntmps44
    go_wp2_with fail
    refine RC.out.mono ?_
    rintro e w1 ⟨rfl, rfl⟩
    go_wp2_with fail
    refine SC.out.1.mono ?_
    rintro e w2 ⟨hb2, lg, lv, rfl, ht⟩
    rw [SC.out.2] at ht
    have TC : Hid (Calls _ _ _ _ _) := ht
    clear ht hb2
    go_wp2_with fail
    refine TC.out.mono ?_
    rintro e w3 ⟨rfl, hb3⟩
    have B3 : Hid (Below w1.heap.size w1 w3) := hb3
    clear hb3
    go_wp2
    go_ret2
    exact ⟨rfl, B3.out⟩
  · have hc : cnt9 kind a b n xs = (0, ref9 kind a b n xs) := by unfold cnt9; rw [if_neg h0]
    rw [hc]
    have q : (ref9 kind a b n xs == 0) = false := by rw [beq_eq_false_iff_ne]; exact h0
    obtain ⟨r, HT⟩ : ∃ r, Hid (ref9 kind a b n xs = r) := ⟨_, rfl⟩
    rw [HT.out] at RC q ⊢
    obtain ⟨va, vc, rfl, _⟩ := hR
    clear h0 hc
    go_enter Tryz.func44, Tryz.ntmps44
    go_wp2_with fail
    refine RC.out.mono ?_
    rintro e w1 ⟨rfl, rfl⟩
    go_wp2
    go_ret2
    exact ⟨rfl, Below.refl _ _⟩
end Go.Proofs.YthppkdjekfginaaGreatDoor.cn

namespace Go.Proofs.YthppkdjekfginaaGreatDoor.mk
open Go.RowKit Go.PlainAid
open Go.Proofs.YthppkdjekfginaaGreatDoor.ca Go.Proofs.YthppkdjekfginaaGreatDoor.cp Go.Proofs.YthppkdjekfginaaGreatDoor.mi
set_option linter.unusedVariables false

set_option maxHeartbeats 1600000 in
theorem placesD (v : Value) (xs : List Int) (n : Int) (w : World) (hR : ReadsI w v xs) (hz : xs.length ≤ 140737488355328) :
    Calls Tryz.prog 123 #[.int .i64 n, v] w fun e w' => e = .returned (.int .i64 (places xs n)) ∧ ∃ m, w' = w.drewN m := by
  obtain ⟨a, cap, rfl, _, h1⟩ := hR
  have HC : Hid (xs.length = 0 ∨ ∃ b off, a = some ⟨b, off, none⟩ ∧ ∀ i, i < xs.length → w.cell? ⟨b, off + i, none⟩ = some (.int .i64 (xs.getD i 0))) := h1
  obtain ⟨l, HN⟩ : ∃ n, Hid (xs.length = n) := ⟨_, rfl⟩
  obtain ⟨r, HR⟩ : ∃ r, Hid (places xs n = r) := ⟨_, rfl⟩
  rw [HR.out]
  rw [HN.out] at HC hz ⊢
  clear h1
  by_cases h0 : l = 0
  · have HE : Hid (r = 82) := by
      show _ = _
      rw [← HR.out]; unfold places; rw [HN.out, if_pos h0]
    subst h0
    go_enter Tryz.func123, Tryz.ntmps123
    go_wp2
    go_ret
    exact ⟨by first | (rw [HE.out]; done) | (rw [HE.out]; rfl), 0, rfl⟩
  · have hb : ((l : Int) == 0) = false := by rw [beq_eq_false_iff_ne]; omega
    by_cases h2 : 1024 < l
    · have HE : Hid (r = 83) := by
        show _ = _
        rw [← HR.out]; unfold places; rw [HN.out, if_neg h0, if_pos h2]
      have hb2 : decide ((1024 : Int) < l) = true := decide_eq_true (by omega)
      clear h0 h2
      go_enter Tryz.func123, Tryz.ntmps123
      go_wp2
      go_ret
      exact ⟨by first | (rw [HE.out]; done) | (rw [HE.out]; rfl), 0, rfl⟩
    · have HS0 : Hid (scan (bad xs n) l 0 = r) := by
        show _ = _
        rw [← HR.out]; unfold places; rw [HN.out, if_neg h0, if_neg h2]
      have hb2 : decide ((1024 : Int) < l) = false := decide_eq_false (by omega)
      have HL : Hid (l ≠ 0 ∧ l ≤ 1024) := ⟨h0, by omega⟩
      clear h0 h2
      go_enter Tryz.func123, Tryz.ntmps123
      go_wp2
      go_loopw [5] (fun i wr => ∃ k m : Nat, k ≤ l ∧ i = .int .i64 k ∧ Hid (scan (bad xs n) (l - k) k = r) ∧ wr = w.drewN m) (fun i _ => (l - intOf i).toNat)
      case atStart => exact ⟨0, 0, by omega, rfl, HS0, rfl⟩
      case round =>
        obtain ⟨k, m, hk, rfl, HS, rfl⟩ := hrel
        have HB := HL.out
        by_cases hlt : k < l
        · have hlt' : (k : Int) < l := by omega
          obtain ⟨b, off, rfl, hc⟩ : ∃ b off, a = some ⟨b, off, none⟩ ∧ ∀ i, i < l → w.cell? ⟨b, off + i, none⟩ = some (.int .i64 (xs.getD i 0)) := by
            rcases HC.out with h | h
            · omega
            · exact h
          obtain ⟨X, HX⟩ : ∃ X, Hid (xs.getD k 0 = X) := ⟨_, rfl⟩
          have c1 := hc k hlt
          rw [HX.out] at c1
          have HST : Hid (scan (bad xs n) (l - k) k = if bad xs n k = 0 then scan (bad xs n) (l - (k + 1)) (k + 1) else bad xs n k) := by
            show _ = _
            rw [show l - k = (l - (k + 1)) + 1 by omega]; rfl
          by_cases x1 : X < 0
          · have d1 : decide (X < 0) = true := decide_eq_true x1
            have HE : Hid (r = 81) := by
              show _ = _
              rw [← HS.out, HST.out, show bad xs n k = 81 by unfold bad; rw [HX.out, if_pos x1]]; rfl
            clear x1 hc hb hb2 HB
            go_wp2
            go_ret
            exact ⟨by first | (rw [HE.out]; done) | (rw [HE.out]; rfl), _, rfl⟩
          · have d1 : decide (X < 0) = false := decide_eq_false x1
            by_cases x2 : n ≤ X
            · have d2 : decide (n ≤ X) = true := decide_eq_true x2
              have HE : Hid (r = 81) := by
                show _ = _
                rw [← HS.out, HST.out, show bad xs n k = 81 by unfold bad; rw [HX.out, if_neg x1, if_pos x2]]; rfl
              clear x1 x2 hc hb hb2 HB
              go_wp2
              go_ret
              exact ⟨by first | (rw [HE.out]; done) | (rw [HE.out]; rfl), _, rfl⟩
            · have d2 : decide (n ≤ X) = false := decide_eq_false x2
              cases k with
              | zero =>
                have HS1 : Hid (scan (bad xs n) (l - (0 + 1)) (0 + 1) = r) := by
                  show _ = _
                  rw [← HS.out, HST.out, if_pos (show bad xs n 0 = 0 by unfold bad; rw [HX.out, if_neg x1, if_neg x2, if_neg (by omega)])]
                have d3 : decide ((0 : Int) < ((0 : Nat) : Int)) = false := rfl
                rw [Nat.add_zero] at c1
                clear x1 x2 hc hb hb2 HB HX
                go_wp2_with fail
                go_quiet (fail)
                go_wp2
                go_roundw
                case rel => exact ⟨0 + 1, _, by omega, by go_num, HS1.out, rfl⟩
                case measure => simp [intOf]; omega
              | succ k =>
                obtain ⟨Y, HY⟩ : ∃ X, Hid (xs.getD k 0 = X) := ⟨_, rfl⟩
                have c2 := hc k (by omega)
                rw [HY.out] at c2
                have e1 : (((k + 1 : Nat) : Int) - 1) = k := by omega
                have d3 : decide ((0 : Int) < ((k + 1 : Nat) : Int)) = true := decide_eq_true (by omega)
                by_cases x4 : X ≤ Y
                · have d4 : decide (X ≤ Y) = true := decide_eq_true x4
                  have HE : Hid (r = 84) := by
                    show _ = _
                    rw [← HS.out, HST.out, show bad xs n (k + 1) = 84 by unfold bad; rw [HX.out, Nat.add_sub_cancel, HY.out, if_neg x1, if_neg x2, if_pos ⟨by omega, x4⟩]]; rfl
                  clear x1 x2 x4 hc hb hb2 HB
                  go_wp2_with fail
                  go_quiet (fail)
                  go_wp2
                  go_ret
                  exact ⟨by first | (rw [HE.out]; done) | (rw [HE.out]; rfl), m + nq, by rw [World.drewN_drewN]⟩
                · have d4 : decide (X ≤ Y) = false := decide_eq_false x4
                  have HS1 : Hid (scan (bad xs n) (l - (k + 1 + 1)) (k + 1 + 1) = r) := by
                    show _ = _
                    rw [← HS.out, HST.out, if_pos (show bad xs n (k + 1) = 0 by unfold bad; rw [HX.out, Nat.add_sub_cancel, HY.out, if_neg x1, if_neg x2, if_neg (fun h => x4 h.2)])]
                  clear x1 x2 x4 hc hb hb2 HB
                  go_wp2_with fail
                  go_quiet (fail)
                  go_wp2
                  go_roundw
                  case rel => exact ⟨k + 1 + 1, _, by omega, by go_num, HS1.out, rfl⟩
                  case measure => simp [intOf]; omega
        · have hlt' : ¬ (k : Int) < l := by omega
          have HE : Hid (r = 0) := by
            show _ = _
            rw [← HS.out, show l - k = 0 by omega]; rfl
          clear hlt hb hb2 HB
          go_wp2
          go_ret
          exact ⟨by first | (rw [HE.out]; done) | (rw [HE.out]; rfl), _, rfl⟩
end Go.Proofs.YthppkdjekfginaaGreatDoor.mk

namespace Go.Proofs.YthppkdjekfginaaGreatDoor.ti
open Go.RowKit Go.PlainAid
open Go.Proofs.YthppkdjekfginaaGreatDoor.ca Go.Proofs.YthppkdjekfginaaGreatDoor.cp Go.Proofs.YthppkdjekfginaaGreatDoor.mi
set_option linter.unusedVariables false

theorem info_parts {t : TypeId} {z : Value} {n b : Nat} (h : (Tryz.prog.info? t).map (fun i => (i.zero, i.size, i.bytes)) = some (some z, n, b)) : ∃ i, Tryz.prog.info? t = some i ∧ i.zero = some z ∧ i.size = n ∧ i.bytes = b := by
  obtain ⟨i, hi, he⟩ := Option.map_eq_some_iff.1 h
  injection he with e1 e2
  injection e2 with e2 e3
  exact ⟨i, hi, e1, e2, e3⟩
theorem hiE : (Tryz.prog.info? 3).map (fun i => (i.zero, i.size, i.bytes)) = some (some (.int .i64 0), 1, 8) := by kernel_rfl
theorem own_form {w : World} {B e s n : Nat} {v : Value} {xs : List Value} (h : w.ownsRow B e s v n xs) : ∃ a c, v = .slice a n c := by
  rcases h.2 with ⟨h, h2⟩ | ⟨g, cap, cur, h, _⟩
  · exact ⟨none, 0, by rw [h, h2]⟩
  · exact ⟨_, _, h⟩
theorem ones (hs : List Int) : ∀ u ∈ hs.map (Value.int .i64), u.oneCell' = true := by
  intro u hu
  obtain ⟨x, _, rfl⟩ := List.mem_map.1 hu
  rfl
theorem new_one (W : World) (u : Value) (t : TypeId) : ∀ (j : Nat) (x : Value), [u][j]? = some x → (W.alloc (.cells #[u] t)).cell? (Addr.add ⟨W.heap.size, 0, none⟩ j) = some x := by
  intro j x hx
  rw [show (Addr.add ⟨W.heap.size, 0, none⟩ j) = ⟨W.heap.size, j, none⟩ by cases j <;> simp [Addr.add], World.cell?_alloc_at _ _ _ _ rfl]
  simpa using hx
-- a list's twin, with a mark behind it
def Tw (w : World) (B g n cp : Nat) (xs : List Int) : Prop := w.ownsRow B 3 1 (.slice (some ⟨g, 0, none⟩) (n + 1) cp) (n + 1) (xs.map (Value.int .i64) ++ [(Value.int .i64 (-7))])
theorem Tw.later {w w' : World} {B g n cp : Nat} {xs : List Int} (h : Tw w B g n cp xs) (hb : Below w.heap.size w w') : Tw w' B g n cp xs := own_later h hb
theorem Tw.cell {w : World} {B g n cp : Nat} {xs : List Int} (h : Tw w B g n cp xs) (hn : xs.length = n) : (∀ i, i < n → w.cell? ⟨g, i, none⟩ = some (Value.int .i64 (xs.getD i 0))) ∧ w.cell? ⟨g, n, none⟩ = some (Value.int .i64 (-7)) ∧ n + 1 ≤ cp := by
  refine ⟨fun i hi => ?_, ?_, ?_⟩
  · rw [h.cellAt i (by omega), List.getElem?_append_left (by rw [List.length_map]; omega), List.getElem?_map, List.getElem?_eq_getElem (by omega), List.getD_eq_getElem?_getD, List.getElem?_eq_getElem (by omega)]
    rfl
  · rw [h.cellAt n (by omega), List.getElem?_append_right (by rw [List.length_map]; omega), List.length_map, hn, Nat.sub_self]
    rfl
  · rcases h.2 with ⟨e, _⟩ | ⟨g', cap', cur, e, _, _, hc, _⟩
    · cases e
    · injection e with _ _ e3; omega
theorem Tw.reads {w : World} {B g n cp : Nat} {xs : List Int} (h : Tw w B g n cp xs) (hn : xs.length = n) : ReadsI w (.slice (some ⟨g, 0, none⟩) n cp) xs := by
  obtain ⟨h1, h2, h3⟩ := h.cell hn
  refine ⟨_, cp, by rw [hn], by omega, .inr ⟨g, 0, rfl, fun i hi => ?_⟩⟩
  rw [Nat.zero_add]
  exact h1 i (by omega)
end Go.Proofs.YthppkdjekfginaaGreatDoor.ti

namespace Go.Proofs.YthppkdjekfginaaGreatDoor.dc
open Go.RowKit Go.PlainAid
open Go.Proofs.YthppkdjekfginaaGreatDoor.ca Go.Proofs.YthppkdjekfginaaGreatDoor.cb Go.Proofs.YthppkdjekfginaaGreatDoor.cp Go.Proofs.YthppkdjekfginaaGreatDoor.ga Go.Proofs.YthppkdjekfginaaGreatDoor.aa Go.Proofs.YthppkdjekfginaaGreatDoor.ab Go.Proofs.YthppkdjekfginaaGreatDoor.kp Go.Proofs.YthppkdjekfginaaGreatDoor.lk Go.Proofs.YthppkdjekfginaaGreatDoor.mi Go.Proofs.YthppkdjekfginaaGreatDoor.mk Go.Proofs.YthppkdjekfginaaGreatDoor.lm Go.Proofs.YthppkdjekfginaaGreatDoor.tl Go.Proofs.YthppkdjekfginaaGreatDoor.co Go.Proofs.YthppkdjekfginaaGreatDoor.ti
set_option linter.unusedVariables false

theorem half_of {n t j : Nat} (hj : 2 ^ j = t) (h1 : t < n) (h2 : ¬ 2 * t < n) : half n = t := by
  rw [← hj]
  exact half_eq (by rw [hj]; exact h1) (by rw [p2s, hj]; omega)
theorem rSplit (n : Nat) (h : 2 ≤ n) (hn : n ≤ 4611686018427387904) (w : World) :
    Calls Tryz.prog 100 #[.int .i64 n] w fun e w' => e = .returned (.int .i64 (half n : Nat)) ∧ w' = w := by
  obtain ⟨d, HD⟩ : ∃ d, Hid ((n - 1) / 2 = d) := ⟨_, rfl⟩
  have hd2 : ((n : Int) - 1) / 2 = (d : Int) := by have := HD.out; omega
  go_enter Tryz.func100, Tryz.ntmps100
  go_wp2
  go_loopw [3] (fun k wr => ∃ (t j : Nat), k = .int .i64 t ∧ t < n ∧ Hid (2 ^ j = t) ∧ wr = w) (fun k _ => (n - intOf k).toNat)
  case atStart => exact ⟨1, 0, rfl, by omega, rfl, rfl⟩
  case round =>
    obtain ⟨t, j, rfl, ht, HJ, rfl⟩ := hrel
    have ht0 : 0 < t := by rw [← HJ.out]; exact p2 j
    by_cases hlt : t ≤ d
    · have hlt' : (t : Int) ≤ d := by omega
      have HJ2 : Hid (2 ^ (j + 1) = 2 * t) := by show _ = _; rw [p2s, HJ.out]
      have hlt2 : 2 * t < n := by have := HD.out; omega
      go_wp2
      go_roundw
      case rel => exact ⟨2 * t, j + 1, by go_num, hlt2, HJ2.out, by first | rfl | trivial⟩
      case measure => simp [intOf]; omega
    · have hlt' : ¬ (t : Int) ≤ d := by omega
      have HE : Hid (half n = t) := half_of HJ.out ht (by have := HD.out; omega)
      go_wp2
      go_ret
      exact ⟨by rw [HE.out]; rfl, by first | rfl | trivial⟩
-- lists that begin elsewhere are as long
theorem dnI_shift (n : Nat) : ∀ i a b, b - a = n → a ≤ i → i < b → (dnI i a b).length = (dnI (i - a) 0 (b - a)).length := by
  induction n using Nat.strongRecOn with
  | ind n ih =>
    intro i a b hn h1 h2
    by_cases h : 2 ≤ b - a
    · have hh := half_lt h
      by_cases hi : i < a + half (b - a)
      · rw [dnI_low h hi, dnI_low (i := i - a) (a := 0) (b := b - a) (by omega) (by rw [Nat.sub_zero]; omega), List.length_cons, List.length_cons, ih (half (b - a)) (by omega) i a (a + half (b - a)) (by omega) h1 hi]
        rw [Nat.sub_zero, Nat.zero_add, Nat.add_sub_cancel_left]
      · rw [dnI_high h hi, dnI_high (i := i - a) (a := 0) (b := b - a) (by omega) (by rw [Nat.sub_zero]; omega), List.length_cons, List.length_cons, ih (b - a - half (b - a)) (by omega) i (a + half (b - a)) b (by omega) (by omega) h2]
        rw [Nat.sub_zero, Nat.zero_add, ih (b - a - half (b - a)) (by omega) (i - a) (half (b - a)) (b - a) (by omega) (by omega) (by omega), show i - (a + half (b - a)) = i - a - half (b - a) by omega, show b - (a + half (b - a)) = b - a - half (b - a) by omega]
    · rw [dnI_one h, dnI_one (by omega)]
theorem subL_shift (n : Nat) : ∀ m a b wh, b - a = n → a < m → m ≤ b → (subL m a b wh).length = (subL (m - a) 0 (b - a) wh).length := by
  induction n using Nat.strongRecOn with
  | ind n ih =>
    intro m a b wh hn h1 h2
    by_cases hb : m = b
    · rw [subL_all hb, subL_all (by omega)]
      cases wh <;> rfl
    · have h : 2 ≤ b - a := by omega
      have hh := half_lt h
      by_cases hm : m ≤ a + half (b - a)
      · rw [subL_low hb h hm, subL_low (m := m - a) (a := 0) (b := b - a) (by omega) (by omega) (by rw [Nat.sub_zero]; omega), List.length_append, List.length_append, ih (half (b - a)) (by omega) m a (a + half (b - a)) wh (by omega) h1 hm]
        rw [Nat.sub_zero, Nat.zero_add, Nat.add_sub_cancel_left]
        rfl
      · rw [subL_high hb h hm, subL_high (m := m - a) (a := 0) (b := b - a) (by omega) (by omega) (by rw [Nat.sub_zero]; omega), List.length_append, List.length_append, ih (b - a - half (b - a)) (by omega) m (a + half (b - a)) b false (by omega) (by omega) h2]
        rw [Nat.sub_zero, Nat.zero_add, ih (b - a - half (b - a)) (by omega) (m - a) (half (b - a)) (b - a) false (by omega) (by omega) (by omega), show m - (a + half (b - a)) = m - a - half (b - a) by omega, show b - (a + half (b - a)) = b - a - half (b - a) by omega]
        rfl
def cI (i n : Nat) : Nat := (dnI i 0 n).length
def cG (m n : Nat) (wh : Bool) : Nat := (subL m 0 n wh).length
theorem cI_one {i n : Nat} (h : ¬ 2 ≤ n) : cI i n = 0 := by unfold cI; rw [dnI_one (by omega)]; rfl
theorem cI_low {i n : Nat} (h : 2 ≤ n) (hi : i < half n) : cI i n = cI i (half n) + 1 := by
  unfold cI
  rw [dnI_low (i := i) (a := 0) (b := n) (by omega) (by rw [Nat.sub_zero]; omega), List.length_cons, Nat.sub_zero, Nat.zero_add]
theorem cI_high {i n : Nat} (h : 2 ≤ n) (hn : i < n) (hi : ¬ i < half n) : cI i n = cI (i - half n) (n - half n) + 1 := by
  have hh := half_lt h
  unfold cI
  rw [dnI_high (i := i) (a := 0) (b := n) (by omega) (by rw [Nat.sub_zero]; omega), List.length_cons, Nat.sub_zero, Nat.zero_add, dnI_shift (n - half n) i (half n) n rfl (by omega) hn]
theorem cG_all {n : Nat} {wh : Bool} : cG n n wh = if wh then 0 else 1 := by unfold cG; rw [subL_all rfl]; cases wh <;> rfl
theorem cG_low {m n : Nat} {wh : Bool} (h1 : m ≠ n) (h2 : 2 ≤ n) (hm : m ≤ half n) : cG m n wh = cG m (half n) wh + 1 := by
  unfold cG
  rw [subL_low (m := m) (a := 0) (b := n) h1 (by omega) (by rw [Nat.sub_zero]; omega), List.length_append, Nat.sub_zero, Nat.zero_add]
  rfl
theorem cG_high {m n : Nat} {wh : Bool} (h0 : m ≤ n) (h1 : m ≠ n) (h2 : 2 ≤ n) (hm : ¬ m ≤ half n) : cG m n wh = cG (m - half n) (n - half n) false + 1 := by
  have hh := half_lt h2
  unfold cG
  rw [subL_high (m := m) (a := 0) (b := n) h1 (by omega) (by rw [Nat.sub_zero]; omega), List.length_append, Nat.sub_zero, Nat.zero_add, subL_shift (n - half n) m (half n) n false rfl (by omega) h0]
  rfl
theorem cI_is {i n : Nat} (h : i < n) : (WL (lkI i) 0 n).length = cI i n := by rw [incl_is i n 0 n rfl (Nat.zero_le _) h, List.length_reverse]; rfl
theorem cG_is {m n : Nat} (h0 : 1 ≤ m) (h : m ≤ n) : (WL (lkC m) 0 n).length = cG m n true := by rw [cons_is m n 0 n rfl (by omega) h]; rfl
theorem cI_le {i n : Nat} (h : i < n) (hn : n ≤ 4611686018427387904) : cI i n ≤ 62 := by
  rw [← cI_is h]
  exact incl_len i 62 0 n (by rw [p62]; omega) (Nat.zero_le _) h
set_option maxHeartbeats 1600000 in
theorem rIncl (i n : Nat) (h : i < n) (hn : n ≤ 4611686018427387904) (w : World) :
    Calls Tryz.prog 94 #[.int .i64 i, .int .i64 n] w fun e w' => e = .returned (.int .i64 (cI i n : Nat)) ∧ w' = w := by
  have hle := cI_le h hn
  obtain ⟨t, HT⟩ : ∃ t, Hid (cI i n = t) := ⟨_, rfl⟩
  rw [HT.out] at hle ⊢
  have HSP : Hid (∀ n w, 2 ≤ n → n ≤ 4611686018427387904 → Calls _ _ _ _ _) := fun n w h1 h2 => rSplit n h1 h2 w
  go_enter Tryz.func94, Tryz.ntmps94
  go_wp2
  go_loopw [0, 1, 5] (fun i' n' c wr => ∃ (I N C : Nat), i' = .int .i64 I ∧ n' = .int .i64 N ∧ c = .int .i64 C ∧ I < N ∧ N ≤ 4611686018427387904 ∧ Hid (C + cI I N = t) ∧ C ≤ t ∧ wr = w) (fun _ n' _ _ => (intOf n').toNat)
  case atStart => exact ⟨i, n, 0, rfl, rfl, rfl, h, hn, by show _ = _; rw [Nat.zero_add]; exact HT.out, Nat.zero_le _, rfl⟩
  case round =>
    obtain ⟨I, N, C, rfl, rfl, rfl, h1, h2, HS, hC, rfl⟩ := hrel
    by_cases hN : 2 ≤ N
    · have d1 : decide ((1 : Int) < N) = true := decide_eq_true (by omega)
      have hh := half_lt hN
      have SP : Hid (∀ w, Calls _ _ _ _ _) := fun w => HSP.out N w hN h2
      obtain ⟨k, HK⟩ : ∃ k, Hid (half N = k) := ⟨_, rfl⟩
      rw [HK.out] at SP hh
      by_cases hi : I < k
      · have d2 : decide ((I : Int) < k) = true := decide_eq_true (by omega)
        have H1 : Hid (C + 1 + cI I k = t) := by
          show _ = _
          have := cI_low (i := I) hN (by rw [HK.out]; exact hi)
          rw [HK.out] at this
          have := HS.out
          omega
        have hC1 : C + 1 ≤ t := by have := H1.out; omega
        go_wp2_with fail
        refine (SP.out _).mono ?_
        rintro e w1 ⟨rfl, hw⟩
        subst hw
        go_wp2
        go_roundw
        case rel => exact ⟨I, k, C + 1, rfl, rfl, by go_num, hi, by omega, H1.out, hC1, by first | rfl | trivial⟩
        case measure => simp [intOf]; omega
      · have d2 : decide ((I : Int) < k) = false := decide_eq_false (by omega)
        have H1 : Hid (C + 1 + cI (I - k) (N - k) = t) := by
          show _ = _
          have := cI_high (i := I) hN h1 (by rw [HK.out]; exact hi)
          rw [HK.out] at this
          have := HS.out
          omega
        have hC1 : C + 1 ≤ t := by have := H1.out; omega
        go_wp2_with fail
        refine (SP.out _).mono ?_
        rintro e w1 ⟨rfl, hw⟩
        subst hw
        go_wp2
        go_roundw
        case rel => exact ⟨I - k, N - k, C + 1, by go_num, by go_num, by go_num, by omega, by omega, H1.out, hC1, by first | rfl | trivial⟩
        case measure => simp [intOf]; omega
    · have d1 : decide ((1 : Int) < N) = false := decide_eq_false (by omega)
      have HE : Hid (C = t) := by
        show _ = _
        have := HS.out
        rw [cI_one hN] at this
        omega
      go_wp2
      go_ret
      exact ⟨by have z := HE.out; subst z; rfl, rfl⟩
theorem cG_le {m n : Nat} (h0 : 1 ≤ m) (h : m ≤ n) (hn : n ≤ 4611686018427387904) : cG m n true ≤ 63 := by
  rw [← cG_is h0 h]
  exact cons_len m 62 0 n (by rw [p62]; omega) h0 h
set_option maxHeartbeats 1600000 in
theorem rGrow (m n : Nat) (h0 : 1 ≤ m) (h : m ≤ n) (hn : n ≤ 4611686018427387904) (w : World) :
    Calls Tryz.prog 95 #[.int .i64 m, .int .i64 n] w fun e w' => e = .returned (.int .i64 (cG m n true : Nat)) ∧ w' = w := by
  have hle := cG_le h0 h hn
  obtain ⟨t, HT⟩ : ∃ t, Hid (cG m n true = t) := ⟨_, rfl⟩
  rw [HT.out] at hle ⊢
  have HSP : Hid (∀ n w, 2 ≤ n → n ≤ 4611686018427387904 → Calls _ _ _ _ _) := fun n w h1 h2 => rSplit n h1 h2 w
  go_enter Tryz.func95, Tryz.ntmps95
  go_wp2
  go_loopw [0, 1, 5, 6] (fun m' n' c wh wr => ∃ (M N C : Nat) (q : Bool), m' = .int .i64 M ∧ n' = .int .i64 N ∧ c = .int .i64 C ∧ wh = .bool q ∧ 1 ≤ M ∧ M ≤ N ∧ N ≤ 4611686018427387904 ∧ Hid (C + cG M N q = t) ∧ C ≤ t ∧ wr = w) (fun _ n' _ _ _ => (intOf n').toNat)
  case atStart => exact ⟨m, n, 0, true, rfl, rfl, rfl, rfl, h0, h, hn, by show _ = _; rw [Nat.zero_add]; exact HT.out, Nat.zero_le _, rfl⟩
  case round =>
    obtain ⟨M, N, C, q, rfl, rfl, rfl, rfl, h1, h2, h3, HS, hC, rfl⟩ := hrel
    by_cases hN : M = N
    · subst hN
      have d1 : decide ((M : Int) < M) = false := decide_eq_false (by omega)
      cases q
      · have HE : Hid (C + 1 = t) := by show _ = _; have := HS.out; rw [cG_all] at this; exact this
        go_wp2
        go_ret
        exact ⟨by have z := HE.out; subst z; go_num, rfl⟩
      · have HE : Hid (C = t) := by show _ = _; have := HS.out; rw [cG_all] at this; exact this
        go_wp2
        go_ret
        exact ⟨by have z := HE.out; subst z; rfl, rfl⟩
    · have hN2 : 2 ≤ N := by omega
      have d1 : decide ((M : Int) < N) = true := decide_eq_true (by omega)
      have hh := half_lt hN2
      have SP : Hid (∀ w, Calls _ _ _ _ _) := fun w => HSP.out N w hN2 h3
      obtain ⟨k, HK⟩ : ∃ k, Hid (half N = k) := ⟨_, rfl⟩
      rw [HK.out] at SP hh
      by_cases hi : M ≤ k
      · have d2 : decide ((M : Int) ≤ k) = true := decide_eq_true (by omega)
        have H1 : Hid (C + 1 + cG M k q = t) := by
          show _ = _
          have := cG_low (m := M) (wh := q) hN hN2 (by rw [HK.out]; exact hi)
          rw [HK.out] at this
          have := HS.out
          omega
        have hC1 : C + 1 ≤ t := by have := H1.out; omega
        go_wp2_with fail
        refine (SP.out _).mono ?_
        rintro e w1 ⟨rfl, hw⟩
        subst hw
        go_wp2
        go_roundw
        case rel => exact ⟨M, k, C + 1, q, rfl, rfl, by go_num, rfl, h1, hi, by omega, H1.out, hC1, by first | rfl | trivial⟩
        case measure => simp [intOf]; omega
      · have d2 : decide ((M : Int) ≤ k) = false := decide_eq_false (by omega)
        have H1 : Hid (C + 1 + cG (M - k) (N - k) false = t) := by
          show _ = _
          have := cG_high (m := M) (wh := q) h2 hN hN2 (by rw [HK.out]; exact hi)
          rw [HK.out] at this
          have := HS.out
          omega
        have hC1 : C + 1 ≤ t := by have := H1.out; omega
        go_wp2_with fail
        refine (SP.out _).mono ?_
        rintro e w1 ⟨rfl, hw⟩
        subst hw
        go_wp2
        go_roundw
        case rel => exact ⟨M - k, N - k, C + 1, false, by go_num, by go_num, by go_num, rfl, by omega, by omega, by omega, H1.out, hC1, by first | rfl | trivial⟩
        case measure => simp [intOf]; omega
end Go.Proofs.YthppkdjekfginaaGreatDoor.dc

namespace Go.Proofs.YthppkdjekfginaaGreatDoor.de
open Go.RowKit Go.PlainAid
open Go.Proofs.YthppkdjekfginaaGreatDoor.ca Go.Proofs.YthppkdjekfginaaGreatDoor.cb Go.Proofs.YthppkdjekfginaaGreatDoor.cp Go.Proofs.YthppkdjekfginaaGreatDoor.ga Go.Proofs.YthppkdjekfginaaGreatDoor.aa Go.Proofs.YthppkdjekfginaaGreatDoor.ab Go.Proofs.YthppkdjekfginaaGreatDoor.kp Go.Proofs.YthppkdjekfginaaGreatDoor.lk Go.Proofs.YthppkdjekfginaaGreatDoor.mi Go.Proofs.YthppkdjekfginaaGreatDoor.mk Go.Proofs.YthppkdjekfginaaGreatDoor.lm Go.Proofs.YthppkdjekfginaaGreatDoor.tl Go.Proofs.YthppkdjekfginaaGreatDoor.co Go.Proofs.YthppkdjekfginaaGreatDoor.ti Go.Proofs.YthppkdjekfginaaGreatDoor.dc
set_option linter.unusedVariables false

theorem lenR (lo hi a b : Nat) (hab : a < b) (hb : b ≤ 4611686018427387904) : (WL (lkR lo hi) a b).length ≤ b - a :=
  (go_tally (lk := lkR lo hi) (cur := fun _ => 0) (ShR 0 0 lo hi).wide (ShR 0 0 lo hi).four (ShR 0 0 lo hi).turn (b - a) a b rfl hab hb).2
theorem lenM (ps : List Nat) (a b : Nat) (hab : a < b) (hb : b ≤ 4611686018427387904) : (WL (lkM ps) a b).length ≤ b - a :=
  (go_tally (lk := lkM ps) (cur := fun _ => 0) (fun hab h => by
    unfold lkM at h
    split at h
    · split at h <;> omega
    · omega) (fun a b => by
    unfold lkM
    split
    · split <;> omega
    · omega) (fun _ _ => rfl) (b - a) a b rfl hab hb).2
set_option maxHeartbeats 1600000 in
theorem rRange (lo hi : Nat) (hlo : lo ≤ 4611686018427387904) (hhi : hi ≤ 4611686018427387904) (n : Nat) : ∀ (a b : Nat) (w : World), b - a = n → a < b → b ≤ 4611686018427387904 →
    Calls Tryz.prog 96 #[.int .i64 a, .int .i64 b, .int .i64 lo, .int .i64 hi] w fun e w' => e = .returned (.int .i64 ((WL (lkR lo hi) a b).length : Nat)) ∧ w' = w := by
  induction n using Nat.strongRecOn with
  | ind n ih =>
    intro a b w hn hab hb
    have hlen := lenR lo hi a b hab hb
    obtain ⟨t, HT⟩ : ∃ t, Hid ((WL (lkR lo hi) a b).length = t) := ⟨_, rfl⟩
    rw [HT.out] at hlen ⊢
    by_cases h1 : b ≤ lo
    · obtain rfl : 1 = t := by rw [← HT.out, WL_take (by unfold lkR; rw [if_pos (.inl h1)])]; rfl
      clear ih
      go_enter Tryz.func96, Tryz.ntmps96
      go_wp2
      go_ret
      exact ⟨rfl, rfl⟩
    by_cases h2 : hi ≤ a
    · obtain rfl : 1 = t := by rw [← HT.out, WL_take (by unfold lkR; rw [if_pos (.inr h2)])]; rfl
      clear ih
      go_enter Tryz.func96, Tryz.ntmps96
      go_wp2
      go_ret
      exact ⟨rfl, rfl⟩
    by_cases h3 : lo ≤ a ∧ b ≤ hi
    · obtain rfl : 0 = t := by rw [← HT.out, WL_pass (by unfold lkR; rw [if_neg (by omega), if_pos h3])]; rfl
      obtain ⟨h4, h5⟩ := h3
      clear ih
      go_enter Tryz.func96, Tryz.ntmps96
      go_wp2
      go_ret
      exact ⟨rfl, rfl⟩
    have h2n : 2 ≤ b - a := by omega
    have hh := half_lt h2n
    have HWL : Hid (t = (WL (lkR lo hi) a (a + half (b - a))).length + (WL (lkR lo hi) (a + half (b - a)) b).length) := by
      show _ = _
      rw [← HT.out, WL_left (by unfold lkR; rw [if_neg (by omega), if_neg h3]) h2n, List.length_append]
    have SP : Hid (∀ w, Calls _ _ _ _ _) := fun w => rSplit (b - a) h2n (by omega) w
    have I1 : Hid (∀ w, Calls _ _ _ _ _) := fun w => ih (half (b - a)) (by omega) a (a + half (b - a)) w (by omega) (by omega) (by omega)
    have I2 : Hid (∀ w, Calls _ _ _ _ _) := fun w => ih (b - a - half (b - a)) (by omega) (a + half (b - a)) b w (by omega) (by omega) hb
    have l1 := lenR lo hi a (a + half (b - a)) (by omega) (by omega)
    have l2 := lenR lo hi (a + half (b - a)) b (by omega) hb
    obtain ⟨k, HK⟩ : ∃ k, Hid (half (b - a) = k) := ⟨_, rfl⟩
    rw [HK.out] at SP I1 I2 HWL hh l1 l2
    obtain ⟨x, HX⟩ : ∃ x, Hid ((WL (lkR lo hi) a (a + k)).length = x) := ⟨_, rfl⟩
    obtain ⟨y, HY⟩ : ∃ y, Hid ((WL (lkR lo hi) (a + k) b).length = y) := ⟨_, rfl⟩
    rw [HX.out] at I1 HWL l1
    rw [HY.out] at I2 HWL l2
    have z1 : ((b - a : Nat) : Int) = (b : Int) - a := by omega
    have z2 : ((a + k : Nat) : Int) = (a : Int) + k := by omega
    have z3 : ((x + y : Nat) : Int) = (x : Int) + y := by omega
    rw [z1] at SP
    rw [z2] at I1 I2
    have HE := HWL.out
    subst HE
    rw [z3]
    have hw1 : IntKind.i64.wrap ((a : Int) + k) = (a : Int) + k := by rw [IntKind.wrap_i64]; omega
    have hw2 : IntKind.i64.wrap ((b : Int) - a) = (b : Int) - a := by rw [IntKind.wrap_i64]; omega
    have hw3 : IntKind.i64.wrap ((x : Int) + y) = (x : Int) + y := by rw [IntKind.wrap_i64]; omega
    clear ih HT HWL HX HY HK
    by_cases h3a : lo ≤ a
    · have h3b : ¬ b ≤ hi := by omega
      clear h3 h2n hh hn l1 l2 hlen hlo hhi
      go_enter Tryz.func96, Tryz.ntmps96
      go_wp2_with fail
      refine (SP.out _).mono ?_
      rintro e w1 ⟨rfl, hw⟩
      subst hw
      go_wp2_with fail
      refine (I1.out _).mono ?_
      rintro e w2 ⟨rfl, hw⟩
      subst hw
      go_wp2_with fail
      refine (I2.out _).mono ?_
      rintro e w3 ⟨rfl, hw⟩
      subst hw
      go_wp2
      go_ret
      exact ⟨rfl, rfl⟩
    · clear h3 h2n hh hn l1 l2 hlen hlo hhi
      go_enter Tryz.func96, Tryz.ntmps96
      go_wp2_with fail
      refine (SP.out _).mono ?_
      rintro e w1 ⟨rfl, hw⟩
      subst hw
      go_wp2_with fail
      refine (I1.out _).mono ?_
      rintro e w2 ⟨rfl, hw⟩
      subst hw
      go_wp2_with fail
      refine (I2.out _).mono ?_
      rintro e w3 ⟨rfl, hw⟩
      subst hw
      go_wp2
      go_ret
      exact ⟨rfl, rfl⟩
-- the places from a up to b
def inX (xs : List Int) (a b : Nat) : List Int := xs.filter fun p => decide ((a : Int) ≤ p) && decide (p < (b : Int))
theorem own_readsI {w : World} {B : Nat} {v : Value} {zs : List Int} (h : w.ownsRow B 3 1 v zs.length (zs.map (Value.int .i64))) : ReadsI w v zs := by
  rcases h.2 with ⟨h1, h2⟩ | ⟨g, cap, cur, rfl, _, _, hc, _⟩
  · rw [h1]; exact ⟨none, 0, by rw [h2], by omega, .inl h2⟩
  · refine ⟨_, cap, rfl, by omega, .inr ⟨g, 0, rfl, fun i hi => ?_⟩⟩
    rw [Nat.zero_add, h.cellAt i (by omega), List.getElem?_map, List.getElem?_eq_getElem hi, List.getD_eq_getElem?_getD, List.getElem?_eq_getElem hi]
    rfl
set_option maxHeartbeats 6400000 in
set_option maxRecDepth 100000 in
theorem withinC (v : Value) (xs : List Int) (a b : Nat) (w : World) (hR : ReadsI w v xs) (hz : xs.length ≤ 1024) :
    Calls Tryz.prog 109 #[v, .int .i64 a, .int .i64 b] w fun e w' => (∃ p l c, e = .returned (.slice p l c) ∧ ReadsI w' (.slice p l c) (inX xs a b)) ∧ Below w.heap.size w w' := by
  obtain ⟨i9, hi9', hz0, hz1, hz2⟩ := info_parts hiE
  have HIN : Hid (_ ∧ _ ∧ _ ∧ _) := ⟨hi9', hz0, hz1, hz2⟩
  obtain ⟨va, cap, rfl, hcap, hh⟩ := hR
  have HC : Hid (xs.length = 0 ∨ ∃ g off, va = some ⟨g, off, none⟩ ∧ ∀ i, i < xs.length → w.cell? ⟨g, off + i, none⟩ = some (.int .i64 (xs.getD i 0))) := hh
  obtain ⟨l, HN⟩ : ∃ n, Hid (xs.length = n) := ⟨_, rfl⟩
  rw [HN.out] at HC hcap hz ⊢
  clear hi9' hz0 hz1 hz2 hh
  go_enter Tryz.func109, Tryz.ntmps109
  go_wp2
  go_loopw [7, 8] (fun o i wr => ∃ (k : Nat) (zs : List Int), k ≤ l ∧ zs.length ≤ k ∧ i = .int .i64 k ∧ Hid (zs = inX (xs.take k) a b) ∧ Hid (wr.ownsRow w.heap.size 3 1 o zs.length (zs.map (Value.int .i64))) ∧ Hid (Below w.heap.size w wr)) (fun _ i _ => (l - intOf i).toNat)
  case atStart => exact ⟨0, [], by omega, by simp, rfl, by show _ = _; rw [List.take_zero]; rfl, World.ownsRow_nil _ _ _ _, Below.refl _ _⟩
  case round =>
    obtain ⟨k, zs, hk, hzk, rfl, HU, HO, HB⟩ := hrel
    obtain ⟨oa, oc, ho⟩ := own_form HO.out
    subst ho
    obtain ⟨m, HM⟩ : ∃ m, Hid (zs.length = m) := ⟨_, rfl⟩
    rw [HM.out] at HO hzk ⊢
    by_cases h1 : k < l
    · have h1' : (k : Int) < l := by omega
      obtain ⟨g, off, rfl, hc⟩ : ∃ g off, va = some ⟨g, off, none⟩ ∧ ∀ i, i < l → w.cell? ⟨g, off + i, none⟩ = some (.int .i64 (xs.getD i 0)) := by
        rcases HC.out with h | h
        · omega
        · exact h
      have c0 := hc k h1
      have c1 := (HB.out.cell (World.block_lt_of_cell? _ _ c0)).trans c0
      have hkx : k < xs.length := by rw [HN.out]; exact h1
      have htk : xs.take (k + 1) = xs.take k ++ [xs.getD k 0] := by
        rw [List.take_add_one, List.getElem?_eq_getElem hkx, List.getD_eq_getElem?_getD, List.getElem?_eq_getElem hkx]; rfl
      obtain ⟨X, HXX⟩ : ∃ X, Hid (xs.getD k 0 = X) := ⟨_, rfl⟩
      rw [HXX.out] at c1 htk
      have HTK : Hid (xs.take (k + 1) = xs.take k ++ [X]) := htk
      have HNO : Hid (¬ ((a : Int) ≤ X ∧ X < b) → zs = inX (xs.take (k + 1)) a b) := fun hx => by
        rw [HTK.out, HU.out]
        unfold inX
        have : (decide ((a : Int) ≤ X) && decide (X < (b : Int))) = false := by
          rw [Bool.and_eq_false_iff, decide_eq_false_iff_not, decide_eq_false_iff_not]; omega
        rw [List.filter_append, List.filter_cons, List.filter_nil, if_neg (by rw [this]; decide), List.append_nil]
      have HYES : Hid ((a : Int) ≤ X → X < b → zs ++ [X] = inX (xs.take (k + 1)) a b) := fun g1 g2 => by
        rw [HTK.out, HU.out]
        unfold inX
        rw [List.filter_append, List.filter_cons, List.filter_nil, if_pos (by rw [decide_eq_true g1, decide_eq_true g2]; rfl)]
      clear hc c0 htk hkx
      by_cases x1 : (a : Int) ≤ X
      · have d1 : decide ((a : Int) ≤ X) = true := decide_eq_true x1
        by_cases x2 : X < (b : Int)
        · have d2 : decide (X < (b : Int)) = true := decide_eq_true x2
          have HU1 : Hid (zs ++ [X] = inX (xs.take (k + 1)) a b) := HYES.out x1 x2
          have O1a : Hid ((wr.alloc (.cells #[.int .i64 X] 3)).ownsRow w.heap.size 3 1 (.slice oa m oc) m (zs.map (Value.int .i64))) := HO.out.alloc (.cells #[.int .i64 X] 3)
          have B3a : Hid (Below w.heap.size w (wr.alloc (.cells #[.int .i64 X] 3))) := HB.out.alloc HB.out.size _
          have NW : Hid (∀ (j : Nat) (x : Value), [Value.int .i64 X][j]? = some x → (wr.alloc (.cells #[.int .i64 X] 3)).cell? (Addr.add ⟨wr.heap.size, 0, none⟩ j) = some x) := new_one wr _ _
          have MO : Hid (∀ u ∈ [Value.int .i64 X], u.oneCell' = true) := fun u hu => by simp only [List.mem_cons, List.not_mem_nil, or_false] at hu; subst hu; rfl
          clear x1 x2 HNO HYES
          go_wp2_with (at_builtin; refine wpList_append_own _ rfl _ _ 33 rfl w.heap.size 3 i9 (.int .i64 0) 1 8 Tryz.underlying33 HIN.out.1 HIN.out.2.1 HIN.out.2.2.1 HIN.out.2.2.2 rfl (by decide) _ m _ rfl O1a.out ⟨wr.heap.size, 0, none⟩ 1 1 [.int .i64 X] rfl rfl NW.out MO.out (by unfold maxLen; omega) (by omega) B3a.out.size ?_; intro f' w4 ho hg hnn; have O2r : Hid (w4.ownsRow w.heap.size 3 1 f' (m + 1) (zs.map (Value.int .i64) ++ [.int .i64 X])) := ho; have B4 : Hid (Below w.heap.size w w4) := Below.grown B3a.out hg B3a.out.size (fun j hj => (O1a.out.lt _ hj).1); clear ho hg hnn)
          go_roundw
          case rel => exact ⟨k + 1, zs ++ [X], by omega, by rw [List.length_append, HM.out, List.length_singleton]; omega, by go_num, HU1, by show World.ownsRow _ _ _ _ _ _ _; rw [List.length_append, HM.out, List.map_append]; exact O2r.out, B4⟩
          case measure => simp [intOf]; omega
        · have d2 : decide (X < (b : Int)) = false := decide_eq_false x2
          have HU1 : Hid (zs = inX (xs.take (k + 1)) a b) := HNO.out (fun h => x2 h.2)
          clear x1 x2 HNO HYES
          go_wp2
          go_roundw
          case rel => exact ⟨k + 1, zs, by omega, by rw [HM.out]; omega, by go_num, HU1, by show World.ownsRow _ _ _ _ _ _ _; rw [HM.out]; exact HO.out, HB⟩
          case measure => simp [intOf]; omega
      · have d1 : decide ((a : Int) ≤ X) = false := decide_eq_false x1
        have HU1 : Hid (zs = inX (xs.take (k + 1)) a b) := HNO.out (fun h => x1 h.1)
        clear x1 HNO HYES
        go_wp2
        go_roundw
        case rel => exact ⟨k + 1, zs, by omega, by rw [HM.out]; omega, by go_num, HU1, by show World.ownsRow _ _ _ _ _ _ _; rw [HM.out]; exact HO.out, HB⟩
        case measure => simp [intOf]; omega
    · have h1' : ¬ (k : Int) < l := by omega
      have HE : Hid (zs = inX xs a b) := by
        show _ = _
        rw [HU.out, List.take_of_length_le (by rw [HN.out]; omega)]
      have hR := HO.out
      go_wp2
      go_ret
      refine ⟨⟨_, _, _, rfl, ?_⟩, HB.out⟩
      rw [← HE.out]
      exact own_readsI (by rw [HM.out]; exact HO.out)
end Go.Proofs.YthppkdjekfginaaGreatDoor.de

namespace Go.Proofs.YthppkdjekfginaaGreatDoor.df
open Go.RowKit Go.PlainAid
open Go.Proofs.YthppkdjekfginaaGreatDoor.ca Go.Proofs.YthppkdjekfginaaGreatDoor.cb Go.Proofs.YthppkdjekfginaaGreatDoor.cp Go.Proofs.YthppkdjekfginaaGreatDoor.ga Go.Proofs.YthppkdjekfginaaGreatDoor.aa Go.Proofs.YthppkdjekfginaaGreatDoor.ab Go.Proofs.YthppkdjekfginaaGreatDoor.kp Go.Proofs.YthppkdjekfginaaGreatDoor.lk Go.Proofs.YthppkdjekfginaaGreatDoor.mi Go.Proofs.YthppkdjekfginaaGreatDoor.mk Go.Proofs.YthppkdjekfginaaGreatDoor.lm Go.Proofs.YthppkdjekfginaaGreatDoor.tl Go.Proofs.YthppkdjekfginaaGreatDoor.co Go.Proofs.YthppkdjekfginaaGreatDoor.cn Go.Proofs.YthppkdjekfginaaGreatDoor.ti Go.Proofs.YthppkdjekfginaaGreatDoor.dc Go.Proofs.YthppkdjekfginaaGreatDoor.de
set_option linter.unusedVariables false

theorem WL_agree {ps qs : List Nat} {a b : Nat} (h : ∀ p, a ≤ p → p < b → (p ∈ ps ↔ p ∈ qs)) : WL (lkM ps) a b = WL (lkM qs) a b := by
  rw [multi_is (b - a) ps qs a b rfl h, multi_is (b - a) qs qs a b rfl (fun _ _ _ => Iff.rfl)]
def Within (xs : List Int) (a b : Nat) : Prop := ∀ p ∈ xs, (a : Int) ≤ p ∧ p < b
theorem inX_within (xs : List Int) (a b : Nat) : Within (inX xs a b) a b := fun p hp => by
  unfold inX at hp
  have := (List.mem_filter.1 hp).2
  rw [Bool.and_eq_true, decide_eq_true_eq, decide_eq_true_eq] at this
  exact this
theorem inX_len (xs : List Int) (a b : Nat) : (inX xs a b).length ≤ xs.length := List.length_filter_le _ _
theorem WL_in {xs : List Int} {a b c d : Nat} (h : ∀ p ∈ xs, (0 : Int) ≤ p) : WL (lkM (natL xs)) c d = WL (lkM (natL (inX xs c d))) c d := by
  refine WL_agree fun p h1 h2 => ?_
  unfold natL inX
  rw [List.mem_map, List.mem_map]
  constructor
  · rintro ⟨x, hx, rfl⟩
    have := h x hx
    exact ⟨x, List.mem_filter.2 ⟨hx, by rw [Bool.and_eq_true, decide_eq_true_eq, decide_eq_true_eq]; omega⟩, rfl⟩
  · rintro ⟨x, hx, rfl⟩
    exact ⟨x, (List.mem_filter.1 hx).1, rfl⟩
theorem lkM_nil (a b : Nat) : lkM (natL []) a b = 1 := by unfold lkM natL; rw [if_neg (by rintro ⟨p, hp, _⟩; cases hp)]
theorem lkM_has {xs : List Int} {a b : Nat} (h : Within xs a b) (h1 : xs ≠ []) : lkM (natL xs) a b = if b - a = 1 then 0 else 2 := by
  obtain ⟨x, t, rfl⟩ := List.exists_cons_of_ne_nil h1
  have := h x (by simp)
  unfold lkM natL
  rw [if_pos ⟨x.toNat, by simp, by omega, by omega⟩]
set_option maxHeartbeats 1600000 in
theorem rGaps (n : Nat) : ∀ (a b : Nat) (v : Value) (xs : List Int) (w : World), b - a = n → a < b → b ≤ 4611686018427387904 → Within xs a b → xs.length ≤ 1024 → ReadsI w v xs →
    Calls Tryz.prog 97 #[.int .i64 a, .int .i64 b, v] w fun e w' => e = .returned (.int .i64 ((WL (lkM (natL xs)) a b).length : Nat)) ∧ Below w.heap.size w w' := by
  induction n using Nat.strongRecOn with
  | ind n ih =>
    intro a b v xs w hn hab hb hW hz hR
    have hlen := lenM (natL xs) a b hab hb
    obtain ⟨t, HT⟩ : ∃ t, Hid ((WL (lkM (natL xs)) a b).length = t) := ⟨_, rfl⟩
    rw [HT.out] at hlen ⊢
    have HR : Hid (ReadsI w v xs) := hR
    obtain ⟨va, cap, rfl, hcap, _⟩ := hR
    by_cases h0 : xs = []
    · obtain rfl : 1 = t := by rw [← HT.out, h0, WL_take (lkM_nil a b)]; rfl
      subst h0
      simp only [List.length_nil] at HR hcap hz ⊢
      clear ih HR
      go_enter Tryz.func97, Tryz.ntmps97
      go_wp2
      go_ret
      exact ⟨rfl, Below.refl _ _⟩
    have hlk := lkM_has hW h0
    have hl0 : xs.length ≠ 0 := fun h => h0 (List.length_eq_zero_iff.1 h)
    have HWI : Hid (∀ p ∈ xs, (0 : Int) ≤ p) := fun p hp => by have := hW p hp; omega
    have WN : Hid (∀ w c d, ReadsI w (.slice va xs.length cap) xs → Calls _ _ _ _ _) := fun w c d h => withinC (.slice va xs.length cap) xs c d w h hz
    have IX : Hid (∀ c d, (inX xs c d).length ≤ 1024) := fun c d => Nat.le_trans (inX_len _ _ _) hz
    obtain ⟨l, HL⟩ : ∃ l, Hid (xs.length = l) := ⟨_, rfl⟩
    rw [HL.out] at HR WN hl0 ⊢
    have q0 : ((l : Int) == 0) = false := by rw [beq_eq_false_iff_ne]; omega
    by_cases h1 : b - a = 1
    · obtain rfl : 0 = t := by rw [← HT.out, WL_pass (by rw [hlk, if_pos h1])]; rfl
      have q1 : ((b : Int) - a == 1) = true := by rw [beq_iff_eq]; omega
      have hw2 : IntKind.i64.wrap ((b : Int) - a) = (b : Int) - a := by rw [IntKind.wrap_i64]; omega
      clear ih HR WN hlk
      go_enter Tryz.func97, Tryz.ntmps97
      go_wp2
      go_ret
      exact ⟨rfl, Below.refl _ _⟩
    have q1 : ((b : Int) - a == 1) = false := by rw [beq_eq_false_iff_ne]; omega
    have h2n : 2 ≤ b - a := by omega
    have hh := half_lt h2n
    have HWL : Hid (t = (WL (lkM (natL (inX xs a (a + half (b - a))))) a (a + half (b - a))).length + (WL (lkM (natL (inX xs (a + half (b - a)) b))) (a + half (b - a)) b).length) := by
      show _ = _
      rw [← HT.out, WL_left (by rw [hlk, if_neg h1]) h2n, List.length_append, ← WL_in (a := a) (b := b) HWI.out, ← WL_in (a := a) (b := b) HWI.out]
    have SP : Hid (∀ w, Calls _ _ _ _ _) := fun w => rSplit (b - a) h2n (by omega) w
    have I1 : Hid (∀ w v, ReadsI w v (inX xs a (a + half (b - a))) → Calls _ _ _ _ _) := fun w v h => ih (half (b - a)) (by omega) a (a + half (b - a)) v _ w (by omega) (by omega) (by omega) (inX_within _ _ _) (IX.out _ _) h
    have I2 : Hid (∀ w v, ReadsI w v (inX xs (a + half (b - a)) b) → Calls _ _ _ _ _) := fun w v h => ih (b - a - half (b - a)) (by omega) (a + half (b - a)) b v _ w (by omega) (by omega) hb (inX_within _ _ _) (IX.out _ _) h
    have l1 := lenM (natL (inX xs a (a + half (b - a)))) a (a + half (b - a)) (by omega) (by omega)
    have l2 := lenM (natL (inX xs (a + half (b - a)) b)) (a + half (b - a)) b (by omega) hb
    have W1 : Hid (∀ w, ReadsI w (.slice va l cap) xs → Calls _ _ _ _ _) := fun w h => WN.out w a (a + half (b - a)) h
    have W2 : Hid (∀ w, ReadsI w (.slice va l cap) xs → Calls _ _ _ _ _) := fun w h => WN.out w (a + half (b - a)) b h
    obtain ⟨k, HK⟩ : ∃ k, Hid (half (b - a) = k) := ⟨_, rfl⟩
    rw [HK.out] at SP I1 I2 HWL hh l1 l2 W1 W2
    obtain ⟨x, HX⟩ : ∃ x, Hid ((WL (lkM (natL (inX xs a (a + k)))) a (a + k)).length = x) := ⟨_, rfl⟩
    obtain ⟨y, HY⟩ : ∃ y, Hid ((WL (lkM (natL (inX xs (a + k) b))) (a + k) b).length = y) := ⟨_, rfl⟩
    rw [HX.out] at I1 HWL l1
    rw [HY.out] at I2 HWL l2
    obtain ⟨xs1, HX1⟩ : ∃ z, Hid (inX xs a (a + k) = z) := ⟨_, rfl⟩
    obtain ⟨xs2, HX2⟩ : ∃ z, Hid (inX xs (a + k) b = z) := ⟨_, rfl⟩
    rw [HX1.out] at I1 W1
    rw [HX2.out] at I2 W2
    have z1 : ((b - a : Nat) : Int) = (b : Int) - a := by omega
    have z2 : ((a + k : Nat) : Int) = (a : Int) + k := by omega
    have z3 : ((x + y : Nat) : Int) = (x : Int) + y := by omega
    rw [z1] at SP
    rw [z2] at I1 I2 W1 W2
    have HE := HWL.out
    subst HE
    rw [z3]
    have hw1 : IntKind.i64.wrap ((a : Int) + k) = (a : Int) + k := by rw [IntKind.wrap_i64]; omega
    have hw2 : IntKind.i64.wrap ((b : Int) - a) = (b : Int) - a := by rw [IntKind.wrap_i64]; omega
    have hw3 : IntKind.i64.wrap ((x : Int) + y) = (x : Int) + y := by rw [IntKind.wrap_i64]; omega
    clear ih HT HWL HX HY HK h1 h2n hh hn l1 l2 hlen hlk WN hl0 hz hcap
    go_enter Tryz.func97, Tryz.ntmps97
    go_wp2_with fail
    refine (SP.out _).mono ?_
    rintro e w1 ⟨rfl, hw⟩
    subst hw
    go_wp2_with fail
    refine (W1.out _ HR.out).mono ?_
    rintro e w2 ⟨⟨p1, l1, c1, rfl, hr1⟩, hb2⟩
    have B2 : Hid (Below w1.heap.size w1 w2) := hb2
    have R1 : Hid (ReadsI w2 (.slice p1 l1 c1) xs1) := hr1
    clear hb2 hr1
    go_wp2_with fail
    refine (I1.out _ _ R1.out).mono ?_
    rintro e w3 ⟨rfl, hb3⟩
    have B3 : Hid (Below w1.heap.size w1 w3) := over B2.out hb3
    clear hb3
    go_wp2_with fail
    refine (W2.out _ (HR.out.later B3.out)).mono ?_
    rintro e w4 ⟨⟨p2, l2, c2, rfl, hr2⟩, hb4⟩
    have B4 : Hid (Below w1.heap.size w1 w4) := over B3.out hb4
    have R2 : Hid (ReadsI w4 (.slice p2 l2 c2) xs2) := hr2
    clear hb4 hr2
    go_wp2_with fail
    refine (I2.out _ _ R2.out).mono ?_
    rintro e w5 ⟨rfl, hb5⟩
    have B5 : Hid (Below w1.heap.size w1 w5) := over B4.out hb5
    clear hb5
    go_wp2
    go_ret
    exact ⟨rfl, B5.out⟩
theorem below_dw (w : World) (m : Nat) : Below w.heap.size w (w.drewN m) := below_dN (Below.refl _ _) m
-- the shape's refusals
set_option maxHeartbeats 1600000 in
theorem rShape (kind a b n : Int) (v : Value) (xs : List Int) (w : World) (hk : 1 ≤ kind ∧ kind ≤ 4) (hn : 0 ≤ n ∧ n ≤ 4611686018427387904) (hR : ReadsI w v xs) (hz : xs.length ≤ 140737488355328) :
    Calls Tryz.prog 93 #[.int .i64 kind, .int .i64 a, .int .i64 b, .int .i64 n, v] w fun e w' => e = .returned (.int .i64 (ref9 kind a b n xs)) ∧ ∃ m, w' = w.drewN m := by
  have PC : Hid (Calls _ _ _ _ _) := placesD v xs n w hR hz
  obtain ⟨va, cap, rfl, _⟩ := hR
  obtain ⟨r, HR⟩ : ∃ r, Hid (ref9 kind a b n xs = r) := ⟨_, rfl⟩
  rw [HR.out]
  have hr := HR.out
  unfold ref9 at hr
  rw [if_neg (by omega), if_neg (by omega)] at hr
  rcases (show kind = 1 ∨ kind = 2 ∨ kind = 3 ∨ kind = 4 by omega) with rfl | rfl | rfl | rfl
  · rw [if_pos rfl] at hr
    by_cases a1 : a < 0
    · obtain rfl : 81 = r := by rw [← hr, if_pos (.inl a1)]
      have d5 : decide (a < 0) = true := decide_eq_true a1
      clear hr hn a1
      go_enter Tryz.func93, Tryz.ntmps93
      go_wp2
      go_ret
      exact ⟨rfl, 0, rfl⟩
    have d5 : decide (a < 0) = false := decide_eq_false a1
    by_cases a2 : n ≤ a
    · obtain rfl : 81 = r := by rw [← hr, if_pos (.inr a2)]
      have d6 : decide (n ≤ a) = true := decide_eq_true a2
      clear hr hn a1 a2
      go_enter Tryz.func93, Tryz.ntmps93
      go_wp2
      go_ret
      exact ⟨rfl, 0, rfl⟩
    have d6 : decide (n ≤ a) = false := decide_eq_false a2
    obtain rfl : 0 = r := by rw [← hr, if_neg (by omega)]
    clear hr hn a1 a2
    go_enter Tryz.func93, Tryz.ntmps93
    go_wp2
    go_ret
    exact ⟨rfl, 0, rfl⟩
  · rw [if_neg (by omega), if_pos rfl] at hr
    by_cases a1 : a < 0
    · obtain rfl : 80 = r := by rw [← hr, if_pos (.inl a1)]
      have d5 : decide (a < 0) = true := decide_eq_true a1
      clear hr hn a1
      go_enter Tryz.func93, Tryz.ntmps93
      go_wp2
      go_ret
      exact ⟨rfl, 0, rfl⟩
    have d5 : decide (a < 0) = false := decide_eq_false a1
    by_cases a2 : n < a
    · obtain rfl : 80 = r := by rw [← hr, if_pos (.inr a2)]
      have d6 : decide (n < a) = true := decide_eq_true a2
      clear hr hn a1 a2
      go_enter Tryz.func93, Tryz.ntmps93
      go_wp2
      go_ret
      exact ⟨rfl, 0, rfl⟩
    have d6 : decide (n < a) = false := decide_eq_false a2
    obtain rfl : 0 = r := by rw [← hr, if_neg (by omega)]
    clear hr hn a1 a2
    go_enter Tryz.func93, Tryz.ntmps93
    go_wp2
    go_ret
    exact ⟨rfl, 0, rfl⟩
  · rw [if_neg (by omega), if_neg (by omega), if_pos rfl] at hr
    by_cases a1 : a < 0
    · obtain rfl : 81 = r := by rw [← hr, if_pos (.inl a1)]
      have d5 : decide (a < 0) = true := decide_eq_true a1
      clear hr hn a1
      go_enter Tryz.func93, Tryz.ntmps93
      go_wp2
      go_ret
      exact ⟨rfl, 0, rfl⟩
    have d5 : decide (a < 0) = false := decide_eq_false a1
    by_cases a2 : b ≤ a
    · obtain rfl : 81 = r := by rw [← hr, if_pos (.inr (.inl a2))]
      have d6 : decide (b ≤ a) = true := decide_eq_true a2
      clear hr hn a1 a2
      go_enter Tryz.func93, Tryz.ntmps93
      go_wp2
      go_ret
      exact ⟨rfl, 0, rfl⟩
    have d6 : decide (b ≤ a) = false := decide_eq_false a2
    by_cases a3 : n < b
    · obtain rfl : 81 = r := by rw [← hr, if_pos (.inr (.inr a3))]
      have d7 : decide (n < b) = true := decide_eq_true a3
      clear hr hn a1 a2 a3
      go_enter Tryz.func93, Tryz.ntmps93
      go_wp2
      go_ret
      exact ⟨rfl, 0, rfl⟩
    have d7 : decide (n < b) = false := decide_eq_false a3
    obtain rfl : 0 = r := by rw [← hr, if_neg (by omega)]
    clear hr hn a1 a2 a3
    go_enter Tryz.func93, Tryz.ntmps93
    go_wp2
    go_ret
    exact ⟨rfl, 0, rfl⟩
  · rw [if_neg (by omega), if_neg (by omega), if_neg (by omega)] at hr
    rw [hr] at PC
    clear hr hn
    go_enter Tryz.func93, Tryz.ntmps93
    go_wp2_with fail
    refine PC.out.mono ?_
    rintro e w1 ⟨rfl, m, rfl⟩
    go_wp2
    go_ret
    exact ⟨rfl, m, rfl⟩
def Counted (w : World) (c : Int × Int) (e : Ending) (w' : World) : Prop := e = .returned (.tuple #[.int .i64 c.1, .int .i64 c.2]) ∧ Below w.heap.size w w'
set_option maxHeartbeats 3200000 in
theorem rCount (kind a b n : Int) (v : Value) (xs : List Int) (w : World) (hR : ReadsI w v xs) (hz : xs.length ≤ 140737488355328) :
    Calls Tryz.prog 60 #[.int .i64 kind, .int .i64 a, .int .i64 b, .int .i64 n, v] w (Counted w (cnt9 kind a b n xs)) := by
  have HRD : Hid (ReadsI w v xs) := hR
  have hR2 := hR
  obtain ⟨va, cap, rfl, _⟩ := hR
  by_cases k1 : kind < 1
  · have e : cnt9 kind a b n xs = (0, 110) := by
      have : ref9 kind a b n xs = 110 := by unfold ref9; rw [if_pos (.inl k1)]
      unfold cnt9; rw [this, if_neg (by omega)]
    rw [e]
    have d1 : decide (kind < 1) = true := decide_eq_true k1
    clear k1 e hR2
    go_enter Tryz.func60, Tryz.ntmps60
    go_wp2
    go_ret2
    exact ⟨rfl, Below.refl _ _⟩
  have d1 : decide (kind < 1) = false := decide_eq_false k1
  by_cases k2 : 4 < kind
  · have e : cnt9 kind a b n xs = (0, 110) := by
      have : ref9 kind a b n xs = 110 := by unfold ref9; rw [if_pos (.inr k2)]
      unfold cnt9; rw [this, if_neg (by omega)]
    rw [e]
    have d2 : decide (4 < kind) = true := decide_eq_true k2
    clear k1 k2 e hR2
    go_enter Tryz.func60, Tryz.ntmps60
    go_wp2
    go_ret2
    exact ⟨rfl, Below.refl _ _⟩
  have d2 : decide (4 < kind) = false := decide_eq_false k2
  by_cases n1 : n < 0
  · have e : cnt9 kind a b n xs = (0, 80) := by
      have : ref9 kind a b n xs = 80 := by unfold ref9; rw [if_neg (by omega), if_pos (.inl n1)]
      unfold cnt9; rw [this, if_neg (by omega)]
    rw [e]
    have d3 : decide (n < 0) = true := decide_eq_true n1
    clear k1 k2 n1 e hR2
    go_enter Tryz.func60, Tryz.ntmps60
    go_wp2
    go_ret2
    exact ⟨rfl, Below.refl _ _⟩
  have d3 : decide (n < 0) = false := decide_eq_false n1
  by_cases n2 : 4611686018427387904 < n
  · have e : cnt9 kind a b n xs = (0, 80) := by
      have : ref9 kind a b n xs = 80 := by unfold ref9; rw [if_neg (by omega), if_pos (.inr n2)]
      unfold cnt9; rw [this, if_neg (by omega)]
    rw [e]
    have d4 : decide (4611686018427387904 < n) = true := decide_eq_true n2
    clear k1 k2 n1 n2 e hR2
    go_enter Tryz.func60, Tryz.ntmps60
    go_wp2
    go_ret2
    exact ⟨rfl, Below.refl _ _⟩
  have d4 : decide (4611686018427387904 < n) = false := decide_eq_false n2
  have SC : Hid (Calls _ _ _ _ _) := rShape kind a b n _ xs w (by omega) (by omega) hR2 hz
  by_cases h0 : ref9 kind a b n xs = 0
  · have hc : cnt9 kind a b n xs = (((num9 kind a b n xs : Nat) : Int), 0) := by unfold cnt9; rw [if_pos h0]
    rw [hc]
    rw [h0] at SC
    obtain ⟨N, rfl⟩ : ∃ N : Nat, n = N := ⟨n.toNat, by omega⟩
    have hr := h0
    unfold ref9 at hr
    rw [if_neg (by omega), if_neg (by omega)] at hr
    unfold num9
    rw [Int.toNat_natCast]
    rcases (show kind = 1 ∨ kind = 2 ∨ kind = 3 ∨ kind = 4 by omega) with rfl | rfl | rfl | rfl
    · rw [if_pos rfl] at hr ⊢
      by_cases g : a < 0 ∨ (N : Int) ≤ a
      · rw [if_pos g] at hr; omega
      obtain ⟨A, rfl⟩ : ∃ A : Nat, a = A := ⟨a.toNat, by omega⟩
      rw [Int.toNat_natCast, cI_is (by omega)]
      have C : Hid (∀ w, Calls _ _ _ _ _) := fun w => rIncl A N (by omega) (by omega) w
      obtain ⟨t, HT⟩ : ∃ t, Hid (cI A N = t) := ⟨_, rfl⟩
      rw [HT.out] at C ⊢
      clear hr g h0 hc hR2 k1 k2 n1 n2
      go_enter Tryz.func60, Tryz.ntmps60
      go_wp2_with fail
      refine SC.out.mono ?_
      rintro e w1 ⟨rfl, m, rfl⟩
      go_wp2_with fail
      refine (C.out _).mono ?_
      rintro e w2 ⟨rfl, hw⟩
      subst hw
      go_wp2
      go_ret2
      exact ⟨rfl, below_dw w m⟩
    · rw [if_neg (by omega), if_pos rfl] at hr ⊢
      by_cases g : a < 0 ∨ (N : Int) < a
      · rw [if_pos g] at hr; omega
      obtain ⟨A, rfl⟩ : ∃ A : Nat, a = A := ⟨a.toNat, by omega⟩
      by_cases hA : A = 0
      · subst hA
        rw [if_pos (by rfl)]
        clear hr g h0 hc hR2 k1 k2 n1 n2
        go_enter Tryz.func60, Tryz.ntmps60
        go_wp2_with fail
        refine SC.out.mono ?_
        rintro e w1 ⟨rfl, m, rfl⟩
        go_wp2
        go_ret2
        exact ⟨rfl, below_dw w m⟩
      · rw [if_neg (by omega), Int.toNat_natCast, cG_is (by omega) (by omega)]
        have C : Hid (∀ w, Calls _ _ _ _ _) := fun w => rGrow A N (by omega) (by omega) (by omega) w
        obtain ⟨t, HT⟩ : ∃ t, Hid (cG A N true = t) := ⟨_, rfl⟩
        rw [HT.out] at C ⊢
        have q0 : ((A : Int) == 0) = false := by rw [beq_eq_false_iff_ne]; omega
        clear hr g h0 hc hR2 k1 k2 n1 n2
        go_enter Tryz.func60, Tryz.ntmps60
        go_wp2_with fail
        refine SC.out.mono ?_
        rintro e w1 ⟨rfl, m, rfl⟩
        go_wp2_with fail
        refine (C.out _).mono ?_
        rintro e w2 ⟨rfl, hw⟩
        subst hw
        go_wp2
        go_ret2
        exact ⟨rfl, below_dw w m⟩
    · rw [if_neg (by omega), if_neg (by omega), if_pos rfl] at hr ⊢
      by_cases g : a < 0 ∨ b ≤ a ∨ (N : Int) < b
      · rw [if_pos g] at hr; omega
      obtain ⟨A, rfl⟩ : ∃ A : Nat, a = A := ⟨a.toNat, by omega⟩
      obtain ⟨B, rfl⟩ : ∃ B : Nat, b = B := ⟨b.toNat, by omega⟩
      rw [Int.toNat_natCast, Int.toNat_natCast]
      have C : Hid (∀ w, Calls _ _ _ _ _) := fun w => rRange A B (by omega) (by omega) N 0 N w rfl (by omega) (by omega)
      obtain ⟨t, HT⟩ : ∃ t, Hid ((WL (lkR A B) 0 N).length = t) := ⟨_, rfl⟩
      rw [HT.out] at C ⊢
      clear hr g h0 hc hR2 k1 k2 n1 n2
      go_enter Tryz.func60, Tryz.ntmps60
      go_wp2_with fail
      refine SC.out.mono ?_
      rintro e w1 ⟨rfl, m, rfl⟩
      go_wp2_with fail
      refine (C.out _).mono ?_
      rintro e w2 ⟨rfl, hw⟩
      subst hw
      go_wp2
      go_ret2
      exact ⟨rfl, below_dw w m⟩
    · rw [if_neg (by omega), if_neg (by omega), if_neg (by omega)] at hr ⊢
      obtain ⟨p1, p2, p3, p4⟩ := places_ok hr
      have hN : 1 ≤ N := by have := p3 0 (by omega); omega
      have hWi : Within xs 0 N := fun p hp => by
        obtain ⟨j, hj, rfl⟩ := List.getElem_of_mem hp
        have := p3 j hj
        rw [List.getD_eq_getElem?_getD, List.getElem?_eq_getElem hj] at this
        exact this
      have C : Hid (∀ w, ReadsI w (.slice va xs.length cap) xs → Calls _ _ _ _ _) := fun w h => rGaps N 0 N _ xs w rfl (by omega) (by omega) hWi p2 h
      obtain ⟨t, HT⟩ : ∃ t, Hid ((WL (lkM (natL xs)) 0 N).length = t) := ⟨_, rfl⟩
      obtain ⟨l, HL⟩ : ∃ l, Hid (xs.length = l) := ⟨_, rfl⟩
      rw [HT.out] at C ⊢
      rw [HL.out] at C HRD SC ⊢
      clear hr h0 hc hR2 k1 k2 n1 n2 hWi p1 p2 p3 p4
      go_enter Tryz.func60, Tryz.ntmps60
      go_wp2_with fail
      refine SC.out.mono ?_
      rintro e w1 ⟨rfl, m, rfl⟩
      go_wp2_with fail
      refine (C.out _ (HRD.out.later (below_dw w m))).mono ?_
      rintro e w2 ⟨rfl, hb2⟩
      have B2 : Hid (Below w.heap.size w w2) := over (below_dw w m) hb2
      clear hb2
      go_wp2
      go_ret2
      exact ⟨rfl, B2.out⟩
  · have hc : cnt9 kind a b n xs = (0, ref9 kind a b n xs) := by unfold cnt9; rw [if_neg h0]
    rw [hc]
    have q : (ref9 kind a b n xs == 0) = false := by rw [beq_eq_false_iff_ne]; exact h0
    obtain ⟨r, HT⟩ : ∃ r, Hid (ref9 kind a b n xs = r) := ⟨_, rfl⟩
    rw [HT.out] at SC q ⊢
    clear h0 hc hR2 k1 k2 n1 n2
    go_enter Tryz.func60, Tryz.ntmps60
    go_wp2_with fail
    refine SC.out.mono ?_
    rintro e w1 ⟨rfl, m, rfl⟩
    go_wp2
    go_ret2
    exact ⟨rfl, below_dw w m⟩
end Go.Proofs.YthppkdjekfginaaGreatDoor.df

namespace Go.Proofs.YthppkdjekfginaaGreatDoor.dw
open Go.RowKit Go.PlainAid
open Go.Proofs.YthppkdjekfginaaGreatDoor.ca Go.Proofs.YthppkdjekfginaaGreatDoor.cb Go.Proofs.YthppkdjekfginaaGreatDoor.cp Go.Proofs.YthppkdjekfginaaGreatDoor.ga Go.Proofs.YthppkdjekfginaaGreatDoor.aa Go.Proofs.YthppkdjekfginaaGreatDoor.ab Go.Proofs.YthppkdjekfginaaGreatDoor.kp Go.Proofs.YthppkdjekfginaaGreatDoor.lk Go.Proofs.YthppkdjekfginaaGreatDoor.mi Go.Proofs.YthppkdjekfginaaGreatDoor.mk Go.Proofs.YthppkdjekfginaaGreatDoor.lm Go.Proofs.YthppkdjekfginaaGreatDoor.tl Go.Proofs.YthppkdjekfginaaGreatDoor.co Go.Proofs.YthppkdjekfginaaGreatDoor.ti Go.Proofs.YthppkdjekfginaaGreatDoor.dc Go.Proofs.YthppkdjekfginaaGreatDoor.de
set_option linter.unusedVariables false

set_option maxHeartbeats 6400000 in
set_option maxRecDepth 100000 in
theorem withinO (v : Value) (xs : List Int) (a b : Nat) (w : World) (hR : ReadsI w v xs) (hz : xs.length ≤ 1024) :
    Calls Tryz.prog 109 #[v, .int .i64 a, .int .i64 b] w fun e w' => (∃ p l c, e = .returned (.slice p l c) ∧ ReadsI w' (.slice p l c) (inX xs a b) ∧ ∀ g off, p = some ⟨g, off, none⟩ → w.heap.size ≤ g) ∧ Below w.heap.size w w' := by
  obtain ⟨i9, hi9', hz0, hz1, hz2⟩ := info_parts hiE
  have HIN : Hid (_ ∧ _ ∧ _ ∧ _) := ⟨hi9', hz0, hz1, hz2⟩
  obtain ⟨va, cap, rfl, hcap, hh⟩ := hR
  have HC : Hid (xs.length = 0 ∨ ∃ g off, va = some ⟨g, off, none⟩ ∧ ∀ i, i < xs.length → w.cell? ⟨g, off + i, none⟩ = some (.int .i64 (xs.getD i 0))) := hh
  obtain ⟨l, HN⟩ : ∃ n, Hid (xs.length = n) := ⟨_, rfl⟩
  rw [HN.out] at HC hcap hz ⊢
  clear hi9' hz0 hz1 hz2 hh
  go_enter Tryz.func109, Tryz.ntmps109
  go_wp2
  go_loopw [7, 8] (fun o i wr => ∃ (k : Nat) (zs : List Int), k ≤ l ∧ zs.length ≤ k ∧ i = .int .i64 k ∧ Hid (zs = inX (xs.take k) a b) ∧ Hid (wr.ownsRow w.heap.size 3 1 o zs.length (zs.map (Value.int .i64))) ∧ Hid (Below w.heap.size w wr)) (fun _ i _ => (l - intOf i).toNat)
  case atStart => exact ⟨0, [], by omega, by simp, rfl, by show _ = _; rw [List.take_zero]; rfl, World.ownsRow_nil _ _ _ _, Below.refl _ _⟩
  case round =>
    obtain ⟨k, zs, hk, hzk, rfl, HU, HO, HB⟩ := hrel
    obtain ⟨oa, oc, ho⟩ := own_form HO.out
    subst ho
    obtain ⟨m, HM⟩ : ∃ m, Hid (zs.length = m) := ⟨_, rfl⟩
    rw [HM.out] at HO hzk ⊢
    by_cases h1 : k < l
    · have h1' : (k : Int) < l := by omega
      obtain ⟨g, off, rfl, hc⟩ : ∃ g off, va = some ⟨g, off, none⟩ ∧ ∀ i, i < l → w.cell? ⟨g, off + i, none⟩ = some (.int .i64 (xs.getD i 0)) := by
        rcases HC.out with h | h
        · omega
        · exact h
      have c0 := hc k h1
      have c1 := (HB.out.cell (World.block_lt_of_cell? _ _ c0)).trans c0
      have hkx : k < xs.length := by rw [HN.out]; exact h1
      have htk : xs.take (k + 1) = xs.take k ++ [xs.getD k 0] := by
        rw [List.take_add_one, List.getElem?_eq_getElem hkx, List.getD_eq_getElem?_getD, List.getElem?_eq_getElem hkx]; rfl
      obtain ⟨X, HXX⟩ : ∃ X, Hid (xs.getD k 0 = X) := ⟨_, rfl⟩
      rw [HXX.out] at c1 htk
      have HTK : Hid (xs.take (k + 1) = xs.take k ++ [X]) := htk
      have HNO : Hid (¬ ((a : Int) ≤ X ∧ X < b) → zs = inX (xs.take (k + 1)) a b) := fun hx => by
        rw [HTK.out, HU.out]
        unfold inX
        have : (decide ((a : Int) ≤ X) && decide (X < (b : Int))) = false := by
          rw [Bool.and_eq_false_iff, decide_eq_false_iff_not, decide_eq_false_iff_not]; omega
        rw [List.filter_append, List.filter_cons, List.filter_nil, if_neg (by rw [this]; decide), List.append_nil]
      have HYES : Hid ((a : Int) ≤ X → X < b → zs ++ [X] = inX (xs.take (k + 1)) a b) := fun g1 g2 => by
        rw [HTK.out, HU.out]
        unfold inX
        rw [List.filter_append, List.filter_cons, List.filter_nil, if_pos (by rw [decide_eq_true g1, decide_eq_true g2]; rfl)]
      clear hc c0 htk hkx
      by_cases x1 : (a : Int) ≤ X
      · have d1 : decide ((a : Int) ≤ X) = true := decide_eq_true x1
        by_cases x2 : X < (b : Int)
        · have d2 : decide (X < (b : Int)) = true := decide_eq_true x2
          have HU1 : Hid (zs ++ [X] = inX (xs.take (k + 1)) a b) := HYES.out x1 x2
          have O1a : Hid ((wr.alloc (.cells #[.int .i64 X] 3)).ownsRow w.heap.size 3 1 (.slice oa m oc) m (zs.map (Value.int .i64))) := HO.out.alloc (.cells #[.int .i64 X] 3)
          have B3a : Hid (Below w.heap.size w (wr.alloc (.cells #[.int .i64 X] 3))) := HB.out.alloc HB.out.size _
          have NW : Hid (∀ (j : Nat) (x : Value), [Value.int .i64 X][j]? = some x → (wr.alloc (.cells #[.int .i64 X] 3)).cell? (Addr.add ⟨wr.heap.size, 0, none⟩ j) = some x) := new_one wr _ _
          have MO : Hid (∀ u ∈ [Value.int .i64 X], u.oneCell' = true) := fun u hu => by simp only [List.mem_cons, List.not_mem_nil, or_false] at hu; subst hu; rfl
          clear x1 x2 HNO HYES
          go_wp2_with (at_builtin; refine wpList_append_own _ rfl _ _ 33 rfl w.heap.size 3 i9 (.int .i64 0) 1 8 Tryz.underlying33 HIN.out.1 HIN.out.2.1 HIN.out.2.2.1 HIN.out.2.2.2 rfl (by decide) _ m _ rfl O1a.out ⟨wr.heap.size, 0, none⟩ 1 1 [.int .i64 X] rfl rfl NW.out MO.out (by unfold maxLen; omega) (by omega) B3a.out.size ?_; intro f' w4 ho hg hnn; have O2r : Hid (w4.ownsRow w.heap.size 3 1 f' (m + 1) (zs.map (Value.int .i64) ++ [.int .i64 X])) := ho; have B4 : Hid (Below w.heap.size w w4) := Below.grown B3a.out hg B3a.out.size (fun j hj => (O1a.out.lt _ hj).1); clear ho hg hnn)
          go_roundw
          case rel => exact ⟨k + 1, zs ++ [X], by omega, by rw [List.length_append, HM.out, List.length_singleton]; omega, by go_num, HU1, by show World.ownsRow _ _ _ _ _ _ _; rw [List.length_append, HM.out, List.map_append]; exact O2r.out, B4⟩
          case measure => simp [intOf]; omega
        · have d2 : decide (X < (b : Int)) = false := decide_eq_false x2
          have HU1 : Hid (zs = inX (xs.take (k + 1)) a b) := HNO.out (fun h => x2 h.2)
          clear x1 x2 HNO HYES
          go_wp2
          go_roundw
          case rel => exact ⟨k + 1, zs, by omega, by rw [HM.out]; omega, by go_num, HU1, by show World.ownsRow _ _ _ _ _ _ _; rw [HM.out]; exact HO.out, HB⟩
          case measure => simp [intOf]; omega
      · have d1 : decide ((a : Int) ≤ X) = false := decide_eq_false x1
        have HU1 : Hid (zs = inX (xs.take (k + 1)) a b) := HNO.out (fun h => x1 h.1)
        clear x1 HNO HYES
        go_wp2
        go_roundw
        case rel => exact ⟨k + 1, zs, by omega, by rw [HM.out]; omega, by go_num, HU1, by show World.ownsRow _ _ _ _ _ _ _; rw [HM.out]; exact HO.out, HB⟩
        case measure => simp [intOf]; omega
    · have h1' : ¬ (k : Int) < l := by omega
      have HE : Hid (zs = inX xs a b) := by
        show _ = _
        rw [HU.out, List.take_of_length_le (by rw [HN.out]; omega)]
      have hR := HO.out
      go_wp2
      go_ret
      refine ⟨⟨_, _, _, rfl, ?_, ?_⟩, HB.out⟩
      · rw [← HE.out]
        exact own_readsI (by rw [HM.out]; exact HO.out)
      · intro g off e
        subst e
        rcases HO.out.2 with ⟨h, _⟩ | ⟨g', cap', cur, h, hb', _⟩
        · cases h
        · injection h with e1
          injection e1 with e1
          injection e1 with e1
          omega
end Go.Proofs.YthppkdjekfginaaGreatDoor.dw
