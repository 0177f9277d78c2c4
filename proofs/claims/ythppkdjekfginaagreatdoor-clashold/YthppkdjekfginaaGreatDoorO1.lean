import Derived.Test.YthppkdjekfginaaGreatDoorG1
import Derived.Test.YthppkdjekfginaaGreatDoorG3
import Derived.BigQuiet
import Derived.Deep.DeepCutAuto
import Derived.Deep.RegionWith
import Derived.Deep.RegionHeld3
import Derived.Test.YthppkdjekfginaaGreatDoorG5
import Derived.Test.YthppkdjekfginaaGreatDoorG4
namespace Go.Proofs.YthppkdjekfginaaGreatDoor.wb
open Go.RowKit Go.PlainAid
open Go.Proofs.YthppkdjekfginaaGreatDoor.ca Go.Proofs.YthppkdjekfginaaGreatDoor.cb Go.Proofs.YthppkdjekfginaaGreatDoor.cp Go.Proofs.YthppkdjekfginaaGreatDoor.ga Go.Proofs.YthppkdjekfginaaGreatDoor.aa Go.Proofs.YthppkdjekfginaaGreatDoor.ba Go.Proofs.YthppkdjekfginaaGreatDoor.bb Go.Proofs.YthppkdjekfginaaGreatDoor.kp Go.Proofs.YthppkdjekfginaaGreatDoor.wt
set_option linter.unusedVariables false

def e2 (v : ByteArray × ByteArray) : Value := .agg #[.string v.1, .string v.2]
-- the part's box and the result's
theorem two_start (w : World) (a b : Value) : ((w.alloc (.cells #[a, b] 117)).alloc (.cells #[.string ⟨#[]⟩, .string ⟨#[]⟩] 76)).heap[w.heap.size + 1]? = some (.cells #[.string ⟨#[]⟩, .string ⟨#[]⟩] 76 (0, 0)) := by
  have s1 : (w.alloc (.cells #[a, b] 117)).heap.size = w.heap.size + 1 := by simp
  rw [← s1]; exact heap_alloc_new _ _
-- two texts written into a box
theorem set_two {w : World} {b : Nat} {x y : Value} (h : w.heap[b]? = some (.cells #[x, y] 76 (0, 0))) (u v : Value) : ((w.setCell ⟨b, 0, none⟩ u).setCell ⟨b, 1, none⟩ v).heap[b]? = some (.cells #[u, v] 76 (0, 0)) :=
  heap_setCell_same _ _ 1 _ _ v (heap_setCell_same _ _ 0 _ _ u h)
theorem kp_two {A : Nat → Prop} (w : World) (b : Nat) (u v : Value) (hb : A b) : Kp A w ((w.setCell ⟨b, 0, none⟩ u).setCell ⟨b, 1, none⟩ v) := (Kp.setCell w b 0 u hb).trans (Kp.setCell _ b 1 v hb)
-- but for F and what is new
theorem kp_new {F : Nat → Prop} {w w2 w3 : World} (k : Kp F w w2) {b : Nat} (k2 : Kp (fun q => q = b) w2 w3) (hb : w.heap.size ≤ b) : Kp F w w3 :=
  ⟨k2.os.trans k.os, k2.tape.trans k.tape, k2.output.trans k.output, Nat.le_trans k.size k2.size, fun q hq hn => (k2.block q (Nat.lt_of_lt_of_le hq k.size) (fun e => by omega)).trans (k.block q hq hn)⟩
section
variable {X : Type} {F : Nat → Prop} {St : X → World → Prop} {W : Wy X (ByteArray × ByteArray)} {P : X → Nat → Nat → Prop} {Q : ByteArray × ByteArray → Prop} {lg hg jg : Nat} {lv hv jv : Array Value}
set_option maxHeartbeats 6400000 in
theorem stopB (K : Wk F St e2 W P Q lg hg jg lv hv jv) {D : Nat → Prop} (dl : ∀ {x w}, St x w → ∀ b, D b → b < w.heap.size) (keep : ∀ {x w w'} {G : Nat → Prop}, St x w → Kp G w w' → (∀ b, G b → ¬ D b) → St x w') (a b : Nat) (x : X) (w : World) (hab : a < b) (hb : b ≤ 4611686018427387904) (hP : P x a b) (hS : St x w) (hs : (W.lk x a b).1 < 2) :
    Calls Tryz.prog 83 #[.agg #[.int .i64 a, .int .i64 b], .func (.func lg) #[] lv, .func (.func hg) #[] hv, .func (.func jg) #[] jv] w fun e w' => e = .returned (e2 (go W x a b).1) ∧ St (go W x a b).2 w' ∧ Kp F w w' ∧ Q (go W x a b).1 := by
  have eg := K.lent
  have eh := K.hent
  have BA : Hid (Below w.heap.size w ((w.alloc (.cells #[.int .i64 a, .int .i64 b] 117)).alloc (.cells #[.string ⟨#[]⟩, .string ⟨#[]⟩] 76))) := ((Below.refl _ _).alloc (Nat.le_refl _) _).alloc (by simp) _
  have LC : Hid (Calls _ _ _ _ _) := K.look x a b _ hab hb hP (K.later hS BA.out)
  have HVC : Hid (∀ w, St (W.lk x a b).2 w → Calls _ _ _ _ _) := fun w h2 => K.have' x a b w hab hb hP hs h2
  have HBX : Hid (_ ∧ _ ∧ _ ∧ _) := two_box w (.int .i64 a) (.int .i64 b) (.string ⟨#[]⟩) (.string ⟨#[]⟩) 117 76
  have HR8 := two_start w (.int .i64 a) (.int .i64 b)
  have HF : Hid (∀ b, F b → b < w.heap.size) := K.fl hS
  have HD : Hid (¬ D (w.heap.size + 1)) := fun h => by have := dl hS _ h; omega
  have KE : Hid (∀ {x w w'} {G : Nat → Prop}, St x w → Kp G w w' → (∀ b, G b → ¬ D b) → St x w') := keep
  have HG : go W x a b = W.hv (W.lk x a b).2 a b (W.lk x a b).1 := go_stop hs
  have HQ : Hid (Q (go W x a b).1) := by rw [HG]; exact K.qh hab hP hs
  rw [← HG] at HVC
  have KK : Hid (Wk F St e2 W P Q lg hg jg lv hv jv) := K
  obtain ⟨s, HS⟩ : ∃ s, Hid ((W.lk x a b).1 = s) := ⟨_, rfl⟩
  obtain ⟨y, HY⟩ : ∃ y, Hid ((W.lk x a b).2 = y) := ⟨_, rfl⟩
  obtain ⟨G, HGG⟩ : ∃ G, Hid (go W x a b = G) := ⟨_, rfl⟩
  rw [HS.out, HY.out] at HVC LC
  rw [HS.out] at hs
  rw [HGG.out] at HVC HQ ⊢
  obtain ⟨⟨g1, g2⟩, g3⟩ := G
  unfold e2 at HVC ⊢
  simp only at HVC HQ ⊢
  have H8 : Hid (_ = _) := HR8
  clear K hP hS HG HR8 dl keep
  rcases (show s = 0 ∨ s = 1 by omega) with rfl | rfl
  all_goals (
    go_enter Tryz.func83, Tryz.ntmps83
    go_wp2_with fail
    refine LC.out.mono ?_
    rintro e w1 ⟨rfl, hs1, hk1⟩
    have S1 : Hid (St y w1) := hs1
    have K1 : Hid (Kp F w w1) := (Kp.of_below BA.out).trans hk1
    have c1 := hk1.cell HBX.out.1 (fun h => by have := HF.out _ h; omega)
    have c2 := hk1.cell HBX.out.2.1 (fun h => by have := HF.out _ h; omega)
    have r1 : w1.heap[w.heap.size + 1]? = _ := (hk1.block _ (by simp) (fun h => by have := HF.out _ h; omega)).trans H8.out
    have R1 : Hid (w1.heap[w.heap.size + 1]? = some (.cells #[.string ⟨#[]⟩, .string ⟨#[]⟩] 76 (0, 0))) := r1
    clear hs1 hk1 r1
    go_wp2_with fail
    refine (HVC.out _ S1.out).mono ?_
    rintro e w2 ⟨rfl, hs2, hk2⟩
    have hlt : w.heap.size + 1 < w1.heap.size := (Array.getElem?_eq_some_iff.1 R1.out).1
    have r2 : w2.heap[w.heap.size + 1]? = some (.cells #[.string ⟨#[]⟩, .string ⟨#[]⟩] 76 (0, 0)) := (hk2.block _ hlt (fun h => by have := HF.out _ h; omega)).trans R1.out
    have S2 : Hid (St g3 w2 ∧ Kp F w w2) := ⟨hs2, K1.out.trans hk2⟩
    have f0 := frozen_of_row _ _ 0 _ _ r2
    have f1 := frozen_of_row _ _ 1 _ _ r2
    have d0 : w2.cell? ⟨w.heap.size + 1, 0, none⟩ = some (.string ⟨#[]⟩) := cell_of_row _ _ 0 _ _ _ r2
    have d1 : w2.cell? ⟨w.heap.size + 1, 1, none⟩ = some (.string ⟨#[]⟩) := cell_of_row _ _ 1 _ _ _ r2
    clear hs2 hk2 c1 c2 hlt
    have R3 := set_two r2 (.string g1) (.string g2)
    have K3 : Hid (Kp (fun q => q = w.heap.size + 1) w2 ((w2.setCell ⟨w.heap.size + 1, 0, none⟩ (.string g1)).setCell ⟨w.heap.size + 1, 1, none⟩ (.string g2))) := kp_two w2 _ _ _ rfl
    have e0 : ((w2.setCell ⟨w.heap.size + 1, 0, none⟩ (.string g1)).setCell ⟨w.heap.size + 1, 1, none⟩ (.string g2)).cell? ⟨w.heap.size + 1, 0, none⟩ = some (.string g1) := cell_of_row _ _ 0 _ _ _ R3
    have e1 : ((w2.setCell ⟨w.heap.size + 1, 0, none⟩ (.string g1)).setCell ⟨w.heap.size + 1, 1, none⟩ (.string g2)).cell? ⟨w.heap.size + 1, 1, none⟩ = some (.string g2) := cell_of_row _ _ 1 _ _ _ R3
    have E01 : Hid (_ ∧ _) := ⟨e0, e1⟩
    clear R3 r2 e0 e1
    go_wp2
    generalize (w2.setCell ⟨w.heap.size + 1, 0, none⟩ (.string g1)).setCell ⟨w.heap.size + 1, 1, none⟩ (.string g2) = w3 at K3 E01 ⊢
    (try simp only [Exit.inBlock, Exit.then])
    refine bodyPost_ret (by simp [results, Tryz.results83, go_sem, E01.out.1, E01.out.2]; try rfl) rfl ?_
    exact ⟨rfl, KE.out S2.out.1 K3.out (fun b e => by rw [e]; exact HD.out), kp_new S2.out.2 K3.out (by omega), HQ.out⟩)
set_option maxHeartbeats 12800000 in
theorem leftB (K : Wk F St e2 W P Q lg hg jg lv hv jv) {D : Nat → Prop} (dl : ∀ {x w}, St x w → ∀ b, D b → b < w.heap.size) (keep : ∀ {x w w'} {G : Nat → Prop}, St x w → Kp G w w' → (∀ b, G b → ¬ D b) → St x w') (a b : Nat) (x : X) (w : World) (hab : a < b) (hb : b ≤ 4611686018427387904) (hP : P x a b) (hS : St x w) (hs : (W.lk x a b).1 = 2)
    (IH : ∀ (a' b' : Nat), b' - a' < b - a → a' < b' → b' ≤ 4611686018427387904 → ∀ x w, P x a' b' → St x w → Calls Tryz.prog 83 #[.agg #[.int .i64 a', .int .i64 b'], .func (.func lg) #[] lv, .func (.func hg) #[] hv, .func (.func jg) #[] jv] w fun e w' => e = .returned (e2 (go W x a' b').1) ∧ St (go W x a' b').2 w' ∧ Kp F w w' ∧ Q (go W x a' b').1) :
    Calls Tryz.prog 83 #[.agg #[.int .i64 a, .int .i64 b], .func (.func lg) #[] lv, .func (.func hg) #[] hv, .func (.func jg) #[] jv] w fun e w' => e = .returned (e2 (go W x a b).1) ∧ St (go W x a b).2 w' ∧ Kp F w w' ∧ Q (go W x a b).1 := by
  have eg := K.lent
  have ej := K.jent
  have BA : Hid (Below w.heap.size w ((w.alloc (.cells #[.int .i64 a, .int .i64 b] 117)).alloc (.cells #[.string ⟨#[]⟩, .string ⟨#[]⟩] 76))) := ((Below.refl _ _).alloc (Nat.le_refl _) _).alloc (by simp) _
  have LC : Hid (Calls _ _ _ _ _) := K.look x a b _ hab hb hP (K.later hS BA.out)
  have HBX : Hid (_ ∧ _ ∧ _ ∧ _) := two_box w (.int .i64 a) (.int .i64 b) (.string ⟨#[]⟩) (.string ⟨#[]⟩) 117 76
  have HR8 := two_start w (.int .i64 a) (.int .i64 b)
  have HF : Hid (∀ b, F b → b < w.heap.size) := K.fl hS
  have HD : Hid (¬ D (w.heap.size + 1)) := fun h => by have := dl hS _ h; omega
  have KE : Hid (∀ {x w w'} {G : Nat → Prop}, St x w → Kp G w w' → (∀ b, G b → ¬ D b) → St x w') := keep
  have KK : Hid (Wk F St e2 W P Q lg hg jg lv hv jv) := K
  have h2 := K.wide hab hP (by omega)
  have hh := half_lt h2
  have HC : Hid (∀ w, Calls _ _ _ _ _) := fun w => halves a b h2 hb w
  have HGE : Hid (go W x a b = _) := go_left hs h2
  have HPP : Hid (_ ∧ _) := K.left hab hP hs
  rw [hs] at LC
  obtain ⟨y, HY⟩ : ∃ y, Hid ((W.lk x a b).2 = y) := ⟨_, rfl⟩
  rw [HY.out] at LC HGE HPP
  obtain ⟨k, HK⟩ : ∃ k, Hid (a + half (b - a) = k) := ⟨_, rfl⟩
  have hk : a < k ∧ k < b := by rw [← HK.out]; omega
  rw [HK.out] at HC HGE HPP
  unfold pv at HC
  obtain ⟨A, HAA⟩ : ∃ A, Hid (go W y a k = A) := ⟨_, rfl⟩
  rw [HAA.out] at HGE HPP
  obtain ⟨B, HBB⟩ : ∃ B, Hid (go W A.2 k b = B) := ⟨_, rfl⟩
  rw [HBB.out] at HGE
  have I1 : Hid (∀ w', St y w' → Calls _ _ _ _ _) := fun w' h => IH a k (by omega) hk.1 (by omega) y w' HPP.out.1 h
  have I2 : Hid (∀ w', St A.2 w' → Calls _ _ _ _ _) := fun w' h => IH k b (by omega) hk.2 hb A.2 w' HPP.out.2 h
  rw [HAA.out] at I1
  rw [HBB.out] at I2
  have JC : Hid (∀ w, Q A.1 → Q B.1 → St B.2 w → Calls _ _ _ _ _) := fun w q1 q2 q3 => K.join A.1 B.1 B.2 w q1 q2 q3
  have QJ : Hid (Q A.1 → Q B.1 → Q (W.jn A.1 B.1)) := fun q1 q2 => K.qj q1 q2
  rw [HGE.out]
  obtain ⟨J, HJ⟩ : ∃ J, Hid (W.jn A.1 B.1 = J) := ⟨_, rfl⟩
  rw [HJ.out] at JC QJ ⊢
  obtain ⟨⟨a1, a2⟩, a3⟩ := A
  obtain ⟨⟨b1, b2⟩, b3⟩ := B
  obtain ⟨j1, j2⟩ := J
  unfold e2 at I1 I2 JC ⊢
  simp only at I1 I2 JC QJ ⊢
  have H8 : Hid (_ = _) := HR8
  clear K hP hS HR8 dl keep IH h2 hh HK hs
  go_enter Tryz.func83, Tryz.ntmps83
  go_wp2_with fail
  refine LC.out.mono ?_
  rintro e w1 ⟨rfl, hs1, hk1⟩
  have S1 : Hid (St y w1) := hs1
  have K1 : Hid (Kp F w w1) := (Kp.of_below BA.out).trans hk1
  have c1 := hk1.cell HBX.out.1 (fun h => by have := HF.out _ h; omega)
  have c2 := hk1.cell HBX.out.2.1 (fun h => by have := HF.out _ h; omega)
  have R1 : Hid (w1.heap[w.heap.size + 1]? = some (.cells #[.string ⟨#[]⟩, .string ⟨#[]⟩] 76 (0, 0))) := (hk1.block _ (by simp) (fun h => by have := HF.out _ h; omega)).trans H8.out
  clear hs1 hk1
  go_wp2_with fail
  refine (HC.out _).mono ?_
  rintro e w2 ⟨rfl, hb2⟩
  have B3 : Hid (Below w2.heap.size w2 ((w2.alloc (.cells #[.int .i64 a, .int .i64 k] 117)).alloc (.cells #[.int .i64 k, .int .i64 b] 117))) := ((Below.refl _ _).alloc (Nat.le_refl _) _).alloc (by simp) _
  have S3 : Hid (St y ((w2.alloc (.cells #[.int .i64 a, .int .i64 k] 117)).alloc (.cells #[.int .i64 k, .int .i64 b] 117))) := KK.out.later (KK.out.later S1.out hb2) B3.out
  have K3 : Hid (Kp F w ((w2.alloc (.cells #[.int .i64 a, .int .i64 k] 117)).alloc (.cells #[.int .i64 k, .int .i64 b] 117))) := (K1.out.trans (Kp.of_below hb2)).trans (Kp.of_below B3.out)
  have hz : w.heap.size ≤ w2.heap.size := Nat.le_trans K1.out.size hb2.size
  have HN : Hid (¬ F w2.heap.size ∧ ¬ F (w2.heap.size + 1) ∧ ¬ F (w.heap.size + 1)) := ⟨fun h => by have := HF.out _ h; omega, fun h => by have := HF.out _ h; omega, fun h => by have := HF.out _ h; omega⟩
  have HBB2 : Hid (_ ∧ _ ∧ _ ∧ _) := two_box w2 (.int .i64 a) (.int .i64 k) (.int .i64 k) (.int .i64 b) 117 117
  have R3 : Hid (((w2.alloc (.cells #[.int .i64 a, .int .i64 k] 117)).alloc (.cells #[.int .i64 k, .int .i64 b] 117)).heap[w.heap.size + 1]? = some (.cells #[.string ⟨#[]⟩, .string ⟨#[]⟩] 76 (0, 0))) := by
    have l1 := (Array.getElem?_eq_some_iff.1 R1.out).1
    have q2 := (hb2.block _ l1).trans R1.out
    exact (B3.out.block _ (Array.getElem?_eq_some_iff.1 q2).1).trans q2
  clear hb2 c1 c2
  go_wp2_with fail
  refine (I1.out _ S3.out).mono ?_
  rintro e w4 ⟨rfl, hs4, hk4, hq4⟩
  have S4 : Hid (St a3 w4 ∧ Q (a1, a2)) := ⟨hs4, hq4⟩
  have K4 : Hid (Kp F w w4) := K3.out.trans hk4
  have c3 := hk4.cell HBB2.out.2.2.1 HN.out.2.1
  have c4 := hk4.cell HBB2.out.2.2.2 HN.out.2.1
  have R4 : Hid (w4.heap[w.heap.size + 1]? = some (.cells #[.string ⟨#[]⟩, .string ⟨#[]⟩] 76 (0, 0))) := (hk4.block _ (Array.getElem?_eq_some_iff.1 R3.out).1 HN.out.2.2).trans R3.out
  have l4 : w2.heap.size + 1 < w4.heap.size := World.block_lt_of_cell? _ _ c3
  clear hs4 hk4 hq4 HBB2
  have BL : Hid (Below w4.heap.size w4 (w4.alloc (.cells #[.string a1, .string a2] 76))) := (Below.refl _ _).alloc (Nat.le_refl _) _
  have SL : Hid (St a3 (w4.alloc (.cells #[.string a1, .string a2] 76)).drew) := KK.out.later (KK.out.later S4.out.1 BL.out) (below_dN (Below.refl _ _) 1)
  have hl0 : (w4.alloc (.cells #[.string a1, .string a2] 76)).cell? ⟨w4.heap.size, 0, none⟩ = some (.string a1) := by rw [World.cell?_alloc_at _ _ _ _ rfl]; rfl
  have hl1 : (w4.alloc (.cells #[.string a1, .string a2] 76)).cell? ⟨w4.heap.size, 1, none⟩ = some (.string a2) := by rw [World.cell?_alloc_at _ _ _ _ rfl]; rfl
  have hp0 := (BL.out.cell (World.block_lt_of_cell? _ _ c3)).trans c3
  have hp1 := (BL.out.cell (World.block_lt_of_cell? _ _ c4)).trans c4
  have RL : Hid ((w4.alloc (.cells #[.string a1, .string a2] 76)).heap[w.heap.size + 1]? = some (.cells #[.string ⟨#[]⟩, .string ⟨#[]⟩] 76 (0, 0))) := (BL.out.block _ (Array.getElem?_eq_some_iff.1 R4.out).1).trans R4.out
  clear c3 c4
  have hnl : Hid (¬ F w4.heap.size) := fun h => by have := HF.out _ h; have := K4.out.size; omega
  go_wp2_with fail
  go_region_with (first
    | (go_at_call 83; refine (I2.out _ SL.out).mono ?_; rintro e w5 ⟨rfl, hs5, hk5, hq5⟩; have S5 : Hid (St b3 w5 ∧ Q (b1, b2) ∧ Kp F w w5) := ⟨hs5, hq5, ((K4.out.trans (Kp.of_below BL.out)).trans (Kp.of_below (below_dN (Below.refl _ _) 1))).trans hk5⟩; have R5 : Hid (w5.heap[w.heap.size + 1]? = some (.cells #[.string ⟨#[]⟩, .string ⟨#[]⟩] 76 (0, 0))) := (hk5.block _ (Array.getElem?_eq_some_iff.1 RL.out).1 HN.out.2.2).trans RL.out; have hm0 : w5.cell? ⟨w4.heap.size, 0, none⟩ = some (.string a1) := hk5.cell hl0 hnl.out; have hm1 : w5.cell? ⟨w4.heap.size, 1, none⟩ = some (.string a2) := hk5.cell hl1 hnl.out; clear hs5 hk5 hq5)
    | (refine (JC.out _ S4.out.2 S5.out.2.1 S5.out.1).mono ?_; rintro e w6 ⟨rfl, hb6⟩; have r6 : w6.heap[w.heap.size + 1]? = some (.cells #[.string ⟨#[]⟩, .string ⟨#[]⟩] 76 (0, 0)) := (hb6.block _ (Array.getElem?_eq_some_iff.1 R5.out).1).trans R5.out; have S6 : Hid (St b3 w6 ∧ Kp F w w6 ∧ w6.heap[w.heap.size + 1]? = some (.cells #[.string ⟨#[]⟩, .string ⟨#[]⟩] 76 (0, 0))) := ⟨KK.out.later S5.out.1 hb6, S5.out.2.2.trans (Kp.of_below hb6), r6⟩; have f0 := frozen_of_row _ _ 0 _ _ r6; have f1 := frozen_of_row _ _ 1 _ _ r6; have d0 : w6.cell? ⟨w.heap.size + 1, 0, none⟩ = some (.string ⟨#[]⟩) := cell_of_row _ _ 0 _ _ _ r6; have d1 : w6.cell? ⟨w.heap.size + 1, 1, none⟩ = some (.string ⟨#[]⟩) := cell_of_row _ _ 1 _ _ _ r6; have K7 : Hid (Kp (fun q => q = w.heap.size + 1) w6 ((w6.setCell ⟨w.heap.size + 1, 0, none⟩ (.string j1)).setCell ⟨w.heap.size + 1, 1, none⟩ (.string j2))) := kp_two w6 _ _ _ rfl; have E01 : Hid (((w6.setCell ⟨w.heap.size + 1, 0, none⟩ (.string j1)).setCell ⟨w.heap.size + 1, 1, none⟩ (.string j2)).cell? ⟨w.heap.size + 1, 0, none⟩ = some (.string j1) ∧ ((w6.setCell ⟨w.heap.size + 1, 0, none⟩ (.string j1)).setCell ⟨w.heap.size + 1, 1, none⟩ (.string j2)).cell? ⟨w.heap.size + 1, 1, none⟩ = some (.string j2)) := ⟨cell_of_row _ _ 0 _ _ _ (set_two r6 _ _), cell_of_row _ _ 1 _ _ _ (set_two r6 _ _)⟩; clear hb6 r6))
  all_goals (
    go_wp2
    generalize (w6.setCell ⟨w.heap.size + 1, 0, none⟩ (.string j1)).setCell ⟨w.heap.size + 1, 1, none⟩ (.string j2) = w7 at K7 E01 ⊢
    (try simp only [Exit.inBlock, Exit.then])
    refine bodyPost_ret (by simp [results, Tryz.results83, go_sem, E01.out.1, E01.out.2]; try rfl) rfl ?_
    exact ⟨rfl, KE.out S6.out.1 K7.out (fun b e => by rw [e]; exact HD.out), kp_new S6.out.2.1 K7.out (by omega), QJ.out S4.out.2 S5.out.2.1⟩)
set_option maxHeartbeats 12800000 in
theorem rightB (K : Wk F St e2 W P Q lg hg jg lv hv jv) {D : Nat → Prop} (dl : ∀ {x w}, St x w → ∀ b, D b → b < w.heap.size) (keep : ∀ {x w w'} {G : Nat → Prop}, St x w → Kp G w w' → (∀ b, G b → ¬ D b) → St x w') (a b : Nat) (x : X) (w : World) (hab : a < b) (hb : b ≤ 4611686018427387904) (hP : P x a b) (hS : St x w) (hs : (W.lk x a b).1 = 3)
    (IH : ∀ (a' b' : Nat), b' - a' < b - a → a' < b' → b' ≤ 4611686018427387904 → ∀ x w, P x a' b' → St x w → Calls Tryz.prog 83 #[.agg #[.int .i64 a', .int .i64 b'], .func (.func lg) #[] lv, .func (.func hg) #[] hv, .func (.func jg) #[] jv] w fun e w' => e = .returned (e2 (go W x a' b').1) ∧ St (go W x a' b').2 w' ∧ Kp F w w' ∧ Q (go W x a' b').1) :
    Calls Tryz.prog 83 #[.agg #[.int .i64 a, .int .i64 b], .func (.func lg) #[] lv, .func (.func hg) #[] hv, .func (.func jg) #[] jv] w fun e w' => e = .returned (e2 (go W x a b).1) ∧ St (go W x a b).2 w' ∧ Kp F w w' ∧ Q (go W x a b).1 := by
  have eg := K.lent
  have ej := K.jent
  have BA : Hid (Below w.heap.size w ((w.alloc (.cells #[.int .i64 a, .int .i64 b] 117)).alloc (.cells #[.string ⟨#[]⟩, .string ⟨#[]⟩] 76))) := ((Below.refl _ _).alloc (Nat.le_refl _) _).alloc (by simp) _
  have LC : Hid (Calls _ _ _ _ _) := K.look x a b _ hab hb hP (K.later hS BA.out)
  have HBX : Hid (_ ∧ _ ∧ _ ∧ _) := two_box w (.int .i64 a) (.int .i64 b) (.string ⟨#[]⟩) (.string ⟨#[]⟩) 117 76
  have HR8 := two_start w (.int .i64 a) (.int .i64 b)
  have HF : Hid (∀ b, F b → b < w.heap.size) := K.fl hS
  have HD : Hid (¬ D (w.heap.size + 1)) := fun h => by have := dl hS _ h; omega
  have KE : Hid (∀ {x w w'} {G : Nat → Prop}, St x w → Kp G w w' → (∀ b, G b → ¬ D b) → St x w') := keep
  have KK : Hid (Wk F St e2 W P Q lg hg jg lv hv jv) := K
  have h2 := K.wide hab hP (by omega)
  have hh := half_lt h2
  have HC : Hid (∀ w, Calls _ _ _ _ _) := fun w => halves a b h2 hb w
  have HGE : Hid (go W x a b = _) := go_right (by omega) h2
  have HPP : Hid (_ ∧ _) := K.right hab hP hs
  rw [hs] at LC
  obtain ⟨y, HY⟩ : ∃ y, Hid ((W.lk x a b).2 = y) := ⟨_, rfl⟩
  rw [HY.out] at LC HGE HPP
  obtain ⟨k, HK⟩ : ∃ k, Hid (a + half (b - a) = k) := ⟨_, rfl⟩
  have hk : a < k ∧ k < b := by rw [← HK.out]; omega
  rw [HK.out] at HC HGE HPP
  unfold pv at HC
  obtain ⟨A, HAA⟩ : ∃ A, Hid (go W y k b = A) := ⟨_, rfl⟩
  rw [HAA.out] at HGE HPP
  obtain ⟨B, HBB⟩ : ∃ B, Hid (go W A.2 a k = B) := ⟨_, rfl⟩
  rw [HBB.out] at HGE
  have I1 : Hid (∀ w', St y w' → Calls _ _ _ _ _) := fun w' h => IH k b (by omega) hk.2 hb y w' HPP.out.1 h
  have I2 : Hid (∀ w', St A.2 w' → Calls _ _ _ _ _) := fun w' h => IH a k (by omega) hk.1 (by omega) A.2 w' HPP.out.2 h
  rw [HAA.out] at I1
  rw [HBB.out] at I2
  have JC : Hid (∀ w, Q A.1 → Q B.1 → St B.2 w → Calls _ _ _ _ _) := fun w q1 q2 q3 => K.join B.1 A.1 B.2 w q2 q1 q3
  have QJ : Hid (Q A.1 → Q B.1 → Q (W.jn B.1 A.1)) := fun q1 q2 => K.qj q2 q1
  rw [HGE.out]
  obtain ⟨J, HJ⟩ : ∃ J, Hid (W.jn B.1 A.1 = J) := ⟨_, rfl⟩
  rw [HJ.out] at JC QJ ⊢
  obtain ⟨⟨a1, a2⟩, a3⟩ := A
  obtain ⟨⟨b1, b2⟩, b3⟩ := B
  obtain ⟨j1, j2⟩ := J
  unfold e2 at I1 I2 JC ⊢
  simp only at I1 I2 JC QJ ⊢
  have H8 : Hid (_ = _) := HR8
  clear K hP hS HR8 dl keep IH h2 hh HK hs
  go_enter Tryz.func83, Tryz.ntmps83
  go_wp2_with fail
  refine LC.out.mono ?_
  rintro e w1 ⟨rfl, hs1, hk1⟩
  have S1 : Hid (St y w1) := hs1
  have K1 : Hid (Kp F w w1) := (Kp.of_below BA.out).trans hk1
  have c1 := hk1.cell HBX.out.1 (fun h => by have := HF.out _ h; omega)
  have c2 := hk1.cell HBX.out.2.1 (fun h => by have := HF.out _ h; omega)
  have R1 : Hid (w1.heap[w.heap.size + 1]? = some (.cells #[.string ⟨#[]⟩, .string ⟨#[]⟩] 76 (0, 0))) := (hk1.block _ (by simp) (fun h => by have := HF.out _ h; omega)).trans H8.out
  clear hs1 hk1
  go_wp2_with fail
  refine (HC.out _).mono ?_
  rintro e w2 ⟨rfl, hb2⟩
  have B3 : Hid (Below w2.heap.size w2 ((w2.alloc (.cells #[.int .i64 a, .int .i64 k] 117)).alloc (.cells #[.int .i64 k, .int .i64 b] 117))) := ((Below.refl _ _).alloc (Nat.le_refl _) _).alloc (by simp) _
  have S3 : Hid (St y ((w2.alloc (.cells #[.int .i64 a, .int .i64 k] 117)).alloc (.cells #[.int .i64 k, .int .i64 b] 117))) := KK.out.later (KK.out.later S1.out hb2) B3.out
  have K3 : Hid (Kp F w ((w2.alloc (.cells #[.int .i64 a, .int .i64 k] 117)).alloc (.cells #[.int .i64 k, .int .i64 b] 117))) := (K1.out.trans (Kp.of_below hb2)).trans (Kp.of_below B3.out)
  have hz : w.heap.size ≤ w2.heap.size := Nat.le_trans K1.out.size hb2.size
  have HN : Hid (¬ F w2.heap.size ∧ ¬ F (w2.heap.size + 1) ∧ ¬ F (w.heap.size + 1)) := ⟨fun h => by have := HF.out _ h; omega, fun h => by have := HF.out _ h; omega, fun h => by have := HF.out _ h; omega⟩
  have HBB2 : Hid (_ ∧ _ ∧ _ ∧ _) := two_box w2 (.int .i64 a) (.int .i64 k) (.int .i64 k) (.int .i64 b) 117 117
  have R3 : Hid (((w2.alloc (.cells #[.int .i64 a, .int .i64 k] 117)).alloc (.cells #[.int .i64 k, .int .i64 b] 117)).heap[w.heap.size + 1]? = some (.cells #[.string ⟨#[]⟩, .string ⟨#[]⟩] 76 (0, 0))) := by
    have l1 := (Array.getElem?_eq_some_iff.1 R1.out).1
    have q2 := (hb2.block _ l1).trans R1.out
    exact (B3.out.block _ (Array.getElem?_eq_some_iff.1 q2).1).trans q2
  have g1 := HBB2.out.2.2.1
  have g2 := HBB2.out.2.2.2
  clear hb2 c1 c2
  go_wp2_with fail
  refine (I1.out _ S3.out).mono ?_
  rintro e w4 ⟨rfl, hs4, hk4, hq4⟩
  have S4 : Hid (St a3 w4 ∧ Q (a1, a2)) := ⟨hs4, hq4⟩
  have K4 : Hid (Kp F w w4) := K3.out.trans hk4
  have c3 := hk4.cell HBB2.out.1 HN.out.1
  have c4 := hk4.cell HBB2.out.2.1 HN.out.1
  have R4 : Hid (w4.heap[w.heap.size + 1]? = some (.cells #[.string ⟨#[]⟩, .string ⟨#[]⟩] 76 (0, 0))) := (hk4.block _ (Array.getElem?_eq_some_iff.1 R3.out).1 HN.out.2.2).trans R3.out
  have l4 : w2.heap.size < w4.heap.size := World.block_lt_of_cell? _ _ c3
  clear hs4 hk4 hq4 HBB2 g1 g2
  have BL : Hid (Below w4.heap.size w4 (w4.alloc (.cells #[.string a1, .string a2] 76))) := (Below.refl _ _).alloc (Nat.le_refl _) _
  have SL : Hid (St a3 (w4.alloc (.cells #[.string a1, .string a2] 76)).drew) := KK.out.later (KK.out.later S4.out.1 BL.out) (below_dN (Below.refl _ _) 1)
  have hl0 : (w4.alloc (.cells #[.string a1, .string a2] 76)).cell? ⟨w4.heap.size, 0, none⟩ = some (.string a1) := by rw [World.cell?_alloc_at _ _ _ _ rfl]; rfl
  have hl1 : (w4.alloc (.cells #[.string a1, .string a2] 76)).cell? ⟨w4.heap.size, 1, none⟩ = some (.string a2) := by rw [World.cell?_alloc_at _ _ _ _ rfl]; rfl
  have hp0 := (BL.out.cell (World.block_lt_of_cell? _ _ c3)).trans c3
  have hp1 := (BL.out.cell (World.block_lt_of_cell? _ _ c4)).trans c4
  have RL : Hid ((w4.alloc (.cells #[.string a1, .string a2] 76)).heap[w.heap.size + 1]? = some (.cells #[.string ⟨#[]⟩, .string ⟨#[]⟩] 76 (0, 0))) := (BL.out.block _ (Array.getElem?_eq_some_iff.1 R4.out).1).trans R4.out
  clear c3 c4
  have hnl : Hid (¬ F w4.heap.size) := fun h => by have := HF.out _ h; have := K4.out.size; omega
  go_wp2_with fail
  go_region_with (first
    | (go_at_call 83; refine (I2.out _ SL.out).mono ?_; rintro e w5 ⟨rfl, hs5, hk5, hq5⟩; have S5 : Hid (St b3 w5 ∧ Q (b1, b2) ∧ Kp F w w5) := ⟨hs5, hq5, ((K4.out.trans (Kp.of_below BL.out)).trans (Kp.of_below (below_dN (Below.refl _ _) 1))).trans hk5⟩; have R5 : Hid (w5.heap[w.heap.size + 1]? = some (.cells #[.string ⟨#[]⟩, .string ⟨#[]⟩] 76 (0, 0))) := (hk5.block _ (Array.getElem?_eq_some_iff.1 RL.out).1 HN.out.2.2).trans RL.out; have hm0 : w5.cell? ⟨w4.heap.size, 0, none⟩ = some (.string a1) := hk5.cell hl0 hnl.out; have hm1 : w5.cell? ⟨w4.heap.size, 1, none⟩ = some (.string a2) := hk5.cell hl1 hnl.out; clear hs5 hk5 hq5)
    | (refine (JC.out _ S4.out.2 S5.out.2.1 S5.out.1).mono ?_; rintro e w6 ⟨rfl, hb6⟩; have r6 : w6.heap[w.heap.size + 1]? = some (.cells #[.string ⟨#[]⟩, .string ⟨#[]⟩] 76 (0, 0)) := (hb6.block _ (Array.getElem?_eq_some_iff.1 R5.out).1).trans R5.out; have S6 : Hid (St b3 w6 ∧ Kp F w w6 ∧ w6.heap[w.heap.size + 1]? = some (.cells #[.string ⟨#[]⟩, .string ⟨#[]⟩] 76 (0, 0))) := ⟨KK.out.later S5.out.1 hb6, S5.out.2.2.trans (Kp.of_below hb6), r6⟩; have f0 := frozen_of_row _ _ 0 _ _ r6; have f1 := frozen_of_row _ _ 1 _ _ r6; have d0 : w6.cell? ⟨w.heap.size + 1, 0, none⟩ = some (.string ⟨#[]⟩) := cell_of_row _ _ 0 _ _ _ r6; have d1 : w6.cell? ⟨w.heap.size + 1, 1, none⟩ = some (.string ⟨#[]⟩) := cell_of_row _ _ 1 _ _ _ r6; have K7 : Hid (Kp (fun q => q = w.heap.size + 1) w6 ((w6.setCell ⟨w.heap.size + 1, 0, none⟩ (.string j1)).setCell ⟨w.heap.size + 1, 1, none⟩ (.string j2))) := kp_two w6 _ _ _ rfl; have E01 : Hid (((w6.setCell ⟨w.heap.size + 1, 0, none⟩ (.string j1)).setCell ⟨w.heap.size + 1, 1, none⟩ (.string j2)).cell? ⟨w.heap.size + 1, 0, none⟩ = some (.string j1) ∧ ((w6.setCell ⟨w.heap.size + 1, 0, none⟩ (.string j1)).setCell ⟨w.heap.size + 1, 1, none⟩ (.string j2)).cell? ⟨w.heap.size + 1, 1, none⟩ = some (.string j2)) := ⟨cell_of_row _ _ 0 _ _ _ (set_two r6 _ _), cell_of_row _ _ 1 _ _ _ (set_two r6 _ _)⟩; clear hb6 r6))
  all_goals (
    go_wp2
    generalize (w6.setCell ⟨w.heap.size + 1, 0, none⟩ (.string j1)).setCell ⟨w.heap.size + 1, 1, none⟩ (.string j2) = w7 at K7 E01 ⊢
    (try simp only [Exit.inBlock, Exit.then])
    refine bodyPost_ret (by simp [results, Tryz.results83, go_sem, E01.out.1, E01.out.2]; try rfl) rfl ?_
    exact ⟨rfl, KE.out S6.out.1 K7.out (fun b e => by rw [e]; exact HD.out), kp_new S6.out.2.1 K7.out (by omega), QJ.out S4.out.2 S5.out.2.1⟩)
theorem walkC (K : Wk F St e2 W P Q lg hg jg lv hv jv) {D : Nat → Prop} (dl : ∀ {x w}, St x w → ∀ b, D b → b < w.heap.size) (keep : ∀ {x w w'} {G : Nat → Prop}, St x w → Kp G w w' → (∀ b, G b → ¬ D b) → St x w') (n : Nat) : ∀ (a b : Nat) (x : X) (w : World), b - a = n → a < b → b ≤ 4611686018427387904 → P x a b → St x w →
    Calls Tryz.prog 83 #[.agg #[.int .i64 a, .int .i64 b], .func (.func lg) #[] lv, .func (.func hg) #[] hv, .func (.func jg) #[] jv] w fun e w' => e = .returned (e2 (go W x a b).1) ∧ St (go W x a b).2 w' ∧ Kp F w w' ∧ Q (go W x a b).1 := by
  induction n using Nat.strongRecOn with
  | ind n ih =>
    intro a b x w hn hab hb hP hS
    have h3 := K.four hab hP
    rcases (show (W.lk x a b).1 < 2 ∨ (W.lk x a b).1 = 2 ∨ (W.lk x a b).1 = 3 by omega) with h | h | h
    · exact stopB K dl keep a b x w hab hb hP hS h
    · exact leftB K dl keep a b x w hab hb hP hS h (fun a' b' q1 q2 q3 x w => ih (b' - a') (by omega) a' b' x w rfl q2 q3)
    · exact rightB K dl keep a b x w hab hb hP hS h (fun a' b' q1 q2 q3 x w => ih (b' - a') (by omega) a' b' x w rfl q2 q3)
end
end Go.Proofs.YthppkdjekfginaaGreatDoor.wb

namespace Go.Proofs.YthppkdjekfginaaGreatDoor.qr
open Go.RowKit Go.PlainAid
open Go.Proofs.YthppkdjekfginaaGreatDoor.pl Go.Proofs.YthppkdjekfginaaGreatDoor.pi Go.Proofs.YthppkdjekfginaaGreatDoor.pj Go.Proofs.YthppkdjekfginaaGreatDoor.rf Go.Proofs.YthppkdjekfginaaGreatDoor.ca Go.Proofs.YthppkdjekfginaaGreatDoor.cb Go.Proofs.YthppkdjekfginaaGreatDoor.cp Go.Proofs.YthppkdjekfginaaGreatDoor.ga Go.Proofs.YthppkdjekfginaaGreatDoor.aa Go.Proofs.YthppkdjekfginaaGreatDoor.ka Go.Proofs.YthppkdjekfginaaGreatDoor.kb Go.Proofs.YthppkdjekfginaaGreatDoor.kc Go.Proofs.YthppkdjekfginaaGreatDoor.kp Go.Proofs.YthppkdjekfginaaGreatDoor.lk Go.Proofs.YthppkdjekfginaaGreatDoor.qa Go.Proofs.YthppkdjekfginaaGreatDoor.qb Go.Proofs.YthppkdjekfginaaGreatDoor.wt Go.Proofs.YthppkdjekfginaaGreatDoor.wb
set_option linter.unusedVariables false

-- the older and the newer hash of a part, by what is left of the proof
def WG (wd : Int) (m : Nat) (old : ByteArray) : Wy (List ByteArray) (ByteArray × ByteArray) where
  lk := fun p a b => (lkC m a b, p)
  hv := fun p a b s => if s = 0 then ((old, old), p) else if m ≤ a then ((⟨#[]⟩, p.headD ByteArray.empty), p.drop 1) else ((p.headD ByteArray.empty, p.headD ByteArray.empty), p.drop 1)
  jn := fun l r => (if r.1 = ⟨#[]⟩ then l.1 else NF wd l.1 r.1, NF wd l.2 r.2)
structure SG (base pb ob fb mb wb sob smb : Nat) (wd : Int) (m : Nat) (old : ByteArray) (p : List ByteArray) (w : World) : Prop where
  sh : Bx w sob 0 m ∧ w.cell? ⟨smb, 0, none⟩ = some (.int .i64 m)
  pp : Pile base pb p w
  bo : w.cell? ⟨ob, 0, none⟩ = some (.string old)
  bf : w.cell? ⟨fb, 0, none⟩ = some (.func (.func 48) #[.pointer (some ⟨pb, 0, none⟩)] #[])
  bm : w.cell? ⟨mb, 0, none⟩ = some (.int .i64 m)
  bw : w.cell? ⟨wb, 0, none⟩ = some (.int .i64 wd)
  tab : Tab w
  big : 4 ≤ base ∧ base ≤ w.heap.size
  ne : ob ≠ pb ∧ fb ≠ pb ∧ mb ≠ pb ∧ wb ≠ pb ∧ sob ≠ pb ∧ smb ≠ pb
section
variable {base pb ob fb mb wb sob smb : Nat} {wd : Int} {m : Nat} {old : ByteArray}
def DG (base pb ob fb mb wb sob smb : Nat) : Nat → Prop := fun b => b < base ∨ b = pb ∨ b = ob ∨ b = fb ∨ b = mb ∨ b = wb ∨ b = sob ∨ b = smb
theorem SG.keep {p : List ByteArray} {w w' : World} {G : Nat → Prop} (h : SG base pb ob fb mb wb sob smb wd m old p w) (k : Kp G w w') (hg : ∀ b, G b → ¬ DG base pb ob fb mb wb sob smb b) : SG base pb ob fb mb wb sob smb wd m old p w' := by
  have g1 : ∀ b, G b → base ≤ b := fun b e => by
    have := hg b e
    unfold DG at this
    omega
  have n : ∀ b, DG base pb ob fb mb wb sob smb b → ¬ G b := fun b d e => hg b e d
  have hb : Below base w w' := k.below g1 h.big.2
  exact ⟨⟨⟨k.cell h.sh.1.1 (n _ (by unfold DG; omega)), k.cell h.sh.1.2 (n _ (by unfold DG; omega))⟩, k.cell h.sh.2 (n _ (by unfold DG; omega))⟩, h.pp.keep k g1 (n _ (by unfold DG; omega)), k.cell h.bo (n _ (by unfold DG; omega)), k.cell h.bf (n _ (by unfold DG; omega)), k.cell h.bm (n _ (by unfold DG; omega)), k.cell h.bw (n _ (by unfold DG; omega)), h.tab.below hb h.big.1, ⟨h.big.1, Nat.le_trans h.big.2 k.size⟩, h.ne⟩
theorem SG.later {p : List ByteArray} {w w' : World} (h : SG base pb ob fb mb wb sob smb wd m old p w) (hb : Below w.heap.size w w') : SG base pb ob fb mb wb sob smb wd m old p w' := h.keep (G := fun _ => False) (Kp.of_below hb) (fun _ e => e.elim)
theorem SG.dl {p : List ByteArray} {w : World} (h : SG base pb ob fb mb wb sob smb wd m old p w) : ∀ b, DG base pb ob fb mb wb sob smb b → b < w.heap.size := fun b d => by
  rcases d with d | rfl | rfl | rfl | rfl | rfl | rfl | rfl
  · have := h.big.2; omega
  · exact h.pp.lt
  · exact World.block_lt_of_cell? _ _ h.bo
  · exact World.block_lt_of_cell? _ _ h.bf
  · exact World.block_lt_of_cell? _ _ h.bm
  · exact World.block_lt_of_cell? _ _ h.bw
  · exact World.block_lt_of_cell? _ _ h.sh.1.1
  · exact World.block_lt_of_cell? _ _ h.sh.2
-- the pile's box alone is written
theorem SG.next {h0 : ByteArray} {t : List ByteArray} {w w' : World} (h : SG base pb ob fb mb wb sob smb wd m old (h0 :: t) w) (hp : Pile base pb t w') (k : Kp (fun b => b = pb) w w') : SG base pb ob fb mb wb sob smb wd m old t w' := by
  obtain ⟨n1, n2, n3, n4, n5, n6⟩ := h.ne
  have hb : Below base w w' := k.below (fun b e => by subst e; exact hp.new) h.big.2
  exact ⟨⟨⟨k.cell h.sh.1.1 n5, k.cell h.sh.1.2 n5⟩, k.cell h.sh.2 n6⟩, hp, k.cell h.bo n1, k.cell h.bf n2, k.cell h.bm n3, k.cell h.bw n4, h.tab.below hb h.big.1, ⟨h.big.1, Nat.le_trans h.big.2 k.size⟩, h.ne⟩
end
end Go.Proofs.YthppkdjekfginaaGreatDoor.qr

namespace Go.Proofs.YthppkdjekfginaaGreatDoor.qs
open Go.RowKit Go.PlainAid
open Go.Proofs.YthppkdjekfginaaGreatDoor.pl Go.Proofs.YthppkdjekfginaaGreatDoor.pi Go.Proofs.YthppkdjekfginaaGreatDoor.pj Go.Proofs.YthppkdjekfginaaGreatDoor.rf Go.Proofs.YthppkdjekfginaaGreatDoor.ca Go.Proofs.YthppkdjekfginaaGreatDoor.cb Go.Proofs.YthppkdjekfginaaGreatDoor.cp Go.Proofs.YthppkdjekfginaaGreatDoor.ga Go.Proofs.YthppkdjekfginaaGreatDoor.aa Go.Proofs.YthppkdjekfginaaGreatDoor.ka Go.Proofs.YthppkdjekfginaaGreatDoor.kb Go.Proofs.YthppkdjekfginaaGreatDoor.kc Go.Proofs.YthppkdjekfginaaGreatDoor.kp Go.Proofs.YthppkdjekfginaaGreatDoor.lk Go.Proofs.YthppkdjekfginaaGreatDoor.qa Go.Proofs.YthppkdjekfginaaGreatDoor.qb Go.Proofs.YthppkdjekfginaaGreatDoor.wt Go.Proofs.YthppkdjekfginaaGreatDoor.wb Go.Proofs.YthppkdjekfginaaGreatDoor.qr
set_option linter.unusedVariables false

section
variable {base pb ob fb mb wb sob smb : Nat} {wd : Int} {m : Nat} {old : ByteArray}
set_option maxHeartbeats 3200000 in
theorem haveG (p : List ByteArray) (a b s : Nat) (hs : s < 2) (w : World) (h : SG base pb ob fb mb wb sob smb wd m old p w) (hp : s = 1 → 1 ≤ p.length) :
    Calls Tryz.prog 81 #[.agg #[.int .i64 a, .int .i64 b], .int .i64 s, .pointer (some ⟨ob, 0, none⟩), .pointer (some ⟨fb, 0, none⟩), .pointer (some ⟨mb, 0, none⟩)] w fun e w' => e = .returned (e2 ((WG wd m old).hv p a b s).1) ∧ SG base pb ob fb mb wb sob smb wd m old ((WG wd m old).hv p a b s).2 w' ∧ Kp (fun b => b = pb) w w' := by
  have BA : Hid (Below w.heap.size w ((w.alloc (.cells #[.int .i64 a, .int .i64 b] 117)).alloc (.cells #[.string ⟨#[]⟩, .string ⟨#[]⟩] 76))) := ((Below.refl _ _).alloc (Nat.le_refl _) _).alloc (by simp) _
  have HA : Hid (SG base pb ob fb mb wb sob smb wd m old p ((w.alloc (.cells #[.int .i64 a, .int .i64 b] 117)).alloc (.cells #[.string ⟨#[]⟩, .string ⟨#[]⟩] 76))) := h.later BA.out
  have HBX : Hid (_ ∧ _ ∧ _ ∧ _) := two_box w (.int .i64 a) (.int .i64 b) (.string ⟨#[]⟩) (.string ⟨#[]⟩) 117 76
  have R8 := two_start w (.int .i64 a) (.int .i64 b)
  have HD : Hid (¬ DG base pb ob fb mb wb sob smb (w.heap.size + 1)) := fun d => by have := h.dl _ d; omega
  have lpb : pb < w.heap.size := h.pp.lt
  have cO := HA.out.bo
  have cF := HA.out.bf
  have cM := HA.out.bm
  rcases (show s = 0 ∨ s = 1 by omega) with rfl | rfl
  · have e : (WG wd m old).hv p a b 0 = ((old, old), p) := rfl
    rw [e]
    unfold e2
    simp only
    have B2 : Hid (Below w.heap.size w ((w.alloc (.cells #[.int .i64 a, .int .i64 b] 117)).alloc (.cells #[.string old, .string old] 76))) := ((Below.refl _ _).alloc (Nat.le_refl _) _).alloc (by simp) _
    have S2 : Hid (SG base pb ob fb mb wb sob smb wd m old p ((w.alloc (.cells #[.int .i64 a, .int .i64 b] 117)).alloc (.cells #[.string old, .string old] 76))) := h.later B2.out
    clear h hp e R8 hs
    go_enter Tryz.func81, Tryz.ntmps81
    go_wp2
    (try simp only [Exit.inBlock, Exit.then])
    refine bodyPost_ret (by simp [results, Tryz.results81, go_sem]; try rfl) rfl ?_
    exact ⟨rfl, S2.out, Kp.of_below B2.out⟩
  · obtain ⟨y, t, rfl⟩ : ∃ y t, p = y :: t := by
      cases p with
      | nil => have := hp rfl; simp at this
      | cons y t => exact ⟨y, t, rfl⟩
    have NC : Hid (Calls _ _ _ _ _) := nextC base pb y t _ HA.out.pp
    have cA := HBX.out.1
    obtain ⟨x, hx1, hx2⟩ : ∃ x : ByteArray, (WG wd m old).hv (y :: t) a b 1 = ((x, y), t) ∧ ((m ≤ a ∧ x = ⟨#[]⟩) ∨ (¬ m ≤ a ∧ x = y)) := by
      by_cases g : m ≤ a
      · exact ⟨⟨#[]⟩, by show (if m ≤ a then _ else _) = _; rw [if_pos g]; rfl, .inl ⟨g, rfl⟩⟩
      · exact ⟨y, by show (if m ≤ a then _ else _) = _; rw [if_neg g]; rfl, .inr ⟨g, rfl⟩⟩
    rw [hx1]
    unfold e2
    simp only
    have H8 : Hid (_ = _) := R8
    clear h hp hx1 R8 hs
    rcases hx2 with ⟨g, rfl⟩ | ⟨g, rfl⟩
    all_goals (
      go_enter Tryz.func81, Tryz.ntmps81
      go_wp2_with fail
      refine NC.out.mono ?_
      rintro e w1 ⟨rfl, hp1, hk1⟩
      have S1 : Hid (SG base pb ob fb mb wb sob smb wd m old t w1) := HA.out.next hp1 hk1
      have K1 : Hid (Kp (fun b => b = pb) w w1) := (Kp.of_below BA.out).trans hk1
      have cM1 := S1.out.bm
      have cA1 := hk1.cell cA (fun e => by omega)
      have r1 := (hk1.block _ (Array.getElem?_eq_some_iff.1 H8.out).1 (fun e => by omega)).trans H8.out
      have f0 := frozen_of_row _ _ 0 _ _ r1
      have f1 := frozen_of_row _ _ 1 _ _ r1
      have d0 : w1.cell? ⟨w.heap.size + 1, 0, none⟩ = some (.string ⟨#[]⟩) := cell_of_row _ _ 0 _ _ _ r1
      have d1 : w1.cell? ⟨w.heap.size + 1, 1, none⟩ = some (.string ⟨#[]⟩) := cell_of_row _ _ 1 _ _ _ r1
      have RR : Hid (w1.heap[w.heap.size + 1]? = some (.cells #[.string ⟨#[]⟩, .string ⟨#[]⟩] 76 (0, 0))) := r1
      clear hp1 hk1 r1 cO cF cM cA
      go_wp2
      (try simp only [Exit.inBlock, Exit.then])
      refine bodyPost_ret (by simp [results, Tryz.results81, go_sem, cell_of_row _ _ 0 _ _ _ (set_two RR.out _ _), cell_of_row _ _ 1 _ _ _ (set_two RR.out _ _)]; try rfl) rfl ?_
      exact ⟨rfl, S1.out.keep (kp_two (A := fun q => q = w.heap.size + 1) w1 _ _ _ rfl) (fun b e => by rw [e]; exact HD.out), kp_new K1.out (kp_two (A := fun q => q = w.heap.size + 1) w1 _ _ _ rfl) (by omega)⟩)
end
end Go.Proofs.YthppkdjekfginaaGreatDoor.qs

namespace Go.Proofs.YthppkdjekfginaaGreatDoor.qt
open Go.RowKit Go.PlainAid
open Go.Proofs.YthppkdjekfginaaGreatDoor.pl Go.Proofs.YthppkdjekfginaaGreatDoor.pi Go.Proofs.YthppkdjekfginaaGreatDoor.pj Go.Proofs.YthppkdjekfginaaGreatDoor.rf Go.Proofs.YthppkdjekfginaaGreatDoor.ca Go.Proofs.YthppkdjekfginaaGreatDoor.cb Go.Proofs.YthppkdjekfginaaGreatDoor.cp Go.Proofs.YthppkdjekfginaaGreatDoor.ga Go.Proofs.YthppkdjekfginaaGreatDoor.aa Go.Proofs.YthppkdjekfginaaGreatDoor.ka Go.Proofs.YthppkdjekfginaaGreatDoor.kb Go.Proofs.YthppkdjekfginaaGreatDoor.kc Go.Proofs.YthppkdjekfginaaGreatDoor.kp Go.Proofs.YthppkdjekfginaaGreatDoor.lk Go.Proofs.YthppkdjekfginaaGreatDoor.qa Go.Proofs.YthppkdjekfginaaGreatDoor.qb Go.Proofs.YthppkdjekfginaaGreatDoor.qc Go.Proofs.YthppkdjekfginaaGreatDoor.wt Go.Proofs.YthppkdjekfginaaGreatDoor.wb Go.Proofs.YthppkdjekfginaaGreatDoor.qr
set_option linter.unusedVariables false

theorem below_swap {B : Nat} {a w : World} {o o' : Obj} (h : Below B a (w.alloc o)) (hB : B ≤ w.heap.size) : Below B a (w.alloc o') :=
  ⟨h.os, h.tape, h.output, by have := h.size; simp at this ⊢; exact this, fun k hk => by
    have e1 : (w.alloc o').heap[k]? = w.heap[k]? := ((Below.refl w.heap.size w).alloc (Nat.le_refl _) o').block k (by omega)
    have e2 : (w.alloc o).heap[k]? = w.heap[k]? := ((Below.refl w.heap.size w).alloc (Nat.le_refl _) o).block k (by omega)
    rw [e1, ← e2]
    exact h.block k hk⟩
theorem step_node {ops : Array Oper} {o : Oper} {a : Act} {w : World} {K : Act → World → Prop} {Q : Exit → Act → World → Prop} {E : Prop} (hg : o.guard = none) (i j k d : Nat)
    (hop : o.op = .call { callee := .value (.func 52), args := #[.tmp i, .tmp j, .tmp k], argTypes := #[3, 9, 9] }) (hd : o.dst = some d) (wd : Int) (x y r : ByteArray)
    (h1 : a.tmps[i]?.getD undef = .int .i64 wd) (h2 : a.tmps[j]?.getD undef = .string x) (h3 : a.tmps[k]?.getD undef = .string y) (C : Hid (Calls Tryz.prog 52 #[.int .i64 wd, .string x, .string y] w fun e w' => e = .returned (.string r) ∧ Below w.heap.size w w'))
    (hK : ∀ w', Below w.heap.size w w' → K { tmps := a.tmps.setIfInBounds d (.string r), defers := a.defers } w') :
    if Region.wanted o (yielded ops a.tmps) = true then Oper.wp Tryz.prog o a w K Q else E := by
  have hw : Region.wanted o (yielded ops a.tmps) = true := by simp [Region.wanted, hg]
  rw [if_pos hw]
  have HKK : Hid _ := hK
  clear hK
  unfold Oper.wp execOp
  simp only [hop]
  go_simp
  refine C.out.mono ?_
  rintro e w' ⟨rfl, h1⟩
  exact HKK.out _ h1
set_option maxRecDepth 100000 in
set_option maxHeartbeats 12800000 in
theorem joinG (wd : Int) (wb : Nat) (l1 l2 r1 r2 : ByteArray) (hl1 : l1.size ≤ 32) (hl2 : l2.size ≤ 32) (hr1 : r1.size ≤ 32) (hr2 : r2.size ≤ 32) (w : World) (hw : w.cell? ⟨wb, 0, none⟩ = some (.int .i64 wd)) (hT : Tab w) :
    Calls Tryz.prog 82 #[.agg #[.string l1, .string l2], .agg #[.string r1, .string r2], .pointer (some ⟨wb, 0, none⟩)] w fun e w' => e = .returned (.agg #[.string (if r1 = ⟨#[]⟩ then l1 else NF wd l1 r1), .string (NF wd l2 r2)]) ∧ Below w.heap.size w w' := by
  obtain ⟨W0, HW0⟩ : ∃ x, x = ((w.alloc (.cells #[.string l1, .string l2] 76)).alloc (.cells #[.string r1, .string r2] 76)).alloc (.cells #[.string ⟨#[]⟩, .string ⟨#[]⟩] 76) := ⟨_, rfl⟩
  have B0 : Below w.heap.size w W0 := by rw [HW0]; exact (((Below.refl _ _).alloc (Nat.le_refl _) _).alloc (by simp) _).alloc (by simp; omega) _
  have b12 : Below ((w.alloc (.cells #[.string l1, .string l2] 76)).alloc (.cells #[.string r1, .string r2] 76)).heap.size ((w.alloc (.cells #[.string l1, .string l2] 76)).alloc (.cells #[.string r1, .string r2] 76)) W0 := by rw [HW0]; exact (Below.refl _ _).alloc (Nat.le_refl _) _
  obtain ⟨t1, t2, t3, t4⟩ := two_box w (.string l1) (.string l2) (.string r1) (.string r2) 76 76
  have c1 := (b12.cell (World.block_lt_of_cell? _ _ t1)).trans t1
  have c2 := (b12.cell (World.block_lt_of_cell? _ _ t2)).trans t2
  have c3 := (b12.cell (World.block_lt_of_cell? _ _ t3)).trans t3
  have c4 := (b12.cell (World.block_lt_of_cell? _ _ t4)).trans t4
  have c5 := (B0.cell (World.block_lt_of_cell? _ _ hw)).trans hw
  have s2 : ((w.alloc (.cells #[.string l1, .string l2] 76)).alloc (.cells #[.string r1, .string r2] 76)).heap.size = w.heap.size + 1 + 1 := by simp
  have R5 : W0.heap[w.heap.size + 1 + 1]? = some (.cells #[.string ⟨#[]⟩, .string ⟨#[]⟩] 76 (0, 0)) := by rw [HW0, ← s2]; exact heap_alloc_new _ _
  have S4 : Hid (∀ W, Below W0.heap.size W0 W → Below W0.heap.size W0 W ∧ W.cell? ⟨w.heap.size, 0, none⟩ = some (.string l1) ∧ W.cell? ⟨w.heap.size, 1, none⟩ = some (.string l2) ∧ W.cell? ⟨w.heap.size + 1, 0, none⟩ = some (.string r1) ∧ W.cell? ⟨w.heap.size + 1, 1, none⟩ = some (.string r2) ∧ W.cell? ⟨wb, 0, none⟩ = some (.int .i64 wd)) := fun W h => ⟨h, (h.cell (World.block_lt_of_cell? _ _ c1)).trans c1, (h.cell (World.block_lt_of_cell? _ _ c2)).trans c2, (h.cell (World.block_lt_of_cell? _ _ c3)).trans c3, (h.cell (World.block_lt_of_cell? _ _ c4)).trans c4, (h.cell (World.block_lt_of_cell? _ _ c5)).trans c5⟩
  have HZ : Hid (Below W0.heap.size W0 W0) := Below.refl _ _
  have H0 : Hid (Below w.heap.size w W0 ∧ Tab W0 ∧ W0.heap[w.heap.size + 1 + 1]? = some (.cells #[.string ⟨#[]⟩, .string ⟨#[]⟩] 76 (0, 0))) := ⟨B0, hT.down B0, R5⟩
  have N2 : Hid (∀ W, Below W0.heap.size W0 W → Calls _ _ _ _ _) := fun W h => pNode wd l2 r2 (by omega) W (H0.out.2.1.down h)
  have N1 : Hid (∀ W, Below W0.heap.size W0 W → Calls _ _ _ _ _) := fun W h => pNode wd l1 r1 (by omega) W (H0.out.2.1.down h)
  obtain ⟨n2, HN2⟩ : ∃ x, Hid (NF wd l2 r2 = x) := ⟨_, rfl⟩
  obtain ⟨n1, HN1⟩ : ∃ x, Hid (NF wd l1 r1 = x) := ⟨_, rfl⟩
  rw [HN2.out] at N2 ⊢
  rw [HN1.out] at N1 ⊢
  obtain ⟨o1, HO1⟩ : ∃ x, Hid ((if r1 = ⟨#[]⟩ then l1 else n1) = x) := ⟨_, rfl⟩
  rw [HO1.out]
  clear t1 t2 t3 t4 b12 s2 R5 B0 hT hw
  go_enter Tryz.func82, Tryz.ntmps82
  go_upto_region 1 with fail
  rw [← HW0]
  clear HW0
  go_cut [6] from 7 to 15 (fun c wx => ∃ g, c = .pointer (some ⟨g, 0, none⟩) ∧ Hid (W0.heap.size ≤ g ∧ Below W0.heap.size W0 wx ∧ wx.heap[g]? = some (.cells #[.string l1, .string n2] 76 (0, 0))))
  case first =>
    have HZ1 : Hid (Below W0.heap.size W0 W0.drew) := below_dN HZ.out 1
    have HZA : Hid (Below W0.heap.size W0 (W0.drew.alloc (.cells #[.string ⟨#[]⟩, .string ⟨#[]⟩] 76))) := HZ1.out.alloc (by simp) _
    have RZA : Hid ((W0.drew.alloc (.cells #[.string ⟨#[]⟩, .string ⟨#[]⟩] 76)).heap[W0.heap.size]? = some (.cells #[.string ⟨#[]⟩, .string ⟨#[]⟩] 76 (0, 0))) := heap_alloc_new W0.drew _
    have CA : Hid (Calls _ _ _ _ _) := N2.out W0.drew HZ1.out
    have CB : Hid (Calls _ _ _ _ _) := N2.out _ HZA.out
    have HZB : Hid (Below W0.heap.size W0 (W0.alloc (.cells #[.string ⟨#[]⟩, .string ⟨#[]⟩] 76))) := HZ.out.alloc (Nat.le_refl _) _
    obtain ⟨_, y1, y2, y3, y4, y5⟩ := S4.out _ HZB.out
    go_region_held3 (fun W => Below W0.heap.size W0 W ∧ W.cell? ⟨w.heap.size, 0, none⟩ = some (.string l1) ∧ W.cell? ⟨w.heap.size, 1, none⟩ = some (.string l2) ∧ W.cell? ⟨w.heap.size + 1, 0, none⟩ = some (.string r1) ∧ W.cell? ⟨w.heap.size + 1, 1, none⟩ = some (.string r2) ∧ W.cell? ⟨wb, 0, none⟩ = some (.int .i64 wd)) (first | exact S4.out _ HZ1.out | exact S4.out _ HZA.out | exact S4.out _ G.out | exact S4.out _ (G.out.alloc G.out.size _) | exact S4.out _ ((G.out.setCell (p := ⟨W0.heap.size, 0, none⟩) (Nat.le_refl _) _).setCell (p := ⟨W0.heap.size, 1, none⟩) (Nat.le_refl _) _)) (first
      | (go_at_call 52; refine CA.out.mono ?_; rintro _ w' ⟨rfl, hb'⟩; have G : Hid (Below W0.heap.size W0 w') := over HZ1.out hb'; clear hb')
      | (go_at_call 52; refine CB.out.mono ?_; rintro _ w' ⟨rfl, hb'⟩; have G : Hid (Below W0.heap.size W0 w') := over HZA.out hb'; have RB : w'.heap[W0.heap.size]? = some (.cells #[.string ⟨#[]⟩, .string ⟨#[]⟩] 76 (0, 0)) := (hb'.block _ (Array.getElem?_eq_some_iff.1 RZA.out).1).trans RZA.out; have f0 := frozen_of_row _ _ 0 _ _ RB; have f1 := frozen_of_row _ _ 1 _ _ RB; have d0 : w'.cell? ⟨W0.heap.size, 0, none⟩ = some (.string ⟨#[]⟩) := cell_of_row _ _ 0 _ _ _ RB; have d1 : w'.cell? ⟨W0.heap.size, 1, none⟩ = some (.string ⟨#[]⟩) := cell_of_row _ _ 1 _ _ _ RB; have RBH : Hid _ := RB; clear hb' RB))
    all_goals (go_wp2; go_meet; first | exact ⟨w'.heap.size, rfl, G.out.size, G.out.alloc G.out.size _, heap_alloc_new _ _⟩ | exact ⟨W0.heap.size, rfl, Nat.le_refl _, (G.out.setCell (p := ⟨W0.heap.size, 0, none⟩) (Nat.le_refl _) _).setCell (p := ⟨W0.heap.size, 1, none⟩) (Nat.le_refl _) _, set_two RBH.out _ _⟩)
  case rest =>
    obtain ⟨g, rfl, HG⟩ := hcut
    obtain ⟨_, x1, x2, x3, x4, x5⟩ := S4.out _ HG.out.2.1
    have hrow := HG.out.2.2
    have hres : wc.heap[w.heap.size + 1 + 1]? = some (.cells #[.string ⟨#[]⟩, .string ⟨#[]⟩] 76 (0, 0)) := (HG.out.2.1.block _ (Array.getElem?_eq_some_iff.1 H0.out.2.2).1).trans H0.out.2.2
    have hlt : w.heap.size + 1 + 1 < W0.heap.size := (Array.getElem?_eq_some_iff.1 H0.out.2.2).1
    have hne : w.heap.size + 1 + 1 ≠ g := by have := HG.out.1; omega
    have hle : w.heap.size ≤ w.heap.size + 1 + 1 := by omega
    have BW : Hid (Below w.heap.size w wc) := over H0.out.1 HG.out.2.1
    clear c1 c2 c3 c4 c5
    by_cases hr : r1 = ⟨#[]⟩
    · have HE : Hid (l1 = o1) := by rw [← HO1.out, if_pos hr]; exact rfl
      subst hr
      have ga : wc.cell? ⟨g, 0, none⟩ = some (.string l1) := cell_of_row _ _ 0 _ _ _ hrow
      have gb : wc.cell? ⟨g, 1, none⟩ = some (.string n2) := cell_of_row _ _ 1 _ _ _ hrow
      have f0 := frozen_of_row _ _ 0 _ _ hres
      have f1 := frozen_of_row _ _ 1 _ _ hres
      have d0 : wc.cell? ⟨w.heap.size + 1 + 1, 0, none⟩ = some (.string ⟨#[]⟩) := cell_of_row _ _ 0 _ _ _ hres
      have d1 : wc.cell? ⟨w.heap.size + 1 + 1, 1, none⟩ = some (.string ⟨#[]⟩) := cell_of_row _ _ 1 _ _ _ hres
      have RR : Hid _ := hres
      clear hrow hres
      go_wp2
      refine bodyPost_ret (by simp [results, Tryz.results82, go_sem, cell_of_row _ _ 0 _ _ _ (set_two RR.out _ _), cell_of_row _ _ 1 _ _ _ (set_two RR.out _ _)]; try rfl) rfl ?_
      exact ⟨by rw [HE.out], (BW.out.setCell (p := ⟨w.heap.size + 1 + 1, 0, none⟩) hle _).setCell (p := ⟨w.heap.size + 1 + 1, 1, none⟩) hle _⟩
    · have g0 : ¬ r1.toList = [] := by
        rw [ByteArray.toList_eq]
        intro h
        exact hr (ByteArray.ext (Array.toList_inj.1 h))
      have gi : r1.toList.isEmpty = false := by simpa using g0
      have gb : (r1.toList == []) = false := by rw [beq_eq_false_iff_ne]; exact g0
      have NC : Hid (Calls _ _ _ _ _) := N1.out wc HG.out.2.1
      have RR : Hid (wc.heap[g]? = some (.cells #[.string l1, .string n2] 76 (0, 0)) ∧ wc.heap[w.heap.size + 1 + 1]? = some (.cells #[.string ⟨#[]⟩, .string ⟨#[]⟩] 76 (0, 0))) := ⟨hrow, hres⟩
      have HE : Hid (n1 = o1) := by rw [← HO1.out, if_neg hr]; exact rfl
      clear hrow hres g0 hr
      go_wp2_with fail
      refine NC.out.mono ?_
      rintro e w3 ⟨rfl, hb3⟩
      have q1 : w3.heap[g]? = some (.cells #[.string l1, .string n2] 76 (0, 0)) := (hb3.block _ (Array.getElem?_eq_some_iff.1 RR.out.1).1).trans RR.out.1
      have q2 : w3.heap[w.heap.size + 1 + 1]? = some (.cells #[.string ⟨#[]⟩, .string ⟨#[]⟩] 76 (0, 0)) := (hb3.block _ (Array.getElem?_eq_some_iff.1 RR.out.2).1).trans RR.out.2
      have B3 : Hid (Below w.heap.size w w3) := over BW.out hb3
      have g3 := frozen_of_row _ _ 0 _ _ q1
      have g4 : w3.cell? ⟨g, 0, none⟩ = some (.string l1) := cell_of_row _ _ 0 _ _ _ q1
      have hgw : w.heap.size ≤ g := by have := HG.out.1; omega
      obtain ⟨w4, HW4⟩ : ∃ x, x = w3.setCell ⟨g, 0, none⟩ (.string n1) := ⟨_, rfl⟩
      have r1' : w4.heap[g]? = some (.cells #[.string n1, .string n2] 76 (0, 0)) := by rw [HW4]; exact heap_setCell_same _ _ 0 _ _ _ q1
      have r2' : w4.heap[w.heap.size + 1 + 1]? = some (.cells #[.string ⟨#[]⟩, .string ⟨#[]⟩] 76 (0, 0)) := by rw [HW4]; exact ((Kp.setCell (A := fun b => b = g) w3 g 0 (.string n1) rfl).block _ (Array.getElem?_eq_some_iff.1 q2).1 (fun e => hne e)).trans q2
      have B4 : Hid (Below w.heap.size w w4) := by rw [HW4]; exact B3.out.setCell (p := ⟨g, 0, none⟩) hgw _
      clear hb3 q1 q2
      go_upto_region 4 with fail
      rw [← HW4]
      have ga : w4.cell? ⟨g, 0, none⟩ = some (.string n1) := cell_of_row _ _ 0 _ _ _ r1'
      have gb' : w4.cell? ⟨g, 1, none⟩ = some (.string n2) := cell_of_row _ _ 1 _ _ _ r1'
      have f0 := frozen_of_row _ _ 0 _ _ r2'
      have f1 := frozen_of_row _ _ 1 _ _ r2'
      have d0 : w4.cell? ⟨w.heap.size + 1 + 1, 0, none⟩ = some (.string ⟨#[]⟩) := cell_of_row _ _ 0 _ _ _ r2'
      have d1 : w4.cell? ⟨w.heap.size + 1 + 1, 1, none⟩ = some (.string ⟨#[]⟩) := cell_of_row _ _ 1 _ _ _ r2'
      have R2 : Hid _ := r2'
      clear r1' r2' HW4 g3 g4
      go_wp2
      refine bodyPost_ret (by simp [results, Tryz.results82, go_sem, cell_of_row _ _ 0 _ _ _ (set_two R2.out _ _), cell_of_row _ _ 1 _ _ _ (set_two R2.out _ _)]; try rfl) rfl ?_
      exact ⟨by rw [HE.out], (B4.out.setCell (p := ⟨w.heap.size + 1 + 1, 0, none⟩) hle _).setCell (p := ⟨w.heap.size + 1 + 1, 1, none⟩) hle _⟩
end Go.Proofs.YthppkdjekfginaaGreatDoor.qt

namespace Go.Proofs.YthppkdjekfginaaGreatDoor.qu
open Go.RowKit Go.PlainAid
open Go.Proofs.YthppkdjekfginaaGreatDoor.pl Go.Proofs.YthppkdjekfginaaGreatDoor.pi Go.Proofs.YthppkdjekfginaaGreatDoor.pj Go.Proofs.YthppkdjekfginaaGreatDoor.rf Go.Proofs.YthppkdjekfginaaGreatDoor.ca Go.Proofs.YthppkdjekfginaaGreatDoor.cb Go.Proofs.YthppkdjekfginaaGreatDoor.cp Go.Proofs.YthppkdjekfginaaGreatDoor.ga Go.Proofs.YthppkdjekfginaaGreatDoor.aa Go.Proofs.YthppkdjekfginaaGreatDoor.ka Go.Proofs.YthppkdjekfginaaGreatDoor.kb Go.Proofs.YthppkdjekfginaaGreatDoor.kc Go.Proofs.YthppkdjekfginaaGreatDoor.kp Go.Proofs.YthppkdjekfginaaGreatDoor.lk Go.Proofs.YthppkdjekfginaaGreatDoor.qa Go.Proofs.YthppkdjekfginaaGreatDoor.qb Go.Proofs.YthppkdjekfginaaGreatDoor.wt Go.Proofs.YthppkdjekfginaaGreatDoor.wb Go.Proofs.YthppkdjekfginaaGreatDoor.qr Go.Proofs.YthppkdjekfginaaGreatDoor.qs Go.Proofs.YthppkdjekfginaaGreatDoor.qt
set_option linter.unusedVariables false
-- a consistency proof's walk: what it does, what it takes
theorem wideC {m a b : Nat} (hab : a < b) (h : 2 ≤ lkC m a b) : 2 ≤ b - a := by
  unfold lkC at h
  split at h
  · omega
  · split at h
    · omega
    · omega
theorem fourC (m a b : Nat) : lkC m a b ≤ 3 := by
  unfold lkC
  split
  · omega
  · split
    · omega
    · split <;> omega
theorem go_stateG (wd : Int) (m : Nat) (old : ByteArray) (n : Nat) : ∀ a b p, b - a = n → a < b → (go (WG wd m old) p a b).2 = p.drop (WL (lkC m) a b).length := by
  induction n using Nat.strongRecOn with
  | ind n ih =>
    intro a b p hn hab
    have h3 := fourC m a b
    rcases (show lkC m a b = 0 ∨ lkC m a b = 1 ∨ lkC m a b = 2 ∨ lkC m a b = 3 by omega) with h | h | h | h
    · have e : (WG wd m old).lk p a b = (0, p) := by show (lkC m a b, p) = _; rw [h]
      rw [go_stop (by rw [e]; show 0 < 2; omega), e, WL_pass h]
      rfl
    · have e : (WG wd m old).lk p a b = (1, p) := by show (lkC m a b, p) = _; rw [h]
      rw [go_stop (by rw [e]; show 1 < 2; omega), e, WL_take h]
      show (if m ≤ a then _ else _ : (ByteArray × ByteArray) × List ByteArray).2 = _
      split <;> rfl
    · have h2 := wideC (m := m) hab (by omega)
      have hh := half_lt h2
      have e : (WG wd m old).lk p a b = (2, p) := by show (lkC m a b, p) = _; rw [h]
      rw [go_left (by rw [e]) h2, e]
      simp only
      rw [ih (half (b - a)) (by omega) a (a + half (b - a)) p (by omega) (by omega), ih (b - a - half (b - a)) (by omega) (a + half (b - a)) b _ (by omega) (by omega), WL_left h h2, List.length_append, List.drop_drop]
    · have h2 := wideC (m := m) hab (by omega)
      have hh := half_lt h2
      have e : (WG wd m old).lk p a b = (3, p) := by show (lkC m a b, p) = _; rw [h]
      rw [go_right (by rw [e]; exact Nat.le_refl _) h2, e]
      simp only
      rw [ih (b - a - half (b - a)) (by omega) (a + half (b - a)) b p (by omega) (by omega), ih (half (b - a)) (by omega) a (a + half (b - a)) _ (by omega) (by omega), WL_right (by omega) h2, List.length_append, List.drop_drop]
def PG (wd : Int) (m : Nat) (p : List ByteArray) (a b : Nat) : Prop := a < b ∧ b ≤ 4611686018427387904 ∧ (WL (lkC m) a b).length ≤ p.length ∧ Wide wd p
def QG (wd : Int) (v : ByteArray × ByteArray) : Prop := v.2.size = wid wd ∧ (v.1.size = wid wd ∨ v.1 = ⟨#[]⟩)
theorem QG.le {wd : Int} {v : ByteArray × ByteArray} (h : QG wd v) : v.1.size ≤ 32 ∧ v.2.size ≤ 32 := by
  have h32 := qb.wid_le wd
  obtain ⟨h1, h2 | h2⟩ := h
  · omega
  · rw [h2]; exact ⟨by show 0 ≤ 32; omega, by omega⟩
section
variable {base pb ob fb mb wb sob smb : Nat} {wd : Int} {m : Nat} {old : ByteArray}
theorem KG (hm : 1 ≤ m) (hm2 : m ≤ 4611686018427387904) (ho : old.size = wid wd) : Wk (fun b => b = pb) (SG base pb ob fb mb wb sob smb wd m old) e2 (WG wd m old) (PG wd m) (QG wd) 116 81 82 #[.pointer (some ⟨smb, 0, none⟩), .pointer (some ⟨sob, 0, none⟩)] #[.pointer (some ⟨ob, 0, none⟩), .pointer (some ⟨fb, 0, none⟩), .pointer (some ⟨mb, 0, none⟩)] #[.pointer (some ⟨wb, 0, none⟩)] where
  lent := fun args w => by simp [go_sem]
  hent := fun args w => by simp [go_sem]
  jent := fun args w => by simp [go_sem]
  later := fun h b => h.later b
  fl := fun h b hb => by subst hb; exact h.pp.lt
  look := fun x a b w hab hb hP hS => (lookC sob smb m a b w hm hm2 hab hb hS.sh.1 hS.sh.2).mono fun e w' hh => ⟨hh.1, hS.later hh.2, Kp.of_below hh.2⟩
  have' := fun x a b w hab hb hP h hS => by
    obtain ⟨_, _, q, _⟩ := hP
    exact haveG x a b (lkC m a b) h w hS (fun e => by rw [WL_take e] at q; exact q)
  join := fun l r x w hl hr hS => joinG wd wb l.1 l.2 r.1 r.2 hl.le.1 hl.le.2 hr.le.1 hr.le.2 w hS.bw hS.tab
  qh := fun {x a b} hab hP h => by
    obtain ⟨_, _, q, qw⟩ := hP
    have h' : lkC m a b < 2 := h
    rcases (show lkC m a b = 0 ∨ lkC m a b = 1 by omega) with e | e
    · have z : (WG wd m old).lk x a b = (0, x) := by show (lkC m a b, x) = _; rw [e]
      rw [z]
      exact ⟨ho, .inl ho⟩
    · have z : (WG wd m old).lk x a b = (1, x) := by show (lkC m a b, x) = _; rw [e]
      rw [z]
      rw [WL_take e] at q
      have hz := qw.head q
      show QG wd (if m ≤ a then _ else _ : (ByteArray × ByteArray) × List ByteArray).1
      split
      · exact ⟨hz, .inr rfl⟩
      · exact ⟨hz, .inl hz⟩
  qj := fun {l r} hl hr => by
    refine ⟨NF_size _ _ _, ?_⟩
    show (if r.1 = ⟨#[]⟩ then l.1 else NF wd l.1 r.1).size = wid wd ∨ (if r.1 = ⟨#[]⟩ then l.1 else NF wd l.1 r.1) = ⟨#[]⟩
    split
    · exact hl.2
    · exact .inl (NF_size _ _ _)
  wide := fun hab _ h => wideC hab h
  four := fun _ _ => fourC _ _ _
  left := fun {x a b} hab hP h => by
    obtain ⟨_, hb, q, qw⟩ := hP
    have h' : lkC m a b = 2 := h
    have h2 := wideC (m := m) hab (by omega)
    have hh := half_lt h2
    have e : (WG wd m old).lk x a b = (2, x) := by show (lkC m a b, x) = _; rw [h']
    rw [WL_left h' h2, List.length_append] at q
    rw [e]
    simp only
    rw [go_stateG wd m old (half (b - a)) a (a + half (b - a)) x (by omega) (by omega)]
    exact ⟨⟨by omega, by omega, by omega, qw⟩, by omega, hb, by rw [List.length_drop]; omega, qw.drop _⟩
  right := fun {x a b} hab hP h => by
    obtain ⟨_, hb, q, qw⟩ := hP
    have h' : lkC m a b = 3 := h
    have h2 := wideC (m := m) hab (by omega)
    have hh := half_lt h2
    have e : (WG wd m old).lk x a b = (3, x) := by show (lkC m a b, x) = _; rw [h']
    rw [WL_right (lk := lkC m) (by omega) h2, List.length_append] at q
    rw [e]
    simp only
    rw [go_stateG wd m old (b - a - half (b - a)) (a + half (b - a)) b x (by omega) (by omega)]
    exact ⟨⟨by omega, hb, by omega, qw⟩, by omega, by omega, by rw [List.length_drop]; omega, qw.drop _⟩
end
end Go.Proofs.YthppkdjekfginaaGreatDoor.qu

namespace Go.Proofs.YthppkdjekfginaaGreatDoor.qv
open Go.RowKit Go.PlainAid
open Go.Proofs.YthppkdjekfginaaGreatDoor.pl Go.Proofs.YthppkdjekfginaaGreatDoor.pi Go.Proofs.YthppkdjekfginaaGreatDoor.pj Go.Proofs.YthppkdjekfginaaGreatDoor.rf Go.Proofs.YthppkdjekfginaaGreatDoor.ca Go.Proofs.YthppkdjekfginaaGreatDoor.cb Go.Proofs.YthppkdjekfginaaGreatDoor.cp Go.Proofs.YthppkdjekfginaaGreatDoor.ga Go.Proofs.YthppkdjekfginaaGreatDoor.aa Go.Proofs.YthppkdjekfginaaGreatDoor.ka Go.Proofs.YthppkdjekfginaaGreatDoor.kb Go.Proofs.YthppkdjekfginaaGreatDoor.kc Go.Proofs.YthppkdjekfginaaGreatDoor.kp Go.Proofs.YthppkdjekfginaaGreatDoor.lk Go.Proofs.YthppkdjekfginaaGreatDoor.mi Go.Proofs.YthppkdjekfginaaGreatDoor.lm Go.Proofs.YthppkdjekfginaaGreatDoor.co Go.Proofs.YthppkdjekfginaaGreatDoor.cn Go.Proofs.YthppkdjekfginaaGreatDoor.dc Go.Proofs.YthppkdjekfginaaGreatDoor.qa Go.Proofs.YthppkdjekfginaaGreatDoor.qb Go.Proofs.YthppkdjekfginaaGreatDoor.qc Go.Proofs.YthppkdjekfginaaGreatDoor.wb Go.Proofs.YthppkdjekfginaaGreatDoor.qr Go.Proofs.YthppkdjekfginaaGreatDoor.qs Go.Proofs.YthppkdjekfginaaGreatDoor.qt Go.Proofs.YthppkdjekfginaaGreatDoor.qu
open Go.Proofs.YthppkdjekfginaaGreatDoor.qd (reads_nilI)
set_option linter.unusedVariables false
set_option linter.unusedSimpArgs false
-- the two roots
def gw2 (wd : Int) (m n : Nat) (old : ByteArray) (p : List ByteArray) : ByteArray × ByteArray := (go (WG wd m old) p 0 n).1
set_option maxRecDepth 100000 in
set_option maxHeartbeats 6400000 in
theorem growC (wd : Int) (m n : Nat) (old : ByteArray) (base pb : Nat) (p : List ByteArray) (w : World) (hm : 1 ≤ m) (hmn : m ≤ n) (hn : n ≤ 4611686018427387904) (ho : old.size = wid wd) (hp : Pile base pb p w) (hT : Tab w) (hb1 : 4 ≤ base) (hb2 : base ≤ w.heap.size) (hl : (WL (lkC m) 0 n).length ≤ p.length) (hw : Wide wd p) :
    Calls Tryz.prog 47 #[.int .i64 wd, .int .i64 m, .int .i64 n, .string old, .func (.func 48) #[.pointer (some ⟨pb, 0, none⟩)] #[]] w fun e w' => e = .returned (e2 (gw2 wd m n old p)) ∧ QG wd (gw2 wd m n old p) ∧ Below base w w' := by
  -- the boxes: the width, m, the old root, the proof, the result; then the shape's two
  obtain ⟨w1, e1⟩ : ∃ x, x = w.alloc (.cells #[.int .i64 wd] 3) := ⟨_, rfl⟩
  obtain ⟨w2, e2'⟩ : ∃ x, x = w1.alloc (.cells #[.int .i64 m] 3) := ⟨_, rfl⟩
  obtain ⟨w3, e3⟩ : ∃ x, x = w2.alloc (.cells #[.string old] 9) := ⟨_, rfl⟩
  obtain ⟨w4, e4⟩ : ∃ x, x = w3.alloc (.cells #[.func (.func 48) #[.pointer (some ⟨pb, 0, none⟩)] #[]] 78) := ⟨_, rfl⟩
  obtain ⟨w5, e5⟩ : ∃ x, x = w4.alloc (.cells #[.string ⟨#[]⟩, .string ⟨#[]⟩] 76) := ⟨_, rfl⟩
  obtain ⟨w6, e6⟩ : ∃ x, x = w5.alloc (.cells #[.int .i64 m] 3) := ⟨_, rfl⟩
  obtain ⟨w7, e7⟩ : ∃ x, x = w6.alloc (.cells #[.int .i64 0, .int .i64 m] 117) := ⟨_, rfl⟩
  have b1 : Below w.heap.size w w1 := by rw [e1]; exact (Below.refl _ _).alloc (Nat.le_refl _) _
  have b2 : Below w1.heap.size w1 w2 := by rw [e2']; exact (Below.refl _ _).alloc (Nat.le_refl _) _
  have b3 : Below w2.heap.size w2 w3 := by rw [e3]; exact (Below.refl _ _).alloc (Nat.le_refl _) _
  have b4 : Below w3.heap.size w3 w4 := by rw [e4]; exact (Below.refl _ _).alloc (Nat.le_refl _) _
  have b5 : Below w4.heap.size w4 w5 := by rw [e5]; exact (Below.refl _ _).alloc (Nat.le_refl _) _
  have b6 : Below w5.heap.size w5 w6 := by rw [e6]; exact (Below.refl _ _).alloc (Nat.le_refl _) _
  have b7 : Below w6.heap.size w6 w7 := by rw [e7]; exact (Below.refl _ _).alloc (Nat.le_refl _) _
  have s1 : w1.heap.size = w.heap.size + 1 := by rw [e1]; simp
  have s2 : w2.heap.size = w.heap.size + 2 := by rw [e2']; simp [s1]
  have s3 : w3.heap.size = w.heap.size + 3 := by rw [e3]; simp [s2]
  have s4 : w4.heap.size = w.heap.size + 4 := by rw [e4]; simp [s3]
  have s5 : w5.heap.size = w.heap.size + 5 := by rw [e5]; simp [s4]
  have s6 : w6.heap.size = w.heap.size + 6 := by rw [e6]; simp [s5]
  have b67 : Below w5.heap.size w5 w7 := over b6 b7
  have b57 : Below w4.heap.size w4 w7 := over b5 b67
  have b47 : Below w3.heap.size w3 w7 := over b4 b57
  have b37 : Below w2.heap.size w2 w7 := over b3 b47
  have b27 : Below w1.heap.size w1 w7 := over b2 b37
  have b17 : Below w.heap.size w w7 := over b1 b27
  have c1 : w1.cell? ⟨w.heap.size, 0, none⟩ = some (.int .i64 wd) := by rw [e1, World.cell?_alloc_at _ _ _ _ rfl]; rfl
  have c2 : w2.cell? ⟨w.heap.size + 1, 0, none⟩ = some (.int .i64 m) := by rw [e2', World.cell?_alloc_at _ _ _ _ s1.symm]; rfl
  have c3 : w3.cell? ⟨w.heap.size + 2, 0, none⟩ = some (.string old) := by rw [e3, World.cell?_alloc_at _ _ _ _ s2.symm]; rfl
  have c4 : w4.cell? ⟨w.heap.size + 3, 0, none⟩ = some (.func (.func 48) #[.pointer (some ⟨pb, 0, none⟩)] #[]) := by rw [e4, World.cell?_alloc_at _ _ _ _ s3.symm]; rfl
  have r5 : w5.heap[w.heap.size + 4]? = some (.cells #[.string ⟨#[]⟩, .string ⟨#[]⟩] 76 (0, 0)) := by rw [e5, ← s4]; exact heap_alloc_new _ _
  have c6 : w6.cell? ⟨w.heap.size + 5, 0, none⟩ = some (.int .i64 m) := by rw [e6, World.cell?_alloc_at _ _ _ _ s5.symm]; rfl
  have c7 : w7.cell? ⟨w.heap.size + 6, 0, none⟩ = some (.int .i64 0) := by rw [e7, World.cell?_alloc_at _ _ _ _ s6.symm]; rfl
  have c8 : w7.cell? ⟨w.heap.size + 6, 1, none⟩ = some (.int .i64 m) := by rw [e7, World.cell?_alloc_at _ _ _ _ s6.symm]; rfl
  have lp := hp.lt
  have kk : Kp no w w7 := Kp.of_below b17
  have HSG : Hid (SG base pb (w.heap.size + 2) (w.heap.size + 3) (w.heap.size + 1) w.heap.size (w.heap.size + 6) (w.heap.size + 5) wd m old p w7) :=
    ⟨⟨⟨c7, c8⟩, (b7.cell (World.block_lt_of_cell? _ _ c6)).trans c6⟩, hp.keep kk (fun _ e => e.elim) (fun e => e), (b47.cell (World.block_lt_of_cell? _ _ c3)).trans c3, (b57.cell (World.block_lt_of_cell? _ _ c4)).trans c4, (b37.cell (World.block_lt_of_cell? _ _ c2)).trans c2, (b27.cell (World.block_lt_of_cell? _ _ c1)).trans c1, hT.down b17, ⟨hb1, Nat.le_trans hb2 b17.size⟩, by omega⟩
  have WC : Hid (Calls _ _ _ _ _) := wb.walkC (KG hm (by omega) ho) (D := DG base pb (w.heap.size + 2) (w.heap.size + 3) (w.heap.size + 1) w.heap.size (w.heap.size + 6) (w.heap.size + 5)) (fun h => h.dl) (fun h k hg => h.keep k hg) n 0 n p w7 rfl (by omega) hn ⟨by omega, hn, hl, hw⟩ HSG.out
  have CC : Hid (∀ w, Calls _ _ _ _ _) := fun w => consistencyC (m : Int) w
  have H5 : Hid (w5.heap.size = w.heap.size + 5 ∧ Below w.heap.size w w7 ∧ w7.heap[w.heap.size + 4]? = some (.cells #[.string ⟨#[]⟩, .string ⟨#[]⟩] 76 (0, 0)) ∧ w.heap.size + 4 < w7.heap.size) := ⟨s5, b17, (b67.block _ (Array.getElem?_eq_some_iff.1 r5).1).trans r5, by have := b67.size; omega⟩
  have HPN : Hid (base ≤ pb ∧ pb < w.heap.size ∧ base ≤ w.heap.size) := ⟨hp.new, lp, hb2⟩
  have cm : w5.cell? ⟨w.heap.size + 1, 0, none⟩ = some (.int .i64 m) := by
    have b35 : Below w2.heap.size w2 w5 := over b3 (over b4 b5)
    exact (b35.cell (World.block_lt_of_cell? _ _ c2)).trans c2
  unfold gw2
  obtain ⟨G, HG⟩ : ∃ G, Hid (go (WG wd m old) p 0 n = G) := ⟨_, rfl⟩
  rw [HG.out] at WC ⊢
  obtain ⟨⟨g1, g2⟩, g3⟩ := G
  unfold e2 at WC ⊢
  simp only at WC ⊢
  clear hp hT hb1 hb2 hl hw c1 c2 c3 c4 c6 c7 c8 r5 b2 b3 b4 b5 b6 b7 b67 b57 b47 b37 b27 b17 b1 s6 kk lp HSG
  go_enter Tryz.func47, Tryz.ntmps47
  go_upto_region 3 with fail
  rw [← e1, ← e2', ← e3, ← e4, ← e5]
  clear e1 e2' e3 e4 e5
  go_wp2_with fail
  refine (CC.out _).mono ?_
  rintro e w8 ⟨rfl, hw8⟩
  rw [← e6, ← e7] at hw8
  subst hw8
  rw [H5.out.1]
  clear e6 e7
  go_wp2_with fail
  refine WC.out.mono ?_
  rintro e w9 ⟨rfl, hs9, hk9, hq9⟩
  have r9 : w9.heap[w.heap.size + 4]? = some (.cells #[.string ⟨#[]⟩, .string ⟨#[]⟩] 76 (0, 0)) := (hk9.block _ H5.out.2.2.2 (fun e => by have := HPN.out; omega)).trans H5.out.2.2.1
  have K9 : Hid (QG wd (g1, g2) ∧ Below base w w9) := ⟨hq9, (H5.out.2.1.mono HPN.out.2.2).trans (hk9.below (fun b e => by subst e; exact HPN.out.1) (Nat.le_trans HPN.out.2.2 H5.out.2.1.size))⟩
  have f0 := frozen_of_row _ _ 0 _ _ r9
  have f1 := frozen_of_row _ _ 1 _ _ r9
  have d0 : w9.cell? ⟨w.heap.size + 4, 0, none⟩ = some (.string ⟨#[]⟩) := cell_of_row _ _ 0 _ _ _ r9
  have d1 : w9.cell? ⟨w.heap.size + 4, 1, none⟩ = some (.string ⟨#[]⟩) := cell_of_row _ _ 1 _ _ _ r9
  have RR : Hid (w9.heap[w.heap.size + 4]? = some (.cells #[.string ⟨#[]⟩, .string ⟨#[]⟩] 76 (0, 0))) := r9
  have hsz : base ≤ w.heap.size + 4 := by have := HPN.out; omega
  clear hs9 hk9 hq9 r9
  go_wp2
  refine bodyPost_ret (by simp [results, Tryz.results47, go_sem, cell_of_row _ _ 0 _ _ _ (set_two RR.out _ _), cell_of_row _ _ 1 _ _ _ (set_two RR.out _ _)]; try rfl) rfl ?_
  exact ⟨rfl, K9.out.1, (K9.out.2.setCell (p := ⟨w.heap.size + 4, 0, none⟩) hsz _).setCell (p := ⟨w.heap.size + 4, 1, none⟩) hsz _⟩
def begA (wd : Int) (n : Int) (old root : ByteArray) : Int := if n = 0 ∧ root ≠ old then 90 else if EF wd = old then 0 else 90
theorem beginC (wd n : Int) (old root : ByteArray) (w : World) (hT : Tab w) : Calls Tryz.prog 46 #[.int .i64 wd, .int .i64 n, .string old, .string root] w fun e w' => e = .returned (.int .i64 (begA wd n old root)) ∧ Below w.heap.size w w' := by
  have CE : Hid (Calls _ _ _ _ _) := pEmpty wd w hT
  have CM : Hid (∀ w, Calls _ _ _ _ _) := fun w => matchC (EF wd) old w
  have HB : Hid (Below w.heap.size w w) := Below.refl _ _
  unfold begA
  generalize EF wd = E at *
  obtain ⟨y, HY⟩ : ∃ y : Int, Hid ((if E = old then 0 else 90) = y) := ⟨_, rfl⟩
  rw [HY.out] at CM ⊢
  clear hT HY
  by_cases h0 : n = 0
  · subst h0
    by_cases hr : root = old
    · subst hr
      rw [if_neg (fun h => h.2 rfl)]
      have tt : (root.toList == root.toList) = true := beq_self_eq_true _
      go_enter Tryz.func46, Tryz.ntmps46
      go_wp2_with (first | (go_at_call 49; refine CE.out.mono ?_; rintro _ w1 ⟨rfl, b1⟩; have B1 : Hid (Below w.heap.size w w1) := b1; clear b1) | (go_at_call 80; refine (CM.out _).mono ?_; rintro _ wz ⟨rfl, hwz⟩; rw [hwz]; clear hwz) | go_in)
      go_ret
      exact ⟨rfl, B1.out⟩
    · rw [if_pos ⟨rfl, hr⟩]
      have tt : (root.toList == old.toList) = false := by rw [beqL]; exact decide_eq_false hr
      go_enter Tryz.func46, Tryz.ntmps46
      go_wp2
      go_ret
      exact ⟨rfl, HB.out⟩
  · rw [if_neg (fun h => h0 h.1)]
    have q0 : (n == 0) = false := by rw [beq_eq_false_iff_ne]; exact h0
    clear h0
    go_enter Tryz.func46, Tryz.ntmps46
    go_wp2_with (first | (go_at_call 49; refine CE.out.mono ?_; rintro _ w1 ⟨rfl, b1⟩; have B1 : Hid (Below w.heap.size w w1) := b1; clear b1) | (go_at_call 80; refine (CM.out _).mono ?_; rintro _ wz ⟨rfl, hwz⟩; rw [hwz]; clear hwz) | go_in)
    go_ret
    exact ⟨rfl, B1.out⟩
end Go.Proofs.YthppkdjekfginaaGreatDoor.qv

namespace Go.Proofs.YthppkdjekfginaaGreatDoor.qw
open Go.RowKit Go.PlainAid
open Go.Proofs.YthppkdjekfginaaGreatDoor.pl Go.Proofs.YthppkdjekfginaaGreatDoor.pi Go.Proofs.YthppkdjekfginaaGreatDoor.pj Go.Proofs.YthppkdjekfginaaGreatDoor.rf Go.Proofs.YthppkdjekfginaaGreatDoor.ca Go.Proofs.YthppkdjekfginaaGreatDoor.cb Go.Proofs.YthppkdjekfginaaGreatDoor.cp Go.Proofs.YthppkdjekfginaaGreatDoor.ga Go.Proofs.YthppkdjekfginaaGreatDoor.aa Go.Proofs.YthppkdjekfginaaGreatDoor.ka Go.Proofs.YthppkdjekfginaaGreatDoor.kb Go.Proofs.YthppkdjekfginaaGreatDoor.kc Go.Proofs.YthppkdjekfginaaGreatDoor.kp Go.Proofs.YthppkdjekfginaaGreatDoor.lk Go.Proofs.YthppkdjekfginaaGreatDoor.mi Go.Proofs.YthppkdjekfginaaGreatDoor.lm Go.Proofs.YthppkdjekfginaaGreatDoor.co Go.Proofs.YthppkdjekfginaaGreatDoor.cn Go.Proofs.YthppkdjekfginaaGreatDoor.dc Go.Proofs.YthppkdjekfginaaGreatDoor.qa Go.Proofs.YthppkdjekfginaaGreatDoor.qb Go.Proofs.YthppkdjekfginaaGreatDoor.qc Go.Proofs.YthppkdjekfginaaGreatDoor.wb Go.Proofs.YthppkdjekfginaaGreatDoor.qr Go.Proofs.YthppkdjekfginaaGreatDoor.qs Go.Proofs.YthppkdjekfginaaGreatDoor.qt Go.Proofs.YthppkdjekfginaaGreatDoor.qu Go.Proofs.YthppkdjekfginaaGreatDoor.qv
open Go.Proofs.YthppkdjekfginaaGreatDoor.qd (reads_nilI two_reads)
set_option linter.unusedVariables false
set_option linter.unusedSimpArgs false
-- what is refused ahead of the walk
def conR (wd m n : Int) (proof others : List ByteArray) : Int := if (cnt9 2 m 0 n []).2 = 0 then rH wd (cnt9 2 m 0 n []).1 proof others else (cnt9 2 m 0 n []).2
def conA (wd m n : Int) (old root : ByteArray) (proof : List ByteArray) : Int :=
  if conR wd m n proof [old, root] = 0 then (if m = 0 then begA wd n old root else if gw2 wd m.toNat n.toNat old proof = (old, root) then 0 else 90) else conR wd m n proof [old, root]
theorem conR_ok {wd m n : Int} {proof others : List ByteArray} (h : conR wd m n proof others = 0) : ∃ M N : Nat, m = M ∧ n = N ∧ M ≤ N ∧ N ≤ 4611686018427387904 ∧ (proof.length = if M = 0 then 0 else (WL (lkC M) 0 N).length) ∧ Wide wd proof ∧ Wide wd others ∧ cnt9 2 m 0 n [] = ((proof.length : Int), 0) := by
  unfold conR at h
  by_cases h0 : ref9 2 m 0 n [] = 0
  · have hc : cnt9 2 m 0 n [] = (((num9 2 m 0 n [] : Nat) : Int), 0) := by unfold cnt9; rw [if_pos h0]
    rw [hc, if_pos rfl] at h
    unfold ref9 at h0
    rw [if_neg (by omega)] at h0
    by_cases k2 : n < 0 ∨ 4611686018427387904 < n
    · rw [if_pos k2] at h0; omega
    rw [if_neg k2, if_neg (by omega), if_pos rfl] at h0
    by_cases g : m < 0 ∨ n < m
    · rw [if_pos g] at h0; omega
    obtain ⟨M, rfl⟩ : ∃ A : Nat, m = A := ⟨m.toNat, by omega⟩
    obtain ⟨N, rfl⟩ : ∃ A : Nat, n = A := ⟨n.toNat, by omega⟩
    unfold rH at h
    have hn : num9 2 (M : Int) 0 (N : Int) [] = if M = 0 then 0 else (WL (lkC M) 0 N).length := by
      unfold num9
      rw [if_neg (by omega), if_pos rfl, Int.toNat_natCast, Int.toNat_natCast]
      by_cases e : M = 0
      · rw [if_pos e, if_pos (by omega)]
      · rw [if_neg e, if_neg (by omega)]
    by_cases q : (okH wd others && okH wd proof) = true
    · rw [if_pos q] at h
      rw [Bool.and_eq_true] at q
      by_cases q2 : (proof.length : Int) = ((num9 2 (M : Int) 0 (N : Int) [] : Nat) : Int)
      · exact ⟨M, N, rfl, rfl, by omega, by omega, by rw [← hn]; omega, okH_wide q.2, okH_wide q.1, by rw [hc, q2]⟩
      · rw [if_neg q2] at h; omega
    · rw [if_neg q] at h; omega
  · have hc : cnt9 2 m 0 n [] = (0, ref9 2 m 0 n []) := by unfold cnt9; rw [if_neg h0]
    rw [hc] at h
    simp only at h
    rw [if_neg h0] at h
    exact absurd h h0
theorem eqB (a b x y : ByteArray) (w : World) (c : Bool) (h : (!(a.toList == x.toList && b.toList == y.toList)) = c) : (binOp .neq 76 (.agg #[.string a, .string b]) (.agg #[.string x, .string y])).run Tryz.prog w = .ok (.bool c) w := by
  subst h
  by_cases h1 : a.toList = x.toList <;> by_cases h2 : b.toList = y.toList <;> simp [go_sem, h1, h2]
set_option maxRecDepth 100000 in
set_option maxHeartbeats 6400000 in
theorem consC (wd m n : Int) (hwd : i64 wd) (old root : ByteArray) (vp : Value) (proof : List ByteArray) (w : World) (hp : ReadsT w vp proof) (zp : proof.length ≤ 140737488355328) (hT : Tab w) :
    Calls Tryz.prog 16 #[.int .i64 wd, .int .i64 m, .int .i64 n, .string old, .string root, vp] w fun e w' => e = .returned (.int .i64 (conA wd m n old root proof)) ∧ Below w.heap.size w w' := by
  have CC : Hid (Calls _ _ _ _ _) := countC 2 m 0 n (.slice none 0 0) [] w (reads_nilI w) (by simp)
  have RH : Hid (∀ w1, Below w.heap.size w w1 → Calls _ _ _ _ _) := fun w1 b => refuseH wd hwd (cnt9 2 m 0 n []).1 vp _ proof [old, root] _ ((hp.later b).later ((Below.refl _ _).alloc (Nat.le_refl _) _)) (two_reads w1 old root) zp (by simp)
  have HP : Hid (ReadsT w vp proof ∧ Tab w) := ⟨hp, hT⟩
  have hp2 := hp
  obtain ⟨pa, pc, rfl, _⟩ := hp
  unfold conA
  by_cases h : conR wd m n proof [old, root] = 0
  · obtain ⟨M, N, rfl, rfl, q1, q2, q3, q4, q5, q6⟩ := conR_ok h
    have hrh : rH wd (proof.length : Int) proof [old, root] = 0 := by
      unfold conR at h
      rw [q6] at h
      simpa using h
    rw [if_pos h]
    rw [q6] at CC RH
    simp only at CC RH
    rw [hrh] at RH
    obtain ⟨l, HL⟩ : ∃ l, Hid (proof.length = l) := ⟨_, rfl⟩
    rw [HL.out] at CC RH HP ⊢
    have hzl : l ≤ 140737488355328 := by rw [← HL.out]; exact zp
    by_cases h0 : M = 0
    · subst h0
      have z0 : ((0 : Nat) : Int) = 0 := rfl
      rw [z0] at CC ⊢
      rw [if_pos rfl]
      have CB : Hid (∀ w1, Below w.heap.size w w1 → Calls _ _ _ _ _) := fun w1 b => beginC wd (N : Int) old root w1 (HP.out.2.down b)
      obtain ⟨x, HX⟩ : ∃ x, Hid (begA wd (N : Int) old root = x) := ⟨_, rfl⟩
      rw [HX.out] at CB ⊢
      clear h hrh q3 q4 q5 q6 hp2 zp hT
      go_enter Tryz.func16, Tryz.ntmps16
      go_wp2_with fail
      refine CC.out.mono ?_
      rintro _ w1 ⟨rfl, b1⟩
      have B1 : Hid (Below w.heap.size w w1) := b1
      have B2 : Hid (Below w.heap.size w (w1.alloc (.cells #[.string old, .string root] 9))) := over b1 ((Below.refl _ _).alloc (Nat.le_refl _) _)
      clear b1
      go_wp2_with fail
      refine (RH.out _ B1.out).mono ?_
      rintro _ wz ⟨rfl, hwz⟩
      rw [hwz]
      clear hwz
      go_wp2_with fail
      refine (CB.out _ B2.out).mono ?_
      rintro _ w3 ⟨rfl, b3⟩
      have B3 : Hid (Below w.heap.size w w3) := over B2.out b3
      clear b3
      go_wp2
      go_ret
      exact ⟨rfl, B3.out⟩
    · rw [if_neg (by omega), Int.toNat_natCast, Int.toNat_natCast]
      rw [if_neg h0] at q3
      have m0 : ((M : Int) == 0) = false := by rw [beq_eq_false_iff_ne]; omega
      -- the pile's box behind all
      have GC : Hid (∀ w1, Below w.heap.size w w1 → Calls Tryz.prog 47 #[.int .i64 wd, .int .i64 M, .int .i64 N, .string old, .func (.func 48) #[.pointer (some ⟨w1.heap.size, 0, none⟩)] #[]] (w1.alloc (.cells #[.slice pa l pc] 74)) fun e w' => e = .returned (e2 (gw2 wd M N old proof)) ∧ Below w.heap.size w w') := fun w1 b => by
        have b2 : Below w1.heap.size w1 (w1.alloc (.cells #[.slice pa l pc] 74)) := (Below.refl _ _).alloc (Nat.le_refl _) _
        have b3 := over b b2
        have hr := Old.of (HP.out.1.later b)
        have kk : Kp no w1 (w1.alloc (.cells #[.slice pa l pc] 74)) := Kp.of_below b2
        have hpile : Pile w1.heap.size w1.heap.size proof (w1.alloc (.cells #[.slice pa l pc] 74)) := ⟨Nat.le_refl _, _, heap_alloc_new w1 _, hr.keep kk (fun _ e => e.elim)⟩
        have hT1 := HP.out.2.down b
        exact (growC wd M N old w1.heap.size w1.heap.size proof _ (by omega) q1 q2 (q5 old (by simp)) hpile (HP.out.2.down b3) hT1.big b2.size (by rw [q3]; exact Nat.le_refl _) q4).mono fun e w' ⟨g1, g2, g3⟩ => ⟨g1, b.trans (((Below.mono b2 b.size)).trans (g3.mono b.size))⟩
      obtain ⟨G, HG⟩ : ∃ G, Hid (gw2 wd M N old proof = G) := ⟨_, rfl⟩
      rw [HG.out] at GC ⊢
      obtain ⟨g1, g2⟩ := G
      unfold e2 at GC
      simp only at GC
      have QE : ∃ c, Hid ((∀ w, (binOp .neq 76 (.agg #[.string g1, .string g2]) (.agg #[.string old, .string root])).run Tryz.prog w = .ok (.bool c) w) ∧ (if (g1, g2) = (old, root) then (0 : Int) else 90) = if c then 90 else 0) := by
        refine ⟨!(g1.toList == old.toList && g2.toList == root.toList), fun w => eqB g1 g2 old root w _ rfl, ?_⟩
        rw [beqL, beqL]
        by_cases a1 : g1 = old <;> by_cases a2 : g2 = root <;> simp [a1, a2]
      obtain ⟨c, HQ⟩ := QE
      have qe := HQ.out.1
      rw [HQ.out.2]
      clear h hrh q3 q4 q5 q6 hp2 zp hT
      cases c
      all_goals (
        go_enter Tryz.func16, Tryz.ntmps16
        go_wp2_with fail
        refine CC.out.mono ?_
        rintro _ w1 ⟨rfl, b1⟩
        have B1 : Hid (Below w.heap.size w w1) := b1
        have B2 : Hid (Below w.heap.size w (w1.alloc (.cells #[.string old, .string root] 9))) := over b1 ((Below.refl _ _).alloc (Nat.le_refl _) _)
        have hs1 : (w1.alloc (.cells #[.string old, .string root] 9)).heap.size = w1.heap.size + 1 := by simp
        have GC2 : Hid (Calls _ _ _ _ _) := GC.out _ B2.out
        rw [hs1] at GC2
        clear hs1
        clear b1
        go_wp2_with fail
        refine (RH.out _ B1.out).mono ?_
        rintro _ wz ⟨rfl, hwz⟩
        rw [hwz]
        clear hwz
        go_wp2_with fail
        refine GC2.out.mono ?_
        rintro _ w3 ⟨rfl, b3⟩
        have B3 : Hid (Below w.heap.size w w3) := b3
        clear b3
        go_wp2
        go_ret
        exact ⟨rfl, B3.out⟩)
  · rw [if_neg h]
    obtain ⟨r, HRR⟩ : ∃ r, Hid (conR wd m n proof [old, root] = r) := ⟨_, rfl⟩
    have h' := h
    unfold conR at HRR h'
    obtain ⟨c, HC⟩ : ∃ c, Hid (cnt9 2 m 0 n [] = c) := ⟨_, rfl⟩
    rw [HC.out] at CC RH HRR h'
    obtain ⟨c1, c2⟩ := c
    simp only at CC RH HRR h'
    obtain ⟨l, HL⟩ : ∃ l, Hid (proof.length = l) := ⟨_, rfl⟩
    rw [HL.out] at RH HP ⊢
    by_cases hc : c2 = 0
    · rw [if_pos hc] at HRR h'
      have hr : conR wd m n proof [old, root] = r := by unfold conR; rw [HC.out]; simp only; rw [if_pos hc]; exact HRR.out
      rw [HRR.out] at RH h'
      subst hc
      rw [hr]
      have q : (r != 0) = true := by rw [bne_iff_ne]; exact h'
      clear h h' hp2 zp hT hr
      go_enter Tryz.func16, Tryz.ntmps16
      go_wp2_with fail
      refine CC.out.mono ?_
      rintro _ w1 ⟨rfl, b1⟩
      have B1 : Hid (Below w.heap.size w w1) := b1
      have B2 : Hid (Below w.heap.size w (w1.alloc (.cells #[.string old, .string root] 9))) := over b1 ((Below.refl _ _).alloc (Nat.le_refl _) _)
      clear b1
      go_wp2_with fail
      refine (RH.out _ B1.out).mono ?_
      rintro _ wz ⟨rfl, hwz⟩
      rw [hwz]
      clear hwz
      go_wp2
      go_ret
      exact ⟨rfl, B2.out⟩
    · rw [if_neg hc] at HRR h'
      have hr : conR wd m n proof [old, root] = c2 := by unfold conR; rw [HC.out]; simp only; rw [if_neg hc]
      rw [hr]
      have q : (c2 != 0) = true := by rw [bne_iff_ne]; exact hc
      clear h h' hp2 zp hT hr hc HRR
      go_enter Tryz.func16, Tryz.ntmps16
      go_wp2_with fail
      refine CC.out.mono ?_
      rintro _ w1 ⟨rfl, b1⟩
      have B1 : Hid (Below w.heap.size w w1) := b1
      clear b1
      go_wp2
      go_ret
      exact ⟨rfl, B1.out⟩
end Go.Proofs.YthppkdjekfginaaGreatDoor.qw

namespace Go.Proofs.YthppkdjekfginaaGreatDoor.qx
open Go.RowKit Go.PlainAid
open Go.Proofs.YthppkdjekfginaaGreatDoor.pl Go.Proofs.YthppkdjekfginaaGreatDoor.pi Go.Proofs.YthppkdjekfginaaGreatDoor.pj Go.Proofs.YthppkdjekfginaaGreatDoor.rf Go.Proofs.YthppkdjekfginaaGreatDoor.ca Go.Proofs.YthppkdjekfginaaGreatDoor.cb Go.Proofs.YthppkdjekfginaaGreatDoor.cp Go.Proofs.YthppkdjekfginaaGreatDoor.ga Go.Proofs.YthppkdjekfginaaGreatDoor.aa Go.Proofs.YthppkdjekfginaaGreatDoor.ka Go.Proofs.YthppkdjekfginaaGreatDoor.kb Go.Proofs.YthppkdjekfginaaGreatDoor.kc Go.Proofs.YthppkdjekfginaaGreatDoor.kp Go.Proofs.YthppkdjekfginaaGreatDoor.lk Go.Proofs.YthppkdjekfginaaGreatDoor.mi Go.Proofs.YthppkdjekfginaaGreatDoor.lm Go.Proofs.YthppkdjekfginaaGreatDoor.co Go.Proofs.YthppkdjekfginaaGreatDoor.cn Go.Proofs.YthppkdjekfginaaGreatDoor.dc Go.Proofs.YthppkdjekfginaaGreatDoor.df Go.Proofs.YthppkdjekfginaaGreatDoor.qa Go.Proofs.YthppkdjekfginaaGreatDoor.qb Go.Proofs.YthppkdjekfginaaGreatDoor.qc Go.Proofs.YthppkdjekfginaaGreatDoor.qe Go.Proofs.YthppkdjekfginaaGreatDoor.qi Go.Proofs.YthppkdjekfginaaGreatDoor.wb Go.Proofs.YthppkdjekfginaaGreatDoor.qr Go.Proofs.YthppkdjekfginaaGreatDoor.qs Go.Proofs.YthppkdjekfginaaGreatDoor.qt Go.Proofs.YthppkdjekfginaaGreatDoor.qu Go.Proofs.YthppkdjekfginaaGreatDoor.qv Go.Proofs.YthppkdjekfginaaGreatDoor.qw
open Go.Proofs.YthppkdjekfginaaGreatDoor.qd (reads_nilI two_reads)
set_option linter.unusedVariables false
set_option linter.unusedSimpArgs false
theorem headD_drop (l : List ByteArray) (u : Nat) : (l.drop u).headD ByteArray.empty = l.getD u ByteArray.empty := by
  rw [List.headD_eq_head?_getD, List.head?_drop, List.getD_eq_getElem?_getD]
theorem size_at {wd : Int} {l : List ByteArray} (h : Wide wd l) {u : Nat} (hu : u < l.length) : (l.getD u ByteArray.empty).size = wid wd := by
  rw [List.getD_eq_getElem?_getD, List.getElem?_eq_getElem hu]
  exact h _ (List.getElem_mem hu)
-- what is answered of a part with old leaves
def Gav (wd : Int) (m : Nat) (old : ByteArray) (base tb : Nat) (vp vh : Value) (p : List ByteArray) (u a b : Nat) (w : World) (e : Ending) (w' : World) : Prop :=
  e = .returned (.tuple #[.string (go (WG wd m old) (p.drop u) a b).1.1, .string (go (WG wd m old) (p.drop u) a b).1.2]) ∧ (go (WG wd m old) (p.drop u) a b).1.1.size = wid wd ∧ (go (WG wd m old) (p.drop u) a b).1.2.size = wid wd ∧ Tk base tb vp vh p [] (u + (WL (lkC m) a b).length) 0 w' ∧ Kp (fun b => b = tb) w w'
theorem go_whole (wd : Int) (m : Nat) (old : ByteArray) (p : List ByteArray) : go (WG wd m old) p 0 m = ((old, old), p) := by
  have e : (WG wd m old).lk p 0 m = (0, p) := by show (lkC m 0 m, p) = _; unfold lkC; rw [if_pos ⟨rfl, rfl⟩]
  rw [go_stop (by rw [e]; show 0 < 2; omega), e]; rfl
theorem lkC_old {m a b : Nat} (h0 : ¬ (a = 0 ∧ b = m)) (h : b ≤ m) : lkC m a b = 1 := by unfold lkC; rw [if_neg h0, if_pos (.inl h)]
theorem lkC_new {m a b : Nat} (h0 : ¬ (a = 0 ∧ b = m)) (h : m ≤ a) : lkC m a b = 1 := by unfold lkC; rw [if_neg h0, if_pos (.inr h)]
theorem go_old (wd : Int) {m a b : Nat} (old : ByteArray) (p : List ByteArray) (h0 : ¬ (a = 0 ∧ b = m)) (h : b ≤ m) (ha : a < m) : go (WG wd m old) p a b = ((p.headD ByteArray.empty, p.headD ByteArray.empty), p.drop 1) := by
  have e : (WG wd m old).lk p a b = (1, p) := by show (lkC m a b, p) = _; rw [lkC_old h0 h]
  rw [go_stop (by rw [e]; show 1 < 2; omega), e]
  show (if m ≤ a then _ else _ : (ByteArray × ByteArray) × List ByteArray) = _
  rw [if_neg (by omega)]
theorem go_new (wd : Int) {m a b : Nat} (old : ByteArray) (p : List ByteArray) (h0 : ¬ (a = 0 ∧ b = m)) (h : m ≤ a) : go (WG wd m old) p a b = ((⟨#[]⟩, p.headD ByteArray.empty), p.drop 1) := by
  have e : (WG wd m old).lk p a b = (1, p) := by show (lkC m a b, p) = _; rw [lkC_new h0 h]
  rw [go_stop (by rw [e]; show 1 < 2; omega), e]
  show (if m ≤ a then _ else _ : (ByteArray × ByteArray) × List ByteArray) = _
  rw [if_pos h]
set_option maxRecDepth 100000 in
set_option maxHeartbeats 6400000 in
theorem rGrown (wd : Int) (m : Nat) (hm2 : m ≤ 4611686018427387904) (old : ByteArray) (ho : old.size = wid wd) (base tb : Nat) (vp vh : Value) (p : List ByteArray) (hp : Wide wd p) (zp : p.length ≤ 140737488355328) (n : Nat) : ∀ (a b u : Nat) (w : World), b - a = n → a < m → m ≤ b → b ≤ 4611686018427387904 → Tk base tb vp vh p [] u 0 w → u + (WL (lkC m) a b).length ≤ p.length →
    Calls Tryz.prog 63 #[.int .i64 (wid wd : Nat), .int .i64 ((m : Int) - a), .int .i64 ((b : Int) - a), .bool (decide (a = 0)), .string old, .pointer (some ⟨tb, 0, none⟩)] w (Gav wd m old base tb vp vh p u a b w) := by
  induction n using Nat.strongRecOn with
  | ind n ih =>
    intro a b u w hn ha hmb hb t hu
    have h32 := qb.wid_le wd
    by_cases hbm : b = m
    · subst hbm
      have q0 : (((b : Int) - a) == ((b : Int) - a)) = true := beq_self_eq_true _
      by_cases ha0 : a = 0
      · subst ha0
        have HG : Hid _ := go_whole wd b old (p.drop u)
        have HW : Hid (WL (lkC b) 0 b = []) := WL_pass (by unfold lkC; rw [if_pos ⟨rfl, rfl⟩])
        have HT : Hid (Tk base tb vp vh p [] u 0 w) := t
        have HO : Hid _ := ho
        rw [decide_eq_true rfl]
        clear ih t hu hn h32 ho
        go_enter Tryz.func63, Tryz.ntmps63
        go_wp2
        go_ret2
        unfold Gav
        rw [HG.out, HW.out]
        exact ⟨rfl, HO.out, HO.out, HT.out, Kp.refl _ _⟩
      · have h0 : ¬ (a = 0 ∧ b = b) := fun h => ha0 h.1
        have HG : Hid _ := go_old wd old (p.drop u) h0 (Nat.le_refl _) ha
        have HW : Hid _ := WL_take (lkC_old h0 (Nat.le_refl _))
        have hu1 : u < p.length := by rw [HW.out] at hu; exact hu
        have NC : Hid (Calls _ _ _ _ _) := nextD base tb vp vh p [] u 0 w t hu1 zp
        have HZ : Hid _ := size_at hp hu1
        rw [decide_eq_false ha0]
        have HH : Hid _ := headD_drop p u
        obtain ⟨y, HY⟩ : ∃ y, Hid (p.getD u ByteArray.empty = y) := ⟨_, rfl⟩
        rw [HY.out] at NC HZ HH
        clear ih t hu hn h32 ho
        go_enter Tryz.func63, Tryz.ntmps63
        go_wp2_with fail
        refine NC.out.mono ?_
        rintro e w1 ⟨rfl, q2, q3⟩
        have Q : Hid (_ ∧ _) := ⟨q2, q3⟩
        clear q2 q3
        go_wp2
        go_ret2
        unfold Gav
        rw [HG.out, HW.out, HH.out]
        exact ⟨rfl, HZ.out, HZ.out, Q.out.1, Q.out.2⟩
    · have hmb' : m < b := by omega
      have h2n : 2 ≤ b - a := by omega
      have hh2 := half_lt h2n
      have q0 : (((m : Int) - a) == ((b : Int) - a)) = false := by rw [beq_eq_false_iff_ne]; omega
      have SP : Hid (∀ w, Calls _ _ _ _ _) := fun w => rSplit (b - a) h2n (by omega) w
      have z1 : ((b - a : Nat) : Int) = (b : Int) - a := by omega
      rw [z1] at SP
      by_cases hmk : m ≤ a + half (b - a)
      · -- the left half has them all
        have hk : lkC m a b = 2 := by unfold lkC; rw [if_neg (fun h => hbm h.2), if_neg (by omega), if_pos (by omega)]
        have h0r : ¬ (a + half (b - a) = 0 ∧ b = m) := fun h => hbm h.2
        have hwr := WL_take (lkC_new h0r hmk)
        have hwl := WL_left hk h2n
        rw [hwl, hwr, List.length_append] at hu
        have st := go_stateG wd m old (half (b - a)) a (a + half (b - a)) (p.drop u) (by omega) (by omega)
        rw [List.drop_drop] at st
        have hgo : go (WG wd m old) (p.drop u) a b = (((go (WG wd m old) (p.drop u) a (a + half (b - a))).1.1, NF wd (go (WG wd m old) (p.drop u) a (a + half (b - a))).1.2 (p.getD (u + (WL (lkC m) a (a + half (b - a))).length) ByteArray.empty)), p.drop (u + (WL (lkC m) a (a + half (b - a))).length + 1)) := by
          have e : (WG wd m old).lk (p.drop u) a b = (2, p.drop u) := by show (lkC m a b, _) = _; rw [hk]
          rw [go_left (by rw [e]) h2n, e]
          simp only
          rw [st, go_new wd old _ h0r hmk, headD_drop, List.drop_drop]
          show ((if (⟨#[]⟩ : ByteArray) = ⟨#[]⟩ then _ else _, _), _) = _
          rw [if_pos rfl]
        have I1 : Hid (Calls _ _ _ _ _) := ih (half (b - a)) (by omega) a (a + half (b - a)) u w (by omega) ha hmk (by omega) t (by omega)
        have hu2 : u + (WL (lkC m) a (a + half (b - a))).length < p.length := by simp at hu; omega
        have NC : Hid (∀ w', Tk base tb vp vh p [] (u + (WL (lkC m) a (a + half (b - a))).length) 0 w' → Calls _ _ _ _ _) := fun w' t' => nextD base tb vp vh p [] _ 0 w' t' hu2 zp
        have hzy := size_at hp hu2
        unfold Gav at I1
        have FIN : Hid (WL (lkC m) a b = WL (lkC m) a (a + half (b - a)) ++ [(a + half (b - a), b)] ∧ go (WG wd m old) (p.drop u) a b = _) := ⟨by rw [hwl, hwr], hgo⟩
        obtain ⟨k, HK⟩ : ∃ k, Hid (half (b - a) = k) := ⟨_, rfl⟩
        rw [HK.out] at SP I1 NC FIN hh2 hmk hzy
        obtain ⟨L, HLL⟩ : ∃ L, Hid ((WL (lkC m) a (a + k)).length = L) := ⟨_, rfl⟩
        obtain ⟨G, HG⟩ : ∃ G, Hid (go (WG wd m old) (p.drop u) a (a + k) = G) := ⟨_, rfl⟩
        rw [HLL.out] at I1 NC FIN hzy
        rw [HG.out] at I1 FIN
        obtain ⟨y, HY⟩ : ∃ y, Hid (p.getD (u + L) ByteArray.empty = y) := ⟨_, rfl⟩
        rw [HY.out] at NC FIN hzy
        obtain ⟨⟨g1, g2⟩, g3⟩ := G
        simp only at I1 FIN
        have RC : Hid (∀ w', g2.size = wid wd → Tab4 w' → Calls _ _ _ _ _) := fun w' z t' => rNode ((wid wd : Nat) : Int) g2 y (by omega) w' t'
        rw [NF_wid] at RC
        have HSZ : Hid ((NF wd g2 y).size = wid wd) := NF_size _ _ _
        obtain ⟨r, HRR⟩ : ∃ r, Hid (NF wd g2 y = r) := ⟨_, rfl⟩
        rw [HRR.out] at RC FIN HSZ
        obtain ⟨mm, HMM⟩ : ∃ q, Hid (wid wd = q) := ⟨_, rfl⟩
        rw [HMM.out] at I1 RC HSZ ⊢
        have z2 : ((a + k : Nat) : Int) - a = (k : Int) := by omega
        rw [z2] at I1
        have q1 : (m : Int) - a ≤ k := by omega
        clear ih t hu hk hn st hgo hwl hwr hu2 h32 ho hzy
        go_enter Tryz.func63, Tryz.ntmps63
        go_wp2_with fail
        refine (SP.out _).mono ?_
        rintro e w1 ⟨rfl, hw⟩
        subst hw
        go_wp2_with fail
        refine I1.out.mono ?_
        rintro e w2 ⟨rfl, s1, s2, t2, k2⟩
        have Q2 : Hid (g1.size = mm ∧ g2.size = mm ∧ Tk base tb vp vh p [] (u + L) 0 w2 ∧ Kp (fun b => b = tb) w1 w2) := ⟨s1, s2, t2, k2⟩
        have NC' : Hid (Calls _ _ _ _ _) := NC.out w2 t2
        clear s1 s2 t2 k2
        go_wp2_with fail
        refine NC'.out.mono ?_
        rintro e w3 ⟨rfl, t3, k3⟩
        have Q3 : Hid (Tk base tb vp vh p [] (u + L + 1) 0 w3 ∧ Kp (fun b => b = tb) w1 w3) := ⟨t3, Q2.out.2.2.2.trans k3⟩
        have RC' : Hid (Calls _ _ _ _ _) := RC.out w3 Q2.out.2.1 t3.tab
        clear t3 k3
        go_wp2_with fail
        refine RC'.out.mono ?_
        rintro e w4 ⟨rfl, hb4⟩
        have B4 : Hid (Below w3.heap.size w3 w4) := hb4
        clear hb4
        go_wp2
        go_ret2
        unfold Gav
        rw [FIN.out.2, FIN.out.1, List.length_append, HLL.out, HMM.out]
        exact ⟨rfl, Q2.out.1, HSZ.out, Q3.out.1.keep B4.out, Q3.out.2.trans (Kp.of_below B4.out)⟩
      · -- the left half is old, and more
        have hk : lkC m a b = 3 := by unfold lkC; rw [if_neg (fun h => hbm h.2), if_neg (by omega), if_neg (by omega)]
        have h0l : ¬ (a = 0 ∧ a + half (b - a) = m) := fun h => by omega
        have hwr := WL_take (lkC_old h0l (show a + half (b - a) ≤ m by omega))
        have hwl := WL_right (lk := lkC m) (a := a) (b := b) (by omega) h2n
        rw [hwl, hwr, List.length_append] at hu
        have st := go_stateG wd m old (b - a - half (b - a)) (a + half (b - a)) b (p.drop u) (by omega) (by omega)
        rw [List.drop_drop] at st
        have I1 : Hid (Calls _ _ _ _ _) := ih (b - a - half (b - a)) (by omega) (a + half (b - a)) b u w (by omega) (by omega) hmb hb t (by omega)
        have hu2 : u + (WL (lkC m) (a + half (b - a)) b).length < p.length := by simp at hu; omega
        have NC : Hid (∀ w', Tk base tb vp vh p [] (u + (WL (lkC m) (a + half (b - a)) b).length) 0 w' → Calls _ _ _ _ _) := fun w' t' => nextD base tb vp vh p [] _ 0 w' t' hu2 zp
        have hzy := size_at hp hu2
        have hgo : (go (WG wd m old) (p.drop u) (a + half (b - a)) b).1.1.size = wid wd → go (WG wd m old) (p.drop u) a b = ((NF wd (p.getD (u + (WL (lkC m) (a + half (b - a)) b).length) ByteArray.empty) (go (WG wd m old) (p.drop u) (a + half (b - a)) b).1.1, NF wd (p.getD (u + (WL (lkC m) (a + half (b - a)) b).length) ByteArray.empty) (go (WG wd m old) (p.drop u) (a + half (b - a)) b).1.2), p.drop (u + (WL (lkC m) (a + half (b - a)) b).length + 1)) := fun hz => by
          have e : (WG wd m old).lk (p.drop u) a b = (3, p.drop u) := by show (lkC m a b, _) = _; rw [hk]
          rw [go_right (by rw [e]; exact Nat.le_refl _) h2n, e]
          simp only
          rw [st, go_old wd old _ h0l (by omega) ha, headD_drop, List.drop_drop]
          show ((if (go (WG wd m old) (p.drop u) (a + half (b - a)) b).1.1 = ⟨#[]⟩ then _ else _, _), _) = _
          rw [if_neg]
          intro he
          rw [he] at hz
          have h1 := pi.wid_pos wd
          have h2 : (⟨#[]⟩ : ByteArray).size = 0 := rfl
          omega
        unfold Gav at I1
        have FIN : Hid (WL (lkC m) a b = WL (lkC m) (a + half (b - a)) b ++ [(a, a + half (b - a))] ∧ (_ → go (WG wd m old) (p.drop u) a b = _)) := ⟨by rw [hwl, hwr], hgo⟩
        obtain ⟨k, HK⟩ : ∃ k, Hid (half (b - a) = k) := ⟨_, rfl⟩
        rw [HK.out] at SP I1 NC FIN hh2 hmk hzy
        obtain ⟨L, HLL⟩ : ∃ L, Hid ((WL (lkC m) (a + k) b).length = L) := ⟨_, rfl⟩
        obtain ⟨G, HG⟩ : ∃ G, Hid (go (WG wd m old) (p.drop u) (a + k) b = G) := ⟨_, rfl⟩
        rw [HLL.out] at I1 NC FIN hzy
        rw [HG.out] at I1 FIN
        obtain ⟨y, HY⟩ : ∃ y, Hid (p.getD (u + L) ByteArray.empty = y) := ⟨_, rfl⟩
        rw [HY.out] at NC FIN hzy
        obtain ⟨⟨g1, g2⟩, g3⟩ := G
        simp only at I1 FIN
        have RC : Hid (∀ w', g1.size = wid wd → Tab4 w' → Calls _ _ _ _ _) := fun w' z t' => rNode ((wid wd : Nat) : Int) y g1 (by omega) w' t'
        have RD : Hid (∀ w', g2.size = wid wd → Tab4 w' → Calls _ _ _ _ _) := fun w' z t' => rNode ((wid wd : Nat) : Int) y g2 (by omega) w' t'
        rw [NF_wid] at RC RD
        have HSZ : Hid ((NF wd y g1).size = wid wd ∧ (NF wd y g2).size = wid wd) := ⟨NF_size _ _ _, NF_size _ _ _⟩
        obtain ⟨r1, HR1⟩ : ∃ r, Hid (NF wd y g1 = r) := ⟨_, rfl⟩
        obtain ⟨r2, HR2⟩ : ∃ r, Hid (NF wd y g2 = r) := ⟨_, rfl⟩
        rw [HR1.out] at RC FIN HSZ
        rw [HR2.out] at RD FIN HSZ
        obtain ⟨mm, HMM⟩ : ∃ q, Hid (wid wd = q) := ⟨_, rfl⟩
        rw [HMM.out] at I1 RC RD HSZ FIN ⊢
        have z2 : (m : Int) - ((a + k : Nat) : Int) = (m : Int) - a - k := by omega
        have z3 : (b : Int) - ((a + k : Nat) : Int) = (b : Int) - a - k := by omega
        have hd : decide (a + k = 0) = false := decide_eq_false (by omega)
        rw [z2, z3, hd] at I1
        have q1 : ¬ (m : Int) - a ≤ k := by omega
        have hw1 : IntKind.i64.wrap ((m : Int) - a - k) = (m : Int) - a - k := by rw [IntKind.wrap_i64]; omega
        have hw2 : IntKind.i64.wrap ((b : Int) - a - k) = (b : Int) - a - k := by rw [IntKind.wrap_i64]; omega
        generalize decide (a = 0) = wh at *
        clear ih t hu hk hn st hgo hwl hwr hu2 h32 ho hzy
        go_enter Tryz.func63, Tryz.ntmps63
        go_wp2_with fail
        refine (SP.out _).mono ?_
        rintro e w1 ⟨rfl, hw⟩
        subst hw
        go_wp2_with fail
        refine I1.out.mono ?_
        rintro e w2 ⟨rfl, s1, s2, t2, k2⟩
        have Q2 : Hid (g1.size = mm ∧ g2.size = mm ∧ Tk base tb vp vh p [] (u + L) 0 w2 ∧ Kp (fun b => b = tb) w1 w2) := ⟨s1, s2, t2, k2⟩
        have NC' : Hid (Calls _ _ _ _ _) := NC.out w2 t2
        clear s1 s2 t2 k2
        go_wp2_with fail
        refine NC'.out.mono ?_
        rintro e w3 ⟨rfl, t3, k3⟩
        have Q3 : Hid (Tk base tb vp vh p [] (u + L + 1) 0 w3 ∧ Kp (fun b => b = tb) w1 w3) := ⟨t3, Q2.out.2.2.2.trans k3⟩
        have RC' : Hid (Calls _ _ _ _ _) := RC.out w3 Q2.out.1 t3.tab
        clear t3 k3
        go_wp2_with fail
        refine RC'.out.mono ?_
        rintro e w4 ⟨rfl, hb4⟩
        have B4 : Hid (Below w3.heap.size w3 w4) := hb4
        have RD' : Hid (Calls _ _ _ _ _) := RD.out w4 Q2.out.2.1 (Q3.out.1.keep hb4).tab
        clear hb4
        go_wp2_with fail
        refine RD'.out.mono ?_
        rintro e w5 ⟨rfl, hb5⟩
        have B5 : Hid (Below w3.heap.size w3 w5) := over B4.out hb5
        clear hb5
        go_wp2
        go_ret2
        unfold Gav
        rw [FIN.out.2 Q2.out.1, FIN.out.1, List.length_append, HLL.out, HMM.out]
        exact ⟨rfl, HSZ.out.1, HSZ.out.2, Q3.out.1.keep B5.out, Q3.out.2.trans (Kp.of_below B5.out)⟩
end Go.Proofs.YthppkdjekfginaaGreatDoor.qx

namespace Go.Proofs.YthppkdjekfginaaGreatDoor.zg
open Go.RowKit Go.PlainAid
open Go.Proofs.YthppkdjekfginaaGreatDoor.pl Go.Proofs.YthppkdjekfginaaGreatDoor.pi Go.Proofs.YthppkdjekfginaaGreatDoor.pj Go.Proofs.YthppkdjekfginaaGreatDoor.rf Go.Proofs.YthppkdjekfginaaGreatDoor.ca Go.Proofs.YthppkdjekfginaaGreatDoor.cb Go.Proofs.YthppkdjekfginaaGreatDoor.cp Go.Proofs.YthppkdjekfginaaGreatDoor.ga Go.Proofs.YthppkdjekfginaaGreatDoor.gb Go.Proofs.YthppkdjekfginaaGreatDoor.aa Go.Proofs.YthppkdjekfginaaGreatDoor.ka Go.Proofs.YthppkdjekfginaaGreatDoor.kb Go.Proofs.YthppkdjekfginaaGreatDoor.kc Go.Proofs.YthppkdjekfginaaGreatDoor.kp Go.Proofs.YthppkdjekfginaaGreatDoor.lk Go.Proofs.YthppkdjekfginaaGreatDoor.mi Go.Proofs.YthppkdjekfginaaGreatDoor.lm Go.Proofs.YthppkdjekfginaaGreatDoor.co Go.Proofs.YthppkdjekfginaaGreatDoor.cn Go.Proofs.YthppkdjekfginaaGreatDoor.qb Go.Proofs.YthppkdjekfginaaGreatDoor.qc Go.Proofs.YthppkdjekfginaaGreatDoor.qg Go.Proofs.YthppkdjekfginaaGreatDoor.qj Go.Proofs.YthppkdjekfginaaGreatDoor.qr
set_option linter.unusedVariables false

-- a part of the list, and its root
def S (l : List ByteArray) (a b : Nat) : List ByteArray := (l.drop a).take (b - a)
theorem S_len {l : List ByteArray} {a b : Nat} (h : b ≤ l.length) : (S l a b).length = b - a := by unfold S; rw [List.length_take, List.length_drop]; omega
theorem S_take {l : List ByteArray} {a k b : Nat} (h1 : a ≤ k) (h2 : k ≤ b) : (S l a b).take (k - a) = S l a k := by
  unfold S
  rw [List.take_take, Nat.min_eq_left (by omega)]
theorem S_drop {l : List ByteArray} {a k b : Nat} (h1 : a ≤ k) (h2 : k ≤ b) : (S l a b).drop (k - a) = S l k b := by
  unfold S
  rw [List.drop_take, List.drop_drop, show a + (k - a) = k by omega, show b - a - (k - a) = b - k by omega]
theorem S_all (l : List ByteArray) : S l 0 l.length = l := by unfold S; simp
theorem S_pre (l : List ByteArray) (m : Nat) : S l 0 m = l.take m := by unfold S; simp
def R (wd : Int) (l : List ByteArray) (p : Nat × Nat) : ByteArray := RT wd (S l p.1 p.2)
theorem R_in (wd : Int) {l : List ByteArray} {a b : Nat} (h2 : 2 ≤ b - a) (hb : b ≤ l.length) : R wd l (a, b) = NF wd (R wd l (a, a + half (b - a))) (R wd l (a + half (b - a), b)) := by
  have hh := half_lt h2
  unfold R
  simp only
  have e := RT_half wd (xs := S l a b) (by rw [S_len hb]; exact h2)
  rw [S_len hb] at e
  have t := S_take (l := l) (a := a) (k := a + half (b - a)) (b := b) (by omega) (by omega)
  have d := S_drop (l := l) (a := a) (k := a + half (b - a)) (b := b) (by omega) (by omega)
  rw [Nat.add_sub_cancel_left] at t d
  rw [e, t, d]
theorem half_same {n m : Nat} (h2 : 2 ≤ n) (h : half n < m) (hm : m ≤ n) : half m = half n := by
  obtain ⟨i, e, h1, h3⟩ := half_is h2
  rw [e] at h ⊢
  exact half_eq h (by omega)
theorem R_mid (wd : Int) {l : List ByteArray} {a m b : Nat} (h2 : 2 ≤ b - a) (h : a + half (b - a) < m) (hm : m ≤ b) (hb : b ≤ l.length) : R wd l (a, m) = NF wd (R wd l (a, a + half (b - a))) (R wd l (a + half (b - a), m)) := by
  have hh := half_lt h2
  have e := half_same h2 (m := m - a) (by omega) (by omega)
  rw [R_in wd (a := a) (b := m) (by omega) (by omega), e]
end Go.Proofs.YthppkdjekfginaaGreatDoor.zg

namespace Go.Proofs.YthppkdjekfginaaGreatDoor.zi
end Go.Proofs.YthppkdjekfginaaGreatDoor.zi

namespace Go.Proofs.YthppkdjekfginaaGreatDoor.zk
open Go.RowKit Go.PlainAid
open Go.Proofs.YthppkdjekfginaaGreatDoor.ka
set_option linter.unusedVariables false
theorem preT {w : World} {a : Option Addr} {n cap k : Nat} {xs : List ByteArray} (h : ReadsT w (.slice a n cap) xs) (hk : k ≤ n) : ReadsT w (.slice a k cap) (xs.take k) := by
  obtain ⟨a', c', e, hc, hh⟩ := h
  injection e with e1 e2 e3
  subst e1 e3
  have hlen : (xs.take k).length = k := by rw [List.length_take]; omega
  refine ⟨a, cap, by rw [hlen], by omega, hh.imp (fun h0 => by omega) fun ⟨b, off, e, hcell⟩ => ⟨b, off, e, fun i hi => ?_⟩⟩
  rw [hlen] at hi
  rw [hcell i (by omega), List.getD_eq_getElem?_getD, List.getD_eq_getElem?_getD, List.getElem?_take, if_pos hi]
end Go.Proofs.YthppkdjekfginaaGreatDoor.zk

namespace Go.Proofs.YthppkdjekfginaaGreatDoor.qy
open Go.RowKit Go.PlainAid
open Go.Proofs.YthppkdjekfginaaGreatDoor.pl Go.Proofs.YthppkdjekfginaaGreatDoor.pi Go.Proofs.YthppkdjekfginaaGreatDoor.pj Go.Proofs.YthppkdjekfginaaGreatDoor.rf Go.Proofs.YthppkdjekfginaaGreatDoor.ca Go.Proofs.YthppkdjekfginaaGreatDoor.cb Go.Proofs.YthppkdjekfginaaGreatDoor.cp Go.Proofs.YthppkdjekfginaaGreatDoor.ga Go.Proofs.YthppkdjekfginaaGreatDoor.aa Go.Proofs.YthppkdjekfginaaGreatDoor.ka Go.Proofs.YthppkdjekfginaaGreatDoor.kb Go.Proofs.YthppkdjekfginaaGreatDoor.kc Go.Proofs.YthppkdjekfginaaGreatDoor.kp Go.Proofs.YthppkdjekfginaaGreatDoor.lk Go.Proofs.YthppkdjekfginaaGreatDoor.mi Go.Proofs.YthppkdjekfginaaGreatDoor.lm Go.Proofs.YthppkdjekfginaaGreatDoor.co Go.Proofs.YthppkdjekfginaaGreatDoor.cn Go.Proofs.YthppkdjekfginaaGreatDoor.dc Go.Proofs.YthppkdjekfginaaGreatDoor.df Go.Proofs.YthppkdjekfginaaGreatDoor.qa Go.Proofs.YthppkdjekfginaaGreatDoor.qb Go.Proofs.YthppkdjekfginaaGreatDoor.qc Go.Proofs.YthppkdjekfginaaGreatDoor.qe Go.Proofs.YthppkdjekfginaaGreatDoor.qi Go.Proofs.YthppkdjekfginaaGreatDoor.wb Go.Proofs.YthppkdjekfginaaGreatDoor.qr Go.Proofs.YthppkdjekfginaaGreatDoor.qs Go.Proofs.YthppkdjekfginaaGreatDoor.qt Go.Proofs.YthppkdjekfginaaGreatDoor.qu Go.Proofs.YthppkdjekfginaaGreatDoor.qv Go.Proofs.YthppkdjekfginaaGreatDoor.qw Go.Proofs.YthppkdjekfginaaGreatDoor.qx
open Go.Proofs.YthppkdjekfginaaGreatDoor.qd (reads_nilI two_reads)
set_option linter.unusedVariables false
set_option linter.unusedSimpArgs false
theorem EF_wid (wd : Int) : EF ((wid wd : Nat) : Int) = EF wd := by
  unfold EF cutS
  rw [wid_wid]
set_option maxRecDepth 100000 in
set_option maxHeartbeats 6400000 in
theorem rCons (wd m n : Int) (old root : ByteArray) (vp : Value) (proof : List ByteArray) (w : World) (hp : ReadsT w vp proof) (zp : proof.length ≤ 140737488355328) (hT : Tab4 w) :
    Calls Tryz.prog 23 #[.int .i64 wd, .int .i64 m, .int .i64 n, .string old, .string root, vp] w fun e w' => e = .returned (.int .i64 (conA wd m n old root proof)) ∧ Below w.heap.size w w' := by
  have CC : Hid (Calls _ _ _ _ _) := rCount 2 m 0 n (.slice none 0 0) [] w (reads_nilI w) (by simp)
  unfold Counted at CC
  have WC : Hid (∀ w, Calls _ _ _ _ _) := fun w => widthD wd w
  have RH : Hid (∀ w1, Below w.heap.size w w1 → Calls _ _ _ _ _) := fun w1 b => lookedD wd (cnt9 2 m 0 n []).1 vp _ proof [old, root] _ ((hp.later b).later ((Below.refl _ _).alloc (Nat.le_refl _) _)) (two_reads w1 old root) zp (by simp)
  have HP : Hid (ReadsT w vp proof ∧ Tab4 w) := ⟨hp, hT⟩
  have hp2 := hp
  obtain ⟨pa, pc, rfl, _⟩ := hp
  unfold conA
  by_cases h : conR wd m n proof [old, root] = 0
  · obtain ⟨M, N, rfl, rfl, q1, q2, q3, q4, q5, q6⟩ := conR_ok h
    have hrh : rH wd (proof.length : Int) proof [old, root] = 0 := by
      unfold conR at h
      rw [q6] at h
      simpa using h
    rw [if_pos h]
    rw [q6] at CC RH
    simp only at CC RH
    rw [hrh] at RH
    obtain ⟨l, HL⟩ : ∃ l, Hid (proof.length = l) := ⟨_, rfl⟩
    rw [HL.out] at CC RH HP ⊢
    have hzl : l ≤ 140737488355328 := by rw [← HL.out]; exact zp
    by_cases h0 : M = 0
    · subst h0
      have z0 : ((0 : Nat) : Int) = 0 := rfl
      rw [z0] at CC ⊢
      rw [if_pos rfl]
      have CB : Hid (∀ w1, Below w.heap.size w w1 → Calls _ _ _ _ _) := fun w1 b => rEmpty ((wid wd : Nat) : Int) w1 (HP.out.2.down b)
      rw [EF_wid] at CB
      have hx : ∃ c1 c2 c3 : Bool, Hid (begA wd (N : Int) old root = (if c1 then (if c2 then 0 else (if c3 then 0 else 90)) else 90)) ∧ (old.toList == (EF wd).toList) = c1 ∧ ((N : Int) == 0) = !c2 ∧ (root.toList == old.toList) = c3 := by
        refine ⟨_, !((N : Int) == 0), _, ?_, rfl, by simp, rfl⟩
        show _ = _
        unfold begA
        rw [beqL, beqL]
        have c1e : decide (old = EF wd) = decide (EF wd = old) := by
          by_cases a3 : EF wd = old
          · rw [decide_eq_true a3, decide_eq_true a3.symm]
          · rw [decide_eq_false a3, decide_eq_false (fun h => a3 h.symm)]
        rw [c1e]
        generalize EF wd = E
        by_cases a1 : (N : Int) = 0 <;> by_cases a2 : root = old <;> by_cases a3 : E = old <;> simp [a1, a2, a3]
      obtain ⟨c1, c2, c3, HX, e1, e2, e3⟩ := hx
      rw [HX.out]
      generalize EF wd = E at *
      obtain ⟨mm, HMM⟩ : ∃ q, Hid (wid wd = q) := ⟨_, rfl⟩
      rw [HMM.out] at WC RH CB
      clear h hrh q3 q4 q5 q6 hp2 zp hT
      cases c1 <;> cases c2 <;> cases c3
      all_goals (
        simp only [Bool.not_true, Bool.not_false] at e2
        go_enter Tryz.func23, Tryz.ntmps23
        go_wp2_with fail
        refine CC.out.mono ?_
        rintro _ w1 ⟨rfl, b1⟩
        have B1 : Hid (Below w.heap.size w w1) := b1
        have B2 : Hid (Below w.heap.size w (w1.alloc (.cells #[.string old, .string root] 9))) := over b1 ((Below.refl _ _).alloc (Nat.le_refl _) _)
        clear b1
        go_wp2_with fail
        refine (WC.out _).mono ?_
        rintro _ wz ⟨rfl, hwz⟩
        rw [hwz]
        clear hwz
        go_wp2_with fail
        refine (RH.out _ B1.out).mono ?_
        rintro _ wz ⟨rfl, hwz⟩
        rw [hwz]
        clear hwz
        go_wp2_with fail
        refine (CB.out _ B2.out).mono ?_
        rintro _ w3 ⟨rfl, b3⟩
        have B3 : Hid (Below w.heap.size w w3) := over B2.out b3
        clear b3
        go_wp2
        go_ret
        exact ⟨rfl, B3.out⟩)
    · rw [if_neg (by omega), Int.toNat_natCast, Int.toNat_natCast]
      rw [if_neg h0] at q3
      have m0 : ((M : Int) == 0) = false := by rw [beq_eq_false_iff_ne]; omega
      have GC : Hid (∀ w1, Below w.heap.size w w1 → Calls Tryz.prog 63 #[.int .i64 (wid wd : Nat), .int .i64 M, .int .i64 N, .bool true, .string old, .pointer (some ⟨w1.heap.size, 0, none⟩)] (w1.alloc (.cells #[.slice pa l pc, .int .i64 0, .slice none 0 0, .int .i64 0] 94)) fun e w' => e = .returned (.tuple #[.string (gw2 wd M N old proof).1, .string (gw2 wd M N old proof).2]) ∧ Below w.heap.size w w') := fun w1 b => by
        have b2 : Below w1.heap.size w1 (w1.alloc (.cells #[.slice pa l pc, .int .i64 0, .slice none 0 0, .int .i64 0] 94)) := (Below.refl _ _).alloc (Nat.le_refl _) _
        have b3 := over b b2
        have hr := Old.of (HP.out.1.later b)
        have kk : Kp no w1 (w1.alloc (.cells #[.slice pa l pc, .int .i64 0, .slice none 0 0, .int .i64 0] 94)) := Kp.of_below b2
        have hT1 := HP.out.2.down b
        have hnil : Old w1.heap.size w1 (.slice none 0 0) [] := Old.of ⟨none, 0, rfl, Nat.le_refl _, .inl rfl⟩
        have t : Tk w1.heap.size w1.heap.size (.slice pa l pc) (.slice none 0 0) proof [] 0 0 (w1.alloc (.cells #[.slice pa l pc, .int .i64 0, .slice none 0 0, .int .i64 0] 94)) := ⟨Nat.le_refl _, heap_alloc_new w1 _, hr.keep kk (fun _ e => e.elim), hnil.keep kk (fun _ e => e.elim), HP.out.2.down b3, ⟨hT1.big, b2.size⟩⟩
        have hg := rGrown wd M (by omega) old (q5 old (by simp)) w1.heap.size w1.heap.size (.slice pa l pc) (.slice none 0 0) proof q4 zp N 0 N 0 _ rfl (by omega) q1 q2 t (by rw [Nat.zero_add, q3]; exact Nat.le_refl _)
        rw [show ((M : Nat) : Int) - ((0 : Nat) : Int) = (M : Int) by omega, show ((N : Nat) : Int) - ((0 : Nat) : Int) = (N : Int) by omega, decide_eq_true rfl] at hg
        refine hg.mono fun e w' hh => ?_
        unfold Gav at hh
        rw [List.drop_zero] at hh
        obtain ⟨g1, _, _, _, g5⟩ := hh
        refine ⟨g1, b.trans ((Below.mono b2 b.size).trans ?_)⟩
        exact (g5.below (fun b e => by subst e; exact Nat.le_refl _) b2.size).mono b.size
      obtain ⟨G, HG⟩ : ∃ G, Hid (gw2 wd M N old proof = G) := ⟨_, rfl⟩
      rw [HG.out] at GC ⊢
      obtain ⟨g1, g2⟩ := G
      simp only at GC
      have hx : ∃ c1 c2 : Bool, Hid ((if (g1, g2) = (old, root) then (0 : Int) else 90) = (if c1 then (if c2 then 0 else 90) else 90)) ∧ (g1.toList == old.toList) = c1 ∧ (g2.toList == root.toList) = c2 := by
        refine ⟨_, _, ?_, rfl, rfl⟩
        show _ = _
        rw [beqL, beqL]
        by_cases a1 : g1 = old <;> by_cases a2 : g2 = root <;> simp [a1, a2]
      obtain ⟨c1, c2, HX, e1, e2⟩ := hx
      rw [HX.out]
      obtain ⟨mm, HMM⟩ : ∃ q, Hid (wid wd = q) := ⟨_, rfl⟩
      rw [HMM.out] at WC RH GC
      clear h hrh q3 q4 q5 q6 hp2 zp hT
      cases c1 <;> cases c2
      all_goals (
        go_enter Tryz.func23, Tryz.ntmps23
        go_wp2_with fail
        refine CC.out.mono ?_
        rintro _ w1 ⟨rfl, b1⟩
        have B1 : Hid (Below w.heap.size w w1) := b1
        have B2 : Hid (Below w.heap.size w (w1.alloc (.cells #[.string old, .string root] 9))) := over b1 ((Below.refl _ _).alloc (Nat.le_refl _) _)
        have hs1 : (w1.alloc (.cells #[.string old, .string root] 9)).heap.size = w1.heap.size + 1 := by simp
        have GC2 : Hid (Calls _ _ _ _ _) := GC.out _ B2.out
        rw [hs1] at GC2
        clear b1 hs1
        go_wp2_with fail
        refine (WC.out _).mono ?_
        rintro _ wz ⟨rfl, hwz⟩
        rw [hwz]
        clear hwz
        go_wp2_with fail
        refine (RH.out _ B1.out).mono ?_
        rintro _ wz ⟨rfl, hwz⟩
        rw [hwz]
        clear hwz
        go_wp2_with fail
        refine GC2.out.mono ?_
        rintro _ w3 ⟨rfl, b3⟩
        have B3 : Hid (Below w.heap.size w w3) := b3
        clear b3
        go_wp2
        go_ret
        exact ⟨rfl, B3.out⟩)
  · rw [if_neg h]
    obtain ⟨r, HRR⟩ : ∃ r, Hid (conR wd m n proof [old, root] = r) := ⟨_, rfl⟩
    have h' := h
    unfold conR at HRR h'
    obtain ⟨c, HC⟩ : ∃ c, Hid (cnt9 2 m 0 n [] = c) := ⟨_, rfl⟩
    rw [HC.out] at CC RH HRR h'
    obtain ⟨c1, c2⟩ := c
    simp only at CC RH HRR h'
    obtain ⟨l, HL⟩ : ∃ l, Hid (proof.length = l) := ⟨_, rfl⟩
    rw [HL.out] at RH HP ⊢
    obtain ⟨mm, HMM⟩ : ∃ q, Hid (wid wd = q) := ⟨_, rfl⟩
    rw [HMM.out] at WC RH
    by_cases hc : c2 = 0
    · rw [if_pos hc] at HRR h'
      have hr : conR wd m n proof [old, root] = r := by unfold conR; rw [HC.out]; simp only; rw [if_pos hc]; exact HRR.out
      rw [HRR.out] at RH h'
      subst hc
      rw [hr]
      have q : (r != 0) = true := by rw [bne_iff_ne]; exact h'
      clear h h' hp2 zp hT hr
      go_enter Tryz.func23, Tryz.ntmps23
      go_wp2_with fail
      refine CC.out.mono ?_
      rintro _ w1 ⟨rfl, b1⟩
      have B1 : Hid (Below w.heap.size w w1) := b1
      have B2 : Hid (Below w.heap.size w (w1.alloc (.cells #[.string old, .string root] 9))) := over b1 ((Below.refl _ _).alloc (Nat.le_refl _) _)
      clear b1
      go_wp2_with fail
      refine (WC.out _).mono ?_
      rintro _ wz ⟨rfl, hwz⟩
      rw [hwz]
      clear hwz
      go_wp2_with fail
      refine (RH.out _ B1.out).mono ?_
      rintro _ wz ⟨rfl, hwz⟩
      rw [hwz]
      clear hwz
      go_wp2
      go_ret
      exact ⟨rfl, B2.out⟩
    · rw [if_neg hc] at HRR h'
      have hr : conR wd m n proof [old, root] = c2 := by unfold conR; rw [HC.out]; simp only; rw [if_neg hc]
      rw [hr]
      have q : (c2 != 0) = true := by rw [bne_iff_ne]; exact hc
      clear h h' hp2 zp hT hr hc HRR
      go_enter Tryz.func23, Tryz.ntmps23
      go_wp2_with fail
      refine CC.out.mono ?_
      rintro _ w1 ⟨rfl, b1⟩
      have B1 : Hid (Below w.heap.size w w1) := b1
      clear b1
      go_wp2
      go_ret
      exact ⟨rfl, B1.out⟩
end Go.Proofs.YthppkdjekfginaaGreatDoor.qy
