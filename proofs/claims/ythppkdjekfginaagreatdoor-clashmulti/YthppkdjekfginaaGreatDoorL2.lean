import Derived.Test.YthppkdjekfginaaGreatDoorL1
namespace Go.Proofs.YthppkdjekfginaaGreatDoor.uj
open Go.RowKit Go.PlainAid
open Go.Proofs.YthppkdjekfginaaGreatDoor.pl Go.Proofs.YthppkdjekfginaaGreatDoor.pi Go.Proofs.YthppkdjekfginaaGreatDoor.pj Go.Proofs.YthppkdjekfginaaGreatDoor.ca Go.Proofs.YthppkdjekfginaaGreatDoor.cb Go.Proofs.YthppkdjekfginaaGreatDoor.cp Go.Proofs.YthppkdjekfginaaGreatDoor.ga Go.Proofs.YthppkdjekfginaaGreatDoor.aa Go.Proofs.YthppkdjekfginaaGreatDoor.ba Go.Proofs.YthppkdjekfginaaGreatDoor.bb Go.Proofs.YthppkdjekfginaaGreatDoor.ka Go.Proofs.YthppkdjekfginaaGreatDoor.kb Go.Proofs.YthppkdjekfginaaGreatDoor.kc Go.Proofs.YthppkdjekfginaaGreatDoor.kp Go.Proofs.YthppkdjekfginaaGreatDoor.lk Go.Proofs.YthppkdjekfginaaGreatDoor.ta Go.Proofs.YthppkdjekfginaaGreatDoor.ua Go.Proofs.YthppkdjekfginaaGreatDoor.ub Go.Proofs.YthppkdjekfginaaGreatDoor.ma Go.Proofs.YthppkdjekfginaaGreatDoor.uh Go.Proofs.YthppkdjekfginaaGreatDoor.ui
set_option linter.unusedVariables false

-- the boxes of a filling and of a span
def FC (w : World) (p : Nat) (wd : Int) (v1 : Value) (up : Bool) (v3 v4 : Value) : Prop := w.cell? ⟨p, 0, none⟩ = some (.int .i64 wd) ∧ w.cell? ⟨p, 1, none⟩ = some v1 ∧ w.cell? ⟨p, 2, none⟩ = some (.bool up) ∧ w.cell? ⟨p, 3, none⟩ = some v3 ∧ w.cell? ⟨p, 4, none⟩ = some v4
def SC (w : World) (p a b : Nat) : Prop := w.cell? ⟨p, 0, none⟩ = some (.int .i64 a) ∧ w.cell? ⟨p, 1, none⟩ = some (.int .i64 b)
theorem FC.keep {w w' : World} {p : Nat} {wd : Int} {v1 v3 v4 : Value} {up : Bool} {F : Nat → Prop} (h : FC w p wd v1 up v3 v4) (k : Kp F w w') (hn : ¬ F p) : FC w' p wd v1 up v3 v4 := ⟨k.cell h.1 hn, k.cell h.2.1 hn, k.cell h.2.2.1 hn, k.cell h.2.2.2.1 hn, k.cell h.2.2.2.2 hn⟩
theorem SC.keep {w w' : World} {p a b : Nat} {F : Nat → Prop} (h : SC w p a b) (k : Kp F w w') (hn : ¬ F p) : SC w' p a b := ⟨k.cell h.1 hn, k.cell h.2 hn⟩
theorem box5 (w : World) (v0 v1 v2 v3 v4 : Value) (a b : Nat) (t t' : TypeId) : ∀ W, W = (w.alloc (.cells #[v0, v1, v2, v3, v4] t)).alloc (.cells #[.int .i64 a, .int .i64 b] t') → Below w.heap.size w W ∧ W.cell? ⟨w.heap.size, 0, none⟩ = some v0 ∧ W.cell? ⟨w.heap.size, 1, none⟩ = some v1 ∧ W.cell? ⟨w.heap.size, 2, none⟩ = some v2 ∧ W.cell? ⟨w.heap.size, 3, none⟩ = some v3 ∧ W.cell? ⟨w.heap.size, 4, none⟩ = some v4 ∧ SC W (w.heap.size + 1) a b ∧ W.heap.size = w.heap.size + 2 := by
  intro W hW
  have s1 : (w.alloc (.cells #[v0, v1, v2, v3, v4] t)).heap.size = w.heap.size + 1 := by simp
  have b1 : Below w.heap.size w (w.alloc (.cells #[v0, v1, v2, v3, v4] t)) := (Below.refl _ _).alloc (Nat.le_refl _) _
  have b2 : Below (w.alloc (.cells #[v0, v1, v2, v3, v4] t)).heap.size (w.alloc (.cells #[v0, v1, v2, v3, v4] t)) W := by rw [hW]; exact (Below.refl _ _).alloc (Nat.le_refl _) _
  have c : ∀ (k : Nat) v, #[v0, v1, v2, v3, v4][k]? = some v → W.cell? ⟨w.heap.size, k, none⟩ = some v := fun k v hk => by
    refine (b2.cell (p := ⟨w.heap.size, k, none⟩) (by show w.heap.size < _; rw [s1]; omega)).trans ?_
    rw [World.cell?_alloc_at _ _ _ _ rfl]; exact hk
  refine ⟨over b1 b2, c 0 _ rfl, c 1 _ rfl, c 2 _ rfl, c 3 _ rfl, c 4 _ rfl, ⟨?_, ?_⟩, ?_⟩
  · rw [← s1, hW, World.cell?_alloc_at _ _ _ _ rfl]; rfl
  · rw [← s1, hW, World.cell?_alloc_at _ _ _ _ rfl]; rfl
  · rw [hW]; simp
theorem box2 (w : World) (a b a' b' : Nat) (t t' : TypeId) : ∀ W, W = (w.alloc (.cells #[.int .i64 a, .int .i64 b] t)).alloc (.cells #[.int .i64 a', .int .i64 b'] t') → Below w.heap.size w W ∧ SC W w.heap.size a b ∧ SC W (w.heap.size + 1) a' b' := by
  intro W hW
  have s1 : (w.alloc (.cells #[.int .i64 a, .int .i64 b] t)).heap.size = w.heap.size + 1 := by simp
  have b1 : Below w.heap.size w (w.alloc (.cells #[.int .i64 a, .int .i64 b] t)) := (Below.refl _ _).alloc (Nat.le_refl _) _
  have b2 : Below (w.alloc (.cells #[.int .i64 a, .int .i64 b] t)).heap.size (w.alloc (.cells #[.int .i64 a, .int .i64 b] t)) W := by rw [hW]; exact (Below.refl _ _).alloc (Nat.le_refl _) _
  have c : ∀ (k : Nat) v, #[Value.int .i64 a, .int .i64 b][k]? = some v → W.cell? ⟨w.heap.size, k, none⟩ = some v := fun k v hk => by
    refine (b2.cell (p := ⟨w.heap.size, k, none⟩) (by show w.heap.size < _; rw [s1]; omega)).trans ?_
    rw [World.cell?_alloc_at _ _ _ _ rfl]; exact hk
  refine ⟨over b1 b2, ⟨c 0 _ rfl, c 1 _ rfl⟩, ⟨?_, ?_⟩⟩
  · rw [← s1, hW, World.cell?_alloc_at _ _ _ _ rfl]; rfl
  · rw [← s1, hW, World.cell?_alloc_at _ _ _ _ rfl]; rfl
theorem leaf_is {B : Nat} {w w' : World} {s l : ByteArray} (hB : B ≤ w.heap.size) (hw : w' = w.alloc (.cells #[.string s, .string l, .nilIface, .nilIface] 131)) : IsP B w' (.iface 125 (.pointer (some ⟨w.heap.size, 0, none⟩))) (.leaf s l) :=
  ⟨w.heap.size, hB, rfl, by rw [hw]; exact heap_alloc_new w _⟩
section
variable {X : Type} {F : Nat → Prop} {St : X → World → Prop} {wd : Int} {lk : Nat → Nat → Nat} {up : Bool} {lf : Nat → ByteArray} {hs : X → Nat → Nat → ByteArray × X} {P : X → Nat → Nat → Prop} {kg hg : Nat} {lv : Value} {kb kc hb hc : Array Value}
set_option maxRecDepth 100000 in
set_option maxHeartbeats 6400000 in
theorem growC (K : Fl F St wd lk up lf hs P kg hg lv kb kc hb hc) (n : Nat) : ∀ (a b : Nat) (x : X) (w : World), b - a = n → a < b → P x a b → St x w →
    Calls Tryz.prog 54 #[.agg #[.int .i64 wd, .func (.func kg) kb kc, .bool up, lv, .func (.func hg) hb hc], .agg #[.int .i64 a, .int .i64 b]] w fun e w' => ∃ v, e = .returned v ∧ IsP w.heap.size w' v (gw (HH wd) lk lf hs x a b).1 ∧ St (gw (HH wd) lk lf hs x a b).2 w' ∧ Kp F w w' := by
  induction n using Nat.strongRecOn with
  | ind n ih =>
    intro a b x w hn hab hP hS
    have eg := K.kent
    have eh := K.hent
    have KK : Hid (Fl F St wd lk up lf hs P kg hg lv kb kc hb hc) := K
    have IH : Hid (∀ m, m < n → ∀ (a b : Nat) (x : X) (w : World), b - a = m → a < b → P x a b → St x w →
      Calls Tryz.prog 54 #[.agg #[.int .i64 wd, .func (.func kg) kb kc, .bool up, lv, .func (.func hg) hb hc], .agg #[.int .i64 a, .int .i64 b]] w fun e w' => ∃ v, e = .returned v ∧ IsP w.heap.size w' v (gw (HH wd) lk lf hs x a b).1 ∧ St (gw (HH wd) lk lf hs x a b).2 w' ∧ Kp F w w') := ih
    obtain ⟨W, HW⟩ : ∃ W, Hid (W = (w.alloc (.cells #[.int .i64 wd, .func (.func kg) kb kc, .bool up, lv, .func (.func hg) hb hc] 48)).alloc (.cells #[.int .i64 a, .int .i64 b] 43)) := ⟨_, rfl⟩
    obtain ⟨bw, w0, w1, w2, w3, w4, ws, wz⟩ := box5 w (.int .i64 wd) (.func (.func kg) kb kc) (.bool up) (lv) (.func (.func hg) hb hc) a b 48 43 W HW.out
    have BW : Hid (Below w.heap.size w W) := bw
    have HFC : Hid (FC W w.heap.size wd (.func (.func kg) kb kc) up (lv) (.func (.func hg) hb hc) ∧ SC W (w.heap.size + 1) a b) := ⟨⟨w0, w1, w2, w3, w4⟩, ws⟩
    have HF : Hid (∀ b, F b → b < w.heap.size) := K.fl hS
    have SW : Hid (St x W) := K.later hS bw
    have hbb : b ≤ 4611686018427387904 := K.bnd hP
    have HP : Hid (P x a b ∧ a < b ∧ b ≤ 4611686018427387904) := ⟨hP, hab, hbb⟩
    have KN : Hid (Calls _ _ _ _ _) := K.knows x a b a b W hP (Nat.le_refl _) hab (Nat.le_refl _) SW.out
    obtain ⟨G, HG⟩ : ∃ G, Hid (gw (HH wd) lk lf hs x a b = G) := ⟨_, rfl⟩
    rw [HG.out]
    clear bw w0 w1 w2 w3 w4 ws wz hS ih
    by_cases h1 : lk a b = 1
    · rw [show decide (lk a b ≠ 1) = false by simp [h1]] at KN
      have HC : Hid (∀ w', St x w' → Calls _ _ _ _ _) := fun w' h => KK.out.hash x a b w' hab hP h1 h
      have HGE : Hid (G = (.bare (hs x a b).1, (hs x a b).2)) := HG.out.symm.trans (gw_bare h1)
      obtain ⟨y, HY⟩ : ∃ y, Hid ((hs x a b).1 = y) := ⟨_, rfl⟩
      obtain ⟨x2, HX⟩ : ∃ y, Hid ((hs x a b).2 = y) := ⟨_, rfl⟩
      rw [HY.out, HX.out] at HC HGE
      clear K hP h1 hab hbb IH HP HG
      go_enter Tryz.func54, Tryz.ntmps54
      go_wp2_with fail
      rw [← HW.out]
      refine KN.out.mono ?_
      rintro e w3 ⟨rfl, hb3⟩
      have B3 : Hid (Below W.heap.size W w3) := hb3
      obtain ⟨⟨c0, c1, c2, c3, c4⟩, s0, s1⟩ := And.intro (HFC.out.1.keep (Kp.of_below (A := no) hb3) (fun e => e)) (HFC.out.2.keep (Kp.of_below (A := no) hb3) (fun e => e))
      clear hb3
      go_wp2_with fail
      refine (HC.out _ (KK.out.later SW.out B3.out)).mono ?_
      rintro e w4 ⟨rfl, hs4, hk4⟩
      have H4 : Hid (St x2 w4 ∧ Kp F w w4) := ⟨hs4, ((Kp.of_below (over BW.out B3.out)).trans hk4)⟩
      clear hs4 hk4 c0 c1 c2 c3 c4 s0 s1
      go_wp2
      go_ret
      exact ⟨_, rfl, by rw [HGE.out]; rfl, by rw [HGE.out]; exact H4.out.1, H4.out.2⟩
    have LF' : Hid (∀ w, Calls _ _ _ _ _) := fun w => kleaf a b hab hbb w
    rw [show decide (lk a b ≠ 1) = true by simp [h1]] at KN
    by_cases h2 : 2 ≤ b - a
    · have hh := half_lt h2
      rw [decide_eq_false (show ¬ b - a = 1 by omega)] at LF'
      have HVC : Hid (∀ w, Calls _ _ _ _ _) := fun w => khalves a b h2 hbb w
      have hd := KK.out.dir hab hP h1 h2
      have WZ : Hid (W.heap.size = w.heap.size + 2) := by show _ = _; rw [HW.out]; simp
      cases up
      · have h3 : lk a b = 2 := hd.2 (fun h => by cases h.1)
        clear hd
        have hgo : Hid (P x a b ∧ lk a b ≠ 1) := ⟨hP, h1⟩
        have HGE : Hid (gw (HH wd) lk lf hs x a b = _) := gw_left h3 h2
        have HPP : Hid (_ ∧ _) := KK.out.left hab hP h3 h2
        rw [HG.out] at HGE
        obtain ⟨k, HK⟩ : ∃ k, Hid (a + half (b - a) = k) := ⟨_, rfl⟩
        have hk : a < k ∧ k < b := by rw [← HK.out]; omega
        rw [HK.out] at HVC HGE HPP
        obtain ⟨A, HAA⟩ : ∃ A, Hid (gw (HH wd) lk lf hs x a k = A) := ⟨_, rfl⟩
        rw [HAA.out] at HGE HPP
        obtain ⟨D, HDD⟩ : ∃ D, Hid (gw (HH wd) lk lf hs A.2 k b = D) := ⟨_, rfl⟩
        rw [HDD.out] at HGE
        have I1 : Hid (∀ w', St x w' → Calls _ _ _ _ _) := fun w' h => IH.out (k - a) (by omega) a k x w' rfl (by omega) HPP.out.1 h
        have I2 : Hid (∀ w', St A.2 w' → Calls _ _ _ _ _) := fun w' h => IH.out (b - k) (by omega) k b A.2 w' rfl (by omega) HPP.out.2 h
        have ZA : Hid (A.1.sum.size ≤ 32) := by show _ ≤ _; rw [← HAA.out]; exact KK.out.sum HPP.out.1
        have ZD : Hid (D.1.sum.size ≤ 32) := by show _ ≤ _; rw [← HDD.out]; exact KK.out.sum HPP.out.2
        rw [HAA.out] at I1
        rw [HDD.out] at I2
        have AC : Hid (∀ w' vl vr, w.heap.size ≤ w'.heap.size → IsP w.heap.size w' vl A.1 → IsP w.heap.size w' vr D.1 → Tab w' → Calls _ _ _ _ _) := fun w' vl vr h0 h1 h2 h3 => aboveC w.heap.size wd (.func (.func kg) kb kc) (lv) (.func (.func hg) hb hc) false vl vr A.1 D.1 w' h0 h1 h2 ZA.out ZD.out h3
        clear K hP h1 h2 h3 hab hbb HP HG hk ZA ZD 
        go_enter Tryz.func54, Tryz.ntmps54
        go_wp2_with fail
        rw [← HW.out]
        refine KN.out.mono ?_
        rintro e w3 ⟨rfl, hb3⟩
        have B3 : Hid (Below W.heap.size W w3) := hb3
        obtain ⟨s0, s1⟩ := HFC.out.2.keep (Kp.of_below (A := no) hb3) (fun e => e)
        clear hb3
        go_wp2_with fail
        refine (LF'.out _).mono ?_
        rintro e w4 ⟨rfl, hb4⟩
        have B4 : Hid (Below W.heap.size W w4) := over B3.out hb4
        clear hb4 s0 s1
        obtain ⟨s0, s1⟩ := HFC.out.2.keep (Kp.of_below (A := no) B4.out) (fun e => e)
        go_wp2_with fail
        refine (HVC.out _).mono ?_
        rintro e w5 ⟨rfl, hb5⟩
        have B5 : Hid (Below W.heap.size W w5) := over B4.out hb5
        clear hb5 s0 s1
        obtain ⟨V, HV⟩ : ∃ V, Hid (V = (w5.alloc (.cells #[.int .i64 a, .int .i64 k] 43)).alloc (.cells #[.int .i64 k, .int .i64 b] 43)) := ⟨_, rfl⟩
        obtain ⟨v1, v2, v3⟩ := box2 w5 a k k b 43 43 V HV.out
        have BV : Hid (Below W.heap.size W V) := over B5.out v1
        have KV : Hid (Kp F w V) := Kp.of_below (over BW.out BV.out)
        have SV : Hid (St x V) := KK.out.later SW.out BV.out
        have z5 : w.heap.size + 2 ≤ w5.heap.size := by have := B5.out.size; have := WZ.out; omega
        have HCC : Hid (FC V w.heap.size wd (.func (.func kg) kb kc) false (lv) (.func (.func hg) hb hc) ∧ SC V w5.heap.size a k ∧ SC V (w5.heap.size + 1) k b) := ⟨HFC.out.1.keep (Kp.of_below (A := no) BV.out) (fun e => e), v2, v3⟩
        have HN : Hid (¬ F w.heap.size ∧ ¬ F w5.heap.size ∧ ¬ F (w5.heap.size + 1)) := ⟨fun h => by have := HF.out _ h; omega, fun h => by have := HF.out _ h; omega, fun h => by have := HF.out _ h; omega⟩
        have CALL : Hid (∀ w', Kp F V w' → FC w' w.heap.size wd (.func (.func kg) kb kc) false (lv) (.func (.func hg) hb hc) ∧ SC w' w5.heap.size a k ∧ SC w' (w5.heap.size + 1) k b) := fun w' h => ⟨HCC.out.1.keep h HN.out.1, HCC.out.2.1.keep h HN.out.2.1, HCC.out.2.2.keep h HN.out.2.2⟩
        clear v1 v2 v3 z5
        obtain ⟨⟨c0, c1, c2, c3, c4⟩, ⟨p0, p1⟩, r0, r1⟩ := HCC.out
        have hv5 : (w5.alloc (.cells #[.int .i64 a, .int .i64 k] 43)).alloc (.cells #[.int .i64 k, .int .i64 b] 43) = V := HV.out.symm
        go_wp2_with (rw [hv5])
        refine (I1.out _ SV.out).mono ?_
        rintro e w6 ⟨va, rfl, hi6, hs6, hk6⟩
        have H6 : Hid (IsP w.heap.size w6 va A.1 ∧ St A.2 w6 ∧ Kp F V w6) := ⟨hi6.mono (KV.out.trans (Kp.refl F V)).size, hs6, (Kp.refl F V).trans hk6⟩
        have H7 : Hid (∀ w7 vd, IsP w6.drew.heap.size w7 vd D.1 → St D.2 w7 → Kp F w6.drew w7 → IsP w.heap.size w7 va A.1 ∧ IsP w.heap.size w7 vd D.1 ∧ St D.2 w7 ∧ Kp F V w7) := fun w7 vd h1 h2 h3 => ⟨(H6.out.1.later (below_dr (Below.refl _ _))).keep h3 HF.out, h1.mono (KV.out.trans H6.out.2.2).size, h2, (H6.out.2.2.trans (Kp.of_below (below_dr (Below.refl _ _)))).trans h3⟩
        have SX : Hid (∀ w', Kp F V w' → Kp F V w' ∧ w'.cell? ⟨w.heap.size, 0, none⟩ = some (.int .i64 wd) ∧ w'.cell? ⟨w.heap.size, 1, none⟩ = some (.func (.func kg) kb kc) ∧ w'.cell? ⟨w.heap.size, 2, none⟩ = some (.bool false) ∧ w'.cell? ⟨w.heap.size, 3, none⟩ = some (lv) ∧ w'.cell? ⟨w.heap.size, 4, none⟩ = some (.func (.func hg) hb hc) ∧ w'.cell? ⟨w5.heap.size + 1, 0, none⟩ = some (.int .i64 k) ∧ w'.cell? ⟨w5.heap.size + 1, 1, none⟩ = some (.int .i64 b)) := fun w' h => by
          obtain ⟨⟨a0, a1, a2, a3, a4⟩, ⟨q0, q1⟩, t0, t1⟩ := CALL.out w' h
          exact ⟨h, a0, a1, a2, a3, a4, t0, t1⟩
        have K6 : Hid (Kp F V w6.drew) := H6.out.2.2.trans (Kp.of_below (below_dr (Below.refl _ _)))
        clear hi6 hs6 hk6 c0 c1 c2 c3 c4 p0 p1 r0 r1
        obtain ⟨⟨c0, c1, c2, c3, c4⟩, ⟨p0, p1⟩, r0, r1⟩ := CALL.out w6 H6.out.2.2
        go_wp2_with fail
        go_region_held3 (fun w' => Kp F V w' ∧ w'.cell? ⟨w.heap.size, 0, none⟩ = some (.int .i64 wd) ∧ w'.cell? ⟨w.heap.size, 1, none⟩ = some (.func (.func kg) kb kc) ∧ w'.cell? ⟨w.heap.size, 2, none⟩ = some (.bool false) ∧ w'.cell? ⟨w.heap.size, 3, none⟩ = some (lv) ∧ w'.cell? ⟨w.heap.size, 4, none⟩ = some (.func (.func hg) hb hc) ∧ w'.cell? ⟨w5.heap.size + 1, 0, none⟩ = some (.int .i64 k) ∧ w'.cell? ⟨w5.heap.size + 1, 1, none⟩ = some (.int .i64 b)) (first | exact SX.out _ K6.out | exact SX.out _ G7.out.2.2.2 | exact SX.out _ K8.out) (first | (go_at_call 54; refine (I2.out _ (KK.out.later H6.out.2.1 (below_dr (Below.refl _ _)))).mono ?_; rintro e w7 ⟨vd, rfl, hi7, hs7, hk7⟩; have G7 : Hid (_ ∧ _ ∧ _ ∧ _) := H7.out w7 vd hi7 hs7 hk7; clear hi7 hs7 hk7) | (go_at_call 89; refine (AC.out _ _ _ (KV.out.trans G7.out.2.2.2).size G7.out.1 G7.out.2.1 (KK.out.tab G7.out.2.2.1)).mono ?_; rintro e w8 ⟨v8, rfl, hi8, hb8⟩; have K8 : Hid (Kp F V w8) := G7.out.2.2.2.trans (Kp.of_below hb8)))
        have FIN : Hid (IsP w.heap.size w8 v8 G.1 ∧ St G.2 w8 ∧ Kp F w w8) := by
          rw [HGE.out]
          exact ⟨hi8, KK.out.later G7.out.2.2.1 hb8, KV.out.trans K8.out⟩
        clear hi8 hb8
        go_wp2
        go_ret
        exact ⟨_, rfl, FIN.out⟩
      · by_cases hrk : lk (a + half (b - a)) b = 1
        · have h3 : lk a b = 2 := hd.2 (fun h => h.2 hrk)
          clear hd
          have hgo : Hid (P x a b ∧ lk a b ≠ 1) := ⟨hP, h1⟩
          have HGE : Hid (gw (HH wd) lk lf hs x a b = _) := gw_left h3 h2
          have HPP : Hid (_ ∧ _) := KK.out.left hab hP h3 h2
          rw [HG.out] at HGE
          obtain ⟨k, HK⟩ : ∃ k, Hid (a + half (b - a) = k) := ⟨_, rfl⟩
          have hk : a < k ∧ k < b := by rw [← HK.out]; omega
          rw [HK.out] at HVC HGE HPP
          rw [HK.out] at hrk
          have KR : Hid (∀ w', St x w' → Calls _ _ _ _ _) := fun w' h => KK.out.knows x k b a b w' hP (by omega) hk.2 (Nat.le_refl _) h
          rw [show decide (lk k b ≠ 1) = false by simp [hrk]] at KR
          obtain ⟨A, HAA⟩ : ∃ A, Hid (gw (HH wd) lk lf hs x a k = A) := ⟨_, rfl⟩
          rw [HAA.out] at HGE HPP
          obtain ⟨D, HDD⟩ : ∃ D, Hid (gw (HH wd) lk lf hs A.2 k b = D) := ⟨_, rfl⟩
          rw [HDD.out] at HGE
          have I1 : Hid (∀ w', St x w' → Calls _ _ _ _ _) := fun w' h => IH.out (k - a) (by omega) a k x w' rfl (by omega) HPP.out.1 h
          have I2 : Hid (∀ w', St A.2 w' → Calls _ _ _ _ _) := fun w' h => IH.out (b - k) (by omega) k b A.2 w' rfl (by omega) HPP.out.2 h
          have ZA : Hid (A.1.sum.size ≤ 32) := by show _ ≤ _; rw [← HAA.out]; exact KK.out.sum HPP.out.1
          have ZD : Hid (D.1.sum.size ≤ 32) := by show _ ≤ _; rw [← HDD.out]; exact KK.out.sum HPP.out.2
          rw [HAA.out] at I1
          rw [HDD.out] at I2
          have AC : Hid (∀ w' vl vr, w.heap.size ≤ w'.heap.size → IsP w.heap.size w' vl A.1 → IsP w.heap.size w' vr D.1 → Tab w' → Calls _ _ _ _ _) := fun w' vl vr h0 h1 h2 h3 => aboveC w.heap.size wd (.func (.func kg) kb kc) (lv) (.func (.func hg) hb hc) true vl vr A.1 D.1 w' h0 h1 h2 ZA.out ZD.out h3
          clear K hP h1 h2 h3 hab hbb HP HG hk ZA ZD hrk
          go_enter Tryz.func54, Tryz.ntmps54
          go_wp2_with fail
          rw [← HW.out]
          refine KN.out.mono ?_
          rintro e w3 ⟨rfl, hb3⟩
          have B3 : Hid (Below W.heap.size W w3) := hb3
          obtain ⟨s0, s1⟩ := HFC.out.2.keep (Kp.of_below (A := no) hb3) (fun e => e)
          clear hb3
          go_wp2_with fail
          refine (LF'.out _).mono ?_
          rintro e w4 ⟨rfl, hb4⟩
          have B4 : Hid (Below W.heap.size W w4) := over B3.out hb4
          clear hb4 s0 s1
          obtain ⟨s0, s1⟩ := HFC.out.2.keep (Kp.of_below (A := no) B4.out) (fun e => e)
          go_wp2_with fail
          refine (HVC.out _).mono ?_
          rintro e w5 ⟨rfl, hb5⟩
          have B5 : Hid (Below W.heap.size W w5) := over B4.out hb5
          clear hb5 s0 s1
          obtain ⟨V, HV⟩ : ∃ V, Hid (V = (w5.alloc (.cells #[.int .i64 a, .int .i64 k] 43)).alloc (.cells #[.int .i64 k, .int .i64 b] 43)) := ⟨_, rfl⟩
          obtain ⟨v1, v2, v3⟩ := box2 w5 a k k b 43 43 V HV.out
          have BV : Hid (Below W.heap.size W V) := over B5.out v1
          have KV : Hid (Kp F w V) := Kp.of_below (over BW.out BV.out)
          have SV : Hid (St x V) := KK.out.later SW.out BV.out
          have z5 : w.heap.size + 2 ≤ w5.heap.size := by have := B5.out.size; have := WZ.out; omega
          have HCC : Hid (FC V w.heap.size wd (.func (.func kg) kb kc) true (lv) (.func (.func hg) hb hc) ∧ SC V w5.heap.size a k ∧ SC V (w5.heap.size + 1) k b) := ⟨HFC.out.1.keep (Kp.of_below (A := no) BV.out) (fun e => e), v2, v3⟩
          have HN : Hid (¬ F w.heap.size ∧ ¬ F w5.heap.size ∧ ¬ F (w5.heap.size + 1)) := ⟨fun h => by have := HF.out _ h; omega, fun h => by have := HF.out _ h; omega, fun h => by have := HF.out _ h; omega⟩
          have CALL : Hid (∀ w', Kp F V w' → FC w' w.heap.size wd (.func (.func kg) kb kc) true (lv) (.func (.func hg) hb hc) ∧ SC w' w5.heap.size a k ∧ SC w' (w5.heap.size + 1) k b) := fun w' h => ⟨HCC.out.1.keep h HN.out.1, HCC.out.2.1.keep h HN.out.2.1, HCC.out.2.2.keep h HN.out.2.2⟩
          clear v1 v2 v3 z5
          obtain ⟨⟨c0, c1, c2, c3, c4⟩, ⟨p0, p1⟩, r0, r1⟩ := HCC.out
          have hv5 : (w5.alloc (.cells #[.int .i64 a, .int .i64 k] 43)).alloc (.cells #[.int .i64 k, .int .i64 b] 43) = V := HV.out.symm
          go_wp2_with (rw [hv5])
          refine (KR.out _ SV.out).mono ?_
          rintro e u5 ⟨rfl, hbu⟩
          have SU : Hid (St x u5 ∧ Kp F V u5) := ⟨KK.out.later SV.out hbu, Kp.of_below hbu⟩
          clear hbu c0 c1 c2 c3 c4 p0 p1 r0 r1
          obtain ⟨⟨c0, c1, c2, c3, c4⟩, ⟨p0, p1⟩, r0, r1⟩ := CALL.out u5 SU.out.2
          go_wp2_with fail
          refine (I1.out _ SU.out.1).mono ?_
          rintro e w6 ⟨va, rfl, hi6, hs6, hk6⟩
          have H6 : Hid (IsP w.heap.size w6 va A.1 ∧ St A.2 w6 ∧ Kp F V w6) := ⟨hi6.mono (KV.out.trans SU.out.2).size, hs6, SU.out.2.trans hk6⟩
          have H7 : Hid (∀ w7 vd, IsP w6.drew.heap.size w7 vd D.1 → St D.2 w7 → Kp F w6.drew w7 → IsP w.heap.size w7 va A.1 ∧ IsP w.heap.size w7 vd D.1 ∧ St D.2 w7 ∧ Kp F V w7) := fun w7 vd h1 h2 h3 => ⟨(H6.out.1.later (below_dr (Below.refl _ _))).keep h3 HF.out, h1.mono (KV.out.trans H6.out.2.2).size, h2, (H6.out.2.2.trans (Kp.of_below (below_dr (Below.refl _ _)))).trans h3⟩
          have SX : Hid (∀ w', Kp F V w' → Kp F V w' ∧ w'.cell? ⟨w.heap.size, 0, none⟩ = some (.int .i64 wd) ∧ w'.cell? ⟨w.heap.size, 1, none⟩ = some (.func (.func kg) kb kc) ∧ w'.cell? ⟨w.heap.size, 2, none⟩ = some (.bool true) ∧ w'.cell? ⟨w.heap.size, 3, none⟩ = some (lv) ∧ w'.cell? ⟨w.heap.size, 4, none⟩ = some (.func (.func hg) hb hc) ∧ w'.cell? ⟨w5.heap.size + 1, 0, none⟩ = some (.int .i64 k) ∧ w'.cell? ⟨w5.heap.size + 1, 1, none⟩ = some (.int .i64 b)) := fun w' h => by
            obtain ⟨⟨a0, a1, a2, a3, a4⟩, ⟨q0, q1⟩, t0, t1⟩ := CALL.out w' h
            exact ⟨h, a0, a1, a2, a3, a4, t0, t1⟩
          have K6 : Hid (Kp F V w6.drew) := H6.out.2.2.trans (Kp.of_below (below_dr (Below.refl _ _)))
          clear hi6 hs6 hk6 c0 c1 c2 c3 c4 p0 p1 r0 r1
          obtain ⟨⟨c0, c1, c2, c3, c4⟩, ⟨p0, p1⟩, r0, r1⟩ := CALL.out w6 H6.out.2.2
          go_wp2_with fail
          go_region_held3 (fun w' => Kp F V w' ∧ w'.cell? ⟨w.heap.size, 0, none⟩ = some (.int .i64 wd) ∧ w'.cell? ⟨w.heap.size, 1, none⟩ = some (.func (.func kg) kb kc) ∧ w'.cell? ⟨w.heap.size, 2, none⟩ = some (.bool true) ∧ w'.cell? ⟨w.heap.size, 3, none⟩ = some (lv) ∧ w'.cell? ⟨w.heap.size, 4, none⟩ = some (.func (.func hg) hb hc) ∧ w'.cell? ⟨w5.heap.size + 1, 0, none⟩ = some (.int .i64 k) ∧ w'.cell? ⟨w5.heap.size + 1, 1, none⟩ = some (.int .i64 b)) (first | exact SX.out _ K6.out | exact SX.out _ G7.out.2.2.2 | exact SX.out _ K8.out) (first | (go_at_call 54; refine (I2.out _ (KK.out.later H6.out.2.1 (below_dr (Below.refl _ _)))).mono ?_; rintro e w7 ⟨vd, rfl, hi7, hs7, hk7⟩; have G7 : Hid (_ ∧ _ ∧ _ ∧ _) := H7.out w7 vd hi7 hs7 hk7; clear hi7 hs7 hk7) | (go_at_call 89; refine (AC.out _ _ _ (KV.out.trans G7.out.2.2.2).size G7.out.1 G7.out.2.1 (KK.out.tab G7.out.2.2.1)).mono ?_; rintro e w8 ⟨v8, rfl, hi8, hb8⟩; have K8 : Hid (Kp F V w8) := G7.out.2.2.2.trans (Kp.of_below hb8)))
          have FIN : Hid (IsP w.heap.size w8 v8 G.1 ∧ St G.2 w8 ∧ Kp F w w8) := by
            rw [HGE.out]
            exact ⟨hi8, KK.out.later G7.out.2.2.1 hb8, KV.out.trans K8.out⟩
          clear hi8 hb8
          go_wp2
          go_ret
          exact ⟨_, rfl, FIN.out⟩
        · have h3 : lk a b ≠ 2 := fun e => hd.1 e ⟨rfl, hrk⟩
          clear hd
          have hgo : Hid (P x a b ∧ lk a b ≠ 1) := ⟨hP, h1⟩
          have HGE : Hid (gw (HH wd) lk lf hs x a b = _) := gw_right h1 h3 h2
          have HPP : Hid (_ ∧ _) := KK.out.right hab hP h1 h3 h2
          rw [HG.out] at HGE
          obtain ⟨k, HK⟩ : ∃ k, Hid (a + half (b - a) = k) := ⟨_, rfl⟩
          have hk : a < k ∧ k < b := by rw [← HK.out]; omega
          rw [HK.out] at HVC HGE HPP
          rw [HK.out] at hrk
          have KR : Hid (∀ w', St x w' → Calls _ _ _ _ _) := fun w' h => KK.out.knows x k b a b w' hP (by omega) hk.2 (Nat.le_refl _) h
          rw [show decide (lk k b ≠ 1) = true by simp [hrk]] at KR
          obtain ⟨A, HAA⟩ : ∃ A, Hid (gw (HH wd) lk lf hs x k b = A) := ⟨_, rfl⟩
          rw [HAA.out] at HGE HPP
          obtain ⟨D, HDD⟩ : ∃ D, Hid (gw (HH wd) lk lf hs A.2 a k = D) := ⟨_, rfl⟩
          rw [HDD.out] at HGE
          have I1 : Hid (∀ w', St x w' → Calls _ _ _ _ _) := fun w' h => IH.out (b - k) (by omega) k b x w' rfl (by omega) HPP.out.1 h
          have I2 : Hid (∀ w', St A.2 w' → Calls _ _ _ _ _) := fun w' h => IH.out (k - a) (by omega) a k A.2 w' rfl (by omega) HPP.out.2 h
          have ZA : Hid (A.1.sum.size ≤ 32) := by show _ ≤ _; rw [← HAA.out]; exact KK.out.sum HPP.out.1
          have ZD : Hid (D.1.sum.size ≤ 32) := by show _ ≤ _; rw [← HDD.out]; exact KK.out.sum HPP.out.2
          rw [HAA.out] at I1
          rw [HDD.out] at I2
          have AC : Hid (∀ w' vl vr, w.heap.size ≤ w'.heap.size → IsP w.heap.size w' vl D.1 → IsP w.heap.size w' vr A.1 → Tab w' → Calls _ _ _ _ _) := fun w' vl vr h0 h1 h2 h3 => aboveC w.heap.size wd (.func (.func kg) kb kc) (lv) (.func (.func hg) hb hc) true vl vr D.1 A.1 w' h0 h1 h2 ZD.out ZA.out h3
          clear K hP h1 h2 h3 hab hbb HP HG hk ZA ZD hrk
          go_enter Tryz.func54, Tryz.ntmps54
          go_wp2_with fail
          rw [← HW.out]
          refine KN.out.mono ?_
          rintro e w3 ⟨rfl, hb3⟩
          have B3 : Hid (Below W.heap.size W w3) := hb3
          obtain ⟨s0, s1⟩ := HFC.out.2.keep (Kp.of_below (A := no) hb3) (fun e => e)
          clear hb3
          go_wp2_with fail
          refine (LF'.out _).mono ?_
          rintro e w4 ⟨rfl, hb4⟩
          have B4 : Hid (Below W.heap.size W w4) := over B3.out hb4
          clear hb4 s0 s1
          obtain ⟨s0, s1⟩ := HFC.out.2.keep (Kp.of_below (A := no) B4.out) (fun e => e)
          go_wp2_with fail
          refine (HVC.out _).mono ?_
          rintro e w5 ⟨rfl, hb5⟩
          have B5 : Hid (Below W.heap.size W w5) := over B4.out hb5
          clear hb5 s0 s1
          obtain ⟨V, HV⟩ : ∃ V, Hid (V = (w5.alloc (.cells #[.int .i64 a, .int .i64 k] 43)).alloc (.cells #[.int .i64 k, .int .i64 b] 43)) := ⟨_, rfl⟩
          obtain ⟨v1, v2, v3⟩ := box2 w5 a k k b 43 43 V HV.out
          have BV : Hid (Below W.heap.size W V) := over B5.out v1
          have KV : Hid (Kp F w V) := Kp.of_below (over BW.out BV.out)
          have SV : Hid (St x V) := KK.out.later SW.out BV.out
          have z5 : w.heap.size + 2 ≤ w5.heap.size := by have := B5.out.size; have := WZ.out; omega
          have HCC : Hid (FC V w.heap.size wd (.func (.func kg) kb kc) true (lv) (.func (.func hg) hb hc) ∧ SC V w5.heap.size a k ∧ SC V (w5.heap.size + 1) k b) := ⟨HFC.out.1.keep (Kp.of_below (A := no) BV.out) (fun e => e), v2, v3⟩
          have HN : Hid (¬ F w.heap.size ∧ ¬ F w5.heap.size ∧ ¬ F (w5.heap.size + 1)) := ⟨fun h => by have := HF.out _ h; omega, fun h => by have := HF.out _ h; omega, fun h => by have := HF.out _ h; omega⟩
          have CALL : Hid (∀ w', Kp F V w' → FC w' w.heap.size wd (.func (.func kg) kb kc) true (lv) (.func (.func hg) hb hc) ∧ SC w' w5.heap.size a k ∧ SC w' (w5.heap.size + 1) k b) := fun w' h => ⟨HCC.out.1.keep h HN.out.1, HCC.out.2.1.keep h HN.out.2.1, HCC.out.2.2.keep h HN.out.2.2⟩
          clear v1 v2 v3 z5
          obtain ⟨⟨c0, c1, c2, c3, c4⟩, ⟨p0, p1⟩, r0, r1⟩ := HCC.out
          have hv5 : (w5.alloc (.cells #[.int .i64 a, .int .i64 k] 43)).alloc (.cells #[.int .i64 k, .int .i64 b] 43) = V := HV.out.symm
          go_wp2_with (rw [hv5])
          refine (KR.out _ SV.out).mono ?_
          rintro e u5 ⟨rfl, hbu⟩
          have SU : Hid (St x u5 ∧ Kp F V u5) := ⟨KK.out.later SV.out hbu, Kp.of_below hbu⟩
          clear hbu c0 c1 c2 c3 c4 p0 p1 r0 r1
          obtain ⟨⟨c0, c1, c2, c3, c4⟩, ⟨p0, p1⟩, r0, r1⟩ := CALL.out u5 SU.out.2
          go_wp2_with fail
          refine (I1.out _ SU.out.1).mono ?_
          rintro e w6 ⟨va, rfl, hi6, hs6, hk6⟩
          have H6 : Hid (IsP w.heap.size w6 va A.1 ∧ St A.2 w6 ∧ Kp F V w6) := ⟨hi6.mono (KV.out.trans SU.out.2).size, hs6, SU.out.2.trans hk6⟩
          have H7 : Hid (∀ w7 vd, IsP w6.drew.heap.size w7 vd D.1 → St D.2 w7 → Kp F w6.drew w7 → IsP w.heap.size w7 va A.1 ∧ IsP w.heap.size w7 vd D.1 ∧ St D.2 w7 ∧ Kp F V w7) := fun w7 vd h1 h2 h3 => ⟨(H6.out.1.later (below_dr (Below.refl _ _))).keep h3 HF.out, h1.mono (KV.out.trans H6.out.2.2).size, h2, (H6.out.2.2.trans (Kp.of_below (below_dr (Below.refl _ _)))).trans h3⟩
          have SX : Hid (∀ w', Kp F V w' → Kp F V w' ∧ w'.cell? ⟨w.heap.size, 0, none⟩ = some (.int .i64 wd) ∧ w'.cell? ⟨w.heap.size, 1, none⟩ = some (.func (.func kg) kb kc) ∧ w'.cell? ⟨w.heap.size, 2, none⟩ = some (.bool true) ∧ w'.cell? ⟨w.heap.size, 3, none⟩ = some (lv) ∧ w'.cell? ⟨w.heap.size, 4, none⟩ = some (.func (.func hg) hb hc) ∧ w'.cell? ⟨w5.heap.size, 0, none⟩ = some (.int .i64 a) ∧ w'.cell? ⟨w5.heap.size, 1, none⟩ = some (.int .i64 k)) := fun w' h => by
            obtain ⟨⟨a0, a1, a2, a3, a4⟩, ⟨q0, q1⟩, t0, t1⟩ := CALL.out w' h
            exact ⟨h, a0, a1, a2, a3, a4, q0, q1⟩
          have K6 : Hid (Kp F V w6.drew) := H6.out.2.2.trans (Kp.of_below (below_dr (Below.refl _ _)))
          clear hi6 hs6 hk6 c0 c1 c2 c3 c4 p0 p1 r0 r1
          obtain ⟨⟨c0, c1, c2, c3, c4⟩, ⟨p0, p1⟩, r0, r1⟩ := CALL.out w6 H6.out.2.2
          go_wp2_with fail
          go_region_held3 (fun w' => Kp F V w' ∧ w'.cell? ⟨w.heap.size, 0, none⟩ = some (.int .i64 wd) ∧ w'.cell? ⟨w.heap.size, 1, none⟩ = some (.func (.func kg) kb kc) ∧ w'.cell? ⟨w.heap.size, 2, none⟩ = some (.bool true) ∧ w'.cell? ⟨w.heap.size, 3, none⟩ = some (lv) ∧ w'.cell? ⟨w.heap.size, 4, none⟩ = some (.func (.func hg) hb hc) ∧ w'.cell? ⟨w5.heap.size, 0, none⟩ = some (.int .i64 a) ∧ w'.cell? ⟨w5.heap.size, 1, none⟩ = some (.int .i64 k)) (first | exact SX.out _ K6.out | exact SX.out _ G7.out.2.2.2 | exact SX.out _ K8.out) (first | (go_at_call 54; refine (I2.out _ (KK.out.later H6.out.2.1 (below_dr (Below.refl _ _)))).mono ?_; rintro e w7 ⟨vd, rfl, hi7, hs7, hk7⟩; have G7 : Hid (_ ∧ _ ∧ _ ∧ _) := H7.out w7 vd hi7 hs7 hk7; clear hi7 hs7 hk7) | (go_at_call 89; refine (AC.out _ _ _ (KV.out.trans G7.out.2.2.2).size G7.out.2.1 G7.out.1 (KK.out.tab G7.out.2.2.1)).mono ?_; rintro e w8 ⟨v8, rfl, hi8, hb8⟩; have K8 : Hid (Kp F V w8) := G7.out.2.2.2.trans (Kp.of_below hb8)))
          have FIN : Hid (IsP w.heap.size w8 v8 G.1 ∧ St G.2 w8 ∧ Kp F w w8) := by
            rw [HGE.out]
            exact ⟨hi8, KK.out.later G7.out.2.2.1 hb8, KV.out.trans K8.out⟩
          clear hi8 hb8
          go_wp2
          go_ret
          exact ⟨_, rfl, FIN.out⟩
    · have hl1 : b - a = 1 := by omega
      rw [decide_eq_true hl1] at LF'
      obtain ⟨lg, lb, lc, hlv, el, lcc⟩ := KK.out.leaf x a b hl1 hP h1
      subst hlv
      have LC : Hid (∀ w', St x w' → Calls _ _ _ _ _) := lcc
      clear lcc
      have TC : Hid (∀ w', Tab w' → Calls _ _ _ _ _) := fun w' h => pLeaf wd (lf a) (KK.out.lsz hl1 hP h1) w' h
      have HN : Hid (LF wd (lf a) = HH wd (tx0 (lf a))) := rfl
      rw [HN.out] at TC
      have HGE : Hid (G = (.leaf (HH wd (tx0 (lf a))) (lf a), x)) := HG.out.symm.trans (gw_leaf h1 h2)
      obtain ⟨y, HY⟩ : ∃ y, Hid (HH wd (tx0 (lf a)) = y) := ⟨_, rfl⟩
      rw [HY.out] at TC HGE
      obtain ⟨z, HZ⟩ : ∃ z, Hid (lf a = z) := ⟨_, rfl⟩
      rw [HZ.out] at TC HGE LC
      clear K hP h1 h2 hl1 hab hbb IH HP HG HN
      go_enter Tryz.func54, Tryz.ntmps54
      go_wp2_with fail
      rw [← HW.out]
      refine KN.out.mono ?_
      rintro e w3 ⟨rfl, hb3⟩
      have B3 : Hid (Below W.heap.size W w3) := hb3
      obtain ⟨s0, s1⟩ := HFC.out.2.keep (Kp.of_below (A := no) hb3) (fun e => e)
      clear hb3
      go_wp2_with fail
      refine (LF'.out _).mono ?_
      rintro e w4 ⟨rfl, hb4⟩
      have B4 : Hid (Below W.heap.size W w4) := over B3.out hb4
      clear hb4 s0 s1
      obtain ⟨⟨c0, c1, c2, c3, c4⟩, s0, s1⟩ := And.intro (HFC.out.1.keep (Kp.of_below (A := no) B4.out) (fun e => e)) (HFC.out.2.keep (Kp.of_below (A := no) B4.out) (fun e => e))
      go_wp2_with fail
      refine (LC.out _ (KK.out.later SW.out B4.out)).mono ?_
      rintro e w5 ⟨rfl, hb5⟩
      have B5 : Hid (Below W.heap.size W w5) := over B4.out hb5
      clear hb5 c0 c1 c2 c3 c4 s0 s1
      obtain ⟨c0, c1, c2, c3, c4⟩ := HFC.out.1.keep (Kp.of_below (A := no) B5.out) (fun e => e)
      go_wp2_with fail
      refine (TC.out _ (KK.out.tab (KK.out.later SW.out B5.out))).mono ?_
      rintro e w6 ⟨rfl, hb6⟩
      have B6 : Hid (Below W.heap.size W w6) := over B5.out hb6
      clear hb6 c0 c1 c2 c3 c4
      have FIN : Hid (∀ w7, w7 = w6.alloc (.cells #[.string y, .string z, .nilIface, .nilIface] 131) → IsP w.heap.size w7 (.iface 125 (.pointer (some ⟨w6.heap.size, 0, none⟩))) G.1 ∧ St G.2 w7 ∧ Kp F w w7) := fun w7 h7 => by
        have b7 : Below w6.heap.size w6 w7 := by rw [h7]; exact (Below.refl _ _).alloc (Nat.le_refl _) _
        have b := over BW.out (over B6.out b7)
        rw [HGE.out]
        exact ⟨leaf_is (over BW.out B6.out).size h7, KK.out.later SW.out (over B6.out b7), Kp.of_below b⟩
      go_wp2
      go_ret
      exact ⟨_, rfl, FIN.out _ rfl⟩
end
end Go.Proofs.YthppkdjekfginaaGreatDoor.uj
