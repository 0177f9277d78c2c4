import Derived.Test.YtglffbhcnafbnaaDoorBe
namespace Go.Proofs.YtglffbhcnafbnaaDoor.bg
open Go.RowKit Go.PlainAid
open Go.Proofs.YtglffbhcnafbnaaDoor.pl Go.Proofs.YtglffbhcnafbnaaDoor.pi Go.Proofs.YtglffbhcnafbnaaDoor.rf Go.Proofs.YtglffbhcnafbnaaDoor.pj Go.Proofs.YtglffbhcnafbnaaDoor.ca Go.Proofs.YtglffbhcnafbnaaDoor.cb Go.Proofs.YtglffbhcnafbnaaDoor.cp Go.Proofs.YtglffbhcnafbnaaDoor.cs Go.Proofs.YtglffbhcnafbnaaDoor.ct Go.Proofs.YtglffbhcnafbnaaDoor.ka Go.Proofs.YtglffbhcnafbnaaDoor.kb Go.Proofs.YtglffbhcnafbnaaDoor.ga Go.Proofs.YtglffbhcnafbnaaDoor.aa Go.Proofs.YtglffbhcnafbnaaDoor.ab Go.Proofs.YtglffbhcnafbnaaDoor.tb Go.Proofs.YtglffbhcnafbnaaDoor.ac Go.Proofs.YtglffbhcnafbnaaDoor.ba Go.Proofs.YtglffbhcnafbnaaDoor.bb Go.Proofs.YtglffbhcnafbnaaDoor.bc Go.Proofs.YtglffbhcnafbnaaDoor.bd Go.Proofs.YtglffbhcnafbnaaDoor.be
set_option linter.unusedVariables false

-- what a walk does at a part
structure Lk (lg : Nat) (lv : Array Value) (lk : Nat → Nat → Nat) (P : World → Prop) : Prop where
  enter : ∀ args w, (callFunc lg args).run Tryd.prog w = .ok (.enter lg args) w
  call : ∀ (a b : Nat) (w : World), a < b → b ≤ 4611686018427387904 → P w → Calls Tryd.prog lg (#[.agg #[.int .i64 a, .int .i64 b]] ++ lv) w fun e w' => e = .returned (.int .i64 (lk a b : Nat)) ∧ Below w.heap.size w w'
  wide : ∀ a b, a < b → 2 ≤ lk a b → 2 ≤ b - a
  four : ∀ a b, lk a b ≤ 3
section
variable {g : Nat} {fb lb : Array Value} {ask : Nat → Nat × Nat → ByteArray × Int} {J : (Nat → Prop) → List (Nat × Nat) → World → Prop} {N : Nat} {D : Nat → Prop} {lg : Nat} {lv : Array Value} {lk : Nat → Nat → Nat} {P : World → Prop}
def Walked (R : Rd g fb lb ask J N D) (wd sz : Int) (F0 : Nat → Prop) (w0 : World) (rb pb base : Nat) (acc : List ByteArray) (F : Nat → Prop) (u : Value) (w : World) (t : List ByteArray × Int × List (Nat × Nat)) (e : Ending) (w' : World) : Prop :=
  e = .returned (.int .i64 t.2.1) ∧ ∃ F' u' acc', Gs R wd sz F0 w0 rb pb base acc' t.2.2 F' u' w' ∧ (t.2.1 = 0 → acc' = acc ++ t.1) ∧ Goes (At pb F u) w (At pb F' u') w'
theorem two_box (w : World) (x y x' y' : Value) (t t' : TypeId) : ((w.alloc (.cells #[x, y] t)).alloc (.cells #[x', y'] t')).cell? ⟨w.heap.size, 0, none⟩ = some x ∧ ((w.alloc (.cells #[x, y] t)).alloc (.cells #[x', y'] t')).cell? ⟨w.heap.size, 1, none⟩ = some y ∧ ((w.alloc (.cells #[x, y] t)).alloc (.cells #[x', y'] t')).cell? ⟨w.heap.size + 1, 0, none⟩ = some x' ∧ ((w.alloc (.cells #[x, y] t)).alloc (.cells #[x', y'] t')).cell? ⟨w.heap.size + 1, 1, none⟩ = some y' := by
  have s1 : (w.alloc (.cells #[x, y] t)).heap.size = w.heap.size + 1 := by simp
  have B : Below (w.alloc (.cells #[x, y] t)).heap.size (w.alloc (.cells #[x, y] t)) ((w.alloc (.cells #[x, y] t)).alloc (.cells #[x', y'] t')) := (Below.refl _ _).alloc (Nat.le_refl _) _
  refine ⟨?_, ?_, ?_, ?_⟩
  · refine (B.cell (p := ⟨w.heap.size, 0, none⟩) (by show w.heap.size < _; rw [s1]; omega)).trans ?_
    rw [World.cell?_alloc_at _ _ _ _ rfl]; rfl
  · refine (B.cell (p := ⟨w.heap.size, 1, none⟩) (by show w.heap.size < _; rw [s1]; omega)).trans ?_
    rw [World.cell?_alloc_at _ _ _ _ rfl]; rfl
  · rw [← s1, World.cell?_alloc_at _ _ _ _ rfl]; rfl
  · rw [← s1, World.cell?_alloc_at _ _ _ _ rfl]; rfl
set_option maxHeartbeats 6400000 in
theorem walkC (R : Rd g fb lb ask J N D) (LK : Lk lg lv lk P) (wd sz : Int) (hwd : i64 wd) (F0 : Nat → Prop) (w0 : World) (rb pb base : Nat) (HP : ∀ F wr, Goes F0 w0 F wr → P wr) (n : Nat) : ∀ (a b : Nat) (acc : List ByteArray) (l : List (Nat × Nat)) (F : Nat → Prop) (u : Value) (w : World), b - a = n → a < b → b ≤ 4611686018427387904 →
    l.length + 122 * (WL lk a b).length ≤ N → acc.length + (WL lk a b).length ≤ 1000000 → Gs R wd sz F0 w0 rb pb base acc l F u w →
    Calls Tryd.prog 68 #[.agg #[.int .i64 a, .int .i64 b], .func (.func lg) #[] lv, .func (.func 67) #[] #[.pointer (some ⟨rb, 0, none⟩), .pointer (some ⟨pb, 0, none⟩)]] w (Walked R wd sz F0 w0 rb pb base acc F u w (told (okw wd) (fow wd) ask l (WL lk a b))) := by
  induction n using Nat.strongRecOn with
  | ind n ih =>
    intro a b acc l F u w hn hab hb hN hm hG
    have IH : Hid (∀ (a' b' : Nat), b' - a' < n → a' < b' → b' ≤ 4611686018427387904 → ∀ (acc : List ByteArray) (l : List (Nat × Nat)) (F : Nat → Prop) (u : Value) (w : World), l.length + 122 * (WL lk a' b').length ≤ N → acc.length + (WL lk a' b').length ≤ 1000000 → Gs R wd sz F0 w0 rb pb base acc l F u w →
      Calls Tryd.prog 68 #[.agg #[.int .i64 a', .int .i64 b'], .func (.func lg) #[] lv, .func (.func 67) #[] #[.pointer (some ⟨rb, 0, none⟩), .pointer (some ⟨pb, 0, none⟩)]] w (Walked R wd sz F0 w0 rb pb base acc F u w (told (okw wd) (fow wd) ask l (WL lk a' b')))) := fun a' b' h1 h2 h3 acc l F u w => ih (b' - a') h1 a' b' acc l F u w rfl h2 h3
    have RR : Hid (Rd g fb lb ask J N D) := R
    have eg := LK.enter
    have BA : Hid (Below w.heap.size w (w.alloc (.cells #[.int .i64 a, .int .i64 b] 63))) := (Below.refl _ _).alloc (Nat.le_refl _) _
    have HA : Hid (Gs R wd sz F0 w0 rb pb base acc l F u (w.alloc (.cells #[.int .i64 a, .int .i64 b] 63))) := hG.later BA.out
    have LC : Hid (Calls _ _ _ _ _) := LK.call a b (w.alloc (.cells #[.int .i64 a, .int .i64 b] 63)) hab hb (HP _ _ HA.out.go)
    have hwide := LK.wide a b hab
    have hfour := LK.four a b
    have HBX : Hid (Bx (w.alloc (.cells #[.int .i64 a, .int .i64 b] 63)) w.heap.size a b) := ⟨by rw [World.cell?_alloc_at _ _ _ _ rfl]; rfl, by rw [World.cell?_alloc_at _ _ _ _ rfl]; rfl⟩
    obtain ⟨s, HS⟩ : ∃ s, Hid (lk a b = s) := ⟨_, rfl⟩
    obtain ⟨T, HTT⟩ : ∃ T, Hid (told (okw wd) (fow wd) ask l (WL lk a b) = T) := ⟨_, rfl⟩
    rw [HTT.out]
    rw [HS.out] at LC hwide hfour
    clear ih hG LK
    rcases (show s = 0 ∨ s = 1 ∨ s = 2 ∨ s = 3 by omega) with rfl | rfl | rfl | rfl
    · have HT : Hid (T = ([], 0, l)) := by show _ = _; rw [← HTT.out, WL_pass HS.out]; rfl
      clear hwide hfour hN hm
      go_enter Tryd.func68, Tryd.ntmps68
      go_wp2_with fail
      refine LC.out.mono ?_
      rintro e w1 ⟨rfl, hb1⟩
      have B1 : Hid (Below (w.alloc (.cells #[.int .i64 a, .int .i64 b] 63)).heap.size (w.alloc (.cells #[.int .i64 a, .int .i64 b] 63)) w1) := hb1
      clear hb1
      go_wp2
      go_ret
      rw [HT.out]
      exact ⟨rfl, F, u, acc, HA.out.later B1.out, fun _ => (List.append_nil _).symm, Goes.of_below (over BA.out B1.out)⟩
    · have hl1 : (WL lk a b).length = 1 := by rw [WL_take HS.out]; rfl
      rw [hl1] at hN hm
      have PC : Hid (∀ w', Gs R wd sz F0 w0 rb pb base acc l F u w' → Calls _ _ _ _ _) := fun w' h => put R wd sz hwd F0 w0 rb pb base acc l F u a b (by omega) hb (by omega) (by omega) w' h
      obtain ⟨q, HQ⟩ : ∃ q, Hid (hashP (okw wd) (fow wd) ask l (a, b) = q) := ⟨_, rfl⟩
      have HT : Hid (T = if q.2.1 = 0 then ([q.1], 0, q.2.2) else ([], q.2)) := by
        show _ = _
        rw [← HTT.out, WL_take HS.out, ← HQ.out]
        by_cases h : (hashP (okw wd) (fow wd) ask l (a, b)).2.1 = 0
        · rw [told_yes _ _ _ h, if_pos h]; rfl
        · rw [told_no _ _ _ h, if_neg h]
      rw [HQ.out] at PC
      clear hwide hfour hN hm hl1
      go_enter Tryd.func68, Tryd.ntmps68
      go_wp2_with fail
      refine LC.out.mono ?_
      rintro e w1 ⟨rfl, hb1⟩
      have G1 : Hid (Gs R wd sz F0 w0 rb pb base acc l F u w1) := HA.out.later hb1
      have L1 : Hid (Below w.heap.size w w1) := over BA.out hb1
      obtain ⟨c1, c2⟩ := HBX.out.later hb1
      clear hb1
      go_wp2_with fail
      refine (PC.out _ G1.out).mono ?_
      rintro e w2 ⟨rfl, F2, u2, hg2, ha2⟩
      have G2 : Hid (Gs R wd sz F0 w0 rb pb base (acc ++ [q.1]) q.2.2 F2 u2 w2 ∧ Goes (At pb F u) w (At pb F2 u2) w2) := ⟨hg2, (Goes.of_below L1.out).trans ha2⟩
      clear hg2 ha2 c1 c2
      go_wp2
      go_ret
      rw [HT.out]
      by_cases h : q.2.1 = 0
      · rw [if_pos h]; exact ⟨by rw [← h]; rfl, F2, u2, _, G2.out.1, fun _ => rfl, G2.out.2⟩
      · rw [if_neg h]; exact ⟨rfl, F2, u2, _, G2.out.1, fun z => absurd z h, G2.out.2⟩
    · have h2 := hwide (by omega)
      have hh := half_lt h2
      have HC : Hid (∀ w, Calls _ _ _ _ _) := fun w => halves a b h2 hb w
      have HWL : Hid (WL lk a b = WL lk a (a + half (b - a)) ++ WL lk (a + half (b - a)) b) := WL_left HS.out h2
      obtain ⟨k, HK⟩ : ∃ k, Hid (a + half (b - a) = k) := ⟨_, rfl⟩
      have hk : a < k ∧ k < b := by rw [← HK.out]; omega
      rw [HK.out] at HC HWL
      unfold pv at HC
      have hlen : (WL lk a b).length = (WL lk a k).length + (WL lk k b).length := by rw [HWL.out, List.length_append]
      rw [hlen] at hN hm
      obtain ⟨TA, HTA⟩ : ∃ TA, Hid (told (okw wd) (fow wd) ask l (WL lk a k) = TA) := ⟨_, rfl⟩
      have hsz := told_size (okw wd) (fow wd) ask (WL lk a k) l (fun p hp => by have := WL_in lk (k - a) a k rfl (by omega) p hp; omega)
      rw [HTA.out] at hsz
      have I1 : Hid (∀ w', Gs R wd sz F0 w0 rb pb base acc l F u w' → Calls _ _ _ _ _) := fun w' h => IH.out a k (by omega) hk.1 (by omega) acc l F u w' (by omega) (by omega) h
      rw [HTA.out] at I1
      have HTno : Hid (TA.2.1 ≠ 0 → T = TA) := fun h => by
        rw [← HTT.out, HWL.out, told_app_no _ _ _ _ _ _ (by rw [HTA.out]; exact h), HTA.out]
      have HTyes : Hid (TA.2.1 = 0 → T = (TA.1 ++ (told (okw wd) (fow wd) ask TA.2.2 (WL lk k b)).1, (told (okw wd) (fow wd) ask TA.2.2 (WL lk k b)).2)) := fun h => by
        rw [← HTT.out, HWL.out, told_app_yes _ _ _ _ _ _ (by rw [HTA.out]; exact h), HTA.out]
      have I2 : Hid (∀ acc' F' u' w', acc'.length ≤ acc.length + (WL lk a k).length → Gs R wd sz F0 w0 rb pb base acc' TA.2.2 F' u' w' → Calls _ _ _ _ _) := fun acc' F' u' w' hl h => IH.out k b (by omega) hk.2 hb acc' TA.2.2 F' u' w' (by omega) (by omega) h
      obtain ⟨TB', HTB⟩ : ∃ TB', Hid (told (okw wd) (fow wd) ask TA.2.2 (WL lk k b) = TB') := ⟨_, rfl⟩
      rw [HTB.out] at I2 HTyes
      obtain ⟨ta, tc, tl⟩ := TA
      have HSZ : Hid (ta.length ≤ (WL lk a k).length) := hsz.2
      clear hwide hfour hN hm hlen hsz h2 hh HK HS
      go_enter Tryd.func68, Tryd.ntmps68
      go_wp2_with fail
      refine LC.out.mono ?_
      rintro e w1 ⟨rfl, hb1⟩
      have G1 : Hid (Gs R wd sz F0 w0 rb pb base acc l F u w1) := HA.out.later hb1
      have L1 : Hid (Below w.heap.size w w1) := over BA.out hb1
      obtain ⟨c1, c2⟩ := HBX.out.later hb1
      clear hb1
      go_wp2_with fail
      refine (HC.out _).mono ?_
      rintro e w2 ⟨rfl, hb2⟩
      have B3 : Hid (Below w2.heap.size w2 ((w2.alloc (.cells #[.int .i64 a, .int .i64 k] 63)).alloc (.cells #[.int .i64 k, .int .i64 b] 63))) := ((Below.refl _ _).alloc (Nat.le_refl _) _).alloc (by simp) _
      have G3 : Hid (Gs R wd sz F0 w0 rb pb base acc l F u ((w2.alloc (.cells #[.int .i64 a, .int .i64 k] 63)).alloc (.cells #[.int .i64 k, .int .i64 b] 63))) := (G1.out.later hb2).later B3.out
      have L3 : Hid (Below w.heap.size w ((w2.alloc (.cells #[.int .i64 a, .int .i64 k] 63)).alloc (.cells #[.int .i64 k, .int .i64 b] 63))) := over (over L1.out hb2) B3.out
      have HN : Hid (¬ At pb F u (w2.heap.size + 1)) := fun h => by
        have := (G1.out.later hb2).lt _ h
        omega
      have HBB : Hid (_ ∧ _ ∧ _ ∧ _) := two_box w2 (.int .i64 a) (.int .i64 k) (.int .i64 k) (.int .i64 b) 63 63
      clear hb2 c1 c2
      go_wp2_with fail
      refine (I1.out _ G3.out).mono ?_
      rintro e w4 ⟨rfl, F4, u4, acc4, hg4, ha4, hG4⟩
      have G4 : Hid (Gs R wd sz F0 w0 rb pb base acc4 tl F4 u4 w4) := hg4
      have L4 : Hid (Goes (At pb F u) w (At pb F4 u4) w4) := (Goes.of_below L3.out).trans hG4
      have c3 := hG4.cell HBB.out.2.2.1 HN.out
      have c4 := hG4.cell HBB.out.2.2.2 HN.out
      have HA4 : Hid (tc = 0 → acc4 = acc ++ ta) := ha4
      clear hg4 ha4 hG4 HBB HN
      by_cases hc : tc = 0
      · have HAC := HA4.out hc
        have HY := HTyes.out hc
        subst hc
        have HY' : Hid (T = (ta ++ TB'.1, TB'.2)) := HY
        have HAC' : Hid (acc4 = acc ++ ta) := HAC
        clear HAC HY HTyes HTno
        go_wp2_with fail
        refine (I2.out acc4 F4 u4 _ (by rw [HAC'.out, List.length_append]; have := HSZ.out; omega) G4.out).mono ?_
        rintro e w5 ⟨rfl, F5, u5, acc5, hg5, ha5, hG5⟩
        have G5 : Hid (Gs R wd sz F0 w0 rb pb base acc5 TB'.2.2 F5 u5 w5 ∧ (TB'.2.1 = 0 → acc5 = acc4 ++ TB'.1) ∧ Goes (At pb F u) w (At pb F5 u5) w5) := ⟨hg5, ha5, L4.out.trans hG5⟩
        clear hg5 ha5 hG5 c3 c4
        go_wp2
        go_ret
        rw [HY'.out]
        exact ⟨rfl, F5, u5, acc5, G5.out.1, fun h => by rw [G5.out.2.1 h, HAC'.out, List.append_assoc], G5.out.2.2⟩
      · have q0 : (tc == 0) = false := by rw [beq_eq_false_iff_ne]; exact hc
        have HY : Hid (T = (ta, tc, tl)) := HTno.out hc
        have HC0 : Hid (tc ≠ 0) := hc
        clear hc HTyes HTno
        go_wp2
        go_ret
        rw [HY.out]
        exact ⟨rfl, F4, u4, acc4, G4.out, fun h => absurd h HC0.out, L4.out⟩
    · have h2 := hwide (by omega)
      have hh := half_lt h2
      have HC : Hid (∀ w, Calls _ _ _ _ _) := fun w => halves a b h2 hb w
      have HWL : Hid (WL lk a b = WL lk (a + half (b - a)) b ++ WL lk a (a + half (b - a))) := WL_right (by rw [HS.out]; exact Nat.le_refl _) h2
      obtain ⟨k, HK⟩ : ∃ k, Hid (a + half (b - a) = k) := ⟨_, rfl⟩
      have hk : a < k ∧ k < b := by rw [← HK.out]; omega
      rw [HK.out] at HC HWL
      unfold pv at HC
      have hlen : (WL lk a b).length = (WL lk k b).length + (WL lk a k).length := by rw [HWL.out, List.length_append]
      rw [hlen] at hN hm
      obtain ⟨TA, HTA⟩ : ∃ TA, Hid (told (okw wd) (fow wd) ask l (WL lk k b) = TA) := ⟨_, rfl⟩
      have hsz := told_size (okw wd) (fow wd) ask (WL lk k b) l (fun p hp => by have := WL_in lk (b - k) k b rfl (by omega) p hp; omega)
      rw [HTA.out] at hsz
      have I1 : Hid (∀ w', Gs R wd sz F0 w0 rb pb base acc l F u w' → Calls _ _ _ _ _) := fun w' h => IH.out k b (by omega) hk.2 (by omega) acc l F u w' (by omega) (by omega) h
      rw [HTA.out] at I1
      have HTno : Hid (TA.2.1 ≠ 0 → T = TA) := fun h => by
        rw [← HTT.out, HWL.out, told_app_no _ _ _ _ _ _ (by rw [HTA.out]; exact h), HTA.out]
      have HTyes : Hid (TA.2.1 = 0 → T = (TA.1 ++ (told (okw wd) (fow wd) ask TA.2.2 (WL lk a k)).1, (told (okw wd) (fow wd) ask TA.2.2 (WL lk a k)).2)) := fun h => by
        rw [← HTT.out, HWL.out, told_app_yes _ _ _ _ _ _ (by rw [HTA.out]; exact h), HTA.out]
      have I2 : Hid (∀ acc' F' u' w', acc'.length ≤ acc.length + (WL lk k b).length → Gs R wd sz F0 w0 rb pb base acc' TA.2.2 F' u' w' → Calls _ _ _ _ _) := fun acc' F' u' w' hl h => IH.out a k (by omega) hk.1 (by omega) acc' TA.2.2 F' u' w' (by omega) (by omega) h
      obtain ⟨TB', HTB⟩ : ∃ TB', Hid (told (okw wd) (fow wd) ask TA.2.2 (WL lk a k) = TB') := ⟨_, rfl⟩
      rw [HTB.out] at I2 HTyes
      obtain ⟨ta, tc, tl⟩ := TA
      have HSZ : Hid (ta.length ≤ (WL lk k b).length) := hsz.2
      clear hwide hfour hN hm hlen hsz h2 hh HK HS
      go_enter Tryd.func68, Tryd.ntmps68
      go_wp2_with fail
      refine LC.out.mono ?_
      rintro e w1 ⟨rfl, hb1⟩
      have G1 : Hid (Gs R wd sz F0 w0 rb pb base acc l F u w1) := HA.out.later hb1
      have L1 : Hid (Below w.heap.size w w1) := over BA.out hb1
      obtain ⟨c1, c2⟩ := HBX.out.later hb1
      clear hb1
      go_wp2_with fail
      refine (HC.out _).mono ?_
      rintro e w2 ⟨rfl, hb2⟩
      have B3 : Hid (Below w2.heap.size w2 ((w2.alloc (.cells #[.int .i64 k, .int .i64 b] 63)).alloc (.cells #[.int .i64 a, .int .i64 k] 63))) := ((Below.refl _ _).alloc (Nat.le_refl _) _).alloc (by simp) _
      have G3 : Hid (Gs R wd sz F0 w0 rb pb base acc l F u ((w2.alloc (.cells #[.int .i64 k, .int .i64 b] 63)).alloc (.cells #[.int .i64 a, .int .i64 k] 63))) := (G1.out.later hb2).later B3.out
      have L3 : Hid (Below w.heap.size w ((w2.alloc (.cells #[.int .i64 k, .int .i64 b] 63)).alloc (.cells #[.int .i64 a, .int .i64 k] 63))) := over (over L1.out hb2) B3.out
      have HN : Hid (¬ At pb F u (w2.heap.size + 1)) := fun h => by
        have := (G1.out.later hb2).lt _ h
        omega
      have HBB : Hid (_ ∧ _ ∧ _ ∧ _) := two_box w2 (.int .i64 k) (.int .i64 b) (.int .i64 a) (.int .i64 k) 63 63
      clear hb2 c1 c2
      go_wp2_with fail
      refine (I1.out _ G3.out).mono ?_
      rintro e w4 ⟨rfl, F4, u4, acc4, hg4, ha4, hG4⟩
      have G4 : Hid (Gs R wd sz F0 w0 rb pb base acc4 tl F4 u4 w4) := hg4
      have L4 : Hid (Goes (At pb F u) w (At pb F4 u4) w4) := (Goes.of_below L3.out).trans hG4
      have c3 := hG4.cell HBB.out.2.2.1 HN.out
      have c4 := hG4.cell HBB.out.2.2.2 HN.out
      have HA4 : Hid (tc = 0 → acc4 = acc ++ ta) := ha4
      clear hg4 ha4 hG4 HBB HN
      by_cases hc : tc = 0
      · have HAC := HA4.out hc
        have HY := HTyes.out hc
        subst hc
        have HY' : Hid (T = (ta ++ TB'.1, TB'.2)) := HY
        have HAC' : Hid (acc4 = acc ++ ta) := HAC
        clear HAC HY HTyes HTno
        go_wp2_with fail
        refine (I2.out acc4 F4 u4 _ (by rw [HAC'.out, List.length_append]; have := HSZ.out; omega) G4.out).mono ?_
        rintro e w5 ⟨rfl, F5, u5, acc5, hg5, ha5, hG5⟩
        have G5 : Hid (Gs R wd sz F0 w0 rb pb base acc5 TB'.2.2 F5 u5 w5 ∧ (TB'.2.1 = 0 → acc5 = acc4 ++ TB'.1) ∧ Goes (At pb F u) w (At pb F5 u5) w5) := ⟨hg5, ha5, L4.out.trans hG5⟩
        clear hg5 ha5 hG5 c3 c4
        go_wp2
        go_ret
        rw [HY'.out]
        exact ⟨rfl, F5, u5, acc5, G5.out.1, fun h => by rw [G5.out.2.1 h, HAC'.out, List.append_assoc], G5.out.2.2⟩
      · have q0 : (tc == 0) = false := by rw [beq_eq_false_iff_ne]; exact hc
        have HY : Hid (T = (ta, tc, tl)) := HTno.out hc
        have HC0 : Hid (tc ≠ 0) := hc
        clear hc HTyes HTno
        go_wp2
        go_ret
        rw [HY.out]
        exact ⟨rfl, F4, u4, acc4, G4.out, fun h => absurd h HC0.out, L4.out⟩
end
end Go.Proofs.YtglffbhcnafbnaaDoor.bg
