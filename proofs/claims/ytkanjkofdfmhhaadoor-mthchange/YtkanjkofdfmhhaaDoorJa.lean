import Derived.Test.YtkanjkofdfmhhaaDoorGz
namespace Go.Proofs.YtkanjkofdfmhhaaDoor.ja
open Go.RowKit Go.PlainAid
open Go.Proofs.YtkanjkofdfmhhaaDoor.pl Go.Proofs.YtkanjkofdfmhhaaDoor.pi Go.Proofs.YtkanjkofdfmhhaaDoor.pj Go.Proofs.YtkanjkofdfmhhaaDoor.rf Go.Proofs.YtkanjkofdfmhhaaDoor.ca Go.Proofs.YtkanjkofdfmhhaaDoor.cb Go.Proofs.YtkanjkofdfmhhaaDoor.cp Go.Proofs.YtkanjkofdfmhhaaDoor.ka Go.Proofs.YtkanjkofdfmhhaaDoor.kb Go.Proofs.YtkanjkofdfmhhaaDoor.kc Go.Proofs.YtkanjkofdfmhhaaDoor.ga Go.Proofs.YtkanjkofdfmhhaaDoor.gb Go.Proofs.YtkanjkofdfmhhaaDoor.gs Go.Proofs.YtkanjkofdfmhhaaDoor.gr Go.Proofs.YtkanjkofdfmhhaaDoor.gx Go.Proofs.YtkanjkofdfmhhaaDoor.gz
set_option linter.unusedVariables false

theorem fits_set {xs : List ByteArray} (h : Fits xs) (k : Nat) (x : ByteArray) (hx : x.size ≤ 140737488352000) : Fits (xs.set k x) := ⟨fun y hy => by
    rcases List.mem_or_eq_of_mem_set hy with h' | h'
    · exact h.each y h'
    · rw [h']; exact hx, by rw [List.length_set]; exact h.many⟩
set_option maxHeartbeats 1600000 in
set_option maxRecDepth 100000 in
theorem mth_change {T : World → Prop} (later : ∀ {w w' : World}, T w → Below w.heap.size w w' → T w') (tab : ∀ {w : World}, T w → Tab w) (RC : RootC T) (wd i : Int) (hwd : i64 wd) (hi : i64 i) (v : Value) (xs : List ByteArray) (leaf : ByteArray) (w : World) (hT : T w) (hR : ReadsT w v xs) (hno : ∀ k c, v = .slice none k c → c = 0) (hf : Fits xs) (hlf : leaf.size ≤ 140737488352000) :
    Calls Tryd.prog 4 #[.int .i64 wd, .int .i64 i, v, .string leaf] w fun e w' => e = .returned (.bool true) ∧ Below w.heap.size w w' := by
  have G0 : Hid (Gd T w w) := ⟨later, hT, Below.refl _ _⟩
  have HRD : Hid (ReadsT w v xs) := hR
  have HF : Hid (Fits xs) := hf
  have C1 : Hid (Calls _ _ _ _ _) := twin v xs w hR hno hf
  have CR0 : Hid (∀ w', Gd T w w' → Calls _ _ _ _ _) := fun w' g => RC wd v xs w' hwd g.t (HRD.out.later g.b) hf
  obtain ⟨a, cap, rfl, hcap, hh⟩ := hR
  obtain ⟨R, HRR⟩ : ∃ R, Hid (RT wd xs = R) := ⟨_, rfl⟩
  rw [HRR.out] at CR0
  have hR1 : 1 ≤ R.size := by rw [← HRR.out]; exact RT_pos _ _
  have qe := ne_empty R hR1
  have qe2 := ne_empty2 R hR1
  have hm := hf.many
  by_cases hok : 0 ≤ i ∧ i < xs.length ∧ xs.getD i.toNat ByteArray.empty ≠ leaf
  · obtain ⟨k, rfl⟩ : ∃ k : Nat, i = k := ⟨i.toNat, by omega⟩
    obtain ⟨_, hk, hne⟩ := hok
    rw [Int.toNat_natCast] at hne
    have hk' : k < xs.length := by omega
    obtain ⟨x, HX⟩ : ∃ x, Hid (xs.getD k ByteArray.empty = x) := ⟨_, rfl⟩
    rw [HX.out] at hne
    obtain ⟨b, off, rfl, hq⟩ := hh.resolve_left (by omega)
    have c0 := hq k hk'
    rw [HX.out] at c0
    have qx : (x.toList == leaf.toList) = false := by rw [beqL]; exact decide_eq_false hne
    obtain ⟨ys, HYS⟩ : ∃ ys, Hid (xs.set k leaf = ys) := ⟨_, rfl⟩
    have HFY : Hid (Fits ys) := by rw [← HYS.out]; exact fits_set hf k leaf hlf
    have HLY : Hid (ys.length = xs.length) := by show _ = _; rw [← HYS.out, List.length_set]
    have HNE : Hid (xs ≠ ys) := by
      intro e
      apply hne
      rw [← HX.out, e, ← HYS.out, List.getD_eq_getElem?_getD, List.getElem?_set_self hk']
      rfl
    obtain ⟨S, HSS⟩ : ∃ S, Hid (RT wd ys = S) := ⟨_, rfl⟩
    have CR1 : Hid (∀ u w', Gd T w w' → ReadsT w' u ys → Calls _ _ _ _ _) := fun u w' g h => RC wd u ys w' hwd g.t h HFY.out
    rw [HSS.out] at CR1
    have CK : Hid (∀ (u : Value) w', R = S → Gd T w w' → ReadsT w' u ys → Calls _ _ _ _ _) := fun u w' he g h => clash later tab RC wd hwd xs.length xs ys (.slice (some ⟨b, off, none⟩) xs.length cap) u w' rfl HLY.out (by omega) HNE.out (by rw [HRR.out, HSS.out]; exact he) g.t (HRD.out.later g.b) h HF.out HFY.out
    obtain ⟨n, HN⟩ : ∃ n, Hid (xs.length = n) := ⟨_, rfl⟩
    rw [HN.out] at C1 CR0 CK HRD hcap hk hk' hm ⊢
    have t1 : ¬ (k : Int) < 0 := by omega
    have t2 : ¬ (k : Int) ≥ n := by omega
    have t3 : (0 : Int) ≤ (k : Int) := by omega
    have t4 : (k : Int) < n := by omega
    have hkn : k < n := by omega
    have HST : Hid (∀ {w' : World} {g cp : Nat}, TwinR w' w.heap.size g n cp xs → Below w.heap.size w w' → ReadsT (w'.setCell ⟨g, k, none⟩ (.string leaf)) (.slice (some ⟨g, 0, none⟩) n cp) ys ∧ Below w.heap.size w (w'.setCell ⟨g, k, none⟩ (.string leaf))) := fun {w' g cp} htw hb => by
      have hgB : w.heap.size ≤ g := (World.ownsRow.lt htw g rfl).1
      have h := (World.ownsRow.stored htw k (.string leaf)).1
      rw [List.set_append_left _ _ (by rw [List.length_map, HN.out]; exact hkn), ← List.map_set, HYS.out] at h
      exact ⟨own_first h (by rw [HLY.out, HN.out]), hb.setCell (p := ⟨g, k, none⟩) hgB _⟩
    have HCL : Hid (∀ {w' : World} {g cp : Nat}, TwinR w' w.heap.size g n cp xs → w'.cell? ⟨g, k, none⟩ = some (.string x) ∧ w'.frozen? ⟨g, k, none⟩ = false) := fun {w' g cp} htw => by
      rcases htw.2 with ⟨e, _⟩ | ⟨g', cap', cur, e, _, hg, _⟩
      · cases e
      · injection e with e1 _ _
        injection e1 with e1
        injection e1 with e1
        subst e1
        refine ⟨?_, frozen_of_row w' _ k _ _ hg⟩
        have hc := World.ownsRow.cellAt htw k (by omega)
        rw [hc, List.getElem?_append_left (by rw [List.length_map, HN.out]; exact hkn), List.getElem?_map, List.getElem?_eq_getElem (by rw [HN.out]; exact hkn)]
        have := HX.out
        rw [getD_at xs k (by rw [HN.out]; exact hkn)] at this
        rw [this]
        rfl
    have HL : Hid (∀ {w w' : World}, T w → Below w.heap.size w w' → T w') := later
    clear hh hq hT hf later tab RC hwd hi hno hne hlf hR1
    have HTW0 : Hid (T w) := G0.out.t
    by_cases hrs : R = S
    · have qrs : (R.toList == S.toList) = true := by rw [beqL]; exact decide_eq_true hrs
      have CK2 : Hid (∀ (u : Value) w', Gd T w w' → ReadsT w' u ys → Calls _ _ _ _ _) := fun u w' g h => CK.out u w' hrs g h
      clear hrs CK
      go_enter Tryd.func4, Tryd.ntmps4
      go_wp2_with fail
      refine C1.out.mono ?_
      rintro e w1 ⟨⟨g, cp, rfl, htw⟩, hb⟩
      obtain ⟨cx, fz⟩ := HCL.out htw
      obtain ⟨hry, hbs⟩ := HST.out htw hb
      have RY2 : Hid (ReadsT (w1.setCell ⟨g, k, none⟩ (.string leaf)) (.slice (some ⟨g, 0, none⟩) n cp) ys) := hry
      have G2 : Hid (Gd T w (w1.setCell ⟨g, k, none⟩ (.string leaf))) := ⟨HL.out, HL.out HTW0.out hbs, hbs⟩
      clear htw hb hry hbs c0
      go_wp2_with fail
      refine (CR0.out _ G2.out).mono ?_
      rintro e w3 ⟨rfl, hb⟩
      have G3 : Hid (Gd T w w3) := G2.out.on hb
      have RY3 : Hid (ReadsT w3 (.slice (some ⟨g, 0, none⟩) n cp) ys) := RY2.out.later hb
      clear hb cx fz G2 RY2
      go_wp2_with fail
      refine (CR1.out _ _ G3.out RY3.out).mono ?_
      rintro e w4 ⟨rfl, hb⟩
      have G4 : Hid (Gd T w w4) := G3.out.on hb
      have RY4 : Hid (ReadsT w4 (.slice (some ⟨g, 0, none⟩) n cp) ys) := RY3.out.later hb
      clear hb G3 RY3
      go_wp2_with fail
      refine (CK2.out _ _ G4.out RY4.out).mono ?_
      rintro e w5 ⟨rfl, hb⟩
      have G5 : Hid (Gd T w w5) := G4.out.on hb
      clear hb
      go_wp2
      go_ret
      exact ⟨rfl, G5.out.b⟩
    · have qrs : (R.toList == S.toList) = false := by rw [beqL]; exact decide_eq_false hrs
      clear hrs CK
      go_enter Tryd.func4, Tryd.ntmps4
      go_wp2_with fail
      refine C1.out.mono ?_
      rintro e w1 ⟨⟨g, cp, rfl, htw⟩, hb⟩
      obtain ⟨cx, fz⟩ := HCL.out htw
      obtain ⟨hry, hbs⟩ := HST.out htw hb
      have RY2 : Hid (ReadsT (w1.setCell ⟨g, k, none⟩ (.string leaf)) (.slice (some ⟨g, 0, none⟩) n cp) ys) := hry
      have G2 : Hid (Gd T w (w1.setCell ⟨g, k, none⟩ (.string leaf))) := ⟨HL.out, HL.out HTW0.out hbs, hbs⟩
      clear htw hb hry hbs c0
      go_wp2_with fail
      refine (CR0.out _ G2.out).mono ?_
      rintro e w3 ⟨rfl, hb⟩
      have G3 : Hid (Gd T w w3) := G2.out.on hb
      have RY3 : Hid (ReadsT w3 (.slice (some ⟨g, 0, none⟩) n cp) ys) := RY2.out.later hb
      clear hb cx fz G2 RY2
      go_wp2_with fail
      refine (CR1.out _ _ G3.out RY3.out).mono ?_
      rintro e w4 ⟨rfl, hb⟩
      have G4 : Hid (Gd T w w4) := G3.out.on hb
      have RY4 : Hid (ReadsT w4 (.slice (some ⟨g, 0, none⟩) n cp) ys) := RY3.out.later hb
      clear hb G3 RY3
      go_wp2
      go_ret
      exact ⟨rfl, G4.out.b⟩
  · have hi1 : i64 1 := ⟨by omega, by omega⟩
    have hf0 : Fits [] := ⟨fun x h => (by cases h), (by simp)⟩
    obtain ⟨E1, HE1⟩ : ∃ E, Hid (RT 1 [] = E) := ⟨_, rfl⟩
    have CE : Hid (∀ w', Gd T w w' → Calls _ _ _ _ _) := fun w' g => RC 1 (.slice none 0 0) [] w' hi1 g.t ⟨none, 0, rfl, Nat.le_refl _, .inl rfl⟩ hf0
    rw [HE1.out] at CE
    have q1 : ((E1.size : Int) == 1) = true := by
      rw [← HE1.out, RT_size]
      decide
    obtain ⟨n, HN⟩ : ∃ n, Hid (xs.length = n) := ⟨_, rfl⟩
    rw [HN.out] at CR0 HRD hcap hok hh hm ⊢
    clear hf0 hi1
    by_cases a1 : i < 0
    · clear hok hh hT hf later tab RC hwd hi hno hlf hR1 hm
      go_enter Tryd.func4, Tryd.ntmps4
      go_wp2_with fail
      refine (CR0.out _ G0.out).mono ?_
      rintro e w1 ⟨rfl, hb⟩
      have G1 : Hid (Gd T w w1) := G0.out.on hb
      clear hb
      go_wp2_with fail
      refine (CE.out _ G1.out).mono ?_
      rintro e w2 ⟨rfl, hb⟩
      have G2 : Hid (Gd T w w2) := G1.out.on hb
      clear hb
      go_wp2
      go_ret
      exact ⟨rfl, G2.out.b⟩
    · by_cases a2 : i ≥ n
      · clear hok hh hT hf later tab RC hwd hi hno hlf hR1 hm
        go_enter Tryd.func4, Tryd.ntmps4
        go_wp2_with fail
        refine (CR0.out _ G0.out).mono ?_
        rintro e w1 ⟨rfl, hb⟩
        have G1 : Hid (Gd T w w1) := G0.out.on hb
        clear hb
        go_wp2_with fail
        refine (CE.out _ G1.out).mono ?_
        rintro e w2 ⟨rfl, hb⟩
        have G2 : Hid (Gd T w w2) := G1.out.on hb
        clear hb
        go_wp2
        go_ret
        exact ⟨rfl, G2.out.b⟩
      · obtain ⟨k, rfl⟩ : ∃ k : Nat, i = k := ⟨i.toNat, by omega⟩
        obtain ⟨b, off, rfl, hq⟩ := hh.resolve_left (by omega)
        have c0 := hq k (by omega)
        have hx : xs.getD k ByteArray.empty = leaf := by
          by_cases h : xs.getD k ByteArray.empty = leaf
          · exact h
          · exact absurd ⟨by omega, by omega, by rw [Int.toNat_natCast]; exact h⟩ hok
        rw [hx] at c0
        have qx : (leaf.toList == leaf.toList) = true := beq_self_eq_true _
        have t3 : (0 : Int) ≤ (k : Int) := by omega
        have t4 : (k : Int) < n := by omega
        clear hok hh hq hT hf later tab RC hwd hi hno hlf hR1 hm hx
        go_enter Tryd.func4, Tryd.ntmps4
        go_wp2_with fail
        refine (CR0.out _ G0.out).mono ?_
        rintro e w1 ⟨rfl, hb⟩
        have G1 : Hid (Gd T w w1) := G0.out.on hb
        clear hb
        go_wp2_with fail
        refine (CE.out _ G1.out).mono ?_
        rintro e w2 ⟨rfl, hb⟩
        have G2 : Hid (Gd T w w2) := G1.out.on hb
        clear hb
        go_wp2
        go_ret
        exact ⟨rfl, G2.out.b⟩
end Go.Proofs.YtkanjkofdfmhhaaDoor.ja
