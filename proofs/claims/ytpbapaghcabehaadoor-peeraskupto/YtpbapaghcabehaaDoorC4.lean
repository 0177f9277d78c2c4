import Derived.Test.YtpbapaghcabehaaDoorC3
import Derived.Test.YtpbapaghcabehaaDoorC1
import Derived.Test.YtpbapaghcabehaaDoorB4
namespace Go.Proofs.YtpbapaghcabehaaDoor.c4
open Go.RowKit Go.PlainAid Go.Shelf
open Go.Proofs.YtpbapaghcabehaaDoor.tb Go.Proofs.YtpbapaghcabehaaDoor.tc Go.Proofs.YtpbapaghcabehaaDoor.th Go.Proofs.YtpbapaghcabehaaDoor.tj Go.Proofs.YtpbapaghcabehaaDoor.tk Go.Proofs.YtpbapaghcabehaaDoor.tq Go.Proofs.YtpbapaghcabehaaDoor.va Go.Proofs.YtpbapaghcabehaaDoor.vb Go.Proofs.YtpbapaghcabehaaDoor.vc Go.Proofs.YtpbapaghcabehaaDoor.wa Go.Proofs.YtpbapaghcabehaaDoor.wb Go.Proofs.YtpbapaghcabehaaDoor.wc Go.Proofs.YtpbapaghcabehaaDoor.kp Go.Proofs.YtpbapaghcabehaaDoor.a1 Go.Proofs.YtpbapaghcabehaaDoor.a2 Go.Proofs.YtpbapaghcabehaaDoor.b1 Go.Proofs.YtpbapaghcabehaaDoor.b2 Go.Proofs.YtpbapaghcabehaaDoor.b3 Go.Proofs.YtpbapaghcabehaaDoor.b4 Go.Proofs.YtpbapaghcabehaaDoor.c1 Go.Proofs.YtpbapaghcabehaaDoor.c2 Go.Proofs.YtpbapaghcabehaaDoor.c3
set_option linter.unusedVariables false
set_option maxRecDepth 4000

theorem ne_empty (s : ByteArray) (h : s.size ≠ 0) : (s.toList == []) = false ∧ s.toList.isEmpty = false := by
  rw [ByteArray.toList_eq]
  cases hl : s.data.toList with
  | nil => exact absurd (show s.size = 0 by show s.data.size = 0; rw [← Array.length_toList, hl]; rfl) h
  | cons _ _ => exact ⟨rfl, rfl⟩
theorem yes_empty (s : ByteArray) (h : s.size = 0) : (s.toList == []) = true ∧ s.toList.isEmpty = true := by
  rw [ByteArray.toList_eq]
  have hl : s.data.toList = [] := List.length_eq_zero_iff.1 (by rw [Array.length_toList]; exact h)
  rw [hl]
  exact ⟨rfl, rfl⟩
theorem lnV_true (b : ByteArray) (i : Nat) (h : cutF (rst b i) nlB = true) : lnV b i = .tuple #[.string (cutA (rst b i) nlB), .int .i64 ((i + (cutA (rst b i) nlB).size + 1 : Nat) : Int), .bool true] := by
  unfold lnV
  rw [if_pos h]
  congr 4
theorem lnV_false (b : ByteArray) (i : Nat) (h : cutF (rst b i) nlB = false) : lnV b i = .tuple #[.string ByteArray.empty, .int .i64 0, .bool false] := by
  unfold lnV
  rw [if_neg (by rw [h]; decide)]
theorem Rd3.old {p q : Nat} {W w : World} {o : Int} {nt : ByteArray} {xs : List ByteArray} (h : Rd3 p q W o nt xs w) (n : Int) : Rd3 p q W n nt xs (w.setCell ⟨q, 0, none⟩ (.int .i64 n)) := by
  obtain ⟨a, c, h1, h2⟩ := h.box
  exact ⟨h.pq, ⟨a, c, heap_setCell_same _ _ 0 _ _ _ h1, own_set h2 (Nat.lt_succ_self q)⟩, h.low.setCell (show p + 1 ≤ q from h.pq) _⟩
theorem Rd3.note {p q : Nat} {W w : World} {o : Int} {nt : ByteArray} {xs : List ByteArray} (h : Rd3 p q W o nt xs w) (t : ByteArray) : Rd3 p q W o t xs (w.setCell ⟨q, 2, none⟩ (.string t)) := by
  obtain ⟨a, c, h1, h2⟩ := h.box
  exact ⟨h.pq, ⟨a, c, heap_setCell_same _ _ 2 _ _ _ h1, own_set h2 (Nat.lt_succ_self q)⟩, h.low.setCell (show p + 1 ≤ q from h.pq) _⟩

set_option maxHeartbeats 6400000 in
theorem askedD (b : ByteArray) (hs : b.size ≤ 1100000) (w : World) :
    Calls Tryd.prog 9 #[.string b] w fun e w' => asR w w' (asP b) e ∧ Below w.heap.size w w' := by
  obtain ⟨i0, hi, hz0, hz1, hz2⟩ := info_parts infoS
  have HIN : Hid (_ ∧ _ ∧ _ ∧ _) := ⟨hi, hz0, hz1, hz2⟩
  clear hi hz0 hz1 hz2
  obtain ⟨W, HW⟩ : ∃ W, Hid ((w.alloc (.cells #[.int .i64 0, .slice none 0 0, .string ⟨#[]⟩] 24)).alloc (.cells #[.int .i64 0, .slice none 0 0, .string ⟨#[]⟩] 24) = W) := ⟨_, rfl⟩
  have BW : Hid (Below w.heap.size w W) := by rw [← HW.out]; exact ((Below.refl _ _).alloc (Nat.le_refl _) _).alloc (by simp) _
  have HBK : Hid (W.heap[w.heap.size]? = some (.cells #[.int .i64 0, .slice none 0 0, .string ⟨#[]⟩] 24 (0, 0)) ∧ W.heap[w.heap.size + 1]? = some (.cells #[.int .i64 0, .slice none 0 0, .string ⟨#[]⟩] 24 (0, 0))) := by
    rw [← HW.out]
    have z1 : (w.alloc (.cells #[.int .i64 0, .slice none 0 0, .string ⟨#[]⟩] 24)).heap.size = w.heap.size + 1 := by simp
    have hA := heap_alloc_new w (.cells #[.int .i64 0, .slice none 0 0, .string ⟨#[]⟩] 24)
    have hB := heap_alloc_new (w.alloc (.cells #[.int .i64 0, .slice none 0 0, .string ⟨#[]⟩] 24)) (.cells #[.int .i64 0, .slice none 0 0, .string ⟨#[]⟩] 24)
    rw [z1] at hB
    have BB : Below (w.alloc (.cells #[.int .i64 0, .slice none 0 0, .string ⟨#[]⟩] 24)).heap.size (w.alloc (.cells #[.int .i64 0, .slice none 0 0, .string ⟨#[]⟩] 24)) ((w.alloc (.cells #[.int .i64 0, .slice none 0 0, .string ⟨#[]⟩] 24)).alloc (.cells #[.int .i64 0, .slice none 0 0, .string ⟨#[]⟩] 24)) := (Below.refl _ _).alloc (Nat.le_refl _) _
    exact ⟨(BB.block w.heap.size (by omega)).trans hA, hB⟩
  obtain ⟨p, HP⟩ : ∃ p, Hid (w.heap.size = p) := ⟨_, rfl⟩
  have FIN : Hid (∀ w', Below p W w' → Below w.heap.size w w') := fun w' h => by rw [HP.out] at BW ⊢; exact BW.out.trans h
  rw [HP.out] at HBK
  obtain ⟨q, HQ⟩ : ∃ q, Hid (p + 1 = q) := ⟨_, rfl⟩
  have BK : Hid (∀ w', Below (p + 1) W w' → w'.heap[p]? = some (.cells #[.int .i64 0, .slice none 0 0, .string ⟨#[]⟩] 24 (0, 0))) := fun w' h => (h.block p (Nat.lt_succ_self _)).trans HBK.out.1
  rw [HQ.out] at HBK
  have RW : Hid (Rd3 p q W 0 ⟨#[]⟩ [] W) := ⟨by rw [← HQ.out]; exact Nat.lt_succ_self p, ⟨none, 0, HBK.out.2, World.ownsRow_nil _ _ _ _⟩, Below.refl _ _⟩
  have BWW : Hid (Below (p + 1) W W) := Below.refl _ _
  obtain ⟨R, HR⟩ : ∃ R, Hid (asP b = R) := ⟨_, rfl⟩
  rw [HR.out]
  have C1 : Hid (∀ w, Calls Tryd.prog 20 #[.string b, .int .i64 0] w fun e w' => e = .returned (lnV b 0) ∧ w' = w) := fun w => lineD b 0 (by omega) (Nat.zero_le _) w
  by_cases hc : cutF b nlB = true
  · have hln : lnV b 0 = .tuple #[.string (cutA b nlB), .int .i64 (((cutA b nlB).size + 1 : Nat) : Int), .bool true] := by
      rw [lnV_true b 0 (by rw [rst_zero]; exact hc), rst_zero, Nat.zero_add]
    obtain ⟨hn1, hn2⟩ := rst_next b 0 (Nat.zero_le _) (by rw [rst_zero]; exact hc)
    rw [rst_zero, Nat.zero_add] at hn1 hn2
    rw [hln] at C1
    by_cases h4 : (cutA b nlB).size < 4
    · have HRR : Hid (R = none) := by show _ = _; rw [← HR.out, ← dc_as, dc_none b (gl_no b (.inr h4))]
      have h4' : ((cutA b nlB).size : Int) < 4 := by omega
      obtain ⟨s, HS⟩ : ∃ s, Hid (cutA b nlB = s) := ⟨_, rfl⟩
      rw [HS.out] at C1 h4'
      clear hln hn1 hn2 h4 hc
      go_enter Tryd.func9, Tryd.ntmps9
      go_wp2_with fail
      rw [HW.out]
      refine (C1.out _).mono ?_
      rintro e wz ⟨rfl, hz⟩
      rw [hz]
      clear hz wz
      rw [HP.out]
      have hbk := BK.out W BWW.out
      have FZ : Hid (∀ W', W' = _ → _) := put3 W p _ _ _ (.int .i64 0) (.slice none 0 0) (.string ⟨#[]⟩) _ hbk
      have c0 := cell_of_row _ _ 0 _ _ _ hbk
      have c1 := cell_of_row _ _ 1 _ _ _ hbk
      have c2 := cell_of_row _ _ 2 _ _ _ hbk
      have f0 := frozen_of_row _ _ 0 _ _ hbk
      have f1 := frozen_of_row _ _ 1 _ _ hbk
      have f2 := frozen_of_row _ _ 2 _ _ hbk
      go_wp2
      obtain ⟨⟨d0, d1, d2⟩, hbl⟩ := FZ.out _ rfl
      exact bodyPost_ret (v := .tuple #[.agg #[.int .i64 0, .slice none 0 0, .string ⟨#[]⟩], .int .i64 13]) (by simp [results, Tryd.results9, go_sem, d0, d1, d2]) rfl ⟨by rw [HRR.out]; rfl, FIN.out _ ((BWW.out.mono (Nat.le_succ p)).trans (hbl _ (Nat.le_refl _)))⟩
    · have HGS : Hid (∀ pf nt, rowsD 65 (cutB b nlB) = some (pf, nt) → glP b = some ⟨nOfX ((cutA b nlB).extract 4 (cutA b nlB).size), pf, nt⟩) := fun pf nt h => gl_some b hc (by omega) pf nt h
      have HGN : Hid (rowsD 65 (cutB b nlB) = none → R = none) := fun h => by show _ = _; rw [← HR.out, ← dc_as, dc_none b (gl_none b h)]
      obtain ⟨fu, hfu⟩ := undec_nof ((cutA b nlB).extract 4 (cutA b nlB).size)
      have zx : ((cutA b nlB).extract 4 (cutA b nlB).size).size ≤ 1100000 := by rw [ByteArray.size_extract]; omega
      have C2 : Hid (∀ w, Calls _ _ _ _ _) := fun w => rUnDec ((cutA b nlB).extract 4 (cutA b nlB).size) (by omega) w
      rw [hfu] at C2
      have HI : Hid (I64 (nOfX ((cutA b nlB).extract 4 (cutA b nlB).size))) := nof_in _
      have h4' : ¬ ((cutA b nlB).size : Int) < 4 := by omega
      have h4'' : (4 : Int) ≤ (cutA b nlB).size := by omega
      obtain ⟨n, HN⟩ : ∃ n, Hid (nOfX ((cutA b nlB).extract 4 (cutA b nlB).size) = n) := ⟨_, rfl⟩
      rw [HN.out] at HGS C2 HI
      obtain ⟨x, HX⟩ : ∃ x, Hid ((cutA b nlB).extract 4 (cutA b nlB).size = x) := ⟨_, rfl⟩
      rw [HX.out] at C2
      obtain ⟨R0, HR0⟩ : ∃ R0, Hid (cutB b nlB = R0) := ⟨_, rfl⟩
      rw [HR0.out] at HGS HGN hn2
      obtain ⟨s, HS⟩ : ∃ s, Hid (cutA b nlB = s) := ⟨_, rfl⟩
      rw [HS.out] at C1 h4' h4'' HX hn1 hn2
      obtain ⟨a0, HA0⟩ : ∃ a0, Hid (s.size + 1 = a0) := ⟨_, rfl⟩
      rw [HA0.out] at C1 hn1 hn2
      have HST : Hid (rowsD 65 R0 = appD [] (rowsD 65 (rst b a0))) := by show _ = _; rw [app_nil, hn2]
      have RW1 : Hid (Rd3 p q W n ⟨#[]⟩ [] (W.setCell ⟨q, 0, none⟩ (.int .i64 n))) := Rd3.old RW.out n
      have hxe := HX.out
      have hq0 := cell_of_row _ _ 0 _ _ _ HBK.out.2
      have hf0 := frozen_of_row _ _ 0 _ _ HBK.out.2
      clear hln hc h4 zx hfu hn2
      go_enter Tryd.func9, Tryd.ntmps9
      go_wp2_with fail
      rw [HW.out]
      refine (C1.out _).mono ?_
      rintro e wz ⟨rfl, hz⟩
      rw [hz]
      clear hz wz
      rw [HP.out, HQ.out]
      go_wp2_with fail
      refine (C2.out _).mono ?_
      rintro e wz ⟨rfl, hz⟩
      rw [hz]
      clear hz wz
      go_wp2
      clear hq0 hf0 hxe
      go_loopw [6, 10] (fun s i wr => ∃ (k a : Nat) (xs : List ByteArray), k ≤ 65 ∧ a ≤ b.size ∧ s = .int .i64 a ∧ i = .int .i64 k ∧ Hid (rowsD 65 R0 = appD xs (rowsD (65 - k) (rst b a))) ∧ Hid (xs.length = k) ∧ Hid (Rd3 p q W n ⟨#[]⟩ xs wr)) (fun _ i _ => (65 - intOf i).toNat)
      case atStart => exact ⟨0, a0, [], by omega, hn1, rfl, rfl, HST.out, rfl, RW1.out⟩
      case round =>
        clear HST RW1 C1 C2
        obtain ⟨k, a, xs, hk, ha, rfl, rfl, HRD, HLX, HRK⟩ := hrel
        by_cases hlt : k < 65
        · have hlt' : (k : Int) ≤ 64 := by omega
          have C1 : Hid (∀ w, Calls _ _ _ _ _) := fun w => lineD b a (by omega) ha w
          obtain ⟨j, hj⟩ : ∃ j, 65 - k = j + 1 := ⟨64 - k, by omega⟩
          by_cases hc : cutF (rst b a) nlB = true
          · obtain ⟨hn3, hn4⟩ := rst_next b a ha hc
            rw [lnV_true b a hc] at C1
            obtain ⟨a2, HA2⟩ : ∃ a2, Hid (a + (cutA (rst b a) nlB).size + 1 = a2) := ⟨_, rfl⟩
            have zl : (cutA (rst b a) nlB).size ≤ 1100000 := by omega
            rw [HA2.out] at C1 hn3 hn4
            by_cases hl : cutA (rst b a) nlB = ByteArray.empty
            · have HGL0 : Hid (glP b = some ⟨n, xs, rst b a2⟩) := HGS.out _ _ (by rw [HRD.out, hj, app_end xs j _ hc hl, hn4])
              obtain ⟨nt, HNT⟩ : ∃ nt, Hid (rst b a2 = nt) := ⟨_, rfl⟩
              have hxe : b.extract a2 b.size = nt := HNT.out
              rw [HNT.out] at HGL0
              have HGL : Hid (glP b = some ⟨n, xs, nt⟩) := HGL0.out
              have HZN : Hid (nt.size ≤ 1100000) := by show _ ≤ _; rw [← HNT.out, rst_size b a2 hn3]; omega
              obtain ⟨l, HL⟩ : ∃ l, Hid (cutA (rst b a) nlB = l) := ⟨_, rfl⟩
              rw [HL.out] at C1 hl
              obtain ⟨le1, le2⟩ := yes_empty l (by rw [hl]; rfl)
              have HLX2 : Hid (xs.length = k) := HLX.out
              have u1 : (a2 : Int) ≤ b.size := by omega
              have u0 : (0 : Int) ≤ a2 := by omega
              clear hl hc hj zl hn4 HRD HGS HGN
              go_wp2_with fail
              refine (C1.out _).mono ?_
              rintro e wz ⟨rfl, hz⟩
              rw [hz]
              clear hz wz
              obtain ⟨E, HE⟩ : ∃ E, Hid (rqE n xs = E) := ⟨_, rfl⟩
              obtain ⟨T, HT⟩ : ∃ T, Hid (rqT n xs nt = T) := ⟨_, rfl⟩
              have HYES : Hid (E = 0 → T = b → R = some ⟨n, xs, nt⟩) := fun h1 h2 => by show _ = _; rw [← HR.out, ← dc_as]; exact dc_yes b ⟨n, xs, nt⟩ HGL.out (HE.out.trans h1) (HT.out.trans h2)
              have HNO : Hid (¬ (E = 0 ∧ T = b) → R = none) := fun h => by show _ = _; rw [← HR.out, ← dc_as]; exact dc_no b ⟨n, xs, nt⟩ HGL.out (fun h2 => h ⟨HE.out.symm.trans h2.1, HT.out.symm.trans h2.2⟩)
              obtain ⟨a1, c1, hb1, hb2⟩ := HRK.out.box
              have RV0 : Hid (Rd3 p q W n nt xs (wr.setCell ⟨q, 2, none⟩ (.string nt))) := Rd3.note HRK.out nt
              have FR : Hid (wr.heap[q]? = some (.cells #[.int .i64 n, .slice a1 xs.length c1, .string ⟨#[]⟩] 24 (0, 0))) := hb1
              have HV3 : (wr.setCell ⟨q, 2, none⟩ (.string nt)).heap[q]? = some (.cells #[.int .i64 n, .slice a1 xs.length c1, .string nt] 24 (0, 0)) := heap_setCell_same _ _ 2 _ _ _ FR.out
              have v0 := cell_of_row _ _ 0 _ _ _ HV3
              have v1 := cell_of_row _ _ 1 _ _ _ HV3
              have v2 := cell_of_row _ _ 2 _ _ _ HV3
              have x2 := cell_of_row _ _ 2 _ _ _ hb1
              have y2 := frozen_of_row _ _ 2 _ _ hb1
              obtain ⟨V, HV⟩ : ∃ V, Hid (wr.setCell ⟨q, 2, none⟩ (.string nt) = V) := ⟨_, rfl⟩
              have RV : Hid (Rd3 p q W n nt xs V) := by show Rd3 _ _ _ _ _ _ _; rw [← HV.out]; exact RV0.out
              have OV : Hid (Reads V (.slice a1 xs.length c1) xs) := by
                show Reads _ _ _
                rw [← HV.out]
                exact own_reads (own_set hb2 (Nat.lt_succ_self q)) rfl
              have CA : Hid (Calls _ _ _ _ _) := askD n xs nt a1 c1 V HI.out (by have := HZN.out; omega) OV.out (by have := HLX.out; omega)
              rw [HE.out, HT.out] at CA
              have HQT := toList_bs T b
              have hcs : (E = 0 ∧ T = b) ∨ E ≠ 0 ∨ (E = 0 ∧ T ≠ b) := by
                by_cases h1 : E = 0
                · by_cases h2 : T = b
                  · exact .inl ⟨h1, h2⟩
                  · exact .inr (.inr ⟨h1, h2⟩)
                · exact .inr (.inl h1)
              clear RV0 HV3 hb1 hb2 FR
              rcases hcs with ⟨h1, h2⟩ | h1 | ⟨h1, h2⟩
              · have HRR : Hid (R = some ⟨n, xs, nt⟩) := HYES.out h1 h2
                rw [decide_eq_true h2] at HQT
                clear HYES HNO HE HT
                subst h1
                clear h2
                go_wp2_with fail
                rw [HV.out]
                clear v0 v1 v2
                refine CA.out.mono ?_
                rintro e w4 ⟨rfl, hb4⟩
                have R4 : Hid (Rd3 p q W n nt xs w4) := RV.out.later hb4
                have B4 : Hid (Below (p + 1) W w4) := R4.out.low
                clear hb4
                obtain ⟨a, c, hb1, hb2⟩ := R4.out.box
                have g0 := cell_of_row _ _ 0 _ _ _ hb1
                have g1 := cell_of_row _ _ 1 _ _ _ hb1
                have g2 := cell_of_row _ _ 2 _ _ _ hb1
                have HOW : Hid (w4.ownsRow (q + 1) 9 1 (.slice a xs.length c) xs.length (xs.map Value.string)) := hb2
                have HPQ : Hid (p < q) := R4.out.pq
                have hbk := BK.out w4 B4.out
                have FZ : Hid (∀ W', W' = _ → _) := put3 w4 p _ _ _ (.int .i64 n) (.slice a xs.length c) (.string nt) _ hbk
                have FO : Hid (∀ W', W' = ((w4.setCell ⟨p, 0, none⟩ (.int .i64 n)).setCell ⟨p, 1, none⟩ (.slice a xs.length c)).setCell ⟨p, 2, none⟩ (.string nt) → W'.ownsRow p 9 1 (.slice a xs.length c) xs.length (xs.map Value.string)) := by
                  have hp : p < q + 1 := Nat.lt_succ_of_lt HPQ.out
                  rintro _ rfl
                  exact own_mono (own_set (own_set (own_set HOW.out hp) hp) hp) (Nat.le_of_lt hp)
                have c0 := cell_of_row _ _ 0 _ _ _ hbk
                have c1 := cell_of_row _ _ 1 _ _ _ hbk
                have c2 := cell_of_row _ _ 2 _ _ _ hbk
                have f0 := frozen_of_row _ _ 0 _ _ hbk
                have f1 := frozen_of_row _ _ 1 _ _ hbk
                have f2 := frozen_of_row _ _ 2 _ _ hbk
                clear hb1 hb2
                go_wp2
                have hfo := FO.out _ rfl
                obtain ⟨⟨d0, d1, d2⟩, hbl⟩ := FZ.out _ rfl
                refine bodyPost_ret (v := .tuple #[.agg #[.int .i64 n, .slice a xs.length c, .string nt], .int .i64 0]) (by simp [results, Tryd.results9, go_sem, d0, d1, d2]) rfl ⟨?_, FIN.out _ ((B4.out.mono (Nat.le_succ p)).trans (hbl _ (Nat.le_refl _)))⟩
                rw [HRR.out]
                exact ⟨a, c, rfl, by rw [HP.out]; exact hfo⟩
              · have HRR : Hid (R = none) := HNO.out (fun h => h1 h.1)
                clear HYES HNO HE HT
                clear HQT
                go_wp2_with fail
                rw [HV.out]
                clear v0 v1 v2
                refine CA.out.mono ?_
                rintro e w4 ⟨rfl, hb4⟩
                have B4 : Hid (Below (p + 1) W w4) := (RV.out.later hb4).low
                clear hb4
                have hbk := BK.out w4 B4.out
                have FZ : Hid (∀ W', W' = _ → _) := put3 w4 p _ _ _ (.int .i64 0) (.slice none 0 0) (.string ⟨#[]⟩) _ hbk
                have c0 := cell_of_row _ _ 0 _ _ _ hbk
                have c1 := cell_of_row _ _ 1 _ _ _ hbk
                have c2 := cell_of_row _ _ 2 _ _ _ hbk
                have f0 := frozen_of_row _ _ 0 _ _ hbk
                have f1 := frozen_of_row _ _ 1 _ _ hbk
                have f2 := frozen_of_row _ _ 2 _ _ hbk
                go_wp2
                obtain ⟨⟨d0, d1, d2⟩, hbl⟩ := FZ.out _ rfl
                exact bodyPost_ret (v := .tuple #[.agg #[.int .i64 0, .slice none 0 0, .string ⟨#[]⟩], .int .i64 13]) (by simp [results, Tryd.results9, go_sem, d0, d1, d2]) rfl ⟨by rw [HRR.out]; rfl, FIN.out _ ((B4.out.mono (Nat.le_succ p)).trans (hbl _ (Nat.le_refl _)))⟩
              · have HRR : Hid (R = none) := HNO.out (fun h => h2 h.2)
                clear HYES HNO HE HT
                rw [decide_eq_false h2] at HQT
                subst h1
                clear h2
                go_wp2_with fail
                rw [HV.out]
                clear v0 v1 v2
                refine CA.out.mono ?_
                rintro e w4 ⟨rfl, hb4⟩
                have B4 : Hid (Below (p + 1) W w4) := (RV.out.later hb4).low
                clear hb4
                have hbk := BK.out w4 B4.out
                have FZ : Hid (∀ W', W' = _ → _) := put3 w4 p _ _ _ (.int .i64 0) (.slice none 0 0) (.string ⟨#[]⟩) _ hbk
                have c0 := cell_of_row _ _ 0 _ _ _ hbk
                have c1 := cell_of_row _ _ 1 _ _ _ hbk
                have c2 := cell_of_row _ _ 2 _ _ _ hbk
                have f0 := frozen_of_row _ _ 0 _ _ hbk
                have f1 := frozen_of_row _ _ 1 _ _ hbk
                have f2 := frozen_of_row _ _ 2 _ _ hbk
                go_wp2
                obtain ⟨⟨d0, d1, d2⟩, hbl⟩ := FZ.out _ rfl
                exact bodyPost_ret (v := .tuple #[.agg #[.int .i64 0, .slice none 0 0, .string ⟨#[]⟩], .int .i64 13]) (by simp [results, Tryd.results9, go_sem, d0, d1, d2]) rfl ⟨by rw [HRR.out]; rfl, FIN.out _ ((B4.out.mono (Nat.le_succ p)).trans (hbl _ (Nat.le_refl _)))⟩
            · have HGO : Hid (rowsD 65 R0 = appD (xs ++ [hOfY (cutA (rst b a) nlB)]) (rowsD (65 - (k + 1)) (rst b a2))) := by
                show _ = _
                rw [HRD.out, hj, app_more xs j _ hc hl, hn4, show 65 - (k + 1) = j by omega]
              obtain ⟨fh, hfh⟩ := un64_hof (cutA (rst b a) nlB)
              have C6 : Hid (∀ w, Calls _ _ _ _ _) := fun w => rUn64 (cutA (rst b a) nlB) (by omega) w
              rw [hfh] at C6
              obtain ⟨l, HL⟩ : ∃ l, Hid (cutA (rst b a) nlB = l) := ⟨_, rfl⟩
              rw [HL.out] at C1 C6 hl HGO
              obtain ⟨g, HG⟩ : ∃ g, Hid (hOfY l = g) := ⟨_, rfl⟩
              rw [HG.out] at C6 HGO
              obtain ⟨le1, le2⟩ := ne_empty l (fun h => hl (by apply ByteArray.ext; exact Array.eq_empty_of_size_eq_zero h))
              have hlen := HLX.out
              have HLX2 : Hid ((xs ++ [g]).length = k + 1) := by show _ = _; rw [List.length_append, hlen]; rfl
              clear hl hc hj zl hn4 HRD HGS HGN hfh
              go_wp2_with fail
              refine (C1.out _).mono ?_
              rintro e wz ⟨rfl, hz⟩
              rw [hz]
              clear hz wz
              go_wp2_with fail
              refine (C6.out _).mono ?_
              rintro e wb ⟨rfl, hbb⟩
              have HRB : Hid (Rd3 p q W n ⟨#[]⟩ xs wb) := HRK.out.later hbb
              clear hbb
              obtain ⟨a1, c, hb1, hb2⟩ := HRB.out.box
              rw [hlen] at hb1 hb2
              have HOW : Hid (wb.ownsRow (q + 1) 9 1 (.slice a1 k c) k (xs.map Value.string)) := hb2
              have HBQ : Hid (wb.heap[q]? = some (.cells #[.int .i64 n, .slice a1 k c, .string ⟨#[]⟩] 24 (0, 0))) := hb1
              have hql : q < wb.heap.size := (Array.getElem?_eq_some_iff.1 hb1).1
              have c1 := cell_of_row _ _ 1 _ _ _ hb1
              have BAL : Hid (Below wb.heap.size wb (wb.alloc (.cells #[.string g] 9))) := (Below.refl _ _).alloc (Nat.le_refl _) _
              have HOA : Hid ((wb.alloc (.cells #[.string g] 9)).ownsRow (q + 1) 9 1 (.slice a1 k c) k (xs.map Value.string)) := HOW.out.alloc _
              have BAQ : Hid (Below (q + 1) wb (wb.alloc (.cells #[.string g] 9))) := BAL.out.mono hql
              have HBS : Hid (q + 1 ≤ (wb.alloc (.cells #[.string g] 9)).heap.size) := Nat.le_trans hql BAL.out.size
              have HPQ : Hid (p + 1 ≤ q + 1) := by have := HRB.out.pq; show _ ≤ _; omega
              clear hb1 hb2 hql
              go_wp2_with (at_builtin; refine wpList_append_own _ rfl _ _ 22 rfl (q + 1) 9 i0 (.string ⟨#[]⟩) 1 16 Tryd.underlying22 HIN.out.1 HIN.out.2.1 HIN.out.2.2.1 HIN.out.2.2.2 rfl (by decide) (.slice a1 k c) k _ rfl HOA.out ⟨wb.heap.size, 0, none⟩ 1 1 [.string g] rfl rfl (new_one _ _ _) (one_texts [g]) (by unfold maxLen; omega) (by omega) HBS.out ?_; intro v2 w2 hown2 hgr2 hnn2; have HO2 : Hid (w2.ownsRow (q + 1) 9 1 v2 (k + 1) ((xs ++ [g]).map Value.string)) := (by rw [List.map_append]; exact hown2); have B2 : Hid (Below (q + 1) wb w2) := BAQ.out.grown hgr2 HBS.out (fun j hj => (HOA.out.lt _ hj).1); clear hown2 hgr2 hnn2; obtain ⟨va, vc, hv⟩ := own_form HO2.out; subst hv; have hq2 := (B2.out.block q (Nat.lt_succ_self _)).trans HBQ.out; have HQ2 : Hid (_ = _) := hq2; have g2 := cell_of_row _ _ 1 _ _ _ hq2; have g3 := frozen_of_row _ _ 1 _ _ hq2; clear hq2)
              go_roundw
              case rel =>
                refine ⟨k + 1, a2, xs ++ [g], by omega, hn3, rfl, by go_num, HGO.out, HLX2.out, ?_⟩
                refine ⟨HRB.out.pq, ⟨va, vc, ?_, ?_⟩, ?_⟩
                · rw [HLX2.out]; exact heap_setCell_same _ _ 1 _ _ _ HQ2.out
                · rw [HLX2.out]; exact own_set HO2.out (Nat.lt_succ_self q)
                · exact (HRB.out.low.trans (B2.out.mono HPQ.out)).setCell (show p + 1 ≤ q from HRB.out.pq) _
              case measure => simp [intOf]; omega
          · have hc' : cutF (rst b a) nlB = false := by simpa using hc
            have HRR : Hid (R = none) := HGN.out (by rw [HRD.out, hj, app_bad xs j _ hc'])
            rw [lnV_false b a hc'] at C1
            have BWR : Hid (Below (p + 1) W wr) := HRK.out.low
            clear hc hc' hj HRD HGS HGN
            go_wp2_with fail
            refine (C1.out _).mono ?_
            rintro e wz ⟨rfl, hz⟩
            rw [hz]
            clear hz wz
            have hbk := BK.out wr BWR.out
            have FZ : Hid (∀ W', W' = _ → _) := put3 wr p _ _ _ (.int .i64 0) (.slice none 0 0) (.string ⟨#[]⟩) _ hbk
            have c0 := cell_of_row _ _ 0 _ _ _ hbk
            have c1 := cell_of_row _ _ 1 _ _ _ hbk
            have c2 := cell_of_row _ _ 2 _ _ _ hbk
            have f0 := frozen_of_row _ _ 0 _ _ hbk
            have f1 := frozen_of_row _ _ 1 _ _ hbk
            have f2 := frozen_of_row _ _ 2 _ _ hbk
            go_wp2
            obtain ⟨⟨d0, d1, d2⟩, hbl⟩ := FZ.out _ rfl
            exact bodyPost_ret (v := .tuple #[.agg #[.int .i64 0, .slice none 0 0, .string ⟨#[]⟩], .int .i64 13]) (by simp [results, Tryd.results9, go_sem, d0, d1, d2]) rfl ⟨by rw [HRR.out]; rfl, FIN.out _ ((BWR.out.mono (Nat.le_succ p)).trans (hbl _ (Nat.le_refl _)))⟩
        · have hlt' : ¬ (k : Int) ≤ 64 := by omega
          obtain rfl : k = 65 := by omega
          have HGL0 : Hid (glP b = some ⟨n, xs, rst b a⟩) := HGS.out _ _ (by rw [HRD.out, Nat.sub_self, app_zero])
          obtain ⟨nt, HNT⟩ : ∃ nt, Hid (rst b a = nt) := ⟨_, rfl⟩
          have hxe : b.extract a b.size = nt := HNT.out
          rw [HNT.out] at HGL0
          have HGL : Hid (glP b = some ⟨n, xs, nt⟩) := HGL0.out
          have HZN : Hid (nt.size ≤ 1100000) := by show _ ≤ _; rw [← HNT.out, rst_size b a ha]; omega
          have u1 : (a : Int) ≤ b.size := by omega
          have u0 : (0 : Int) ≤ a := by omega
          clear HRD HGS HGN
          obtain ⟨E, HE⟩ : ∃ E, Hid (rqE n xs = E) := ⟨_, rfl⟩
          obtain ⟨T, HT⟩ : ∃ T, Hid (rqT n xs nt = T) := ⟨_, rfl⟩
          have HYES : Hid (E = 0 → T = b → R = some ⟨n, xs, nt⟩) := fun h1 h2 => by show _ = _; rw [← HR.out, ← dc_as]; exact dc_yes b ⟨n, xs, nt⟩ HGL.out (HE.out.trans h1) (HT.out.trans h2)
          have HNO : Hid (¬ (E = 0 ∧ T = b) → R = none) := fun h => by show _ = _; rw [← HR.out, ← dc_as]; exact dc_no b ⟨n, xs, nt⟩ HGL.out (fun h2 => h ⟨HE.out.symm.trans h2.1, HT.out.symm.trans h2.2⟩)
          obtain ⟨a1, c1, hb1, hb2⟩ := HRK.out.box
          have RV0 : Hid (Rd3 p q W n nt xs (wr.setCell ⟨q, 2, none⟩ (.string nt))) := Rd3.note HRK.out nt
          have FR : Hid (wr.heap[q]? = some (.cells #[.int .i64 n, .slice a1 xs.length c1, .string ⟨#[]⟩] 24 (0, 0))) := hb1
          have HV3 : (wr.setCell ⟨q, 2, none⟩ (.string nt)).heap[q]? = some (.cells #[.int .i64 n, .slice a1 xs.length c1, .string nt] 24 (0, 0)) := heap_setCell_same _ _ 2 _ _ _ FR.out
          have v0 := cell_of_row _ _ 0 _ _ _ HV3
          have v1 := cell_of_row _ _ 1 _ _ _ HV3
          have v2 := cell_of_row _ _ 2 _ _ _ HV3
          have x2 := cell_of_row _ _ 2 _ _ _ hb1
          have y2 := frozen_of_row _ _ 2 _ _ hb1
          obtain ⟨V, HV⟩ : ∃ V, Hid (wr.setCell ⟨q, 2, none⟩ (.string nt) = V) := ⟨_, rfl⟩
          have RV : Hid (Rd3 p q W n nt xs V) := by show Rd3 _ _ _ _ _ _ _; rw [← HV.out]; exact RV0.out
          have OV : Hid (Reads V (.slice a1 xs.length c1) xs) := by
            show Reads _ _ _
            rw [← HV.out]
            exact own_reads (own_set hb2 (Nat.lt_succ_self q)) rfl
          have CA : Hid (Calls _ _ _ _ _) := askD n xs nt a1 c1 V HI.out (by have := HZN.out; omega) OV.out (by have := HLX.out; omega)
          rw [HE.out, HT.out] at CA
          have HQT := toList_bs T b
          have hcs : (E = 0 ∧ T = b) ∨ E ≠ 0 ∨ (E = 0 ∧ T ≠ b) := by
            by_cases h1 : E = 0
            · by_cases h2 : T = b
              · exact .inl ⟨h1, h2⟩
              · exact .inr (.inr ⟨h1, h2⟩)
            · exact .inr (.inl h1)
          clear RV0 HV3 hb1 hb2 FR
          rcases hcs with ⟨h1, h2⟩ | h1 | ⟨h1, h2⟩
          · have HRR : Hid (R = some ⟨n, xs, nt⟩) := HYES.out h1 h2
            rw [decide_eq_true h2] at HQT
            clear HYES HNO HE HT
            subst h1
            clear h2
            go_wp2_with fail
            rw [HV.out]
            clear v0 v1 v2
            refine CA.out.mono ?_
            rintro e w4 ⟨rfl, hb4⟩
            have R4 : Hid (Rd3 p q W n nt xs w4) := RV.out.later hb4
            have B4 : Hid (Below (p + 1) W w4) := R4.out.low
            clear hb4
            obtain ⟨a, c, hb1, hb2⟩ := R4.out.box
            have g0 := cell_of_row _ _ 0 _ _ _ hb1
            have g1 := cell_of_row _ _ 1 _ _ _ hb1
            have g2 := cell_of_row _ _ 2 _ _ _ hb1
            have HOW : Hid (w4.ownsRow (q + 1) 9 1 (.slice a xs.length c) xs.length (xs.map Value.string)) := hb2
            have HPQ : Hid (p < q) := R4.out.pq
            have hbk := BK.out w4 B4.out
            have FZ : Hid (∀ W', W' = _ → _) := put3 w4 p _ _ _ (.int .i64 n) (.slice a xs.length c) (.string nt) _ hbk
            have FO : Hid (∀ W', W' = ((w4.setCell ⟨p, 0, none⟩ (.int .i64 n)).setCell ⟨p, 1, none⟩ (.slice a xs.length c)).setCell ⟨p, 2, none⟩ (.string nt) → W'.ownsRow p 9 1 (.slice a xs.length c) xs.length (xs.map Value.string)) := by
              have hp : p < q + 1 := Nat.lt_succ_of_lt HPQ.out
              rintro _ rfl
              exact own_mono (own_set (own_set (own_set HOW.out hp) hp) hp) (Nat.le_of_lt hp)
            have c0 := cell_of_row _ _ 0 _ _ _ hbk
            have c1 := cell_of_row _ _ 1 _ _ _ hbk
            have c2 := cell_of_row _ _ 2 _ _ _ hbk
            have f0 := frozen_of_row _ _ 0 _ _ hbk
            have f1 := frozen_of_row _ _ 1 _ _ hbk
            have f2 := frozen_of_row _ _ 2 _ _ hbk
            clear hb1 hb2
            go_wp2
            have hfo := FO.out _ rfl
            obtain ⟨⟨d0, d1, d2⟩, hbl⟩ := FZ.out _ rfl
            refine bodyPost_ret (v := .tuple #[.agg #[.int .i64 n, .slice a xs.length c, .string nt], .int .i64 0]) (by simp [results, Tryd.results9, go_sem, d0, d1, d2]) rfl ⟨?_, FIN.out _ ((B4.out.mono (Nat.le_succ p)).trans (hbl _ (Nat.le_refl _)))⟩
            rw [HRR.out]
            exact ⟨a, c, rfl, by rw [HP.out]; exact hfo⟩
          · have HRR : Hid (R = none) := HNO.out (fun h => h1 h.1)
            clear HYES HNO HE HT
            clear HQT
            go_wp2_with fail
            rw [HV.out]
            clear v0 v1 v2
            refine CA.out.mono ?_
            rintro e w4 ⟨rfl, hb4⟩
            have B4 : Hid (Below (p + 1) W w4) := (RV.out.later hb4).low
            clear hb4
            have hbk := BK.out w4 B4.out
            have FZ : Hid (∀ W', W' = _ → _) := put3 w4 p _ _ _ (.int .i64 0) (.slice none 0 0) (.string ⟨#[]⟩) _ hbk
            have c0 := cell_of_row _ _ 0 _ _ _ hbk
            have c1 := cell_of_row _ _ 1 _ _ _ hbk
            have c2 := cell_of_row _ _ 2 _ _ _ hbk
            have f0 := frozen_of_row _ _ 0 _ _ hbk
            have f1 := frozen_of_row _ _ 1 _ _ hbk
            have f2 := frozen_of_row _ _ 2 _ _ hbk
            go_wp2
            obtain ⟨⟨d0, d1, d2⟩, hbl⟩ := FZ.out _ rfl
            exact bodyPost_ret (v := .tuple #[.agg #[.int .i64 0, .slice none 0 0, .string ⟨#[]⟩], .int .i64 13]) (by simp [results, Tryd.results9, go_sem, d0, d1, d2]) rfl ⟨by rw [HRR.out]; rfl, FIN.out _ ((B4.out.mono (Nat.le_succ p)).trans (hbl _ (Nat.le_refl _)))⟩
          · have HRR : Hid (R = none) := HNO.out (fun h => h2 h.2)
            clear HYES HNO HE HT
            rw [decide_eq_false h2] at HQT
            subst h1
            clear h2
            go_wp2_with fail
            rw [HV.out]
            clear v0 v1 v2
            refine CA.out.mono ?_
            rintro e w4 ⟨rfl, hb4⟩
            have B4 : Hid (Below (p + 1) W w4) := (RV.out.later hb4).low
            clear hb4
            have hbk := BK.out w4 B4.out
            have FZ : Hid (∀ W', W' = _ → _) := put3 w4 p _ _ _ (.int .i64 0) (.slice none 0 0) (.string ⟨#[]⟩) _ hbk
            have c0 := cell_of_row _ _ 0 _ _ _ hbk
            have c1 := cell_of_row _ _ 1 _ _ _ hbk
            have c2 := cell_of_row _ _ 2 _ _ _ hbk
            have f0 := frozen_of_row _ _ 0 _ _ hbk
            have f1 := frozen_of_row _ _ 1 _ _ hbk
            have f2 := frozen_of_row _ _ 2 _ _ hbk
            go_wp2
            obtain ⟨⟨d0, d1, d2⟩, hbl⟩ := FZ.out _ rfl
            exact bodyPost_ret (v := .tuple #[.agg #[.int .i64 0, .slice none 0 0, .string ⟨#[]⟩], .int .i64 13]) (by simp [results, Tryd.results9, go_sem, d0, d1, d2]) rfl ⟨by rw [HRR.out]; rfl, FIN.out _ ((B4.out.mono (Nat.le_succ p)).trans (hbl _ (Nat.le_refl _)))⟩
  · have hc' : cutF b nlB = false := by simpa using hc
    have HRR : Hid (R = none) := by show _ = _; rw [← HR.out, ← dc_as, dc_none b (gl_no b (.inl hc'))]
    rw [lnV_false b 0 (by rw [rst_zero]; exact hc')] at C1
    clear hc hc'
    go_enter Tryd.func9, Tryd.ntmps9
    go_wp2_with fail
    rw [HW.out]
    refine (C1.out _).mono ?_
    rintro e wz ⟨rfl, hz⟩
    rw [hz]
    clear hz wz
    rw [HP.out]
    have hbk := BK.out W BWW.out
    have FZ : Hid (∀ W', W' = _ → _) := put3 W p _ _ _ (.int .i64 0) (.slice none 0 0) (.string ⟨#[]⟩) _ hbk
    have c0 := cell_of_row _ _ 0 _ _ _ hbk
    have c1 := cell_of_row _ _ 1 _ _ _ hbk
    have c2 := cell_of_row _ _ 2 _ _ _ hbk
    have f0 := frozen_of_row _ _ 0 _ _ hbk
    have f1 := frozen_of_row _ _ 1 _ _ hbk
    have f2 := frozen_of_row _ _ 2 _ _ hbk
    go_wp2
    obtain ⟨⟨d0, d1, d2⟩, hbl⟩ := FZ.out _ rfl
    exact bodyPost_ret (v := .tuple #[.agg #[.int .i64 0, .slice none 0 0, .string ⟨#[]⟩], .int .i64 13]) (by simp [results, Tryd.results9, go_sem, d0, d1, d2]) rfl ⟨by rw [HRR.out]; rfl, FIN.out _ ((BWW.out.mono (Nat.le_succ p)).trans (hbl _ (Nat.le_refl _)))⟩
end Go.Proofs.YtpbapaghcabehaaDoor.c4
