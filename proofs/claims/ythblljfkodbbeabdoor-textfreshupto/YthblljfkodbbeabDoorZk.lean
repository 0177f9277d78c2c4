import Derived.Test.YthblljfkodbbeabDoorZj
namespace Go.Proofs.YthblljfkodbbeabDoor.zk
open Go.RowKit Go.PlainAid
open Go.Proofs.YthblljfkodbbeabDoor.ta Go.Proofs.YthblljfkodbbeabDoor.tb Go.Proofs.YthblljfkodbbeabDoor.tc Go.Proofs.YthblljfkodbbeabDoor.te Go.Proofs.YthblljfkodbbeabDoor.tj Go.Proofs.YthblljfkodbbeabDoor.va Go.Proofs.YthblljfkodbbeabDoor.vb Go.Proofs.YthblljfkodbbeabDoor.vc Go.Proofs.YthblljfkodbbeabDoor.ya Go.Proofs.YthblljfkodbbeabDoor.yb Go.Proofs.YthblljfkodbbeabDoor.za Go.Proofs.YthblljfkodbbeabDoor.zb Go.Proofs.YthblljfkodbbeabDoor.zc Go.Proofs.YthblljfkodbbeabDoor.ze Go.Proofs.YthblljfkodbbeabDoor.zf Go.Proofs.YthblljfkodbbeabDoor.zg Go.Proofs.YthblljfkodbbeabDoor.zd Go.Proofs.YthblljfkodbbeabDoor.zh Go.Proofs.YthblljfkodbbeabDoor.zi Go.Proofs.YthblljfkodbbeabDoor.zj
set_option linter.unusedVariables false

set_option maxHeartbeats 6400000 in
set_option maxRecDepth 100000 in
theorem text_fresh (s line : ByteArray) (w : World) (hz : s.size + line.size ≤ 1048576) :
    Calls Tryd.prog 4 #[.string s, .string line] w fun e w' => e = .returned (.bool true) ∧ Below w.heap.size w w' := by
  obtain ⟨i9, hi, hz0, hz1, hz2⟩ := info_parts hi9
  have HIN : Hid (_ ∧ _ ∧ _ ∧ _) := ⟨hi, hz0, hz1, hz2⟩
  clear hi hz0 hz1 hz2
  obtain ⟨Y, ec, hY, l1, l2⟩ := two_lines s (by omega)
  obtain ⟨Z, fc, hZ, m1, m2⟩ := two_words line (by omega)
  have L1 : Hid (∀ w, Calls _ _ _ _ _) := l1
  have L2 : Hid (∀ w, Calls _ _ _ _ _) := l2
  have M1 : Hid (∀ w, Calls _ _ _ _ _) := m1
  have M2 : Hid (∀ w, Calls _ _ _ _ _) := m2
  have AK1 : Hid (∀ w, Calls _ _ _ _ _) := fun w => asked s line (by omega) (by omega) w
  have AK2 : Hid (∀ w, Calls _ _ _ _ _) := fun w => asked2 s line (by omega) (by omega) w
  have SM : Hid (∀ (wx : World) (u v : Value) (X : List ByteArray), X.length ≤ 1048577 → Reads wx u X → Reads wx v X → Calls Tryd.prog 13 #[u, v] wx fun e w' => e = .returned (.bool true) ∧ ∃ m, w' = wx.drewN m) := fun wx u v X hX h1 h2 => same u v X wx h1 h2 (by omega)
  have MA : Hid (∀ (wx : World) (v : Value) (n : Nat) (X : ByteArray), n ≤ 1048581 → Reads wx v (List.replicate n X) → Calls Tryd.prog 16 #[v, .string X] wx fun e w' => e = .returned (.bool true) ∧ w' = wx) := fun wx v n X hn h => marked v _ X wx h (fun x hx => (List.mem_replicate.1 hx).2) (by rw [List.length_replicate]; omega)
  have HYL : Hid (Y.length ≤ 1048577) := hY
  have HZL : Hid (Z.length ≤ 1048577) := hZ
  clear l1 l2 m1 m2 hY hZ
  go_enter Tryd.func4, Tryd.ntmps4
  go_wp2_with fail
  refine (L1.out _).mono ?_
  rintro e w1 ⟨⟨a, rfl, ta⟩, hb⟩
  obtain ⟨aa, na, rfl⟩ := texts_form ta
  have TA : Hid (Texts w1 w.heap.size (Value.slice aa na na) Y) := ta
  have B1 : Hid (Below w.heap.size w w1) := hb
  clear hb ta
  go_wp2_with fail
  refine (M1.out _).mono ?_
  rintro e w2 ⟨⟨b, rfl, ta⟩, hb⟩
  obtain ⟨ab, nb, rfl⟩ := texts_form ta
  have TB : Hid (Texts w2 w1.heap.size (Value.slice ab nb nb) Z) := ta
  have B2 : Hid (Below w1.heap.size w1 w2) := hb
  clear hb ta
  go_wp2_with fail
  refine (L1.out _).mono ?_
  rintro e w3 ⟨⟨c, rfl, ta⟩, hb⟩
  obtain ⟨ac, nc, rfl⟩ := texts_form ta
  have TC : Hid (Texts w3 w2.heap.size (Value.slice ac nc nc) Y) := ta
  have B3 : Hid (Below w2.heap.size w2 w3) := hb
  clear hb ta
  go_wp2_with fail
  refine (L2.out _).mono ?_
  rintro e w4 ⟨⟨m, rfl, ob⟩, hb⟩
  obtain ⟨am, nm, cm, rfl⟩ := own_form ob
  have OM : Hid (w4.ownsRow w3.heap.size 9 1 (Value.slice am nm cm) Y.length (Y.map Value.string)) := ob
  have B4 : Hid (Below w3.heap.size w3 w4) := hb
  clear hb ob
  go_wp2_with fail
  refine (M2.out _).mono ?_
  rintro e w5 ⟨⟨q, rfl, ob⟩, hb⟩
  obtain ⟨ad, nd, cd, rfl⟩ := own_form ob
  have OD : Hid (w5.ownsRow w4.heap.size 9 1 (Value.slice ad nd cd) Z.length (Z.map Value.string)) := ob
  have B5 : Hid (Below w4.heap.size w4 w5) := hb
  clear hb ob
  have BW5 : Hid (Below w.heap.size w w5) := over (over (over (over B1.out B2.out) B3.out) B4.out) B5.out
  have F5 : Hid (Five w5 w.heap.size (Value.slice aa na na) (Value.slice ab nb nb) (Value.slice ac nc nc) (Value.slice am nm cm) (Value.slice ad nd cd) Y Z Y Y Z) := five B1.out TA.out B2.out TB.out B3.out TC.out B4.out OM.out B5.out OD.out (Below.refl _ _)
  clear TA TB TC OM OD B1 B2 B3 B4 B5
  go_wp2_with fail
  refine (SM.out _ _ _ Y HYL.out (Texts.reads F5.out.ta) (own_reads2 F5.out.om).1).mono ?_
  rintro e w6 ⟨rfl, k6, hk6⟩
  have B6 : Hid (Below w5.heap.size w5 w6) := by subst hk6; exact below_dN (Below.refl _ _) k6
  have F6 : Hid (Five w6 w.heap.size (Value.slice aa na na) (Value.slice ab nb nb) (Value.slice ac nc nc) (Value.slice am nm cm) (Value.slice ad nd cd) Y Z Y Y Z) := F5.out.later B6.out
  clear hk6 F5
  go_wp2_with fail
  refine (SM.out _ _ _ Z HZL.out (Texts.reads F6.out.tb) (own_reads2 F6.out.od).1).mono ?_
  rintro e w7 ⟨rfl, k7, hk7⟩
  have B7 : Hid (Below w6.heap.size w6 w7) := by subst hk7; exact below_dN (Below.refl _ _) k7
  have F7 : Hid (Five w7 w.heap.size (Value.slice aa na na) (Value.slice ab nb nb) (Value.slice ac nc nc) (Value.slice am nm cm) (Value.slice ad nd cd) Y Z Y Y Z) := F6.out.later B7.out
  clear hk7 F6
  go_wp2_with fail
  refine (SM.out _ _ _ Y HYL.out (Texts.reads F7.out.tc) (own_reads2 F7.out.om).1).mono ?_
  rintro e w8 ⟨rfl, k8, hk8⟩
  have B8 : Hid (Below w7.heap.size w7 w8) := by subst hk8; exact below_dN (Below.refl _ _) k8
  have F8 : Hid (Five w8 w.heap.size (Value.slice aa na na) (Value.slice ab nb nb) (Value.slice ac nc nc) (Value.slice am nm cm) (Value.slice ad nd cd) Y Z Y Y Z) := F7.out.later B8.out
  have BW8 : Hid (Below w.heap.size w w8) := over (over (over BW5.out B6.out) B7.out) B8.out
  clear hk8 F7 B6 B7 B8 BW5
  have HNA : Hid (Y.length = na) := (texts_olds F8.out.ta).1
  have HNB : Hid (Z.length = nb) := (texts_olds F8.out.tb).1
  have HNC : Hid (Y.length = nc) := (texts_olds F8.out.tc).1
  have hna : na ≤ 1048577 := by rw [← HNA.out]; exact HYL.out
  have hnb : nb ≤ 1048577 := by rw [← HNB.out]; exact HZL.out
  have hnc : nc ≤ 1048577 := by rw [← HNC.out]; exact HYL.out
  go_wp2
  go_loopw [18] (fun i wr => ∃ (k : Nat), k ≤ na ∧ i = .int .i64 k ∧ Hid (Five wr w.heap.size (Value.slice aa na na) (Value.slice ab nb nb) (Value.slice ac nc nc) (Value.slice am nm cm) (Value.slice ad nd cd) (fill (⟨#[111, 110, 101]⟩ : ByteArray) Y k) Z Y Y Z ∧ Below w.heap.size w wr)) (fun i _ => (na - intOf i).toNat)
  case atStart => exact ⟨0, by omega, rfl, (by rw [fill_zero]; exact F8.out), BW8.out⟩
  case round =>
    clear F8 BW8
    obtain ⟨k, hk, rfl, HL⟩ := hrel
    by_cases hlt : k < na
    · have hlt' : (k : Int) < na := by omega
      have hkx : k < Y.length := by rw [HNA.out]; exact hlt
      have hfl : (fill (⟨#[111, 110, 101]⟩ : ByteArray) Y k).length = na := (fill_len _ _ _ (Nat.le_of_lt hkx)).trans HNA.out
      obtain ⟨g, e, hW, c1, f1, st⟩ := HL.out.1.setA (k := k) (by rw [hfl]; exact hlt)
      rw [hfl] at e
      injection e with e1 e2 e3
      subst e1
      have ST := st (⟨#[111, 110, 101]⟩ : ByteArray)
      rw [fill_set _ _ _ hkx] at ST
      have HST : Hid (_ ∧ _) := ⟨ST, HL.out.2.trans (set_below wr w.heap.size g k (.string (⟨#[111, 110, 101]⟩ : ByteArray)) hW)⟩
      clear st ST e2 e3 hfl
      go_wp2
      go_roundw
      case rel => exact ⟨k + 1, by omega, by go_num, HST.out.1, HST.out.2⟩
      case measure => simp [intOf]; omega
    · have hlt' : ¬ (k : Int) < na := by omega
      obtain rfl : na = k := by omega
      obtain ⟨x1, rfl⟩ : ∃ wz, wz = wr := ⟨_, rfl⟩
      have G1 : Hid (Five x1 w.heap.size (Value.slice aa na na) (Value.slice ab nb nb) (Value.slice ac nc nc) (Value.slice am nm cm) (Value.slice ad nd cd) (List.replicate na (⟨#[111, 110, 101]⟩ : ByteArray)) Z Y Y Z) := by
        have h1 := HL.out.1
        have h2 := fill_end (⟨#[111, 110, 101]⟩ : ByteArray) Y
        rw [HNA.out] at h2
        rw [h2] at h1
        exact h1
      have H1 : Hid (Below w.heap.size w x1) := HL.out.2
      clear HL
      go_wp2
      go_loopw [19] (fun i wr => ∃ (k : Nat), k ≤ nb ∧ i = .int .i64 k ∧ Hid (Five wr w.heap.size (Value.slice aa na na) (Value.slice ab nb nb) (Value.slice ac nc nc) (Value.slice am nm cm) (Value.slice ad nd cd) (List.replicate na (⟨#[111, 110, 101]⟩ : ByteArray)) (fill (⟨#[116, 119, 111]⟩ : ByteArray) Z k) Y Y Z ∧ Below w.heap.size w wr)) (fun i _ => (nb - intOf i).toNat)
      case atStart => exact ⟨0, by omega, rfl, (by rw [fill_zero]; exact G1.out), H1.out⟩
      case round =>
        clear G1 H1
        obtain ⟨k, hk, rfl, HL⟩ := hrel
        by_cases hlt : k < nb
        · have hlt' : (k : Int) < nb := by omega
          have hkx : k < Z.length := by rw [HNB.out]; exact hlt
          have hfl : (fill (⟨#[116, 119, 111]⟩ : ByteArray) Z k).length = nb := (fill_len _ _ _ (Nat.le_of_lt hkx)).trans HNB.out
          obtain ⟨g, e, hW, c1, f1, st⟩ := HL.out.1.setB (k := k) (by rw [hfl]; exact hlt)
          rw [hfl] at e
          injection e with e1 e2 e3
          subst e1
          have ST := st (⟨#[116, 119, 111]⟩ : ByteArray)
          rw [fill_set _ _ _ hkx] at ST
          have HST : Hid (_ ∧ _) := ⟨ST, HL.out.2.trans (set_below wr w.heap.size g k (.string (⟨#[116, 119, 111]⟩ : ByteArray)) hW)⟩
          clear st ST e2 e3 hfl
          go_wp2
          go_roundw
          case rel => exact ⟨k + 1, by omega, by go_num, HST.out.1, HST.out.2⟩
          case measure => simp [intOf]; omega
        · have hlt' : ¬ (k : Int) < nb := by omega
          obtain rfl : nb = k := by omega
          obtain ⟨x2, rfl⟩ : ∃ wz, wz = wr := ⟨_, rfl⟩
          have G2 : Hid (Five x2 w.heap.size (Value.slice aa na na) (Value.slice ab nb nb) (Value.slice ac nc nc) (Value.slice am nm cm) (Value.slice ad nd cd) (List.replicate na (⟨#[111, 110, 101]⟩ : ByteArray)) (List.replicate nb (⟨#[116, 119, 111]⟩ : ByteArray)) Y Y Z) := by
            have h1 := HL.out.1
            have h2 := fill_end (⟨#[116, 119, 111]⟩ : ByteArray) Z
            rw [HNB.out] at h2
            rw [h2] at h1
            exact h1
          have H2 : Hid (Below w.heap.size w x2) := HL.out.2
          clear HL
          go_wp2
          go_loopw [20] (fun i wr => ∃ (k : Nat), k ≤ nc ∧ i = .int .i64 k ∧ Hid (Five wr w.heap.size (Value.slice aa na na) (Value.slice ab nb nb) (Value.slice ac nc nc) (Value.slice am nm cm) (Value.slice ad nd cd) (List.replicate na (⟨#[111, 110, 101]⟩ : ByteArray)) (List.replicate nb (⟨#[116, 119, 111]⟩ : ByteArray)) (fill (⟨#[116, 104, 114, 101, 101]⟩ : ByteArray) Y k) Y Z ∧ Below w.heap.size w wr)) (fun i _ => (nc - intOf i).toNat)
          case atStart => exact ⟨0, by omega, rfl, (by rw [fill_zero]; exact G2.out), H2.out⟩
          case round =>
            clear G2 H2
            obtain ⟨k, hk, rfl, HL⟩ := hrel
            by_cases hlt : k < nc
            · have hlt' : (k : Int) < nc := by omega
              have hkx : k < Y.length := by rw [HNC.out]; exact hlt
              have hfl : (fill (⟨#[116, 104, 114, 101, 101]⟩ : ByteArray) Y k).length = nc := (fill_len _ _ _ (Nat.le_of_lt hkx)).trans HNC.out
              obtain ⟨g, e, hW, c1, f1, st⟩ := HL.out.1.setC (k := k) (by rw [hfl]; exact hlt)
              rw [hfl] at e
              injection e with e1 e2 e3
              subst e1
              have ST := st (⟨#[116, 104, 114, 101, 101]⟩ : ByteArray)
              rw [fill_set _ _ _ hkx] at ST
              have HST : Hid (_ ∧ _) := ⟨ST, HL.out.2.trans (set_below wr w.heap.size g k (.string (⟨#[116, 104, 114, 101, 101]⟩ : ByteArray)) hW)⟩
              clear st ST e2 e3 hfl
              go_wp2
              go_roundw
              case rel => exact ⟨k + 1, by omega, by go_num, HST.out.1, HST.out.2⟩
              case measure => simp [intOf]; omega
            · have hlt' : ¬ (k : Int) < nc := by omega
              obtain rfl : nc = k := by omega
              obtain ⟨x3, rfl⟩ : ∃ wz, wz = wr := ⟨_, rfl⟩
              have G3 : Hid (Five x3 w.heap.size (Value.slice aa na na) (Value.slice ab nb nb) (Value.slice ac nc nc) (Value.slice am nm cm) (Value.slice ad nd cd) (List.replicate na (⟨#[111, 110, 101]⟩ : ByteArray)) (List.replicate nb (⟨#[116, 119, 111]⟩ : ByteArray)) (List.replicate nc (⟨#[116, 104, 114, 101, 101]⟩ : ByteArray)) Y Z) := by
                have h1 := HL.out.1
                have h2 := fill_end (⟨#[116, 104, 114, 101, 101]⟩ : ByteArray) Y
                rw [HNC.out] at h2
                rw [h2] at h1
                exact h1
              have H3 : Hid (Below w.heap.size w x3) := HL.out.2
              clear HL
              have BX1 : Hid (Below x3.heap.size x3 (x3.alloc (.cells #[.string (⟨#[111, 110, 101]⟩ : ByteArray), .string (⟨#[111, 110, 101]⟩ : ByteArray), .string (⟨#[111, 110, 101]⟩ : ByteArray), .string (⟨#[111, 110, 101]⟩ : ByteArray)] 9))) := (Below.refl _ _).alloc (Nat.le_refl _) _
              have FX1 : Hid (Five (x3.alloc (.cells #[.string (⟨#[111, 110, 101]⟩ : ByteArray), .string (⟨#[111, 110, 101]⟩ : ByteArray), .string (⟨#[111, 110, 101]⟩ : ByteArray), .string (⟨#[111, 110, 101]⟩ : ByteArray)] 9)) w.heap.size (Value.slice aa na na) (Value.slice ab nb nb) (Value.slice ac nc nc) (Value.slice am nm cm) (Value.slice ad nd cd) (List.replicate na (⟨#[111, 110, 101]⟩ : ByteArray)) (List.replicate nb (⟨#[116, 119, 111]⟩ : ByteArray)) (List.replicate nc (⟨#[116, 104, 114, 101, 101]⟩ : ByteArray)) Y Z) := G3.out.later BX1.out
              have BB1 : Hid (Below w.heap.size w (x3.alloc (.cells #[.string (⟨#[111, 110, 101]⟩ : ByteArray), .string (⟨#[111, 110, 101]⟩ : ByteArray), .string (⟨#[111, 110, 101]⟩ : ByteArray), .string (⟨#[111, 110, 101]⟩ : ByteArray)] 9))) := over H3.out BX1.out
              obtain ⟨e1, e2, e3⟩ := texts_olds FX1.out.ta
              have HNO1 : Hid (_ → _ ∧ _) := e2
              have HOL1 : Hid (∀ b, aa = some b → ∀ (j : Nat) (u : Value), ((List.replicate na (⟨#[111, 110, 101]⟩ : ByteArray)).map Value.string)[j]? = some u → (x3.alloc (.cells #[.string (⟨#[111, 110, 101]⟩ : ByteArray), .string (⟨#[111, 110, 101]⟩ : ByteArray), .string (⟨#[111, 110, 101]⟩ : ByteArray), .string (⟨#[111, 110, 101]⟩ : ByteArray)] 9)).cell? (b.add j) = some u) := e3
              have HLN1 : Hid (((List.replicate na (⟨#[111, 110, 101]⟩ : ByteArray)).map Value.string).length = na * 1) := by show _ = _; simp
              have HFC1 : Hid (∀ (j : Nat) (u : Value), (four (⟨#[111, 110, 101]⟩ : ByteArray))[j]? = some u → (x3.alloc (.cells #[.string (⟨#[111, 110, 101]⟩ : ByteArray), .string (⟨#[111, 110, 101]⟩ : ByteArray), .string (⟨#[111, 110, 101]⟩ : ByteArray), .string (⟨#[111, 110, 101]⟩ : ByteArray)] 9)).cell? (Addr.add ⟨x3.heap.size, 0, none⟩ j) = some u) := four_cells x3 (⟨#[111, 110, 101]⟩ : ByteArray)
              have HF11 : Hid (∀ u ∈ four (⟨#[111, 110, 101]⟩ : ByteArray), u.oneCell' = true) := four_one (⟨#[111, 110, 101]⟩ : ByteArray)
              clear e1 e2 e3
              go_upto_region 24 with (at_builtin; refine wpList_append_grows _ rfl _ _ 29 rfl 9 i9 (.string ByteArray.empty) 1 16 Tryd.underlying29 HIN.out.1 HIN.out.2.1 HIN.out.2.2.1 HIN.out.2.2.2 rfl (by decide) aa na na ((List.replicate na (⟨#[111, 110, 101]⟩ : ByteArray)).map Value.string) rfl HNO1.out HLN1.out HOL1.out ⟨x3.heap.size, 0, none⟩ 4 4 (four (⟨#[111, 110, 101]⟩ : ByteArray)) rfl rfl HFC1.out HF11.out (by omega) (by unfold maxLen; omega) (by omega) ?_; intro p y1 hown hgrow; have OP1 : Hid (y1.ownsRow w.heap.size 9 1 p (na + 4) ((List.replicate (na + 4) (⟨#[111, 110, 101]⟩ : ByteArray)).map Value.string)) := (four_rep (⟨#[111, 110, 101]⟩ : ByteArray) na) ▸ own_down hown BB1.out.size; have BG1 : Hid (Below (x3.alloc (.cells #[.string (⟨#[111, 110, 101]⟩ : ByteArray), .string (⟨#[111, 110, 101]⟩ : ByteArray), .string (⟨#[111, 110, 101]⟩ : ByteArray), .string (⟨#[111, 110, 101]⟩ : ByteArray)] 9)).heap.size (x3.alloc (.cells #[.string (⟨#[111, 110, 101]⟩ : ByteArray), .string (⟨#[111, 110, 101]⟩ : ByteArray), .string (⟨#[111, 110, 101]⟩ : ByteArray), .string (⟨#[111, 110, 101]⟩ : ByteArray)] 9)) y1) := Below.grown (Below.refl _ _) hgrow (Nat.le_refl _) (fun j hj => by cases hj); clear hown hgrow)
              have BN1 : Hid (Below x3.heap.size x3 y1) := over BX1.out BG1.out
              have F1n : Hid (Five y1 w.heap.size (Value.slice aa na na) (Value.slice ab nb nb) (Value.slice ac nc nc) (Value.slice am nm cm) (Value.slice ad nd cd) (List.replicate na (⟨#[111, 110, 101]⟩ : ByteArray)) (List.replicate nb (⟨#[116, 119, 111]⟩ : ByteArray)) (List.replicate nc (⟨#[116, 104, 114, 101, 101]⟩ : ByteArray)) Y Z) := FX1.out.later BG1.out
              have B1n : Hid (Below w.heap.size w y1) := over BB1.out BG1.out
              clear BX1 FX1 BB1 HNO1 HOL1 HLN1 HFC1 HF11 BG1
              clear G3 H3 BN1
              have BX2 : Hid (Below y1.heap.size y1 (y1.alloc (.cells #[.string (⟨#[116, 119, 111]⟩ : ByteArray), .string (⟨#[116, 119, 111]⟩ : ByteArray), .string (⟨#[116, 119, 111]⟩ : ByteArray), .string (⟨#[116, 119, 111]⟩ : ByteArray)] 9))) := (Below.refl _ _).alloc (Nat.le_refl _) _
              have FX2 : Hid (Five (y1.alloc (.cells #[.string (⟨#[116, 119, 111]⟩ : ByteArray), .string (⟨#[116, 119, 111]⟩ : ByteArray), .string (⟨#[116, 119, 111]⟩ : ByteArray), .string (⟨#[116, 119, 111]⟩ : ByteArray)] 9)) w.heap.size (Value.slice aa na na) (Value.slice ab nb nb) (Value.slice ac nc nc) (Value.slice am nm cm) (Value.slice ad nd cd) (List.replicate na (⟨#[111, 110, 101]⟩ : ByteArray)) (List.replicate nb (⟨#[116, 119, 111]⟩ : ByteArray)) (List.replicate nc (⟨#[116, 104, 114, 101, 101]⟩ : ByteArray)) Y Z) := F1n.out.later BX2.out
              have BB2 : Hid (Below w.heap.size w (y1.alloc (.cells #[.string (⟨#[116, 119, 111]⟩ : ByteArray), .string (⟨#[116, 119, 111]⟩ : ByteArray), .string (⟨#[116, 119, 111]⟩ : ByteArray), .string (⟨#[116, 119, 111]⟩ : ByteArray)] 9))) := over B1n.out BX2.out
              obtain ⟨e1, e2, e3⟩ := texts_olds FX2.out.tb
              have HNO2 : Hid (_ → _ ∧ _) := e2
              have HOL2 : Hid (∀ b, ab = some b → ∀ (j : Nat) (u : Value), ((List.replicate nb (⟨#[116, 119, 111]⟩ : ByteArray)).map Value.string)[j]? = some u → (y1.alloc (.cells #[.string (⟨#[116, 119, 111]⟩ : ByteArray), .string (⟨#[116, 119, 111]⟩ : ByteArray), .string (⟨#[116, 119, 111]⟩ : ByteArray), .string (⟨#[116, 119, 111]⟩ : ByteArray)] 9)).cell? (b.add j) = some u) := e3
              have HLN2 : Hid (((List.replicate nb (⟨#[116, 119, 111]⟩ : ByteArray)).map Value.string).length = nb * 1) := by show _ = _; simp
              have HFC2 : Hid (∀ (j : Nat) (u : Value), (four (⟨#[116, 119, 111]⟩ : ByteArray))[j]? = some u → (y1.alloc (.cells #[.string (⟨#[116, 119, 111]⟩ : ByteArray), .string (⟨#[116, 119, 111]⟩ : ByteArray), .string (⟨#[116, 119, 111]⟩ : ByteArray), .string (⟨#[116, 119, 111]⟩ : ByteArray)] 9)).cell? (Addr.add ⟨y1.heap.size, 0, none⟩ j) = some u) := four_cells y1 (⟨#[116, 119, 111]⟩ : ByteArray)
              have HF12 : Hid (∀ u ∈ four (⟨#[116, 119, 111]⟩ : ByteArray), u.oneCell' = true) := four_one (⟨#[116, 119, 111]⟩ : ByteArray)
              clear e1 e2 e3
              go_upto_region 25 with (at_builtin; refine wpList_append_grows _ rfl _ _ 29 rfl 9 i9 (.string ByteArray.empty) 1 16 Tryd.underlying29 HIN.out.1 HIN.out.2.1 HIN.out.2.2.1 HIN.out.2.2.2 rfl (by decide) ab nb nb ((List.replicate nb (⟨#[116, 119, 111]⟩ : ByteArray)).map Value.string) rfl HNO2.out HLN2.out HOL2.out ⟨y1.heap.size, 0, none⟩ 4 4 (four (⟨#[116, 119, 111]⟩ : ByteArray)) rfl rfl HFC2.out HF12.out (by omega) (by unfold maxLen; omega) (by omega) ?_; intro q y2 hown hgrow; have OP2 : Hid (y2.ownsRow w.heap.size 9 1 q (nb + 4) ((List.replicate (nb + 4) (⟨#[116, 119, 111]⟩ : ByteArray)).map Value.string)) := (four_rep (⟨#[116, 119, 111]⟩ : ByteArray) nb) ▸ own_down hown BB2.out.size; have BG2 : Hid (Below (y1.alloc (.cells #[.string (⟨#[116, 119, 111]⟩ : ByteArray), .string (⟨#[116, 119, 111]⟩ : ByteArray), .string (⟨#[116, 119, 111]⟩ : ByteArray), .string (⟨#[116, 119, 111]⟩ : ByteArray)] 9)).heap.size (y1.alloc (.cells #[.string (⟨#[116, 119, 111]⟩ : ByteArray), .string (⟨#[116, 119, 111]⟩ : ByteArray), .string (⟨#[116, 119, 111]⟩ : ByteArray), .string (⟨#[116, 119, 111]⟩ : ByteArray)] 9)) y2) := Below.grown (Below.refl _ _) hgrow (Nat.le_refl _) (fun j hj => by cases hj); clear hown hgrow)
              have BN2 : Hid (Below y1.heap.size y1 y2) := over BX2.out BG2.out
              have F2n : Hid (Five y2 w.heap.size (Value.slice aa na na) (Value.slice ab nb nb) (Value.slice ac nc nc) (Value.slice am nm cm) (Value.slice ad nd cd) (List.replicate na (⟨#[111, 110, 101]⟩ : ByteArray)) (List.replicate nb (⟨#[116, 119, 111]⟩ : ByteArray)) (List.replicate nc (⟨#[116, 104, 114, 101, 101]⟩ : ByteArray)) Y Z) := FX2.out.later BG2.out
              have B2n : Hid (Below w.heap.size w y2) := over BB2.out BG2.out
              clear BX2 FX2 BB2 HNO2 HOL2 HLN2 HFC2 HF12 BG2
              have OP1b : Hid (y2.ownsRow w.heap.size 9 1 p (na + 4) ((List.replicate (na + 4) (⟨#[111, 110, 101]⟩ : ByteArray)).map Value.string)) := own_later OP1.out BN2.out
              clear F1n B1n BN2 OP1
              have BX3 : Hid (Below y2.heap.size y2 (y2.alloc (.cells #[.string (⟨#[116, 104, 114, 101, 101]⟩ : ByteArray), .string (⟨#[116, 104, 114, 101, 101]⟩ : ByteArray), .string (⟨#[116, 104, 114, 101, 101]⟩ : ByteArray), .string (⟨#[116, 104, 114, 101, 101]⟩ : ByteArray)] 9))) := (Below.refl _ _).alloc (Nat.le_refl _) _
              have FX3 : Hid (Five (y2.alloc (.cells #[.string (⟨#[116, 104, 114, 101, 101]⟩ : ByteArray), .string (⟨#[116, 104, 114, 101, 101]⟩ : ByteArray), .string (⟨#[116, 104, 114, 101, 101]⟩ : ByteArray), .string (⟨#[116, 104, 114, 101, 101]⟩ : ByteArray)] 9)) w.heap.size (Value.slice aa na na) (Value.slice ab nb nb) (Value.slice ac nc nc) (Value.slice am nm cm) (Value.slice ad nd cd) (List.replicate na (⟨#[111, 110, 101]⟩ : ByteArray)) (List.replicate nb (⟨#[116, 119, 111]⟩ : ByteArray)) (List.replicate nc (⟨#[116, 104, 114, 101, 101]⟩ : ByteArray)) Y Z) := F2n.out.later BX3.out
              have BB3 : Hid (Below w.heap.size w (y2.alloc (.cells #[.string (⟨#[116, 104, 114, 101, 101]⟩ : ByteArray), .string (⟨#[116, 104, 114, 101, 101]⟩ : ByteArray), .string (⟨#[116, 104, 114, 101, 101]⟩ : ByteArray), .string (⟨#[116, 104, 114, 101, 101]⟩ : ByteArray)] 9))) := over B2n.out BX3.out
              obtain ⟨e1, e2, e3⟩ := texts_olds FX3.out.tc
              have HNO3 : Hid (_ → _ ∧ _) := e2
              have HOL3 : Hid (∀ b, ac = some b → ∀ (j : Nat) (u : Value), ((List.replicate nc (⟨#[116, 104, 114, 101, 101]⟩ : ByteArray)).map Value.string)[j]? = some u → (y2.alloc (.cells #[.string (⟨#[116, 104, 114, 101, 101]⟩ : ByteArray), .string (⟨#[116, 104, 114, 101, 101]⟩ : ByteArray), .string (⟨#[116, 104, 114, 101, 101]⟩ : ByteArray), .string (⟨#[116, 104, 114, 101, 101]⟩ : ByteArray)] 9)).cell? (b.add j) = some u) := e3
              have HLN3 : Hid (((List.replicate nc (⟨#[116, 104, 114, 101, 101]⟩ : ByteArray)).map Value.string).length = nc * 1) := by show _ = _; simp
              have HFC3 : Hid (∀ (j : Nat) (u : Value), (four (⟨#[116, 104, 114, 101, 101]⟩ : ByteArray))[j]? = some u → (y2.alloc (.cells #[.string (⟨#[116, 104, 114, 101, 101]⟩ : ByteArray), .string (⟨#[116, 104, 114, 101, 101]⟩ : ByteArray), .string (⟨#[116, 104, 114, 101, 101]⟩ : ByteArray), .string (⟨#[116, 104, 114, 101, 101]⟩ : ByteArray)] 9)).cell? (Addr.add ⟨y2.heap.size, 0, none⟩ j) = some u) := four_cells y2 (⟨#[116, 104, 114, 101, 101]⟩ : ByteArray)
              have HF13 : Hid (∀ u ∈ four (⟨#[116, 104, 114, 101, 101]⟩ : ByteArray), u.oneCell' = true) := four_one (⟨#[116, 104, 114, 101, 101]⟩ : ByteArray)
              clear e1 e2 e3
              go_upto_region 26 with (at_builtin; refine wpList_append_grows _ rfl _ _ 29 rfl 9 i9 (.string ByteArray.empty) 1 16 Tryd.underlying29 HIN.out.1 HIN.out.2.1 HIN.out.2.2.1 HIN.out.2.2.2 rfl (by decide) ac nc nc ((List.replicate nc (⟨#[116, 104, 114, 101, 101]⟩ : ByteArray)).map Value.string) rfl HNO3.out HLN3.out HOL3.out ⟨y2.heap.size, 0, none⟩ 4 4 (four (⟨#[116, 104, 114, 101, 101]⟩ : ByteArray)) rfl rfl HFC3.out HF13.out (by omega) (by unfold maxLen; omega) (by omega) ?_; intro r y3 hown hgrow; have OP3 : Hid (y3.ownsRow w.heap.size 9 1 r (nc + 4) ((List.replicate (nc + 4) (⟨#[116, 104, 114, 101, 101]⟩ : ByteArray)).map Value.string)) := (four_rep (⟨#[116, 104, 114, 101, 101]⟩ : ByteArray) nc) ▸ own_down hown BB3.out.size; have BG3 : Hid (Below (y2.alloc (.cells #[.string (⟨#[116, 104, 114, 101, 101]⟩ : ByteArray), .string (⟨#[116, 104, 114, 101, 101]⟩ : ByteArray), .string (⟨#[116, 104, 114, 101, 101]⟩ : ByteArray), .string (⟨#[116, 104, 114, 101, 101]⟩ : ByteArray)] 9)).heap.size (y2.alloc (.cells #[.string (⟨#[116, 104, 114, 101, 101]⟩ : ByteArray), .string (⟨#[116, 104, 114, 101, 101]⟩ : ByteArray), .string (⟨#[116, 104, 114, 101, 101]⟩ : ByteArray), .string (⟨#[116, 104, 114, 101, 101]⟩ : ByteArray)] 9)) y3) := Below.grown (Below.refl _ _) hgrow (Nat.le_refl _) (fun j hj => by cases hj); clear hown hgrow)
              have BN3 : Hid (Below y2.heap.size y2 y3) := over BX3.out BG3.out
              have F3n : Hid (Five y3 w.heap.size (Value.slice aa na na) (Value.slice ab nb nb) (Value.slice ac nc nc) (Value.slice am nm cm) (Value.slice ad nd cd) (List.replicate na (⟨#[111, 110, 101]⟩ : ByteArray)) (List.replicate nb (⟨#[116, 119, 111]⟩ : ByteArray)) (List.replicate nc (⟨#[116, 104, 114, 101, 101]⟩ : ByteArray)) Y Z) := FX3.out.later BG3.out
              have B3n : Hid (Below w.heap.size w y3) := over BB3.out BG3.out
              clear BX3 FX3 BB3 HNO3 HOL3 HLN3 HFC3 HF13 BG3
              have OP1c : Hid (y3.ownsRow w.heap.size 9 1 p (na + 4) ((List.replicate (na + 4) (⟨#[111, 110, 101]⟩ : ByteArray)).map Value.string)) := own_later OP1b.out BN3.out
              have OP2c : Hid (y3.ownsRow w.heap.size 9 1 q (nb + 4) ((List.replicate (nb + 4) (⟨#[116, 119, 111]⟩ : ByteArray)).map Value.string)) := own_later OP2.out BN3.out
              clear F2n B2n BN3 OP1b OP2
              go_wp2_with fail
              refine (L1.out _).mono ?_
              rintro e z1 ⟨⟨l, rfl, ta⟩, hb⟩
              have TL : Hid (Reads z1 l Y) := Texts.reads ta
              have D1 : Hid (Below y3.heap.size y3 z1) := hb
              clear hb ta
              go_wp2_with fail
              refine (M1.out _).mono ?_
              rintro e z2 ⟨⟨kk, rfl, ta⟩, hb⟩
              have TK : Hid (Reads z2 kk Z) := Texts.reads ta
              have TL2 : Hid (Reads z2 l Y) := TL.out.later hb
              have D2 : Hid (Below y3.heap.size y3 z2) := over D1.out hb
              clear hb ta TL D1
              go_wp2_with fail
              refine (SM.out _ _ _ Y HYL.out TL2.out (own_reads2 (F3n.out.later D2.out).om).1).mono ?_
              rintro e z3 ⟨rfl, k3, hk3⟩
              have E3 : Hid (Below z2.heap.size z2 z3) := by subst hk3; exact below_dN (Below.refl _ _) k3
              have D3 : Hid (Below y3.heap.size y3 z3) := over D2.out E3.out
              clear hk3
              go_wp2_with fail
              refine (SM.out _ _ _ Z HZL.out (TK.out.later E3.out) (own_reads2 (F3n.out.later D3.out).od).1).mono ?_
              rintro e z4 ⟨rfl, k4, hk4⟩
              have E4 : Hid (Below z3.heap.size z3 z4) := by subst hk4; exact below_dN (Below.refl _ _) k4
              have D4 : Hid (Below y3.heap.size y3 z4) := over D3.out E4.out
              have F4 : Hid (Five z4 w.heap.size (Value.slice aa na na) (Value.slice ab nb nb) (Value.slice ac nc nc) (Value.slice am nm cm) (Value.slice ad nd cd) (List.replicate na (⟨#[111, 110, 101]⟩ : ByteArray)) (List.replicate nb (⟨#[116, 119, 111]⟩ : ByteArray)) (List.replicate nc (⟨#[116, 104, 114, 101, 101]⟩ : ByteArray)) Y Z) := F3n.out.later D4.out
              have OPz : Hid (Reads z4 p (List.replicate (na + 4) (⟨#[111, 110, 101]⟩ : ByteArray))) := (own_reads2 OP1c.out).1.later D4.out
              have OQz : Hid (Reads z4 q (List.replicate (nb + 4) (⟨#[116, 119, 111]⟩ : ByteArray))) := (own_reads2 OP2c.out).1.later D4.out
              have ORz : Hid (Reads z4 r (List.replicate (nc + 4) (⟨#[116, 104, 114, 101, 101]⟩ : ByteArray))) := (own_reads2 OP3.out).1.later D4.out
              have BZ : Hid (Below w.heap.size w z4) := over B3n.out D4.out
              clear hk4 TK TL2 D2 D3 E3 E4 D4 F3n B3n OP1c OP2c OP3
              go_wp2_with fail
              refine (MA.out _ _ na (⟨#[111, 110, 101]⟩ : ByteArray) (by omega) (Texts.reads F4.out.ta)).mono ?_
              rintro e wm ⟨rfl, hwm⟩
              subst hwm
              go_wp2_with fail
              refine (MA.out _ _ (na + 4) (⟨#[111, 110, 101]⟩ : ByteArray) (by omega) OPz.out).mono ?_
              rintro e wm ⟨rfl, hwm⟩
              subst hwm
              go_wp2_with fail
              refine (MA.out _ _ nb (⟨#[116, 119, 111]⟩ : ByteArray) (by omega) (Texts.reads F4.out.tb)).mono ?_
              rintro e wm ⟨rfl, hwm⟩
              subst hwm
              go_wp2_with fail
              refine (MA.out _ _ (nb + 4) (⟨#[116, 119, 111]⟩ : ByteArray) (by omega) OQz.out).mono ?_
              rintro e wm ⟨rfl, hwm⟩
              subst hwm
              go_wp2_with fail
              refine (MA.out _ _ nc (⟨#[116, 104, 114, 101, 101]⟩ : ByteArray) (by omega) (Texts.reads F4.out.tc)).mono ?_
              rintro e wm ⟨rfl, hwm⟩
              subst hwm
              go_wp2_with fail
              refine (MA.out _ _ (nc + 4) (⟨#[116, 104, 114, 101, 101]⟩ : ByteArray) (by omega) ORz.out).mono ?_
              rintro e wm ⟨rfl, hwm⟩
              subst hwm
              go_wp2_with fail
              refine (AK1.out _).mono ?_
              rintro e z5 ⟨rfl, hb⟩
              have E5 : Hid (Below w.heap.size w z5) := over BZ.out hb
              clear hb
              go_wp2_with fail
              refine (AK2.out _).mono ?_
              rintro e z6 ⟨rfl, hb⟩
              have E6 : Hid (Below w.heap.size w z6) := over E5.out hb
              clear hb
              go_wp2
              go_ret
              exact ⟨rfl, E6.out⟩
end Go.Proofs.YthblljfkodbbeabDoor.zk
