import Derived.Test.YtmgkfkfmiddanaaDoorMu
import Derived.Deep.RegionWith
namespace Go.Proofs.YtmgkfkfmiddanaaDoor.mv
open Go.RowKit Go.PlainAid
open Go.Proofs.YtmgkfkfmiddanaaDoor.pl Go.Proofs.YtmgkfkfmiddanaaDoor.pd Go.Proofs.YtmgkfkfmiddanaaDoor.pf Go.Proofs.YtmgkfkfmiddanaaDoor.ft Go.Proofs.YtmgkfkfmiddanaaDoor.pj Go.Proofs.YtmgkfkfmiddanaaDoor.mo Go.Proofs.YtmgkfkfmiddanaaDoor.mt Go.Proofs.YtmgkfkfmiddanaaDoor.mu
set_option linter.unusedVariables false

theorem mac_some (key msg : ByteArray) : (macF key msg).toList.isEmpty = false := by
  have h := macF_size key msg
  rw [ByteArray.toList_eq]
  have h2 : (macF key msg).data.toList.length = 32 := h
  cases e : (macF key msg).data.toList with
  | nil => rw [e] at h2; exact absurd h2 (by decide)
  | cons => rfl

set_option maxHeartbeats 1600000 in
theorem chain_no {Tb : World → Prop} (W : DW Tb) (key label : ByteArray) (n m : Int) (w : World) (ht : Tb w) (h : n < 0 ∨ m < 0 ∨ 8160 < n ∨ 8160 < m) :
    Calls Tryd.prog 4 #[.string key, .string label, .int .i64 n, .int .i64 m] w fun e w' => e = .returned (.bool true) ∧ Below w.heap.size w w' := by
  have T0 : Hid (Tb w) := ht
  clear ht
  have C : Hid (Calls _ _ _ _ _) := W.no key label (-1) w T0.out (.inl (by omega))
  have tail : ∀ d1 d2 d3 d4 : Bool, decide (n < 0) = d1 → decide (m < 0) = d2 → decide (8160 < n) = d3 → decide (8160 < m) = d4 → (d1 || d2 || d3 || d4) = true →
      Calls Tryd.prog 4 #[.string key, .string label, .int .i64 n, .int .i64 m] w fun e w' => e = .returned (.bool true) ∧ Below w.heap.size w w' := by
    clear h
    intro d1 d2 d3 d4 e1 e2 e3 e4 he
    cases d1 <;> cases d2 <;> cases d3 <;> cases d4 <;> first | (exact absurd he (by decide)) | (
      clear he
      go_enter Tryd.func4, Tryd.ntmps4
      go_wp2_with fail
      refine C.out.mono ?_
      rintro e w1 ⟨rfl, hb1⟩
      have B1 : Hid (Below w.heap.size w w1) := hb1
      clear hb1
      go_wp2
      go_ret
      exact ⟨rfl, B1.out⟩)
  refine tail _ _ _ _ rfl rfl rfl rfl ?_
  simp only [Bool.or_eq_true, decide_eq_true_eq]
  omega

set_option maxHeartbeats 1600000 in
theorem chain {Tb : World → Prop} (W : DW Tb) (key label : ByteArray) (A B n m : Nat) (w : World) (ht : Tb w) (hk : key.size ≤ 140737488351232) (hl : label.size ≤ 140737488351232) (hB : B ≤ 8160) (hAB : A ≤ B) (hnm : Hid (n ≤ m ∧ n = A ∧ m = B ∨ m < n ∧ n = B ∧ m = A)) :
    Calls Tryd.prog 4 #[.string key, .string label, .int .i64 n, .int .i64 m] w fun e w' => e = .returned (.bool true) ∧ Below w.heap.size w w' := by
  have T0 : Hid (Tb w) := ht
  clear ht
  have D : Hid (∀ w', Below w.heap.size w w' → Tb w') := fun w' b => W.down _ _ T0.out b
  have CA : Hid (∀ w', Tb w' → Calls _ _ _ _ _) := fun w' t => W.der key label A w' t (by omega) (by omega) (by omega)
  have CB : Hid (∀ w', Tb w' → Calls _ _ _ _ _) := fun w' t => W.der key label B w' t (by omega) (by omega) (by omega)
  have zs := derF_size key label A
  have zt := derF_size key label B
  have hpre := derF_pre key label A B hAB
  have HLS : Hid (∀ i, 32 * (i + 1) ≤ B → (derF key label B).extract (32 * i) (32 * (i + 1)) = lastF key label (i + 1)) := derF_last key label B
  generalize derF key label A = s at *
  generalize derF key label B = t at *
  have CE : Hid (∀ w', Tb w' → Calls _ _ _ _ _) := fun w' t => W.sum key ⟨#[]⟩ w' t (by omega) (by show (0 : Nat) ≤ _; omega)
  have hne := mac_some key ⟨#[]⟩
  generalize macF key ⟨#[]⟩ = last at *
  rcases hnm.out with ⟨h1, rfl, rfl⟩ | ⟨h1, rfl, rfl⟩
  · have g1 : ¬ (n : Int) < 0 := by omega
    have g2 : ¬ (m : Int) < 0 := by omega
    have g3 : ¬ (n : Int) > 8160 := by omega
    have g4 : ¬ (m : Int) > 8160 := by omega
    have g5 : ¬ (n : Int) > m := by omega
    clear hnm
    go_enter Tryd.func4, Tryd.ntmps4
    go_wp2_with fail
    refine (CA.out _ T0.out).mono ?_
    rintro e w1 ⟨rfl, hb1⟩
    have B1 : Hid (Below w.heap.size w w1) := hb1
    clear hb1
    go_wp2_with fail
    refine (CB.out _ (D.out _ B1.out)).mono ?_
    rintro e w2 ⟨rfl, hb2⟩
    have B2 : Hid (Below w.heap.size w w2) := B1.out.trans (hb2.mono B1.out.size)
    clear hb2
    go_wp2_with fail
    go_loopw [15, 16] (fun l j wr => ∃ i c : Nat, i ≤ 255 ∧ Hid (c = i + 1) ∧ j = .int .i64 (c : Int) ∧ l = .string (lastF key label i) ∧ Hid (Below w.heap.size w wr)) (fun _ j _ => (257 - intOf j).toNat)
    case atStart => exact ⟨0, 1, by omega, rfl, by go_num, rfl, B2⟩
    case round =>
      obtain ⟨i, c, hi, HC, rfl, rfl, HB⟩ := hrel
      have hls := lastF_size key label i
      by_cases hlt : c ≤ 255 ∧ 32 * c ≤ m
      · have c255 : (c : Int) ≤ 255 := by omega
        obtain ⟨R, HR⟩ : ∃ R, Hid (R = 32 * c) := ⟨_, rfl⟩
        obtain ⟨P, HP⟩ : ∃ P, Hid (P = 32 * i) := ⟨_, rfl⟩
        have e1 : 32 * (c : Int) = (R : Int) := by have := HR.out; omega
        have e2 : (R : Int) - 32 = (P : Int) := by have := HR.out; have := HP.out; have := HC.out; omega
        have r1 : (R : Int) ≤ m := by have := HR.out; omega
        have r2 : (P : Int) ≤ R := by have := HR.out; have := HP.out; have := HC.out; omega
        have r3 : (R : Int) ≤ t.size := by rw [zt]; exact r1
        have n1 : P ≤ R := by omega
        have n2 : R ≤ m := by omega
        have n3 : R ≤ t.size := by omega
        have hsl : t.extract P R = lastF key label (i + 1) := by rw [HP.out, HR.out, HC.out]; exact HLS.out i (by have := HC.out; omega)
        have hcv : (convert 29 9 (.slice (some ⟨wr.heap.size, 0, none⟩) 1 1)).run Tryd.prog (wr.alloc (.cells #[.int .u8 (c : Int)] 5)).drew = .ok (.string (str [(c : Int)])) (wr.alloc (.cells #[.int .u8 (c : Int)] 5)).drew := conv_row [(c : Int)] wr.drew 1 rfl
        have hcv2 : (convert 29 9 (.slice (some ⟨wr.heap.size, 0, none⟩) 1 1)).run Tryd.prog (wr.drew.alloc (.cells #[.int .u8 (c : Int)] 5)) = .ok (.string (str [(c : Int)])) (wr.drew.alloc (.cells #[.int .u8 (c : Int)] 5)) := conv_row [(c : Int)] wr.drew 1 rfl
        have wC : IntKind.u8.wrap (c : Int) = (c : Int) := by rw [IntKind.wrap_u8]; have := HC.out; omega
        have wR : IntKind.i64.wrap (R : Int) = (R : Int) := by rw [IntKind.wrap_i64]; omega
        have wP : IntKind.i64.wrap (P : Int) = (P : Int) := by rw [IntKind.wrap_i64]; omega
        have HL : Hid (lastF key label (i + 1) = macF key (lastF key label i ++ label ++ str [(c : Int)])) := by show _ = _; rw [HC.out]; rfl
        have hst : (str [(c : Int)]).size = 1 := by rw [str_size]; rfl
        have hl' := lastF_size' key label i
        obtain ⟨l', EL⟩ : ∃ l', Hid (lastF key label (i + 1) = l') := ⟨_, rfl⟩
        rw [EL.out] at HL hsl hl'
        generalize str [(c : Int)] = st at *
        generalize lastF key label i = l at *
        have hz : (l ++ label ++ st).size ≤ 140737488352000 := by
          rw [ByteArray.size_append, ByteArray.size_append]; omega
        have CS : Hid (∀ w', Tb w' → Calls Tryd.prog 5 #[.string key, .string (l ++ label ++ st)] w' fun e w'' => e = .returned (.string l') ∧ Below w'.heap.size w' w'') := fun w' t => by
          have := W.sum key (l ++ label ++ st) w' t (by omega) hz
          rw [← HL.out] at this
          exact this
        go_wp2_with fail
        go_region_with (go_at_call 5; refine (CS.out _ (D.out _ (HB.out.alloc HB.out.size _).drew)).mono ?_; rintro e' w5 ⟨rfl, g5⟩)
        all_goals (
          have B5 : Hid (Below w.heap.size w w5) := ((HB.out.alloc HB.out.size _).drew).trans (g5.mono (by have := HB.out.size; simp; omega))
          clear g5
          go_wp2
          go_roundw
          case rel => exact ⟨i + 1, c + 1, by have := HC.out; omega, by show _ = _; rw [HC.out], by go_num, by rw [EL.out], B5⟩
          case measure => simp [intOf]; omega)
      · by_cases c2 : c ≤ 255
        · have c255 : (c : Int) ≤ 255 := by omega
          have c3 : ¬ 32 * (c : Int) ≤ m := by omega
          go_wp2_with fail
          refine (CE.out _ (D.out _ HB.out)).mono ?_
          rintro e w3 ⟨rfl, hb3⟩
          have B3 : Hid (Below w.heap.size w w3) := HB.out.trans (hb3.mono HB.out.size)
          clear hb3
          go_wp2
          go_ret
          exact ⟨rfl, B3.out⟩
        · have c255 : ¬ (c : Int) ≤ 255 := by omega
          go_wp2_with fail
          refine (CE.out _ (D.out _ HB.out)).mono ?_
          rintro e w3 ⟨rfl, hb3⟩
          have B3 : Hid (Below w.heap.size w w3) := HB.out.trans (hb3.mono HB.out.size)
          clear hb3
          go_wp2
          go_ret
          exact ⟨rfl, B3.out⟩
  · have g1 : ¬ (n : Int) < 0 := by omega
    have g2 : ¬ (m : Int) < 0 := by omega
    have g3 : ¬ (n : Int) > 8160 := by omega
    have g4 : ¬ (m : Int) > 8160 := by omega
    have g5 : (n : Int) > m := by omega
    clear hnm
    go_enter Tryd.func4, Tryd.ntmps4
    go_wp2_with fail
    refine (CA.out _ T0.out).mono ?_
    rintro e w1 ⟨rfl, hb1⟩
    have B1 : Hid (Below w.heap.size w w1) := hb1
    clear hb1
    go_wp2_with fail
    refine (CB.out _ (D.out _ B1.out)).mono ?_
    rintro e w2 ⟨rfl, hb2⟩
    have B2 : Hid (Below w.heap.size w w2) := B1.out.trans (hb2.mono B1.out.size)
    clear hb2
    go_wp2_with fail
    go_loopw [15, 16] (fun l j wr => ∃ i c : Nat, i ≤ 255 ∧ Hid (c = i + 1) ∧ j = .int .i64 (c : Int) ∧ l = .string (lastF key label i) ∧ Hid (Below w.heap.size w wr)) (fun _ j _ => (257 - intOf j).toNat)
    case atStart => exact ⟨0, 1, by omega, rfl, by go_num, rfl, B2⟩
    case round =>
      obtain ⟨i, c, hi, HC, rfl, rfl, HB⟩ := hrel
      have hls := lastF_size key label i
      by_cases hlt : c ≤ 255 ∧ 32 * c ≤ n
      · have c255 : (c : Int) ≤ 255 := by omega
        obtain ⟨R, HR⟩ : ∃ R, Hid (R = 32 * c) := ⟨_, rfl⟩
        obtain ⟨P, HP⟩ : ∃ P, Hid (P = 32 * i) := ⟨_, rfl⟩
        have e1 : 32 * (c : Int) = (R : Int) := by have := HR.out; omega
        have e2 : (R : Int) - 32 = (P : Int) := by have := HR.out; have := HP.out; have := HC.out; omega
        have r1 : (R : Int) ≤ n := by have := HR.out; omega
        have r2 : (P : Int) ≤ R := by have := HR.out; have := HP.out; have := HC.out; omega
        have r3 : (R : Int) ≤ t.size := by rw [zt]; exact r1
        have n1 : P ≤ R := by omega
        have n2 : R ≤ n := by omega
        have n3 : R ≤ t.size := by omega
        have hsl : t.extract P R = lastF key label (i + 1) := by rw [HP.out, HR.out, HC.out]; exact HLS.out i (by have := HC.out; omega)
        have hcv : (convert 29 9 (.slice (some ⟨wr.heap.size, 0, none⟩) 1 1)).run Tryd.prog (wr.alloc (.cells #[.int .u8 (c : Int)] 5)).drew = .ok (.string (str [(c : Int)])) (wr.alloc (.cells #[.int .u8 (c : Int)] 5)).drew := conv_row [(c : Int)] wr.drew 1 rfl
        have hcv2 : (convert 29 9 (.slice (some ⟨wr.heap.size, 0, none⟩) 1 1)).run Tryd.prog (wr.drew.alloc (.cells #[.int .u8 (c : Int)] 5)) = .ok (.string (str [(c : Int)])) (wr.drew.alloc (.cells #[.int .u8 (c : Int)] 5)) := conv_row [(c : Int)] wr.drew 1 rfl
        have wC : IntKind.u8.wrap (c : Int) = (c : Int) := by rw [IntKind.wrap_u8]; have := HC.out; omega
        have wR : IntKind.i64.wrap (R : Int) = (R : Int) := by rw [IntKind.wrap_i64]; omega
        have wP : IntKind.i64.wrap (P : Int) = (P : Int) := by rw [IntKind.wrap_i64]; omega
        have HL : Hid (lastF key label (i + 1) = macF key (lastF key label i ++ label ++ str [(c : Int)])) := by show _ = _; rw [HC.out]; rfl
        have hst : (str [(c : Int)]).size = 1 := by rw [str_size]; rfl
        have hl' := lastF_size' key label i
        obtain ⟨l', EL⟩ : ∃ l', Hid (lastF key label (i + 1) = l') := ⟨_, rfl⟩
        rw [EL.out] at HL hsl hl'
        generalize str [(c : Int)] = st at *
        generalize lastF key label i = l at *
        have hz : (l ++ label ++ st).size ≤ 140737488352000 := by
          rw [ByteArray.size_append, ByteArray.size_append]; omega
        have CS : Hid (∀ w', Tb w' → Calls Tryd.prog 5 #[.string key, .string (l ++ label ++ st)] w' fun e w'' => e = .returned (.string l') ∧ Below w'.heap.size w' w'') := fun w' t => by
          have := W.sum key (l ++ label ++ st) w' t (by omega) hz
          rw [← HL.out] at this
          exact this
        go_wp2_with fail
        go_region_with (go_at_call 5; refine (CS.out _ (D.out _ (HB.out.alloc HB.out.size _).drew)).mono ?_; rintro e' w5 ⟨rfl, g5⟩)
        all_goals (
          have B5 : Hid (Below w.heap.size w w5) := ((HB.out.alloc HB.out.size _).drew).trans (g5.mono (by have := HB.out.size; simp; omega))
          clear g5
          go_wp2
          go_roundw
          case rel => exact ⟨i + 1, c + 1, by have := HC.out; omega, by show _ = _; rw [HC.out], by go_num, by rw [EL.out], B5⟩
          case measure => simp [intOf]; omega)
      · by_cases c2 : c ≤ 255
        · have c255 : (c : Int) ≤ 255 := by omega
          have c3 : ¬ 32 * (c : Int) ≤ n := by omega
          go_wp2_with fail
          refine (CE.out _ (D.out _ HB.out)).mono ?_
          rintro e w3 ⟨rfl, hb3⟩
          have B3 : Hid (Below w.heap.size w w3) := HB.out.trans (hb3.mono HB.out.size)
          clear hb3
          go_wp2
          go_ret
          exact ⟨rfl, B3.out⟩
        · have c255 : ¬ (c : Int) ≤ 255 := by omega
          go_wp2_with fail
          refine (CE.out _ (D.out _ HB.out)).mono ?_
          rintro e w3 ⟨rfl, hb3⟩
          have B3 : Hid (Below w.heap.size w w3) := HB.out.trans (hb3.mono HB.out.size)
          clear hb3
          go_wp2
          go_ret
          exact ⟨rfl, B3.out⟩
end Go.Proofs.YtmgkfkfmiddanaaDoor.mv
