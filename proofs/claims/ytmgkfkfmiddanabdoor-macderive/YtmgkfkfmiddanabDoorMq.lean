import Derived.Test.YtmgkfkfmiddanabDoorMp
namespace Go.Proofs.YtmgkfkfmiddanabDoor.mq
open Go.RowKit Go.PlainAid
open Go.Proofs.YtmgkfkfmiddanabDoor.pl Go.Proofs.YtmgkfkfmiddanabDoor.pc Go.Proofs.YtmgkfkfmiddanabDoor.pf Go.Proofs.YtmgkfkfmiddanabDoor.pg Go.Proofs.YtmgkfkfmiddanabDoor.ph Go.Proofs.YtmgkfkfmiddanabDoor.pi Go.Proofs.YtmgkfkfmiddanabDoor.ft Go.Proofs.YtmgkfkfmiddanabDoor.pj Go.Proofs.YtmgkfkfmiddanabDoor.re Go.Proofs.YtmgkfkfmiddanabDoor.rf Go.Proofs.YtmgkfkfmiddanabDoor.mo Go.Proofs.YtmgkfkfmiddanabDoor.mp
set_option linter.unusedVariables false

set_option maxHeartbeats 800000 in
theorem rmac (key msg : ByteArray) (w : World) (hk : key.size ≤ 140737488352256) (hm : msg.size ≤ 140737488352000) (T : Hid (Tab4 w)) :
    Calls Tryd.prog 8 #[.string key, .string msg] w fun e w' => e = .returned (.string (macF key msg)) ∧ Below w.heap.size w w' := by
  have R1 : Hid (Calls _ _ _ _ _) := rkeyed key 54 w hk T
  have R2 : Hid (∀ w', Tab4 w' → Calls _ _ _ _ _) := fun w' t => rkeyed key 92 w' hk t
  have HM : Hid (macF key msg = sha (keyedF key 92 ++ sha (keyedF key 54 ++ msg))) := rfl
  rw [HM.out]
  clear HM
  have z1 := keyedF_size key 54
  have z2 := keyedF_size key 92
  generalize keyedF key 54 = k1 at *
  generalize keyedF key 92 = k2 at *
  obtain ⟨a, HA⟩ : ∃ a, k1 ++ msg = a := ⟨_, rfl⟩
  have za : a.size = 64 + msg.size := by rw [← HA, ByteArray.size_append, z1]
  rw [HA]
  have R3 : Hid (∀ w', Tab4 w' → Calls _ _ _ _ _) := fun w' t => RSum a w' (by omega) t
  have zs := sha_size a
  generalize sha a = sa at *
  obtain ⟨b, HB⟩ : ∃ b, k2 ++ sa = b := ⟨_, rfl⟩
  have zb : b.size = 96 := by rw [← HB, ByteArray.size_append, z2, zs]
  rw [HB]
  go_enter Tryd.func8, Tryd.ntmps8
  go_wp2_with fail
  refine R1.out.mono ?_
  rintro e w1 ⟨rfl, hb1⟩
  have B1 : Hid (Below w.heap.size w w1) := hb1
  clear hb1
  go_wp2_with fail
  refine (R3.out _ (T.out.down B1.out)).mono ?_
  rintro e w2 ⟨rfl, hb2⟩
  have B2 : Hid (Below w.heap.size w w2) := B1.out.trans (hb2.mono B1.out.size)
  clear hb2
  go_wp2_with fail
  refine (R2.out _ (T.out.down B2.out)).mono ?_
  rintro e w3 ⟨rfl, hb3⟩
  have B3 : Hid (Below w.heap.size w w3) := B2.out.trans (hb3.mono B2.out.size)
  clear hb3
  go_wp2_with fail
  refine (RSum b _ (by omega) (T.out.down B3.out)).mono ?_
  rintro e w4 ⟨rfl, hb4⟩
  have B4 : Hid (Below w.heap.size w w4) := B3.out.trans (hb4.mono B3.out.size)
  clear hb4
  go_wp2
  go_ret
  exact ⟨rfl, B4.out⟩


set_option maxHeartbeats 800000 in
theorem rderive_no (key label : ByteArray) (n : Int) (w : World) (hn : n < 0 ∨ 8160 < n) :
    Calls Tryd.prog 12 #[.string key, .string label, .int .i64 n] w fun e w' => e = .returned (.tuple #[.string ⟨#[]⟩, .int .i64 30]) ∧ w' = w := by
  rcases Int.lt_or_le n 0 with h | h
  · clear hn
    go_enter Tryd.func12, Tryd.ntmps12
    go_wp2
    go_ret2
    exact ⟨rfl, rfl⟩
  · have h2 : n > 8160 := by omega
    clear hn
    go_enter Tryd.func12, Tryd.ntmps12
    go_wp2
    go_ret2
    exact ⟨rfl, rfl⟩

set_option maxHeartbeats 800000 in
theorem rderive (key label : ByteArray) (N : Nat) (w : World) (hk : key.size ≤ 140737488352256) (hl : label.size ≤ 140737488351232) (hN : N ≤ 8160) (T : Hid (Tab4 w)) :
    Calls Tryd.prog 12 #[.string key, .string label, .int .i64 N] w fun e w' => e = .returned (.tuple #[.string (derF key label N), .int .i64 0]) ∧ Below w.heap.size w w' := by
  have h0 : ¬ (N : Int) < 0 := by omega
  have h1 : ¬ (N : Int) > 8160 := by omega
  go_enter Tryd.func12, Tryd.ntmps12
  go_wp2_with fail
  go_loopw [8, 9, 10] (fun out last j wr => ∃ i m : Nat, i ≤ (N + 31) / 32 ∧ Hid (m = i + 1) ∧ j = .int .i64 (m : Int) ∧ out = .string (outF key label i) ∧ last = .string (lastF key label i) ∧ Hid (Below w.heap.size w wr)) (fun _ _ j _ => (256 - intOf j).toNat)
  case atStart => exact ⟨0, 1, by omega, rfl, by go_num, rfl, rfl, Below.refl _ _⟩
  case round =>
    obtain ⟨i, m, hi, HM, rfl, rfl, rfl, HB⟩ := hrel
    have hos := outF_size key label i
    have hls := lastF_size key label i
    by_cases hlt : 32 * i < N
    · have i255 : (m : Int) ≤ 255 := by have := HM.out; omega
      have hlt' : ((outF key label i).size : Int) < N := by omega
      have hcv : (convert 32 9 (.slice (some ⟨wr.heap.size, 0, none⟩) 1 1)).run Tryd.prog (wr.alloc (.cells #[.int .u8 (m : Int)] 5)) = .ok (.string (str [(m : Int)])) (wr.alloc (.cells #[.int .u8 (m : Int)] 5)) := conv_row [(m : Int)] wr 1 rfl
      have HL : Hid (lastF key label (i + 1) = macF key (lastF key label i ++ label ++ str [(m : Int)])) := by show _ = _; rw [HM.out]; rfl
      have HO : Hid (outF key label (i + 1) = outF key label i ++ lastF key label (i + 1)) := rfl
      have hst : (str [(m : Int)]).size = 1 := by rw [str_size]; rfl
      generalize str [(m : Int)] = st at *
      generalize lastF key label i = l at *
      obtain ⟨l', EL⟩ : ∃ l', Hid (lastF key label (i + 1) = l') := ⟨_, rfl⟩
      obtain ⟨o', EO⟩ : ∃ o', Hid (outF key label (i + 1) = o') := ⟨_, rfl⟩
      have hl' : l'.size = 32 := by rw [← EL.out]; exact lastF_size' key label i
      rw [EL.out] at HL HO
      rw [EO.out] at HO
      generalize outF key label i = o at *
      have hz : (l ++ label ++ st).size ≤ 140737488352000 := by
        rw [ByteArray.size_append, ByteArray.size_append]; omega
      go_wp2_with fail
      refine (rmac key _ _ hk hz (T.out.down (HB.out.alloc HB.out.size _))).mono ?_
      rintro e w2 ⟨rfl, hb2⟩
      have HB2 : Hid (Below w.heap.size w w2) := (HB.out.alloc HB.out.size _).trans (hb2.mono (by have := HB.out.size; simp; omega))
      clear hb2
      rw [← HL.out]
      go_wp2
      go_roundw
      case rel => exact ⟨i + 1, m + 1, by omega, by show _ = _; rw [HM.out], by go_num, by rw [← HO.out, EO.out], by rw [EL.out], HB2⟩
      case measure => simp [intOf]; omega
    · have hi' : i = (N + 31) / 32 := by omega
      have hlt' : ¬ ((outF key label i).size : Int) < N := by omega
      have hle : (N : Int) ≤ (outF key label i).size := by omega
      have HD : Hid ((outF key label i).extract 0 N = derF key label N) := by show _ = _; unfold derF; rw [hi']
      clear hi'
      generalize lastF key label i = l at *
      generalize outF key label i = o at *
      by_cases h255 : m ≤ 255
      · have i255 : (m : Int) ≤ 255 := by have := HM.out; omega
        have HD' := HD.out
        go_wp2
        go_ret2
        exact ⟨rfl, HB.out⟩
      · have i255 : ¬ (m : Int) ≤ 255 := by omega
        have HD' := HD.out
        go_wp2
        go_ret2
        exact ⟨rfl, HB.out⟩
end Go.Proofs.YtmgkfkfmiddanabDoor.mq
