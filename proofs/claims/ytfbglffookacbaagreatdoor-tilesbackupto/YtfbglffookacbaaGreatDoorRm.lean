import Derived.Test.YtfbglffookacbaaGreatDoorRk
import Derived.Test.YtfbglffookacbaaGreatDoorRg
import Derived.BigQuiet
namespace Go.Proofs.YtfbglffookacbaaGreatDoor.rm
open Go.RowKit Go.PlainAid Go.Shelf
open Go.Proofs.YtfbglffookacbaaGreatDoor.ta Go.Proofs.YtfbglffookacbaaGreatDoor.tb Go.Proofs.YtfbglffookacbaaGreatDoor.tc Go.Proofs.YtfbglffookacbaaGreatDoor.tj Go.Proofs.YtfbglffookacbaaGreatDoor.wa Go.Proofs.YtfbglffookacbaaGreatDoor.a1 Go.Proofs.YtfbglffookacbaaGreatDoor.a8 Go.Proofs.YtfbglffookacbaaGreatDoor.rj Go.Proofs.YtfbglffookacbaaGreatDoor.rk
set_option linter.unusedVariables false
set_option maxRecDepth 4000

-- THE DOCUMENT'S digits
set_option maxHeartbeats 1600000 in
theorem digitsD (s : ByteArray) (hs : s.size ≤ 2097152) (w : World) :
    Calls Tryz.prog 30 #[.string s] w fun e w' => e = .returned (.tuple #[.int .i64 (dgV s), .string (dgR s)]) ∧ Below w.heap.size w w' := by
  obtain ⟨z, HZ⟩ : ∃ z, Hid (s.size = z) := ⟨_, rfl⟩
  have hz : z ≤ 2097152 := by rw [← HZ.out]; exact hs
  obtain ⟨ld, HL⟩ : ∃ l, Hid (lead s = l) := ⟨_, rfl⟩
  have hl : ld ≤ z := by rw [← HL.out, ← HZ.out]; exact lead_le s
  have hv : Hid (∀ j, j ≤ ld → j ≤ 18 → vl 0 ((bs s).take j) < 1000000000000000000) := by
    rw [← HL.out]; exact fun j h h' => vl_bound s j h h'
  have hn : Hid (∀ j, j < ld → vl 0 ((bs s).take (j + 1)) = 10 * vl 0 ((bs s).take j) + (bt s j - 48).toNat) := by
    rw [← HL.out]; exact fun j h => vl_snoc s j (by have := lead_le s; omega)
  have hd : Hid (∀ j, j < ld → 48 ≤ bt s j ∧ bt s j ≤ 57) := by rw [← HL.out]; exact fun j h => lead_dig s j h
  have he : Hid (ld < z → ¬ (48 ≤ bt s ld ∧ bt s ld ≤ 57)) := by rw [← HL.out, ← HZ.out]; exact lead_end s
  have VY : Hid (¬ (ld = 0 ∨ 18 < ld) → dgV s = (vl 0 ((bs s).take ld) : Nat) ∧ dgR s = s.extract ld s.size) := by
    intro h
    unfold dgV dgR
    rw [HL.out, if_neg h, if_neg h]
    exact ⟨rfl, rfl⟩
  have VN : Hid (ld = 0 ∨ 18 < ld → dgV s = -1 ∧ dgR s = ByteArray.empty) := by
    intro h
    unfold dgV dgR
    rw [HL.out, if_pos h, if_pos h]
    exact ⟨rfl, rfl⟩
  obtain ⟨V, HV⟩ : ∃ V : Nat → Nat, Hid ((fun j => vl 0 ((bs s).take j)) = V) := ⟨_, rfl⟩
  have V0 : V 0 = 0 := by rw [← HV.out]; rfl
  have hv' : Hid (∀ j, j ≤ ld → j ≤ 18 → V j < 1000000000000000000) := by rw [← HV.out]; exact hv.out
  have hn' : Hid (∀ j, j < ld → V (j + 1) = 10 * V j + (bt s j - 48).toNat) := by rw [← HV.out]; exact hn.out
  have VY' : Hid (¬ (ld = 0 ∨ 18 < ld) → dgV s = (V ld : Nat) ∧ dgR s = s.extract ld s.size) := by rw [← HV.out]; exact VY.out
  clear hv hn VY hs
  go_enter Tryz.func30, Tryz.ntmps30
  go_wp2
  go_loopw [4, 5] (fun v i wr => ∃ j : Nat, v = .int .i64 (V j : Nat) ∧ i = .int .i64 (j : Int) ∧ j ≤ ld ∧ j ≤ 18 ∧ Hid (Below w.heap.size w wr)) (fun _ i _ => (s.size - intOf i).toNat)
  case atStart => exact ⟨0, by rw [V0]; rfl, rfl, Nat.zero_le _, by omega, Below.refl _ _⟩
  case round =>
    obtain ⟨j, rfl, rfl, hj, hj18, hb⟩ := hrel
    have hbt := get_bt s
    have b0 := bt_nonneg s j
    have b1 := bt_le s j
    have zs : s.size = z := HZ.out
    by_cases hjl : j < ld
    · obtain ⟨d1, d2⟩ := hd.out j hjl
      have hjz : (j : Int) < s.size := by omega
      by_cases h18 : j < 18
      · have q : ¬ (18 : Int) ≤ j := by omega
        have e1 := hn'.out j hjl
        have e2 := hv'.out (j + 1) (by omega) (by omega)
        have ev : ((V (j + 1) : Nat) : Int) = 10 * (V j : Nat) + (bt s j - 48) := by omega
        go_wp2
        go_roundw
        case rel => exact ⟨j + 1, by rw [ev], by go_num, by omega, by omega, hb.out⟩
        case measure => simp [intOf]; omega
      · have q : (18 : Int) ≤ j := by omega
        obtain ⟨v1, v2⟩ := VN.out (.inr (by omega))
        have VV : Hid (dgV s = -1 ∧ dgR s = ByteArray.empty) := ⟨v1, v2⟩
        clear v1 v2
        go_wp2
        go_ret2
        exact ⟨by rw [VV.out.1, VV.out.2]; rfl, hb.out⟩
    · obtain rfl : j = ld := by omega
      by_cases h0 : j = 0
      · obtain ⟨v1, v2⟩ := VN.out (.inl h0)
        have VV : Hid (dgV s = -1 ∧ dgR s = ByteArray.empty) := ⟨v1, v2⟩
        have he0 := he.out
        clear v1 v2 he hn' hv' VN VY' hd HL
        subst h0
        by_cases hjz : 0 < z
        · have hjz' : (0 : Int) < s.size := by omega
          have hnd := he0 hjz
          by_cases c1 : 48 ≤ bt s 0
          · have c2 : ¬ bt s 0 ≤ 57 := fun e => hnd ⟨c1, e⟩
            clear hnd he0
            go_wp2
            go_ret2
            exact ⟨by rw [VV.out.1, VV.out.2]; rfl, hb.out⟩
          · clear hnd he0
            go_wp2
            go_ret2
            exact ⟨by rw [VV.out.1, VV.out.2]; rfl, hb.out⟩
        · have hjz' : ¬ (0 : Int) < s.size := by omega
          clear he0
          go_wp2
          go_ret2
          exact ⟨by rw [VV.out.1, VV.out.2]; rfl, hb.out⟩
      · obtain ⟨v1, v2⟩ := VY'.out (by omega)
        have VV : Hid (dgV s = (V j : Nat) ∧ dgR s = s.extract j s.size) := ⟨v1, v2⟩
        have he0 := he.out
        clear v1 v2 he
        have hq : ¬ (j : Int) = 0 := by omega
        have hjs : (j : Int) ≤ s.size := by omega
        by_cases hjz : j < z
        · have hjz' : (j : Int) < s.size := by omega
          have hnd := he0 hjz
          by_cases c1 : 48 ≤ bt s j
          · have c2 : ¬ bt s j ≤ 57 := fun e => hnd ⟨c1, e⟩
            clear hnd he0
            go_wp2
            go_quiet (fail)
            go_wp2
            go_ret2
            exact ⟨by rw [VV.out.1, VV.out.2, zs]; rfl, below_dN hb.out nq⟩
          · clear hnd he0
            go_wp2
            go_quiet (fail)
            go_wp2
            go_ret2
            exact ⟨by rw [VV.out.1, VV.out.2, zs]; rfl, below_dN hb.out nq⟩
        · have hjz' : ¬ (j : Int) < s.size := by omega
          clear he0
          go_wp2
          go_quiet (fail)
          go_wp2
          go_ret2
          exact ⟨by rw [VV.out.1, VV.out.2, zs]; rfl, below_dN hb.out nq⟩
theorem data_ne {a b : ByteArray} (h : a ≠ b) : (a.toList == b.toList) = false := by
  rw [toList_bs]
  exact decide_eq_false h
set_option maxHeartbeats 1600000 in
theorem readD (s a : ByteArray) (hs : s.size ≤ 2097152) (ha : a.size ≤ 100) (w : World) :
    Calls Tryz.prog 16 #[.string s, .string a] w fun e w' => e = .returned (.tuple #[.int .i64 (rdV s a), .string (rdR s a)]) ∧ Below w.heap.size w w' := by
  have DC : Hid (Calls _ _ _ _ _) := digitsD (s.extract a.size s.size) (by rw [ByteArray.size_extract]; omega) w
  obtain ⟨x, HX⟩ : ∃ x, Hid (s.extract a.size s.size = x) := ⟨_, rfl⟩
  obtain ⟨y, HY⟩ : ∃ y, Hid (s.extract 0 a.size = y) := ⟨_, rfl⟩
  rw [HX.out] at DC
  by_cases h1 : a.size ≤ s.size
  · have h1' : ¬ (s.size : Int) < a.size := by omega
    have h1'' : (a.size : Int) ≤ s.size := by omega
    by_cases h2 : y = a
    · have HR : Hid (rdV s a = dgV x ∧ rdR s a = dgR x) := by
        show _ ∧ _
        have : hasP s a := ⟨h1, HY.out.trans h2⟩
        unfold rdV rdR
        rw [if_pos this, if_pos this, HX.out]
        exact ⟨rfl, rfl⟩
      have hsl : ∀ W : World, True := fun _ => trivial
      have ht : decide (a.data.toList = a.data.toList) = true := decide_eq_true rfl
      have HY' : Hid (s.extract 0 a.size = a) := HY.out.trans h2
      have hy := HY'.out
      have hx := HX.out
      clear h2
      go_enter Tryz.func16, Tryz.ntmps16
      go_wp2_with fail
      refine DC.out.mono ?_
      rintro e w1 ⟨rfl, hb⟩
      have HB : Hid (Below w.heap.size w w1) := hb
      clear hb
      go_wp2
      go_ret2
      exact ⟨by rw [HR.out.1, HR.out.2]; rfl, HB.out⟩
    · have HR : Hid (rdV s a = -1 ∧ rdR s a = ByteArray.empty) := by
        show _ ∧ _
        have : ¬ hasP s a := fun e => h2 (HY.out.symm.trans e.2)
        unfold rdV rdR
        rw [if_neg this, if_neg this]
        exact ⟨rfl, rfl⟩
      have ht := data_ne h2
      have hy := HY.out
      clear h2
      go_enter Tryz.func16, Tryz.ntmps16
      go_wp2
      go_ret2
      exact ⟨by rw [HR.out.1, HR.out.2]; rfl, Below.refl _ _⟩
  · have HR : Hid (rdV s a = -1 ∧ rdR s a = ByteArray.empty) := by
      show _ ∧ _
      have : ¬ hasP s a := fun e => h1 e.1
      unfold rdV rdR
      rw [if_neg this, if_neg this]
      exact ⟨rfl, rfl⟩
    have h1' : (s.size : Int) < a.size := by omega
    go_enter Tryz.func16, Tryz.ntmps16
    go_wp2
    go_ret2
    exact ⟨by rw [HR.out.1, HR.out.2]; rfl, Below.refl _ _⟩
end Go.Proofs.YtfbglffookacbaaGreatDoor.rm
