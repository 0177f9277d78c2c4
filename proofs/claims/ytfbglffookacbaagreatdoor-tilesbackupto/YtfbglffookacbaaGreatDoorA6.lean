import Derived.Test.YtfbglffookacbaaGreatDoorA5
namespace Go.Proofs.YtfbglffookacbaaGreatDoor.a6
open Go.RowKit Go.PlainAid Go.Shelf
open Go.Proofs.YtfbglffookacbaaGreatDoor.tc Go.Proofs.YtfbglffookacbaaGreatDoor.wa Go.Proofs.YtfbglffookacbaaGreatDoor.ca Go.Proofs.YtfbglffookacbaaGreatDoor.cp Go.Proofs.YtfbglffookacbaaGreatDoor.a1 Go.Proofs.YtfbglffookacbaaGreatDoor.a2 Go.Proofs.YtfbglffookacbaaGreatDoor.a3 Go.Proofs.YtfbglffookacbaaGreatDoor.a4 Go.Proofs.YtfbglffookacbaaGreatDoor.a5
set_option linter.unusedVariables false
set_option maxRecDepth 4000

-- the document's group
def PadTo (R s : ByteArray) : Prop := (s.size = 3 ∧ s = R) ∨ (s.size = 2 ∧ z1 ++ s = R) ∨ (s.size = 1 ∧ z1 ++ (z1 ++ s) = R)
theorem pad_start {n : Nat} (h : n < 1000) : PadTo (grp n) (decS (n : Int)) := by
  by_cases h1 : n < 10
  · exact .inr (.inr ⟨size_small h1, pad2 h1⟩)
  by_cases h2 : n < 100
  · exact .inr (.inl ⟨size_two h1 h2, pad1 h1 h2⟩)
  · exact .inl ⟨size_three h2 h, pad0 h2 h⟩
theorem z1_size (s : ByteArray) : (z1 ++ s).size = s.size + 1 := by rw [ByteArray.size_append]; show 1 + s.size = _; omega
set_option maxHeartbeats 1600000 in
theorem groupC (n : Nat) (hn : n < 1000) (w : World) (hw : PowT w) : Calls Tryz.prog 43 #[.int .i64 (n : Int)] w fun e w' => e = .returned (.string (grp n)) ∧ Below w.heap.size w w' := by
  have C : Hid (Calls _ _ _ _ _) := itoaC (n : Int) (by constructor <;> omega) w hw
  have P0 : Hid (PadTo (grp n) (decS (n : Int))) := pad_start hn
  obtain ⟨R, HR⟩ : ∃ R, Hid (grp n = R) := ⟨_, rfl⟩
  obtain ⟨x, HX⟩ : ∃ x, Hid (decS (n : Int) = x) := ⟨_, rfl⟩
  rw [HX.out] at C P0
  rw [HR.out] at P0 ⊢
  clear hw HR HX
  go_enter Tryz.func43, Tryz.ntmps43
  go_wp2_with fail
  refine C.out.mono ?_
  rintro e w1 ⟨rfl, hb⟩
  have B1 : Hid (Below w.heap.size w w1) := hb
  clear hb
  go_wp2_with fail
  go_loopw [3] (fun p wr => ∃ (s : ByteArray), p = .string s ∧ Hid (PadTo R s) ∧ Hid (Below w.heap.size w wr)) (fun p _ => match p with | .string s => 4 - s.size | _ => 0)
  case atStart => exact ⟨x, rfl, P0, B1⟩
  case round =>
    clear P0 C B1
    obtain ⟨s, rfl, HP, HB⟩ := hrel
    rcases HP.out with ⟨h3, hR⟩ | ⟨h2, hR⟩ | ⟨h1, hR⟩
    · have d : decide ((s.size : Int) < 3) = false := decide_eq_false (by omega)
      have d' : ¬ (s.size : Int) < 3 := by omega
      clear h3 d
      subst hR
      go_wp2
      go_ret
      exact ⟨rfl, HB.out⟩
    · have d : decide ((s.size : Int) < 3) = true := decide_eq_true (by omega)
      have d' : (s.size : Int) < 3 := by omega
      have hz := z1_size s
      have HQ : Hid (PadTo R (z1 ++ s)) := .inl ⟨by omega, hR⟩
      go_wp2
      go_roundw
      case rel => exact ⟨z1 ++ s, rfl, HQ, HB⟩
      case measure => show 4 - (z1 ++ s).size < 4 - s.size; omega
    · have d : decide ((s.size : Int) < 3) = true := decide_eq_true (by omega)
      have d' : (s.size : Int) < 3 := by omega
      have hz := z1_size s
      have HQ : Hid (PadTo R (z1 ++ s)) := .inr (.inl ⟨by omega, hR⟩)
      go_wp2
      go_roundw
      case rel => exact ⟨z1 ++ s, rfl, HQ, HB⟩
      case measure => show 4 - (z1 ++ s).size < 4 - s.size; omega
set_option maxHeartbeats 1600000 in
theorem indexC (n : Nat) (hn : n < 9223372036854775808) (w : World) (hw : PowT w) : Calls Tryz.prog 32 #[.int .i64 (n : Int)] w fun e w' => e = .returned (.string (ixS n)) ∧ Below w.heap.size w w' := by
  have HW : Hid (PowT w) := hw
  have C : Hid (Calls _ _ _ _ _) := groupC (n % 1000) (by omega) w hw
  have hR := ixS_size n hn
  obtain ⟨R, HR⟩ : ∃ R, Hid (ixS n = R) := ⟨_, rfl⟩
  rw [HR.out] at hR ⊢
  have HR0 : Hid (ixA (n / 1000) (grp (n % 1000)) = R) := HR
  obtain ⟨g0, HG0⟩ : ∃ g, Hid (grp (n % 1000) = g) := ⟨_, rfl⟩
  obtain ⟨m, HM⟩ : ∃ m, Hid (n % 1000 = m) := ⟨_, rfl⟩
  obtain ⟨q, HQ⟩ : ∃ q, Hid (n / 1000 = q) := ⟨_, rfl⟩
  have em : (n : Int) % 1000 = (m : Int) := by rw [← HM.out]; rfl
  have ed : (n : Int) / 1000 = (q : Int) := by rw [← HQ.out]; rfl
  rw [HG0.out] at C HR0
  rw [HM.out] at C
  rw [HQ.out] at HR0
  have hq : q ≤ 9223372036854775 := by have := HQ.out; omega
  clear hw HR HG0 HM HQ
  go_enter Tryz.func32, Tryz.ntmps32
  go_wp2_with fail
  refine C.out.mono ?_
  rintro e w1 ⟨rfl, hb⟩
  have B1 : Hid (Below w.heap.size w w1) := hb
  clear hb
  go_wp2_with fail
  go_loopw [0, 3] (fun r p wr => ∃ (k : Nat) (s : ByteArray), k ≤ q ∧ p = .string s ∧ r = .int .i64 k ∧ Hid (ixA k s = R) ∧ Hid (Below w.heap.size w wr)) (fun r _ _ => (intOf r).toNat)
  case atStart => exact ⟨q, g0, Nat.le_refl _, rfl, rfl, HR0, B1⟩
  case round =>
    clear B1 C em ed
    obtain ⟨k, s, hk, rfl, rfl, HK, HB⟩ := hrel
    have hs := ixA_ge k s
    rw [HK.out] at hs
    by_cases h0 : (0 : Int) < (k : Int)
    · have hst := ixA_step (n := k) (by omega) s
      rw [HK.out] at hst
      have HS : Hid (ixA (k / 1000) (xB ++ grp (k % 1000) ++ slB ++ s) = R) := hst.symm
      have C : Hid (Calls _ _ _ _ _) := groupC (k % 1000) (by omega) wr (HW.out.down HB.out)
      have hg := grp_size (k % 1000)
      obtain ⟨g, HG⟩ : ∃ g, Hid (grp (k % 1000) = g) := ⟨_, rfl⟩
      obtain ⟨m', HM⟩ : ∃ m, Hid (k % 1000 = m) := ⟨_, rfl⟩
      obtain ⟨q', HQ⟩ : ∃ q, Hid (k / 1000 = q) := ⟨_, rfl⟩
      have em : (k : Int) % 1000 = (m' : Int) := by rw [← HM.out]; rfl
      have ed : (k : Int) / 1000 = (q' : Int) := by rw [← HQ.out]; rfl
      rw [HG.out] at C HS hg
      rw [HM.out] at C
      rw [HQ.out] at HS
      have hq' : q' < k ∧ q' ≤ q := by have := HQ.out; omega
      clear hst HM HQ HG
      go_wp2_with fail
      refine C.out.mono ?_
      rintro e w2 ⟨rfl, hb⟩
      have B2 : Hid (Below w.heap.size w w2) := over HB.out hb
      clear hb
      go_wp2
      go_roundw
      case rel => exact ⟨q', xB ++ g ++ slB ++ s, hq'.2, rfl, by go_num, HS, B2⟩
      case measure => simp [intOf]; omega
    · have hk0 : k = 0 := by omega
      have HS : Hid (s = R) := by have := HK.out; rw [hk0, ixA_zero] at this; exact this
      go_wp2
      go_ret
      exact ⟨by rw [HS.out]; rfl, HB.out⟩
end Go.Proofs.YtfbglffookacbaaGreatDoor.a6
