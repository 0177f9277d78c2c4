import Derived.Room.Shelf.Join48
import Derived.Lib.LaidTab
import Derived.Lib.AppendIntMem
import Derived.Laws.Strings2
import Derived.Deep.RegionHeldLaw
import Derived.Deep.RegionHeld3
import Derived.Deep.QuietTactic
import Derived.BigQuiet
import Derived.Test.YtfbglffookacbaaGreatDoorSi
import Derived.Test.YtfbglffookacbaaGreatDoorSj
import Derived.Test.YtfbglffookacbaaGreatDoorA2
namespace Go.Proofs.YtfbglffookacbaaGreatDoor.a3
open Go.RowKit Go.PlainAid Go.Shelf
open Go.Proofs.YtfbglffookacbaaGreatDoor.tc Go.Proofs.YtfbglffookacbaaGreatDoor.wa Go.Proofs.YtfbglffookacbaaGreatDoor.ca Go.Proofs.YtfbglffookacbaaGreatDoor.cp Go.Proofs.YtfbglffookacbaaGreatDoor.si Go.Proofs.YtfbglffookacbaaGreatDoor.sj Go.Proofs.YtfbglffookacbaaGreatDoor.a1 Go.Proofs.YtfbglffookacbaaGreatDoor.a2
set_option linter.unusedVariables false
set_option maxRecDepth 4000

theorem below_grow (w : World) (k : Nat) (os : Array Obj) : Below w.heap.size w (Sort.grow (w.drewN k) os) :=
  ⟨rfl, rfl, rfl, by show w.heap.size ≤ (w.heap ++ os).size; rw [Array.size_append]; omega, fun i hi => by show (w.heap ++ os)[i]? = w.heap[i]?; rw [Array.getElem?_append_left hi]⟩
abbrev PowT (w : World) : Prop := Lib.TabIs Tryz.prog w "internal/strconv.uint64pow10" .u64 Lib.pow10Tab
theorem PowT.down {w w' : World} (h : PowT w) (hb : Below w.heap.size w w') : PowT w' := Lib.TabBelow.here ((Lib.tabBelow_of_tabIs h).on hb)
theorem itoaC (n : Int) (h : I64 n) (w : World) (hw : PowT w) : Calls Tryz.prog 12 #[.int .i64 n] w fun e w' => e = .returned (.string (decS n)) ∧ Below w.heap.size w w' := by
  have := Any.strconv_Itoa laysM171 n h.1 h.2 w hw
  refine this.mono ?_
  rintro e w' ⟨rfl, k, os, rfl⟩
  exact ⟨by rw [itoa_dec], below_grow w k os⟩
theorem threeC (g : Nat) (hg : g < 1000) (w : World) (hw : PowT w) : Calls Tryz.prog 25 #[.int .i64 (g : Int)] w fun e w' => e = .returned (.string (grp g)) ∧ Below w.heap.size w w' := by
  have hwr : IntKind.i64.wrap (1000 + (g : Int)) = ((1000 + g : Nat) : Int) := by rw [IntKind.wrap_i64]; omega
  have C : Hid (Calls _ _ _ _ _) := itoaC ((1000 + g : Nat) : Int) (by constructor <;> omega) w hw
  have h3 : Hid (_ = _) := three hg
  have hz := three_size hg
  obtain ⟨x, HX⟩ : ∃ x, Hid (decS ((1000 + g : Nat) : Int) = x) := ⟨_, rfl⟩
  rw [HX.out] at C h3 hz
  rw [hz] at h3
  have hn : ((1000 + g : Nat) : Int) = 1000 + (g : Int) := by omega
  rw [hn] at C hwr
  go_enter Tryz.func25, Tryz.ntmps25
  go_wp2_with fail
  refine C.out.mono ?_
  rintro e w1 ⟨rfl, hb⟩
  have B1 : Hid (Below w.heap.size w w1) := hb
  clear hb
  have hs1 : 1 ≤ x.size := by omega
  go_wp2
  go_ret
  exact ⟨by rw [← h3.out]; rfl, B1.out⟩
theorem ixA_ge (n : Nat) : ∀ s : ByteArray, s.size ≤ (ixA n s).size := by
  induction n using Nat.strongRecOn with
  | ind n ih =>
    intro s
    by_cases h : n = 0
    · subst h; rw [ixA_zero]; omega
    · rw [ixA_step h]
      have := ih (n / 1000) (by omega) (xB ++ grp (n % 1000) ++ slB ++ s)
      rw [step_size] at this
      omega
set_option maxHeartbeats 1600000 in
theorem groupsC (n : Nat) (hn : n < 9223372036854775808) (w : World) (hw : PowT w) : Calls Tryz.prog 13 #[.int .i64 (n : Int)] w fun e w' => e = .returned (.string (ixS n)) ∧ Below w.heap.size w w' := by
  have HW : Hid (PowT w) := hw
  have C : Hid (Calls _ _ _ _ _) := threeC (n % 1000) (by omega) w hw
  have hR := ixS_size n hn
  obtain ⟨R, HR⟩ : ∃ R, Hid (ixS n = R) := ⟨_, rfl⟩
  rw [HR.out] at hR ⊢
  have HR0 : Hid (ixA (n / 1000) (grp (n % 1000)) = R) := HR
  obtain ⟨g0, HG0⟩ : ∃ g, Hid (grp (n % 1000) = g) := ⟨_, rfl⟩
  obtain ⟨m, HM⟩ : ∃ m, Hid (n % 1000 = m) := ⟨_, rfl⟩
  obtain ⟨q, HQ⟩ : ∃ q, Hid (n / 1000 = q) := ⟨_, rfl⟩
  have em : (n : Int) % 1000 = (m : Int) := by rw [← HM.out]; rfl
  have ed : (n : Int) / 1000 = (q : Int) := by rw [← HQ.out]; rfl
  rw [HG0.out] at C HR0
  rw [HM.out] at C
  rw [HQ.out] at HR0
  have hq : q ≤ 9223372036854775 := by have := HQ.out; omega
  clear hw HR HG0 HM HQ
  go_enter Tryz.func13, Tryz.ntmps13
  go_wp2_with fail
  refine C.out.mono ?_
  rintro e w1 ⟨rfl, hb⟩
  have B1 : Hid (Below w.heap.size w w1) := hb
  clear hb
  go_wp2_with fail
  go_loopw [3, 4] (fun p r wr => ∃ (k : Nat) (s : ByteArray), k ≤ q ∧ p = .string s ∧ r = .int .i64 k ∧ Hid (ixA k s = R) ∧ Hid (Below w.heap.size w wr)) (fun _ r _ => (intOf r).toNat)
  case atStart => exact ⟨q, g0, Nat.le_refl _, rfl, rfl, HR0, B1⟩
  case round =>
    clear B1 C em ed
    obtain ⟨k, s, hk, rfl, rfl, HK, HB⟩ := hrel
    have hs := ixA_ge k s
    rw [HK.out] at hs
    by_cases h0 : (0 : Int) < (k : Int)
    · have hst := ixA_step (n := k) (by omega) s
      rw [HK.out] at hst
      have HS : Hid (ixA (k / 1000) (xB ++ grp (k % 1000) ++ slB ++ s) = R) := hst.symm
      have C : Hid (Calls _ _ _ _ _) := threeC (k % 1000) (by omega) wr (HW.out.down HB.out)
      have hg := grp_size (k % 1000)
      obtain ⟨g, HG⟩ : ∃ g, Hid (grp (k % 1000) = g) := ⟨_, rfl⟩
      obtain ⟨m', HM⟩ : ∃ m, Hid (k % 1000 = m) := ⟨_, rfl⟩
      obtain ⟨q', HQ⟩ : ∃ q, Hid (k / 1000 = q) := ⟨_, rfl⟩
      have em : (k : Int) % 1000 = (m' : Int) := by rw [← HM.out]; rfl
      have ed : (k : Int) / 1000 = (q' : Int) := by rw [← HQ.out]; rfl
      rw [HG.out] at C HS hg
      rw [HM.out] at C
      rw [HQ.out] at HS
      have hq' : q' < k ∧ q' ≤ q := by have := HQ.out; omega
      clear hst HM HQ HG
      go_wp2_with fail
      refine C.out.mono ?_
      rintro e w2 ⟨rfl, hb⟩
      have B2 : Hid (Below w.heap.size w w2) := over HB.out hb
      clear hb
      go_wp2
      go_roundw
      case rel => exact ⟨q', xB ++ g ++ slB ++ s, hq'.2, rfl, by go_num, HS, B2⟩
      case measure => simp [intOf]; omega
    · have hk0 : k = 0 := by omega
      have HS : Hid (s = R) := by have := HK.out; rw [hk0, ixA_zero] at this; exact this
      go_wp2
      go_ret
      exact ⟨by rw [HS.out]; rfl, HB.out⟩
end Go.Proofs.YtfbglffookacbaaGreatDoor.a3
