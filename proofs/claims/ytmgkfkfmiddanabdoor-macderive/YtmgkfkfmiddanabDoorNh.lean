import Derived.Test.YtmgkfkfmiddanabDoorNg
namespace Go.Proofs.YtmgkfkfmiddanabDoor.nh
open Go.RowKit Go.PlainAid
open Go.Proofs.YtmgkfkfmiddanabDoor.pl Go.Proofs.YtmgkfkfmiddanabDoor.pc Go.Proofs.YtmgkfkfmiddanabDoor.pf Go.Proofs.YtmgkfkfmiddanabDoor.pg Go.Proofs.YtmgkfkfmiddanabDoor.ph Go.Proofs.YtmgkfkfmiddanabDoor.pi Go.Proofs.YtmgkfkfmiddanabDoor.ft Go.Proofs.YtmgkfkfmiddanabDoor.pj Go.Proofs.YtmgkfkfmiddanabDoor.re Go.Proofs.YtmgkfkfmiddanabDoor.rf Go.Proofs.YtmgkfkfmiddanabDoor.mo Go.Proofs.YtmgkfkfmiddanabDoor.mp Go.Proofs.YtmgkfkfmiddanabDoor.mq Go.Proofs.YtmgkfkfmiddanabDoor.nd Go.Proofs.YtmgkfkfmiddanabDoor.ne Go.Proofs.YtmgkfkfmiddanabDoor.ng
set_option linter.unusedVariables false

def kName : ByteArray := ⟨#[97, 110, 110, 97, 108, 115, 32, 107, 101, 121]⟩
def kSep : ByteArray := ⟨#[10, 2]⟩
def kidF (name secret : ByteArray) : ByteArray := (sha (name ++ kSep ++ macF secret kName)).extract 0 4

set_option maxHeartbeats 800000 in
theorem cut4_of (x s : ByteArray) (w : World) (hx : x.size = 32) (HS : Hid (Calls Tryd.prog 15 #[.string s] w fun e w' => e = .returned (.string x) ∧ Below w.heap.size w w')) :
    Calls Tryd.prog 18 #[.string s, .int .i64 4] w fun e w' => e = .returned (.string (x.extract 0 4)) ∧ Below w.heap.size w w' := by
  go_enter Tryd.func18, Tryd.ntmps18
  go_wp2_with fail
  refine HS.out.mono ?_
  rintro e w1 ⟨rfl, hb1⟩
  have B1 : Hid (Below w.heap.size w w1) := hb1
  clear hb1
  go_wp2
  go_ret
  exact ⟨rfl, B1.out⟩
theorem cut4 (s : ByteArray) (w : World) (hs : s.size ≤ 140737488355328) (T : Hid (Tab w)) :
    Calls Tryd.prog 18 #[.string s, .int .i64 4] w fun e w' => e = .returned (.string ((sha s).extract 0 4)) ∧ Below w.heap.size w w' :=
  cut4_of (sha s) s w (sha_size s) (Sum s w (by omega) T)

set_option maxHeartbeats 800000 in
theorem keyID (name secret : ByteArray) (w : World) (hn : name.size ≤ 140737488351232) (hs : secret.size ≤ 140737488351232) (T : Hid (Tab w)) :
    Calls Tryd.prog 9 #[.string name, .string secret] w fun e w' => e = .returned (.string (kidF name secret)) ∧ Below w.heap.size w w' := by
  have C : Hid (Calls Tryd.prog 7 #[.string secret, .string ⟨#[97, 110, 110, 97, 108, 115, 32, 107, 101, 121]⟩] w fun e w' => e = .returned (.string (macF secret kName)) ∧ Below w.heap.size w w') := macSum secret kName w (by omega) (by decide) T
  have HF : Hid (kidF name secret = (sha (name ++ kSep ++ macF secret kName)).extract 0 4) := rfl
  have zm := macF_size secret kName
  generalize macF secret kName = c at *
  obtain ⟨x, HX⟩ : ∃ x, Hid (name ++ kSep ++ c = x) := ⟨_, rfl⟩
  have hx : name ++ ⟨#[10, 2]⟩ ++ c = x := HX.out
  have z2 : (⟨#[10, 2]⟩ : ByteArray).size = 2 := rfl
  have zx : x.size = name.size + 34 := by rw [← hx, ByteArray.size_append, ByteArray.size_append, zm, z2]
  rw [HX.out] at HF
  go_enter Tryd.func9, Tryd.ntmps9
  go_wp2_with fail
  refine C.out.mono ?_
  rintro e w1 ⟨rfl, hb1⟩
  have B1 : Hid (Below w.heap.size w w1) := hb1
  clear hb1
  go_wp2_with fail
  refine (cut4 x _ (by omega) (T.out.down B1.out)).mono ?_
  rintro e w2 ⟨rfl, hb2⟩
  have B2 : Hid (Below w.heap.size w w2) := over B1.out hb2
  clear hb2
  rw [← HF.out]
  go_wp2
  go_ret
  exact ⟨rfl, B2.out⟩

set_option maxHeartbeats 800000 in
theorem rkeyID (name secret : ByteArray) (w : World) (hn : name.size ≤ 140737488351232) (hs : secret.size ≤ 140737488351232) (T : Hid (Tab4 w)) :
    Calls Tryd.prog 10 #[.string name, .string secret] w fun e w' => e = .returned (.string (kidF name secret)) ∧ Below w.heap.size w w' := by
  have C : Hid (Calls Tryd.prog 8 #[.string secret, .string ⟨#[97, 110, 110, 97, 108, 115, 32, 107, 101, 121]⟩] w fun e w' => e = .returned (.string (macF secret kName)) ∧ Below w.heap.size w w') := rmac secret kName w (by omega) (by decide) T
  have HF : Hid (kidF name secret = (sha (name ++ kSep ++ macF secret kName)).extract 0 4) := rfl
  have zm := macF_size secret kName
  generalize macF secret kName = c at *
  obtain ⟨x, HX⟩ : ∃ x, Hid (name ++ kSep ++ c = x) := ⟨_, rfl⟩
  have hx : name ++ ⟨#[10, 2]⟩ ++ c = x := HX.out
  have z2 : (⟨#[10, 2]⟩ : ByteArray).size = 2 := rfl
  have zx : x.size = name.size + 34 := by rw [← hx, ByteArray.size_append, ByteArray.size_append, zm, z2]
  rw [HX.out] at HF
  go_enter Tryd.func10, Tryd.ntmps10
  go_wp2_with fail
  refine C.out.mono ?_
  rintro e w1 ⟨rfl, hb1⟩
  have B1 : Hid (Below w.heap.size w w1) := hb1
  clear hb1
  go_wp2_with fail
  refine (RSum x _ (by omega) (T.out.down B1.out)).mono ?_
  rintro e w2 ⟨rfl, hb2⟩
  have B2 : Hid (Below w.heap.size w w2) := over B1.out hb2
  clear hb2
  have zs := sha_size x
  generalize sha x = t at *
  go_wp2
  go_ret
  exact ⟨by rw [HF.out]; rfl, B2.out⟩

theorem tabs4 {w : World} (tabs : St8 w 1 ∧ K64 w 3 ∧ St8 w 0 ∧ K64 w 2) : Tab4 w := Tab4.of tabs

set_option maxHeartbeats 800000 in
theorem law_sum (key msg : ByteArray) (z0 : key.size ≤ 140737488351232) (z1 : msg.size ≤ 140737488351232) (w : World) (tabs : St8 w 1 ∧ K64 w 3 ∧ St8 w 0 ∧ K64 w 2) :
    Calls Tryd.prog 3 #[.string key, .string msg] w fun e w' => e = .returned (.bool true) ∧ Below w.heap.size w w' := by
  have T : Hid (Tab4 w) := tabs4 tabs
  clear tabs
  have S2 : Hid (∀ w', Calls Tryd.prog 6 #[.string key, .string key] w' fun e w'' => e = .returned (.bool true) ∧ Below w'.heap.size w' w'') := fun w' => by
    have := same key key w' (by omega) (by omega)
    rw [decide_eq_true rfl] at this
    exact this
  by_cases h : key = msg
  · have S1 : Hid (Calls Tryd.prog 6 #[.string key, .string msg] w fun e w'' => e = .returned (.bool true) ∧ Below w.heap.size w w'') := by
      have := same key msg w (by omega) (by omega)
      rw [decide_eq_true h] at this
      exact this
    have h1 : (key.toList == msg.toList) = true := by rw [h]; exact beq_self_eq_true _
    have HH : Hid _ := h
    clear h
    go_enter Tryd.func3, Tryd.ntmps3
    go_wp2_with fail
    refine S1.out.mono ?_
    rintro e w1 ⟨rfl, hb1⟩
    have B1 : Hid (Below w.heap.size w w1) := hb1
    clear hb1
    go_wp2_with fail
    refine (S2.out _).mono ?_
    rintro e w2 ⟨rfl, hb2⟩
    have B2 : Hid (Below w.heap.size w w2) := over B1.out hb2
    clear hb2
    go_wp2_with fail
    refine (macSum key msg _ (by omega) (by omega) (T.out.down B2.out).t).mono ?_
    rintro e w3 ⟨rfl, hb3⟩
    have B3 : Hid (Below w.heap.size w w3) := over B2.out hb3
    clear hb3
    go_wp2_with fail
    refine (rmac key msg _ (by omega) (by omega) (T.out.down B3.out)).mono ?_
    rintro e w4 ⟨rfl, hb4⟩
    have B4 : Hid (Below w.heap.size w w4) := over B3.out hb4
    clear hb4
    go_wp2
    go_ret
    exact ⟨rfl, B4.out⟩
  · have S1 : Hid (Calls Tryd.prog 6 #[.string key, .string msg] w fun e w'' => e = .returned (.bool false) ∧ Below w.heap.size w w'') := by
      have := same key msg w (by omega) (by omega)
      rw [decide_eq_false h] at this
      exact this
    have h1 : (key.toList == msg.toList) = false := by
      rw [beq_eq_false_iff_ne, ByteArray.toList_eq, ByteArray.toList_eq]
      intro e
      exact h (ByteArray.ext (Array.ext' e))
    have HH : Hid _ := h
    clear h
    go_enter Tryd.func3, Tryd.ntmps3
    go_wp2_with fail
    refine S1.out.mono ?_
    rintro e w1 ⟨rfl, hb1⟩
    have B1 : Hid (Below w.heap.size w w1) := hb1
    clear hb1
    go_wp2_with fail
    refine (S2.out _).mono ?_
    rintro e w2 ⟨rfl, hb2⟩
    have B2 : Hid (Below w.heap.size w w2) := over B1.out hb2
    clear hb2
    go_wp2_with fail
    refine (macSum key msg _ (by omega) (by omega) (T.out.down B2.out).t).mono ?_
    rintro e w3 ⟨rfl, hb3⟩
    have B3 : Hid (Below w.heap.size w w3) := over B2.out hb3
    clear hb3
    go_wp2_with fail
    refine (rmac key msg _ (by omega) (by omega) (T.out.down B3.out)).mono ?_
    rintro e w4 ⟨rfl, hb4⟩
    have B4 : Hid (Below w.heap.size w w4) := over B3.out hb4
    clear hb4
    go_wp2
    go_ret
    exact ⟨rfl, B4.out⟩

set_option maxHeartbeats 800000 in
theorem law_id (name secret : ByteArray) (z0 : name.size ≤ 140737488351232) (z1 : secret.size ≤ 140737488351232) (w : World) (tabs : St8 w 1 ∧ K64 w 3 ∧ St8 w 0 ∧ K64 w 2) :
    Calls Tryd.prog 4 #[.string name, .string secret] w fun e w' => e = .returned (.bool true) ∧ Below w.heap.size w w' := by
  have T : Hid (Tab4 w) := tabs4 tabs
  clear tabs
  go_enter Tryd.func4, Tryd.ntmps4
  go_wp2_with fail
  refine (keyID name secret _ z0 z1 T.out.t).mono ?_
  rintro e w1 ⟨rfl, hb1⟩
  have B1 : Hid (Below w.heap.size w w1) := hb1
  clear hb1
  go_wp2_with fail
  refine (rkeyID name secret _ z0 z1 (T.out.down B1.out)).mono ?_
  rintro e w2 ⟨rfl, hb2⟩
  have B2 : Hid (Below w.heap.size w w2) := over B1.out hb2
  clear hb2
  go_wp2
  go_ret
  exact ⟨rfl, B2.out⟩

set_option maxHeartbeats 800000 in
theorem law_derive (key label : ByteArray) (n : Int) (z0 : key.size ≤ 140737488351232) (z1 : label.size ≤ 140737488351232) (w : World) (tabs : St8 w 1 ∧ K64 w 3 ∧ St8 w 0 ∧ K64 w 2) :
    Calls Tryd.prog 5 #[.string key, .string label, .int .i64 n] w fun e w' => e = .returned (.bool true) ∧ Below w.heap.size w w' := by
  have T : Hid (Tab4 w) := tabs4 tabs
  clear tabs
  by_cases h : n < 0 ∨ 8160 < n
  · have C1 : Hid (Calls _ _ _ _ _) := derive_no key label n w h
    have C2 : Hid (∀ w', Calls _ _ _ _ _) := fun w' => rderive_no key label n w' h
    clear h
    go_enter Tryd.func5, Tryd.ntmps5
    go_wp2_with fail
    refine C1.out.mono ?_
    rintro e w1 ⟨rfl, hb1⟩
    have B1 : Hid (Below w.heap.size w w1) := hb1
    clear hb1
    go_wp2_with fail
    refine (C2.out _).mono ?_
    rintro e w2 ⟨rfl, rfl⟩
    go_wp2
    go_ret
    exact ⟨rfl, B1.out⟩
  · obtain ⟨N, rfl⟩ := Int.eq_ofNat_of_zero_le (show 0 ≤ n by omega)
    have hN : N ≤ 8160 := by omega
    clear h
    go_enter Tryd.func5, Tryd.ntmps5
    go_wp2_with fail
    refine (derive key label N _ (by omega) z1 hN T.out.t).mono ?_
    rintro e w1 ⟨rfl, hb1⟩
    have B1 : Hid (Below w.heap.size w w1) := hb1
    clear hb1
    go_wp2_with fail
    refine (rderive key label N _ (by omega) z1 hN (T.out.down B1.out)).mono ?_
    rintro e w2 ⟨rfl, hb2⟩
    have B2 : Hid (Below w.heap.size w w2) := over B1.out hb2
    clear hb2
    go_wp2
    go_ret
    exact ⟨rfl, B2.out⟩
end Go.Proofs.YtmgkfkfmiddanabDoor.nh
