import Derived.Test.YtmldkecaghokeaaGreatDoorNg
namespace Go.Proofs.YtmldkecaghokeaaGreatDoor.nh
open Go.RowKit Go.PlainAid
open Go.Proofs.YtmldkecaghokeaaGreatDoor.pl Go.Proofs.YtmldkecaghokeaaGreatDoor.pc Go.Proofs.YtmldkecaghokeaaGreatDoor.pf Go.Proofs.YtmldkecaghokeaaGreatDoor.pg Go.Proofs.YtmldkecaghokeaaGreatDoor.ph Go.Proofs.YtmldkecaghokeaaGreatDoor.pi Go.Proofs.YtmldkecaghokeaaGreatDoor.ft Go.Proofs.YtmldkecaghokeaaGreatDoor.pj Go.Proofs.YtmldkecaghokeaaGreatDoor.re Go.Proofs.YtmldkecaghokeaaGreatDoor.rf Go.Proofs.YtmldkecaghokeaaGreatDoor.mo Go.Proofs.YtmldkecaghokeaaGreatDoor.mp Go.Proofs.YtmldkecaghokeaaGreatDoor.mq Go.Proofs.YtmldkecaghokeaaGreatDoor.nd Go.Proofs.YtmldkecaghokeaaGreatDoor.ne Go.Proofs.YtmldkecaghokeaaGreatDoor.ng
set_option linter.unusedVariables false
set_option maxRecDepth 4000

def kName : ByteArray := ⟨#[97, 110, 110, 97, 108, 115, 32, 107, 101, 121]⟩
def kSep : ByteArray := ⟨#[10, 2]⟩
def kidF (name secret : ByteArray) : ByteArray := (sha (name ++ kSep ++ macF secret kName)).extract 0 4

set_option maxHeartbeats 800000 in
theorem cut4_of (x s : ByteArray) (w : World) (hx : x.size = 32) (HS : Hid (Calls Tryz.prog 40 #[.string s] w fun e w' => e = .returned (.string x) ∧ Below w.heap.size w w')) :
    Calls Tryz.prog 61 #[.string s, .int .i64 4] w fun e w' => e = .returned (.string (x.extract 0 4)) ∧ Below w.heap.size w w' := by
  go_enter Tryz.func61, Tryz.ntmps61
  go_wp2_with fail
  refine HS.out.mono ?_
  rintro e w1 ⟨rfl, hb1⟩
  have B1 : Hid (Below w.heap.size w w1) := hb1
  clear hb1
  go_wp2
  go_ret
  exact ⟨rfl, B1.out⟩
theorem cut4 (s : ByteArray) (w : World) (hs : s.size ≤ 140737488355328) (T : Hid (Tab w)) :
    Calls Tryz.prog 61 #[.string s, .int .i64 4] w fun e w' => e = .returned (.string ((sha s).extract 0 4)) ∧ Below w.heap.size w w' :=
  cut4_of (sha s) s w (sha_size s) (Sum s w (by omega) T)

set_option maxHeartbeats 800000 in
theorem keyID (name secret : ByteArray) (w : World) (hn : name.size ≤ 140737488351232) (hs : secret.size ≤ 140737488351232) (T : Hid (Tab w)) :
    Calls Tryz.prog 37 #[.string name, .string secret] w fun e w' => e = .returned (.string (kidF name secret)) ∧ Below w.heap.size w w' := by
  have C : Hid (Calls Tryz.prog 16 #[.string secret, .string ⟨#[97, 110, 110, 97, 108, 115, 32, 107, 101, 121]⟩] w fun e w' => e = .returned (.string (macF secret kName)) ∧ Below w.heap.size w w') := macSum secret kName w (by omega) (by decide) T
  have HF : Hid (kidF name secret = (sha (name ++ kSep ++ macF secret kName)).extract 0 4) := rfl
  have zm := macF_size secret kName
  generalize macF secret kName = c at *
  obtain ⟨x, HX⟩ : ∃ x, Hid (name ++ kSep ++ c = x) := ⟨_, rfl⟩
  have hx : name ++ ⟨#[10, 2]⟩ ++ c = x := HX.out
  have z2 : (⟨#[10, 2]⟩ : ByteArray).size = 2 := rfl
  have zx : x.size = name.size + 34 := by rw [← hx, ByteArray.size_append, ByteArray.size_append, zm, z2]
  rw [HX.out] at HF
  go_enter Tryz.func37, Tryz.ntmps37
  go_wp2_with fail
  refine C.out.mono ?_
  rintro e w1 ⟨rfl, hb1⟩
  have B1 : Hid (Below w.heap.size w w1) := hb1
  clear hb1
  go_wp2_with fail
  refine (cut4 x _ (by omega) (T.out.down B1.out)).mono ?_
  rintro e w2 ⟨rfl, hb2⟩
  have B2 : Hid (Below w.heap.size w w2) := over B1.out hb2
  clear hb2
  rw [← HF.out]
  go_wp2
  go_ret
  exact ⟨rfl, B2.out⟩

set_option maxHeartbeats 800000 in
theorem rkeyID (name secret : ByteArray) (w : World) (hn : name.size ≤ 140737488351232) (hs : secret.size ≤ 140737488351232) (T : Hid (Tab4 w)) :
    Calls Tryz.prog 51 #[.string name, .string secret] w fun e w' => e = .returned (.string (kidF name secret)) ∧ Below w.heap.size w w' := by
  have C : Hid (Calls Tryz.prog 19 #[.string secret, .string ⟨#[97, 110, 110, 97, 108, 115, 32, 107, 101, 121]⟩] w fun e w' => e = .returned (.string (macF secret kName)) ∧ Below w.heap.size w w') := rmac secret kName w (by omega) (by decide) T
  have HF : Hid (kidF name secret = (sha (name ++ kSep ++ macF secret kName)).extract 0 4) := rfl
  have zm := macF_size secret kName
  generalize macF secret kName = c at *
  obtain ⟨x, HX⟩ : ∃ x, Hid (name ++ kSep ++ c = x) := ⟨_, rfl⟩
  have hx : name ++ ⟨#[10, 2]⟩ ++ c = x := HX.out
  have z2 : (⟨#[10, 2]⟩ : ByteArray).size = 2 := rfl
  have zx : x.size = name.size + 34 := by rw [← hx, ByteArray.size_append, ByteArray.size_append, zm, z2]
  rw [HX.out] at HF
  go_enter Tryz.func51, Tryz.ntmps51
  go_wp2_with fail
  refine C.out.mono ?_
  rintro e w1 ⟨rfl, hb1⟩
  have B1 : Hid (Below w.heap.size w w1) := hb1
  clear hb1
  go_wp2_with fail
  refine (RSum x _ (by omega) (T.out.down B1.out)).mono ?_
  rintro e w2 ⟨rfl, hb2⟩
  have B2 : Hid (Below w.heap.size w w2) := over B1.out hb2
  clear hb2
  have zs := sha_size x
  generalize sha x = t at *
  go_wp2
  go_ret
  exact ⟨by rw [HF.out]; rfl, B2.out⟩

theorem tabs4 {w : World} (tabs : St8 w 1 ∧ K64 w 4 ∧ St8 w 0 ∧ K64 w 2) : Tab4 w := Tab4.of tabs

end Go.Proofs.YtmldkecaghokeaaGreatDoor.nh
