import Derived.Test.YtmldkecaghokeaaGreatDoorMp
namespace Go.Proofs.YtmldkecaghokeaaGreatDoor.mq
open Go.RowKit Go.PlainAid
open Go.Proofs.YtmldkecaghokeaaGreatDoor.pl Go.Proofs.YtmldkecaghokeaaGreatDoor.pc Go.Proofs.YtmldkecaghokeaaGreatDoor.pf Go.Proofs.YtmldkecaghokeaaGreatDoor.pg Go.Proofs.YtmldkecaghokeaaGreatDoor.ph Go.Proofs.YtmldkecaghokeaaGreatDoor.pi Go.Proofs.YtmldkecaghokeaaGreatDoor.ft Go.Proofs.YtmldkecaghokeaaGreatDoor.pj Go.Proofs.YtmldkecaghokeaaGreatDoor.re Go.Proofs.YtmldkecaghokeaaGreatDoor.rf Go.Proofs.YtmldkecaghokeaaGreatDoor.mo Go.Proofs.YtmldkecaghokeaaGreatDoor.mp
set_option linter.unusedVariables false
set_option maxRecDepth 4000

set_option maxHeartbeats 800000 in
theorem rmac (key msg : ByteArray) (w : World) (hk : key.size ≤ 140737488352256) (hm : msg.size ≤ 140737488352000) (T : Hid (Tab4 w)) :
    Calls Tryz.prog 19 #[.string key, .string msg] w fun e w' => e = .returned (.string (macF key msg)) ∧ Below w.heap.size w w' := by
  have R1 : Hid (Calls _ _ _ _ _) := rkeyed key 54 w hk T
  have R2 : Hid (∀ w', Tab4 w' → Calls _ _ _ _ _) := fun w' t => rkeyed key 92 w' hk t
  have HM : Hid (macF key msg = sha (keyedF key 92 ++ sha (keyedF key 54 ++ msg))) := rfl
  rw [HM.out]
  clear HM
  have z1 := keyedF_size key 54
  have z2 := keyedF_size key 92
  generalize keyedF key 54 = k1 at *
  generalize keyedF key 92 = k2 at *
  obtain ⟨a, HA⟩ : ∃ a, k1 ++ msg = a := ⟨_, rfl⟩
  have za : a.size = 64 + msg.size := by rw [← HA, ByteArray.size_append, z1]
  rw [HA]
  have R3 : Hid (∀ w', Tab4 w' → Calls _ _ _ _ _) := fun w' t => RSum a w' (by omega) t
  have zs := sha_size a
  generalize sha a = sa at *
  obtain ⟨b, HB⟩ : ∃ b, k2 ++ sa = b := ⟨_, rfl⟩
  have zb : b.size = 96 := by rw [← HB, ByteArray.size_append, z2, zs]
  rw [HB]
  go_enter Tryz.func19, Tryz.ntmps19
  go_wp2_with fail
  refine R1.out.mono ?_
  rintro e w1 ⟨rfl, hb1⟩
  have B1 : Hid (Below w.heap.size w w1) := hb1
  clear hb1
  go_wp2_with fail
  refine (R3.out _ (T.out.down B1.out)).mono ?_
  rintro e w2 ⟨rfl, hb2⟩
  have B2 : Hid (Below w.heap.size w w2) := B1.out.trans (hb2.mono B1.out.size)
  clear hb2
  go_wp2_with fail
  refine (R2.out _ (T.out.down B2.out)).mono ?_
  rintro e w3 ⟨rfl, hb3⟩
  have B3 : Hid (Below w.heap.size w w3) := B2.out.trans (hb3.mono B2.out.size)
  clear hb3
  go_wp2_with fail
  refine (RSum b _ (by omega) (T.out.down B3.out)).mono ?_
  rintro e w4 ⟨rfl, hb4⟩
  have B4 : Hid (Below w.heap.size w w4) := B3.out.trans (hb4.mono B3.out.size)
  clear hb4
  go_wp2
  go_ret
  exact ⟨rfl, B4.out⟩


end Go.Proofs.YtmldkecaghokeaaGreatDoor.mq
