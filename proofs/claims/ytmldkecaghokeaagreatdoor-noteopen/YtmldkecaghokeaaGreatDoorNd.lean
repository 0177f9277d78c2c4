import Derived.Test.YtmldkecaghokeaaGreatDoorNc
namespace Go.Proofs.YtmldkecaghokeaaGreatDoor.nd
open Go.RowKit Go.PlainAid
open Go.Proofs.YtmldkecaghokeaaGreatDoor.pl Go.Proofs.YtmldkecaghokeaaGreatDoor.pb Go.Proofs.YtmldkecaghokeaaGreatDoor.pc Go.Proofs.YtmldkecaghokeaaGreatDoor.pd Go.Proofs.YtmldkecaghokeaaGreatDoor.pe Go.Proofs.YtmldkecaghokeaaGreatDoor.pf Go.Proofs.YtmldkecaghokeaaGreatDoor.pg Go.Proofs.YtmldkecaghokeaaGreatDoor.ph Go.Proofs.YtmldkecaghokeaaGreatDoor.pi Go.Proofs.YtmldkecaghokeaaGreatDoor.ft Go.Proofs.YtmldkecaghokeaaGreatDoor.pj Go.Proofs.YtmldkecaghokeaaGreatDoor.mo Go.Proofs.YtmldkecaghokeaaGreatDoor.na Go.Proofs.YtmldkecaghokeaaGreatDoor.nb Go.Proofs.YtmldkecaghokeaaGreatDoor.nc
set_option linter.unusedVariables false
set_option maxRecDepth 4000

theorem over {w w1 w2 : World} (h : Below w.heap.size w w1) (b : Below w1.heap.size w1 w2) : Below w.heap.size w w2 := h.trans (b.mono h.size)

set_option maxHeartbeats 800000 in
theorem macSum (key msg : ByteArray) (w : World) (hk : key.size ≤ 140737488352256) (hm : msg.size ≤ 140737488352000) (T : Hid (Tab w)) :
    Calls Tryz.prog 16 #[.string key, .string msg] w fun e w' => e = .returned (.string (macF key msg)) ∧ Below w.heap.size w w' := by
  have R1 : Hid (Calls _ _ _ _ _) := filled key w hk T
  have HM : Hid (macF key msg = sha (str (keyL (keyS key) 92 64) ++ sha (str (keyL (keyS key) 54 64) ++ msg))) := rfl
  have hlen : (row (fillL (keyS key))).size = 64 := by rw [row_size, fillL_length]
  have HI : Hid ((Tryz.prog.info? 73).map (·.size) = some (row (fillL (keyS key))).size) := by show _ = _; rw [hlen]; exact size64b
  have H3 : Hid ((row (fillL (keyS key))).all (·.oneCell') = true) := by show _ = _; simp [row, Value.oneCell']
  have H4 : Hid ((row zL64).size = (row (fillL (keyS key))).size) := by show _ = _; rw [hlen, row_size]; simp [zL64]
  clear hlen
  obtain ⟨k, HK⟩ : ∃ k, Hid (keyS key = k) := ⟨_, rfl⟩
  rw [HK.out] at R1 HM HI H3 H4
  clear HK
  have z1 : (str (keyL k 54 64)).size = 64 := by rw [str_size, keyL_length]
  have z2 : (str (keyL k 92 64)).size = 64 := by rw [str_size, keyL_length]
  obtain ⟨a, HA⟩ : ∃ a, Hid (str (keyL k 54 64) ++ msg = a) := ⟨_, rfl⟩
  have za : a.size = 64 + msg.size := by rw [← HA.out, ByteArray.size_append, z1]
  obtain ⟨sa, HSA⟩ : ∃ sa, Hid (sha a = sa) := ⟨_, rfl⟩
  have zs : sa.size = 32 := by rw [← HSA.out, sha_size]
  obtain ⟨b, HB⟩ : ∃ b, Hid (str (keyL k 92 64) ++ sa = b) := ⟨_, rfl⟩
  have zb : b.size = 96 := by rw [← HB.out, ByteArray.size_append, z2, zs]
  rw [HA.out, HSA.out, HB.out] at HM
  clear z1 z2
  have hmf : ∀ (fn : Fn) (first cap : Array Value) (w : World), (Instr.makeFunc fn first cap).run Tryz.prog w = .ok (.func fn first cap) w := fun _ _ _ _ => rfl
  go_enter Tryz.func16, Tryz.ntmps16
  go_wp2_with fail
  refine R1.out.mono ?_
  rintro e w1 ⟨rfl, hb1⟩
  obtain ⟨w2, HW2⟩ : ∃ w2, Hid (w1.alloc (.cells (row (fillL k)) 73) = w2) := ⟨_, rfl⟩
  have HC : Hid (w2.heap[w1.heap.size]? = some (.cells (row (fillL k)) 73 (0, 0))) := by rw [← HW2.out]; exact heap_alloc_new w1 _
  have HLT : Hid (w1.heap.size < w2.heap.size) := World.lt_of_heap HC.out
  have B2 : Hid (Below w.heap.size w w2) := by rw [← HW2.out]; exact hb1.alloc hb1.size _
  clear hb1 R1
  have C1 : Hid (∀ w', w'.heap[w1.heap.size]? = some (.cells (row (fillL k)) 73 (0, 0)) → Calls Tryz.prog 39 #[.int .u8 54, .string msg, .pointer (some ⟨w1.heap.size, 0, none⟩)] w' fun e w'' => e = .returned (.string a) ∧ Below w'.heap.size w' w'') := fun w' h => by
    have := behind k 54 msg w1.heap.size w' hm h
    rw [HA.out] at this
    exact this
  have C2 : Hid (∀ w', w'.heap[w1.heap.size]? = some (.cells (row (fillL k)) 73 (0, 0)) → Calls Tryz.prog 39 #[.int .u8 92, .string sa, .pointer (some ⟨w1.heap.size, 0, none⟩)] w' fun e w'' => e = .returned (.string b) ∧ Below w'.heap.size w' w'') := fun w' h => by
    have := behind k 92 sa w1.heap.size w' (by omega) h
    rw [HB.out] at this
    exact this
  clear HA HB
  generalize row (fillL k) = WL at *
  go_wp2_with (first | (refine wpList_alloc rfl 73 rfl _ _ (alloc64b _) ?_) | (refine wpList_store_row rfl 73 (.tmp 5) (.tmp 8) rfl w1.heap.size WL rfl rfl 73 (row zL64) (heap_alloc_new w1 _) HI.out H4.out H3.out ?_; rw [World.setRow_alloc_new, HW2.out]))
  refine (C1.out _ HC.out).mono ?_
  rintro e w3 ⟨rfl, hb3⟩
  have B23 : Hid (Below w2.heap.size w2 w3) := hb3
  clear hb3
  go_wp2_with fail
  refine (Sum a _ (by omega) (T.out.down (over B2.out B23.out))).mono ?_
  rintro e w4 ⟨rfl, hb4⟩
  have B24 : Hid (Below w2.heap.size w2 w4) := over B23.out hb4
  clear hb4
  rw [HSA.out]
  go_wp2_with fail
  refine (C2.out _ ((B24.out.block _ HLT.out).trans HC.out)).mono ?_
  rintro e w5 ⟨rfl, hb5⟩
  have B25 : Hid (Below w2.heap.size w2 w5) := over B24.out hb5
  clear hb5
  go_wp2_with fail
  refine (Sum b _ (by omega) (T.out.down (over B2.out B25.out))).mono ?_
  rintro e w6 ⟨rfl, hb6⟩
  have B26 : Hid (Below w.heap.size w w6) := over B2.out (over B25.out hb6)
  clear hb6
  go_wp2
  go_ret
  exact ⟨by rw [HM.out]; rfl, B26.out⟩
end Go.Proofs.YtmldkecaghokeaaGreatDoor.nd
