import Derived.Test.YtmldkecaghokeaaGreatDoorRf
import Derived.Test.YtmldkecaghokeaaGreatDoorMo
namespace Go.Proofs.YtmldkecaghokeaaGreatDoor.mp
open Go.RowKit Go.PlainAid
open Go.Proofs.YtmldkecaghokeaaGreatDoor.pl Go.Proofs.YtmldkecaghokeaaGreatDoor.pc Go.Proofs.YtmldkecaghokeaaGreatDoor.pf Go.Proofs.YtmldkecaghokeaaGreatDoor.pg Go.Proofs.YtmldkecaghokeaaGreatDoor.ph Go.Proofs.YtmldkecaghokeaaGreatDoor.pi Go.Proofs.YtmldkecaghokeaaGreatDoor.ft Go.Proofs.YtmldkecaghokeaaGreatDoor.pj Go.Proofs.YtmldkecaghokeaaGreatDoor.re Go.Proofs.YtmldkecaghokeaaGreatDoor.rf Go.Proofs.YtmldkecaghokeaaGreatDoor.mo
set_option linter.unusedVariables false
set_option maxRecDepth 4000

-- the loop of the reference's keyed, by the key that it has by then
set_option maxHeartbeats 800000 in
theorem rkeyed (key : ByteArray) (x : Int) (w : World) (hk : key.size ≤ 140737488352256) (T : Hid (Tab4 w)) :
    Calls Tryz.prog 46 #[.string key, .int .u8 x] w fun e w' => e = .returned (.string (keyedF key x)) ∧ Below w.heap.size w w' := by
  obtain ⟨i5, hi, hz0, hz1, hz2⟩ := info_parts info5
  have HIN : Hid (_ ∧ _ ∧ _ ∧ _) := ⟨hi, hz0, hz1, hz2⟩
  clear hi hz0 hz1 hz2
  have HS := keyS_size key
  by_cases h64 : 64 < key.size
  · have h64' : (key.size : Int) > 64 := by omega
    have HKS : Hid (keyS key = sha key) := by show _ = _; unfold keyS; rw [if_pos h64]
    go_enter Tryz.func46, Tryz.ntmps46
    go_wp2_with fail
    refine (RSum key _ hk T.out).mono ?_
    rintro e w1 ⟨rfl, hb1⟩
    rw [← HKS.out]
    have HB1 : Hid (Below w.heap.size w w1) := hb1
    clear hb1
    have HF : Hid (str (keyL (keyS key) x 64) = keyedF key x) := rfl
    generalize keyS key = k at *
    go_wp2_with fail
    go_loopw [5, 6] (fun out i wr => ∃ n : Nat, n ≤ 64 ∧ i = .int .i64 n ∧ wr.ownsRow w.heap.size 5 1 out n ((keyL k x n).map (Value.int .u8)) ∧ Below w.heap.size w wr) (fun _ i _ => (64 - intOf i).toNat)
    case atStart => exact ⟨0, by omega, rfl, World.ownsRow_nil _ _ _ _, HB1.out⟩
    case round =>
      obtain ⟨n, hn, rfl, hown, hbel⟩ := hrel
      have HOWN : Hid (World.ownsRow _ _ _ _ _ _ _) := hown
      have HBEL : Hid (Below _ _ _) := hbel
      clear hown hbel HB1
      by_cases hlt : n < 64
      · have hlt' : (n : Int) < 64 := by omega
        have hbt := get_bt k
        have b0 := bt_nonneg k n
        have b1 := bt_le k n
        by_cases hin : n < k.size
        · have hin' : (n : Int) < k.size := by omega
          have HX : Hid (kbt k n = bt k n) := by show _ = _; unfold kbt; rw [if_pos hin]
          go_wp2_with (at_builtin; refine wpList_append_own _ rfl _ _ 75 rfl w.heap.size 5 i5 (.int .u8 0) 1 1 Tryz.underlying75 HIN.out.1 HIN.out.2.1 HIN.out.2.2.1 HIN.out.2.2.2 rfl (by decide) _ _ _ rfl (HOWN.out.alloc _) ⟨wr.heap.size, 0, none⟩ 1 1 [.int .u8 (bits .xor .u8 (bt k n) x)] rfl rfl (one_new' _ _ _) (fun u hu => by simp at hu; subst hu; rfl) (by unfold maxLen; omega) (by omega) (by have := HBEL.out.size; simp; omega) ?_; intro v' w3 hown' hgrow3 hnil3; have HOWN3 : Hid (World.ownsRow _ _ _ _ _ _ _) := hown'; have HBEL3 : Hid (Below w.heap.size w w3) := Below.grown (HBEL.out.alloc HBEL.out.size _) hgrow3 (by have := HBEL.out.size; simp; omega) (fun j hj => (HOWN.out.lt _ hj).1); clear hown' hgrow3 hnil3)
          go_roundw
          case rel =>
            refine ⟨n + 1, by omega, by go_num, ?_, HBEL3.out⟩
            rw [keyL_succ, HX.out, List.map_append]
            exact HOWN3.out
          case measure => simp [intOf]; omega
        · have hin' : ¬ (n : Int) < k.size := by omega
          have HX : Hid (kbt k n = 0) := by show _ = _; unfold kbt; rw [if_neg hin]
          go_wp2_with (at_builtin; refine wpList_append_own _ rfl _ _ 75 rfl w.heap.size 5 i5 (.int .u8 0) 1 1 Tryz.underlying75 HIN.out.1 HIN.out.2.1 HIN.out.2.2.1 HIN.out.2.2.2 rfl (by decide) _ _ _ rfl (HOWN.out.alloc _) ⟨wr.heap.size, 0, none⟩ 1 1 [.int .u8 (bits .xor .u8 0 x)] rfl rfl (one_new' _ _ _) (fun u hu => by simp at hu; subst hu; rfl) (by unfold maxLen; omega) (by omega) (by have := HBEL.out.size; simp; omega) ?_; intro v' w3 hown' hgrow3 hnil3; have HOWN3 : Hid (World.ownsRow _ _ _ _ _ _ _) := hown'; have HBEL3 : Hid (Below w.heap.size w w3) := Below.grown (HBEL.out.alloc HBEL.out.size _) hgrow3 (by have := HBEL.out.size; simp; omega) (fun j hj => (HOWN.out.lt _ hj).1); clear hown' hgrow3 hnil3)
          go_roundw
          case rel =>
            refine ⟨n + 1, by omega, by go_num, ?_, HBEL3.out⟩
            rw [keyL_succ, HX.out, List.map_append]
            exact HOWN3.out
          case measure => simp [intOf]; omega
      · have hlt' : ¬ (n : Int) < 64 := by omega
        obtain rfl : n = 64 := by omega
        have hcv := own_conv wr w.heap.size _ (keyL k x 64) 64 (by rw [keyL_length]) (by omega) HOWN.out
        rw [HF.out] at hcv
        go_wp2
        go_ret
        exact ⟨rfl, HBEL.out⟩
  · have h64' : ¬ (key.size : Int) > 64 := by omega
    have HKS : Hid (keyS key = key) := by show _ = _; unfold keyS; rw [if_neg h64]
    have HF : Hid (str (keyL key x 64) = keyedF key x) := by show _ = _; unfold keyedF; rw [HKS.out]
    have HB1 : Hid (Below w.heap.size w w) := Below.refl _ _
    go_enter Tryz.func46, Tryz.ntmps46
    go_wp2_with fail
    go_loopw [5, 6] (fun out i wr => ∃ n : Nat, n ≤ 64 ∧ i = .int .i64 n ∧ wr.ownsRow w.heap.size 5 1 out n ((keyL key x n).map (Value.int .u8)) ∧ Below w.heap.size w wr) (fun _ i _ => (64 - intOf i).toNat)
    case atStart => exact ⟨0, by omega, rfl, World.ownsRow_nil _ _ _ _, HB1.out⟩
    case round =>
      obtain ⟨n, hn, rfl, hown, hbel⟩ := hrel
      have HOWN : Hid (World.ownsRow _ _ _ _ _ _ _) := hown
      have HBEL : Hid (Below _ _ _) := hbel
      clear hown hbel HB1
      by_cases hlt : n < 64
      · have hlt' : (n : Int) < 64 := by omega
        have hbt := get_bt key
        have b0 := bt_nonneg key n
        have b1 := bt_le key n
        by_cases hin : n < key.size
        · have hin' : (n : Int) < key.size := by omega
          have HX : Hid (kbt key n = bt key n) := by show _ = _; unfold kbt; rw [if_pos hin]
          go_wp2_with (at_builtin; refine wpList_append_own _ rfl _ _ 75 rfl w.heap.size 5 i5 (.int .u8 0) 1 1 Tryz.underlying75 HIN.out.1 HIN.out.2.1 HIN.out.2.2.1 HIN.out.2.2.2 rfl (by decide) _ _ _ rfl (HOWN.out.alloc _) ⟨wr.heap.size, 0, none⟩ 1 1 [.int .u8 (bits .xor .u8 (bt key n) x)] rfl rfl (one_new' _ _ _) (fun u hu => by simp at hu; subst hu; rfl) (by unfold maxLen; omega) (by omega) (by have := HBEL.out.size; simp; omega) ?_; intro v' w3 hown' hgrow3 hnil3; have HOWN3 : Hid (World.ownsRow _ _ _ _ _ _ _) := hown'; have HBEL3 : Hid (Below w.heap.size w w3) := Below.grown (HBEL.out.alloc HBEL.out.size _) hgrow3 (by have := HBEL.out.size; simp; omega) (fun j hj => (HOWN.out.lt _ hj).1); clear hown' hgrow3 hnil3)
          go_roundw
          case rel =>
            refine ⟨n + 1, by omega, by go_num, ?_, HBEL3.out⟩
            rw [keyL_succ, HX.out, List.map_append]
            exact HOWN3.out
          case measure => simp [intOf]; omega
        · have hin' : ¬ (n : Int) < key.size := by omega
          have HX : Hid (kbt key n = 0) := by show _ = _; unfold kbt; rw [if_neg hin]
          go_wp2_with (at_builtin; refine wpList_append_own _ rfl _ _ 75 rfl w.heap.size 5 i5 (.int .u8 0) 1 1 Tryz.underlying75 HIN.out.1 HIN.out.2.1 HIN.out.2.2.1 HIN.out.2.2.2 rfl (by decide) _ _ _ rfl (HOWN.out.alloc _) ⟨wr.heap.size, 0, none⟩ 1 1 [.int .u8 (bits .xor .u8 0 x)] rfl rfl (one_new' _ _ _) (fun u hu => by simp at hu; subst hu; rfl) (by unfold maxLen; omega) (by omega) (by have := HBEL.out.size; simp; omega) ?_; intro v' w3 hown' hgrow3 hnil3; have HOWN3 : Hid (World.ownsRow _ _ _ _ _ _ _) := hown'; have HBEL3 : Hid (Below w.heap.size w w3) := Below.grown (HBEL.out.alloc HBEL.out.size _) hgrow3 (by have := HBEL.out.size; simp; omega) (fun j hj => (HOWN.out.lt _ hj).1); clear hown' hgrow3 hnil3)
          go_roundw
          case rel =>
            refine ⟨n + 1, by omega, by go_num, ?_, HBEL3.out⟩
            rw [keyL_succ, HX.out, List.map_append]
            exact HOWN3.out
          case measure => simp [intOf]; omega
      · have hlt' : ¬ (n : Int) < 64 := by omega
        obtain rfl : n = 64 := by omega
        have hcv := own_conv wr w.heap.size _ (keyL key x 64) 64 (by rw [keyL_length]) (by omega) HOWN.out
        rw [HF.out] at hcv
        go_wp2
        go_ret
        exact ⟨rfl, HBEL.out⟩
end Go.Proofs.YtmldkecaghokeaaGreatDoor.mp
