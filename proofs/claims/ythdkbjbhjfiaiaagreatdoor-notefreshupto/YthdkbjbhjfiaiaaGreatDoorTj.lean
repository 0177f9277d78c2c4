import Derived.Test.YthdkbjbhjfiaiaaGreatDoorTi
namespace Go.Proofs.YthdkbjbhjfiaiaaGreatDoor.tj
open Go.RowKit Go.PlainAid
open Go.Proofs.YthdkbjbhjfiaiaaGreatDoor.ta Go.Proofs.YthdkbjbhjfiaiaaGreatDoor.tb Go.Proofs.YthdkbjbhjfiaiaaGreatDoor.tc Go.Proofs.YthdkbjbhjfiaiaaGreatDoor.td Go.Proofs.YthdkbjbhjfiaiaaGreatDoor.te Go.Proofs.YthdkbjbhjfiaiaaGreatDoor.tf Go.Proofs.YthdkbjbhjfiaiaaGreatDoor.tg Go.Proofs.YthdkbjbhjfiaiaaGreatDoor.th Go.Proofs.YthdkbjbhjfiaiaaGreatDoor.ti
set_option linter.unusedVariables false
set_option maxRecDepth 4000

theorem below_dN {B : Nat} {a w : World} (h : Below B a w) (n : Nat) : Below B a (w.drewN n) := ⟨h.os, h.tape, h.output, h.size, h.block⟩
theorem toList_bs (a b : ByteArray) : (a.toList == b.toList) = decide (a = b) := by
  by_cases h : a = b
  · subst h; simp
  · rw [decide_eq_false h, beq_eq_false_iff_ne, ByteArray.toList_eq, ByteArray.toList_eq]
    intro e
    exact h (ByteArray.ext (Array.ext' e))
theorem toList_lit (a : ByteArray) (l : List UInt8) : (a.toList == l) = decide (a = ⟨l.toArray⟩) := by
  rw [← toList_bs, ByteArray.toList_eq, ByteArray.toList_eq]
set_option maxHeartbeats 800000 in
theorem lHas (s : ByteArray) (c : UInt8) (hs : s.size ≤ 281474976710656) (w : World) :
    Calls Tryz.prog 99 #[.string s, .string ⟨#[c]⟩] w fun e w' => e = .returned (.bool (decide (s.size ≠ 0 ∧ s.extract (s.size - 1) s.size = ⟨#[c]⟩))) ∧ w' = w := by
  have hone : (⟨#[c]⟩ : ByteArray).size = 1 := rfl
  by_cases h0 : s.size = 0
  · have hge : ¬ ((s.size : Int) ≥ 1) := by omega
    have hge2 : ¬ ((1 : Int) ≤ (s.size : Int)) := by omega
    have HD : Hid (decide (s.size ≠ 0 ∧ s.extract (s.size - 1) s.size = ⟨#[c]⟩) = false) := decide_eq_false (fun h => h.1 h0)
    rw [HD.out]
    go_enter Tryz.func99, Tryz.ntmps99
    go_wp2
    go_ret
    exact ⟨rfl, rfl⟩
  · have hge : ((s.size : Int) ≥ 1) := by omega
    have HD : Hid (decide (s.size ≠ 0 ∧ s.extract (s.size - 1) s.size = ⟨#[c]⟩) = decide (s.extract (s.size - 1) s.size = ⟨#[c]⟩)) := by show _ = _; simp [h0]
    rw [HD.out]
    have hk : ((s.size : Int) - 1).toNat = s.size - 1 := by omega
    have hk0 : (0 : Int) ≤ (s.size : Int) - 1 := by omega
    go_enter Tryz.func99, Tryz.ntmps99
    go_wp2
    go_ret
    exact ⟨congrArg (fun b => Ending.returned (.bool b)) (toList_lit _ [c]), rfl⟩

-- the text without its last byte, if that is c
def trS (s : ByteArray) (c : UInt8) : ByteArray := if s.size ≠ 0 ∧ s.extract (s.size - 1) s.size = ⟨#[c]⟩ then s.extract 0 (s.size - 1) else s
theorem trS_size (s : ByteArray) (c : UInt8) : (trS s c).size ≤ s.size := by
  unfold trS
  split
  · rw [ByteArray.size_extract]; omega
  · exact Nat.le_refl _
set_option maxHeartbeats 800000 in
theorem lTrim (s : ByteArray) (c : UInt8) (hs : s.size ≤ 281474976710656) (w : World) :
    Calls Tryz.prog 114 #[.string s, .string ⟨#[c]⟩] w fun e w' => e = .returned (.string (trS s c)) ∧ w' = w := by
  have HH : Hid (Calls _ _ _ _ _) := lHas s c hs w
  by_cases h : s.size ≠ 0 ∧ s.extract (s.size - 1) s.size = ⟨#[c]⟩
  · have h0 := h.1
    have HT : Hid (trS s c = s.extract 0 (s.size - 1)) := if_pos h
    rw [decide_eq_true h] at HH
    rw [HT.out]
    have hk : ((s.size : Int) - 1).toNat = s.size - 1 := by omega
    have hk0 : (0 : Int) ≤ (s.size : Int) - 1 := by omega
    clear h HT
    go_enter Tryz.func114, Tryz.ntmps114
    go_wp2_with fail
    refine HH.out.mono ?_
    rintro e w1 ⟨rfl, rfl⟩
    go_wp2
    go_ret
    exact ⟨rfl, rfl⟩
  · have HT : Hid (trS s c = s) := if_neg h
    rw [decide_eq_false h] at HH
    rw [HT.out]
    clear h HT
    go_enter Tryz.func114, Tryz.ntmps114
    go_wp2_with fail
    refine HH.out.mono ?_
    rintro e w1 ⟨rfl, rfl⟩
    go_wp2
    go_ret
    exact ⟨rfl, rfl⟩
set_option maxHeartbeats 800000 in
theorem trimSuffix (s : ByteArray) (c : UInt8) (hs : s.size ≤ 281474976710656) (w : World) :
    Calls Tryz.prog 83 #[.string s, .string ⟨#[c]⟩] w fun e w' => e = .returned (.string (trS s c)) ∧ w' = w := by
  have HH : Hid (Calls _ _ _ _ _) := lTrim s c hs w
  go_enter Tryz.func83, Tryz.ntmps83
  go_wp2_with fail
  refine HH.out.mono ?_
  rintro e w1 ⟨rfl, rfl⟩
  go_wp2
  go_ret
  exact ⟨rfl, rfl⟩

def L64 : ByteArray := ⟨#[65, 66, 67, 68, 69, 70, 71, 72, 73, 74, 75, 76, 77, 78, 79, 80, 81, 82, 83, 84, 85, 86, 87, 88, 89, 90, 97, 98, 99, 100, 101, 102, 103, 104, 105, 106, 107, 108, 109, 110, 111, 112, 113, 114, 115, 116, 117, 118, 119, 120, 121, 122, 48, 49, 50, 51, 52, 53, 54, 55, 56, 57, 43, 47]⟩
def L16 : ByteArray := ⟨#[48, 49, 50, 51, 52, 53, 54, 55, 56, 57, 97, 98, 99, 100, 101, 102]⟩
theorem bs64 : bs L64 = A64 := by decide +kernel
theorem bs16 : bs L16 = A16 := by decide +kernel
theorem bsUP : bs UP = AUP := by decide +kernel
theorem bt_getD (q : ByteArray) (n : Nat) : bt q n = (bs q).getD n 0 := by
  by_cases h : n < q.size
  · rw [bs_getD q n h]
  · unfold bt
    rw [dif_neg h, List.getD_eq_getElem?_getD, List.getElem?_eq_none (by rw [bs_length]; omega)]
    rfl
theorem sg_of (q : ByteArray) (al : List Int) (h : bs q = al) : (fun x : Int => bt q x.toNat) = sg al := by
  funext x
  unfold sg
  rw [bt_getD, h]

theorem lit_part (x : UInt8) (sp : Nat) (h : sp ≤ 2) : bs ((⟨#[x, x]⟩ : ByteArray).extract 0 sp) = List.replicate sp (x.toNat : Int) := by
  have hb : bs (⟨#[x, x]⟩ : ByteArray) = [(x.toNat : Int), (x.toNat : Int)] := rfl
  rw [bs_extract _ 0 sp (by omega) (by show sp ≤ 2; omega), hb]
  match sp, h with
  | 0, _ => rfl
  | 1, _ => rfl
  | 2, _ => rfl
def full64 (s : ByteArray) : ByteArray := str ((sixes (bs s ++ List.replicate (spare s.size) 0)).map (sg A64))
theorem full64_size (s : ByteArray) : ∃ n, (full64 s).size = 4 * n ∧ s.size + spare s.size = 3 * n := by
  obtain ⟨n, h1, h2, h3⟩ := full_length (bs s)
  rw [bs_length] at h1 h2 h3
  exact ⟨n, by unfold full64; rw [str_size, List.length_map, h2], h3⟩
theorem b64_str (s : ByteArray) (sp : Nat) (hsp : spare s.size = sp) : str (b64L (bs s)) = (full64 s).extract 0 ((full64 s).size - sp) ++ (⟨#[61, 61]⟩ : ByteArray).extract 0 sp := by
  subst hsp
  have hz : (full64 s).size = (sixes (bs s ++ List.replicate (spare s.size) 0)).length := by unfold full64; rw [str_size, List.length_map]
  have hi : In 256 ((sixes (bs s ++ List.replicate (spare s.size) 0)).map (sg A64)) := by
    have := sixes_full (bs s) (bs_in s)
    rw [bs_length] at this
    exact a64.map_in _ this
  apply bs_inj
  rw [bs_str _ (b64L_in _ (bs_in s)), bs_two, lit_part 61 _ (spare_le _), bs_extract _ 0 _ (by omega) (by omega)]
  have hf : bs (full64 s) = (sixes (bs s ++ List.replicate (spare s.size) 0)).map (sg A64) := by unfold full64; rw [bs_str _ hi]
  rw [hf, hz, List.drop_zero]
  unfold b64L
  rw [bs_length]
  rfl
theorem in64 (s : ByteArray) (sp : Nat) (hsp : spare s.size = sp) (hs : s.size ≤ 140737488355326) (w : World) :
    Calls Tryz.prog 92 #[.string (s ++ (⟨#[0, 0]⟩ : ByteArray).extract 0 sp), .string L64, .int .i64 6] w fun e w' => e = .returned (.string (full64 s)) ∧ Below w.heap.size w w' := by
  have h2 := spare_le s.size
  rw [hsp] at h2
  have hz : ((⟨#[0, 0]⟩ : ByteArray).extract 0 sp).size = sp := by rw [ByteArray.size_extract]; show min sp 2 - 0 = sp; omega
  have hzz : (s ++ (⟨#[0, 0]⟩ : ByteArray).extract 0 sp).size = s.size + sp := by rw [ByteArray.size_append, hz]
  have H := inSigns (s ++ (⟨#[0, 0]⟩ : ByteArray).extract 0 sp) L64 6 (by omega) (by omega) rfl (by omega) (by omega) w
  rw [sg_of L64 A64 bs64, bs_two, lit_part 0 _ h2, mach86 _ (by rw [List.length_append, bs_length, List.length_replicate, ← hsp]; unfold spare; omega) ((bs_in s).app (In.rep _ _ (by decide) (by decide)))] at H
  unfold full64
  rw [hsp]
  exact H

set_option maxHeartbeats 800000 in
theorem b64 (s : ByteArray) (hs : s.size ≤ 140737488355326) (w : World) :
    Calls Tryz.prog 60 #[.string s] w fun e w' => e = .returned (.string (str (b64L (bs s)))) ∧ Below w.heap.size w w' := by
  obtain ⟨n, z1, z2⟩ := full64_size s
  have hsz : (full64 s).size ≤ 281474976710656 := by unfold spare at z2; omega
  obtain ⟨sp, HSP⟩ : ∃ sp, Hid (spare s.size = sp) := ⟨_, rfl⟩
  have hsp := HSP.out
  have h1 : (3 - (s.size : Int) % 3) % 3 = (sp : Int) := by rw [← hsp]; unfold spare; omega
  have h2 : (-((s.size : Int) % 3)) % 3 = (sp : Int) := by rw [← hsp]; unfold spare; omega
  have h3 : sp ≤ 2 := by rw [← hsp]; exact spare_le _
  have h3' : (sp : Int) ≤ 2 := by omega
  have H : Hid (Calls _ _ _ _ _) := in64 s sp hsp hs w
  have HS : Hid (_ = _) := b64_str s sp hsp
  have hge : sp ≤ (full64 s).size := by rw [z1]; unfold spare at z2 hsp; omega
  unfold L64 at H
  rw [HS.out]
  clear HS hsp z1 z2 HSP
  generalize full64 s = G at *
  have hk : ((G.size : Int) - sp).toNat = G.size - sp := by omega
  have hk0 : (0 : Int) ≤ (G.size : Int) - sp := by omega
  have hk1 : (G.size : Int) - sp ≤ G.size := by omega
  have hk2 : (sp : Int) ≤ G.size := by omega
  have hk4 : (G.extract 0 (G.size - sp)).size ≤ 281474976710656 := by rw [ByteArray.size_extract]; omega
  have hk5 : ((⟨#[61, 61]⟩ : ByteArray).extract 0 sp).size ≤ 2 := by rw [ByteArray.size_extract]; show min sp 2 - 0 ≤ 2; omega
  have hk6 : ((⟨#[0, 0]⟩ : ByteArray).extract 0 sp).size ≤ 2 := by rw [ByteArray.size_extract]; show min sp 2 - 0 ≤ 2; omega
  go_enter Tryz.func60, Tryz.ntmps60
  go_wp2_with fail
  refine H.out.mono ?_
  rintro e w1 ⟨rfl, hb⟩
  have HB : Hid (Below _ _ _) := hb
  clear hb H
  go_wp2_with fail
  go_quiet (fail)
  go_wp2
  go_ret
  exact ⟨rfl, below_dN HB.out nq⟩
end Go.Proofs.YthdkbjbhjfiaiaaGreatDoor.tj
