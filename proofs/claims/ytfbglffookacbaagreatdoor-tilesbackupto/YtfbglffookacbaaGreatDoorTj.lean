import Derived.Test.YtfbglffookacbaaGreatDoorTi
namespace Go.Proofs.YtfbglffookacbaaGreatDoor.tj
open Go.RowKit Go.PlainAid
open Go.Proofs.YtfbglffookacbaaGreatDoor.ta Go.Proofs.YtfbglffookacbaaGreatDoor.tb Go.Proofs.YtfbglffookacbaaGreatDoor.tc Go.Proofs.YtfbglffookacbaaGreatDoor.td Go.Proofs.YtfbglffookacbaaGreatDoor.te Go.Proofs.YtfbglffookacbaaGreatDoor.tf Go.Proofs.YtfbglffookacbaaGreatDoor.tg Go.Proofs.YtfbglffookacbaaGreatDoor.th Go.Proofs.YtfbglffookacbaaGreatDoor.ti
set_option linter.unusedVariables false
set_option maxRecDepth 4000

theorem below_dN {B : Nat} {a w : World} (h : Below B a w) (n : Nat) : Below B a (w.drewN n) := ⟨h.os, h.tape, h.output, h.size, h.block⟩
theorem toList_bs (a b : ByteArray) : (a.toList == b.toList) = decide (a = b) := by
  by_cases h : a = b
  · subst h; simp
  · rw [decide_eq_false h, beq_eq_false_iff_ne, ByteArray.toList_eq, ByteArray.toList_eq]
    intro e
    exact h (ByteArray.ext (Array.ext' e))
theorem toList_lit (a : ByteArray) (l : List UInt8) : (a.toList == l) = decide (a = ⟨l.toArray⟩) := by
  rw [← toList_bs, ByteArray.toList_eq, ByteArray.toList_eq]
-- the text without its last byte, if that is c
def trS (s : ByteArray) (c : UInt8) : ByteArray := if s.size ≠ 0 ∧ s.extract (s.size - 1) s.size = ⟨#[c]⟩ then s.extract 0 (s.size - 1) else s
theorem trS_size (s : ByteArray) (c : UInt8) : (trS s c).size ≤ s.size := by
  unfold trS
  split
  · rw [ByteArray.size_extract]; omega
  · exact Nat.le_refl _
def L64 : ByteArray := ⟨#[65, 66, 67, 68, 69, 70, 71, 72, 73, 74, 75, 76, 77, 78, 79, 80, 81, 82, 83, 84, 85, 86, 87, 88, 89, 90, 97, 98, 99, 100, 101, 102, 103, 104, 105, 106, 107, 108, 109, 110, 111, 112, 113, 114, 115, 116, 117, 118, 119, 120, 121, 122, 48, 49, 50, 51, 52, 53, 54, 55, 56, 57, 43, 47]⟩
def L16 : ByteArray := ⟨#[48, 49, 50, 51, 52, 53, 54, 55, 56, 57, 97, 98, 99, 100, 101, 102]⟩
theorem bs64 : bs L64 = A64 := by decide +kernel
theorem bs16 : bs L16 = A16 := by decide +kernel
theorem bsUP : bs UP = AUP := by decide +kernel
theorem bt_getD (q : ByteArray) (n : Nat) : bt q n = (bs q).getD n 0 := by
  by_cases h : n < q.size
  · rw [bs_getD q n h]
  · unfold bt
    rw [dif_neg h, List.getD_eq_getElem?_getD, List.getElem?_eq_none (by rw [bs_length]; omega)]
    rfl
theorem sg_of (q : ByteArray) (al : List Int) (h : bs q = al) : (fun x : Int => bt q x.toNat) = sg al := by
  funext x
  unfold sg
  rw [bt_getD, h]

theorem lit_part (x : UInt8) (sp : Nat) (h : sp ≤ 2) : bs ((⟨#[x, x]⟩ : ByteArray).extract 0 sp) = List.replicate sp (x.toNat : Int) := by
  have hb : bs (⟨#[x, x]⟩ : ByteArray) = [(x.toNat : Int), (x.toNat : Int)] := rfl
  rw [bs_extract _ 0 sp (by omega) (by show sp ≤ 2; omega), hb]
  match sp, h with
  | 0, _ => rfl
  | 1, _ => rfl
  | 2, _ => rfl
def full64 (s : ByteArray) : ByteArray := str ((sixes (bs s ++ List.replicate (spare s.size) 0)).map (sg A64))
theorem full64_size (s : ByteArray) : ∃ n, (full64 s).size = 4 * n ∧ s.size + spare s.size = 3 * n := by
  obtain ⟨n, h1, h2, h3⟩ := full_length (bs s)
  rw [bs_length] at h1 h2 h3
  exact ⟨n, by unfold full64; rw [str_size, List.length_map, h2], h3⟩
theorem b64_str (s : ByteArray) (sp : Nat) (hsp : spare s.size = sp) : str (b64L (bs s)) = (full64 s).extract 0 ((full64 s).size - sp) ++ (⟨#[61, 61]⟩ : ByteArray).extract 0 sp := by
  subst hsp
  have hz : (full64 s).size = (sixes (bs s ++ List.replicate (spare s.size) 0)).length := by unfold full64; rw [str_size, List.length_map]
  have hi : In 256 ((sixes (bs s ++ List.replicate (spare s.size) 0)).map (sg A64)) := by
    have := sixes_full (bs s) (bs_in s)
    rw [bs_length] at this
    exact a64.map_in _ this
  apply bs_inj
  rw [bs_str _ (b64L_in _ (bs_in s)), bs_two, lit_part 61 _ (spare_le _), bs_extract _ 0 _ (by omega) (by omega)]
  have hf : bs (full64 s) = (sixes (bs s ++ List.replicate (spare s.size) 0)).map (sg A64) := by unfold full64; rw [bs_str _ hi]
  rw [hf, hz, List.drop_zero]
  unfold b64L
  rw [bs_length]
  rfl
end Go.Proofs.YtfbglffookacbaaGreatDoor.tj
