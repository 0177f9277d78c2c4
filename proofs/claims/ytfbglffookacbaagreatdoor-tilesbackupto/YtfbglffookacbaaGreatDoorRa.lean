import Derived.Test.YtfbglffookacbaaGreatDoorR9
import Derived.Test.YtfbglffookacbaaGreatDoorA2
import Derived.Deep.RegionHeldLaw
namespace Go.Proofs.YtfbglffookacbaaGreatDoor.ra
open Go.RowKit Go.PlainAid Go.Shelf
open Go.Proofs.YtfbglffookacbaaGreatDoor.ta Go.Proofs.YtfbglffookacbaaGreatDoor.tb Go.Proofs.YtfbglffookacbaaGreatDoor.tc Go.Proofs.YtfbglffookacbaaGreatDoor.cp Go.Proofs.YtfbglffookacbaaGreatDoor.wa Go.Proofs.YtfbglffookacbaaGreatDoor.wb Go.Proofs.YtfbglffookacbaaGreatDoor.a2 Go.Proofs.YtfbglffookacbaaGreatDoor.r3 Go.Proofs.YtfbglffookacbaaGreatDoor.r8 Go.Proofs.YtfbglffookacbaaGreatDoor.r9
set_option linter.unusedVariables false
set_option maxRecDepth 4000

-- what a path may be the path of
def ptsL (path : ByteArray) : List ByteArray := Lib.splitB ⟨#[47]⟩ 0 (min 4 (path.size + 1) - 1) path
def cutQ (path : ByteArray) : List UInt8 × List UInt8 × Bool := Lib.cut ((ptsL path).getD 3 ByteArray.empty).data.toList [46, 112, 47]
def ixT (path : ByteArray) : ByteArray := ⟨(cutQ path).1.toArray⟩
def ctT (path : ByteArray) : ByteArray := ⟨(cutQ path).2.1.toArray⟩
def gsH (path : ByteArray) : Int := numV ((ptsL path).getD 1 ByteArray.empty)
def gsL (path : ByteArray) : Int := numV ((ptsL path).getD 2 ByteArray.empty)
def gsI (path : ByteArray) : Int := numV (kpB (ixT path))
def gsC (path : ByteArray) : Int := if (cutQ path).2.2 = false ∧ 1 ≤ gsH path ∧ gsH path ≤ 8 then 2 ^ (gsH path).toNat else numV (ctT path)
def gsV (path : ByteArray) : Value := if (ptsL path).length < 4 then .agg #[.int .i64 0, .int .i64 0, .int .i64 0, .int .i64 0] else .agg #[.int .i64 (gsH path), .int .i64 (gsL path), .int .i64 (gsI path), .int .i64 (gsC path)]
theorem piece_size (sep : ByteArray) : ∀ (k : Nat) (s : ByteArray), ∀ x ∈ Lib.splitB sep 0 k s, x.size ≤ s.size
  | 0, s, x, hx => by
    rw [Lib.splitB_zero] at hx
    rw [List.mem_singleton.1 hx]
    exact Nat.le_refl _
  | k + 1, s, x, hx => by
    unfold Lib.splitB at hx
    split at hx
    · rw [List.mem_singleton.1 hx]; exact Nat.le_refl _
    · rcases List.mem_cons.1 hx with rfl | hx
      · rw [ByteArray.size_extract]; omega
      · have := piece_size sep k _ x hx
        rw [ByteArray.size_extract] at this
        omega
theorem pts_size (path : ByteArray) (j : Nat) : ((ptsL path).getD j ByteArray.empty).size ≤ path.size := by
  rw [List.getD_eq_getElem?_getD]
  cases h : (ptsL path)[j]? with
  | none => exact Nat.zero_le _
  | some x => exact piece_size _ _ _ x (List.mem_of_getElem? h)
theorem ix_size (path : ByteArray) : (ixT path).size ≤ path.size := by
  refine Nat.le_trans ?_ (pts_size path 3)
  show (cutQ path).1.toArray.size ≤ _
  unfold cutQ Lib.cut
  split
  · rw [List.size_toArray, List.length_take]; exact Nat.min_le_right _ _
  · rw [List.size_toArray]; exact Nat.le_refl _
theorem ct_size (path : ByteArray) : (ctT path).size ≤ path.size := by
  refine Nat.le_trans ?_ (pts_size path 3)
  show (cutQ path).2.1.toArray.size ≤ _
  unfold cutQ Lib.cut
  split
  · rw [List.size_toArray, List.length_drop]
    show ((ptsL path).getD 3 ByteArray.empty).data.toList.length - _ ≤ ((ptsL path).getD 3 ByteArray.empty).data.size
    rw [Array.length_toList]; omega
  · exact Nat.zero_le _
theorem kpB_size (s : ByteArray) : (kpB s).size ≤ s.size := by
  unfold kpB
  rw [str_size]
  exact KK_le s s.size
theorem numV_in (s : ByteArray) : -9223372036854775808 ≤ numV s ∧ numV s ≤ 9223372036854775807 := by
  unfold numV
  cases h : Lib.atoiAll s.data.toList with
  | ok n => exact Lib.atoiAll_bounds h
  | «syntax» => exact ⟨by decide, by decide⟩
  | range => exact ⟨by decide, by decide⟩
end Go.Proofs.YtfbglffookacbaaGreatDoor.ra
