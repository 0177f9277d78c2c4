import Derived.Test.YtmgkfkfmiddanaaCd
import Derived.Test.YtmgkfkfmiddanaaCi
namespace Go.Proofs.Ytmgkfkfmiddanaa.ce
open Go.RowKit Go.PlainAid
open Go.Proofs.Ytmgkfkfmiddanaa.cl Go.Proofs.Ytmgkfkfmiddanaa.ca Go.Proofs.Ytmgkfkfmiddanaa.cb Go.Proofs.Ytmgkfkfmiddanaa.cc Go.Proofs.Ytmgkfkfmiddanaa.cd Go.Proofs.Ytmgkfkfmiddanaa.ci
set_option linter.unusedVariables false

theorem crcF_lt (s : ByteArray) : crcF s < 4294967296 := onF_lt 0 _ (by omega) (nl_lt s _)
theorem nl_append (a b : ByteArray) : nl (a ++ b) (a ++ b).size = nl a a.size ++ nl b b.size := by
  have hs : (a ++ b).size = a.size + b.size := ByteArray.size_append
  apply List.ext_getElem
  · simp [nl, hs]
  · intro j h1 h2
    have hj : j < a.size + b.size := by simpa [nl, hs] using h1
    simp only [nl, List.getElem_map, List.getElem_range]
    rcases Nat.lt_or_ge j a.size with h | h
    · rw [List.getElem_append_left (by simpa using h)]
      simp only [List.getElem_map, List.getElem_range, nt]
      unfold bt
      rw [dif_pos (by omega), dif_pos h, ByteArray.getElem_append_left h]
    · rw [List.getElem_append_right (by simpa using h)]
      simp only [List.getElem_map, List.getElem_range, List.length_map, List.length_range, nt]
      unfold bt
      rw [dif_pos (by omega), dif_pos (by omega), ByteArray.getElem_append_right h]
theorem on_crc (a b : ByteArray) : crcOnF (crcF a) b = crcF (a ++ b) := by
  unfold crcOnF crcF
  rw [nl_append, onF_append]
theorem on_zero (a : ByteArray) : crcOnF 0 a = crcF a := rfl
theorem crc_a : crcF ⟨#[97]⟩ = 3904355907 := by decide +kernel
theorem crc_19 : crcF ⟨#[49, 50, 51, 52, 53, 54, 55, 56, 57]⟩ = 3421780262 := by decide +kernel


-- behind a call: the world that it left lies above the first one
theorem over {w w1 w2 : World} (h : Below w.heap.size w w1) (b : Below w1.heap.size w1 w2) : Below w.heap.size w w2 := h.trans (b.mono h.size)

set_option maxHeartbeats 800000 in
theorem mac_crc (c : Nat) (b : ByteArray) (w : World) (hc : c < 4294967296) (hb : b.size ≤ 140737488351232) :
    Calls Try.prog 6 #[.int .u32 c, .string b] w fun e w' => e = .returned (.bool true) ∧ Below w.heap.size w w' := by
  go_enter Try.func6, Try.ntmps6
  go_wp2_with fail
  refine (Crc b _ (by omega)).mono ?_
  rintro e w1 ⟨rfl, hb1⟩
  have B1 : Hid (Below w.heap.size w w1) := hb1
  clear hb1
  go_wp2_with fail
  refine (rcrc b _ (by omega)).mono ?_
  rintro e w1 ⟨rfl, rfl⟩
  have hx : onF 0 (nl b b.size) = crcF b := rfl
  rw [hx]
  clear hx
  go_wp2_with fail
  refine (CrcOn c b _ (by omega) hc).mono ?_
  rintro e w2 ⟨rfl, hb2⟩
  have B2 : Hid (Below w.heap.size w w2) := over B1.out hb2
  clear hb2
  go_wp2_with fail
  refine (rcrcOn c b _ (by omega) hc).mono ?_
  rintro e w3 ⟨rfl, rfl⟩
  have hx : onF c (nl b b.size) = crcOnF c b := rfl
  rw [hx]
  clear hx
  go_wp2
  go_ret
  exact ⟨rfl, B2.out⟩

set_option maxHeartbeats 800000 in
theorem mac_on (a b : ByteArray) (w : World) (ha : a.size ≤ 140737488351232) (hb : b.size ≤ 140737488351232) :
    Calls Try.prog 3 #[.string a, .string b] w fun e w' => e = .returned (.bool true) ∧ Below w.heap.size w w' := by
  obtain ⟨ab, HAB⟩ : ∃ ab, a ++ b = ab := ⟨_, rfl⟩
  have hz : ab.size = a.size + b.size := by rw [← HAB, ByteArray.size_append]
  have hz' : ab.size ≤ 281474976710656 := by omega
  have HO : Hid (crcOnF (crcF a) b = crcF ab) := by show _ = _; rw [on_crc, HAB]
  clear hz
  go_enter Try.func3, Try.ntmps3
  go_wp2_with fail
  refine (Crc ab _ (by omega)).mono ?_
  rintro e w1 ⟨rfl, hb1⟩
  have B1 : Hid (Below w.heap.size w w1) := hb1
  clear hb1
  go_wp2_with fail
  refine (Crc a _ (by omega)).mono ?_
  rintro e w2 ⟨rfl, hb2⟩
  have B2 : Hid (Below w.heap.size w w2) := over B1.out hb2
  clear hb2
  go_wp2_with fail
  refine (CrcOn (crcF a) b _ (by omega) (crcF_lt a)).mono ?_
  rintro e w3 ⟨rfl, hb3⟩
  have B3 : Hid (Below w.heap.size w w3) := over B2.out hb3
  clear hb3
  rw [HO.out]
  go_wp2_with fail
  refine (CrcOn 0 ab _ (by omega) (by omega)).mono ?_
  rintro e w4 ⟨rfl, hb4⟩
  have B4 : Hid (Below w.heap.size w w4) := over B3.out hb4
  clear hb4
  rw [on_zero]
  go_wp2_with fail
  refine (Crc _ _ (by decide)).mono ?_
  rintro e w5 ⟨rfl, hb5⟩
  have B5 : Hid (Below w.heap.size w w5) := over B4.out hb5
  clear hb5
  rw [crc_19]
  go_wp2
  go_ret
  exact ⟨rfl, B5.out⟩
end Go.Proofs.Ytmgkfkfmiddanaa.ce
