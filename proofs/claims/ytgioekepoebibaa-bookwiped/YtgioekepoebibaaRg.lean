import Derived.Test.YtgioekepoebibaaRc
import Derived.Deep.WholeRow
import Derived.Laws.ResultCell
namespace Go.Proofs.Ytgioekepoebibaa.rg
open Go.RowKit Go.PlainAid
open Go.Proofs.Ytgioekepoebibaa.ra Go.Proofs.Ytgioekepoebibaa.rb Go.Proofs.Ytgioekepoebibaa.nb Go.Proofs.Ytgioekepoebibaa.rc
set_option linter.unusedVariables false

-- rows of numbers of 32 bits
def row32 (ns : List Int) : Array Value := (ns.map (Value.int .u32)).toArray
theorem row32_size (ns : List Int) : (row32 ns).size = ns.length := by simp [row32]
theorem row32_set (ns : List Int) (i : Nat) (x : Int) : (row32 ns).setIfInBounds i (.int .u32 x) = row32 (ns.set i x) := by simp [row32]
theorem row32_get (ns : List Int) (i : Nat) : (row32 ns)[i]? = (ns[i]?).map (Value.int .u32) := by simp [row32]

-- the table as far as it is filled
def tabL (m : Nat) : List Int := (List.range 256).map fun j => if j < m then ((sts 8 j : Nat) : Int) else 0
theorem tabL_length (m : Nat) : (tabL m).length = 256 := by simp [tabL]
theorem tabL_get (m j : Nat) (h : j < 256) : (tabL m)[j]? = some (if j < m then ((sts 8 j : Nat) : Int) else 0) := by
  simp [tabL, h]
theorem tabL_low (m j : Nat) (h : j < 256) (hm : j < m) : (tabL m)[j]? = some ((sts 8 j : Nat) : Int) := by
  rw [tabL_get m j h, if_pos hm]
theorem tabL_set (m : Nat) (x : Int) (h : m < 256) (hx : x = ((sts 8 m : Nat) : Int)) : (tabL m).set m x = tabL (m + 1) := by
  apply List.ext_getElem?
  intro j
  by_cases hj : j < 256
  · rw [tabL_get (m + 1) j hj, List.getElem?_set]
    by_cases e : m = j
    · subst e
      rw [if_pos rfl, if_pos (by rw [tabL_length]; exact h), if_pos (by omega), hx]
    · rw [if_neg e, tabL_get m j hj]
      by_cases h2 : j < m
      · rw [if_pos h2, if_pos (by omega)]
      · rw [if_neg h2, if_neg (by omega)]
  · rw [List.getElem?_eq_none (by rw [List.length_set, tabL_length]; omega), List.getElem?_eq_none (by rw [tabL_length]; omega)]
def zT : Array Value := row32 (List.replicate 256 0)
theorem tabL_rep : List.replicate 256 (0 : Int) = tabL 1 := by
  apply List.ext_getElem?
  intro j
  by_cases hj : j < 256
  · rw [tabL_get 1 j hj, List.getElem?_replicate, if_pos hj]
    by_cases h0 : j < 1
    · obtain rfl : j = 0 := by omega
      rw [if_pos h0]; rfl
    · rw [if_neg h0]
  · rw [List.getElem?_eq_none (by rw [List.length_replicate]; omega), List.getElem?_eq_none (by rw [tabL_length]; omega)]
theorem tabL_one : zT = row32 (tabL 1) := by rw [zT, tabL_rep]
theorem top_xor (k r : Nat) (h : r < 2 ^ k) : 2 ^ k + r = 2 ^ k ^^^ r := by
  have h1 : 2 ^ k * 1 + r = 2 ^ k * 1 ||| r := Nat.two_pow_add_eq_or_of_lt h 1
  rw [Nat.mul_one] at h1
  rw [h1]
  apply Nat.eq_of_testBit_eq
  intro i
  rw [Nat.testBit_or, Nat.testBit_xor, Nat.testBit_two_pow]
  by_cases e : k = i
  · subst e
    have : r.testBit k = false := Nat.testBit_lt_two_pow h
    rw [this]; simp
  · simp [e]
theorem sts_top (k r : Nat) (h : r < 2 ^ k) : sts 8 (2 ^ k + r) = sts 8 (2 ^ k) ^^^ sts 8 r := by
  rw [top_xor k r h, sts_xor]

-- one byte by the table
theorem low_xor (R c : Nat) (hc : c < 256) : (R % 256) ^^^ c = (R ^^^ c) % 256 := by
  have h : (R ^^^ c) % 2 ^ 8 = (R % 2 ^ 8) ^^^ (c % 2 ^ 8) := Nat.xor_mod_two_pow
  rw [show (256 : Nat) = 2 ^ 8 by rfl, h, Nat.mod_eq_of_lt (show c < 2 ^ 8 by omega)]
theorem bs_look (R c : Nat) (hc : c < 256) : bs R c = (R / 256) ^^^ sts 8 ((R % 256) ^^^ c) := by
  rw [bs_table R c hc, low_xor R c hc, Nat.xor_comm]

-- a row of 256 in memory
structure LayT (w : World) (B : Nat) (X : Array Value) (wr : World) : Prop where
  lx : wr.heap[B]? = some (.cells X 112 (0, 0))
  lb : Below w.heap.size w wr
theorem LayT.set {w : World} {B : Nat} {l l' : List Int} {wr : World} (h : LayT w B (row32 l) wr) (hB : w.heap.size ≤ B) (t : Nat) (v : Int) (hs : l.set t v = l') (n : Nat) : LayT w B (row32 l') ((wr.setCell ⟨B, t, none⟩ (.int .u32 v)).drewN n) := by
  refine ⟨?_, ?_⟩
  · show (wr.setCell _ _).heap[_]? = _
    rw [heap_setCell_same _ _ _ _ _ _ h.lx, row32_set, hs]
  · exact below_drewN (h.lb.setCell hB _) n
end Go.Proofs.Ytgioekepoebibaa.rg
