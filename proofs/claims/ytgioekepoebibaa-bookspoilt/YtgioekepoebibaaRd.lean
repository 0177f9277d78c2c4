import Derived.Test.YtgioekepoebibaaRc
namespace Go.Proofs.Ytgioekepoebibaa.rd
open Go.RowKit Go.PlainAid
open Go.Proofs.Ytgioekepoebibaa.ra Go.Proofs.Ytgioekepoebibaa.rb Go.Proofs.Ytgioekepoebibaa.nb Go.Proofs.Ytgioekepoebibaa.rc
set_option linter.unusedVariables false

-- bytes that may be stored to
structure Cs (wr : World) (base g n : Nat) (L : List Nat) : Prop where
  len : L.length = n
  lt : ∀ j, j < n → L.getD j 0 < 256
  base : base ≤ g
  lies : g < wr.heap.size
  cell : ∀ j, j < n → wr.cell? ⟨g, j, none⟩ = some (.int .u8 (L.getD j 0 : Nat))
  free : ∀ j, j < n → wr.frozen? ⟨g, j, none⟩ = false

theorem of_text (w : World) (s : ByteArray) : ∃ cap w', (convert 9 33 (.string s)).run Try.prog w = .ok (.slice (some ⟨w.heap.size, 0, none⟩) s.size cap) w' ∧ Cs w' w.heap.size w.heap.size s.size (nl s s.size) ∧ Below w.heap.size w w' := by
  have hh : (w.drew.alloc (.cells (bytesRow s (grownCap w s.size 0 5)) 5 ((bytesRow s (grownCap w s.size 0 5)).size, (bytesRow s (grownCap w s.size 0 5)).size + 1))).heap[w.heap.size]? = some (.cells (bytesRow s (grownCap w s.size 0 5)) 5 ((bytesRow s (grownCap w s.size 0 5)).size, (bytesRow s (grownCap w s.size 0 5)).size + 1)) := heap_alloc_new w.drew _
  have hsz : (bytesRow s (grownCap w s.size 0 5)).size = grownCap w s.size 0 5 := by
    have := grownCap_ge w s.size 0 5
    have e : s.data.size = s.size := rfl
    simp [bytesRow, e]; omega
  have hge := grownCap_ge w s.size 0 5
  have hgd : ∀ j, j < s.size → (nl s s.size).getD j 0 = nt s j := fun j hj => by simp [nl, List.getD, hj]
  refine ⟨_, _, run_bytes_of_string w 9 33 5 s Try.underlying9 Try.underlying33 Try.underlying5, ⟨by simp [nl], fun j hj => by rw [hgd j hj]; exact nt_lt s j, Nat.le_refl _, by simp, fun j hj => ?_, fun j hj => ?_⟩, ((Below.refl _ _).drew).alloc (Nat.le_refl _) _⟩
  · rw [cell_of_row _ _ _ _ _ _ hh, bytesRow, Array.getElem?_append_left (by simpa using hj), hgd j hj, ← nt_bt]
    have hj' : j < s.data.size := hj
    rw [Array.getElem?_map, Array.getElem?_eq_getElem hj']
    simp only [Option.map_some]
    rw [← get_bt s j hj]
    rfl
  · unfold World.frozen?
    rw [hh]
    simp only [hsz]
    simp; omega

theorem Cs.store {wr : World} {base g n : Nat} {L : List Nat} (h : Cs wr base g n L) (i x : Nat) (hi : i < n) (hx : x < 256) : Cs (wr.setCell ⟨g, i, none⟩ (.int .u8 (x : Nat))) base g n (L.set i x) := by
  obtain ⟨h1, h2, h3, h4, h5, h6⟩ := h
  have hgd : ∀ j, j < n → (L.set i x).getD j 0 = if i = j then x else L.getD j 0 := by
    intro j hj
    simp only [List.getD, List.getElem?_set]
    split
    · rw [if_pos (by omega)]; rfl
    · rfl
  refine ⟨by simp [h1], fun j hj => ?_, h3, by simpa [World.setCell] using h4, fun j hj => ?_, fun j hj => by rw [World.frozen?_setCell]; exact h6 j hj⟩
  · rw [hgd j hj]
    split
    · exact hx
    · exact h2 j hj
  · rw [hgd j hj]
    split
    · next e =>
      subst e
      rw [World.cell?_setCell_same _ _ _ (h5 i hj)]
    · next e =>
      rw [World.cell?_setCell_other _ _ _ _ (by intro hh; injection hh with _ hh2 _; omega)]
      exact h5 j hj

theorem Cs.drew {wr : World} {base g n : Nat} {L : List Nat} (h : Cs wr base g n L) : Cs wr.drew base g n L := ⟨h.len, h.lt, h.base, h.lies, h.cell, h.free⟩
theorem xor_bit (x r : Nat) (hx : x < 256) (hr : r < 8) : bits .xor .u8 (x : Int) (2 ^ r % 256) = ((x ^^^ 2 ^ r : Nat) : Int) ∧ x ^^^ 2 ^ r < 256 := by
  have h2 : 2 ^ r < 2 ^ 8 := Nat.pow_lt_pow_right (by omega) hr
  have e : ((2 : Int) ^ r % 256) = ((2 ^ r : Nat) : Int) := by
    have e1 : ((2 ^ r : Nat) : Int) = (2 : Int) ^ r := by simp
    rw [← e1]
    generalize 2 ^ r = y at h2
    omega
  rw [e, u8_xor_nat x _ hx (by omega)]
  exact ⟨rfl, Nat.xor_lt_two_pow (n := 8) hx h2⟩

-- the pattern's bits so far
theorem bit_on (p k : Nat) (h : p / 2 ^ k % 2 = 1) : p % 2 ^ (k + 1) = (p % 2 ^ k) ^^^ 2 ^ k := by
  have h1 : p % 2 ^ (k + 1) = 2 ^ k * (p / 2 ^ k % 2) + p % 2 ^ k := by rw [Nat.pow_succ, Nat.mod_mul]; omega
  have h2 : p % 2 ^ k < 2 ^ k := Nat.mod_lt _ (Nat.two_pow_pos k)
  rw [h1, h, Nat.mul_one]
  apply Nat.eq_of_testBit_eq
  intro i
  rw [Nat.testBit_xor, Nat.testBit_two_pow]
  rcases Nat.lt_trichotomy i k with hi | hi | hi
  · rw [Nat.testBit_two_pow_add_gt hi, decide_eq_false (show ¬ k = i by omega), Bool.xor_false]
  · subst hi
    rw [Nat.testBit_two_pow_add_eq, Nat.testBit_lt_two_pow h2]; simp
  · rw [Nat.testBit_lt_two_pow (show p % 2 ^ k < 2 ^ i from Nat.lt_trans h2 (Nat.pow_lt_pow_right (by omega) hi)), Nat.testBit_lt_two_pow (show 2 ^ k + p % 2 ^ k < 2 ^ i from ?_)]
    · rw [decide_eq_false (show ¬ k = i by omega)]; rfl
    · have : 2 ^ (k + 1) ≤ 2 ^ i := Nat.pow_le_pow_right (by omega) hi
      rw [Nat.pow_succ] at this
      omega
theorem bit_off (p k : Nat) (h : p / 2 ^ k % 2 = 0) : p % 2 ^ (k + 1) = p % 2 ^ k := by
  rw [Nat.pow_succ, Nat.mod_mul, h]; omega

theorem le_turn (L : List Nat) (p A k i r b0 : Nat) (hi : i < L.length) (hA : A + k = 8 * i + r) (hb : p / 2 ^ k % 2 = 1) (he : le L = b0 ^^^ (p % 2 ^ k * 2 ^ A)) :
    le (L.set i (L.getD i 0 ^^^ 2 ^ r)) = b0 ^^^ (p % 2 ^ (k + 1) * 2 ^ A) := by
  have e : L.getD i 0 = L[i] := by simp [List.getD, hi]
  rw [e, le_set L i _ hi, he, bit_on p k hb, mul_xor, Nat.xor_assoc, ← Nat.pow_add, ← Nat.pow_add, show r + 8 * i = k + A by omega]

theorem nl_str (L : List Nat) (h : ∀ j, j < L.length → L.getD j 0 < 256) : nl (str (L.map fun n : Nat => (n : Int))) L.length = L := by
  apply List.ext_getElem
  · simp [nl]
  · intro j h1 h2
    have hj := h j h2
    rw [List.getD, List.getElem?_eq_getElem h2] at hj
    have hl : j < (L.map fun n : Nat => (n : Int)).length := by simpa using h2
    have e : (L.map fun n : Nat => (n : Int))[j] = (L[j] : Int) := by simp
    simp only [Option.getD_some] at hj
    have e2 := str_bt _ j hl (by rw [e]; omega) (by rw [e]; omega)
    simp only [nl, List.getElem_map, List.getElem_range, nt]
    rw [e2, e]; rfl

end Go.Proofs.Ytgioekepoebibaa.rd
