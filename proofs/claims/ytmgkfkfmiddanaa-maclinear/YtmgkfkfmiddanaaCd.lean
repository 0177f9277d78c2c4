import Derived.Test.YtmgkfkfmiddanaaCc
namespace Go.Proofs.Ytmgkfkfmiddanaa.cd
open Go.RowKit Go.PlainAid
open Go.Proofs.Ytmgkfkfmiddanaa.cl Go.Proofs.Ytmgkfkfmiddanaa.ca Go.Proofs.Ytmgkfkfmiddanaa.cb Go.Proofs.Ytmgkfkfmiddanaa.cc
set_option linter.unusedVariables false

-- bytes that may be stored to
structure Cs (wr : World) (base g n : Nat) (L : List Nat) : Prop where
  len : L.length = n
  lt : ∀ j, j < n → L.getD j 0 < 256
  base : base ≤ g
  lies : g < wr.heap.size
  cell : ∀ j, j < n → wr.cell? ⟨g, j, none⟩ = some (.int .u8 (L.getD j 0 : Nat))
  free : ∀ j, j < n → wr.frozen? ⟨g, j, none⟩ = false

theorem of_text (w : World) (s : ByteArray) : ∃ cap w', (convert 9 35 (.string s)).run Try.prog w = .ok (.slice (some ⟨w.heap.size, 0, none⟩) s.size cap) w' ∧ Cs w' w.heap.size w.heap.size s.size (nl s s.size) ∧ Below w.heap.size w w' := by
  have hh : (w.drew.alloc (.cells (bytesRow s (grownCap w s.size 0 5)) 5 ((bytesRow s (grownCap w s.size 0 5)).size, (bytesRow s (grownCap w s.size 0 5)).size + 1))).heap[w.heap.size]? = some (.cells (bytesRow s (grownCap w s.size 0 5)) 5 ((bytesRow s (grownCap w s.size 0 5)).size, (bytesRow s (grownCap w s.size 0 5)).size + 1)) := heap_alloc_new w.drew _
  have hsz : (bytesRow s (grownCap w s.size 0 5)).size = grownCap w s.size 0 5 := by
    have := grownCap_ge w s.size 0 5
    have e : s.data.size = s.size := rfl
    simp [bytesRow, e]; omega
  have hge := grownCap_ge w s.size 0 5
  have hgd : ∀ j, j < s.size → (nl s s.size).getD j 0 = nt s j := fun j hj => by simp [nl, List.getD, hj]
  refine ⟨_, _, run_bytes_of_string w 9 35 5 s Try.underlying9 Try.underlying35 Try.underlying5, ⟨by simp [nl], fun j hj => by rw [hgd j hj]; exact nt_lt s j, Nat.le_refl _, by simp, fun j hj => ?_, fun j hj => ?_⟩, ((Below.refl _ _).drew).alloc (Nat.le_refl _) _⟩
  · rw [cell_of_row _ _ _ _ _ _ hh, bytesRow, Array.getElem?_append_left (by simpa using hj), hgd j hj, ← nt_bt]
    have hj' : j < s.data.size := hj
    rw [Array.getElem?_map, Array.getElem?_eq_getElem hj']
    simp only [Option.map_some]
    rw [← get_bt s j hj]
    rfl
  · unfold World.frozen?
    rw [hh]
    simp only [hsz]
    simp; omega

theorem Cs.store {wr : World} {base g n : Nat} {L : List Nat} (h : Cs wr base g n L) (i x : Nat) (hi : i < n) (hx : x < 256) : Cs (wr.setCell ⟨g, i, none⟩ (.int .u8 (x : Nat))) base g n (L.set i x) := by
  obtain ⟨h1, h2, h3, h4, h5, h6⟩ := h
  have hgd : ∀ j, j < n → (L.set i x).getD j 0 = if i = j then x else L.getD j 0 := by
    intro j hj
    simp only [List.getD, List.getElem?_set]
    split
    · rw [if_pos (by omega)]; rfl
    · rfl
  refine ⟨by simp [h1], fun j hj => ?_, h3, by simpa [World.setCell] using h4, fun j hj => ?_, fun j hj => by rw [World.frozen?_setCell]; exact h6 j hj⟩
  · rw [hgd j hj]
    split
    · exact hx
    · exact h2 j hj
  · rw [hgd j hj]
    split
    · next e =>
      subst e
      rw [World.cell?_setCell_same _ _ _ (h5 i hj)]
    · next e =>
      rw [World.cell?_setCell_other _ _ _ _ (by intro hh; injection hh with _ hh2 _; omega)]
      exact h5 j hj

theorem Cs.drew {wr : World} {base g n : Nat} {L : List Nat} (h : Cs wr base g n L) : Cs wr.drew base g n L := ⟨h.len, h.lt, h.base, h.lies, h.cell, h.free⟩
theorem xor_bit (x r : Nat) (hx : x < 256) (hr : r < 8) : bits .xor .u8 (x : Int) (2 ^ r % 256) = ((x ^^^ 2 ^ r : Nat) : Int) ∧ x ^^^ 2 ^ r < 256 := by
  have h2 : 2 ^ r < 2 ^ 8 := Nat.pow_lt_pow_right (by omega) hr
  have e : ((2 : Int) ^ r % 256) = ((2 ^ r : Nat) : Int) := by
    have e1 : ((2 ^ r : Nat) : Int) = (2 : Int) ^ r := by simp
    rw [← e1]
    generalize 2 ^ r = y at h2
    omega
  rw [e, u8_xor_nat x _ hx (by omega)]
  exact ⟨rfl, Nat.xor_lt_two_pow (n := 8) hx h2⟩

-- the pattern's bits so far
theorem bit_on (p k : Nat) (h : p / 2 ^ k % 2 = 1) : p % 2 ^ (k + 1) = (p % 2 ^ k) ^^^ 2 ^ k := by
  have h1 : p % 2 ^ (k + 1) = 2 ^ k * (p / 2 ^ k % 2) + p % 2 ^ k := by rw [Nat.pow_succ, Nat.mod_mul]; omega
  have h2 : p % 2 ^ k < 2 ^ k := Nat.mod_lt _ (Nat.two_pow_pos k)
  rw [h1, h, Nat.mul_one]
  apply Nat.eq_of_testBit_eq
  intro i
  rw [Nat.testBit_xor, Nat.testBit_two_pow]
  rcases Nat.lt_trichotomy i k with hi | hi | hi
  · rw [Nat.testBit_two_pow_add_gt hi, decide_eq_false (show ¬ k = i by omega), Bool.xor_false]
  · subst hi
    rw [Nat.testBit_two_pow_add_eq, Nat.testBit_lt_two_pow h2]; simp
  · rw [Nat.testBit_lt_two_pow (show p % 2 ^ k < 2 ^ i from Nat.lt_trans h2 (Nat.pow_lt_pow_right (by omega) hi)), Nat.testBit_lt_two_pow (show 2 ^ k + p % 2 ^ k < 2 ^ i from ?_)]
    · rw [decide_eq_false (show ¬ k = i by omega)]; rfl
    · have : 2 ^ (k + 1) ≤ 2 ^ i := Nat.pow_le_pow_right (by omega) hi
      rw [Nat.pow_succ] at this
      omega
theorem bit_off (p k : Nat) (h : p / 2 ^ k % 2 = 0) : p % 2 ^ (k + 1) = p % 2 ^ k := by
  rw [Nat.pow_succ, Nat.mod_mul, h]; omega

theorem le_turn (L : List Nat) (p A k i r b0 : Nat) (hi : i < L.length) (hA : A + k = 8 * i + r) (hb : p / 2 ^ k % 2 = 1) (he : le L = b0 ^^^ (p % 2 ^ k * 2 ^ A)) :
    le (L.set i (L.getD i 0 ^^^ 2 ^ r)) = b0 ^^^ (p % 2 ^ (k + 1) * 2 ^ A) := by
  have e : L.getD i 0 = L[i] := by simp [List.getD, hi]
  rw [e, le_set L i _ hi, he, bit_on p k hb, mul_xor, Nat.xor_assoc, ← Nat.pow_add, ← Nat.pow_add, show r + 8 * i = k + A by omega]

theorem nl_str (L : List Nat) (h : ∀ j, j < L.length → L.getD j 0 < 256) : nl (str (L.map fun n : Nat => (n : Int))) L.length = L := by
  apply List.ext_getElem
  · simp [nl]
  · intro j h1 h2
    have hj := h j h2
    rw [List.getD, List.getElem?_eq_getElem h2] at hj
    have hl : j < (L.map fun n : Nat => (n : Int)).length := by simpa using h2
    have e : (L.map fun n : Nat => (n : Int))[j] = (L[j] : Int) := by simp
    simp only [Option.getD_some] at hj
    have e2 := str_bt _ j hl (by rw [e]; omega) (by rw [e]; omega)
    simp only [nl, List.getElem_map, List.getElem_range, nt]
    rw [e2, e]; rfl

def TurnsTo (b c : ByteArray) (A p : Nat) : Prop := c.size = b.size ∧ A / 8 < b.size ∧ le (nl c c.size) = le (nl b b.size) ^^^ (p * 2 ^ A)

def TurnOut (b : ByteArray) (at_ : Int) (p : Nat) (e : Ending) : Prop := e = .returned (.tuple #[.string ⟨#[]⟩, .bool false]) ∨ ∃ (A : Nat) (c : ByteArray), at_ = A ∧ TurnsTo b c A p ∧ e = .returned (.tuple #[.string c, .bool true])
set_option maxHeartbeats 800000 in
theorem turned (b : ByteArray) (at_ : Int) (p : Nat) (w : World) (hb : b.size ≤ 140737488351232) (hp : p < 4294967296) (ha : -9223372036854775808 ≤ at_) (ha' : at_ ≤ 9223372036854775807) :
    Calls Try.prog 9 #[.string b, .int .i64 at_, .int .u32 p] w fun e w' => Below w.heap.size w w' ∧ TurnOut b at_ p e := by
  rcases Int.lt_or_le at_ 0 with hn | hn
  · go_enter Try.func9, Try.ntmps9
    go_wp2
    go_ret2
    exact ⟨Below.refl _ _, .inl rfl⟩
  · obtain ⟨A, rfl⟩ : ∃ A : Nat, at_ = A := ⟨at_.toNat, by omega⟩
    clear hn ha
    rcases Nat.lt_or_ge (A / 8) b.size with hlt | hge
    · have HL : Hid _ := hlt
      have t1 : (A : Int).tdiv 8 = ((A / 8 : Nat) : Int) := by rw [Int.tdiv_eq_ediv_of_nonneg (by omega)]; omega
      have t2 : ((A / 8 : Nat) : Int) ≥ b.size ↔ False := by simp; omega
      obtain ⟨cap, w1, hcv, hcs, hbel⟩ := of_text w b
      have HC : Hid (Cs _ _ _ _ _) := hcs
      have HB : Hid (Below _ _ _) := hbel
      clear hcs hbel
      go_enter Try.func9, Try.ntmps9
      go_wp2
      go_loopw [9] (fun i wr => ∃ (k : Nat) (L : List Nat), k ≤ 32 ∧ i = .int .i64 k ∧ Hid (Cs wr w.heap.size w.heap.size b.size L) ∧ Hid (le L = le (nl b b.size) ^^^ (p % 2 ^ k * 2 ^ A)) ∧ Hid (Below w.heap.size w wr)) (fun i _ => (32 - intOf i).toNat)
      case atStart => exact ⟨0, _, by omega, rfl, HC.out, by show _ = _; simp [Nat.mod_one], HB.out⟩
      case round =>
        clear HC HB hcv
        obtain ⟨k, L, hk, rfl, HC, HE, HB⟩ := hrel
        by_cases hk32 : k < 32
        · have hk32' : (k : Int) < 32 := by omega
          have hp' : p / 2 ^ k < 4294967296 := Nat.lt_of_le_of_lt (Nat.div_le_self _ _) hp
          have HA : Hid _ := and_one (p / 2 ^ k) hp'
          rcases Nat.mod_two_eq_zero_or_one (p / 2 ^ k) with hm | hm
          · rw [hm] at HA
            have h01 : (bits .and .u32 ((p : Int) / 2 ^ k) 1 == 1) = false := by
              have e : (p : Int) / 2 ^ k = ((p / 2 ^ k : Nat) : Int) := by simp
              rw [e, HA.out]; rfl
            go_wp2
            go_roundw
            case rel => exact ⟨k + 1, L, by omega, by go_num, HC, by show _ = _; rw [bit_off p k hm]; exact HE.out, HB⟩
            case measure => simp [intOf]; omega
          · rw [hm] at HA
            have h01 : (bits .and .u32 ((p : Int) / 2 ^ k) 1 == 1) = true := by
              have e : (p : Int) / 2 ^ k = ((p / 2 ^ k : Nat) : Int) := by simp
              rw [e, HA.out]; rfl
            obtain ⟨i, HI⟩ : ∃ i, Hid (i = (A + k) / 8) := ⟨_, rfl⟩
            obtain ⟨r, HR⟩ : ∃ r, Hid (r = (A + k) % 8) := ⟨_, rfl⟩
            have hpl : (A : Int) / 8 + ((A : Int) % 8 + (k : Int)) / 8 = (i : Int) := by have := HI.out; omega
            have hsh : ((A : Int) % 8 + (k : Int)) % 8 = (r : Int) := by have := HR.out; omega
            have hr8 : r < 8 := by have := HR.out; omega
            rcases Nat.lt_or_ge i b.size with hib | hib
            · have hib' : (i : Int) < b.size := by omega
              have hc := HC.out.cell i hib
              have hf := HC.out.free i hib
              have hlt256 := HC.out.lt i hib
              obtain ⟨x, HXE⟩ : ∃ x, Hid (L.getD i 0 = x) := ⟨_, rfl⟩
              rw [HXE.out] at hc hlt256
              have HXX : Hid (_ ∧ _) := xor_bit x r hlt256 hr8
              go_wp2_with fail
              go_region
              go_wp2
              go_roundw
              case rel =>
                refine ⟨k + 1, L.set i (L.getD i 0 ^^^ 2 ^ r), by omega, by go_num, ?_, le_turn L p A k i r _ (by rw [HC.out.len]; exact hib) (by have := HI.out; have := HR.out; omega) hm HE.out, (HB.out.setCell (Nat.le_refl _) _).drew⟩
                rw [HXX.out.1, HXE.out]
                exact (HC.out.store i _ hib HXX.out.2).drew
              case measure => simp [intOf]; omega
            · have hib' : (i : Int) ≥ b.size := by omega
              go_wp2
              go_ret2
              exact ⟨HB.out, .inl rfl⟩
        · have hk32' : ¬ (k : Int) < 32 := by omega
          obtain rfl : k = 32 := by omega
          have hcv := conv_at (L.map fun n : Nat => (n : Int)) wr w.heap.size 0 b.size cap (by simp [HC.out.len]) (fun j v hj => by
            rw [Addr.add_mid, Nat.zero_add]
            have hjl : j < b.size := by have h := (List.getElem?_eq_some_iff.1 hj).1; simpa [HC.out.len] using h
            have hjl' : j < L.length := by rw [HC.out.len]; exact hjl
            rw [HC.out.cell j hjl, ← hj]
            simp [List.getD, hjl'])
          go_wp2
          go_ret2
          refine ⟨HB.out, .inr ⟨A, _, rfl, ⟨?_, HL.out, ?_⟩, rfl⟩⟩
          · rw [str_size, List.length_map, HC.out.len]
          · rw [str_size, List.length_map, nl_str L (by rw [HC.out.len]; exact HC.out.lt), HE.out, Nat.mod_eq_of_lt hp]
    · have hge' : (A : Int) / 8 ≥ b.size := by omega
      go_enter Try.func9, Try.ntmps9
      go_wp2
      go_ret2
      exact ⟨Below.refl _ _, .inl rfl⟩
end Go.Proofs.Ytmgkfkfmiddanaa.cd
