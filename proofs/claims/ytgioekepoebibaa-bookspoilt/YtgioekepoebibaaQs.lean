import Derived.Test.YtgioekepoebibaaQa
import Derived.Test.YtgioekepoebibaaRd
namespace Go.Proofs.Ytgioekepoebibaa.qs
open Go.RowKit Go.PlainAid
open Go.Proofs.Ytgioekepoebibaa.na Go.Proofs.Ytgioekepoebibaa.nb Go.Proofs.Ytgioekepoebibaa.pa Go.Proofs.Ytgioekepoebibaa.pd Go.Proofs.Ytgioekepoebibaa.ra Go.Proofs.Ytgioekepoebibaa.rb Go.Proofs.Ytgioekepoebibaa.rc Go.Proofs.Ytgioekepoebibaa.rd Go.Proofs.Ytgioekepoebibaa.qa
set_option linter.unusedVariables false
set_option linter.unusedSimpArgs false
theorem nl_get (s : ByteArray) (n j : Nat) (h : j < n) : (nl s n).getD j 0 = nt s j := by simp [nl, List.getD, h]
theorem nl_len (s : ByteArray) (n : Nat) : (nl s n).length = n := by simp [nl]
theorem nt_ext (s : ByteArray) (n j : Nat) (h : j < n) (hn : n ≤ s.size) : nt (s.extract 0 n) j = nt s j := by
  unfold nt
  rw [bt_extract s 0 n j (by omega) hn, Nat.zero_add]
theorem nl_take (s : ByteArray) (n : Nat) (hn : n ≤ s.size) : nl (s.extract 0 n) (s.extract 0 n).size = (nl s s.size).take n := by
  have hz := ext_size s 0 n
  rw [show (s.extract 0 n).size = n by omega]
  apply List.ext_getElem
  · simp [nl]; omega
  · intro j h1 h2
    have hj : j < n := by simpa [nl] using h1
    rw [List.getElem_take]
    simp only [nl, List.getElem_map, List.getElem_range]
    exact nt_ext s n j hj hn
theorem crc_take (s : ByteArray) (n : Nat) (hn : n ≤ s.size) : crcF (s.extract 0 n) = onF 0 ((nl s s.size).take n) := by rw [crcF, nl_take s n hn]
-- a list that was turned within the payload
structure Tn (f : ByteArray) (S : Nat) (m A : Nat) (L : List Nat) : Prop where
  len : L.length = S
  lo : L.take 14 = (nl f S).take 14
  hi : L.drop (S - 4) = (nl f S).drop (S - 4)
  mid : le (L.take (S - 4)) = le ((nl f S).take (S - 4)) ^^^ (m * 2 ^ (A + 112))
theorem Tn.zero (f : ByteArray) (S A : Nat) : Tn f S 0 A (nl f S) := ⟨nl_len _ _, rfl, rfl, by simp⟩
theorem Tn.turn {f : ByteArray} {S m A k i r : Nat} {L : List Nat} (p : Nat) (h : Tn f S (p % 2 ^ k) A L) (hi : 14 ≤ i) (hiS : i < S - 4) (hA : A + 112 + k = 8 * i + r) (hb : p / 2 ^ k % 2 = 1) :
    Tn f S (p % 2 ^ (k + 1)) A (L.set i (L.getD i 0 ^^^ 2 ^ r)) := by
  refine ⟨by rw [List.length_set]; exact h.len, ?_, ?_, ?_⟩
  · rw [List.take_set, List.set_eq_of_length_le (by rw [List.length_take]; omega)]; exact h.lo
  · rw [List.drop_set, if_pos (by omega)]; exact h.hi
  · rw [List.take_set]
    have hl : i < (L.take (S - 4)).length := by rw [List.length_take, h.len]; omega
    have e : L.getD i 0 = (L.take (S - 4)).getD i 0 := by
      simp only [List.getD, List.getElem?_take]
      rw [if_pos (by omega)]
    rw [e]
    exact le_turn (L.take (S - 4)) p (A + 112) k i r _ hl hA hb h.mid
theorem Tn.off {f : ByteArray} {S m A k : Nat} {L : List Nat} (p : Nat) (h : Tn f S (p % 2 ^ k) A L) (hb : p / 2 ^ k % 2 = 0) : Tn f S (p % 2 ^ (k + 1)) A L := by
  rw [bit_off p k hb]; exact h
-- what is read of it
theorem parse_turned (k n : Int) (p : ByteArray) (m A : Nat) (c : ByteArray) (L : List Nat) (k0 : 1 ≤ k) (k1 : k ≤ 255) (n0 : 0 ≤ n) (n1 : n ≤ 9223372036854775807) (hp : p.size ≤ 524288)
    (hT : Tn (frameT k n p) (p.size + 18) m A L) (hc : c.size = p.size + 18) (hL : nl c c.size = L) (hm : m ≠ 0) (hm2 : m < 4294967296) (hA : A ≤ 8 * p.size) : parseE c = 131 := by
  have hz := frameT_size k n p
  have hbz := bodyT_size k n p
  have hh : frameT k n p = headT k n p.size ++ (p ++ str (lowB ((crcF (bodyT k n p) : Nat) : Int) 4)) := by rw [frameT, bodyT, app_assoc]
  have e0 : bt (frameT k n p) 0 = 165 := by rw [hh]; exact head_mark _ _ _ _
  have e1 : bt (frameT k n p) 1 = k := by rw [hh]; exact head_kind _ _ _ _ (by omega) k1
  have e2 : beR (frameT k n p) 2 8 = n := by rw [hh]; exact head_number _ _ _ _ n0 (by omega)
  have e3 : beR (frameT k n p) 10 4 = p.size := by rw [hh]; exact head_length _ _ _ _ (by omega)
  have e4 : (frameT k n p).extract 0 (p.size + 14) = bodyT k n p := by
    rw [show p.size + 14 = (bodyT k n p).size by omega]
    exact app_left _ _
  have e5 : beR (frameT k n p) (p.size + 14) 4 = (crcF (bodyT k n p) : Nat) := by
    have h := read_mid (bodyT k n p) ByteArray.empty ((crcF (bodyT k n p) : Nat) : Int) 4 (fit4 _ (by omega) (by have := crcF_lt (bodyT k n p); omega))
    rw [show p.size + 14 = (bodyT k n p).size by omega]
    rw [← frameT, ByteArray.append_empty] at h
    exact h
  generalize hf : frameT k n p = f at *
  have hget : ∀ j, j < p.size + 18 → nt c j = L.getD j 0 := fun j hj => by rw [← hL, nl_get c c.size j (by omega)]
  have lo : ∀ j, j < 14 → bt c j = bt f j := fun j hj => by
    rw [nt_bt, nt_bt, hget j (by omega), ← nl_get f (p.size + 18) j (by omega)]
    have h := congrArg (fun l => l.getD j 0) hT.lo
    simp only [List.getD, List.getElem?_take, if_pos hj] at h
    simp only [List.getD]
    rw [h]
  have hi : ∀ j, j < 4 → bt c (p.size + 14 + j) = bt f (p.size + 14 + j) := fun j hj => by
    rw [nt_bt, nt_bt, hget _ (by omega), ← nl_get f (p.size + 18) _ (by omega)]
    have h := congrArg (fun l => l.getD j 0) hT.hi
    simp only [List.getD, List.getElem?_drop] at h
    rw [show p.size + 18 - 4 = p.size + 14 by omega] at h
    simp only [List.getD]
    rw [h]
  have g0 : bt c 0 = 165 := by rw [lo 0 (by omega)]; exact e0
  have g1 : bt c 1 = k := by rw [lo 1 (by omega)]; exact e1
  have g2 : beR c 2 8 = n := by rw [beR_congr c f 2 2 8 (fun i hi => lo _ (by omega))]; exact e2
  have g3 : beR c 10 4 = p.size := by rw [beR_congr c f 10 10 4 (fun i hi => lo _ (by omega))]; exact e3
  have g5 : beR c (p.size + 14) 4 = (crcF (bodyT k n p) : Nat) := by rw [beR_congr c f _ _ 4 (fun i h => hi i h)]; exact e5
  have hne : crcF (c.extract 0 (p.size + 14)) ≠ crcF (bodyT k n p) := by
    rw [← e4, crc_take c _ (by omega), crc_take f _ (by omega), hL, hz]
    refine onF_ne 0 _ _ (fun h => ?_)
    have hmid := hT.mid
    rw [show p.size + 18 - 4 = p.size + 14 by omega] at hmid
    refine burst _ ((nl f (p.size + 18)).take (p.size + 14)) (L.take (p.size + 14)) ?_ m (A + 112) hm hm2 ?_ hmid h.symm
    · rw [List.length_take, List.length_take, nl_len, hT.len]
    · rw [List.length_take, nl_len]; omega
  unfold parseE
  rw [if_neg (by omega), if_neg (by rw [g0]; omega), if_neg (by omega), if_neg (by rw [g1]; omega), if_neg (by rw [g2]; omega), if_neg (by rw [g3]; omega), if_neg (by rw [g3]; omega), if_neg (by rw [g3]; omega), show c.size - 4 = p.size + 14 by omega, g5, if_pos]
  intro h
  exact hne (Int.ofNat.inj h).symm
end Go.Proofs.Ytgioekepoebibaa.qs
