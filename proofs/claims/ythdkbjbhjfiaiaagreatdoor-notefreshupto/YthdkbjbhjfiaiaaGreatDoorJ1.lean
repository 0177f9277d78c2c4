import Derived.Test.YthdkbjbhjfiaiaaGreatDoorK4
import Derived.Test.YthdkbjbhjfiaiaaGreatDoorK3
import Derived.Test.YthdkbjbhjfiaiaaGreatDoorXE
import Derived.Test.YthdkbjbhjfiaiaaGreatDoorK2
import Derived.Test.YthdkbjbhjfiaiaaGreatDoorSh
import Derived.Test.YthdkbjbhjfiaiaaGreatDoorTc
import Derived.Lib.IndexBytes
import Derived.Lib.SplitLaws
import Derived.Deep.WholeRow
namespace Go.Proofs.YthdkbjbhjfiaiaaGreatDoor.s2
open Go.RowKit Go.PlainAid
open Go.Proofs.YthdkbjbhjfiaiaaGreatDoor.tb Go.Proofs.YthdkbjbhjfiaiaaGreatDoor.tc Go.Proofs.YthdkbjbhjfiaiaaGreatDoor.tj Go.Proofs.YthdkbjbhjfiaiaaGreatDoor.o3 Go.Proofs.YthdkbjbhjfiaiaaGreatDoor.q2
set_option linter.unusedVariables false
set_option maxRecDepth 4000

-- where the document parts a note: behind the last newline that another one follows
def prtF (s : ByteArray) : Nat → Option Nat
  | 0 => none
  | n + 1 => if bt s n = 10 ∧ bt s (n + 1) = 10 then some (n + 1) else prtF s n
def prt (s : ByteArray) : Option Nat := prtF s (s.size - 1)
def Dbl (s : ByteArray) (j : Nat) : Prop := bt s j = 10 ∧ bt s (j + 1) = 10
theorem prtF_at (s : ByteArray) (k : Nat) (h : Dbl s k) : ∀ n, k < n → (∀ j, k < j → j < n → ¬ Dbl s j) → prtF s n = some (k + 1)
  | 0, hk, _ => by omega
  | n + 1, hk, hn => by
    rw [prtF]
    by_cases e : k = n
    · subst e; exact if_pos h
    · rw [if_neg (show ¬ (bt s n = 10 ∧ bt s (n + 1) = 10) from hn n (by omega) (by omega))]
      exact prtF_at s k h n (by omega) (fun j a b => hn j a (by omega))
theorem prtF_no (s : ByteArray) : ∀ n, (∀ j, j < n → ¬ Dbl s j) → prtF s n = none
  | 0, _ => rfl
  | n + 1, hn => by
    rw [prtF, if_neg (show ¬ (bt s n = 10 ∧ bt s (n + 1) = 10) from hn n (by omega))]
    exact prtF_no s n (fun j b => hn j (by omega))
theorem ba_empty {l : ByteArray} (h : l.size = 0) : l = ByteArray.empty := by
  apply ByteArray.ext
  exact Array.eq_empty_of_size_eq_zero h
-- lines that are none empty hold no two newlines beside each other, and begin with none
theorem fl_single : ∀ (ls : List ByteArray), (∀ l ∈ ls, no10 l ∧ l ≠ ByteArray.empty) → (∀ j, j + 1 < (flN ls).size → ¬ Dbl (flN ls) j) ∧ (0 < (flN ls).size → bt (flN ls) 0 ≠ 10)
  | [], _ => ⟨fun j h => by simp [flN] at h, fun h => by simp [flN] at h⟩
  | l :: ls, h => by
    obtain ⟨i1, i2⟩ := fl_single ls (fun x hx => h x (by simp [hx]))
    obtain ⟨h10, hne⟩ := h l (by simp)
    have hl : 0 < l.size := by
      rcases Nat.eq_zero_or_pos l.size with e | e
      · exact absurd (ba_empty e) hne
      · exact e
    have e : flN (l :: ls) = l ++ (nlB ++ flN ls) := by rw [flN, ByteArray.append_assoc]
    have hsz : (flN (l :: ls)).size = l.size + 1 + (flN ls).size := by rw [e, ByteArray.size_append, ByteArray.size_append, nl_size]; omega
    have a1 : ∀ j, j < l.size → bt (flN (l :: ls)) j ≠ 10 := fun j hj => by rw [e, bt_left _ _ _ hj]; exact h10 j hj
    have a2 : ∀ j, j < (flN ls).size → bt (flN (l :: ls)) (l.size + 1 + j) = bt (flN ls) j := fun j hj => by
      have z : l.size + 1 + j = l.size + (nlB.size + j) := by rw [nl_size]; omega
      rw [e, z, bt_right _ _ _ (by rw [ByteArray.size_append, nl_size]; omega), bt_right _ _ _ hj]
    refine ⟨fun j hj hd => ?_, fun _ => a1 0 hl⟩
    rw [hsz] at hj
    rcases Nat.lt_or_ge j l.size with c | c
    · exact a1 j c hd.1
    · rcases Nat.eq_or_lt_of_le c with c2 | c2
      · have z : j + 1 = l.size + 1 + 0 := by omega
        have h2 := hd.2
        rw [z, a2 0 (by omega)] at h2
        exact i2 (by omega) h2
      · obtain ⟨t, rfl⟩ : ∃ t, j = l.size + 1 + t := ⟨j - (l.size + 1), by omega⟩
        refine i1 t (by omega) ⟨?_, ?_⟩
        · rw [← a2 t (by omega)]; exact hd.1
        · rw [← a2 (t + 1) (by omega)]; exact hd.2
-- a text, an empty line, lines that are none empty
theorem prt_at (P : ByteArray) (ls : List ByteArray) (hP : ends P = true) (h : ∀ l ∈ ls, no10 l ∧ l ≠ ByteArray.empty) : prt (P ++ nlB ++ flN ls) = some P.size := by
  obtain ⟨i1, i2⟩ := fl_single ls h
  obtain ⟨k, hk, hb⟩ := (ends_iff P).1 hP
  have hsz : (P ++ nlB ++ flN ls).size = P.size + 1 + (flN ls).size := by rw [ByteArray.size_append, ByteArray.size_append, nl_size]
  have b1 : bt (P ++ nlB ++ flN ls) k = 10 := by rw [bt_left _ _ _ (by rw [ByteArray.size_append, nl_size]; omega), bt_left _ _ _ (by omega)]; exact hb
  have b2 : bt (P ++ nlB ++ flN ls) (k + 1) = 10 := by
    rw [bt_left _ _ _ (by rw [ByteArray.size_append, nl_size]; omega), show k + 1 = P.size + 0 by omega, bt_right _ _ _ (by rw [nl_size]; omega)]; exact nl_bt
  have a2 : ∀ j, j < (flN ls).size → bt (P ++ nlB ++ flN ls) (P.size + 1 + j) = bt (flN ls) j := fun j hj => by
    rw [show P.size + 1 + j = (P ++ nlB).size + j by rw [ByteArray.size_append, nl_size], bt_right _ _ _ hj]
  unfold prt
  rw [prtF_at _ k ⟨b1, b2⟩ _ (by omega) ?_, show k + 1 = P.size by omega]
  intro j c1 c2 hd
  rw [hsz] at c2
  rcases Nat.eq_or_lt_of_le (show P.size ≤ j by omega) with c | c
  · have h2 := hd.2
    rw [show j + 1 = P.size + 1 + 0 by omega, a2 0 (by omega)] at h2
    exact i2 (by omega) h2
  · obtain ⟨t, rfl⟩ : ∃ t, j = P.size + 1 + t := ⟨j - (P.size + 1), by omega⟩
    refine i1 t (by omega) ⟨?_, ?_⟩
    · rw [← a2 t (by omega)]; exact hd.1
    · rw [← a2 (t + 1) (by omega)]; exact hd.2
theorem prt_no (ls : List ByteArray) (h : ∀ l ∈ ls, no10 l ∧ l ≠ ByteArray.empty) : prt (flN ls) = none := by
  obtain ⟨i1, i2⟩ := fl_single ls h
  exact prtF_no _ _ (fun j hj => i1 j (by omega))
theorem prt_no1 (ls : List ByteArray) (h : ∀ l ∈ ls, no10 l ∧ l ≠ ByteArray.empty) : prt (nlB ++ flN ls) = none := by
  obtain ⟨i1, i2⟩ := fl_single ls h
  have hsz : (nlB ++ flN ls).size = 1 + (flN ls).size := by rw [ByteArray.size_append, nl_size]
  have a2 : ∀ j, j < (flN ls).size → bt (nlB ++ flN ls) (1 + j) = bt (flN ls) j := fun j hj => bt_right nlB _ _ hj
  refine prtF_no _ _ (fun j hj hd => ?_)
  rw [hsz] at hj
  rcases Nat.eq_zero_or_pos j with c | c
  · subst c
    have h2 := hd.2
    rw [show 0 + 1 = 1 + 0 by omega, a2 0 (by omega)] at h2
    exact i2 (by omega) h2
  · obtain ⟨t, rfl⟩ : ∃ t, j = 1 + t := ⟨j - 1, by omega⟩
    refine i1 t (by omega) ⟨?_, ?_⟩
    · rw [← a2 t (by omega)]; exact hd.1
    · rw [← a2 (t + 1) (by omega)]; exact hd.2
end Go.Proofs.YthdkbjbhjfiaiaaGreatDoor.s2

namespace Go.Proofs.YthdkbjbhjfiaiaaGreatDoor.t1
open Go.RowKit Go.PlainAid Go.Shelf
open Go.Proofs.YthdkbjbhjfiaiaaGreatDoor.tb Go.Proofs.YthdkbjbhjfiaiaaGreatDoor.tc Go.Proofs.YthdkbjbhjfiaiaaGreatDoor.tj Go.Proofs.YthdkbjbhjfiaiaaGreatDoor.o3 Go.Proofs.YthdkbjbhjfiaiaaGreatDoor.q2 Go.Proofs.YthdkbjbhjfiaiaaGreatDoor.s2
set_option linter.unusedVariables false
set_option maxRecDepth 4000

def prtV : Option Nat → Int
  | none => -1
  | some k => k
set_option maxHeartbeats 1600000 in
theorem partD (s : ByteArray) (hs : s.size ≤ 1000000) (w : World) :
    Calls Tryz.prog 27 #[.string s] w fun e w' => e = .returned (.int .i64 (prtV (prt s))) ∧ Below w.heap.size w w' := by
  have hgb := get_bt s
  obtain ⟨R, HR⟩ : ∃ R, Hid (prt s = R) := ⟨_, rfl⟩
  rw [HR.out]
  have hw2 : IntKind.i64.wrap ((s.size : Int) - 2) = (s.size : Int) - 2 := by rw [IntKind.wrap_i64]; omega
  have hw3 : wrap64 ((s.size : Int) - 2) = (s.size : Int) - 2 := by unfold wrap64; omega
  go_enter Tryz.func27, Tryz.ntmps27
  go_wp2
  go_loopw [3] (fun p wr => ∃ i : Int, -2 ≤ i ∧ i + 2 ≤ s.size ∧ p = .int .i64 i ∧ Hid (prtF s (i + 1).toNat = R) ∧ Hid (Below w.heap.size w wr)) (fun p _ => (intOf p + 2).toNat)
  case atStart => exact ⟨(s.size : Int) - 2, by omega, by omega, by first | rfl | (rw [hw2]), by show _ = _; rw [← HR.out]; unfold prt; congr 1; omega, Below.refl _ _⟩
  case round =>
    clear hw2 hw3
    obtain ⟨i, hi1, hi2, rfl, HL, HB⟩ := hrel
    by_cases hlt : i ≥ 0
    · obtain ⟨m, rfl⟩ : ∃ m : Nat, i = m := ⟨i.toNat, by omega⟩
      have hm : m + 1 < s.size := by omega
      have hm0 : m < s.size := by omega
      have hmi : (m : Int) < s.size := by omega
      have hmi1 : (m : Int) + 1 < s.size := by omega
      obtain ⟨b1, HB1⟩ : ∃ b, Hid (bt s m = b) := ⟨_, rfl⟩
      obtain ⟨b2, HB2⟩ : ∃ b, Hid (bt s (m + 1) = b) := ⟨_, rfl⟩
      have hg1 : ∀ (h : m < s.size), ((s[m]'h).toNat : Int) = b1 := fun h => (hgb m h).trans HB1.out
      have hg2 : ∀ (h : m + 1 < s.size), ((s[m + 1]'h).toNat : Int) = b2 := fun h => (hgb (m + 1) h).trans HB2.out
      have hwm : IntKind.i64.wrap ((m : Int) + 1) = (m : Int) + 1 := by rw [IntKind.wrap_i64]; omega
      have htn : ((m : Int) + 1).toNat = m + 1 := by omega
      have HN : Hid ((if b1 = 10 ∧ b2 = 10 then some (m + 1) else prtF s m) = R) := by
        show _ = _
        rw [← HL.out, htn, prtF, HB1.out, HB2.out]
      have KN : Hid (∀ n, Below w.heap.size w (wr.drewN n)) := fun n => below_dN HB.out n
      clear hgb
      by_cases c1 : b1 = 10
      · have g1 : (b1 == 10) = true := beq_iff_eq.2 c1
        by_cases c2 : b2 = 10
        · have g2 : (b2 == 10) = true := beq_iff_eq.2 c2
          have HE : Hid (R = some (m + 1)) := by show _ = _; rw [← HN.out, if_pos ⟨c1, c2⟩]
          clear HN HL c1 c2
          have BB : Hid (Below w.heap.size w wr) := HB.out
          go_wp2
          go_ret
          exact ⟨by rw [HE.out]; show _ = Ending.returned (.int .i64 (((m + 1 : Nat)) : Int)); rw [Int.natCast_add]; rfl, BB.out⟩
        · have g2 : (b2 == 10) = false := beq_eq_false_iff_ne.2 c2
          have HE : Hid (prtF s ((m : Int) - 1 + 1).toNat = R) := by show _ = _; rw [← HN.out, if_neg (fun h => c2 h.2)]; congr 1; omega
          clear HN HL c1
          go_wp2
          go_roundw
          case rel => exact ⟨(m : Int) - 1, by omega, by omega, by first | rfl | go_num, HE.out, HB.out⟩
          case measure => simp [intOf]; omega
      · have g1 : (b1 == 10) = false := beq_eq_false_iff_ne.2 c1
        have HE : Hid (prtF s ((m : Int) - 1 + 1).toNat = R) := by show _ = _; rw [← HN.out, if_neg (fun h => c1 h.1)]; congr 1; omega
        clear HN HL
        go_wp2
        go_roundw
        case rel => exact ⟨(m : Int) - 1, by omega, by omega, by first | rfl | go_num, HE.out, HB.out⟩
        case measure => simp [intOf]; omega
    · have HE : Hid (R = none) := by show _ = _; rw [← HL.out, show (i + 1).toNat = 0 by omega]; rfl
      have BB : Hid (Below w.heap.size w wr) := HB.out
      clear HL hgb
      go_wp2
      go_ret
      exact ⟨by rw [HE.out]; rfl, BB.out⟩
end Go.Proofs.YthdkbjbhjfiaiaaGreatDoor.t1

namespace Go.Proofs.YthdkbjbhjfiaiaaGreatDoor.tq
open Go.RowKit Go.PlainAid
open Go.Proofs.YthdkbjbhjfiaiaaGreatDoor.ta Go.Proofs.YthdkbjbhjfiaiaaGreatDoor.tb Go.Proofs.YthdkbjbhjfiaiaaGreatDoor.tc Go.Proofs.YthdkbjbhjfiaiaaGreatDoor.td Go.Proofs.YthdkbjbhjfiaiaaGreatDoor.te Go.Proofs.YthdkbjbhjfiaiaaGreatDoor.tf Go.Proofs.YthdkbjbhjfiaiaaGreatDoor.tg Go.Proofs.YthdkbjbhjfiaiaaGreatDoor.th Go.Proofs.YthdkbjbhjfiaiaaGreatDoor.ti Go.Proofs.YthdkbjbhjfiaiaaGreatDoor.tj Go.Proofs.YthdkbjbhjfiaiaaGreatDoor.tk Go.Proofs.YthdkbjbhjfiaiaaGreatDoor.tm Go.Proofs.YthdkbjbhjfiaiaaGreatDoor.tn Go.Proofs.YthdkbjbhjfiaiaaGreatDoor.to Go.Proofs.YthdkbjbhjfiaiaaGreatDoor.tp
set_option linter.unusedVariables false
set_option maxRecDepth 4000

theorem value64 (c : Int) (c0 : 0 ≤ c) (c1 : c ≤ 255) (w : World) : Calls Tryz.prog 35 #[.string L64, .int .u8 c] w fun e w' => e = .returned (.int .i64 (rv A64 c)) ∧ w' = w := by
  have := value L64 c c0 c1 (by decide) w
  rw [bs64] at this
  exact this
theorem value64' (c : Int) (c0 : 0 ≤ c) (c1 : c ≤ 255) (w : World) : Calls Tryz.prog 35 #[.string ⟨#[65, 66, 67, 68, 69, 70, 71, 72, 73, 74, 75, 76, 77, 78, 79, 80, 81, 82, 83, 84, 85, 86, 87, 88, 89, 90, 97, 98, 99, 100, 101, 102, 103, 104, 105, 106, 107, 108, 109, 110, 111, 112, 113, 114, 115, 116, 117, 118, 119, 120, 121, 122, 48, 49, 50, 51, 52, 53, 54, 55, 56, 57, 43, 47]⟩, .int .u8 c] w fun e w' => e = .returned (.int .i64 (rv A64 c)) ∧ w' = w := value64 c c0 c1 w
theorem rv64 (c : Int) : 0 ≤ rv A64 c ∧ rv A64 c < 64 := rv_in A64 c 64 (by decide +kernel) (by decide)
theorem eights_four (n : Nat) : ∀ l : List Int, l.length = 4 * n → ∀ p q r t, eights (l ++ [p, q, r, t]) = eights l ++ [p * 4 + q / 16, q % 16 * 16 + r / 4, r % 4 * 64 + t] := by
  induction n with
  | zero => intro l h p q r t; have : l = [] := List.length_eq_zero_iff.1 (by omega)
            subst this; rfl
  | succ n ih =>
    intro l h p q r t
    match l, h with
    | [], h => simp at h
    | [_], h => simp at h; omega
    | [_, _], h => simp at h; omega
    | [_, _, _], h => simp at h; omega
    | a :: b :: c :: d :: m, h => simp [eights, ih m (by simp at h; omega) p q r t]
theorem eights_short (n : Nat) : ∀ l m : List Int, l.length = 4 * n → m.length < 4 → eights (l ++ m) = eights l := by
  induction n with
  | zero =>
    intro l m h hm
    have : l = [] := List.length_eq_zero_iff.1 (by omega)
    subst this
    match m, hm with
    | [], _ => rfl
    | [_], _ => rfl
    | [_, _], _ => rfl
    | [_, _, _], _ => rfl
    | _ :: _ :: _ :: _ :: _, hm => simp at hm; omega
  | succ n ih =>
    intro l m h hm
    match l, h with
    | [], h => simp at h
    | [_], h => simp at h; omega
    | [_, _], h => simp at h; omega
    | [_, _, _], h => simp at h; omega
    | a :: b :: c :: d :: r, h => simp [eights, ih r m (by simp at h; omega) hm]
theorem gb_four (s : ByteArray) (k : Nat) : gbL (btL s (4 * k + 4)) = gbL (btL s (4 * k)) ++ [rv A64 (bt s (4 * k)) * 4 + rv A64 (bt s (4 * k + 1)) / 16, rv A64 (bt s (4 * k + 1)) % 16 * 16 + rv A64 (bt s (4 * k + 2)) / 4, rv A64 (bt s (4 * k + 2)) % 4 * 64 + rv A64 (bt s (4 * k + 3))] := by
  unfold gbL
  rw [btL_succ, btL_succ, btL_succ, btL_succ, List.append_assoc, List.append_assoc, List.append_assoc, List.map_append]
  exact eights_four k _ (by rw [List.length_map, btL_length]) _ _ _ _
theorem gb_end (s : ByteArray) (k : Nat) (h1 : ¬ 4 * k + 3 < s.size) (h2 : 4 * k ≤ s.size) : gbL (bs s) = gbL (btL s (4 * k)) := by
  have e : bs s = btL s (4 * k) ++ (bs s).drop (4 * k) := by
    conv => lhs; rw [← List.take_append_drop (4 * k) (bs s)]
    congr 1
    exact btL_take s _ _ h2
  conv => lhs; rw [e]
  unfold gbL
  rw [List.map_append]
  exact eights_short k _ _ (by rw [List.length_map, btL_length]) (by rw [List.length_map, List.length_drop, bs_length]; omega)

-- how many signs of padding
theorem kL_none (s : ByteArray) (h : s.size = 0) : kL (bs s) = 0 := by
  have e : bs s = [] := List.length_eq_zero_iff.1 (by rw [bs_length]; exact h)
  rw [e]; rfl
theorem bs_last (s : ByteArray) (n : Nat) (h : s.size = n + 1) : bs s = btL s n ++ [bt s n] := by unfold bs; rw [h, btL_succ]
theorem kL_no (s : ByteArray) (n : Nat) (h : s.size = n + 1) (hb : bt s n ≠ 61) : kL (bs s) = 0 := by
  have e := bs_last s n h
  have h1 : trim1 (bs s) = bs s := by rw [e, trim1_snoc, if_neg hb]
  unfold kL trim2
  rw [h1, h1]
  omega
theorem kL_one' (s : ByteArray) (h : s.size = 1) (hb : bt s 0 = 61) : kL (bs s) = 1 := by
  have e := bs_last s 0 h
  have e2 : bs s = [61] := by rw [e, hb]; rfl
  rw [e2]; rfl
theorem kL_one (s : ByteArray) (n : Nat) (h : s.size = n + 2) (hb : bt s (n + 1) = 61) (hc : bt s n ≠ 61) : kL (bs s) = 1 := by
  have e := bs_last s (n + 1) h
  have h1 : trim1 (bs s) = btL s (n + 1) := by rw [e, trim1_snoc, if_pos hb]
  have h2 : trim1 (btL s (n + 1)) = btL s (n + 1) := by rw [btL_succ, trim1_snoc, if_neg hc]
  unfold kL trim2
  rw [h1, h2, btL_length, bs_length]
  omega
theorem kL_two (s : ByteArray) (n : Nat) (h : s.size = n + 2) (hb : bt s (n + 1) = 61) (hc : bt s n = 61) : kL (bs s) = 2 := by
  have e := bs_last s (n + 1) h
  have h1 : trim1 (bs s) = btL s (n + 1) := by rw [e, trim1_snoc, if_pos hb]
  have h2 : trim1 (btL s (n + 1)) = btL s n := by rw [btL_succ, trim1_snoc, if_pos hc]
  unfold kL trim2
  rw [h1, h2, btL_length, bs_length]
  omega

theorem own_slice {w : World} {base : Nat} {v : Value} {n : Nat} {xs : List Value} (h : w.ownsRow base 5 1 v n xs) : ∃ b cap, v = .slice b n cap ∧ n ≤ cap := by
  rcases h.2 with ⟨rfl, rfl⟩ | ⟨g, cap, cur, rfl, _, _, hnc, _⟩
  · exact ⟨none, 0, rfl, Nat.le_refl _⟩
  · exact ⟨_, _, rfl, hnc⟩
theorem si8 (W : World) : (sizeOf 5).run Tryz.prog W = .ok 1 W := by
  obtain ⟨i, hi, _, hz1, _⟩ := info_parts info5
  simp [sizeOf, typeInfo, hi, hz1]
theorem elB : Tryz.prog.elem 77 = 5 := by kernel_rfl
theorem unB : Tryz.prog.underlying 77 = some (.slice (Tryz.prog.elem 77)) := by rw [elB]; exact Tryz.underlying77
theorem slice_h (W : World) (b : Option Addr) (n cap N : Nat) (h : N ≤ cap) : (Instr.sliceAt 77 (.slice b n cap) none (some (.int .i64 N)) none).run Tryz.prog W = .ok (.slice (if cap = 0 then b else b.map (·.add 0)) N cap) W := by
  rw [run_sliceAt_slice _ _ _ _ _ _ unB, run_slice_h W 77 b n cap unB .i64 (N : Int) (by omega) (by omega), elB, si8]
  simp only [Result.andThen_ok, sliced, Int.toNat_natCast, Nat.zero_mul, Nat.sub_zero]
theorem cut_conv (W : World) (base : Nat) (b : Option Addr) (n cap N : Nat) (ns : List Int) (ho : W.ownsRow base 5 1 (.slice b n cap) n (ns.map (Value.int .u8))) (hN : N ≤ n) :
    ∃ v, (Instr.sliceAt 77 (.slice b n cap) none (some (.int .i64 N)) none).run Tryz.prog W = .ok v W ∧ (convert 77 9 v).run Tryz.prog W = .ok (.string (str (ns.take N))) W := by
  have hln : ns.length = n := by have := ho.1; rw [List.length_map] at this; omega
  rcases ho.2 with ⟨e1, e2⟩ | ⟨g, cap', cur, e1, _, hh, hnc, _, h2, h3⟩
  · injection e1 with e3 e4 e5
    subst e3 e5
    obtain rfl : N = 0 := by omega
    refine ⟨_, slice_h W none n 0 0 (Nat.le_refl _), ?_⟩
    rw [run_convert_bytes_string _ 77 9 5 _ _ _ Tryz.underlying77 Tryz.underlying5 Tryz.underlying9]
    rfl
  · injection e1 with e3 e4 e5
    subst e3 e5
    refine ⟨_, slice_h W _ n cap N (by omega), ?_⟩
    have e : (if cap = 0 then some (⟨g, 0, none⟩ : Addr) else (some (⟨g, 0, none⟩ : Addr)).map (·.add 0)) = some ⟨g, 0, none⟩ := by
      split
      · rfl
      · simp [Addr.add]
    rw [e]
    refine conv_at (ns.take N) W g 0 N cap (by rw [List.length_take]; omega) (fun j u hj => ?_)
    refine ho.cells (g := g) rfl j u ?_
    rw [← hj, List.map_take, List.getElem?_take, if_pos]
    have := (List.getElem?_eq_some_iff.1 hj).1
    rw [List.length_map, List.length_take] at this
    omega
theorem new_three (W : World) (a b c : Value) (t : TypeId) : ∀ j u, [a, b, c][j]? = some u → (W.alloc (.cells #[a, b, c] t)).cell? ((⟨W.heap.size, 0, none⟩ : Addr).add j) = some u := by
  intro j u hj
  rw [Addr.add_mid, Nat.zero_add, World.cell?_alloc_at _ _ _ _ rfl]
  simpa using hj

set_option maxHeartbeats 3200000 in
theorem rUn64 (s : ByteArray) (hs : s.size ≤ 140737488355328) (w : World) :
    Calls Tryz.prog 17 #[.string s] w fun e w' => e = .returned (un64V s) ∧ Below w.heap.size w w' := by
  obtain ⟨i5, hi, hz0, hz1, hz2⟩ := info_parts info5
  have HIN : Hid (_ ∧ _ ∧ _ ∧ _) := ⟨hi, hz0, hz1, hz2⟩
  clear hi hz0 hz1 hz2
  have hgb := get_bt s
  obtain ⟨R, HR⟩ : ∃ R, Hid (un64V s = R) := ⟨_, rfl⟩
  rw [HR.out]
  go_enter Tryz.func17, Tryz.ntmps17
  go_wp2
  go_loopw [4, 5] (fun o i wr => ∃ k : Nat, 4 * k ≤ s.size ∧ i = .int .i64 ((4 * k : Nat) : Int) ∧ Hid (wr.ownsRow w.heap.size 5 1 o (3 * k) ((gbL (btL s (4 * k))).map (Value.int .u8))) ∧ Hid (Below w.heap.size w wr)) (fun _ i _ => (s.size - intOf i).toNat)
  case atStart => exact ⟨0, by omega, rfl, World.ownsRow_nil _ _ _ _, Below.refl _ _⟩
  case round =>
    obtain ⟨k, hk, rfl, HO, HB⟩ := hrel
    have hbase := HB.out.size
    by_cases hlt : 4 * k + 3 < s.size
    · have HG : Hid (_ = _) := gb_four s k
      have hkm : 3 * k ≤ 140737488355320 := by omega
      obtain ⟨j, HJ⟩ : ∃ j, Hid (4 * k = j) := ⟨_, rfl⟩
      obtain ⟨m, HM⟩ : ∃ m, Hid (3 * k = m) := ⟨_, rfl⟩
      rw [HJ.out] at hlt HG HO hk
      rw [HM.out] at HO hkm
      have hl0 : (j : Int) < s.size := by omega
      have hl1 : (j : Int) + 1 < s.size := by omega
      have hl2 : (j : Int) + 2 < s.size := by omega
      have hl3 : (j : Int) + 3 < s.size := by omega
      have hj1 : ((j : Int) + 1).toNat = j + 1 := by omega
      have hj2 : ((j : Int) + 2).toNat = j + 2 := by omega
      have hj3 : ((j : Int) + 3).toNat = j + 3 := by omega
      have hw1 : IntKind.i64.wrap ((j : Int) + 1) = (j : Int) + 1 := by rw [IntKind.wrap_i64]; omega
      have hw2 : IntKind.i64.wrap ((j : Int) + 2) = (j : Int) + 2 := by rw [IntKind.wrap_i64]; omega
      have hw3 : IntKind.i64.wrap ((j : Int) + 3) = (j : Int) + 3 := by rw [IntKind.wrap_i64]; omega
      have a0 := bt_nonneg s j; have a1 := bt_le s j
      have b0 := bt_nonneg s (j + 1); have b1 := bt_le s (j + 1)
      have c0 := bt_nonneg s (j + 2); have c1 := bt_le s (j + 2)
      have d0 := bt_nonneg s (j + 3); have d1 := bt_le s (j + 3)
      obtain ⟨a, HA⟩ : ∃ a, Hid (bt s j = a) := ⟨_, rfl⟩
      obtain ⟨b, HBB⟩ : ∃ b, Hid (bt s (j + 1) = b) := ⟨_, rfl⟩
      obtain ⟨c, HC⟩ : ∃ c, Hid (bt s (j + 2) = c) := ⟨_, rfl⟩
      obtain ⟨d, HD⟩ : ∃ d, Hid (bt s (j + 3) = d) := ⟨_, rfl⟩
      have g0 : ∀ (h : j < s.size), ((s[j]'h).toNat : Int) = a := fun h => (hgb j h).trans HA.out
      have g1 : ∀ (h : j + 1 < s.size), ((s[j + 1]'h).toNat : Int) = b := fun h => (hgb (j + 1) h).trans HBB.out
      have g2 : ∀ (h : j + 2 < s.size), ((s[j + 2]'h).toNat : Int) = c := fun h => (hgb (j + 2) h).trans HC.out
      have g3 : ∀ (h : j + 3 < s.size), ((s[j + 3]'h).toNat : Int) = d := fun h => (hgb (j + 3) h).trans HD.out
      rw [HA.out] at a0 a1 HG
      rw [HBB.out] at b0 b1 HG
      rw [HC.out] at c0 c1 HG
      rw [HD.out] at d0 d1 HG
      obtain ⟨ra0, ra1⟩ := rv64 a
      obtain ⟨rb0, rb1⟩ := rv64 b
      obtain ⟨rc0, rc1⟩ := rv64 c
      obtain ⟨rd0, rd1⟩ := rv64 d
      obtain ⟨p, hp⟩ : ∃ p, rv A64 a = p := ⟨_, rfl⟩
      obtain ⟨q, hq⟩ : ∃ q, rv A64 b = q := ⟨_, rfl⟩
      obtain ⟨r, hr⟩ : ∃ r, rv A64 c = r := ⟨_, rfl⟩
      obtain ⟨t, ht⟩ : ∃ t, rv A64 d = t := ⟨_, rfl⟩
      rw [hp] at ra0 ra1 HG
      rw [hq] at rb0 rb1 HG
      rw [hr] at rc0 rc1 HG
      rw [ht] at rd0 rd1 HG
      obtain ⟨n, HN⟩ : ∃ n, Hid (p * 262144 + q * 4096 + r * 64 + t = n) := ⟨_, rfl⟩
      have hn := HN.out
      have n0 : 0 ≤ n := by omega
      have n1 : n < 16777216 := by omega
      have e1 : n / 65536 = p * 4 + q / 16 := by omega
      have e2 : n / 256 % 256 = q % 16 * 16 + r / 4 := by omega
      have e3 : n % 256 = r % 4 * 64 + t := by omega
      have u1 : IntKind.u8.wrap (n / 65536) = n / 65536 := by rw [IntKind.wrap_u8']; omega
      have u2 : IntKind.u8.wrap (n / 256 % 256) = n / 256 % 256 := by rw [IntKind.wrap_u8']; omega
      have u3 : IntKind.u8.wrap (n % 256) = n % 256 := by rw [IntKind.wrap_u8']; omega
      have E : Hid (_ ∧ _ ∧ _) := ⟨e1, e2, e3⟩
      clear hgb e1 e2 e3
      rw [HJ.out]
      go_wp2_with fail
      go_quiet ((go_at_call 35; exact Calls.quiet_of_same (value64' _ (by assumption) (by assumption) _)))
      generalize hW : wr.drewN nq = wr2
      have HB2 : Hid (Below w.heap.size w wr2) := by subst hW; exact below_dN HB.out nq
      have HO2 : Hid (World.ownsRow _ _ _ _ _ _ _) := (show wr2.ownsRow w.heap.size 5 1 u4 m ((gbL (btL s j)).map (Value.int .u8)) by subst hW; exact HO.out)
      clear hW HO HB
      go_wp2_with (at_builtin; refine wpList_append_own _ rfl _ _ 77 rfl w.heap.size 5 i5 (.int .u8 0) 1 1 Tryz.underlying77 HIN.out.1 HIN.out.2.1 HIN.out.2.2.1 HIN.out.2.2.2 rfl (by decide) _ m _ rfl (HO2.out.alloc _) ⟨wr2.heap.size, 0, none⟩ 3 3 [.int .u8 (n / 65536), .int .u8 (n / 256 % 256), .int .u8 (n % 256)] rfl rfl (new_three _ _ _ _ _) (fun u hu => by simp at hu; rcases hu with rfl | rfl | rfl <;> rfl) (by unfold maxLen; omega) (by omega) (by have := HB2.out.size; simp; omega) ?_; intro v' w3 hown' hgrow3 hnil3; have HO3 : Hid (World.ownsRow _ _ _ _ _ _ _) := hown'; have HB3 : Hid (Below w.heap.size w w3) := Below.grown (HB2.out.alloc HB2.out.size _) hgrow3 (by have := HB2.out.size; simp; omega) (fun j hj => (HO2.out.lt _ hj).1); clear hown' hgrow3 hnil3)
      go_roundw
      case rel =>
        have := HJ.out
        have := HM.out
        refine ⟨k + 1, by omega, by go_num, ?_, HB3.out⟩
        rw [show 4 * (k + 1) = j + 4 by omega, HG.out, List.map_append, show 3 * (k + 1) = m + 3 by omega, ← E.out.1, ← E.out.2.1, ← E.out.2.2]
        exact HO3.out
      case measure => simp [intOf]; omega
    · have HG : Hid (_ = _) := gb_end s k hlt hk
      have hz : (gbL (bs s)).length = 3 * k := by rw [HG.out]; have := HO.out.1; rw [List.length_map] at this; omega
      rw [← HG.out] at HO
      have HT : Hid (_ = _) := ref64 s
      rw [HR.out] at HT
      obtain ⟨b, cap, rfl, hcap⟩ := own_slice HO.out
      have hlt' : ¬ ((4 * k : Nat) : Int) + 3 < s.size := by omega
      obtain ⟨m, HM⟩ : ∃ m, Hid (3 * k = m) := ⟨_, rfl⟩
      rw [HM.out] at HO hz hcap
      have hmm : m ≤ 140737488355328 := by have := HM.out; omega
      obtain ⟨j, HJ⟩ : ∃ j, Hid (4 * k = j) := ⟨_, rfl⟩
      rw [HJ.out] at hlt'
      have hjs : j ≤ s.size := by have := HJ.out; omega
      unfold readV failV at HT
      rw [HJ.out, HM.out]
      clear HG HR hlt hk
      have hk2 : kL (bs s) ≤ 2 := by obtain ⟨x, h1, _, h2⟩ := trim2_back (bs s); unfold kL; omega
      -- what comes behind the padding is counted
      rcases (by omega : s.size = 0 ∨ s.size = 1 ∨ 2 ≤ s.size) with h0 | h0 | h0
      · have hκ := kL_none s h0
        have hg : ¬ ((s.size : Int) > 0) := by omega
        have hg1 : ¬ ((s.size : Int) > 1) := by omega
        clear hgb
        have HK : Hid (gcL (bs s) = (gbL (bs s)).take (m)) := by show _ = _; unfold gcL; rw [hκ, hz]; rfl
        rw [hκ, hz] at HT
        by_cases hm : 0 > m
        · exact absurd hm (by omega)
        · rw [if_neg hm] at HT
          have hm' : ¬ (0 : Int) > (m : Int) := by omega
          obtain ⟨v, hs1, hs2⟩ := cut_conv wr w.heap.size b m cap (m) (gbL (bs s)) HO.out (by omega)
          rw [← HK.out] at hs2
          have hlz : (gcL (bs s)).length ≤ m := by rw [HK.out, List.length_take]; omega
          have hin : In 256 (gcL (bs s)) := fun x hx => gbL_in _ x (List.mem_of_mem_take hx)
          have HH : Hid (∀ w', Calls _ _ _ _ _) := fun w' => rB64 (str (gcL (bs s))) (by rw [str_size]; omega) w'
          rw [bs_str _ hin] at HH
          clear HK hin hlz HO
          by_cases he : str (b64L (gcL (bs s))) = s
          · rw [if_pos he] at HT
            rw [he] at HH
            clear he
            generalize str (gcL (bs s)) = G at *
            have hbb : (s.toList == s.toList) = true := beq_self_eq_true _
            go_wp2_with fail
            refine (HH.out _).mono ?_
            rintro e w1 ⟨rfl, rfl⟩
            go_wp2
            go_ret2
            exact ⟨by rw [← HT.out]; rfl, HB.out⟩
          · rw [if_neg he] at HT
            have hbb : ((str (b64L (gcL (bs s)))).toList == s.toList) = false := by rw [toList_bs]; exact decide_eq_false he
            clear he
            generalize str (b64L (gcL (bs s))) = H at *
            generalize str (gcL (bs s)) = G at *
            go_wp2_with fail
            refine (HH.out _).mono ?_
            rintro e w1 ⟨rfl, rfl⟩
            go_wp2
            go_ret2
            exact ⟨by rw [← HT.out]; rfl, HB.out⟩
      · have hg : (s.size : Int) > 0 := by omega
        have hg1 : ¬ ((s.size : Int) > 1) := by omega
        have hi1 : (s.size : Int) - 1 = ((0 : Nat) : Int) := by omega
        have hi2 : (0 : Int) < s.size := by omega
        obtain ⟨x, HX⟩ : ∃ x, Hid (bt s 0 = x) := ⟨_, rfl⟩
        have hgx : ∀ (h : 0 < s.size), ((s[0]'h).toNat : Int) = x := fun h => (hgb 0 h).trans HX.out
        clear hgb
        by_cases hx : x = 61
        · have hκ := kL_one' s h0 (HX.out.trans hx)
          have hxb : (x == 61) = true := by rw [hx]; rfl
          clear hx h0
          have HK : Hid (gcL (bs s) = (gbL (bs s)).take (m - 1)) := by show _ = _; unfold gcL; rw [hκ, hz]
          rw [hκ, hz] at HT
          by_cases hm : 1 > m
          · rw [if_pos hm] at HT
            have hm' : (1 : Int) > (m : Int) := by omega
            go_wp2
            go_ret2
            exact ⟨by rw [← HT.out]; rfl, HB.out⟩
          · rw [if_neg hm] at HT
            have hm' : ¬ (1 : Int) > (m : Int) := by omega
            obtain ⟨v, hs1, hs2⟩ := cut_conv wr w.heap.size b m cap (m - 1) (gbL (bs s)) HO.out (by omega)
            rw [← HK.out] at hs2
            have hlz : (gcL (bs s)).length ≤ m := by rw [HK.out, List.length_take]; omega
            have hin : In 256 (gcL (bs s)) := fun x hx => gbL_in _ x (List.mem_of_mem_take hx)
            have HH : Hid (∀ w', Calls _ _ _ _ _) := fun w' => rB64 (str (gcL (bs s))) (by rw [str_size]; omega) w'
            rw [bs_str _ hin] at HH
            have hsub : (m : Int) - 1 = ((m - 1 : Nat) : Int) := by omega
            clear HK hin hlz HO
            by_cases he : str (b64L (gcL (bs s))) = s
            · rw [if_pos he] at HT
              rw [he] at HH
              clear he
              generalize str (gcL (bs s)) = G at *
              have hbb : (s.toList == s.toList) = true := beq_self_eq_true _
              go_wp2_with fail
              refine (HH.out _).mono ?_
              rintro e w1 ⟨rfl, rfl⟩
              go_wp2
              go_ret2
              exact ⟨by rw [← HT.out]; rfl, HB.out⟩
            · rw [if_neg he] at HT
              have hbb : ((str (b64L (gcL (bs s)))).toList == s.toList) = false := by rw [toList_bs]; exact decide_eq_false he
              clear he
              generalize str (b64L (gcL (bs s))) = H at *
              generalize str (gcL (bs s)) = G at *
              go_wp2_with fail
              refine (HH.out _).mono ?_
              rintro e w1 ⟨rfl, rfl⟩
              go_wp2
              go_ret2
              exact ⟨by rw [← HT.out]; rfl, HB.out⟩
        · have hκ := kL_no s 0 h0 (by rw [HX.out]; exact hx)
          have hxb : (x == 61) = false := beq_eq_false_iff_ne.2 hx
          clear hx h0
          have HK : Hid (gcL (bs s) = (gbL (bs s)).take (m)) := by show _ = _; unfold gcL; rw [hκ, hz]; rfl
          rw [hκ, hz] at HT
          by_cases hm : 0 > m
          · exact absurd hm (by omega)
          · rw [if_neg hm] at HT
            have hm' : ¬ (0 : Int) > (m : Int) := by omega
            obtain ⟨v, hs1, hs2⟩ := cut_conv wr w.heap.size b m cap (m) (gbL (bs s)) HO.out (by omega)
            rw [← HK.out] at hs2
            have hlz : (gcL (bs s)).length ≤ m := by rw [HK.out, List.length_take]; omega
            have hin : In 256 (gcL (bs s)) := fun x hx => gbL_in _ x (List.mem_of_mem_take hx)
            have HH : Hid (∀ w', Calls _ _ _ _ _) := fun w' => rB64 (str (gcL (bs s))) (by rw [str_size]; omega) w'
            rw [bs_str _ hin] at HH
            clear HK hin hlz HO
            by_cases he : str (b64L (gcL (bs s))) = s
            · rw [if_pos he] at HT
              rw [he] at HH
              clear he
              generalize str (gcL (bs s)) = G at *
              have hbb : (s.toList == s.toList) = true := beq_self_eq_true _
              go_wp2_with fail
              refine (HH.out _).mono ?_
              rintro e w1 ⟨rfl, rfl⟩
              go_wp2
              go_ret2
              exact ⟨by rw [← HT.out]; rfl, HB.out⟩
            · rw [if_neg he] at HT
              have hbb : ((str (b64L (gcL (bs s)))).toList == s.toList) = false := by rw [toList_bs]; exact decide_eq_false he
              clear he
              generalize str (b64L (gcL (bs s))) = H at *
              generalize str (gcL (bs s)) = G at *
              go_wp2_with fail
              refine (HH.out _).mono ?_
              rintro e w1 ⟨rfl, rfl⟩
              go_wp2
              go_ret2
              exact ⟨by rw [← HT.out]; rfl, HB.out⟩
      · obtain ⟨n, hn⟩ : ∃ n, s.size = n + 2 := ⟨s.size - 2, by omega⟩
        have hg : (s.size : Int) > 0 := by omega
        have hg1 : (s.size : Int) > 1 := by omega
        have hi1 : (s.size : Int) - 1 = ((n + 1 : Nat) : Int) := by omega
        have hi2 : (s.size : Int) - 2 = ((n : Nat) : Int) := by omega
        have hi3 : ((n + 1 : Nat) : Int) < s.size := by omega
        have hi4 : ((n : Nat) : Int) < s.size := by omega
        have hi5 : ((n + 1 : Nat) : Int).toNat = n + 1 := by omega
        obtain ⟨x, HX⟩ : ∃ x, Hid (bt s (n + 1) = x) := ⟨_, rfl⟩
        obtain ⟨y, HY⟩ : ∃ y, Hid (bt s n = y) := ⟨_, rfl⟩
        have hgx : ∀ (h : n + 1 < s.size), ((s[n + 1]'h).toNat : Int) = x := fun h => (hgb (n + 1) h).trans HX.out
        have hgy : ∀ (h : n < s.size), ((s[n]'h).toNat : Int) = y := fun h => (hgb n h).trans HY.out
        have HN : Hid (s.size = n + 2) := hn
        clear hgb hn
        by_cases hx : x = 61
        · have hxb : (x == 61) = true := by rw [hx]; rfl
          by_cases hy : y = 61
          · have hκ := kL_two s n HN.out (HX.out.trans hx) (HY.out.trans hy)
            have hyb : (y == 61) = true := by rw [hy]; rfl
            clear hx hy
            have HK : Hid (gcL (bs s) = (gbL (bs s)).take (m - 2)) := by show _ = _; unfold gcL; rw [hκ, hz]
            rw [hκ, hz] at HT
            by_cases hm : 2 > m
            · rw [if_pos hm] at HT
              have hm' : (2 : Int) > (m : Int) := by omega
              go_wp2
              go_ret2
              exact ⟨by rw [← HT.out]; rfl, HB.out⟩
            · rw [if_neg hm] at HT
              have hm' : ¬ (2 : Int) > (m : Int) := by omega
              obtain ⟨v, hs1, hs2⟩ := cut_conv wr w.heap.size b m cap (m - 2) (gbL (bs s)) HO.out (by omega)
              rw [← HK.out] at hs2
              have hlz : (gcL (bs s)).length ≤ m := by rw [HK.out, List.length_take]; omega
              have hin : In 256 (gcL (bs s)) := fun x hx => gbL_in _ x (List.mem_of_mem_take hx)
              have HH : Hid (∀ w', Calls _ _ _ _ _) := fun w' => rB64 (str (gcL (bs s))) (by rw [str_size]; omega) w'
              rw [bs_str _ hin] at HH
              have hsub : (m : Int) - 2 = ((m - 2 : Nat) : Int) := by omega
              clear HK hin hlz HO
              by_cases he : str (b64L (gcL (bs s))) = s
              · rw [if_pos he] at HT
                rw [he] at HH
                clear he
                generalize str (gcL (bs s)) = G at *
                have hbb : (s.toList == s.toList) = true := beq_self_eq_true _
                go_wp2_with fail
                refine (HH.out _).mono ?_
                rintro e w1 ⟨rfl, rfl⟩
                go_wp2
                go_ret2
                exact ⟨by rw [← HT.out]; rfl, HB.out⟩
              · rw [if_neg he] at HT
                have hbb : ((str (b64L (gcL (bs s)))).toList == s.toList) = false := by rw [toList_bs]; exact decide_eq_false he
                clear he
                generalize str (b64L (gcL (bs s))) = H at *
                generalize str (gcL (bs s)) = G at *
                go_wp2_with fail
                refine (HH.out _).mono ?_
                rintro e w1 ⟨rfl, rfl⟩
                go_wp2
                go_ret2
                exact ⟨by rw [← HT.out]; rfl, HB.out⟩
          · have hκ := kL_one s n HN.out (HX.out.trans hx) (by rw [HY.out]; exact hy)
            have hyb : (y == 61) = false := beq_eq_false_iff_ne.2 hy
            clear hx hy
            have HK : Hid (gcL (bs s) = (gbL (bs s)).take (m - 1)) := by show _ = _; unfold gcL; rw [hκ, hz]
            rw [hκ, hz] at HT
            by_cases hm : 1 > m
            · rw [if_pos hm] at HT
              have hm' : (1 : Int) > (m : Int) := by omega
              go_wp2
              go_ret2
              exact ⟨by rw [← HT.out]; rfl, HB.out⟩
            · rw [if_neg hm] at HT
              have hm' : ¬ (1 : Int) > (m : Int) := by omega
              obtain ⟨v, hs1, hs2⟩ := cut_conv wr w.heap.size b m cap (m - 1) (gbL (bs s)) HO.out (by omega)
              rw [← HK.out] at hs2
              have hlz : (gcL (bs s)).length ≤ m := by rw [HK.out, List.length_take]; omega
              have hin : In 256 (gcL (bs s)) := fun x hx => gbL_in _ x (List.mem_of_mem_take hx)
              have HH : Hid (∀ w', Calls _ _ _ _ _) := fun w' => rB64 (str (gcL (bs s))) (by rw [str_size]; omega) w'
              rw [bs_str _ hin] at HH
              have hsub : (m : Int) - 1 = ((m - 1 : Nat) : Int) := by omega
              clear HK hin hlz HO
              by_cases he : str (b64L (gcL (bs s))) = s
              · rw [if_pos he] at HT
                rw [he] at HH
                clear he
                generalize str (gcL (bs s)) = G at *
                have hbb : (s.toList == s.toList) = true := beq_self_eq_true _
                go_wp2_with fail
                refine (HH.out _).mono ?_
                rintro e w1 ⟨rfl, rfl⟩
                go_wp2
                go_ret2
                exact ⟨by rw [← HT.out]; rfl, HB.out⟩
              · rw [if_neg he] at HT
                have hbb : ((str (b64L (gcL (bs s)))).toList == s.toList) = false := by rw [toList_bs]; exact decide_eq_false he
                clear he
                generalize str (b64L (gcL (bs s))) = H at *
                generalize str (gcL (bs s)) = G at *
                go_wp2_with fail
                refine (HH.out _).mono ?_
                rintro e w1 ⟨rfl, rfl⟩
                go_wp2
                go_ret2
                exact ⟨by rw [← HT.out]; rfl, HB.out⟩
        · have hκ := kL_no s (n + 1) HN.out (by rw [HX.out]; exact hx)
          have hxb : (x == 61) = false := beq_eq_false_iff_ne.2 hx
          clear hx
          have HK : Hid (gcL (bs s) = (gbL (bs s)).take (m)) := by show _ = _; unfold gcL; rw [hκ, hz]; rfl
          rw [hκ, hz] at HT
          by_cases hm : 0 > m
          · exact absurd hm (by omega)
          · rw [if_neg hm] at HT
            have hm' : ¬ (0 : Int) > (m : Int) := by omega
            obtain ⟨v, hs1, hs2⟩ := cut_conv wr w.heap.size b m cap (m) (gbL (bs s)) HO.out (by omega)
            rw [← HK.out] at hs2
            have hlz : (gcL (bs s)).length ≤ m := by rw [HK.out, List.length_take]; omega
            have hin : In 256 (gcL (bs s)) := fun x hx => gbL_in _ x (List.mem_of_mem_take hx)
            have HH : Hid (∀ w', Calls _ _ _ _ _) := fun w' => rB64 (str (gcL (bs s))) (by rw [str_size]; omega) w'
            rw [bs_str _ hin] at HH
            clear HK hin hlz HO
            by_cases he : str (b64L (gcL (bs s))) = s
            · rw [if_pos he] at HT
              rw [he] at HH
              clear he
              generalize str (gcL (bs s)) = G at *
              have hbb : (s.toList == s.toList) = true := beq_self_eq_true _
              go_wp2_with fail
              refine (HH.out _).mono ?_
              rintro e w1 ⟨rfl, rfl⟩
              go_wp2
              go_ret2
              exact ⟨by rw [← HT.out]; rfl, HB.out⟩
            · rw [if_neg he] at HT
              have hbb : ((str (b64L (gcL (bs s)))).toList == s.toList) = false := by rw [toList_bs]; exact decide_eq_false he
              clear he
              generalize str (b64L (gcL (bs s))) = H at *
              generalize str (gcL (bs s)) = G at *
              go_wp2_with fail
              refine (HH.out _).mono ?_
              rintro e w1 ⟨rfl, rfl⟩
              go_wp2
              go_ret2
              exact ⟨by rw [← HT.out]; rfl, HB.out⟩
end Go.Proofs.YthdkbjbhjfiaiaaGreatDoor.tq

namespace Go.Proofs.YthdkbjbhjfiaiaaGreatDoor.t2
open Go.RowKit Go.PlainAid Go.Shelf
open Go.Proofs.YthdkbjbhjfiaiaaGreatDoor.tb Go.Proofs.YthdkbjbhjfiaiaaGreatDoor.tc Go.Proofs.YthdkbjbhjfiaiaaGreatDoor.tj Go.Proofs.YthdkbjbhjfiaiaaGreatDoor.tk Go.Proofs.YthdkbjbhjfiaiaaGreatDoor.n3 Go.Proofs.YthdkbjbhjfiaiaaGreatDoor.o1 Go.Proofs.YthdkbjbhjfiaiaaGreatDoor.o5 Go.Proofs.YthdkbjbhjfiaiaaGreatDoor.o6 Go.Proofs.YthdkbjbhjfiaiaaGreatDoor.q1 Go.Proofs.YthdkbjbhjfiaiaaGreatDoor.kp
set_option linter.unusedVariables false
set_option maxRecDepth 4000

set_option maxHeartbeats 3200000 in
theorem sigD (l : ByteArray) (hs : l.size ≤ 1000000) (w : World) :
    Calls Tryz.prog 29 #[.string l] w fun e w' => e = .returned (sigV (sigP l)) ∧ Below w.heap.size w w' := by
  have z1 := rst_size l
  have BA : Hid (Below w.heap.size w (w.alloc (.cells #[.string ⟨#[]⟩, .string ⟨#[]⟩, .string ⟨#[]⟩] 43))) := (Below.refl _ _).alloc (Nat.le_refl _) _
  obtain ⟨W, HW⟩ : ∃ W, Hid (w.alloc (.cells #[.string ⟨#[]⟩, .string ⟨#[]⟩, .string ⟨#[]⟩] 43) = W) := ⟨_, rfl⟩
  have zW : W.heap.size = w.heap.size + 1 := by rw [← HW.out]; simp
  have HBK : Hid (W.heap[w.heap.size]? = some (.cells #[.string ⟨#[]⟩, .string ⟨#[]⟩, .string ⟨#[]⟩] 43 (0, 0))) := by rw [← HW.out]; exact heap_alloc_new w _
  rw [HW.out] at BA
  have NO : Hid (∀ w1, Below W.heap.size W w1 → w1.heap[w.heap.size]? = some (.cells #[.string ⟨#[]⟩, .string ⟨#[]⟩, .string ⟨#[]⟩] 43 (0, 0))) := fun w1 h => (h.block w.heap.size (by omega)).trans HBK.out
  cases ho : opn l
  · have HX : Hid (sigP l = none) := by show _ = _; unfold sigP; rw [if_neg (by rw [ho]; decide)]
    rw [HX.out]
    have hbk := HBK.out
    have FIN : Hid (∀ W', W' = _ → _) := put3 W w.heap.size _ _ _ (.string ⟨#[]⟩) (.string ⟨#[]⟩) (.string ⟨#[]⟩) _ hbk
    have c0 := cell_of_row _ _ 0 _ _ _ hbk
    have c1 := cell_of_row _ _ 1 _ _ _ hbk
    have c2 := cell_of_row _ _ 2 _ _ _ hbk
    have f0 := frozen_of_row _ _ 0 _ _ hbk
    have f1 := frozen_of_row _ _ 1 _ _ hbk
    have f2 := frozen_of_row _ _ 2 _ _ hbk
    by_cases h4 : 4 ≤ l.size
    · have g1 : decide ((l.size : Int) < 4) = false := decide_eq_false (by omega)
      have g1' : ¬ ((l.size : Int) < 4) := by omega
      have g2 : ((4 : Int) ≤ (l.size : Int)) := by omega
      have g3 : ((l.extract 0 4).toList == [226, 128, 148, 32]) = false := by rw [toList_lit]; exact ho
      clear ho z1
      go_enter Tryz.func29, Tryz.ntmps29
      go_wp2_with fail
      rw [HW.out]
      go_wp2
      exact bodyPost_ret (v := .tuple #[.agg #[.string ⟨#[]⟩, .string ⟨#[]⟩, .string ⟨#[]⟩], .bool false]) (by simp [results, Tryz.results29, go_sem, c0, c1, c2]) rfl ⟨rfl, BA.out⟩
    · have g1 : decide ((l.size : Int) < 4) = true := decide_eq_true (by omega)
      have g1' : ((l.size : Int) < 4) := by omega
      clear ho z1
      go_enter Tryz.func29, Tryz.ntmps29
      go_wp2_with fail
      rw [HW.out]
      go_wp2
      exact bodyPost_ret (v := .tuple #[.agg #[.string ⟨#[]⟩, .string ⟨#[]⟩, .string ⟨#[]⟩], .bool false]) (by simp [results, Tryz.results29, go_sem, c0, c1, c2]) rfl ⟨rfl, BA.out⟩
  · have h4 := opn_size l ho
    have g1 : decide ((l.size : Int) < 4) = false := decide_eq_false (by omega)
    have g1' : ¬ ((l.size : Int) < 4) := by omega
    have g2 : ((4 : Int) ≤ (l.size : Int)) := by omega
    have g3 : ((l.extract 0 4).toList == [226, 128, 148, 32]) = true := by rw [toList_lit]; exact ho
    have er : rst l = l.extract 4 l.size := by unfold rst; rw [ho]; rfl
    obtain ⟨r, HR⟩ : ∃ r, Hid (l.extract 4 l.size = r) := ⟨_, rfl⟩
    have hxr := HR.out
    have HP : Hid (sigP l = match ix32 r with | none => none | some i => sgOf (r.extract 0 i) (r.extract (i + 1) r.size)) := by
      show _ = _; unfold sigP; rw [if_pos ho, er, HR.out]; cases ix32 r <;> rfl
    rw [er, HR.out] at z1
    have hrz : r.size ≤ 1000000 := by omega
    obtain ⟨X, HXX⟩ : ∃ X, Hid (sigP l = X) := ⟨_, rfl⟩
    rw [HXX.out] at HP ⊢
    have hgb := get_bt r
    clear ho z1 er
    go_enter Tryz.func29, Tryz.ntmps29
    go_wp2_with fail
    rw [HW.out]
    go_wp2
    go_loopw [4] (fun i wr => ∃ k : Nat, k ≤ r.size ∧ i = .int .i64 k ∧ Hid (∀ j, j < k → bt r j ≠ 32) ∧ Hid (Below W.heap.size W wr)) (fun i _ => (r.size - intOf i).toNat)
    case atStart => exact ⟨0, by omega, rfl, fun j h => by omega, Below.refl _ _⟩
    case round =>
      obtain ⟨k, hk, rfl, HK, HB⟩ := hrel
      clear g1 g1' g2 g3 hxr h4 hs
      by_cases hlt : k < r.size
      · have hlt' : (k : Int) < r.size := by omega
        obtain ⟨b, HBT⟩ : ∃ b, Hid (bt r k = b) := ⟨_, rfl⟩
        have hg : ∀ (h : k < r.size), ((r[k]'h).toNat : Int) = b := fun h => (hgb k h).trans HBT.out
        by_cases h32 : b = 32
        · have gb : (b == 32) = true := beq_iff_eq.2 h32
          have HQ : Hid (X = sgOf (r.extract 0 k) (r.extract (k + 1) r.size)) := by
            show _ = _; rw [HP.out, ix_at r k hlt (by rw [HBT.out]; exact h32) HK.out]
          have e1 : (k : Int) ≤ r.size := by omega
          have e2 : (k : Int) + 1 ≤ r.size := by omega
          have e3 : ((k : Int) + 1).toNat = k + 1 := by omega
          have e4 : IntKind.i64.wrap ((k : Int) + 1) = (k : Int) + 1 := by rw [IntKind.wrap_i64]; omega
          obtain ⟨nn, HNN⟩ : ∃ nn, Hid (r.extract 0 k = nn) := ⟨_, rfl⟩
          obtain ⟨cc, HCC⟩ : ∃ cc, Hid (r.extract (k + 1) r.size = cc) := ⟨_, rfl⟩
          have hnn := HNN.out
          have hcc := HCC.out
          have zn : nn.size ≤ 1000000 := by rw [← HNN.out, ByteArray.size_extract]; omega
          have zc : cc.size ≤ 1000000 := by rw [← HCC.out, ByteArray.size_extract]; omega
          rw [HNN.out, HCC.out] at HQ
          have C3 : Hid (∀ w, Calls _ _ _ _ _) := fun w => rName nn (by omega) w
          have C4 : Hid (∀ w, Calls _ _ _ _ _) := fun w => tq.rUn64 cc (by omega) w
          clear hgb HK HP h32
          by_cases hn : nm nn = true
          · rw [hn] at C3
            by_cases ha : Acc64 (bs cc)
            · have hv : un64V cc = .tuple #[.string (str (cutL (bs cc))), .int .i64 0] := by unfold un64V; rw [if_pos ha]; rfl
              rw [hv] at C4
              have hzb : (str (cutL (bs cc))).size = (cutL (bs cc)).length := str_size _
              by_cases h36 : (cutL (bs cc)).length = 36
              · have HX : Hid (X = some ⟨nn, (str (cutL (bs cc))).extract 0 4, (str (cutL (bs cc))).extract 4 36⟩) := by show _ = _; rw [HQ.out]; unfold sgOf; rw [if_pos ⟨hn, ha, h36⟩]
                have hzz : (str (cutL (bs cc))).size = 36 := by rw [hzb, h36]
                generalize str (cutL (bs cc)) = B at *
                have HBZ : Hid (B.extract 4 B.size = B.extract 4 36) := by show _ = _; rw [hzz]
                have q1 : (4 : Int) ≤ (B.size : Int) := by omega
                have q2 : ((B.size : Int) == 36) = true := beq_iff_eq.2 (by omega)
                have q3 : (B.size : Int) = 36 := by omega
                clear hv hzb h36 hzz ha hn HQ
                go_wp2_with (go_at_call 37; refine (C3.out _).mono ?_; rintro e wz ⟨rfl, hz⟩; rw [hz]; clear hz wz)
                refine (C4.out _).mono ?_
                rintro e w1 ⟨rfl, hb1⟩
                have B1 : Hid (Below W.heap.size W w1) := HB.out.trans (hb1.mono HB.out.size)
                clear hb1
                have hbk : w1.drew.heap[w.heap.size]? = some (.cells #[.string ⟨#[]⟩, .string ⟨#[]⟩, .string ⟨#[]⟩] 43 (0, 0)) := NO.out _ (below_dr B1.out)
                have FIN : Hid (∀ W', W' = _ → _) := put3 w1.drew w.heap.size _ _ _ (.string nn) (.string (B.extract 0 4)) (.string (B.extract 4 B.size)) _ hbk
                have hb0 : w1.heap[w.heap.size]? = some (.cells #[.string ⟨#[]⟩, .string ⟨#[]⟩, .string ⟨#[]⟩] 43 (0, 0)) := hbk
                have k0 : w1.cell? ⟨w.heap.size, 0, none⟩ = some (.string ⟨#[]⟩) := cell_of_row _ _ 0 _ _ _ hb0
                have k1 : w1.cell? ⟨w.heap.size, 1, none⟩ = some (.string ⟨#[]⟩) := cell_of_row _ _ 1 _ _ _ hb0
                have k2 : w1.cell? ⟨w.heap.size, 2, none⟩ = some (.string ⟨#[]⟩) := cell_of_row _ _ 2 _ _ _ hb0
                have m0 : w1.frozen? ⟨w.heap.size, 0, none⟩ = false := frozen_of_row _ _ 0 _ _ hb0
                have m1 : w1.frozen? ⟨w.heap.size, 1, none⟩ = false := frozen_of_row _ _ 1 _ _ hb0
                have m2 : w1.frozen? ⟨w.heap.size, 2, none⟩ = false := frozen_of_row _ _ 2 _ _ hb0
                have r1 := heap_setCell_same _ _ 0 _ _ (.string nn) hb0
                have r2 := heap_setCell_same _ _ 1 _ _ (.string (B.extract 0 4)) r1
                have r3 := heap_setCell_same _ _ 2 _ _ (.string (B.extract 4 B.size)) r2
                have E0 : Hid ((w1.setCell ⟨w.heap.size, 0, none⟩ (.string nn)).cell? ⟨w.heap.size, 0, none⟩ = some (.string nn)) := cell_of_row _ _ 0 _ _ _ r1
                have E1 : Hid (((w1.setCell ⟨w.heap.size, 0, none⟩ (.string nn)).setCell ⟨w.heap.size, 1, none⟩ (.string (B.extract 0 4))).cell? ⟨w.heap.size, 1, none⟩ = some (.string (B.extract 0 4))) := cell_of_row _ _ 1 _ _ _ r2
                have E2 : Hid ((((w1.setCell ⟨w.heap.size, 0, none⟩ (.string nn)).setCell ⟨w.heap.size, 1, none⟩ (.string (B.extract 0 4))).setCell ⟨w.heap.size, 2, none⟩ (.string (B.extract 4 B.size))).cell? ⟨w.heap.size, 2, none⟩ = some (.string (B.extract 4 B.size))) := cell_of_row _ _ 2 _ _ _ r3
                clear hb0 r1 r2 r3 hbk
                go_wp2_with fail
                go_region
                all_goals (
                  go_wp2
                  obtain ⟨⟨d0, d1, d2⟩, hbl⟩ := FIN.out _ rfl
                  exact bodyPost_ret (v := .tuple #[.agg #[.string nn, .string (B.extract 0 4), .string (B.extract 4 B.size)], .bool true]) (by simp [results, Tryz.results29, go_sem, E0.out, E1.out, E2.out]) rfl ⟨by rw [HX.out, HBZ.out]; rfl, BA.out.trans (((below_dr B1.out).mono (by omega)).trans (hbl _ (Nat.le_refl _)))⟩)
              · have HX : Hid (X = none) := by show _ = _; rw [HQ.out]; unfold sgOf; rw [if_neg (fun h => h36 h.2.2)]
                have hzz : ¬ ((str (cutL (bs cc))).size : Int) = 36 := by rw [hzb]; omega
                generalize str (cutL (bs cc)) = B at *
                have q2 : ((B.size : Int) == 36) = false := beq_eq_false_iff_ne.2 hzz
                clear hv hzb h36 ha hn HQ
                go_wp2_with (go_at_call 37; refine (C3.out _).mono ?_; rintro e wz ⟨rfl, hz⟩; rw [hz]; clear hz wz)
                refine (C4.out _).mono ?_
                rintro e w1 ⟨rfl, hb1⟩
                have B1 : Hid (Below W.heap.size W w1) := HB.out.trans (hb1.mono HB.out.size)
                clear hb1
                have hbk := NO.out _ B1.out
                have FIN : Hid (∀ W', W' = _ → _) := put3 w1 w.heap.size _ _ _ (.string ⟨#[]⟩) (.string ⟨#[]⟩) (.string ⟨#[]⟩) _ hbk
                have c0 := cell_of_row _ _ 0 _ _ _ hbk
                have c1 := cell_of_row _ _ 1 _ _ _ hbk
                have c2 := cell_of_row _ _ 2 _ _ _ hbk
                have f0 := frozen_of_row _ _ 0 _ _ hbk
                have f1 := frozen_of_row _ _ 1 _ _ hbk
                have f2 := frozen_of_row _ _ 2 _ _ hbk
                go_wp2
                obtain ⟨⟨d0, d1, d2⟩, hbl⟩ := FIN.out _ rfl
                exact bodyPost_ret (v := .tuple #[.agg #[.string ⟨#[]⟩, .string ⟨#[]⟩, .string ⟨#[]⟩], .bool false]) (by simp [results, Tryz.results29, go_sem, d0, d1, d2]) rfl ⟨by rw [HX.out]; rfl, BA.out.trans ((B1.out.mono (by omega)).trans (hbl _ (Nat.le_refl _)))⟩
            · have HX : Hid (X = none) := by show _ = _; rw [HQ.out]; unfold sgOf; rw [if_neg (fun h => ha h.2.1)]
              have hv : un64V cc = .tuple #[.string ByteArray.empty, .int .i64 40] := by unfold un64V; rw [if_neg ha]; rfl
              rw [hv] at C4
              clear hv ha hn HQ
              go_wp2_with (go_at_call 37; refine (C3.out _).mono ?_; rintro e wz ⟨rfl, hz⟩; rw [hz]; clear hz wz)
              refine (C4.out _).mono ?_
              rintro e w1 ⟨rfl, hb1⟩
              have B1 : Hid (Below W.heap.size W w1) := HB.out.trans (hb1.mono HB.out.size)
              clear hb1
              have hbk := NO.out _ B1.out
              have FIN : Hid (∀ W', W' = _ → _) := put3 w1 w.heap.size _ _ _ (.string ⟨#[]⟩) (.string ⟨#[]⟩) (.string ⟨#[]⟩) _ hbk
              have c0 := cell_of_row _ _ 0 _ _ _ hbk
              have c1 := cell_of_row _ _ 1 _ _ _ hbk
              have c2 := cell_of_row _ _ 2 _ _ _ hbk
              have f0 := frozen_of_row _ _ 0 _ _ hbk
              have f1 := frozen_of_row _ _ 1 _ _ hbk
              have f2 := frozen_of_row _ _ 2 _ _ hbk
              go_wp2
              obtain ⟨⟨d0, d1, d2⟩, hbl⟩ := FIN.out _ rfl
              exact bodyPost_ret (v := .tuple #[.agg #[.string ⟨#[]⟩, .string ⟨#[]⟩, .string ⟨#[]⟩], .bool false]) (by simp [results, Tryz.results29, go_sem, d0, d1, d2]) rfl ⟨by rw [HX.out]; rfl, BA.out.trans ((B1.out.mono (by omega)).trans (hbl _ (Nat.le_refl _)))⟩
          · have HX : Hid (X = none) := by show _ = _; rw [HQ.out]; unfold sgOf; rw [if_neg (fun h => hn h.1)]
            have hn2 : nm nn = false := by simpa using hn
            rw [hn2] at C3
            obtain ⟨ub, ue, HUV⟩ : ∃ ub ue, Hid (un64V cc = .tuple #[.string ub, .int .i64 ue]) := by
              by_cases ha : Acc64 (bs cc)
              · exact ⟨_, _, by show _ = _; unfold un64V; rw [if_pos ha]; rfl⟩
              · exact ⟨_, _, by show _ = _; unfold un64V; rw [if_neg ha]; rfl⟩
            rw [HUV.out] at C4
            clear HUV hn hn2 HQ
            go_wp2_with (go_at_call 37; refine (C3.out _).mono ?_; rintro e wz ⟨rfl, hz⟩; rw [hz]; clear hz wz)
            refine (C4.out _).mono ?_
            rintro e w1 ⟨rfl, hb1⟩
            have B1 : Hid (Below W.heap.size W w1) := HB.out.trans (hb1.mono HB.out.size)
            clear hb1
            have hbk := NO.out _ B1.out
            have FIN : Hid (∀ W', W' = _ → _) := put3 w1 w.heap.size _ _ _ (.string ⟨#[]⟩) (.string ⟨#[]⟩) (.string ⟨#[]⟩) _ hbk
            have c0 := cell_of_row _ _ 0 _ _ _ hbk
            have c1 := cell_of_row _ _ 1 _ _ _ hbk
            have c2 := cell_of_row _ _ 2 _ _ _ hbk
            have f0 := frozen_of_row _ _ 0 _ _ hbk
            have f1 := frozen_of_row _ _ 1 _ _ hbk
            have f2 := frozen_of_row _ _ 2 _ _ hbk
            go_wp2
            obtain ⟨⟨d0, d1, d2⟩, hbl⟩ := FIN.out _ rfl
            exact bodyPost_ret (v := .tuple #[.agg #[.string ⟨#[]⟩, .string ⟨#[]⟩, .string ⟨#[]⟩], .bool false]) (by simp [results, Tryz.results29, go_sem, d0, d1, d2]) rfl ⟨by rw [HX.out]; rfl, BA.out.trans ((B1.out.mono (by omega)).trans (hbl _ (Nat.le_refl _)))⟩
        · have gb : (b == 32) = false := beq_eq_false_iff_ne.2 h32
          have HK2 : Hid (∀ j, j < k + 1 → bt r j ≠ 32) := fun j hj => by
            rcases Nat.lt_or_ge j k with c | c
            · exact HK.out j c
            · obtain rfl : j = k := by omega
              rw [HBT.out]; exact h32
          clear hgb HK HP h32
          go_wp2
          go_roundw
          case rel => exact ⟨k + 1, by omega, by go_num, HK2.out, HB.out⟩
          case measure => simp [intOf]; omega
      · have hlt' : ¬ (k : Int) < r.size := by omega
        have HX : Hid (X = none) := by show _ = _; rw [HP.out, ix_no r (fun j hj => HK.out j (by omega))]
        have hbk := NO.out _ HB.out
        have FIN : Hid (∀ W', W' = _ → _) := put3 wr w.heap.size _ _ _ (.string ⟨#[]⟩) (.string ⟨#[]⟩) (.string ⟨#[]⟩) _ hbk
        have c0 := cell_of_row _ _ 0 _ _ _ hbk
        have c1 := cell_of_row _ _ 1 _ _ _ hbk
        have c2 := cell_of_row _ _ 2 _ _ _ hbk
        have f0 := frozen_of_row _ _ 0 _ _ hbk
        have f1 := frozen_of_row _ _ 1 _ _ hbk
        have f2 := frozen_of_row _ _ 2 _ _ hbk
        clear hgb HK HP
        go_wp2
        obtain ⟨⟨d0, d1, d2⟩, hbl⟩ := FIN.out _ rfl
        exact bodyPost_ret (v := .tuple #[.agg #[.string ⟨#[]⟩, .string ⟨#[]⟩, .string ⟨#[]⟩], .bool false]) (by simp [results, Tryz.results29, go_sem, d0, d1, d2]) rfl ⟨by rw [HX.out]; rfl, BA.out.trans ((HB.out.mono (by omega)).trans (hbl _ (Nat.le_refl _)))⟩
end Go.Proofs.YthdkbjbhjfiaiaaGreatDoor.t2

namespace Go.Proofs.YthdkbjbhjfiaiaaGreatDoor.s1
open Go.RowKit Go.PlainAid
open Go.Proofs.YthdkbjbhjfiaiaaGreatDoor.o1 Go.Proofs.YthdkbjbhjfiaiaaGreatDoor.o3 Go.Proofs.YthdkbjbhjfiaiaaGreatDoor.q1 Go.Proofs.YthdkbjbhjfiaiaaGreatDoor.q2 Go.Proofs.YthdkbjbhjfiaiaaGreatDoor.q3 Go.Proofs.YthdkbjbhjfiaiaaGreatDoor.q5
set_option linter.unusedVariables false
set_option maxRecDepth 4000

-- no two of one key
def Pw (gs : List Sg) : Prop := gs.Pairwise (fun a b => one a b = false)
theorem one_symm (a b : Sg) : one a b = one b a := by
  have e : ∀ x y : ByteArray, eqB x y = eqB y x := fun x y => by unfold eqB; by_cases h : x = y <;> simp [h, eq_comm]
  unfold one
  rw [e a.name, e a.id]
theorem pw_rev {gs : List Sg} (h : Pw gs) : Pw gs.reverse := by
  unfold Pw at h ⊢
  rw [List.pairwise_reverse]
  exact h.imp (fun {a b} e => by rw [one_symm]; exact e)
theorem amg_false {l : List Sg} {g : Sg} : amg l g = false ↔ ∀ a ∈ l, one a g = false := by
  unfold amg
  rw [List.any_eq_false]
  exact ⟨fun h a ha => by simpa using h a ha, fun h a ha => by simpa using h a ha⟩
theorem pw_snoc {l : List Sg} {g : Sg} : Pw (l ++ [g]) ↔ Pw l ∧ amg l g = false := by
  unfold Pw
  rw [List.pairwise_append, amg_false]
  constructor
  · rintro ⟨h1, _, h3⟩
    exact ⟨h1, fun a ha => h3 a ha g (by simp)⟩
  · rintro ⟨h1, h2⟩
    exact ⟨h1, List.pairwise_singleton _ _, fun a ha b hb => by rw [List.mem_singleton.1 hb]; exact h2 a ha⟩
theorem pw_left {a b : List Sg} (h : Pw (a ++ b)) : Pw a := (List.pairwise_append.1 h).1
-- the lines in their order, as the document goes
noncomputable def fwd : List ByteArray → List Sg → Option (List Sg)
  | [], acc => some acc
  | l :: ls, acc => match sigP l with
    | none => none
    | some g => if amg acc g = true then none else fwd ls (acc ++ [g])
theorem fwd_some : ∀ (ls : List ByteArray) (acc gs : List Sg), ls.map sigP = gs.map some → Pw (acc ++ gs) → fwd ls acc = some (acc ++ gs)
  | [], acc, gs, h, hp => by
    have : gs = [] := by cases gs with | nil => rfl | cons _ _ => cases h
    subst this
    simp [fwd]
  | l :: ls, acc, gs, h, hp => by
    cases gs with
    | nil => cases h
    | cons g gs =>
      simp only [List.map_cons, List.cons.injEq] at h
      have e : acc ++ g :: gs = acc ++ [g] ++ gs := by simp
      rw [e] at hp ⊢
      have hm := (pw_snoc.1 (pw_left hp)).2
      rw [fwd, h.1]
      simp only
      rw [if_neg (by rw [hm]; decide)]
      exact fwd_some ls _ gs h.2 hp
theorem fwd_of : ∀ (ls : List ByteArray) (acc r : List Sg), fwd ls acc = some r → Pw acc → ∃ gs, r = acc ++ gs ∧ ls.map sigP = gs.map some ∧ Pw r
  | [], acc, r, h, hp => by
    rw [fwd] at h
    injection h with h
    exact ⟨[], by simp [h], rfl, by rw [← h]; exact hp⟩
  | l :: ls, acc, r, h, hp => by
    rw [fwd] at h
    cases hs : sigP l with
    | none => rw [hs] at h; cases h
    | some g =>
      rw [hs] at h
      simp only at h
      by_cases hm : amg acc g = true
      · rw [if_pos hm] at h; cases h
      · rw [if_neg hm] at h
        obtain ⟨gs, h1, h2, h3⟩ := fwd_of ls _ r h (pw_snoc.2 ⟨hp, by simpa using hm⟩)
        exact ⟨g :: gs, by rw [h1]; simp, by rw [List.map_cons, List.map_cons, hs, h2], h3⟩
-- the lines from the end, as the program goes
theorem rd_some (p : Nat) (more : List El) : ∀ (xs : List El) (acc gs : List Sg), xs.map (fun x => sigP x.2) = gs.map some → (∀ x ∈ xs, x.2 ≠ ByteArray.empty) → Pw (acc ++ gs) → (acc ++ gs).length ≤ 16 → rdE (xs ++ (p, ByteArray.empty) :: more) acc = some (p, acc ++ gs)
  | [], acc, gs, h, hx, hp, hl => by
    have : gs = [] := by cases gs with | nil => rfl | cons _ _ => cases h
    subst this
    rw [List.nil_append, rdE, if_pos rfl, List.append_nil]
  | x :: xs, acc, gs, h, hx, hp, hl => by
    cases gs with
    | nil => cases h
    | cons g gs =>
      simp only [List.map_cons, List.cons.injEq] at h
      have e : acc ++ g :: gs = acc ++ [g] ++ gs := by simp
      rw [e] at hp hl ⊢
      have hm := (pw_snoc.1 (pw_left hp)).2
      rw [List.cons_append, rdE, if_neg (hx x (by simp)), h.1]
      simp only
      have hno : ¬ (acc.length = 16 ∨ amg acc g = true) := by
        rintro (c | c)
        · simp at hl; omega
        · rw [hm] at c; cases c
      rw [if_neg hno]
      exact rd_some p more xs _ gs h.2 (fun y hy => hx y (by simp [hy])) hp hl
theorem rd_of (p : Nat) (more : List El) : ∀ (xs : List El) (acc : List Sg) (q : Nat) (r : List Sg), rdE (xs ++ (p, ByteArray.empty) :: more) acc = some (q, r) → (∀ x ∈ xs, x.2 ≠ ByteArray.empty) → Pw acc → acc.length ≤ 16 → q = p ∧ r.length ≤ 16 ∧ ∃ gs, r = acc ++ gs ∧ xs.map (fun x => sigP x.2) = gs.map some ∧ Pw r
  | [], acc, q, r, h, hx, hp, hl => by
    rw [List.nil_append, rdE, if_pos rfl] at h
    injection h with h
    injection h with h1 h2
    exact ⟨h1.symm, by rw [← h2]; exact hl, [], by simp [h2], rfl, by rw [← h2]; exact hp⟩
  | x :: xs, acc, q, r, h, hx, hp, hl => by
    rw [List.cons_append, rdE, if_neg (hx x (by simp))] at h
    cases hs : sigP x.2 with
    | none => rw [hs] at h; cases h
    | some g =>
      rw [hs] at h
      simp only at h
      by_cases hm : acc.length = 16 ∨ amg acc g = true
      · rw [if_pos hm] at h; cases h
      · rw [if_neg hm] at h
        have h16 : acc.length ≠ 16 := fun e => hm (.inl e)
        have ha : amg acc g = false := by simpa using fun e => hm (.inr e)
        obtain ⟨h1, h2, gs, h3, h4, h5⟩ := rd_of p more xs _ q r h (fun y hy => hx y (by simp [hy])) (pw_snoc.2 ⟨hp, ha⟩) (by simp; omega)
        exact ⟨h1, h2, g :: gs, by rw [h3]; simp, by rw [List.map_cons, List.map_cons, hs, h4], h5⟩
theorem rd_no : ∀ (xs : List El) (acc : List Sg), (∀ x ∈ xs, x.2 ≠ ByteArray.empty) → rdE xs acc = none
  | [], _, _ => rfl
  | x :: xs, acc, hx => by
    rw [rdE, if_neg (hx x (by simp))]
    cases hs : sigP x.2 with
    | none => rfl
    | some g =>
      simp only
      by_cases hm : acc.length = 16 ∨ amg acc g = true
      · rw [if_pos hm]
      · rw [if_neg hm]
        exact rd_no xs _ (fun y hy => hx y (by simp [hy]))
-- both ways at once: of lines that are none empty, from the end and in their order
theorem rd_fwd (p : Nat) (more : List El) (xs : List El) (hx : ∀ x ∈ xs, x.2 ≠ ByteArray.empty) :
    rdE (xs ++ (p, ByteArray.empty) :: more) [] = if xs.length ≤ 16 then (match fwd (xs.map (·.2)).reverse [] with | none => none | some gs => some (p, gs.reverse)) else none := by
  have hlen : ∀ gs : List Sg, xs.map (fun x => sigP x.2) = gs.map some → gs.length = xs.length := fun gs h => by have := congrArg List.length h; simpa using this.symm
  have hrev : ∀ gs : List Sg, (xs.map (·.2)).reverse.map sigP = gs.map some → xs.map (fun x => sigP x.2) = gs.reverse.map some := fun gs h => by
    have := congrArg List.reverse h
    simpa [List.map_reverse, Function.comp_def] using this
  by_cases h16 : xs.length ≤ 16
  · rw [if_pos h16]
    cases hf : fwd (xs.map (·.2)).reverse [] with
    | none =>
      simp only
      cases hr : rdE (xs ++ (p, ByteArray.empty) :: more) [] with
      | none => rfl
      | some qr =>
        obtain ⟨q, r⟩ := qr
        obtain ⟨h1, h2, gs, h3, h4, h5⟩ := rd_of p more xs [] q r hr hx List.Pairwise.nil (by simp)
        rw [List.nil_append] at h3
        subst h3
        have := fwd_some (xs.map (·.2)).reverse [] r.reverse (by have := congrArg List.reverse h4; simpa [List.map_reverse, Function.comp_def] using this) (pw_rev h5)
        rw [hf] at this
        cases this
    | some gs =>
      simp only
      obtain ⟨gs', h1, h2, h3⟩ := fwd_of _ [] gs hf List.Pairwise.nil
      rw [List.nil_append] at h1
      subst h1
      have h4 := hrev gs h2
      have := rd_some p more xs [] gs.reverse h4 hx (by rw [List.nil_append]; exact pw_rev h3) (by rw [List.nil_append, hlen _ h4]; exact h16)
      rw [this, List.nil_append]
  · rw [if_neg h16]
    cases hr : rdE (xs ++ (p, ByteArray.empty) :: more) [] with
    | none => rfl
    | some qr =>
      obtain ⟨q, r⟩ := qr
      obtain ⟨h1, h2, gs, h3, h4, h5⟩ := rd_of p more xs [] q r hr hx List.Pairwise.nil (by simp)
      rw [List.nil_append] at h3
      subst h3
      have := hlen _ h4
      omega
end Go.Proofs.YthdkbjbhjfiaiaaGreatDoor.s1

namespace Go.Proofs.YthdkbjbhjfiaiaaGreatDoor.s3
open Go.RowKit Go.PlainAid
open Go.Proofs.YthdkbjbhjfiaiaaGreatDoor.tb Go.Proofs.YthdkbjbhjfiaiaaGreatDoor.tc Go.Proofs.YthdkbjbhjfiaiaaGreatDoor.tj Go.Proofs.YthdkbjbhjfiaiaaGreatDoor.o1 Go.Proofs.YthdkbjbhjfiaiaaGreatDoor.o3 Go.Proofs.YthdkbjbhjfiaiaaGreatDoor.q1 Go.Proofs.YthdkbjbhjfiaiaaGreatDoor.q2 Go.Proofs.YthdkbjbhjfiaiaaGreatDoor.q3 Go.Proofs.YthdkbjbhjfiaiaaGreatDoor.q5 Go.Proofs.YthdkbjbhjfiaiaaGreatDoor.s1 Go.Proofs.YthdkbjbhjfiaiaaGreatDoor.s2
set_option linter.unusedVariables false
set_option maxRecDepth 4000

theorem rl_split : ∀ RL : List ByteArray, (∀ l ∈ RL, l ≠ ByteArray.empty) ∨ ∃ pre post, RL = pre ++ ByteArray.empty :: post ∧ ∀ l ∈ pre, l ≠ ByteArray.empty
  | [] => .inl (fun l h => by cases h)
  | l :: RL => by
    by_cases e : l = ByteArray.empty
    · exact .inr ⟨[], RL, by rw [e]; rfl, fun x h => by cases h⟩
    · rcases rl_split RL with h | ⟨pre, post, h1, h2⟩
      · exact .inl (fun x hx => by rcases List.mem_cons.1 hx with rfl | hx; exact e; exact h x hx)
      · exact .inr ⟨l :: pre, post, by rw [h1]; rfl, fun x hx => by rcases List.mem_cons.1 hx with rfl | hx; exact e; exact h2 x hx⟩
theorem elR_app : ∀ (pre post : List ByteArray), ∃ xs : List El, elR (pre ++ post) = xs ++ elR post ∧ xs.map (·.2) = pre
  | [], post => ⟨[], rfl, rfl⟩
  | l :: pre, post => by
    obtain ⟨xs, h1, h2⟩ := elR_app pre post
    exact ⟨((flN (pre ++ post).reverse).size, l) :: xs, by rw [List.cons_append, elR, h1]; rfl, by rw [List.map_cons, h2]⟩
theorem mem_of_map {xs : List El} {pre : List ByteArray} (h : xs.map (·.2) = pre) (hp : ∀ l ∈ pre, l ≠ ByteArray.empty) : ∀ x ∈ xs, x.2 ≠ ByteArray.empty := fun x hx => hp x.2 (by rw [← h]; exact List.mem_map.2 ⟨x, hx, rfl⟩)
theorem readB_no (note : ByteArray) (RL : List ByteArray) (h : ∀ l ∈ RL, l ≠ ByteArray.empty) : readB note RL = none := by
  obtain ⟨xs, h1, h2⟩ := elR_app RL []
  rw [List.append_nil] at h1
  unfold readB
  rw [h1, show elR [] = [] from rfl, List.append_nil, rd_no xs [] (mem_of_map h2 h)]
-- what read answers, in the document's order
theorem readB_split (pre post : List ByteArray) (hp : ∀ l ∈ pre, l ≠ ByteArray.empty) (note : ByteArray) (hn : note = flN (pre ++ ByteArray.empty :: post).reverse) :
    note = flN post.reverse ++ nlB ++ flN pre.reverse ∧
    readB note (pre ++ ByteArray.empty :: post) = if pre.length ≤ 16 then (match fwd pre.reverse [] with | none => none | some gs => if gs.length ≠ 0 ∧ goesB (flN post.reverse) = true then some (flN post.reverse, gs) else none) else none := by
  have e1 : note = flN post.reverse ++ nlB ++ flN pre.reverse := by
    rw [hn, List.reverse_append, flN_app, List.reverse_cons, flN_snoc, ByteArray.append_empty]
  refine ⟨e1, ?_⟩
  obtain ⟨xs, h1, h2⟩ := elR_app pre (ByteArray.empty :: post)
  have hP : note.extract 0 (flN post.reverse).size = flN post.reverse := by
    rw [e1, ByteArray.append_assoc, ByteArray.extract_append_eq_left rfl]
  have hl : xs.length = pre.length := by rw [← h2, List.length_map]
  unfold readB
  rw [h1, show elR (ByteArray.empty :: post) = ((flN post.reverse).size, ByteArray.empty) :: elR post from rfl, rd_fwd _ _ xs (mem_of_map h2 hp), h2, hl]
  by_cases h16 : pre.length ≤ 16
  · rw [if_pos h16, if_pos h16]
    cases hf : fwd pre.reverse [] with
    | none => rfl
    | some gs =>
      simp only [List.length_reverse, List.reverse_reverse, hP]
  · rw [if_neg h16, if_neg h16]
end Go.Proofs.YthdkbjbhjfiaiaaGreatDoor.s3

namespace Go.Proofs.YthdkbjbhjfiaiaaGreatDoor.ud
open Go.RowKit Go.PlainAid
open Go.Proofs.YthdkbjbhjfiaiaaGreatDoor.ta Go.Proofs.YthdkbjbhjfiaiaaGreatDoor.tb Go.Proofs.YthdkbjbhjfiaiaaGreatDoor.tc Go.Proofs.YthdkbjbhjfiaiaaGreatDoor.td Go.Proofs.YthdkbjbhjfiaiaaGreatDoor.te Go.Proofs.YthdkbjbhjfiaiaaGreatDoor.tf Go.Proofs.YthdkbjbhjfiaiaaGreatDoor.tg Go.Proofs.YthdkbjbhjfiaiaaGreatDoor.th Go.Proofs.YthdkbjbhjfiaiaaGreatDoor.ti Go.Proofs.YthdkbjbhjfiaiaaGreatDoor.tj Go.Proofs.YthdkbjbhjfiaiaaGreatDoor.tk Go.Proofs.YthdkbjbhjfiaiaaGreatDoor.ue Go.Proofs.YthdkbjbhjfiaiaaGreatDoor.ub Go.Proofs.YthdkbjbhjfiaiaaGreatDoor.uc
set_option linter.unusedVariables false
set_option maxRecDepth 4000

theorem flush48a (v : Int) : flush 8 (0 + 4) (0 * 2 ^ 4 + v) (0 + 4) = ([], v, 4) := by simp [flush]
theorem flush48b (d v : Int) : flush 8 (4 + 4) (d * 2 ^ 4 + v) (4 + 4) = ([d * 16 + v], 0, 0) := by simp [flush]

section
variable {w0 : World} {B bo C bh bc : Nat} {cs : List (Nat × Obj)}
def hU (σ : List Int × Nat × Int) : Int := if σ.2.1 = 1 then σ.2.2 else 0
def cU (σ : List Int × Nat × Int) : Nat := if σ.2.1 = 1 then 4 else 0
def StU (w0 : World) (B bo C bh bc ba : Nat) (cs : List (Nat × Obj)) (σ : List Int × Nat × Int) (w : World) : Prop := St w0 B bo C bh bc ((ba, bx 3 (.int .i64 (σ.2.1 : Nat))) :: cs) σ.1 (hU σ) (cU σ : Nat) w
def Post (w0 : World) (B bo C bh bc ba : Nat) (cs : List (Nat × Obj)) (o : Option (List Int × Nat × Int)) (e : Ending) (w' : World) : Prop :=
  (∃ σ, o = some σ ∧ e = .returned (.bool true) ∧ StU w0 B bo C bh bc ba cs σ w') ∨ (o = none ∧ e = .returned (.bool false) ∧ Below B w0 w')

end

-- the values' box, the row and the box of the row
def baseV (w : World) (VL : List Int) (C : Nat) : World := ((w.alloc (.cells (row VL) 151)).alloc (.cells (row (List.replicate C 0)) 5)).alloc (bx 77 (.slice (some ⟨w.heap.size + 1, 0, none⟩) 0 C))
theorem baseV_size (w : World) (VL : List Int) (C : Nat) : (baseV w VL C).heap.size = w.heap.size + 3 := by simp [baseV]
theorem baseV_v (w : World) (VL : List Int) (C : Nat) : (baseV w VL C).heap[w.heap.size]? = some (.cells (row VL) 151 (0, 0)) := by
  unfold baseV
  rw [heap_alloc_old _ _ (by simp <;> omega), heap_alloc_old _ _ (by simp), heap_alloc_new]
theorem baseV_out (w : World) (VL : List Int) (C : Nat) : Boxed (baseV w VL C) (w.heap.size + 2) 77 (.slice (some ⟨w.heap.size + 1, 0, none⟩) 0 C) := by
  unfold baseV
  have := heap_alloc_new ((w.alloc (.cells (row VL) 151)).alloc (.cells (row (List.replicate C 0)) 5)) (bx 77 (.slice (some ⟨w.heap.size + 1, 0, none⟩) 0 C))
  rw [size1, size1] at this
  exact this
theorem baseV_own (w : World) (VL : List Int) (C : Nat) (hC : C ≤ 281474976710656) : (baseV w VL C).ownsRow w.heap.size 5 1 (.slice (some ⟨w.heap.size + 1, 0, none⟩) 0 C) 0 [] := by
  unfold baseV
  have := World.ownsRow_made (base := w.heap.size) (e := 5) (size := 1) (w.alloc (.cells (row VL) 151)) (row (List.replicate C 0)) C (by simp) (by unfold maxLen; omega) (by rw [row_size]; simp)
  rw [size1] at this
  exact this.alloc _
theorem baseV_below (w : World) (VL : List Int) (C : Nat) : Below w.heap.size w (baseV w VL C) := by
  unfold baseV
  exact (((Below.refl _ _).alloc (Nat.le_refl _) _).alloc (by simp) _).alloc (by simp <;> omega) _
theorem srW_size (w : World) (l : List Int) (f : Nat) (give : Value) : (srW w l f give).heap.size = w.heap.size + 1 + 6 := by
  unfold srW
  rw [size1, chain5_size, size1]
theorem bs_37 : bs (⟨#[37]⟩ : ByteArray) = [37] := by decide +kernel
theorem readV_nil : readV [] = .tuple #[.string ByteArray.empty, .int .i64 0] := rfl

end Go.Proofs.YthdkbjbhjfiaiaaGreatDoor.ud

namespace Go.Proofs.YthdkbjbhjfiaiaaGreatDoor.va
open Go.RowKit Go.PlainAid
open Go.Proofs.YthdkbjbhjfiaiaaGreatDoor.ta Go.Proofs.YthdkbjbhjfiaiaaGreatDoor.tb Go.Proofs.YthdkbjbhjfiaiaaGreatDoor.tc Go.Proofs.YthdkbjbhjfiaiaaGreatDoor.sh
set_option linter.unusedVariables false
set_option maxRecDepth 4000

-- the pieces between the bytes c
def parts (c : Int) : List Int → List (List Int)
  | [] => [[]]
  | b :: r => if b = c then [] :: parts c r else match parts c r with
    | p :: ps => (b :: p) :: ps
    | [] => [[b]]
theorem parts_ne (c : Int) (l : List Int) : parts c l ≠ [] := by
  cases l with
  | nil => simp [parts]
  | cons b r =>
    unfold parts
    split
    · simp
    · split <;> simp
theorem parts_none (c : Int) (l : List Int) (h : ∀ x ∈ l, x ≠ c) : parts c l = [l] := by
  induction l with
  | nil => rfl
  | cons b r ih =>
    unfold parts
    rw [if_neg (h b List.mem_cons_self), ih (fun x hx => h x (List.mem_cons_of_mem _ hx))]
theorem parts_at (c : Int) (a r : List Int) (h : ∀ x ∈ a, x ≠ c) : parts c (a ++ c :: r) = a :: parts c r := by
  induction a with
  | nil => simp [parts]
  | cons b a ih =>
    rw [List.cons_append, parts, if_neg (h b List.mem_cons_self), ih (fun x hx => h x (List.mem_cons_of_mem _ hx))]
theorem parts_length (c : Int) (l : List Int) : (parts c l).length = l.count c + 1 := by
  induction l with
  | nil => rfl
  | cons b r ih =>
    unfold parts
    by_cases h : b = c
    · rw [if_pos h, List.length_cons, ih, h, List.count_cons_self]
    · rw [if_neg h, List.count_cons_of_ne (by simpa using h)]
      split
      · rename_i p ps he
        rw [he] at ih
        simpa using ih
      · rename_i he
        exact absurd he (parts_ne c r)
theorem parts_in (c : Int) (l : List Int) (h : In 256 l) : ∀ p ∈ parts c l, In 256 p := by
  induction l with
  | nil => intro p hp; simp [parts] at hp; subst hp; intro x hx; simp at hx
  | cons b r ih =>
    have ih' := ih h.tail
    intro p hp
    unfold parts at hp
    split at hp
    · rcases List.mem_cons.1 hp with rfl | hp
      · intro x hx; simp at hx
      · exact ih' p hp
    · split at hp
      · rename_i q ps he
        rcases List.mem_cons.1 hp with rfl | hp
        · intro x hx
          rcases List.mem_cons.1 hx with rfl | hx
          · exact h.head
          · exact ih' q (by rw [he]; exact List.mem_cons_self) x hx
        · exact ih' p (by rw [he]; exact List.mem_cons_of_mem _ hp)
      · rw [List.mem_singleton.1 hp]; intro x hx; rw [List.mem_singleton.1 hx]; exact h.head

-- bytes of a text as the library's own
theorem bs_data (s : ByteArray) : bs s = s.data.toList.map fun b => (b.toNat : Int) := by
  apply List.ext_getElem
  · rw [bs_length, List.length_map, Array.length_toList]; rfl
  · intro j h1 h2
    rw [bs_length] at h1
    rw [bs_get s j h1, List.getElem_map, ← get_bt s j h1]
    rfl
theorem idx_cases (s : ByteArray) (c : UInt8) : (Lib.indexByte s.data.toList c = -1 ∧ ∀ x ∈ bs s, x ≠ (c.toNat : Int)) ∨
    (∃ o : Nat, Lib.indexByte s.data.toList c = o ∧ o < s.size ∧ bs s = (bs s).take o ++ (c.toNat : Int) :: (bs s).drop (o + 1) ∧ ∀ x ∈ (bs s).take o, x ≠ (c.toNat : Int)) := by
  rcases (by omega : Lib.indexByte s.data.toList c < 0 ∨ 0 ≤ Lib.indexByte s.data.toList c) with h | h
  · have h1 := Lib.indexByte_ge s.data.toList c
    have he : Lib.indexByte s.data.toList c = -1 := by omega
    refine .inl ⟨he, fun x hx e => ?_⟩
    rw [bs_data] at hx
    obtain ⟨b, hb, rfl⟩ := List.mem_map.1 hx
    obtain ⟨k, hk, hkb⟩ := List.getElem_of_mem hb
    have hn := Lib.indexByte_none he k
    rw [List.getElem?_eq_getElem hk, hkb] at hn
    have hbc : b = c := UInt8.toNat_inj.1 (by omega)
    exact hn (by rw [hbc])
  · obtain ⟨o, ho⟩ := Int.eq_ofNat_of_zero_le h
    obtain ⟨h1, h2⟩ := Lib.indexByte_some ho
    have hlt : o < s.data.toList.length := (List.getElem?_eq_some_iff.1 h1).1
    have hsz : s.data.toList.length = s.size := Array.length_toList
    have hb : bs s = (bs s).take o ++ (c.toNat : Int) :: (bs s).drop (o + 1) := by
      conv => lhs; rw [← List.take_append_drop o (bs s)]
      congr 1
      rw [List.drop_eq_getElem_cons (by rw [bs_length]; omega)]
      congr 1
      rw [bs_get s o (by omega), ← get_bt s o (by omega)]
      have := (List.getElem?_eq_some_iff.1 h1).2
      rw [← this]
      rfl
    refine .inr ⟨o, ho, by omega, hb, fun x hx e => ?_⟩
    rw [bs_data, ← List.map_take] at hx
    obtain ⟨b, hb', rfl⟩ := List.mem_map.1 hx
    obtain ⟨k, hk, hkb⟩ := List.getElem_of_mem hb'
    rw [List.length_take] at hk
    have hn := h2 k (by omega)
    rw [List.getElem_take] at hkb
    rw [List.getElem?_eq_getElem (by omega), hkb] at hn
    have hbc : b = c := UInt8.toNat_inj.1 (by omega)
    exact hn (by rw [hbc])
theorem indexB_one (s : ByteArray) (c : UInt8) : Lib.indexB s ⟨#[c]⟩ = Lib.indexByte s.data.toList c := Lib.index_one _ _
theorem count_one (s : ByteArray) (c : UInt8) : Lib.countB s ⟨#[c]⟩ = (bs s).count (c.toNat : Int) := by
  show Lib.count s.data.toList [c] = _
  rw [Lib.count_one, bs_data]
  show s.data.toList.count c = _
  rw [List.count_eq_countP, List.count_eq_countP, List.countP_map]
  apply List.countP_congr
  intro x _
  simp only [Function.comp, beq_iff_eq]
  constructor
  · intro h; rw [h]
  · intro h; exact UInt8.toNat_inj.1 (by omega)
theorem split_parts (c : UInt8) (n : Nat) : ∀ s : ByteArray, (bs s).count (c.toNat : Int) = n → (Lib.splitB ⟨#[c]⟩ 0 n s).map bs = parts (c.toNat : Int) (bs s) := by
  induction n with
  | zero =>
    intro s hn
    have h : ∀ x ∈ bs s, x ≠ (c.toNat : Int) := fun x hx e => by
      have := List.count_pos_iff.2 (e ▸ hx)
      omega
    rw [parts_none _ _ h]
    rfl
  | succ n ih =>
    intro s hn
    rcases idx_cases s c with ⟨hi, h⟩ | ⟨o, hi, ho, hb, h⟩
    · have : (bs s).count (c.toNat : Int) = 0 := List.count_eq_zero.2 (fun hm => h _ hm rfl)
      omega
    · have hz : (⟨#[c]⟩ : ByteArray).size = 1 := rfl
      rw [Lib.splitB_hit _ 0 n s o (by rw [indexB_one]; exact hi), List.map_cons, hz, Nat.add_zero, bs_extract s 0 o (by omega) (by omega), List.drop_zero]
      have hd : bs (s.extract (o + 1) s.size) = (bs s).drop (o + 1) := by
        rw [bs_extract s _ _ (by omega) (Nat.le_refl _), List.take_of_length_le (by rw [bs_length]; exact Nat.le_refl _)]
      have hc : (bs (s.extract (o + 1) s.size)).count (c.toNat : Int) = n := by
        rw [hd]
        have h0 : ((bs s).take o).count (c.toNat : Int) = 0 := List.count_eq_zero.2 (fun hm => h _ hm rfl)
        rw [hb, List.count_append, List.count_cons_self, h0] at hn
        omega
      rw [ih _ hc, hd]
      conv => rhs; rw [hb]
      rw [parts_at _ _ _ h]

theorem hi9 : (Tryz.prog.info? 9).map (fun i => (i.zero, i.size, i.bytes)) = some (some (.string ByteArray.empty), 1, 16) := by kernel_rfl
def pcs (c : UInt8) (s : ByteArray) : List ByteArray := (parts (c.toNat : Int) (bs s)).map str
theorem pcs_eq (c : UInt8) (s : ByteArray) : Lib.splitB ⟨#[c]⟩ 0 ((bs s).count (c.toNat : Int)) s = pcs c s := by
  unfold pcs
  rw [← split_parts c _ s rfl, List.map_map]
  conv => lhs; rw [← List.map_id (Lib.splitB ⟨#[c]⟩ 0 ((bs s).count (c.toNat : Int)) s)]
  apply List.map_congr_left
  intro x _
  simp [str_bs]
theorem pcs_length (c : UInt8) (s : ByteArray) : (pcs c s).length = (bs s).count (c.toNat : Int) + 1 := by unfold pcs; rw [List.length_map, parts_length]
theorem genSplit1 (s : ByteArray) (c : UInt8) (w : World) (hs : s.size < 4294967281) :
    Calls Tryz.prog 111 #[.string s, .string ⟨#[c]⟩, .int .i64 0, .int .i64 (-1)] w fun e w' =>
      e = .returned (.slice (some ⟨w.heap.size, 0, none⟩) (pcs c s).length (pcs c s).length) ∧ w' = w.alloc (.cells ((pcs c s).map Value.string).toArray 9) := by
  have hle := Lib.countB_le ⟨#[c]⟩ (Nat.le_refl 1) s.size s (Nat.le_refl _)
  have h := Any.strings_genSplit_core lays221 hi9 s ⟨#[c]⟩ 0 (-1) ((pcs c s).length) w hs (Nat.le_refl 1) (Nat.zero_le _)
    (fun x cc hx => by
      refine (Any.strings_Index_one { lays221 with } x c _).mono ?_
      rintro e w' ⟨he, hw⟩
      exact ⟨by rw [he, indexB_one], hw⟩)
    (by
      refine (Any.strings_Count_one { lays221 with } s c w).mono ?_
      rintro e w' ⟨he, hw⟩
      refine ⟨?_, hw⟩
      rw [he]
      show _ = Ending.returned (Value.int .i64 ((Lib.count s.data.toList [c] : Nat) : Int))
      rw [Lib.count_one]
      rfl)
    (by decide) (by decide) (by rw [if_pos (by decide), pcs_length, ← count_one]; omega)
  have e1 : (pcs c s).length - 1 = (bs s).count (c.toNat : Int) := by rw [pcs_length]; omega
  rw [e1, pcs_eq, Lib.cellsOf_full] at h
  exact h
set_option maxHeartbeats 800000 in
theorem split1 (s : ByteArray) (c : UInt8) (w : World) (hs : s.size < 4294967281) :
    Calls Tryz.prog 81 #[.string s, .string ⟨#[c]⟩] w fun e w' =>
      e = .returned (.slice (some ⟨w.heap.size, 0, none⟩) (pcs c s).length (pcs c s).length) ∧ w' = w.alloc (.cells ((pcs c s).map Value.string).toArray 9) := by
  have C : Hid (Calls _ _ _ _ _) := genSplit1 s c w hs
  go_enter Tryz.func81, Tryz.ntmps81
  go_wp2_with fail
  refine C.out.mono ?_
  rintro e w1 ⟨rfl, hw⟩
  have HW : Hid (w1 = _) := hw
  clear hw
  go_wp2
  go_ret
  exact ⟨rfl, HW.out⟩
end Go.Proofs.YthdkbjbhjfiaiaaGreatDoor.va

namespace Go.Proofs.YthdkbjbhjfiaiaaGreatDoor.vb
open Go.RowKit Go.PlainAid
open Go.Proofs.YthdkbjbhjfiaiaaGreatDoor.ta Go.Proofs.YthdkbjbhjfiaiaaGreatDoor.tb Go.Proofs.YthdkbjbhjfiaiaaGreatDoor.tc Go.Proofs.YthdkbjbhjfiaiaaGreatDoor.td Go.Proofs.YthdkbjbhjfiaiaaGreatDoor.te Go.Proofs.YthdkbjbhjfiaiaaGreatDoor.tf Go.Proofs.YthdkbjbhjfiaiaaGreatDoor.tg Go.Proofs.YthdkbjbhjfiaiaaGreatDoor.th Go.Proofs.YthdkbjbhjfiaiaaGreatDoor.ti Go.Proofs.YthdkbjbhjfiaiaaGreatDoor.tj Go.Proofs.YthdkbjbhjfiaiaaGreatDoor.tk Go.Proofs.YthdkbjbhjfiaiaaGreatDoor.ue Go.Proofs.YthdkbjbhjfiaiaaGreatDoor.ub Go.Proofs.YthdkbjbhjfiaiaaGreatDoor.uc Go.Proofs.YthdkbjbhjfiaiaaGreatDoor.ud Go.Proofs.YthdkbjbhjfiaiaaGreatDoor.sh Go.Proofs.YthdkbjbhjfiaiaaGreatDoor.va
set_option linter.unusedVariables false
set_option maxRecDepth 4000

theorem over {w w1 w2 : World} (h : Below w.heap.size w w1) (b : Below w1.heap.size w1 w2) : Below w.heap.size w w2 := h.trans (b.mono h.size)
-- a list of texts in memory
def srow (xs : List ByteArray) : Array Value := (xs.map Value.string).toArray
theorem srow_get (xs : List ByteArray) (k : Nat) : (srow xs)[k]? = (xs[k]?).map Value.string := by simp [srow]
theorem srow_set (xs : List ByteArray) (k : Nat) (x : ByteArray) : (srow xs).setIfInBounds k (.string x) = srow (xs.set k x) := by simp [srow]
theorem srow_size (xs : List ByteArray) : (srow xs).size = xs.length := by simp [srow]
def Texts (w : World) (B : Nat) (v : Value) (xs : List ByteArray) : Prop :=
  (v = .slice none 0 0 ∧ xs = []) ∨ ∃ g, v = .slice (some ⟨g, 0, none⟩) xs.length xs.length ∧ B ≤ g ∧ w.heap[g]? = some (.cells (srow xs) 9 (0, 0))
theorem Texts.later {w w' : World} {B : Nat} {v : Value} {xs : List ByteArray} (h : Texts w B v xs) (hb : Below w.heap.size w w') : Texts w' B v xs := by
  rcases h with h | ⟨g, h1, h2, h3⟩
  · exact .inl h
  · exact .inr ⟨g, h1, h2, (hb.block g (Array.getElem?_eq_some_iff.1 h3).1).trans h3⟩

-- all of them read, or none
def allP : List (List Int) → Option (List (List Int))
  | [] => some []
  | p :: ps => match unP p with
    | none => none
    | some x => match allP ps with
      | none => none
      | some xs => some (x :: xs)
def wordsP (l : List Int) : Option (List (List Int)) := if l = [] then some [] else allP (parts 32 l)
theorem allP_length : ∀ (ps : List (List Int)) (xs : List (List Int)), allP ps = some xs → xs.length = ps.length
  | [], xs, h => by obtain rfl := Option.some.inj h; rfl
  | p :: ps, xs, h => by
    unfold allP at h
    cases hp : unP p with
    | none => rw [hp] at h; cases h
    | some x =>
      rw [hp] at h
      cases ha : allP ps with
      | none => rw [ha] at h; cases h
      | some ys => rw [ha] at h; obtain rfl := Option.some.inj h; simp [allP_length ps ys ha]
theorem allP_app : ∀ (ps qs : List (List Int)) (xs : List (List Int)), allP ps = some xs → allP (ps ++ qs) = (allP qs).map (xs ++ ·)
  | [], qs, xs, h => by obtain rfl := Option.some.inj h; simp
  | p :: ps, qs, xs, h => by
    unfold allP at h
    cases hp : unP p with
    | none => rw [hp] at h; cases h
    | some x =>
      rw [hp] at h
      cases ha : allP ps with
      | none => rw [ha] at h; cases h
      | some ys =>
        rw [ha] at h
        obtain rfl := Option.some.inj h
        rw [List.cons_append, allP, hp, allP_app ps qs ys ha]
        cases allP qs <;> rfl
theorem allP_snoc (ps : List (List Int)) (p : List Int) (xs : List (List Int)) (x : List Int) (h : allP ps = some xs) (hp : unP p = some x) : allP (ps ++ [p]) = some (xs ++ [x]) := by
  rw [allP_app ps [p] xs h]
  simp [allP, hp]
theorem allP_bad (ps qs : List (List Int)) (p : List Int) (xs : List (List Int)) (h : allP ps = some xs) (hp : unP p = none) : allP (ps ++ p :: qs) = none := by
  rw [allP_app ps _ xs h]
  simp [allP, hp]

def wordsR (w w' : World) (o : Option (List (List Int))) (e : Ending) : Prop :=
  match o with
  | some xs => ∃ v, e = .returned (.tuple #[v, .int .i64 0]) ∧ Texts w' w.heap.size v (xs.map str)
  | none => e = .returned (.tuple #[.slice none 0 0, .int .i64 44])
theorem strs_ne : 9 ≠ 151 := by decide

end Go.Proofs.YthdkbjbhjfiaiaaGreatDoor.vb

namespace Go.Proofs.YthdkbjbhjfiaiaaGreatDoor.vc
open Go.RowKit Go.PlainAid
open Go.Proofs.YthdkbjbhjfiaiaaGreatDoor.ta Go.Proofs.YthdkbjbhjfiaiaaGreatDoor.tb Go.Proofs.YthdkbjbhjfiaiaaGreatDoor.tc Go.Proofs.YthdkbjbhjfiaiaaGreatDoor.tj Go.Proofs.YthdkbjbhjfiaiaaGreatDoor.ub Go.Proofs.YthdkbjbhjfiaiaaGreatDoor.va Go.Proofs.YthdkbjbhjfiaiaaGreatDoor.vb
set_option linter.unusedVariables false
set_option maxRecDepth 4000

-- a list of texts, wherever it lies
def Reads (w : World) (v : Value) (xs : List ByteArray) : Prop :=
  ∃ a cap, v = .slice a xs.length cap ∧ (xs.length = 0 ∨ ∃ b off, a = some ⟨b, off, none⟩ ∧ ∀ i, i < xs.length → w.cell? ⟨b, off + i, none⟩ = some (.string (xs.getD i ByteArray.empty)))
theorem Reads.later {w w' : World} {v : Value} {xs : List ByteArray} (h : Reads w v xs) (hb : Below w.heap.size w w') : Reads w' v xs := by
  obtain ⟨a, cap, rfl, h0 | ⟨b, off, rfl, hc⟩⟩ := h
  · exact ⟨a, cap, rfl, .inl h0⟩
  · refine ⟨_, cap, rfl, .inr ⟨b, off, rfl, fun i hi => ?_⟩⟩
    have := hc i hi
    exact (hb.cell (p := ⟨b, off + i, none⟩) (World.block_lt_of_cell? _ _ this)).trans this
theorem Texts.reads {w : World} {B : Nat} {v : Value} {xs : List ByteArray} (h : Texts w B v xs) : Reads w v xs := by
  rcases h with ⟨rfl, rfl⟩ | ⟨g, rfl, _, hh⟩
  · exact ⟨none, 0, rfl, .inl rfl⟩
  · refine ⟨_, _, rfl, .inr ⟨g, 0, rfl, fun i hi => ?_⟩⟩
    rw [Nat.zero_add, cell_of_row _ _ _ _ _ _ hh, srow_get, List.getD_eq_getElem?_getD, List.getElem?_eq_getElem hi]
    rfl

end Go.Proofs.YthdkbjbhjfiaiaaGreatDoor.vc

namespace Go.Proofs.YthdkbjbhjfiaiaaGreatDoor.y1
open Go.RowKit Go.PlainAid
open Go.Proofs.YthdkbjbhjfiaiaaGreatDoor.ta Go.Proofs.YthdkbjbhjfiaiaaGreatDoor.tb Go.Proofs.YthdkbjbhjfiaiaaGreatDoor.tc Go.Proofs.YthdkbjbhjfiaiaaGreatDoor.td Go.Proofs.YthdkbjbhjfiaiaaGreatDoor.te Go.Proofs.YthdkbjbhjfiaiaaGreatDoor.tg Go.Proofs.YthdkbjbhjfiaiaaGreatDoor.tj Go.Proofs.YthdkbjbhjfiaiaaGreatDoor.ub Go.Proofs.YthdkbjbhjfiaiaaGreatDoor.uc Go.Proofs.YthdkbjbhjfiaiaaGreatDoor.ud Go.Proofs.YthdkbjbhjfiaiaaGreatDoor.va Go.Proofs.YthdkbjbhjfiaiaaGreatDoor.vb Go.Proofs.YthdkbjbhjfiaiaaGreatDoor.vc
set_option linter.unusedVariables false
set_option maxRecDepth 4000

def linesP (l : List Int) : Option (List (List Int)) := if l = [] then some [] else if l.drop (l.length - 1) = [10] then some (parts 10 (l.take (l.length - 1))) else none

theorem parts_snoc (x : List Int) : parts 10 (x ++ [10]) = parts 10 x ++ [[]] := by
  induction x with
  | nil => rfl
  | cons b r ih =>
    rw [List.cons_append]
    unfold parts
    split
    · rw [ih]; rfl
    · rw [ih]
      cases h : parts 10 r with
      | nil => exact absurd h (parts_ne 10 r)
      | cons p ps => rfl
theorem parts_snoc_ne (c : Int) (hc : c ≠ 10) (x : List Int) : ∃ ps p, parts 10 (x ++ [c]) = ps ++ [p ++ [c]] := by
  induction x with
  | nil => exact ⟨[], [], by simp [parts, hc]⟩
  | cons b r ih =>
    obtain ⟨ps, p, e⟩ := ih
    rw [List.cons_append]
    unfold parts
    split
    · exact ⟨[] :: ps, p, by rw [e]; rfl⟩
    · rw [e]
      cases ps with
      | nil => exact ⟨[], b :: p, rfl⟩
      | cons q qs => exact ⟨(b :: q) :: qs, p, rfl⟩
theorem lines_parts (l : List Int) (done : List (List Int)) (r : List Int) (h : parts 10 l = done ++ [r]) : linesP l = if r = [] then some done else none := by
  rcases List.eq_nil_or_concat l with rfl | ⟨x, c, rfl⟩
  · have h' : ([] : List (List Int)) ++ [[]] = done ++ [r] := h
    obtain ⟨h1, h2⟩ := List.append_inj' h' rfl
    have : r = [] := by simpa using h2.symm
    rw [if_pos this, ← h1]
    rfl
  · rw [List.concat_eq_append] at *
    have hne : x ++ [c] ≠ [] := by simp
    by_cases hc : c = 10
    · subst hc
      rw [parts_snoc] at h
      obtain ⟨h1, h2⟩ := List.append_inj' h rfl
      have : r = [] := by simpa using h2.symm
      rw [if_pos this, ← h1]
      unfold linesP
      rw [if_neg hne, if_pos (by simp)]
      simp
    · obtain ⟨ps, p, e⟩ := parts_snoc_ne c hc x
      rw [e] at h
      obtain ⟨h1, h2⟩ := List.append_inj' h rfl
      have hr : r = p ++ [c] := by simpa using h2.symm
      rw [if_neg (by rw [hr]; simp)]
      unfold linesP
      rw [if_neg hne, if_neg (by simp [hc])]
theorem own_reads' {w : World} {B : Nat} {v : Value} {xs : List ByteArray} (h : w.ownsRow B 9 1 v xs.length (xs.map Value.string)) : Reads w v xs ∧ v.oneCell' = true := by
  rcases h.2 with ⟨rfl, h0⟩ | ⟨g, cap, cur, rfl, _, hg, _, _, _, _⟩
  · have : xs = [] := List.length_eq_zero_iff.1 h0
    subst this
    exact ⟨⟨none, 0, rfl, .inl rfl⟩, rfl⟩
  · refine ⟨⟨_, cap, rfl, .inr ⟨g, 0, rfl, fun i hi => ?_⟩⟩, rfl⟩
    have := h.cells (g := g) rfl i (.string (xs.getD i ByteArray.empty)) (by rw [List.getElem?_map, List.getElem?_eq_getElem hi, List.getD_eq_getElem?_getD, List.getElem?_eq_getElem hi]; rfl)
    rwa [Addr.add_mid] at this
theorem drop_cons10 (s : ByteArray) (j : Nat) (h : j < s.size) : (bs s).drop j = bt s j :: (bs s).drop (j + 1) := by
  rw [List.drop_eq_getElem_cons (by rw [bs_length]; exact h), bs_get s j h]
theorem drop_mid (l : List Int) (f i : Nat) (h : f ≤ i) : l.drop f = (l.take i).drop f ++ l.drop i := by
  conv => lhs; rw [← List.take_append_drop i l]
  rw [List.drop_append]
  by_cases hl : i ≤ l.length
  · rw [List.length_take, Nat.min_eq_left hl, show f - i = 0 by omega, List.drop_zero]
  · have : l.drop i = [] := List.drop_of_length_le (by omega)
    rw [this, List.drop_nil]
theorem cut10 (s : ByteArray) (f i : Nat) (hf : f ≤ i) (hi : i < s.size) (hb : bt s i = 10) : (bs s).drop f = bs (s.extract f i) ++ 10 :: (bs s).drop (i + 1) := by
  rw [bs_extract s f i hf (by omega), ← hb, ← drop_cons10 s i hi, ← drop_mid (bs s) f i hf]
theorem no10 (s : ByteArray) (f i : Nat) (hf : f ≤ i) (hi : i ≤ s.size) (h : ∀ j, f ≤ j → j < i → bt s j ≠ 10) : ∀ x ∈ bs (s.extract f i), x ≠ 10 := by
  intro x hx
  obtain ⟨k, hk, rfl⟩ := List.getElem_of_mem hx
  have hz : (s.extract f i).size = i - f := by rw [ByteArray.size_extract]; omega
  rw [bs_length, hz] at hk
  rw [bs_get _ k (by rw [hz]; exact hk), bt_extract s f i k (by omega) hi]
  exact h (f + k) (by omega) (by omega)
def linesQ (w' : World) (o : Option (List (List Int))) (e : Ending) : Prop :=
  match o with
  | some xs => ∃ v, e = .returned (.tuple #[v, .int .i64 0]) ∧ Reads w' v (xs.map str) ∧ v.oneCell' = true
  | none => e = .returned (.tuple #[.slice none 0 0, .int .i64 43])
structure LInv (s : ByteArray) (f i : Nat) (done : List (List Int)) : Prop where
  le : f ≤ i
  no : ∀ j, f ≤ j → j < i → bt s j ≠ 10
  ps : parts 10 (bs s) = done ++ parts 10 ((bs s).drop f)
  len : done.length ≤ i
set_option maxHeartbeats 3200000 in
theorem rLines (s : ByteArray) (hs : s.size ≤ 1048577) (w : World) :
    Calls Tryz.prog 15 #[.string s] w fun e w' => linesQ w' (linesP (bs s)) e ∧ Below w.heap.size w w' := by
  obtain ⟨i9, hi, hz0, hz1, hz2⟩ := info_parts hi9
  have HIN : Hid (_ ∧ _ ∧ _ ∧ _) := ⟨hi, hz0, hz1, hz2⟩
  clear hi hz0 hz1 hz2
  have hgb := get_bt s
  obtain ⟨R, HR⟩ : ∃ R, Hid (linesP (bs s) = R) := ⟨_, rfl⟩
  rw [HR.out]
  go_enter Tryz.func15, Tryz.ntmps15
  go_wp2
  go_loopw [4, 5, 6] (fun o f i wr => ∃ (k j : Nat) (done : List (List Int)), k ≤ s.size ∧ i = .int .i64 k ∧ f = .int .i64 j ∧ Hid (LInv s j k done) ∧ Hid (wr.ownsRow w.heap.size 9 1 o (done.map str).length ((done.map str).map Value.string)) ∧ Hid (Below w.heap.size w wr)) (fun _ _ i _ => (s.size + 1 - intOf i).toNat)
  case atStart => exact ⟨0, 0, [], by omega, rfl, rfl, ⟨Nat.le_refl _, fun j h1 h2 => by omega, rfl, by simp⟩, World.ownsRow_nil _ _ _ _, Below.refl _ _⟩
  case round =>
    obtain ⟨k, j, done, hk, rfl, rfl, HI, HO, HB⟩ := hrel
    have hbase := HB.out.size
    have hjk := HI.out.le
    by_cases hlt : k < s.size
    · have hlt' : (k : Int) < s.size := by omega
      by_cases hbe : bt s k = 10
      · have hga : ∀ (h : k < s.size), ((s[k]'h).toNat : Int) = 10 := fun h => (hgb k h).trans hbe
        have e1 : (j : Int) ≤ k := by omega
        have e2 : (k : Int) ≤ s.size := by omega
        have HI2 : Hid (LInv s (k + 1) (k + 1) (done ++ [bs (s.extract j k)])) := by
          refine ⟨Nat.le_refl _, fun y y1 y2 => by omega, ?_, by have := HI.out.len; simp; omega⟩
          rw [HI.out.ps, cut10 s j k hjk hlt hbe, parts_at _ _ _ (no10 s j k hjk hk HI.out.no)]
          simp
        have hdl : (done.map str).length ≤ k := by rw [List.length_map]; exact HI.out.len
        have hdl2 : (done.map str).length + 1 ≤ 1048578 := by omega
        obtain ⟨m, HM⟩ : ∃ m, Hid ((done.map str).length = m) := ⟨_, rfl⟩
        rw [HM.out] at HO hdl2 hdl
        obtain ⟨Z, HZ⟩ : ∃ Z, Hid (s.extract j k = Z) := ⟨_, rfl⟩
        have hxe := HZ.out
        have HX2 : Hid ((done ++ [bs (s.extract j k)]).map str = done.map str ++ [Z]) := by show _ = _; rw [HZ.out]; simp [str_bs]
        clear hgb hbe
        have hbase1 := hbase
        go_wp2_with (at_builtin; refine wpList_append_own _ rfl _ _ 28 rfl w.heap.size 9 i9 (.string ByteArray.empty) 1 16 Tryz.underlying28 HIN.out.1 HIN.out.2.1 HIN.out.2.2.1 HIN.out.2.2.2 rfl (by decide) _ m _ rfl (HO.out.alloc _) ⟨wr.heap.size, 0, none⟩ 1 1 [.string Z] rfl rfl (fun i u hu => by cases i with | zero => (simp at hu; rw [← hu]; exact new_cell _ _ _) | succ i => simp at hu) (fun u hu => by simp at hu; subst hu; rfl) (by unfold maxLen; omega) (by omega) (by simp; omega) ?_; intro v' w3 hown' hgrow3 hnil3; have HO3 : Hid (World.ownsRow _ _ _ _ _ _ _) := hown'; have HB3 : Hid (Below w.heap.size w w3) := Below.grown (HB.out.alloc HB.out.size _) hgrow3 (by simp; omega) (fun j hj => (HO.out.lt _ hj).1); clear hown' hgrow3 hnil3)
        go_roundw
        case rel =>
          refine ⟨k + 1, k + 1, done ++ [bs (s.extract j k)], by omega, by go_num, by go_num, HI2.out, ?_, HB3.out⟩
          rw [HX2.out, List.length_append, HM.out, List.map_append]
          exact HO3.out
        case measure => simp [intOf]; omega
      · obtain ⟨a, HA⟩ : ∃ a, Hid (bt s k = a) := ⟨_, rfl⟩
        have hga : ∀ (h : k < s.size), ((s[k]'h).toNat : Int) = a := fun h => (hgb k h).trans HA.out
        have hab : (a == 10) = false := beq_eq_false_iff_ne.2 (by rw [← HA.out]; exact hbe)
        have HI2 : Hid (LInv s j (k + 1) done) := by
          refine ⟨by omega, fun x x1 x2 => ?_, HI.out.ps, by have := HI.out.len; omega⟩
          rcases Nat.lt_or_ge x k with g | g
          · exact HI.out.no x x1 g
          · obtain rfl : x = k := by omega
            exact hbe
        clear hgb hbe
        go_wp2
        go_roundw
        case rel => exact ⟨k + 1, j, done, by omega, by go_num, rfl, HI2.out, HO.out, HB.out⟩
        case measure => simp [intOf]; omega
    · have hlt' : ¬ (k : Int) < s.size := by omega
      have hke : k = s.size := by omega
      have hrest : (bs s).drop j = bs (s.extract j k) := by
        rw [bs_extract s j k hjk hk, List.take_of_length_le (by rw [bs_length]; omega)]
      have hl := lines_parts (bs s) done ((bs s).drop j) (by rw [HI.out.ps, hrest, parts_none _ _ (no10 s j k hjk hk HI.out.no)])
      rw [HR.out] at hl
      have HL : Hid (R = if (bs s).drop j = [] then some done else none) := hl
      obtain ⟨hrd, hone⟩ := own_reads' HO.out
      have HRD : Hid (Reads wr u4 (done.map str)) := hrd
      clear hl hrest hrd hgb
      by_cases hj : j < s.size
      · have hj' : (j : Int) < s.size := by omega
        have HE : Hid (R = none) := by
          show _ = _
          rw [HL.out, if_neg]
          intro h
          have := congrArg List.length h
          rw [List.length_drop, bs_length] at this
          simp at this
          omega
        clear hke
        go_wp2
        go_ret2
        refine ⟨?_, HB.out⟩
        rw [HE.out]
        exact rfl
      · have hj' : ¬ (j : Int) < s.size := by omega
        have HE : Hid (R = some done) := by
          show _ = _
          rw [HL.out, if_pos (List.drop_of_length_le (by rw [bs_length]; omega))]
        clear hke
        go_wp2
        go_ret2
        refine ⟨?_, HB.out⟩
        rw [HE.out]
        exact ⟨_, rfl, HRD.out, hone⟩
theorem parts_small : ∀ l : List Int, ∀ x ∈ parts 10 l, x.length ≤ l.length
  | [], x, h => by
    have : x = [] := by simpa [parts] using h
    rw [this]; exact Nat.le_refl _
  | b :: r, x, h => by
    unfold parts at h
    split at h
    · rcases List.mem_cons.1 h with rfl | h2
      · simp
      · have := parts_small r x h2
        simp; omega
    · have ih := parts_small r
      cases hp : parts 10 r with
      | nil => exact absurd hp (parts_ne 10 r)
      | cons p ps =>
        rw [hp] at h ih
        rcases List.mem_cons.1 h with rfl | h2
        · have := ih p (by simp)
          simp; omega
        · have := ih x (by simp [h2])
          simp; omega
theorem lines_small (s : ByteArray) (ls : List (List Int)) (h : linesP (bs s) = some ls) : ∀ x ∈ ls, x.length ≤ s.size := by
  intro x hx
  unfold linesP at h
  split at h
  · obtain rfl := Option.some.inj h
    cases hx
  · split at h
    · obtain rfl := Option.some.inj h
      have h1 := parts_small _ x hx
      rw [List.length_take, bs_length] at h1
      omega
    · cases h
end Go.Proofs.YthdkbjbhjfiaiaaGreatDoor.y1

namespace Go.Proofs.YthdkbjbhjfiaiaaGreatDoor.t3
open Go.RowKit Go.PlainAid
open Go.Proofs.YthdkbjbhjfiaiaaGreatDoor.tb Go.Proofs.YthdkbjbhjfiaiaaGreatDoor.tc Go.Proofs.YthdkbjbhjfiaiaaGreatDoor.tj Go.Proofs.YthdkbjbhjfiaiaaGreatDoor.o1 Go.Proofs.YthdkbjbhjfiaiaaGreatDoor.o3 Go.Proofs.YthdkbjbhjfiaiaaGreatDoor.q1 Go.Proofs.YthdkbjbhjfiaiaaGreatDoor.q2 Go.Proofs.YthdkbjbhjfiaiaaGreatDoor.q3 Go.Proofs.YthdkbjbhjfiaiaaGreatDoor.q5 Go.Proofs.YthdkbjbhjfiaiaaGreatDoor.s1 Go.Proofs.YthdkbjbhjfiaiaaGreatDoor.s2 Go.Proofs.YthdkbjbhjfiaiaaGreatDoor.s3 Go.Proofs.YthdkbjbhjfiaiaaGreatDoor.va
open Go.Proofs.YthdkbjbhjfiaiaaGreatDoor.y1 (linesP)
set_option linter.unusedVariables false
set_option maxRecDepth 4000

-- the lines of lines
theorem bs_nl : bs nlB = [10] := by decide +kernel
theorem bs_app (a b : ByteArray) : bs (a ++ b) = bs a ++ bs b := bs_two a b
theorem in_no10 {l : ByteArray} (h : no10 l) : ∀ x ∈ bs l, x ≠ 10 := by
  intro x hx
  obtain ⟨k, hk, rfl⟩ := List.getElem_of_mem hx
  rw [bs_length] at hk
  rw [bs_get _ k hk]
  exact h k hk
theorem parts_flN : ∀ ls : List ByteArray, (∀ l ∈ ls, no10 l) → parts 10 (bs (flN ls)) = ls.map bs ++ [[]]
  | [], _ => rfl
  | l :: ls, h => by
    have e : bs (flN (l :: ls)) = bs l ++ 10 :: bs (flN ls) := by
      rw [flN, bs_app, bs_app, bs_nl]; simp
    rw [e, parts_at _ _ _ (in_no10 (h l (by simp))), parts_flN ls (fun x hx => h x (by simp [hx]))]
    rfl
theorem lines_flN (ls : List ByteArray) (h : ∀ l ∈ ls, no10 l) : linesP (bs (flN ls)) = some (ls.map bs) := by
  rw [y1.lines_parts _ (ls.map bs) [] (parts_flN ls h), if_pos rfl]
theorem map_str_bs (ls : List ByteArray) : (ls.map bs).map str = ls := by
  rw [List.map_map]
  conv => rhs; rw [← List.map_id ls]
  apply List.map_congr_left
  intro x _
  exact str_bs x
-- a text that does not end is no lines
theorem lines_no (s : ByteArray) (h0 : s.size ≠ 0) (h : bt s (s.size - 1) ≠ 10) : linesP (bs s) = none := by
  unfold linesP
  rw [if_neg (fun e => h0 (by rw [← bs_length, e]; rfl)), if_neg]
  intro e
  have hl : (bs s).length = s.size := bs_length s
  have h1 : (bs s).drop (s.size - 1) = bt s (s.size - 1) :: (bs s).drop (s.size - 1 + 1) := by
    rw [List.drop_eq_getElem_cons (by rw [hl]; omega), bs_get s (s.size - 1) (by omega)]
  rw [hl, h1] at e
  injection e with e1 _
  exact h e1
-- what the document's Read answers
noncomputable def rdD (note : ByteArray) : Option (ByteArray × List Sg) := match prt note with
  | none => none
  | some k => match linesP (bs (note.extract (k + 1) note.size)) with
    | none => none
    | some ls => if goesB (note.extract 0 k) = true ∧ ls.length ≠ 0 ∧ ls.length ≤ 16 then (match fwd (ls.map str) [] with
      | none => none
      | some gs => some (note.extract 0 k, gs)) else none
theorem prtF_in (s : ByteArray) : ∀ n k, prtF s n = some k → 1 ≤ k ∧ k ≤ n ∧ bt s k = 10
  | 0, k, h => by cases h
  | n + 1, k, h => by
    rw [prtF] at h
    by_cases e : bt s n = 10 ∧ bt s (n + 1) = 10
    · rw [if_pos e] at h
      obtain rfl := Option.some.inj h
      exact ⟨by omega, Nat.le_refl _, e.2⟩
    · rw [if_neg e] at h
      obtain ⟨h1, h2, h3⟩ := prtF_in s n k h
      exact ⟨h1, by omega, h3⟩
theorem prt_in {s : ByteArray} {k : Nat} (h : prt s = some k) : 1 ≤ k ∧ k + 1 ≤ s.size ∧ bt s k = 10 := by
  obtain ⟨h1, h2, h3⟩ := prtF_in s _ k h
  exact ⟨h1, by omega, h3⟩
theorem bt_last (s : ByteArray) (k : Nat) (h : k < s.size) : bt (s.extract k s.size) ((s.extract k s.size).size - 1) = bt s (s.size - 1) := by
  have hz : (s.extract k s.size).size = s.size - k := by rw [ByteArray.size_extract]; omega
  rw [hz, bt_extract s k s.size (s.size - k - 1) (by omega) (Nat.le_refl _)]
  congr 1
  omega
theorem rdD_end (note : ByteArray) (h : ends note = false) : rdD note = none := by
  unfold rdD
  cases hp : prt note with
  | none => rfl
  | some k =>
    simp only
    obtain ⟨h1, h2, h3⟩ := prt_in hp
    have hb : bt note (note.size - 1) ≠ 10 := by
      intro e
      have : ends note = true := (ends_iff note).2 ⟨note.size - 1, by omega, e⟩
      rw [h] at this
      cases this
    have hk : k + 1 < note.size := by
      rcases Nat.eq_or_lt_of_le h2 with e | e
      · exact absurd (by rw [show note.size - 1 = k by omega]; exact h3) hb
      · exact e
    rw [lines_no _ (by rw [ByteArray.size_extract]; omega) (by rw [bt_last note (k + 1) hk]; exact hb)]
-- both Reads are one
theorem rd_one (note : ByteArray) (RL : List ByteArray) (hG : Gives note RL) : rdD note = readB note RL := by
  rcases hG with ⟨hn, h10⟩ | ⟨he, rfl⟩
  · rcases rl_split RL with hno | ⟨pre, post, rfl, hp⟩
    · rw [readB_no note RL hno]
      unfold rdD
      rw [hn, prt_no RL.reverse (fun l hl => ⟨h10 l (List.mem_reverse.1 hl), hno l (List.mem_reverse.1 hl)⟩)]
    · obtain ⟨e1, e2⟩ := readB_split pre post hp note hn
      rw [e2]
      have hpre : ∀ l ∈ pre.reverse, no10 l ∧ l ≠ ByteArray.empty := fun l hl => ⟨h10 l (by simp [List.mem_reverse.1 hl]), hp l (List.mem_reverse.1 hl)⟩
      rcases flN_ends post.reverse with h0 | hE
      · have ez : flN post.reverse = ByteArray.empty := ba_empty h0
        rw [ez, ByteArray.empty_append] at e1
        have hg : goesB (flN post.reverse) = false := by
          rw [ez]
          decide +kernel
        unfold rdD
        rw [e1, prt_no1 _ hpre]
        simp only
        rw [hg]
        split
        · split
          · rfl
          · simp
        · rfl
      · have hpt := prt_at (flN post.reverse) pre.reverse hE hpre
        rw [← e1] at hpt
        have x1 : note.extract 0 (flN post.reverse).size = flN post.reverse := by
          rw [e1, ByteArray.append_assoc, ByteArray.extract_append_eq_left rfl]
        have x2 : note.extract ((flN post.reverse).size + 1) note.size = flN pre.reverse := by
          have hz : (flN post.reverse).size + 1 = (flN post.reverse ++ nlB).size := by rw [ByteArray.size_append, nl_size]
          rw [hz, e1]
          exact ByteArray.extract_append_eq_right rfl (by rw [ByteArray.size_append])
        unfold rdD
        rw [hpt]
        simp only
        rw [x1, x2, lines_flN _ (fun l hl => (hpre l hl).1)]
        simp only [List.length_map, List.length_reverse]
        rw [map_str_bs]
        cases hf : fwd pre.reverse [] with
        | none => simp
        | some gs =>
          obtain ⟨gs', h1, h2, _⟩ := fwd_of _ [] gs hf List.Pairwise.nil
          rw [List.nil_append] at h1
          subst h1
          have hl : gs.length = pre.length := by have := congrArg List.length h2; simpa using this.symm
          simp only [hl]
          by_cases c1 : pre.length ≤ 16
          · rw [if_pos c1]
            by_cases c2 : pre.length ≠ 0 ∧ goesB (flN post.reverse) = true
            · rw [if_pos c2, if_pos ⟨c2.2, c2.1, c1⟩]
            · rw [if_neg c2, if_neg (fun h => c2 ⟨h.2.1, h.1⟩)]
          · rw [if_neg c1, if_neg (fun h => c1 h.2.2)]
  · rw [rdD_end note he]
    rfl
end Go.Proofs.YthdkbjbhjfiaiaaGreatDoor.t3
