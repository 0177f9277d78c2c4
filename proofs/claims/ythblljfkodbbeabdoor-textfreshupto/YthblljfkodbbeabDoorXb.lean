import Derived.Test.YthblljfkodbbeabDoorXa
namespace Go.Proofs.YthblljfkodbbeabDoor.xb
open Go.RowKit Go.PlainAid
open Go.Proofs.YthblljfkodbbeabDoor.ta Go.Proofs.YthblljfkodbbeabDoor.tb Go.Proofs.YthblljfkodbbeabDoor.tc Go.Proofs.YthblljfkodbbeabDoor.td Go.Proofs.YthblljfkodbbeabDoor.te Go.Proofs.YthblljfkodbbeabDoor.tg Go.Proofs.YthblljfkodbbeabDoor.tj Go.Proofs.YthblljfkodbbeabDoor.tk Go.Proofs.YthblljfkodbbeabDoor.tm Go.Proofs.YthblljfkodbbeabDoor.tn Go.Proofs.YthblljfkodbbeabDoor.ub Go.Proofs.YthblljfkodbbeabDoor.uc Go.Proofs.YthblljfkodbbeabDoor.va Go.Proofs.YthblljfkodbbeabDoor.vb Go.Proofs.YthblljfkodbbeabDoor.vc Go.Proofs.YthblljfkodbbeabDoor.xa
set_option linter.unusedVariables false

theorem btUP (v : Int) : bt UP v.toNat = sg AUP v := by unfold sg; rw [bt_getD, bsUP]
theorem signUP (v : Int) (h0 : 0 ≤ v) (h1 : v < 16) (w : World) : Calls Tryd.prog 26 #[.string ⟨#[48, 49, 50, 51, 52, 53, 54, 55, 56, 57, 65, 66, 67, 68, 69, 70]⟩, .int .i64 v] w fun e w' => e = .returned (.string (str [sg AUP v])) ∧ w' = w := by
  have := sign UP v h0 (by show v < (16 : Nat); omega) (by decide) w
  rw [btUP] at this
  exact this
theorem lit37 : (⟨#[37]⟩ : ByteArray) = str [37] := by apply bs_inj; decide +kernel
theorem sz37 : (⟨#[37]⟩ : ByteArray).size = 1 := rfl
theorem escL_empty : str (escL []) = ⟨#[37]⟩ := by apply bs_inj; decide +kernel

set_option maxHeartbeats 1600000 in
theorem rEscape (s : ByteArray) (hs : s.size ≤ 281474976710656) (w : World) :
    Calls Tryd.prog 8 #[.string s] w fun e w' => e = .returned (.string (str (escL (bs s)))) ∧ Below w.heap.size w w' := by
  have hgb := get_bt s
  by_cases h0 : s.size = 0
  · obtain ⟨h1, h2⟩ := yes_empty s h0
    have hb0 : bs s = [] := List.length_eq_zero_iff.1 (by rw [bs_length]; exact h0)
    have HE : Hid (str (escL (bs s)) = ⟨#[37]⟩) := by show _ = _; rw [hb0]; exact escL_empty
    rw [HE.out]
    clear hb0
    go_enter Tryd.func8, Tryd.ntmps8
    go_wp2
    go_ret
    exact ⟨rfl, Below.refl _ _⟩
  · obtain ⟨h1, h2⟩ := ne_empty s h0
    have hnn : bs s ≠ [] := fun h => h0 (by rw [← bs_length, h]; rfl)
    have HE : Hid (escL (bs s) = escR (bs s)) := if_neg hnn
    rw [HE.out]
    clear hnn
    go_enter Tryd.func8, Tryd.ntmps8
    go_wp2
    go_loopw [3, 4] (fun o i wr => ∃ (k : Nat) (O : ByteArray), k ≤ s.size ∧ i = .int .i64 k ∧ o = .string O ∧ Hid (O = str (escR (btL s k))) ∧ Hid (Below w.heap.size w wr)) (fun _ i _ => (s.size - intOf i).toNat)
    case atStart => exact ⟨0, ByteArray.empty, by omega, rfl, rfl, rfl, Below.refl _ _⟩
    case round =>
      obtain ⟨k, O, hk, rfl, rfl, HO, HB⟩ := hrel
      have hO : O.size ≤ 3 * s.size := by
        rw [HO.out, str_size]
        have := (escR_length (btL s k)).2
        rw [btL_length] at this
        omega
      by_cases hlt : k < s.size
      · have hlt' : (k : Int) < s.size := by omega
        have b0 := bt_nonneg s k
        have b1 := bt_le s k
        have HS1 : Hid (s.extract k (k + 1) = str [bt s k]) := one_str s k hlt
        have z0 : (s.extract k (k + 1)).size = 1 := by rw [HS1.out, str_size]; rfl
        obtain ⟨b, HBB⟩ : ∃ b, Hid (bt s k = b) := ⟨_, rfl⟩
        have hgk : ∀ (h : k < s.size), ((s[k]'h).toNat : Int) = b := fun h => (hgb k h).trans HBB.out
        rw [HBB.out] at b0 b1
        clear hgb
        by_cases hp : pl b = true
        · obtain ⟨p1, p2, p3⟩ := pl_in b hp
          have p3' : (b == 37) = false := beq_eq_false_iff_ne.2 p3
          have HX : Hid (O ++ s.extract k (k + 1) = str (escR (btL s (k + 1)))) := by
            show _ = _
            rw [btL_succ, escR_snoc, HBB.out, escB, if_pos hp, str_two, ← HO.out, HS1.out, HBB.out]
          have hk1 : ((k : Int) + 1).toNat = k + 1 := by omega
          have hk2 : (k : Int) ≤ (k : Int) + 1 := by omega
          have hk3 : (k : Int) + 1 ≤ s.size := by omega
          clear hp p3
          go_wp2
          go_roundw
          case rel => exact ⟨k + 1, _, by omega, by go_num, rfl, HX.out, HB.out⟩
          case measure => simp [intOf]; omega
        · have z1 := str1_size (sg AUP (b / 16))
          have z2 := str1_size (sg AUP (b % 16))
          have z3 := sz37
          have x0 : 0 ≤ b / 16 := by omega
          have x1 : b / 16 < 16 := by omega
          have y0 : 0 ≤ b % 16 := by omega
          have y1 : b % 16 < 16 := by omega
          have HX : Hid (O ++ (⟨#[37]⟩ : ByteArray) ++ str [sg AUP (b / 16)] ++ str [sg AUP (b % 16)] = str (escR (btL s (k + 1)))) := by
            show _ = _
            rw [btL_succ, escR_snoc, HBB.out, escB, if_neg hp, str_two, ← HO.out, lit37, show [37, sg AUP (b / 16), sg AUP (b % 16)] = [37] ++ [sg AUP (b / 16)] ++ [sg AUP (b % 16)] from rfl, str_two, str_two, ByteArray.append_assoc, ByteArray.append_assoc, ByteArray.append_assoc]
          have hcase : b < 33 ∨ b > 126 ∨ b = 37 := by
            have : pl b = false := by simpa using hp
            unfold pl at this
            simp at this
            omega
          clear hp
          rcases hcase with hc | hc | hc
          · have q1 : ¬ b ≥ 33 := by omega
            go_wp2_with fail
            go_quiet ((go_at_call 26; exact Calls.quiet_of_same (signUP _ (by assumption) (by assumption) _)))
            generalize hW : wr.drewN nq = wr2
            have HB2 : Hid (Below w.heap.size w wr2) := by subst hW; exact below_dN HB.out nq
            clear hW
            go_wp2
            go_roundw
            case rel => exact ⟨k + 1, _, by omega, by go_num, rfl, HX.out, HB2.out⟩
            case measure => simp [intOf]; omega
          · have q1 : b ≥ 33 := by omega
            have q2 : ¬ b ≤ 126 := by omega
            go_wp2_with fail
            go_quiet ((go_at_call 26; exact Calls.quiet_of_same (signUP _ (by assumption) (by assumption) _)))
            generalize hW : wr.drewN nq = wr2
            have HB2 : Hid (Below w.heap.size w wr2) := by subst hW; exact below_dN HB.out nq
            clear hW
            go_wp2
            go_roundw
            case rel => exact ⟨k + 1, _, by omega, by go_num, rfl, HX.out, HB2.out⟩
            case measure => simp [intOf]; omega
          · have q1 : b ≥ 33 := by omega
            have q2 : b ≤ 126 := by omega
            have q3 : (b == 37) = true := by rw [hc]; rfl
            clear hc
            go_wp2_with fail
            go_quiet ((go_at_call 26; exact Calls.quiet_of_same (signUP _ (by assumption) (by assumption) _)))
            generalize hW : wr.drewN nq = wr2
            have HB2 : Hid (Below w.heap.size w wr2) := by subst hW; exact below_dN HB.out nq
            clear hW
            go_wp2
            go_roundw
            case rel => exact ⟨k + 1, _, by omega, by go_num, rfl, HX.out, HB2.out⟩
            case measure => simp [intOf]; omega
      · have hlt' : ¬ (k : Int) < s.size := by omega
        obtain rfl : k = s.size := by omega
        go_wp2
        go_ret
        exact ⟨by rw [HO.out]; rfl, HB.out⟩

-- what the document reads: by guessing
def gu : List Int → List Int
  | [] => []
  | [a] => [a]
  | [a, b] => [a, b]
  | a :: b :: c :: r => if a = 37 then (16 * rv AUP b + rv AUP c) :: gu r else a :: gu (b :: c :: r)
theorem gu_other (a : Int) (r : List Int) (h : a ≠ 37 ∨ r.length < 2) : gu (a :: r) = a :: gu r := by
  match r with
  | [] => simp [gu]
  | [b] => simp [gu]
  | b :: c :: r =>
    have : a ≠ 37 := by
      rcases h with h | h
      · exact h
      · simp at h; omega
    rw [gu, if_neg this]
theorem gu_esc (x : List Int) (h : In 256 x) : gu (escR x) = x := by
  induction x with
  | nil => simp [escR, gu]
  | cons b l ih =>
    have hb := h.head
    rw [escR_cons, escB]
    by_cases hp : pl b = true
    · rw [if_pos hp]
      have := (pl_in b hp).2.2
      rw [List.singleton_append, gu_other _ _ (.inl this), ih h.tail]
    · rw [if_neg hp]
      show gu (37 :: sg AUP (b / 16) :: sg AUP (b % 16) :: escR l) = _
      rw [gu, if_pos rfl, ih h.tail, aup'.rv_sg _ (by omega) (by omega), aup'.rv_sg _ (by omega) (by omega)]
      congr 1
      omega
theorem rvUP (c : Int) : 0 ≤ rv AUP c ∧ rv AUP c < 16 := rv_in AUP c 16 (by decide +kernel) (by decide)
theorem gu_in (n : Nat) : ∀ l : List Int, l.length ≤ n → In 256 l → In 256 (gu l) := by
  induction n using Nat.strongRecOn with
  | ind n ih =>
    intro l hn hi
    match l, hn, hi with
    | [], _, hi => simpa [gu] using hi
    | [a], _, hi => simpa [gu] using hi
    | [a, b], _, hi => simpa [gu] using hi
    | a :: b :: c :: r, hn, hi =>
      have hn' : r.length + 3 ≤ n := by simpa using hn
      rw [gu]
      split
      · have h1 := rvUP b; have h2 := rvUP c
        have h3 := ih (n - 3) (by omega) r (by omega) hi.tail.tail.tail
        intro x hx
        rcases List.mem_cons.1 hx with rfl | hx
        · omega
        · exact h3 x hx
      · have h3 := ih (n - 1) (by omega) (b :: c :: r) (by simp; omega) hi.tail
        intro x hx
        rcases List.mem_cons.1 hx with rfl | hx
        · exact hi.head
        · exact h3 x hx
theorem gu_length (n : Nat) : ∀ l : List Int, l.length ≤ n → (gu l).length ≤ l.length := by
  induction n using Nat.strongRecOn with
  | ind n ih =>
    intro l hn
    match l, hn with
    | [], _ => simp [gu]
    | [a], _ => simp [gu]
    | [a, b], _ => simp [gu]
    | a :: b :: c :: r, hn =>
      have hn' : r.length + 3 ≤ n := by simpa using hn
      rw [gu]
      split
      · have h3 := ih (n - 3) (by omega) r (by omega)
        simp; omega
      · have h3 := ih (n - 1) (by omega) (b :: c :: r) (by simp; omega)
        simp at h3 ⊢; omega
open Classical in
theorem refUn (s : ByteArray) (h37 : bs s ≠ [37]) : (if str (escL (gu (bs s))) = s then readV (gu (bs s)) else failV 44) = unV s := by
  have hin := gu_in _ _ (Nat.le_refl _) (bs_in s)
  unfold unV
  cases hu : unP (bs s) with
  | some x =>
    obtain ⟨h1, h2, _⟩ := unP_back s x hu
    have hx : x ≠ [] := by
      intro e
      subst e
      exact h37 h1.symm
    have hr : escR x = bs s := by rw [← h1]; unfold escL; rw [if_neg hx]
    have hg : gu (bs s) = x := by rw [← hr, gu_esc x h2]
    rw [hg, if_pos (by rw [h1, str_bs])]
  | none =>
    rw [if_neg]
    intro e
    have hl : bs s = escL (gu (bs s)) := by
      have := congrArg bs e
      rw [bs_str _ (escL_in _ hin)] at this
      exact this.symm
    rw [hl, unP_there _ hin] at hu
    cases hu
theorem valueUP (c : Int) (c0 : 0 ≤ c) (c1 : c ≤ 255) (w : World) : Calls Tryd.prog 29 #[.string ⟨#[48, 49, 50, 51, 52, 53, 54, 55, 56, 57, 65, 66, 67, 68, 69, 70]⟩, .int .u8 c] w fun e w' => e = .returned (.int .i64 (rv AUP c)) ∧ w' = w := by
  have := value UP c c0 c1 (by decide) w
  rw [bsUP] at this
  exact this
end Go.Proofs.YthblljfkodbbeabDoor.xb
