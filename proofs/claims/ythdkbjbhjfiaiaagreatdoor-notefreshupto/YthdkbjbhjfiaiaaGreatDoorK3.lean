import Derived.Test.YthdkbjbhjfiaiaaGreatDoorTk
import Derived.Laws.Strings2
namespace Go.Proofs.YthdkbjbhjfiaiaaGreatDoor.tm
open Go.RowKit Go.PlainAid
open Go.Proofs.YthdkbjbhjfiaiaaGreatDoor.ta Go.Proofs.YthdkbjbhjfiaiaaGreatDoor.tb Go.Proofs.YthdkbjbhjfiaiaaGreatDoor.tc Go.Proofs.YthdkbjbhjfiaiaaGreatDoor.td Go.Proofs.YthdkbjbhjfiaiaaGreatDoor.te Go.Proofs.YthdkbjbhjfiaiaaGreatDoor.tf Go.Proofs.YthdkbjbhjfiaiaaGreatDoor.tg Go.Proofs.YthdkbjbhjfiaiaaGreatDoor.th Go.Proofs.YthdkbjbhjfiaiaaGreatDoor.ti Go.Proofs.YthdkbjbhjfiaiaaGreatDoor.tj Go.Proofs.YthdkbjbhjfiaiaaGreatDoor.tk
set_option linter.unusedVariables false
set_option maxRecDepth 4000

-- the document's value of a sign: the first place, or 0
def rvN (al : List Int) (c : Int) : Nat := if al.idxOf c < al.length then al.idxOf c else 0
def rv (al : List Int) (c : Int) : Int := rvN al c
theorem rv_in (al : List Int) (c : Int) (m : Nat) (h : al.length = m) (hm : 0 < m) : 0 ≤ rv al c ∧ rv al c < m := by
  unfold rv rvN
  split <;> omega
structure Alpha2 (al : List Int) (m : Nat) : Prop where
  a : Alpha al m
  v : ∀ i : Nat, i < m → rv al (al.getD i 0) = i
theorem a64' : Alpha2 A64 64 := ⟨a64, by decide +kernel⟩
theorem a16' : Alpha2 A16 16 := ⟨a16, by decide +kernel⟩
theorem aup' : Alpha2 AUP 16 := ⟨aup, by decide +kernel⟩
theorem Alpha2.rv_sg {al : List Int} {m : Nat} (h : Alpha2 al m) (v : Int) (h0 : 0 ≤ v) (h1 : v < m) : rv al (sg al v) = v := by
  unfold sg
  rw [h.v v.toNat (by omega)]
  omega
theorem Alpha2.rv_vl {al : List Int} {m : Nat} (h : Alpha2 al m) (b : Int) (hb : 0 ≤ b ∧ b < 256) (hv : vl al b ≠ 0) : rv al b = vl al b - 1 := by
  obtain ⟨h1, h2, h3⟩ := h.a.sg_vl b hb hv
  have := h.rv_sg (vl al b - 1) h2 h3
  rwa [h1] at this
theorem Alpha2.map_rv {al : List Int} {m : Nat} (h : Alpha2 al m) (l : List Int) (hl : In 256 l) (ho : Ok al l) : l.map (rv al) = vs al l := by
  unfold vs
  apply List.map_congr_left
  intro x hx
  exact h.rv_vl x (hl x hx) (ho x hx)
theorem map_rv_in (al l : List Int) (m : Nat) (h : al.length = m) (hm : 0 < m) : In m (l.map (rv al)) := by
  intro x hx
  obtain ⟨y, _, rfl⟩ := List.mem_map.1 hx
  exact rv_in al y m h hm

-- hexadecimal: what the document reads
def ghL (l : List Int) : List Int := pairs (l.map (rv A16))
theorem pairs_in' (n : Nat) : ∀ l : List Int, l.length ≤ n → In 16 l → In 256 (pairs l) := by
  induction n using Nat.strongRecOn with
  | ind n ih =>
    intro l hn hi
    match l, hn, hi with
    | [], _, _ => intro x hx; simp [pairs] at hx
    | [a], _, _ => intro x hx; simp [pairs] at hx
    | a :: b :: r, hn, hi =>
      have h1 := hi.head; have h2 := hi.tail.head
      have hn' : r.length + 2 ≤ n := by simpa using hn
      have h3 := ih (n - 2) (by omega) r (by omega) hi.tail.tail
      intro x hx
      simp [pairs] at hx
      rcases hx with rfl | hx
      · omega
      · exact h3 x hx
theorem ghL_in (l : List Int) : In 256 (ghL l) := pairs_in' _ _ (Nat.le_refl _) (map_rv_in A16 l 16 (by decide +kernel) (by decide))
open Classical in
theorem refHex (s : ByteArray) : (if str (hexL (ghL (bs s))) = s then readV (ghL (bs s)) else failV 41) = unhexV s := by
  unfold unhexV
  by_cases h : s.size % 2 = 0 ∧ Ok A16 (bs s)
  · have e : ghL (bs s) = unhexL (bs s) := by unfold ghL unhexL; rw [a16'.map_rv _ (bs_in s) h.2]
    have hb := (hex_back (bs s) (bs_in s) (by rw [bs_length]; exact h.1) h.2).1
    rw [if_pos h, e, if_pos (by rw [hb, str_bs])]
  · rw [if_neg h, if_neg]
    intro hs
    apply h
    have hl : bs s = hexL (ghL (bs s)) := by
      have := congrArg bs hs
      rw [bs_str _ (hexL_in _ (ghL_in _))] at this
      exact this.symm
    have hz := congrArg List.length hl
    rw [hexL_length, bs_length] at hz
    refine ⟨by omega, ?_⟩
    rw [hl]
    exact (hex_there _ (ghL_in _)).1

-- base64: what the document reads
def gbL (l : List Int) : List Int := eights (l.map (rv A64))
theorem gbL_in (l : List Int) : In 256 (gbL l) := eights_in _ _ (Nat.le_refl _) (map_rv_in A64 l 64 (by decide +kernel) (by decide))
def kL (l : List Int) : Nat := l.length - (trim2 l).length
def gcL (l : List Int) : List Int := (gbL l).take ((gbL l).length - kL l)
theorem rv61 : rv A64 61 = 0 := by decide +kernel
theorem vl65 : vl A64 65 = 1 := by decide +kernel
theorem gb_full (l : List Int) (hl : In 256 l) (ho : Ok A64 (trim2 l ++ List.replicate (kL l) 65)) : gbL l = fullL l := by
  obtain ⟨k, hk, e, ek⟩ := trim2_back l
  unfold gbL fullL
  congr 1
  have hk' : kL l = k := ek.symm
  rw [← ek]
  rw [hk'] at ho
  have hin : In 256 (trim2 l) := by rw [e] at hl; exact hl.left
  have hot : Ok A64 (trim2 l) := fun x hx => ho x (List.mem_append.2 (.inl hx))
  conv => lhs; rw [e]
  rw [List.map_append, List.map_replicate, rv61, a64'.map_rv _ hin hot]
  unfold vs
  rw [List.map_append, List.map_replicate, vl65]
  rfl
open Classical in
theorem ref64 (s : ByteArray) : (if kL (bs s) > (gbL (bs s)).length then failV 40 else if str (b64L (gcL (bs s))) = s then readV (gcL (bs s)) else failV 40) = un64V s := by
  unfold un64V
  by_cases h : Acc64 (bs s)
  · have e : gbL (bs s) = fullL (bs s) := gb_full _ (bs_in s) h.ok
    have e2 : gcL (bs s) = cutL (bs s) := by unfold gcL cutL; rw [e]; rfl
    have hb := (b64_back (bs s) (bs_in s) h).1
    have hk : ¬ kL (bs s) > (gbL (bs s)).length := by
      have := congrArg List.length h.zero
      rw [List.length_drop, List.length_replicate] at this
      rw [e]
      unfold kL
      have h4 := h.four
      obtain ⟨k, hk, ee, ek⟩ := trim2_back (bs s)
      omega
    rw [if_pos h, if_neg hk, e2, if_pos (by rw [hb, str_bs])]
  · rw [if_neg h]
    split
    · rfl
    · rw [if_neg]
      intro hs
      apply h
      have hi : In 256 (gcL (bs s)) := fun x hx => gbL_in _ x (List.mem_of_mem_take hx)
      have hl : bs s = b64L (gcL (bs s)) := by
        have := congrArg bs hs
        rw [bs_str _ (b64L_in _ hi)] at this
        exact this.symm
      rw [hl]
      exact (b64_there _ hi).1

-- the document's groups
theorem chunk1 (a : Int) : b64L [a] = [sg A64 (a / 4), sg A64 (a % 4 * 16), 61, 61] := by simp [b64L, spare, sixes, List.replicate]
theorem chunk2 (a b : Int) : b64L [a, b] = [sg A64 (a / 4), sg A64 (a % 4 * 16 + b / 16), sg A64 (b % 16 * 4), 61] := by simp [b64L, spare, sixes]
theorem chunk3 (a b c : Int) : b64L [a, b, c] = [sg A64 (a / 4), sg A64 (a % 4 * 16 + b / 16), sg A64 (b % 16 * 4 + c / 64), sg A64 (c % 64)] := by simp [b64L, spare, sixes]
theorem b64_step (l : List Int) (j : Nat) (h3 : j % 3 = 0) (hj : j ≤ l.length) : b64L (l.take (j + 3)) = b64L (l.take j) ++ b64L ((l.drop j).take 3) := by
  rw [List.take_add, b64L_app _ _ (by rw [List.length_take]; omega)]
theorem drop_cons (s : ByteArray) (j : Nat) (h : j < s.size) : (bs s).drop j = bt s j :: (bs s).drop (j + 1) := by
  rw [List.drop_eq_getElem_cons (by rw [bs_length]; exact h), bs_get s j h]
theorem drop_nil (s : ByteArray) (j : Nat) (h : s.size ≤ j) : (bs s).drop j = [] := List.drop_of_length_le (by rw [bs_length]; exact h)
end Go.Proofs.YthdkbjbhjfiaiaaGreatDoor.tm

namespace Go.Proofs.YthdkbjbhjfiaiaaGreatDoor.tn
open Go.RowKit Go.PlainAid
open Go.Proofs.YthdkbjbhjfiaiaaGreatDoor.ta Go.Proofs.YthdkbjbhjfiaiaaGreatDoor.tb Go.Proofs.YthdkbjbhjfiaiaaGreatDoor.tc Go.Proofs.YthdkbjbhjfiaiaaGreatDoor.td Go.Proofs.YthdkbjbhjfiaiaaGreatDoor.te Go.Proofs.YthdkbjbhjfiaiaaGreatDoor.tf Go.Proofs.YthdkbjbhjfiaiaaGreatDoor.tg Go.Proofs.YthdkbjbhjfiaiaaGreatDoor.th Go.Proofs.YthdkbjbhjfiaiaaGreatDoor.ti Go.Proofs.YthdkbjbhjfiaiaaGreatDoor.tj Go.Proofs.YthdkbjbhjfiaiaaGreatDoor.tk Go.Proofs.YthdkbjbhjfiaiaaGreatDoor.tm
set_option linter.unusedVariables false
set_option maxRecDepth 4000

theorem one_str (q : ByteArray) (k : Nat) (h : k < q.size) : q.extract k (k + 1) = str [bt q k] := by
  apply bs_inj
  have h0 := bt_nonneg q k; have h1 := bt_le q k
  rw [bs_str _ (fun x hx => by rw [List.mem_singleton.1 hx]; omega), bs_extract q k (k + 1) (by omega) (by omega)]
  apply List.ext_getElem
  · rw [List.length_drop, List.length_take, bs_length]; simp; omega
  · intro i h2 h3
    have : i = 0 := by simpa using h3
    subst this
    rw [List.getElem_drop, List.getElem_take, bs_get q _ (by omega)]
    simp

set_option maxHeartbeats 400000 in
theorem sign (al : ByteArray) (v : Int) (h0 : 0 ≤ v) (h1 : v < al.size) (hz : al.size ≤ 64) (w : World) :
    Calls Tryz.prog 66 #[.string al, .int .i64 v] w fun e w' => e = .returned (.string (str [bt al v.toNat])) ∧ w' = w := by
  obtain ⟨n, rfl⟩ := Int.eq_ofNat_of_zero_le h0
  have hn : n < al.size := by omega
  have HE : Hid (al.extract n (n + 1) = str [bt al n]) := one_str al n hn
  have hk : ((n : Int) + 1).toNat = n + 1 := by omega
  have hk1 : (n : Int) + 1 ≤ al.size := by omega
  have hk2 : (n : Int) ≤ (n : Int) + 1 := by omega
  have hk3 : (n : Int) < al.size := by omega
  go_enter Tryz.func66, Tryz.ntmps66
  go_wp2

  go_ret
  exact ⟨by rw [show ((n : Int).toNat) = n from rfl, ← HE.out]; rfl, rfl⟩

theorem idx_none (al : List Int) (c : Int) (k : Nat) (hk : k ≤ al.length) (h : ∀ j, j < k → al.getD j 0 ≠ c) : k ≤ al.idxOf c := by
  rcases Nat.lt_or_ge (al.idxOf c) k with hlt | hge
  · exfalso
    apply h _ hlt
    have hl : al.idxOf c < al.length := by omega
    rw [List.getD_eq_getElem?_getD, List.getElem?_eq_getElem hl, Option.getD_some]
    exact List.getElem_idxOf hl
  · exact hge
theorem rv_at (al : List Int) (c : Int) (k : Nat) (hk : k < al.length) (h : ∀ j, j < k → al.getD j 0 ≠ c) (he : al.getD k 0 = c) : rv al c = k := by
  have h1 := idx_none al c k (by omega) h
  have hm : c ∈ al := by rw [← he, List.getD_eq_getElem?_getD, List.getElem?_eq_getElem hk, Option.getD_some]; exact List.getElem_mem _
  have h2 : al.idxOf c < al.length := List.idxOf_lt_length_of_mem hm
  have h3 : al.idxOf c ≤ k := by
    rcases Nat.lt_or_ge k (al.idxOf c) with hlt | hge
    · exfalso
      have := List.not_of_lt_findIdx (xs := al) (p := fun x => x == c) hlt
      rw [List.getD_eq_getElem?_getD, List.getElem?_eq_getElem hk, Option.getD_some] at he
      simp [he] at this
    · exact hge
  unfold rv rvN
  rw [if_pos h2]
  omega
theorem rv_no (al : List Int) (c : Int) (h : ∀ j, j < al.length → al.getD j 0 ≠ c) : rv al c = 0 := by
  have h1 := idx_none al c al.length (Nat.le_refl _) h
  unfold rv rvN
  rw [if_neg (by omega)]
  rfl

set_option maxHeartbeats 800000 in
theorem value (al : ByteArray) (c : Int) (c0 : 0 ≤ c) (c1 : c ≤ 255) (hz : al.size ≤ 64) (w : World) :
    Calls Tryz.prog 35 #[.string al, .int .u8 c] w fun e w' => e = .returned (.int .i64 (rv (bs al) c)) ∧ w' = w := by
  have hgb := get_bt al
  obtain ⟨R, HR⟩ : ∃ R, Hid (rv (bs al) c = R) := ⟨_, rfl⟩
  rw [HR.out]
  go_enter Tryz.func35, Tryz.ntmps35
  go_wp2
  go_loop [5] (fun i => ∃ k : Nat, k ≤ al.size ∧ i = .int .i64 k ∧ Hid (∀ j, j < k → (bs al).getD j 0 ≠ c)) (fun i => (al.size - intOf i).toNat)
  case atStart => exact ⟨0, by omega, rfl, fun j hj => by omega⟩
  case round =>
    obtain ⟨k, hk, rfl, HN⟩ := hrel
    by_cases hlt : k < al.size
    · have hlt' : (k : Int) < al.size := by omega
      have b0 := bt_nonneg al k
      have b1 := bt_le al k
      by_cases he : bt al k = c
      · have HX : Hid (rv (bs al) c = (k : Int)) := rv_at (bs al) c k (by rw [bs_length]; exact hlt) HN.out (by rw [← bt_getD]; exact he)
        have he' : (bt al k == c) = true := by rw [he]; simp
        go_wp2
        go_ret
        exact ⟨by rw [← HR.out, HX.out]; rfl, rfl⟩
      · have he' : (bt al k == c) = false := beq_eq_false_iff_ne.2 he
        have HE : Hid (bt al k ≠ c) := he
        clear he
        go_wp2
        go_round
        case rel =>
          refine ⟨k + 1, by omega, by go_num, fun j hj => ?_⟩
          rcases Nat.lt_or_ge j k with h | h
          · exact HN.out j h
          · obtain rfl : j = k := by omega
            rw [← bt_getD]; exact HE.out
        case measure => simp [intOf]; omega
    · have hlt' : ¬ (k : Int) < al.size := by omega
      obtain rfl : k = al.size := by omega
      have HX : Hid (rv (bs al) c = 0) := rv_no (bs al) c (fun j hj => HN.out j (by rwa [bs_length] at hj))
      go_wp2
      go_ret
      exact ⟨by rw [← HR.out, HX.out]; rfl, rfl⟩

set_option maxHeartbeats 400000 in
theorem byteAt (s : ByteArray) (j : Nat) (hj : j ≤ 4611686018427387904) (hs : s.size ≤ 4611686018427387904) (w : World) :
    Calls Tryz.prog 67 #[.string s, .int .i64 j] w fun e w' => e = .returned (.int .i64 (bt s j)) ∧ w' = w := by
  have hgb := get_bt s
  by_cases h : j < s.size
  · have h' : (j : Int) < s.size := by omega
    have b0 := bt_nonneg s j
    have b1 := bt_le s j
    go_enter Tryz.func67, Tryz.ntmps67
    go_wp2
    go_ret
    exact ⟨rfl, rfl⟩
  · have h' : ¬ (j : Int) < s.size := by omega
    have HZ : Hid (bt s j = 0) := by show _ = _; unfold bt; rw [dif_neg h]
    rw [HZ.out]
    go_enter Tryz.func67, Tryz.ntmps67
    go_wp2
    go_ret
    exact ⟨rfl, rfl⟩

-- two signs of a byte
theorem hex_snoc (l : List Int) (b : Int) : hexL (l ++ [b]) = hexL l ++ [sg A16 (b / 16), sg A16 (b % 16)] := by rw [hexL_app]; rfl
theorem bt16 (v : Int) : bt L16 v.toNat = sg A16 v := by unfold sg; rw [bt_getD, bs16]
theorem bt64 (v : Int) : bt L64 v.toNat = sg A64 v := by unfold sg; rw [bt_getD, bs64]
theorem sign16 (v : Int) (h0 : 0 ≤ v) (h1 : v < 16) (w : World) : Calls Tryz.prog 66 #[.string ⟨#[48, 49, 50, 51, 52, 53, 54, 55, 56, 57, 97, 98, 99, 100, 101, 102]⟩, .int .i64 v] w fun e w' => e = .returned (.string (str [sg A16 v])) ∧ w' = w := by
  have := sign L16 v h0 (by show v < (16 : Nat); omega) (by decide) w
  rw [bt16] at this
  exact this
theorem str1_size (x : Int) : (str [x]).size = 1 := by rw [str_size]; rfl

end Go.Proofs.YthdkbjbhjfiaiaaGreatDoor.tn

namespace Go.Proofs.YthdkbjbhjfiaiaaGreatDoor.to
open Go.RowKit Go.PlainAid
open Go.Proofs.YthdkbjbhjfiaiaaGreatDoor.ta Go.Proofs.YthdkbjbhjfiaiaaGreatDoor.tb Go.Proofs.YthdkbjbhjfiaiaaGreatDoor.tc Go.Proofs.YthdkbjbhjfiaiaaGreatDoor.td Go.Proofs.YthdkbjbhjfiaiaaGreatDoor.te Go.Proofs.YthdkbjbhjfiaiaaGreatDoor.tf Go.Proofs.YthdkbjbhjfiaiaaGreatDoor.tg Go.Proofs.YthdkbjbhjfiaiaaGreatDoor.th Go.Proofs.YthdkbjbhjfiaiaaGreatDoor.ti Go.Proofs.YthdkbjbhjfiaiaaGreatDoor.tj Go.Proofs.YthdkbjbhjfiaiaaGreatDoor.tk Go.Proofs.YthdkbjbhjfiaiaaGreatDoor.tm Go.Proofs.YthdkbjbhjfiaiaaGreatDoor.tn
set_option linter.unusedVariables false
set_option maxRecDepth 4000

theorem over {w w1 w2 : World} (h : Below w.heap.size w w1) (b : Below w1.heap.size w1 w2) : Below w.heap.size w w2 := h.trans (b.mono h.size)
theorem value16 (c : Int) (c0 : 0 ≤ c) (c1 : c ≤ 255) (w : World) : Calls Tryz.prog 35 #[.string ⟨#[48, 49, 50, 51, 52, 53, 54, 55, 56, 57, 97, 98, 99, 100, 101, 102]⟩, .int .u8 c] w fun e w' => e = .returned (.int .i64 (rv A16 c)) ∧ w' = w := by
  have := value L16 c c0 c1 (by decide) w
  rw [bs16] at this
  exact this
theorem rv16 (c : Int) : 0 ≤ rv A16 c ∧ rv A16 c < 16 := rv_in A16 c 16 (by decide +kernel) (by decide)
theorem pairs_two (n : Nat) : ∀ l : List Int, l.length = 2 * n → ∀ a b, pairs (l ++ [a, b]) = pairs l ++ [a * 16 + b] := by
  induction n with
  | zero => intro l h a b; have : l = [] := List.length_eq_zero_iff.1 (by omega)
            subst this; rfl
  | succ n ih =>
    intro l h a b
    match l, h with
    | [], h => simp at h
    | [x], h => simp at h; omega
    | x :: y :: r, h => simp [pairs, ih r (by simp at h; omega) a b]
theorem gh_two (s : ByteArray) (k : Nat) : ghL (btL s (2 * k + 2)) = ghL (btL s (2 * k)) ++ [rv A16 (bt s (2 * k)) * 16 + rv A16 (bt s (2 * k + 1))] := by
  unfold ghL
  rw [btL_succ, btL_succ, List.append_assoc, List.map_append]
  exact pairs_two k _ (by rw [List.length_map, btL_length]) _ _
theorem pairs_odd (n : Nat) : ∀ l : List Int, l.length = 2 * n → ∀ a, pairs (l ++ [a]) = pairs l := by
  induction n with
  | zero => intro l h a; have : l = [] := List.length_eq_zero_iff.1 (by omega)
            subst this; rfl
  | succ n ih =>
    intro l h a
    match l, h with
    | [], h => simp at h
    | [x], h => simp at h; omega
    | x :: y :: r, h => simp [pairs, ih r (by simp at h; omega) a]
theorem gh_end (s : ByteArray) (k : Nat) (h1 : ¬ 2 * k + 1 < s.size) (h2 : 2 * k ≤ s.size) : ghL (bs s) = ghL (btL s (2 * k)) := by
  unfold bs
  rcases (by omega : s.size = 2 * k ∨ s.size = 2 * k + 1) with h | h
  · rw [h]
  · rw [h]
    unfold ghL
    rw [btL_succ, List.map_append]
    exact pairs_odd k _ (by rw [List.length_map, btL_length]) _

end Go.Proofs.YthdkbjbhjfiaiaaGreatDoor.to

namespace Go.Proofs.YthdkbjbhjfiaiaaGreatDoor.tp
open Go.RowKit Go.PlainAid
open Go.Proofs.YthdkbjbhjfiaiaaGreatDoor.ta Go.Proofs.YthdkbjbhjfiaiaaGreatDoor.tb Go.Proofs.YthdkbjbhjfiaiaaGreatDoor.tc Go.Proofs.YthdkbjbhjfiaiaaGreatDoor.td Go.Proofs.YthdkbjbhjfiaiaaGreatDoor.te Go.Proofs.YthdkbjbhjfiaiaaGreatDoor.tf Go.Proofs.YthdkbjbhjfiaiaaGreatDoor.tg Go.Proofs.YthdkbjbhjfiaiaaGreatDoor.th Go.Proofs.YthdkbjbhjfiaiaaGreatDoor.ti Go.Proofs.YthdkbjbhjfiaiaaGreatDoor.tj Go.Proofs.YthdkbjbhjfiaiaaGreatDoor.tk Go.Proofs.YthdkbjbhjfiaiaaGreatDoor.tm Go.Proofs.YthdkbjbhjfiaiaaGreatDoor.tn Go.Proofs.YthdkbjbhjfiaiaaGreatDoor.to
set_option linter.unusedVariables false
set_option maxRecDepth 4000

theorem sign64 (v : Int) (h0 : 0 ≤ v) (h1 : v < 64) (w : World) : Calls Tryz.prog 66 #[.string L64, .int .i64 v] w fun e w' => e = .returned (.string (str [sg A64 v])) ∧ w' = w := by
  have := sign L64 v h0 (by show v < (64 : Nat); omega) (by decide) w
  rw [bt64] at this
  exact this
theorem byteZ (s : ByteArray) (i : Int) (j : Nat) (hi : i = j) (hj : j ≤ 4611686018427387904) (hs : s.size ≤ 4611686018427387904) (w : World) : Calls Tryz.prog 67 #[.string s, .int .i64 i] w fun e w' => e = .returned (.int .i64 (bt s j)) ∧ w' = w := by
  subst hi; exact byteAt s j hj hs w
theorem sg_in64 (v : Int) (h0 : 0 ≤ v) (h1 : v < 64) : 0 ≤ sg A64 v ∧ sg A64 v < 256 := a64.sg_in v h0 h1
theorem str_four (x y z u : Int) : str [x] ++ str [y] ++ str [z] ++ str [u] = str [x, y, z, u] := by rw [← str_two, ← str_two, ← str_two]; rfl
theorem four_part (x y z u : Int) (hi : In 256 [x, y, z, u]) (n : Nat) (hn : n ≤ 4) : (str [x, y, z, u]).extract 0 n = str ([x, y, z, u].take n) := by
  apply bs_inj
  rw [bs_extract _ 0 n (by omega) (by rw [str_size]; exact hn), bs_str _ hi, List.drop_zero, bs_str _ (fun y hy => hi y (List.mem_of_mem_take hy))]
theorem lit2 : (⟨#[61, 61]⟩ : ByteArray) = str [61, 61] := by apply bs_inj; decide +kernel
theorem lit1 : (⟨#[61]⟩ : ByteArray) = str [61] := by apply bs_inj; decide +kernel
theorem bt_out (s : ByteArray) (j : Nat) (h : s.size ≤ j) : bt s j = 0 := by unfold bt; rw [dif_neg (by omega)]

-- one group
theorem group (s : ByteArray) (j : Nat) (h3 : j % 3 = 0) (hj : j < s.size) (x y z u : Int) (hx : x = sg A64 (bt s j / 4)) (hy : y = sg A64 (bt s j % 4 * 16 + bt s (j + 1) / 16)) (hz : z = sg A64 (bt s (j + 1) % 16 * 4 + bt s (j + 2) / 64)) (hu : u = sg A64 (bt s (j + 2) % 64)) (hi : In 256 [x, y, z, u]) :
    (s.size - j = 1 → str (b64L ((bs s).take (j + 3))) = str (b64L ((bs s).take j)) ++ ((str [x, y, z, u]).extract 0 2 ++ ⟨#[61, 61]⟩)) ∧
    (s.size - j = 2 → str (b64L ((bs s).take (j + 3))) = str (b64L ((bs s).take j)) ++ ((str [x, y, z, u]).extract 0 3 ++ ⟨#[61]⟩)) ∧
    (3 ≤ s.size - j → str (b64L ((bs s).take (j + 3))) = str (b64L ((bs s).take j)) ++ str [x, y, z, u]) := by
  have e := b64_step (bs s) j h3 (by rw [bs_length]; omega)
  refine ⟨fun h => ?_, fun h => ?_, fun h => ?_⟩
  · have h1 := bt_out s (j + 1) (by omega)
    rw [e, drop_cons s j hj, drop_nil s (j + 1) (by omega), show [bt s j].take 3 = [bt s j] from rfl, chunk1, four_part _ _ _ _ hi 2 (by omega), lit2, ← str_two, ← str_two, hx, hy, h1]
    simp
  · have h1 := bt_out s (j + 2) (by omega)
    rw [e, drop_cons s j hj, drop_cons s (j + 1) (by omega), drop_nil s (j + 1 + 1) (by omega), show [bt s j, bt s (j + 1)].take 3 = [bt s j, bt s (j + 1)] from rfl, chunk2, four_part _ _ _ _ hi 3 (by omega), lit1, ← str_two, ← str_two, hx, hy, hz, h1]
    simp
  · rw [e, drop_cons s j hj, drop_cons s (j + 1) (by omega), drop_cons s (j + 1 + 1) (by omega), show (bt s j :: bt s (j + 1) :: bt s (j + 1 + 1) :: (bs s).drop (j + 1 + 1 + 1)).take 3 = [bt s j, bt s (j + 1), bt s (j + 2)] from rfl, chunk3, str_two, hx, hy, hz, hu]

set_option maxHeartbeats 3200000 in
theorem rB64 (s : ByteArray) (hs : s.size ≤ 281474976710656) (w : World) :
    Calls Tryz.prog 36 #[.string s] w fun e w' => e = .returned (.string (str (b64L (bs s)))) ∧ w' = w := by
  have HE : Hid (∀ j, s.size ≤ j → (bs s).take j = bs s) := fun j hj => List.take_of_length_le (by rw [bs_length]; exact hj)
  go_enter Tryz.func36, Tryz.ntmps36
  go_wp2
  go_loop [3, 4] (fun o i => ∃ (j : Nat) (O : ByteArray), j ≤ s.size + 2 ∧ i = .int .i64 j ∧ o = .string O ∧ Hid (j % 3 = 0 ∧ O = str (b64L ((bs s).take j)) ∧ O.size ≤ 4 * s.size + 12)) (fun _ i => (s.size + 3 - intOf i).toNat)
  case atStart => exact ⟨0, ByteArray.empty, by omega, rfl, rfl, by omega, (by rw [List.take_zero]; rfl), by simp⟩
  case round =>
    obtain ⟨j, O, hj, rfl, rfl, HO⟩ := hrel
    by_cases hlt : j < s.size
    · have hlt' : (j : Int) < s.size := by omega
      have hOz : O.size ≤ 4 * s.size + 12 := HO.out.2.2
      have a0 := bt_nonneg s j; have a1 := bt_le s j
      have b0 := bt_nonneg s (j + 1); have b1 := bt_le s (j + 1)
      have c0 := bt_nonneg s (j + 2); have c1 := bt_le s (j + 2)
      have BA : Hid (∀ w', Calls _ _ _ _ _) := fun w' => byteZ s (j : Int) j rfl (by omega) (by omega) w'
      have BB : Hid (∀ w', Calls _ _ _ _ _) := fun w' => byteZ s ((j : Int) + 1) (j + 1) (by omega) (by omega) (by omega) w'
      have BC : Hid (∀ w', Calls _ _ _ _ _) := fun w' => byteZ s ((j : Int) + 2) (j + 2) (by omega) (by omega) (by omega) w'
      have HG : Hid (_ ∧ _ ∧ _) := group s j HO.out.1 hlt _ _ _ _ rfl rfl rfl rfl (fun v hv => by
        simp only [List.mem_cons, List.not_mem_nil, or_false] at hv
        rcases hv with rfl | rfl | rfl | rfl
        · exact sg_in64 _ (by omega) (by omega)
        · exact sg_in64 _ (by omega) (by omega)
        · exact sg_in64 _ (by omega) (by omega)
        · exact sg_in64 _ (by omega) (by omega))
      generalize bt s j = a at *
      generalize bt s (j + 1) = b at *
      generalize bt s (j + 2) = c at *
      obtain ⟨n, HN⟩ : ∃ n, Hid (a * 65536 + b * 256 + c = n) := ⟨_, rfl⟩
      have hn := HN.out
      have n0 : 0 ≤ n := by omega
      have n1 : n < 16777216 := by omega
      have p1 : n / 262144 = a / 4 := by omega
      have p2 : n / 4096 % 64 = a % 4 * 16 + b / 16 := by omega
      have p3 : n / 64 % 64 = b % 16 * 4 + c / 64 := by omega
      have p4 : n % 64 = c % 64 := by omega
      have S1 : Hid (∀ w', Calls _ _ _ _ _) := fun w' => sign64 (a / 4) (by omega) (by omega) w'
      have S2 : Hid (∀ w', Calls _ _ _ _ _) := fun w' => sign64 (a % 4 * 16 + b / 16) (by omega) (by omega) w'
      have S3 : Hid (∀ w', Calls _ _ _ _ _) := fun w' => sign64 (b % 16 * 4 + c / 64) (by omega) (by omega) w'
      have S4 : Hid (∀ w', Calls _ _ _ _ _) := fun w' => sign64 (c % 64) (by omega) (by omega) w'
      have HF : Hid (_ = _) := str_four (sg A64 (a / 4)) (sg A64 (a % 4 * 16 + b / 16)) (sg A64 (b % 16 * 4 + c / 64)) (sg A64 (c % 64))
      have z1 := str1_size (sg A64 (a / 4)); have z2 := str1_size (sg A64 (a % 4 * 16 + b / 16)); have z3 := str1_size (sg A64 (b % 16 * 4 + c / 64)); have z4 := str1_size (sg A64 (c % 64))
      have zF : (str [sg A64 (a / 4), sg A64 (a % 4 * 16 + b / 16), sg A64 (b % 16 * 4 + c / 64), sg A64 (c % 64)]).size = 4 := by rw [str_size]; rfl
      generalize str [sg A64 (a / 4), sg A64 (a % 4 * 16 + b / 16), sg A64 (b % 16 * 4 + c / 64), sg A64 (c % 64)] = F at *
      generalize str [sg A64 (a / 4)] = X1 at *
      generalize str [sg A64 (a % 4 * 16 + b / 16)] = X2 at *
      generalize str [sg A64 (b % 16 * 4 + c / 64)] = X3 at *
      generalize str [sg A64 (c % 64)] = X4 at *
      generalize a / 4 = q1 at *
      generalize a % 4 * 16 + b / 16 = q2 at *
      generalize b % 16 * 4 + c / 64 = q3 at *
      generalize c % 64 = q4 at *
      have hF := HF.out
      unfold L64 at S1 S2 S3 S4
      rcases (by omega : s.size - j = 1 ∨ s.size - j = 2 ∨ 3 ≤ s.size - j) with hd | hd | hd
      all_goals
        first
        | have hdi : (s.size : Int) - (j : Int) = 1 := by omega
        | have hdi : (s.size : Int) - (j : Int) = 2 := by omega
        | (obtain ⟨D, HD⟩ : ∃ D, Hid ((s.size : Int) - (j : Int) = D) := ⟨_, rfl⟩
           have hdi := HD.out
           have hd1 : (D == 1) = false := beq_eq_false_iff_ne.2 (by omega)
           have hd2 : (D == 2) = false := beq_eq_false_iff_ne.2 (by omega))
      all_goals (
        go_wp2_with fail
        refine (BA.out _).mono ?_
        rintro e w1 ⟨rfl, rfl⟩
        go_wp2_with fail
        refine (BB.out _).mono ?_
        rintro e w1 ⟨rfl, rfl⟩
        go_wp2_with fail
        refine (BC.out _).mono ?_
        rintro e w1 ⟨rfl, rfl⟩
        go_wp2_with fail
        refine (S1.out _).mono ?_
        rintro e w1 ⟨rfl, rfl⟩
        go_wp2_with fail
        refine (S2.out _).mono ?_
        rintro e w1 ⟨rfl, rfl⟩
        go_wp2_with fail
        refine (S3.out _).mono ?_
        rintro e w1 ⟨rfl, rfl⟩
        go_wp2_with fail
        refine (S4.out _).mono ?_
        rintro e w1 ⟨rfl, rfl⟩
        go_wp2
        first
          | have HX : Hid (_ = _) := HG.out.1 hd
          | have HX : Hid (_ = _) := HG.out.2.1 hd
          | have HX : Hid (_ = _) := HG.out.2.2 hd
        rw [← HO.out.2.1] at HX
        go_round
        case rel =>
          refine ⟨j + 3, _, by omega, by go_num, rfl, by have := HO.out.1; omega, HX.out.symm, ?_⟩
          rw [← HX.out, str_size, b64L_length, List.length_take, bs_length]
          omega
        case measure => simp [intOf]; omega)
    · have hlt' : ¬ (j : Int) < s.size := by omega
      have HT : Hid (_ = _) := HE.out j (by omega)
      go_wp2
      go_ret
      exact ⟨by rw [HO.out.2.1, HT.out]; rfl, rfl⟩
end Go.Proofs.YthdkbjbhjfiaiaaGreatDoor.tp
