import Derived.Test.YtpbapaghcabehaaDoorTk
namespace Go.Proofs.YtpbapaghcabehaaDoor.tm
open Go.RowKit Go.PlainAid
open Go.Proofs.YtpbapaghcabehaaDoor.ta Go.Proofs.YtpbapaghcabehaaDoor.tb Go.Proofs.YtpbapaghcabehaaDoor.tc Go.Proofs.YtpbapaghcabehaaDoor.td Go.Proofs.YtpbapaghcabehaaDoor.te Go.Proofs.YtpbapaghcabehaaDoor.tf Go.Proofs.YtpbapaghcabehaaDoor.tg Go.Proofs.YtpbapaghcabehaaDoor.th Go.Proofs.YtpbapaghcabehaaDoor.ti Go.Proofs.YtpbapaghcabehaaDoor.tj Go.Proofs.YtpbapaghcabehaaDoor.tk
set_option linter.unusedVariables false

-- the document's value of a sign: the first place, or 0
def rvN (al : List Int) (c : Int) : Nat := if al.idxOf c < al.length then al.idxOf c else 0
def rv (al : List Int) (c : Int) : Int := rvN al c
theorem rv_in (al : List Int) (c : Int) (m : Nat) (h : al.length = m) (hm : 0 < m) : 0 ≤ rv al c ∧ rv al c < m := by
  unfold rv rvN
  split <;> omega
structure Alpha2 (al : List Int) (m : Nat) : Prop where
  a : Alpha al m
  v : ∀ i : Nat, i < m → rv al (al.getD i 0) = i
theorem a64' : Alpha2 A64 64 := ⟨a64, by decide +kernel⟩
theorem a16' : Alpha2 A16 16 := ⟨a16, by decide +kernel⟩
theorem aup' : Alpha2 AUP 16 := ⟨aup, by decide +kernel⟩
theorem Alpha2.rv_sg {al : List Int} {m : Nat} (h : Alpha2 al m) (v : Int) (h0 : 0 ≤ v) (h1 : v < m) : rv al (sg al v) = v := by
  unfold sg
  rw [h.v v.toNat (by omega)]
  omega
theorem Alpha2.rv_vl {al : List Int} {m : Nat} (h : Alpha2 al m) (b : Int) (hb : 0 ≤ b ∧ b < 256) (hv : vl al b ≠ 0) : rv al b = vl al b - 1 := by
  obtain ⟨h1, h2, h3⟩ := h.a.sg_vl b hb hv
  have := h.rv_sg (vl al b - 1) h2 h3
  rwa [h1] at this
theorem Alpha2.map_rv {al : List Int} {m : Nat} (h : Alpha2 al m) (l : List Int) (hl : In 256 l) (ho : Ok al l) : l.map (rv al) = vs al l := by
  unfold vs
  apply List.map_congr_left
  intro x hx
  exact h.rv_vl x (hl x hx) (ho x hx)
theorem map_rv_in (al l : List Int) (m : Nat) (h : al.length = m) (hm : 0 < m) : In m (l.map (rv al)) := by
  intro x hx
  obtain ⟨y, _, rfl⟩ := List.mem_map.1 hx
  exact rv_in al y m h hm

-- hexadecimal: what the document reads
def ghL (l : List Int) : List Int := pairs (l.map (rv A16))
theorem pairs_in' (n : Nat) : ∀ l : List Int, l.length ≤ n → In 16 l → In 256 (pairs l) := by
  induction n using Nat.strongRecOn with
  | ind n ih =>
    intro l hn hi
    match l, hn, hi with
    | [], _, _ => intro x hx; simp [pairs] at hx
    | [a], _, _ => intro x hx; simp [pairs] at hx
    | a :: b :: r, hn, hi =>
      have h1 := hi.head; have h2 := hi.tail.head
      have hn' : r.length + 2 ≤ n := by simpa using hn
      have h3 := ih (n - 2) (by omega) r (by omega) hi.tail.tail
      intro x hx
      simp [pairs] at hx
      rcases hx with rfl | hx
      · omega
      · exact h3 x hx
theorem ghL_in (l : List Int) : In 256 (ghL l) := pairs_in' _ _ (Nat.le_refl _) (map_rv_in A16 l 16 (by decide +kernel) (by decide))
open Classical in
theorem refHex (s : ByteArray) : (if str (hexL (ghL (bs s))) = s then readV (ghL (bs s)) else failV 41) = unhexV s := by
  unfold unhexV
  by_cases h : s.size % 2 = 0 ∧ Ok A16 (bs s)
  · have e : ghL (bs s) = unhexL (bs s) := by unfold ghL unhexL; rw [a16'.map_rv _ (bs_in s) h.2]
    have hb := (hex_back (bs s) (bs_in s) (by rw [bs_length]; exact h.1) h.2).1
    rw [if_pos h, e, if_pos (by rw [hb, str_bs])]
  · rw [if_neg h, if_neg]
    intro hs
    apply h
    have hl : bs s = hexL (ghL (bs s)) := by
      have := congrArg bs hs
      rw [bs_str _ (hexL_in _ (ghL_in _))] at this
      exact this.symm
    have hz := congrArg List.length hl
    rw [hexL_length, bs_length] at hz
    refine ⟨by omega, ?_⟩
    rw [hl]
    exact (hex_there _ (ghL_in _)).1

-- base64: what the document reads
def gbL (l : List Int) : List Int := eights (l.map (rv A64))
theorem gbL_in (l : List Int) : In 256 (gbL l) := eights_in _ _ (Nat.le_refl _) (map_rv_in A64 l 64 (by decide +kernel) (by decide))
def kL (l : List Int) : Nat := l.length - (trim2 l).length
def gcL (l : List Int) : List Int := (gbL l).take ((gbL l).length - kL l)
theorem rv61 : rv A64 61 = 0 := by decide +kernel
theorem vl65 : vl A64 65 = 1 := by decide +kernel
theorem gb_full (l : List Int) (hl : In 256 l) (ho : Ok A64 (trim2 l ++ List.replicate (kL l) 65)) : gbL l = fullL l := by
  obtain ⟨k, hk, e, ek⟩ := trim2_back l
  unfold gbL fullL
  congr 1
  have hk' : kL l = k := ek.symm
  rw [← ek]
  rw [hk'] at ho
  have hin : In 256 (trim2 l) := by rw [e] at hl; exact hl.left
  have hot : Ok A64 (trim2 l) := fun x hx => ho x (List.mem_append.2 (.inl hx))
  conv => lhs; rw [e]
  rw [List.map_append, List.map_replicate, rv61, a64'.map_rv _ hin hot]
  unfold vs
  rw [List.map_append, List.map_replicate, vl65]
  rfl
open Classical in
theorem ref64 (s : ByteArray) : (if kL (bs s) > (gbL (bs s)).length then failV 40 else if str (b64L (gcL (bs s))) = s then readV (gcL (bs s)) else failV 40) = un64V s := by
  unfold un64V
  by_cases h : Acc64 (bs s)
  · have e : gbL (bs s) = fullL (bs s) := gb_full _ (bs_in s) h.ok
    have e2 : gcL (bs s) = cutL (bs s) := by unfold gcL cutL; rw [e]; rfl
    have hb := (b64_back (bs s) (bs_in s) h).1
    have hk : ¬ kL (bs s) > (gbL (bs s)).length := by
      have := congrArg List.length h.zero
      rw [List.length_drop, List.length_replicate] at this
      rw [e]
      unfold kL
      have h4 := h.four
      obtain ⟨k, hk, ee, ek⟩ := trim2_back (bs s)
      omega
    rw [if_pos h, if_neg hk, e2, if_pos (by rw [hb, str_bs])]
  · rw [if_neg h]
    split
    · rfl
    · rw [if_neg]
      intro hs
      apply h
      have hi : In 256 (gcL (bs s)) := fun x hx => gbL_in _ x (List.mem_of_mem_take hx)
      have hl : bs s = b64L (gcL (bs s)) := by
        have := congrArg bs hs
        rw [bs_str _ (b64L_in _ hi)] at this
        exact this.symm
      rw [hl]
      exact (b64_there _ hi).1

-- the document's groups
theorem chunk1 (a : Int) : b64L [a] = [sg A64 (a / 4), sg A64 (a % 4 * 16), 61, 61] := by simp [b64L, spare, sixes, List.replicate]
theorem chunk2 (a b : Int) : b64L [a, b] = [sg A64 (a / 4), sg A64 (a % 4 * 16 + b / 16), sg A64 (b % 16 * 4), 61] := by simp [b64L, spare, sixes]
theorem chunk3 (a b c : Int) : b64L [a, b, c] = [sg A64 (a / 4), sg A64 (a % 4 * 16 + b / 16), sg A64 (b % 16 * 4 + c / 64), sg A64 (c % 64)] := by simp [b64L, spare, sixes]
theorem b64_step (l : List Int) (j : Nat) (h3 : j % 3 = 0) (hj : j ≤ l.length) : b64L (l.take (j + 3)) = b64L (l.take j) ++ b64L ((l.drop j).take 3) := by
  rw [List.take_add, b64L_app _ _ (by rw [List.length_take]; omega)]
theorem drop_cons (s : ByteArray) (j : Nat) (h : j < s.size) : (bs s).drop j = bt s j :: (bs s).drop (j + 1) := by
  rw [List.drop_eq_getElem_cons (by rw [bs_length]; exact h), bs_get s j h]
theorem drop_nil (s : ByteArray) (j : Nat) (h : s.size ≤ j) : (bs s).drop j = [] := List.drop_of_length_le (by rw [bs_length]; exact h)
end Go.Proofs.YtpbapaghcabehaaDoor.tm
