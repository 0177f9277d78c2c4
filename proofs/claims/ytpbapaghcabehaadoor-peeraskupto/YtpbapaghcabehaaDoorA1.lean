import Derived.PlainAid
import Derived.Lib.CutLaws
import Derived.Test.YtpbapaghcabehaaDoorVa
import Derived.Test.YtpbapaghcabehaaDoorTk
import Derived.Test.YtpbapaghcabehaaDoorWb
namespace Go.Proofs.YtpbapaghcabehaaDoor.a1
open Go.RowKit Go.PlainAid
open Go.Proofs.YtpbapaghcabehaaDoor.ta Go.Proofs.YtpbapaghcabehaaDoor.tb Go.Proofs.YtpbapaghcabehaaDoor.tc Go.Proofs.YtpbapaghcabehaaDoor.tj Go.Proofs.YtpbapaghcabehaaDoor.tk Go.Proofs.YtpbapaghcabehaaDoor.va Go.Proofs.YtpbapaghcabehaaDoor.wa Go.Proofs.YtpbapaghcabehaaDoor.wb
set_option linter.unusedVariables false

-- rows of a text
def nlB : ByteArray := ⟨#[10]⟩
def dbB : ByteArray := ⟨#[10, 10]⟩
def oldB : ByteArray := ⟨#[111, 108, 100, 32]⟩
def flN : List ByteArray → ByteArray
  | [] => ByteArray.empty
  | l :: ls => l ++ nlB ++ flN ls
def no10 (l : ByteArray) : Prop := ∀ j, j < l.size → bt l j ≠ 10
theorem nl_size : nlB.size = 1 := rfl
theorem nl_bt : bt nlB 0 = 10 := by decide +kernel
theorem bs_nl : bs nlB = [10] := by decide +kernel
theorem dbl_nl : dbB = nlB ++ nlB := by decide +kernel
theorem flN_app (a b : List ByteArray) : flN (a ++ b) = flN a ++ flN b := by
  induction a with
  | nil => simp [flN]
  | cons x a ih => simp only [List.cons_append, flN, ih, ByteArray.append_assoc]
theorem flN_snoc (a : List ByteArray) (l : ByteArray) : flN (a ++ [l]) = flN a ++ l ++ nlB := by
  rw [flN_app, flN, flN, ByteArray.append_empty, ByteArray.append_assoc]
theorem bt_left (a b : ByteArray) (j : Nat) (h : j < a.size) : bt (a ++ b) j = bt a j := by
  rw [← get_bt (a ++ b) j (by rw [ByteArray.size_append]; omega), ← get_bt a j h, ByteArray.getElem_append_left]
theorem bt_right (a b : ByteArray) (j : Nat) (h : j < b.size) : bt (a ++ b) (a.size + j) = bt b j := by
  rw [← get_bt (a ++ b) (a.size + j) (by rw [ByteArray.size_append]; omega), ← get_bt b j h, ByteArray.getElem_append_right (by omega)]
  simp
theorem ba_empty {l : ByteArray} (h : l.size = 0) : l = ByteArray.empty := by
  apply ByteArray.ext
  exact Array.eq_empty_of_size_eq_zero h
theorem in_no10 {l : ByteArray} (h : no10 l) : ∀ x ∈ bs l, x ≠ 10 := by
  intro x hx
  obtain ⟨k, hk, rfl⟩ := List.getElem_of_mem hx
  rw [bs_length] at hk
  rw [bs_get _ k hk]
  exact h k hk
theorem no10_in {l : ByteArray} (h : ∀ x ∈ bs l, x ≠ 10) : no10 l := by
  intro j hj
  rw [← bs_get l j hj]
  exact h _ (List.getElem_mem _)

-- where a text stands in another one
def occ (s sub : ByteArray) (i : Nat) : Bool := Lib.occAt s.data.toList sub.data.toList i
theorem occ_to (s sub : ByteArray) (i : Nat) (hi : i ≤ s.size) (h : occ s sub i = true) : ∃ x y : ByteArray, s = x ++ sub ++ y ∧ x.size = i := by
  unfold occ Lib.occAt at h
  rw [List.isPrefixOf_iff_prefix] at h
  obtain ⟨t, ht⟩ := h
  have hl : s.data.toList.length = s.size := Array.length_toList
  refine ⟨⟨(s.data.toList.take i).toArray⟩, ⟨t.toArray⟩, ?_, ?_⟩
  · apply ByteArray.ext
    apply Array.ext'
    simp only [ByteArray.data_append, Array.toList_append]
    show s.data.toList = s.data.toList.take i ++ sub.data.toList ++ t
    rw [List.append_assoc, ht, List.take_append_drop]
  · show (s.data.toList.take i).toArray.size = i
    rw [List.size_toArray, List.length_take, hl]
    omega
theorem occ_of (x sub y : ByteArray) : occ (x ++ sub ++ y) sub x.size = true := by
  unfold occ Lib.occAt
  rw [List.isPrefixOf_iff_prefix]
  refine ⟨y.data.toList, ?_⟩
  have e : (x ++ sub ++ y).data.toList = x.data.toList ++ (sub.data.toList ++ y.data.toList) := by
    simp only [ByteArray.data_append, Array.toList_append, List.append_assoc]
  have hl : x.size = x.data.toList.length := Array.length_toList.symm
  rw [e, hl, List.drop_left']
  rfl
def cutA (s sub : ByteArray) : ByteArray := ⟨(Lib.cut s.data.toList sub.data.toList).1.toArray⟩
def cutB (s sub : ByteArray) : ByteArray := ⟨(Lib.cut s.data.toList sub.data.toList).2.1.toArray⟩
def cutF (s sub : ByteArray) : Bool := (Lib.cut s.data.toList sub.data.toList).2.2
theorem cut_first (x sub y : ByteArray) (hf : ∀ j, j < x.size → occ (x ++ sub ++ y) sub j = false) : cutA (x ++ sub ++ y) sub = x ∧ cutB (x ++ sub ++ y) sub = y ∧ cutF (x ++ sub ++ y) sub = true := by
  have e : (x ++ sub ++ y).data.toList = x.data.toList ++ (sub.data.toList ++ y.data.toList) := by
    simp only [ByteArray.data_append, Array.toList_append, List.append_assoc]
  have hl : x.size = x.data.toList.length := Array.length_toList.symm
  have hi : Lib.index (x ++ sub ++ y).data.toList sub.data.toList = (x.size : Nat) := by
    refine Lib.index_first ?_ (occ_of x sub y) hf
    rw [e, List.length_append, ← hl]
    omega
  have hc : Lib.cut (x ++ sub ++ y).data.toList sub.data.toList = (x.data.toList, y.data.toList, true) := by
    unfold Lib.cut
    rw [hi, if_pos (by omega), Int.toNat_natCast, e, hl, List.take_left', ← List.drop_drop, List.drop_left', List.drop_left']
    · rfl
    · rfl
    · rfl
  unfold cutA cutB cutF
  rw [hc]
  exact ⟨by simp, by simp, rfl⟩
theorem cut_none (s sub : ByteArray) (h : ∀ j, j ≤ s.size → occ s sub j = false) : cutA s sub = s ∧ cutB s sub = ByteArray.empty ∧ cutF s sub = false := by
  have hi : Lib.index s.data.toList sub.data.toList = -1 := Lib.index_none (fun j hj => h j (by rw [Array.length_toList] at hj; exact hj))
  have hc : Lib.cut s.data.toList sub.data.toList = (s.data.toList, [], false) := by
    unfold Lib.cut
    rw [hi, if_neg (by omega)]
  unfold cutA cutB cutF
  rw [hc]
  exact ⟨by simp, rfl, rfl⟩
theorem first_or (p : Nat → Bool) : ∀ n, (∃ i, i < n ∧ p i = true ∧ ∀ j, j < i → p j = false) ∨ ∀ j, j < n → p j = false
  | 0 => .inr fun j h => by omega
  | n + 1 => by
    rcases first_or p n with ⟨i, h1, h2, h3⟩ | h
    · exact .inl ⟨i, by omega, h2, h3⟩
    · cases hp : p n with
      | true => exact .inl ⟨n, by omega, hp, h⟩
      | false =>
        refine .inr fun j hj => ?_
        rcases Nat.lt_or_ge j n with h1 | h1
        · exact h j h1
        · rw [show j = n by omega]; exact hp
theorem cut_cases (s sub : ByteArray) : (∃ x y, s = x ++ sub ++ y ∧ (∀ j, j < x.size → occ s sub j = false) ∧ cutA s sub = x ∧ cutB s sub = y ∧ cutF s sub = true) ∨ ((∀ j, j ≤ s.size → occ s sub j = false) ∧ cutA s sub = s ∧ cutB s sub = ByteArray.empty ∧ cutF s sub = false) := by
  rcases first_or (occ s sub) (s.size + 1) with ⟨i, h1, h2, h3⟩ | h
  · obtain ⟨x, y, rfl, rfl⟩ := occ_to s sub i (by omega) h2
    have hc := cut_first x sub y h3
    exact .inl ⟨x, y, rfl, h3, hc.1, hc.2.1, hc.2.2⟩
  · have h' : ∀ j, j ≤ s.size → occ s sub j = false := fun j hj => h j (by omega)
    exact .inr ⟨h', cut_none s sub h'⟩
-- a newline
theorem occ_nl (s : ByteArray) (j : Nat) (hj : j < s.size) : occ s nlB j = true ↔ bt s j = 10 := by
  constructor
  · intro h
    obtain ⟨x, y, rfl, rfl⟩ := occ_to s nlB j (by omega) h
    rw [ByteArray.append_assoc]
    have := bt_right x (nlB ++ y) 0 (by rw [ByteArray.size_append, nl_size]; omega)
    rw [Nat.add_zero] at this
    rw [this, bt_left _ _ _ (by rw [nl_size]; omega), nl_bt]
  · intro h
    have hl := bs_length s
    have e1 : bs s = (bs s).take j ++ ([10] ++ (bs s).drop (j + 1)) := by
      have h1 : (bs s).drop j = bt s j :: (bs s).drop (j + 1) := by
        rw [List.drop_eq_getElem_cons (by rw [hl]; omega), bs_get s j hj]
      rw [h] at h1
      show _ = (bs s).take j ++ (10 :: (bs s).drop (j + 1))
      rw [← h1, List.take_append_drop]
    have e2 : s = str ((bs s).take j) ++ nlB ++ str ((bs s).drop (j + 1)) := by
      conv => lhs; rw [← str_bs s, e1]
      rw [str_two, str_two, ByteArray.append_assoc]
      rfl
    have hz : (str ((bs s).take j)).size = j := by rw [str_size, List.length_take, hl]; omega
    have := occ_of (str ((bs s).take j)) nlB (str ((bs s).drop (j + 1)))
    rw [← e2, hz] at this
    exact this
theorem occ_end (s : ByteArray) : occ s nlB s.size = false := by
  cases h : occ s nlB s.size with
  | false => rfl
  | true =>
    obtain ⟨x, y, e, hz⟩ := occ_to s nlB s.size (Nat.le_refl _) h
    have := congrArg ByteArray.size e
    rw [ByteArray.size_append, ByteArray.size_append, nl_size] at this
    omega
theorem cut_nl (s : ByteArray) : (∃ x y, s = x ++ nlB ++ y ∧ no10 x ∧ cutA s nlB = x ∧ cutB s nlB = y ∧ cutF s nlB = true) ∨ (no10 s ∧ cutA s nlB = s ∧ cutB s nlB = ByteArray.empty ∧ cutF s nlB = false) := by
  rcases cut_cases s nlB with ⟨x, y, e, h1, h2⟩ | ⟨h1, h2⟩
  · refine .inl ⟨x, y, e, fun j hj hb => ?_, h2⟩
    have hs := congrArg ByteArray.size e
    rw [ByteArray.size_append, ByteArray.size_append, nl_size] at hs
    have h3 := h1 j hj
    rw [(occ_nl s j (by omega)).2 (by rw [e, ByteArray.append_assoc, bt_left _ _ _ hj]; exact hb)] at h3
    cases h3
  · refine .inr ⟨fun j hj hb => ?_, h2⟩
    have h3 := h1 j (by omega)
    rw [(occ_nl s j hj).2 hb] at h3
    cases h3
-- two of them
theorem occ_db (s : ByteArray) (j : Nat) (h : occ s dbB j = true) (hj : j ≤ s.size) : j + 1 < s.size ∧ bt s j = 10 ∧ bt s (j + 1) = 10 := by
  obtain ⟨x, y, rfl, rfl⟩ := occ_to s dbB j hj h
  have hz : dbB.size = 2 := rfl
  have e : ∀ k, k < 2 → bt (x ++ dbB ++ y) (x.size + k) = bt dbB k := fun k hk => by
    rw [ByteArray.append_assoc, bt_right x (dbB ++ y) k (by rw [ByteArray.size_append, hz]; omega), bt_left _ _ _ (by rw [hz]; omega)]
  have e0 := e 0 (by omega)
  have e1 := e 1 (by omega)
  rw [Nat.add_zero] at e0
  refine ⟨by rw [ByteArray.size_append, ByteArray.size_append, hz]; omega, ?_, ?_⟩
  · rw [e0]; decide +kernel
  · rw [e1]; decide +kernel
theorem parts_nl (x y : ByteArray) (h : no10 x) : parts 10 (bs (x ++ nlB ++ y)) = bs x :: parts 10 (bs y) := by
  rw [bs_two, bs_two, bs_nl, List.append_assoc]
  exact parts_at 10 (bs x) (bs y) (in_no10 h)
theorem parts_one (x : ByteArray) (h : no10 x) : parts 10 (bs x) = [bs x] := parts_none 10 (bs x) (in_no10 h)
-- a text's lines, the last one whatever stands behind the last newline
def pcB (s : ByteArray) : List ByteArray := (parts 10 (bs s)).map str
theorem pc_nl (x y : ByteArray) (h : no10 x) : pcB (x ++ nlB ++ y) = x :: pcB y := by
  unfold pcB
  rw [parts_nl x y h, List.map_cons, str_bs]
theorem pc_one (x : ByteArray) (h : no10 x) : pcB x = [x] := by
  unfold pcB
  rw [parts_one x h, List.map_cons, List.map_nil, str_bs]
theorem pc_ne (s : ByteArray) : pcB s ≠ [] := by
  unfold pcB
  intro h
  exact parts_ne 10 (bs s) (List.map_eq_nil_iff.1 h)
theorem pc_fl : ∀ (ls : List ByteArray) (t : ByteArray), (∀ l ∈ ls, no10 l) → no10 t → pcB (flN ls ++ t) = ls ++ [t]
  | [], t, _, h => by rw [flN, ByteArray.empty_append]; exact pc_one t h
  | l :: ls, t, h, h2 => by
    rw [flN, ByteArray.append_assoc, pc_nl _ _ (h l (by simp)), pc_fl ls t (fun x hx => h x (by simp [hx])) h2]
    rfl
-- lines that are none empty hold no two newlines beside each other
theorem fl_single : ∀ (ls : List ByteArray), (∀ l ∈ ls, no10 l ∧ l ≠ ByteArray.empty) → (∀ j, j + 1 < (flN ls).size → ¬ (bt (flN ls) j = 10 ∧ bt (flN ls) (j + 1) = 10)) ∧ (0 < (flN ls).size → bt (flN ls) 0 ≠ 10)
  | [], _ => ⟨fun j h => by simp [flN] at h, fun h => by simp [flN] at h⟩
  | l :: ls, h => by
    obtain ⟨i1, i2⟩ := fl_single ls (fun x hx => h x (by simp [hx]))
    obtain ⟨h10, hne⟩ := h l (by simp)
    have hl : 0 < l.size := by
      rcases Nat.eq_zero_or_pos l.size with e | e
      · exact absurd (ba_empty e) hne
      · exact e
    have e : flN (l :: ls) = l ++ (nlB ++ flN ls) := by rw [flN, ByteArray.append_assoc]
    have hsz : (flN (l :: ls)).size = l.size + 1 + (flN ls).size := by rw [e, ByteArray.size_append, ByteArray.size_append, nl_size]; omega
    have a1 : ∀ j, j < l.size → bt (flN (l :: ls)) j ≠ 10 := fun j hj => by rw [e, bt_left _ _ _ hj]; exact h10 j hj
    have a2 : ∀ j, j < (flN ls).size → bt (flN (l :: ls)) (l.size + 1 + j) = bt (flN ls) j := fun j hj => by
      have z : l.size + 1 + j = l.size + (nlB.size + j) := by rw [nl_size]; omega
      rw [e, z, bt_right _ _ _ (by rw [ByteArray.size_append, nl_size]; omega), bt_right _ _ _ hj]
    refine ⟨fun j hj hd => ?_, fun _ => a1 0 hl⟩
    rw [hsz] at hj
    rcases Nat.lt_or_ge j l.size with c | c
    · exact a1 j c hd.1
    · rcases Nat.eq_or_lt_of_le c with c2 | c2
      · have z : j + 1 = l.size + 1 + 0 := by omega
        have h2 := hd.2
        rw [z, a2 0 (by omega)] at h2
        exact i2 (by omega) h2
      · obtain ⟨t, rfl⟩ : ∃ t, j = l.size + 1 + t := ⟨j - (l.size + 1), by omega⟩
        refine i1 t (by omega) ⟨?_, ?_⟩
        · rw [← a2 t (by omega)]; exact hd.1
        · rw [← a2 (t + 1) (by omega)]; exact hd.2
-- some lines and one that does not end, none of them empty, an empty line, anything: parted at the empty line
theorem cut_empty (ls : List ByteArray) (t y : ByteArray) (h : ∀ l ∈ ls, no10 l ∧ l ≠ ByteArray.empty) (ht : no10 t ∧ t ≠ ByteArray.empty) : cutA (flN ls ++ t ++ dbB ++ y) dbB = flN ls ++ t ∧ cutB (flN ls ++ t ++ dbB ++ y) dbB = y ∧ cutF (flN ls ++ t ++ dbB ++ y) dbB = true := by
  refine cut_first (flN ls ++ t) dbB y fun j hj => ?_
  cases ho : occ (flN ls ++ t ++ dbB ++ y) dbB j with
  | false => rfl
  | true =>
    exfalso
    obtain ⟨h1, h2, h3⟩ := occ_db _ j ho (by simp only [ByteArray.size_append] at hj ⊢; omega)
    have e : flN ls ++ t ++ dbB ++ y = flN (ls ++ [t]) ++ (nlB ++ y) := by
      rw [flN_snoc, dbl_nl]
      simp only [ByteArray.append_assoc]
    obtain ⟨i1, _⟩ := fl_single (ls ++ [t]) (fun l hl => by
      rcases List.mem_append.1 hl with hl | hl
      · exact h l hl
      · rw [List.mem_singleton.1 hl]; exact ht)
    have hz : (flN (ls ++ [t])).size = (flN ls ++ t).size + 1 := by
      rw [flN_snoc, ByteArray.size_append, nl_size]
    refine i1 j (by omega) ⟨?_, ?_⟩
    · rw [e, bt_left _ _ _ (by omega)] at h2; exact h2
    · rw [e, bt_left _ _ _ (by omega)] at h3; exact h3
end Go.Proofs.YtpbapaghcabehaaDoor.a1
