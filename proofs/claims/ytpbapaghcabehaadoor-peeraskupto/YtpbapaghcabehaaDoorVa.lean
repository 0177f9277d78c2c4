import Derived.Test.YtpbapaghcabehaaDoorSh
import Derived.Test.YtpbapaghcabehaaDoorTc
import Derived.Lib.IndexBytes
import Derived.Lib.SplitLaws
namespace Go.Proofs.YtpbapaghcabehaaDoor.va
open Go.RowKit Go.PlainAid
open Go.Proofs.YtpbapaghcabehaaDoor.ta Go.Proofs.YtpbapaghcabehaaDoor.tb Go.Proofs.YtpbapaghcabehaaDoor.tc Go.Proofs.YtpbapaghcabehaaDoor.sh
set_option linter.unusedVariables false

-- the pieces between the bytes c
def parts (c : Int) : List Int → List (List Int)
  | [] => [[]]
  | b :: r => if b = c then [] :: parts c r else match parts c r with
    | p :: ps => (b :: p) :: ps
    | [] => [[b]]
theorem parts_ne (c : Int) (l : List Int) : parts c l ≠ [] := by
  cases l with
  | nil => simp [parts]
  | cons b r =>
    unfold parts
    split
    · simp
    · split <;> simp
theorem parts_none (c : Int) (l : List Int) (h : ∀ x ∈ l, x ≠ c) : parts c l = [l] := by
  induction l with
  | nil => rfl
  | cons b r ih =>
    unfold parts
    rw [if_neg (h b List.mem_cons_self), ih (fun x hx => h x (List.mem_cons_of_mem _ hx))]
theorem parts_at (c : Int) (a r : List Int) (h : ∀ x ∈ a, x ≠ c) : parts c (a ++ c :: r) = a :: parts c r := by
  induction a with
  | nil => simp [parts]
  | cons b a ih =>
    rw [List.cons_append, parts, if_neg (h b List.mem_cons_self), ih (fun x hx => h x (List.mem_cons_of_mem _ hx))]
theorem parts_length (c : Int) (l : List Int) : (parts c l).length = l.count c + 1 := by
  induction l with
  | nil => rfl
  | cons b r ih =>
    unfold parts
    by_cases h : b = c
    · rw [if_pos h, List.length_cons, ih, h, List.count_cons_self]
    · rw [if_neg h, List.count_cons_of_ne (by simpa using h)]
      split
      · rename_i p ps he
        rw [he] at ih
        simpa using ih
      · rename_i he
        exact absurd he (parts_ne c r)
theorem parts_in (c : Int) (l : List Int) (h : In 256 l) : ∀ p ∈ parts c l, In 256 p := by
  induction l with
  | nil => intro p hp; simp [parts] at hp; subst hp; intro x hx; simp at hx
  | cons b r ih =>
    have ih' := ih h.tail
    intro p hp
    unfold parts at hp
    split at hp
    · rcases List.mem_cons.1 hp with rfl | hp
      · intro x hx; simp at hx
      · exact ih' p hp
    · split at hp
      · rename_i q ps he
        rcases List.mem_cons.1 hp with rfl | hp
        · intro x hx
          rcases List.mem_cons.1 hx with rfl | hx
          · exact h.head
          · exact ih' q (by rw [he]; exact List.mem_cons_self) x hx
        · exact ih' p (by rw [he]; exact List.mem_cons_of_mem _ hp)
      · rw [List.mem_singleton.1 hp]; intro x hx; rw [List.mem_singleton.1 hx]; exact h.head

-- bytes of a text as the library's own
theorem bs_data (s : ByteArray) : bs s = s.data.toList.map fun b => (b.toNat : Int) := by
  apply List.ext_getElem
  · rw [bs_length, List.length_map, Array.length_toList]; rfl
  · intro j h1 h2
    rw [bs_length] at h1
    rw [bs_get s j h1, List.getElem_map, ← get_bt s j h1]
    rfl
theorem idx_cases (s : ByteArray) (c : UInt8) : (Lib.indexByte s.data.toList c = -1 ∧ ∀ x ∈ bs s, x ≠ (c.toNat : Int)) ∨
    (∃ o : Nat, Lib.indexByte s.data.toList c = o ∧ o < s.size ∧ bs s = (bs s).take o ++ (c.toNat : Int) :: (bs s).drop (o + 1) ∧ ∀ x ∈ (bs s).take o, x ≠ (c.toNat : Int)) := by
  rcases (by omega : Lib.indexByte s.data.toList c < 0 ∨ 0 ≤ Lib.indexByte s.data.toList c) with h | h
  · have h1 := Lib.indexByte_ge s.data.toList c
    have he : Lib.indexByte s.data.toList c = -1 := by omega
    refine .inl ⟨he, fun x hx e => ?_⟩
    rw [bs_data] at hx
    obtain ⟨b, hb, rfl⟩ := List.mem_map.1 hx
    obtain ⟨k, hk, hkb⟩ := List.getElem_of_mem hb
    have hn := Lib.indexByte_none he k
    rw [List.getElem?_eq_getElem hk, hkb] at hn
    have hbc : b = c := UInt8.toNat_inj.1 (by omega)
    exact hn (by rw [hbc])
  · obtain ⟨o, ho⟩ := Int.eq_ofNat_of_zero_le h
    obtain ⟨h1, h2⟩ := Lib.indexByte_some ho
    have hlt : o < s.data.toList.length := (List.getElem?_eq_some_iff.1 h1).1
    have hsz : s.data.toList.length = s.size := Array.length_toList
    have hb : bs s = (bs s).take o ++ (c.toNat : Int) :: (bs s).drop (o + 1) := by
      conv => lhs; rw [← List.take_append_drop o (bs s)]
      congr 1
      rw [List.drop_eq_getElem_cons (by rw [bs_length]; omega)]
      congr 1
      rw [bs_get s o (by omega), ← get_bt s o (by omega)]
      have := (List.getElem?_eq_some_iff.1 h1).2
      rw [← this]
      rfl
    refine .inr ⟨o, ho, by omega, hb, fun x hx e => ?_⟩
    rw [bs_data, ← List.map_take] at hx
    obtain ⟨b, hb', rfl⟩ := List.mem_map.1 hx
    obtain ⟨k, hk, hkb⟩ := List.getElem_of_mem hb'
    rw [List.length_take] at hk
    have hn := h2 k (by omega)
    rw [List.getElem_take] at hkb
    rw [List.getElem?_eq_getElem (by omega), hkb] at hn
    have hbc : b = c := UInt8.toNat_inj.1 (by omega)
    exact hn (by rw [hbc])
theorem indexB_one (s : ByteArray) (c : UInt8) : Lib.indexB s ⟨#[c]⟩ = Lib.indexByte s.data.toList c := Lib.index_one _ _
theorem count_one (s : ByteArray) (c : UInt8) : Lib.countB s ⟨#[c]⟩ = (bs s).count (c.toNat : Int) := by
  show Lib.count s.data.toList [c] = _
  rw [Lib.count_one, bs_data]
  show s.data.toList.count c = _
  rw [List.count_eq_countP, List.count_eq_countP, List.countP_map]
  apply List.countP_congr
  intro x _
  simp only [Function.comp, beq_iff_eq]
  constructor
  · intro h; rw [h]
  · intro h; exact UInt8.toNat_inj.1 (by omega)
theorem split_parts (c : UInt8) (n : Nat) : ∀ s : ByteArray, (bs s).count (c.toNat : Int) = n → (Lib.splitB ⟨#[c]⟩ 0 n s).map bs = parts (c.toNat : Int) (bs s) := by
  induction n with
  | zero =>
    intro s hn
    have h : ∀ x ∈ bs s, x ≠ (c.toNat : Int) := fun x hx e => by
      have := List.count_pos_iff.2 (e ▸ hx)
      omega
    rw [parts_none _ _ h]
    rfl
  | succ n ih =>
    intro s hn
    rcases idx_cases s c with ⟨hi, h⟩ | ⟨o, hi, ho, hb, h⟩
    · have : (bs s).count (c.toNat : Int) = 0 := List.count_eq_zero.2 (fun hm => h _ hm rfl)
      omega
    · have hz : (⟨#[c]⟩ : ByteArray).size = 1 := rfl
      rw [Lib.splitB_hit _ 0 n s o (by rw [indexB_one]; exact hi), List.map_cons, hz, Nat.add_zero, bs_extract s 0 o (by omega) (by omega), List.drop_zero]
      have hd : bs (s.extract (o + 1) s.size) = (bs s).drop (o + 1) := by
        rw [bs_extract s _ _ (by omega) (Nat.le_refl _), List.take_of_length_le (by rw [bs_length]; exact Nat.le_refl _)]
      have hc : (bs (s.extract (o + 1) s.size)).count (c.toNat : Int) = n := by
        rw [hd]
        have h0 : ((bs s).take o).count (c.toNat : Int) = 0 := List.count_eq_zero.2 (fun hm => h _ hm rfl)
        rw [hb, List.count_append, List.count_cons_self, h0] at hn
        omega
      rw [ih _ hc, hd]
      conv => rhs; rw [hb]
      rw [parts_at _ _ _ h]

theorem hi9 : (Tryd.prog.info? 9).map (fun i => (i.zero, i.size, i.bytes)) = some (some (.string ByteArray.empty), 1, 16) := by kernel_rfl
def pcs (c : UInt8) (s : ByteArray) : List ByteArray := (parts (c.toNat : Int) (bs s)).map str
theorem pcs_eq (c : UInt8) (s : ByteArray) : Lib.splitB ⟨#[c]⟩ 0 ((bs s).count (c.toNat : Int)) s = pcs c s := by
  unfold pcs
  rw [← split_parts c _ s rfl, List.map_map]
  conv => lhs; rw [← List.map_id (Lib.splitB ⟨#[c]⟩ 0 ((bs s).count (c.toNat : Int)) s)]
  apply List.map_congr_left
  intro x _
  simp [str_bs]
theorem pcs_length (c : UInt8) (s : ByteArray) : (pcs c s).length = (bs s).count (c.toNat : Int) + 1 := by unfold pcs; rw [List.length_map, parts_length]
end Go.Proofs.YtpbapaghcabehaaDoor.va
