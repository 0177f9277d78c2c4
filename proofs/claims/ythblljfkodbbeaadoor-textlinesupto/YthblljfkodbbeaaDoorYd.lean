import Derived.Test.YthblljfkodbbeaaDoorYc
namespace Go.Proofs.YthblljfkodbbeaaDoor.yd
open Go.RowKit Go.PlainAid
open Go.Proofs.YthblljfkodbbeaaDoor.ta Go.Proofs.YthblljfkodbbeaaDoor.tb Go.Proofs.YthblljfkodbbeaaDoor.tc Go.Proofs.YthblljfkodbbeaaDoor.tj Go.Proofs.YthblljfkodbbeaaDoor.va Go.Proofs.YthblljfkodbbeaaDoor.vb Go.Proofs.YthblljfkodbbeaaDoor.vc Go.Proofs.YthblljfkodbbeaaDoor.vd Go.Proofs.YthblljfkodbbeaaDoor.ya Go.Proofs.YthblljfkodbbeaaDoor.yb Go.Proofs.YthblljfkodbbeaaDoor.yc
set_option linter.unusedVariables false

theorem bs_join (xs : List ByteArray) : bs ⟨(joinL xs).toArray⟩ = (xs.map bs).flatMap (· ++ [10]) := by
  rw [yc.bs_data]
  show (joinL xs).map _ = _
  unfold joinL
  induction xs with
  | nil => rfl
  | cons x xs ih =>
    rw [List.flatMap_cons, List.map_append, ih, List.map_cons, List.flatMap_cons, List.map_append, ← yc.bs_data]
    rfl
theorem parts_flat (xs : List (List Int)) (h : ∀ x ∈ xs, ∀ y ∈ x, y ≠ 10) : parts 10 (xs.flatMap (· ++ [10])) = xs ++ [[]] := by
  induction xs with
  | nil => rfl
  | cons x xs ih =>
    rw [List.flatMap_cons, List.append_assoc]
    show parts 10 (x ++ 10 :: xs.flatMap (· ++ [10])) = _
    rw [parts_at _ _ _ (h x List.mem_cons_self), ih (fun y hy => h y (List.mem_cons_of_mem _ hy))]
    rfl
theorem flat_parts (l : List Int) : (parts 10 l).flatMap (· ++ [10]) = l ++ [10] := by
  induction l with
  | nil => rfl
  | cons b r ih =>
    unfold parts
    split
    · rename_i hb
      rw [List.flatMap_cons, ih, hb]
      rfl
    · cases hp : parts 10 r with
      | nil => exact absurd hp (parts_ne 10 r)
      | cons p ps =>
        rw [hp] at ih
        show ((b :: p) :: ps).flatMap _ = _
        rw [List.flatMap_cons] at ih ⊢
        show b :: (p ++ [10] ++ _) = b :: (r ++ [10])
        rw [ih]
theorem parts_no (l : List Int) : ∀ p ∈ parts 10 l, ∀ x ∈ p, x ≠ 10 := by
  induction l with
  | nil => intro p hp x hx; simp [parts] at hp; subst hp; simp at hx
  | cons b r ih =>
    intro p hp x hx
    unfold parts at hp
    split at hp
    · rcases List.mem_cons.1 hp with rfl | hp
      · simp at hx
      · exact ih p hp x hx
    · rename_i hb
      cases hq : parts 10 r with
      | nil => exact absurd hq (parts_ne 10 r)
      | cons q qs =>
        rw [hq] at hp ih
        rcases List.mem_cons.1 hp with rfl | hp
        · rcases List.mem_cons.1 hx with rfl | hx
          · exact hb
          · exact ih q List.mem_cons_self x hx
        · exact ih p (List.mem_cons_of_mem _ hp) x hx
theorem nl_no (x : ByteArray) : nl x = false ↔ ∀ y ∈ bs x, y ≠ 10 := by
  constructor
  · intro h y hy e
    subst e
    rw [(nl_iff x).2 hy] at h
    cases h
  · intro h
    cases hn : nl x with
    | false => rfl
    | true => exact absurd rfl (h 10 ((nl_iff x).1 hn))
theorem lines_join (xs : List ByteArray) (h : xs.all (fun x => !nl x) = true) : linesP (bs ⟨(joinL xs).toArray⟩) = some (xs.map bs) := by
  have := lines_parts (bs ⟨(joinL xs).toArray⟩) (xs.map bs) [] (by
    rw [bs_join, parts_flat]
    intro x hx y hy
    obtain ⟨q, hq, rfl⟩ := List.mem_map.1 hx
    have hn := List.all_eq_true.1 h q hq
    exact (nl_no q).1 (by simpa using hn) y hy)
  rw [this, if_pos rfl]
theorem lines_nl (l : List Int) : linesP (l ++ [10]) = some (parts 10 l) := by
  rw [lines_parts (l ++ [10]) (parts 10 l) [] (parts_snoc l), if_pos rfl]
theorem bs_str_map (ps : List (List Int)) (h : ∀ p ∈ ps, In 256 p) : (ps.map str).map bs = ps := by
  rw [List.map_map]
  conv => rhs; rw [← List.map_id ps]
  apply List.map_congr_left
  intro p hp
  exact bs_str p (h p hp)
theorem join_lines (s : ByteArray) : joinV ((parts 10 (bs s)).map str) = .tuple #[.string (s ++ (⟨#[10]⟩ : ByteArray)), .int .i64 0] := by
  unfold joinV
  have hin := parts_in 10 (bs s) (bs_in s)
  rw [if_pos]
  · congr 3
    congr 1
    apply bs_inj
    rw [bs_join, bs_str_map _ hin, flat_parts, bs_two, bs_10]
  · rw [List.all_eq_true]
    intro x hx
    obtain ⟨p, hp, rfl⟩ := List.mem_map.1 hx
    have : nl (str p) = false := (nl_no _).2 (by rw [bs_str p (hin p hp)]; exact parts_no _ p hp)
    rw [this]
    rfl
theorem join_room (s : ByteArray) : tk ((parts 10 (bs s)).map str) ((parts 10 (bs s)).map str).length + ((parts 10 (bs s)).map str).length = s.size + 1 := by
  have h := joinL_length ((parts 10 (bs s)).map str) ((parts 10 (bs s)).map str).length (Nat.le_refl _)
  rw [← h, List.take_length]
  have e := congrArg List.length (bs_join ((parts 10 (bs s)).map str))
  rw [bs_str_map _ (parts_in 10 (bs s) (bs_in s)), flat_parts, bs_length, List.length_append, bs_length] at e
  exact e
end Go.Proofs.YthblljfkodbbeaaDoor.yd
