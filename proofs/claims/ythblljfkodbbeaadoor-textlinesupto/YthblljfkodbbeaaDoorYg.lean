import Derived.Test.YthblljfkodbbeaaDoorYf
import Derived.Laws.OwnMore
import Derived.Laws.AppendOwnNone
namespace Go.Proofs.YthblljfkodbbeaaDoor.yg
open Go.RowKit Go.PlainAid
open Go.Proofs.YthblljfkodbbeaaDoor.ta Go.Proofs.YthblljfkodbbeaaDoor.tb Go.Proofs.YthblljfkodbbeaaDoor.tc Go.Proofs.YthblljfkodbbeaaDoor.te Go.Proofs.YthblljfkodbbeaaDoor.tj Go.Proofs.YthblljfkodbbeaaDoor.va Go.Proofs.YthblljfkodbbeaaDoor.vb Go.Proofs.YthblljfkodbbeaaDoor.vc Go.Proofs.YthblljfkodbbeaaDoor.vd Go.Proofs.YthblljfkodbbeaaDoor.ya Go.Proofs.YthblljfkodbbeaaDoor.yb Go.Proofs.YthblljfkodbbeaaDoor.yc Go.Proofs.YthblljfkodbbeaaDoor.yd Go.Proofs.YthblljfkodbbeaaDoor.ye Go.Proofs.YthblljfkodbbeaaDoor.yf
set_option linter.unusedVariables false

theorem two_lines (s : ByteArray) (hs : s.size ≤ 1048576) : ∃ (Y : List ByteArray) (ec : Int), Y.length ≤ 1048577 ∧
    (∀ w, Calls Tryd.prog 9 #[.string s] w fun e w' => (∃ v, e = .returned (.tuple #[v, .int .i64 ec]) ∧ Reads w' v Y ∧ v.oneCell' = true) ∧ Below w.heap.size w w') ∧
    (∀ w, Calls Tryd.prog 15 #[.string s] w fun e w' => (∃ v, e = .returned (.tuple #[v, .int .i64 ec]) ∧ Reads w' v Y ∧ v.oneCell' = true) ∧ Below w.heap.size w w') := by
  have A := fun w => lines s (by omega) w
  have B := fun w => rLines s (by omega) w
  have hnil : ∀ w : World, Reads w (.slice none 0 0) [] := fun w => ⟨none, 0, rfl, .inl rfl⟩
  cases h : linesP (bs s) with
  | none =>
    rw [h] at A B
    refine ⟨[], 43, by simp, fun w => (A w).mono ?_, fun w => (B w).mono ?_⟩
    · rintro e w' ⟨he, hb⟩
      exact ⟨⟨_, he, hnil _, rfl⟩, hb⟩
    · rintro e w' ⟨he, hb⟩
      exact ⟨⟨_, he, hnil _, rfl⟩, hb⟩
  | some ys =>
    rw [h] at A B
    refine ⟨ys.map str, 0, ?_, fun w => (A w).mono ?_, fun w => (B w).mono ?_⟩
    · rw [List.length_map]
      unfold linesP at h
      split at h
      · obtain rfl := Option.some.inj h; simp
      · split at h
        · obtain rfl := Option.some.inj h
          rw [parts_length]
          have := List.count_le_length (a := (10 : Int)) (l := (bs s).take ((bs s).length - 1))
          have hl := bs_length s
          rw [List.length_take] at this
          omega
        · cases h
    · rintro e w' ⟨⟨v, he, ht⟩, hb⟩
      refine ⟨⟨v, he, Texts.reads ht, ?_⟩, hb⟩
      rcases ht with ⟨rfl, _⟩ | ⟨g, rfl, _⟩
      · rfl
      · rfl
    · rintro e w' ⟨⟨v, he, hr, h1⟩, hb⟩
      exact ⟨⟨v, he, hr, h1⟩, hb⟩
-- the first texts of a row of the call's own
theorem own_first {w : World} {B g n cap : Nat} {ys : List ByteArray} {z : Value} (h : w.ownsRow B 9 1 (.slice (some ⟨g, 0, none⟩) (n + 1) cap) (n + 1) (ys.map Value.string ++ [z])) (hn : ys.length = n) :
    Reads w (.slice (some ⟨g, 0, none⟩) n cap) ys := by
  refine ⟨_, cap, by rw [hn], .inr ⟨g, 0, rfl, fun i hi => ?_⟩⟩
  rw [Nat.zero_add, h.cellAt i (by omega), List.getElem?_append_left (by rw [List.length_map]; exact hi), List.getElem?_map, List.getElem?_eq_getElem hi, List.getD_eq_getElem?_getD, List.getElem?_eq_getElem hi]
  rfl
def OTHER : ByteArray := ⟨#[111, 116, 104, 101, 114]⟩
def BEHIND : ByteArray := ⟨#[98, 101, 104, 105, 110, 100]⟩
def mix1 (xs : List ByteArray) (k : Nat) : List ByteArray := List.replicate k OTHER ++ xs.drop k
def mix2 (xs : List ByteArray) (k : Nat) : List ByteArray := xs.take k ++ List.replicate (xs.length - k) OTHER
theorem mix1_len (xs : List ByteArray) (k : Nat) (h : k ≤ xs.length) : (mix1 xs k).length = xs.length := by simp [mix1]; omega
theorem mix2_len (xs : List ByteArray) (k : Nat) (h : k ≤ xs.length) : (mix2 xs k).length = xs.length := by simp [mix2]; omega
theorem mix1_set (xs : List ByteArray) (k : Nat) (h : k < xs.length) : (mix1 xs k).set k OTHER = mix1 xs (k + 1) := by
  unfold mix1
  rw [List.set_append_right _ _ (by simp), List.length_replicate, Nat.sub_self, List.drop_eq_getElem_cons h, List.set_cons_zero, List.replicate_succ', List.append_assoc]
  rfl
theorem mix2_set (xs : List ByteArray) (k : Nat) (h : k < xs.length) : (mix2 xs k).set k (xs.getD k ByteArray.empty) = mix2 xs (k + 1) := by
  unfold mix2
  rw [List.set_append_right _ _ (by simp; omega), List.length_take, Nat.min_eq_left (by omega), Nat.sub_self]
  obtain ⟨m, hm⟩ : ∃ m, xs.length - k = m + 1 := ⟨xs.length - k - 1, by omega⟩
  rw [hm, List.replicate_succ, List.set_cons_zero, show xs.length - (k + 1) = m by omega, List.take_add_one, List.getElem?_eq_getElem h, List.getD_eq_getElem?_getD, List.getElem?_eq_getElem h, List.append_assoc]
  rfl
theorem mix_end (xs : List ByteArray) : mix1 xs xs.length = mix2 xs 0 := by simp [mix1, mix2]
theorem mix2_end (xs : List ByteArray) : mix2 xs xs.length = xs := by simp [mix2]
theorem set_row (ys : List ByteArray) (z : Value) (k : Nat) (x : ByteArray) (h : k < ys.length) : (ys.map Value.string ++ [z]).set k (.string x) = (ys.set k x).map Value.string ++ [z] := by
  rw [List.set_append_left _ _ (by rw [List.length_map]; exact h), List.map_set]
theorem tk_rep (n k : Nat) (h : k ≤ n) : tk (List.replicate n OTHER) k = 5 * k := by
  induction k with
  | zero => rfl
  | succ k ih =>
    show tk _ k + ((List.replicate n OTHER).getD k ByteArray.empty).size = _
    rw [ih (by omega), List.getD_eq_getElem?_getD, List.getElem?_replicate, if_pos (by omega)]
    show 5 * k + 5 = _
    omega
end Go.Proofs.YthblljfkodbbeaaDoor.yg
