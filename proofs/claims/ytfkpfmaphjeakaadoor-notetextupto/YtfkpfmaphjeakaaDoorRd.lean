import Derived.Test.YtfkpfmaphjeakaaDoorRc
namespace Go.Proofs.YtfkpfmaphjeakaaDoor.rd
open Go.RowKit Go.PlainAid
open Go.Proofs.YtfkpfmaphjeakaaDoor.pl Go.Proofs.YtfkpfmaphjeakaaDoor.pd Go.Proofs.YtfkpfmaphjeakaaDoor.pf Go.Proofs.YtfkpfmaphjeakaaDoor.ra Go.Proofs.YtfkpfmaphjeakaaDoor.rb Go.Proofs.YtfkpfmaphjeakaaDoor.rc
set_option linter.unusedVariables false
set_option maxRecDepth 4000

theorem one_new (W : World) (u : Value) (t : TypeId) : (W.alloc (.cells #[u] t)).cell? ⟨W.heap.size, 0, none⟩ = some u := by
  rw [World.cell?_alloc_at _ _ _ _ rfl]; rfl

def lenV : Value → Nat | .slice _ n _ => n | _ => 0

def upL (s : ByteArray) (k : Nat) : List Int := btL s s.size ++ (128 :: List.replicate k 0)
theorem upL_next (s : ByteArray) (k : Nat) : upL s k ++ [0] = upL s (k + 1) := by simp [upL, List.replicate_succ']
def fullL (s : ByteArray) (z : Nat) (c : Int) (i : Nat) : List Int := upL s z ++ (lowB c 8).take i
theorem lowB_at (c : Int) : ∀ i, i < 8 → (lowB c 8)[i]? = some (c / 256 ^ (7 - i) % 256)
  | 0, _ => rfl
  | 1, _ => rfl
  | 2, _ => rfl
  | 3, _ => rfl
  | 4, _ => rfl
  | 5, _ => rfl
  | 6, _ => rfl
  | 7, _ => rfl
theorem fullL_next (s : ByteArray) (z : Nat) (c u : Int) (i : Nat) (hi : i < 8) (hu : u = c / 256 ^ (7 - i) % 256) : fullL s z c i ++ [u] = fullL s z c (i + 1) := by
  rw [fullL, fullL, List.append_assoc, List.take_add_one, lowB_at c i hi, hu]
  rfl
theorem pow_back (i : Nat) (h : i < 8) : (2 : Int) ^ (56 - 8 * i) = 256 ^ (7 - i) := by
  rw [show 56 - 8 * i = 8 * (7 - i) by omega, pow256]

theorem lowB_rng (c : Int) (k : Nat) : ∀ x ∈ lowB c k, 0 ≤ x ∧ x ≤ 255 := by
  induction k with
  | zero => intro x hx; cases hx
  | succ k ih =>
    intro x hx
    rcases List.mem_cons.1 hx with rfl | h
    · omega
    · exact ih x h
theorem padL_rng (n : Nat) : ∀ x ∈ padL n, 0 ≤ x ∧ x ≤ 255 := by
  intro x hx
  rcases List.mem_cons.1 hx with rfl | h
  · omega
  · rcases List.mem_append.1 h with h | h
    · have := (List.mem_replicate.1 h).2; omega
    · exact lowB_rng _ _ x h
theorem pad_at (s : ByteArray) (i : Nat) (hi : i < (padB s).size) : (btL s s.size ++ padL s.size).getD i 0 = bt (padB s) i := by
  rcases Nat.lt_or_ge i s.size with h | h
  · rw [padB, bt_append_left _ _ _ h, List.getD, List.getElem?_append_left (by rw [btL_length]; exact h)]
    exact btL_get s s.size i h
  · obtain ⟨j, rfl⟩ : ∃ j, i = s.size + j := ⟨i - s.size, by omega⟩
    have hj : j < (padL s.size).length := by
      rw [padB, ByteArray.size_append, str_size] at hi; omega
    have hr := padL_rng s.size _ (List.getElem_mem hj)
    rw [padB, bt_append_right, str_bt _ _ hj hr.1 hr.2, List.getD, List.getElem?_append_right (by rw [btL_length]; omega), btL_length, Nat.add_sub_cancel_left, List.getElem?_eq_getElem hj]
    rfl

end Go.Proofs.YtfkpfmaphjeakaaDoor.rd
