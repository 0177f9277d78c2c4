import Derived.Test.YtpbapaghcabehaaDoorVa
import Derived.Test.YtpbapaghcabehaaDoorUd
import Derived.Deep.WholeRow
namespace Go.Proofs.YtpbapaghcabehaaDoor.vb
open Go.RowKit Go.PlainAid
open Go.Proofs.YtpbapaghcabehaaDoor.ta Go.Proofs.YtpbapaghcabehaaDoor.tb Go.Proofs.YtpbapaghcabehaaDoor.tc Go.Proofs.YtpbapaghcabehaaDoor.td Go.Proofs.YtpbapaghcabehaaDoor.te Go.Proofs.YtpbapaghcabehaaDoor.tf Go.Proofs.YtpbapaghcabehaaDoor.tg Go.Proofs.YtpbapaghcabehaaDoor.th Go.Proofs.YtpbapaghcabehaaDoor.ti Go.Proofs.YtpbapaghcabehaaDoor.tj Go.Proofs.YtpbapaghcabehaaDoor.tk Go.Proofs.YtpbapaghcabehaaDoor.ue Go.Proofs.YtpbapaghcabehaaDoor.ub Go.Proofs.YtpbapaghcabehaaDoor.uc Go.Proofs.YtpbapaghcabehaaDoor.ud Go.Proofs.YtpbapaghcabehaaDoor.sh Go.Proofs.YtpbapaghcabehaaDoor.va
set_option linter.unusedVariables false

theorem over {w w1 w2 : World} (h : Below w.heap.size w w1) (b : Below w1.heap.size w1 w2) : Below w.heap.size w w2 := h.trans (b.mono h.size)
-- a list of texts in memory
def srow (xs : List ByteArray) : Array Value := (xs.map Value.string).toArray
theorem srow_get (xs : List ByteArray) (k : Nat) : (srow xs)[k]? = (xs[k]?).map Value.string := by simp [srow]
theorem srow_set (xs : List ByteArray) (k : Nat) (x : ByteArray) : (srow xs).setIfInBounds k (.string x) = srow (xs.set k x) := by simp [srow]
theorem srow_size (xs : List ByteArray) : (srow xs).size = xs.length := by simp [srow]
def Texts (w : World) (B : Nat) (v : Value) (xs : List ByteArray) : Prop :=
  (v = .slice none 0 0 ∧ xs = []) ∨ ∃ g, v = .slice (some ⟨g, 0, none⟩) xs.length xs.length ∧ B ≤ g ∧ w.heap[g]? = some (.cells (srow xs) 9 (0, 0))
theorem Texts.later {w w' : World} {B : Nat} {v : Value} {xs : List ByteArray} (h : Texts w B v xs) (hb : Below w.heap.size w w') : Texts w' B v xs := by
  rcases h with h | ⟨g, h1, h2, h3⟩
  · exact .inl h
  · exact .inr ⟨g, h1, h2, (hb.block g (Array.getElem?_eq_some_iff.1 h3).1).trans h3⟩

-- all of them read, or none
def allP : List (List Int) → Option (List (List Int))
  | [] => some []
  | p :: ps => match unP p with
    | none => none
    | some x => match allP ps with
      | none => none
      | some xs => some (x :: xs)
def wordsP (l : List Int) : Option (List (List Int)) := if l = [] then some [] else allP (parts 32 l)
theorem allP_length : ∀ (ps : List (List Int)) (xs : List (List Int)), allP ps = some xs → xs.length = ps.length
  | [], xs, h => by obtain rfl := Option.some.inj h; rfl
  | p :: ps, xs, h => by
    unfold allP at h
    cases hp : unP p with
    | none => rw [hp] at h; cases h
    | some x =>
      rw [hp] at h
      cases ha : allP ps with
      | none => rw [ha] at h; cases h
      | some ys => rw [ha] at h; obtain rfl := Option.some.inj h; simp [allP_length ps ys ha]
theorem allP_app : ∀ (ps qs : List (List Int)) (xs : List (List Int)), allP ps = some xs → allP (ps ++ qs) = (allP qs).map (xs ++ ·)
  | [], qs, xs, h => by obtain rfl := Option.some.inj h; simp
  | p :: ps, qs, xs, h => by
    unfold allP at h
    cases hp : unP p with
    | none => rw [hp] at h; cases h
    | some x =>
      rw [hp] at h
      cases ha : allP ps with
      | none => rw [ha] at h; cases h
      | some ys =>
        rw [ha] at h
        obtain rfl := Option.some.inj h
        rw [List.cons_append, allP, hp, allP_app ps qs ys ha]
        cases allP qs <;> rfl
theorem allP_snoc (ps : List (List Int)) (p : List Int) (xs : List (List Int)) (x : List Int) (h : allP ps = some xs) (hp : unP p = some x) : allP (ps ++ [p]) = some (xs ++ [x]) := by
  rw [allP_app ps [p] xs h]
  simp [allP, hp]
theorem allP_bad (ps qs : List (List Int)) (p : List Int) (xs : List (List Int)) (h : allP ps = some xs) (hp : unP p = none) : allP (ps ++ p :: qs) = none := by
  rw [allP_app ps _ xs h]
  simp [allP, hp]

def wordsR (w w' : World) (o : Option (List (List Int))) (e : Ending) : Prop :=
  match o with
  | some xs => ∃ v, e = .returned (.tuple #[v, .int .i64 0]) ∧ Texts w' w.heap.size v (xs.map str)
  | none => e = .returned (.tuple #[.slice none 0 0, .int .i64 44])
theorem strs_ne : 9 ≠ 84 := by decide

end Go.Proofs.YtpbapaghcabehaaDoor.vb
