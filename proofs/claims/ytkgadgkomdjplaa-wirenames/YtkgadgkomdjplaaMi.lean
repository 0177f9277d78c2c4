import Derived.Test.YtkgadgkomdjplaaCp
import Derived.Deep.AppendLies
import Derived.Laws.AppendOwnNone
import Derived.Lib.SliceRun
import Derived.BigQuiet
namespace Go.Proofs.Ytkgadgkomdjplaa.mi
open Go.RowKit Go.PlainAid
open Go.Proofs.Ytkgadgkomdjplaa.ca Go.Proofs.Ytkgadgkomdjplaa.cp
set_option linter.unusedVariables false

-- a list of numbers in memory
def ReadsI (w : World) (v : Value) (xs : List Int) : Prop :=
  ∃ a cap, v = .slice a xs.length cap ∧ xs.length ≤ cap ∧ (xs.length = 0 ∨ ∃ b off, a = some ⟨b, off, none⟩ ∧ ∀ i, i < xs.length → w.cell? ⟨b, off + i, none⟩ = some (.int .i64 (xs.getD i 0)))
theorem ReadsI.keep {w w' : World} {v : Value} {xs : List Int} (h : ReadsI w v xs) (hb : ∀ p u, w.cell? p = some u → w'.cell? p = some u) : ReadsI w' v xs := by
  obtain ⟨a, cap, rfl, hc, h0 | ⟨b, off, rfl, hh⟩⟩ := h
  · exact ⟨a, cap, rfl, hc, .inl h0⟩
  · exact ⟨_, cap, rfl, hc, .inr ⟨b, off, rfl, fun i hi => hb _ _ (hh i hi)⟩⟩
theorem ReadsI.later {w w' : World} {v : Value} {xs : List Int} (h : ReadsI w v xs) (hb : Below w.heap.size w w') : ReadsI w' v xs :=
  h.keep fun p u hu => (hb.cell (World.block_lt_of_cell? _ _ hu)).trans hu
-- what is said of the places
def bad (xs : List Int) (n : Int) (k : Nat) : Int :=
  if xs.getD k 0 < 0 then 81 else if n ≤ xs.getD k 0 then 81 else if 0 < k ∧ xs.getD k 0 ≤ xs.getD (k - 1) 0 then 84 else 0
def scan (f : Nat → Int) : Nat → Nat → Int
  | 0, _ => 0
  | m + 1, k => if f k = 0 then scan f m (k + 1) else f k
def places (xs : List Int) (n : Int) : Int := if xs.length = 0 then 82 else if 1024 < xs.length then 83 else scan (bad xs n) xs.length 0
theorem scan_ok (f : Nat → Int) (m : Nat) : ∀ k, scan f m k = 0 → ∀ j, k ≤ j → j < k + m → f j = 0 := by
  induction m with
  | zero => intro k h j h1 h2; omega
  | succ m ih =>
    intro k h j h1 h2
    unfold scan at h
    split at h
    · rename_i h0
      rcases Nat.eq_or_lt_of_le h1 with e | e
      · rw [← e]; exact h0
      · exact ih (k + 1) h j (by omega) (by omega)
    · contradiction
theorem places_ok {xs : List Int} {n : Int} (h : places xs n = 0) : 1 ≤ xs.length ∧ xs.length ≤ 1024 ∧ (∀ j, j < xs.length → 0 ≤ xs.getD j 0 ∧ xs.getD j 0 < n) ∧ (∀ j, j + 1 < xs.length → xs.getD j 0 < xs.getD (j + 1) 0) := by
  unfold places at h
  split at h
  · omega
  · split at h
    · omega
    · have hs := scan_ok (bad xs n) xs.length 0 h
      refine ⟨by omega, by omega, fun j hj => ?_, fun j hj => ?_⟩
      · have := hs j (Nat.zero_le _) (by omega)
        unfold bad at this
        split at this
        · omega
        · split at this
          · omega
          · omega
      · have := hs (j + 1) (Nat.zero_le _) (by omega)
        unfold bad at this
        split at this
        · omega
        · split at this
          · omega
          · split at this
            · omega
            · rename_i g
              rw [Nat.add_sub_cancel] at g
              omega
theorem rise_lt {xs : List Int} (h : ∀ j, j + 1 < xs.length → xs.getD j 0 < xs.getD (j + 1) 0) (i d : Nat) (hd : i + d + 1 < xs.length) : xs.getD i 0 < xs.getD (i + d + 1) 0 := by
  induction d with
  | zero => exact h i hd
  | succ d ih =>
    have h1 := ih (by omega)
    have h2 := h (i + d + 1) hd
    exact Int.lt_trans h1 h2
end Go.Proofs.Ytkgadgkomdjplaa.mi
