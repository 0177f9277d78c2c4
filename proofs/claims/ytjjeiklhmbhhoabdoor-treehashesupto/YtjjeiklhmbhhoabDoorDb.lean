import Derived.Test.YtjjeiklhmbhhoabDoorDa
import Derived.Test.YtjjeiklhmbhhoabDoorCt
import Derived.Test.YtjjeiklhmbhhoabDoorCu
import Derived.Test.YtjjeiklhmbhhoabDoorCn
namespace Go.Proofs.YtjjeiklhmbhhoabDoor.db
open Go.RowKit Go.PlainAid
open Go.Proofs.YtjjeiklhmbhhoabDoor.ca Go.Proofs.YtjjeiklhmbhhoabDoor.cb Go.Proofs.YtjjeiklhmbhhoabDoor.cp Go.Proofs.YtjjeiklhmbhhoabDoor.cs Go.Proofs.YtjjeiklhmbhhoabDoor.ct Go.Proofs.YtjjeiklhmbhhoabDoor.cu Go.Proofs.YtjjeiklhmbhhoabDoor.cn Go.Proofs.YtjjeiklhmbhhoabDoor.da
set_option linter.unusedVariables false

theorem cov_mem (p hi : Nat) : ∀ a ∈ cov p hi, p ≤ a.2 * 2 ^ a.1 ∧ (a.2 + 1) * 2 ^ a.1 ≤ hi ∧ a.1 ≤ 62 := by
  refine cov_fold (p := p) (hi := hi) (fun p hi => ∀ a ∈ cov p hi, p ≤ a.2 * 2 ^ a.1 ∧ (a.2 + 1) * 2 ^ a.1 ≤ hi ∧ a.1 ≤ 62) ?_ ?_
  · intro p h a ha
    rw [cov_end h] at ha
    cases ha
  · intro p k hlt hl ih a ha
    rw [cov_at hlt hl] at ha
    rcases List.mem_cons.1 ha with rfl | ha
    · have e : p / 2 ^ k * 2 ^ k = p := Nat.div_mul_cancel hl.2.1
      refine ⟨by show p ≤ p / 2 ^ k * 2 ^ k; omega, ?_, hl.1⟩
      show (p / 2 ^ k + 1) * 2 ^ k ≤ hi
      rw [Nat.add_mul, e, Nat.one_mul]
      have := hl.2.2.1
      omega
    · have := ih a ha
      exact ⟨by have := p2 k; omega, this.2⟩
theorem own_readsT {w : World} {B n : Nat} {v : Value} {xs : List ByteArray} (h : w.ownsRow B 9 1 v n (xs.map Value.string)) : ReadsT w v xs := by
  have hn : xs.length = n := by have := h.1; simpa using this
  subst hn
  rcases h.2 with ⟨rfl, h0⟩ | ⟨g, cap, cur, rfl, _, hg, hc, _⟩
  · exact ⟨none, 0, by rw [h0], by omega, .inl h0⟩
  · refine ⟨_, cap, rfl, hc, .inr ⟨g, 0, rfl, fun i hi => ?_⟩⟩
    rw [Nat.zero_add, h.cellAt i (by omega), List.getElem?_map, List.getElem?_eq_getElem hi, List.getD_eq_getElem?_getD, List.getElem?_eq_getElem hi]
    rfl
theorem hi9 : (Tryd.prog.info? 9).map (fun i => (i.zero, i.size, i.bytes)) = some (some (.string ByteArray.empty), 1, 16) := by kernel_rfl
def FoldC (T : World → Prop) (E : Int → ByteArray) (N : Int → ByteArray → ByteArray → ByteArray) : Prop :=
  ∀ (wd : Int) (v : Value) (xs : List ByteArray) (w : World), i64 wd → T w → ReadsT w v xs → (∀ x ∈ xs, x.size ≤ 140737488351232) → xs.length ≤ 140737488351233 → Calls Tryd.prog 10 #[.int .i64 wd, v] w fun e w' => e = .returned (.string (foldP (E wd) (N wd) xs)) ∧ Below w.heap.size w w'
theorem ReadsT.mid {w : World} {b off n cap f k : Nat} {xs : List ByteArray} (h : ReadsT w (.slice (some ⟨b, off, none⟩) n cap) xs) (hk : f + k ≤ xs.length) : ReadsT w (.slice (some ⟨b, off + f, none⟩) k (cap - f)) ((xs.drop f).take k) := by
  have h1 := h.back (k := f) (by omega)
  exact ReadsT.front (n := n - f) h1 (by rw [List.length_drop]; omega)
end Go.Proofs.YtjjeiklhmbhhoabDoor.db
