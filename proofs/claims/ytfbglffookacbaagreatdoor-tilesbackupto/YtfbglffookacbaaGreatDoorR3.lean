import Derived.Test.YtfbglffookacbaaGreatDoorWa
import Derived.Test.YtfbglffookacbaaGreatDoorSh
import Derived.Test.YtfbglffookacbaaGreatDoorCp
import Derived.Laws.IdiomCopy
import Derived.Deep.RegionHeldLaw
namespace Go.Proofs.YtfbglffookacbaaGreatDoor.r3
open Go.RowKit Go.PlainAid Go.Shelf
open Go.Proofs.YtfbglffookacbaaGreatDoor.ta Go.Proofs.YtfbglffookacbaaGreatDoor.tb Go.Proofs.YtfbglffookacbaaGreatDoor.tc Go.Proofs.YtfbglffookacbaaGreatDoor.cp
set_option linter.unusedVariables false
set_option maxRecDepth 4000

-- a Replacer of 'x' and '/' by nothing
def keepL (l : List Int) : List Int := l.filter fun x => decide (¬ (x = 47 ∨ x = 120))
theorem keep_yes (l : List Int) (x : Int) (h : x = 47 ∨ x = 120) : keepL (l ++ [x]) = keepL l := by
  unfold keepL
  rw [List.filter_append, List.filter_cons, decide_eq_false (fun e => e h)]
  simp
theorem keep_no (l : List Int) (x : Int) (h : ¬ (x = 47 ∨ x = 120)) : keepL (l ++ [x]) = keepL l ++ [x] := by
  unfold keepL
  rw [List.filter_append, List.filter_cons, decide_eq_true h]
  rfl
def KK (s : ByteArray) (k : Nat) : Nat := (keepL (btL s k)).length
theorem KK_zero (s : ByteArray) : KK s 0 = 0 := rfl
theorem KK_yes (s : ByteArray) (k : Nat) (h : bt s k = 47 ∨ bt s k = 120) : KK s (k + 1) = KK s k := by unfold KK; rw [btL_succ, keep_yes _ _ h]
theorem KK_no (s : ByteArray) (k : Nat) (h : ¬ (bt s k = 47 ∨ bt s k = 120)) : KK s (k + 1) = KK s k + 1 := by unfold KK; rw [btL_succ, keep_no _ _ h, List.length_append]; rfl
theorem KK_le (s : ByteArray) (k : Nat) : KK s k ≤ k := by
  have h := List.length_filter_le (fun x : Int => decide (¬ (x = 47 ∨ x = 120))) (btL s k)
  rw [btL_length] at h
  exact h
theorem KK_mono (s : ByteArray) (k : Nat) : ∀ d, KK s k ≤ KK s (k + d)
  | 0 => Nat.le_refl _
  | d + 1 => by
    refine Nat.le_trans (KK_mono s k d) ?_
    rw [← Nat.add_assoc]
    by_cases h : bt s (k + d) = 47 ∨ bt s (k + d) = 120
    · rw [KK_yes s _ h]; exact Nat.le_refl _
    · rw [KK_no s _ h]; omega
theorem keep_all (l : List Int) (h : (keepL l).length = l.length) : keepL l = l := List.filter_sublist.eq_of_length h
def kpB (s : ByteArray) : ByteArray := str (keepL (bs s))
theorem kpB_same (s : ByteArray) (h : ¬ KK s s.size < s.size) : kpB s = s := by
  have h1 := KK_le s s.size
  have h2 : (keepL (bs s)).length = (bs s).length := by rw [bs_length]; show KK s s.size = _; omega
  unfold kpB
  rw [keep_all _ h2, str_bs]
theorem bs_list (q : ByteArray) : bs q = q.data.toList.map fun c => ((c.toNat : Nat) : Int) := by
  apply List.ext_getElem
  · rw [bs_length, List.length_map]; exact Array.length_toList.symm
  · intro j h1 h2
    rw [bs_length] at h1
    rw [bs_get _ _ h1, List.getElem_map]
    have := get_bt q j h1
    rw [← this]
    rfl
theorem count_all (l : List UInt8) : Lib.countByte l 47 + Lib.countByte l 120 + (keepL (l.map fun c => ((c.toNat : Nat) : Int))).length = l.length := by
  unfold Lib.countByte
  induction l with
  | nil => rfl
  | cons x l ih =>
    rw [List.count_cons, List.count_cons, List.map_cons, List.length_cons]
    unfold keepL at *
    rw [List.filter_cons]
    by_cases h1 : x = 47
    · subst h1
      simp at ih ⊢
      omega
    · by_cases h2 : x = 120
      · subst h2
        simp at ih ⊢
        omega
      · have e1 : (x == 47) = false := beq_eq_false_iff_ne.2 h1
        have e2 : (x == 120) = false := beq_eq_false_iff_ne.2 h2
        have n1 : ¬ ((x.toNat : Int) = 47 ∨ (x.toNat : Int) = 120) := by
          rintro (e | e)
          · exact h1 (UInt8.toNat_inj.1 (by show x.toNat = 47; omega))
          · exact h2 (UInt8.toNat_inj.1 (by show x.toNat = 120; omega))
        rw [if_neg (by rw [e1]; decide), if_neg (by rw [e2]; decide), decide_eq_true n1, if_pos rfl, List.length_cons]
        omega
theorem count_KK (s : ByteArray) : Lib.countByte s.data.toList 47 + Lib.countByte s.data.toList 120 + KK s s.size = s.size := by
  have h := count_all s.data.toList
  rw [← bs_list] at h
  exact h
structure Bsr (w : World) (r lo : Nat) : Prop where
  rlo : lo ≤ r
  yes : ∀ b : Nat, b = 47 ∨ b = 120 → ∃ z c, w.cell? ⟨r, b, none⟩ = some (.slice (some z) 0 c)
  no : ∀ b : Nat, b < 256 → ¬ (b = 47 ∨ b = 120) → w.cell? ⟨r, b, none⟩ = some (.slice none 0 0)
  two : ∃ tb c, lo ≤ tb ∧ w.cell? ⟨r, 256, none⟩ = some (.slice (some ⟨tb, 0, none⟩) 2 c) ∧ w.cell? ⟨tb, 0, none⟩ = some (.string ⟨#[47]⟩) ∧ w.cell? ⟨tb, 1, none⟩ = some (.string ⟨#[120]⟩)
theorem Bsr.map {w w' : World} {r lo : Nat} (h : Bsr w r lo) (K : ∀ (b o : Nat) (v : Value), lo ≤ b → w.cell? ⟨b, o, none⟩ = some v → w'.cell? ⟨b, o, none⟩ = some v) : Bsr w' r lo := by
  refine ⟨h.rlo, fun b hb => ?_, fun b h1 h2 => K _ _ _ h.rlo (h.no b h1 h2), ?_⟩
  · obtain ⟨z, c, e⟩ := h.yes b hb
    exact ⟨z, c, K _ _ _ h.rlo e⟩
  · obtain ⟨tb, c, e0, e1, e2, e3⟩ := h.two
    exact ⟨tb, c, e0, K _ _ _ h.rlo e1, K _ _ _ e0 e2, K _ _ _ e0 e3⟩
theorem Bsr.later {w w' : World} {r lo : Nat} (h : Bsr w r lo) (hb : Below w.heap.size w w') : Bsr w' r lo := h.map fun b o v _ hv => (hb.cell (World.block_lt_of_cell? _ _ hv)).trans hv
theorem Bsr.set {w : World} {r lo : Nat} (h : Bsr w r lo) (b o : Nat) (u : Value) (hb : b < lo) : Bsr (w.setCell ⟨b, o, none⟩ u) r lo := h.map fun b' o' v hl hv => (World.cell?_setCell_other _ ⟨b, o, none⟩ ⟨b', o', none⟩ _ (fun e => by injection e with e; omega)).trans hv
theorem countC (s : ByteArray) (c : UInt8) (w : World) : Calls Tryz.prog 51 #[.string s, .string ⟨#[c]⟩] w fun e w' => e = .returned (.int .i64 (Lib.countByte s.data.toList c)) ∧ w' = w := Any.strings_Count_one sh.lays138 s c w
end Go.Proofs.YtfbglffookacbaaGreatDoor.r3
