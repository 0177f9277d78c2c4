import Derived.Test.YthblljfkodbbeabDoorZb
import Derived.Deep.RegionHeld
namespace Go.Proofs.YthblljfkodbbeabDoor.zc
open Go.RowKit Go.PlainAid
open Go.Proofs.YthblljfkodbbeabDoor.ta Go.Proofs.YthblljfkodbbeabDoor.tb Go.Proofs.YthblljfkodbbeabDoor.tc Go.Proofs.YthblljfkodbbeabDoor.tj Go.Proofs.YthblljfkodbbeabDoor.va Go.Proofs.YthblljfkodbbeabDoor.vb Go.Proofs.YthblljfkodbbeabDoor.vc Go.Proofs.YthblljfkodbbeabDoor.ya Go.Proofs.YthblljfkodbbeabDoor.yb Go.Proofs.YthblljfkodbbeabDoor.za Go.Proofs.YthblljfkodbbeabDoor.zb
set_option linter.unusedVariables false

-- the mark of list i
def mk (i : Nat) : ByteArray := (⟨#[109, 97, 114, 107]⟩ : ByteArray) ++ str [97 + ((i % 26 : Nat) : Int)]
theorem mk_size (i : Nat) : (mk i).size = 5 := by unfold mk; rw [ByteArray.size_append, str_size]; rfl
-- lists in a row, each with its block
structure Row (w : World) (B gv : Nat) (vs : List Value) (gs : List Nat) (xss : List (List ByteArray)) : Prop where
  lv : gs.length = vs.length
  lx : xss.length = vs.length
  cell : ∀ (i : Nat) (v : Value), vs[i]? = some v → w.cell? ⟨gv, i, none⟩ = some v
  lst : ∀ (i : Nat) (v : Value) (g : Nat) (xs : List ByteArray), vs[i]? = some v → gs[i]? = some g → xss[i]? = some xs → Lst w g v xs ∧ B ≤ g ∧ g ≠ gv
  apart : ∀ (i j g h : Nat), i ≠ j → gs[i]? = some g → gs[j]? = some h → g ≠ h
theorem Row.set {w : World} {B gv : Nat} {vs : List Value} {gs : List Nat} {xss : List (List ByteArray)} (h : Row w B gv vs gs xss) (i k g : Nat) (xs : List ByteArray) (x : ByteArray) (hg : gs[i]? = some g) (hx : xss[i]? = some xs) (hk : k < xs.length) :
    Row (w.setCell ⟨g, k, none⟩ (.string x)) B gv vs gs (xss.set i (xs.set k x)) := by
  have hil : i < gs.length := by
    rcases Nat.lt_or_ge i gs.length with e | e
    · exact e
    · rw [List.getElem?_eq_none e] at hg; cases hg
  have hiv : i < vs.length := by rw [← h.lv]; exact hil
  have hme := h.lst i _ g xs (List.getElem?_eq_getElem hiv) hg hx
  refine ⟨h.lv, by rw [List.length_set]; exact h.lx, fun j v hv => ?_, fun j v g' ys hv hg' hy => ?_, h.apart⟩
  · rw [World.cell?_setCell_far _ _ _ _ hme.2.2]
    exact h.cell j v hv
  · rcases Decidable.em (j = i) with rfl | hne
    · rw [hg] at hg'
      obtain rfl := Option.some.inj hg'
      rw [List.getElem?_set_self (by rw [h.lx]; exact hiv)] at hy
      obtain rfl := Option.some.inj hy
      have := h.lst j v g xs hv hg hx
      exact ⟨this.1.set hk x, this.2⟩
    · rw [List.getElem?_set_ne (fun e => hne e.symm)] at hy
      have := h.lst j v g' ys hv hg' hy
      exact ⟨this.1.kept fun o ho => (set_other w g k g' _ (h.apart j i g' g hne hg' hg)).trans ho, this.2⟩
end Go.Proofs.YthblljfkodbbeabDoor.zc
