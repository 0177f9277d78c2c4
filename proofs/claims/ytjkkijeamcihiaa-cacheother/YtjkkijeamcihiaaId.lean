import Derived.Test.YtjkkijeamcihiaaIc
import Derived.Test.YtjkkijeamcihiaaRd
namespace Go.Proofs.Ytjkkijeamcihiaa.id
open Go.RowKit Go.PlainAid Go.Maps
open Go.Proofs.Ytjkkijeamcihiaa.rd (Fx RP rp_adr adr_form)
open Go.Proofs.Ytjkkijeamcihiaa.kp Go.Proofs.Ytjkkijeamcihiaa.ra Go.Proofs.Ytjkkijeamcihiaa.ib Go.Proofs.Ytjkkijeamcihiaa.ic Go.Proofs.Ytjkkijeamcihiaa.sa
set_option linter.unusedVariables false
set_option linter.unusedSimpArgs false

theorem leaveR {g i : Nat} {bs : List Nat} {w : World} (h : Ring 3 w ⟨g, 2, none⟩ bs) (hi : i < bs.length) :
    Calls Try.prog 66 #[pt (lk bs[i])] w fun e w' => e = .returned (.tuple #[]) ∧ Ring 3 w' ⟨g, 2, none⟩ (bs.eraseIdx i) ∧ Fx (RP 3 g (bs.eraseIdx i)) w w' := by
  have R := h.leave hi
  have a0 : RP 3 g (bs.eraseIdx i) (sh (adr ⟨g, 2, none⟩ bs i) (3 + 1)) := by
    have := rp_adr (d := 3) (g := g) (bs := bs.eraseIdx i) i (3 + 1) (.inr rfl)
    rw [adr_erase hi, if_pos (Nat.le_refl _)] at this
    exact this
  have a1 : RP 3 g (bs.eraseIdx i) (sh (adr ⟨g, 2, none⟩ bs (i + 2)) 3) := by
    have := rp_adr (d := 3) (g := g) (bs := bs.eraseIdx i) (i + 1) 3 (.inl rfl)
    rw [adr_erase hi, if_neg (by omega)] at this
    exact this
  have F : Fx (RP 3 g (bs.eraseIdx i)) w ((w.setCell (sh (adr ⟨g, 2, none⟩ bs i) (3 + 1)) (pt (adr ⟨g, 2, none⟩ bs (i + 2)))).setCell (sh (adr ⟨g, 2, none⟩ bs (i + 2)) 3) (pt (adr ⟨g, 2, none⟩ bs i))) :=
    (Fx.set _ _ _ a0).trans (Fx.set _ _ _ a1)
  have n1 := h.nw (i + 1) hi
  have o1 := h.ol (i + 1) hi
  rw [adr_in hi, show pv bs.length (i + 1) = i from rfl] at n1
  rw [adr_in hi] at o1
  obtain ⟨q, hq, hqn, hqi⟩ : ∃ q, adr ⟨g, 2, none⟩ bs (i + 2) = adr ⟨g, 2, none⟩ bs q ∧ q ≤ bs.length ∧ (q = i + 2 ∨ q = 0) := by
    by_cases h1 : i + 1 < bs.length
    · exact ⟨i + 2, rfl, by omega, .inl rfl⟩
    · exact ⟨0, adr_out (by omega), by omega, .inr rfl⟩
  have o2 := h.ol i (by omega)
  have f2 := h.fo i (by omega)
  have n3 := h.nw q hqn
  have f3 := h.fn q hqn
  have c4 : (w.setCell (sh (adr ⟨g, 2, none⟩ bs i) (3 + 1)) (pt (adr ⟨g, 2, none⟩ bs (i + 2)))).cell? (sh (adr ⟨g, 2, none⟩ bs q) 3) = some (pt (adr ⟨g, 2, none⟩ bs (pv bs.length q))) := by
    rw [World.cell?_setCell_other _ _ _ _ (sh_ne h.nd h.ne (by omega) hqn (by omega))]
    exact n3
  rw [← hq] at n3 f3 c4
  obtain ⟨pb, po, hp⟩ := adr_form g bs i
  obtain ⟨qb, qo, hq2⟩ := adr_form g bs (i + 2)
  rw [hq2] at n3 f3 c4 o1
  rw [hp] at n1 o2 f2 c4
  rw [hp, hq2] at R F
  exact (leaveC bs[i] pb po qb qo w _ _ n1 o1 o2 n3 f2 f3 c4).mono fun e w' ⟨h1, h2⟩ => ⟨h1, by rw [h2]; exact ⟨R.nd, R.ne, R.nw, R.ol, R.fn, R.fo⟩, by rw [h2]; exact F.drew⟩
theorem enterR {g b : Nat} {bs : List Nat} {w : World} (h : Ring 3 w ⟨g, 2, none⟩ bs) (hb : b ∉ bs) (hbe : b ≠ g) {u v : Value} (hu : w.cell? ⟨b, 3, none⟩ = some u) (hv : w.cell? ⟨b, 4, none⟩ = some v) (fu : w.frozen? ⟨b, 3, none⟩ = false) (fv : w.frozen? ⟨b, 4, none⟩ = false) :
    Calls Try.prog 64 #[pt (lk b), pt ⟨g, 2, none⟩] w fun e w' => e = .returned (.tuple #[]) ∧ Ring 3 w' ⟨g, 2, none⟩ (b :: bs) ∧ Fx (RP 3 g (b :: bs)) w w' := by
  have R := h.enter (b := b) hb hbe (show w.cell? (sh (lk b) 3) = some u from hu) (show w.cell? (sh (lk b) (3 + 1)) = some v from hv) fu fv
  have a0 : RP 3 g (b :: bs) (sh (lk b) 3) := .inr ⟨List.mem_cons_self, .inl rfl⟩
  have a1 : RP 3 g (b :: bs) (sh (lk b) (3 + 1)) := .inr ⟨List.mem_cons_self, .inr rfl⟩
  have a2 : RP 3 g (b :: bs) (sh ⟨g, 2, none⟩ (3 + 1)) := .inl ⟨rfl, .inr rfl⟩
  have a3 : RP 3 g (b :: bs) (sh (adr ⟨g, 2, none⟩ bs 1) 3) := by
    have := rp_adr (d := 3) (g := g) (bs := bs) 1 3 (.inl rfl)
    rcases this with h1 | ⟨h1, h2⟩
    · exact .inl h1
    · exact .inr ⟨List.mem_cons_of_mem _ h1, h2⟩
  have F : Fx (RP 3 g (b :: bs)) w ((((w.setCell (sh (lk b) 3) (pt ⟨g, 2, none⟩)).setCell (sh (lk b) (3 + 1)) (pt (adr ⟨g, 2, none⟩ bs 1))).setCell (sh ⟨g, 2, none⟩ (3 + 1)) (pt (lk b))).setCell (sh (adr ⟨g, 2, none⟩ bs 1) 3) (pt (lk b))) :=
    (((Fx.set _ _ _ a0).trans (Fx.set _ _ _ a1)).trans (Fx.set _ _ _ a2)).trans (Fx.set _ _ _ a3)
  obtain ⟨q, hq, hqn⟩ : ∃ q, adr ⟨g, 2, none⟩ bs 1 = adr ⟨g, 2, none⟩ bs q ∧ q ≤ bs.length := by
    by_cases h1 : 0 < bs.length
    · exact ⟨1, rfl, by omega⟩
    · exact ⟨0, adr_out (by omega), by omega⟩
  have o1 := h.ol 0 (by omega)
  have f1 := h.fo 0 (by omega)
  have n2 := h.nw q hqn
  have f2 := h.fn q hqn
  rw [← hq] at n2 f2
  have nb : ∀ (x y : Nat), sh (lk b) x ≠ sh (adr ⟨g, 2, none⟩ bs 1) y := by
    intro x y e
    have e := congrArg Addr.block e
    rw [hq] at e
    have e : b = (adr ⟨g, 2, none⟩ bs q).block := e
    cases q with
    | zero => exact hbe e
    | succ q => rw [adr_in hqn] at e; exact hb (e ▸ List.getElem_mem _)
  have ng : ∀ (x y : Nat), sh (lk b) x ≠ sh (⟨g, 2, none⟩ : Addr) y := by
    intro x y e
    exact hbe (congrArg Addr.block e)
  have n3 : sh (lk b) 3 ≠ sh (lk b) 4 := by intro e; have := congrArg Addr.off e; simp [sh] at this
  obtain ⟨qb, qo, hq2⟩ := adr_form g bs 1
  obtain ⟨W, HW⟩ : ∃ W, Hid ((w.setCell (sh (lk b) 3) (pt ⟨g, 2, none⟩)).setCell (sh (lk b) (3 + 1)) (pt (adr ⟨g, 2, none⟩ bs 1)) = W) := ⟨_, rfl⟩
  have v2 : (w.setCell (sh (lk b) 3) (pt ⟨g, 2, none⟩)).cell? (sh (lk b) 4) = some v := by
    rw [World.cell?_setCell_other _ _ _ _ n3]; exact hv
  have w2 : W.cell? (sh (lk b) 3) = some (pt ⟨g, 2, none⟩) := by
    rw [← HW.out, World.cell?_setCell_other _ _ _ _ (Ne.symm n3), World.cell?_setCell_same _ _ _ (show w.cell? (sh (lk b) 3) = some u from hu)]
  have w3 : W.cell? (sh (lk b) 4) = some (pt (adr ⟨g, 2, none⟩ bs 1)) := by
    rw [← HW.out, World.cell?_setCell_same _ _ _ v2]
  have wx : W.cell? (sh ⟨g, 2, none⟩ 4) = some (pt (adr ⟨g, 2, none⟩ bs 1)) := by
    rw [← HW.out, World.cell?_setCell_other _ _ _ _ (ng _ _), World.cell?_setCell_other _ _ _ _ (ng _ _)]
    exact o1
  have wy : W.cell? (sh (adr ⟨g, 2, none⟩ bs 1) 3) = some (pt (adr ⟨g, 2, none⟩ bs (pv bs.length q))) := by
    rw [← HW.out, World.cell?_setCell_other _ _ _ _ (nb _ _), World.cell?_setCell_other _ _ _ _ (nb _ _)]
    exact n2
  have wz : (W.setCell (sh ⟨g, 2, none⟩ 4) (pt (lk b))).cell? (sh (adr ⟨g, 2, none⟩ bs 1) 3) = some (pt (adr ⟨g, 2, none⟩ bs (pv bs.length q))) := by
    rw [World.cell?_setCell_other, wy]
    rw [hq]
    exact sh_ne (e := ⟨g, 2, none⟩) h.nd h.ne (i := 0) (by omega) hqn (by omega)
  have fz : ∀ a, W.frozen? a = w.frozen? a := fun a => by rw [← HW.out, World.frozen?_setCell, World.frozen?_setCell]
  have fx : W.frozen? (sh ⟨g, 2, none⟩ 4) = false := by rw [fz]; exact f1
  have fy : W.frozen? (sh (adr ⟨g, 2, none⟩ bs 1) 3) = false := by rw [fz]; exact f2
  rw [HW.out] at R F
  rw [hq2] at w3 wx wy wz fy R F HW
  have o1 : w.cell? ⟨g, 2 + 4, none⟩ = some (pt ⟨qb, qo, none⟩) := by rw [← hq2]; exact o1
  exact (enterC b g 2 qb qo w W u v _ _ _ o1 hu v2 fu fv HW w2 w3 wx wy wz fx fy).mono fun e w' ⟨h1, h2⟩ => ⟨h1, by rw [h2]; exact ⟨R.nd, R.ne, R.nw, R.ol, R.fn, R.fo⟩, by rw [h2]; exact F.drew⟩
end Go.Proofs.Ytjkkijeamcihiaa.id
