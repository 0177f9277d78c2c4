import Derived.Test.YtjkkijeamcihiaaRc
namespace Go.Proofs.Ytjkkijeamcihiaa.rd
open Go.RowKit Go.PlainAid Go.Maps
open Go.Proofs.Ytjkkijeamcihiaa.kp Go.Proofs.Ytjkkijeamcihiaa.ra Go.Proofs.Ytjkkijeamcihiaa.rb Go.Proofs.Ytjkkijeamcihiaa.rc Go.Proofs.Ytjkkijeamcihiaa.sa
set_option linter.unusedVariables false
set_option linter.unusedSimpArgs false

-- but for the cells of P the world is as it was
structure Fx (P : Addr → Prop) (w w' : World) : Prop where
  os : w'.os = w.os
  tape : w'.tape = w.tape
  output : w'.output = w.output
  size : w'.heap.size = w.heap.size
  cell : ∀ a, ¬ P a → w'.cell? a = w.cell? a
  frz : ∀ a, w'.frozen? a = w.frozen? a
  blk : ∀ k, (∀ a : Addr, a.block = k → ¬ P a) → w'.heap[k]? = w.heap[k]?
theorem Fx.trans {P : Addr → Prop} {a b c : World} (x : Fx P a b) (y : Fx P b c) : Fx P a c :=
  ⟨y.os.trans x.os, y.tape.trans x.tape, y.output.trans x.output, y.size.trans x.size, fun q h => (y.cell q h).trans (x.cell q h), fun q => (y.frz q).trans (x.frz q), fun k h => (y.blk k h).trans (x.blk k h)⟩
theorem Fx.mono {P Q : Addr → Prop} {a b : World} (x : Fx P a b) (h : ∀ q, P q → Q q) : Fx Q a b :=
  ⟨x.os, x.tape, x.output, x.size, fun q hq => x.cell q (fun p => hq (h q p)), x.frz, fun k hk => x.blk k (fun q e p => hk q e (h q p))⟩
theorem Fx.set {P : Addr → Prop} (w : World) (a : Addr) (v : Value) (h : P a) : Fx P w (w.setCell a v) :=
  ⟨rfl, rfl, rfl, by simp [World.setCell], fun q hq => World.cell?_setCell_other _ _ _ _ (fun e => hq (e ▸ h)), fun q => World.frozen?_setCell _ _ _ _, fun k hk => Below.heap_setCell _ _ _ _ (fun e => hk a e.symm h)⟩
theorem Fx.drew {P : Addr → Prop} {w w' : World} (x : Fx P w w') : Fx P w w'.drew := ⟨x.os, x.tape, x.output, x.size, x.cell, x.frz, x.blk⟩
theorem Fx.refl (P : Addr → Prop) (w : World) : Fx P w w := ⟨rfl, rfl, rfl, rfl, fun _ _ => rfl, fun _ => rfl, fun _ _ => rfl⟩
theorem Fx.kp {P : Addr → Prop} {A : Nat → Prop} {w w' : World} (x : Fx P w w') (h : ∀ a, P a → A a.block) : Kp A w w' :=
  ⟨x.os, x.tape, x.output, Nat.le_of_eq x.size.symm, fun k hk hn => x.blk k (fun a e p => hn (e ▸ h a p))⟩
-- the ring's cells
def RP (d g : Nat) (bs : List Nat) (a : Addr) : Prop := (a.block = g ∧ (a.off = 2 + d ∨ a.off = 3 + d)) ∨ (a.block ∈ bs ∧ (a.off = d ∨ a.off = d + 1))
theorem rp_adr {d g : Nat} {bs : List Nat} (j : Nat) (x : Nat) (hx : x = d ∨ x = d + 1) : RP d g bs (sh (adr ⟨g, 2, none⟩ bs j) x) := by
  cases j with
  | zero => left; exact ⟨rfl, by show 2 + x = _ ∨ 2 + x = _; omega⟩
  | succ j =>
    by_cases h : j < bs.length
    · rw [adr_in h]
      right
      exact ⟨List.getElem_mem h, by show 0 + x = _ ∨ 0 + x = _; omega⟩
    · rw [adr_out (by omega)]
      left
      exact ⟨rfl, by show 2 + x = _ ∨ 2 + x = _; omega⟩
theorem adr_form (g : Nat) (bs : List Nat) (j : Nat) : ∃ b o, adr ⟨g, 2, none⟩ bs j = ⟨b, o, none⟩ := by
  cases j with
  | zero => exact ⟨g, 2, rfl⟩
  | succ j =>
    by_cases h : j < bs.length
    · exact ⟨_, _, adr_in h⟩
    · exact ⟨_, _, adr_out (by omega)⟩
theorem leaveR {g i : Nat} {bs : List Nat} {w : World} (h : Ring 2 w ⟨g, 2, none⟩ bs) (hi : i < bs.length) :
    Calls Try.prog 58 #[pt (lk bs[i])] w fun e w' => e = .returned (.tuple #[]) ∧ Ring 2 w' ⟨g, 2, none⟩ (bs.eraseIdx i) ∧ Fx (RP 2 g (bs.eraseIdx i)) w w' := by
  have R := h.leave hi
  have a0 : RP 2 g (bs.eraseIdx i) (sh (adr ⟨g, 2, none⟩ bs i) (2 + 1)) := by
    have := rp_adr (d := 2) (g := g) (bs := bs.eraseIdx i) i (2 + 1) (.inr rfl)
    rw [adr_erase hi, if_pos (Nat.le_refl _)] at this
    exact this
  have a1 : RP 2 g (bs.eraseIdx i) (sh (adr ⟨g, 2, none⟩ bs (i + 2)) 2) := by
    have := rp_adr (d := 2) (g := g) (bs := bs.eraseIdx i) (i + 1) 2 (.inl rfl)
    rw [adr_erase hi, if_neg (by omega)] at this
    exact this
  have F : Fx (RP 2 g (bs.eraseIdx i)) w ((w.setCell (sh (adr ⟨g, 2, none⟩ bs i) (2 + 1)) (pt (adr ⟨g, 2, none⟩ bs (i + 2)))).setCell (sh (adr ⟨g, 2, none⟩ bs (i + 2)) 2) (pt (adr ⟨g, 2, none⟩ bs i))) :=
    (Fx.set _ _ _ a0).trans (Fx.set _ _ _ a1)
  have n1 := h.nw (i + 1) hi
  have o1 := h.ol (i + 1) hi
  rw [adr_in hi, show pv bs.length (i + 1) = i from rfl] at n1
  rw [adr_in hi] at o1
  obtain ⟨q, hq, hqn, hqi⟩ : ∃ q, adr ⟨g, 2, none⟩ bs (i + 2) = adr ⟨g, 2, none⟩ bs q ∧ q ≤ bs.length ∧ (q = i + 2 ∨ q = 0) := by
    by_cases h1 : i + 1 < bs.length
    · exact ⟨i + 2, rfl, by omega, .inl rfl⟩
    · exact ⟨0, adr_out (by omega), by omega, .inr rfl⟩
  have o2 := h.ol i (by omega)
  have f2 := h.fo i (by omega)
  have n3 := h.nw q hqn
  have f3 := h.fn q hqn
  have c4 : (w.setCell (sh (adr ⟨g, 2, none⟩ bs i) (2 + 1)) (pt (adr ⟨g, 2, none⟩ bs (i + 2)))).cell? (sh (adr ⟨g, 2, none⟩ bs q) 2) = some (pt (adr ⟨g, 2, none⟩ bs (pv bs.length q))) := by
    rw [World.cell?_setCell_other _ _ _ _ (sh_ne h.nd h.ne (by omega) hqn (by omega))]
    exact n3
  rw [← hq] at n3 f3 c4
  obtain ⟨pb, po, hp⟩ := adr_form g bs i
  obtain ⟨qb, qo, hq2⟩ := adr_form g bs (i + 2)
  rw [hq2] at n3 f3 c4 o1
  rw [hp] at n1 o2 f2 c4
  rw [hp, hq2] at R F
  exact (leaveC bs[i] pb po qb qo w _ _ n1 o1 o2 n3 f2 f3 c4).mono fun e w' ⟨h1, h2⟩ => ⟨h1, by rw [h2]; exact ⟨R.nd, R.ne, R.nw, R.ol, R.fn, R.fo⟩, by rw [h2]; exact F.drew⟩
theorem enterR {g b : Nat} {bs : List Nat} {w : World} (h : Ring 2 w ⟨g, 2, none⟩ bs) (hb : b ∉ bs) (hbe : b ≠ g) {u v : Value} (hu : w.cell? ⟨b, 2, none⟩ = some u) (hv : w.cell? ⟨b, 3, none⟩ = some v) (fu : w.frozen? ⟨b, 2, none⟩ = false) (fv : w.frozen? ⟨b, 3, none⟩ = false) :
    Calls Try.prog 39 #[pt (lk b), pt ⟨g, 2, none⟩] w fun e w' => e = .returned (.tuple #[]) ∧ Ring 2 w' ⟨g, 2, none⟩ (b :: bs) ∧ Fx (RP 2 g (b :: bs)) w w' := by
  have R := h.enter (b := b) hb hbe (show w.cell? (sh (lk b) 2) = some u from hu) (show w.cell? (sh (lk b) (2 + 1)) = some v from hv) fu fv
  have a0 : RP 2 g (b :: bs) (sh (lk b) 2) := .inr ⟨List.mem_cons_self, .inl rfl⟩
  have a1 : RP 2 g (b :: bs) (sh (lk b) (2 + 1)) := .inr ⟨List.mem_cons_self, .inr rfl⟩
  have a2 : RP 2 g (b :: bs) (sh ⟨g, 2, none⟩ (2 + 1)) := .inl ⟨rfl, .inr rfl⟩
  have a3 : RP 2 g (b :: bs) (sh (adr ⟨g, 2, none⟩ bs 1) 2) := by
    have := rp_adr (d := 2) (g := g) (bs := bs) 1 2 (.inl rfl)
    rcases this with h1 | ⟨h1, h2⟩
    · exact .inl h1
    · exact .inr ⟨List.mem_cons_of_mem _ h1, h2⟩
  have F : Fx (RP 2 g (b :: bs)) w ((((w.setCell (sh (lk b) 2) (pt ⟨g, 2, none⟩)).setCell (sh (lk b) (2 + 1)) (pt (adr ⟨g, 2, none⟩ bs 1))).setCell (sh ⟨g, 2, none⟩ (2 + 1)) (pt (lk b))).setCell (sh (adr ⟨g, 2, none⟩ bs 1) 2) (pt (lk b))) :=
    (((Fx.set _ _ _ a0).trans (Fx.set _ _ _ a1)).trans (Fx.set _ _ _ a2)).trans (Fx.set _ _ _ a3)
  obtain ⟨q, hq, hqn⟩ : ∃ q, adr ⟨g, 2, none⟩ bs 1 = adr ⟨g, 2, none⟩ bs q ∧ q ≤ bs.length := by
    by_cases h1 : 0 < bs.length
    · exact ⟨1, rfl, by omega⟩
    · exact ⟨0, adr_out (by omega), by omega⟩
  have o1 := h.ol 0 (by omega)
  have f1 := h.fo 0 (by omega)
  have n2 := h.nw q hqn
  have f2 := h.fn q hqn
  rw [← hq] at n2 f2
  have nb : ∀ (x y : Nat), sh (lk b) x ≠ sh (adr ⟨g, 2, none⟩ bs 1) y := by
    intro x y e
    have e := congrArg Addr.block e
    rw [hq] at e
    have e : b = (adr ⟨g, 2, none⟩ bs q).block := e
    cases q with
    | zero => exact hbe e
    | succ q => rw [adr_in hqn] at e; exact hb (e ▸ List.getElem_mem _)
  have ng : ∀ (x y : Nat), sh (lk b) x ≠ sh (⟨g, 2, none⟩ : Addr) y := by
    intro x y e
    exact hbe (congrArg Addr.block e)
  have n3 : sh (lk b) 2 ≠ sh (lk b) 3 := by intro e; have := congrArg Addr.off e; simp [sh] at this
  obtain ⟨qb, qo, hq2⟩ := adr_form g bs 1
  obtain ⟨W, HW⟩ : ∃ W, Hid ((w.setCell (sh (lk b) 2) (pt ⟨g, 2, none⟩)).setCell (sh (lk b) (2 + 1)) (pt (adr ⟨g, 2, none⟩ bs 1)) = W) := ⟨_, rfl⟩
  have v2 : (w.setCell (sh (lk b) 2) (pt ⟨g, 2, none⟩)).cell? (sh (lk b) 3) = some v := by
    rw [World.cell?_setCell_other _ _ _ _ n3]; exact hv
  have w2 : W.cell? (sh (lk b) 2) = some (pt ⟨g, 2, none⟩) := by
    rw [← HW.out, World.cell?_setCell_other _ _ _ _ (Ne.symm n3), World.cell?_setCell_same _ _ _ (show w.cell? (sh (lk b) 2) = some u from hu)]
  have w3 : W.cell? (sh (lk b) 3) = some (pt (adr ⟨g, 2, none⟩ bs 1)) := by
    rw [← HW.out, World.cell?_setCell_same _ _ _ v2]
  have wx : W.cell? (sh ⟨g, 2, none⟩ 3) = some (pt (adr ⟨g, 2, none⟩ bs 1)) := by
    rw [← HW.out, World.cell?_setCell_other _ _ _ _ (ng _ _), World.cell?_setCell_other _ _ _ _ (ng _ _)]
    exact o1
  have wy : W.cell? (sh (adr ⟨g, 2, none⟩ bs 1) 2) = some (pt (adr ⟨g, 2, none⟩ bs (pv bs.length q))) := by
    rw [← HW.out, World.cell?_setCell_other _ _ _ _ (nb _ _), World.cell?_setCell_other _ _ _ _ (nb _ _)]
    exact n2
  have wz : (W.setCell (sh ⟨g, 2, none⟩ 3) (pt (lk b))).cell? (sh (adr ⟨g, 2, none⟩ bs 1) 2) = some (pt (adr ⟨g, 2, none⟩ bs (pv bs.length q))) := by
    rw [World.cell?_setCell_other, wy]
    rw [hq]
    exact sh_ne (e := ⟨g, 2, none⟩) h.nd h.ne (i := 0) (by omega) hqn (by omega)
  have fz : ∀ a, W.frozen? a = w.frozen? a := fun a => by rw [← HW.out, World.frozen?_setCell, World.frozen?_setCell]
  have fx : W.frozen? (sh ⟨g, 2, none⟩ 3) = false := by rw [fz]; exact f1
  have fy : W.frozen? (sh (adr ⟨g, 2, none⟩ bs 1) 2) = false := by rw [fz]; exact f2
  rw [HW.out] at R F
  rw [hq2] at w3 wx wy wz fy R F HW
  have o1 : w.cell? ⟨g, 2 + 3, none⟩ = some (pt ⟨qb, qo, none⟩) := by rw [← hq2]; exact o1
  exact (enterC b g 2 qb qo w W u v _ _ _ o1 hu v2 fu fv HW w2 w3 wx wy wz fx fy).mono fun e w' ⟨h1, h2⟩ => ⟨h1, by rw [h2]; exact ⟨R.nd, R.ne, R.nw, R.ol, R.fn, R.fo⟩, by rw [h2]; exact F.drew⟩
end Go.Proofs.Ytjkkijeamcihiaa.rd
