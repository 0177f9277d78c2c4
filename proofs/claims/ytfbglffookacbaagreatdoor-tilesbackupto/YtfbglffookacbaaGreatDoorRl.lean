import Derived.Test.YtfbglffookacbaaGreatDoorRh
import Derived.Test.YtfbglffookacbaaGreatDoorRk
namespace Go.Proofs.YtfbglffookacbaaGreatDoor.rl
open Go.RowKit Go.PlainAid Go.Shelf
open Go.Proofs.YtfbglffookacbaaGreatDoor.ta Go.Proofs.YtfbglffookacbaaGreatDoor.tb Go.Proofs.YtfbglffookacbaaGreatDoor.tc Go.Proofs.YtfbglffookacbaaGreatDoor.tj Go.Proofs.YtfbglffookacbaaGreatDoor.cp Go.Proofs.YtfbglffookacbaaGreatDoor.wa Go.Proofs.YtfbglffookacbaaGreatDoor.wb Go.Proofs.YtfbglffookacbaaGreatDoor.a1 Go.Proofs.YtfbglffookacbaaGreatDoor.a2 Go.Proofs.YtfbglffookacbaaGreatDoor.a3 Go.Proofs.YtfbglffookacbaaGreatDoor.a4 Go.Proofs.YtfbglffookacbaaGreatDoor.a7 Go.Proofs.YtfbglffookacbaaGreatDoor.r3 Go.Proofs.YtfbglffookacbaaGreatDoor.r8 Go.Proofs.YtfbglffookacbaaGreatDoor.r9 Go.Proofs.YtfbglffookacbaaGreatDoor.ra Go.Proofs.YtfbglffookacbaaGreatDoor.rg Go.Proofs.YtfbglffookacbaaGreatDoor.rh Go.Proofs.YtfbglffookacbaaGreatDoor.rj Go.Proofs.YtfbglffookacbaaGreatDoor.rk
set_option linter.unusedVariables false
set_option maxRecDepth 4000

-- what is guessed, in numbers
def g1 (p : ByteArray) : Int := if (ptsL p).length < 4 then 0 else gsH p
def g2 (p : ByteArray) : Int := if (ptsL p).length < 4 then 0 else gsL p
def g3 (p : ByteArray) : Int := if (ptsL p).length < 4 then 0 else gsI p
def g4 (p : ByteArray) : Int := if (ptsL p).length < 4 then 0 else gsC p
theorem gsV_eq (p : ByteArray) : gsV p = .agg #[.int .i64 (g1 p), .int .i64 (g2 p), .int .i64 (g3 p), .int .i64 (g4 p)] := by
  unfold gsV g1 g2 g3 g4
  split <;> rfl
theorem g_in (p : ByteArray) : i64 (g1 p) ∧ i64 (g2 p) ∧ i64 (g3 p) ∧ i64 (g4 p) := by
  have z : i64 0 := ⟨by omega, by omega⟩
  have c : i64 (gsC p) := by
    unfold gsC
    split
    · rename_i h
      have := pow8 (gsH p) h.2.1 h.2.2
      exact ⟨by omega, by omega⟩
    · exact numV_in _
  unfold g1 g2 g3 g4
  split
  · exact ⟨z, z, z, z⟩
  · exact ⟨numV_in _, numV_in _, numV_in _, c⟩
-- what is answered: a tile that goes and has this path
def isT (h l i c : Int) (p : ByteArray) : Prop := Goes h l i c ∧ pathS h l i c = p
instance (h l i c : Int) (p : ByteArray) : Decidable (isT h l i c p) := by unfold isT; infer_instance
def prV (h l i c : Int) (p : ByteArray) : Value := if isT h l i c p then .tuple #[.agg #[.int .i64 h, .int .i64 l, .int .i64 i, .int .i64 c], .int .i64 0] else .tuple #[.agg #[.int .i64 0, .int .i64 0, .int .i64 0, .int .i64 0], .int .i64 230]
theorem row4 {W : World} {b : Nat} {a0 a1 a2 a3 : Value} (h : W.heap[b]? = some (.cells #[a0, a1, a2, a3] 23 (0, 0))) : W.cell? ⟨b, 0, none⟩ = some a0 ∧ W.cell? ⟨b, 1, none⟩ = some a1 ∧ W.cell? ⟨b, 2, none⟩ = some a2 ∧ W.cell? ⟨b, 3, none⟩ = some a3 ∧ W.frozen? ⟨b, 0, none⟩ = false ∧ W.frozen? ⟨b, 1, none⟩ = false ∧ W.frozen? ⟨b, 2, none⟩ = false ∧ W.frozen? ⟨b, 3, none⟩ = false := by
  refine ⟨?_, ?_, ?_, ?_, frozen_of_row W b 0 _ _ h, frozen_of_row W b 1 _ _ h, frozen_of_row W b 2 _ _ h, frozen_of_row W b 3 _ _ h⟩ <;> (rw [cell_of_row _ _ _ _ _ _ h]; rfl)
def put4W (W : World) (b : Nat) (x0 x1 x2 x3 : Value) : World := (((W.setCell ⟨b, 0, none⟩ x0).setCell ⟨b, 1, none⟩ x1).setCell ⟨b, 2, none⟩ x2).setCell ⟨b, 3, none⟩ x3
theorem put4_below {B : Nat} {w W : World} (hb : Below B w W) (b : Nat) (h : B ≤ b) (x0 x1 x2 x3 : Value) : Below B w (put4W W b x0 x1 x2 x3) :=
  (((hb.setCell (p := ⟨b, 0, none⟩) h _).setCell (p := ⟨b, 1, none⟩) h _).setCell (p := ⟨b, 2, none⟩) h _).setCell (p := ⟨b, 3, none⟩) h _
theorem put4_row {W : World} {b : Nat} {a0 a1 a2 a3 : Value} (h : W.heap[b]? = some (.cells #[a0, a1, a2, a3] 23 (0, 0))) (x0 x1 x2 x3 : Value) : (put4W W b x0 x1 x2 x3).heap[b]? = some (.cells #[x0, x1, x2, x3] 23 (0, 0)) := put4 W b _ _ _ _ _ h _ _ _ _
set_option maxHeartbeats 3200000 in
theorem parseAny (path : ByteArray) (a b c d : Int) (za : i64 a) (zb : i64 b) (zc : i64 c) (zd : i64 d) (G : ∀ W : World, NumW W → MaxW W → Calls Tryz.prog 15 #[.string path] W fun e w' => e = .returned (.agg #[.int .i64 a, .int .i64 b, .int .i64 c, .int .i64 d]) ∧ Below W.heap.size W w') (w : World) (hN : NumW w) (hM : MaxW w) (hP : PowT w) :
    Calls Tryz.prog 7 #[.string path] w fun e w' => e = .returned (prV a b c d path) ∧ Below w.heap.size w w' := by
  obtain ⟨W0, HW0⟩ : ∃ W0, Hid (w.alloc (.cells #[.int .i64 0, .int .i64 0, .int .i64 0, .int .i64 0] 23) = W0) := ⟨_, rfl⟩
  have B0 : Hid (Below w.heap.size w W0) := by show Below _ _ _; rw [← HW0.out]; exact (Below.refl _ _).alloc (Nat.le_refl _) _
  have HT0 : Hid (W0.heap[w.heap.size]? = some (.cells #[.int .i64 0, .int .i64 0, .int .i64 0, .int .i64 0] 23 (0, 0))) := by show _ = _; rw [← HW0.out]; exact heap_alloc_new _ _
  have GC : Hid (Calls _ _ _ _ _) := G W0 (hN.down B0.out) (hM.down B0.out)
  have PC : Hid (∀ W, PowT W → Calls _ _ _ _ _) := fun W hw => pathC a b c d za zb zc zd W hw
  have PP : Hid (∀ W, Below w.heap.size w W → PowT W) := fun W h => PowT.down hP h
  clear hN hM hP G
  have E4 : Hid (∀ (W : World) (x0 x1 x2 x3 : Value), Below w.heap.size w W → W.heap[w.heap.size]? = some (.cells #[.int .i64 0, .int .i64 0, .int .i64 0, .int .i64 0] 23 (0, 0)) → ∃ W9, Hid (put4W W w.heap.size x0 x1 x2 x3 = W9) ∧ Hid (Below w.heap.size w W9) ∧ W9.cell? ⟨w.heap.size, 0, none⟩ = some x0 ∧ W9.cell? ⟨w.heap.size, 1, none⟩ = some x1 ∧ W9.cell? ⟨w.heap.size, 2, none⟩ = some x2 ∧ W9.cell? ⟨w.heap.size, 3, none⟩ = some x3) := by
    intro W x0 x1 x2 x3 hb hr
    obtain ⟨d0, d1, d2, d3, -⟩ := row4 (put4_row hr x0 x1 x2 x3)
    exact ⟨_, rfl, put4_below hb _ (Nat.le_refl _) _ _ _ _, d0, d1, d2, d3⟩
  go_enter Tryz.func7, Tryz.ntmps7
  go_wp2_with fail
  rw [HW0.out]
  refine GC.out.mono ?_
  rintro e w1 ⟨rfl, hb⟩
  have B1 : Hid (Below w.heap.size w w1) := B0.out.trans (hb.mono B0.out.size)
  have HT1 : Hid (w1.heap[w.heap.size]? = some (.cells #[.int .i64 0, .int .i64 0, .int .i64 0, .int .i64 0] 23 (0, 0))) := (hb.block _ (Array.getElem?_eq_some_iff.1 HT0.out).1).trans HT0.out
  clear hb
  obtain ⟨W2, HW2⟩ : ∃ W2, Hid (w1.alloc (.cells #[.int .i64 a, .int .i64 b, .int .i64 c, .int .i64 d] 23) = W2) := ⟨_, rfl⟩
  have b2 : Below w1.heap.size w1 W2 := by rw [← HW2.out]; exact (Below.refl _ _).alloc (Nat.le_refl _) _
  have B2 : Hid (Below w.heap.size w W2) := B1.out.trans (b2.mono B1.out.size)
  have HT2 : Hid (W2.heap[w.heap.size]? = some (.cells #[.int .i64 0, .int .i64 0, .int .i64 0, .int .i64 0] 23 (0, 0))) := (b2.block _ (Array.getElem?_eq_some_iff.1 HT1.out).1).trans HT1.out
  have HR2 : Hid (W2.heap[w1.heap.size]? = some (.cells #[.int .i64 a, .int .i64 b, .int .i64 c, .int .i64 d] 23 (0, 0))) := by show _ = _; rw [← HW2.out]; exact heap_alloc_new _ _
  clear b2
  go_upto_region 2 with fail
  rw [HW2.out]
  obtain ⟨k0, k1, k2, k3, f0, f1, f2, f3⟩ := row4 HR2.out
  go_wp2_with fail
  refine (PC.out W2 (PP.out _ B2.out)).mono ?_
  rintro e w3 ⟨rfl, hb⟩
  have B3 : Hid (Below w.heap.size w w3) := B2.out.trans (hb.mono B2.out.size)
  have HT3 : Hid (w3.heap[w.heap.size]? = some (.cells #[.int .i64 0, .int .i64 0, .int .i64 0, .int .i64 0] 23 (0, 0))) := (hb.block _ (Array.getElem?_eq_some_iff.1 HT2.out).1).trans HT2.out
  have HR3 : Hid (w3.heap[w1.heap.size]? = some (.cells #[.int .i64 a, .int .i64 b, .int .i64 c, .int .i64 d] 23 (0, 0))) := (hb.block _ (Array.getElem?_eq_some_iff.1 HR2.out).1).trans HR2.out
  clear hb k0 k1 k2 k3 f0 f1 f2 f3
  obtain ⟨k0, k1, k2, k3, -⟩ := row4 HR3.out
  obtain ⟨m0, m1, m2, m3, n0, n1, n2, n3⟩ := row4 HT3.out
  obtain ⟨s, HS⟩ : ∃ s, Hid (pathS a b c d = s) := ⟨_, rfl⟩
  by_cases g : Goes a b c d
  · have HV : Hid (pathV a b c d = .tuple #[.string s, .int .i64 0]) := by show _ = _; rw [← HS.out]; exact if_pos g
    rw [HV.out]
    by_cases hp : s = path
    · have HU : Hid (prV a b c d path = .tuple #[.agg #[.int .i64 a, .int .i64 b, .int .i64 c, .int .i64 d], .int .i64 0]) := if_pos ⟨g, by rw [HS.out]; exact hp⟩
      clear g
      subst hp
      go_wp2
      obtain ⟨W9, HW9, B9, d0, d1, d2, d3⟩ := E4.out w3 (.int .i64 a) (.int .i64 b) (.int .i64 c) (.int .i64 d) B3.out HT3.out
      rw [show (((w3.setCell ⟨w.heap.size, 0, none⟩ (.int .i64 a)).setCell ⟨w.heap.size, 1, none⟩ (.int .i64 b)).setCell ⟨w.heap.size, 2, none⟩ (.int .i64 c)).setCell ⟨w.heap.size, 3, none⟩ (.int .i64 d) = W9 from HW9.out]
      refine bodyPost_ret (by simp [results, Tryz.results7, go_sem, d0, d1, d2, d3]; try rfl) rfl ?_
      exact ⟨by rw [HU.out], B9.out⟩
    · have HU : Hid (prV a b c d path = .tuple #[.agg #[.int .i64 0, .int .i64 0, .int .i64 0, .int .i64 0], .int .i64 230]) := if_neg fun e => hp (by rw [← e.2]; exact HS.out.symm)
      have ht : (s.toList == path.toList) = false := by rw [toList_bs]; exact decide_eq_false hp
      clear g hp
      go_wp2
      obtain ⟨W9, HW9, B9, d0, d1, d2, d3⟩ := E4.out w3 (.int .i64 0) (.int .i64 0) (.int .i64 0) (.int .i64 0) B3.out HT3.out
      rw [show (((w3.setCell ⟨w.heap.size, 0, none⟩ (.int .i64 0)).setCell ⟨w.heap.size, 1, none⟩ (.int .i64 0)).setCell ⟨w.heap.size, 2, none⟩ (.int .i64 0)).setCell ⟨w.heap.size, 3, none⟩ (.int .i64 0) = W9 from HW9.out]
      refine bodyPost_ret (by simp [results, Tryz.results7, go_sem, d0, d1, d2, d3]; try rfl) rfl ?_
      exact ⟨by rw [HU.out], B9.out⟩
  · have HV : Hid (pathV a b c d = .tuple #[.string ⟨#[]⟩, .int .i64 230]) := if_neg g
    have HU : Hid (prV a b c d path = .tuple #[.agg #[.int .i64 0, .int .i64 0, .int .i64 0, .int .i64 0], .int .i64 230]) := if_neg fun e => g e.1
    rw [HV.out]
    clear g
    go_wp2
    obtain ⟨W9, HW9, B9, d0, d1, d2, d3⟩ := E4.out w3 (.int .i64 0) (.int .i64 0) (.int .i64 0) (.int .i64 0) B3.out HT3.out
    rw [show (((w3.setCell ⟨w.heap.size, 0, none⟩ (.int .i64 0)).setCell ⟨w.heap.size, 1, none⟩ (.int .i64 0)).setCell ⟨w.heap.size, 2, none⟩ (.int .i64 0)).setCell ⟨w.heap.size, 3, none⟩ (.int .i64 0) = W9 from HW9.out]
    refine bodyPost_ret (by simp [results, Tryz.results7, go_sem, d0, d1, d2, d3]; try rfl) rfl ?_
    exact ⟨by rw [HU.out], B9.out⟩
-- THE PROGRAM'S Parse
theorem parseC (path : ByteArray) (hs : path.size ≤ 2097152) (w : World) (hN : NumW w) (hM : MaxW w) (hP : PowT w) :
    Calls Tryz.prog 7 #[.string path] w fun e w' => e = .returned (prV (g1 path) (g2 path) (g3 path) (g4 path) path) ∧ Below w.heap.size w w' := by
  obtain ⟨za, zb, zc, zd⟩ := g_in path
  refine parseAny path _ _ _ _ za zb zc zd (fun W hn hm => ?_) w hN hM hP
  rw [← gsV_eq]
  exact guessC path hs W hn hm
end Go.Proofs.YtfbglffookacbaaGreatDoor.rl
