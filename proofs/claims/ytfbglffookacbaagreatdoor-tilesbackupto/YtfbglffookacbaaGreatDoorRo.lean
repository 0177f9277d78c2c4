import Derived.Test.YtfbglffookacbaaGreatDoorRn
namespace Go.Proofs.YtfbglffookacbaaGreatDoor.ro
open Go.RowKit Go.PlainAid Go.Shelf
open Go.Proofs.YtfbglffookacbaaGreatDoor.ta Go.Proofs.YtfbglffookacbaaGreatDoor.tb Go.Proofs.YtfbglffookacbaaGreatDoor.tc Go.Proofs.YtfbglffookacbaaGreatDoor.tj Go.Proofs.YtfbglffookacbaaGreatDoor.cp Go.Proofs.YtfbglffookacbaaGreatDoor.wa Go.Proofs.YtfbglffookacbaaGreatDoor.wb Go.Proofs.YtfbglffookacbaaGreatDoor.a1 Go.Proofs.YtfbglffookacbaaGreatDoor.a2 Go.Proofs.YtfbglffookacbaaGreatDoor.a3 Go.Proofs.YtfbglffookacbaaGreatDoor.a4 Go.Proofs.YtfbglffookacbaaGreatDoor.a7 Go.Proofs.YtfbglffookacbaaGreatDoor.a8 Go.Proofs.YtfbglffookacbaaGreatDoor.r3 Go.Proofs.YtfbglffookacbaaGreatDoor.r8 Go.Proofs.YtfbglffookacbaaGreatDoor.r9 Go.Proofs.YtfbglffookacbaaGreatDoor.ra Go.Proofs.YtfbglffookacbaaGreatDoor.rg Go.Proofs.YtfbglffookacbaaGreatDoor.rj Go.Proofs.YtfbglffookacbaaGreatDoor.rk Go.Proofs.YtfbglffookacbaaGreatDoor.rl Go.Proofs.YtfbglffookacbaaGreatDoor.rm Go.Proofs.YtfbglffookacbaaGreatDoor.rn
set_option linter.unusedVariables false
set_option maxRecDepth 4000

-- both sides read a tile's path as that tile
theorem g_path (h l i c : Int) (g : Goes h l i c) : g1 (pathS h l i c) = h ∧ g2 (pathS h l i c) = l ∧ g3 (pathS h l i c) = i ∧ g4 (pathS h l i c) = c := by
  obtain ⟨h0, h62, l0, l62, i0, i62, c1, c256, hh1, hh8⟩ := goes_small g
  have e := gs_path h l i c g l62 i62 c256
  rw [gsV_eq] at e
  injection e with e
  have e0 := congrArg (fun a : Array Value => a[0]?) e
  have e1 := congrArg (fun a : Array Value => a[1]?) e
  have e2 := congrArg (fun a : Array Value => a[2]?) e
  have e3 := congrArg (fun a : Array Value => a[3]?) e
  simp at e0 e1 e2 e3
  exact ⟨e0, e1, e2, e3⟩
def pV (p : ByteArray) : Value := prV (g1 p) (g2 p) (g3 p) (g4 p) p
theorem pV_yes (h l i c : Int) (g : Goes h l i c) : pV (pathS h l i c) = .tuple #[.agg #[.int .i64 h, .int .i64 l, .int .i64 i, .int .i64 c], .int .i64 0] := by
  obtain ⟨e1, e2, e3, e4⟩ := g_path h l i c g
  unfold pV prV
  rw [e1, e2, e3, e4, if_pos ⟨g, rfl⟩]
theorem pV_no (p : ByteArray) (h : ∀ h l i c, ¬ isT h l i c p) : pV p = noV := if_neg (h _ _ _ _)
theorem dV_yes (h l i c : Int) (g : Goes h l i c) : drV (pathS h l i c) = .tuple #[.agg #[.int .i64 h, .int .i64 l, .int .i64 i, .int .i64 c], .int .i64 0] := by
  obtain ⟨h0, h62, l0, l62, i0, i62, c1, c256, hh1, hh8⟩ := goes_small g
  obtain ⟨e0, e1, e2, e3, e4⟩ := rd_path h l i c g l62 i62 c256
  unfold drV
  rw [if_neg e0, e1, e2, e3, e4]
  exact if_pos ⟨g, rfl⟩
theorem dV_no (p : ByteArray) (h : ∀ h l i c, ¬ isT h l i c p) : drV p = noV := by
  unfold drV
  split
  · rfl
  · exact if_neg (h _ _ _ _)
theorem isT_or (p : ByteArray) : (∃ h l i c, isT h l i c p) ∨ ∀ h l i c, ¬ isT h l i c p := by
  by_cases e : ∃ h l i c, isT h l i c p
  · exact .inl e
  · exact .inr fun h l i c x => e ⟨h, l, i, c, x⟩
theorem both_same (p : ByteArray) : drV p = pV p := by
  rcases isT_or p with ⟨h, l, i, c, g, rfl⟩ | h
  · rw [pV_yes h l i c g, dV_yes h l i c g]
  · rw [pV_no p h, dV_no p h]
theorem pV_form (p : ByteArray) : ∃ a b c d e : Int, pV p = .tuple #[.agg #[.int .i64 a, .int .i64 b, .int .i64 c, .int .i64 d], .int .i64 e] := by
  unfold pV prV
  split
  · exact ⟨_, _, _, _, _, rfl⟩
  · exact ⟨_, _, _, _, _, rfl⟩
-- THE LAW: TilesParse
set_option maxHeartbeats 3200000 in
theorem law_parse (path : ByteArray) (hs : path.size ≤ 2097152) (w : World) (hN : NumW w) (hM : MaxW w) (hP : PowT w) :
    Calls Tryz.prog 4 #[.string path] w fun e w' => e = .returned (.bool true) ∧ Below w.heap.size w w' := by
  have C1 : Hid (Calls _ _ _ _ _) := parseC path hs w hN hM hP
  have C2 : Hid (∀ W, PowT W → Calls _ _ _ _ _) := fun W h => parseD path hs W h
  have C3 : Hid (∀ n w, Calls _ _ _ _ _) := numC
  obtain ⟨a, b, c, d, n, hV⟩ := pV_form path
  rw [both_same path, hV] at C2
  rw [show prV (g1 path) (g2 path) (g3 path) (g4 path) path = pV path from rfl, hV] at C1
  have PP : Hid (∀ W, Below w.heap.size w W → PowT W) := fun W h => PowT.down hP h
  clear hN hM hP hV
  go_enter Tryz.func4, Tryz.ntmps4
  go_wp2_with fail
  refine C1.out.mono ?_
  rintro e w1 ⟨rfl, hb⟩
  have B1 : Hid (Below w.heap.size w w1) := hb
  clear hb
  obtain ⟨W2, HW2⟩ : ∃ W, Hid (w1.alloc (i4 a b c d) = W) := ⟨_, rfl⟩
  have b2 : Below w1.heap.size w1 W2 := by rw [← HW2.out]; exact (Below.refl _ _).alloc (Nat.le_refl _) _
  have B2 : Hid (Below w.heap.size w W2) := B1.out.trans (b2.mono B1.out.size)
  have R2 : Hid (W2.heap[w1.heap.size]? = some (i4 a b c d)) := by show _ = _; rw [← HW2.out]; exact heap_alloc_new _ _
  clear b2
  go_upto_region 2 with fail
  rw [show w1.alloc (.cells #[.int .i64 a, .int .i64 b, .int .i64 c, .int .i64 d] 23) = W2 from HW2.out]
  go_wp2_with fail
  refine (C2.out W2 (PP.out _ B2.out)).mono ?_
  rintro e w3 ⟨rfl, hb⟩
  have R3 : Hid (w3.heap[w1.heap.size]? = some (i4 a b c d)) := (hb.block _ (Array.getElem?_eq_some_iff.1 R2.out).1).trans R2.out
  have B3 : Hid (Below w.heap.size w w3) := B2.out.trans (hb.mono B2.out.size)
  clear hb
  obtain ⟨W4, HW4⟩ : ∃ W, Hid (w3.alloc (i4 a b c d) = W) := ⟨_, rfl⟩
  have b4 : Below w3.heap.size w3 W4 := by rw [← HW4.out]; exact (Below.refl _ _).alloc (Nat.le_refl _) _
  have B4 : Hid (Below w.heap.size w W4) := B3.out.trans (b4.mono B3.out.size)
  have R4 : Hid (W4.heap[w3.heap.size]? = some (i4 a b c d)) := by show _ = _; rw [← HW4.out]; exact heap_alloc_new _ _
  have R5 : Hid (W4.heap[w1.heap.size]? = some (i4 a b c d)) := (b4.block _ (Array.getElem?_eq_some_iff.1 R3.out).1).trans R3.out
  clear b4
  go_upto_region 3 with fail
  rw [show w3.alloc (.cells #[.int .i64 a, .int .i64 b, .int .i64 c, .int .i64 d] 23) = W4 from HW4.out]
  obtain ⟨k0, k1, k2, k3, -⟩ := row4 R4.out
  obtain ⟨m0, m1, m2, m3, -⟩ := row4 R5.out
  go_wp2_with fail
  refine (C3.out _ _).mono ?_
  rintro e w5 ⟨rfl, rfl⟩
  go_wp2
  go_ret
  exact ⟨by simp, B4.out⟩
end Go.Proofs.YtfbglffookacbaaGreatDoor.ro
