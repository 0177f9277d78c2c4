import Derived.Test.YtjjeiklhmbhhoabCk
namespace Go.Proofs.Ytjjeiklhmbhhoab.cl
open Go.RowKit Go.PlainAid
open Go.Proofs.Ytjjeiklhmbhhoab.ca Go.Proofs.Ytjjeiklhmbhhoab.cp Go.Proofs.Ytjjeiklhmbhhoab.cn Go.Proofs.Ytjjeiklhmbhhoab.cu Go.Proofs.Ytjjeiklhmbhhoab.cq Go.Proofs.Ytjjeiklhmbhhoab.cr Go.Proofs.Ytjjeiklhmbhhoab.ck
set_option linter.unusedVariables false

-- an address in a block of its own, the block told whole
structure Bh (w : World) (b : Nat) (L I : Int) : Prop where
  h : w.heap[b]? = some (.cells #[.int .i64 L, .int .i64 I] 23 (0, 0))
theorem Bh.one {w : World} {b : Nat} {L I : Int} (x : Bh w b L I) : w.cell? ⟨b, 0, none⟩ = some (.int .i64 L) := by rw [cell_of_row _ _ _ _ _ _ x.h]; rfl
theorem Bh.two {w : World} {b : Nat} {L I : Int} (x : Bh w b L I) : w.cell? ⟨b, 1, none⟩ = some (.int .i64 I) := by rw [cell_of_row _ _ _ _ _ _ x.h]; rfl
theorem Bh.fz {w : World} {b : Nat} {L I : Int} (x : Bh w b L I) (j : Nat) : w.frozen? ⟨b, j, none⟩ = false := frozen_of_row w b j _ _ x.h
theorem Bh.lt {w : World} {b : Nat} {L I : Int} (x : Bh w b L I) : b < w.heap.size := (Array.getElem?_eq_some_iff.1 x.h).1
theorem Bh.later {w w' : World} {b : Nat} {L I : Int} (x : Bh w b L I) (hb : Below w.heap.size w w') : Bh w' b L I := ⟨(hb.block b x.lt).trans x.h⟩
theorem bh_new (w : World) (L I : Int) : Bh (w.alloc (.cells #[.int .i64 L, .int .i64 I] 23)) w.heap.size L I := ⟨heap_alloc_new _ _⟩
theorem Bh.put {w : World} {b : Nat} {L I : Int} (x : Bh w b L I) (u v : Int) : Bh ((w.setCell ⟨b, 0, none⟩ (.int .i64 u)).setCell ⟨b, 1, none⟩ (.int .i64 v)) b u v :=
  ⟨heap_setCell_same _ b 1 _ _ _ (heap_setCell_same w b 0 _ _ _ x.h)⟩
theorem Bh.off {w : World} {b c : Nat} {L I : Int} (x : Bh w c L I) (h : c ≠ b) (u v : Value) : Bh ((w.setCell ⟨b, 0, none⟩ u).setCell ⟨b, 1, none⟩ v) c L I :=
  ⟨((heap_setCell_other _ ⟨b, 1, none⟩ c v h).trans (heap_setCell_other w ⟨b, 0, none⟩ c u h)).trans x.h⟩
theorem sp_form (L I : Int) : ∃ a b c, spV L I = .tuple #[.int .i64 a, .int .i64 b, .int .i64 c] := by
  unfold spV
  split
  · exact ⟨_, _, _, rfl⟩
  · exact ⟨_, _, _, rfl⟩
set_option maxHeartbeats 6400000 in
set_option maxRecDepth 100000 in
theorem tree_addr (VA : ValidC) (SP : SpanC) (PA : ParentC) (SI : SiblingC) (LE : LeftC) (RI : RightC) (L I : Int) (h0 : i64 L) (h1 : i64 I) (w : World) :
    Calls Try.prog 3 #[.agg #[.int .i64 L, .int .i64 I]] w fun e w' => e = .returned (.bool true) ∧ Below w.heap.size w w' := by
  have S1 : Hid (∀ w, Calls _ _ _ _ _) := fun w => SP L I h0 h1 w
  have S2 : Hid (∀ w, Calls _ _ _ _ _) := fun w => rSpan L I w
  obtain ⟨f, g, c, HS⟩ := sp_form L I
  rw [HS] at S1 S2
  have V1 : Hid (∀ w, Calls _ _ _ _ _) := fun w => VA L I h0 h1 w
  have V2 : Hid (∀ w, Calls _ _ _ _ _) := fun w => rValid L I w
  obtain ⟨ok, HOK⟩ : ∃ b, Hid (decide (okA L I) = b) := ⟨_, rfl⟩
  rw [HOK.out] at V1 V2
  have qf : (f == f) = true := beq_self_eq_true _
  have qg : (g == g) = true := beq_self_eq_true _
  have qc : (c == c) = true := beq_self_eq_true _
  have qo : (ok == ok) = true := beq_self_eq_true _
  have NC : Hid (∀ w, Calls _ _ _ _ _) := fun w => num c w
  obtain ⟨a1, b1, c1, HK1⟩ := kin_form L I (L + 1) (I / 2)
  have X1 : Hid (∀ w, Calls _ _ _ _ _) := fun w => PA L I h0 h1 w
  have Y1 : Hid (∀ w, Calls _ _ _ _ _) := fun w => rParent L I h0 h1 w
  rw [HK1] at X1 Y1
  have N1 : Hid (∀ w, Calls _ _ _ _ _) := fun w => num c1 w
  have qa1 : (a1 == a1) = true := beq_self_eq_true _
  have qb1 : (b1 == b1) = true := beq_self_eq_true _
  have qc1 : (c1 == c1) = true := beq_self_eq_true _
  obtain ⟨a2, b2, c2, HK2⟩ := kin_form L I (L) (sib I)
  have X2 : Hid (∀ w, Calls _ _ _ _ _) := fun w => SI L I h0 h1 w
  have Y2 : Hid (∀ w, Calls _ _ _ _ _) := fun w => rSibling L I h0 h1 w
  rw [HK2] at X2 Y2
  have N2 : Hid (∀ w, Calls _ _ _ _ _) := fun w => num c2 w
  have qa2 : (a2 == a2) = true := beq_self_eq_true _
  have qb2 : (b2 == b2) = true := beq_self_eq_true _
  have qc2 : (c2 == c2) = true := beq_self_eq_true _
  obtain ⟨a3, b3, c3, HK3⟩ := kin_form L I (L - 1) (2 * I)
  have X3 : Hid (∀ w, Calls _ _ _ _ _) := fun w => LE L I h0 h1 w
  have Y3 : Hid (∀ w, Calls _ _ _ _ _) := fun w => rLeft L I h0 h1 w
  rw [HK3] at X3 Y3
  have N3 : Hid (∀ w, Calls _ _ _ _ _) := fun w => num c3 w
  have qa3 : (a3 == a3) = true := beq_self_eq_true _
  have qb3 : (b3 == b3) = true := beq_self_eq_true _
  have qc3 : (c3 == c3) = true := beq_self_eq_true _
  obtain ⟨a4, b4, c4, HK4⟩ := kin_form L I (L - 1) (2 * I + 1)
  have X4 : Hid (∀ w, Calls _ _ _ _ _) := fun w => RI L I h0 h1 w
  have Y4 : Hid (∀ w, Calls _ _ _ _ _) := fun w => rRight L I h0 h1 w
  rw [HK4] at X4 Y4
  have N4 : Hid (∀ w, Calls _ _ _ _ _) := fun w => num c4 w
  have qa4 : (a4 == a4) = true := beq_self_eq_true _
  have qb4 : (b4 == b4) = true := beq_self_eq_true _
  have qc4 : (c4 == c4) = true := beq_self_eq_true _
  clear HS HK1 HK2 HK3 HK4 VA SP PA SI LE RI h0 h1
  have HA0 : Hid (Bh (w.alloc (.cells #[.int .i64 L, .int .i64 I] 23)) w.heap.size L I) := bh_new _ _ _
  have B0 : Hid (Below w.heap.size w (w.alloc (.cells #[.int .i64 L, .int .i64 I] 23))) := (Below.refl _ _).alloc (Nat.le_refl _) _
  go_enter Try.func3, Try.ntmps3
  go_wp2_with fail
  refine (S1.out _).mono ?_
  rintro e w1 ⟨rfl, hb⟩
  have B1 : Hid (Below w.heap.size w w1) := over B0.out hb
  have HA1 : Hid (Bh w1 w.heap.size L I) := HA0.out.later hb
  clear hb HA0 B0
  have ca1 := HA1.out.one
  have ca2 := HA1.out.two
  go_wp2_with fail
  refine (S2.out _).mono ?_
  rintro e w2 ⟨rfl, hb⟩
  have B2 : Hid (Below w.heap.size w w2) := over B1.out hb
  have HA2 : Hid (Bh w2 w.heap.size L I) := HA1.out.later hb
  clear hb ca1 ca2 HA1 B1
  have ca1 := HA2.out.one
  have ca2 := HA2.out.two
  go_wp2_with fail
  go_region_held3 (fun w' => w'.cell? ⟨w.heap.size, 0, none⟩ = some (.int .i64 L) ∧ w'.cell? ⟨w.heap.size, 1, none⟩ = some (.int .i64 I)) (first | exact ⟨ca1, ca2⟩ | exact ⟨ea1, ea2⟩ | exact ⟨fa1, fa2⟩) (first | (go_at_call 6; refine (V1.out _).mono ?_; rintro e w3 ⟨rfl, hb3⟩; have ea1 : w3.cell? ⟨w.heap.size, 0, none⟩ = some (.int .i64 L) := (hb3.cell (p := ⟨w.heap.size, 0, none⟩) HA2.out.lt).trans ca1; have ea2 : w3.cell? ⟨w.heap.size, 1, none⟩ = some (.int .i64 I) := (hb3.cell (p := ⟨w.heap.size, 1, none⟩) HA2.out.lt).trans ca2) | (go_at_call 7; refine (V2.out _).mono ?_; rintro e w4 ⟨rfl, hb4⟩; have fa1 : w4.cell? ⟨w.heap.size, 0, none⟩ = some (.int .i64 L) := (hb4.cell (p := ⟨w.heap.size, 0, none⟩) (Nat.lt_of_lt_of_le HA2.out.lt hb3.size)).trans ea1; have fa2 : w4.cell? ⟨w.heap.size, 1, none⟩ = some (.int .i64 I) := (hb4.cell (p := ⟨w.heap.size, 1, none⟩) (Nat.lt_of_lt_of_le HA2.out.lt hb3.size)).trans ea2) | (go_at_call 8; refine (NC.out _).mono ?_; rintro e w5 ⟨rfl, hw5⟩; subst hw5))
  have D3 : Below w2.heap.size w2 w3 := ⟨hb3.os, hb3.tape, hb3.output, hb3.size, hb3.block⟩
  have B5 : Hid (Below w.heap.size w w5) := over (over B2.out D3) hb4
  have HA5 : Hid (Bh w5 w.heap.size L I) := (HA2.out.later D3).later hb4
  clear D3 hb3 hb4 ea1 ea2 fa1 fa2 ca1 ca2 HA2 B2
  have HA5x1 := HA5.out.one
  have HA5x2 := HA5.out.two
  go_wp2_with fail
  refine (X1.out _).mono ?_
  rintro e w6 ⟨rfl, hb⟩
  have B6 : Hid (Below w.heap.size w w6) := over B5.out hb
  have Ha6 : Hid (Bh w6 w.heap.size L I) := HA5.out.later hb
  clear hb HA5x1 HA5x2
  have Q6 : Below w6.heap.size w6 (w6.alloc (.cells #[.int .i64 a1, .int .i64 b1] 23)) := (Below.refl _ _).alloc (Nat.le_refl _) _
  have Ha6b : Hid (Bh (w6.alloc (.cells #[.int .i64 a1, .int .i64 b1] 23)) w.heap.size L I) := Ha6.out.later Q6
  have Hb6b : Hid (Bh (w6.alloc (.cells #[.int .i64 a1, .int .i64 b1] 23)) w6.heap.size a1 b1) := bh_new _ _ _
  have B6b : Hid (Below w.heap.size w (w6.alloc (.cells #[.int .i64 a1, .int .i64 b1] 23))) := over B6.out Q6
  clear Q6
  have Ha6bx1 := Ha6b.out.one
  have Ha6bx2 := Ha6b.out.two
  go_wp2_with fail
  refine (Y1.out _).mono ?_
  rintro e w7 ⟨rfl, hb⟩
  have B7 : Hid (Below w.heap.size w w7) := over B6b.out hb
  have Ha7 : Hid (Bh w7 w.heap.size L I) := Ha6b.out.later hb
  have Hb7 : Hid (Bh w7 w6.heap.size a1 b1) := Hb6b.out.later hb
  clear hb Ha6bx1 Ha6bx2
  have Q7 : Below w7.heap.size w7 (w7.alloc (.cells #[.int .i64 a1, .int .i64 b1] 23)) := (Below.refl _ _).alloc (Nat.le_refl _) _
  have Ha7b : Hid (Bh (w7.alloc (.cells #[.int .i64 a1, .int .i64 b1] 23)) w.heap.size L I) := Ha7.out.later Q7
  have Hb7b : Hid (Bh (w7.alloc (.cells #[.int .i64 a1, .int .i64 b1] 23)) w6.heap.size a1 b1) := Hb7.out.later Q7
  have Hc7b : Hid (Bh (w7.alloc (.cells #[.int .i64 a1, .int .i64 b1] 23)) w7.heap.size a1 b1) := bh_new _ _ _
  have B7b : Hid (Below w.heap.size w (w7.alloc (.cells #[.int .i64 a1, .int .i64 b1] 23))) := over B7.out Q7
  have NAB : w.heap.size ≠ w6.heap.size := by have := Ha6.out.lt; omega
  have NAC : w.heap.size ≠ w7.heap.size := by have := Ha7.out.lt; omega
  have NBC : w6.heap.size ≠ w7.heap.size := by have := Hb7.out.lt; omega
  have HNN : Hid (w.heap.size ≠ w6.heap.size ∧ w.heap.size ≠ w7.heap.size ∧ w6.heap.size ≠ w7.heap.size) := ⟨NAB, NAC, NBC⟩
  have HLL : Hid (w.heap.size ≤ w6.heap.size ∧ w.heap.size ≤ w7.heap.size) := ⟨B6.out.size, B7.out.size⟩
  clear Q7 NAB NAC NBC
  have Hb7bx1 := Hb7b.out.one
  have Hb7bx2 := Hb7b.out.two
  have Hc7bx1 := Hc7b.out.one
  have Hc7bx2 := Hc7b.out.two
  go_wp2_with fail
  refine (N1.out _).mono ?_
  rintro e wn ⟨rfl, hw⟩
  subst hw
  clear Hb7bx1 Hb7bx2 Hc7bx1 Hc7bx2
  have Ha7bx1 := Ha7b.out.one
  have Ha7bx2 := Ha7b.out.two
  go_wp2_with fail
  refine (X2.out _).mono ?_
  rintro e w8 ⟨rfl, hb⟩
  have B8 : Hid (Below w.heap.size w w8) := over B7b.out hb
  have Ha8 : Hid (Bh w8 w.heap.size L I) := Ha7b.out.later hb
  have Hb8 : Hid (Bh w8 w6.heap.size a1 b1) := Hb7b.out.later hb
  have Hc8 : Hid (Bh w8 w7.heap.size a1 b1) := Hc7b.out.later hb
  clear hb Ha7bx1 Ha7bx2
  have d1 := Hb8.out.one
  have d2 := Hb8.out.two
  have d3 := Hb8.out.fz 0
  have d4 := Hb8.out.fz 1
  have B8b : Hid (Below w.heap.size w ((w8.setCell ⟨w6.heap.size, 0, none⟩ (.int .i64 a2)).setCell ⟨w6.heap.size, 1, none⟩ (.int .i64 b2))) := (B8.out.setCell (p := ⟨w6.heap.size, 0, none⟩) HLL.out.1 _).setCell (p := ⟨w6.heap.size, 1, none⟩) HLL.out.1 _
  have Ha8b : Hid (Bh ((w8.setCell ⟨w6.heap.size, 0, none⟩ (.int .i64 a2)).setCell ⟨w6.heap.size, 1, none⟩ (.int .i64 b2)) w.heap.size L I) := Ha8.out.off HNN.out.1 _ _
  have Hb8b : Hid (Bh ((w8.setCell ⟨w6.heap.size, 0, none⟩ (.int .i64 a2)).setCell ⟨w6.heap.size, 1, none⟩ (.int .i64 b2)) w6.heap.size a2 b2) := Hb8.out.put _ _
  have Hc8b : Hid (Bh ((w8.setCell ⟨w6.heap.size, 0, none⟩ (.int .i64 a2)).setCell ⟨w6.heap.size, 1, none⟩ (.int .i64 b2)) w7.heap.size a1 b1) := Hc8.out.off (Ne.symm HNN.out.2.2) _ _
  have Ha8bx1 := Ha8b.out.one
  have Ha8bx2 := Ha8b.out.two
  go_wp2_with fail
  refine (Y2.out _).mono ?_
  rintro e w9 ⟨rfl, hb⟩
  have B9 : Hid (Below w.heap.size w w9) := over B8b.out hb
  have Ha9 : Hid (Bh w9 w.heap.size L I) := Ha8b.out.later hb
  have Hb9 : Hid (Bh w9 w6.heap.size a2 b2) := Hb8b.out.later hb
  have Hc9 : Hid (Bh w9 w7.heap.size a1 b1) := Hc8b.out.later hb
  clear hb Ha8bx1 Ha8bx2
  clear d1 d2 d3 d4
  have d1 := Hc9.out.one
  have d2 := Hc9.out.two
  have d3 := Hc9.out.fz 0
  have d4 := Hc9.out.fz 1
  have B9b : Hid (Below w.heap.size w ((w9.setCell ⟨w7.heap.size, 0, none⟩ (.int .i64 a2)).setCell ⟨w7.heap.size, 1, none⟩ (.int .i64 b2))) := (B9.out.setCell (p := ⟨w7.heap.size, 0, none⟩) HLL.out.2 _).setCell (p := ⟨w7.heap.size, 1, none⟩) HLL.out.2 _
  have Ha9b : Hid (Bh ((w9.setCell ⟨w7.heap.size, 0, none⟩ (.int .i64 a2)).setCell ⟨w7.heap.size, 1, none⟩ (.int .i64 b2)) w.heap.size L I) := Ha9.out.off HNN.out.2.1 _ _
  have Hb9b : Hid (Bh ((w9.setCell ⟨w7.heap.size, 0, none⟩ (.int .i64 a2)).setCell ⟨w7.heap.size, 1, none⟩ (.int .i64 b2)) w6.heap.size a2 b2) := Hb9.out.off HNN.out.2.2 _ _
  have Hc9b : Hid (Bh ((w9.setCell ⟨w7.heap.size, 0, none⟩ (.int .i64 a2)).setCell ⟨w7.heap.size, 1, none⟩ (.int .i64 b2)) w7.heap.size a2 b2) := Hc9.out.put _ _
  have Hb9bx1 := Hb9b.out.one
  have Hb9bx2 := Hb9b.out.two
  have Hc9bx1 := Hc9b.out.one
  have Hc9bx2 := Hc9b.out.two
  go_wp2_with fail
  refine (N2.out _).mono ?_
  rintro e wn ⟨rfl, hw⟩
  subst hw
  clear Hb9bx1 Hb9bx2 Hc9bx1 Hc9bx2
  clear d1 d2 d3 d4
  have Ha9bx1 := Ha9b.out.one
  have Ha9bx2 := Ha9b.out.two
  go_wp2_with fail
  refine (X3.out _).mono ?_
  rintro e w10 ⟨rfl, hb⟩
  have B10 : Hid (Below w.heap.size w w10) := over B9b.out hb
  have Ha10 : Hid (Bh w10 w.heap.size L I) := Ha9b.out.later hb
  have Hb10 : Hid (Bh w10 w6.heap.size a2 b2) := Hb9b.out.later hb
  have Hc10 : Hid (Bh w10 w7.heap.size a2 b2) := Hc9b.out.later hb
  clear hb Ha9bx1 Ha9bx2
  have d1 := Hb10.out.one
  have d2 := Hb10.out.two
  have d3 := Hb10.out.fz 0
  have d4 := Hb10.out.fz 1
  have B10b : Hid (Below w.heap.size w ((w10.setCell ⟨w6.heap.size, 0, none⟩ (.int .i64 a3)).setCell ⟨w6.heap.size, 1, none⟩ (.int .i64 b3))) := (B10.out.setCell (p := ⟨w6.heap.size, 0, none⟩) HLL.out.1 _).setCell (p := ⟨w6.heap.size, 1, none⟩) HLL.out.1 _
  have Ha10b : Hid (Bh ((w10.setCell ⟨w6.heap.size, 0, none⟩ (.int .i64 a3)).setCell ⟨w6.heap.size, 1, none⟩ (.int .i64 b3)) w.heap.size L I) := Ha10.out.off HNN.out.1 _ _
  have Hb10b : Hid (Bh ((w10.setCell ⟨w6.heap.size, 0, none⟩ (.int .i64 a3)).setCell ⟨w6.heap.size, 1, none⟩ (.int .i64 b3)) w6.heap.size a3 b3) := Hb10.out.put _ _
  have Hc10b : Hid (Bh ((w10.setCell ⟨w6.heap.size, 0, none⟩ (.int .i64 a3)).setCell ⟨w6.heap.size, 1, none⟩ (.int .i64 b3)) w7.heap.size a2 b2) := Hc10.out.off (Ne.symm HNN.out.2.2) _ _
  have Ha10bx1 := Ha10b.out.one
  have Ha10bx2 := Ha10b.out.two
  go_wp2_with fail
  refine (Y3.out _).mono ?_
  rintro e w11 ⟨rfl, hb⟩
  have B11 : Hid (Below w.heap.size w w11) := over B10b.out hb
  have Ha11 : Hid (Bh w11 w.heap.size L I) := Ha10b.out.later hb
  have Hb11 : Hid (Bh w11 w6.heap.size a3 b3) := Hb10b.out.later hb
  have Hc11 : Hid (Bh w11 w7.heap.size a2 b2) := Hc10b.out.later hb
  clear hb Ha10bx1 Ha10bx2
  clear d1 d2 d3 d4
  have d1 := Hc11.out.one
  have d2 := Hc11.out.two
  have d3 := Hc11.out.fz 0
  have d4 := Hc11.out.fz 1
  have B11b : Hid (Below w.heap.size w ((w11.setCell ⟨w7.heap.size, 0, none⟩ (.int .i64 a3)).setCell ⟨w7.heap.size, 1, none⟩ (.int .i64 b3))) := (B11.out.setCell (p := ⟨w7.heap.size, 0, none⟩) HLL.out.2 _).setCell (p := ⟨w7.heap.size, 1, none⟩) HLL.out.2 _
  have Ha11b : Hid (Bh ((w11.setCell ⟨w7.heap.size, 0, none⟩ (.int .i64 a3)).setCell ⟨w7.heap.size, 1, none⟩ (.int .i64 b3)) w.heap.size L I) := Ha11.out.off HNN.out.2.1 _ _
  have Hb11b : Hid (Bh ((w11.setCell ⟨w7.heap.size, 0, none⟩ (.int .i64 a3)).setCell ⟨w7.heap.size, 1, none⟩ (.int .i64 b3)) w6.heap.size a3 b3) := Hb11.out.off HNN.out.2.2 _ _
  have Hc11b : Hid (Bh ((w11.setCell ⟨w7.heap.size, 0, none⟩ (.int .i64 a3)).setCell ⟨w7.heap.size, 1, none⟩ (.int .i64 b3)) w7.heap.size a3 b3) := Hc11.out.put _ _
  have Hb11bx1 := Hb11b.out.one
  have Hb11bx2 := Hb11b.out.two
  have Hc11bx1 := Hc11b.out.one
  have Hc11bx2 := Hc11b.out.two
  go_wp2_with fail
  refine (N3.out _).mono ?_
  rintro e wn ⟨rfl, hw⟩
  subst hw
  clear Hb11bx1 Hb11bx2 Hc11bx1 Hc11bx2
  clear d1 d2 d3 d4
  have Ha11bx1 := Ha11b.out.one
  have Ha11bx2 := Ha11b.out.two
  go_wp2_with fail
  refine (X4.out _).mono ?_
  rintro e w12 ⟨rfl, hb⟩
  have B12 : Hid (Below w.heap.size w w12) := over B11b.out hb
  have Ha12 : Hid (Bh w12 w.heap.size L I) := Ha11b.out.later hb
  have Hb12 : Hid (Bh w12 w6.heap.size a3 b3) := Hb11b.out.later hb
  have Hc12 : Hid (Bh w12 w7.heap.size a3 b3) := Hc11b.out.later hb
  clear hb Ha11bx1 Ha11bx2
  have d1 := Hb12.out.one
  have d2 := Hb12.out.two
  have d3 := Hb12.out.fz 0
  have d4 := Hb12.out.fz 1
  have B12b : Hid (Below w.heap.size w ((w12.setCell ⟨w6.heap.size, 0, none⟩ (.int .i64 a4)).setCell ⟨w6.heap.size, 1, none⟩ (.int .i64 b4))) := (B12.out.setCell (p := ⟨w6.heap.size, 0, none⟩) HLL.out.1 _).setCell (p := ⟨w6.heap.size, 1, none⟩) HLL.out.1 _
  have Ha12b : Hid (Bh ((w12.setCell ⟨w6.heap.size, 0, none⟩ (.int .i64 a4)).setCell ⟨w6.heap.size, 1, none⟩ (.int .i64 b4)) w.heap.size L I) := Ha12.out.off HNN.out.1 _ _
  have Hb12b : Hid (Bh ((w12.setCell ⟨w6.heap.size, 0, none⟩ (.int .i64 a4)).setCell ⟨w6.heap.size, 1, none⟩ (.int .i64 b4)) w6.heap.size a4 b4) := Hb12.out.put _ _
  have Hc12b : Hid (Bh ((w12.setCell ⟨w6.heap.size, 0, none⟩ (.int .i64 a4)).setCell ⟨w6.heap.size, 1, none⟩ (.int .i64 b4)) w7.heap.size a3 b3) := Hc12.out.off (Ne.symm HNN.out.2.2) _ _
  have Ha12bx1 := Ha12b.out.one
  have Ha12bx2 := Ha12b.out.two
  go_wp2_with fail
  refine (Y4.out _).mono ?_
  rintro e w13 ⟨rfl, hb⟩
  have B13 : Hid (Below w.heap.size w w13) := over B12b.out hb
  have Ha13 : Hid (Bh w13 w.heap.size L I) := Ha12b.out.later hb
  have Hb13 : Hid (Bh w13 w6.heap.size a4 b4) := Hb12b.out.later hb
  have Hc13 : Hid (Bh w13 w7.heap.size a3 b3) := Hc12b.out.later hb
  clear hb Ha12bx1 Ha12bx2
  clear d1 d2 d3 d4
  have d1 := Hc13.out.one
  have d2 := Hc13.out.two
  have d3 := Hc13.out.fz 0
  have d4 := Hc13.out.fz 1
  have B13b : Hid (Below w.heap.size w ((w13.setCell ⟨w7.heap.size, 0, none⟩ (.int .i64 a4)).setCell ⟨w7.heap.size, 1, none⟩ (.int .i64 b4))) := (B13.out.setCell (p := ⟨w7.heap.size, 0, none⟩) HLL.out.2 _).setCell (p := ⟨w7.heap.size, 1, none⟩) HLL.out.2 _
  have Ha13b : Hid (Bh ((w13.setCell ⟨w7.heap.size, 0, none⟩ (.int .i64 a4)).setCell ⟨w7.heap.size, 1, none⟩ (.int .i64 b4)) w.heap.size L I) := Ha13.out.off HNN.out.2.1 _ _
  have Hb13b : Hid (Bh ((w13.setCell ⟨w7.heap.size, 0, none⟩ (.int .i64 a4)).setCell ⟨w7.heap.size, 1, none⟩ (.int .i64 b4)) w6.heap.size a4 b4) := Hb13.out.off HNN.out.2.2 _ _
  have Hc13b : Hid (Bh ((w13.setCell ⟨w7.heap.size, 0, none⟩ (.int .i64 a4)).setCell ⟨w7.heap.size, 1, none⟩ (.int .i64 b4)) w7.heap.size a4 b4) := Hc13.out.put _ _
  have Hb13bx1 := Hb13b.out.one
  have Hb13bx2 := Hb13b.out.two
  have Hc13bx1 := Hc13b.out.one
  have Hc13bx2 := Hc13b.out.two
  go_wp2_with fail
  refine (N4.out _).mono ?_
  rintro e wn ⟨rfl, hw⟩
  subst hw
  clear Hb13bx1 Hb13bx2 Hc13bx1 Hc13bx2
  clear d1 d2 d3 d4
  have Hb13bx1 := Hb13b.out.one
  have Hb13bx2 := Hb13b.out.two
  have Hc13bx1 := Hc13b.out.one
  have Hc13bx2 := Hc13b.out.two
  go_wp2
  go_ret
  exact ⟨rfl, B13b.out⟩
end Go.Proofs.Ytjjeiklhmbhhoab.cl
