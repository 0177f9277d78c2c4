import Derived.Test.YtglffbhcnafbnabDoorA9
import Derived.Test.YtglffbhcnafbnabDoorA8
import Derived.Test.YtglffbhcnafbnabDoorA3
namespace Go.Proofs.YtglffbhcnafbnabDoor.lo
open Go.RowKit Go.PlainAid Go.Shelf
open Go.Proofs.YtglffbhcnafbnabDoor.pl Go.Proofs.YtglffbhcnafbnabDoor.pi Go.Proofs.YtglffbhcnafbnabDoor.rf Go.Proofs.YtglffbhcnafbnabDoor.pj Go.Proofs.YtglffbhcnafbnabDoor.ca Go.Proofs.YtglffbhcnafbnabDoor.cb Go.Proofs.YtglffbhcnafbnabDoor.cp Go.Proofs.YtglffbhcnafbnabDoor.cs Go.Proofs.YtglffbhcnafbnabDoor.xc Go.Proofs.YtglffbhcnafbnabDoor.ka Go.Proofs.YtglffbhcnafbnabDoor.kb Go.Proofs.YtglffbhcnafbnabDoor.ga Go.Proofs.YtglffbhcnafbnabDoor.aa Go.Proofs.YtglffbhcnafbnabDoor.ab Go.Proofs.YtglffbhcnafbnabDoor.tb Go.Proofs.YtglffbhcnafbnabDoor.ac Go.Proofs.YtglffbhcnafbnabDoor.bc Go.Proofs.YtglffbhcnafbnabDoor.bd Go.Proofs.YtglffbhcnafbnabDoor.bh Go.Proofs.YtglffbhcnafbnabDoor.bn Go.Proofs.YtglffbhcnafbnabDoor.sa Go.Proofs.YtglffbhcnafbnabDoor.sb Go.Proofs.YtglffbhcnafbnabDoor.sc Go.Proofs.YtglffbhcnafbnabDoor.sd Go.Proofs.YtglffbhcnafbnabDoor.se Go.Proofs.YtglffbhcnafbnabDoor.sf Go.Proofs.YtglffbhcnafbnabDoor.sg Go.Proofs.YtglffbhcnafbnabDoor.sh Go.Proofs.YtglffbhcnafbnabDoor.sp Go.Proofs.YtglffbhcnafbnabDoor.bi Go.Proofs.YtglffbhcnafbnabDoor.bt Go.Proofs.YtglffbhcnafbnabDoor.tg
set_option linter.unusedVariables false

theorem seven (w : World) (x0 x1 x2 x3 x4 x5 x6 : Value) (t : TypeId) : (w.alloc (.cells #[x0, x1, x2, x3, x4, x5, x6] t)).cell? ⟨w.heap.size, 0, none⟩ = some x0 ∧ (w.alloc (.cells #[x0, x1, x2, x3, x4, x5, x6] t)).cell? ⟨w.heap.size, 1, none⟩ = some x1 ∧ (w.alloc (.cells #[x0, x1, x2, x3, x4, x5, x6] t)).cell? ⟨w.heap.size, 2, none⟩ = some x2 ∧ (w.alloc (.cells #[x0, x1, x2, x3, x4, x5, x6] t)).cell? ⟨w.heap.size, 3, none⟩ = some x3 ∧ (w.alloc (.cells #[x0, x1, x2, x3, x4, x5, x6] t)).cell? ⟨w.heap.size, 4, none⟩ = some x4 ∧ (w.alloc (.cells #[x0, x1, x2, x3, x4, x5, x6] t)).cell? ⟨w.heap.size, 5, none⟩ = some x5 ∧ (w.alloc (.cells #[x0, x1, x2, x3, x4, x5, x6] t)).cell? ⟨w.heap.size, 6, none⟩ = some x6 := by
  refine ⟨?_, ?_, ?_, ?_, ?_, ?_, ?_⟩ <;> (rw [World.cell?_alloc_at _ _ _ _ rfl]; rfl)
set_option maxHeartbeats 3200000 in
theorem prove_law (wd sz : Int) (lv : Value) (ls : List ByteArray) (made : Bool) (fails code : Int) (aa : Option Addr) (an ac : Nat) (lo hi n : Int) (hwd : i64 wd) (hcd : i64 code) (w : World) (hT : T7 w) (hR : ReadsT w lv ls) (hno : ∀ k c, lv = .slice none k c → c = 0) (hz : Sized ls) :
    Calls Tryd.prog 3 #[.agg #[.int .i64 wd, .int .i64 sz, lv, .bool made, .int .i64 fails, .int .i64 code, .slice aa an ac], .int .i64 lo, .int .i64 hi, .int .i64 n] w fun e w' => e = .returned (.bool true) ∧ Below w.heap.size w w' := by
  have HT : Hid (T7 w) := hT
  have HRD : Hid (ReadsT w lv ls) := hR
  have HI : Hid (i64 wd ∧ i64 (tw wd sz ls made fails code).code) := ⟨hwd, hcd⟩
  obtain ⟨s, HS⟩ : ∃ s, Hid (tw wd sz ls made fails code = s) := ⟨_, rfl⟩
  have HSW : Hid (s.wd = wd) := by show _ = _; rw [← HS.out]; rfl
  obtain ⟨la, lc, hlv⟩ : ∃ la lc, lv = .slice la ls.length lc := by obtain ⟨a, c, h, _⟩ := hR; exact ⟨a, c, h⟩
  subst hlv
  have TW : Hid (∀ w', Below w.heap.size w w' → Calls _ _ _ _ _) := fun w' hb => twinS wd sz (.slice la ls.length lc) ls made fails code aa an ac w' (HT.out.down hb) (HRD.out.later hb) hno hz
  rw [HS.out] at TW HI
  obtain ⟨ln, HLN⟩ : ∃ x, Hid (ls.length = x) := ⟨_, rfl⟩
  rw [HLN.out] at TW ⊢
  have X7 : Hid (_ ∧ _ ∧ _ ∧ _ ∧ _ ∧ _ ∧ _) := seven w (.int .i64 wd) (.int .i64 sz) (.slice la ln lc) (.bool made) (.int .i64 fails) (.int .i64 code) (.slice aa an ac) 25
  obtain ⟨W0, HW0⟩ : ∃ W0, Hid (w.alloc (.cells #[.int .i64 wd, .int .i64 sz, .slice la ln lc, .bool made, .int .i64 fails, .int .i64 code, .slice aa an ac] 25) = W0) := ⟨_, rfl⟩
  have B0 : Hid (Below w.heap.size w W0) := by show Below _ _ _; rw [← HW0.out]; exact (Below.refl _ _).alloc (Nat.le_refl _) _
  rw [HW0.out] at X7
  have NM : Hid (∀ x w, Calls _ _ _ _ _) := fun x w => num x w
  have SM : Hid (∀ (va vb : Value) (ts : List ByteArray) w', ReadsT w' va ts → ReadsT w' vb ts → ts.length ≤ 140737488355328 → Calls _ _ _ _ _) := fun va vb ts w' h1 h2 h3 => same_yes va vb ts w' h1 h2 h3
  obtain ⟨A, HA⟩ : ∃ A, Hid (rngA s.wd (askS s) s.sz lo hi n [] = A) := ⟨_, rfl⟩
  have HAL : Hid (A.2.2.length ≤ 4294967296 ∧ (ans A).length ≤ 140737488355328) := by
    show _ ∧ _
    rw [← HA.out]
    exact rngA_bound s lo hi n
  clear hT hR hno hz hwd hcd
  go_enter Tryd.func3, Tryd.ntmps3
  go_wp2_with fail
  rw [HW0.out]
  refine (TW.out W0 B0.out).mono ?_
  rintro e w1 ⟨⟨sb, lv1, rfl, hsb, hlv1, h1⟩, hb1⟩
  have H1 : Hid (Sj s sb lv1 w1.heap.size (.slice none 0 0) (fun b => b = sb) [] w1 ∧ W0.heap.size ≤ sb) := ⟨h1, hsb⟩
  have B1 : Hid (Below W0.heap.size W0 w1) := hb1
  obtain ⟨y0, y1, y2, y3, y4, y5, y6⟩ := X7.out
  have z0 := (hb1.cell (World.block_lt_of_cell? _ _ y0)).trans y0
  have z1 := (hb1.cell (World.block_lt_of_cell? _ _ y1)).trans y1
  have z2 := (hb1.cell (World.block_lt_of_cell? _ _ y2)).trans y2
  have z3 := (hb1.cell (World.block_lt_of_cell? _ _ y3)).trans y3
  have z4 := (hb1.cell (World.block_lt_of_cell? _ _ y4)).trans y4
  have z5 := (hb1.cell (World.block_lt_of_cell? _ _ y5)).trans y5
  have z6 := (hb1.cell (World.block_lt_of_cell? _ _ y6)).trans y6
  clear h1 hb1 hsb hlv1 y0 y1 y2 y3 y4 y5 y6
  go_wp2_with fail
  refine (TW.out w1 (over B0.out B1.out)).mono ?_
  rintro e w2 ⟨⟨sb', lv2, rfl, hsb, hlv2, h2⟩, hb2⟩
  have T2 : Hid (Two s sb lv1 w1.heap.size sb' lv2 w2.heap.size (fun b => b = sb) (fun b => b = sb') [] [] w2) := two_of (w := w) HI.out.2 hsb hlv2 H1.out.1 h2 hb2
  have O2 : Hid (Over w (fun b => b = sb) (fun b => b = sb') w2) := ⟨over B0.out (over B1.out hb2), fun b e => by have := H1.out.2; have := B0.out.size; omega, fun b e => by have := B1.out.size; have := B0.out.size; omega⟩
  have RC : Hid (Calls _ _ _ _ _) := readerS s sb lv1 w1.heap.size (fun b => b = sb) [] w2 HI.out.2 T2.out.a
  clear hsb hlv2 h2 hb2 z0 z1 z2 z3 z4 z5 z6 TW X7
  go_wp2_with fail
  refine RC.out.mono ?_
  rintro e w3 ⟨⟨tb, rfl, htj⟩, hb3⟩
  rw [HSW.out]
  have T3 : Hid (Two s sb lv1 w1.heap.size sb' lv2 w2.heap.size (fun b => b = sb) (fun b => b = sb') [] [] w3) := T2.out.later HI.out.2 hb3
  have O3 : Hid (Over w (fun b => b = sb) (fun b => b = sb') w3) := O2.out.later hb3
  have PC : Hid (Calls _ _ _ _ _) := rangeC (telR s sb lv1 w1.heap.size tb HI.out.2) wd s.sz lo hi n HI.out.1 (fun b => b = sb) [] w3 (by decide) htj
  rw [← HSW.out, HA.out, HSW.out] at PC
  clear htj hb3 T2 O2
  go_wp2_with fail
  refine PC.out.mono ?_
  rintro e w4 ⟨u4, F4, rfl, ho4, hj4, hg4, hb4⟩
  have T4 : Hid (Two s sb lv1 w1.heap.size sb' lv2 w2.heap.size F4 (fun b => b = sb') A.2.2 [] w4) := T3.out.left HI.out.2 hg4 hj4.j
  have O4 : Hid (Over w F4 (fun b => b = sb') w4) := O3.out.left hg4
  have U4 : Hid (w4.ownsRow w3.heap.size 9 1 u4 (ans A).length ((ans A).map Value.string) ∧ Beside (fun b => b = sb') u4) := ⟨ho4, fun g hg e => by
    have h1 := (owns_lt ho4 hg).2
    have h2 := (srcR s sb' lv2 w2.heap.size HI.out.2).within T3.out.b sb' rfl
    have e' : g = sb' := e
    omega⟩
  have DC : Hid (Calls _ _ _ _ _) := rangeS s sb' lv2 w2.heap.size HI.out.2 lo hi n (fun b => b = sb') [] w4 (by decide) T4.out.b
  rw [HA.out] at DC
  clear hj4 hg4 hb4 ho4 T3 O3
  go_wp2_with fail
  refine DC.out.mono ?_
  rintro e w5 ⟨u5, F5, rfl, ho5, hj5, hg5, hb5⟩
  have T5 : Hid (Two s sb lv1 w1.heap.size sb' lv2 w2.heap.size F4 F5 A.2.2 A.2.2 w5) := T4.out.right HI.out.2 hg5 hj5
  have O5 : Hid (Over w F4 F5 w5) := O4.out.right hg5
  have SC : Hid (Calls _ _ _ _ _) := SM.out u4 u5 (ans A) w5 (own_readsT (hg5.owns U4.out.1 U4.out.2).1) (own_readsT ho5) HAL.out.2
  obtain ⟨ac', HAC⟩ : ∃ c, Hid (A.2.1 = c) := ⟨_, rfl⟩
  rw [HAC.out]
  have qc : (ac' == ac') = true := beq_self_eq_true _
  clear hj5 hg5 ho5 hb5 T4 O4 U4
  go_wp2_with fail
  refine SC.out.mono ?_
  rintro e w6 ⟨rfl, m6, hw6⟩
  have B6 : Hid (Below w5.heap.size w5 w6) := by rw [hw6]; exact below_dN (Below.refl _ _) m6
  have T6 : Hid (Two s sb lv1 w1.heap.size sb' lv2 w2.heap.size F4 F5 A.2.2 A.2.2 w6) := T5.out.later HI.out.2 B6.out
  have AC : Hid (Calls _ _ _ _ _) := askedS s sb sb' lv1 lv2 _ _ F4 F5 A.2.2 w6 T6.out.a T6.out.b HAL.out.1
  clear hw6
  go_wp2_with fail
  refine (NM.out _ _).mono ?_
  rintro e w7 ⟨rfl, hw7⟩
  subst hw7
  go_wp2_with fail
  refine AC.out.mono ?_
  rintro e w8 ⟨rfl, m8, hw8⟩
  have B8 : Hid (Below w.heap.size w w8) := by rw [hw8]; exact below_dN (over O5.out.1 B6.out) m8
  clear hw8
  go_wp2
  go_ret
  exact ⟨rfl, B8.out⟩
end Go.Proofs.YtglffbhcnafbnabDoor.lo

namespace Go.Proofs.YtglffbhcnafbnabDoor.wo
open Go.RowKit Go.PlainAid
open Go.Proofs.YtglffbhcnafbnabDoor.cp Go.Proofs.YtglffbhcnafbnabDoor.cv Go.Proofs.YtglffbhcnafbnabDoor.ka Go.Proofs.YtglffbhcnafbnabDoor.sa Go.Proofs.YtglffbhcnafbnabDoor.sg Go.Proofs.YtglffbhcnafbnabDoor.ws
set_option linter.unusedVariables false

theorem law_call (W : World) (a0 a1 : Int) (v : Value) (xs : List ByteArray) (b : Bool) (a4 a5 : Int) (aa : Option Addr) (an ac : Nat) (w0 : (Lit.int .i64 a0).wf = true) (w5 : (Lit.int .i64 a5).wf = true) (hr : ReadsT W v xs) (hno : ∀ k c, v = .slice none k c → c = 0) (lo : Int) (wl : (Lit.int .i64 lo).wf = true) (hi : Int) (wh : (Lit.int .i64 hi).wf = true) (n : Int) (wn : (Lit.int .i64 n).wf = true) (hsum : ((xs.map ByteArray.size).sum + xs.length) ≤ 1048576) (tabs : T7 W) :
    Calls Tryd.prog 3 #[.agg #[.int .i64 a0, .int .i64 a1, v, .bool b, .int .i64 a4, .int .i64 a5, .slice aa an ac], .int .i64 lo, .int .i64 hi, .int .i64 n] W fun e w' => e = .returned (.bool true) ∧ Below W.heap.size W w' :=
  Go.Proofs.YtglffbhcnafbnabDoor.lo.prove_law a0 a1 v xs b a4 a5 aa an ac lo hi n (i64_of w0) (i64_of w5) W tabs hr hno (sized_of hsum)
end Go.Proofs.YtglffbhcnafbnabDoor.wo
