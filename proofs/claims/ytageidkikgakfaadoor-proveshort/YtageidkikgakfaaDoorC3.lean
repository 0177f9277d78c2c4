import Derived.Test.YtageidkikgakfaaDoorC2
import Derived.Test.YtageidkikgakfaaDoorB1
import Derived.Deep.RegionWith
import Derived.Deep.DeepCutAuto
namespace Go.Proofs.YtageidkikgakfaaDoor.lz
open Go.RowKit Go.PlainAid
open Go.Proofs.YtageidkikgakfaaDoor.pl Go.Proofs.YtageidkikgakfaaDoor.pi Go.Proofs.YtageidkikgakfaaDoor.pj Go.Proofs.YtageidkikgakfaaDoor.rf Go.Proofs.YtageidkikgakfaaDoor.cp Go.Proofs.YtageidkikgakfaaDoor.cs Go.Proofs.YtageidkikgakfaaDoor.ca Go.Proofs.YtageidkikgakfaaDoor.cb Go.Proofs.YtageidkikgakfaaDoor.ka Go.Proofs.YtageidkikgakfaaDoor.kb Go.Proofs.YtageidkikgakfaaDoor.ga Go.Proofs.YtageidkikgakfaaDoor.aa Go.Proofs.YtageidkikgakfaaDoor.ab Go.Proofs.YtageidkikgakfaaDoor.ad Go.Proofs.YtageidkikgakfaaDoor.ae Go.Proofs.YtageidkikgakfaaDoor.ac Go.Proofs.YtageidkikgakfaaDoor.tb Go.Proofs.YtageidkikgakfaaDoor.bc Go.Proofs.YtageidkikgakfaaDoor.bd Go.Proofs.YtageidkikgakfaaDoor.bh Go.Proofs.YtageidkikgakfaaDoor.bi Go.Proofs.YtageidkikgakfaaDoor.bj Go.Proofs.YtageidkikgakfaaDoor.bn Go.Proofs.YtageidkikgakfaaDoor.bp Go.Proofs.YtageidkikgakfaaDoor.bt Go.Proofs.YtageidkikgakfaaDoor.mi Go.Proofs.YtageidkikgakfaaDoor.mp Go.Proofs.YtageidkikgakfaaDoor.mq Go.Proofs.YtageidkikgakfaaDoor.sa Go.Proofs.YtageidkikgakfaaDoor.sc Go.Proofs.YtageidkikgakfaaDoor.sd Go.Proofs.YtageidkikgakfaaDoor.se Go.Proofs.YtageidkikgakfaaDoor.sm Go.Proofs.YtageidkikgakfaaDoor.sn Go.Proofs.YtageidkikgakfaaDoor.sr Go.Proofs.YtageidkikgakfaaDoor.ss Go.Proofs.YtageidkikgakfaaDoor.su Go.Proofs.YtageidkikgakfaaDoor.ls
set_option linter.unusedVariables false

theorem pw {c : Nat} (h : c ≤ 62) : wrap64 ((2 : Int) ^ c) = ((2 ^ c : Nat) : Int) := by
  have h1 : (2 : Nat) ^ c ≤ 2 ^ 62 := Nat.pow_le_pow_right (by decide) h
  have h2 : (2 : Nat) ^ 62 = 4611686018427387904 := by decide
  have e : ((2 ^ c : Nat) : Int) = (2 : Int) ^ c := by simp
  rw [← e]
  rw [h2] at h1
  generalize (2 : Nat) ^ c = m at h1 ⊢
  unfold wrap64
  omega
-- what a question leaves
def Rq (wd : Int) (n : Nat) (x1 x2 x3 x4 : Int) (v : Value) (bx rb sb : Nat) (w0 : World) (A : List ByteArray × Int × List (Nat × Nat)) (e : Ending) (w' : World) : Prop :=
  ∃ (ua : Option Addr) (uc : Nat) (xa : Option Addr) (xc tb : Nat), e = .returned (.tuple #[.slice ua (ans A).length uc, .int .i64 A.2.1]) ∧ w'.cell? ⟨sb, 6, none⟩ = some (.slice xa A.2.2.length xc) ∧ Md wd n x1 x2 x3 x4 v bx rb tb w0 w'
section
variable {wd : Int} {n : Nat} {x1 x2 x3 x4 : Int} {v : Value} {bx rb tb sb base : Nat} {w0 W W' : World} {A : List ByteArray × Int × List (Nat × Nat)}
theorem Md.later (h : Md wd n x1 x2 x3 x4 v bx rb tb w0 W) (b : Below W.heap.size W W') : Md wd n x1 x2 x3 x4 v bx rb tb w0 W' :=
  Md.goes (F := fun _ => False) (F' := fun _ => False) h (Goes.of_below b) (fun e => e) (fun e => e) (fun _ e => e.elim) (fun _ e => e.elim)
theorem tj_later (h : TJ (mds wd n) sb (.slice none 0 0) base tb (fun b => b = sb) [] W) (b : Below W.heap.size W W') : TJ (mds wd n) sb (.slice none 0 0) base tb (fun b => b = sb) [] W' :=
  (telR (mds wd n) sb (.slice none 0 0) base tb (by show i64 0; unfold i64; omega)).keep h (Kp.of_below (A := fun _ => False) b) (fun _ e => e.elim)
theorem quest (hM : Md wd n x1 x2 x3 x4 v bx rb tb w0 W) (h1 : w0.heap.size ≤ sb) (h2 : bx ≠ sb) (h3 : rb ≠ sb) (h4 : 6 ≤ sb) {e : Ending} (hP : Proved (TJ (mds wd n) sb (.slice none 0 0) base tb) (fun b => b = sb) W A e W') : Rq wd n x1 x2 x3 x4 v bx rb sb w0 A e W' := by
  obtain ⟨u, F', rfl, ho, hj, hg, _⟩ := hP
  obtain ⟨ua, uc, rfl⟩ := own_formS ho
  obtain ⟨av, hs⟩ := hj.j
  obtain ⟨xa, xc, e⟩ := own_formS hs.own
  exact ⟨ua, uc, xa, xc, tb, rfl, by rw [← e]; exact hs.q.o.cells.2.2.2.2.2.2, hM.goes hg h2 h3 (fun b e => by rw [show b = sb from e]; exact h1) (fun b e => by rw [show b = sb from e]; exact h4)⟩
-- the reader's box written anew
theorem anew {tb0 : Nat} (hM : Md wd n x1 x2 x3 x4 v bx rb tb0 w0 W) (hQ : 6 ≤ rb) (htj : TJ (mds wd n) sb (.slice none 0 0) base tb (fun b => b = sb) [] W) (hne : rb ≠ sb) : ∀ W', ((W.setCell ⟨rb, 0, none⟩ (.int .i64 wd)).setCell ⟨rb, 1, none⟩ (.int .i64 n)).setCell ⟨rb, 2, none⟩ (.func (.func 29) #[.pointer (some ⟨tb, 0, none⟩)] #[]) = W' → Md wd n x1 x2 x3 x4 v bx rb tb w0 W' ∧ TJ (mds wd n) sb (.slice none 0 0) base tb (fun b => b = sb) [] W' := by
  intro W' e
  have K : Kp (fun b => b = rb) W W' := by
    rw [← e]
    exact ((Kp.setCell (A := fun b => b = rb) _ _ _ _ rfl).trans (Kp.setCell (A := fun b => b = rb) _ _ _ _ rfl)).trans (Kp.setCell (A := fun b => b = rb) _ _ _ _ rfl)
  have H3 := heap_setCell_same _ _ 2 _ _ (.func (.func 29) #[.pointer (some ⟨tb, 0, none⟩)] #[]) (heap_setCell_same _ _ 1 _ _ (.int .i64 n) (heap_setCell_same _ _ 0 _ _ (.int .i64 wd) hM.r))
  rw [e] at H3
  have nb : ¬ bx = rb := hM.k.2
  refine ⟨⟨T7.keep hM.t K (fun b e => by rw [show b = rb from e]; exact hQ), hM.b.trans (K.below (fun b e => by rw [show b = rb from e]; exact hM.k.1) hM.b.size), K.cell hM.c1 nb, K.cell hM.c2 nb, K.cell hM.c3 nb, K.cell hM.c4 nb, K.cell hM.c5 nb, H3, hM.k⟩, ?_⟩
  refine (telR (mds wd n) sb (.slice none 0 0) base tb (by show i64 0; unfold i64; omega)).keep htj K (fun b hb => ?_)
  have hb' : b = rb := hb
  subst hb'
  refine ⟨hne, fun h => ?_⟩
  rcases h with (h | ⟨off, k, c, h⟩) | h
  · omega
  · cases h
  · have c1 := htj.c
    have c2 : W.cell? ⟨b, 0, none⟩ = some (.int .i64 wd) := by rw [cell_of_row _ _ _ _ _ _ hM.r]; rfl
    rw [← h, c2] at c1
    cases c1
end
set_option maxHeartbeats 6400000 in
set_option maxRecDepth 100000 in
theorem prove_short (wd xN xI xM xL xH : Int) (v : Value) (xs : List Int) (hwd : i64 wd) (hN : i64 xN) (hI : i64 xI) (hM : i64 xM) (hL : i64 xL) (hH : i64 xH) (hx : ∀ x ∈ xs, i64 x) (w : World) (hT : T7 w) (hV : ReadsI w v xs) (hz : xs.length ≤ 140737488355328) :
    Calls Tryd.prog 3 #[.int .i64 wd, .agg #[.int .i64 xN, .int .i64 xI, .int .i64 xM, .int .i64 xL, .int .i64 xH, v]] w fun e w' => e = .returned (.bool true) ∧ Below w.heap.size w w' := by
  have HT : Hid (T7 w) := hT
  have SZ : Hid (∀ w, Calls _ _ _ _ _) := fun w => sizeC xN hN w
  have hp := pk_lt xN (n := 4611686018427387904) (by decide)
  obtain ⟨n, HNN⟩ : ∃ n, Hid (1 + pk xN 4611686018427387904 = n) := ⟨_, rfl⟩
  have hn1 : 1 ≤ n := by rw [← HNN.out]; omega
  have hn2 : n ≤ 4611686018427387904 := by rw [← HNN.out]; omega
  rw [HNN.out] at SZ
  have CE : Hid (∀ w, Calls _ _ _ _ _) := fun w => ceilC n hn1 hn2 w
  have hcl := cl2_spec hn1 hn2
  obtain ⟨c, HCC⟩ : ∃ c, Hid (cl2 n = c) := ⟨_, rfl⟩
  rw [HCC.out] at CE hcl
  have MD : Hid (∀ w', T7 w' → Calls _ _ _ _ _) := fun w' h => madeC wd n w' h
  have NM : Hid (∀ x w, Calls _ _ _ _ _) := fun x w => num x w
  have X6 : Hid (_ ∧ _ ∧ _ ∧ _ ∧ _ ∧ _) := six w (.int .i64 xN) (.int .i64 xI) (.int .i64 xM) (.int .i64 xL) (.int .i64 xH) v 24
  obtain ⟨W0, HW0⟩ : ∃ W0, Hid (w.alloc (.cells #[.int .i64 xN, .int .i64 xI, .int .i64 xM, .int .i64 xL, .int .i64 xH, v] 24) = W0) := ⟨_, rfl⟩
  have B0 : Hid (Below w.heap.size w W0) := by show Below _ _ _; rw [← HW0.out]; exact (Below.refl _ _).alloc (Nat.le_refl _) _
  rw [HW0.out] at X6
  have T0 : Hid (T7 W0) := HT.out.down B0.out
  have y0 := X6.out.1
  clear hp hT hN
  have HQ : Hid (6 ≤ w.heap.size) := HT.out.t.t.big
  go_enter Tryd.func3, Tryd.ntmps3
  go_upto_region 1 with fail
  rw [HW0.out]
  go_wp2_with fail
  refine (SZ.out _).mono ?_
  rintro e W1 ⟨rfl, hw⟩
  subst hw
  go_wp2_with fail
  refine (CE.out _).mono ?_
  rintro e W2 ⟨rfl, hw⟩
  subst hw
  go_wp2_with fail
  refine (MD.out _ T0.out).mono ?_
  rintro e w1 ⟨⟨sb, tb, base, rfl, htj, hsb⟩, hb1⟩
  have B1 : Hid (Below w.heap.size w w1) := over B0.out hb1
  have RD : Hid ((.func (.func 29) #[.pointer (some ⟨tb, 0, none⟩)] #[] : Value) = .func (.func 29) #[.pointer (some ⟨tb, 0, none⟩)] #[]) := rfl
  obtain ⟨W3, HW3⟩ : ∃ W3, Hid (w1.alloc (.cells #[.int .i64 wd, .int .i64 n, .func (.func 29) #[.pointer (some ⟨tb, 0, none⟩)] #[]] 28) = W3) := ⟨_, rfl⟩
  have BN : Below w1.heap.size w1 W3 := by rw [← HW3.out]; exact (Below.refl _ _).alloc (Nat.le_refl _) _
  have zb : w.heap.size < w1.heap.size := Nat.lt_of_lt_of_le (World.block_lt_of_cell? _ _ X6.out.1) hb1.size
  have M1 : Hid (Md wd n xI xM xL xH v w.heap.size w1.heap.size tb w W3) := by
    have bc := over hb1 BN
    obtain ⟨q0, q1, q2, q3, q4, q5⟩ := X6.out
    have lt := World.block_lt_of_cell? _ _ q0
    refine ⟨HT.out.down (over B1.out BN), over B1.out BN, (bc.cell (p := ⟨w.heap.size, 1, none⟩) lt).trans q1, (bc.cell (p := ⟨w.heap.size, 2, none⟩) lt).trans q2, (bc.cell (p := ⟨w.heap.size, 3, none⟩) lt).trans q3, (bc.cell (p := ⟨w.heap.size, 4, none⟩) lt).trans q4, (bc.cell (p := ⟨w.heap.size, 5, none⟩) lt).trans q5, ?_, by omega, by omega⟩
    rw [← HW3.out]
    exact heap_alloc_new _ _
  have J1 : Hid (TJ (mds wd n) sb (.slice none 0 0) base tb (fun b => b = sb) [] W3) := tj_later htj BN
  have N0 : Hid (w.heap.size ≤ sb ∧ w.heap.size ≠ sb ∧ w1.heap.size ≠ sb ∧ 6 ≤ sb) := by
    have q1 := HQ.out
    have q2 := (telR (mds wd n) sb (.slice none 0 0) base tb (by show i64 0; unfold i64; omega)).within htj sb rfl
    have q3 : w.heap.size < W2.heap.size := World.block_lt_of_cell? _ _ X6.out.1
    exact ⟨by omega, by omega, by omega, by omega⟩
  have HRB : Hid (6 ≤ w1.heap.size ∧ w.heap.size < w1.heap.size) := ⟨by have := HQ.out; omega, zb⟩
  clear htj hb1 hsb BN zb y0
  go_upto_region 4 with fail
  obtain ⟨rb, HB⟩ : ∃ rb, Hid (w1.heap.size = rb) := ⟨_, rfl⟩
  obtain ⟨bx, HX⟩ : ∃ bx, Hid (w.heap.size = bx) := ⟨_, rfl⟩
  have N1 : Hid (w.heap.size ≤ sb ∧ bx ≠ sb ∧ rb ≠ sb ∧ 6 ≤ sb) := by
    obtain ⟨q1, q2, q3, q4⟩ := N0.out
    exact ⟨q1, by rw [← HX.out]; exact q2, by rw [← HB.out]; exact q3, q4⟩
  rw [HB.out, HX.out] at M1 HRB
  rw [HW3.out, HB.out, HX.out]
  have ZB : Hid (w.heap.size = bx) := HX.out
  -- the first question
  obtain ⟨i1, HI1⟩ : ∃ i, Hid (pk xI n = i) := ⟨_, rfl⟩
  have hi1 : i1 < n := by rw [← HI1.out]; exact pk_lt xI hn1
  have PK : Hid (∀ w, Calls _ _ _ _ _) := fun w => pick xI n hn1 (by omega) hI w
  rw [HI1.out] at PK
  obtain ⟨A1, HA1⟩ : ∃ A, Hid (incA wd (askS (mds wd n)) n i1 n [] = A) := ⟨_, rfl⟩
  have FW := few_incl wd n i1 hn1 hn2 hi1
  rw [HA1.out, HCC.out] at FW
  have INC : Hid (∀ W', Below W3.heap.size W3 W' → Calls Tryd.prog 7 #[.agg #[.int .i64 wd, .int .i64 n, .func (.func 29) #[.pointer (some ⟨tb, 0, none⟩)] #[]], .int .i64 (i1 : Nat), .int .i64 n] W' (Rq wd n xI xM xL xH v bx rb sb w A1)) := fun W' b => by
    rw [← HA1.out]
    exact (inclC (telR (mds wd n) sb (.slice none 0 0) base tb (by show i64 0; unfold i64; omega)) wd n i1 n hwd (fun b => b = sb) [] W' (by decide) (tj_later J1.out b)).mono (fun e w' hp => quest (Md.later M1.out b) N1.out.1 N1.out.2.1 N1.out.2.2.1 N1.out.2.2.2 hp)
  have DR : Hid (Below W3.heap.size W3 W3.drew) := (Below.refl _ _).drew
  have c1 := M1.out.c1
  have r0 : W3.cell? ⟨rb, 0, none⟩ = some (.int .i64 wd) := by rw [cell_of_row _ _ _ _ _ _ M1.out.r]; rfl
  have r1 : W3.cell? ⟨rb, 1, none⟩ = some (.int .i64 n) := by rw [cell_of_row _ _ _ _ _ _ M1.out.r]; rfl
  have r2 : W3.cell? ⟨rb, 2, none⟩ = some (.func (.func 29) #[.pointer (some ⟨tb, 0, none⟩)] #[]) := by rw [cell_of_row _ _ _ _ _ _ M1.out.r]; rfl
  obtain ⟨L1, HL1⟩ : ∃ l, Hid ((ans A1).length = l) := ⟨_, rfl⟩
  obtain ⟨K1, HK1⟩ : ∃ l, Hid (A1.2.2.length = l) := ⟨_, rfl⟩
  obtain ⟨⟨g1, g2, g3⟩, g4⟩ := FW
  rw [HL1.out] at g2 g3 g4
  rw [HK1.out] at g3
  have HG1 : Hid (A1.2.1 = 0) := g1
  unfold Rq at INC
  rw [HL1.out, HK1.out, HG1.out] at INC
  have hcs := hcl.1
  clear g1 hI hi1
  go_cut [9, 10] (fun s9 s10 wx => ∃ (ua : Option Addr) (uc : Nat) (xa : Option Addr) (xc tb' : Nat), s9 = .slice ua L1 uc ∧ s10 = .int .i64 0 ∧ Hid (wx.cell? ⟨sb, 6, none⟩ = some (.slice xa K1 xc) ∧ Md wd n xI xM xL xH v bx rb tb' w wx))
  case first =>
    go_region_with (first | (go_at_call 8; refine (PK.out _).mono ?_; rintro _ _ ⟨rfl, hw⟩; rw [hw]; clear hw) | (go_at_call 7; refine (INC.out _ DR.out).mono ?_; rintro _ wq ⟨ua, uc, xa, xc, tb', rfl, hc, hm⟩; have HC : Hid (_ ∧ _) := ⟨hc, hm⟩; clear hc hm))
    all_goals (
      go_wp2_with fail
      go_meet
      exact ⟨ua, uc, xa, xc, tb', rfl, rfl, HC.out⟩)
  case rest =>
  as_aux_lemma =>
  obtain ⟨ua, uc, xa, xc, tb1, rfl, rfl, HC1⟩ := hcut
  obtain ⟨z6, M2⟩ := HC1.out
  have M2 : Hid (Md _ _ _ _ _ _ _ _ _ _ _ wc) := M2
  clear INC DR c1 r0 r1 r2 PK HC1 J1 M1 N0
  have w1' : IntKind.i64.wrap (62 * (L1 : Int)) = 62 * (L1 : Int) := by unfold IntKind.wrap; simp [IntKind.bits, IntKind.signed]; omega
  have t1 : ¬ ((c : Int) < L1) := by omega
  have t2 : ¬ (62 * (L1 : Int) < K1) := by omega
  go_upto_region 5 with fail
  go_cut [66] (fun s wx => s = .bool false ∧ ∃ tb', Hid (Md wd n xI xM xL xH v bx rb tb' w wx))
  case first =>
    by_cases hh : 1 < n
    · have hh1 : (1 : Int) < n := by omega
      have hz0 : ((L1 : Int) == 0) = false := by have := g4 hh; rw [beq_eq_false_iff_ne]; omega
      go_wp2_with (first | (go_at_call 9; refine (NM.out _ _).mono ?_; rintro _ _ ⟨rfl, hw⟩; rw [hw]; clear hw) | go_in)
      go_meet
      exact ⟨by first | rfl | (rw [decide_eq_false (show ¬ (c < L1) by omega), decide_eq_false (show ¬ (62 * (L1 : Int) < K1) by omega)]; rfl), _, M2.out⟩
    · have hh1 : ¬ ((1 : Int) < n) := by omega
      go_wp2_with (first | (go_at_call 9; refine (NM.out _ _).mono ?_; rintro _ _ ⟨rfl, hw⟩; rw [hw]; clear hw) | go_in)
      go_meet
      exact ⟨by first | rfl | (rw [decide_eq_false (show ¬ (c < L1) by omega), decide_eq_false (show ¬ (62 * (L1 : Int) < K1) by omega)]; rfl), _, M2.out⟩
  case rest =>
  as_aux_lemma =>
  clear z6 M2
  obtain ⟨rfl, tb2, M2⟩ := hcut
  clear t1 t2 w1' g4
  go_upto_region 7 with fail
  have CM : Hid (Calls _ _ _ _ _) := MD.out _ M2.out.t
  go_wp2_with fail
  refine CM.out.mono ?_
  rintro e v5 ⟨⟨sb5, tb5, base5, rfl, htj, hsb⟩, hb⟩
  have MV : Hid (Md wd n xI xM xL xH v bx rb tb2 w v5) := Md.later M2.out hb
  have N5 : Hid (w.heap.size ≤ sb5 ∧ bx ≠ sb5 ∧ rb ≠ sb5 ∧ 6 ≤ sb5) := by
    have q1 := HQ.out
    have q2 : bx < _ := World.block_lt_of_cell? _ _ M2.out.c1
    have q3 := (Array.getElem?_eq_some_iff.1 M2.out.r).1
    have q4 := M2.out.b.size
    have q5 := hsb
    exact ⟨by omega, by omega, by omega, by omega⟩
  have s0 : v5.cell? ⟨rb, 0, none⟩ = some (.int .i64 wd) := by rw [cell_of_row _ _ _ _ _ _ MV.out.r]; rfl
  have s1 : v5.cell? ⟨rb, 1, none⟩ = some (.int .i64 n) := by rw [cell_of_row _ _ _ _ _ _ MV.out.r]; rfl
  have s2 : v5.cell? ⟨rb, 2, none⟩ = some (.func (.func 29) #[.pointer (some ⟨tb2, 0, none⟩)] #[]) := by rw [cell_of_row _ _ _ _ _ _ MV.out.r]; rfl
  have f0 := frozen_of_row v5 rb 0 _ _ MV.out.r
  have f1 := frozen_of_row v5 rb 1 _ _ MV.out.r
  have f2 := frozen_of_row v5 rb 2 _ _ MV.out.r
  obtain ⟨W5, HW5⟩ : ∃ W, Hid (((v5.setCell ⟨rb, 0, none⟩ (.int .i64 wd)).setCell ⟨rb, 1, none⟩ (.int .i64 n)).setCell ⟨rb, 2, none⟩ (.func (.func 29) #[.pointer (some ⟨tb5, 0, none⟩)] #[]) = W) := ⟨_, rfl⟩
  have MJ : Hid (_ ∧ _) := anew MV.out HRB.out.1 htj N5.out.2.2.1 W5 HW5.out
  have M5 : Hid (Md wd n xI xM xL xH v bx rb tb5 w W5) := MJ.out.1
  have J5 : Hid (TJ (mds wd n) sb5 (.slice none 0 0) base5 tb5 (fun b => b = sb5) [] W5) := MJ.out.2
  have HBV : Hid (Below _ _ v5) := hb
  clear CM htj hb MJ
  go_upto_region 8 with fail
  rw [HW5.out]
  clear s0 s1 s2 f0 f1 f2
  have r0 : W5.cell? ⟨rb, 0, none⟩ = some (.int .i64 wd) := by rw [cell_of_row _ _ _ _ _ _ M5.out.r]; rfl
  have r1 : W5.cell? ⟨rb, 1, none⟩ = some (.int .i64 n) := by rw [cell_of_row _ _ _ _ _ _ M5.out.r]; rfl
  have r2 : W5.cell? ⟨rb, 2, none⟩ = some (.func (.func 29) #[.pointer (some ⟨tb5, 0, none⟩)] #[]) := by rw [cell_of_row _ _ _ _ _ _ M5.out.r]; rfl
  -- the second question
  obtain ⟨i2, HI2⟩ : ∃ i, Hid (pk xM (n + 1) = i) := ⟨_, rfl⟩
  have hi2 : i2 < n + 1 := by rw [← HI2.out]; exact pk_lt xM (by omega)
  have PK : Hid (∀ w, Calls Tryd.prog 8 #[.int .i64 xM, .int .i64 ((n : Int) + 1)] w fun e w' => e = .returned (.int .i64 (i2 : Nat)) ∧ w' = w) := fun w => by
    have h := pick xM (n + 1) (by omega) (by omega) hM w
    rw [HI2.out, show ((n + 1 : Nat) : Int) = (n : Int) + 1 by omega] at h
    exact h
  obtain ⟨A5, HA5⟩ : ∃ A, Hid (conA wd (askS (mds wd n)) n i2 n [] = A) := ⟨_, rfl⟩
  have FW := few_cons wd n i2 hn1 hn2 (by omega)
  rw [HA5.out, HCC.out] at FW
  have INC : Hid (∀ W', Below W5.heap.size W5 W' → Calls Tryd.prog 10 #[.agg #[.int .i64 wd, .int .i64 n, .func (.func 29) #[.pointer (some ⟨tb5, 0, none⟩)] #[]], .int .i64 (i2 : Nat), .int .i64 n] W' (Rq wd n xI xM xL xH v bx rb sb5 w A5)) := fun W' b => by
    rw [← HA5.out]
    exact (consC (telR (mds wd n) sb5 (.slice none 0 0) base5 tb5 (by show i64 0; unfold i64; omega)) wd n i2 n hwd (fun b => b = sb5) [] W' (by decide) (tj_later J5.out b)).mono (fun e w' hp => quest (Md.later M5.out b) N5.out.1 N5.out.2.1 N5.out.2.2.1 N5.out.2.2.2 hp)
  have DR : Hid (Below W5.heap.size W5 W5.drew) := (Below.refl _ _).drew
  have c2 := M5.out.c2
  obtain ⟨L5, HL5⟩ : ∃ l, Hid ((ans A5).length = l) := ⟨_, rfl⟩
  obtain ⟨K5, HK5⟩ : ∃ l, Hid (A5.2.2.length = l) := ⟨_, rfl⟩
  obtain ⟨g1, g2, g3⟩ := FW
  rw [HL5.out] at g2 g3
  rw [HK5.out] at g3
  have HG5 : Hid (A5.2.1 = 0) := g1
  unfold Rq at INC
  rw [HL5.out, HK5.out, HG5.out] at INC
  clear g1
  have hwn : IntKind.i64.wrap ((n : Int) + 1) = (n : Int) + 1 := by unfold IntKind.wrap; simp [IntKind.bits, IntKind.signed]; omega
  clear hM hi2 hsb
  go_cut [11, 10] (fun s9 s10 wx => ∃ (ua : Option Addr) (uc : Nat) (xa : Option Addr) (xc tb' : Nat), s9 = .slice ua L5 uc ∧ s10 = .int .i64 0 ∧ Hid (wx.cell? ⟨sb5, 6, none⟩ = some (.slice xa K5 xc) ∧ Md wd n xI xM xL xH v bx rb tb' w wx))
  case first =>
    go_region_with (first | (go_at_call 8; refine (PK.out _).mono ?_; rintro _ _ ⟨rfl, hw⟩; rw [hw]; clear hw) | (go_at_call 10; refine (INC.out _ DR.out).mono ?_; rintro _ wq ⟨ua, uc, xa, xc, tb', rfl, hc, hm⟩; have HC : Hid (_ ∧ _) := ⟨hc, hm⟩; clear hc hm))
    all_goals (
      go_wp2_with fail
      go_meet
      exact ⟨ua, uc, xa, xc, tb', rfl, rfl, HC.out⟩)
  case rest =>
  as_aux_lemma =>
  obtain ⟨ub, ud, xb, xd, tb6, rfl, rfl, HC5⟩ := hcut
  obtain ⟨z6, M6⟩ := HC5.out
  have M6 : Hid (Md _ _ _ _ _ _ _ _ _ _ _ _) := M6
  clear INC DR c2 r0 r1 r2 PK HC5 J5 M5 M2 MV HBV hwn
  have w1' : IntKind.i64.wrap (62 * (L5 : Int)) = 62 * (L5 : Int) := by unfold IntKind.wrap; simp [IntKind.bits, IntKind.signed]; omega
  have w2' : IntKind.i64.wrap ((c : Int) + 1) = (c : Int) + 1 := by unfold IntKind.wrap; simp [IntKind.bits, IntKind.signed]; omega
  have t1 : decide ((c : Int) + 1 < L5) = false := decide_eq_false (by omega)
  have t1' : decide (c + 1 < L5) = false := decide_eq_false (by omega)
  have t2 : decide (62 * (L5 : Int) < K5) = false := decide_eq_false (by omega)
  have t2' : decide (62 * L5 < K5) = false := decide_eq_false (by omega)
  go_upto_region 11 with (first | (go_at_call 9; refine (NM.out _ _).mono ?_; rintro _ _ ⟨rfl, hw⟩; rw [hw]; clear hw) | go_in)
  clear z6 t1 t2 t1' t2' w1' w2'
  -- the third question
  obtain ⟨i3, HI3⟩ : ∃ i, Hid (pk xL n = i) := ⟨_, rfl⟩
  have hi3 : i3 < n := by rw [← HI3.out]; exact pk_lt xL hn1
  have PK : Hid (∀ w, Calls _ _ _ _ _) := fun w => pick xL n hn1 (by omega) hL w
  rw [HI3.out] at PK
  obtain ⟨j3, HJ3⟩ : ∃ i, Hid (pk xH (n - i3) = i) := ⟨_, rfl⟩
  have hj3 : j3 < n - i3 := by rw [← HJ3.out]; exact pk_lt xH (by omega)
  have PK2 : Hid (∀ w, Calls Tryd.prog 8 #[.int .i64 xH, .int .i64 ((n : Int) - i3)] w fun e w' => e = .returned (.int .i64 (j3 : Nat)) ∧ w' = w) := fun w => by
    have h := pick xH (n - i3) (by omega) (by omega) hH w
    rw [HJ3.out, show ((n - i3 : Nat) : Int) = (n : Int) - i3 by omega] at h
    exact h
  have c3 := M6.out.c3
  have c4 := M6.out.c4
  go_upto_region 12 with (first | (go_at_call 8; refine (PK.out _).mono ?_; rintro _ _ ⟨rfl, hw⟩; rw [hw]; clear hw) | go_in)
  go_upto_region 13 with (first | (go_at_call 8; refine (PK2.out _).mono ?_; rintro _ _ ⟨rfl, hw⟩; rw [hw]; clear hw) | go_in)
  clear PK PK2 c3 c4 hL hH
  have CM : Hid (Calls _ _ _ _ _) := MD.out _ M6.out.t
  go_wp2_with fail
  refine CM.out.mono ?_
  rintro e v7 ⟨⟨sb7, tb7, base7, rfl, htj, hsb⟩, hb⟩
  have MV : Hid (Md wd n xI xM xL xH v bx rb tb6 w v7) := Md.later M6.out hb
  have N7 : Hid (w.heap.size ≤ sb7 ∧ bx ≠ sb7 ∧ rb ≠ sb7 ∧ 6 ≤ sb7) := by
    have q1 := HQ.out
    have q2 : bx < _ := World.block_lt_of_cell? _ _ M6.out.c1
    have q3 := (Array.getElem?_eq_some_iff.1 M6.out.r).1
    have q4 := M6.out.b.size
    have q5 := hsb
    exact ⟨by omega, by omega, by omega, by omega⟩
  have s0 : v7.cell? ⟨rb, 0, none⟩ = some (.int .i64 wd) := by rw [cell_of_row _ _ _ _ _ _ MV.out.r]; rfl
  have s1 : v7.cell? ⟨rb, 1, none⟩ = some (.int .i64 n) := by rw [cell_of_row _ _ _ _ _ _ MV.out.r]; rfl
  have s2 : v7.cell? ⟨rb, 2, none⟩ = some (.func (.func 29) #[.pointer (some ⟨tb6, 0, none⟩)] #[]) := by rw [cell_of_row _ _ _ _ _ _ MV.out.r]; rfl
  have f0 := frozen_of_row v7 rb 0 _ _ MV.out.r
  have f1 := frozen_of_row v7 rb 1 _ _ MV.out.r
  have f2 := frozen_of_row v7 rb 2 _ _ MV.out.r
  obtain ⟨W7, HW7⟩ : ∃ W, Hid (((v7.setCell ⟨rb, 0, none⟩ (.int .i64 wd)).setCell ⟨rb, 1, none⟩ (.int .i64 n)).setCell ⟨rb, 2, none⟩ (.func (.func 29) #[.pointer (some ⟨tb7, 0, none⟩)] #[]) = W) := ⟨_, rfl⟩
  have MJ : Hid (_ ∧ _) := anew MV.out HRB.out.1 htj N7.out.2.2.1 W7 HW7.out
  have M7 : Hid (Md wd n xI xM xL xH v bx rb tb7 w W7) := MJ.out.1
  have J7 : Hid (TJ (mds wd n) sb7 (.slice none 0 0) base7 tb7 (fun b => b = sb7) [] W7) := MJ.out.2
  have HBV : Hid (Below _ _ v7) := hb
  clear CM htj hb MJ
  go_upto_region 14 with fail
  rw [HW7.out]
  clear s0 s1 s2 f0 f1 f2
  have r0 : W7.cell? ⟨rb, 0, none⟩ = some (.int .i64 wd) := by rw [cell_of_row _ _ _ _ _ _ M7.out.r]; rfl
  have r1 : W7.cell? ⟨rb, 1, none⟩ = some (.int .i64 n) := by rw [cell_of_row _ _ _ _ _ _ M7.out.r]; rfl
  have r2 : W7.cell? ⟨rb, 2, none⟩ = some (.func (.func 29) #[.pointer (some ⟨tb7, 0, none⟩)] #[]) := by rw [cell_of_row _ _ _ _ _ _ M7.out.r]; rfl
  obtain ⟨A7, HA7⟩ : ∃ A, Hid (rngA wd (askS (mds wd n)) n i3 (i3 + 1 + j3 : Nat) n [] = A) := ⟨_, rfl⟩
  have FW := few_range wd n i3 (i3 + 1 + j3) hn1 hn2 (by omega) (by omega)
  rw [HA7.out, HCC.out] at FW
  have INC : Hid (∀ W', Below W7.heap.size W7 W' → Calls Tryd.prog 11 #[.agg #[.int .i64 wd, .int .i64 n, .func (.func 29) #[.pointer (some ⟨tb7, 0, none⟩)] #[]], .int .i64 (i3 : Nat), .int .i64 ((i3 : Int) + 1 + j3), .int .i64 n] W' (Rq wd n xI xM xL xH v bx rb sb7 w A7)) := fun W' b => by
    rw [← HA7.out, show (i3 : Int) + 1 + j3 = ((i3 + 1 + j3 : Nat) : Int) by omega]
    exact (rangeC (telR (mds wd n) sb7 (.slice none 0 0) base7 tb7 (by show i64 0; unfold i64; omega)) wd n i3 (i3 + 1 + j3 : Nat) n hwd (fun b => b = sb7) [] W' (by decide) (tj_later J7.out b)).mono (fun e w' hp => quest (Md.later M7.out b) N7.out.1 N7.out.2.1 N7.out.2.2.1 N7.out.2.2.2 hp)
  obtain ⟨L7, HL7⟩ : ∃ l, Hid ((ans A7).length = l) := ⟨_, rfl⟩
  obtain ⟨K7, HK7⟩ : ∃ l, Hid (A7.2.2.length = l) := ⟨_, rfl⟩
  obtain ⟨g1, g2, g3⟩ := FW
  rw [HL7.out] at g2 g3
  rw [HK7.out] at g3
  have HG7 : Hid (A7.2.1 = 0) := g1
  unfold Rq at INC
  rw [HL7.out, HK7.out, HG7.out] at INC
  clear g1
  clear hsb
  go_cut [14, 10] (fun s9 s10 wx => ∃ (ua : Option Addr) (uc : Nat) (xa : Option Addr) (xc tb' : Nat), s9 = .slice ua L7 uc ∧ s10 = .int .i64 0 ∧ Hid (wx.cell? ⟨sb7, 6, none⟩ = some (.slice xa K7 xc) ∧ Md wd n xI xM xL xH v bx rb tb' w wx))
  case first =>
    go_wp2_with (first | (go_at_call 11; refine (INC.out _ (Below.refl _ _)).mono ?_; rintro _ wq ⟨ua, uc, xa, xc, tb', rfl, hc, hm⟩; have HC : Hid (_ ∧ _) := ⟨hc, hm⟩; clear hc hm) | go_in)
    go_meet
    exact ⟨ua, uc, xa, xc, tb', rfl, rfl, HC.out⟩
  case rest =>
  as_aux_lemma =>
  obtain ⟨uf, ug, xf, xg, tb8, rfl, rfl, HC8⟩ := hcut
  obtain ⟨z6, M8⟩ := HC8.out
  have M8 : Hid (Md wd n xI xM xL xH v bx rb tb8 w _) := M8
  clear INC r0 r1 r2 HC8 J7 M7 M6 MV HBV
  have w1' : IntKind.i64.wrap (62 * (L7 : Int)) = 62 * (L7 : Int) := by unfold IntKind.wrap; simp [IntKind.bits, IntKind.signed]; omega
  have w2' : IntKind.i64.wrap (2 * (c : Int)) = 2 * (c : Int) := by unfold IntKind.wrap; simp [IntKind.bits, IntKind.signed]; omega
  have t1 : decide (2 * (c : Int) < L7) = false := decide_eq_false (by omega)
  have t1' : decide (2 * c < L7) = false := decide_eq_false (by omega)
  have t2 : decide (62 * (L7 : Int) < K7) = false := decide_eq_false (by omega)
  have t2' : decide (62 * L7 < K7) = false := decide_eq_false (by omega)
  go_upto_region 17 with (first | (go_at_call 9; refine (NM.out _ _).mono ?_; rintro _ _ ⟨rfl, hw⟩; rw [hw]; clear hw) | go_in)
  clear z6 t1 t2 t1' t2' w1' w2'
  -- the fourth question
  have c5 := M8.out.c5
  have RS : Hid (Calls _ _ _ _ _) := risingC v xs n hn1 hn2 hx _ (hV.later M8.out.b) hz
  go_upto_region 18 with (first | (go_at_call 12; refine RS.out.mono ?_; rintro _ w9 ⟨⟨zs, zu, rfl, zo, zp⟩, hb9⟩) | go_in)
  obtain ⟨za, zc, rfl⟩ := own_formS zo
  have M9 : Hid (Md wd n xI xM xL xH v bx rb tb8 w w9) := Md.later M8.out hb9
  have ZO : Hid (World.ownsRow w9 _ 3 1 _ _ _) := zo
  have ZP : Hid (places zs n = 0) := zp
  obtain ⟨lz, HLZ⟩ : ∃ l, Hid (zs.length = l) := ⟨_, rfl⟩
  rw [HLZ.out] at ZO ⊢
  clear zo zp hb9 c5 RS M8
  have CM : Hid (Calls _ _ _ _ _) := MD.out _ M9.out.t
  go_wp2_with fail
  refine CM.out.mono ?_
  rintro e v10 ⟨⟨sb10, tb10, base10, rfl, htj, hsb⟩, hb⟩
  have MV : Hid (Md wd n xI xM xL xH v bx rb tb8 w v10) := Md.later M9.out hb
  have N10 : Hid (w.heap.size ≤ sb10 ∧ bx ≠ sb10 ∧ rb ≠ sb10 ∧ 6 ≤ sb10) := by
    have q1 := HQ.out
    have q2 : bx < _ := World.block_lt_of_cell? _ _ M9.out.c1
    have q3 := (Array.getElem?_eq_some_iff.1 M9.out.r).1
    have q4 := M9.out.b.size
    have q5 := hsb
    exact ⟨by omega, by omega, by omega, by omega⟩
  have s0 : v10.cell? ⟨rb, 0, none⟩ = some (.int .i64 wd) := by rw [cell_of_row _ _ _ _ _ _ MV.out.r]; rfl
  have s1 : v10.cell? ⟨rb, 1, none⟩ = some (.int .i64 n) := by rw [cell_of_row _ _ _ _ _ _ MV.out.r]; rfl
  have s2 : v10.cell? ⟨rb, 2, none⟩ = some (.func (.func 29) #[.pointer (some ⟨tb8, 0, none⟩)] #[]) := by rw [cell_of_row _ _ _ _ _ _ MV.out.r]; rfl
  have f0 := frozen_of_row v10 rb 0 _ _ MV.out.r
  have f1 := frozen_of_row v10 rb 1 _ _ MV.out.r
  have f2 := frozen_of_row v10 rb 2 _ _ MV.out.r
  obtain ⟨W10, HW10⟩ : ∃ W, Hid (((v10.setCell ⟨rb, 0, none⟩ (.int .i64 wd)).setCell ⟨rb, 1, none⟩ (.int .i64 n)).setCell ⟨rb, 2, none⟩ (.func (.func 29) #[.pointer (some ⟨tb10, 0, none⟩)] #[]) = W) := ⟨_, rfl⟩
  have MJ : Hid (_ ∧ _) := anew MV.out HRB.out.1 htj N10.out.2.2.1 W10 HW10.out
  have M10 : Hid (Md wd n xI xM xL xH v bx rb tb10 w W10) := MJ.out.1
  have J10 : Hid (TJ (mds wd n) sb10 (.slice none 0 0) base10 tb10 (fun b => b = sb10) [] W10) := MJ.out.2
  have HBV : Hid (Below _ _ v10) := hb
  clear CM htj hb MJ
  go_upto_region 19 with fail
  rw [HW10.out]
  clear s0 s1 s2 f0 f1 f2
  have r0 : W10.cell? ⟨rb, 0, none⟩ = some (.int .i64 wd) := by rw [cell_of_row _ _ _ _ _ _ M10.out.r]; rfl
  have r1 : W10.cell? ⟨rb, 1, none⟩ = some (.int .i64 n) := by rw [cell_of_row _ _ _ _ _ _ M10.out.r]; rfl
  have r2 : W10.cell? ⟨rb, 2, none⟩ = some (.func (.func 29) #[.pointer (some ⟨tb10, 0, none⟩)] #[]) := by rw [cell_of_row _ _ _ _ _ _ M10.out.r]; rfl
  obtain ⟨A10, HA10⟩ : ∃ A, Hid (mulA wd (askS (mds wd n)) n zs n [] = A) := ⟨_, rfl⟩
  have FW := few_multi wd n zs hn1 hn2 ZP.out
  rw [HA10.out, HCC.out, HLZ.out] at FW
  have ZR : Hid (ReadsI W10 (.slice za lz zc) zs) := by
    have o1 : v10.ownsRow _ 3 1 (.slice za lz zc) lz (zs.map (Value.int .i64)) := own_later ZO.out HBV.out
    have K : Kp (fun b => b = rb) v10 W10 := by
      rw [← HW10.out]
      exact ((Kp.setCell (A := fun b => b = rb) _ _ _ _ rfl).trans (Kp.setCell (A := fun b => b = rb) _ _ _ _ rfl)).trans (Kp.setCell (A := fun b => b = rb) _ _ _ _ rfl)
    have o2 : W10.ownsRow _ 3 1 (.slice za lz zc) lz (zs.map (Value.int .i64)) := owns_keep o1 (fun g hg => K.block g (owns_lt o1 hg).1 (fun e => by
      have hr := MV.out.r
      rw [← show g = rb from e] at hr
      obtain ⟨_, h2 | ⟨g', cap, cur, e2, _, h3, _⟩⟩ := o1
      · rw [h2.1] at hg; cases hg
      · rw [e2] at hg
        obtain rfl : g' = g := by simpa [Value.ownBlock] using hg
        rw [h3] at hr
        exact absurd (Obj.cells.inj (Option.some.inj hr)).2.1 (by decide)))
    have hh := own_readsI o2
    exact hh
  obtain ⟨p1, p2, p3, p4⟩ := places_ok ZP.out
  have INC : Hid (∀ W', Below W10.heap.size W10 W' → Calls Tryd.prog 13 #[.agg #[.int .i64 wd, .int .i64 n, .func (.func 29) #[.pointer (some ⟨tb10, 0, none⟩)] #[]], .slice za lz zc, .int .i64 n] W' (Rq wd n xI xM xL xH v bx rb sb10 w A10)) := fun W' b => by
    rw [← HA10.out]
    exact (multiC (telR (mds wd n) sb10 (.slice none 0 0) base10 tb10 (by show i64 0; unfold i64; omega)) wd n n (.slice za lz zc) zs hwd (fun b => b = sb10) [] W' (by decide) (tj_later J10.out b) (ZR.out.later b) (by omega)).mono (fun e w' hp => quest (Md.later M10.out b) N10.out.1 N10.out.2.1 N10.out.2.2.1 N10.out.2.2.2 hp)
  obtain ⟨L10, HL10⟩ : ∃ l, Hid ((ans A10).length = l) := ⟨_, rfl⟩
  obtain ⟨K10, HK10⟩ : ∃ l, Hid (A10.2.2.length = l) := ⟨_, rfl⟩
  obtain ⟨g1, g2, g3⟩ := FW
  rw [HL10.out] at g2 g3
  rw [HK10.out] at g3
  have HG10 : Hid (A10.2.1 = 0) := g1
  unfold Rq at INC
  rw [HL10.out, HK10.out, HG10.out] at INC
  clear g1
  have hlz : lz ≤ 1024 := by rw [← HLZ.out]; omega
  have hlc : lz * c ≤ 63488 := Nat.le_trans (Nat.mul_le_mul hlz hcs) (by decide)
  clear hsb
  go_cut [16, 10] (fun s9 s10 wx => ∃ (ua : Option Addr) (uc : Nat) (xa : Option Addr) (xc tb' : Nat), s9 = .slice ua L10 uc ∧ s10 = .int .i64 0 ∧ Hid (wx.cell? ⟨sb10, 6, none⟩ = some (.slice xa K10 xc) ∧ Md wd n xI xM xL xH v bx rb tb' w wx))
  case first =>
    go_wp2_with (first | (go_at_call 13; refine (INC.out _ (Below.refl _ _)).mono ?_; rintro _ wq ⟨ua, uc, xa, xc, tb', rfl, hc, hm⟩; have HC : Hid (_ ∧ _) := ⟨hc, hm⟩; clear hc hm) | go_in)
    go_meet
    exact ⟨ua, uc, xa, xc, tb', rfl, rfl, HC.out⟩
  case rest =>
  as_aux_lemma =>
  obtain ⟨uf2, ug2, xf2, xg2, tb11, rfl, rfl, HC11⟩ := hcut
  obtain ⟨z6, M11⟩ := HC11.out
  have B11 : Hid (Below w.heap.size w _) := M11.b
  clear INC r0 r1 r2 HC11 J10 M10 M9 MV HBV ZR ZO M11
  have w1' : IntKind.i64.wrap (62 * (L10 : Int)) = 62 * (L10 : Int) := by unfold IntKind.wrap; simp [IntKind.bits, IntKind.signed]; omega
  have elc : ((lz * c : Nat) : Int) = (lz : Int) * c := by simp
  have w2' : IntKind.i64.wrap ((lz : Int) * c) = (lz : Int) * c := by rw [← elc]; unfold IntKind.wrap; simp [IntKind.bits, IntKind.signed]; omega
  have t1 : decide ((L10 : Int) ≤ (lz : Int) * c) = true := decide_eq_true (by rw [← elc]; omega)
  have t2 : decide ((K10 : Int) ≤ 62 * (L10 : Int)) = true := decide_eq_true (by omega)
  have t3 : decide ((c : Int) ≤ 62) = true := decide_eq_true (by omega)
  have t3' : decide (c ≤ 62) = true := decide_eq_true (by omega)
  obtain ⟨h1, h2, h3⟩ := hcl
  have e1 : (n : Int) ≤ wrap64 (2 ^ c) := by rw [pw h1]; exact Int.ofNat_le.2 h2
  have e3 : Hid (n ≠ 1 → wrap64 (2 ^ (c - 1)) < (n : Int)) := fun hh => by
    rcases h3 with h | ⟨_, h⟩
    · exact absurd h hh
    · rw [pw (by omega)]; exact Int.ofNat_lt.2 h
  have E1 : Hid ((n : Int) ≤ wrap64 (2 ^ c)) := e1
  clear e1
  go_wp2_with (first | (go_at_call 9; refine (NM.out _ _).mono ?_; rintro _ _ ⟨rfl, hw⟩; rw [hw]; clear hw) | go_in)
  · rename_i hA
    go_ret
    exact ⟨by first | rfl | (rw [decide_eq_true (show (1 : Int) ≤ wrap64 (2 ^ c) by rw [← hA]; exact E1.out)]; rfl), B11.out⟩
  · rename_i hA hB
    go_ret
    exact ⟨by first | rfl | (rw [decide_eq_true E1.out]; rfl), B11.out⟩
  · rename_i hA hB
    exact absurd hB (Int.not_le.2 (e3.out (fun h => hA (by rw [h]; rfl))))
theorem short_walk (W : World) (wd : Int) (w0 : (Lit.int .i64 wd).wf = true) (xN : Int) (wN : (Lit.int .i64 xN).wf = true) (xI : Int) (wI : (Lit.int .i64 xI).wf = true) (xM : Int) (wM : (Lit.int .i64 xM).wf = true) (xL : Int) (wL : (Lit.int .i64 xL).wf = true) (xH : Int) (wH : (Lit.int .i64 xH).wf = true) (v : Value) (xs : List Int) (hr : ReadsI W v xs) (hx : ∀ x ∈ xs, (Lit.int .i64 x).wf = true) (hz : xs.length * 8 ≤ 140737488351232) (tabs : T7 W) :
    Calls Tryd.prog 3 #[.int .i64 wd, .agg #[.int .i64 xN, .int .i64 xI, .int .i64 xM, .int .i64 xL, .int .i64 xH, v]] W fun e w' => e = .returned (.bool true) ∧ Below W.heap.size W w' :=
  prove_short wd xN xI xM xL xH v xs (cv.i64_of w0) (cv.i64_of wN) (cv.i64_of wI) (cv.i64_of wM) (cv.i64_of wL) (cv.i64_of wH) (fun x h => cv.i64_of (hx x h)) W tabs hr (by omega)
end Go.Proofs.YtageidkikgakfaaDoor.lz
