import Derived.Test.YtpcllegjnbeppaaGreatJ2
import Derived.Deep.RegionHeld3
import Derived.Deep.DeepCutAuto
import Derived.Test.YtpcllegjnbeppaaGreatG1
namespace Go.Proofs.YtpcllegjnbeppaaGreat.jc
open Go.RowKit Go.PlainAid Go.Maps Go.Shelf
open Go.Proofs.YtpcllegjnbeppaaGreat.kp Go.Proofs.YtpcllegjnbeppaaGreat.ka Go.Proofs.YtpcllegjnbeppaaGreat.ya Go.Proofs.YtpcllegjnbeppaaGreat.yb Go.Proofs.YtpcllegjnbeppaaGreat.yc Go.Proofs.YtpcllegjnbeppaaGreat.yd Go.Proofs.YtpcllegjnbeppaaGreat.ye Go.Proofs.YtpcllegjnbeppaaGreat.yf Go.Proofs.YtpcllegjnbeppaaGreat.yg Go.Proofs.YtpcllegjnbeppaaGreat.yi Go.Proofs.YtpcllegjnbeppaaGreat.yj Go.Proofs.YtpcllegjnbeppaaGreat.yk Go.Proofs.YtpcllegjnbeppaaGreat.yl Go.Proofs.YtpcllegjnbeppaaGreat.ym
open Go.Proofs.YtpcllegjnbeppaaGreat.tqa Go.Proofs.YtpcllegjnbeppaaGreat.tba Go.Proofs.YtpcllegjnbeppaaGreat.tbb Go.Proofs.YtpcllegjnbeppaaGreat.tbc Go.Proofs.YtpcllegjnbeppaaGreat.tbd Go.Proofs.YtpcllegjnbeppaaGreat.tbe Go.Proofs.YtpcllegjnbeppaaGreat.tbf
open Go.Proofs.YtpcllegjnbeppaaGreat.tqb (over keyC keyNo kindT kindT_size spaceT spaceT_size key_is)
open Go.Proofs.YtpcllegjnbeppaaGreat.ea Go.Proofs.YtpcllegjnbeppaaGreat.eb Go.Proofs.YtpcllegjnbeppaaGreat.ec Go.Proofs.YtpcllegjnbeppaaGreat.ed Go.Proofs.YtpcllegjnbeppaaGreat.eh Go.Proofs.YtpcllegjnbeppaaGreat.ha Go.Proofs.YtpcllegjnbeppaaGreat.hi
open Go.Proofs.YtpcllegjnbeppaaGreat.ja Go.Proofs.YtpcllegjnbeppaaGreat.jb
open Go.Proofs.YtpcllegjnbeppaaGreat.xc (Ds Rd Dt)
set_option linter.unusedVariables false
set_option linter.unusedSimpArgs false
def lcs (a b c d e f sp : Int) (g g' : Nat) (q1 q2 : Option Addr) (o : Bool) : Array Value := #[.int .i64 a, .int .i64 b, .int .i64 c, .int .i64 d, .int .i64 e, .int .i64 f, .int .i64 sp, .pointer (some ⟨g, 0, none⟩), .pointer q1, .pointer (some ⟨g', 0, none⟩), .pointer q2, .bool o]
theorem own_cs {w : World} {B t z n j : Nat} {v : Value} {xs : List Value} (o : w.ownsRow B t z v n xs) (hj : some j = v.ownBlock) : ∃ cur f, w.heap[j]? = some (.cells cur t f) := by
  rcases o.2 with ⟨rfl, _⟩ | ⟨g', cap, cur', rfl, _, h3, _⟩
  · cases hj
  · have e : j = g' := Option.some.inj hj
    exact ⟨_, _, by rw [e]; exact h3⟩
theorem ap {g bn bd g' : Nat} {pv dv wv vv : Value} {s t : S} {w : World} (h1 : Sr 0 g bn bd pv s w) (h2 : Ds 0 g' dv wv vv t w) (j : Nat) (hj : Fr g bn bd pv j) : j ≠ g' ∧ some j ≠ wv.ownBlock ∧ some j ≠ dv.ownBlock ∧ some j ≠ vv.ownBlock := by
  refine ⟨fun e => ?_, fun e => ?_, fun e => ?_, fun e => ?_⟩
  · subst e
    have hr : w.heap[j]? = _ := h2.row
    exact fr_no h1 (by decide) (by decide) hj hr
  · obtain ⟨cur, f, hc⟩ := own_cs h2.wl e
    exact fr_no h1 (by decide) (by decide) hj hc
  · obtain ⟨cur, f, hc⟩ := own_cs h2.dl e
    exact fr_no h1 (by decide) (by decide) hj hc
  · obtain ⟨cur, f, hc⟩ := own_cs h2.vl e
    exact fr_no h1 (by decide) (by decide) hj hc
structure Lm (P g bn bd g' : Nat) (a b c d e f sp : Int) (s t : S) (w0 w : World) : Prop where
  ex : ∃ pv dv wv vv, Sr 0 g bn bd pv s w ∧ Ds 0 g' dv wv vv t w ∧ (∀ j, Fr g bn bd pv j → w0.heap.size ≤ j) ∧ ∀ j, xc.Fd g' wv j → w0.heap.size ≤ j
  pr : ∃ q1 q2 o, w.heap[P]? = some (.cells (lcs a b c d e f sp g g' q1 q2 o) 41 (0, 0))
  bl : Below w0.heap.size w0 w
  hp : w0.heap.size ≤ P
section
variable {P g bn bd g' : Nat} {a b c d e f sp : Int} {s t : S} {w0 w w' : World}
theorem Lm.later (h : Lm P g bn bd g' a b c d e f sp s t w0 w) (bb : Below w.heap.size w w') : Lm P g bn bd g' a b c d e f sp s t w0 w' := by
  obtain ⟨⟨pv, dv, wv, vv, h1, h2, l1, l2⟩, ⟨q1, q2, o, hr⟩, bl, hp⟩ := h
  exact ⟨⟨pv, dv, wv, vv, sr_later h1 bb, h2.later bb, l1, l2⟩, ⟨q1, q2, o, (bb.block _ (Array.getElem?_eq_some_iff.1 hr).1).trans hr⟩, over bl bb, hp⟩
theorem Lm.fst (h : Lm P g bn bd g' a b c d e f sp s t w0 w) : ∃ pv, Sr 0 g bn bd pv s w ∧ ∀ s' w', Ru g bn bd pv s' w w' → Lm P g bn bd g' a b c d e f sp s' t w0 w' := by
  obtain ⟨⟨pv, dv, wv, vv, h1, h2, l1, l2⟩, ⟨q1, q2, o, hr⟩, bl, hp⟩ := h
  refine ⟨pv, h1, fun s' w' ⟨p, r1, r2, r3⟩ => ⟨⟨p, dv, wv, vv, r1, h2.keep r2 (fun hf => (ap h1 h2 _ hf).1 rfl) (fun j hj hf => (ap h1 h2 j hf).2.1 hj) (fun j hj hf => (ap h1 h2 j hf).2.2.1 hj) (fun j hj hf => (ap h1 h2 j hf).2.2.2 hj), fun j hj => ?_, l2⟩, ⟨q1, q2, o, (r2.block _ (Array.getElem?_eq_some_iff.1 hr).1 (fun hf => fr_no h1 (by decide) (by decide) hf hr)).trans hr⟩, ?_, hp⟩⟩
  · rcases r3 j hj with x | x
    · exact l1 j x
    · exact Nat.le_trans bl.size x
  · exact ⟨r2.os.trans bl.os, r2.tape.trans bl.tape, r2.output.trans bl.output, Nat.le_trans bl.size r2.size, fun j hj => (r2.block j (by have := bl.size; omega) (fun hf => by have := l1 j hf; omega)).trans (bl.block j hj)⟩
theorem Lm.snd (h : Lm P g bn bd g' a b c d e f sp s t w0 w) : ∃ dv wv vv, Ds 0 g' dv wv vv t w ∧ ∀ t' w', Rd 0 g' wv t' w w' → Lm P g bn bd g' a b c d e f sp s t' w0 w' := by
  obtain ⟨⟨pv, dv, wv, vv, h1, h2, l1, l2⟩, ⟨q1, q2, o, hr⟩, bl, hp⟩ := h
  refine ⟨dv, wv, vv, h2, fun t' w' ⟨dv', wv', vv', r1, r2, r3⟩ => ⟨⟨pv, dv', wv', vv', sr_keep h1 r2 (fun j hj hf => ?_), r1, l1, ?_⟩, ⟨q1, q2, o, (r2.block _ (Array.getElem?_eq_some_iff.1 hr).1 (fun hf => ?_)).trans hr⟩, ?_, hp⟩⟩
  · rcases hf with x | x
    · exact (ap h1 h2 j hj).1 x
    · exact (ap h1 h2 j hj).2.1 x
  · rintro j (x | x)
    · exact l2 j (.inl x)
    · rcases r3 j x with y | y
      · exact l2 j (.inr y)
      · exact Nat.le_trans bl.size y
  · rcases hf with x | x
    · have hg : w.heap[g']? = _ := h2.row
      rw [← x, hr] at hg
      exact absurd (Obj.cells.inj (Option.some.inj hg)).2.1 (by decide)
    · exact own_tag h2.wl hr (by decide) x
  · exact ⟨r2.os.trans bl.os, r2.tape.trans bl.tape, r2.output.trans bl.output, Nat.le_trans bl.size r2.size, fun j hj => (r2.block j (by have := bl.size; omega) (fun hf => by have := l2 j hf; omega)).trans (bl.block j hj)⟩
theorem Lm.put (h : Lm P g bn bd g' a b c d e f sp s t w0 w) (x y : Option Addr) : ∀ W, ((w.setCell ⟨P, 8, none⟩ (.pointer x)).setCell ⟨P, 10, none⟩ (.pointer y)).setCell ⟨P, 11, none⟩ (.bool false) = W → Lm P g bn bd g' a b c d e f sp s t w0 W := by
  intro W hW
  obtain ⟨⟨pv, dv, wv, vv, h1, h2, l1, l2⟩, ⟨q1, q2, o, hr⟩, bl, hp⟩ := h
  have k : Kp (fun j => j = P) w W := by rw [← hW]; exact ((Kp.setCell (A := fun j => j = P) _ _ _ _ rfl).trans (Kp.setCell (A := fun j => j = P) _ _ _ _ rfl)).trans (Kp.setCell (A := fun j => j = P) _ _ _ _ rfl)
  have H3 := heap_setCell_same _ _ 11 _ _ (.bool false) (heap_setCell_same _ _ 10 _ _ (.pointer y) (heap_setCell_same _ _ 8 _ _ (.pointer x) hr))
  rw [hW] at H3
  refine ⟨⟨pv, dv, wv, vv, sr_keep h1 k (fun j hj e => by subst e; exact fr_no h1 (by decide) (by decide) hj hr), h2.keep k (fun e => ?_) (fun j hj e => own_tag h2.wl hr (by decide) (by rw [← e]; exact hj)) (fun j hj e => own_tag h2.dl hr (by decide) (by rw [← e]; exact hj)) (fun j hj e => own_tag h2.vl hr (by decide) (by rw [← e]; exact hj)), l1, l2⟩, ⟨x, y, false, H3⟩, bl.trans (k.below (fun q e => by rw [show q = P from e]; exact hp) bl.size), hp⟩
  have hg : w.heap[g']? = _ := h2.row
  rw [e, hr] at hg
  exact absurd (Obj.cells.inj (Option.some.inj hg)).2.1 (by decide)
theorem Lm.cells (h : Lm P g bn bd g' a b c d e f sp s t w0 w) : ∃ (q1 q2 : Option Addr) (o : Bool), (w.cell? ⟨P, 0, none⟩ = some (.int .i64 a) ∧ w.cell? ⟨P, 1, none⟩ = some (.int .i64 b) ∧ w.cell? ⟨P, 2, none⟩ = some (.int .i64 c) ∧ w.cell? ⟨P, 3, none⟩ = some (.int .i64 d) ∧ w.cell? ⟨P, 4, none⟩ = some (.int .i64 e) ∧ w.cell? ⟨P, 5, none⟩ = some (.int .i64 f) ∧ w.cell? ⟨P, 6, none⟩ = some (.int .i64 sp) ∧ w.cell? ⟨P, 7, none⟩ = some (.pointer (some ⟨g, 0, none⟩)) ∧ w.cell? ⟨P, 8, none⟩ = some (.pointer q1) ∧ w.cell? ⟨P, 9, none⟩ = some (.pointer (some ⟨g', 0, none⟩)) ∧ w.cell? ⟨P, 10, none⟩ = some (.pointer q2) ∧ w.cell? ⟨P, 11, none⟩ = some (.bool o)) ∧ ∀ i, w.frozen? ⟨P, i, none⟩ = false := by
  obtain ⟨_, ⟨q1, q2, o, hr⟩, _, _⟩ := h
  exact ⟨q1, q2, o, ⟨cell_of_row _ _ 0 _ _ _ hr, cell_of_row _ _ 1 _ _ _ hr, cell_of_row _ _ 2 _ _ _ hr, cell_of_row _ _ 3 _ _ _ hr, cell_of_row _ _ 4 _ _ _ hr, cell_of_row _ _ 5 _ _ _ hr, cell_of_row _ _ 6 _ _ _ hr, cell_of_row _ _ 7 _ _ _ hr, cell_of_row _ _ 8 _ _ _ hr, cell_of_row _ _ 9 _ _ _ hr, cell_of_row _ _ 10 _ _ _ hr, cell_of_row _ _ 11 _ _ _ hr⟩, fun i => frozen_of_row _ _ i _ _ hr⟩
theorem Lm.held1 (h : Lm P g bn bd g' a b c d e f sp s t w0 w) : w.cell? ⟨P, 0, none⟩ = some (.int .i64 a) ∧ w.cell? ⟨P, 1, none⟩ = some (.int .i64 b) ∧ w.cell? ⟨P, 2, none⟩ = some (.int .i64 c) ∧ w.cell? ⟨P, 3, none⟩ = some (.int .i64 d) ∧ w.cell? ⟨P, 4, none⟩ = some (.int .i64 e) ∧ w.cell? ⟨P, 5, none⟩ = some (.int .i64 f) ∧ w.cell? ⟨P, 6, none⟩ = some (.int .i64 sp) ∧ w.cell? ⟨P, 7, none⟩ = some (.pointer (some ⟨g, 0, none⟩)) := by
  obtain ⟨_, _, _, ⟨p0, p1, p2, p3, p4, p5, p6, p7, _, _, _, _⟩, _⟩ := h.cells
  exact ⟨p0, p1, p2, p3, p4, p5, p6, p7⟩
theorem Lm.held2 (h : Lm P g bn bd g' a b c d e f sp s t w0 w) : w.cell? ⟨P, 0, none⟩ = some (.int .i64 a) ∧ w.cell? ⟨P, 1, none⟩ = some (.int .i64 b) ∧ w.cell? ⟨P, 2, none⟩ = some (.int .i64 c) ∧ w.cell? ⟨P, 3, none⟩ = some (.int .i64 d) ∧ w.cell? ⟨P, 4, none⟩ = some (.int .i64 e) ∧ w.cell? ⟨P, 5, none⟩ = some (.int .i64 f) ∧ w.cell? ⟨P, 6, none⟩ = some (.int .i64 sp) ∧ w.cell? ⟨P, 9, none⟩ = some (.pointer (some ⟨g', 0, none⟩)) := by
  obtain ⟨_, _, _, ⟨p0, p1, p2, p3, p4, p5, p6, _, _, p9, _, _⟩, _⟩ := h.cells
  exact ⟨p0, p1, p2, p3, p4, p5, p6, p9⟩
set_option maxRecDepth 100000 in
set_option maxHeartbeats 6400000 in
theorem beginM (least : Int) (hs : sp ≤ 9223372036854775807) (he : Em s) (h : Lm P g bn bd g' a b c d e f sp s s w0 w) : Calls Tryz.prog 21 #[.pointer (some ⟨P, 0, none⟩), .bool true, .int .i64 least] w fun r w' => r = .returned (.bool true) ∧ Lm P g bn bd g' a b c d e f sp s s w0 w' := by
  obtain ⟨E, HE⟩ : ∃ E, Hid (mkE a b sp s.off = E) := ⟨_, rfl⟩
  have CM : Hid (∀ w1, Lm P g bn bd g' a b c d e f sp s s w0 w1 → Calls Tryz.prog 52 #[.pointer (some ⟨g, 0, none⟩), .agg #[.int .i64 a, .int .i64 b, .int .i64 c, .int .i64 d, .int .i64 e, .int .i64 f], .int .i64 sp] w1 fun r w' => ∃ q, r = .returned (.tuple #[.pointer q, .int .i64 E]) ∧ (q = none ↔ E ≠ 0) ∧ Lm P g bn bd g' a b c d e f sp s s w0 w') := fun w1 h1 => by
    obtain ⟨pv, k1, k2⟩ := h1.fst
    rw [← HE.out]
    exact (pMake a b c d e f sp k1 he hs).mono fun r w' ⟨q, x, y, z⟩ => ⟨q, x, y, k2 _ _ z⟩
  have CR : Hid (∀ w1, Lm P g bn bd g' a b c d e f sp s s w0 w1 → Calls Tryz.prog 53 #[.pointer (some ⟨g', 0, none⟩), .agg #[.int .i64 a, .int .i64 b, .int .i64 c, .int .i64 d, .int .i64 e, .int .i64 f], .int .i64 sp] w1 fun r w' => ∃ q, r = .returned (.tuple #[.pointer q, .int .i64 E]) ∧ (q = none ↔ E ≠ 0) ∧ Lm P g bn bd g' a b c d e f sp s s w0 w') := fun w1 h1 => by
    obtain ⟨dv, wv, vv, k1, k2⟩ := h1.snd
    rw [← HE.out]
    exact (make0 a b c d e f sp k1 he hs).mono fun r w' ⟨q, x, y, z⟩ => ⟨q, x, y, h1.later z⟩
  have H0 : Hid (Lm P g bn bd g' a b c d e f sp s s w0 w.drew) := h.later (Below.refl _ _).drew
  have SH0 : Hid (w.drew.cell? ⟨P, 0, none⟩ = some (.int .i64 a) ∧ w.drew.cell? ⟨P, 1, none⟩ = some (.int .i64 b) ∧ w.drew.cell? ⟨P, 2, none⟩ = some (.int .i64 c) ∧ w.drew.cell? ⟨P, 3, none⟩ = some (.int .i64 d) ∧ w.drew.cell? ⟨P, 4, none⟩ = some (.int .i64 e) ∧ w.drew.cell? ⟨P, 5, none⟩ = some (.int .i64 f) ∧ w.drew.cell? ⟨P, 6, none⟩ = some (.int .i64 sp) ∧ w.drew.cell? ⟨P, 7, none⟩ = some (.pointer (some ⟨g, 0, none⟩))) := H0.out.held1
  obtain ⟨q1, q2, o, ⟨p0, p1, p2, p3, p4, p5, p6, p7, p8, p9, p10, p11⟩, pf⟩ := h.cells
  clear h hs he p8 p10 p11 pf p9
  go_enter Tryz.func21, Tryz.ntmps21
  go_upto_region 2 with fail
  go_cut [7, 8] (fun s7 s8 wx => ∃ q, s7 = .pointer q ∧ s8 = .int .i64 E ∧ Hid (q = none ↔ E ≠ 0) ∧ Hid (Lm P g bn bd g' a b c d e f sp s s w0 wx))
  case first =>
    go_region_held3 (fun W => W.cell? ⟨P, 0, none⟩ = some (.int .i64 a) ∧ W.cell? ⟨P, 1, none⟩ = some (.int .i64 b) ∧ W.cell? ⟨P, 2, none⟩ = some (.int .i64 c) ∧ W.cell? ⟨P, 3, none⟩ = some (.int .i64 d) ∧ W.cell? ⟨P, 4, none⟩ = some (.int .i64 e) ∧ W.cell? ⟨P, 5, none⟩ = some (.int .i64 f) ∧ W.cell? ⟨P, 6, none⟩ = some (.int .i64 sp) ∧ W.cell? ⟨P, 7, none⟩ = some (.pointer (some ⟨g, 0, none⟩))) (first | exact SH1.out | exact SH0.out) (first | (go_at_call 52; refine (CM.out _ H0.out).mono ?_; rintro _ w1 ⟨q, rfl, hq, hl⟩; have HQ : Hid (q = none ↔ E ≠ 0) := hq; have HL : Hid (Lm P g bn bd g' a b c d e f sp s s w0 w1) := hl; have SH1 : Hid (w1.cell? ⟨P, 0, none⟩ = some (.int .i64 a) ∧ w1.cell? ⟨P, 1, none⟩ = some (.int .i64 b) ∧ w1.cell? ⟨P, 2, none⟩ = some (.int .i64 c) ∧ w1.cell? ⟨P, 3, none⟩ = some (.int .i64 d) ∧ w1.cell? ⟨P, 4, none⟩ = some (.int .i64 e) ∧ w1.cell? ⟨P, 5, none⟩ = some (.int .i64 f) ∧ w1.cell? ⟨P, 6, none⟩ = some (.int .i64 sp) ∧ w1.cell? ⟨P, 7, none⟩ = some (.pointer (some ⟨g, 0, none⟩))) := hl.held1; clear hq hl))
    all_goals (
      go_wp2_with fail
      go_meet
      exact ⟨q, rfl, rfl, HQ.out, HL.out⟩)
  case rest =>
  as_aux_lemma =>
  clear p0 p1 p2 p3 p4 p5 p6 p7 H0 SH0
  obtain ⟨q, rfl, rfl, HQ, HL⟩ := hcut
  have H1 : Hid (Lm P g bn bd g' a b c d e f sp s s w0 wc.drew) := HL.out.later (Below.refl _ _).drew
  have SH0 : Hid (wc.drew.cell? ⟨P, 0, none⟩ = some (.int .i64 a) ∧ wc.drew.cell? ⟨P, 1, none⟩ = some (.int .i64 b) ∧ wc.drew.cell? ⟨P, 2, none⟩ = some (.int .i64 c) ∧ wc.drew.cell? ⟨P, 3, none⟩ = some (.int .i64 d) ∧ wc.drew.cell? ⟨P, 4, none⟩ = some (.int .i64 e) ∧ wc.drew.cell? ⟨P, 5, none⟩ = some (.int .i64 f) ∧ wc.drew.cell? ⟨P, 6, none⟩ = some (.int .i64 sp) ∧ wc.drew.cell? ⟨P, 9, none⟩ = some (.pointer (some ⟨g', 0, none⟩))) := H1.out.held2
  obtain ⟨y1, y2, y3, ⟨p0, p1, p2, p3, p4, p5, p6, p7, p8, p9, p10, p11⟩, pf⟩ := HL.out.cells
  clear p8 p10 p11 pf p7
  go_upto_region 3 with fail
  go_cut [9, 10] (fun s7 s8 wx => ∃ q, s7 = .pointer q ∧ s8 = .int .i64 E ∧ Hid (q = none ↔ E ≠ 0) ∧ Hid (Lm P g bn bd g' a b c d e f sp s s w0 wx))
  case first =>
    go_region_held3 (fun W => W.cell? ⟨P, 0, none⟩ = some (.int .i64 a) ∧ W.cell? ⟨P, 1, none⟩ = some (.int .i64 b) ∧ W.cell? ⟨P, 2, none⟩ = some (.int .i64 c) ∧ W.cell? ⟨P, 3, none⟩ = some (.int .i64 d) ∧ W.cell? ⟨P, 4, none⟩ = some (.int .i64 e) ∧ W.cell? ⟨P, 5, none⟩ = some (.int .i64 f) ∧ W.cell? ⟨P, 6, none⟩ = some (.int .i64 sp) ∧ W.cell? ⟨P, 9, none⟩ = some (.pointer (some ⟨g', 0, none⟩))) (first | exact SH1.out | exact SH0.out) (first | (go_at_call 53; refine (CR.out _ H1.out).mono ?_; rintro _ w1 ⟨q', rfl, hq, hl⟩; have HQ' : Hid (q' = none ↔ E ≠ 0) := hq; have HL' : Hid (Lm P g bn bd g' a b c d e f sp s s w0 w1) := hl; have SH1 : Hid (w1.cell? ⟨P, 0, none⟩ = some (.int .i64 a) ∧ w1.cell? ⟨P, 1, none⟩ = some (.int .i64 b) ∧ w1.cell? ⟨P, 2, none⟩ = some (.int .i64 c) ∧ w1.cell? ⟨P, 3, none⟩ = some (.int .i64 d) ∧ w1.cell? ⟨P, 4, none⟩ = some (.int .i64 e) ∧ w1.cell? ⟨P, 5, none⟩ = some (.int .i64 f) ∧ w1.cell? ⟨P, 6, none⟩ = some (.int .i64 sp) ∧ w1.cell? ⟨P, 9, none⟩ = some (.pointer (some ⟨g', 0, none⟩))) := hl.held2; clear hq hl))
    all_goals (
      go_wp2_with fail
      go_meet
      exact ⟨q', rfl, rfl, HQ'.out, HL'.out⟩)
  case rest =>
  as_aux_lemma =>
  clear p0 p1 p2 p3 p4 p5 p6 p9 H1 SH0
  obtain ⟨q', rfl, rfl, HQ', HL'⟩ := hcut
  obtain ⟨y1, y2, y3, ⟨p0, p1, p2, p3, p4, p5, p6, p7, p8, p9, p10, p11⟩, pf⟩ := HL'.out.cells
  have f8 := pf 8
  have f10 := pf 10
  have f11 := pf 11
  have qE : (E == E) = true := beq_self_eq_true _
  clear pf p0 p1 p2 p3 p4 p5 p6
  by_cases hE : E = 0
  · obtain ⟨x, rfl⟩ : ∃ x, q = some x := by
      cases q with
      | none => exact absurd hE (HQ.out.1 rfl)
      | some x => exact ⟨x, rfl⟩
    obtain ⟨x', rfl⟩ : ∃ x, q' = some x := by
      cases q' with
      | none => exact absurd hE (HQ'.out.1 rfl)
      | some x => exact ⟨x, rfl⟩
    have FIN : Hid (∀ W, _ → _) := HL'.out.put (some x) (some x')
    clear hE HQ HQ' HL HL' CM CR HE
    go_wp2
    go_ret
    exact ⟨rfl, FIN.out _ rfl⟩
  · obtain rfl : q = none := HQ.out.2 hE
    obtain rfl : q' = none := HQ'.out.2 hE
    go_wp2
    go_ret
    exact ⟨rfl, HL'.out⟩
set_option maxRecDepth 100000 in
set_option maxHeartbeats 6400000 in
theorem beginO (least : Int) (hs : sp ≤ 9223372036854775807) (he : Em s) (h : Lm P g bn bd g' a b c d e f sp s s w0 w) : Calls Tryz.prog 21 #[.pointer (some ⟨P, 0, none⟩), .bool false, .int .i64 least] w fun r w' => r = .returned (.bool true) ∧ Lm P g bn bd g' a b c d e f sp s s w0 w' := by
  obtain ⟨E, HE⟩ : ∃ E, Hid (opE a b sp least s.off = E) := ⟨_, rfl⟩
  have CM : Hid (∀ w1, Lm P g bn bd g' a b c d e f sp s s w0 w1 → Calls Tryz.prog 54 #[.pointer (some ⟨g, 0, none⟩), .agg #[.int .i64 a, .int .i64 b, .int .i64 c, .int .i64 d, .int .i64 e, .int .i64 f], .int .i64 sp, .int .i64 least] w1 fun r w' => ∃ q, r = .returned (.tuple #[.pointer q, .int .i64 E]) ∧ (q = none ↔ E ≠ 0) ∧ Lm P g bn bd g' a b c d e f sp s s w0 w') := fun w1 h1 => by
    obtain ⟨pv, k1, k2⟩ := h1.fst
    rw [← HE.out]
    exact (pOpen a b c d e f sp least k1 he hs).mono fun r w' ⟨q, x, y, z⟩ => ⟨q, x, y, k2 _ _ z⟩
  have CR : Hid (∀ w1, Lm P g bn bd g' a b c d e f sp s s w0 w1 → Calls Tryz.prog 55 #[.pointer (some ⟨g', 0, none⟩), .agg #[.int .i64 a, .int .i64 b, .int .i64 c, .int .i64 d, .int .i64 e, .int .i64 f], .int .i64 sp, .int .i64 least] w1 fun r w' => ∃ q, r = .returned (.tuple #[.pointer q, .int .i64 E]) ∧ (q = none ↔ E ≠ 0) ∧ Lm P g bn bd g' a b c d e f sp s s w0 w') := fun w1 h1 => by
    obtain ⟨dv, wv, vv, k1, k2⟩ := h1.snd
    rw [← HE.out]
    exact (open0 a b c d e f sp least k1 he hs).mono fun r w' ⟨q, x, y, z⟩ => ⟨q, x, y, h1.later z⟩
  have H0 : Hid (Lm P g bn bd g' a b c d e f sp s s w0 w.drew) := h.later (Below.refl _ _).drew
  have SH0 : Hid (w.drew.cell? ⟨P, 0, none⟩ = some (.int .i64 a) ∧ w.drew.cell? ⟨P, 1, none⟩ = some (.int .i64 b) ∧ w.drew.cell? ⟨P, 2, none⟩ = some (.int .i64 c) ∧ w.drew.cell? ⟨P, 3, none⟩ = some (.int .i64 d) ∧ w.drew.cell? ⟨P, 4, none⟩ = some (.int .i64 e) ∧ w.drew.cell? ⟨P, 5, none⟩ = some (.int .i64 f) ∧ w.drew.cell? ⟨P, 6, none⟩ = some (.int .i64 sp) ∧ w.drew.cell? ⟨P, 7, none⟩ = some (.pointer (some ⟨g, 0, none⟩))) := H0.out.held1
  obtain ⟨q1, q2, o, ⟨p0, p1, p2, p3, p4, p5, p6, p7, p8, p9, p10, p11⟩, pf⟩ := h.cells
  clear h hs he p8 p10 p11 pf p9
  go_enter Tryz.func21, Tryz.ntmps21
  go_upto_region 11 with fail
  go_cut [11, 12] (fun s7 s8 wx => ∃ q, s7 = .pointer q ∧ s8 = .int .i64 E ∧ Hid (q = none ↔ E ≠ 0) ∧ Hid (Lm P g bn bd g' a b c d e f sp s s w0 wx))
  case first =>
    go_region_held3 (fun W => W.cell? ⟨P, 0, none⟩ = some (.int .i64 a) ∧ W.cell? ⟨P, 1, none⟩ = some (.int .i64 b) ∧ W.cell? ⟨P, 2, none⟩ = some (.int .i64 c) ∧ W.cell? ⟨P, 3, none⟩ = some (.int .i64 d) ∧ W.cell? ⟨P, 4, none⟩ = some (.int .i64 e) ∧ W.cell? ⟨P, 5, none⟩ = some (.int .i64 f) ∧ W.cell? ⟨P, 6, none⟩ = some (.int .i64 sp) ∧ W.cell? ⟨P, 7, none⟩ = some (.pointer (some ⟨g, 0, none⟩))) (first | exact SH1.out | exact SH0.out) (first | (go_at_call 54; refine (CM.out _ H0.out).mono ?_; rintro _ w1 ⟨q, rfl, hq, hl⟩; have HQ : Hid (q = none ↔ E ≠ 0) := hq; have HL : Hid (Lm P g bn bd g' a b c d e f sp s s w0 w1) := hl; have SH1 : Hid (w1.cell? ⟨P, 0, none⟩ = some (.int .i64 a) ∧ w1.cell? ⟨P, 1, none⟩ = some (.int .i64 b) ∧ w1.cell? ⟨P, 2, none⟩ = some (.int .i64 c) ∧ w1.cell? ⟨P, 3, none⟩ = some (.int .i64 d) ∧ w1.cell? ⟨P, 4, none⟩ = some (.int .i64 e) ∧ w1.cell? ⟨P, 5, none⟩ = some (.int .i64 f) ∧ w1.cell? ⟨P, 6, none⟩ = some (.int .i64 sp) ∧ w1.cell? ⟨P, 7, none⟩ = some (.pointer (some ⟨g, 0, none⟩))) := hl.held1; clear hq hl))
    all_goals (
      go_wp2_with fail
      go_meet
      exact ⟨q, rfl, rfl, HQ.out, HL.out⟩)
  case rest =>
  as_aux_lemma =>
  clear p0 p1 p2 p3 p4 p5 p6 p7 H0 SH0
  obtain ⟨q, rfl, rfl, HQ, HL⟩ := hcut
  have H1 : Hid (Lm P g bn bd g' a b c d e f sp s s w0 wc.drew) := HL.out.later (Below.refl _ _).drew
  have SH0 : Hid (wc.drew.cell? ⟨P, 0, none⟩ = some (.int .i64 a) ∧ wc.drew.cell? ⟨P, 1, none⟩ = some (.int .i64 b) ∧ wc.drew.cell? ⟨P, 2, none⟩ = some (.int .i64 c) ∧ wc.drew.cell? ⟨P, 3, none⟩ = some (.int .i64 d) ∧ wc.drew.cell? ⟨P, 4, none⟩ = some (.int .i64 e) ∧ wc.drew.cell? ⟨P, 5, none⟩ = some (.int .i64 f) ∧ wc.drew.cell? ⟨P, 6, none⟩ = some (.int .i64 sp) ∧ wc.drew.cell? ⟨P, 9, none⟩ = some (.pointer (some ⟨g', 0, none⟩))) := H1.out.held2
  obtain ⟨y1, y2, y3, ⟨p0, p1, p2, p3, p4, p5, p6, p7, p8, p9, p10, p11⟩, pf⟩ := HL.out.cells
  clear p8 p10 p11 pf p7
  go_upto_region 12 with fail
  go_cut [13, 14] (fun s7 s8 wx => ∃ q, s7 = .pointer q ∧ s8 = .int .i64 E ∧ Hid (q = none ↔ E ≠ 0) ∧ Hid (Lm P g bn bd g' a b c d e f sp s s w0 wx))
  case first =>
    go_region_held3 (fun W => W.cell? ⟨P, 0, none⟩ = some (.int .i64 a) ∧ W.cell? ⟨P, 1, none⟩ = some (.int .i64 b) ∧ W.cell? ⟨P, 2, none⟩ = some (.int .i64 c) ∧ W.cell? ⟨P, 3, none⟩ = some (.int .i64 d) ∧ W.cell? ⟨P, 4, none⟩ = some (.int .i64 e) ∧ W.cell? ⟨P, 5, none⟩ = some (.int .i64 f) ∧ W.cell? ⟨P, 6, none⟩ = some (.int .i64 sp) ∧ W.cell? ⟨P, 9, none⟩ = some (.pointer (some ⟨g', 0, none⟩))) (first | exact SH1.out | exact SH0.out) (first | (go_at_call 55; refine (CR.out _ H1.out).mono ?_; rintro _ w1 ⟨q', rfl, hq, hl⟩; have HQ' : Hid (q' = none ↔ E ≠ 0) := hq; have HL' : Hid (Lm P g bn bd g' a b c d e f sp s s w0 w1) := hl; have SH1 : Hid (w1.cell? ⟨P, 0, none⟩ = some (.int .i64 a) ∧ w1.cell? ⟨P, 1, none⟩ = some (.int .i64 b) ∧ w1.cell? ⟨P, 2, none⟩ = some (.int .i64 c) ∧ w1.cell? ⟨P, 3, none⟩ = some (.int .i64 d) ∧ w1.cell? ⟨P, 4, none⟩ = some (.int .i64 e) ∧ w1.cell? ⟨P, 5, none⟩ = some (.int .i64 f) ∧ w1.cell? ⟨P, 6, none⟩ = some (.int .i64 sp) ∧ w1.cell? ⟨P, 9, none⟩ = some (.pointer (some ⟨g', 0, none⟩))) := hl.held2; clear hq hl))
    all_goals (
      go_wp2_with fail
      go_meet
      exact ⟨q', rfl, rfl, HQ'.out, HL'.out⟩)
  case rest =>
  as_aux_lemma =>
  clear p0 p1 p2 p3 p4 p5 p6 p9 H1 SH0
  obtain ⟨q', rfl, rfl, HQ', HL'⟩ := hcut
  obtain ⟨y1, y2, y3, ⟨p0, p1, p2, p3, p4, p5, p6, p7, p8, p9, p10, p11⟩, pf⟩ := HL'.out.cells
  have f8 := pf 8
  have f10 := pf 10
  have f11 := pf 11
  have qE : (E == E) = true := beq_self_eq_true _
  clear pf p0 p1 p2 p3 p4 p5 p6
  by_cases hE : E = 0
  · obtain ⟨x, rfl⟩ : ∃ x, q = some x := by
      cases q with
      | none => exact absurd hE (HQ.out.1 rfl)
      | some x => exact ⟨x, rfl⟩
    obtain ⟨x', rfl⟩ : ∃ x, q' = some x := by
      cases q' with
      | none => exact absurd hE (HQ'.out.1 rfl)
      | some x => exact ⟨x, rfl⟩
    have FIN : Hid (∀ W, _ → _) := HL'.out.put (some x) (some x')
    clear hE HQ HQ' HL HL' CM CR HE
    go_wp2
    go_ret
    exact ⟨rfl, FIN.out _ rfl⟩
  · obtain rfl : q = none := HQ.out.2 hE
    obtain rfl : q' = none := HQ'.out.2 hE
    go_wp2
    go_ret
    exact ⟨rfl, HL'.out⟩
end
end Go.Proofs.YtpcllegjnbeppaaGreat.jc

namespace Go.Proofs.YtpcllegjnbeppaaGreat.jd
open Go.RowKit Go.PlainAid Go.Maps Go.Shelf
open Go.Proofs.YtpcllegjnbeppaaGreat.kp Go.Proofs.YtpcllegjnbeppaaGreat.ka Go.Proofs.YtpcllegjnbeppaaGreat.ya Go.Proofs.YtpcllegjnbeppaaGreat.yb Go.Proofs.YtpcllegjnbeppaaGreat.yc Go.Proofs.YtpcllegjnbeppaaGreat.yd Go.Proofs.YtpcllegjnbeppaaGreat.ye Go.Proofs.YtpcllegjnbeppaaGreat.yf Go.Proofs.YtpcllegjnbeppaaGreat.yg Go.Proofs.YtpcllegjnbeppaaGreat.yi Go.Proofs.YtpcllegjnbeppaaGreat.yj Go.Proofs.YtpcllegjnbeppaaGreat.yk Go.Proofs.YtpcllegjnbeppaaGreat.yl Go.Proofs.YtpcllegjnbeppaaGreat.ym
open Go.Proofs.YtpcllegjnbeppaaGreat.tqa Go.Proofs.YtpcllegjnbeppaaGreat.tba Go.Proofs.YtpcllegjnbeppaaGreat.tbb Go.Proofs.YtpcllegjnbeppaaGreat.tbc Go.Proofs.YtpcllegjnbeppaaGreat.tbd Go.Proofs.YtpcllegjnbeppaaGreat.tbe Go.Proofs.YtpcllegjnbeppaaGreat.tbf
open Go.Proofs.YtpcllegjnbeppaaGreat.tqb (over keyC keyNo kindT kindT_size spaceT spaceT_size key_is)
open Go.Proofs.YtpcllegjnbeppaaGreat.ea Go.Proofs.YtpcllegjnbeppaaGreat.eb Go.Proofs.YtpcllegjnbeppaaGreat.ec Go.Proofs.YtpcllegjnbeppaaGreat.ed Go.Proofs.YtpcllegjnbeppaaGreat.eh Go.Proofs.YtpcllegjnbeppaaGreat.ha Go.Proofs.YtpcllegjnbeppaaGreat.hi
open Go.Proofs.YtpcllegjnbeppaaGreat.ja Go.Proofs.YtpcllegjnbeppaaGreat.jb Go.Proofs.YtpcllegjnbeppaaGreat.jc
open Go.Proofs.YtpcllegjnbeppaaGreat.xc (Ds Rd Dt newD)
open Go.Proofs.YtpcllegjnbeppaaGreat.xd (armD syncD)
set_option linter.unusedVariables false
set_option linter.unusedSimpArgs false
theorem lm_new {a b c d e f sp : Int} {g bn bd g' : Nat} {pv dv wv vv : Value} {s : S} {w wA w1 w2 : World} (b0 : Below w.heap.size w wA) (h1 : Sr wA.heap.size g bn bd pv s w1) (b1 : Below wA.heap.size wA w1) (h2 : Ds w1.heap.size g' dv wv vv s w2) (b2 : Below w1.heap.size w1 w2) : Lm w2.heap.size g bn bd g' a b c d e f sp s s w (w2.alloc (.cells #[.int .i64 a, .int .i64 b, .int .i64 c, .int .i64 d, .int .i64 e, .int .i64 f, .int .i64 sp, .pointer (some ⟨g, 0, none⟩), .pointer none, .pointer (some ⟨g', 0, none⟩), .pointer none, .bool false] 41)) := by
  have a3 := new1 w2 (.cells #[.int .i64 a, .int .i64 b, .int .i64 c, .int .i64 d, .int .i64 e, .int .i64 f, .int .i64 sp, .pointer (some ⟨g, 0, none⟩), .pointer none, .pointer (some ⟨g', 0, none⟩), .pointer none, .bool false] 41)
  have z0 := b0.size
  have z1 := b1.size
  have z2 := b2.size
  refine ⟨⟨pv, dv, wv, vv, sr_zero (sr_later h1 (over b2 a3)), ?_, fun j hj => ?_, ?_⟩, ⟨none, none, false, heap_alloc_new w2 _⟩, over (over b0 (over b1 b2)) a3, by omega⟩
  · have h3 := h2.later a3
    exact ⟨h3.row, own_zero h3.dl, own_zero h3.vl, own_zero h3.wl, Nat.zero_le _, h3.ok⟩
  · have := (sr_in h1 j hj).2
    omega
  · rintro j (x | x)
    · have := h2.low
      omega
    · have := (h2.wl.lt j x.symm).1
      omega
set_option maxRecDepth 100000 in
set_option maxHeartbeats 6400000 in
theorem lone_make (a b c d e f sp least : Int) (off : Bool) (hs : sp ≤ 9223372036854775807) (w : World) : Calls Tryz.prog 4 #[.agg #[.int .i64 a, .int .i64 b, .int .i64 c, .int .i64 d, .int .i64 e, .int .i64 f], .int .i64 sp, .int .i64 least, .bool off] w fun r w' => r = .returned (.bool true) ∧ Below w.heap.size w w' := by
  obtain ⟨W, HW⟩ : ∃ W, Hid (w.alloc (.cells #[.int .i64 a, .int .i64 b, .int .i64 c, .int .i64 d, .int .i64 e, .int .i64 f] 36) = W) := ⟨_, rfl⟩
  have bW : Below w.heap.size w W := by rw [← HW.out]; exact new1 _ _
  have hz : W.heap[w.heap.size]? = some (.cells #[.int .i64 a, .int .i64 b, .int .i64 c, .int .i64 d, .int .i64 e, .int .i64 f] 36 (0, 0)) := by rw [← HW.out]; exact heap_alloc_new w _
  have HZ : Hid (∀ w1, Below W.heap.size W w1 → (w1.cell? ⟨w.heap.size, 0, none⟩ = some (.int .i64 a) ∧ w1.cell? ⟨w.heap.size, 1, none⟩ = some (.int .i64 b) ∧ w1.cell? ⟨w.heap.size, 2, none⟩ = some (.int .i64 c) ∧ w1.cell? ⟨w.heap.size, 3, none⟩ = some (.int .i64 d) ∧ w1.cell? ⟨w.heap.size, 4, none⟩ = some (.int .i64 e) ∧ w1.cell? ⟨w.heap.size, 5, none⟩ = some (.int .i64 f)) ∧ Below w.heap.size w w1) := fun w1 b1 => by
    have hh := (b1.block _ (Array.getElem?_eq_some_iff.1 hz).1).trans hz
    exact ⟨⟨cell_of_row _ _ 0 _ _ _ hh, cell_of_row _ _ 1 _ _ _ hh, cell_of_row _ _ 2 _ _ _ hh, cell_of_row _ _ 3 _ _ _ hh, cell_of_row _ _ 4 _ _ _ hh, cell_of_row _ _ 5 _ _ _ hh⟩, over bW b1⟩
  have CN : Hid (∀ w1, Calls _ _ _ _ _) := fun w1 => newC 1000 w1 (by decide)
  have CM : Hid (∀ w1, Calls _ _ _ _ _) := fun w1 => newD 1000 w1 (by decide)
  have DR : Hid (Below W.heap.size W W.drew) := (Below.refl _ _).drew
  obtain ⟨p0, p1, p2, p3, p4, p5⟩ := (HZ.out W (Below.refl _ _)).1
  clear hz bW
  go_enter Tryz.func4, Tryz.ntmps4
  go_upto_region 1 with fail
  rw [HW.out]
  go_cut [9] (fun s9 wx => ∃ P g bn bd g', s9 = .pointer (some ⟨P, 0, none⟩) ∧ Hid (Lm P g bn bd g' a b c d e f sp ⟨1000, [], [], 0, false, 0⟩ ⟨1000, [], [], 0, false, 0⟩ w wx))
  case first =>
    go_region_with (first | (go_at_call 5; refine (CN.out _).mono ?_; rintro _ w1 ⟨g0, bn0, bd0, rfl, h1, b1⟩; have N1 : Hid (Sr _ g0 bn0 bd0 _ _ w1) := h1; have B1 : Hid (Below W.drew.heap.size W.drew w1) := b1; obtain ⟨r0, r1, r2, r3, r4, r5⟩ := (HZ.out w1 (over DR.out b1)).1; clear h1 b1) | (go_at_call 6; refine (CM.out _).mono ?_; rintro _ w2 ⟨g1, rfl, h2, b2⟩; have N2 : Hid (Ds _ g1 _ _ _ _ w2) := h2; have B2 : Hid (Below w1.heap.size w1 w2) := b2; obtain ⟨t0, t1, t2, t3, t4, t5⟩ := (HZ.out w2 (over (over DR.out B1.out) b2)).1; clear h2 b2))
    all_goals (
      go_wp2_with fail
      go_meet
      exact ⟨_, _, _, _, _, rfl, lm_new (HZ.out _ DR.out).2 N1.out B1.out N2.out B2.out⟩)
  case rest =>
  as_aux_lemma =>
  clear p0 p1 p2 p3 p4 p5 CN CM DR HZ
  obtain ⟨P, g, bn, bd, g', rfl, H0⟩ := hcut
  obtain ⟨y1, y2, y3, ⟨_, _, _, _, _, _, _, p7, _, p9, _, _⟩, _⟩ := H0.out.cells
  go_upto_region 4 with fail
  cases off with
  | false =>
  have HEM : Hid (Em ⟨1000, [], [], 0, false, 0⟩) := ⟨rfl, rfl⟩
  go_upto_region 9 with fail
  clear p7 p9
  have BM : Hid (Calls _ _ _ _ _) := beginM 0 hs HEM.out H0.out
  go_upto_region 10 with (first | (go_at_call 21; refine BM.out.mono ?_; rintro _ w7 ⟨rfl, h7⟩; have H7 : Hid (Lm P g bn bd g' a b c d e f sp ⟨1000, [], [], 0, false, 0⟩ ⟨1000, [], [], 0, false, 0⟩ w w7) := h7; clear h7) | go_in)
  have BO : Hid (Calls _ _ _ _ _) := beginO least hs HEM.out H7.out
  go_upto_region 11 with (first | (go_at_call 21; refine BO.out.mono ?_; rintro _ w8 ⟨rfl, h8⟩; have H8 : Hid (Lm P g bn bd g' a b c d e f sp ⟨1000, [], [], 0, false, 0⟩ ⟨1000, [], [], 0, false, 0⟩ w w8) := h8; clear h8) | go_in)
  obtain ⟨y1, y2, y3, ⟨_, _, _, _, _, _, _, p7, _, _, _, _⟩, _⟩ := H8.out.cells
  obtain ⟨pv, k1, _⟩ := H8.out.fst
  have CU : Hid (Calls _ _ _ _ _) := usedC k1.row
  rw [em_now HEM.out] at CU
  have e0 : tot [] = 0 := rfl
  rw [e0] at CU
  clear k1
  go_wp2_with (first | (go_at_call 9; refine CU.out.mono ?_; rintro _ _ ⟨rfl, hw⟩; rw [hw]; clear hw) | go_in)
  go_ret
  exact ⟨rfl, H8.out.bl⟩
  | true =>
  obtain ⟨pv0, k01, k02⟩ := H0.out.fst
  have K0 : Hid (∀ s' w', Ru g bn bd pv0 s' _ w' → _) := k02
  have C1 : Hid (Calls _ _ _ _ _) := armC 1 k01 (by decide)
  clear k01 k02
  go_upto_region 6 with (first | (go_at_call 17; refine C1.out.mono ?_; rintro _ w3 ⟨rfl, h3⟩; have H3 : Hid (Lm P g bn bd g' a b c d e f sp ⟨1000, [], [], 1, false, 0⟩ ⟨1000, [], [], 0, false, 0⟩ w w3) := K0.out _ _ (Ru.rn h3); clear h3) | go_in)
  clear p7 p9 K0
  obtain ⟨y4, y5, y6, ⟨_, _, _, _, _, _, _, p7, _, p9, _, _⟩, _⟩ := H3.out.cells
  obtain ⟨dv, wv, vv, k1, k2⟩ := H3.out.snd
  have K2 : Hid (∀ t' w', Rd 0 g' wv t' w3 w' → _) := k2
  have C2 : Hid (Calls _ _ _ _ _) := armD 1 k1 (by decide)
  clear k1 k2
  go_upto_region 7 with (first | (go_at_call 18; refine C2.out.mono ?_; rintro _ w4 ⟨rfl, h4⟩; have H4 : Hid (Lm P g bn bd g' a b c d e f sp ⟨1000, [], [], 1, false, 0⟩ ⟨1000, [], [], 1, false, 0⟩ w w4) := K2.out _ _ h4; clear h4) | go_in)
  clear p7 p9 K2
  obtain ⟨y7, y8, y9, ⟨_, _, _, _, _, _, _, p7, _, p9, _, _⟩, _⟩ := H4.out.cells
  obtain ⟨pv, k3, k4⟩ := H4.out.fst
  have K4 : Hid (∀ s' w', Ru g bn bd pv s' w4 w' → _) := k4
  have C3 : Hid (Calls _ _ _ _ _) := syncC k3 (Nat.zero_le _)
  clear k3 k4
  go_upto_region 8 with (first | (go_at_call 19; refine C3.out.mono ?_; rintro _ w5 ⟨rfl, h5⟩; have H5 : Hid (Lm P g bn bd g' a b c d e f sp ⟨1000, [], [], 0, true, 0⟩ ⟨1000, [], [], 1, false, 0⟩ w w5) := K4.out _ _ (Ru.rn h5); clear h5) | go_in)
  clear p7 p9 K4
  obtain ⟨y10, y11, y12, ⟨_, _, _, _, _, _, _, p7, _, p9, _, _⟩, _⟩ := H5.out.cells
  obtain ⟨dv2, wv2, vv2, k5, k6⟩ := H5.out.snd
  have K6 : Hid (∀ t' w', Rd 0 g' wv2 t' w5 w' → _) := k6
  have C4 : Hid (Calls _ _ _ _ _) := syncD k5
  clear k5 k6
  go_upto_region 9 with (first | (go_at_call 20; refine C4.out.mono ?_; rintro _ w6 ⟨rfl, h6⟩; have H6 : Hid (Lm P g bn bd g' a b c d e f sp ⟨1000, [], [], 0, true, 0⟩ ⟨1000, [], [], 0, true, 0⟩ w w6) := K6.out _ _ h6; clear h6) | go_in)
  clear p7 p9 K6
  have HEM : Hid (Em ⟨1000, [], [], 0, true, 0⟩) := ⟨rfl, rfl⟩
  have BM : Hid (Calls _ _ _ _ _) := beginM 0 hs HEM.out H6.out
  go_upto_region 10 with (first | (go_at_call 21; refine BM.out.mono ?_; rintro _ w7 ⟨rfl, h7⟩; have H7 : Hid (Lm P g bn bd g' a b c d e f sp ⟨1000, [], [], 0, true, 0⟩ ⟨1000, [], [], 0, true, 0⟩ w w7) := h7; clear h7) | go_in)
  have BO : Hid (Calls _ _ _ _ _) := beginO least hs HEM.out H7.out
  go_upto_region 11 with (first | (go_at_call 21; refine BO.out.mono ?_; rintro _ w8 ⟨rfl, h8⟩; have H8 : Hid (Lm P g bn bd g' a b c d e f sp ⟨1000, [], [], 0, true, 0⟩ ⟨1000, [], [], 0, true, 0⟩ w w8) := h8; clear h8) | go_in)
  obtain ⟨y1, y2, y3, ⟨_, _, _, _, _, _, _, p7, _, _, _, _⟩, _⟩ := H8.out.cells
  obtain ⟨pv, k1, _⟩ := H8.out.fst
  have CU : Hid (Calls _ _ _ _ _) := usedC k1.row
  rw [em_now HEM.out] at CU
  have e0 : tot [] = 0 := rfl
  rw [e0] at CU
  clear k1
  go_wp2_with (first | (go_at_call 9; refine CU.out.mono ?_; rintro _ _ ⟨rfl, hw⟩; rw [hw]; clear hw) | go_in)
  go_ret
  exact ⟨rfl, H8.out.bl⟩
theorem make_walk (a b c d e f : Int) (sp : Int) (ws : (Lit.int .i64 sp).wf = true) (least : Int) (wl : (Lit.int .i64 least).wf = true) (off : Bool) {W : World} : Calls Tryz.prog 4 #[.agg #[.int .i64 a, .int .i64 b, .int .i64 c, .int .i64 d, .int .i64 e, .int .i64 f], .int .i64 sp, .int .i64 least, .bool off] W fun r w' => r = .returned (.bool true) ∧ Below W.heap.size W w' :=
  lone_make a b c d e f sp least off (Go.Proofs.YtpcllegjnbeppaaGreat.cv.fits64 sp ws).2 W
end Go.Proofs.YtpcllegjnbeppaaGreat.jd
