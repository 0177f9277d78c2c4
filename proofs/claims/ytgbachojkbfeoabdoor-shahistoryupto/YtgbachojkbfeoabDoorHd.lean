import Derived.Test.YtgbachojkbfeoabDoorHc
namespace Go.Proofs.YtgbachojkbfeoabDoor.hd
open Go.RowKit Go.PlainAid
open Go.Proofs.YtgbachojkbfeoabDoor.pl Go.Proofs.YtgbachojkbfeoabDoor.pc Go.Proofs.YtgbachojkbfeoabDoor.pd Go.Proofs.YtgbachojkbfeoabDoor.ph Go.Proofs.YtgbachojkbfeoabDoor.pi Go.Proofs.YtgbachojkbfeoabDoor.ft Go.Proofs.YtgbachojkbfeoabDoor.pj Go.Proofs.YtgbachojkbfeoabDoor.pn Go.Proofs.YtgbachojkbfeoabDoor.re Go.Proofs.YtgbachojkbfeoabDoor.rf Go.Proofs.YtgbachojkbfeoabDoor.ha Go.Proofs.YtgbachojkbfeoabDoor.hb Go.Proofs.YtgbachojkbfeoabDoor.hc
set_option linter.unusedVariables false

set_option maxHeartbeats 1600000 in
theorem does_write (w0 : World) (bb : Nat) (S : List Pr) (M : Nat) (pv rv : Value) (w : World) (kind on : Int) (text : ByteArray) (ho1 : -9223372036854775808 ≤ on) (ho2 : on ≤ 9223372036854775807) (hM : M + text.size ≤ 1048576) (BN : Hid (Bn w0 bb S M pv rv w)) (k1 : (kind == 1) = true) :
    Calls Tryd.prog 5 #[.pointer (some ⟨bb, 0, none⟩), .agg #[.int .i64 kind, .int .i64 on, .string text]] w fun e w' => e = .returned (.bool true) ∧ ∃ S' pv' rv', Bn w0 bb S' (M + text.size) pv' rv' w' := by
  obtain ⟨gp, cp, gr, cr, rfl, rfl, hrow⟩ := BN.out.rows
  obtain ⟨n, HNn⟩ : ∃ n, Hid (n = S.length) := ⟨_, rfl⟩
  have hn1 : 1 ≤ n := by have := HNn.out; have := BN.out.n1; omega
  have hn50 : n ≤ 50 := by have := HNn.out; have := BN.out.n50; omega
  rw [← HNn.out] at BN
  obtain ⟨i, HIi, hin⟩ : ∃ i : Nat, Hid (atI on n = (i : Int)) ∧ i < n := at_nat on n hn1
  obtain ⟨x, HX⟩ : ∃ x, Hid (S[i]? = some x) := ⟨S[i]'(by have := HNn.out; omega), List.getElem?_eq_getElem _⟩
  have B1 : Hid (Bn w0 bb S M (.slice (some ⟨gp, 0, none⟩) n cp) (.slice (some ⟨gr, 0, none⟩) n cr) (w.alloc (.cells #[.int .i64 kind, .int .i64 on, .string text] 28))) := BN.out.same ((Below.refl _ _).alloc (Nat.le_refl _) _)
  have o0 : (w.alloc (.cells #[.int .i64 kind, .int .i64 on, .string text] 28)).cell? ⟨w.heap.size, 0, none⟩ = some (.int .i64 kind) := (World.cell?_alloc_at _ _ _ _ rfl).trans rfl
  have o1 : (w.alloc (.cells #[.int .i64 kind, .int .i64 on, .string text] 28)).cell? ⟨w.heap.size, 1, none⟩ = some (.int .i64 on) := (World.cell?_alloc_at _ _ _ _ rfl).trans rfl
  have o2 : (w.alloc (.cells #[.int .i64 kind, .int .i64 on, .string text] 28)).cell? ⟨w.heap.size, 2, none⟩ = some (.string text) := (World.cell?_alloc_at _ _ _ _ rfl).trans rfl
  have OB : Hid ((w.alloc (.cells #[.int .i64 kind, .int .i64 on, .string text] 28)).heap[w.heap.size]? = some (.cells #[.int .i64 kind, .int .i64 on, .string text] 28 (0, 0))) := heap_alloc_new w _
  have hrow2 : ∀ j y, S[j]? = some y → (w.alloc (.cells #[.int .i64 kind, .int .i64 on, .string text] 28)).cell? ⟨gp, j, none⟩ = some (P1 y) ∧ (w.alloc (.cells #[.int .i64 kind, .int .i64 on, .string text] 28)).cell? ⟨gr, j, none⟩ = some (P2 y) := fun j y hy => by
    have h1 := hrow j y hy
    exact ⟨(World.cell?_alloc_lt _ _ _ (World.block_lt_of_cell? w _ h1.1)).trans h1.1, (World.cell?_alloc_lt _ _ _ (World.block_lt_of_cell? w _ h1.2)).trans h1.2⟩
  have hsw : w.heap.size < (w.alloc (.cells #[.int .i64 kind, .int .i64 on, .string text] 28)).heap.size := by simp
  clear hrow
  generalize hww : w.alloc (.cells #[.int .i64 kind, .int .i64 on, .string text] 28) = w1 at *
  have cp1 : w1.cell? ⟨gp, i, none⟩ = some (.pointer (some ⟨x.p, 0, none⟩)) := (hrow2 i x HX.out).1
  have cr1 : w1.cell? ⟨gr, i, none⟩ = some (.pointer (some ⟨x.r, 0, none⟩)) := (hrow2 i x HX.out).2
  have cb0 : w1.cell? ⟨bb, 0, none⟩ = some (.slice (some ⟨gp, 0, none⟩) n cp) := (cell_of_row _ _ _ _ _ _ B1.out.hb).trans rfl
  have cb1 : w1.cell? ⟨bb, 1, none⟩ = some (.slice (some ⟨gr, 0, none⟩) n cr) := (cell_of_row _ _ _ _ _ _ B1.out.hb).trans rfl
  have HAx : Hid (HA w1 x.p x.t) := (B1.out.ha i x HX.out).1
  have RAx : Hid (RA w1 x.r x.t) := (B1.out.ra i x HX.out).1
  have zx : x.t.size ≤ M := B1.out.sz i x HX.out
  have T4 : Hid (Tab4 w1) := B1.out.t4
  have hi0 : (0 : Int) ≤ (i : Int) := by omega
  have hin' : (i : Int) < (n : Int) := by omega
  clear hrow2
  have HWW : Hid _ := hww
  clear hww
  have CA : Hid (∀ W, W.cell? ⟨bb, 0, none⟩ = some (.slice (some ⟨gp, 0, none⟩) n cp) → Calls Tryd.prog 12 #[.pointer (some ⟨bb, 0, none⟩), .int .i64 on] W fun e w' => e = .returned (.int .i64 i) ∧ w' = W) := fun W hc => by
    have := at_ bb n on gp cp W hn1 hn50 ho1 ho2 hc
    rw [HIi.out] at this
    exact this
  go_enter Tryd.func5, Tryd.ntmps5
  go_wp2_with fail
  rw [HWW.out]
  refine (CA.out _ cb0).mono ?_
  rintro e wq ⟨rfl, hq⟩
  rw [hq]
  clear hq
  have hpr : x.r ≠ x.p := by obtain ⟨c, tg⟩ := ha_tag HAx.out; exact tag_ne RAx.out tg (by decide)
  have hop : w.heap.size ≠ x.p := by obtain ⟨c, tg⟩ := ha_tag HAx.out; exact tag_ne OB.out tg (by decide)
  have hor : w.heap.size ≠ x.r := tag_ne OB.out RAx.out (by decide)
  have HSW : Hid _ := hsw
  have HAd : Hid (HA w1.drew x.p x.t) := HAx.out.keep rfl
  have TDd : Hid (Tab w1.drew) := T4.out.t.down ((Below.refl _ _).drew)
  obtain ⟨t2, e2⟩ : ∃ t2, x.t ++ text = t2 := ⟨_, rfl⟩
  have HZ2 : Hid (t2.size = x.t.size + text.size) := by show _ = _; rw [← e2, ByteArray.size_append]
  go_wp2_with fail
  go_region_held3 (fun w' => w'.cell? ⟨w.heap.size, 2, none⟩ = some (.string text)) (first | go_keep | exact o3) ((first | (go_at_call 13; refine (Write x.p x.t text w1.drew (by omega) (by omega) HAd.out TDd.out).mono ?_; rintro e w2 ⟨rfl, hk, hh⟩; rw [e2] at hh; have K2 : Hid (Keeps x.p w1 w2) := (Keeps.trans (⟨rfl, rfl, rfl, Nat.le_refl _, fun _ _ _ => rfl⟩ : Keeps x.p w1 w1.drew) hk); have HA2 : Hid (HA w2 x.p t2) := hh; have o3 : w2.cell? ⟨w.heap.size, 2, none⟩ = some (.string text) := (K2.out.cell HSW.out hop).trans o2; have RA2 : Hid (RA w2 x.r x.t) := (K2.out.block x.r RAx.out.lt hpr).trans RAx.out; clear hk hh) | (go_at_call 14; refine (rWrite x.r x.t text _ (by omega) (by omega) RA2).mono ?_; rintro e w3 ⟨rfl, rfl⟩; rw [e2]; have o4 : (w2.setCell ⟨x.r, 0, none⟩ (.string t2)).cell? ⟨w.heap.size, 2, none⟩ = some (.string text) := (World.cell?_setCell_far _ _ _ _ (fun e => hor e.symm)).trans o3)))
  have B3 : Hid (Bn w0 bb (S.set i ⟨x.p, x.r, t2⟩) (M + text.size) (.slice (some ⟨gp, 0, none⟩) n cp) (.slice (some ⟨gr, 0, none⟩) n cr) (w2.setCell ⟨x.r, 0, none⟩ (.string t2))) :=
    B1.out.turn i x HX.out t2 (by omega) (by have := HZ2.out; omega) ((Kp.of_keeps (A := fun b => b = x.p ∨ b = x.r) K2.out (Or.inl rfl)).trans (Kp.setCell (fun b => b = x.p ∨ b = x.r) _ _ _ _ (Or.inr rfl))) (HA2.out.keep (Below.heap_setCell _ _ _ _ (fun e => hpr e.symm))) (RA2.out.set _)
  clear o3 o4
  generalize w2.setCell ⟨x.r, 0, none⟩ (.string t2) = w4 at *
  go_wp2
  go_ret
  exact ⟨rfl, _, _, _, B3.out⟩
end Go.Proofs.YtgbachojkbfeoabDoor.hd
