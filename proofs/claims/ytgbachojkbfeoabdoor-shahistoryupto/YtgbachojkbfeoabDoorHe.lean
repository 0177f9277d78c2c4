import Derived.Test.YtgbachojkbfeoabDoorHd
namespace Go.Proofs.YtgbachojkbfeoabDoor.he
open Go.RowKit Go.PlainAid
open Go.Proofs.YtgbachojkbfeoabDoor.pl Go.Proofs.YtgbachojkbfeoabDoor.pc Go.Proofs.YtgbachojkbfeoabDoor.pd Go.Proofs.YtgbachojkbfeoabDoor.ph Go.Proofs.YtgbachojkbfeoabDoor.pi Go.Proofs.YtgbachojkbfeoabDoor.ft Go.Proofs.YtgbachojkbfeoabDoor.pj Go.Proofs.YtgbachojkbfeoabDoor.pn Go.Proofs.YtgbachojkbfeoabDoor.re Go.Proofs.YtgbachojkbfeoabDoor.rf Go.Proofs.YtgbachojkbfeoabDoor.ha Go.Proofs.YtgbachojkbfeoabDoor.hb Go.Proofs.YtgbachojkbfeoabDoor.hc Go.Proofs.YtgbachojkbfeoabDoor.hd
set_option linter.unusedVariables false

theorem infoP : (Tryd.prog.info? 33).map (fun i => (i.zero, i.size, i.bytes)) = some (some (.pointer none), 1, 8) := by kernel_rfl
theorem infoR : (Tryd.prog.info? 35).map (fun i => (i.zero, i.size, i.bytes)) = some (some (.pointer none), 1, 8) := by kernel_rfl
theorem ptr_new (W : World) (a : Value) (t : TypeId) (N : Nat) (hN : N = W.heap.size) : ∀ j u, [a][j]? = some u → (W.alloc (.cells #[a] t)).cell? ((⟨N, 0, none⟩ : Addr).add j) = some u := by
  subst hN
  intro j u hj
  rw [Addr.add_mid, Nat.zero_add, World.cell?_alloc_at _ _ _ _ rfl]
  simpa using hj

theorem grow_blk {w w' : World} {o : Obj} {row : Option Nat} {b : Nat} {ob : Obj} (h : (w.alloc o).grownBy w' row) (hb : w.heap[b]? = some ob) (hne : some b ≠ row) : w'.heap[b]? = some ob := by
  have hl : b < w.heap.size := (Array.getElem?_eq_some_iff.1 hb).1
  exact ((h.block b (by simp; omega) hne).trans (Below.heap_alloc _ _ _ hl)).trans hb

theorem step_rcopy {ops : Array Oper} {o : Oper} {a : Act} {w : World} {K : Act → World → Prop} {Q : Exit → Act → World → Prop} {E : Prop} (hg : o.guard = none) (k d : Nat)
    (hop : o.op = .call { callee := .value (.func 16), args := #[.tmp k], argTypes := #[35] }) (hd : o.dst = some d) (r : Nat) (t : ByteArray) (hy : a.tmps[k]?.getD undef = .pointer (some ⟨r, 0, none⟩)) (HR : Hid (RA w r t))
    (hK : K { tmps := a.tmps.setIfInBounds d (.pointer (some ⟨w.heap.size, 0, none⟩)), defers := a.defers } (w.alloc (.cells #[.string t] 51))) :
    if Region.wanted o (yielded ops a.tmps) = true then Oper.wp Tryd.prog o a w K Q else E := by
  have hw : Region.wanted o (yielded ops a.tmps) = true := by simp [Region.wanted, hg]
  rw [if_pos hw]
  have C := rCopy r t w HR
  have HKK : Hid _ := hK
  clear hK
  unfold Oper.wp execOp
  simp only [hop]
  go_simp
  refine C.mono ?_
  rintro e w' ⟨rfl, rfl⟩
  exact HKK.out

set_option maxHeartbeats 1600000 in
theorem does_copy (w0 : World) (bb : Nat) (S : List Pr) (M : Nat) (pv rv : Value) (w : World) (kind on : Int) (text : ByteArray) (ho1 : -9223372036854775808 ≤ on) (ho2 : on ≤ 9223372036854775807) (hM : M + text.size ≤ 1048576) (BN : Hid (Bn w0 bb S M pv rv w)) (k1 : (kind == 1) = false) (k2 : (kind == 2) = false) (k3 : (kind == 3) = false) (k4 : (kind == 4) = true) :
    Calls Tryd.prog 5 #[.pointer (some ⟨bb, 0, none⟩), .agg #[.int .i64 kind, .int .i64 on, .string text]] w fun e w' => e = .returned (.bool true) ∧ ∃ S' pv' rv', Bn w0 bb S' (M + text.size) pv' rv' w' := by
  obtain ⟨gp, cp, gr, cr, rfl, rfl, hrow⟩ := BN.out.rows
  obtain ⟨n, HNn⟩ : ∃ n, Hid (n = S.length) := ⟨_, rfl⟩
  have hn1 : 1 ≤ n := by have := HNn.out; have := BN.out.n1; omega
  have hn50 : n ≤ 50 := by have := HNn.out; have := BN.out.n50; omega
  rw [← HNn.out] at BN
  obtain ⟨i, HIi, hin⟩ : ∃ i : Nat, Hid (atI on n = (i : Int)) ∧ i < n := at_nat on n hn1
  obtain ⟨x, HX⟩ : ∃ x, Hid (S[i]? = some x) := ⟨S[i]'(by have := HNn.out; omega), List.getElem?_eq_getElem _⟩
  have B1 : Hid (Bn w0 bb S M (.slice (some ⟨gp, 0, none⟩) n cp) (.slice (some ⟨gr, 0, none⟩) n cr) (w.alloc (.cells #[.int .i64 kind, .int .i64 on, .string text] 28))) := BN.out.same ((Below.refl _ _).alloc (Nat.le_refl _) _)
  have o0 : (w.alloc (.cells #[.int .i64 kind, .int .i64 on, .string text] 28)).cell? ⟨w.heap.size, 0, none⟩ = some (.int .i64 kind) := (World.cell?_alloc_at _ _ _ _ rfl).trans rfl
  have o1 : (w.alloc (.cells #[.int .i64 kind, .int .i64 on, .string text] 28)).cell? ⟨w.heap.size, 1, none⟩ = some (.int .i64 on) := (World.cell?_alloc_at _ _ _ _ rfl).trans rfl
  have o2 : (w.alloc (.cells #[.int .i64 kind, .int .i64 on, .string text] 28)).cell? ⟨w.heap.size, 2, none⟩ = some (.string text) := (World.cell?_alloc_at _ _ _ _ rfl).trans rfl
  have OB : Hid ((w.alloc (.cells #[.int .i64 kind, .int .i64 on, .string text] 28)).heap[w.heap.size]? = some (.cells #[.int .i64 kind, .int .i64 on, .string text] 28 (0, 0))) := heap_alloc_new w _
  have hrow2 : ∀ j y, S[j]? = some y → (w.alloc (.cells #[.int .i64 kind, .int .i64 on, .string text] 28)).cell? ⟨gp, j, none⟩ = some (P1 y) ∧ (w.alloc (.cells #[.int .i64 kind, .int .i64 on, .string text] 28)).cell? ⟨gr, j, none⟩ = some (P2 y) := fun j y hy => by
    have h1 := hrow j y hy
    exact ⟨(World.cell?_alloc_lt _ _ _ (World.block_lt_of_cell? w _ h1.1)).trans h1.1, (World.cell?_alloc_lt _ _ _ (World.block_lt_of_cell? w _ h1.2)).trans h1.2⟩
  have hsw : w.heap.size < (w.alloc (.cells #[.int .i64 kind, .int .i64 on, .string text] 28)).heap.size := by simp
  clear hrow
  generalize hww : w.alloc (.cells #[.int .i64 kind, .int .i64 on, .string text] 28) = w1 at *
  have cp1 : w1.cell? ⟨gp, i, none⟩ = some (.pointer (some ⟨x.p, 0, none⟩)) := (hrow2 i x HX.out).1
  have cr1 : w1.cell? ⟨gr, i, none⟩ = some (.pointer (some ⟨x.r, 0, none⟩)) := (hrow2 i x HX.out).2
  have cb0 : w1.cell? ⟨bb, 0, none⟩ = some (.slice (some ⟨gp, 0, none⟩) n cp) := (cell_of_row _ _ _ _ _ _ B1.out.hb).trans rfl
  have cb1 : w1.cell? ⟨bb, 1, none⟩ = some (.slice (some ⟨gr, 0, none⟩) n cr) := (cell_of_row _ _ _ _ _ _ B1.out.hb).trans rfl
  have HAx : Hid (HA w1 x.p x.t) := (B1.out.ha i x HX.out).1
  have RAx : Hid (RA w1 x.r x.t) := (B1.out.ra i x HX.out).1
  have zx : x.t.size ≤ M := B1.out.sz i x HX.out
  have T4 : Hid (Tab4 w1) := B1.out.t4
  have hi0 : (0 : Int) ≤ (i : Int) := by omega
  have hin' : (i : Int) < (n : Int) := by omega
  clear hrow2
  have HWW : Hid _ := hww
  clear hww
  have CA : Hid (∀ W, W.cell? ⟨bb, 0, none⟩ = some (.slice (some ⟨gp, 0, none⟩) n cp) → Calls Tryd.prog 12 #[.pointer (some ⟨bb, 0, none⟩), .int .i64 on] W fun e w' => e = .returned (.int .i64 i) ∧ w' = W) := fun W hc => by
    have := at_ bb n on gp cp W hn1 hn50 ho1 ho2 hc
    rw [HIi.out] at this
    exact this
  go_enter Tryd.func5, Tryd.ntmps5
  go_wp2_with fail
  rw [HWW.out]
  refine (CA.out _ cb0).mono ?_
  rintro e wq ⟨rfl, hq⟩
  rw [hq]
  clear hq
  by_cases h50 : 50 ≤ n
  · have h50' : (50 : Int) ≤ (n : Int) := by omega
    go_wp2
    go_ret
    exact ⟨rfl, S, _, _, B1.out.mono (by omega)⟩
  · have h50' : ¬ (50 : Int) ≤ (n : Int) := by omega
    have h50'' : decide ((50 : Int) ≤ (n : Int)) = false := decide_eq_false h50'
    have HN50 : Hid (n < 50) := (show n < 50 by omega)
    clear h50
    obtain ⟨iP, a1, a2, a3, a4⟩ := info_parts infoP
    have HIP : Hid (_ ∧ _ ∧ _ ∧ _) := ⟨a1, a2, a3, a4⟩
    clear a1 a2 a3 a4
    obtain ⟨iR, a1, a2, a3, a4⟩ := info_parts infoR
    have HIR : Hid (_ ∧ _ ∧ _ ∧ _) := ⟨a1, a2, a3, a4⟩
    clear a1 a2 a3 a4
    go_wp2_with fail
    refine (Copy x.p x.t _ HAx.out).mono ?_
    rintro e w2 ⟨rfl, hb, hh⟩
    have B2 : Hid (Bn w0 bb S M (.slice (some ⟨gp, 0, none⟩) n cp) (.slice (some ⟨gr, 0, none⟩) n cr) w2) := B1.out.same hb
    have KP2 : Hid (Below w1.heap.size w1 w2) := hb
    have HN2 : Hid (HA w2 w1.heap.size x.t) := hh
    have c0 : w2.cell? ⟨bb, 0, none⟩ = some (.slice (some ⟨gp, 0, none⟩) n cp) := (cell_of_row _ _ _ _ _ _ B2.out.hb).trans rfl
    have hl2 : w1.heap.size < w2.heap.size := HN2.out.lt
    have OP2 : Hid (w2.ownsRow w0.heap.size 33 1 (.slice (some ⟨gp, 0, none⟩) n cp) n (S.map P1)) := by have := B2.out.op; rw [← HNn.out] at this; exact this
    have OR2 : Hid (w2.ownsRow w0.heap.size 35 1 (.slice (some ⟨gr, 0, none⟩) n cr) n (S.map P2)) := by have := B2.out.orr; rw [← HNn.out] at this; exact this
    have gpb : gp ≠ bb := by obtain ⟨c, tg⟩ := owns_tag OP2.out rfl; exact tag_ne tg B2.out.hb (by decide)
    have grb : gr ≠ bb := by obtain ⟨c, tg⟩ := owns_tag OR2.out rfl; exact tag_ne tg B2.out.hb (by decide)
    have gpr : gr ≠ gp := by obtain ⟨c, tg⟩ := owns_tag OP2.out rfl; obtain ⟨c2, tg2⟩ := owns_tag OR2.out rfl; exact tag_ne tg2 tg (by decide)
    have gph : w1.heap.size ≠ gp := by obtain ⟨c, tg⟩ := owns_tag OP2.out rfl; obtain ⟨c2, tg2⟩ := ha_tag HN2.out; exact tag_ne tg2 tg (by decide)
    have grh : w1.heap.size ≠ gr := by obtain ⟨c, tg⟩ := owns_tag OR2.out rfl; obtain ⟨c2, tg2⟩ := ha_tag HN2.out; exact tag_ne tg2 tg (by decide)
    have bbh : w1.heap.size ≠ bb := by obtain ⟨c2, tg2⟩ := ha_tag HN2.out; exact tag_ne tg2 B2.out.hb (by decide)
    have bbl : bb < w2.heap.size := (Array.getElem?_eq_some_iff.1 B2.out.hb).1
    have gpl : gp < w2.heap.size := (OP2.out.lt gp rfl).2
    have grl : gr < w2.heap.size := (OR2.out.lt gr rfl).2
    have rpb : x.r ≠ bb := tag_ne (B2.out.ra i x HX.out).1 B2.out.hb (by decide)
    have rpg : x.r ≠ gp := by obtain ⟨c, tg⟩ := owns_tag OP2.out rfl; exact tag_ne (B2.out.ra i x HX.out).1 tg (by decide)
    have hs0 := B2.out.sz0
    have hneP : some bb ≠ (Value.slice (some ⟨gp, 0, none⟩) n cp).ownBlock := fun e => gpb (Option.some.inj e).symm
    have hneR : some bb ≠ (Value.slice (some ⟨gr, 0, none⟩) n cr).ownBlock := fun e => grb (Option.some.inj e).symm
    clear hb hh cp1 cr1 cb0 cb1 o0 o1 o2
    go_wp2_with (at_builtin; refine wpList_append_lies _ rfl _ _ 29 rfl w0.heap.size 33 iP (.pointer none) 1 8 Tryd.underlying29 HIP.out.1 HIP.out.2.1 HIP.out.2.2.1 HIP.out.2.2.2 rfl (by decide) _ _ _ rfl (OP2.out.alloc _) ⟨w2.heap.size, 0, none⟩ 1 1 [.pointer (some ⟨w1.heap.size, 0, none⟩)] rfl rfl (ptr_new w2 _ _ _ rfl) (fun u hu => by simp at hu; subst hu; rfl) (by omega) (by unfold maxLen; omega) (by omega) (by simp; omega) (w2.heap.size + 1) (by simp) ?_; intro g3 cap3 w3 hown3 hgrow3 hat3 hlt3; have H3 : Hid (w3.heap[bb]? = some (.cells #[.slice (some ⟨gp, 0, none⟩) n cp, .slice (some ⟨gr, 0, none⟩) n cr] 32 (0, 0))) := grow_blk hgrow3 B2.out.hb hneP; have c3 : w3.cell? ⟨bb, 0, none⟩ = some (.slice (some ⟨gp, 0, none⟩) n cp) := (cell_of_row _ _ _ _ _ _ H3.out).trans rfl; have f3 : w3.frozen? ⟨bb, 0, none⟩ = false := frozen_of_row _ _ _ _ _ H3.out; have O3 : Hid (World.ownsRow _ _ _ _ _ _ _) := hown3; have G3 : Hid (World.grownBy _ _ _) := hgrow3; clear hown3 hgrow3 hat3 hlt3)
    have H4 : Hid ((w3.setCell ⟨bb, 0, none⟩ (.slice (some ⟨g3, 0, none⟩) (n + 1) cap3)).heap[bb]? = some (.cells #[.slice (some ⟨g3, 0, none⟩) (n + 1) cap3, .slice (some ⟨gr, 0, none⟩) n cr] 32 (0, 0))) := (heap_setCell_same _ _ _ _ _ _ H3.out).trans rfl
    have g3b : g3 ≠ bb := by obtain ⟨c, tg⟩ := owns_tag O3.out rfl; exact tag_ne tg H3.out (by decide)
    have hs3 : w2.heap.size + 1 ≤ w3.heap.size := by have := G3.out.size; simpa using this
    have O4 : Hid ((w3.setCell ⟨bb, 0, none⟩ (.slice (some ⟨g3, 0, none⟩) (n + 1) cap3)).ownsRow w0.heap.size 33 1 (.slice (some ⟨g3, 0, none⟩) (n + 1) cap3) (n + 1) (S.map P1 ++ [.pointer (some ⟨w1.heap.size, 0, none⟩)])) := owns_keep O3.out (fun g hg => Below.heap_setCell _ _ _ _ (fun e => g3b ((Option.some.inj hg).trans e)))
    have K4 : Hid (Kp (fun b => b = bb ∨ b = gp ∨ b = gr) w1 (w3.setCell ⟨bb, 0, none⟩ (.slice (some ⟨g3, 0, none⟩) (n + 1) cap3))) :=
      (((Kp.of_below KP2.out).trans (Kp.alloc _ _ _)).trans (Kp.grown G3.out (fun k e => Or.inr (Or.inl (Option.some.inj e).symm)))).trans (Kp.setCell _ _ _ _ _ (Or.inl rfl))
    have K24 : Hid (Kp (fun b => b = bb ∨ b = gp) w2 (w3.setCell ⟨bb, 0, none⟩ (.slice (some ⟨g3, 0, none⟩) (n + 1) cap3))) :=
      ((Kp.alloc _ _ _).trans (Kp.grown G3.out (fun k e => Or.inr (Option.some.inj e).symm))).trans (Kp.setCell _ _ _ _ _ (Or.inl rfl))
    have hs4 : w2.heap.size + 1 ≤ (w3.setCell ⟨bb, 0, none⟩ (.slice (some ⟨g3, 0, none⟩) (n + 1) cap3)).heap.size := by simpa [World.setCell] using hs3
    generalize w3.setCell ⟨bb, 0, none⟩ (.slice (some ⟨g3, 0, none⟩) (n + 1) cap3) = w4 at *
    clear c3 f3 H3 O3 G3 hs3
    have blk : ∀ k, k < w2.heap.size → k ≠ bb → k ≠ gp → w4.heap[k]? = w2.heap[k]? := fun k hk h1 h2 => K24.out.block k hk (fun e => e.elim h1 h2)
    have HN4 : Hid (HA w4 w1.heap.size x.t) := HN2.out.keep (blk _ hl2 bbh gph)
    have RA4 : Hid (RA w4 x.r x.t) := (blk _ (B2.out.ra i x HX.out).1.lt rpb rpg).trans (B2.out.ra i x HX.out).1
    have OR4 : Hid (w4.ownsRow w0.heap.size 35 1 (.slice (some ⟨gr, 0, none⟩) n cr) n (S.map P2)) := owns_keep OR2.out (fun g hg => by obtain rfl := Option.some.inj hg; exact blk _ grl grb gpr)
    have BLK : Hid _ := blk
    clear blk
    have d1 : w4.cell? ⟨bb, 1, none⟩ = some (.slice (some ⟨gr, 0, none⟩) n cr) := (cell_of_row _ _ _ _ _ _ H4.out).trans rfl
    have d2 : w4.frozen? ⟨bb, 1, none⟩ = false := frozen_of_row _ _ _ _ _ H4.out
    have RA4d : Hid (RA w4.drew x.r x.t) := RA4.out
    have hne4 : w4.heap.size ≠ bb := by omega
    have hb4 : bb < w4.heap.size := (Array.getElem?_eq_some_iff.1 H4.out).1
    have S1 : Hid (∀ o, (w4.alloc o).cell? ⟨bb, 1, none⟩ = some (.slice (some ⟨gr, 0, none⟩) n cr) ∧ (w4.alloc o).frozen? ⟨bb, 1, none⟩ = false) := fun o => ⟨(World.cell?_alloc_lt _ _ _ hb4).trans d1, (World.frozen?_alloc_past _ _ _ hb4).trans d2⟩
    have S2 : Hid (∀ o o', ((w4.alloc o).alloc o').cell? ⟨bb, 1, none⟩ = some (.slice (some ⟨gr, 0, none⟩) n cr) ∧ ((w4.alloc o).alloc o').frozen? ⟨bb, 1, none⟩ = false) := fun o o' => ⟨(World.cell?_alloc_lt _ _ _ (by simp; omega)).trans (S1.out o).1, (World.frozen?_alloc_past _ _ _ (by simp; omega)).trans (S1.out o).2⟩
    have s1c := fun o => (S1.out o).1
    have s1f := fun o => (S1.out o).2
    have s2c := fun o o' => (S2.out o o').1
    have s2f := fun o o' => (S2.out o o').2
    go_wp2_with fail
    go_region_law ((first | (refine step_rcopy (by rfl) 81 82 (by rfl) (by rfl) x.r x.t (by rfl) RA4d ?_) | (refine step_append_lies _ (by rfl) _ _ 30 (by rfl) w0.heap.size 35 iR (.pointer none) 1 8 Tryd.underlying30 HIR.out.1 HIR.out.2.1 HIR.out.2.2.1 HIR.out.2.2.2 rfl (by decide) _ _ _ (by rfl) (World.ownsRow.drew ((OR4.out.alloc _).alloc _)) ⟨w4.heap.size + 1, 0, none⟩ 1 1 [.pointer (some ⟨w4.heap.size, 0, none⟩)] (by rfl) rfl (ptr_new _ _ _ _ (by simp)) (fun u hu => by simp at hu; subst hu; rfl) (by omega) (by unfold maxLen; omega) (by omega) (by simp; omega) _ rfl ?_; intro g7 cap7 w7 hown7 hgrow7 hlies7 hglt7; have H7 : Hid (w7.heap[bb]? = some (.cells #[.slice (some ⟨g3, 0, none⟩) (n + 1) cap3, .slice (some ⟨gr, 0, none⟩) n cr] 32 (0, 0))) := (hgrow7.block bb (by simp; omega) hneR).trans (((Below.heap_alloc _ _ _ (by simp; omega)).trans (Below.heap_alloc _ _ _ hb4)).trans H4.out); have d3 : w7.cell? ⟨bb, 1, none⟩ = some (.slice (some ⟨gr, 0, none⟩) n cr) := (cell_of_row _ _ _ _ _ _ H7.out).trans rfl; have d4 : w7.frozen? ⟨bb, 1, none⟩ = false := frozen_of_row _ _ _ _ _ H7.out; have O7 : Hid (World.ownsRow _ _ _ _ _ _ _) := hown7; have G7 : Hid (World.grownBy _ _ _) := hgrow7; clear hown7 hgrow7 hlies7)))
    all_goals (
      have H8 : Hid ((w7.setCell ⟨bb, 1, none⟩ (.slice (some ⟨g7, 0, none⟩) (n + 1) cap7)).heap[bb]? = some (.cells #[.slice (some ⟨g3, 0, none⟩) (n + 1) cap3, .slice (some ⟨g7, 0, none⟩) (n + 1) cap7] 32 (0, 0))) := (heap_setCell_same _ _ _ _ _ _ H7.out).trans rfl
      have g7b : g7 ≠ bb := by obtain ⟨c, tg⟩ := owns_tag O7.out rfl; exact tag_ne tg H7.out (by decide)
      have g3r : g3 ≠ gr := by obtain ⟨c, tg⟩ := owns_tag O4.out rfl; obtain ⟨c2, tg2⟩ := owns_tag OR4.out rfl; exact tag_ne tg tg2 (by decide)
      have g3l : g3 < w4.heap.size := (O4.out.lt g3 rfl).2
      have blk8 : ∀ k, k < w4.heap.size → k ≠ gr → k ≠ bb → (w7.setCell ⟨bb, 1, none⟩ (.slice (some ⟨g7, 0, none⟩) (n + 1) cap7)).heap[k]? = w4.heap[k]? := fun k hk h1 h2 =>
        (Below.heap_setCell _ _ _ _ h2).trans ((G7.out.block k (by simp; omega) (fun e => h1 (Option.some.inj e))).trans ((Below.heap_alloc _ _ _ (by simp; omega)).trans (Below.heap_alloc _ _ _ hk)))
      have K8 : Kp (fun b => b = bb ∨ b = gp ∨ b = gr) w1 (w7.setCell ⟨bb, 1, none⟩ (.slice (some ⟨g7, 0, none⟩) (n + 1) cap7)) :=
        ((((K4.out.trans (Kp.alloc _ _ _)).trans (Kp.alloc _ _ _)).trans (Kp.drew _ _)).trans (Kp.grown G7.out (fun k e => Or.inr (Or.inr (Option.some.inj e).symm)))).trans (Kp.setCell _ _ _ _ _ (Or.inl rfl))
      have HA8 : HA (w7.setCell ⟨bb, 1, none⟩ (.slice (some ⟨g7, 0, none⟩) (n + 1) cap7)) w1.heap.size x.t := HN4.out.keep (blk8 _ HN4.out.lt grh bbh)
      have RA8 : RA (w7.setCell ⟨bb, 1, none⟩ (.slice (some ⟨g7, 0, none⟩) (n + 1) cap7)) w4.heap.size x.t :=
        (Below.heap_setCell _ _ _ _ hne4).trans ((G7.out.block w4.heap.size (by simp; omega) (fun e => by have : w4.heap.size = gr := Option.some.inj e; omega)).trans (heap_alloc2_old w4 _ _))
      have op8 := owns_keep O4.out (fun g hg => by obtain rfl := Option.some.inj hg; exact blk8 _ g3l g3r g3b)
      have or8 : (w7.setCell ⟨bb, 1, none⟩ (.slice (some ⟨g7, 0, none⟩) (n + 1) cap7)).ownsRow w0.heap.size 35 1 (.slice (some ⟨g7, 0, none⟩) (n + 1) cap7) (n + 1) (S.map P2 ++ [.pointer (some ⟨w4.heap.size, 0, none⟩)]) := owns_keep O7.out (fun g hg => Below.heap_setCell _ _ _ _ (fun e => g7b ((Option.some.inj hg).trans e)))
      have hs14 : w1.heap.size ≤ w4.heap.size := by omega
      have BF := B1.out.more ⟨w1.heap.size, w4.heap.size, x.t⟩ zx (by have := HNn.out; have := HN50.out; omega) (K8.mono (fun k e => e.elim Or.inl (fun e => e.elim (fun e => Or.inr (Or.inl (congrArg some e))) (fun e => Or.inr (Or.inr (congrArg some e)))))) (Nat.le_refl _) hs14 HA8 RA8 H8.out (by rw [← HNn.out]; exact op8) (by rw [← HNn.out]; exact or8)
      have BFH : Hid (Bn _ _ _ _ _ _ _) := BF.mono (show M ≤ M + text.size by omega)
      clear H8 g7b g3r blk8 K8 HA8 RA8 op8 or8 hs14 BF d3 d4 s1c s1f s2c s2f d1 d2
      generalize w7.setCell ⟨bb, 1, none⟩ (.slice (some ⟨g7, 0, none⟩) (n + 1) cap7) = w8 at *
      go_wp2
      go_ret
      exact ⟨rfl, _, _, _, BFH.out⟩)
end Go.Proofs.YtgbachojkbfeoabDoor.he
