import Derived.Test.YtgbachojkbfeoabDoorHe
namespace Go.Proofs.YtgbachojkbfeoabDoor.hf
open Go.RowKit Go.PlainAid
open Go.Proofs.YtgbachojkbfeoabDoor.pl Go.Proofs.YtgbachojkbfeoabDoor.pc Go.Proofs.YtgbachojkbfeoabDoor.pd Go.Proofs.YtgbachojkbfeoabDoor.ph Go.Proofs.YtgbachojkbfeoabDoor.pi Go.Proofs.YtgbachojkbfeoabDoor.ft Go.Proofs.YtgbachojkbfeoabDoor.pj Go.Proofs.YtgbachojkbfeoabDoor.pn Go.Proofs.YtgbachojkbfeoabDoor.re Go.Proofs.YtgbachojkbfeoabDoor.rf Go.Proofs.YtgbachojkbfeoabDoor.ha Go.Proofs.YtgbachojkbfeoabDoor.hb Go.Proofs.YtgbachojkbfeoabDoor.hc Go.Proofs.YtgbachojkbfeoabDoor.hd Go.Proofs.YtgbachojkbfeoabDoor.he
set_option linter.unusedVariables false

theorem does (w0 : World) (bb : Nat) (S : List Pr) (M : Nat) (pv rv : Value) (w : World) (kind on : Int) (text : ByteArray) (ho1 : -9223372036854775808 ≤ on) (ho2 : on ≤ 9223372036854775807) (hM : M + text.size ≤ 1048576) (BN : Hid (Bn w0 bb S M pv rv w)) :
    Calls Tryd.prog 5 #[.pointer (some ⟨bb, 0, none⟩), .agg #[.int .i64 kind, .int .i64 on, .string text]] w fun e w' => e = .returned (.bool true) ∧ ∃ S' pv' rv', Bn w0 bb S' (M + text.size) pv' rv' w' := by
  have no : ∀ k : Int, kind ≠ k → (kind == k) = false := fun k h => by rw [beq_eq_false_iff_ne]; exact h
  have yes : ∀ k : Int, kind = k → (kind == k) = true := fun k h => by rw [beq_iff_eq]; exact h
  by_cases h1 : kind = 1
  · exact does_write w0 bb S M pv rv w kind on text ho1 ho2 hM BN (yes 1 h1)
  by_cases h2 : kind = 2
  · exact does_sum w0 bb S M pv rv w kind on text ho1 ho2 hM BN (no 1 h1) (yes 2 h2)
  by_cases h3 : kind = 3
  · exact does_len w0 bb S M pv rv w kind on text ho1 ho2 hM BN (no 1 h1) (no 2 h2) (yes 3 h3)
  by_cases h4 : kind = 4
  · exact does_copy w0 bb S M pv rv w kind on text ho1 ho2 hM BN (no 1 h1) (no 2 h2) (no 3 h3) (yes 4 h4)
  by_cases h5 : kind = 5
  · exact does_reset w0 bb S M pv rv w kind on text ho1 ho2 hM BN (no 1 h1) (no 2 h2) (no 3 h3) (no 4 h4) (yes 5 h5)
  · exact does_other w0 bb S M pv rv w kind on text ho1 ho2 hM BN (no 1 h1) (no 2 h2) (no 3 h3) (no 4 h4) (no 5 h5)

theorem step_rnew {ops : Array Oper} {o : Oper} {a : Act} {w : World} {K : Act → World → Prop} {Q : Exit → Act → World → Prop} {E : Prop} (hg : o.guard = none) (d : Nat)
    (hop : o.op = .call { callee := .value (.func 11), args := #[], argTypes := #[] }) (hd : o.dst = some d)
    (hK : K { tmps := a.tmps.setIfInBounds d (.pointer (some ⟨w.heap.size, 0, none⟩)), defers := a.defers } (w.alloc (.cells #[.string ⟨#[]⟩] 51))) :
    if Region.wanted o (yielded ops a.tmps) = true then Oper.wp Tryd.prog o a w K Q else E := by
  have hw : Region.wanted o (yielded ops a.tmps) = true := by simp [Region.wanted, hg]
  rw [if_pos hw]
  have C := rNew w
  have HKK : Hid _ := hK
  clear hK
  unfold Oper.wp execOp
  simp only [hop]
  go_simp
  refine C.mono ?_
  rintro e w' ⟨rfl, rfl⟩
  exact HKK.out

theorem one_pair {w0 : World} {bb : Nat} {pv rv : Value} {w : World} (x : Pr) (hbel : Below w0.heap.size w0 w) (tab : Tab4 w0) (hb : w.heap[bb]? = some (.cells #[pv, rv] 32 (0, 0))) (op : w.ownsRow w0.heap.size 33 1 pv 1 [P1 x]) (orr : w.ownsRow w0.heap.size 35 1 rv 1 [P2 x]) (big : w0.heap.size ≤ bb)
    (ha : HA w x.p x.t) (hap : w0.heap.size ≤ x.p) (ra : RA w x.r x.t) (har : w0.heap.size ≤ x.r) (hz : x.t.size ≤ 0) : Bn w0 bb [x] 0 pv rv w := by
  have only : ∀ (i : Nat) y, [x][i]? = some y → i = 0 ∧ y = x := fun i y hy => by
    match i, hy with
    | 0, hy => exact ⟨rfl, (Option.some.inj hy).symm⟩
  exact ⟨hbel, tab, hb, op, orr, big, fun i y hy => by rw [(only i y hy).2]; exact ⟨ha, hap⟩, fun i y hy => by rw [(only i y hy).2]; exact ⟨ra, har⟩, fun i j y z hy hz hne => absurd ((only i y hy).1.trans (only j z hz).1.symm) hne, fun i j y z hy hz hne => absurd ((only i y hy).1.trans (only j z hz).1.symm) hne, fun i y hy => by rw [(only i y hy).2]; exact hz, Nat.le_refl _, (show 1 ≤ 50 by omega)⟩

set_option maxHeartbeats 1600000 in
theorem begun (w : World) (T : Hid (Tab4 w)) :
    Calls Tryd.prog 4 #[] w fun e w' => e = .returned (.tuple #[.pointer (some ⟨w.heap.size, 0, none⟩), .bool true]) ∧ ∃ x pv rv, Bn w w.heap.size [x] 0 pv rv w' := by
  obtain ⟨iP, a1, a2, a3, a4⟩ := info_parts infoP
  have HIP : Hid (_ ∧ _ ∧ _ ∧ _) := ⟨a1, a2, a3, a4⟩
  clear a1 a2 a3 a4
  obtain ⟨iR, a1, a2, a3, a4⟩ := info_parts infoR
  have HIR : Hid (_ ∧ _ ∧ _ ∧ _) := ⟨a1, a2, a3, a4⟩
  clear a1 a2 a3 a4
  have hb4 := T.out.big
  have HBx : Hid (Below w.heap.size w (w.alloc (.cells #[.slice none 0 0, .slice none 0 0] 32))) := (Below.refl _ _).alloc (Nat.le_refl _) _
  have H1 : Hid ((w.alloc (.cells #[.slice none 0 0, .slice none 0 0] 32)).heap[w.heap.size]? = some (.cells #[.slice none 0 0, .slice none 0 0] 32 (0, 0))) := heap_alloc_new w _
  have hsz : (w.alloc (.cells #[.slice none 0 0, .slice none 0 0] 32)).heap.size = w.heap.size + 1 := by simp
  generalize hww : w.alloc (.cells #[.slice none 0 0, .slice none 0 0] 32) = w1 at *
  have HWW : Hid _ := hww
  clear hww
  go_enter Tryd.func4, Tryd.ntmps4
  go_wp2_with fail
  rw [HWW.out]
  have HSZ : Hid _ := hsz
  clear hsz
  refine (New w1 (T.out.down HBx.out).t).mono ?_
  rintro e w2 ⟨rfl, hb, hh⟩
  have BE2 : Hid (Below w1.heap.size w1 w2) := hb
  have HA2 : Hid (HA w2 w1.heap.size ⟨#[]⟩) := hh
  have H2 : Hid (w2.heap[w.heap.size]? = some (.cells #[.slice none 0 0, .slice none 0 0] 32 (0, 0))) := (hb.block _ (by have := HSZ.out; omega)).trans H1.out
  have bbl : w.heap.size < w2.heap.size := (Array.getElem?_eq_some_iff.1 H2.out).1
  have hl2 : w1.heap.size < w2.heap.size := HA2.out.lt
  have hb1 : w1.heap.size ≠ w.heap.size := by have := HSZ.out; omega
  have c0 : w2.cell? ⟨w.heap.size, 0, none⟩ = some (.slice none 0 0) := (cell_of_row _ _ _ _ _ _ H2.out).trans rfl
  have ON2 : Hid (w2.ownsRow w.heap.size 33 1 (.slice none 0 0) 0 []) := World.ownsRow_nil _ _ _ _
  have hneN : some w.heap.size ≠ (Value.slice none 0 0).ownBlock := fun e => by cases e
  clear hb hh
  go_wp2_with (at_builtin; refine wpList_append_lies _ rfl _ _ 29 rfl w.heap.size 33 iP (.pointer none) 1 8 Tryd.underlying29 HIP.out.1 HIP.out.2.1 HIP.out.2.2.1 HIP.out.2.2.2 rfl (by decide) _ _ _ rfl (ON2.out.alloc _) ⟨w2.heap.size, 0, none⟩ 1 1 [.pointer (some ⟨w1.heap.size, 0, none⟩)] rfl rfl (ptr_new w2 _ _ _ rfl) (fun u hu => by simp at hu; subst hu; rfl) (by omega) (by unfold maxLen; omega) (by omega) (by simp; omega) (w2.heap.size + 1) (by simp) ?_; intro g3 cap3 w3 hown3 hgrow3 hat3 hlt3; have H3 : Hid (w3.heap[w.heap.size]? = some (.cells #[.slice none 0 0, .slice none 0 0] 32 (0, 0))) := grow_blk hgrow3 H2.out hneN; have c3 : w3.cell? ⟨w.heap.size, 0, none⟩ = some (.slice none 0 0) := (cell_of_row _ _ _ _ _ _ H3.out).trans rfl; have f3 : w3.frozen? ⟨w.heap.size, 0, none⟩ = false := frozen_of_row _ _ _ _ _ H3.out; have O3 : Hid (World.ownsRow _ _ _ _ _ _ _) := hown3; have G3 : Hid (World.grownBy _ _ _) := hgrow3; clear hown3 hgrow3 hat3 hlt3)
  have H4 : Hid ((w3.setCell ⟨w.heap.size, 0, none⟩ (.slice (some ⟨g3, 0, none⟩) (0 + 1) cap3)).heap[w.heap.size]? = some (.cells #[.slice (some ⟨g3, 0, none⟩) (0 + 1) cap3, .slice none 0 0] 32 (0, 0))) := (heap_setCell_same _ _ _ _ _ _ H3.out).trans rfl
  have g3b : g3 ≠ w.heap.size := by obtain ⟨c, tg⟩ := owns_tag O3.out rfl; exact tag_ne tg H3.out (by decide)
  have hs3 : w2.heap.size + 1 ≤ w3.heap.size := by have := G3.out.size; simpa using this
  have O4 : Hid ((w3.setCell ⟨w.heap.size, 0, none⟩ (.slice (some ⟨g3, 0, none⟩) (0 + 1) cap3)).ownsRow w.heap.size 33 1 (.slice (some ⟨g3, 0, none⟩) (0 + 1) cap3) (0 + 1) ([] ++ [.pointer (some ⟨w1.heap.size, 0, none⟩)])) := owns_keep O3.out (fun g hg => Below.heap_setCell _ _ _ _ (fun e => g3b ((Option.some.inj hg).trans e)))
  have K4 : Hid (Kp (fun b => b = w.heap.size) w2 (w3.setCell ⟨w.heap.size, 0, none⟩ (.slice (some ⟨g3, 0, none⟩) (0 + 1) cap3))) :=
    ((Kp.alloc _ _ _).trans (Kp.grown G3.out (fun k e => by cases e))).trans (Kp.setCell _ _ _ _ _ rfl)
  have hs4 : w2.heap.size + 1 ≤ (w3.setCell ⟨w.heap.size, 0, none⟩ (.slice (some ⟨g3, 0, none⟩) (0 + 1) cap3)).heap.size := by simpa [World.setCell] using hs3
  simp only [Nat.zero_add] at H4 O4 K4 hs4
  generalize w3.setCell ⟨w.heap.size, 0, none⟩ (.slice (some ⟨g3, 0, none⟩) 1 cap3) = w4 at *
  clear c3 f3 H3 O3 G3 hs3 c0
  have HA4 : Hid (HA w4 w1.heap.size ⟨#[]⟩) := HA2.out.keep (K4.out.block _ hl2 hb1)
  have d1 : w4.cell? ⟨w.heap.size, 1, none⟩ = some (.slice none 0 0) := (cell_of_row _ _ _ _ _ _ H4.out).trans rfl
  have d2 : w4.frozen? ⟨w.heap.size, 1, none⟩ = false := frozen_of_row _ _ _ _ _ H4.out
  have hne4 : w4.heap.size ≠ w.heap.size := by omega
  have hbb4 : w.heap.size < w4.heap.size := by omega
  have s1c : ∀ o, (w4.alloc o).cell? ⟨w.heap.size, 1, none⟩ = some (.slice none 0 0) := fun o => (World.cell?_alloc_lt _ _ _ hbb4).trans d1
  have s2c : ∀ o o', ((w4.alloc o).alloc o').cell? ⟨w.heap.size, 1, none⟩ = some (.slice none 0 0) := fun o o' => (World.cell?_alloc_lt _ _ _ (by simp; omega)).trans (s1c o)
  have ON4 : Hid (w4.ownsRow w.heap.size 35 1 (.slice none 0 0) 0 []) := World.ownsRow_nil _ _ _ _
  go_wp2_with fail
  go_region_law ((first | (refine step_rnew (by rfl) 25 (by rfl) (by rfl) ?_) | (refine step_append_lies _ (by rfl) _ _ 30 (by rfl) w.heap.size 35 iR (.pointer none) 1 8 Tryd.underlying30 HIR.out.1 HIR.out.2.1 HIR.out.2.2.1 HIR.out.2.2.2 rfl (by decide) _ _ _ (by rfl) (World.ownsRow.drew ((ON4.out.alloc _).alloc _)) ⟨w4.heap.size + 1, 0, none⟩ 1 1 [.pointer (some ⟨w4.heap.size, 0, none⟩)] (by rfl) rfl (ptr_new _ _ _ _ (by simp)) (fun u hu => by simp at hu; subst hu; rfl) (by omega) (by unfold maxLen; omega) (by omega) (by simp; omega) _ rfl ?_; intro g7 cap7 w7 hown7 hgrow7 hlies7 hglt7; have H7 : Hid (w7.heap[w.heap.size]? = some (.cells #[.slice (some ⟨g3, 0, none⟩) 1 cap3, .slice none 0 0] 32 (0, 0))) := (hgrow7.block w.heap.size (by simp; omega) hneN).trans (((Below.heap_alloc _ _ _ (by simp; omega)).trans (Below.heap_alloc _ _ _ hbb4)).trans H4.out); have d3 : w7.cell? ⟨w.heap.size, 1, none⟩ = some (.slice none 0 0) := (cell_of_row _ _ _ _ _ _ H7.out).trans rfl; have d4 : w7.frozen? ⟨w.heap.size, 1, none⟩ = false := frozen_of_row _ _ _ _ _ H7.out; have O7 : Hid (World.ownsRow _ _ _ _ _ _ _) := hown7; have G7 : Hid (World.grownBy _ _ _) := hgrow7; clear hown7 hgrow7 hlies7)))
  all_goals (
    simp only [Nat.zero_add, List.nil_append] at O7 O4
    have H8 : Hid ((w7.setCell ⟨w.heap.size, 1, none⟩ (.slice (some ⟨g7, 0, none⟩) 1 cap7)).heap[w.heap.size]? = some (.cells #[.slice (some ⟨g3, 0, none⟩) 1 cap3, .slice (some ⟨g7, 0, none⟩) 1 cap7] 32 (0, 0))) := (heap_setCell_same _ _ _ _ _ _ H7.out).trans rfl
    have g7b : g7 ≠ w.heap.size := by obtain ⟨c, tg⟩ := owns_tag O7.out rfl; exact tag_ne tg H7.out (by decide)
    have g3l : g3 < w4.heap.size := (O4.out.lt g3 rfl).2
    have blk8 : ∀ k, k < w4.heap.size → k ≠ w.heap.size → (w7.setCell ⟨w.heap.size, 1, none⟩ (.slice (some ⟨g7, 0, none⟩) 1 cap7)).heap[k]? = w4.heap[k]? := fun k hk h2 =>
      (Below.heap_setCell _ _ _ _ h2).trans ((G7.out.block k (by simp; omega) (fun e => by cases e)).trans ((Below.heap_alloc _ _ _ (by simp; omega)).trans (Below.heap_alloc _ _ _ hk)))
    have K8 : Kp (fun b => b = w.heap.size) w2 (w7.setCell ⟨w.heap.size, 1, none⟩ (.slice (some ⟨g7, 0, none⟩) 1 cap7)) :=
      ((((K4.out.trans (Kp.alloc _ _ _)).trans (Kp.alloc _ _ _)).trans (Kp.drew _ _)).trans (Kp.grown G7.out (fun k e => by cases e))).trans (Kp.setCell _ _ _ _ _ rfl)
    have HA8 : HA (w7.setCell ⟨w.heap.size, 1, none⟩ (.slice (some ⟨g7, 0, none⟩) 1 cap7)) w1.heap.size ⟨#[]⟩ := HA4.out.keep (blk8 _ HA4.out.lt hb1)
    have RA8 : RA (w7.setCell ⟨w.heap.size, 1, none⟩ (.slice (some ⟨g7, 0, none⟩) 1 cap7)) w4.heap.size ⟨#[]⟩ :=
      (Below.heap_setCell _ _ _ _ hne4).trans ((G7.out.block w4.heap.size (by simp; omega) (fun e => by cases e)).trans (heap_alloc2_old w4 _ _))
    have op8 := owns_keep O4.out (fun g hg => by obtain rfl := Option.some.inj hg; exact blk8 _ g3l g3b)
    have or8 := owns_keep (w' := w7.setCell ⟨w.heap.size, 1, none⟩ (.slice (some ⟨g7, 0, none⟩) 1 cap7)) O7.out (fun g hg => Below.heap_setCell _ _ _ _ (fun e => g7b ((Option.some.inj hg).trans e)))
    have bl8 : Below w.heap.size w (w7.setCell ⟨w.heap.size, 1, none⟩ (.slice (some ⟨g7, 0, none⟩) 1 cap7)) := ((HBx.out.trans (BE2.out.mono (by have := HSZ.out; omega))).trans (K8.below (fun k e => by omega) (by omega)))
    have BFH : Hid (Bn _ _ _ _ _ _ _) := one_pair ⟨w1.heap.size, w4.heap.size, ⟨#[]⟩⟩ bl8 T.out H8.out op8 or8 (Nat.le_refl _) HA8 (by have := HSZ.out; show _ ≤ w1.heap.size; omega) RA8 (by show _ ≤ w4.heap.size; omega) (Nat.le_refl _)
    clear H8 g7b blk8 K8 HA8 RA8 op8 or8 bl8 d3 d4 s1c s2c d1 d2
    generalize w7.setCell ⟨w.heap.size, 1, none⟩ (.slice (some ⟨g7, 0, none⟩) 1 cap7) = w8 at *
    go_wp2
    go_ret2
    exact ⟨rfl, _, _, _, BFH.out⟩)
end Go.Proofs.YtgbachojkbfeoabDoor.hf
