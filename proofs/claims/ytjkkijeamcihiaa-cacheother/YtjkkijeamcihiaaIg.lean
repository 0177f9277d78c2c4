import Derived.Test.YtjkkijeamcihiaaIf
namespace Go.Proofs.Ytjkkijeamcihiaa.ig
open Go.RowKit Go.PlainAid Go.Maps
open Go.Proofs.Ytjkkijeamcihiaa.rd (Fx RP rp_adr adr_form)
open Go.Proofs.Ytjkkijeamcihiaa.kp Go.Proofs.Ytjkkijeamcihiaa.ra Go.Proofs.Ytjkkijeamcihiaa.ib Go.Proofs.Ytjkkijeamcihiaa.ic Go.Proofs.Ytjkkijeamcihiaa.id Go.Proofs.Ytjkkijeamcihiaa.ie Go.Proofs.Ytjkkijeamcihiaa.if Go.Proofs.Ytjkkijeamcihiaa.sa
set_option linter.unusedVariables false
set_option linter.unusedSimpArgs false
section
variable {g mb : Nat} {s : St} {es : List (E V)} {w w' : World}
theorem Ring.fx2 {P : Addr → Prop} {bs : List Nat} (h : Ring 3 w ⟨g, 2, none⟩ bs) (F : Fx P w w') (hn : ∀ a, RP 3 g bs a → ¬ P a) : Ring 3 w' ⟨g, 2, none⟩ bs := by
  have h2 : ∀ j, ¬ P (sh (adr ⟨g, 2, none⟩ bs j) 3) := fun j => hn _ (rp_adr j _ (.inl rfl))
  have h3 : ∀ j, ¬ P (sh (adr ⟨g, 2, none⟩ bs j) (3 + 1)) := fun j => hn _ (rp_adr j _ (.inr rfl))
  exact ⟨h.nd, h.ne, fun j hj => (F.cell _ (h2 _)).trans (h.nw j hj), fun j hj => (F.cell _ (h3 _)).trans (h.ol j hj), fun j hj => (F.frz _).trans (h.fn j hj), fun j hj => (F.frz _).trans (h.fo j hj)⟩
-- counts are written
theorem Ch.cnt {a b c : Nat} (h : Ch g mb s es w) (F : Fx (fun a => a.block = g ∧ 7 ≤ a.off) w w') (c6 : w'.cell? ⟨g, 7, none⟩ = some (.int .i64 (a : Nat))) (c7 : w'.cell? ⟨g, 8, none⟩ = some (.int .i64 (b : Nat))) (c8 : w'.cell? ⟨g, 9, none⟩ = some (.int .i64 (c : Nat))) :
    Ch g mb { s with hits := a, misses := b, gone := c } es w' := by
  have hx : ∀ x ∈ es, x.1 ≠ g := fun x hx e => h.ring.ne (by show g ∈ _; rw [← e]; exact List.mem_map.2 ⟨x, hx, rfl⟩)
  have cx : ∀ x ∈ es, ∀ i, w'.cell? ⟨x.1, i, none⟩ = w.cell? ⟨x.1, i, none⟩ := fun x hx' i => F.cell _ (fun hp => hx x hx' hp.1)
  refine ⟨(F.cell _ (fun h1 => absurd (show 7 ≤ 0 from h1.2) (by decide))).trans h.most, (F.cell _ (fun h1 => absurd (show 7 ≤ 1 from h1.2) (by decide))).trans h.at1, c6, c7, c8, fun i => (F.frz _).trans (h.fz i), Ring.fx2 h.ring F ?_, fun x hx => (cx x hx 0).trans (h.kv0 x hx), fun x hx => (cx x hx 1).trans (h.kv1 x hx), fun x hx => (cx x hx 2).trans (h.kv2 x hx), fun x hx i => (F.frz _).trans (h.fv x hx i), h.map.keep (F.blk mb (fun a e hp => h.mg (e.symm.trans hp.1))), h.l, ⟨h.ok.nd, h.ok.len, h.ok.most⟩, h.big⟩
  rintro a (⟨_, h1⟩ | ⟨h1, _⟩) ⟨h2, h3⟩
  · omega
  · exact h.ring.ne (by show g ∈ _; rw [← h2]; exact h1)
theorem set_fx (w : World) (g i : Nat) (v : Value) (hi : 7 ≤ i) : Fx (fun a => a.block = g ∧ 7 ≤ a.off) w (w.setCell ⟨g, i, none⟩ v) := Fx.set _ _ _ ⟨rfl, hi⟩
theorem Ch.hit (h : Ch g mb s es w) (a : Nat) : Ch g mb { s with hits := a } es (w.setCell ⟨g, 7, none⟩ (.int .i64 (a : Nat))) :=
  Ch.cnt (b := s.misses) (c := s.gone) h (set_fx _ _ _ _ (by decide)) (World.cell?_setCell_same _ _ _ h.hits) ((World.cell?_setCell_other _ _ _ _ (by simp)).trans h.misses) ((World.cell?_setCell_other _ _ _ _ (by simp)).trans h.gone)
theorem Ch.miss (h : Ch g mb s es w) (a : Nat) : Ch g mb { s with misses := a } es (w.setCell ⟨g, 8, none⟩ (.int .i64 (a : Nat))) :=
  Ch.cnt (a := s.hits) (c := s.gone) h (set_fx _ _ _ _ (by decide)) ((World.cell?_setCell_other _ _ _ _ (by simp)).trans h.hits) (World.cell?_setCell_same _ _ _ h.misses) ((World.cell?_setCell_other _ _ _ _ (by simp)).trans h.gone)
theorem Ch.went (h : Ch g mb s es w) (a : Nat) : Ch g mb { s with gone := a } es (w.setCell ⟨g, 9, none⟩ (.int .i64 (a : Nat))) :=
  Ch.cnt (a := s.hits) (b := s.misses) h (set_fx _ _ _ _ (by decide)) ((World.cell?_setCell_other _ _ _ _ (by simp)).trans h.hits) ((World.cell?_setCell_other _ _ _ _ (by simp)).trans h.misses) (World.cell?_setCell_same _ _ _ h.gone)
-- what a call leaves
def Rn (g mb : Nat) (s : St) (es : List (E V)) (w w' : World) : Prop := ∃ fs, Ch g mb s fs w' ∧ Kp (Fr g mb es) w w' ∧ ∀ x ∈ fs, x.1 ∈ es.map (·.1) ∨ w.heap.size ≤ x.1
theorem Rn.refl (h : Ch g mb s es w) : Rn g mb s es w w := ⟨es, h, Kp.refl _ _, fun x hx => .inl (List.mem_map.2 ⟨x, hx, rfl⟩)⟩
theorem Rn.below {w2 : World} (h : Rn g mb s es w w') (hb : Below w'.heap.size w' w2) : Rn g mb s es w w2 := by
  obtain ⟨fs, h1, h2, h3⟩ := h
  exact ⟨fs, h1.later hb, h2.trans (Kp.of_below hb), h3⟩
theorem kp_cp {bs : List Nat} (F : Fx (CP g mb (es.map (·.1))) w w') : Kp (Fr g mb es) w w' := F.kp (fun a ha => by
  rcases ha with (⟨h1, _⟩ | ⟨h1, _⟩) | h1
  · exact .inl h1
  · exact .inr (.inr h1)
  · exact .inr (.inl h1))
theorem kp_rp (F : Fx (RP 3 g (es.map (·.1))) w w') : Kp (Fr g mb es) w w' := F.kp (fun a ha => by
  rcases ha with ⟨h1, _⟩ | ⟨h1, _⟩
  · exact .inl h1
  · exact .inr (.inr h1))
theorem kp_g (i : Nat) (v : Value) : Kp (Fr g mb es) w (w.setCell ⟨g, i, none⟩ v) := Kp.setCell _ _ _ _ (.inl rfl)
section
variable (w : World) {ops : Array Oper} {rest : List Oper} {o : Oper} {a : Act} {Q : Exit → Act → World → Prop}
theorem wpList_has (hg : o.guard = none) (m x : Operand) (hop : o.op = Op.lookup 93 m x true) (b : Nat) (es : List (E V)) (hm : a.eval m = .map (some b)) (hown : Mq b es w) (k : K) (hx : a.eval x = .int .i64 k) (hk : okK k) (c : Nat) (hw : where1 k es = some c)
    (hK : wpList Try.prog ops Q rest (a.put o.dst (.tuple #[.pointer (some ⟨c, 0, none⟩), .bool true])) w) : wpList Try.prog ops Q (o :: rest) a w :=
  wpList_look w hg m x hop b es hm hown k hx hk (by rw [hw]; exact hK)
theorem wpList_hasnt (hg : o.guard = none) (m x : Operand) (hop : o.op = Op.lookup 93 m x true) (b : Nat) (es : List (E V)) (hm : a.eval m = .map (some b)) (hown : Mq b es w) (k : K) (hx : a.eval x = .int .i64 k) (hk : okK k) (hw : where1 k es = none)
    (hK : wpList Try.prog ops Q rest (a.put o.dst (.tuple #[.pointer none, .bool false])) w) : wpList Try.prog ops Q (o :: rest) a w :=
  wpList_look w hg m x hop b es hm hown k hx hk (by rw [hw]; exact hK)
end
theorem lenC (h : Ch g mb s es w) : Calls Try.prog 55 #[pt ⟨g, 0, none⟩] w fun e w' => e = .returned (.int .i64 (s.l.length : Nat)) ∧ w' = w := by
  have c1 := h.at1
  have HM : Hid (Mq mb es w) := h.map
  have hl : s.l.length = es.length := by rw [h.l, List.length_map]
  rw [hl]
  clear hl h
  unfold pt
  go_enter Try.func55, Try.ntmps55
  go_wp2_with (first | (at_len; refine wpList_len _ rfl _ rfl mb es rfl HM.out ?_) | go_in)
  go_ret
  exact ⟨rfl, rfl⟩
theorem countsC (h : Ch g mb s es w) : Calls Try.prog 57 #[pt ⟨g, 0, none⟩] w fun e w' => e = .returned (.tuple #[.int .i64 (s.hits : Nat), .int .i64 (s.misses : Nat), .int .i64 (s.gone : Nat)]) ∧ Below w.heap.size w w' := by
  have c6 := h.hits
  have c7 := h.misses
  have c8 := h.gone
  have B : Hid (Below w.heap.size w w.drew) := (Below.refl _ w).drew
  clear h
  unfold pt
  go_enter Try.func57, Try.ntmps57
  go_wp2_with fail
  go_region
  go_wp2
  go_ret3
  exact ⟨rfl, B.out⟩
def zv : V := (⟨#[]⟩, 0)
def pr (v : V) : Value := .agg #[.string v.1, .int .i64 v.2]
theorem put2 (W : World) (r : Nat) (a b x y : Value) (h0 : W.cell? ⟨r, 0, none⟩ = some x) (h1 : W.cell? ⟨r, 1, none⟩ = some y) : ((W.setCell ⟨r, 0, none⟩ a).setCell ⟨r, 1, none⟩ b).cell? ⟨r, 0, none⟩ = some a ∧ ((W.setCell ⟨r, 0, none⟩ a).setCell ⟨r, 1, none⟩ b).cell? ⟨r, 1, none⟩ = some b := by
  constructor
  · rw [World.cell?_setCell_other _ _ _ _ (by simp), World.cell?_setCell_same _ _ _ h0]
  · exact World.cell?_setCell_same _ _ _ (by rw [World.cell?_setCell_other _ _ _ _ (by simp)]; exact h1)
theorem peekC (k : K) (h : Ch g mb s es w) (hk : okK k) : Calls Try.prog 51 #[pt ⟨g, 0, none⟩, .int .i64 k] w fun e w' => e = .returned (.tuple #[pr ((fnd k s.l).getD zv), .bool (fnd k s.l).isSome]) ∧ Below w.heap.size w w' := by
  have hgl : g < w.heap.size := World.block_lt_of_cell? _ _ h.most
  obtain ⟨r, HRr⟩ : ∃ r, Hid (w.heap.size = r) := ⟨_, rfl⟩
  obtain ⟨W, HW⟩ : ∃ W, Hid (w.alloc (.cells #[.string ⟨#[]⟩, .int .i64 0] 60) = W) := ⟨_, rfl⟩
  have B0 : Below w.heap.size w W := by rw [← HW.out]; exact (Below.refl _ _).alloc (Nat.le_refl _) _
  have h' := h.later B0
  have c1 := h'.at1
  have HM : Hid (Mq mb es W) := h'.map
  have r0 : W.cell? ⟨r, 0, none⟩ = some (.string ⟨#[]⟩) := by rw [← HW.out, ← HRr.out, World.cell?_alloc_new]; rfl
  have r1 : W.cell? ⟨r, 1, none⟩ = some (.int .i64 0) := by rw [← HW.out, ← HRr.out, World.cell?_alloc_new]; rfl
  have f0 : ∀ i, W.frozen? ⟨r, i, none⟩ = false := fun i => by rw [← HW.out, ← HRr.out]; exact World.frozen?_alloc_new _ _ _ _
  have z1 : W.heap.size = w.heap.size + 1 := by rw [← HW.out]; exact Array.size_push _
  rcases fnd_where h k with ⟨hf, hw⟩ | ⟨i, hi, b, v, he, hw, hf⟩
  · rw [hf]
    have HWn : Hid (where1 k es = none) := hw
    have lt : r < W.heap.size := by rw [z1, ← HRr.out]; omega
    obtain ⟨y0, y1⟩ := put2 W r (.string ⟨#[]⟩) (.int .i64 0) _ _ r0 r1
    have sz : ((W.setCell ⟨r, 0, none⟩ (.string ⟨#[]⟩)).setCell ⟨r, 1, none⟩ (.int .i64 0)).heap.size = W.heap.size := by simp [World.setCell]
    have p0 : (((W.setCell ⟨r, 0, none⟩ (.string ⟨#[]⟩)).setCell ⟨r, 1, none⟩ (.int .i64 0)).alloc (.cells #[.string ⟨#[]⟩, .int .i64 0] 60)).cell? ⟨r, 0, none⟩ = some (.string ⟨#[]⟩) := (World.cell?_alloc_lt _ _ _ (by rw [sz]; exact lt)).trans y0
    have p1 : (((W.setCell ⟨r, 0, none⟩ (.string ⟨#[]⟩)).setCell ⟨r, 1, none⟩ (.int .i64 0)).alloc (.cells #[.string ⟨#[]⟩, .int .i64 0] 60)).cell? ⟨r, 1, none⟩ = some (.int .i64 0) := (World.cell?_alloc_lt _ _ _ (by rw [sz]; exact lt)).trans y1
    have f00 := f0 0
    have f01 := f0 1
    have END : Hid (Below w.heap.size w (((W.setCell ⟨r, 0, none⟩ (.string ⟨#[]⟩)).setCell ⟨r, 1, none⟩ (.int .i64 0)).alloc (.cells #[.string ⟨#[]⟩, .int .i64 0] 60))) := by
      have b1 : Below w.heap.size w ((W.setCell ⟨r, 0, none⟩ (.string ⟨#[]⟩)).setCell ⟨r, 1, none⟩ (.int .i64 0)) := (B0.setCell (by show w.heap.size ≤ r; rw [HRr.out]; exact Nat.le_refl _) _).setCell (by show w.heap.size ≤ r; rw [HRr.out]; exact Nat.le_refl _) _
      exact b1.alloc b1.size _
    clear h h' hw hf B0 f0 z1 y0 y1 sz
    unfold pt pr zv
    go_enter Try.func51, Try.ntmps51
    go_upto_region 1 with fail
    rw [HW.out, HRr.out]
    go_upto_region 3 with (first | (at_lookup; refine wpList_hasnt _ rfl _ _ rfl mb es rfl HM.out k rfl hk HWn.out ?_) | go_in)
    go_wp2
    refine bodyPost_ret (by simp [results, Try.results51, go_sem, p0, p1]; try rfl) rfl ?_
    exact ⟨rfl, END.out⟩
  · rw [hf]
    have cv1 : W.cell? ⟨b, 1, none⟩ = some (.string v.1) := by
      have := h'.kv1 es[i] (List.getElem_mem hi)
      rw [he] at this
      exact this
    have cv2 : W.cell? ⟨b, 2, none⟩ = some (.int .i64 v.2) := by
      have := h'.kv2 es[i] (List.getElem_mem hi)
      rw [he] at this
      exact this
    have HWs : Hid (where1 k es = some b) := hw
    obtain ⟨v1, v2⟩ := v
    obtain ⟨p0, p1⟩ := put2 W r (.string v1) (.int .i64 v2) _ _ r0 r1
    have f00 := f0 0
    have f01 := f0 1
    have END : Hid (Below w.heap.size w ((W.setCell ⟨r, 0, none⟩ (.string v1)).setCell ⟨r, 1, none⟩ (.int .i64 v2))) := (B0.setCell (by show w.heap.size ≤ r; rw [HRr.out]; exact Nat.le_refl _) _).setCell (by show w.heap.size ≤ r; rw [HRr.out]; exact Nat.le_refl _) _
    clear h h' hw hf B0 f0 z1 he
    unfold pt pr
    go_enter Try.func51, Try.ntmps51
    go_upto_region 1 with fail
    rw [HW.out, HRr.out]
    go_wp2_with (first | (at_lookup; refine wpList_has _ rfl _ _ rfl mb es rfl HM.out k rfl hk b HWs.out ?_) | go_in)
    refine bodyPost_ret (by simp [results, Try.results51, go_sem, p0, p1]; try rfl) rfl ?_
    exact ⟨rfl, END.out⟩
end
end Go.Proofs.Ytjkkijeamcihiaa.ig
