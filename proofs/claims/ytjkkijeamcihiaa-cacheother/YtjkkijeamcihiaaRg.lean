import Derived.Test.YtjkkijeamcihiaaRf
namespace Go.Proofs.Ytjkkijeamcihiaa.rg
open Go.RowKit Go.PlainAid Go.Maps
open Go.Proofs.Ytjkkijeamcihiaa.kp Go.Proofs.Ytjkkijeamcihiaa.ra Go.Proofs.Ytjkkijeamcihiaa.rb Go.Proofs.Ytjkkijeamcihiaa.rc Go.Proofs.Ytjkkijeamcihiaa.rd Go.Proofs.Ytjkkijeamcihiaa.re Go.Proofs.Ytjkkijeamcihiaa.rf Go.Proofs.Ytjkkijeamcihiaa.sa
set_option linter.unusedVariables false
set_option linter.unusedSimpArgs false
section
variable {g mb : Nat} {s : St} {es : List (E V)} {w w' : World}
theorem Ring.fx2 {P : Addr → Prop} {bs : List Nat} (h : Ring 2 w ⟨g, 2, none⟩ bs) (F : Fx P w w') (hn : ∀ a, RP 2 g bs a → ¬ P a) : Ring 2 w' ⟨g, 2, none⟩ bs := by
  have h2 : ∀ j, ¬ P (sh (adr ⟨g, 2, none⟩ bs j) 2) := fun j => hn _ (rp_adr j _ (.inl rfl))
  have h3 : ∀ j, ¬ P (sh (adr ⟨g, 2, none⟩ bs j) (2 + 1)) := fun j => hn _ (rp_adr j _ (.inr rfl))
  exact ⟨h.nd, h.ne, fun j hj => (F.cell _ (h2 _)).trans (h.nw j hj), fun j hj => (F.cell _ (h3 _)).trans (h.ol j hj), fun j hj => (F.frz _).trans (h.fn j hj), fun j hj => (F.frz _).trans (h.fo j hj)⟩
-- counts are written
theorem Ch.cnt {a b c : Nat} (h : Ch g mb s es w) (F : Fx (fun a => a.block = g ∧ 6 ≤ a.off) w w') (c6 : w'.cell? ⟨g, 6, none⟩ = some (.int .i64 (a : Nat))) (c7 : w'.cell? ⟨g, 7, none⟩ = some (.int .i64 (b : Nat))) (c8 : w'.cell? ⟨g, 8, none⟩ = some (.int .i64 (c : Nat))) :
    Ch g mb { s with hits := a, misses := b, gone := c } es w' := by
  have hx : ∀ x ∈ es, x.1 ≠ g := fun x hx e => h.ring.ne (by show g ∈ _; rw [← e]; exact List.mem_map.2 ⟨x, hx, rfl⟩)
  have cx : ∀ x ∈ es, ∀ i, w'.cell? ⟨x.1, i, none⟩ = w.cell? ⟨x.1, i, none⟩ := fun x hx' i => F.cell _ (fun hp => hx x hx' hp.1)
  refine ⟨(F.cell _ (fun h1 => absurd (show 6 ≤ 0 from h1.2) (by decide))).trans h.most, (F.cell _ (fun h1 => absurd (show 6 ≤ 1 from h1.2) (by decide))).trans h.at1, c6, c7, c8, fun i => (F.frz _).trans (h.fz i), Ring.fx2 h.ring F ?_, fun x hx => (cx x hx 0).trans (h.kv0 x hx), fun x hx => (cx x hx 1).trans (h.kv1 x hx), fun x hx i => (F.frz _).trans (h.fv x hx i), h.map.keep (F.blk mb (fun a e hp => h.mg (e.symm.trans hp.1))), h.l, ⟨h.ok.nd, h.ok.len, h.ok.most⟩, h.big⟩
  rintro a (⟨_, h1⟩ | ⟨h1, _⟩) ⟨h2, h3⟩
  · omega
  · exact h.ring.ne (by show g ∈ _; rw [← h2]; exact h1)
theorem set_fx (w : World) (g i : Nat) (v : Value) (hi : 6 ≤ i) : Fx (fun a => a.block = g ∧ 6 ≤ a.off) w (w.setCell ⟨g, i, none⟩ v) := Fx.set _ _ _ ⟨rfl, hi⟩
theorem Ch.hit (h : Ch g mb s es w) (a : Nat) : Ch g mb { s with hits := a } es (w.setCell ⟨g, 6, none⟩ (.int .i64 (a : Nat))) :=
  Ch.cnt (b := s.misses) (c := s.gone) h (set_fx _ _ _ _ (by decide)) (World.cell?_setCell_same _ _ _ h.hits) ((World.cell?_setCell_other _ _ _ _ (by simp)).trans h.misses) ((World.cell?_setCell_other _ _ _ _ (by simp)).trans h.gone)
theorem Ch.miss (h : Ch g mb s es w) (a : Nat) : Ch g mb { s with misses := a } es (w.setCell ⟨g, 7, none⟩ (.int .i64 (a : Nat))) :=
  Ch.cnt (a := s.hits) (c := s.gone) h (set_fx _ _ _ _ (by decide)) ((World.cell?_setCell_other _ _ _ _ (by simp)).trans h.hits) (World.cell?_setCell_same _ _ _ h.misses) ((World.cell?_setCell_other _ _ _ _ (by simp)).trans h.gone)
theorem Ch.went (h : Ch g mb s es w) (a : Nat) : Ch g mb { s with gone := a } es (w.setCell ⟨g, 8, none⟩ (.int .i64 (a : Nat))) :=
  Ch.cnt (a := s.hits) (b := s.misses) h (set_fx _ _ _ _ (by decide)) ((World.cell?_setCell_other _ _ _ _ (by simp)).trans h.hits) ((World.cell?_setCell_other _ _ _ _ (by simp)).trans h.misses) (World.cell?_setCell_same _ _ _ h.gone)
-- what a call leaves
def Rn (g mb : Nat) (s : St) (es : List (E V)) (w w' : World) : Prop := ∃ fs, Ch g mb s fs w' ∧ Kp (Fr g mb es) w w' ∧ ∀ x ∈ fs, x.1 ∈ es.map (·.1) ∨ w.heap.size ≤ x.1
theorem Rn.refl (h : Ch g mb s es w) : Rn g mb s es w w := ⟨es, h, Kp.refl _ _, fun x hx => .inl (List.mem_map.2 ⟨x, hx, rfl⟩)⟩
theorem Rn.below {w2 : World} (h : Rn g mb s es w w') (hb : Below w'.heap.size w' w2) : Rn g mb s es w w2 := by
  obtain ⟨fs, h1, h2, h3⟩ := h
  exact ⟨fs, h1.later hb, h2.trans (Kp.of_below hb), h3⟩
theorem kp_cp {bs : List Nat} (F : Fx (CP g mb (es.map (·.1))) w w') : Kp (Fr g mb es) w w' := F.kp (fun a ha => by
  rcases ha with (⟨h1, _⟩ | ⟨h1, _⟩) | h1
  · exact .inl h1
  · exact .inr (.inr h1)
  · exact .inr (.inl h1))
theorem kp_rp (F : Fx (RP 2 g (es.map (·.1))) w w') : Kp (Fr g mb es) w w' := F.kp (fun a ha => by
  rcases ha with ⟨h1, _⟩ | ⟨h1, _⟩
  · exact .inl h1
  · exact .inr (.inr h1))
theorem kp_g (i : Nat) (v : Value) : Kp (Fr g mb es) w (w.setCell ⟨g, i, none⟩ v) := Kp.setCell _ _ _ _ (.inl rfl)
section
variable (w : World) {ops : Array Oper} {rest : List Oper} {o : Oper} {a : Act} {Q : Exit → Act → World → Prop}
theorem wpList_has (hg : o.guard = none) (m x : Operand) (hop : o.op = Op.lookup 62 m x true) (b : Nat) (es : List (E V)) (hm : a.eval m = .map (some b)) (hown : Mq b es w) (k : K) (hx : a.eval x = .string k) (hk : okK k) (c : Nat) (hw : where1 k es = some c)
    (hK : wpList Try.prog ops Q rest (a.put o.dst (.tuple #[.pointer (some ⟨c, 0, none⟩), .bool true])) w) : wpList Try.prog ops Q (o :: rest) a w :=
  wpList_look w hg m x hop b es hm hown k hx hk (by rw [hw]; exact hK)
theorem wpList_hasnt (hg : o.guard = none) (m x : Operand) (hop : o.op = Op.lookup 62 m x true) (b : Nat) (es : List (E V)) (hm : a.eval m = .map (some b)) (hown : Mq b es w) (k : K) (hx : a.eval x = .string k) (hk : okK k) (hw : where1 k es = none)
    (hK : wpList Try.prog ops Q rest (a.put o.dst (.tuple #[.pointer none, .bool false])) w) : wpList Try.prog ops Q (o :: rest) a w :=
  wpList_look w hg m x hop b es hm hown k hx hk (by rw [hw]; exact hK)
end
def emp : ByteArray := ⟨#[]⟩
theorem lenC (h : Ch g mb s es w) : Calls Try.prog 22 #[pt ⟨g, 0, none⟩] w fun e w' => e = .returned (.int .i64 (s.l.length : Nat)) ∧ w' = w := by
  have c1 := h.at1
  have HM : Hid (Mq mb es w) := h.map
  have hl : s.l.length = es.length := by rw [h.l, List.length_map]
  rw [hl]
  clear hl h
  unfold pt
  go_enter Try.func22, Try.ntmps22
  go_wp2_with (first | (at_len; refine wpList_len _ rfl _ rfl mb es rfl HM.out ?_) | go_in)
  go_ret
  exact ⟨rfl, rfl⟩
theorem countsC (h : Ch g mb s es w) : Calls Try.prog 26 #[pt ⟨g, 0, none⟩] w fun e w' => e = .returned (.tuple #[.int .i64 (s.hits : Nat), .int .i64 (s.misses : Nat), .int .i64 (s.gone : Nat)]) ∧ Below w.heap.size w w' := by
  have c6 := h.hits
  have c7 := h.misses
  have c8 := h.gone
  have B : Hid (Below w.heap.size w w.drew) := (Below.refl _ w).drew
  clear h
  unfold pt
  go_enter Try.func26, Try.ntmps26
  go_wp2_with fail
  go_region
  go_wp2
  go_ret3
  exact ⟨rfl, B.out⟩
theorem peekC (k : K) (h : Ch g mb s es w) (hk : okK k) : Calls Try.prog 18 #[pt ⟨g, 0, none⟩, .string k] w fun e w' => e = .returned (.tuple #[.string ((fnd k s.l).getD emp), .bool (fnd k s.l).isSome]) ∧ Below w.heap.size w w' := by
  have c1 := h.at1
  have HM : Hid (Mq mb es w) := h.map
  have HB : Hid (∀ o, Below w.heap.size w (w.alloc o)) := fun o => (Below.refl _ w).alloc (Nat.le_refl _) _
  have HB0 : Hid (Below w.heap.size w w) := Below.refl _ w
  unfold pt emp
  rcases fnd_where h k with ⟨hf, hw⟩ | ⟨i, hi, b, v, he, hw, hf⟩
  · rw [hf]
    have HW : Hid (where1 k es = none) := hw
    clear h hw hf
    go_enter Try.func18, Try.ntmps18
    go_wp2_with (first | (at_lookup; refine wpList_hasnt _ rfl _ _ rfl mb es rfl HM.out k rfl hk HW.out ?_) | go_in)
    go_ret2
    exact ⟨rfl, HB.out _⟩
  · rw [hf]
    have cv : w.cell? ⟨b, 1, none⟩ = some (.string v) := by
      have := h.kv1 es[i] (List.getElem_mem hi)
      rw [he] at this
      exact this
    have HW : Hid (where1 k es = some b) := hw
    clear h hw hf he
    go_enter Try.func18, Try.ntmps18
    go_wp2_with (first | (at_lookup; refine wpList_has _ rfl _ _ rfl mb es rfl HM.out k rfl hk b HW.out ?_) | go_in)
    go_ret2
    exact ⟨rfl, HB0.out⟩
theorem getC (k : K) (h : Ch g mb s es w) (hk : okK k) (hh : s.hits < 4611686018427387904) (hm : s.misses < 4611686018427387904) :
    Calls Try.prog 19 #[pt ⟨g, 0, none⟩, .string k] w fun e w' => e = .returned (.tuple #[.string ((fnd k s.l).getD emp), .bool (fnd k s.l).isSome]) ∧ Rn g mb (getS s k) es w w' := by
  have c1 := h.at1
  have c6 := h.hits
  have c7 := h.misses
  have f6 := h.fz 6
  have f7 := h.fz 7
  have HM : Hid (Mq mb es w) := h.map
  have HH : Hid (Ch g mb s es w) := h
  unfold getS emp
  obtain ⟨x, HX⟩ : ∃ x, Hid (s.hits = x) := ⟨_, rfl⟩
  obtain ⟨y, HY⟩ : ∃ y, Hid (s.misses = y) := ⟨_, rfl⟩
  rw [HX.out] at c6 hh
  rw [HY.out] at c7 hm
  rcases fnd_where h k with ⟨hf, hw⟩ | ⟨i, hi, b, v, he, hw, hf⟩
  · rw [hf]
    have HW : Hid (where1 k es = none) := hw
    have END : Hid (∀ o, Rn g mb { s with misses := s.misses + 1 } es w ((w.setCell ⟨g, 7, none⟩ (.int .i64 ((y : Int) + 1))).alloc o)) := by
      intro o
      have := Rn.below ⟨es, Ch.miss h (y + 1), kp_g _ _, fun x hx => .inl (List.mem_map.2 ⟨x, hx, rfl⟩)⟩ ((Below.refl _ _).alloc (Nat.le_refl _) o)
      rw [HY.out]
      exact this
    clear h hw hf
    unfold pt
    go_enter Try.func19, Try.ntmps19
    go_wp2_with (first | (at_lookup; refine wpList_hasnt _ rfl _ _ rfl mb es rfl HM.out k rfl hk HW.out ?_) | go_in)
    go_ret2
    exact ⟨rfl, END.out _⟩
  · rw [hf]
    have HW : Hid (where1 k es = some b) := hw
    have h1 := Ch.hit h (x + 1)
    have C : Hid (Calls _ _ _ _ _) := useC h1 hi he
    have END : Hid (∀ w2, Ch g mb { s with hits := x + 1, l := (k, v) :: rm k s.l } ((b, k, v) :: rmE k es) w2 ∧ Fx (RP 2 g (es.map (·.1))) (w.setCell ⟨g, 6, none⟩ (.int .i64 ((x + 1 : Nat) : Int))) w2 → w2.cell? ⟨b, 1, none⟩ = some (.string v) ∧ Rn g mb { s with hits := s.hits + 1, l := (k, v) :: rm k s.l } es w w2) := by
      rintro w2 ⟨g1, g2⟩
      refine ⟨g1.kv1 _ List.mem_cons_self, ⟨_, by rw [HX.out]; exact g1, (kp_g _ _).trans (kp_rp g2), fun y hy => .inl ?_⟩⟩
      rcases List.mem_cons.1 hy with rfl | hy
      · exact List.mem_map.2 ⟨_, he ▸ List.getElem_mem hi, rfl⟩
      · exact List.mem_map.2 ⟨_, (mem_rmE.1 hy).1, rfl⟩
    clear h h1 hw hf he
    unfold pt lk at *
    go_enter Try.func19, Try.ntmps19
    go_wp2_with (first | (at_lookup; refine wpList_has _ rfl _ _ rfl mb es rfl HM.out k rfl hk b HW.out ?_) | (go_at_call 37; refine C.out.mono ?_; rintro _ w2 ⟨rfl, h1⟩; obtain ⟨cv, r1⟩ := END.out _ h1; have H1 : Hid (Rn _ _ _ _ _ _) := r1; clear r1 h1) | go_in)
    go_ret2
    exact ⟨rfl, H1.out⟩
end
end Go.Proofs.Ytjkkijeamcihiaa.rg
