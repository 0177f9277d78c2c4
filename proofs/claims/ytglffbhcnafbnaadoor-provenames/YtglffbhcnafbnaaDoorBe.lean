import Derived.Test.YtglffbhcnafbnaaDoorBd
import Derived.Test.YtglffbhcnafbnaaDoorBb
namespace Go.Proofs.YtglffbhcnafbnaaDoor.be
open Go.RowKit Go.PlainAid
open Go.Proofs.YtglffbhcnafbnaaDoor.pl Go.Proofs.YtglffbhcnafbnaaDoor.pi Go.Proofs.YtglffbhcnafbnaaDoor.rf Go.Proofs.YtglffbhcnafbnaaDoor.pj Go.Proofs.YtglffbhcnafbnaaDoor.ca Go.Proofs.YtglffbhcnafbnaaDoor.cb Go.Proofs.YtglffbhcnafbnaaDoor.cp Go.Proofs.YtglffbhcnafbnaaDoor.cs Go.Proofs.YtglffbhcnafbnaaDoor.ct Go.Proofs.YtglffbhcnafbnaaDoor.ka Go.Proofs.YtglffbhcnafbnaaDoor.kb Go.Proofs.YtglffbhcnafbnaaDoor.ga Go.Proofs.YtglffbhcnafbnaaDoor.aa Go.Proofs.YtglffbhcnafbnaaDoor.ab Go.Proofs.YtglffbhcnafbnaaDoor.tb Go.Proofs.YtglffbhcnafbnaaDoor.ac Go.Proofs.YtglffbhcnafbnaaDoor.ba Go.Proofs.YtglffbhcnafbnaaDoor.bb Go.Proofs.YtglffbhcnafbnaaDoor.bc Go.Proofs.YtglffbhcnafbnaaDoor.bd
set_option linter.unusedVariables false

section
variable {g : Nat} {fb lb : Array Value} {ask : Nat → Nat × Nat → ByteArray × Int} {J : (Nat → Prop) → List (Nat × Nat) → World → Prop} {N : Nat} {D : Nat → Prop}
-- a proof under way: the reader's box rb, the proof's box pb, its row u
structure Gs (R : Rd g fb lb ask J N D) (wd sz : Int) (F0 : Nat → Prop) (w0 : World) (rb pb base : Nat) (acc : List ByteArray) (l : List (Nat × Nat)) (F : Nat → Prop) (u : Value) (wr : World) : Prop where
  j : J F l wr
  go : Goes F0 w0 F wr
  box0 : wr.cell? ⟨rb, 0, none⟩ = some (.int .i64 wd)
  box1 : wr.cell? ⟨rb, 1, none⟩ = some (.int .i64 sz)
  box2 : wr.cell? ⟨rb, 2, none⟩ = some (.func (.func g) fb lb)
  outR : ¬ F rb
  pbox : wr.heap[pb]? = some (.cells #[u] 28 (0, 0))
  outP : ¬ F pb
  own : wr.ownsRow base 9 1 u acc.length (acc.map Value.string)
  bes : Beside F u
  lts : w0.heap.size ≤ rb ∧ w0.heap.size ≤ pb ∧ rb < base ∧ pb < base ∧ rb ≠ pb ∧ base ≤ wr.heap.size
  bx : ∀ b, D b → b < w0.heap.size
theorem Gs.later {R : Rd g fb lb ask J N D} {wd sz : Int} {F0 : Nat → Prop} {w0 : World} {rb pb base : Nat} {acc : List ByteArray} {l : List (Nat × Nat)} {F : Nat → Prop} {u : Value} {wr w' : World} (h : Gs R wd sz F0 w0 rb pb base acc l F u wr) (hb : Below wr.heap.size wr w') : Gs R wd sz F0 w0 rb pb base acc l F u w' :=
  ⟨R.later h.j hb, h.go.trans (Goes.of_below hb), (hb.cell (World.block_lt_of_cell? _ _ h.box0)).trans h.box0, (hb.cell (World.block_lt_of_cell? _ _ h.box1)).trans h.box1, (hb.cell (World.block_lt_of_cell? _ _ h.box2)).trans h.box2, h.outR,
   (hb.block _ (Array.getElem?_eq_some_iff.1 h.pbox).1).trans h.pbox, h.outP, own_later h.own hb, h.bes, ⟨h.lts.1, h.lts.2.1, h.lts.2.2.1, h.lts.2.2.2.1, h.lts.2.2.2.2.1, Nat.le_trans h.lts.2.2.2.2.2 hb.size⟩, h.bx⟩
-- behind what the reader did
theorem Gs.asked {R : Rd g fb lb ask J N D} {wd sz : Int} {F0 : Nat → Prop} {w0 : World} {rb pb base : Nat} {acc : List ByteArray} {l l' : List (Nat × Nat)} {F F' : Nat → Prop} {u : Value} {wr w' : World} (h : Gs R wd sz F0 w0 rb pb base acc l F u wr) (hj : J F' l' w') (hg : Goes F wr F' w') : Gs R wd sz F0 w0 rb pb base acc l' F' u w' := by
  have hlr := World.block_lt_of_cell? _ _ h.box0
  have hlp := (Array.getElem?_eq_some_iff.1 h.pbox).1
  obtain ⟨o1, o2⟩ := hg.owns h.own h.bes
  exact ⟨hj, h.go.trans hg, hg.cell h.box0 h.outR, hg.cell h.box1 h.outR, hg.cell h.box2 h.outR, hg.out hlr h.outR, (hg.1.block _ hlp h.outP).trans h.pbox, hg.out hlp h.outP, o1, o2, ⟨h.lts.1, h.lts.2.1, h.lts.2.2.1, h.lts.2.2.2.1, h.lts.2.2.2.2.1, Nat.le_trans h.lts.2.2.2.2.2 hg.1.size⟩, h.bx⟩
-- behind an append to the row, which is then laid into its box
theorem Gs.grown {R : Rd g fb lb ask J N D} {wd sz : Int} {F0 : Nat → Prop} {w0 : World} {rb pb base : Nat} {acc : List ByteArray} {l : List (Nat × Nat)} {F : Nat → Prop} {u p' : Value} {wr w5 : World} {x : ByteArray} (h : Gs R wd sz F0 w0 rb pb base acc l F u wr)
    (ho : w5.ownsRow base 9 1 p' (acc.length + 1) (acc.map Value.string ++ [.string x])) (hg : wr.grownBy w5 u.ownBlock) (hat : p'.ownBlock = u.ownBlock ∨ p'.ownBlock = some wr.heap.size) : Gs R wd sz F0 w0 rb pb base (acc ++ [x]) l F p' (w5.setCell ⟨pb, 0, none⟩ p') := by
  obtain ⟨j5, g5, b5⟩ := grow_beside R h.j h.go (by have := h.lts; omega) h.bx h.own h.bes hg hat
  obtain ⟨l1, l2, l3, l4, l5, l6⟩ := h.lts
  have old : ∀ b, b < base → w5.heap[b]? = wr.heap[b]? := fun b hb => hg.block b (by omega) (fun e => by have := (owns_lt h.own e.symm).2; omega)
  have hP5 : w5.heap[pb]? = some (.cells #[u] 28 (0, 0)) := (old pb l4).trans h.pbox
  have K : Kp (fun b => b = pb) w5 (w5.setCell ⟨pb, 0, none⟩ p') := Kp.setCell _ _ _ _ rfl
  have cR : ∀ {o : Nat} {v : Value}, wr.cell? ⟨rb, o, none⟩ = some v → (w5.setCell ⟨pb, 0, none⟩ p').cell? ⟨rb, o, none⟩ = some v := fun {o v} hv => K.cell ((World.cell?_of_block (a := ⟨rb, o, none⟩) (old rb l3)).trans hv) l5
  have hpne : ∀ gg, p'.ownBlock = some gg → gg ≠ pb := by
    intro gg hgg e
    have := (owns_lt ho hgg).2
    omega
  refine ⟨R.keep j5 K (fun b e => ⟨e ▸ h.outP, fun hD => by have := h.bx b hD; omega⟩), ⟨⟨g5.1.os, g5.1.tape, g5.1.output, Nat.le_trans g5.1.size K.size, fun k hk hn => (K.block k (Nat.lt_of_lt_of_le hk g5.1.size) (fun e => by omega)).trans (g5.1.block k hk hn)⟩, g5.2⟩, cR h.box0, cR h.box1, cR h.box2, h.outR, ?_, h.outP, ?_, b5, ⟨l1, l2, l3, l4, l5, ?_⟩, h.bx⟩
  · rw [heap_setCell_same _ _ 0 _ _ p' hP5]; rfl
  · rw [List.length_append, List.map_append]
    exact owns_keep ho (fun gg hgg => K.block gg (owns_lt ho hgg).1 (hpne gg hgg))
  · exact Nat.le_trans l6 (Nat.le_trans hg.size K.size)
-- the blocks that a walk writes
def At (pb : Nat) (F : Nat → Prop) (u : Value) : Nat → Prop := fun b => F b ∨ b = pb ∨ u.ownBlock = some b
theorem at_lift {pb : Nat} {F F' : Nat → Prop} {u : Value} {w w' : World} (h : Goes F w F' w') : Goes (At pb F u) w (At pb F' u) w' := by
  refine ⟨h.1.mono (fun k hk => .inl hk), fun b hb => ?_⟩
  rcases hb with hb | hb
  · exact (h.2 b hb).imp .inl id
  · exact .inl (.inr hb)
theorem Gs.lt {R : Rd g fb lb ask J N D} {wd sz : Int} {F0 : Nat → Prop} {w0 : World} {rb pb base : Nat} {acc : List ByteArray} {l : List (Nat × Nat)} {F : Nat → Prop} {u : Value} {wr : World} (h : Gs R wd sz F0 w0 rb pb base acc l F u wr) : ∀ b, At pb F u b → b < wr.heap.size := by
  rintro b (hb | rfl | hb)
  · exact R.within h.j b hb
  · have := h.lts; omega
  · exact (owns_lt h.own hb).1
theorem at_grown {pb : Nat} {F : Nat → Prop} {u p' : Value} {w w5 : World} (hg : w.grownBy w5 u.ownBlock) (hat : p'.ownBlock = u.ownBlock ∨ p'.ownBlock = some w.heap.size) : Goes (At pb F u) w (At pb F p') (w5.setCell ⟨pb, 0, none⟩ p') := by
  have K : Kp (At pb F u) w5 (w5.setCell ⟨pb, 0, none⟩ p') := Kp.setCell _ _ _ _ (.inr (.inl rfl))
  have K0 : Kp (At pb F u) w w5 := ⟨hg.os, hg.tape, hg.output, hg.size, fun k hk hn => hg.block k hk (fun e => hn (.inr (.inr e.symm)))⟩
  refine ⟨K0.trans K, fun b hb => ?_⟩
  rcases hb with hb | hb | hb
  · exact .inl (.inl hb)
  · exact .inl (.inr (.inl hb))
  · rcases hat with h | h
    · exact .inl (.inr (.inr (h ▸ hb)))
    · rw [h] at hb
      obtain rfl := Option.some.inj hb
      exact .inr (Nat.le_refl _)
set_option maxHeartbeats 1600000 in
theorem put (R : Rd g fb lb ask J N D) (wd sz : Int) (hwd : i64 wd) (F0 : Nat → Prop) (w0 : World) (rb pb base : Nat) (acc : List ByteArray) (l : List (Nat × Nat)) (F : Nat → Prop) (u : Value) (a b : Nat) (hab : a ≤ b) (hb : b ≤ 4611686018427387904) (hN : l.length + 122 ≤ N) (hm : acc.length ≤ 1000000) (w : World) (hG : Gs R wd sz F0 w0 rb pb base acc l F u w) :
    Calls Tryd.prog 67 #[.agg #[.int .i64 a, .int .i64 b], .pointer (some ⟨rb, 0, none⟩), .pointer (some ⟨pb, 0, none⟩)] w fun e w' =>
      e = .returned (.int .i64 (hashP (okw wd) (fow wd) ask l (a, b)).2.1) ∧ ∃ F' u', Gs R wd sz F0 w0 rb pb base (acc ++ [(hashP (okw wd) (fow wd) ask l (a, b)).1]) (hashP (okw wd) (fow wd) ask l (a, b)).2.2 F' u' w' ∧ Goes (At pb F u) w (At pb F' u') w' := by
  have HG : Hid (Gs R wd sz F0 w0 rb pb base acc l F u w) := hG
  have BA : Hid (Below w.heap.size w (w.alloc (.cells #[.int .i64 a, .int .i64 b] 63))) := (Below.refl _ _).alloc (Nat.le_refl _) _
  have HA : Hid (Gs R wd sz F0 w0 rb pb base acc l F u (w.alloc (.cells #[.int .i64 a, .int .i64 b] 63))) := hG.later BA.out
  have C1 : Hid (Calls _ _ _ _ _) := hashC R wd sz hwd F l a b (w.alloc (.cells #[.int .i64 a, .int .i64 b] 63)) hab hb hN HA.out.j
  obtain ⟨hsh, HSH⟩ : ∃ q, Hid (hashP (okw wd) (fow wd) ask l (a, b) = q) := ⟨_, rfl⟩
  rw [HSH.out] at C1 ⊢
  obtain ⟨h, c, l'⟩ := hsh
  unfold rv at C1
  have c0 := HA.out.box0
  have c1 := HA.out.box1
  have c2 := HA.out.box2
  obtain ⟨i9, hi9', hz0, hz1, hz2⟩ := ka.info_parts ka.hi9
  have HIN : Hid (_ ∧ _ ∧ _ ∧ _) := ⟨hi9', hz0, hz1, hz2⟩
  clear hG hi9' hz0 hz1 hz2
  go_enter Tryd.func67, Tryd.ntmps67
  go_wp2_with fail
  refine C1.out.mono ?_
  rintro e w1 ⟨rfl, F1, hj1, hg1⟩
  have H1 : Hid (Gs R wd sz F0 w0 rb pb base acc l' F1 u w1) := HA.out.asked hj1 hg1
  have L1 : Hid (Goes (At pb F u) w (At pb F1 u) w1) := (Goes.of_below BA.out).trans (at_lift hg1)
  have BB : Hid (Below w1.heap.size w1 (w1.alloc (.cells #[.string h] 9))) := (Below.refl _ _).alloc (Nat.le_refl _) _
  have H2 : Hid (Gs R wd sz F0 w0 rb pb base acc l' F1 u (w1.alloc (.cells #[.string h] 9))) := H1.out.later BB.out
  have p1 : w1.cell? ⟨pb, 0, none⟩ = some u := (cell_of_row _ _ _ _ _ _ H1.out.pbox).trans rfl
  have f1 : w1.frozen? ⟨pb, 0, none⟩ = false := frozen_of_row _ _ _ _ _ H1.out.pbox
  clear hj1 hg1 c0 c1 c2
  go_wp2_with (at_builtin; refine wpList_append_own_at _ rfl _ _ 28 rfl base 9 i9 (.string ByteArray.empty) 1 16 Tryd.underlying28 HIN.out.1 HIN.out.2.1 HIN.out.2.2.1 HIN.out.2.2.2 rfl (by decide) _ acc.length _ rfl H2.out.own ⟨w1.heap.size, 0, none⟩ 1 1 [.string h] rfl rfl (new_text _ _ _) (one_text _) (by unfold maxLen; omega) (by omega) H2.out.lts.2.2.2.2.2 ?_; intro p' w5 ho hg hnn hat; obtain ⟨pa, pc, rfl⟩ := own_formS ho; have HX : Hid (Gs R wd sz F0 w0 rb pb base (acc ++ [h]) l' F1 (.slice pa (acc.length + 1) pc) (w5.setCell ⟨pb, 0, none⟩ (.slice pa (acc.length + 1) pc))) := H2.out.grown ho hg hat; have HL5 : Hid (Goes (At pb F u) w (At pb F1 (.slice pa (acc.length + 1) pc)) (w5.setCell ⟨pb, 0, none⟩ (.slice pa (acc.length + 1) pc))) := (L1.out.trans (Goes.of_below BB.out)).trans (at_grown hg hat); have HP5 : Hid (w5.heap[pb]? = some (.cells #[u] 28 (0, 0))) := (hg.block pb (Array.getElem?_eq_some_iff.1 H2.out.pbox).1 (fun e => by have := (owns_lt H2.out.own e.symm).2; have := H2.out.lts; omega)).trans H2.out.pbox; have f5 : w5.frozen? ⟨pb, 0, none⟩ = false := frozen_of_row _ _ _ _ _ HP5.out; have p5 : w5.cell? ⟨pb, 0, none⟩ = some u := (cell_of_row _ _ _ _ _ _ HP5.out).trans rfl; clear ho hg hnn hat)
  go_ret
  exact ⟨rfl, F1, _, HX.out, HL5.out⟩
end
end Go.Proofs.YtglffbhcnafbnaaDoor.be
