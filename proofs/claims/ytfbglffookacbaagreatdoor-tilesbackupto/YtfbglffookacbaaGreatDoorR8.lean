import Derived.Test.YtfbglffookacbaaGreatDoorR7
namespace Go.Proofs.YtfbglffookacbaaGreatDoor.r8
open Go.RowKit Go.PlainAid Go.Shelf
open Go.Proofs.YtfbglffookacbaaGreatDoor.ta Go.Proofs.YtfbglffookacbaaGreatDoor.tb Go.Proofs.YtfbglffookacbaaGreatDoor.tc Go.Proofs.YtfbglffookacbaaGreatDoor.cp Go.Proofs.YtfbglffookacbaaGreatDoor.r2 Go.Proofs.YtfbglffookacbaaGreatDoor.r3 Go.Proofs.YtfbglffookacbaaGreatDoor.r4 Go.Proofs.YtfbglffookacbaaGreatDoor.r5 Go.Proofs.YtfbglffookacbaaGreatDoor.r6 Go.Proofs.YtfbglffookacbaaGreatDoor.r7
set_option linter.unusedVariables false

theorem old_map {w w' : World} {g : Nat} (h : Old w g) (K : ∀ (o : Nat) (v : Value), w.cell? ⟨g, o, none⟩ = some v → w'.cell? ⟨g, o, none⟩ = some v) : Old w' g := ⟨K _ _ h.x0, K _ _ h.x1, K _ _ h.x2, K _ _ h.x3⟩
theorem old_later {w w' : World} {g : Nat} (h : Old w g) (hb : Below w.heap.size w w') : Old w' g := old_map h fun o v hv => (hb.cell (World.block_lt_of_cell? _ _ hv)).trans hv
-- Replace, the first time
set_option maxRecDepth 100000 in
set_option maxHeartbeats 1600000 in
theorem replaceC (b g cap : Nat) (x : Value) (s : ByteArray) (hs : s.size ≤ 2097152) (w : World) (hb : w.heap[b]? = some (.cells (rpCells 0 0 x (.slice (some ⟨g, 0, none⟩) 4 cap)) 101 (0, 0))) (ho : Old w g) (hgb : g ≠ b) :
    Calls Tryz.prog 41 #[.pointer (some ⟨b, 0, none⟩), .string s] w fun e w' => e = .returned (.string (kpB s)) ∧ Below b w w' := by
  have hlt : b < w.heap.size := (Array.getElem?_eq_some_iff.1 hb).1
  have h1 := heap_setCell_same w b 1 _ _ (.int .i32 1) hb
  have O1 : Old (w.setCell ⟨b, 1, none⟩ (.int .i32 1)) g := old_map ho fun o v hv => (World.cell?_setCell_other _ ⟨b, 1, none⟩ ⟨g, o, none⟩ _ (fun e => by injection e with e1; exact hgb e1.symm)).trans hv
  have DC : Hid (Calls _ _ _ _ _) := do_once b (Done (w.setCell ⟨b, 1, none⟩ (.int .i32 1)) b) w (by rw [cell_of_row _ _ _ _ _ _ hb]; rfl) (by rw [cell_of_row _ _ _ _ _ _ hb]; rfl) (frozen_of_row w b 1 _ _ hb)
    (fun w' hd => by
      obtain ⟨r, h, _⟩ := hd.h
      exact ⟨by rw [cell_of_row _ _ _ _ _ _ h]; rfl, by rw [cell_of_row _ _ _ _ _ _ h]; rfl, frozen_of_row w' b 0 _ _ h, frozen_of_row w' b 1 _ _ h⟩)
    (onceC b g cap x _ h1 O1)
  have B1 : Hid (Below b w (w.setCell ⟨b, 1, none⟩ (.int .i32 1))) := (Below.refl _ _).setCell (p := ⟨b, 1, none⟩) (Nat.le_refl _) _
  have S1 : Hid (b < (w.setCell ⟨b, 1, none⟩ (.int .i32 1)).heap.size) := Nat.lt_of_lt_of_le hlt B1.out.size
  have hmf : ∀ (fn : Fn) (first cap : Array Value) (w : World), (Instr.makeFunc fn first cap).run Tryz.prog w = .ok (.func fn first cap) w := fun _ _ _ _ => rfl
  clear h1 O1 hb ho hlt
  go_enter Tryz.func41, Tryz.ntmps41
  go_wp2_with fail
  refine DC.out.mono ?_
  rintro e w1 ⟨rfl, w2, hd, hw1⟩
  obtain ⟨r, h2, hbs⟩ := hd.h
  have h3 := heap_setCell_same w2.drew b 0 _ _ (.int .u32 1) h2
  have h4 := heap_setCell_same _ b 1 _ _ (.int .i32 0) h3
  rw [← hw1] at h4
  have c3 : w1.cell? ⟨b, 3, none⟩ = some (.iface 141 (.pointer (some ⟨r, 0, none⟩))) := by rw [cell_of_row _ _ _ _ _ _ h4]; rfl
  have b1 : Bsr w1 r (w.setCell ⟨b, 1, none⟩ (.int .i32 1)).heap.size := by
    have b0 : Bsr w2.drew r (w.setCell ⟨b, 1, none⟩ (.int .i32 1)).heap.size := hbs.map fun b o v _ hv => hv
    rw [hw1]
    exact (b0.set b 0 _ S1.out).set b 1 _ S1.out
  have BW : Hid (Below b w w1) := by
    rw [hw1]
    exact ((below_dN (B1.out.trans hd.below) 1).setCell (p := ⟨b, 0, none⟩) (Nat.le_refl _) _).setCell (p := ⟨b, 1, none⟩) (Nat.le_refl _) _
  have HBL : Hid (b < w1.heap.size) := (Array.getElem?_eq_some_iff.1 h4).1
  have BS : Hid (Calls _ _ _ _ _) := bsC r _ s hs w1 b1
  clear h2 h3 h4 hd hbs hw1 b1
  go_wp2_with fail
  refine BS.out.mono ?_
  rintro e w3 ⟨rfl, hb3⟩
  have B3 : Hid (Below w1.heap.size w1 w3) := hb3
  clear hb3
  go_wp2
  go_ret
  exact ⟨rfl, BW.out.trans (B3.out.mono (Nat.le_of_lt HBL.out))⟩
def oldX : List ByteArray := [⟨#[120]⟩, ⟨#[]⟩, ⟨#[47]⟩, ⟨#[]⟩]
theorem own_form4 {W : World} {B : Nat} {f : Value} (h : W.ownsRow B 9 1 f 4 (oldX.map Value.string)) : ∃ g cap, f = .slice (some ⟨g, 0, none⟩) 4 cap ∧ B ≤ g ∧ g < W.heap.size ∧ Old W g := by
  obtain ⟨hl, ⟨e, h0⟩ | ⟨g, cap, cur, rfl, hB, hh, h1, h2, h3, h4⟩⟩ := h
  · exact absurd h0 (by decide)
  · have C : ∀ j, j < 4 → W.cell? ⟨g, j, none⟩ = (oldX.map Value.string)[j]? := fun j hj => by
      rw [cell_of_row _ _ _ _ _ _ hh, ← Array.getElem?_toList]
      have h5 := congrArg (fun l : List Value => l[j]?) h4
      simp only [List.getElem?_take] at h5
      rw [if_pos (by omega)] at h5
      exact h5
    exact ⟨g, cap, rfl, hB, (Array.getElem?_eq_some_iff.1 hh).1, ⟨C 0 (by decide), C 1 (by decide), C 2 (by decide), C 3 (by decide)⟩⟩
def NewQ (w : World) (e : Ending) (w' : World) : Prop := ∃ b g' cap, e = .returned (.pointer (some ⟨b, 0, none⟩)) ∧ w.heap.size ≤ b ∧ g' ≠ b ∧ w'.heap[b]? = some (.cells (rpCells 0 0 .nilIface (.slice (some ⟨g', 0, none⟩) 4 cap)) 101 (0, 0)) ∧ Old w' g' ∧ Below w.heap.size w w'
-- NewReplacer("x", "", "/", "")
set_option maxHeartbeats 1600000 in
theorem newC (g : Nat) (w : World) (ho : Old w g) :
    Calls Tryz.prog 40 #[.slice (some ⟨g, 0, none⟩) 4 4] w (NewQ w) := by
  obtain ⟨i9, hi9', hz0, hz1, hz2⟩ := info_parts hi9
  have HIN : Hid (_ ∧ _ ∧ _ ∧ _) := ⟨hi9', hz0, hz1, hz2⟩
  have O0 : Hid (w.ownsRow w.heap.size 9 1 (.slice none 0 0) 0 []) := World.ownsRow_nil _ _ _ _
  have HNW : Hid (∀ (j : Nat) (u : Value), (oldX.map Value.string)[j]? = some u → w.cell? (Addr.add ⟨g, 0, none⟩ j) = some u) := by
    intro j u hj
    rw [Addr.add_mid, Nat.zero_add]
    match j, hj with
    | 0, hj => rw [ho.x0]; exact hj
    | 1, hj => rw [ho.x1]; exact hj
    | 2, hj => rw [ho.x2]; exact hj
    | 3, hj => rw [ho.x3]; exact hj
    | j + 4, hj => cases hj
  have HN1 : Hid (∀ u ∈ oldX.map Value.string, u.oneCell' = true) := by
    intro u hu
    obtain ⟨x, _, rfl⟩ := List.mem_map.1 hu
    rfl
  clear hi9' hz0 hz1 hz2 ho
  go_enter Tryz.func40, Tryz.ntmps40
  go_wp2_with (at_builtin; refine wpList_append_own _ rfl _ _ 40 rfl w.heap.size 9 i9 (.string ByteArray.empty) 1 16 Tryz.underlying40 HIN.out.1 HIN.out.2.1 HIN.out.2.2.1 HIN.out.2.2.2 rfl (by decide) _ 0 _ rfl O0.out ⟨g, 0, none⟩ 4 4 (oldX.map Value.string) rfl rfl HNW.out HN1.out (by unfold maxLen; omega) (by omega) (Nat.le_refl _) ?_; intro f' w3 ho3 hg3 hnn; have HO3 : Hid (w3.ownsRow w.heap.size 9 1 f' 4 (oldX.map Value.string)) := (by have := ho3; rw [Nat.zero_add, List.nil_append] at this; exact this); have HB3 : Hid (Below w.heap.size w w3) := Below.grown (Below.refl _ _) hg3 (Nat.le_refl _) (fun k e => by cases e); clear ho3 hg3 hnn; obtain ⟨g', cap, rfl, hg1, hg2, hol⟩ := own_form4 HO3.out; have HF : Hid (w.heap.size ≤ g' ∧ g' < w3.heap.size ∧ Old w3 g') := ⟨hg1, hg2, hol⟩; clear hg1 hg2 hol)
  go_ret
  have hb : Below w3.heap.size w3 (w3.alloc (.cells (rpCells 0 0 .nilIface (.slice (some ⟨g', 0, none⟩) 4 cap)) 101)) := (Below.refl _ _).alloc (Nat.le_refl _) _
  exact ⟨w3.heap.size, g', cap, rfl, HB3.out.size, by have := HF.out.2.1; omega, heap_alloc_new _ _, old_later HF.out.2.2 hb, HB3.out.trans (hb.mono HB3.out.size)⟩
-- an index's digits alone
set_option maxHeartbeats 1600000 in
theorem ungroupC (s : ByteArray) (hs : s.size ≤ 2097152) (w : World) : Calls Tryz.prog 29 #[.string s] w fun e w' => e = .returned (.string (kpB s)) ∧ Below w.heap.size w w' := by
  obtain ⟨W, HW⟩ : ∃ W, Hid (w.alloc (.cells #[.string ⟨#[120]⟩, .string ⟨#[]⟩, .string ⟨#[47]⟩, .string ⟨#[]⟩] 9) = W) := ⟨_, rfl⟩
  have BW : Hid (Below w.heap.size w W) := by show Below _ _ _; rw [← HW.out]; exact (Below.refl _ _).alloc (Nat.le_refl _) _
  have OW : Old W w.heap.size := by
    rw [← HW.out]
    refine ⟨?_, ?_, ?_, ?_⟩ <;> (rw [World.cell?_alloc_at _ _ _ _ rfl]; rfl)
  have NC : Hid (Calls _ _ _ _ _) := newC w.heap.size W OW
  clear OW
  go_enter Tryz.func29, Tryz.ntmps29
  go_wp2_with fail
  rw [HW.out]
  refine NC.out.mono ?_
  rintro e w1 ⟨b, g', cap, rfl, hb, hne, hh, hol, hbl⟩
  have RC : Hid (Calls _ _ _ _ _) := replaceC b g' cap _ s hs w1 hh hol hne
  have B1 : Hid (Below w.heap.size w w1 ∧ w.heap.size ≤ b) := ⟨BW.out.trans (hbl.mono BW.out.size), Nat.le_trans BW.out.size hb⟩
  clear hb hne hh hol hbl
  go_wp2_with fail
  refine RC.out.mono ?_
  rintro e w2 ⟨rfl, hb2⟩
  have B2 : Hid (Below w.heap.size w w2) := B1.out.1.trans (hb2.mono B1.out.2)
  clear hb2
  go_wp2
  go_ret
  exact ⟨rfl, B2.out⟩
end Go.Proofs.YtfbglffookacbaaGreatDoor.r8
