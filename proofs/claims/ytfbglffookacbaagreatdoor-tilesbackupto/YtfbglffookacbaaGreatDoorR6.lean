import Derived.Test.YtfbglffookacbaaGreatDoorR5
import Derived.Deep.DeepAppendRoom
import Derived.Laws.EntriesVeiled
namespace Go.Proofs.YtfbglffookacbaaGreatDoor.r6
open Go.RowKit Go.PlainAid Go.Shelf
open Go.Proofs.YtfbglffookacbaaGreatDoor.ta Go.Proofs.YtfbglffookacbaaGreatDoor.tb Go.Proofs.YtfbglffookacbaaGreatDoor.tc Go.Proofs.YtfbglffookacbaaGreatDoor.cp Go.Proofs.YtfbglffookacbaaGreatDoor.r3 Go.Proofs.YtfbglffookacbaaGreatDoor.r4 Go.Proofs.YtfbglffookacbaaGreatDoor.r5
set_option linter.unusedVariables false

structure Rp (w0 wk : World) (l : List Value) (n : Nat) (xs : List ByteArray) : Prop where
  heap : wk.heap[w0.heap.size + 1]? = some (.cells (bc l (.slice (some ⟨w0.heap.size, 0, none⟩) n 2)) 140 (0, 0))
  len : l.length = 256
  own : wk.ownsRow w0.heap.size 9 1 (.slice (some ⟨w0.heap.size, 0, none⟩) n 2) n (xs.map Value.string)
  below : Below w0.heap.size w0 wk
theorem own_l {w w' : World} {B : Nat} {v : Value} {n : Nat} {xs : List Value} (h : w.ownsRow B 9 1 v n xs) (k : ∀ b, v.ownBlock = some b → w'.heap[b]? = w.heap[b]?) : w'.ownsRow B 9 1 v n xs := by
  obtain ⟨hl, ⟨rfl, e⟩ | ⟨g, cap, cur, rfl, hB, hh, h1, h2, h3, h4⟩⟩ := h
  · exact ⟨hl, .inl ⟨rfl, e⟩⟩
  · exact ⟨hl, .inr ⟨g, cap, cur, rfl, hB, (k g rfl).trans hh, h1, h2, h3, h4⟩⟩
theorem Rp.lt {w0 wk : World} {l : List Value} {n : Nat} {xs : List ByteArray} (h : Rp w0 wk l n xs) : w0.heap.size + 1 < wk.heap.size := (Array.getElem?_eq_some_iff.1 h.heap).1
theorem Rp.al {w0 W : World} {l : List Value} {n : Nat} {xs : List ByteArray} (h : Rp w0 W l n xs) (fr : Obj) : Rp w0 (W.alloc fr) l n xs := by
  have hlt := h.lt
  have hB : Below W.heap.size W (W.alloc fr) := (Below.refl W.heap.size W).alloc (Nat.le_refl _) fr
  refine ⟨(hB.block _ hlt).trans h.heap, h.len, own_l h.own (fun b hb => ?_), h.below.alloc h.below.size fr⟩
  have hb' : b = w0.heap.size := by cases hb; rfl
  subst hb'
  exact hB.block _ (by omega)
theorem zB_at (j : Nat) (h : j < 256) : zB[j]? = some (.slice none 0 0) := by
  unfold zB
  rw [List.getElem?_replicate, if_pos h]
theorem zB_set (j k : Nat) (v : Value) (h : j < 256) (hne : k ≠ j) : (zB.set k v)[j]? = some (.slice none 0 0) := by
  rw [List.getElem?_set_ne hne]
  exact zB_at j h
theorem Rp.bsr {w0 W : World} {z z' : Addr} {c c' : Nat} (h : Rp w0 W ((zB.set 47 (.slice (some z) 0 c)).set 120 (.slice (some z') 0 c')) 2 [⟨#[47]⟩, ⟨#[120]⟩]) : Bsr W (w0.heap.size + 1) w0.heap.size := by
  have K : ∀ j, j < 256 → W.cell? ⟨w0.heap.size + 1, j, none⟩ = ((zB.set 47 (.slice (some z) 0 c)).set 120 (.slice (some z') 0 c'))[j]? := fun j hj => by
    rw [cell_of_row _ _ _ _ _ _ h.heap, bc_at _ _ _ (by rw [h.len]; exact hj)]
  refine ⟨Nat.le_succ _, fun b hb => ?_, fun b hb hn => ?_, ?_⟩
  · rcases hb with rfl | rfl
    · refine ⟨z, c, (K 47 (by decide)).trans ?_⟩
      rw [List.getElem?_set_ne (by decide), List.getElem?_set_self (by rw [zB_len]; decide)]
    · refine ⟨z', c', (K 120 (by decide)).trans ?_⟩
      rw [List.getElem?_set_self (by rw [List.length_set, zB_len]; decide)]
  · refine (K b hb).trans ?_
    rw [List.getElem?_set_ne (fun e => hn (.inr e.symm)), List.getElem?_set_ne (fun e => hn (.inl e.symm))]
    exact zB_at b hb
  · obtain ⟨hl, ⟨e, _⟩ | ⟨g, cap, cur, e, hB, hh, h1, h2, h3, h4⟩⟩ := h.own
    · cases e
    · injection e with e1 e2 e3
      injection e1 with e1
      injection e1 with e1 e4
      subst e1
      have C : ∀ j, j < 2 → W.cell? ⟨w0.heap.size, j, none⟩ = ([Value.string ⟨#[47]⟩, Value.string ⟨#[120]⟩] : List Value)[j]? := fun j hj => by
        rw [cell_of_row _ _ _ _ _ _ hh, ← Array.getElem?_toList]
        have h5 := congrArg (fun l : List Value => l[j]?) h4
        simp only [List.getElem?_take] at h5
        rw [if_pos (by omega)] at h5
        exact h5
      exact ⟨w0.heap.size, 2, Nat.le_refl _, by rw [cell_of_row _ _ _ _ _ _ h.heap]; exact bc_last _ _ h.len, C 0 (by decide), C 1 (by decide)⟩
theorem hi9 : (Tryz.prog.info? 9).map (fun i => (i.zero, i.size, i.bytes)) = some (some (.string ByteArray.empty), 1, 16) := by kernel_rfl
theorem new_text (W : World) (u : Value) (t : TypeId) : ∀ (j : Nat) (x : Value), [u][j]? = some x → (W.alloc (.cells #[u] t)).cell? (Addr.add ⟨W.heap.size, 0, none⟩ j) = some x := by
  intro j x hx
  rw [show (Addr.add ⟨W.heap.size, 0, none⟩ j) = ⟨W.heap.size, j, none⟩ by cases j <;> simp [Addr.add], World.cell?_alloc_at _ _ _ _ rfl]
  simpa using hx
theorem one_text (x : ByteArray) : ∀ u ∈ [Value.string x], u.oneCell' = true := by
  intro u hu
  simp only [List.mem_cons, List.not_mem_nil, or_false] at hu
  subst hu
  rfl
theorem Rp.put {w0 W : World} {l : List Value} {n : Nat} {xs : List ByteArray} (h : Rp w0 W l n xs) (fr : Obj) (j : Nat) (hj : j < 256) (x : Value) : Rp w0 (((W.alloc fr).drew).setCell ⟨w0.heap.size + 1, j, none⟩ x) (l.set j x) n xs := by
  have hlt := h.lt
  have e : (W.alloc fr).drew.heap[w0.heap.size + 1]? = some (.cells (bc l (.slice (some ⟨w0.heap.size, 0, none⟩) n 2)) 140 (0, 0)) := by
    show (W.alloc fr).heap[w0.heap.size + 1]? = _
    exact (((Below.refl W.heap.size W).alloc (Nat.le_refl _) fr).block _ hlt).trans h.heap
  have hb : Below w0.heap.size w0 (((W.alloc fr).drew).setCell ⟨w0.heap.size + 1, j, none⟩ x) := (below_dN (h.below.alloc h.below.size fr) 1).setCell (p := ⟨w0.heap.size + 1, j, none⟩) (Nat.le_succ _) x
  refine ⟨?_, by rw [List.length_set]; exact h.len, ?_, hb⟩
  · rw [heap_setCell_same _ _ j _ _ x e, bc_set _ _ _ _ (by rw [h.len]; exact hj)]
  · refine own_l h.own (fun b hb => ?_)
    have hb' : b = w0.heap.size := by cases hb; rfl
    subst hb'
    have k2 : (((W.alloc fr).drew).setCell ⟨w0.heap.size + 1, j, none⟩ x).heap[w0.heap.size]? = ((W.alloc fr).drew).heap[w0.heap.size]? := Below.heap_setCell _ _ _ _ (by show w0.heap.size ≠ w0.heap.size + 1; omega)
    exact k2.trans (((Below.refl W.heap.size W).alloc (Nat.le_refl _) fr).block _ (by omega))
theorem Rp.grow {w0 W2 w5 : World} {l : List Value} {n : Nat} {xs : List ByteArray} {y : ByteArray} (h : Rp w0 W2 l n xs) (ho : w5.ownsRow w0.heap.size 9 1 (.slice (some ⟨w0.heap.size, 0, none⟩) (n + 1) 2) (n + 1) (xs.map Value.string ++ [.string y])) (hg : W2.grownBy w5 (some w0.heap.size)) :
    (w5.heap[w0.heap.size + 1]? = some (.cells (bc l (.slice (some ⟨w0.heap.size, 0, none⟩) n 2)) 140 (0, 0))) ∧ Rp w0 (w5.setCell ⟨w0.heap.size + 1, 256, none⟩ (.slice (some ⟨w0.heap.size, 0, none⟩) (n + 1) 2)) l (n + 1) (xs ++ [y]) := by
  have hlt := h.lt
  have e : w5.heap[w0.heap.size + 1]? = some (.cells (bc l (.slice (some ⟨w0.heap.size, 0, none⟩) n 2)) 140 (0, 0)) := (hg.block _ hlt (fun e => by injection e with e; omega)).trans h.heap
  refine ⟨e, ?_, h.len, ?_, ?_⟩
  · rw [heap_setCell_same _ _ 256 _ _ _ e, bc_put _ _ _ h.len]
  · rw [List.map_append]
    refine own_l ho (fun b hb => ?_)
    have hb' : b = w0.heap.size := by cases hb; rfl
    subst hb'
    exact Below.heap_setCell _ _ _ _ (by show w0.heap.size ≠ w0.heap.size + 1; omega)
  · exact (Below.grown h.below hg h.below.size (fun k e => by injection e with e; omega)).setCell (p := ⟨w0.heap.size + 1, 256, none⟩) (Nat.le_succ _) _
theorem Rp.start (w0 : World) (X : Obj) (hX : X = .cells #[.string ByteArray.empty, .string ByteArray.empty] 9) : Rp w0 ((w0.alloc X).alloc (.cells (bc zB (.slice (some ⟨w0.heap.size, 0, none⟩) 0 2)) 140)) zB 0 [] := by
  subst hX
  refine ⟨two_new _ _ _ _, zB_len, ⟨rfl, .inr ⟨w0.heap.size, 2, #[.string ByteArray.empty, .string ByteArray.empty], rfl, Nat.le_refl _, ?_, by decide, by decide, rfl, rfl⟩⟩, ((Below.refl _ _).alloc (Nat.le_refl _) _).alloc (by simp) _⟩
  exact ((Below.refl (w0.heap.size + 1) _).alloc (by simp) _).block _ (Nat.lt_succ_self _) |>.trans (heap_alloc_new _ _)
set_option maxRecDepth 100000 in
set_option maxHeartbeats 3200000 in
theorem buildC (b g cap : Nat) (w : World) (h4 : w.cell? ⟨b, 4, none⟩ = some (.slice (some ⟨g, 0, none⟩) 4 cap)) (x0 : w.cell? ⟨g, 0, none⟩ = some (.string ⟨#[120]⟩)) (x1 : w.cell? ⟨g, 1, none⟩ = some (.string ⟨#[]⟩)) (x2 : w.cell? ⟨g, 2, none⟩ = some (.string ⟨#[47]⟩)) (x3 : w.cell? ⟨g, 3, none⟩ = some (.string ⟨#[]⟩)) :
    Calls Tryz.prog 77 #[.pointer (some ⟨b, 0, none⟩)] w fun e w' => ∃ r, e = .returned (.iface 141 (.pointer (some ⟨r, 0, none⟩))) ∧ w.heap.size ≤ r ∧ Bsr w' r w.heap.size ∧ Below w.heap.size w w' := by
  have hgc := get_bt ⟨#[47]⟩
  have hgd := get_bt ⟨#[120]⟩
  have hb47 : bt ⟨#[47]⟩ 0 = 47 := rfl
  have hb120 : bt ⟨#[120]⟩ 0 = 120 := rfl
  have hmk := make2
  have hen := eqN
  go_enter Tryz.func77, Tryz.ntmps77
  go_wp2
  go_loopw [5, 4] (fun i ch wr => wr = w ∧ ((i = .int .i64 0 ∧ ch = .bool true) ∨ (i = .int .i64 2 ∧ ch = .bool false) ∨ (i = .int .i64 4 ∧ ch = .bool false))) (fun i _ _ => (4 - intOf i).toNat)
  case atStart => exact ⟨rfl, .inl ⟨rfl, rfl⟩⟩
  case round =>
    obtain ⟨rfl, ⟨rfl, rfl⟩ | ⟨rfl, rfl⟩ | ⟨rfl, rfl⟩⟩ := hrel
    · go_wp2
      go_roundw
      case rel => exact ⟨trivial, .inr (.inl ⟨by go_num, rfl⟩)⟩
      case measure => simp [intOf]
    · go_wp2
      go_roundw
      case rel => exact ⟨trivial, .inr (.inr ⟨by go_num, rfl⟩)⟩
      case measure => simp [intOf]
    · rename World => Wo
      obtain ⟨i9, hi9', hz0, hz1, hz2⟩ := info_parts hi9
      have HIN : Hid (_ ∧ _ ∧ _ ∧ _) := ⟨hi9', hz0, hz1, hz2⟩
      clear hi9' hz0 hz1 hz2
      go_upto_region 26 with fail
      go_upto_region 27 with (first | (refine wpList_build257 rfl (.tmp 94) rfl ⟨Wo.heap.size, 0, none⟩ 0 2 rfl ?_) | (refine wpList_alloc rfl 140 rfl _ _ (alloc257 _) ?_) | (refine wpList_store257 rfl (.tmp 11) (.tmp 95) rfl ⟨Wo.heap.size, 0, none⟩ 0 2 _ (by rfl) (by first | rfl | simp) (by rfl) ?_))
      obtain ⟨V, HV⟩ : ∃ V, Hid ((Wo.alloc (.cells #[.string ByteArray.empty, .string ByteArray.empty] 9)).alloc (.cells (bc zB (.slice (some ⟨Wo.heap.size, 0, none⟩) 0 2)) 140) = V) := ⟨_, rfl⟩
      have BV : Hid (Below Wo.heap.size Wo V) := by show Below _ _ _; rw [← HV.out]; exact ((Below.refl _ _).alloc (Nat.le_refl _) _).alloc (by simp) _
      rw [HV.out]
      go_wp2
      go_loopw [12] (fun i wk => (i = .int .i64 2 ∧ Hid (Rp Wo wk zB 0 [])) ∨ (i = .int .i64 0 ∧ ∃ z c, Hid (Rp Wo wk (zB.set 47 (.slice (some z) 0 c)) 1 [⟨#[47]⟩])) ∨ (i = .int .i64 (-2) ∧ ∃ z c z' c', Hid (Rp Wo wk ((zB.set 47 (.slice (some z) 0 c)).set 120 (.slice (some z') 0 c')) 2 [⟨#[47]⟩, ⟨#[120]⟩]))) (fun i _ => (intOf i + 4).toNat)
      case atStart => exact .inl ⟨rfl, by rw [← HV.out]; exact Rp.start Wo _ rfl⟩
      case round =>
        obtain ⟨rfl, HP⟩ | ⟨rfl, z, c, HP⟩ | ⟨rfl, z, c, z', c', HP⟩ := hrel
        ·
          have y2 := (HP.out.below.cell (World.block_lt_of_cell? _ _ x2)).trans x2
          have y3 := (HP.out.below.cell (World.block_lt_of_cell? _ _ x3)).trans x3
          have k256 : wr.cell? ⟨Wo.heap.size + 1, 256, none⟩ = some (.slice (some ⟨Wo.heap.size, 0, none⟩) 0 2) := by rw [cell_of_row _ _ _ _ _ _ HP.out.heap]; exact bc_last _ _ HP.out.len
          have kB : wr.cell? ⟨Wo.heap.size + 1, 47, none⟩ = some (.slice none 0 0) := by rw [cell_of_row _ _ _ _ _ _ HP.out.heap, bc_at _ _ _ (by rw [HP.out.len]; decide)]; exact zB_at 47 (by decide)
          have hc1 : (convert 51 9 (.slice (some ⟨wr.heap.size, 0, none⟩) 1 1)).run Tryz.prog (wr.alloc (.cells #[.int .u8 47] 5)) = .ok (.string ⟨#[47]⟩) (wr.alloc (.cells #[.int .u8 47] 5)) := conv1 _ _ 47 (by rw [World.cell?_alloc_at _ _ _ _ rfl]; rfl)
          have HA : Hid (Rp Wo ((wr.alloc (.cells #[.int .u8 47] 5)).alloc (.cells #[.string ⟨#[47]⟩] 9)) zB 0 []) := (HP.out.al _).al _
          have HNW : Hid (∀ (j : Nat) (u : Value), [Value.string ⟨#[47]⟩][j]? = some u → ((wr.alloc (.cells #[.int .u8 47] 5)).alloc (.cells #[.string ⟨#[47]⟩] 9)).cell? (Addr.add ⟨wr.heap.size + 1, 0, none⟩ j) = some u) := by
            intro j u hj
            rw [← World.size_alloc wr (.cells #[.int .u8 47] 5)]
            exact new_text _ _ _ j u hj
          go_upto_region 34 with (at_builtin; refine wpList_append_own_spare _ rfl _ _ 40 rfl Wo.heap.size 9 i9 1 Tryz.underlying40 HIN.out.1 HIN.out.2.2.1 Wo.heap.size 0 2 _ rfl HA.out.own ⟨wr.heap.size + 1, 0, none⟩ 1 1 [.string ⟨#[47]⟩] rfl rfl HNW.out (one_text _) (by omega) ?_; intro w5 ho hg; have HG : Hid (_ ∧ _) := HA.out.grow ho hg; have c5 : w5.cell? ⟨Wo.heap.size + 1, 256, none⟩ = some (.slice (some ⟨Wo.heap.size, 0, none⟩) 0 2) := (by rw [cell_of_row _ _ _ _ _ _ HG.out.1]; exact bc_last _ _ HP.out.len); have f5 := frozen_of_row w5 (Wo.heap.size + 1) 256 _ _ HG.out.1; clear ho hg)
          go_simp
          obtain ⟨W6, HW6⟩ : ∃ W6, Hid (w5.setCell ⟨Wo.heap.size + 1, 256, none⟩ (.slice (some ⟨Wo.heap.size, 0, none⟩) (0 + 1) 2) = W6) := ⟨_, rfl⟩
          have H6 : Hid (Rp Wo W6 zB (0 + 1) [⟨#[47]⟩]) := by rw [← HW6.out]; exact HG.out.2
          rw [HW6.out]
          clear HG c5 f5 y2 y3 k256 kB hc1
          obtain ⟨ce, fr, he⟩ := empty_bytes W6
          have cN : (W6.alloc fr).cell? ⟨Wo.heap.size + 1, 47, none⟩ = some (.slice none 0 0) := by rw [cell_of_row _ _ _ _ _ _ (H6.out.al fr).heap, bc_at _ _ _ (by rw [H6.out.len]; decide)]; exact zB_at 47 (by decide)
          have fN := frozen_of_row (W6.alloc fr) (Wo.heap.size + 1) 47 _ _ (H6.out.al fr).heap
          go_wp2
          go_roundw
          case rel => exact .inr (.inl ⟨by go_num, _, _, H6.out.put fr 47 (by decide) _⟩)
          case measure => simp [intOf]
        ·
          have y2 := (HP.out.below.cell (World.block_lt_of_cell? _ _ x0)).trans x0
          have y3 := (HP.out.below.cell (World.block_lt_of_cell? _ _ x1)).trans x1
          have k256 : wr.cell? ⟨Wo.heap.size + 1, 256, none⟩ = some (.slice (some ⟨Wo.heap.size, 0, none⟩) 1 2) := by rw [cell_of_row _ _ _ _ _ _ HP.out.heap]; exact bc_last _ _ HP.out.len
          have kB : wr.cell? ⟨Wo.heap.size + 1, 120, none⟩ = some (.slice none 0 0) := by rw [cell_of_row _ _ _ _ _ _ HP.out.heap, bc_at _ _ _ (by rw [HP.out.len]; decide)]; exact zB_set 120 47 _ (by decide) (by decide)
          have hc1 : (convert 51 9 (.slice (some ⟨wr.heap.size, 0, none⟩) 1 1)).run Tryz.prog (wr.alloc (.cells #[.int .u8 120] 5)) = .ok (.string ⟨#[120]⟩) (wr.alloc (.cells #[.int .u8 120] 5)) := conv1 _ _ 120 (by rw [World.cell?_alloc_at _ _ _ _ rfl]; rfl)
          have HA : Hid (Rp Wo ((wr.alloc (.cells #[.int .u8 120] 5)).alloc (.cells #[.string ⟨#[120]⟩] 9)) (zB.set 47 (.slice (some z) 0 c)) 1 [⟨#[47]⟩]) := (HP.out.al _).al _
          have HNW : Hid (∀ (j : Nat) (u : Value), [Value.string ⟨#[120]⟩][j]? = some u → ((wr.alloc (.cells #[.int .u8 120] 5)).alloc (.cells #[.string ⟨#[120]⟩] 9)).cell? (Addr.add ⟨wr.heap.size + 1, 0, none⟩ j) = some u) := by
            intro j u hj
            rw [← World.size_alloc wr (.cells #[.int .u8 120] 5)]
            exact new_text _ _ _ j u hj
          go_upto_region 34 with (at_builtin; refine wpList_append_own_spare _ rfl _ _ 40 rfl Wo.heap.size 9 i9 1 Tryz.underlying40 HIN.out.1 HIN.out.2.2.1 Wo.heap.size 1 2 _ rfl HA.out.own ⟨wr.heap.size + 1, 0, none⟩ 1 1 [.string ⟨#[120]⟩] rfl rfl HNW.out (one_text _) (by omega) ?_; intro w5 ho hg; have HG : Hid (_ ∧ _) := HA.out.grow ho hg; have c5 : w5.cell? ⟨Wo.heap.size + 1, 256, none⟩ = some (.slice (some ⟨Wo.heap.size, 0, none⟩) 1 2) := (by rw [cell_of_row _ _ _ _ _ _ HG.out.1]; exact bc_last _ _ HP.out.len); have f5 := frozen_of_row w5 (Wo.heap.size + 1) 256 _ _ HG.out.1; clear ho hg)
          go_simp
          obtain ⟨W6, HW6⟩ : ∃ W6, Hid (w5.setCell ⟨Wo.heap.size + 1, 256, none⟩ (.slice (some ⟨Wo.heap.size, 0, none⟩) (1 + 1) 2) = W6) := ⟨_, rfl⟩
          have H6 : Hid (Rp Wo W6 (zB.set 47 (.slice (some z) 0 c)) (1 + 1) [⟨#[47]⟩, ⟨#[120]⟩]) := by rw [← HW6.out]; exact HG.out.2
          rw [HW6.out]
          clear HG c5 f5 y2 y3 k256 kB hc1
          obtain ⟨ce, fr, he⟩ := empty_bytes W6
          have cN : (W6.alloc fr).cell? ⟨Wo.heap.size + 1, 120, none⟩ = some (.slice none 0 0) := by rw [cell_of_row _ _ _ _ _ _ (H6.out.al fr).heap, bc_at _ _ _ (by rw [H6.out.len]; decide)]; exact zB_set 120 47 _ (by decide) (by decide)
          have fN := frozen_of_row (W6.alloc fr) (Wo.heap.size + 1) 120 _ _ (H6.out.al fr).heap
          go_wp2
          go_roundw
          case rel => exact .inr (.inr ⟨by go_num, _, _, _, _, H6.out.put fr 120 (by decide) _⟩)
          case measure => simp [intOf]
        · go_wp2
          go_ret
          exact ⟨Wo.heap.size + 1, rfl, Nat.le_succ _, HP.out.bsr, HP.out.below⟩
end Go.Proofs.YtfbglffookacbaaGreatDoor.r6
