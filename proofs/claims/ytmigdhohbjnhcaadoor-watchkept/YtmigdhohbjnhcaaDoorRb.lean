import Derived.Test.YtmigdhohbjnhcaaDoorRa
import Derived.Deep.WholeRow
namespace Go.Proofs.YtmigdhohbjnhcaaDoor.rb
open Go.RowKit Go.PlainAid
open Go.Proofs.YtmigdhohbjnhcaaDoor.ra Go.Proofs.YtmigdhohbjnhcaaDoor.pl
set_option linter.unusedVariables false

theorem rotrZ (x N : Int) (w : World) (h0 : 0 ≤ x) (h1 : x < 4294967296) (hn : 1 ≤ N) (hn' : N ≤ 31) :
    Calls Tryd.prog 35 #[.int .u32 x, .int .u64 N] w fun e w' => e = .returned (.int .u32 (ROT x N.toNat)) ∧ w' = w := by
  obtain ⟨n, rfl⟩ := Int.eq_ofNat_of_zero_le (show 0 ≤ N by omega)
  exact rotr x n w h0 h1 (by omega) (by omega)

theorem size40 (s : St) : (Tryd.prog.info? 51).map (·.size) = some s.cells.size := by
  have h : (Tryd.prog.info? 51).map (·.size) = some 8 := by kernel_rfl
  exact h

theorem store8 {ops : Array Oper} {rest : List Oper} {o : Oper} {a : Act} {w : World} {Q : Exit → Act → World → Prop} (hgd : o.guard = none) (ho : o.op = .store 51 (.tmp 8) (.tmp 98)) (g : Nat) (Y X : St)
    (hx : a.eval (.tmp 8) = .pointer (some ⟨g, 0, none⟩)) (hy : a.eval (.tmp 98) = .agg Y.cells) (hg : w.heap[g]? = some (.cells X.cells 51 (0, 0)))
    (h : wpList Tryd.prog ops Q rest (a.put o.dst undef) (w.setRow g Y.cells)) : wpList Tryd.prog ops Q (o :: rest) a w :=
  wpList_store_row hgd 51 _ _ ho g Y.cells hx hy 51 X.cells hg (size40 Y) rfl (by simp [St.cells, Value.oneCell']) h

structure Lay (w w1 : World) (WL V X : Array Value) (wr : World) : Prop where
  lx : wr.heap[w1.heap.size + 1]? = some (.cells X 51 (0, 0))
  lw : wr.heap[w1.heap.size]? = some (.cells WL 64 (0, 0))
  lv : wr.heap[w.heap.size]? = some (.cells V 51 (0, 0))
  lr : wr.heap[w.heap.size + 1]? = some (.cells #[.int .u32 0, .int .u32 0, .int .u32 0, .int .u32 0, .int .u32 0, .int .u32 0, .int .u32 0, .int .u32 0] 51 (0, 0))
  lb : Below w.heap.size w wr

set_option maxHeartbeats 800000 in
set_option maxRecDepth 100000 in
theorem block (v : St) (B off len cap p : Nat) (g kk : Nat → Int) (w : World) (hp : p + 63 < len) (hl : len ≤ 140737488355328) (hv : v.ok) (HB : Hid (Bytes w B off len g)) (HK : Hid (∀ j, j < 64 → w.cell? ⟨2, j, none⟩ = some (.int .u32 (kk j)))) :
    Calls Tryd.prog 25 #[.agg v.cells, .slice (some ⟨B, off, none⟩) len cap, .int .i64 p] w fun e w' => e = .returned (.agg (blockF kk g p v).cells) ∧ Below w.heap.size w w' := by
  obtain ⟨v0, v1, v2, v3, v4, v5, v6, v7⟩ := v
  show Calls Tryd.prog 25 #[.agg #[.int .u32 v0, .int .u32 v1, .int .u32 v2, .int .u32 v3, .int .u32 v4, .int .u32 v5, .int .u32 v6, .int .u32 v7], .slice (some ⟨B, off, none⟩) len cap, .int .i64 p] w _
  go_enter Tryd.func25, Tryd.ntmps25
  go_wp2_with fail
  refine (schedule B off len cap p g _ hp hl ?_).mono ?_
  · obtain ⟨h1, h2⟩ := HB.out
    refine ⟨by simp; omega, fun j hj => ⟨?_, (h2 j hj).2⟩⟩
    rw [World.cell?_alloc_lt _ _ _ (by simp; omega), World.cell?_alloc_lt _ _ _ h1]
    exact (h2 j hj).1
  rintro e w1 ⟨rfl, hb⟩
  have hV1 := (hb.block w.heap.size (by simp; omega)).trans (heap_alloc2_old w _ _)
  have hR1 := (hb.block (w.heap.size + 1) (by simp)).trans (heap_alloc2_new w _ _)
  have hs1 : w.heap.size + 2 ≤ w1.heap.size := by have := hb.size; simp at this; omega
  have hbel : Below w.heap.size w w1 := (((Below.refl _ _).alloc (Nat.le_refl _) _).alloc (by simp) _).trans (hb.mono (by simp; omega))
  have HV1 : Hid _ := hV1
  have HR1 : Hid _ := hR1
  have HL : Hid (Below w.heap.size w w1) := hbel
  clear hV1 hR1 hb hbel
  have hlen : (row32 (wL g p 64)).size = 64 := by rw [row32_size, wL_length]
  have HI : Hid ((Tryd.prog.info? 64).map (·.size) = some (row32 (wL g p 64)).size) := by show _ = _; rw [hlen]; kernel_rfl
  have H3 : Hid ((row32 (wL g p 64)).all (·.oneCell') = true) := by show _ = _; simp [row32, Value.oneCell']
  have H4 : Hid (64 = (row32 (wL g p 64)).size) := by show _ = _; rw [hlen]
  clear hlen
  obtain ⟨x, HWX⟩ : ∃ x : Nat → Int, Hid (∀ j, j < 64 → x j = (wL g p 64).getD j 0) := ⟨fun j => (wL g p 64).getD j 0, fun _ _ => rfl⟩
  have HWL : Hid (∀ j, j < 64 → (row32 (wL g p 64))[j]? = some (.int .u32 (x j))) := fun j hj => by
    rw [row32_get, List.getElem?_eq_getElem (by rw [wL_length]; exact hj), HWX.out j hj, List.getD, List.getElem?_eq_getElem (by rw [wL_length]; exact hj)]
    rfl
  generalize row32 (wL g p 64) = WL at *
  have HW : Hid ((w1.alloc (.cells WL 64)).heap[w.heap.size]? = some (.cells #[.int .u32 v0, .int .u32 v1, .int .u32 v2, .int .u32 v3, .int .u32 v4, .int .u32 v5, .int .u32 v6, .int .u32 v7] 51 (0, 0))) := (heap_alloc_old w1 _ (by omega)).trans HV1.out
  have H40 : Hid ((Tryd.prog.info? 51).map (·.size) = some 8) := by show _ = _; kernel_rfl
  go_wp2_with (first | (refine wpList_store_row rfl 64 (.tmp 7) (.tmp 17) rfl w1.heap.size WL rfl rfl 64 _ (heap_alloc_new w1 _) HI.out H4.out H3.out ?_; rw [World.setRow_alloc_new]) | (refine wpList_load_row rfl 51 (.tmp 3) rfl w.heap.size rfl 51 #[.int .u32 v0, .int .u32 v1, .int .u32 v2, .int .u32 v3, .int .u32 v4, .int .u32 v5, .int .u32 v6, .int .u32 v7] (0, 0) _ HW.out Tryd.underlying51 rfl H40.out ?_))
  clear HW
  go_loopw [9] (fun i wr => ∃ (t : Nat) (s : St), t ≤ 64 ∧ i = .int .i64 t ∧ s = rnds kk x ⟨v0, v1, v2, v3, v4, v5, v6, v7⟩ t ∧ Lay w w1 WL #[.int .u32 v0, .int .u32 v1, .int .u32 v2, .int .u32 v3, .int .u32 v4, .int .u32 v5, .int .u32 v6, .int .u32 v7] s.cells wr ∧ s.ok) (fun i _ => (64 - intOf i).toNat)
  case atStart =>
    refine ⟨0, ⟨v0, v1, v2, v3, v4, v5, v6, v7⟩, by omega, rfl, rfl, ⟨?_, ?_, ?_, ?_, ?_⟩, hv⟩
    · exact heap_alloc2_new w1 _ _
    · exact heap_alloc2_old w1 _ _
    · rw [heap_alloc_old _ _ (by simp; omega), heap_alloc_old _ _ (by omega)]; exact HV1.out
    · rw [heap_alloc_old _ _ (by simp; omega), heap_alloc_old _ _ (by omega)]; exact HR1.out
    · exact ((HL.out.alloc (by omega) _).alloc (by simp; omega) _)
  case round =>
    obtain ⟨t, ⟨a, b, c, d, e, f, g', h'⟩, ht, rfl, hS, lay, ok⟩ := hrel
    have HS : Hid _ := hS
    have OK : Hid (St.ok _) := ok
    clear hS
    obtain ⟨lx, lw, lv, lr, lb⟩ := lay
    obtain ⟨⟨ha0, ha1⟩, ⟨hb0, hb1⟩, ⟨hc0, hc1⟩, ⟨hd0, hd1⟩, ⟨he0, he1⟩, ⟨hf0, hf1⟩, ⟨hg0, hg1⟩, ⟨hh0, hh1⟩⟩ := ok
    simp only at ha0 ha1 hb0 hb1 hc0 hc1 hd0 hd1 he0 he1 hf0 hf1 hg0 hg1 hh0 hh1
    have LX : Hid _ := lx; have LW : Hid _ := lw; have LV : Hid _ := lv; have LR : Hid _ := lr; have LB : Hid (Below _ _ _) := lb
    clear lx lw lv lr lb
    have X0 : wr.cell? ⟨w1.heap.size + 1, 0, none⟩ = some (.int .u32 a) := cell_of_row _ _ _ _ _ _ LX.out
    have X1 : wr.cell? ⟨w1.heap.size + 1, 1, none⟩ = some (.int .u32 b) := cell_of_row _ _ _ _ _ _ LX.out
    have X2 : wr.cell? ⟨w1.heap.size + 1, 2, none⟩ = some (.int .u32 c) := cell_of_row _ _ _ _ _ _ LX.out
    have X3 : wr.cell? ⟨w1.heap.size + 1, 3, none⟩ = some (.int .u32 d) := cell_of_row _ _ _ _ _ _ LX.out
    have X4 : wr.cell? ⟨w1.heap.size + 1, 4, none⟩ = some (.int .u32 e) := cell_of_row _ _ _ _ _ _ LX.out
    have X5 : wr.cell? ⟨w1.heap.size + 1, 5, none⟩ = some (.int .u32 f) := cell_of_row _ _ _ _ _ _ LX.out
    have X6 : wr.cell? ⟨w1.heap.size + 1, 6, none⟩ = some (.int .u32 g') := cell_of_row _ _ _ _ _ _ LX.out
    have X7 : wr.cell? ⟨w1.heap.size + 1, 7, none⟩ = some (.int .u32 h') := cell_of_row _ _ _ _ _ _ LX.out
    have hsg : IntKind.u32.signed = false := rfl
    by_cases hlt : t < 64
    · have hlt' : (t : Int) < 64 := by omega
      have hkt : wr.cell? ⟨2, t, none⟩ = some (.int .u32 (kk t)) := by
        have h1 := HK.out t hlt
        rw [← h1]
        exact LB.out.cell (block_lt_of_cell h1)
      have hwt : wr.cell? ⟨w1.heap.size, t, none⟩ = some (.int .u32 (x t)) := by
        rw [cell_of_row _ _ _ _ _ _ LW.out]; exact HWL.out t hlt
      go_wp2_with fail
      go_quiet ((go_at_call 35; exact Calls.quiet_of_same (rotrZ _ _ _ (by assumption) (by assumption) (by omega) (by omega))))
      generalize hW2 : wr.drewN nq = wr2
      have hc2 : ∀ a, wr2.cell? a = wr.cell? a := fun a => by subst hW2; rfl
      have HH2 : Hid (wr2.heap = wr.heap) := show _ = _ by subst hW2; rfl
      have HB2 : Hid (Below w.heap.size w wr2) := show Below _ _ _ from by subst hW2; exact below_drewN LB.out nq
      clear hW2
      go_wp2_with fail
      go_quiet ((go_at_call 35; exact Calls.quiet_of_same (rotrZ _ _ _ (by assumption) (by assumption) (by omega) (by omega))))
      generalize hW3 : wr2.drewN nq = wr3
      have hc3 : ∀ a, wr3.cell? a = wr.cell? a := fun a => by subst hW3; exact hc2 a
      have HH3 : Hid (wr3.heap = wr.heap) := show _ = _ by subst hW3; exact HH2.out
      have HB3 : Hid (Below w.heap.size w wr3) := show Below _ _ _ from by subst hW3; exact below_drewN HB2.out nq
      clear hW3 hc2 HH2 HB2
      have LX3 : Hid (wr3.heap[w1.heap.size + 1]? = some (.cells (St.mk a b c d e f g' h').cells 51 (0, 0))) := by show _ = _; rw [HH3.out]; exact LX.out
      generalize hT2 : (bits .xor .u32 (bits .xor .u32 (ROT a 2) (ROT a 13)) (ROT a 22) + bits .xor .u32 (bits .xor .u32 (bits .and .u32 a b) (bits .and .u32 a c)) (bits .and .u32 b c)) % 4294967296 = T2
      have HT2 : Hid _ := hT2
      clear hT2
      go_wp2_with (refine store8 rfl rfl (w1.heap.size + 1) ⟨_, a, b, c, _, e, f, g'⟩ ⟨a, b, c, d, e, f, g', h'⟩ rfl rfl LX3.out ?_)
      go_roundw
      case rel =>
        have hT2 := HT2.out
        subst hT2
        have e1 : rnds kk x ⟨v0, v1, v2, v3, v4, v5, v6, v7⟩ (t + 1) = rnd ⟨a, b, c, d, e, f, g', h'⟩ (kk t) (x t) := by
          show rnd _ _ _ = _
          rw [← HS.out]
        refine ⟨t + 1, rnd ⟨a, b, c, d, e, f, g', h'⟩ (kk t) (x t), by omega, by go_num, e1.symm, ⟨?_, ?_, ?_, ?_, ?_⟩, rnd_ok _ _ _ OK.out⟩
        · exact setRow_heap _ _ _ _ _ _ LX3.out
        · rw [setRow_other _ _ _ _ (by omega), HH3.out]; exact LW.out
        · rw [setRow_other _ _ _ _ (by omega), HH3.out]; exact LV.out
        · rw [setRow_other _ _ _ _ (by omega), HH3.out]; exact LR.out
        · exact below_setRow HB3.out (by omega) _
      case measure => simp [intOf]; omega
    · have hlt' : ¬ (t : Int) < 64 := by omega
      obtain rfl : t = 64 := by omega
      clear X0 X1 X2 X3 X4 X5 X6 X7
      have HV : Hid (wr.heap[w.heap.size]? = some (.cells (row32 (addL (St.mk v0 v1 v2 v3 v4 v5 v6 v7).list (St.mk a b c d e f g' h').list 0)) 51 (0, 0))) := LV.out
      generalize hVV : St.mk v0 v1 v2 v3 v4 v5 v6 v7 = VV at *
      generalize hXX : St.mk a b c d e f g' h' = XX at *
      go_wp2_with fail
      go_loopw [14] (fun i wq => ∃ k : Nat, k ≤ 8 ∧ i = .int .i64 k ∧ Lay w w1 WL (row32 (addL VV.list XX.list k)) XX.cells wq) (fun i _ => (8 - intOf i).toNat)
      case atStart => exact ⟨0, by omega, rfl, ⟨LX.out, LW.out, HV.out, LR.out, LB.out⟩⟩
      case round =>
        obtain ⟨k, hk, rfl, lay⟩ := hrel
        have LAY : Hid (Lay _ _ _ _ _ _) := lay
        clear lay
        by_cases hk8 : k < 8
        · have hk8' : (k : Int) < 8 := by omega
          have C1 : wr.cell? ⟨w.heap.size, k, none⟩ = some (.int .u32 (VV.list.getD k 0)) := by
            rw [cell_of_row _ _ _ _ _ _ LAY.out.lv, row32_get, addL_get VV XX k hk8]; rfl
          have C2 : wr.cell? ⟨w1.heap.size + 1, k, none⟩ = some (.int .u32 (XX.list.getD k 0)) := by
            rw [cell_of_row _ _ _ _ _ _ LAY.out.lx, St.get XX k hk8]
          have F1 : wr.frozen? ⟨w.heap.size, k, none⟩ = false := frozen_of_row _ _ _ _ _ LAY.out.lv
          have HA : Hid _ := addL_set VV XX k hk8
          revert HA C1 C2
          generalize VV.list.getD k 0 = vk
          generalize XX.list.getD k 0 = xk
          intro C1 C2 HA
          go_wp2_with fail
          go_region
          go_wp2
          go_roundw
          case rel =>
            refine ⟨k + 1, by omega, by go_num, ⟨?_, ?_, ?_, ?_, ?_⟩⟩
            · rw [heap_drew, heap_setCell_other _ _ _ _ (by simp; omega)]; exact LAY.out.lx
            · rw [heap_drew, heap_setCell_other _ _ _ _ (by simp; omega)]; exact LAY.out.lw
            · rw [heap_drew, heap_setCell_same _ _ _ _ _ _ LAY.out.lv, row32_set, HA.out]
            · rw [heap_drew, heap_setCell_other _ _ _ _ (by simp)]; exact LAY.out.lr
            · exact (LAY.out.lb.setCell (by simp) _).drew
          case measure => simp [intOf]; omega
        · have hk8' : ¬ (k : Int) < 8 := by omega
          obtain rfl : k = 8 := by omega
          have hlen : (row32 (addL VV.list XX.list 8)).size = 8 := by rw [row32_size, addL_length VV XX 8 (by omega)]
          have HI8 : Hid ((Tryd.prog.info? 51).map (·.size) = some (row32 (addL VV.list XX.list 8)).size) := by show _ = _; rw [hlen]; exact H40.out
          have HO8 : Hid ((row32 (addL VV.list XX.list 8)).all (·.oneCell') = true) := by show _ = _; simp [row32, Value.oneCell']
          have HS8 : Hid (8 = (row32 (addL VV.list XX.list 8)).size) := by show _ = _; rw [hlen]
          clear hlen
          go_wp2_with (first | (refine wpList_load_row rfl 51 (.tmp 3) rfl w.heap.size rfl 51 (row32 (addL VV.list XX.list 8)) (0, 0) _ LAY.out.lv Tryd.underlying51 rfl HI8.out ?_) | (refine wpList_store_row rfl 51 (.tmp 6) (.tmp 112) rfl (w.heap.size + 1) (row32 (addL VV.list XX.list 8)) rfl rfl 51 _ LAY.out.lr HI8.out HS8.out HO8.out ?_))
          refine bodyPost_ret (v := .agg (row32 (addL VV.list XX.list 8))) (results_cell_row Tryd.results25 _ _ (w.heap.size + 1) 51 _ (0, 0) _ rfl (setRow_heap _ _ _ _ _ _ LAY.out.lr) Tryd.underlying51 rfl HI8.out) rfl ⟨?_, below_setRow LAY.out.lb (by omega) _⟩
          rw [addL_full, ← St.cells_list]
          have hq : XX = rnds kk (fun j => (wL g p 64).getD j 0) VV 64 := by
            rw [HS.out]
            exact rnds_congr kk _ _ VV 64 (fun j hj => HWX.out j hj)
          subst hVV
          rw [hq]
          rfl
end Go.Proofs.YtmigdhohbjnhcaaDoor.rb
