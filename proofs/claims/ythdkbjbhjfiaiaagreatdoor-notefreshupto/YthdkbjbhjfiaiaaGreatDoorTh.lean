import Derived.Test.YthdkbjbhjfiaiaaGreatDoorTg
namespace Go.Proofs.YthdkbjbhjfiaiaaGreatDoor.th
open Go.RowKit Go.PlainAid
open Go.Proofs.YthdkbjbhjfiaiaaGreatDoor.ta Go.Proofs.YthdkbjbhjfiaiaaGreatDoor.tb Go.Proofs.YthdkbjbhjfiaiaaGreatDoor.tc Go.Proofs.YthdkbjbhjfiaiaaGreatDoor.td Go.Proofs.YthdkbjbhjfiaiaaGreatDoor.te Go.Proofs.YthdkbjbhjfiaiaaGreatDoor.tf Go.Proofs.YthdkbjbhjfiaiaaGreatDoor.tg
set_option linter.unusedVariables false

def zV : Array Value := row (List.replicate 256 0)
theorem wpList_alloc {P : Program} {ops : Array Oper} {rest : List Oper} {o : Oper} {a : Act} {w : World} {Q : Exit → Act → World → Prop} (hgd : o.guard = none) (t : TypeId) (ho : o.op = .alloc t) (v : Value) (w' : World)
    (hrun : (Instr.alloc t true (.tuple #[])).run P w = .ok v w') (h : wpList P ops Q rest (a.put o.dst v) w') : wpList P ops Q (o :: rest) a w := by
  refine wpList_plain hgd fun K hK => ?_
  unfold Oper.wp execOp
  simp only [ho, Sem.run_bind, hrun, Result.andThen_ok, Sem.run_pure]
  exact hK _ _ h
set_option maxRecDepth 100000 in
theorem alloc256 (W : World) : (Instr.alloc 151 true (.tuple #[])).run Tryz.prog W = .ok (.pointer (some ⟨W.heap.size, 0, none⟩)) (W.alloc (.cells zV 151)) := by kernel_rfl
theorem info256 : (Tryz.prog.info? 151).map (·.size) = some 256 := by kernel_rfl
theorem heap_alloc2_new (w : World) (o o' : Obj) : ((w.alloc o).alloc o').heap[w.heap.size + 1]? = some o' := by
  have := heap_alloc_new (w.alloc o) o'
  rwa [size1] at this
theorem heap_setCell_same (w : World) (b k : Nat) (v : Value) (cs : Array Value) (t : TypeId) (hh : w.heap[b]? = some (.cells cs t (0, 0))) : (w.setCell ⟨b, k, none⟩ v).heap[b]? = some (.cells (cs.setIfInBounds k v) t (0, 0)) := by
  obtain ⟨hlt, hk⟩ := Array.getElem?_eq_some_iff.1 hh
  show (w.heap.modify b _)[b]? = _
  rw [Array.getElem?_eq_getElem (by rw [Array.size_modify]; exact hlt), Array.getElem_modify_self, hk]
  rfl

structure LayV (w : World) (X : Array Value) (wr : World) : Prop where
  lr : wr.heap[w.heap.size]? = some (.cells zV 151 (0, 0))
  lx : wr.heap[w.heap.size + 1]? = some (.cells X 151 (0, 0))
  lb : Below w.heap.size w wr
theorem LayV.set {w : World} {l l' : List Int} {wr : World} (h : LayV w (row l) wr) (t : Nat) (v : Int) (hs : l.set t v = l') : LayV w (row l') (wr.setCell ⟨w.heap.size + 1, t, none⟩ (.int .u8 v)) := by
  refine ⟨?_, ?_, ?_⟩
  · rw [Below.heap_setCell _ _ _ _ (by simp)]; exact h.lr
  · rw [heap_setCell_same _ _ _ _ _ _ h.lx, row_set, hs]
  · exact h.lb.setCell (by simp) _

theorem bs_getD (q : ByteArray) (j : Nat) (h : j < q.size) : (bs q).getD j 0 = bt q j := by
  rw [List.getD_eq_getElem?_getD, List.getElem?_eq_getElem (by rw [bs_length]; exact h), Option.getD_some, bs_get q j h]

set_option maxHeartbeats 1600000 in
set_option maxRecDepth 100000 in
theorem valuesOf (al : ByteArray) (hal : al.size ≤ 64) (w : World) : Calls Tryz.prog 116 #[.string al] w fun e w' => e = .returned (.agg (row (valK (bs al) al.size))) ∧ Below w.heap.size w w' := by
  have hgb := get_bt al
  go_enter Tryz.func116, Tryz.ntmps116
  go_wp2_with (refine wpList_alloc rfl 151 rfl _ _ (alloc256 _) ?_)
  go_loopw [7] (fun i wr => ∃ k : Nat, k ≤ al.size ∧ i = .int .i64 k ∧ Hid (LayV w (row (valK (bs al) k)) wr)) (fun i _ => (al.size - intOf i).toNat)
  case atStart =>
    refine ⟨0, by omega, rfl, ⟨?_, ?_, ?_⟩⟩
    · rw [heap_alloc_old _ _ (by simp)]; exact heap_alloc_new w _
    · exact heap_alloc2_new w _ _
    · exact ((Below.refl _ _).alloc (Nat.le_refl _) _).alloc (by simp) _
  case round =>
    obtain ⟨k, hk, rfl, LAY⟩ := hrel
    by_cases hlt : k < al.size
    · have hlt' : (k : Int) < al.size := by omega
      have b0 := bt_nonneg al k
      have b1 := bt_le al k
      have HB : Hid ((bs al).getD k 0 = bt al k) := bs_getD al k hlt
      obtain ⟨b, HBB⟩ : ∃ b, Hid (bt al k = b) := ⟨_, rfl⟩
      have hgk : ∀ (h : k < al.size), ((al[k]'h).toNat : Int) = b := fun h => (hgb k h).trans HBB.out
      rw [HBB.out] at b0 b1 HB
      obtain ⟨n, rfl⟩ := Int.eq_ofNat_of_zero_le b0
      have a2 : (n : Int) < 256 := by omega
      have a5 : IntKind.u8.wrap ((k : Int) + 1) = (k : Int) + 1 := by rw [IntKind.wrap_u8']; omega
      have C1 : ∃ u, wr.cell? ⟨w.heap.size + 1, n, none⟩ = some u := by
        rw [cell_of_row _ _ _ _ _ _ LAY.out.lx, row_get, List.getElem?_eq_getElem (by rw [valK_length]; omega)]; exact ⟨_, rfl⟩
      obtain ⟨u, C1⟩ := C1
      have F1 : wr.frozen? ⟨w.heap.size + 1, n, none⟩ = false := frozen_of_row _ _ _ _ _ LAY.out.lx
      clear hgb
      go_wp2
      go_roundw
      case rel => exact ⟨k + 1, by omega, by go_num, LAY.out.set n _ (by rw [valK_succ, HB.out]; rfl)⟩
      case measure => simp [intOf]; omega
    · have hlt' : ¬ (k : Int) < al.size := by omega
      obtain rfl : k = al.size := by omega
      have hlen : (row (valK (bs al) al.size)).size = 256 := by rw [row_size, valK_length]
      have HI : Hid ((Tryz.prog.info? 151).map (·.size) = some (row (valK (bs al) al.size)).size) := by show _ = _; rw [hlen]; exact info256
      have H3 : Hid ((row (valK (bs al) al.size)).all (·.oneCell') = true) := by show _ = _; simp [row, Value.oneCell']
      have H4 : Hid (zV.size = (row (valK (bs al) al.size)).size) := by show _ = _; rw [hlen]; unfold zV; rw [row_size, List.length_replicate]
      clear hlen
      obtain ⟨WL, HW⟩ : ∃ WL, Hid (row (valK (bs al) al.size) = WL) := ⟨_, rfl⟩
      rw [HW.out] at HI H3 H4 LAY
      go_wp2_with (first | (refine wpList_load_row rfl 151 (.tmp 3) rfl (w.heap.size + 1) rfl 151 WL (0, 0) _ LAY.out.lx Tryz.underlying151 rfl HI.out ?_) | (refine wpList_store_row rfl 151 (.tmp 2) (.tmp 18) rfl w.heap.size WL rfl rfl 151 zV LAY.out.lr HI.out H4.out H3.out ?_))
      exact bodyPost_ret (v := .agg WL) (results_cell_row Tryz.results116 _ _ w.heap.size 151 _ (0, 0) _ rfl (setRow_heap _ _ _ _ _ _ LAY.out.lr) Tryz.underlying151 rfl HI.out) rfl ⟨by rw [HW.out], below_setRow LAY.out.lb (by omega) _⟩

theorem agg_cells (l : List Int) : (Value.agg (row l)).cells = row l := by
  simp [Value.cells, row]
end Go.Proofs.YthdkbjbhjfiaiaaGreatDoor.th
