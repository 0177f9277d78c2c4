import Derived.Test.YtfbglffookacbaaGreatDoorTg
namespace Go.Proofs.YtfbglffookacbaaGreatDoor.th
open Go.RowKit Go.PlainAid
open Go.Proofs.YtfbglffookacbaaGreatDoor.ta Go.Proofs.YtfbglffookacbaaGreatDoor.tb Go.Proofs.YtfbglffookacbaaGreatDoor.tc Go.Proofs.YtfbglffookacbaaGreatDoor.td Go.Proofs.YtfbglffookacbaaGreatDoor.te Go.Proofs.YtfbglffookacbaaGreatDoor.tf Go.Proofs.YtfbglffookacbaaGreatDoor.tg
set_option linter.unusedVariables false

def zV : Array Value := row (List.replicate 256 0)
theorem wpList_alloc {P : Program} {ops : Array Oper} {rest : List Oper} {o : Oper} {a : Act} {w : World} {Q : Exit → Act → World → Prop} (hgd : o.guard = none) (t : TypeId) (ho : o.op = .alloc t) (v : Value) (w' : World)
    (hrun : (Instr.alloc t true (.tuple #[])).run P w = .ok v w') (h : wpList P ops Q rest (a.put o.dst v) w') : wpList P ops Q (o :: rest) a w := by
  refine wpList_plain hgd fun K hK => ?_
  unfold Oper.wp execOp
  simp only [ho, Sem.run_bind, hrun, Result.andThen_ok, Sem.run_pure]
  exact hK _ _ h
set_option maxRecDepth 100000 in
theorem alloc256 (W : World) : (Instr.alloc 135 true (.tuple #[])).run Tryz.prog W = .ok (.pointer (some ⟨W.heap.size, 0, none⟩)) (W.alloc (.cells zV 135)) := by kernel_rfl
theorem info256 : (Tryz.prog.info? 135).map (·.size) = some 256 := by kernel_rfl
theorem heap_alloc2_new (w : World) (o o' : Obj) : ((w.alloc o).alloc o').heap[w.heap.size + 1]? = some o' := by
  have := heap_alloc_new (w.alloc o) o'
  rwa [size1] at this
theorem heap_setCell_same (w : World) (b k : Nat) (v : Value) (cs : Array Value) (t : TypeId) (hh : w.heap[b]? = some (.cells cs t (0, 0))) : (w.setCell ⟨b, k, none⟩ v).heap[b]? = some (.cells (cs.setIfInBounds k v) t (0, 0)) := by
  obtain ⟨hlt, hk⟩ := Array.getElem?_eq_some_iff.1 hh
  show (w.heap.modify b _)[b]? = _
  rw [Array.getElem?_eq_getElem (by rw [Array.size_modify]; exact hlt), Array.getElem_modify_self, hk]
  rfl

structure LayV (w : World) (X : Array Value) (wr : World) : Prop where
  lr : wr.heap[w.heap.size]? = some (.cells zV 135 (0, 0))
  lx : wr.heap[w.heap.size + 1]? = some (.cells X 135 (0, 0))
  lb : Below w.heap.size w wr
theorem LayV.set {w : World} {l l' : List Int} {wr : World} (h : LayV w (row l) wr) (t : Nat) (v : Int) (hs : l.set t v = l') : LayV w (row l') (wr.setCell ⟨w.heap.size + 1, t, none⟩ (.int .u8 v)) := by
  refine ⟨?_, ?_, ?_⟩
  · rw [Below.heap_setCell _ _ _ _ (by simp)]; exact h.lr
  · rw [heap_setCell_same _ _ _ _ _ _ h.lx, row_set, hs]
  · exact h.lb.setCell (by simp) _

theorem bs_getD (q : ByteArray) (j : Nat) (h : j < q.size) : (bs q).getD j 0 = bt q j := by
  rw [List.getD_eq_getElem?_getD, List.getElem?_eq_getElem (by rw [bs_length]; exact h), Option.getD_some, bs_get q j h]

theorem agg_cells (l : List Int) : (Value.agg (row l)).cells = row l := by
  simp [Value.cells, row]
end Go.Proofs.YtfbglffookacbaaGreatDoor.th
