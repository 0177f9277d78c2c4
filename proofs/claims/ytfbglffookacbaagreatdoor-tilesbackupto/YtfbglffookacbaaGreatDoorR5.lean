import Derived.Test.YtfbglffookacbaaGreatDoorR4
import Derived.Deep.MidRow
import Derived.Deep.WholeRow
import Derived.Lib.SliceRun
namespace Go.Proofs.YtfbglffookacbaaGreatDoor.r5
open Go.RowKit Go.PlainAid Go.Shelf
open Go.Proofs.YtfbglffookacbaaGreatDoor.ta Go.Proofs.YtfbglffookacbaaGreatDoor.tb Go.Proofs.YtfbglffookacbaaGreatDoor.tc Go.Proofs.YtfbglffookacbaaGreatDoor.cp Go.Proofs.YtfbglffookacbaaGreatDoor.r3 Go.Proofs.YtfbglffookacbaaGreatDoor.r4
set_option linter.unusedVariables false
set_option maxRecDepth 4000

def zB : List Value := List.replicate 256 (.slice none 0 0)
def bc (l : List Value) (v : Value) : Array Value := (l ++ [v]).toArray
theorem build257 (a : Addr) (n c : Nat) (W : World) : (Instr.build 140 #[(1, .slice (some a) n c)]).run Tryz.prog W = .ok (.agg (bc zB (.slice (some a) n c))) W := by kernel_rfl
theorem alloc257 (W : World) : (Instr.alloc 140 true (.tuple #[])).run Tryz.prog W = .ok (.pointer (some ⟨W.heap.size, 0, none⟩)) (W.alloc (.cells (bc zB (.slice none 0 0)) 140)) := by kernel_rfl
theorem info257 : (Tryz.prog.info? 140).map (·.size) = some 257 := by kernel_rfl
theorem bc_size (l : List Value) (v : Value) (h : l.length = 256) : (bc l v).size = 257 := by simp [bc, h]
theorem zB_len : zB.length = 256 := by unfold zB; exact List.length_replicate
theorem bc_one (l : List Value) (v : Value) (h : ∀ x ∈ l, x.oneCell' = true) (hv : v.oneCell' = true) : (bc l v).all (·.oneCell') = true := by
  unfold bc
  refine all_oneCell_toArray fun x hx => ?_
  rcases List.mem_append.1 hx with e | e
  · exact h x e
  · rw [List.mem_singleton.1 e]; exact hv
theorem zB_all : ∀ x ∈ zB, x.oneCell' = true := fun x hx => by
  unfold zB at hx
  rw [List.eq_of_mem_replicate hx]; rfl
theorem two_new (W : World) (X : Obj) (c : Array Value) (t : TypeId) : ((W.alloc X).alloc (.cells c t)).heap[W.heap.size + 1]? = some (.cells c t (0, 0)) := by
  rw [← World.size_alloc W X]; exact heap_alloc_new _ _
theorem two_set (W : World) (X : Obj) (c c' : Array Value) (t : TypeId) : ((W.alloc X).alloc (.cells c t)).setRow (W.heap.size + 1) c' = (W.alloc X).alloc (.cells c' t) := by
  rw [← World.size_alloc W X]; exact World.setRow_alloc_new _ _ _ _
theorem make2 (W : World) : (Instr.makeSlice 40 (.int .i64 0) (.int .i64 2)).run Tryz.prog W = .ok (.slice (some ⟨W.heap.size, 0, none⟩) 0 2) (W.alloc (.cells #[.string ByteArray.empty, .string ByteArray.empty] 9)) := by kernel_rfl
theorem wpList_build {P : Program} {ops : Array Oper} {rest : List Oper} {o : Oper} {a : Act} {w : World} {Q : Exit → Act → World → Prop} (hgd : o.guard = none) (t : TypeId) (ps : Array (Nat × Operand)) (ho : o.op = .build t ps) (v : Value)
    (hrun : (Instr.build t (ps.map fun (i, x) => (i, a.eval x))).run P w = .ok v w) (h : wpList P ops Q rest (a.put o.dst v) w) : wpList P ops Q (o :: rest) a w := by
  refine wpList_plain hgd fun K hK => ?_
  unfold Oper.wp execOp
  simp only [ho, Sem.run_bind, hrun, Result.andThen_ok, Sem.run_pure]
  exact hK _ _ h
theorem wpList_alloc {P : Program} {ops : Array Oper} {rest : List Oper} {o : Oper} {a : Act} {w : World} {Q : Exit → Act → World → Prop} (hgd : o.guard = none) (t : TypeId) (ho : o.op = .alloc t) (v : Value) (w' : World)
    (hrun : (Instr.alloc t true (.tuple #[])).run P w = .ok v w') (h : wpList P ops Q rest (a.put o.dst v) w') : wpList P ops Q (o :: rest) a w := by
  refine wpList_plain hgd fun K hK => ?_
  unfold Oper.wp execOp
  simp only [ho, Sem.run_bind, hrun, Result.andThen_ok, Sem.run_pure]
  exact hK _ _ h
theorem wpList_build257 {ops : Array Oper} {rest : List Oper} {o : Oper} {a : Act} {w : World} {Q : Exit → Act → World → Prop} (hgd : o.guard = none) (x : Operand) (ho : o.op = .build 140 #[(1, x)]) (ad : Addr) (n c : Nat)
    (hx : a.eval x = .slice (some ad) n c) (h : wpList Tryz.prog ops Q rest (a.put o.dst (.agg (bc zB (.slice (some ad) n c)))) w) : wpList Tryz.prog ops Q (o :: rest) a w := by
  refine wpList_build hgd 140 #[(1, x)] ho (.agg (bc zB (.slice (some ad) n c))) ?_ h
  have e : (#[(1, x)].map fun ((i, x) : Nat × Operand) => (i, a.eval x)) = #[(1, .slice (some ad) n c)] := by simp [hx]
  exact (congrArg (fun z => Sem.run Tryz.prog (Instr.build 140 z) w) e).trans (build257 ad n c w)
theorem wpList_store257 {ops : Array Oper} {rest : List Oper} {o : Oper} {a : Act} {w0 : World} {X : Obj} {Q : Exit → Act → World → Prop} (hgd : o.guard = none) (x y : Operand) (ho : o.op = .store 140 x y) (s : Addr) (n c g : Nat)
    (hx : a.eval x = .pointer (some ⟨g, 0, none⟩)) (hg : g = w0.heap.size + 1) (hy : a.eval y = .agg (bc zB (.slice (some s) n c)))
    (h : wpList Tryz.prog ops Q rest (a.put o.dst undef) ((w0.alloc X).alloc (.cells (bc zB (.slice (some s) n c)) 140))) : wpList Tryz.prog ops Q (o :: rest) a ((w0.alloc X).alloc (.cells (bc zB (.slice none 0 0)) 140)) := by
  subst hg
  refine wpList_store_row hgd 140 x y ho (w0.heap.size + 1) (bc zB (.slice (some s) n c)) hx hy 140 (bc zB (.slice none 0 0)) (two_new _ _ _ _) (by rw [bc_size _ _ zB_len]; exact info257) (by rw [bc_size _ _ zB_len, bc_size _ _ zB_len]) (bc_one _ _ zB_all rfl) ?_
  rw [two_set]
  exact h
theorem eqN (w : World) : (binOp .eql 51 (.slice none 0 0) (.slice none 0 0)).run Tryz.prog w = .ok (.bool true) w := by
  rw [Go.Lib.run_eql_slice_nil _ _ 5 _ _ _ _ _ Tryz.underlying51]
  rfl
theorem empty_bytes (W : World) : ∃ c fr, (convert 9 51 (.string ⟨#[]⟩)).run Tryz.prog W = .ok (.slice (some ⟨W.heap.size, 0, none⟩) 0 c) (W.drew.alloc fr) := by
  have h := run_bytes_of_string W 9 51 5 ⟨#[]⟩ Tryz.underlying9 Tryz.underlying51 Tryz.underlying5
  exact ⟨_, _, h⟩
theorem conv1 (W : World) (g : Nat) (b : Int) (h : W.cell? ⟨g, 0, none⟩ = some (.int .u8 b)) : (convert 51 9 (.slice (some ⟨g, 0, none⟩) 1 1)).run Tryz.prog W = .ok (.string (str [b])) W :=
  conv_at [b] W g 0 1 1 rfl (fun j v hj => by
    cases j with
    | zero => simp at hj; rw [Addr.add_mid, h, hj]
    | succ j => simp at hj)
theorem bc_last (l : List Value) (v : Value) (h : l.length = 256) : (bc l v)[256]? = some v := by
  unfold bc; rw [List.getElem?_toArray, List.getElem?_append_right (by omega), h]; rfl
theorem bc_at (l : List Value) (v : Value) (j : Nat) (h : j < l.length) : (bc l v)[j]? = l[j]? := by
  unfold bc; rw [List.getElem?_toArray, List.getElem?_append_left h]
theorem bc_set (l : List Value) (v x : Value) (j : Nat) (h : j < l.length) : (bc l v).setIfInBounds j x = bc (l.set j x) v := by
  unfold bc; rw [List.setIfInBounds_toArray, List.set_append_left _ _ h]
theorem bc_put (l : List Value) (v x : Value) (h : l.length = 256) : (bc l v).setIfInBounds 256 x = bc l x := by
  unfold bc; rw [List.setIfInBounds_toArray, List.set_append_right _ _ (by omega), h]; rfl
end Go.Proofs.YtfbglffookacbaaGreatDoor.r5
