import Derived.Test.YtfkpfmaphjeakaaDoorRa
import Derived.Deep.WholeRow
namespace Go.Proofs.YtfkpfmaphjeakaaDoor.rb
open Go.RowKit Go.PlainAid
open Go.Proofs.YtfkpfmaphjeakaaDoor.ra Go.Proofs.YtfkpfmaphjeakaaDoor.pl
set_option linter.unusedVariables false
set_option maxRecDepth 4000

theorem size40 (s : St) : (Tryd.prog.info? 130).map (·.size) = some s.cells.size := by
  have h : (Tryd.prog.info? 130).map (·.size) = some 8 := by kernel_rfl
  exact h

theorem store8 {ops : Array Oper} {rest : List Oper} {o : Oper} {a : Act} {w : World} {Q : Exit → Act → World → Prop} (hgd : o.guard = none) (ho : o.op = .store 130 (.tmp 8) (.tmp 98)) (g : Nat) (Y X : St)
    (hx : a.eval (.tmp 8) = .pointer (some ⟨g, 0, none⟩)) (hy : a.eval (.tmp 98) = .agg Y.cells) (hg : w.heap[g]? = some (.cells X.cells 130 (0, 0)))
    (h : wpList Tryd.prog ops Q rest (a.put o.dst undef) (w.setRow g Y.cells)) : wpList Tryd.prog ops Q (o :: rest) a w :=
  wpList_store_row hgd 130 _ _ ho g Y.cells hx hy 130 X.cells hg (size40 Y) rfl (by simp [St.cells, Value.oneCell']) h

structure Lay (w w1 : World) (WL V X : Array Value) (wr : World) : Prop where
  lx : wr.heap[w1.heap.size + 1]? = some (.cells X 130 (0, 0))
  lw : wr.heap[w1.heap.size]? = some (.cells WL 147 (0, 0))
  lv : wr.heap[w.heap.size]? = some (.cells V 130 (0, 0))
  lr : wr.heap[w.heap.size + 1]? = some (.cells #[.int .u32 0, .int .u32 0, .int .u32 0, .int .u32 0, .int .u32 0, .int .u32 0, .int .u32 0, .int .u32 0] 130 (0, 0))
  lb : Below w.heap.size w wr

end Go.Proofs.YtfkpfmaphjeakaaDoor.rb
