import Derived.Test.YtfkpfmaphjeakaaDoorRows
import Derived.Test.YtfkpfmaphjeakaaDoorPl
import Derived.WalkKit
import Derived.WalkSpells
import Derived.Below
import Derived.PlainAid
import Derived.Deep.QuietTactic
import Derived.BigQuiet
import Derived.RowKit3
import Derived.Laws.ResultCell
import Derived.Laws.Rows
import Derived.Laws.Tables
import Derived.Laws.CopyOwn
import Derived.WalkSmall
import Derived.BigRegion
import Derived.RegionTactic
namespace Go.Proofs.YtfkpfmaphjeakaaDoor.ra
open Go.RowKit Go.PlainAid
open Go.Proofs.YtfkpfmaphjeakaaDoor.pl
set_option linter.unusedVariables false
set_option maxRecDepth 4000

theorem setCell_drewN (w : World) (n : Nat) (a : Addr) (v : Value) : (w.drewN n).setCell a v = (w.setCell a v).drewN n := rfl

def Bytes (w : World) (B off len : Nat) (g : Nat → Int) : Prop := B < w.heap.size ∧ ∀ j, j < len → w.cell? ⟨B, off + j, none⟩ = some (.int .u8 (g j)) ∧ 0 ≤ g j ∧ g j ≤ 255

theorem store_next (W : World) (m N : Nat) (l l' : List Int) (t : Nat) (v x : Int) (hN : N = W.heap.size) (hv : v = x) (hset : l.set t x = l') :
    ((W.alloc (.cells (row32 l) 147)).drewN m).setCell ⟨N, t, none⟩ (.int .u32 v) = (W.alloc (.cells (row32 l') 147)).drewN m := by
  rw [setCell_drewN, World.setCell_alloc_at _ _ _ _ _ hN, hv, row32_set, hset]

end Go.Proofs.YtfkpfmaphjeakaaDoor.ra
