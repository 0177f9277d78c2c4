import Derived.Test.YtglffbhcnafbnaaDoorCs
namespace Go.Proofs.YtglffbhcnafbnaaDoor.ct
open Go.RowKit Go.PlainAid
open Go.Proofs.YtglffbhcnafbnaaDoor.cp Go.Proofs.YtglffbhcnafbnaaDoor.cs
set_option linter.unusedVariables false

-- what the program's Cover promises (T: what it asks of the world)
structure CoverC (T : World → Prop) : Prop where
  later : ∀ {w w' : World}, T w → Below w.heap.size w w' → T w'
  covers : ∀ (lo hi : Int), i64 lo → i64 hi → ∀ w, T w → Calls Tryd.prog 64 #[.int .i64 lo, .int .i64 hi] w fun e w' => Rowed w w' e lo hi ∧ Below w.heap.size w w'
end Go.Proofs.YtglffbhcnafbnaaDoor.ct
