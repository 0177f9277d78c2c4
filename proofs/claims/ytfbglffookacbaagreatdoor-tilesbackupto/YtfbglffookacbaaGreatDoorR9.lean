import Derived.Test.YtfbglffookacbaaGreatDoorWb
import Derived.Test.YtfbglffookacbaaGreatDoorR8
import Derived.Test.YtfbglffookacbaaGreatDoorSh
import Derived.Shelf.Strings.SplitShaped
namespace Go.Proofs.YtfbglffookacbaaGreatDoor.r9
open Go.RowKit Go.PlainAid Go.Shelf
open Go.Proofs.YtfbglffookacbaaGreatDoor.ta Go.Proofs.YtfbglffookacbaaGreatDoor.tb Go.Proofs.YtfbglffookacbaaGreatDoor.tc Go.Proofs.YtfbglffookacbaaGreatDoor.cp Go.Proofs.YtfbglffookacbaaGreatDoor.wa Go.Proofs.YtfbglffookacbaaGreatDoor.wb Go.Proofs.YtfbglffookacbaaGreatDoor.r8
set_option linter.unusedVariables false
set_option maxRecDepth 4000

-- what digits say, or 0
def numV (s : ByteArray) : Int := match Lib.atoiAll s.data.toList with
  | .ok n => n
  | _ => 0
theorem numV_ok {s : ByteArray} {n : Int} (h : Lib.atoiAll s.data.toList = .ok n) : numV s = n := by unfold numV; rw [h]
theorem numV_no {s : ByteArray} (h : ∀ m, Lib.atoiAll s.data.toList ≠ .ok m) : numV s = 0 := by
  unfold numV
  cases e : Lib.atoiAll s.data.toList with
  | ok n => exact absurd e (h n)
  | «syntax» => rfl
  | range => rfl
theorem numberC (s : ByteArray) (hs : s.size ≤ 281474976710656) (w : World) (hw : NumW w) : Calls Tryz.prog 28 #[.string s] w fun e w' => e = .returned (.int .i64 (numV s)) ∧ Below w.heap.size w w' := by
  have AC : Hid (Calls _ _ _ _ _) := atoi s hs w hw
  go_enter Tryz.func28, Tryz.ntmps28
  go_wp2_with fail
  refine AC.out.mono ?_
  rintro e w1 ⟨⟨n, hn, ha, rfl⟩ | ⟨n, T, p, hn, ha, rfl⟩, hb⟩
  · have B : Hid (Below w.heap.size w w1) := hb
    have HN : Hid (numV s = n) := numV_ok ha
    clear hb ha
    go_wp2
    go_ret
    exact ⟨by rw [HN.out]; rfl, B.out⟩
  · have B : Hid (Below w.heap.size w w1) := hb
    have HN : Hid (numV s = 0) := numV_no ha
    clear hb ha
    go_wp2
    go_ret
    exact ⟨by rw [HN.out]; rfl, B.out⟩
-- the library's texts
def MaxW (w : World) : Prop := ∃ m, w.cell? ⟨0, 0, none⟩ = some (.int .i64 m)
theorem MaxW.down {w w' : World} (h : MaxW w) (hb : Below w.heap.size w w') : MaxW w' := by
  obtain ⟨m, hm⟩ := h
  exact ⟨m, (hb.cell (World.block_lt_of_cell? _ _ hm)).trans hm⟩
theorem cutC (s sep : ByteArray) (hs : s.size < 4294967281) (w : World) (M : MaxW w) :
    Calls Tryz.prog 27 #[.string s, .string sep] w fun e w' => e = .returned (.tuple #[.string ⟨(Lib.cut s.data.toList sep.data.toList).1.toArray⟩, .string ⟨(Lib.cut s.data.toList sep.data.toList).2.1.toArray⟩, .bool (Lib.cut s.data.toList sep.data.toList).2.2]) ∧ Below w.heap.size w w' := by
  obtain ⟨m, hm⟩ := M
  refine (Any.strings_Cut sh.lays145 s sep m w hs hm).mono ?_
  rintro e w' ⟨rfl, n, rfl⟩
  exact ⟨rfl, below_dN (Below.refl _ _) n⟩
theorem splitC (s sep : ByteArray) (n : Nat) (w : World) (M : MaxW w) (hs : s.size < 4294967281) (h1 : 1 ≤ sep.size) (hn : 1 ≤ n) (hn63 : n ≤ 9223372036854775807) :
    Calls Tryz.prog 26 #[.string s, .string sep, .int .i64 n] w fun e w' =>
      e = .returned (.slice (some ⟨w.heap.size, 0, none⟩) (Lib.splitB sep 0 (min n (s.size + 1) - 1) s).length (min n (s.size + 1))) ∧ w' = w.alloc (.cells (Lib.cellsOf (Lib.splitB sep 0 (min n (s.size + 1) - 1) s) (min n (s.size + 1))) 9) := by
  obtain ⟨m, hm⟩ := M
  exact Any.strings_SplitN { sh.laysM147 with } sh.laysM147.i9 s sep n m w hs hm h1 hn hn63
end Go.Proofs.YtfbglffookacbaaGreatDoor.r9
