import Derived.Test.YtfbglffookacbaaGreatDoorWa
import Derived.Test.YtfbglffookacbaaGreatDoorSi
import Derived.Laws.Strings2
import Derived.Lib.AtoiErrMem
import Derived.Lib.AppendIntMem
namespace Go.Proofs.YtfbglffookacbaaGreatDoor.wb
open Go.RowKit Go.PlainAid Go.Shelf
open Go.Proofs.YtfbglffookacbaaGreatDoor.ta Go.Proofs.YtfbglffookacbaaGreatDoor.tb Go.Proofs.YtfbglffookacbaaGreatDoor.tc Go.Proofs.YtfbglffookacbaaGreatDoor.tj Go.Proofs.YtfbglffookacbaaGreatDoor.wa Go.Proofs.YtfbglffookacbaaGreatDoor.si
set_option linter.unusedVariables false
set_option maxRecDepth 4000

theorem over {w w1 w2 : World} (h : Below w.heap.size w w1) (b : Below w1.heap.size w1 w2) : Below w.heap.size w w2 := h.trans (b.mono h.size)
theorem below_grow (w : World) (k : Nat) (os : Array Obj) : Below w.heap.size w (Sort.grow (w.drewN k) os) :=
  ⟨rfl, rfl, rfl, by show w.heap.size ≤ (w.heap ++ os).size; rw [Array.size_append]; omega, fun i hi => by show (w.heap ++ os)[i]? = w.heap[i]?; rw [Array.getElem?_append_left hi]⟩
theorem var_below {P : Program} {w w' : World} {name : String} {cs : Array Value} (h : w.var? P name = some cs) (hb : Below w.heap.size w w') : w'.var? P name = some cs := by
  unfold World.var? at *
  cases hg : P.globalNamed name with
  | none => simp [hg] at h
  | some g =>
    simp only [hg, Option.bind_some] at h ⊢
    have hlt : g < w.heap.size := by
      rcases Nat.lt_or_ge g w.heap.size with hl | hl
      · exact hl
      · rw [Array.getElem?_eq_none hl] at h; simp at h
    rw [hb.block g hlt]
    exact h
-- the library's table and its two errors
structure NumW (w : World) : Prop where
  tab : Lib.TabIs Tryz.prog w "internal/strconv.uint64pow10" .u64 Lib.pow10Tab
  syn : ∃ tp p, w.var? Tryz.prog "strconv.ErrSyntax" = some #[.iface tp p]
  ran : ∃ tp p, w.var? Tryz.prog "strconv.ErrRange" = some #[.iface tp p]
theorem NumW.down {w w' : World} (h : NumW w) (hb : Below w.heap.size w w') : NumW w' := by
  obtain ⟨a, b, c⟩ := h.syn
  obtain ⟨a', b', c'⟩ := h.ran
  exact ⟨Lib.TabBelow.here ((Lib.tabBelow_of_tabIs h.tab).on hb), ⟨a, b, var_below c hb⟩, ⟨a', b', var_below c' hb⟩⟩

theorem atoi (s : ByteArray) (hs : s.size ≤ 281474976710656) (w : World) (hw : NumW w) : Calls Tryz.prog 39 #[.string s] w fun e w' => ((∃ n, I64 n ∧ Lib.atoiAll s.data.toList = .ok n ∧ e = .returned (.tuple #[.int .i64 n, .nilIface])) ∨ (∃ n T p, I64 n ∧ (∀ m, Lib.atoiAll s.data.toList ≠ .ok m) ∧ e = .returned (.tuple #[.int .i64 n, .iface T (.pointer (some p))]))) ∧ Below w.heap.size w w' := by
  cases h : Lib.atoiAll s.data.toList with
  | ok v =>
    refine (Any.strconv_Atoi_ok laysC172 s (by omega) v h w).mono ?_
    rintro e w' ⟨rfl, hw'⟩
    refine ⟨.inl ⟨v, Lib.atoiAll_bounds h, rfl, rfl⟩, ?_⟩
    rcases hw' with rfl | ⟨t, rfl⟩
    · exact Below.refl _ _
    · exact Lib.bytesWorld_below _ _ _
  | «syntax» =>
    obtain ⟨tp, p, hv⟩ := hw.syn
    refine (Any.strconv_Atoi_syntax_var laysC172 s hs h tp p w hv).mono ?_
    rintro e w' ⟨N, rfl, _, _, hb⟩
    exact ⟨.inr ⟨0, _, _, ⟨by omega, by omega⟩, (fun m hm => by cases hm), rfl⟩, hb⟩
  | range =>
    obtain ⟨tp, p, hv⟩ := hw.ran
    refine (Any.strconv_Atoi_range_var laysC172 s hs h tp p w hv).mono ?_
    rintro e w' ⟨N, rfl, _, _, hb⟩
    exact ⟨.inr ⟨_, _, _, Lib.atoiSat_bounds _, (fun m hm => by cases hm), rfl⟩, hb⟩

open Classical in
noncomputable def unDecV (s : ByteArray) : Value := if ∃ n, I64 n ∧ decS n = s then .tuple #[.int .i64 (unN s), .int .i64 0] else .tuple #[.int .i64 0, .int .i64 42]

end Go.Proofs.YtfbglffookacbaaGreatDoor.wb
