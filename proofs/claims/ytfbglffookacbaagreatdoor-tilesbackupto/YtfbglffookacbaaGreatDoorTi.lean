import Derived.Test.YtfbglffookacbaaGreatDoorTh
namespace Go.Proofs.YtfbglffookacbaaGreatDoor.ti
open Go.RowKit Go.PlainAid
open Go.Proofs.YtfbglffookacbaaGreatDoor.ta Go.Proofs.YtfbglffookacbaaGreatDoor.tb Go.Proofs.YtfbglffookacbaaGreatDoor.tc Go.Proofs.YtfbglffookacbaaGreatDoor.td Go.Proofs.YtfbglffookacbaaGreatDoor.te Go.Proofs.YtfbglffookacbaaGreatDoor.tf Go.Proofs.YtfbglffookacbaaGreatDoor.tg Go.Proofs.YtfbglffookacbaaGreatDoor.th
set_option linter.unusedVariables false
set_option maxRecDepth 4000

theorem wpList_box {P : Program} {ops : Array Oper} {rest : List Oper} {o : Oper} {a : Act} {w : World} {Q : Exit → Act → World → Prop} (hgd : o.guard = none) (t : TypeId) (x : Operand) (ho : o.op = .box t x) (cells : Array Value) (hx : (a.eval x).cells = cells)
    (h : wpList P ops Q rest (a.put o.dst (.pointer (some ⟨w.heap.size, 0, none⟩))) (w.alloc (.cells cells t))) : wpList P ops Q (o :: rest) a w := by
  subst hx
  refine wpList_plain hgd fun K hK => ?_
  unfold Oper.wp execOp
  simp only [ho, Sem.run_bind, Instr.box, newVar, newRow, run_newObj_alloc, Sem.run_pure, Result.andThen_ok]
  exact hK _ _ h

section
variable {bh bf bc bt' bg : Nat}
end

theorem vs_take (al l : List Int) (k : Nat) : (vs al l).take k = vs al (l.take k) := by unfold vs; rw [List.map_take]
theorem map_id' (l : List Int) : l.map (fun x => x) = l := by simp

-- the row and the box of the row
def base2 (w : World) (C : Nat) : World := (w.alloc (.cells (row (List.replicate C 0)) 5)).alloc (bx 51 (.slice (some ⟨w.heap.size, 0, none⟩) 0 C))
theorem base2_size (w : World) (C : Nat) : (base2 w C).heap.size = w.heap.size + 2 := by simp [base2]
theorem base2_out (w : World) (C : Nat) : Boxed (base2 w C) (w.heap.size + 1) 51 (.slice (some ⟨w.heap.size, 0, none⟩) 0 C) := heap_alloc2_new w _ _
theorem base2_own (w : World) (C : Nat) (hC : C ≤ 281474976710656) : (base2 w C).ownsRow w.heap.size 5 1 (.slice (some ⟨w.heap.size, 0, none⟩) 0 C) 0 [] :=
  (World.ownsRow_made (base := w.heap.size) (e := 5) (size := 1) w (row (List.replicate C 0)) C (Nat.le_refl _) (by unfold maxLen; omega) (by rw [row_size]; simp)).alloc _
theorem base2_below (w : World) (C : Nat) : Below w.heap.size w (base2 w C) := ((Below.refl _ _).alloc (Nat.le_refl _) _).alloc (by simp) _
theorem own_below {w w' : World} {B : Nat} {v : Value} {n : Nat} {xs : List Value} (h : w.ownsRow B 5 1 v n xs) (hb : Below w.heap.size w w') : w'.ownsRow B 5 1 v n xs := by
  refine ⟨h.1, ?_⟩
  rcases h.2 with hn | ⟨g, cap, cur, rfl, hbg, hg, rest⟩
  · exact .inl hn
  · exact .inr ⟨g, cap, cur, rfl, hbg, (hb.block g (Array.getElem?_eq_some_iff.1 hg).1).trans hg, rest⟩

theorem ok_snoc (al l : List Int) (b : Int) : Ok al (l ++ [b]) ↔ Ok al l ∧ vl al b ≠ 0 := by
  unfold Ok
  constructor
  · intro h; exact ⟨fun x hx => h x (by simp [hx]), h b (by simp)⟩
  · rintro ⟨h1, h2⟩ x hx
    rcases List.mem_append.1 hx with hx | hx
    · exact h1 x hx
    · rw [List.mem_singleton.1 hx]; exact h2
theorem vs_snoc (al l : List Int) (b : Int) : vs al (l ++ [b]) = vs al l ++ [vl al b - 1] := by simp [vs]
theorem not_ok (al : List Int) (s : ByteArray) (k : Nat) (hk : k < s.size) (hz : vl al (bt s k) = 0) : ¬ Ok al (bs s) := by
  intro h
  refine h (bt s k) ?_ hz
  rw [← bs_get s k hk]
  exact List.getElem_mem _
open Classical in
noncomputable def outR (AL : List Int) (f : Nat) (s : ByteArray) : Value := if Ok AL (bs s) then .tuple #[.string (str (mach f 8 (vs AL (bs s))).1), .bool true] else .tuple #[.string ByteArray.empty, .bool false]

end Go.Proofs.YtfbglffookacbaaGreatDoor.ti
