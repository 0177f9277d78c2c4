import Derived.Test.YthgieagebcjafaaDoorN3
import Derived.Test.YthgieagebcjafaaDoorNh
namespace Go.Proofs.YthgieagebcjafaaDoor.n4
open Go.RowKit Go.PlainAid
open Go.Proofs.YthgieagebcjafaaDoor.pl Go.Proofs.YthgieagebcjafaaDoor.ft Go.Proofs.YthgieagebcjafaaDoor.pj Go.Proofs.YthgieagebcjafaaDoor.rf Go.Proofs.YthgieagebcjafaaDoor.mo Go.Proofs.YthgieagebcjafaaDoor.mq Go.Proofs.YthgieagebcjafaaDoor.nd Go.Proofs.YthgieagebcjafaaDoor.nh Go.Proofs.YthgieagebcjafaaDoor.n3
set_option linter.unusedVariables false
set_option maxRecDepth 4000

theorem kid_size (a b : ByteArray) : (kidF a b).size = 4 := by unfold kidF; rw [ByteArray.size_extract, sha_size]; rfl
def keyV (a b : ByteArray) : Value := .agg #[.string a, .string b]
def idV (a b : ByteArray) : Value := if nm a = true then .tuple #[.string (kidF a b), .int .i64 0] else .tuple #[.string ByteArray.empty, .int .i64 203]
set_option maxHeartbeats 800000 in
theorem idC (a b : ByteArray) (ha : a.size ≤ 140737488351232) (hb : b.size ≤ 140737488351232) (w : World) (T : Hid (Tab w)) :
    Calls Tryd.prog 9 #[.agg #[.string a, .string b]] w fun e w' => e = .returned (idV a b) ∧ Below w.heap.size w w' := by
  have C1 : Hid (∀ w, Calls _ _ _ _ _) := fun w => name a (by omega) w
  have HB0 : Hid (Below w.heap.size w (w.alloc (.cells #[.string a, .string b] 27))) := (Below.refl _ _).alloc (Nat.le_refl _) _
  have C2 : Hid (Calls _ _ _ _ _) := keyID a b (w.alloc (.cells #[.string a, .string b] 27)) ha hb (T.out.down HB0.out)
  obtain ⟨R, HR⟩ : ∃ R, Hid (idV a b = R) := ⟨_, rfl⟩
  rw [HR.out]
  by_cases hn : nm a = true
  · have HE : Hid (R = .tuple #[.string (kidF a b), .int .i64 0]) := by show _ = _; rw [← HR.out]; unfold idV; rw [if_pos hn]
    rw [hn] at C1
    clear HR hn
    generalize kidF a b = x at *
    go_enter Tryd.func9, Tryd.ntmps9
    go_wp2_with fail
    refine (C1.out _).mono ?_
    rintro e w1 ⟨rfl, rfl⟩
    go_wp2_with fail
    refine C2.out.mono ?_
    rintro e w2 ⟨rfl, hb2⟩
    have B2 : Hid (Below w.heap.size w w2) := HB0.out.trans (hb2.mono (by simp))
    clear hb2
    go_wp2
    go_ret2
    exact ⟨by rw [HE.out]; rfl, B2.out⟩
  · have hf : nm a = false := by simpa using hn
    have HE : Hid (R = .tuple #[.string ByteArray.empty, .int .i64 203]) := by show _ = _; rw [← HR.out]; unfold idV; rw [if_neg hn]
    rw [hf] at C1
    clear HR hn hf
    go_enter Tryd.func9, Tryd.ntmps9
    go_wp2_with fail
    refine (C1.out _).mono ?_
    rintro e w1 ⟨rfl, rfl⟩
    go_wp2
    go_ret2
    exact ⟨by rw [HE.out]; rfl, HB0.out⟩
set_option maxHeartbeats 800000 in
theorem idD (a b : ByteArray) (ha : a.size ≤ 140737488351232) (hb : b.size ≤ 140737488351232) (w : World) (T : Hid (Tab4 w)) :
    Calls Tryd.prog 13 #[.agg #[.string a, .string b]] w fun e w' => e = .returned (idV a b) ∧ Below w.heap.size w w' := by
  have C1 : Hid (∀ w, Calls _ _ _ _ _) := fun w => rName a (by omega) w
  have HB0 : Hid (Below w.heap.size w (w.alloc (.cells #[.string a, .string b] 27))) := (Below.refl _ _).alloc (Nat.le_refl _) _
  have C2 : Hid (Calls _ _ _ _ _) := rkeyID a b (w.alloc (.cells #[.string a, .string b] 27)) ha hb (T.out.down HB0.out)
  obtain ⟨R, HR⟩ : ∃ R, Hid (idV a b = R) := ⟨_, rfl⟩
  rw [HR.out]
  by_cases hn : nm a = true
  · have HE : Hid (R = .tuple #[.string (kidF a b), .int .i64 0]) := by show _ = _; rw [← HR.out]; unfold idV; rw [if_pos hn]
    rw [hn] at C1
    clear HR hn
    generalize kidF a b = x at *
    go_enter Tryd.func13, Tryd.ntmps13
    go_wp2_with fail
    refine (C1.out _).mono ?_
    rintro e w1 ⟨rfl, rfl⟩
    go_wp2_with fail
    refine C2.out.mono ?_
    rintro e w2 ⟨rfl, hb2⟩
    have B2 : Hid (Below w.heap.size w w2) := HB0.out.trans (hb2.mono (by simp))
    clear hb2
    go_wp2
    go_ret2
    exact ⟨by rw [HE.out]; rfl, B2.out⟩
  · have hf : nm a = false := by simpa using hn
    have HE : Hid (R = .tuple #[.string ByteArray.empty, .int .i64 203]) := by show _ = _; rw [← HR.out]; unfold idV; rw [if_neg hn]
    rw [hf] at C1
    clear HR hn hf
    go_enter Tryd.func13, Tryd.ntmps13
    go_wp2_with fail
    refine (C1.out _).mono ?_
    rintro e w1 ⟨rfl, rfl⟩
    go_wp2
    go_ret2
    exact ⟨by rw [HE.out]; rfl, HB0.out⟩
theorem numC (n : Int) (w : World) : Calls Tryd.prog 8 #[.int .i64 n] w fun e w' => e = .returned (.int .i64 n) ∧ w' = w := by
  go_enter Tryd.func8, Tryd.ntmps8
  go_wp2
  go_ret
  exact ⟨rfl, rfl⟩
theorem id_form (a b : ByteArray) : ∃ s n, idV a b = .tuple #[.string s, .int .i64 n] := by
  unfold idV
  split <;> exact ⟨_, _, rfl⟩
set_option maxHeartbeats 800000 in
theorem law_id (a b : ByteArray) (ha : a.size ≤ 140737488351232) (hb : b.size ≤ 140737488351232) (w : World) (tabs : St8 w 2 ∧ K64 w 4 ∧ St8 w 0 ∧ K64 w 1) :
    Calls Tryd.prog 5 #[.agg #[.string a, .string b]] w fun e w' => e = .returned (.bool true) ∧ Below w.heap.size w w' := by
  have T : Hid (Tab4 w) := Tab4.of tabs
  clear tabs
  have HB0 : Hid (Below w.heap.size w (w.alloc (.cells #[.string a, .string b] 27))) := (Below.refl _ _).alloc (Nat.le_refl _) _
  have T0 : Hid (Tab4 (w.alloc (.cells #[.string a, .string b] 27))) := T.out.down HB0.out
  have C1 : Hid (Calls _ _ _ _ _) := idC a b ha hb (w.alloc (.cells #[.string a, .string b] 27)) T0.out.t
  have C2 : Hid (∀ w, Hid (Tab4 w) → Calls _ _ _ _ _) := fun w => idD a b ha hb w
  obtain ⟨s, n, hsn⟩ := id_form a b
  rw [hsn] at C1 C2
  clear hsn
  go_enter Tryd.func5, Tryd.ntmps5
  go_wp2_with fail
  refine C1.out.mono ?_
  rintro e w1 ⟨rfl, hb1⟩
  have B1 : Hid (Below w.heap.size w w1) := HB0.out.trans (hb1.mono (by simp))
  have hc : w1.cell? ⟨w.heap.size, 0, none⟩ = some (.string a) := by
    rw [hb1.cell (p := ⟨w.heap.size, 0, none⟩) (by simp), World.cell?_alloc_at _ _ _ _ rfl]; rfl
  have hd : w1.cell? ⟨w.heap.size, 1, none⟩ = some (.string b) := by
    rw [hb1.cell (p := ⟨w.heap.size, 1, none⟩) (by simp), World.cell?_alloc_at _ _ _ _ rfl]; rfl
  have T1 : Hid (Tab4 w1) := T0.out.down hb1
  clear hb1
  go_wp2_with fail
  refine (C2.out _ T1).mono ?_
  rintro e w2 ⟨rfl, hb2⟩
  have B2 : Hid (Below w.heap.size w w2) := over B1.out hb2
  clear hb2
  go_wp2_with (go_at_call 8; refine (numC _ _).mono ?_; rintro e w3 ⟨rfl, rfl⟩)
  go_ret
  exact ⟨rfl, B2.out⟩
end Go.Proofs.YthgieagebcjafaaDoor.n4
