import Derived.Test.YthblljfkodbbeabDoorVc
namespace Go.Proofs.YthblljfkodbbeabDoor.ya
open Go.RowKit Go.PlainAid
open Go.Proofs.YthblljfkodbbeabDoor.ta Go.Proofs.YthblljfkodbbeabDoor.tb Go.Proofs.YthblljfkodbbeabDoor.tc Go.Proofs.YthblljfkodbbeabDoor.tj Go.Proofs.YthblljfkodbbeabDoor.va Go.Proofs.YthblljfkodbbeabDoor.vb Go.Proofs.YthblljfkodbbeabDoor.vc
set_option linter.unusedVariables false

-- a text's lines
def linesP (l : List Int) : Option (List (List Int)) := if l = [] then some [] else if l.drop (l.length - 1) = [10] then some (parts 10 (l.take (l.length - 1))) else none
def linesR (w w' : World) (o : Option (List (List Int))) (e : Ending) : Prop :=
  match o with
  | some xs => ∃ v, e = .returned (.tuple #[v, .int .i64 0]) ∧ Texts w' w.heap.size v (xs.map str)
  | none => e = .returned (.tuple #[.slice none 0 0, .int .i64 43])
theorem bs_10 : bs (⟨#[10]⟩ : ByteArray) = [10] := by decide +kernel
theorem has_lines (s : ByteArray) : (s.size ≠ 0 ∧ s.extract (s.size - 1) s.size = ⟨#[10]⟩) ↔ (bs s).drop ((bs s).length - 1) = [10] := by
  have hb := bs_extract s (s.size - 1) s.size (by omega) (Nat.le_refl _)
  rw [List.take_of_length_le (by rw [bs_length]; exact Nat.le_refl _)] at hb
  rw [bs_length, ← hb]
  constructor
  · rintro ⟨_, h⟩
    rw [h, bs_10]
  · intro h
    refine ⟨fun h0 => ?_, bs_inj (h.trans bs_10.symm)⟩
    have := congrArg List.length h
    rw [bs_length, ByteArray.size_extract] at this
    simp at this
    omega
theorem lHas' (s : ByteArray) (c : UInt8) (hs : s.size ≤ 281474976710656) (w : World) :
    Calls Tryd.prog 43 #[.string s, .string ⟨#[c]⟩] w fun e w' => e = .returned (.bool (decide (s.size ≠ 0 ∧ s.extract (s.size - 1) s.size = ⟨#[c]⟩))) ∧ w' = w := by
  have hone : (⟨#[c]⟩ : ByteArray).size = 1 := rfl
  by_cases h0 : s.size = 0
  · have hge : ¬ ((s.size : Int) ≥ 1) := by omega
    have hge2 : ¬ ((1 : Int) ≤ (s.size : Int)) := by omega
    have HD : Hid (decide (s.size ≠ 0 ∧ s.extract (s.size - 1) s.size = ⟨#[c]⟩) = false) := decide_eq_false (fun h => h.1 h0)
    rw [HD.out]
    go_enter Tryd.func43, Tryd.ntmps43
    go_wp2
    go_ret
    exact ⟨rfl, rfl⟩
  · have hge : ((s.size : Int) ≥ 1) := by omega
    have HD : Hid (decide (s.size ≠ 0 ∧ s.extract (s.size - 1) s.size = ⟨#[c]⟩) = decide (s.extract (s.size - 1) s.size = ⟨#[c]⟩)) := by show _ = _; simp [h0]
    rw [HD.out]
    have hk : ((s.size : Int) - 1).toNat = s.size - 1 := by omega
    have hk0 : (0 : Int) ≤ (s.size : Int) - 1 := by omega
    go_enter Tryd.func43, Tryd.ntmps43
    go_wp2
    go_ret
    exact ⟨congrArg (fun b => Ending.returned (.bool b)) (toList_lit _ [c]), rfl⟩
set_option maxHeartbeats 800000 in
theorem lCut (s : ByteArray) (c : UInt8) (hs : s.size ≤ 281474976710656) (b : Bool) (hb : decide (s.size ≠ 0 ∧ s.extract (s.size - 1) s.size = ⟨#[c]⟩) = b) (w : World) :
    Calls Tryd.prog 38 #[.string s, .string ⟨#[c]⟩] w fun e w' => e = .returned (.tuple #[.string (if b then s.extract 0 (s.size - 1) else s), .bool b]) ∧ w' = w := by
  have HH : Hid (Calls _ _ _ _ _) := lHas' s c hs w
  rw [hb] at HH
  have hone : (⟨#[c]⟩ : ByteArray).size = 1 := rfl
  cases b with
  | true =>
    have h0 : s.size ≠ 0 := (of_decide_eq_true hb).1
    have hk : ((s.size : Int) - 1).toNat = s.size - 1 := by omega
    have hk0 : (0 : Int) ≤ (s.size : Int) - 1 := by omega
    clear hb
    go_enter Tryd.func38, Tryd.ntmps38
    go_wp2_with fail
    refine HH.out.mono ?_
    rintro e w1 ⟨rfl, rfl⟩
    go_wp2
    go_ret2
    exact ⟨rfl, rfl⟩
  | false =>
    clear hb
    go_enter Tryd.func38, Tryd.ntmps38
    go_wp2_with fail
    refine HH.out.mono ?_
    rintro e w1 ⟨rfl, rfl⟩
    go_wp2
    go_ret2
    exact ⟨rfl, rfl⟩
theorem cutSuffix (s : ByteArray) (c : UInt8) (hs : s.size ≤ 281474976710656) (b : Bool) (hb : decide (s.size ≠ 0 ∧ s.extract (s.size - 1) s.size = ⟨#[c]⟩) = b) (w : World) :
    Calls Tryd.prog 31 #[.string s, .string ⟨#[c]⟩] w fun e w' => e = .returned (.tuple #[.string (if b then s.extract 0 (s.size - 1) else s), .bool b]) ∧ w' = w := by
  have H : Hid (Calls _ _ _ _ _) := lCut s c hs b hb w
  clear hb
  generalize (if b then s.extract 0 (s.size - 1) else s) = T at *
  go_enter Tryd.func31, Tryd.ntmps31
  go_wp2_with fail
  refine H.out.mono ?_
  rintro e w1 ⟨rfl, rfl⟩
  go_wp2
  go_ret2
  exact ⟨rfl, rfl⟩

set_option maxHeartbeats 1600000 in
theorem lines (s : ByteArray) (hs : s.size < 4294967281) (w : World) :
    Calls Tryd.prog 14 #[.string s] w fun e w' => linesR w w' (linesP (bs s)) e ∧ Below w.heap.size w w' := by
  by_cases h0 : s.size = 0
  · have hb0 : bs s = [] := List.length_eq_zero_iff.1 (by rw [bs_length]; exact h0)
    have he : s = ByteArray.empty := bs_inj (by rw [hb0]; rfl)
    have HW : Hid (linesP (bs s) = some []) := by show _ = _; unfold linesP; rw [if_pos hb0]
    rw [HW.out]
    clear hb0 HW
    subst he
    go_enter Tryd.func14, Tryd.ntmps14
    go_wp2
    go_ret2
    exact ⟨⟨_, rfl, .inl ⟨rfl, rfl⟩⟩, Below.refl _ _⟩
  · have hne2 : (s.toList == []) = false := by rw [toList_lit]; exact decide_eq_false (fun h => h0 (by rw [h]; rfl))
    have hne3 : s.toList.isEmpty = false := by cases hl : s.toList with
      | nil => rw [hl] at hne2; cases hne2
      | cons => rfl
    have hnn : bs s ≠ [] := fun h => h0 (by rw [← bs_length, h]; rfl)
    obtain ⟨R, HR⟩ : ∃ R, Hid (linesP (bs s) = R) := ⟨_, rfl⟩
    rw [HR.out]
    by_cases hh : s.size ≠ 0 ∧ s.extract (s.size - 1) s.size = ⟨#[10]⟩
    · have C : Hid (∀ w, Calls _ _ _ _ _) := fun w => cutSuffix s 10 (by omega) true (decide_eq_true hh) w
      simp only [if_true] at C
      have hz : (s.extract 0 (s.size - 1)).size < 4294967281 := by rw [ByteArray.size_extract]; omega
      have SP : Hid (∀ w, Calls _ _ _ _ _) := fun w => split1 (s.extract 0 (s.size - 1)) 10 w hz
      have HE : Hid (R = some (parts 10 (bs (s.extract 0 (s.size - 1))))) := by
        show _ = _
        rw [← HR.out]
        unfold linesP
        rw [if_neg hnn, if_pos ((has_lines s).1 hh), bs_extract s 0 (s.size - 1) (by omega) (by omega), bs_length, List.drop_zero]
      have hpc : pcs 10 (s.extract 0 (s.size - 1)) = (parts 10 (bs (s.extract 0 (s.size - 1)))).map str := rfl
      rw [hpc] at SP
      clear hh hnn hpc hz
      generalize s.extract 0 (s.size - 1) = T at *
      generalize parts 10 (bs T) = P at *
      obtain ⟨Q, HQ⟩ : ∃ Q, Hid (P.map str = Q) := ⟨_, rfl⟩
      rw [HQ.out] at SP
      go_enter Tryd.func14, Tryd.ntmps14
      go_wp2_with fail
      refine (C.out _).mono ?_
      rintro e w1 ⟨rfl, rfl⟩
      go_wp2_with fail
      refine (SP.out _).mono ?_
      rintro e w2 ⟨rfl, hw2⟩
      have HW2 : Hid (w2 = _) := hw2
      clear hw2
      go_wp2
      go_ret2
      rw [HE.out]
      refine ⟨⟨_, rfl, ?_⟩, ?_⟩
      · rw [HQ.out, HW2.out]
        exact .inr ⟨_, rfl, Nat.le_refl _, heap_alloc_new _ _⟩
      · rw [HW2.out]
        exact (Below.refl _ _).alloc (Nat.le_refl _) _
    · have C : Hid (∀ w, Calls _ _ _ _ _) := fun w => cutSuffix s 10 (by omega) false (decide_eq_false hh) w
      have HE : Hid (R = none) := by
        show _ = _
        rw [← HR.out]
        unfold linesP
        rw [if_neg hnn, if_neg (fun h => hh ((has_lines s).2 h))]
      clear hh hnn
      generalize (if false = true then s.extract 0 (s.size - 1) else s) = T at *
      go_enter Tryd.func14, Tryd.ntmps14
      go_wp2_with fail
      refine (C.out _).mono ?_
      rintro e w1 ⟨rfl, rfl⟩
      go_wp2
      go_ret2
      refine ⟨?_, Below.refl _ _⟩
      rw [HE.out]
      exact rfl
end Go.Proofs.YthblljfkodbbeabDoor.ya
