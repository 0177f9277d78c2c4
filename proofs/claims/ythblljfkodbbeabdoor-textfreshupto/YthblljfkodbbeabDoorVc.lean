import Derived.Test.YthblljfkodbbeabDoorVb
namespace Go.Proofs.YthblljfkodbbeabDoor.vc
open Go.RowKit Go.PlainAid
open Go.Proofs.YthblljfkodbbeabDoor.ta Go.Proofs.YthblljfkodbbeabDoor.tb Go.Proofs.YthblljfkodbbeabDoor.tc Go.Proofs.YthblljfkodbbeabDoor.tj Go.Proofs.YthblljfkodbbeabDoor.ub Go.Proofs.YthblljfkodbbeabDoor.va Go.Proofs.YthblljfkodbbeabDoor.vb
set_option linter.unusedVariables false

-- a list of texts, wherever it lies
def Reads (w : World) (v : Value) (xs : List ByteArray) : Prop :=
  ∃ a cap, v = .slice a xs.length cap ∧ (xs.length = 0 ∨ ∃ b off, a = some ⟨b, off, none⟩ ∧ ∀ i, i < xs.length → w.cell? ⟨b, off + i, none⟩ = some (.string (xs.getD i ByteArray.empty)))
theorem Reads.later {w w' : World} {v : Value} {xs : List ByteArray} (h : Reads w v xs) (hb : Below w.heap.size w w') : Reads w' v xs := by
  obtain ⟨a, cap, rfl, h0 | ⟨b, off, rfl, hc⟩⟩ := h
  · exact ⟨a, cap, rfl, .inl h0⟩
  · refine ⟨_, cap, rfl, .inr ⟨b, off, rfl, fun i hi => ?_⟩⟩
    have := hc i hi
    exact (hb.cell (p := ⟨b, off + i, none⟩) (World.block_lt_of_cell? _ _ this)).trans this
theorem Texts.reads {w : World} {B : Nat} {v : Value} {xs : List ByteArray} (h : Texts w B v xs) : Reads w v xs := by
  rcases h with ⟨rfl, rfl⟩ | ⟨g, rfl, _, hh⟩
  · exact ⟨none, 0, rfl, .inl rfl⟩
  · refine ⟨_, _, rfl, .inr ⟨g, 0, rfl, fun i hi => ?_⟩⟩
    rw [Nat.zero_add, cell_of_row _ _ _ _ _ _ hh, srow_get, List.getD_eq_getElem?_getD, List.getElem?_eq_getElem hi]
    rfl

set_option maxHeartbeats 1600000 in
theorem sameTexts (va vb : Value) (xs ys : List ByteArray) (w : World) (h1 : Reads w va xs) (h2 : Reads w vb ys) (hz : xs.length ≤ 140737488355328) (hy : ys.length ≤ 140737488355328) :
    Calls Tryd.prog 13 #[va, vb] w fun e w' => e = .returned (.bool (decide (xs = ys))) ∧ Below w.heap.size w w' := by
  obtain ⟨a, cap, rfl, h1⟩ := h1
  obtain ⟨a', cap', rfl, h2⟩ := h2
  by_cases hl : xs.length = ys.length
  · have hl' : ((xs.length : Int) == (ys.length : Int)) = true := by rw [beq_iff_eq]; omega
    rcases h1 with h0 | ⟨b, off, rfl, hc⟩
    · have e1 : xs = [] := List.length_eq_zero_iff.1 h0
      have e2 : ys = [] := List.length_eq_zero_iff.1 (by omega)
      subst e1 e2
      go_enter Tryd.func13, Tryd.ntmps13
      go_wp2
      go_loopw [5] (fun i wr => i = .int .i64 0 ∧ wr = w) (fun i _ => 0)
      case atStart => exact ⟨rfl, rfl⟩
      case round =>
        obtain ⟨rfl, rfl⟩ := hrel
        go_wp2
        go_ret
        exact ⟨rfl, Below.refl _ _⟩
    · rcases h2 with h0 | ⟨b', off', rfl, hc'⟩
      · have e2 : ys = [] := List.length_eq_zero_iff.1 h0
        have e1 : xs = [] := List.length_eq_zero_iff.1 (by omega)
        subst e1 e2
        clear hc
        go_enter Tryd.func13, Tryd.ntmps13
        go_wp2
        go_loopw [5] (fun i wr => i = .int .i64 0 ∧ wr = w) (fun i _ => 0)
        case atStart => exact ⟨rfl, rfl⟩
        case round =>
          obtain ⟨rfl, rfl⟩ := hrel
          go_wp2
          go_ret
          exact ⟨rfl, Below.refl _ _⟩
      · have HC : Hid (∀ i, i < xs.length → w.cell? ⟨b, off + i, none⟩ = some (.string (xs.getD i ByteArray.empty))) := hc
        have HC' : Hid (∀ i, i < ys.length → w.cell? ⟨b', off' + i, none⟩ = some (.string (ys.getD i ByteArray.empty))) := hc'
        clear hc hc'
        obtain ⟨D, HD⟩ : ∃ D, Hid (decide (xs = ys) = D) := ⟨_, rfl⟩
        rw [HD.out]
        obtain ⟨n, HN⟩ : ∃ n, Hid (xs.length = n) := ⟨_, rfl⟩
        have HM : Hid (ys.length = n) := hl.symm.trans HN.out
        rw [HN.out, HM.out] at hl'
        rw [HN.out] at HC hz
        rw [HM.out] at HC'
        rw [HN.out, HM.out]
        clear hl hy
        go_enter Tryd.func13, Tryd.ntmps13
        go_wp2
        go_loopw [5] (fun i wr => ∃ k : Nat, k ≤ n ∧ i = .int .i64 k ∧ Hid ((∀ j, j < k → xs.getD j ByteArray.empty = ys.getD j ByteArray.empty) ∧ Below w.heap.size w wr)) (fun i _ => (n - intOf i).toNat)
        case atStart => exact ⟨0, by omega, rfl, (fun j hj => by omega), Below.refl _ _⟩
        case round =>
          obtain ⟨k, hk, rfl, HL⟩ := hrel
          by_cases hlt : k < n
          · have hlt' : (k : Int) < n := by omega
            have c1 : wr.cell? ⟨b, off + k, none⟩ = some (.string (xs.getD k ByteArray.empty)) := (HL.out.2.cell (p := ⟨b, off + k, none⟩) (World.block_lt_of_cell? _ _ (HC.out k hlt))).trans (HC.out k hlt)
            have c2 : wr.cell? ⟨b', off' + k, none⟩ = some (.string (ys.getD k ByteArray.empty)) := (HL.out.2.cell (p := ⟨b', off' + k, none⟩) (World.block_lt_of_cell? _ _ (HC'.out k hlt))).trans (HC'.out k hlt)
            obtain ⟨X, HX⟩ : ∃ X, Hid (xs.getD k ByteArray.empty = X) := ⟨_, rfl⟩
            obtain ⟨Y, HY⟩ : ∃ Y, Hid (ys.getD k ByteArray.empty = Y) := ⟨_, rfl⟩
            rw [HX.out] at c1
            rw [HY.out] at c2
            by_cases he : X = Y
            · have hb : (X.toList == Y.toList) = true := by rw [he]; exact beq_self_eq_true _
              have HE : Hid (X = Y) := he
              clear he
              go_wp2_with fail
              go_quiet (fail)
              generalize hW : wr.drewN nq = wr2
              have HB3 : Hid (Below w.heap.size w wr2) := by subst hW; exact below_dN HL.out.2 nq
              clear hW
              go_wp2
              go_roundw
              case rel =>
                refine ⟨k + 1, by omega, by go_num, fun j hj => ?_, HB3.out⟩
                rcases Nat.lt_or_ge j k with h | h
                · exact HL.out.1 j h
                · obtain rfl : j = k := by omega
                  rw [HX.out, HY.out, HE.out]
              case measure => simp [intOf]; omega
            · have hb : (X.toList == Y.toList) = false := by rw [toList_bs]; exact decide_eq_false he
              have HF : Hid (D = false) := by
                show _ = _
                rw [← HD.out]
                refine decide_eq_false (fun e => he ?_)
                rw [← HX.out, ← HY.out, e]
              clear he
              go_wp2_with fail
              go_quiet (fail)
              generalize hW : wr.drewN nq = wr2
              have HB3 : Hid (Below w.heap.size w wr2) := by subst hW; exact below_dN HL.out.2 nq
              clear hW
              go_wp2
              go_ret
              exact ⟨by rw [HF.out]; rfl, HB3.out⟩
          · have hlt' : ¬ (k : Int) < n := by omega
            obtain rfl : k = n := by omega
            have HT : Hid (D = true) := by
              show _ = _
              rw [← HD.out]
              refine decide_eq_true ?_
              apply List.ext_getElem
              · rw [HN.out, HM.out]
              · intro j g1 g2
                have := HL.out.1 j (by rw [← HN.out]; exact g1)
                rw [List.getD_eq_getElem?_getD, List.getD_eq_getElem?_getD, List.getElem?_eq_getElem g1, List.getElem?_eq_getElem g2] at this
                exact this
            go_wp2
            go_ret
            exact ⟨by rw [HT.out]; rfl, HL.out.2⟩
  · have hl' : ((xs.length : Int) == (ys.length : Int)) = false := beq_eq_false_iff_ne.2 (by omega)
    have HD : Hid (decide (xs = ys) = false) := decide_eq_false (fun e => hl (by rw [e]))
    rw [HD.out]
    generalize xs.length = n at *
    generalize ys.length = m at *
    clear h1 h2
    go_enter Tryd.func13, Tryd.ntmps13
    go_wp2
    go_ret
    exact ⟨rfl, Below.refl _ _⟩
end Go.Proofs.YthblljfkodbbeabDoor.vc
