import Derived.Test.YtmldkecaghokeaaDoorV2
namespace Go.Proofs.YtmldkecaghokeaaDoor.u3
open Go.RowKit Go.PlainAid Go.Shelf
open Go.Proofs.YtmldkecaghokeaaDoor.ft Go.Proofs.YtmldkecaghokeaaDoor.pj Go.Proofs.YtmldkecaghokeaaDoor.rf Go.Proofs.YtmldkecaghokeaaDoor.mo Go.Proofs.YtmldkecaghokeaaDoor.ta Go.Proofs.YtmldkecaghokeaaDoor.tb Go.Proofs.YtmldkecaghokeaaDoor.tc Go.Proofs.YtmldkecaghokeaaDoor.tj Go.Proofs.YtmldkecaghokeaaDoor.wa Go.Proofs.YtmldkecaghokeaaDoor.u1 Go.Proofs.YtmldkecaghokeaaDoor.u2
set_option linter.unusedVariables false
set_option maxRecDepth 4000

set_option maxHeartbeats 3200000 in
theorem promisedN (sec leaf h m : ByteArray) (t d : Int) (zs : sec.size ≤ 1048576) (zl : leaf.size ≤ 1048576) (zm : m.size ≤ 1048576) (ht : I64 t) (hd : I64 d) (he : ¬ h = sha leaf) (w : World) (T : Hid (Tab w)) (P : Hid (PowT w)) :
    Calls Tryd.prog 4 #[.string sec, .string leaf, .agg #[.string h, .int .i64 t, .int .i64 d, .string m]] w fun e w' => e = .returned (.bool (prm sec leaf h t d m)) ∧ Below w.heap.size w w' := by
  have C1 : Hid (∀ w, Tab w → Calls _ _ _ _ _) := fun w TX => Sum leaf w (by omega) TX
  have BA : Hid (Below w.heap.size w (w.alloc (.cells #[.string h, .int .i64 t, .int .i64 d, .string m] 23))) := (Below.refl _ _).alloc (Nat.le_refl _) _
  obtain ⟨W, HW⟩ : ∃ W, Hid (w.alloc (.cells #[.string h, .int .i64 t, .int .i64 d, .string m] 23) = W) := ⟨_, rfl⟩
  have SX : Hid (∀ w', Below (w.heap.size + 1) W w' → w'.cell? ⟨w.heap.size, 0, none⟩ = some (.string h) ∧ w'.cell? ⟨w.heap.size, 1, none⟩ = some (.int .i64 t) ∧ w'.cell? ⟨w.heap.size, 2, none⟩ = some (.int .i64 d) ∧ w'.cell? ⟨w.heap.size, 3, none⟩ = some (.string m)) := by
    rw [← HW.out]; exact fun w' h => box4 w w' _ _ _ _ _ h
  have zW : W.heap.size = w.heap.size + 1 := by rw [← HW.out]; simp
  have B0 : Hid (Below (w.heap.size + 1) W W.drew) := below_dr (Below.refl _ _)
  rw [HW.out] at BA
  have PP : Hid (∀ w', Below (w.heap.size + 1) W w' → PowT w') := fun w' h => P.out.down (BA.out.trans (h.mono (by omega)))
  have TT : Hid (∀ w', Below (w.heap.size + 1) W w' → Tab w') := fun w' h => T.out.down (BA.out.trans (h.mono (by omega)))
  have hshz := sha_size leaf
  have HR : Hid (prm sec leaf h t d m = false) := by show _ = _; unfold prm; rw [decide_eq_false he, Bool.false_and]
  rw [HR.out]
  have g : (h.toList == (sha leaf).toList) = false := by rw [toList_bs]; exact decide_eq_false he
  generalize sha leaf = sl at *
  clear he HR hshz
  go_enter Tryd.func4, Tryd.ntmps4
  go_wp2_with fail
  rw [HW.out]
  obtain ⟨p0, p1, p2, p3⟩ := SX.out _ (Below.refl _ _)
  refine wp_region_any (by kernel_rfl) ?_
  (try (change wpAny _ _ _ _ _ _ _ (World.drew _)))
  refine wpAny_take (i := 0) (v := .pointer (some ⟨w.heap.size, 0, none⟩)) rfl (by kernel_rfl) (by kernel_rfl) (by kernel_rfl) (fun _ _ _ h => h) (Or.inl ⟨by kernel_rfl, fun w => by go_simp⟩) ?_
  refine wpAny_take (i := 2) (v := .string leaf) rfl (by kernel_rfl) (by kernel_rfl) (by kernel_rfl) (fun _ _ _ h => h) (Or.inl ⟨by kernel_rfl, fun w => by go_simp⟩) ?_
  refine wpAny_ready (rs := [1, 3]) (by kernel_rfl) (by simp) ?_
  refine AllReady.cons rfl (fun K hK => ?_) (AllReady.cons rfl (fun K hK => ?_) AllReady.nil)
  · go_simp
    refine hK _ _ ?_
    clear hK K
    refine wpAny_ready (rs := [3]) (by kernel_rfl) (by simp) ?_
    refine AllReady.cons rfl (fun K hK => ?_) AllReady.nil
    go_simp
    go_wp2_with (go_at_call 7; refine (C1.out _ (TT.out _ B0.out)).mono ?_; rintro _ w1 ⟨rfl, k1⟩; have B1 : Hid (Below (w.heap.size + 1) W w1) := (B0.out.trans (k1.mono (by show _ ≤ W.heap.size; omega))); clear k1; obtain ⟨q0, q1, q2, q3⟩ := SX.out _ B1.out)
    (first | (refine hK _ _ ?_; clear hK K) | skip)
    refine wpAny_take (i := 4) (v := .bool false) rfl (by kernel_rfl) (by kernel_rfl) (by kernel_rfl) (fun _ _ _ h => h) (Or.inl ⟨by kernel_rfl, fun w => by go_simp⟩) ?_
    refine wpAny_take (i := 5) (v := .bool false) rfl (by kernel_rfl) (by kernel_rfl) (by kernel_rfl) (fun _ _ _ h => h) (Or.inl ⟨by kernel_rfl, fun w => by go_simp⟩) ?_
    refine wpAny_take (i := 6) (v := undef) rfl (by kernel_rfl) (by kernel_rfl) (by kernel_rfl) (fun _ _ _ h => h) (Or.inr ⟨by kernel_rfl, rfl⟩) ?_
    refine wpAny_take (i := 7) (v := undef) rfl (by kernel_rfl) (by kernel_rfl) (by kernel_rfl) (fun _ _ _ h => h) (Or.inr ⟨by kernel_rfl, rfl⟩) ?_
    refine wpAny_take (i := 8) (v := undef) rfl (by kernel_rfl) (by kernel_rfl) (by kernel_rfl) (fun _ _ _ h => h) (Or.inr ⟨by kernel_rfl, rfl⟩) ?_
    refine wpAny_take (i := 9) (v := undef) rfl (by kernel_rfl) (by kernel_rfl) (by kernel_rfl) (fun _ _ _ h => h) (Or.inr ⟨by kernel_rfl, rfl⟩) ?_
    refine wpAny_take (i := 10) (v := undef) rfl (by kernel_rfl) (by kernel_rfl) (by kernel_rfl) (fun _ _ _ h => h) (Or.inr ⟨by kernel_rfl, rfl⟩) ?_
    refine wpAny_take (i := 11) (v := undef) rfl (by kernel_rfl) (by kernel_rfl) (by kernel_rfl) (fun _ _ _ h => h) (Or.inr ⟨by kernel_rfl, rfl⟩) ?_
    refine wpAny_take (i := 12) (v := .bool false) rfl (by kernel_rfl) (by kernel_rfl) (by kernel_rfl) (fun _ _ _ h => h) (Or.inl ⟨by kernel_rfl, fun w => by go_simp⟩) ?_
    refine wpAny_take (i := 13) (v := .bool false) rfl (by kernel_rfl) (by kernel_rfl) (by kernel_rfl) (fun _ _ _ h => h) (Or.inl ⟨by kernel_rfl, fun w => by go_simp⟩) ?_
    refine wpAny_done (by kernel_rfl) ?_ _
    go_wp2
    go_ret
    exact ⟨by kernel_rfl, BA.out.trans (B1.out.mono (by omega))⟩
  · go_simp
    go_wp2_with (go_at_call 7; refine (C1.out _ (TT.out _ B0.out)).mono ?_; rintro _ w1 ⟨rfl, k1⟩; have B1 : Hid (Below (w.heap.size + 1) W w1) := (B0.out.trans (k1.mono (by show _ ≤ W.heap.size; omega))); clear k1; obtain ⟨q0, q1, q2, q3⟩ := SX.out _ B1.out)
    (first | (refine hK _ _ ?_; clear hK K) | skip)
    refine wpAny_ready (rs := [1]) (by kernel_rfl) (by simp) ?_
    refine AllReady.cons rfl (fun K hK => ?_) AllReady.nil
    go_simp
    refine hK _ _ ?_
    clear hK K
    refine wpAny_take (i := 4) (v := .bool false) rfl (by kernel_rfl) (by kernel_rfl) (by kernel_rfl) (fun _ _ _ h => h) (Or.inl ⟨by kernel_rfl, fun w => by go_simp⟩) ?_
    refine wpAny_take (i := 5) (v := .bool false) rfl (by kernel_rfl) (by kernel_rfl) (by kernel_rfl) (fun _ _ _ h => h) (Or.inl ⟨by kernel_rfl, fun w => by go_simp⟩) ?_
    refine wpAny_take (i := 6) (v := undef) rfl (by kernel_rfl) (by kernel_rfl) (by kernel_rfl) (fun _ _ _ h => h) (Or.inr ⟨by kernel_rfl, rfl⟩) ?_
    refine wpAny_take (i := 7) (v := undef) rfl (by kernel_rfl) (by kernel_rfl) (by kernel_rfl) (fun _ _ _ h => h) (Or.inr ⟨by kernel_rfl, rfl⟩) ?_
    refine wpAny_take (i := 8) (v := undef) rfl (by kernel_rfl) (by kernel_rfl) (by kernel_rfl) (fun _ _ _ h => h) (Or.inr ⟨by kernel_rfl, rfl⟩) ?_
    refine wpAny_take (i := 9) (v := undef) rfl (by kernel_rfl) (by kernel_rfl) (by kernel_rfl) (fun _ _ _ h => h) (Or.inr ⟨by kernel_rfl, rfl⟩) ?_
    refine wpAny_take (i := 10) (v := undef) rfl (by kernel_rfl) (by kernel_rfl) (by kernel_rfl) (fun _ _ _ h => h) (Or.inr ⟨by kernel_rfl, rfl⟩) ?_
    refine wpAny_take (i := 11) (v := undef) rfl (by kernel_rfl) (by kernel_rfl) (by kernel_rfl) (fun _ _ _ h => h) (Or.inr ⟨by kernel_rfl, rfl⟩) ?_
    refine wpAny_take (i := 12) (v := .bool false) rfl (by kernel_rfl) (by kernel_rfl) (by kernel_rfl) (fun _ _ _ h => h) (Or.inl ⟨by kernel_rfl, fun w => by go_simp⟩) ?_
    refine wpAny_take (i := 13) (v := .bool false) rfl (by kernel_rfl) (by kernel_rfl) (by kernel_rfl) (fun _ _ _ h => h) (Or.inl ⟨by kernel_rfl, fun w => by go_simp⟩) ?_
    refine wpAny_done (by kernel_rfl) ?_ _
    go_wp2
    go_ret
    exact ⟨by kernel_rfl, BA.out.trans (B1.out.mono (by omega))⟩
end Go.Proofs.YtmldkecaghokeaaDoor.u3

namespace Go.Proofs.YtmldkecaghokeaaDoor.u4
open Go.RowKit Go.PlainAid Go.Shelf
open Go.Proofs.YtmldkecaghokeaaDoor.ft Go.Proofs.YtmldkecaghokeaaDoor.pj Go.Proofs.YtmldkecaghokeaaDoor.rf Go.Proofs.YtmldkecaghokeaaDoor.mo Go.Proofs.YtmldkecaghokeaaDoor.ta Go.Proofs.YtmldkecaghokeaaDoor.tb Go.Proofs.YtmldkecaghokeaaDoor.tc Go.Proofs.YtmldkecaghokeaaDoor.tj Go.Proofs.YtmldkecaghokeaaDoor.wa Go.Proofs.YtmldkecaghokeaaDoor.u1 Go.Proofs.YtmldkecaghokeaaDoor.u2 Go.Proofs.YtmldkecaghokeaaDoor.u3
set_option linter.unusedVariables false
set_option maxRecDepth 4000

theorem promisedC (sec leaf h m : ByteArray) (t d : Int) (zs : sec.size ≤ 1048576) (zl : leaf.size ≤ 1048576) (zm : m.size ≤ 1048576) (ht : I64 t) (hd : I64 d) (w : World) (T : Hid (Tab w)) (P : Hid (PowT w)) :
    Calls Tryd.prog 4 #[.string sec, .string leaf, .agg #[.string h, .int .i64 t, .int .i64 d, .string m]] w fun e w' => e = .returned (.bool (prm sec leaf h t d m)) ∧ Below w.heap.size w w' := by
  by_cases he : h = sha leaf
  · exact promisedY sec leaf h m t d zs zl zm ht hd he w T P
  · exact promisedN sec leaf h m t d zs zl zm ht hd he w T P
set_option maxHeartbeats 3200000 in
theorem promisedD (sec leaf h m : ByteArray) (t d : Int) (zs : sec.size ≤ 1048576) (zl : leaf.size ≤ 1048576) (zh : h.size ≤ 1048576) (ht : I64 t) (hd : I64 d) (w : World) (T : Hid (Tab4 w)) :
    Calls Tryd.prog 5 #[.string sec, .string leaf, .agg #[.string h, .int .i64 t, .int .i64 d, .string m]] w fun e w' => e = .returned (.bool (prm sec leaf h t d m)) ∧ Below w.heap.size w w' := by
  have C1 : Hid (∀ w, Tab4 w → Calls _ _ _ _ _) := fun w TX => RSum leaf w (by omega) TX
  have C2 : Hid (∀ w, Tab4 w → Calls _ _ _ _ _) := fun w TX => codeD sec h m t d zs zh ht hd w TX
  have BA : Hid (Below w.heap.size w (w.alloc (.cells #[.string h, .int .i64 t, .int .i64 d, .string m] 23))) := (Below.refl _ _).alloc (Nat.le_refl _) _
  obtain ⟨W, HW⟩ : ∃ W, Hid (w.alloc (.cells #[.string h, .int .i64 t, .int .i64 d, .string m] 23) = W) := ⟨_, rfl⟩
  have SX : Hid (∀ w', Below (w.heap.size + 1) W w' → w'.cell? ⟨w.heap.size, 0, none⟩ = some (.string h) ∧ w'.cell? ⟨w.heap.size, 1, none⟩ = some (.int .i64 t) ∧ w'.cell? ⟨w.heap.size, 2, none⟩ = some (.int .i64 d) ∧ w'.cell? ⟨w.heap.size, 3, none⟩ = some (.string m)) := by
    rw [← HW.out]; exact fun w' h => box4 w w' _ _ _ _ _ h
  have zW : W.heap.size = w.heap.size + 1 := by rw [← HW.out]; simp
  rw [HW.out] at BA
  have TT : Hid (∀ w', Below (w.heap.size + 1) W w' → Tab4 w') := fun w' h => T.out.down (BA.out.trans (h.mono (by omega)))
  have T0 : Hid (Tab4 W) := TT.out _ (Below.refl _ _)
  obtain ⟨r, HR⟩ : ∃ r, Hid (prm sec leaf h t d m = r) := ⟨_, rfl⟩
  rw [HR.out]
  have g1 : (h.toList == (sha leaf).toList) = decide (h = sha leaf) := toList_bs _ _
  have g2 : (m.toList == (macF sec (tX h t d)).toList) = decide (m = macF sec (tX h t d)) := toList_bs _ _
  have HRR : Hid ((decide (h = sha leaf) && decide (m = macF sec (tX h t d))) = r) := HR.out
  generalize decide (h = sha leaf) = y1 at *
  generalize decide (m = macF sec (tX h t d)) = y2 at *
  generalize macF sec (tX h t d) = c at *
  generalize sha leaf = sl at *
  clear HR
  cases y1
  all_goals cases y2
  all_goals (
    have HF : Hid (_ = r) := HRR.out
    clear HRR
    go_enter Tryd.func5, Tryd.ntmps5
    go_wp2_with fail
    rw [HW.out]
    go_wp2_with fail
    refine (C1.out _ T0.out).mono ?_
    rintro e w1 ⟨rfl, hb1⟩
    have B1 : Hid (Below (w.heap.size + 1) W w1) := hb1.mono (by omega)
    clear hb1
    obtain ⟨p0, p1, p2, p3⟩ := SX.out _ B1.out
    go_wp2_with fail
    refine (C2.out _ (TT.out _ B1.out)).mono ?_
    rintro e w2 ⟨rfl, hb2⟩
    have B2 : Hid (Below (w.heap.size + 1) W w2) := B1.out.trans (hb2.mono (by have := B1.out.size; omega))
    clear hb2 p0 p1 p2 p3
    obtain ⟨p0, p1, p2, p3⟩ := SX.out _ B2.out
    go_wp2
    go_ret
    exact ⟨by rw [← HF.out]; rfl, BA.out.trans (B2.out.mono (by omega))⟩)
set_option maxHeartbeats 3200000 in
theorem law_promised (sec leaf h m : ByteArray) (t d : Int) (zs : sec.size ≤ 1048576) (zl : leaf.size ≤ 1048576) (zh : h.size ≤ 1048576) (zm : m.size ≤ 1048576) (ht : I64 t) (hd : I64 d) (w : World) (tabs : St8 w 1 ∧ K64 w 3 ∧ St8 w 0 ∧ K64 w 2) (PT : PowT w) :
    Calls Tryd.prog 3 #[.string sec, .string leaf, .agg #[.string h, .int .i64 t, .int .i64 d, .string m]] w fun e w' => e = .returned (.bool true) ∧ Below w.heap.size w w' := by
  have T : Hid (Tab4 w) := Tab4.of tabs
  have P : Hid (PowT w) := PT
  clear tabs PT
  have C1 : Hid (∀ w, Tab w → PowT w → Calls _ _ _ _ _) := fun w TX PX => promisedC sec leaf h m t d zs zl zm ht hd w TX PX
  have C2 : Hid (∀ w, Tab4 w → Calls _ _ _ _ _) := fun w TX => promisedD sec leaf h m t d zs zl zh ht hd w TX
  have C3 : Hid (∀ w, Tab4 w → Calls _ _ _ _ _) := fun w TX => codeD sec h m t d zs zh ht hd w TX
  have zc : (macF sec (tX h t d)).size = 32 := macF_size _ _
  obtain ⟨c, HC⟩ : ∃ c, Hid (macF sec (tX h t d) = c) := ⟨_, rfl⟩
  rw [HC.out] at C3 zc
  have C4 : Hid (∀ w, Tab w → PowT w → Calls _ _ _ _ _) := fun w TX PX => promisedC sec leaf h c t d zs zl (by omega) ht hd w TX PX
  have C5 : Hid (∀ w, Tab4 w → Calls _ _ _ _ _) := fun w TX => promisedD sec leaf h c t d zs zl zh ht hd w TX
  generalize prm sec leaf h t d m = r1 at *
  generalize prm sec leaf h t d c = r2 at *
  clear HC zc
  have BA : Hid (Below w.heap.size w (w.alloc (.cells #[.string h, .int .i64 t, .int .i64 d, .string m] 23))) := (Below.refl _ _).alloc (Nat.le_refl _) _
  obtain ⟨W, HW⟩ : ∃ W, Hid (w.alloc (.cells #[.string h, .int .i64 t, .int .i64 d, .string m] 23) = W) := ⟨_, rfl⟩
  have HBK : Hid (W.heap[w.heap.size]? = some (.cells #[.string h, .int .i64 t, .int .i64 d, .string m] 23 (0, 0))) := by rw [← HW.out]; exact heap_alloc_new w _
  have zW : W.heap.size = w.heap.size + 1 := by rw [← HW.out]; simp
  rw [HW.out] at BA
  have SB : Hid (∀ w', Below (w.heap.size + 1) W w' → w'.heap[w.heap.size]? = some (.cells #[.string h, .int .i64 t, .int .i64 d, .string m] 23 (0, 0))) := fun w' h => (h.block w.heap.size (by omega)).trans HBK.out
  have TT : Hid (∀ w', Below w.heap.size w w' → Tab4 w') := fun w' h => T.out.down h
  have PP : Hid (∀ w', Below w.heap.size w w' → PowT w') := fun w' h => P.out.down h
  have T0 : Hid (Tab4 W) := TT.out _ BA.out
  have P0 : Hid (PowT W) := PP.out _ BA.out
  go_enter Tryd.func3, Tryd.ntmps3
  go_wp2_with fail
  rw [HW.out]
  have a0 := cell_of_row _ _ 0 _ _ _ HBK.out
  have a1 := cell_of_row _ _ 1 _ _ _ HBK.out
  have a2 := cell_of_row _ _ 2 _ _ _ HBK.out
  have a3 := cell_of_row _ _ 3 _ _ _ HBK.out
  go_wp2_with fail
  refine (C1.out _ T0.out.t P0.out).mono ?_
  rintro e w1 ⟨rfl, hb1⟩
  have B1 : Hid (Below (w.heap.size + 1) W w1) := hb1.mono (by omega)
  have BB1 : Hid (Below w.heap.size w w1) := BA.out.trans (B1.out.mono (by omega))
  clear hb1 a0 a1 a2 a3
  have a0 := cell_of_row _ _ 0 _ _ _ (SB.out _ B1.out)
  have a1 := cell_of_row _ _ 1 _ _ _ (SB.out _ B1.out)
  have a2 := cell_of_row _ _ 2 _ _ _ (SB.out _ B1.out)
  have a3 := cell_of_row _ _ 3 _ _ _ (SB.out _ B1.out)
  go_wp2_with fail
  refine (C2.out _ (TT.out _ BB1.out)).mono ?_
  rintro e w2 ⟨rfl, hb2⟩
  have B2 : Hid (Below (w.heap.size + 1) W w2) := B1.out.trans (hb2.mono (by have := B1.out.size; omega))
  have BB2 : Hid (Below w.heap.size w w2) := BA.out.trans (B2.out.mono (by omega))
  clear hb2 a0 a1 a2 a3
  have a0 := cell_of_row _ _ 0 _ _ _ (SB.out _ B2.out)
  have a1 := cell_of_row _ _ 1 _ _ _ (SB.out _ B2.out)
  have a2 := cell_of_row _ _ 2 _ _ _ (SB.out _ B2.out)
  have a3 := cell_of_row _ _ 3 _ _ _ (SB.out _ B2.out)
  go_wp2_with fail
  refine (C3.out _ (TT.out _ BB2.out)).mono ?_
  rintro e w3 ⟨rfl, hb3⟩
  have B3 : Hid (Below (w.heap.size + 1) W w3) := B2.out.trans (hb3.mono (by have := B2.out.size; omega))
  have BB3 : Hid (Below w.heap.size w w3) := BA.out.trans (B3.out.mono (by omega))
  clear hb3 a0 a1 a2 a3
  have a0 := cell_of_row _ _ 0 _ _ _ (SB.out _ B3.out)
  have a1 := cell_of_row _ _ 1 _ _ _ (SB.out _ B3.out)
  have a2 := cell_of_row _ _ 2 _ _ _ (SB.out _ B3.out)
  have a3 := cell_of_row _ _ 3 _ _ _ (SB.out _ B3.out)
  have f3 := frozen_of_row _ _ 3 _ _ (SB.out _ B3.out)
  obtain ⟨V, HV⟩ : ∃ V, Hid (w3.setCell ⟨w.heap.size, 3, none⟩ (.string c) = V) := ⟨_, rfl⟩
  have HBV : Hid (V.heap[w.heap.size]? = some (.cells #[.string h, .int .i64 t, .int .i64 d, .string c] 23 (0, 0))) := by
    rw [← HV.out]; exact heap_setCell_same _ _ 3 _ _ (.string c) (SB.out _ B3.out)
  have BV3 : Hid (Below w.heap.size w3 V) := by rw [← HV.out]; exact Below.setCell (p := ⟨w.heap.size, 3, none⟩) (Below.refl w.heap.size w3) (Nat.le_refl w.heap.size) (.string c)
  have BBV : Hid (Below w.heap.size w V) := BB3.out.trans BV3.out
  have zV : w.heap.size < V.heap.size := (Array.getElem?_eq_some_iff.1 HBV.out).1
  have SV : Hid (∀ w', Below V.heap.size V w' → w'.heap[w.heap.size]? = some (.cells #[.string h, .int .i64 t, .int .i64 d, .string c] 23 (0, 0))) := fun w' h => (h.block w.heap.size zV).trans HBV.out
  have b0 := cell_of_row _ _ 0 _ _ _ HBV.out
  have b1 := cell_of_row _ _ 1 _ _ _ HBV.out
  have b2 := cell_of_row _ _ 2 _ _ _ HBV.out
  have b3 := cell_of_row _ _ 3 _ _ _ HBV.out
  have TV : Hid (Tab4 V) := TT.out _ BBV.out
  have PV : Hid (PowT V) := PP.out _ BBV.out
  go_wp2_with fail
  rw [HV.out]
  refine (C4.out _ TV.out.t PV.out).mono ?_
  rintro e w4 ⟨rfl, hb4⟩
  have B4 : Hid (Below V.heap.size V w4) := hb4
  have BB4 : Hid (Below w.heap.size w w4) := BBV.out.trans (hb4.mono BBV.out.size)
  clear hb4 b0 b1 b2 b3 a0 a1 a2 a3 f3
  have a0 := cell_of_row _ _ 0 _ _ _ (SV.out _ B4.out)
  have a1 := cell_of_row _ _ 1 _ _ _ (SV.out _ B4.out)
  have a2 := cell_of_row _ _ 2 _ _ _ (SV.out _ B4.out)
  have a3 := cell_of_row _ _ 3 _ _ _ (SV.out _ B4.out)
  go_wp2_with fail
  refine (C5.out _ (TT.out _ BB4.out)).mono ?_
  rintro e w5 ⟨rfl, hb5⟩
  have BB5 : Hid (Below w.heap.size w w5) := BB4.out.trans (hb5.mono BB4.out.size)
  clear hb5
  cases r1
  all_goals cases r2
  all_goals (
    go_wp2
    go_ret
    exact ⟨rfl, BB5.out⟩)
end Go.Proofs.YtmldkecaghokeaaDoor.u4
