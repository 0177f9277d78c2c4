import Derived.Test.YtmldkecaghokeaaDoorV1
import Derived.Test.YtmldkecaghokeaaDoorFu
namespace Go.Proofs.YtmldkecaghokeaaDoor.u2
open Go.RowKit Go.PlainAid Go.Shelf
open Go.Proofs.YtmldkecaghokeaaDoor.ft Go.Proofs.YtmldkecaghokeaaDoor.pj Go.Proofs.YtmldkecaghokeaaDoor.rf Go.Proofs.YtmldkecaghokeaaDoor.mo Go.Proofs.YtmldkecaghokeaaDoor.ta Go.Proofs.YtmldkecaghokeaaDoor.tb Go.Proofs.YtmldkecaghokeaaDoor.tc Go.Proofs.YtmldkecaghokeaaDoor.tj Go.Proofs.YtmldkecaghokeaaDoor.wa Go.Proofs.YtmldkecaghokeaaDoor.u1
set_option linter.unusedVariables false
set_option maxRecDepth 4000

set_option maxHeartbeats 3200000 in
theorem codeD (sec h m : ByteArray) (t d : Int) (zs : sec.size ≤ 1048576) (zh : h.size ≤ 1048576) (ht : I64 t) (hd : I64 d) (w : World) (T : Hid (Tab4 w)) :
    Calls Tryd.prog 6 #[.string sec, .agg #[.string h, .int .i64 t, .int .i64 d, .string m]] w fun e w' => e = .returned (.string (macF sec (tX h t d))) ∧ Below w.heap.size w w' := by
  have C1 : Hid (∀ w, Calls _ _ _ _ _) := fun w => tn.rHex h (by omega) w
  have C2 : Hid (∀ w, Calls Tryd.prog 12 #[.int .i64 t] w fun e w' => e = .returned (.string (decS t)) ∧ Below w.heap.size w w') := fun w => (wc.rDec (t.natAbs + 1) t ht (by omega) w).mono (by rintro e w' ⟨h1, h2⟩; rw [h2]; exact ⟨h1, Below.refl _ _⟩)
  have C3 : Hid (∀ w, Calls Tryd.prog 12 #[.int .i64 d] w fun e w' => e = .returned (.string (decS d)) ∧ Below w.heap.size w w') := fun w => (wc.rDec (d.natAbs + 1) d hd (by omega) w).mono (by rintro e w' ⟨h1, h2⟩; rw [h2]; exact ⟨h1, Below.refl _ _⟩)
  have zt := tX_size h t d ht hd
  have zx : (str (hexL (bs h))).size = 2 * h.size := by rw [str_size, hexL_length, bs_length]
  have e1 := dec_size t ht
  have e2 := dec_size d hd
  have HTX : Hid (tX h t d = (⟨#[112, 114, 111, 109, 105, 115, 101, 10]⟩ : ByteArray) ++ str (hexL (bs h)) ++ ⟨#[10]⟩ ++ decS t ++ ⟨#[10]⟩ ++ decS d ++ ⟨#[10]⟩) := rfl
  have C5 : Hid (∀ X, Tab4 X → Calls _ _ _ _ _) := fun X TX => mq.rmac sec (tX h t d) X (by omega) (by omega) TX
  have l8 : (⟨#[112, 114, 111, 109, 105, 115, 101, 10]⟩ : ByteArray).size = 8 := rfl
  have l1 : (⟨#[10]⟩ : ByteArray).size = 1 := rfl
  obtain ⟨hx, HHX⟩ : ∃ hx, Hid (str (hexL (bs h)) = hx) := ⟨_, rfl⟩
  obtain ⟨dt, HDT⟩ : ∃ dt, Hid (decS t = dt) := ⟨_, rfl⟩
  obtain ⟨dd, HDD⟩ : ∃ dd, Hid (decS d = dd) := ⟨_, rfl⟩
  rw [HHX.out] at C1 zx HTX
  rw [HDT.out] at C2 e1 HTX
  rw [HDD.out] at C3 e2 HTX
  rw [HTX.out] at C5 ⊢
  have zx2 : hx.size ≤ 2097152 := by omega
  clear zt zx HTX HHX HDT HDD
  obtain ⟨M, HM⟩ : ∃ M, Hid (macF sec ((⟨#[112, 114, 111, 109, 105, 115, 101, 10]⟩ : ByteArray) ++ hx ++ ⟨#[10]⟩ ++ dt ++ ⟨#[10]⟩ ++ dd ++ ⟨#[10]⟩) = M) := ⟨_, rfl⟩
  rw [HM.out] at C5 ⊢
  have BA : Hid (Below w.heap.size w (w.alloc (.cells #[.string h, .int .i64 t, .int .i64 d, .string m] 23))) := (Below.refl _ _).alloc (Nat.le_refl _) _
  obtain ⟨W, HW⟩ : ∃ W, Hid (w.alloc (.cells #[.string h, .int .i64 t, .int .i64 d, .string m] 23) = W) := ⟨_, rfl⟩
  have SX : Hid (∀ w', Below (w.heap.size + 1) W w' → w'.cell? ⟨w.heap.size, 0, none⟩ = some (.string h) ∧ w'.cell? ⟨w.heap.size, 1, none⟩ = some (.int .i64 t) ∧ w'.cell? ⟨w.heap.size, 2, none⟩ = some (.int .i64 d) ∧ w'.cell? ⟨w.heap.size, 3, none⟩ = some (.string m)) := by
    rw [← HW.out]; exact fun w' h => box4 w w' _ _ _ _ _ h
  have zW : W.heap.size = w.heap.size + 1 := by rw [← HW.out]; simp
  have B0 : Hid (Below (w.heap.size + 1) W W.drew) := below_dr (Below.refl _ _)
  rw [HW.out] at BA
  have TT : Hid (∀ w', Below (w.heap.size + 1) W w' → Tab4 w') := fun w' h => T.out.down (BA.out.trans (h.mono (by omega)))
  clear HM
  go_enter Tryd.func6, Tryd.ntmps6
  go_wp2_with fail
  rw [HW.out]
  go_region_held_law (fun w' => w'.cell? ⟨w.heap.size, 0, none⟩ = some (.string h) ∧ w'.cell? ⟨w.heap.size, 1, none⟩ = some (.int .i64 t) ∧ w'.cell? ⟨w.heap.size, 2, none⟩ = some (.int .i64 d)) (first | exact ⟨(SX.out _ B0.out).1, (SX.out _ B0.out).2.1, (SX.out _ B0.out).2.2.1⟩ | exact ⟨(SX.out _ B1.out).1, (SX.out _ B1.out).2.1, (SX.out _ B1.out).2.2.1⟩ | exact ⟨(SX.out _ B2.out).1, (SX.out _ B2.out).2.1, (SX.out _ B2.out).2.2.1⟩ | exact ⟨(SX.out _ B3.out).1, (SX.out _ B3.out).2.1, (SX.out _ B3.out).2.2.1⟩) ((first | (go_at_call 11; (with_reducible refine (C1.out _).mono ?_); rintro _ w1 ⟨rfl, k1⟩; have B1 : Hid (Below (w.heap.size + 1) W w1) := (B0.out.trans (k1.mono (by show _ ≤ W.heap.size; omega))); clear k1) | (go_at_call 12; (with_reducible refine (C2.out _).mono ?_); rintro _ w2 ⟨rfl, k2⟩; have B2 : Hid (Below (w.heap.size + 1) W w2) := (B1.out.trans (k2.mono (by have := B1.out.size; omega))); clear k2) | (go_at_call 12; (with_reducible refine (C3.out _).mono ?_); rintro _ w3 ⟨rfl, k3⟩; have B3 : Hid (Below (w.heap.size + 1) W w3) := (B2.out.trans (k3.mono (by have := B2.out.size; omega))); clear k3)))
  all_goals (
    go_wp2_with fail
    refine (C5.out _ (TT.out _ B3.out)).mono ?_
    rintro e w5 ⟨rfl, hb5⟩
    have B5 : Hid (Below w.heap.size w w5) := BA.out.trans ((B3.out.trans (hb5.mono (by have := B3.out.size; omega))).mono (by omega))
    clear hb5
    go_wp2
    go_ret
    exact ⟨rfl, B5.out⟩)
-- was it promised?
def prm (sec leaf h : ByteArray) (t d : Int) (m : ByteArray) : Bool := decide (h = sha leaf) && decide (m = macF sec (tX h t d))
set_option maxHeartbeats 3200000 in
theorem promisedY (sec leaf h m : ByteArray) (t d : Int) (zs : sec.size ≤ 1048576) (zl : leaf.size ≤ 1048576) (zm : m.size ≤ 1048576) (ht : I64 t) (hd : I64 d) (he : h = sha leaf) (w : World) (T : Hid (Tab w)) (P : Hid (PowT w)) :
    Calls Tryd.prog 4 #[.string sec, .string leaf, .agg #[.string h, .int .i64 t, .int .i64 d, .string m]] w fun e w' => e = .returned (.bool (prm sec leaf h t d m)) ∧ Below w.heap.size w w' := by
  have C1 : Hid (∀ w, Tab w → Calls _ _ _ _ _) := fun w TX => Sum leaf w (by omega) TX
  have BA : Hid (Below w.heap.size w (w.alloc (.cells #[.string h, .int .i64 t, .int .i64 d, .string m] 23))) := (Below.refl _ _).alloc (Nat.le_refl _) _
  obtain ⟨W, HW⟩ : ∃ W, Hid (w.alloc (.cells #[.string h, .int .i64 t, .int .i64 d, .string m] 23) = W) := ⟨_, rfl⟩
  have SX : Hid (∀ w', Below (w.heap.size + 1) W w' → w'.cell? ⟨w.heap.size, 0, none⟩ = some (.string h) ∧ w'.cell? ⟨w.heap.size, 1, none⟩ = some (.int .i64 t) ∧ w'.cell? ⟨w.heap.size, 2, none⟩ = some (.int .i64 d) ∧ w'.cell? ⟨w.heap.size, 3, none⟩ = some (.string m)) := by
    rw [← HW.out]; exact fun w' h => box4 w w' _ _ _ _ _ h
  have zW : W.heap.size = w.heap.size + 1 := by rw [← HW.out]; simp
  have B0 : Hid (Below (w.heap.size + 1) W W.drew) := below_dr (Below.refl _ _)
  rw [HW.out] at BA
  have PP : Hid (∀ w', Below (w.heap.size + 1) W w' → PowT w') := fun w' h => P.out.down (BA.out.trans (h.mono (by omega)))
  have TT : Hid (∀ w', Below (w.heap.size + 1) W w' → Tab w') := fun w' h => T.out.down (BA.out.trans (h.mono (by omega)))
  have hshz := sha_size leaf
  have HR : Hid (prm sec leaf h t d m = decide (m = macF sec (tX h t d))) := by show _ = _; unfold prm; rw [decide_eq_true he, Bool.true_and]
  have zh : h.size ≤ 1048576 := by rw [he, hshz]; omega
  have C2 : Hid (∀ w, Tab w → PowT w → Calls _ _ _ _ _) := fun w TX PX => codeC sec h m t d zs zh ht hd w TX PX
  have zc : (macF sec (tX h t d)).size = 32 := macF_size _ _
  have C3 : Hid (∀ w, Calls _ _ _ _ _) := fun w => ng.same m (macF sec (tX h t d)) w (by omega) (by omega) 
  rw [HR.out]
  have g : (h.toList == (sha leaf).toList) = true := by rw [toList_bs]; exact decide_eq_true he
  generalize decide (m = macF sec (tX h t d)) = r at *
  generalize macF sec (tX h t d) = c at *
  generalize sha leaf = sl at *
  clear he HR zh zc hshz
  go_enter Tryd.func4, Tryd.ntmps4
  go_wp2_with fail
  rw [HW.out]
  obtain ⟨p0, p1, p2, p3⟩ := SX.out _ (Below.refl _ _)
  go_region_with (first | (go_at_call 7; refine (C1.out _ (TT.out _ B0.out)).mono ?_; rintro _ w1 ⟨rfl, k1⟩; have B1 : Hid (Below (w.heap.size + 1) W w1) := (B0.out.trans (k1.mono (by show _ ≤ W.heap.size; omega))); clear k1; obtain ⟨q0, q1, q2, q3⟩ := SX.out _ B1.out) | (go_at_call 9; refine (C2.out _ (TT.out _ B1.out) (PP.out _ B1.out)).mono ?_; rintro _ w2 ⟨rfl, k2⟩; have B2 : Hid (Below (w.heap.size + 1) W w2) := (B1.out.trans (k2.mono (by have := B1.out.size; omega))); clear k2; obtain ⟨r0, r1, r2, r3⟩ := SX.out _ B2.out) | (go_at_call 8; refine (C3.out _).mono ?_; rintro _ w3 ⟨rfl, k3⟩; have B3 : Hid (Below (w.heap.size + 1) W w3) := (B2.out.trans (k3.mono (by have := B2.out.size; omega))); clear k3))
  all_goals (
    go_wp2
    go_ret
    exact ⟨rfl, BA.out.trans (B3.out.mono (by omega))⟩)
end Go.Proofs.YtmldkecaghokeaaDoor.u2
