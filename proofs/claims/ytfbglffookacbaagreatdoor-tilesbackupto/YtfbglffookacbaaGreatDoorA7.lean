import Derived.Test.YtfbglffookacbaaGreatDoorA6
namespace Go.Proofs.YtfbglffookacbaaGreatDoor.a7
open Go.RowKit Go.PlainAid Go.Shelf
open Go.Proofs.YtfbglffookacbaaGreatDoor.tc Go.Proofs.YtfbglffookacbaaGreatDoor.wa Go.Proofs.YtfbglffookacbaaGreatDoor.ca Go.Proofs.YtfbglffookacbaaGreatDoor.cp Go.Proofs.YtfbglffookacbaaGreatDoor.sj Go.Proofs.YtfbglffookacbaaGreatDoor.a1 Go.Proofs.YtfbglffookacbaaGreatDoor.a2 Go.Proofs.YtfbglffookacbaaGreatDoor.a3 Go.Proofs.YtfbglffookacbaaGreatDoor.a4 Go.Proofs.YtfbglffookacbaaGreatDoor.a5 Go.Proofs.YtfbglffookacbaaGreatDoor.a6
set_option linter.unusedVariables false
set_option maxRecDepth 4000

theorem below_dr {B : Nat} {a w : World} (h : Below B a w) : Below B a w.drew := ⟨h.os, h.tape, h.output, h.size, h.block⟩
-- four texts, '/' between them
def j4 (a b c d : ByteArray) : ByteArray := a ++ slB ++ b ++ slB ++ c ++ slB ++ d
theorem join4 (a b c d : ByteArray) : (⟨(Lib.join ([a, b, c, d].map (·.data.toList)) slB.data.toList).toArray⟩ : ByteArray) = j4 a b c d := by
  apply ByteArray.ext
  simp only [j4, ByteArray.data_append]
  apply Array.ext'
  simp [Lib.join, List.intercalate, slB]
theorem join4_len (a b c d : ByteArray) : (Lib.join ([a, b, c, d].map (·.data.toList)) slB.data.toList).length = a.size + b.size + c.size + d.size + 3 := by
  have h := congrArg ByteArray.size (join4 a b c d)
  have e : (j4 a b c d).size = a.size + b.size + c.size + d.size + 3 := by
    unfold j4
    simp only [ByteArray.size_append]
    show a.size + 1 + b.size + 1 + c.size + 1 + d.size = _
    omega
  rw [e] at h
  rw [← h]
  simp [ByteArray.size]
theorem joinsC (a b c d : ByteArray) (hs : a.size + b.size + c.size + d.size ≤ 100000) (w : World) :
    Calls Tryz.prog 11 #[.slice (some ⟨w.heap.size, 0, none⟩) 4 4, .string slB] (w.alloc (.cells #[.string a, .string b, .string c, .string d] 9)) fun e w' => e = .returned (.string (j4 a b c d)) ∧ Below (w.heap.size + 1) (w.alloc (.cells #[.string a, .string b, .string c, .string d] 9)) w' := by
  have := Any.strings_Join_48 lays156 extra156 w.heap.size 0 4 [a, b, c, d] slB (w.alloc (.cells #[.string a, .string b, .string c, .string d] 9)) (fun j x hx => by
    rw [Nat.zero_add, World.cell?_alloc_at _ _ _ _ rfl]
    match j, hx with
    | 0, hx => injection hx with hx; subst hx; rfl
    | 1, hx => injection hx with hx; subst hx; rfl
    | 2, hx => injection hx with hx; subst hx; rfl
    | 3, hx => injection hx with hx; subst hx; rfl
    | j + 4, hx => exact absurd hx (by simp)) (by simp) (by show 4 ≤ _; omega) (by show 4 ≤ 4; omega) (by rw [join4_len]; omega)
  rw [join4] at this
  refine this.mono ?_
  rintro e w' ⟨rfl, hb⟩
  refine ⟨rfl, ?_⟩
  simpa using hb
-- the path, whole or with its count
theorem path_full {h l i c : Int} (g : ¬ c < 2 ^ h.toNat) : pathS h l i c = j4 tlB (decS h) (decS l) (ixS i.toNat) := by
  unfold pathS
  rw [if_neg g]
  show _ ++ ByteArray.empty = _
  rw [ByteArray.append_empty]
  rfl
theorem path_part {h l i c : Int} (g : c < 2 ^ h.toNat) : pathS h l i c = j4 tlB (decS h) (decS l) (ixS i.toNat) ++ (ptB ++ decS c) := by
  unfold pathS
  rw [if_pos g]
  rfl
theorem j4_size (a b c d : ByteArray) : (j4 a b c d).size = a.size + b.size + c.size + d.size + 3 := by
  unfold j4
  simp only [ByteArray.size_append]
  show a.size + 1 + b.size + 1 + c.size + 1 + d.size = _
  omega
def pathV (h l i c : Int) : Value := if Goes h l i c then .tuple #[.string (pathS h l i c), .int .i64 0] else .tuple #[.string ⟨#[]⟩, .int .i64 230]
-- a path's numbers are small
theorem goes_small {h l i c : Int} (g : Goes h l i c) : 0 ≤ h ∧ h ≤ 62 ∧ 0 ≤ l ∧ l ≤ 62 ∧ 0 ≤ i ∧ i ≤ 4611686018427387904 ∧ 1 ≤ c ∧ c ≤ 256 ∧ 1 ≤ h ∧ h ≤ 8 := by
  obtain ⟨g1, g2, g3, g4, g5, g6, g7, g8⟩ := g
  have := lev_small g1 g2 g3 g4
  obtain ⟨f0, f1⟩ := pow8 h g1 g2
  have hp := (powS (l * h).toNat (by omega)).1
  have m0 := Int.mul_le_mul_of_nonneg_left (show (1 : Int) ≤ 2 ^ h.toNat by omega) g5
  have m1 := Int.mul_le_mul_of_nonneg_left hp (show 0 ≤ i * 2 ^ h.toNat + c by omega)
  omega
set_option maxHeartbeats 3200000 in
theorem pathC (h l i c : Int) (zh : i64 h) (zl : i64 l) (zi : i64 i) (zc : i64 c) (w : World) (hw : PowT w) :
    Calls Tryz.prog 6 #[.agg #[.int .i64 h, .int .i64 l, .int .i64 i, .int .i64 c]] w fun e w' => e = .returned (pathV h l i c) ∧ Below w.heap.size w w' := by
  have C1 : Hid (∀ w, Calls _ _ _ _ _) := fun w => endsC h l i c zh zl zi zc w
  obtain ⟨E, HE⟩ : ∃ E, Hid (endT h l i c = E) := ⟨_, rfl⟩
  rw [HE.out] at C1
  obtain ⟨W, HW⟩ : ∃ W, Hid (w.alloc (.cells #[.int .i64 h, .int .i64 l, .int .i64 i, .int .i64 c] 23) = W) := ⟨_, rfl⟩
  have BW : Hid (Below w.heap.size w W) := by rw [← HW.out]; exact (Below.refl _ _).alloc (Nat.le_refl _) _
  have zW : Hid (W.heap.size = w.heap.size + 1) := by show _ = _; rw [← HW.out]; simp
  have SX : Hid (∀ w', Below (w.heap.size + 1) W w' → w'.cell? ⟨w.heap.size, 0, none⟩ = some (.int .i64 h) ∧ w'.cell? ⟨w.heap.size, 1, none⟩ = some (.int .i64 l) ∧ w'.cell? ⟨w.heap.size, 2, none⟩ = some (.int .i64 i) ∧ w'.cell? ⟨w.heap.size, 3, none⟩ = some (.int .i64 c)) := by
    rw [← HW.out]; exact fun w' h => box4 w w' _ _ _ _ _ h
  obtain ⟨k0, k1, k2, k3⟩ := SX.out W (Below.refl _ _)
  by_cases g : Goes h l i c
  · have dg : decide (Goes h l i c) = true := decide_eq_true g
    have HV : Hid (pathV h l i c = .tuple #[.string (pathS h l i c), .int .i64 0]) := if_pos g
    rw [HV.out]
    rw [dg] at C1
    obtain ⟨h0, h62, l0, l62, i0, i62, c1, c256, hh1, hh8⟩ := goes_small g
    have PP : Hid (∀ w', Below (w.heap.size + 1) W w' → PowT w') := fun w' h => PowT.down hw (BW.out.trans (h.mono (by omega)))
    have C2 : Hid (∀ w, PowT w → Calls _ _ _ _ _) := fun w hw => itoaC h zh w hw
    have C3 : Hid (∀ w, PowT w → Calls _ _ _ _ _) := fun w hw => itoaC l zl w hw
    have C4 : Hid (∀ w, PowT w → Calls _ _ _ _ _) := fun w hw => groupsC i.toNat (by omega) w hw
    have C5 : Hid (∀ w, PowT w → Calls _ _ _ _ _) := fun w hw => itoaC c zc w hw
    have C6 : Hid (∀ w, Calls _ _ _ _ _) := fun w => fullI h h0 h62 w
    have hit : ((i.toNat : Nat) : Int) = i := by omega
    rw [hit] at C4
    have s1 := dec_size h zh
    have s2 := dec_size l zl
    have s3 := dec_size c zc
    have s4 := ixS_size i.toNat (by omega)
    have s5 : tlB.size = 4 := rfl
    have s6 : ptB.size = 3 := rfl
    have hz := j4_size tlB (decS h) (decS l) (ixS i.toNat)
    have C7 : Hid (∀ w, Calls _ _ _ _ _) := fun w => joinsC tlB (decS h) (decS l) (ixS i.toNat) (by omega) w
    have HF : Hid (¬ c < 2 ^ h.toNat → pathS h l i c = j4 tlB (decS h) (decS l) (ixS i.toNat)) := path_full
    have HP : Hid (c < 2 ^ h.toNat → pathS h l i c = j4 tlB (decS h) (decS l) (ixS i.toNat) ++ (ptB ++ decS c)) := path_part
    generalize pathS h l i c = PS at HF HP ⊢
    generalize j4 tlB (decS h) (decS l) (ixS i.toNat) = J at *
    generalize ixS i.toNat = x4 at *
    generalize decS h = x1 at *
    generalize decS l = x2 at *
    generalize decS c = x3 at *
    generalize (2 : Int) ^ h.toNat = F at *
    have AA : Hid (Below (w.heap.size + 1) W W) := Below.refl _ _
    clear hit HE dg hw i62 c256 hh1 hh8 g
    go_enter Tryz.func6, Tryz.ntmps6
    go_wp2_with fail
    rw [HW.out]
    go_wp2_with fail
    refine (C1.out _).mono ?_
    rintro e w1 ⟨rfl, hb⟩
    have B1 : Hid (Below (w.heap.size + 1) W w1) := hb.mono (by have := zW.out; omega)
    clear hb
    go_wp2_with fail
    have B1 : Hid (Below (w.heap.size + 1) W w1.drew) := below_dr B1.out
    go_region_held_law (fun w' => w'.cell? ⟨w.heap.size, 0, none⟩ = some (.int .i64 h) ∧ w'.cell? ⟨w.heap.size, 1, none⟩ = some (.int .i64 l) ∧ w'.cell? ⟨w.heap.size, 2, none⟩ = some (.int .i64 i)) (first | exact ⟨(SX.out _ B1.out).1, (SX.out _ B1.out).2.1, (SX.out _ B1.out).2.2.1⟩ | exact ⟨(SX.out _ B2.out).1, (SX.out _ B2.out).2.1, (SX.out _ B2.out).2.2.1⟩ | exact ⟨(SX.out _ B3.out).1, (SX.out _ B3.out).2.1, (SX.out _ B3.out).2.2.1⟩ | exact ⟨(SX.out _ B4.out).1, (SX.out _ B4.out).2.1, (SX.out _ B4.out).2.2.1⟩ | exact ⟨(SX.out _ B4A.out).1, (SX.out _ B4A.out).2.1, (SX.out _ B4A.out).2.2.1⟩ | exact ⟨(SX.out _ B5.out).1, (SX.out _ B5.out).2.1, (SX.out _ B5.out).2.2.1⟩) ((first | (go_at_call 12; (with_reducible refine (C2.out _ (PP.out _ B1.out)).mono ?_); rintro _ w2 ⟨rfl, k2⟩; have B2 : Hid (Below (w.heap.size + 1) W w2) := (B1.out.trans (k2.mono (by have := B1.out.size; have := zW.out; omega))); clear k2) | (go_at_call 12; (with_reducible refine (C3.out _ (PP.out _ B2.out)).mono ?_); rintro _ w3 ⟨rfl, k3⟩; have B3 : Hid (Below (w.heap.size + 1) W w3) := (B2.out.trans (k3.mono (by have := B2.out.size; have := zW.out; omega))); clear k3) | (go_at_call 13; (with_reducible refine (C4.out _ (PP.out _ B3.out)).mono ?_); rintro _ w4 ⟨rfl, k4⟩; have B4 : Hid (Below (w.heap.size + 1) W w4) := (B3.out.trans (k4.mono (by have := B3.out.size; have := zW.out; omega))); have B4A : Hid (Below (w.heap.size + 1) W (w4.alloc (.cells #[.string tlB, .string x1, .string x2, .string x4] 9))) := (B4.out.alloc (by have := B4.out.size; have := zW.out; omega) _); clear k4) | (go_at_call 11; (refine (C7.out w4).mono ?_); rintro _ w5 ⟨rfl, k5⟩; have B5 : Hid (Below (w.heap.size + 1) W w5) := (B4A.out.trans (k5.mono (by have := B4.out.size; have := zW.out; omega))); clear k5)))
    all_goals (
      obtain ⟨m0, m1, m2, m3⟩ := SX.out _ B5.out
      by_cases gf : c < F
      · have df : decide (c < F) = true := decide_eq_true gf
        have HR : Hid (PS = J ++ (ptB ++ x3)) := HP.out gf
        clear gf HF HP
        go_wp2_with fail
        go_quiet ((go_at_call 14; exact Calls.quiet_of_same (C6.out _)))
        obtain ⟨X, HX⟩ : ∃ V, Hid (w5.drewN nq = V) := ⟨_, rfl⟩
        rw [HX.out]
        have BX : Hid (Below (w.heap.size + 1) W X) := by rw [← HX.out]; exact below_dN B5.out _
        obtain ⟨n0, n1, n2, n3⟩ := SX.out _ BX.out
        clear m0 m1 m2 m3
        go_wp2_with fail
        refine (C5.out _ (PP.out _ BX.out)).mono ?_
        rintro e w6 ⟨rfl, hb⟩
        have B6 : Hid (Below w.heap.size w w6) := BW.out.trans ((BX.out.trans (hb.mono (by have := BX.out.size; have := zW.out; omega))).mono (by omega))
        clear hb
        go_wp2
        go_ret2
        exact ⟨by rw [HR.out]; rfl, B6.out⟩
      · have df : decide (c < F) = false := decide_eq_false gf
        have HR : Hid (PS = J) := HF.out (by omega)
        clear gf HF HP
        go_wp2_with fail
        go_quiet ((go_at_call 14; exact Calls.quiet_of_same (C6.out _)))
        go_wp2
        go_ret2
        exact ⟨by rw [HR.out]; rfl, BW.out.trans ((below_dN B5.out _).mono (by omega))⟩)
  · have dg : decide (Goes h l i c) = false := decide_eq_false g
    have HV : Hid (pathV h l i c = .tuple #[.string ⟨#[]⟩, .int .i64 230]) := if_neg g
    rw [HV.out]
    rw [dg] at C1
    clear hw HE dg g
    go_enter Tryz.func6, Tryz.ntmps6
    go_wp2_with fail
    rw [HW.out]
    go_wp2_with fail
    refine (C1.out _).mono ?_
    rintro e w1 ⟨rfl, hb⟩
    have B1 : Hid (Below w.heap.size w w1) := BW.out.trans (hb.mono (by have := zW.out; omega))
    clear hb
    go_wp2
    go_ret2
    exact ⟨rfl, B1.out⟩
end Go.Proofs.YtfbglffookacbaaGreatDoor.a7
