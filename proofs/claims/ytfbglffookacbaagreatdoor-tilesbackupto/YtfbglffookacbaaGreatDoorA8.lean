import Derived.Test.YtfbglffookacbaaGreatDoorA7
namespace Go.Proofs.YtfbglffookacbaaGreatDoor.a8
open Go.RowKit Go.PlainAid Go.Shelf
open Go.Proofs.YtfbglffookacbaaGreatDoor.tc Go.Proofs.YtfbglffookacbaaGreatDoor.wa Go.Proofs.YtfbglffookacbaaGreatDoor.ca Go.Proofs.YtfbglffookacbaaGreatDoor.cp Go.Proofs.YtfbglffookacbaaGreatDoor.a1 Go.Proofs.YtfbglffookacbaaGreatDoor.a2 Go.Proofs.YtfbglffookacbaaGreatDoor.a3 Go.Proofs.YtfbglffookacbaaGreatDoor.a4 Go.Proofs.YtfbglffookacbaaGreatDoor.a5 Go.Proofs.YtfbglffookacbaaGreatDoor.a6 Go.Proofs.YtfbglffookacbaaGreatDoor.a7
set_option linter.unusedVariables false
set_option maxRecDepth 4000

def tsB : ByteArray := ⟨#[116, 105, 108, 101, 47]⟩
theorem ts_eq : tsB = tlB ++ slB := by
  apply ByteArray.ext
  rw [ByteArray.data_append]
  rfl
theorem j4_ts (b c d : ByteArray) : tsB ++ b ++ slB ++ c ++ slB ++ d = j4 tlB b c d := by rw [ts_eq]; rfl
set_option maxHeartbeats 3200000 in
theorem pathD (h l i c : Int) (zh : i64 h) (zl : i64 l) (zi : i64 i) (zc : i64 c) (w : World) (hw : PowT w) :
    Calls Tryz.prog 17 #[.agg #[.int .i64 h, .int .i64 l, .int .i64 i, .int .i64 c]] w fun e w' => e = .returned (pathV h l i c) ∧ Below w.heap.size w w' := by
  have C1 : Hid (∀ w, Calls _ _ _ _ _) := fun w => goesC h l i c zh zl zi zc w
  obtain ⟨W, HW⟩ : ∃ W, Hid (w.alloc (.cells #[.int .i64 h, .int .i64 l, .int .i64 i, .int .i64 c] 23) = W) := ⟨_, rfl⟩
  have BW : Hid (Below w.heap.size w W) := by rw [← HW.out]; exact (Below.refl _ _).alloc (Nat.le_refl _) _
  have zW : Hid (W.heap.size = w.heap.size + 1) := by show _ = _; rw [← HW.out]; simp
  have SX : Hid (∀ w', Below (w.heap.size + 1) W w' → w'.cell? ⟨w.heap.size, 0, none⟩ = some (.int .i64 h) ∧ w'.cell? ⟨w.heap.size, 1, none⟩ = some (.int .i64 l) ∧ w'.cell? ⟨w.heap.size, 2, none⟩ = some (.int .i64 i) ∧ w'.cell? ⟨w.heap.size, 3, none⟩ = some (.int .i64 c)) := by
    rw [← HW.out]; exact fun w' h => box4 w w' _ _ _ _ _ h
  obtain ⟨k0, k1, k2, k3⟩ := SX.out W (Below.refl _ _)
  by_cases g : Goes h l i c
  · have dg : decide (Goes h l i c) = true := decide_eq_true g
    have HV : Hid (pathV h l i c = .tuple #[.string (pathS h l i c), .int .i64 0]) := if_pos g
    rw [HV.out]
    rw [dg] at C1
    obtain ⟨h0, h62, l0, l62, i0, i62, c1, c256, hh1, hh8⟩ := goes_small g
    obtain ⟨f0, f1⟩ := pow8 h hh1 hh8
    have PP : Hid (∀ w', Below (w.heap.size + 1) W w' → PowT w') := fun w' h => PowT.down hw (BW.out.trans (h.mono (by omega)))
    have C2 : Hid (∀ w, PowT w → Calls _ _ _ _ _) := fun w hw => itoaC h zh w hw
    have C3 : Hid (∀ w, PowT w → Calls _ _ _ _ _) := fun w hw => itoaC l zl w hw
    have C4 : Hid (∀ w, PowT w → Calls _ _ _ _ _) := fun w hw => indexC i.toNat (by omega) w hw
    have C5 : Hid (∀ w, PowT w → Calls _ _ _ _ _) := fun w hw => itoaC c zc w hw
    have hit : ((i.toNat : Nat) : Int) = i := by omega
    rw [hit] at C4
    have s1 := dec_size h zh
    have s2 := dec_size l zl
    have s3 := dec_size c zc
    have s4 := ixS_size i.toNat (by omega)
    have hz := j4_size tlB (decS h) (decS l) (ixS i.toNat)
    have HJ : Hid (_ = _) := j4_ts (decS h) (decS l) (ixS i.toNat)
    have HF : Hid (¬ c < 2 ^ h.toNat → pathS h l i c = j4 tlB (decS h) (decS l) (ixS i.toNat)) := path_full
    have HP : Hid (c < 2 ^ h.toNat → pathS h l i c = j4 tlB (decS h) (decS l) (ixS i.toNat) ++ (ptB ++ decS c)) := path_part
    obtain ⟨k, hk⟩ : ∃ k : Nat, h = (k : Int) := ⟨h.toNat, by omega⟩
    have hkn : h.toNat = k := by omega
    have hk8 : k ≤ 8 := by omega
    have hu : IntKind.u64.wrap h = (k : Int) := by rw [IntKind.wrap_u64]; omega
    rw [hkn] at f0 f1 HF HP
    obtain ⟨F, HFF⟩ : ∃ F, Hid ((2 : Int) ^ k = F) := ⟨_, rfl⟩
    rw [HFF.out] at f0 f1 HF HP
    have hp : IntKind.i64.wrap ((2 : Int) ^ k) = F := by rw [HFF.out, IntKind.wrap_i64]; omega
    generalize pathS h l i c = PS at HF HP ⊢
    generalize j4 tlB (decS h) (decS l) (ixS i.toNat) = J at *
    generalize ixS i.toNat = x4 at *
    generalize decS h = x1 at *
    generalize decS l = x2 at *
    generalize decS c = x3 at *
    clear hit dg hw i62 c256 hh1 hh8 g hk hkn
    go_enter Tryz.func17, Tryz.ntmps17
    go_wp2_with fail
    rw [HW.out]
    go_wp2_with fail
    refine (C1.out _).mono ?_
    rintro e w1 ⟨rfl, hb⟩
    have B1 : Hid (Below (w.heap.size + 1) W w1) := hb.mono (by have := zW.out; omega)
    clear hb
    go_wp2_with fail
    have B1 : Hid (Below (w.heap.size + 1) W w1.drew) := below_dr B1.out
    go_region_held_law (fun w' => w'.cell? ⟨w.heap.size, 0, none⟩ = some (.int .i64 h) ∧ w'.cell? ⟨w.heap.size, 1, none⟩ = some (.int .i64 l) ∧ w'.cell? ⟨w.heap.size, 2, none⟩ = some (.int .i64 i)) (first | exact ⟨(SX.out _ B1.out).1, (SX.out _ B1.out).2.1, (SX.out _ B1.out).2.2.1⟩ | exact ⟨(SX.out _ B2.out).1, (SX.out _ B2.out).2.1, (SX.out _ B2.out).2.2.1⟩ | exact ⟨(SX.out _ B3.out).1, (SX.out _ B3.out).2.1, (SX.out _ B3.out).2.2.1⟩ | exact ⟨(SX.out _ B4.out).1, (SX.out _ B4.out).2.1, (SX.out _ B4.out).2.2.1⟩) ((first | (go_at_call 12; (with_reducible refine (C2.out _ (PP.out _ B1.out)).mono ?_); rintro _ w2 ⟨rfl, k2⟩; have B2 : Hid (Below (w.heap.size + 1) W w2) := (B1.out.trans (k2.mono (by have := B1.out.size; have := zW.out; omega))); clear k2) | (go_at_call 12; (with_reducible refine (C3.out _ (PP.out _ B2.out)).mono ?_); rintro _ w3 ⟨rfl, k3⟩; have B3 : Hid (Below (w.heap.size + 1) W w3) := (B2.out.trans (k3.mono (by have := B2.out.size; have := zW.out; omega))); clear k3) | (go_at_call 32; (with_reducible refine (C4.out _ (PP.out _ B3.out)).mono ?_); rintro _ w4 ⟨rfl, k4⟩; have B4 : Hid (Below (w.heap.size + 1) W w4) := (B3.out.trans (k4.mono (by have := B3.out.size; have := zW.out; omega))); clear k4)))
    all_goals (
      obtain ⟨m0, m1, m2, m3⟩ := SX.out _ B4.out
      by_cases gf : c < F
      · have HR : Hid (PS = J ++ (ptB ++ x3)) := HP.out gf
        clear HF HP
        go_wp2_with fail
        refine (C5.out _ (PP.out _ B4.out)).mono ?_
        rintro e w6 ⟨rfl, hb⟩
        have B6 : Hid (Below w.heap.size w w6) := BW.out.trans ((B4.out.trans (hb.mono (by have := B4.out.size; have := zW.out; omega))).mono (by omega))
        clear hb
        go_wp2
        go_ret2
        exact ⟨by rw [HR.out, ← HJ.out, ← ByteArray.append_assoc]; rfl, B6.out⟩
      · have HR : Hid (PS = J) := HF.out (by omega)
        clear HF HP
        go_wp2
        go_ret2
        exact ⟨by rw [HR.out, ← HJ.out]; rfl, BW.out.trans (B4.out.mono (by omega))⟩)
  · have dg : decide (Goes h l i c) = false := decide_eq_false g
    have HV : Hid (pathV h l i c = .tuple #[.string ⟨#[]⟩, .int .i64 230]) := if_neg g
    rw [HV.out]
    rw [dg] at C1
    clear hw dg g
    go_enter Tryz.func17, Tryz.ntmps17
    go_wp2_with fail
    rw [HW.out]
    go_wp2_with fail
    refine (C1.out _).mono ?_
    rintro e w1 ⟨rfl, hb⟩
    have B1 : Hid (Below w.heap.size w w1) := BW.out.trans (hb.mono (by have := zW.out; omega))
    clear hb
    go_wp2
    go_ret2
    exact ⟨rfl, B1.out⟩
-- THE LAW
theorem numC (n : Int) (w : World) : Calls Tryz.prog 8 #[.int .i64 n] w fun e w' => e = .returned (.int .i64 n) ∧ w' = w := by
  go_enter Tryz.func8, Tryz.ntmps8
  go_wp2
  go_ret
  exact ⟨rfl, rfl⟩
theorem path_two (h l i c : Int) : ∃ (s : ByteArray) (n : Int), pathV h l i c = .tuple #[.string s, .int .i64 n] := by
  unfold pathV
  split
  · exact ⟨_, _, rfl⟩
  · exact ⟨_, _, rfl⟩
end Go.Proofs.YtfbglffookacbaaGreatDoor.a8
