import Derived.Test.YtkgadgkomdjplaaWl
namespace Go.Proofs.Ytkgadgkomdjplaa.wm
open Go.RowKit Go.PlainAid
open Go.Proofs.Ytkgadgkomdjplaa.ca Go.Proofs.Ytkgadgkomdjplaa.cb Go.Proofs.Ytkgadgkomdjplaa.cp Go.Proofs.Ytkgadgkomdjplaa.ga Go.Proofs.Ytkgadgkomdjplaa.kp Go.Proofs.Ytkgadgkomdjplaa.ea Go.Proofs.Ytkgadgkomdjplaa.eb Go.Proofs.Ytkgadgkomdjplaa.ec Go.Proofs.Ytkgadgkomdjplaa.ee Go.Proofs.Ytkgadgkomdjplaa.ef Go.Proofs.Ytkgadgkomdjplaa.eg Go.Proofs.Ytkgadgkomdjplaa.ei Go.Proofs.Ytkgadgkomdjplaa.ka Go.Proofs.Ytkgadgkomdjplaa.bn Go.Proofs.Ytkgadgkomdjplaa.fd Go.Proofs.Ytkgadgkomdjplaa.fe Go.Proofs.Ytkgadgkomdjplaa.lg Go.Proofs.Ytkgadgkomdjplaa.wl
set_option linter.unusedVariables false

theorem tw_set {w : World} {B g n cp : Nat} {xs : List ByteArray} (h : Tw w B g n cp xs) (hn : xs.length = n) (k : Nat) (hk : k < n) (x : ByteArray) : Tw (w.setCell ⟨g, k, none⟩ (.string x)) B g n cp (xs.set k x) := by
  obtain ⟨h1, h2⟩ := World.ownsRow.stored h k (.string x)
  unfold Tw
  rw [List.set_append_left _ _ (by rw [List.length_map]; omega)] at h1
  rw [List.map_set]
  exact h1
theorem tw_frozen {w : World} {B g n cp : Nat} {xs : List ByteArray} (h : Tw w B g n cp xs) (k : Nat) : w.frozen? ⟨g, k, none⟩ = false := World.ownsRow.frozenAt h k
theorem tw_base {w : World} {B g n cp : Nat} {xs : List ByteArray} (h : Tw w B g n cp xs) : B ≤ g ∧ g < w.heap.size := World.ownsRow.lt h g rfl
theorem below_dN' (w : World) (m : Nat) : Below w.heap.size w (w.drewN m) := below_dN (Below.refl _ _) m
-- one after the other
theorem below3 {B : Nat} {w w1 w2 : World} (h : Below B w w1) (hB : B ≤ w.heap.size) (k : Below w1.heap.size w1 w2) : Below B w w2 := below2 h k hB
theorem leavesV_form (l : List ByteArray) : ∃ s e, leavesV l = .tuple #[.string s, .int .i64 e] := ⟨_, _, rfl⟩
set_option maxRecDepth 100000 in
set_option maxHeartbeats 6400000 in
theorem wireLeaves {w : World} (v : Value) (xs : List ByteArray) (hr : ReadsT w v xs) (hno : ∀ k c, v = .slice none k c → c = 0) (hs : ∀ x ∈ xs, x.size ≤ 140737488351232) (hz : xs.length * 16 ≤ 140737488351232) (b : ByteArray) (hb : b.size ≤ 140737488351232) :
    Calls Try.prog 4 #[v, .string b] w fun e w' => e = .returned (.bool true) ∧ Below w.heap.size w w' := by
  have TC : Hid (Calls _ _ _ _ _) := twinC v xs w hr hno hz
  have HR : Hid (ReadsT w v xs) := hr
  have hn : xs.length ≤ 140737488351232 := by omega
  have LC : Hid (∀ g cp W ys, ys.length = xs.length → ReadsT W (.slice (some ⟨g, 0, none⟩) xs.length cp) ys → Calls _ _ _ _ _) := fun g cp W ys hl h => leavesC (.slice (some ⟨g, 0, none⟩) xs.length cp) ys W h (by omega)
  have LD : Hid (∀ g cp W ys, ys.length = xs.length → ReadsT W (.slice (some ⟨g, 0, none⟩) xs.length cp) ys → Calls _ _ _ _ _) := fun g cp W ys hl h => rLeaves (.slice (some ⟨g, 0, none⟩) xs.length cp) ys W h (by omega)
  have LR : Hid (∀ W, ReadsT W v xs → Calls _ _ _ _ _) := fun W h => rLeaves v xs W h (by omega)
  have KC : Hid (∀ g cp W, Tw W w.heap.size g xs.length cp xs → ReadsT W v xs → Calls _ _ _ _ _) := fun g cp W h1 h2 => keptC w.heap.size g cp v xs W h1 h2 (by omega)
  have UC : Hid (∀ W, Calls _ _ _ _ _) := fun W => unLeavesC b W (by omega)
  have UD : Hid (∀ W, Calls _ _ _ _ _) := fun W => rUnLeaves b W (by omega)
  obtain ⟨E, HE⟩ : ∃ E, Hid (unLeavesE b = E) := ⟨_, rfl⟩
  obtain ⟨L, HL⟩ : ∃ L, Hid (unLeavesL b = L) := ⟨_, rfl⟩
  rw [HE.out, HL.out] at UC UD
  have hL : L.length ≤ 1024 := by
    rw [← HL.out]
    unfold unLeavesL
    split
    · have hk0 : Ok b 0 0 := ⟨Nat.zero_le _, by decide, by decide⟩
      have h1 := most_ok b 1024 83 _ _ (mark_ok b 76 0 0 hk0) (by decide)
      have h2 := (leaves_ok b (mostS b 1024 83 (markS b 76 0 0).1 (markS b 76 0 0).2).1.toNat _ _ h1.1).2
      unfold unLeavesS
      rw [h2]
      omega
    · simp
  have SC : Hid (∀ W va vb, ReadsT W va L → ReadsT W vb L → Calls _ _ _ _ _) := fun W va vb h1 h2 => same_yes va vb L W h1 h2 (by omega)
  obtain ⟨s1, e1, HV1⟩ := leavesV_form xs
  have HV : Hid (leavesV xs = .tuple #[.string s1, .int .i64 e1]) := HV1
  clear HV1
  obtain ⟨a, cap, rfl, hcap, hh⟩ := hr
  obtain ⟨n, HN⟩ : ∃ n, Hid (xs.length = n) := ⟨_, rfl⟩
  rw [HN.out] at TC HR LC LD LR KC hn hcap ⊢
  clear hh hs hz hno
  go_enter Try.func4, Try.ntmps4
  go_upto_region 2 with (go_at_call 11; refine TC.out.mono ?_; rintro _ w1 ⟨⟨g, cp, rfl, t1⟩, k1⟩; have T1 : Hid (Tw w1 w.heap.size g n cp xs) := t1; have B1 : Hid (Below w.heap.size w w1) := k1; have hcp := (Tw.cell t1 HN.out).2.2; clear t1 k1)
  have hcp1 : (n : Int) ≤ cp := by omega
  go_upto_region 4 with (first
    | (go_at_call 10; refine (LC.out g cp _ xs HN.out (T1.out.reads HN.out)).mono ?_; rintro _ w2 ⟨rfl, k2⟩; have T2 : Hid (Tw w2 w.heap.size g n cp xs) := T1.out.later k2; have B2 : Hid (Below w.heap.size w w2) := below2 B1.out k2 (Nat.le_refl _); rw [HV.out]; clear k2)
    | (go_at_call 12; refine (LR.out _ (HR.out.later B2.out)).mono ?_; rintro _ w3 ⟨rfl, k3⟩; have T3 : Hid (Tw w3 w.heap.size g n cp xs) := T2.out.later k3; have B3 : Hid (Below w.heap.size w w3) := below2 B2.out k3 (Nat.le_refl _); rw [HV.out]; clear k3))
  have g1 : (s1.toList == s1.toList) = true := beq_self_eq_true _
  have g2 : (e1 != e1) = false := by simp
  go_upto_region 6 with (first
    | (go_at_call 9; refine (num e1 _).mono ?_; rintro _ _ ⟨rfl, rfl⟩)
    | (go_at_call 13; refine (KC.out g cp _ T3.out (HR.out.later B3.out)).mono ?_; rintro _ w4 ⟨rfl, m4, hm4⟩; have T4 : Hid (Tw w4 w.heap.size g n cp xs) := T3.out.later (by rw [hm4]; exact below_dN' _ _); have B4 : Hid (Below w.heap.size w w4) := below2 B3.out (by rw [hm4]; exact below_dN' _ _) (Nat.le_refl _); clear hm4))
  clear g2
  have g3 : (E != E) = false := by simp
  have SX : Hid (∀ W va, W.ownsRow w.heap.size 9 1 va L.length (L.map Value.string) → ReadsT W va L) := fun W va h => own_readsT h
  go_upto_region 10 with (first
    | (go_at_call 14; refine (UC.out _).mono ?_; rintro _ w5 ⟨⟨x5, rfl, o5⟩, k5⟩; have X5 : Hid (ReadsT w5 x5 L) := own_readsT o5; have T5 : Hid (Tw w5 w.heap.size g n cp xs) := T4.out.later k5; have B5 : Hid (Below w.heap.size w w5) := below2 B4.out k5 (Nat.le_refl _); clear k5 o5)
    | (go_at_call 15; refine (UD.out _).mono ?_; rintro _ w6 ⟨⟨y6, rfl, o6⟩, k6⟩; have Y6 : Hid (ReadsT w6 y6 L) := own_readsT o6; have X6 : Hid (ReadsT w6 x5 L) := X5.out.later k6; have T6 : Hid (Tw w6 w.heap.size g n cp xs) := T5.out.later k6; have B6 : Hid (Below w.heap.size w w6) := below2 B5.out k6 (Nat.le_refl _); clear k6 o6)
    | (go_at_call 16; refine (SC.out _ _ _ X6.out Y6.out).mono ?_; rintro _ w7 ⟨rfl, m7, hm7⟩; have T7 : Hid (Tw w7 w.heap.size g n cp xs) := T6.out.later (by rw [hm7]; exact below_dN' _ _); have B7 : Hid (Below w.heap.size w w7) := below2 B6.out (by rw [hm7]; exact below_dN' _ _) (Nat.le_refl _); clear hm7)
    | (go_at_call 9; refine (num E _).mono ?_; rintro _ _ ⟨rfl, rfl⟩))
  by_cases h0 : n = 0
  · have h0' : ((n : Int) == 0) = true := by rw [beq_iff_eq]; omega
    clear h0
    go_wp2
    go_ret
    exact ⟨rfl, B7.out⟩
  · have h0' : ((n : Int) == 0) = false := by rw [beq_eq_false_iff_ne]; omega
    have hn1 : (0 : Int) < (n : Int) + 1 := by omega
    obtain ⟨s2, e2, HV2⟩ := leavesV_form (xs.set 0 ⟨#[97, 110, 111, 116, 104, 101, 114, 32, 108, 101, 97, 102]⟩)
    have HW : Hid (leavesV (xs.set 0 ⟨#[97, 110, 111, 116, 104, 101, 114, 32, 108, 101, 97, 102]⟩) = .tuple #[.string s2, .int .i64 e2]) := HV2
    clear HV2
    have g4 : (s2.toList == s2.toList) = true := beq_self_eq_true _
    have g5 : (e2 == e2) = true := beq_self_eq_true _
    have HN2 : Hid ((xs.set 0 ⟨#[97, 110, 111, 116, 104, 101, 114, 32, 108, 101, 97, 102]⟩).length = n) := by show _ = _; rw [List.length_set, HN.out]
    have hn0 : 0 < n := by omega
    clear h0
    go_upto_region 13 with (first
      | (go_at_call 10; refine (LC.out g cp _ xs HN.out (T7.out.reads HN.out)).mono ?_; rintro _ w8 ⟨rfl, k8⟩; have T8 : Hid (Tw w8 w.heap.size g n cp xs) := T7.out.later k8; have B8 : Hid (Below w.heap.size w w8) := below2 B7.out k8 (Nat.le_refl _); rw [HV.out]; clear k8))
    have c8 : w8.cell? ⟨g, 0, none⟩ = some (.string (xs.getD 0 ByteArray.empty)) := (Tw.cell T8.out HN.out).1 0 hn0
    have f8 := tw_frozen T8.out 0
    have T9 : Hid (Tw (w8.setCell ⟨g, 0, none⟩ (.string ⟨#[97, 110, 111, 116, 104, 101, 114, 32, 108, 101, 97, 102]⟩)) w.heap.size g n cp (xs.set 0 ⟨#[97, 110, 111, 116, 104, 101, 114, 32, 108, 101, 97, 102]⟩)) := tw_set T8.out HN.out 0 hn0 _
    have B9 : Hid (Below w.heap.size w (w8.setCell ⟨g, 0, none⟩ (.string ⟨#[97, 110, 111, 116, 104, 101, 114, 32, 108, 101, 97, 102]⟩))) := B8.out.setCell (p := ⟨g, 0, none⟩) (tw_base T8.out).1 _
    go_upto_region 14 with fail
    obtain ⟨w9, H9⟩ : ∃ w9, w9 = w8.setCell ⟨g, 0, none⟩ (.string ⟨#[97, 110, 111, 116, 104, 101, 114, 32, 108, 101, 97, 102]⟩) := ⟨_, rfl⟩
    rw [← H9] at T9 B9 ⊢
    clear H9 c8 f8
    go_wp2_with (first
      | (go_at_call 10; refine (LC.out g cp _ _ HN2.out (T9.out.reads HN2.out)).mono ?_; rintro _ w10 ⟨rfl, k10⟩; have T10 : Hid (Tw w10 w.heap.size g n cp _) := T9.out.later k10; have B10 : Hid (Below w.heap.size w w10) := below2 B9.out k10 (Nat.le_refl _); rw [HW.out]; clear k10)
      | (go_at_call 12; refine (LD.out g cp _ _ HN2.out (T10.out.reads HN2.out)).mono ?_; rintro _ w11 ⟨rfl, k11⟩; have B11 : Hid (Below w.heap.size w w11) := below2 B10.out k11 (Nat.le_refl _); rw [HW.out]; clear k11)
      | (go_at_call 9; refine (num e2 _).mono ?_; rintro _ _ ⟨rfl, rfl⟩))
    go_ret
    exact ⟨rfl, B11.out⟩
end Go.Proofs.Ytkgadgkomdjplaa.wm
