import Derived.Test.YtkgadgkomdjplaaFd
namespace Go.Proofs.Ytkgadgkomdjplaa.fe
open Go.RowKit Go.PlainAid
open Go.Proofs.Ytkgadgkomdjplaa.ca Go.Proofs.Ytkgadgkomdjplaa.cb Go.Proofs.Ytkgadgkomdjplaa.cp Go.Proofs.Ytkgadgkomdjplaa.ga Go.Proofs.Ytkgadgkomdjplaa.kp Go.Proofs.Ytkgadgkomdjplaa.na Go.Proofs.Ytkgadgkomdjplaa.nb Go.Proofs.Ytkgadgkomdjplaa.nc Go.Proofs.Ytkgadgkomdjplaa.nh Go.Proofs.Ytkgadgkomdjplaa.nj Go.Proofs.Ytkgadgkomdjplaa.ea Go.Proofs.Ytkgadgkomdjplaa.eb Go.Proofs.Ytkgadgkomdjplaa.ec Go.Proofs.Ytkgadgkomdjplaa.ed Go.Proofs.Ytkgadgkomdjplaa.ee Go.Proofs.Ytkgadgkomdjplaa.ef Go.Proofs.Ytkgadgkomdjplaa.eg Go.Proofs.Ytkgadgkomdjplaa.eh Go.Proofs.Ytkgadgkomdjplaa.ei Go.Proofs.Ytkgadgkomdjplaa.ka Go.Proofs.Ytkgadgkomdjplaa.bn
set_option linter.unusedVariables false

theorem rNumberC (n : Int) (w : World) (h0 : 0 ≤ n) (h1 : n ≤ 9223372036854775807) : Calls Try.prog 35 #[.int .i64 n] w fun e w' => e = .returned (.string (putB n)) ∧ Below w.heap.size w w' := by
  have hw : Wants n (mOf n) := wants_len n h0 (by omega)
  have CP : Hid (Calls _ _ _ _ _) := rpv_any n (mOf n) w h0 (by omega) hw.1 hw.2.1 hw
  have HP : Hid (putB n = str (putL n (mOf n))) := rfl
  rw [← HP.out] at CP
  have hu : IntKind.u64.wrap n = n := u64_nonneg h0 (by omega)
  clear hw
  go_enter Try.func35, Try.ntmps35
  go_wp2_with (go_at_call 65; refine CP.out.mono ?_; rintro _ w1 ⟨rfl, k1⟩; have K1 : Hid (Below w.heap.size w w1) := k1; clear k1)
  go_ret
  exact ⟨rfl, K1.out⟩
-- bytes of the call's own
def OB (w : World) (B : Nat) (v : Value) (l : List UInt8) : Prop := w.ownsRow B 5 1 v l.length (Lib.byteCells l)
theorem OB.later {w w' : World} {B : Nat} {v : Value} {l : List UInt8} (h : OB w B v l) (k : Below w.heap.size w w') : OB w' B v l := own_kp h (A := fun _ => False) (Kp.of_below k) (fun _ e => e.elim)
theorem OB.str {B : Nat} {l : List UInt8} {q : ByteArray} {v' : Value} {w' : World} (h : w'.ownsRow B 5 1 v' (l.length + q.size) (Lib.byteCells l ++ cellsS q)) : OB w' B v' (l ++ q.data.toList) := by
  unfold OB
  rw [Lib.byteCells_append, List.length_append, size_data]
  exact h
set_option maxHeartbeats 3200000 in
theorem rLeaves (v : Value) (l : List ByteArray) (w : World) (hR : ReadsT w v l) (hn : l.length ≤ 140737488355328) :
    Calls Try.prog 12 #[v] w fun e w' => e = .returned (leavesV l) ∧ Below w.heap.size w w' := by
  obtain ⟨a, cap, rfl, hcap, hcl⟩ := hR
  by_cases hm : 1024 < l.length
  · have HV : Hid (leavesV l = .tuple #[.string ByteArray.empty, .int .i64 83]) := by
      have e : leavesE l = 83 := if_pos hm
      show _ = _
      unfold leavesV
      rw [e]; rfl
    rw [HV.out]
    have hm' : (1024 : Int) < l.length := by omega
    clear hcl
    go_enter Try.func12, Try.ntmps12
    go_wp2
    go_ret2
    exact ⟨rfl, Below.refl _ _⟩
  obtain ⟨i5, hi, hz0, hz1, hz2⟩ := info_parts info5
  have HIN : Hid (_ ∧ _ ∧ _ ∧ _) := ⟨hi, hz0, hz1, hz2⟩
  clear hi hz0 hz1 hz2
  have HCL : Hid (l.length = 0 ∨ ∃ b off, a = some ⟨b, off, none⟩ ∧ ∀ i, i < l.length → w.cell? ⟨b, off + i, none⟩ = some (.string (l.getD i ByteArray.empty))) := hcl
  have HK0 : Hid ([76] ++ (putB l.length).data.toList = leavesK l 0) := by show _ = _; simp [leavesK]
  have HJ : Hid (∀ k, k < l.length → leavesK l (k + 1) = leavesK l k ++ leafB (l.getD k ByteArray.empty)) := fun k hk => leavesK_next l k hk
  have HLN : Hid (∀ k, k ≤ l.length → (∀ j, j < k → (l.getD j ByteArray.empty).size ≤ 4096) → (leavesK l k).length ≤ 11 + 4106 * k) := leavesK_length l (by omega)
  have HPS : Hid (∀ k, 0 < (leavesK l k).length) := fun k => by simp [leavesK]
  have HBAD : Hid (∀ k, k < l.length → 4096 < (l.getD k ByteArray.empty).size → leavesV l = .tuple #[.string ByteArray.empty, .int .i64 121]) := fun k hk h => by
    have e : leavesE l = 121 := by unfold leavesE; rw [if_neg hm, not_all hk h]; rfl
    unfold leavesV
    rw [e]; rfl
  have HGOOD : Hid ((∀ j, j < l.length → (l.getD j ByteArray.empty).size ≤ 4096) → leavesV l = .tuple #[.string ⟨(leavesK l l.length).toArray⟩, .int .i64 0]) := fun h => by
    have e : leavesE l = 0 := by unfold leavesE; rw [if_neg hm, all_of h]; rfl
    unfold leavesV
    rw [e, leavesK_all]; rfl
  obtain ⟨R, HRR⟩ : ∃ R, Hid (leavesV l = R) := ⟨_, rfl⟩
  obtain ⟨n, HN⟩ : ∃ n, Hid (l.length = n) := ⟨_, rfl⟩
  rw [HRR.out] at HBAD HGOOD ⊢
  rw [HN.out] at HCL HK0 HJ HLN HBAD HGOOD hm hcap ⊢
  have hm' : ¬ (1024 : Int) < n := by omega
  have N1 : Hid (∀ W, Calls _ _ _ _ _) := fun W => rNumberC (n : Int) W (by omega) (by omega)
  have hps := (putB_size (n : Int) (by omega) (by omega)).2
  obtain ⟨Y, HY⟩ : ∃ Y, Hid (putB (n : Int) = Y) := ⟨_, rfl⟩
  rw [HY.out] at N1 HK0 hps
  have OX : Hid (w.ownsRow w.heap.size 5 1 (.slice none 0 0) 0 []) := World.ownsRow_nil _ _ _ _
  have HB0 : Hid (Below w.heap.size w (w.alloc (.cells #[.int .u8 76] 5))) := (Below.refl _ _).alloc (Nat.le_refl _) _
  clear hcl
  go_enter Try.func12, Try.ntmps12
  go_wp2_with (first
    | (at_builtin; refine wpList_append_own _ rfl _ _ 64 rfl w.heap.size 5 i5 (.int .u8 0) 1 1 Try.underlying64 HIN.out.1 HIN.out.2.1 HIN.out.2.2.1 HIN.out.2.2.2 rfl (by decide) _ 0 [] rfl (OX.out.alloc _) ⟨w.heap.size, 0, none⟩ 1 1 [.int .u8 76] rfl rfl (new_text _ _ _) (fun u hu => by simp at hu; subst hu; rfl) (by unfold maxLen; omega) (by omega) HB0.out.size ?_; intro v1 w1 ho1 hg1 hn1; have O1 : Hid (OB w1 w.heap.size v1 [76]) := ho1; have B1 : Hid (Below w.heap.size w w1) := Below.grown HB0.out hg1 HB0.out.size (fun j hj => by cases hj); clear ho1 hg1 hn1)
    | (go_at_call 35; refine (N1.out _).mono ?_; rintro _ w2 ⟨rfl, k2⟩; have O2 : Hid (OB w2 w.heap.size v1 [76]) := O1.out.later k2; have B2 : Hid (Below w.heap.size w w2) := below2 B1.out k2 (Nat.le_refl _); clear k2)
    | (at_builtin; refine wpList_append_str rfl _ _ rfl w.heap.size v1 1 (Lib.byteCells [76]) rfl O2.out Y rfl (by omega) B2.out.size ?_; intro v3 w3 ho3 hg3; have O3 : Hid (OB w3 w.heap.size v3 (leavesK l 0)) := (by rw [← HK0.out]; exact OB.str ho3); have B3 : Hid (Below w.heap.size w w3) := B2.out.trans (Below.grown (Below.refl _ _) hg3 B2.out.size (fun j hj => (O2.out.lt _ hj).1)); clear ho3 hg3))
  go_loopw [4, 5] (fun v i wr => ∃ (k : Nat), k ≤ n ∧ i = .int .i64 k ∧ Hid ((∀ j, j < k → (l.getD j ByteArray.empty).size ≤ 4096) ∧ OB wr w.heap.size v (leavesK l k) ∧ Below w.heap.size w wr)) (fun _ i _ => (n - intOf i).toNat)
  case atStart => exact ⟨0, by omega, rfl, fun j h => by omega, O3.out, B3.out⟩
  case round =>
    clear O1 B1 O2 B2 O3 B3 N1 HK0 hps
    obtain ⟨k, hk, rfl, HL⟩ := hrel
    have hbs := HL.out.2.2.size
    by_cases hlt : k < n
    · have hlt' : (k : Int) < n := by omega
      obtain ⟨b, off, rfl, hc⟩ : ∃ b off, a = some ⟨b, off, none⟩ ∧ ∀ i, i < n → w.cell? ⟨b, off + i, none⟩ = some (.string (l.getD i ByteArray.empty)) := by
        rcases HCL.out with h | h
        · omega
        · exact h
      have hcb : w.cell? ⟨b, off + k, none⟩ = some (.string (l.getD k ByteArray.empty)) := hc k hlt
      have c1 : wr.cell? ⟨b, off + k, none⟩ = some (.string (l.getD k ByteArray.empty)) := (HL.out.2.2.cell (p := ⟨b, off + k, none⟩) (World.block_lt_of_cell? _ _ (hc k hlt))).trans (hc k hlt)
      have hl1 := HLN.out k (by omega) HL.out.1
      have HJ2 : Hid (_ = _) := HJ.out k hlt
      have HBD : Hid (_ → _) := HBAD.out k hlt
      clear hc
      obtain ⟨X, HXX⟩ : ∃ X, Hid (l.getD k ByteArray.empty = X) := ⟨_, rfl⟩
      rw [HXX.out] at c1 HJ2 HBD hcb
      have HCB : Hid (∀ w2, Below w.heap.size w w2 → w2.cell? ⟨b, off + k, none⟩ = some (.string X)) := fun w2 h2 => (h2.cell (p := ⟨b, off + k, none⟩) (World.block_lt_of_cell? _ _ hcb)).trans hcb
      clear hcb
      by_cases hbig : 4096 < X.size
      · have hbig' : (4096 : Int) < X.size := by omega
        have HE : Hid (R = _) := HBD.out hbig
        have HB : Hid (Below w.heap.size w wr) := HL.out.2.2
        clear HL
        go_wp2
        go_ret2
        exact ⟨ret_v HE.out.symm, HB.out⟩
      · have hbig' : ¬ (4096 : Int) < X.size := by omega
        have PV : Hid (∀ W, Calls _ _ _ _ _) := fun W => rNumberC (X.size : Int) W (by omega) (by omega)
        have hps := (putB_size (X.size : Int) (by omega) (by omega)).2
        have HF : Hid (leafB X = (putB X.size).data.toList ++ X.data.toList) := rfl
        have HX4 : Hid (∀ j, j < k + 1 → (l.getD j ByteArray.empty).size ≤ 4096) := fun j hj => by
          rcases Nat.lt_or_ge j k with h | h
          · exact HL.out.1 j h
          · obtain rfl : j = k := by omega
            rw [HXX.out]; omega
        obtain ⟨Z, HZ⟩ : ∃ Z, Hid (putB (X.size : Int) = Z) := ⟨_, rfl⟩
        rw [HZ.out] at PV HF hps
        rw [HF.out] at HJ2
        have O0 : Hid (OB wr w.heap.size _ (leavesK l k)) := HL.out.2.1
        have B0 : Hid (Below w.heap.size w wr) := HL.out.2.2
        clear HL
        obtain ⟨K, HK⟩ : ∃ K, Hid (leavesK l k = K) := ⟨_, rfl⟩
        rw [HK.out] at O0 HJ2 hl1
        obtain ⟨va, vc, hv⟩ := own_formS O0.out
        subst hv
        have hl2 : (K ++ Z.data.toList).length ≤ 11 + 4106 * k + 10 := by rw [List.length_append, size_data]; omega
        go_wp2_with (first
          | (go_at_call 35; refine (PV.out _).mono ?_; rintro _ w1 ⟨rfl, k1⟩; have O1 : Hid (OB w1 w.heap.size (.slice va K.length vc) K) := O0.out.later k1; have B1 : Hid (Below w.heap.size w w1) := below2 B0.out k1 (Nat.le_refl _); clear k1)
          | (at_builtin; refine wpList_append_str rfl _ _ rfl w.heap.size (.slice va K.length vc) K.length (Lib.byteCells K) rfl O1.out Z rfl (by omega) B1.out.size ?_; intro v3 w3 ho3 hg3; have O3 : Hid (OB w3 w.heap.size v3 (K ++ Z.data.toList)) := OB.str ho3; have B3 : Hid (Below w.heap.size w w3) := B1.out.trans (Below.grown (Below.refl _ _) hg3 B1.out.size (fun j hj => (O1.out.lt _ hj).1)); have c3 := HCB.out w3 B3.out; clear ho3 hg3)
          | (at_builtin; refine wpList_append_str rfl _ _ rfl w.heap.size v3 (K ++ Z.data.toList).length (Lib.byteCells (K ++ Z.data.toList)) rfl O3.out X rfl (by omega) B3.out.size ?_; intro v5 w5 ho5 hg5; have O5 : Hid (OB w5 w.heap.size v5 (leavesK l (k + 1))) := (by rw [HJ2.out, ← List.append_assoc]; exact OB.str ho5); have B5 : Hid (Below w.heap.size w w5) := B3.out.trans (Below.grown (Below.refl _ _) hg5 B3.out.size (fun j hj => (O3.out.lt _ hj).1)); clear ho5 hg5))
        go_roundw
        case rel => exact ⟨k + 1, by omega, by go_num, HX4.out, O5.out, B5.out⟩
        case measure => simp [intOf]; omega
    · have hlt' : ¬ (k : Int) < n := by omega
      obtain rfl : k = n := by omega
      have hcv := conv_own wr w.heap.size _ (leavesK l k) _ rfl (HPS.out k) HL.out.2.1
      have HB : Hid (Below w.heap.size w wr) := HL.out.2.2
      have HE : Hid (R = _) := HGOOD.out HL.out.1
      clear HL
      go_wp2
      go_ret2
      exact ⟨ret_v HE.out.symm, HB.out⟩
end Go.Proofs.Ytkgadgkomdjplaa.fe
