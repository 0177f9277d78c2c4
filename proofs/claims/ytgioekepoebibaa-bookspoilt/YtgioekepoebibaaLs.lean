import Derived.Test.YtgioekepoebibaaLb
import Derived.Test.YtgioekepoebibaaQs
namespace Go.Proofs.Ytgioekepoebibaa.ls
open Go.RowKit Go.PlainAid
open Go.Proofs.Ytgioekepoebibaa.na Go.Proofs.Ytgioekepoebibaa.nb Go.Proofs.Ytgioekepoebibaa.pa Go.Proofs.Ytgioekepoebibaa.pd Go.Proofs.Ytgioekepoebibaa.ra Go.Proofs.Ytgioekepoebibaa.rb Go.Proofs.Ytgioekepoebibaa.rc Go.Proofs.Ytgioekepoebibaa.rd Go.Proofs.Ytgioekepoebibaa.ri Go.Proofs.Ytgioekepoebibaa.qa Go.Proofs.Ytgioekepoebibaa.qb Go.Proofs.Ytgioekepoebibaa.qc Go.Proofs.Ytgioekepoebibaa.qg Go.Proofs.Ytgioekepoebibaa.qh Go.Proofs.Ytgioekepoebibaa.qs Go.Proofs.Ytgioekepoebibaa.lb
set_option linter.unusedVariables false
set_option linter.unusedSimpArgs false
theorem bytes_str (f : ByteArray) (L : List Nat) (h : L = nl f f.size) : str (L.map fun n : Nat => (n : Int)) = f := by
  subst h
  refine ext_bt _ _ (by rw [str_size, List.length_map, nl_len]) ?_
  intro j hj
  rw [str_size, List.length_map, nl_len] at hj
  have hl : j < ((nl f f.size).map fun n : Nat => (n : Int)).length := by rw [List.length_map, nl_len]; exact hj
  have e : ((nl f f.size).map fun n : Nat => (n : Int))[j] = (nt f j : Int) := by simp [nl]
  have h1 := nt_lt f j
  rw [str_bt _ j hl (by rw [e]; omega) (by rw [e]; omega), e, nt_bt]
set_option maxRecDepth 100000 in
set_option maxHeartbeats 12800000 in
theorem spoilt_core (kind number K M a0 : Int) (mask A : Nat) (payload P F : ByteArray) (w : World)
    (hF : F.size = P.size + 18) (hP : P.size ≤ 524288) (hmask : mask < 4294967296)
    (CK : Hid (∀ w, Calls Try.prog 11 #[.int .i64 kind] w fun e w' => e = .returned (.int .i64 K) ∧ w' = w))
    (CN : Hid (∀ w, Calls Try.prog 10 #[.int .i64 number] w fun e w' => e = .returned (.int .i64 M) ∧ w' = w))
    (B : Int) (CA : Hid (∀ w, Calls Try.prog 10 #[.int .i64 a0] w fun e w' => e = .returned (.int .i64 B) ∧ w' = w)) (hB0 : 0 ≤ B)
    (HA : Hid (P.size ≠ 0 → B % (8 * (P.size : Int)) = (A : Int) ∧ A < 8 * P.size))
    (CS : Hid (∀ w, Calls Try.prog 12 #[.string payload] w fun e w' => e = .returned (.string P) ∧ w' = w))
    (CF : Hid (∀ w, Calls Try.prog 13 #[.int .i64 K, .int .i64 M, .string P] w fun e w' => e = .returned (.tuple #[.string F, .int .i64 0]) ∧ Below w.heap.size w w'))
    (CP : Hid (∀ w, Calls Try.prog 14 #[.string F] w fun e w' => e = .returned (.tuple #[.int .i64 K, .int .i64 M, .string P, .int .i64 0]) ∧ Below w.heap.size w w'))
    (CT : Hid (∀ (c : ByteArray) (L : List Nat) (m : Nat), Tn F (P.size + 18) m A L → c.size = P.size + 18 → nl c c.size = L → m ≠ 0 → m < 4294967296 → P.size ≠ 0 → ∃ x y z, ∀ w, Calls Try.prog 14 #[.string c] w fun e w' => e = .returned (.tuple #[.int .i64 x, .int .i64 y, .string z, .int .i64 131]) ∧ Below w.heap.size w w')) :
    Calls Try.prog 5 #[.int .i64 kind, .int .i64 number, .string payload, .int .i64 a0, .int .u32 mask] w fun e w' => e = .returned (.bool true) ∧ Below w.heap.size w w' := by
  go_enter Try.func5, Try.ntmps5
  go_wp2_with fail
  refine (CS.out _).mono ?_
  rintro _ _ ⟨rfl, hw⟩; rw [hw]; clear hw
  go_wp2_with fail
  refine (CK.out _).mono ?_
  rintro _ _ ⟨rfl, hw⟩; rw [hw]; clear hw
  go_wp2_with fail
  refine (CN.out _).mono ?_
  rintro _ _ ⟨rfl, hw⟩; rw [hw]; clear hw
  go_wp2_with fail
  refine (CF.out _).mono ?_
  rintro _ w1 ⟨rfl, b1⟩
  have B1 : Hid (Below w.heap.size w w1) := b1
  clear b1
  go_wp2_with fail
  refine (CP.out _).mono ?_
  rintro _ w2 ⟨rfl, b2⟩
  have B2 : Hid (Below w.heap.size w w2) := over B1.out b2
  have HW2 : Hid (w.heap.size ≤ w2.heap.size) := B2.out.size
  clear b2 B1
  by_cases h0 : P.size = 0
  · have h0' : (8 * (P.size : Int) == 0) = true := by rw [beq_iff_eq]; omega
    clear h0
    go_wp2
    go_ret
    exact ⟨rfl, B2.out⟩
  have h0' : (8 * (P.size : Int) == 0) = false := by rw [beq_eq_false_iff_ne]; omega
  obtain ⟨HA1, hA2⟩ := HA.out h0
  have hA3 : (A : Int) < 8 * (P.size : Int) := by omega
  have HP0 : Hid _ := h0
  have hne : ¬ (8 * (P.size : Int)) = 0 := by omega
  have htm : B.tmod (8 * (P.size : Int)) = (A : Int) := by rw [Int.tmod_eq_emod_of_nonneg hB0]; exact HA1
  have hmod : B % (8 * (P.size : Int)) = (A : Int) := HA1
  clear h0 HA HA1
  go_wp2_with fail
  refine (CA.out _).mono ?_
  rintro _ _ ⟨rfl, hw⟩; rw [hw]; clear hw
  obtain ⟨cap, w3, hcv, hcs, hbel⟩ := of_text w2 F
  have HC : Hid (Cs _ _ _ _ _) := hcs
  have HB : Hid (Below w.heap.size w w3) := over B2.out hbel
  clear hcs hbel
  go_wp2_with fail
  go_loopw [20, 21] (fun tv kv wr => ∃ (k : Nat) (L : List Nat) (tf : Bool), k ≤ 32 ∧ A + k ≤ 8 * P.size ∧ tv = .bool tf ∧ kv = .int .i64 k ∧ Hid (Cs wr w2.heap.size w2.heap.size (P.size + 18) L) ∧ Hid (Tn F (P.size + 18) (mask % 2 ^ k) A L) ∧ Hid ((tf = false ∧ L = nl F F.size ∧ mask % 2 ^ k = 0) ∨ (tf = true ∧ mask % 2 ^ k ≠ 0)) ∧ Hid (Below w.heap.size w wr)) (fun _ kv _ => (32 - intOf kv).toNat)
  case atStart => exact ⟨0, _, false, by omega, by omega, rfl, rfl, by rw [← hF]; exact HC.out, by show Tn _ _ _ _ _; rw [hF]; simpa [Nat.mod_one] using Tn.zero F (P.size + 18) A, .inl ⟨rfl, rfl, by simp [Nat.mod_one]⟩, HB.out⟩
  case round =>
    clear HC HB hcv
    obtain ⟨k, L, tf, hk, hAk, rfl, rfl, HC, HT, HF, HB⟩ := hrel
    by_cases hgo : k < 32 ∧ A + k < 8 * P.size
    · have g1 : (k : Int) < 32 := by omega
      have g2 : (A : Int) + (k : Int) < 8 * (P.size : Int) := by omega
      have hgo2 := hgo.2
      have hgo1 := hgo.1
      clear hgo
      have hp' : mask / 2 ^ k < 4294967296 := Nat.lt_of_le_of_lt (Nat.div_le_self _ _) hmask
      have HAN : Hid _ := and_one (mask / 2 ^ k) hp'
      rcases Nat.mod_two_eq_zero_or_one (mask / 2 ^ k) with hm | hm
      · rw [hm] at HAN
        have h01 : (bits .and .u32 ((mask : Int) / 2 ^ k) 1 == 1) = false := by
          have e : (mask : Int) / 2 ^ k = ((mask / 2 ^ k : Nat) : Int) := by simp
          rw [e, HAN.out]; rfl
        have HM : Hid _ := hm
        clear hm
        go_wp2
        go_roundw
        case rel => exact ⟨k + 1, L, tf, by omega, by omega, rfl, by go_num, HC, HT.out.off (m := 0) mask HM.out, by rw [bit_off mask k HM.out]; exact HF, HB⟩
        case measure => simp [intOf]; omega
      · rw [hm] at HAN
        have h01 : (bits .and .u32 ((mask : Int) / 2 ^ k) 1 == 1) = true := by
          have e : (mask : Int) / 2 ^ k = ((mask / 2 ^ k : Nat) : Int) := by simp
          rw [e, HAN.out]; rfl
        have HM : Hid _ := hm
        clear hm
        obtain ⟨i, HI⟩ : ∃ i, Hid (i = 14 + (A + k) / 8) := ⟨_, rfl⟩
        obtain ⟨r, HR⟩ : ∃ r, Hid (r = (A + k) % 8) := ⟨_, rfl⟩
        have hpl : 14 + ((A : Int) + (k : Int)) / 8 = (i : Int) := by have := HI.out; omega
        have hsh : ((A : Int) + (k : Int)) % 8 = (r : Int) := by have := HR.out; omega
        have hr8 : r < 8 := by have := HR.out; omega
        have hib : i < P.size + 18 := by have := HI.out; omega
        have hib' : (i : Int) < (F.size : Int) := by omega
        have hc := HC.out.cell i hib
        have hf := HC.out.free i hib
        have hlt256 := HC.out.lt i hib
        obtain ⟨x, HXE⟩ : ∃ x, Hid (L.getD i 0 = x) := ⟨_, rfl⟩
        rw [HXE.out] at hc hlt256
        have HXX : Hid (_ ∧ _) := xor_bit x r hlt256 hr8
        go_wp2
        go_roundw
        case rel =>
          refine ⟨k + 1, L.set i (L.getD i 0 ^^^ 2 ^ r), true, by omega, by omega, rfl, by go_num, ?_, HT.out.turn (m := 0) mask (by have := HI.out; omega) (by have := HI.out; omega) (by have := HI.out; have := HR.out; omega) HM.out, .inr ⟨rfl, ?_⟩, HB.out.setCell HW2.out _⟩
          · rw [HXX.out.1, HXE.out]
            exact HC.out.store i _ hib HXX.out.2
          · have := HM.out
            have hp2 := Nat.two_pow_pos k
            rw [Nat.pow_succ, Nat.mod_mul, this]; omega
        case measure => simp [intOf]; omega
    · have hcv := conv_at (L.map fun n : Nat => (n : Int)) wr w2.heap.size 0 (P.size + 18) cap (by simp [HC.out.len]) (fun j v hj => by
        rw [Addr.add_mid, Nat.zero_add]
        have hjl : j < P.size + 18 := by have h := (List.getElem?_eq_some_iff.1 hj).1; simpa [HC.out.len] using h
        have hjl' : j < L.length := by rw [HC.out.len]; exact hjl
        rw [HC.out.cell j hjl, ← hj]
        simp [List.getD, hjl'])
      have HL2 : Hid (nl (str (L.map fun n : Nat => (n : Int))) (str (L.map fun n : Nat => (n : Int))).size = L ∧ (str (L.map fun n : Nat => (n : Int))).size = P.size + 18) := by
        refine ⟨?_, by rw [str_size, List.length_map, HC.out.len]⟩
        rw [str_size, List.length_map]
        exact nl_str L (by rw [HC.out.len]; exact HC.out.lt)
      have HFS : Hid (L = nl F F.size → str (L.map fun n : Nat => (n : Int)) = F) := bytes_str F L
      obtain ⟨c, HCC⟩ : ∃ c, Hid (str (L.map fun n : Nat => (n : Int)) = c) := ⟨_, rfl⟩
      rw [HCC.out] at hcv HL2 HFS
      have key : (tf = false ∧ Hid (c = F)) ∨ (tf = true ∧ ∃ x y z, Hid (∀ w, Calls Try.prog 14 #[.string c] w fun e w' => e = .returned (.tuple #[.int .i64 x, .int .i64 y, .string z, .int .i64 131]) ∧ Below w.heap.size w w')) := by
        rcases HF.out with ⟨h1, h2, h3⟩ | ⟨h1, h3⟩
        · exact .inl ⟨h1, HFS.out h2⟩
        · obtain ⟨x, y, z, hh⟩ := CT.out c L _ HT.out HL2.out.2 HL2.out.1 h3 (Nat.lt_of_le_of_lt (Nat.mod_le _ _) hmask) HP0.out
          exact .inr ⟨h1, x, y, z, hh⟩
      have hend : (¬ (k : Int) < 32) ∨ ((k : Int) < 32 ∧ ¬ (A : Int) + (k : Int) < 8 * (P.size : Int)) := by omega
      clear HFS HL2 HF HT HC hgo HCC CT
      rcases key with ⟨rfl, HE⟩ | ⟨rfl, x, y, z, HE⟩
      · rw [HE.out] at hcv
        rcases hend with g1 | ⟨g1, g2⟩
        all_goals
          go_wp2_with fail
          refine (CP.out _).mono ?_
          rintro _ w5 ⟨rfl, b5⟩
          have B5 : Hid (Below w.heap.size w w5) := over HB.out b5
          clear b5
          go_wp2
          go_ret
          exact ⟨rfl, B5.out⟩
      · rcases hend with g1 | ⟨g1, g2⟩
        all_goals
          go_wp2_with fail
          refine (HE.out _).mono ?_
          rintro _ w5 ⟨rfl, b5⟩
          have B5 : Hid (Below w.heap.size w w5) := over HB.out b5
          clear b5
          go_wp2
          go_ret
          exact ⟨rfl, B5.out⟩
theorem u32_of {a : Int} (h : (Lit.int .u32 a).wf = true) : 0 ≤ a ∧ a < 4294967296 := by
  have e1 : IntKind.u32.min = 0 := by rfl
  have e2 : IntKind.u32.max = 4294967295 := by rfl
  simp [Lit.wf, e1, e2] at h
  omega
theorem spoilt_walk (kind : Int) (wk : (Lit.int .i64 kind).wf = true) (number : Int) (wn : (Lit.int .i64 number).wf = true) (payload : ByteArray) (zp : payload.size ≤ 140737488351232) (a0 : Int) (wa : (Lit.int .i64 a0).wf = true) (mask : Int) (wm : (Lit.int .u32 mask).wf = true) {W : World} :
    Calls Try.prog 5 #[.int .i64 kind, .int .i64 number, .string payload, .int .i64 a0, .int .u32 mask] W fun e w' => e = .returned (.bool true) ∧ Below W.heap.size W w' := by
  have bk := bounds_i64 wk
  have bn := bounds_i64 wn
  have ba := bounds_i64 wa
  have bm := u32_of wm
  obtain ⟨m, rfl⟩ : ∃ m : Nat, mask = m := ⟨mask.toNat, by omega⟩
  have ak := kd_ok kind
  have an := wi_ok number bn.2
  have aa := wi_ok a0 ba.2
  have ap := shF_size payload
  have hfs := frameT_size (kd kind) (wi number) (shF payload)
  have pf := parse_frame (kd kind) (wi number) (shF payload) ak.1 ak.2 an.1 an.2 ap
  have hA : (shF payload).size ≠ 0 → wi a0 % (8 * ((shF payload).size : Int)) = (((wi a0).toNat % (8 * (shF payload).size) : Nat) : Int) ∧ (wi a0).toNat % (8 * (shF payload).size) < 8 * (shF payload).size := fun h => by
    refine ⟨?_, Nat.mod_lt _ (by omega)⟩
    have e : wi a0 = ((wi a0).toNat : Int) := by omega
    rw [e, Int.toNat_natCast]
    simp
  refine spoilt_core kind number (kd kind) (wi number) a0 m ((wi a0).toNat % (8 * (shF payload).size)) payload (shF payload) (frameT (kd kind) (wi number) (shF payload)) W hfs ap (by omega)
    (fun w => kindOfC kind w bk.1 bk.2) (fun w => withinC number w) (wi a0) (fun w => withinC a0 w) aa.1 hA (fun w => shortC payload w zp) (fun w => frameC _ _ _ w ak.1 ak.2 an.1 an.2 ap) (fun w => ?_) (fun c L m' hT hc hL hm hm2 hP0 => ?_)
  · have h := parseC (frameT (kd kind) (wi number) (shF payload)) w (by omega)
    rw [pf.1, pf.2.1, pf.2.2.1, pf.2.2.2] at h
    exact h
  · have hp := parse_turned (kd kind) (wi number) (shF payload) m' _ c L ak.1 ak.2 an.1 an.2 ap hT hc hL hm hm2 (Nat.le_of_lt (hA hP0).2)
    refine ⟨parseK c, parseN c, parseP c, fun w => ?_⟩
    have h := parseC c w (by omega)
    rw [hp] at h
    exact h
end Go.Proofs.Ytgioekepoebibaa.ls
