import Derived.Test.YtkanjkofdfmhhaaDoorGs
import Derived.Test.YtkanjkofdfmhhaaDoorKc
import Derived.Test.YtkanjkofdfmhhaaDoorGl
import Derived.Test.YtkanjkofdfmhhaaDoorGr
import Derived.Test.YtkanjkofdfmhhaaDoorGq
import Derived.Handy
namespace Go.Proofs.YtkanjkofdfmhhaaDoor.gw
open Go.RowKit Go.PlainAid
open Go.Proofs.YtkanjkofdfmhhaaDoor.pl Go.Proofs.YtkanjkofdfmhhaaDoor.pi Go.Proofs.YtkanjkofdfmhhaaDoor.pj Go.Proofs.YtkanjkofdfmhhaaDoor.rf Go.Proofs.YtkanjkofdfmhhaaDoor.ca Go.Proofs.YtkanjkofdfmhhaaDoor.cb Go.Proofs.YtkanjkofdfmhhaaDoor.cp Go.Proofs.YtkanjkofdfmhhaaDoor.ka Go.Proofs.YtkanjkofdfmhhaaDoor.kb Go.Proofs.YtkanjkofdfmhhaaDoor.kc Go.Proofs.YtkanjkofdfmhhaaDoor.ga Go.Proofs.YtkanjkofdfmhhaaDoor.gb Go.Proofs.YtkanjkofdfmhhaaDoor.gs Go.Proofs.YtkanjkofdfmhhaaDoor.gl Go.Proofs.YtkanjkofdfmhhaaDoor.gr Go.Proofs.YtkanjkofdfmhhaaDoor.gq
set_option linter.unusedVariables false

set_option maxHeartbeats 3200000 in
set_option maxRecDepth 100000 in
theorem grown {T : World → Prop} (later : ∀ {w w' : World}, T w → Below w.heap.size w w' → T w') (tab : ∀ {w : World}, T w → Tab w) (wd : Int) (n : Nat) : n ≤ 4611686018427387904 → ∀ (xs : List ByteArray) (m : Nat) (bb : Bool) (old : ByteArray) (v : Value) (w : World), xs.length = n → 1 ≤ m → m ≤ n → (bb = true → old = RT wd (xs.take m)) → T w → ReadsT w v (QTn wd m xs bb) →
    Calls Tryd.prog 21 #[.int .i64 wd, .int .i64 m, .int .i64 n, .bool bb, .string old, v] w fun e w' => e = .returned (.tuple #[.string (RT wd (xs.take m)), .string (RT wd xs), .bool true]) ∧ Below w.heap.size w w' := by
  induction n using Nat.strongRecOn with
  | ind n ih0 =>
    intro hnm xs m bb old v w hn hm1' hmn hold hT hR
    have ih : ∀ (k : Nat), k < n → ∀ (xs : List ByteArray) (m : Nat) (bb : Bool) (old : ByteArray) (v : Value) (w : World), xs.length = k → 1 ≤ m → m ≤ k → (bb = true → old = RT wd (xs.take m)) → T w → ReadsT w v (QTn wd m xs bb) →
    Calls Tryd.prog 21 #[.int .i64 wd, .int .i64 m, .int .i64 k, .bool bb, .string old, v] w fun e w' => e = .returned (.tuple #[.string (RT wd (xs.take m)), .string (RT wd xs), .bool true]) ∧ Below w.heap.size w w' := fun k hk => ih0 k hk (by omega)
    have IH : Hid (∀ (k : Nat), k < n → ∀ (xs : List ByteArray) (m : Nat) (bb : Bool) (old : ByteArray) (v : Value) (w : World), xs.length = k → 1 ≤ m → m ≤ k → (bb = true → old = RT wd (xs.take m)) → T w → ReadsT w v (QTn wd m xs bb) →
    Calls Tryd.prog 21 #[.int .i64 wd, .int .i64 m, .int .i64 k, .bool bb, .string old, v] w fun e w' => e = .returned (.tuple #[.string (RT wd (xs.take m)), .string (RT wd xs), .bool true]) ∧ Below w.heap.size w w') := ih
    have HL : Hid (∀ {w w' : World}, T w → Below w.heap.size w w' → T w') := later
    have HTB : Hid (∀ {w : World}, T w → Tab w) := tab
    have HT : Hid (T w) := hT
    have HRD : Hid (ReadsT w v (QTn wd m xs bb)) := hR
    have HN : Hid (xs.length = n) := hn
    have HOLD : Hid (bb = true → old = RT wd (xs.take m)) := hold
    clear ih ih0 hn hT hR later tab hold
    by_cases h1 : m = n
    · have q1 : ((m : Int) == (n : Int)) = true := by rw [beq_iff_eq]; omega
      have HTK : Hid (xs.take m = xs) := List.take_of_length_le (by rw [HN.out]; omega)
      rw [HTK.out] at HOLD ⊢
      have HP : Hid (QTn wd m xs bb = if bb then [] else [RT wd xs]) := QTn_all wd bb (by rw [HN.out]; omega)
      rw [HP.out] at HRD
      obtain ⟨R, HRR⟩ : ∃ R, Hid (RT wd xs = R) := ⟨_, rfl⟩
      rw [HRR.out] at HOLD HRD ⊢
      clear h1 HP
      cases bb with
      | true =>
        obtain rfl : old = R := HOLD.out rfl
        obtain ⟨a, cap, e, hcap, _⟩ := HRD.out
        obtain rfl : v = .slice a 0 cap := e
        clear HRD HOLD
        go_enter Tryd.func21, Tryd.ntmps21
        go_wp2
        go_returns
        exact ⟨rfl, Below.refl _ _⟩
      | false =>
        obtain ⟨a, cap, e, hcap, hh⟩ := HRD.out
        obtain ⟨b, off, rfl, hq⟩ := hh.resolve_left (by simp)
        obtain rfl : v = .slice (some ⟨b, off, none⟩) 1 cap := e
        have c0 : w.cell? ⟨b, off, none⟩ = some (.string R) := hq 0 (by simp)
        clear hh hq HRD HOLD hcap
        go_enter Tryd.func21, Tryd.ntmps21
        go_wp2_with fail
        go_quiet (fail)
        go_wp2
        go_returns
        exact ⟨rfl, below_dN (Below.refl _ _) _⟩
    · have q1 : ((m : Int) == (n : Int)) = false := by rw [beq_eq_false_iff_ne]; omega
      have hmlt : m < n := by omega
      have h2n : 2 ≤ n := by omega
      obtain ⟨t, HTT⟩ : ∃ t, Hid (half n = t) := ⟨_, rfl⟩
      have SC : Hid (∀ w, Calls _ _ _ _ _) := fun w => split n h2n hnm w
      rw [HTT.out] at SC
      have hh2 := half_lt h2n
      rw [HTT.out] at hh2
      obtain ⟨ht1, htn, _⟩ := hh2
      have L1 : Hid ((xs.take t).length = t) := by show _ = _; rw [List.length_take, HN.out]; omega
      have L2 : Hid ((xs.drop t).length = n - t) := by show _ = _; rw [List.length_drop, HN.out]
      obtain ⟨r1, HR1⟩ : ∃ r, Hid (RT wd (xs.take t) = r) := ⟨_, rfl⟩
      obtain ⟨r2, HR2⟩ : ∃ r, Hid (RT wd (xs.drop t) = r) := ⟨_, rfl⟩
      obtain ⟨R, HRR⟩ : ∃ R, Hid (RT wd xs = R) := ⟨_, rfl⟩
      obtain ⟨M, HMM⟩ : ∃ M, Hid (RT wd (xs.take m) = M) := ⟨_, rfl⟩
      have HE : Hid (NF wd r1 r2 = R) := by
        show _ = _
        rw [← HRR.out, RT_half wd (by rw [HN.out]; exact h2n), HN.out, HTT.out, HR1.out, HR2.out]
      have Z1 : r1.size ≤ 32 := by rw [← HR1.out]; exact RT_le _ _
      have Z2 : r2.size ≤ 32 := by rw [← HR2.out]; exact RT_le _ _
      have ZM : M.size ≤ 32 := by rw [← HMM.out]; exact RT_le _ _
      rw [HRR.out, HMM.out]
      have htn' : (t : Int) ≤ n := by omega
      by_cases hik : m ≤ t
      · obtain ⟨ts, HTS⟩ : ∃ ts, Hid (QTn wd m (xs.take t) bb = ts) := ⟨_, rfl⟩
        have HP : Hid (QTn wd m xs bb = ts ++ [r2]) := by
          show _ = _
          rw [QTn_low wd bb (by rw [HN.out]; exact hmlt) (by rw [HN.out]; exact h2n) (by rw [HN.out, HTT.out]; exact hik), HN.out, HTT.out, HTS.out, HR2.out]
        rw [HP.out] at HRD
        obtain ⟨a, cap, e, hcap, hh⟩ := HRD.out
        obtain ⟨c, HC⟩ : ∃ c, Hid (ts.length = c) := ⟨_, rfl⟩
        have hl : (ts ++ [r2]).length = c + 1 := by rw [List.length_append, HC.out]; rfl
        rw [hl] at e hcap hh
        obtain ⟨b, off, rfl, hq⟩ := hh.resolve_left (by omega)
        subst e
        have c0 := hq c (by omega)
        rw [List.getD_eq_getElem?_getD, List.getElem?_append_right (by rw [HC.out]; omega), HC.out, Nat.sub_self] at c0
        have c1 : w.cell? ⟨b, off + c, none⟩ = some (.string r2) := c0
        have RF : Hid (ReadsT w (.slice (some ⟨b, off, none⟩) c cap) ts) := by
          have h := ReadsT.front (n := c + 1) HRD.out (k := c) (by rw [hl]; omega)
          rw [List.take_append_of_le_length (by rw [HC.out]; omega), List.take_of_length_le (by rw [HC.out]; omega)] at h
          exact h
        have hcb : c ≤ 4611686018427387904 := by
          have h := QTn_len wd m xs bb (by rw [HN.out]; omega)
          rw [HP.out, hl, HN.out] at h
          omega
        obtain ⟨z, HM⟩ : ∃ z, Hid (c + 1 = z) := ⟨_, rfl⟩
        rw [HM.out] at hcap ⊢
        have hm1 : ((z : Int) - 1) = (c : Int) := by have := HM.out; omega
        have q2 : ((z : Int) == 0) = false := by rw [beq_eq_false_iff_ne]; have := HM.out; omega
        have hc0 : (0 : Int) ≤ c := by omega
        have hcm : (c : Int) < z := by have := HM.out; omega
        have hcc : (c : Int) ≤ cap := by have := HM.out; omega
        clear hh hq c0 hl HRD
        have CC : Hid (∀ w', T w' → ReadsT w' (.slice (some ⟨b, off, none⟩) c cap) ts → Calls _ _ _ _ _) := fun w' h h' => IH.out t htn (xs.take t) m bb old _ w' L1.out hm1' hik (fun e => by rw [HOLD.out e, List.take_take, Nat.min_eq_left hik]) h (by rw [← HTS.out] at h'; exact h')
        have HTM : Hid ((xs.take t).take m = xs.take m) := by show _ = _; rw [List.take_take, Nat.min_eq_left hik]
        rw [HTM.out, HR1.out, HMM.out] at CC
        have NC : Hid (∀ w', T w' → Calls _ _ _ _ _) := fun w' h => pNode wd r1 r2 (by omega) w' (HTB.out h)
        rw [HE.out] at NC
        have hik' : (m : Int) ≤ t := by omega
        clear Z1 Z2 ZM h1
        go_enter Tryd.func21, Tryd.ntmps21
        go_wp2_with fail
        refine (SC.out _).mono ?_
        rintro e w0 ⟨rfl, hw0⟩
        subst hw0
        go_wp2_with fail
        refine (CC.out _ HT.out RF.out).mono ?_
        rintro e w1 ⟨rfl, hb⟩
        have B1 : Hid (Below w0.heap.size w0 w1) := hb
        have T1 : Hid (T w1) := HL.out HT.out hb
        clear hb c1
        go_wp2_with fail
        refine (NC.out _ T1.out).mono ?_
        rintro e w2 ⟨rfl, hb⟩
        have B2 : Hid (Below w0.heap.size w0 w2) := over B1.out hb
        clear hb
        go_wp2
        go_returns
        exact ⟨rfl, B2.out⟩
      · obtain ⟨ts, HTS⟩ : ∃ ts, Hid (QTn wd (m - t) (xs.drop t) false = ts) := ⟨_, rfl⟩
        have HP : Hid (QTn wd m xs bb = ts ++ [r1]) := by
          show _ = _
          rw [QTn_high wd bb (by rw [HN.out]; exact hmlt) (by rw [HN.out]; exact h2n) (by rw [HN.out, HTT.out]; exact hik), HN.out, HTT.out, HTS.out, HR1.out]
        rw [HP.out] at HRD
        obtain ⟨a, cap, e, hcap, hh⟩ := HRD.out
        obtain ⟨c, HC⟩ : ∃ c, Hid (ts.length = c) := ⟨_, rfl⟩
        have hl : (ts ++ [r1]).length = c + 1 := by rw [List.length_append, HC.out]; rfl
        rw [hl] at e hcap hh
        obtain ⟨b, off, rfl, hq⟩ := hh.resolve_left (by omega)
        subst e
        have c0 := hq c (by omega)
        rw [List.getD_eq_getElem?_getD, List.getElem?_append_right (by rw [HC.out]; omega), HC.out, Nat.sub_self] at c0
        have c1 : w.cell? ⟨b, off + c, none⟩ = some (.string r1) := c0
        have RF : Hid (ReadsT w (.slice (some ⟨b, off, none⟩) c cap) ts) := by
          have h := ReadsT.front (n := c + 1) HRD.out (k := c) (by rw [hl]; omega)
          rw [List.take_append_of_le_length (by rw [HC.out]; omega), List.take_of_length_le (by rw [HC.out]; omega)] at h
          exact h
        have hcb : c ≤ 4611686018427387904 := by
          have h := QTn_len wd m xs bb (by rw [HN.out]; omega)
          rw [HP.out, hl, HN.out] at h
          omega
        obtain ⟨z, HM⟩ : ∃ z, Hid (c + 1 = z) := ⟨_, rfl⟩
        rw [HM.out] at hcap ⊢
        have hm1 : ((z : Int) - 1) = (c : Int) := by have := HM.out; omega
        have q2 : ((z : Int) == 0) = false := by rw [beq_eq_false_iff_ne]; have := HM.out; omega
        have hc0 : (0 : Int) ≤ c := by omega
        have hcm : (c : Int) < z := by have := HM.out; omega
        have hcc : (c : Int) ≤ cap := by have := HM.out; omega
        clear hh hq c0 hl HRD
        obtain ⟨am, HAM⟩ : ∃ am, Hid (RT wd ((xs.drop t).take (m - t)) = am) := ⟨_, rfl⟩
        have CC : Hid (∀ w', T w' → ReadsT w' (.slice (some ⟨b, off, none⟩) c cap) ts → Calls _ _ _ _ _) := fun w' h h' => IH.out (n - t) (by omega) (xs.drop t) (m - t) false old _ w' L2.out (by omega) (by omega) (fun e => by cases e) h (by rw [← HTS.out] at h'; exact h')
        rw [HR2.out, HAM.out] at CC
        have ZA : am.size ≤ 32 := by rw [← HAM.out]; exact RT_le _ _
        have NC : Hid (∀ w', T w' → Calls _ _ _ _ _) := fun w' h => pNode wd r1 r2 (by omega) w' (HTB.out h)
        rw [HE.out] at NC
        have NA : Hid (∀ w', T w' → Calls _ _ _ _ _) := fun w' h => pNode wd r1 am (by omega) w' (HTB.out h)
        have HEA : Hid (NF wd r1 am = M) := by
          show _ = _
          rw [← HMM.out, RT_take wd (by rw [HN.out]; exact h2n) (by rw [HN.out, HTT.out]; omega) (by rw [HN.out]; exact hmlt), HN.out, HTT.out, HR1.out, HAM.out]
        rw [HEA.out] at NA
        have hik' : ¬ (m : Int) ≤ t := by omega
        have ent2 : ((m - t : Nat) : Int) = (m : Int) - t := by omega
        have ent3 : ((n - t : Nat) : Int) = (n : Int) - t := by omega
        rw [ent2, ent3] at CC
        clear Z1 Z2 ZM ZA h1 ent2 ent3
        go_enter Tryd.func21, Tryd.ntmps21
        go_wp2_with fail
        refine (SC.out _).mono ?_
        rintro e w0 ⟨rfl, hw0⟩
        subst hw0
        go_wp2_with fail
        refine (CC.out _ HT.out RF.out).mono ?_
        rintro e w1 ⟨rfl, hb⟩
        have B1 : Hid (Below w0.heap.size w0 w1) := hb
        have T1 : Hid (T w1) := HL.out HT.out hb
        clear hb c1
        go_wp2_with fail
        refine (NA.out _ T1.out).mono ?_
        rintro e w2 ⟨rfl, hb⟩
        have B2 : Hid (Below w0.heap.size w0 w2) := over B1.out hb
        have T2 : Hid (T w2) := HL.out T1.out hb
        clear hb
        go_wp2_with fail
        refine (NC.out _ T2.out).mono ?_
        rintro e w3 ⟨rfl, hb⟩
        have B3 : Hid (Below w0.heap.size w0 w3) := over B2.out hb
        clear hb
        go_wp2
        go_returns
        exact ⟨rfl, B3.out⟩
set_option maxHeartbeats 1600000 in
theorem mth_grows {T : World → Prop} (later : ∀ {w w' : World}, T w → Below w.heap.size w w' → T w') (tab : ∀ {w : World}, T w → Tab w) (RC : RootC T) (PC : ProofC T) (wd i : Int) (hwd : i64 wd) (hi : i64 i) (v : Value) (xs : List ByteArray) (w : World) (hT : T w) (hR : ReadsT w v xs) (hf : Fits xs) :
    Calls Tryd.prog 6 #[.int .i64 wd, .int .i64 i, v] w fun e w' => e = .returned (.bool true) ∧ Below w.heap.size w w' := by
  have HL : Hid (∀ {w w' : World}, T w → Below w.heap.size w w' → T w') := later
  have HT : Hid (T w) := hT
  have HRD : Hid (ReadsT w v xs) := hR
  have hm := hf.many
  have C1 : Hid (Calls _ _ _ _ _) := PC wd i v xs w hwd hi hT hR hf
  obtain ⟨a, cap, rfl, hcap, hh⟩ := hR
  by_cases hok : 0 ≤ i ∧ i ≤ xs.length
  · have HC : Hid (QE i xs = 0) := by show _ = _; unfold QE; rw [if_pos hok]
    rw [HC.out] at C1
    obtain ⟨k, rfl⟩ : ∃ k : Nat, i = k := ⟨i.toNat, by omega⟩
    by_cases he : k = 0 ∨ k = xs.length
    · have HP : Hid (QT wd k xs = []) := by
        show _ = _
        unfold QT
        by_cases h1 : 1 ≤ (k : Int) ∧ (k : Int) ≤ xs.length
        · rw [if_pos h1]
          exact QTn_all wd true (by rw [Int.toNat_natCast]; omega)
        · rw [if_neg h1]
      rw [HP.out] at C1
      obtain ⟨n, HN⟩ : ∃ n, Hid (xs.length = n) := ⟨_, rfl⟩
      rw [HN.out] at C1 hcap hok he ⊢
      have t1 : ¬ (k : Int) < 0 := by omega
      have t2 : ¬ (k : Int) > n := by omega
      clear hh hT hf later tab RC PC hwd hi hok
      by_cases h0 : k = 0
      · have q0 : ((k : Int) == 0) = true := by rw [beq_iff_eq]; omega
        clear he h0
        go_enter Tryd.func6, Tryd.ntmps6
        go_wp2_with fail
        refine C1.out.mono ?_
        rintro e w1 ⟨⟨u, rfl, hu⟩, hb⟩
        have B1 : Hid (Below w.heap.size w w1) := hb
        obtain ⟨ua, uc, rfl⟩ := own_formS hu
        clear hb hu
        go_wp2
        go_ret
        exact ⟨rfl, B1.out⟩
      · have q0 : ((k : Int) == 0) = false := by rw [beq_eq_false_iff_ne]; omega
        have q1 : ((k : Int) == (n : Int)) = true := by rw [beq_iff_eq]; omega
        clear he h0
        go_enter Tryd.func6, Tryd.ntmps6
        go_wp2_with fail
        refine C1.out.mono ?_
        rintro e w1 ⟨⟨u, rfl, hu⟩, hb⟩
        have B1 : Hid (Below w.heap.size w w1) := hb
        obtain ⟨ua, uc, rfl⟩ := own_formS hu
        clear hb hu
        go_wp2
        go_ret
        exact ⟨rfl, B1.out⟩
    · have hk1 : 1 ≤ k ∧ k < xs.length := by omega
      have HP : Hid (QT wd k xs = QTn wd k xs true) := by show _ = _; unfold QT; rw [if_pos (by omega), Int.toNat_natCast]
      rw [HP.out] at C1
      obtain ⟨b, off, rfl, hq⟩ := hh.resolve_left (by omega)
      have C2 : Hid (∀ w', T w' → ReadsT w' (.slice (some ⟨b, off, none⟩) k cap) (xs.take k) → Calls _ _ _ _ _) := fun w' h1 h2 => RC wd _ (xs.take k) w' hwd h1 h2 (hf.take k)
      have C3 : Hid (∀ u w', T w' → ReadsT w' u (QTn wd k xs true) → Calls _ _ _ _ _) := fun u w' h1 h2 => grown later tab wd xs.length (by omega) xs k true (RT wd (xs.take k)) u w' rfl (by omega) (by omega) (fun _ => rfl) h1 h2
      have C4 : Hid (∀ w', T w' → ReadsT w' (.slice (some ⟨b, off, none⟩) xs.length cap) xs → Calls _ _ _ _ _) := fun w' h1 h2 => RC wd _ xs w' hwd h1 h2 hf
      have RK : Hid (∀ w', ReadsT w' (.slice (some ⟨b, off, none⟩) xs.length cap) xs → ReadsT w' (.slice (some ⟨b, off, none⟩) k cap) (xs.take k)) := fun w' h => h.front (by omega)
      obtain ⟨P, HPP⟩ : ∃ P, Hid (QTn wd k xs true = P) := ⟨_, rfl⟩
      rw [HPP.out] at C1 C3
      obtain ⟨o, HO⟩ : ∃ o, Hid (RT wd (xs.take k) = o) := ⟨_, rfl⟩
      rw [HO.out] at C2 C3
      obtain ⟨R, HRR⟩ : ∃ R, Hid (RT wd xs = R) := ⟨_, rfl⟩
      rw [HRR.out] at C3 C4
      have qR : (R.toList == R.toList) = true := beq_self_eq_true _
      have qo : (o.toList == o.toList) = true := beq_self_eq_true _
      obtain ⟨n, HN⟩ : ∃ n, Hid (xs.length = n) := ⟨_, rfl⟩
      rw [HN.out] at C1 C3 C4 RK HRD hcap hok hk1 ⊢
      have t1 : ¬ (k : Int) < 0 := by omega
      have t2 : ¬ (k : Int) > n := by omega
      have q0 : ((k : Int) == 0) = false := by rw [beq_eq_false_iff_ne]; omega
      have q1 : ((k : Int) == (n : Int)) = false := by rw [beq_eq_false_iff_ne]; omega
      have t3 : (k : Int) ≤ cap := by omega
      clear hh hq hok hT hf later tab RC PC hwd hi hk1 he
      go_enter Tryd.func6, Tryd.ntmps6
      go_wp2_with fail
      refine C1.out.mono ?_
      rintro e w1 ⟨⟨u, rfl, hu⟩, hb⟩
      have B1 : Hid (Below w.heap.size w w1) := hb
      have T1 : Hid (T w1) := HL.out HT.out hb
      have RU1 : Hid (ReadsT w1 u P) := own_readsT hu
      obtain ⟨ua, uc, rfl⟩ := own_formS hu
      clear hb hu
      go_wp2_with fail
      refine (C2.out _ T1.out (RK.out _ (HRD.out.later B1.out))).mono ?_
      rintro e w2 ⟨rfl, hb⟩
      have B2 : Hid (Below w.heap.size w w2) := over B1.out hb
      have T2 : Hid (T w2) := HL.out T1.out hb
      have RU2 : Hid (ReadsT w2 (.slice ua P.length uc) P) := RU1.out.later hb
      clear hb
      go_wp2_with fail
      refine (C3.out _ _ T2.out RU2.out).mono ?_
      rintro e w3 ⟨rfl, hb⟩
      have B3 : Hid (Below w.heap.size w w3) := over B2.out hb
      have T3 : Hid (T w3) := HL.out T2.out hb
      clear hb
      go_wp2_with fail
      refine (C4.out _ T3.out (HRD.out.later B3.out)).mono ?_
      rintro e w4 ⟨rfl, hb⟩
      have B4 : Hid (Below w.heap.size w w4) := over B3.out hb
      clear hb
      go_wp2
      go_ret
      exact ⟨rfl, B4.out⟩
  · have HP : Hid (QT wd i xs = []) := by show _ = _; unfold QT; rw [if_neg (by omega)]
    have HC : Hid (QE i xs = 80) := by show _ = _; unfold QE; rw [if_neg hok]
    rw [HP.out, HC.out] at C1
    obtain ⟨n, HN⟩ : ∃ n, Hid (xs.length = n) := ⟨_, rfl⟩
    rw [HN.out] at C1 hcap hok ⊢
    clear hh hT hf later tab RC PC hwd hi
    by_cases a1 : i < 0
    · clear hok
      go_enter Tryd.func6, Tryd.ntmps6
      go_wp2_with fail
      refine C1.out.mono ?_
      rintro e w1 ⟨⟨u, rfl, hu⟩, hb⟩
      have B1 : Hid (Below w.heap.size w w1) := hb
      obtain ⟨ua, uc, rfl⟩ := own_formS hu
      clear hb hu
      go_wp2
      go_ret
      exact ⟨rfl, B1.out⟩
    · have a2 : i > n := by omega
      clear hok
      go_enter Tryd.func6, Tryd.ntmps6
      go_wp2_with fail
      refine C1.out.mono ?_
      rintro e w1 ⟨⟨u, rfl, hu⟩, hb⟩
      have B1 : Hid (Below w.heap.size w w1) := hb
      obtain ⟨ua, uc, rfl⟩ := own_formS hu
      clear hb hu
      go_wp2
      go_ret
      exact ⟨rfl, B1.out⟩
end Go.Proofs.YtkanjkofdfmhhaaDoor.gw
