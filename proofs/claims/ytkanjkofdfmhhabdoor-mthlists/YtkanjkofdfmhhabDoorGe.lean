import Derived.Test.YtkanjkofdfmhhabDoorGc
namespace Go.Proofs.YtkanjkofdfmhhabDoor.ge
open Go.RowKit Go.PlainAid
open Go.Proofs.YtkanjkofdfmhhabDoor.pl Go.Proofs.YtkanjkofdfmhhabDoor.pi Go.Proofs.YtkanjkofdfmhhabDoor.pj Go.Proofs.YtkanjkofdfmhhabDoor.ca Go.Proofs.YtkanjkofdfmhhabDoor.cb Go.Proofs.YtkanjkofdfmhhabDoor.cp Go.Proofs.YtkanjkofdfmhhabDoor.ka Go.Proofs.YtkanjkofdfmhhabDoor.kb Go.Proofs.YtkanjkofdfmhhabDoor.rf Go.Proofs.YtkanjkofdfmhhabDoor.ga Go.Proofs.YtkanjkofdfmhhabDoor.gb Go.Proofs.YtkanjkofdfmhhabDoor.gc
set_option linter.unusedVariables false

set_option maxHeartbeats 3200000 in
set_option maxRecDepth 100000 in
theorem rsub (wd : Int) (n : Nat) : ∀ (xs : List ByteArray) (m : Nat) (bb : Bool) (v : Value) (w : World), xs.length = n → 1 ≤ m → m ≤ n → Tab4 w → ReadsT w v xs → Fits xs →
    Calls Tryd.prog 20 #[.int .i64 wd, .int .i64 m, v, .bool bb] w fun e w' => (∃ u, e = .returned u ∧ w'.ownsRow w.heap.size 9 1 u (QTn wd m xs bb).length ((QTn wd m xs bb).map Value.string)) ∧ Below w.heap.size w w' := by
  induction n using Nat.strongRecOn with
  | ind n ih =>
    intro xs m bb v w hn hm1 hmn hT hR hx
    obtain ⟨i9, hi, hz0, hz1, hz2⟩ := info_parts hi9
    have HIN : Hid (_ ∧ _ ∧ _ ∧ _) := ⟨hi, hz0, hz1, hz2⟩
    have HT : Hid (Tab4 w) := hT
    have HRD : Hid (ReadsT w v xs) := hR
    have HX : Hid (Fits xs) := hx
    have HN : Hid (xs.length = n) := hn
    have hnm : n * 16 ≤ 140737488351232 := by have := hx.many; rw [hn] at this; exact this
    have IH : Hid (∀ (k : Nat), k < n → ∀ (xs : List ByteArray) (m : Nat) (bb : Bool) (v : Value) (w : World), xs.length = k → 1 ≤ m → m ≤ k → Tab4 w → ReadsT w v xs → Fits xs →
      Calls Tryd.prog 20 #[.int .i64 wd, .int .i64 m, v, .bool bb] w fun e w' => (∃ u, e = .returned u ∧ w'.ownsRow w.heap.size 9 1 u (QTn wd m xs bb).length ((QTn wd m xs bb).map Value.string)) ∧ Below w.heap.size w w') := ih
    obtain ⟨a, cap, rfl, hcap, hh⟩ := hR
    rw [HN.out] at hcap hh HRD ⊢
    have HH : Hid (n = 0 ∨ ∃ b off, a = some ⟨b, off, none⟩ ∧ ∀ i, i < n → w.cell? ⟨b, off + i, none⟩ = some (.string (xs.getD i ByteArray.empty))) := hh
    obtain ⟨P, HPP⟩ : ∃ P, Hid (QTn wd m xs bb = P) := ⟨_, rfl⟩
    rw [HPP.out]
    clear ih hn hT hx hh hi hz0 hz1 hz2
    by_cases h1 : m = n
    · have q1 : ((m : Int) == (n : Int)) = true := by rw [beq_iff_eq]; omega
      have HE0 : Hid (P = if bb then [] else [RT wd xs]) := by show _ = _; rw [← HPP.out]; exact QTn_all wd bb (by rw [HN.out]; omega)
      clear h1
      cases bb with
      | true =>
        have HE : Hid (P = []) := HE0.out
        go_enter Tryd.func20, Tryd.ntmps20
        go_wp2
        go_ret
        refine ⟨⟨_, rfl, ?_⟩, Below.refl _ _⟩
        rw [HE.out]
        exact World.ownsRow_nil _ _ _ _
      | false =>
        have HE : Hid (P = [RT wd xs]) := HE0.out
        have CR : Hid (Calls _ _ _ _ _) := rRoot wd n xs _ w HN.out HT.out HRD.out HX.out
        obtain ⟨r, HR⟩ : ∃ r, Hid (RT wd xs = r) := ⟨_, rfl⟩
        rw [HR.out] at CR HE
        clear HE0
        go_enter Tryd.func20, Tryd.ntmps20
        go_wp2_with fail
        refine CR.out.mono ?_
        rintro e w1 ⟨rfl, hb⟩
        have B1 : Hid (Below w.heap.size w (w1.alloc (.cells #[.string r] 9))) := hb.alloc hb.size _
        have O1 : Hid ((w1.alloc (.cells #[.string r] 9)).ownsRow w.heap.size 9 1 (.slice (some ⟨w1.heap.size, 0, none⟩) 1 1) 1 [.string r]) := World.ownsRow_lit w1 #[.string r] 1 hb.size (by unfold maxLen; omega) rfl
        clear hb
        go_wp2
        go_ret
        refine ⟨⟨_, rfl, ?_⟩, B1.out⟩
        rw [HE.out]
        exact O1.out
    · obtain ⟨b, off, rfl, hh⟩ : ∃ b off, a = some ⟨b, off, none⟩ ∧ ∀ i, i < n → w.cell? ⟨b, off + i, none⟩ = some (.string (xs.getD i ByteArray.empty)) := by
        rcases HH.out with h | h
        · omega
        · exact h
      have q1 : ((m : Int) == (n : Int)) = false := by rw [beq_eq_false_iff_ne]; omega
      have hmlt : m < n := by omega
      have h2n : 2 ≤ n := by omega
      obtain ⟨t, HTT⟩ : ∃ t, Hid (half n = t) := ⟨_, rfl⟩
      have SC : Hid (∀ w, Calls _ _ _ _ _) := fun w => rSplit n h2n (by omega) w
      rw [HTT.out] at SC
      have hh2 := half_lt h2n
      rw [HTT.out] at hh2
      obtain ⟨ht1, htn, _⟩ := hh2
      have htx : t ≤ xs.length := by rw [HN.out]; omega
      have L1 : Hid ((xs.take t).length = t) := by show _ = _; rw [List.length_take]; omega
      have L2 : Hid ((xs.drop t).length = n - t) := by show _ = _; rw [List.length_drop, HN.out]
      have htc : (t : Int) ≤ cap := by omega
      have htn' : (t : Int) ≤ n := by omega
      have hnc : (n : Int) ≤ cap := by omega
      have ent : ((n - t : Nat) : Int) = (n : Int) - t := by omega
      clear h1
      by_cases hik : m ≤ t
      · have R1 : Hid (ReadsT w (.slice (some ⟨b, off, none⟩) t cap) (xs.take t)) := HRD.out.front htx
        have R2 : Hid (ReadsT w (.slice (some ⟨b, off + t, none⟩) (n - t) (cap - t)) (xs.drop t)) := HRD.out.back htx
        have CR : Hid (∀ w', Tab4 w' → ReadsT w' (.slice (some ⟨b, off + t, none⟩) (n - t) (cap - t)) (xs.drop t) → Calls _ _ _ _ _) := fun w' h h' => rRoot wd (n - t) (xs.drop t) _ w' L2.out h h' (HX.out.drop t)
        have CP : Hid (∀ w', Tab4 w' → ReadsT w' (.slice (some ⟨b, off, none⟩) t cap) (xs.take t) → Calls _ _ _ _ _) := fun w' h h' => IH.out t (by omega) (xs.take t) m bb _ w' L1.out (by omega) (by omega) h h' (HX.out.take t)
        obtain ⟨r, HR⟩ : ∃ r, Hid (RT wd (xs.drop t) = r) := ⟨_, rfl⟩
        obtain ⟨ts, HTS⟩ : ∃ ts, Hid (QTn wd m (xs.take t) bb = ts) := ⟨_, rfl⟩
        rw [HR.out] at CR
        rw [HTS.out] at CP
        have HE : Hid (P = ts ++ [r]) := by
          show _ = _
          rw [← HPP.out, QTn_low wd bb (by rw [HN.out]; exact hmlt) (by rw [HN.out]; exact h2n) (by rw [HN.out, HTT.out]; exact hik), HN.out, HTT.out, HR.out, HTS.out]
        have hml : ts.length + 1 ≤ n := by
          have h := QTn_len wd m xs bb (by rw [HN.out]; omega)
          rw [HPP.out, HE.out, List.length_append, HN.out] at h
          simp at h
          omega
        obtain ⟨c, HM⟩ : ∃ c, Hid (ts.length = c) := ⟨_, rfl⟩
        rw [HM.out] at hml CP
        have hik' : (m : Int) ≤ t := by omega
        clear hh HH
        go_enter Tryd.func20, Tryd.ntmps20
        go_wp2_with fail
        refine (SC.out _).mono ?_
        rintro e w0 ⟨rfl, hw0⟩
        subst hw0
        go_wp2_with fail
        refine (CR.out _ HT.out R2.out).mono ?_
        rintro e w1 ⟨rfl, hb⟩
        have B1 : Hid (Below w0.heap.size w0 w1) := hb
        have T1 : Hid (Tab4 w1) := HT.out.down hb
        have RP1 : Hid (ReadsT w1 (.slice (some ⟨b, off, none⟩) t cap) (xs.take t)) := R1.out.later hb
        clear hb
        go_wp2_with fail
        refine (CP.out _ T1.out RP1.out).mono ?_
        rintro e w2 ⟨⟨u, rfl, hu⟩, hb⟩
        have B2 : Hid (Below w0.heap.size w0 w2) := over B1.out hb
        have OX : Hid ((w2.alloc (.cells #[.string r] 9)).ownsRow w0.heap.size 9 1 u c (ts.map Value.string)) := (own_down hu B1.out.size).alloc _
        have BX : Hid (Below w0.heap.size w0 (w2.alloc (.cells #[.string r] 9))) := B2.out.alloc B2.out.size _
        obtain ⟨ua, uc, rfl⟩ := own_formS hu
        clear hu hb
        go_wp2_with (at_builtin; refine wpList_append_own _ rfl _ _ 22 rfl w0.heap.size 9 i9 (.string ByteArray.empty) 1 16 Tryd.underlying22 HIN.out.1 HIN.out.2.1 HIN.out.2.2.1 HIN.out.2.2.2 rfl (by decide) _ c _ rfl OX.out ⟨w2.heap.size, 0, none⟩ 1 1 [.string r] rfl rfl (new_text _ _ _) (one_text _) (by unfold maxLen; omega) (by omega) BX.out.size ?_; intro p' w5 ho hg hnn; have HO5 : Hid (w5.ownsRow w0.heap.size 9 1 p' (c + 1) (ts.map Value.string ++ [.string r])) := ho; have HB5 : Hid (Below w0.heap.size w0 w5) := Below.grown BX.out hg BX.out.size (fun jj hj => (OX.out.lt _ hj).1); clear ho hg hnn)
        go_ret
        refine ⟨⟨p', rfl, ?_⟩, HB5.out⟩
        rw [HE.out, List.length_append, HM.out, List.map_append]
        exact HO5.out
      · have R1 : Hid (ReadsT w (.slice (some ⟨b, off, none⟩) t cap) (xs.take t)) := HRD.out.front htx
        have R2 : Hid (ReadsT w (.slice (some ⟨b, off + t, none⟩) (n - t) (cap - t)) (xs.drop t)) := HRD.out.back htx
        have CR : Hid (∀ w', Tab4 w' → ReadsT w' (.slice (some ⟨b, off, none⟩) t cap) (xs.take t) → Calls _ _ _ _ _) := fun w' h h' => rRoot wd t (xs.take t) _ w' L1.out h h' (HX.out.take t)
        have CP : Hid (∀ w', Tab4 w' → ReadsT w' (.slice (some ⟨b, off + t, none⟩) (n - t) (cap - t)) (xs.drop t) → Calls _ _ _ _ _) := fun w' h h' => IH.out (n - t) (by omega) (xs.drop t) (m - t) false _ w' L2.out (by omega) (by omega) h h' (HX.out.drop t)
        obtain ⟨r, HR⟩ : ∃ r, Hid (RT wd (xs.take t) = r) := ⟨_, rfl⟩
        obtain ⟨ts, HTS⟩ : ∃ ts, Hid (QTn wd (m - t) (xs.drop t) false = ts) := ⟨_, rfl⟩
        rw [HR.out] at CR
        rw [HTS.out] at CP
        have HE : Hid (P = ts ++ [r]) := by
          show _ = _
          rw [← HPP.out, QTn_high wd bb (by rw [HN.out]; exact hmlt) (by rw [HN.out]; exact h2n) (by rw [HN.out, HTT.out]; exact hik), HN.out, HTT.out, HR.out, HTS.out]
        have hml : ts.length + 1 ≤ n := by
          have h := QTn_len wd m xs bb (by rw [HN.out]; omega)
          rw [HPP.out, HE.out, List.length_append, HN.out] at h
          simp at h
          omega
        obtain ⟨c, HM⟩ : ∃ c, Hid (ts.length = c) := ⟨_, rfl⟩
        rw [HM.out] at hml CP
        have hik' : ¬ (m : Int) ≤ t := by omega
        have ent2 : ((m - t : Nat) : Int) = (m : Int) - t := by omega
        rw [ent2] at CP
        clear hh HH
        go_enter Tryd.func20, Tryd.ntmps20
        go_wp2_with fail
        refine (SC.out _).mono ?_
        rintro e w0 ⟨rfl, hw0⟩
        subst hw0
        go_wp2_with fail
        refine (CR.out _ HT.out R1.out).mono ?_
        rintro e w1 ⟨rfl, hb⟩
        have B1 : Hid (Below w0.heap.size w0 w1) := hb
        have T1 : Hid (Tab4 w1) := HT.out.down hb
        have RP1 : Hid (ReadsT w1 (.slice (some ⟨b, off + t, none⟩) (n - t) (cap - t)) (xs.drop t)) := R2.out.later hb
        clear hb
        go_wp2_with fail
        refine (CP.out _ T1.out RP1.out).mono ?_
        rintro e w2 ⟨⟨u, rfl, hu⟩, hb⟩
        have B2 : Hid (Below w0.heap.size w0 w2) := over B1.out hb
        have OX : Hid ((w2.alloc (.cells #[.string r] 9)).ownsRow w0.heap.size 9 1 u c (ts.map Value.string)) := (own_down hu B1.out.size).alloc _
        have BX : Hid (Below w0.heap.size w0 (w2.alloc (.cells #[.string r] 9))) := B2.out.alloc B2.out.size _
        obtain ⟨ua, uc, rfl⟩ := own_formS hu
        clear hu hb
        go_wp2_with (at_builtin; refine wpList_append_own _ rfl _ _ 22 rfl w0.heap.size 9 i9 (.string ByteArray.empty) 1 16 Tryd.underlying22 HIN.out.1 HIN.out.2.1 HIN.out.2.2.1 HIN.out.2.2.2 rfl (by decide) _ c _ rfl OX.out ⟨w2.heap.size, 0, none⟩ 1 1 [.string r] rfl rfl (new_text _ _ _) (one_text _) (by unfold maxLen; omega) (by omega) BX.out.size ?_; intro p' w5 ho hg hnn; have HO5 : Hid (w5.ownsRow w0.heap.size 9 1 p' (c + 1) (ts.map Value.string ++ [.string r])) := ho; have HB5 : Hid (Below w0.heap.size w0 w5) := Below.grown BX.out hg BX.out.size (fun jj hj => (OX.out.lt _ hj).1); clear ho hg hnn)
        go_ret
        refine ⟨⟨p', rfl, ?_⟩, HB5.out⟩
        rw [HE.out, List.length_append, HM.out, List.map_append]
        exact HO5.out
theorem rProof (wd m : Int) (v : Value) (xs : List ByteArray) (w : World) (hT : Tab4 w) (hR : ReadsT w v xs) (hx : Fits xs) :
    Calls Tryd.prog 8 #[.int .i64 wd, .int .i64 m, v] w fun e w' => Listed w w' e (QT wd m xs) (QE m xs) ∧ Below w.heap.size w w' := by
  have HRD : Hid (ReadsT w v xs) := hR
  obtain ⟨a, cap, rfl, hcap, hh⟩ := hR
  by_cases hok : 1 ≤ m ∧ m ≤ xs.length
  · obtain ⟨k, rfl⟩ : ∃ k : Nat, m = k := ⟨m.toNat, by omega⟩
    have C : Hid (Calls _ _ _ _ _) := rsub wd xs.length xs k true _ w rfl (by omega) (by omega) hT HRD.out hx
    have HE : Hid (QTn wd k xs true = QT wd k xs) := by show _ = _; unfold QT; rw [if_pos hok]; rfl
    have HC : Hid (QE k xs = 0) := by show _ = _; unfold QE; rw [if_pos (by omega)]
    rw [HE.out] at C
    rw [HC.out]
    obtain ⟨P, HP⟩ : ∃ P, Hid (QT wd k xs = P) := ⟨_, rfl⟩
    rw [HP.out] at C ⊢
    obtain ⟨n, HN⟩ : ∃ n, Hid (xs.length = n) := ⟨_, rfl⟩
    rw [HN.out] at C hcap hok ⊢
    have t1 : ¬ (k : Int) < 0 := by omega
    have t2 : ¬ (k : Int) > n := by omega
    have t3 : ((k : Int) == 0) = false := by rw [beq_eq_false_iff_ne]; omega
    clear hok hh hT hx
    go_enter Tryd.func8, Tryd.ntmps8
    go_wp2_with fail
    refine C.out.mono ?_
    rintro e w1 ⟨⟨u, rfl, hu⟩, hb⟩
    have B1 : Hid (Below w.heap.size w w1) := hb
    have O1 : Hid (w1.ownsRow w.heap.size 9 1 u P.length (P.map Value.string)) := hu
    obtain ⟨ua, uc, rfl⟩ := own_formS hu
    clear hu hb
    go_wp2
    go_ret2
    exact ⟨⟨_, rfl, O1.out⟩, B1.out⟩
  · have HE : Hid (QT wd m xs = []) := by show _ = _; unfold QT; rw [if_neg hok]
    obtain ⟨c, HC⟩ : ∃ c, Hid (QE m xs = c) := ⟨_, rfl⟩
    rw [HE.out, HC.out]
    have fin : ∀ e w', e = .returned (.tuple #[.slice none 0 0, .int .i64 c]) ∧ w' = w → Listed w w' e [] c ∧ Below w.heap.size w w' := by
      rintro e w' ⟨rfl, rfl⟩
      exact ⟨⟨_, rfl, World.ownsRow_nil _ _ _ _⟩, Below.refl _ _⟩
    refine Calls.mono ?_ fin
    by_cases a0 : m = 0
    · subst a0
      obtain rfl : c = 0 := by rw [← HC.out]; unfold QE; rw [if_pos (by omega)]
      obtain ⟨n, HN⟩ : ∃ n, Hid (xs.length = n) := ⟨_, rfl⟩
      rw [HN.out] at hcap ⊢
      clear fin hh hT hx HE HC hok
      go_enter Tryd.func8, Tryd.ntmps8
      go_wp2
      go_ret2
      exact ⟨rfl, rfl⟩
    · obtain rfl : c = 80 := by rw [← HC.out]; unfold QE; rw [if_neg (by omega)]
      obtain ⟨n, HN⟩ : ∃ n, Hid (xs.length = n) := ⟨_, rfl⟩
      rw [HN.out] at hcap hok ⊢
      clear fin hh hT hx HE HC
      by_cases a1 : m < 0
      · clear hok a0
        go_enter Tryd.func8, Tryd.ntmps8
        go_wp2
        go_ret2
        exact ⟨rfl, rfl⟩
      · have a2 : m > n := by omega
        clear hok a0
        go_enter Tryd.func8, Tryd.ntmps8
        go_wp2
        go_ret2
        exact ⟨rfl, rfl⟩
end Go.Proofs.YtkanjkofdfmhhabDoor.ge
