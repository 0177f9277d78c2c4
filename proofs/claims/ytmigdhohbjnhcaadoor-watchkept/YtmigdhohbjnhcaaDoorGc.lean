import Derived.Test.YtmigdhohbjnhcaaDoorGb
namespace Go.Proofs.YtmigdhohbjnhcaaDoor.gc
open Go.RowKit Go.PlainAid
open Go.Proofs.YtmigdhohbjnhcaaDoor.pl Go.Proofs.YtmigdhohbjnhcaaDoor.pi Go.Proofs.YtmigdhohbjnhcaaDoor.pj Go.Proofs.YtmigdhohbjnhcaaDoor.ca Go.Proofs.YtmigdhohbjnhcaaDoor.cb Go.Proofs.YtmigdhohbjnhcaaDoor.cp Go.Proofs.YtmigdhohbjnhcaaDoor.ka Go.Proofs.YtmigdhohbjnhcaaDoor.kb Go.Proofs.YtmigdhohbjnhcaaDoor.rf Go.Proofs.YtmigdhohbjnhcaaDoor.ga Go.Proofs.YtmigdhohbjnhcaaDoor.gb
set_option linter.unusedVariables false

theorem half_of {n t j : Nat} (hj : 2 ^ j = t) (h1 : t < n) (h2 : ¬ 2 * t < n) : half n = t := by
  rw [← hj]
  exact half_eq (by rw [hj]; exact h1) (by rw [p2s, hj]; omega)
theorem rSplit (n : Nat) (h : 2 ≤ n) (hn : n ≤ 4611686018427387904) (w : World) :
    Calls Tryd.prog 22 #[.int .i64 n] w fun e w' => e = .returned (.int .i64 (half n : Nat)) ∧ w' = w := by
  obtain ⟨d, HD⟩ : ∃ d, Hid ((n - 1) / 2 = d) := ⟨_, rfl⟩
  have hd2 : ((n : Int) - 1) / 2 = (d : Int) := by have := HD.out; omega
  go_enter Tryd.func22, Tryd.ntmps22
  go_wp2
  go_loopw [3] (fun k wr => ∃ (t j : Nat), k = .int .i64 t ∧ t < n ∧ Hid (2 ^ j = t) ∧ wr = w) (fun k _ => (n - intOf k).toNat)
  case atStart => exact ⟨1, 0, rfl, by omega, rfl, rfl⟩
  case round =>
    obtain ⟨t, j, rfl, ht, HJ, rfl⟩ := hrel
    have ht0 : 0 < t := by rw [← HJ.out]; exact p2 j
    by_cases hlt : t ≤ d
    · have hlt' : (t : Int) ≤ d := by omega
      have HJ2 : Hid (2 ^ (j + 1) = 2 * t) := by show _ = _; rw [p2s, HJ.out]
      have hlt2 : 2 * t < n := by have := HD.out; omega
      go_wp2
      go_roundw
      case rel => exact ⟨2 * t, j + 1, by go_num, hlt2, HJ2.out, by first | rfl | trivial⟩
      case measure => simp [intOf]; omega
    · have hlt' : ¬ (t : Int) ≤ d := by omega
      have HE : Hid (half n = t) := half_of HJ.out ht (by have := HD.out; omega)
      go_wp2
      go_ret
      exact ⟨by rw [HE.out]; rfl, by first | rfl | trivial⟩
set_option maxHeartbeats 3200000 in
set_option maxRecDepth 100000 in
theorem rRoot (wd : Int) (n : Nat) : ∀ (xs : List ByteArray) (v : Value) (w : World), xs.length = n → Tab4 w → ReadsT w v xs → Fits xs →
    Calls Tryd.prog 10 #[.int .i64 wd, v] w fun e w' => e = .returned (.string (RT wd xs)) ∧ Below w.heap.size w w' := by
  induction n using Nat.strongRecOn with
  | ind n ih =>
    intro xs v w hn hT hR hx
    have HT : Hid (Tab4 w) := hT
    have HRD : Hid (ReadsT w v xs) := hR
    have HX : Hid (Fits xs) := hx
    have HN : Hid (xs.length = n) := hn
    have hnm : n ≤ 4611686018427387904 := by have := hx.many; omega
    have IH : Hid (∀ (m : Nat), m < n → ∀ (xs : List ByteArray) (v : Value) (w : World), xs.length = m → Tab4 w → ReadsT w v xs → Fits xs →
      Calls Tryd.prog 10 #[.int .i64 wd, v] w fun e w' => e = .returned (.string (RT wd xs)) ∧ Below w.heap.size w w') := ih
    obtain ⟨a, cap, rfl, hcap, hh⟩ := hR
    rw [HN.out] at hcap hh HRD ⊢
    have HH : Hid (n = 0 ∨ ∃ b off, a = some ⟨b, off, none⟩ ∧ ∀ i, i < n → w.cell? ⟨b, off + i, none⟩ = some (.string (xs.getD i ByteArray.empty))) := hh
    obtain ⟨R, HRR⟩ : ∃ R, Hid (RT wd xs = R) := ⟨_, rfl⟩
    rw [HRR.out]
    clear ih hn hT hx hh
    by_cases h0 : n = 0
    · have EC : Hid (∀ w, Tab4 w → Calls _ _ _ _ _) := fun w hw => rEmpty wd w hw
      have q0 : ((n : Int) == 0) = true := by rw [beq_iff_eq]; omega
      have HE : Hid (EF wd = R) := by
        show _ = _
        have : xs = [] := List.length_eq_zero_iff.1 (HN.out.trans h0)
        rw [← HRR.out, this, RT_nil]
      rw [HE.out] at EC
      clear h0
      go_enter Tryd.func10, Tryd.ntmps10
      go_wp2_with fail
      refine (EC.out _ HT.out).mono ?_
      rintro e w1 ⟨rfl, hb⟩
      have B1 : Hid (Below w.heap.size w w1) := hb
      clear hb
      go_wp2
      go_ret
      exact ⟨rfl, B1.out⟩
    · obtain ⟨b, off, rfl, hh⟩ : ∃ b off, a = some ⟨b, off, none⟩ ∧ ∀ i, i < n → w.cell? ⟨b, off + i, none⟩ = some (.string (xs.getD i ByteArray.empty)) := by
        rcases HH.out with h | h
        · exact absurd h h0
        · exact h
      have q0 : ((n : Int) == 0) = false := by rw [beq_eq_false_iff_ne]; omega
      by_cases h1 : n = 1
      · have q1 : ((n : Int) == 1) = true := by rw [beq_iff_eq]; omega
        have c0 := hh 0 (by omega)
        rw [Nat.add_zero] at c0
        have hn1 : (0 : Int) < n := by omega
        obtain ⟨x, hx⟩ := List.length_eq_one_iff.1 (HN.out.trans h1)
        have hxs : x.size ≤ 140737488352000 := HX.out.each x (by rw [hx]; simp)
        rw [hx] at c0
        have c1 : w.cell? ⟨b, off, none⟩ = some (.string x) := c0
        have LC : Hid (∀ w, Tab4 w → Calls _ _ _ _ _) := fun w hw => rLeaf wd x hxs w hw
        have HE : Hid (LF wd x = R) := by
          show _ = _
          rw [← HRR.out, hx, RT_one]
        rw [HE.out] at LC
        clear h0 h1 hh HH c0 hx hxs
        go_enter Tryd.func10, Tryd.ntmps10
        go_wp2_with fail
        refine (LC.out _ HT.out).mono ?_
        rintro e w1 ⟨rfl, hb⟩
        have B1 : Hid (Below w.heap.size w w1) := hb
        clear hb
        go_wp2
        go_ret
        exact ⟨rfl, B1.out⟩
      · have q1 : ((n : Int) == 1) = false := by rw [beq_eq_false_iff_ne]; omega
        have h2n : 2 ≤ n := by omega
        obtain ⟨t, HTT⟩ : ∃ t, Hid (half n = t) := ⟨_, rfl⟩
        have SC : Hid (∀ w, Calls _ _ _ _ _) := fun w => rSplit n h2n hnm w
        rw [HTT.out] at SC
        have hh2 := half_lt h2n
        rw [HTT.out] at hh2
        obtain ⟨ht1, htn, _⟩ := hh2
        have htx : t ≤ xs.length := by rw [HN.out]; omega
        obtain ⟨r1, HR1⟩ : ∃ r, Hid (RT wd (xs.take t) = r) := ⟨_, rfl⟩
        obtain ⟨r2, HR2⟩ : ∃ r, Hid (RT wd (xs.drop t) = r) := ⟨_, rfl⟩
        have HE : Hid (NF wd r1 r2 = R) := by
          show _ = _
          rw [← HRR.out, RT_half wd (by rw [HN.out]; exact h2n), HN.out, HTT.out, HR1.out, HR2.out]
        have R1 : Hid (ReadsT w (.slice (some ⟨b, off, none⟩) t cap) (xs.take t)) := HRD.out.front htx
        have R2 : Hid (ReadsT w (.slice (some ⟨b, off + t, none⟩) (n - t) (cap - t)) (xs.drop t)) := HRD.out.back htx
        have L1 : Hid ((xs.take t).length = t) := by show _ = _; rw [List.length_take]; omega
        have L2 : Hid ((xs.drop t).length = n - t) := by show _ = _; rw [List.length_drop, HN.out]
        have Z1 : r1.size ≤ 32 := by rw [← HR1.out]; exact RT_le _ _
        have Z2 : r2.size ≤ 32 := by rw [← HR2.out]; exact RT_le _ _
        have C1 : Hid (∀ w', Tab4 w' → ReadsT w' (.slice (some ⟨b, off, none⟩) t cap) (xs.take t) → Calls _ _ _ _ _) := fun w' h h' => IH.out t htn (xs.take t) _ w' L1.out h h' (HX.out.take t)
        have C2 : Hid (∀ w', Tab4 w' → ReadsT w' (.slice (some ⟨b, off + t, none⟩) (n - t) (cap - t)) (xs.drop t) → Calls _ _ _ _ _) := fun w' h h' => IH.out (n - t) (by omega) (xs.drop t) _ w' L2.out h h' (HX.out.drop t)
        have NC : Hid (∀ w', Tab4 w' → Calls _ _ _ _ _) := fun w' h => rNode wd r1 r2 (by omega) w' h
        rw [HR1.out] at C1
        rw [HR2.out] at C2
        rw [HE.out] at NC
        have htc : (t : Int) ≤ cap := by omega
        have htn' : (t : Int) ≤ n := by omega
        have hnc : (n : Int) ≤ cap := by omega
        have ent : ((n - t : Nat) : Int) = (n : Int) - t := by omega
        clear Z1 Z2 h0 h1 hh HH
        go_enter Tryd.func10, Tryd.ntmps10
        go_wp2_with fail
        refine (SC.out _).mono ?_
        rintro e w0 ⟨rfl, hw0⟩
        subst hw0
        go_wp2_with fail
        refine (C1.out _ HT.out R1.out).mono ?_
        rintro e w1 ⟨rfl, hb⟩
        have B1 : Hid (Below w0.heap.size w0 w1) := hb
        have T1 : Hid (Tab4 w1) := HT.out.down hb
        have R21 : Hid (ReadsT w1 (.slice (some ⟨b, off + t, none⟩) (n - t) (cap - t)) (xs.drop t)) := R2.out.later hb
        clear hb
        go_wp2_with fail
        refine (C2.out _ T1.out R21.out).mono ?_
        rintro e w2 ⟨rfl, hb⟩
        have B2 : Hid (Below w0.heap.size w0 w2) := over B1.out hb
        have T2 : Hid (Tab4 w2) := T1.out.down hb
        clear hb
        go_wp2_with fail
        refine (NC.out _ T2.out).mono ?_
        rintro e w3 ⟨rfl, hb⟩
        have B3 : Hid (Below w0.heap.size w0 w3) := over B2.out hb
        clear hb
        go_wp2
        go_ret
        exact ⟨rfl, B3.out⟩
end Go.Proofs.YtmigdhohbjnhcaaDoor.gc
