import Derived.Test.YtkanjkofdfmhhabDoorMc
import Derived.Test.YtkanjkofdfmhhabDoorGq
namespace Go.Proofs.YtkanjkofdfmhhabDoor.md
open Go.RowKit Go.PlainAid
open Go.Proofs.YtkanjkofdfmhhabDoor.pl Go.Proofs.YtkanjkofdfmhhabDoor.pi Go.Proofs.YtkanjkofdfmhhabDoor.pj Go.Proofs.YtkanjkofdfmhhabDoor.ca Go.Proofs.YtkanjkofdfmhhabDoor.cb Go.Proofs.YtkanjkofdfmhhabDoor.cp Go.Proofs.YtkanjkofdfmhhabDoor.ka Go.Proofs.YtkanjkofdfmhhabDoor.kb Go.Proofs.YtkanjkofdfmhhabDoor.kc Go.Proofs.YtkanjkofdfmhhabDoor.rf Go.Proofs.YtkanjkofdfmhhabDoor.ga Go.Proofs.YtkanjkofdfmhhabDoor.gb Go.Proofs.YtkanjkofdfmhhabDoor.gr Go.Proofs.YtkanjkofdfmhhabDoor.ma Go.Proofs.YtkanjkofdfmhhabDoor.mb Go.Proofs.YtkanjkofdfmhhabDoor.mc Go.Proofs.YtkanjkofdfmhhabDoor.gq
set_option linter.unusedVariables false

set_option maxHeartbeats 3200000 in
set_option maxRecDepth 100000 in
theorem sub (wd : Int) (n : Nat) : ∀ (xs : List ByteArray) (i : Nat) (b0 : Bool) (v : Value) (p : Nat) (w : World), xs.length = n → 1 ≤ n → 1 ≤ i ∧ i ≤ n → Tab w → Box w p wd → ReadsT w v xs → Fits xs →
      Calls Tryd.prog 18 #[.int .i64 i, v, .bool b0, PutV p] w fun e w' => (∃ u, e = .returned u ∧ w'.ownsRow w.heap.size 9 1 u (QTn wd i xs b0).length ((QTn wd i xs b0).map Value.string)) ∧ Below w.heap.size w w' := by
  induction n using Nat.strongRecOn with
  | ind n ih =>
    intro xs i b0 v p w hn hn1 hin hT hP hR hx
    have HT : Hid (Tab w) := hT
    have HP : Hid (Box w p wd) := hP
    have HRD : Hid (ReadsT w v xs) := hR
    have HX : Hid (Fits xs) := hx
    have HN : Hid (xs.length = n) := hn
    have hnm : n * 16 ≤ 140737488351232 := by have := hx.many; rw [hn] at this; exact this
    have IH : Hid (∀ (m : Nat), m < n → ∀ (xs : List ByteArray) (i : Nat) (b0 : Bool) (v : Value) (p : Nat) (w : World), xs.length = m → 1 ≤ m → 1 ≤ i ∧ i ≤ m → Tab w → Box w p wd → ReadsT w v xs → Fits xs →
      Calls Tryd.prog 18 #[.int .i64 i, v, .bool b0, PutV p] w fun e w' => (∃ u, e = .returned u ∧ w'.ownsRow w.heap.size 9 1 u (QTn wd i xs b0).length ((QTn wd i xs b0).map Value.string)) ∧ Below w.heap.size w w') := ih
    obtain ⟨a, cap, rfl, hcap, hh⟩ := hR
    rw [HN.out] at hcap hh HRD ⊢
    have HH : Hid (n = 0 ∨ ∃ b off, a = some ⟨b, off, none⟩ ∧ ∀ i, i < n → w.cell? ⟨b, off + i, none⟩ = some (.string (xs.getD i ByteArray.empty))) := hh
    obtain ⟨P, HPP⟩ : ∃ P, Hid (QTn wd i xs b0 = P) := ⟨_, rfl⟩
    rw [HPP.out]
    obtain ⟨hi1, hi2⟩ := hin
    clear ih hn hT hP hx hh
    by_cases h1 : i = n
    · have q1 : ((i : Int) == (n : Int)) = true := by rw [beq_iff_eq]; omega
      cases b0
      · have HE : Hid (P = [RT wd xs]) := by show _ = _; rw [← HPP.out]; exact QTn_all wd false (by rw [HN.out]; omega)
        have O0 : Hid (w.ownsRow w.heap.size 9 1 (.slice none 0 0) 0 (([] : List ByteArray).map Value.string)) := World.ownsRow_nil _ _ _ _
        have CS : Hid (Calls _ _ _ _ _) := put wd p w.heap.size 0 (.slice none 0 0) (.slice a n cap) [] xs w HT.out (Nat.le_refl _) HP.out O0.out HRD.out HX.out (by omega)
        clear h1
        go_enter Tryd.func18, Tryd.ntmps18
        go_wp2_with fail
        refine CS.out.mono ?_
        rintro e w2 ⟨⟨u2, rfl, hu⟩, hb⟩
        have B2 : Hid (Below w.heap.size w w2) := hb
        have O2 : Hid (w2.ownsRow w.heap.size 9 1 u2 (0 + 1) _) := hu
        obtain ⟨ua, uc, rfl⟩ := own_formS hu
        clear hu hb
        go_wp2
        go_ret
        refine ⟨⟨_, rfl, ?_⟩, B2.out⟩
        rw [HE.out]
        exact O2.out
      · have HE : Hid (P = []) := by show _ = _; rw [← HPP.out]; exact QTn_all wd true (by rw [HN.out]; omega)
        clear h1
        go_enter Tryd.func18, Tryd.ntmps18
        go_wp2
        go_ret
        refine ⟨⟨_, rfl, ?_⟩, Below.refl _ _⟩
        rw [HE.out]
        exact World.ownsRow_nil _ _ _ _
    · obtain ⟨b, off, rfl, hh⟩ : ∃ b off, a = some ⟨b, off, none⟩ ∧ ∀ i, i < n → w.cell? ⟨b, off + i, none⟩ = some (.string (xs.getD i ByteArray.empty)) := by
        rcases HH.out with h | h
        · omega
        · exact h
      have h2n : 2 ≤ n := by omega
      have SC : Hid (∀ w, Calls _ _ _ _ _) := fun w => parts b off n cap h2n (by omega) hcap w
      obtain ⟨t, HTT⟩ : ∃ t, Hid (half n = t) := ⟨_, rfl⟩
      rw [HTT.out] at SC
      have hh2 := half_lt h2n
      rw [HTT.out] at hh2
      obtain ⟨ht1, htn, _⟩ := hh2
      have htx : t ≤ xs.length := by rw [HN.out]; omega
      have L1 : Hid ((xs.take t).length = t) := by show _ = _; rw [List.length_take]; omega
      have L2 : Hid ((xs.drop t).length = n - t) := by show _ = _; rw [List.length_drop, HN.out]
      have q1 : ((i : Int) == (n : Int)) = false := by rw [beq_eq_false_iff_ne]; omega
      have hin : i < n := by omega
      clear h1
      by_cases hik : i ≤ t
      · have RP : Hid (ReadsT w (.slice (some ⟨b, off, none⟩) t t) (xs.take t)) := tightT (HRD.out.front htx)
        have RS : Hid (ReadsT w (.slice (some ⟨b, off + t, none⟩) (n - t) (n - t)) (xs.drop t)) := tightT (HRD.out.back htx)
        have CP : Hid (∀ w', Tab w' → Box w' p wd → ReadsT w' (.slice (some ⟨b, off, none⟩) t t) (xs.take t) → Calls _ _ _ _ _) := fun w' h h1 h' => IH.out t (by omega) (xs.take t) i b0 _ p w' L1.out (by omega) (by omega) h h1 h' (HX.out.take t)
        obtain ⟨ts, HTS⟩ : ∃ ts, Hid (QTn wd i (xs.take t) b0 = ts) := ⟨_, rfl⟩
        rw [HTS.out] at CP
        obtain ⟨m, HM⟩ : ∃ m, Hid (ts.length = m) := ⟨_, rfl⟩
        have HE : Hid (P = ts ++ [RT wd (xs.drop t)]) := by
          show _ = _
          rw [← HPP.out, QTn_low wd b0 (by rw [HN.out]; exact hin) (by rw [HN.out]; exact h2n) (by rw [HN.out, HTT.out]; exact hik), HN.out, HTT.out, HTS.out]
        have hml : m + 1 ≤ n := by
          have h := QTn_len wd i xs b0 (by rw [HN.out]; exact hn1)
          rw [HPP.out, HE.out, List.length_append, HN.out, HM.out] at h
          simp at h
          omega
        rw [HM.out] at CP
        have CS : Hid (∀ w' u, Tab w' → w.heap.size ≤ w'.heap.size → Box w' p wd → w'.ownsRow w.heap.size 9 1 u m (ts.map Value.string) → ReadsT w' (.slice (some ⟨b, off + t, none⟩) (n - t) (n - t)) (xs.drop t) → Calls _ _ _ _ _) := fun w' u h h1 h2 h3 h4 => put wd p w.heap.size m u (.slice (some ⟨b, off + t, none⟩) (n - t) (n - t)) ts (xs.drop t) w' h h1 h2 h3 h4 (HX.out.drop t) (by omega)
        have hik' : ¬ (i : Int) > t := by omega
        clear hh HH
        go_enter Tryd.func18, Tryd.ntmps18
        go_wp2_with fail
        refine (SC.out _).mono ?_
        rintro e w0 ⟨rfl, q, hw0⟩
        have B0 : Hid (Below w.heap.size w w0) := by rw [hw0]; exact below_dN (Below.refl _ _) q
        have T0 : Hid (Tab w0) := HT.out.down B0.out
        have X0 : Hid (Box w0 p wd) := box_later HP.out B0.out
        have RP0 : Hid (ReadsT w0 (.slice (some ⟨b, off, none⟩) t t) (xs.take t)) := RP.out.later B0.out
        clear hw0
        go_wp2_with fail
        refine (CP.out _ T0.out X0.out RP0.out).mono ?_
        rintro e w1 ⟨⟨u, rfl, hu⟩, hb⟩
        have B1 : Hid (Below w.heap.size w w1) := over B0.out hb
        have O1 : Hid (w1.ownsRow w.heap.size 9 1 u m (ts.map Value.string)) := own_down hu B0.out.size
        have T1 : Hid (Tab w1) := HT.out.down B1.out
        have X1 : Hid (Box w1 p wd) := box_later HP.out B1.out
        have RS1 : Hid (ReadsT w1 (.slice (some ⟨b, off + t, none⟩) (n - t) (n - t)) (xs.drop t)) := RS.out.later B1.out
        clear hu hb
        go_wp2_with fail
        refine (CS.out _ _ T1.out B1.out.size X1.out O1.out RS1.out).mono ?_
        rintro e w2 ⟨⟨u2, rfl, hu⟩, hb⟩
        have B2 : Hid (Below w.heap.size w w2) := B1.out.trans hb
        have O2 : Hid (w2.ownsRow w.heap.size 9 1 u2 (m + 1) _) := hu
        obtain ⟨ua, uc, rfl⟩ := own_formS hu
        clear hu hb
        go_wp2
        go_ret
        refine ⟨⟨_, rfl, ?_⟩, B2.out⟩
        rw [HE.out, List.length_append, HM.out]
        exact O2.out
      · have RP : Hid (ReadsT w (.slice (some ⟨b, off + t, none⟩) (n - t) (n - t)) (xs.drop t)) := tightT (HRD.out.back htx)
        have RS : Hid (ReadsT w (.slice (some ⟨b, off, none⟩) t t) (xs.take t)) := tightT (HRD.out.front htx)
        have CP : Hid (∀ w', Tab w' → Box w' p wd → ReadsT w' (.slice (some ⟨b, off + t, none⟩) (n - t) (n - t)) (xs.drop t) → Calls _ _ _ _ _) := fun w' h h1 h' => IH.out (n - t) (by omega) (xs.drop t) (i - t) false _ p w' L2.out (by omega) (by omega) h h1 h' (HX.out.drop t)
        obtain ⟨ts, HTS⟩ : ∃ ts, Hid (QTn wd (i - t) (xs.drop t) false = ts) := ⟨_, rfl⟩
        rw [HTS.out] at CP
        obtain ⟨m, HM⟩ : ∃ m, Hid (ts.length = m) := ⟨_, rfl⟩
        have HE : Hid (P = ts ++ [RT wd (xs.take t)]) := by
          show _ = _
          rw [← HPP.out, QTn_high wd b0 (by rw [HN.out]; exact hin) (by rw [HN.out]; exact h2n) (by rw [HN.out, HTT.out]; exact hik), HN.out, HTT.out, HTS.out]
        have hml : m + 1 ≤ n := by
          have h := QTn_len wd i xs b0 (by rw [HN.out]; exact hn1)
          rw [HPP.out, HE.out, List.length_append, HN.out, HM.out] at h
          simp at h
          omega
        rw [HM.out] at CP
        have CS : Hid (∀ w' u, Tab w' → w.heap.size ≤ w'.heap.size → Box w' p wd → w'.ownsRow w.heap.size 9 1 u m (ts.map Value.string) → ReadsT w' (.slice (some ⟨b, off, none⟩) t t) (xs.take t) → Calls _ _ _ _ _) := fun w' u h h1 h2 h3 h4 => put wd p w.heap.size m u (.slice (some ⟨b, off, none⟩) t t) ts (xs.take t) w' h h1 h2 h3 h4 (HX.out.take t) (by omega)
        have hik' : (i : Int) > t := by omega
        have ent2 : ((i - t : Nat) : Int) = (i : Int) - t := by omega
        rw [ent2] at CP
        clear hh HH
        go_enter Tryd.func18, Tryd.ntmps18
        go_wp2_with fail
        refine (SC.out _).mono ?_
        rintro e w0 ⟨rfl, q, hw0⟩
        have B0 : Hid (Below w.heap.size w w0) := by rw [hw0]; exact below_dN (Below.refl _ _) q
        have T0 : Hid (Tab w0) := HT.out.down B0.out
        have X0 : Hid (Box w0 p wd) := box_later HP.out B0.out
        have RP0 : Hid (ReadsT w0 (.slice (some ⟨b, off + t, none⟩) (n - t) (n - t)) (xs.drop t)) := RP.out.later B0.out
        clear hw0
        go_wp2_with fail
        refine (CP.out _ T0.out X0.out RP0.out).mono ?_
        rintro e w1 ⟨⟨u, rfl, hu⟩, hb⟩
        have B1 : Hid (Below w.heap.size w w1) := over B0.out hb
        have O1 : Hid (w1.ownsRow w.heap.size 9 1 u m (ts.map Value.string)) := own_down hu B0.out.size
        have T1 : Hid (Tab w1) := HT.out.down B1.out
        have X1 : Hid (Box w1 p wd) := box_later HP.out B1.out
        have RS1 : Hid (ReadsT w1 (.slice (some ⟨b, off, none⟩) t t) (xs.take t)) := RS.out.later B1.out
        clear hu hb
        go_wp2_with fail
        refine (CS.out _ _ T1.out B1.out.size X1.out O1.out RS1.out).mono ?_
        rintro e w2 ⟨⟨u2, rfl, hu⟩, hb⟩
        have B2 : Hid (Below w.heap.size w w2) := B1.out.trans hb
        have O2 : Hid (w2.ownsRow w.heap.size 9 1 u2 (m + 1) _) := hu
        obtain ⟨ua, uc, rfl⟩ := own_formS hu
        clear hu hb
        go_wp2
        go_ret
        refine ⟨⟨_, rfl, ?_⟩, B2.out⟩
        rw [HE.out, List.length_append, HM.out]
        exact O2.out
set_option maxHeartbeats 1600000 in
theorem mproof (wd i : Int) (v : Value) (xs : List ByteArray) (w : World) (hT : Tab w) (hR : ReadsT w v xs) (hx : Fits xs) :
    Calls Tryd.prog 7 #[.int .i64 wd, .int .i64 i, v] w fun e w' => Listed w w' e (QT wd i xs) (QE i xs) ∧ Below w.heap.size w w' := by
  have HRD : Hid (ReadsT w v xs) := hR
  have HT : Hid (Tab w) := hT
  obtain ⟨a, cap, rfl, hcap, hh⟩ := hR
  by_cases hok : 1 ≤ i ∧ i ≤ xs.length
  · obtain ⟨k, rfl⟩ : ∃ k : Nat, i = k := ⟨i.toNat, by omega⟩
    have C : Hid (∀ w' p, Tab w' → Box w' p wd → ReadsT w' (.slice a xs.length cap) xs → Calls _ _ _ _ _) := fun w' p h1 h2 h3 => sub wd xs.length xs k true _ p w' rfl (by omega) ⟨by omega, by omega⟩ h1 h2 h3 hx
    have CB : Hid (∀ w, Calls _ _ _ _ _) := fun w => behind wd w
    have HE : Hid (QTn wd k xs true = QT wd k xs) := by show _ = _; unfold QT; rw [if_pos hok]; rfl
    have HC : Hid (QE k xs = 0) := by show _ = _; unfold QE; rw [if_pos ⟨by omega, hok.2⟩]
    rw [HE.out] at C
    rw [HC.out]
    obtain ⟨P, HP⟩ : ∃ P, Hid (QT wd k xs = P) := ⟨_, rfl⟩
    rw [HP.out] at C ⊢
    obtain ⟨n, HN⟩ : ∃ n, Hid (xs.length = n) := ⟨_, rfl⟩
    rw [HN.out] at C HRD hcap hok ⊢
    have t1 : ¬ (k : Int) < 0 := by omega
    have t2 : ¬ (k : Int) > n := by omega
    have t3 : ((k : Int) == 0) = false := by rw [beq_eq_false_iff_ne]; omega
    clear hok hh hT hx
    go_enter Tryd.func7, Tryd.ntmps7
    go_wp2_with fail
    refine (CB.out _).mono ?_
    rintro e w1 ⟨rfl, hx1, hb⟩
    have B1 : Hid (Below w.heap.size w w1) := hb
    have X1 : Hid (Box w1 w.heap.size wd) := hx1
    have T1 : Hid (Tab w1) := HT.out.down hb
    have R1 : Hid (ReadsT w1 (.slice a n cap) xs) := HRD.out.later hb
    clear hb hx1
    go_wp2_with fail
    refine (C.out _ _ T1.out X1.out R1.out).mono ?_
    rintro e w2 ⟨⟨u, rfl, hu⟩, hb⟩
    have B2 : Hid (Below w.heap.size w w2) := over B1.out hb
    have O2 : Hid (w2.ownsRow w.heap.size 9 1 u P.length (P.map Value.string)) := own_down hu B1.out.size
    obtain ⟨ua, uc, rfl⟩ := own_formS hu
    clear hu hb
    go_wp2
    go_ret2
    exact ⟨⟨_, rfl, O2.out⟩, B2.out⟩
  · have HE : Hid (QT wd i xs = []) := by show _ = _; unfold QT; rw [if_neg hok]
    rw [HE.out]
    by_cases h0 : i = 0
    · have HC : Hid (QE i xs = 0) := by show _ = _; unfold QE; rw [if_pos ⟨by omega, by omega⟩]
      rw [HC.out]
      obtain ⟨n, HN⟩ : ∃ n, Hid (xs.length = n) := ⟨_, rfl⟩
      rw [HN.out] at hcap hok ⊢
      subst h0
      have t2 : ¬ (0 : Int) > n := by omega
      clear hok hh hT hx HE HC HRD HT
      go_enter Tryd.func7, Tryd.ntmps7
      go_wp2
      go_ret2
      exact ⟨⟨_, rfl, World.ownsRow_nil _ _ _ _⟩, Below.refl _ _⟩
    · have HC : Hid (QE i xs = 80) := by show _ = _; unfold QE; rw [if_neg (fun h => hok ⟨by omega, h.2⟩)]
      rw [HC.out]
      obtain ⟨n, HN⟩ : ∃ n, Hid (xs.length = n) := ⟨_, rfl⟩
      rw [HN.out] at hcap hok ⊢
      have fin : ∀ e w', e = .returned (.tuple #[.slice none 0 0, .int .i64 80]) ∧ w' = w → Listed w w' e [] 80 ∧ Below w.heap.size w w' := by
        rintro e w' ⟨rfl, rfl⟩
        exact ⟨⟨_, rfl, World.ownsRow_nil _ _ _ _⟩, Below.refl _ _⟩
      refine Calls.mono ?_ fin
      clear fin hh hT hx HE HC HRD HT
      by_cases a1 : i < 0
      · clear hok
        go_enter Tryd.func7, Tryd.ntmps7
        go_wp2
        go_ret2
        exact ⟨rfl, rfl⟩
      · have a2 : i > n := by omega
        clear hok
        go_enter Tryd.func7, Tryd.ntmps7
        go_wp2
        go_ret2
        exact ⟨rfl, rfl⟩
theorem proofC : ProofC Tab := fun wd m v xs w _ _ t h f => mproof wd m v xs w t h f
end Go.Proofs.YtkanjkofdfmhhabDoor.md
