import Derived.Test.YtkanjkofdfmhhaaDoorGs
import Derived.Test.YtkanjkofdfmhhaaDoorKc
import Derived.Test.YtkanjkofdfmhhaaDoorGl
import Derived.Test.YtkanjkofdfmhhaaDoorGr
import Derived.Test.YtkanjkofdfmhhaaDoorGp
namespace Go.Proofs.YtkanjkofdfmhhaaDoor.gv
open Go.RowKit Go.PlainAid
open Go.Proofs.YtkanjkofdfmhhaaDoor.pl Go.Proofs.YtkanjkofdfmhhaaDoor.pi Go.Proofs.YtkanjkofdfmhhaaDoor.pj Go.Proofs.YtkanjkofdfmhhaaDoor.rf Go.Proofs.YtkanjkofdfmhhaaDoor.ca Go.Proofs.YtkanjkofdfmhhaaDoor.cb Go.Proofs.YtkanjkofdfmhhaaDoor.cp Go.Proofs.YtkanjkofdfmhhaaDoor.ka Go.Proofs.YtkanjkofdfmhhaaDoor.kb Go.Proofs.YtkanjkofdfmhhaaDoor.kc Go.Proofs.YtkanjkofdfmhhaaDoor.ga Go.Proofs.YtkanjkofdfmhhaaDoor.gb Go.Proofs.YtkanjkofdfmhhaaDoor.gs Go.Proofs.YtkanjkofdfmhhaaDoor.gl Go.Proofs.YtkanjkofdfmhhaaDoor.gr Go.Proofs.YtkanjkofdfmhhaaDoor.gp
set_option linter.unusedVariables false

set_option maxHeartbeats 3200000 in
set_option maxRecDepth 100000 in
theorem climbed {T : World → Prop} (later : ∀ {w w' : World}, T w → Below w.heap.size w w' → T w') (tab : ∀ {w : World}, T w → Tab w) (wd : Int) (n : Nat) : n ≤ 4611686018427387904 → ∀ (xs : List ByteArray) (i : Nat) (x : ByteArray) (v : Value) (w : World), xs.length = n → 1 ≤ n → i < n → xs.getD i ByteArray.empty = x → T w → ReadsT w v (PTn wd i xs) →
    Calls Tryd.prog 19 #[.int .i64 wd, .int .i64 i, .int .i64 n, .string (LF wd x), v] w fun e w' => e = .returned (.tuple #[.string (RT wd xs), .bool true]) ∧ Below w.heap.size w w' := by
  induction n using Nat.strongRecOn with
  | ind n ih0 =>
    intro hnm xs i x v w hn hn1 hin hxi hT hR
    have ih : ∀ (m : Nat), m < n → ∀ (xs : List ByteArray) (i : Nat) (x : ByteArray) (v : Value) (w : World), xs.length = m → 1 ≤ m → i < m → xs.getD i ByteArray.empty = x → T w → ReadsT w v (PTn wd i xs) →
      Calls Tryd.prog 19 #[.int .i64 wd, .int .i64 i, .int .i64 m, .string (LF wd x), v] w fun e w' => e = .returned (.tuple #[.string (RT wd xs), .bool true]) ∧ Below w.heap.size w w' := fun m hm => ih0 m hm (by omega)
    obtain ⟨h, HH0⟩ : ∃ h, Hid (LF wd x = h) := ⟨_, rfl⟩
    have IH : Hid (∀ (m : Nat), m < n → ∀ (xs : List ByteArray) (i : Nat) (x : ByteArray) (v : Value) (w : World), xs.length = m → 1 ≤ m → i < m → xs.getD i ByteArray.empty = x → T w → ReadsT w v (PTn wd i xs) →
      Calls Tryd.prog 19 #[.int .i64 wd, .int .i64 i, .int .i64 m, .string (LF wd x), v] w fun e w' => e = .returned (.tuple #[.string (RT wd xs), .bool true]) ∧ Below w.heap.size w w') := ih
    have HL : Hid (∀ {w w' : World}, T w → Below w.heap.size w w' → T w') := later
    have HTB : Hid (∀ {w : World}, T w → Tab w) := tab
    have HT : Hid (T w) := hT
    have HRD : Hid (ReadsT w v (PTn wd i xs)) := hR
    have HN : Hid (xs.length = n) := hn
    have HXI : Hid (xs.getD i ByteArray.empty = x) := hxi
    clear ih ih0 hn hT hR later tab hxi
    by_cases h1 : n = 1
    · have q1 : ((n : Int) == 1) = true := by rw [beq_iff_eq]; omega
      have HP : Hid (PTn wd i xs = []) := PTn_one wd i (by rw [HN.out]; omega)
      rw [HP.out] at HRD
      obtain ⟨a, cap, rfl, hcap, _⟩ := HRD.out
      have HE : Hid (RT wd xs = h) := by
        obtain ⟨y, hy⟩ := List.length_eq_one_iff.1 (HN.out.trans h1)
        show _ = _
        have : y = x := by rw [← HXI.out, hy, show i = 0 by omega]; rfl
        rw [hy, RT_one, this, HH0.out]
      rw [HE.out, HH0.out]
      have q2 : ((([] : List ByteArray).length : Int) == 0) = true := rfl
      clear h1
      go_enter Tryd.func19, Tryd.ntmps19
      go_wp2
      go_ret2
      exact ⟨rfl, Below.refl _ _⟩
    · have q1 : ((n : Int) == 1) = false := by rw [beq_eq_false_iff_ne]; omega
      have h2n : 2 ≤ n := by omega
      obtain ⟨t, HTT⟩ : ∃ t, Hid (half n = t) := ⟨_, rfl⟩
      have SC : Hid (∀ w, Calls _ _ _ _ _) := fun w => split n h2n hnm w
      rw [HTT.out] at SC
      have hh2 := half_lt h2n
      rw [HTT.out] at hh2
      obtain ⟨ht1, htn, _⟩ := hh2
      have L1 : Hid ((xs.take t).length = t) := by show _ = _; rw [List.length_take, HN.out]; omega
      have L2 : Hid ((xs.drop t).length = n - t) := by show _ = _; rw [List.length_drop, HN.out]
      obtain ⟨r1, HR1⟩ : ∃ r, Hid (RT wd (xs.take t) = r) := ⟨_, rfl⟩
      obtain ⟨r2, HR2⟩ : ∃ r, Hid (RT wd (xs.drop t) = r) := ⟨_, rfl⟩
      obtain ⟨R, HRR⟩ : ∃ R, Hid (RT wd xs = R) := ⟨_, rfl⟩
      have HE : Hid (NF wd r1 r2 = R) := by
        show _ = _
        rw [← HRR.out, RT_half wd (by rw [HN.out]; exact h2n), HN.out, HTT.out, HR1.out, HR2.out]
      have Z1 : r1.size ≤ 32 := by rw [← HR1.out]; exact RT_le _ _
      have Z2 : r2.size ≤ 32 := by rw [← HR2.out]; exact RT_le _ _
      rw [HRR.out]
      have htn' : (t : Int) ≤ n := by omega
      have HH : Hid (1 = 1) := rfl
      by_cases hik : i < t
      · obtain ⟨ts, HTS⟩ : ∃ ts, Hid (PTn wd i (xs.take t) = ts) := ⟨_, rfl⟩
        have HP : Hid (PTn wd i xs = ts ++ [r2]) := by
          show _ = _
          rw [PTn_low wd (by rw [HN.out]; exact h2n) (by rw [HN.out, HTT.out]; exact hik), HN.out, HTT.out, HTS.out, HR2.out]
        rw [HP.out] at HRD
        obtain ⟨a, cap, e, hcap, hh⟩ := HRD.out
        obtain ⟨c, HC⟩ : ∃ c, Hid (ts.length = c) := ⟨_, rfl⟩
        have hl : (ts ++ [r2]).length = c + 1 := by rw [List.length_append, HC.out]; rfl
        rw [hl] at e hcap hh
        obtain ⟨b, off, rfl, hq⟩ := hh.resolve_left (by omega)
        subst e
        have c0 := hq c (by omega)
        rw [List.getD_eq_getElem?_getD, List.getElem?_append_right (by rw [HC.out]; omega), HC.out, Nat.sub_self] at c0
        have c1 : w.cell? ⟨b, off + c, none⟩ = some (.string r2) := c0
        have RF : Hid (ReadsT w (.slice (some ⟨b, off, none⟩) c cap) ts) := by
          have h := ReadsT.front (n := c + 1) HRD.out (k := c) (by rw [hl]; omega)
          rw [List.take_append_of_le_length (by rw [HC.out]; omega), List.take_of_length_le (by rw [HC.out]; omega)] at h
          exact h
        have hcb : c ≤ 4611686018427387904 := by
          have h := PTn_len wd i xs
          rw [HP.out, hl, HN.out] at h
          omega
        obtain ⟨m, HM⟩ : ∃ m, Hid (c + 1 = m) := ⟨_, rfl⟩
        rw [HM.out] at hcap ⊢
        have hm1 : ((m : Int) - 1) = (c : Int) := by have := HM.out; omega
        have q2 : ((m : Int) == 0) = false := by rw [beq_eq_false_iff_ne]; have := HM.out; omega
        have hc0 : (0 : Int) ≤ c := by omega
        have hcm : (c : Int) < m := by have := HM.out; omega
        have hcc : (c : Int) ≤ cap := by have := HM.out; omega
        clear hh hq c0 hl HRD
        have CC : Hid (∀ w', T w' → ReadsT w' (.slice (some ⟨b, off, none⟩) c cap) ts → Calls _ _ _ _ _) := fun w' h h' => IH.out t htn (xs.take t) i x _ w' L1.out (by omega) hik (by rw [← HXI.out, List.getD_eq_getElem?_getD, List.getD_eq_getElem?_getD, List.getElem?_take, if_pos hik]) h (by rw [← HTS.out] at h'; exact h')
        rw [HR1.out] at CC
        have NC : Hid (∀ w', T w' → Calls _ _ _ _ _) := fun w' h => pNode wd r1 r2 (by omega) w' (HTB.out h)
        rw [HE.out] at NC
        have hik' : (i : Int) < t := by omega
        clear Z1 Z2
        clear HH h1
        go_enter Tryd.func19, Tryd.ntmps19
        go_wp2_with fail
        refine (SC.out _).mono ?_
        rintro e w0 ⟨rfl, hw0⟩
        subst hw0
        go_wp2_with fail
        refine (CC.out _ HT.out RF.out).mono ?_
        rintro e w1 ⟨rfl, hb⟩
        have B1 : Hid (Below w0.heap.size w0 w1) := hb
        have T1 : Hid (T w1) := HL.out HT.out hb
        clear hb
        go_wp2_with fail
        refine (NC.out _ T1.out).mono ?_
        rintro e w2 ⟨rfl, hb⟩
        have B2 : Hid (Below w0.heap.size w0 w2) := over B1.out hb
        clear hb
        go_wp2
        go_ret2
        exact ⟨rfl, B2.out⟩
      · obtain ⟨ts, HTS⟩ : ∃ ts, Hid (PTn wd (i - t) (xs.drop t) = ts) := ⟨_, rfl⟩
        have HP : Hid (PTn wd i xs = ts ++ [r1]) := by
          show _ = _
          rw [PTn_high wd (by rw [HN.out]; exact h2n) (by rw [HN.out, HTT.out]; exact hik), HN.out, HTT.out, HTS.out, HR1.out]
        rw [HP.out] at HRD
        obtain ⟨a, cap, e, hcap, hh⟩ := HRD.out
        obtain ⟨c, HC⟩ : ∃ c, Hid (ts.length = c) := ⟨_, rfl⟩
        have hl : (ts ++ [r1]).length = c + 1 := by rw [List.length_append, HC.out]; rfl
        rw [hl] at e hcap hh
        obtain ⟨b, off, rfl, hq⟩ := hh.resolve_left (by omega)
        subst e
        have c0 := hq c (by omega)
        rw [List.getD_eq_getElem?_getD, List.getElem?_append_right (by rw [HC.out]; omega), HC.out, Nat.sub_self] at c0
        have c1 : w.cell? ⟨b, off + c, none⟩ = some (.string r1) := c0
        have RF : Hid (ReadsT w (.slice (some ⟨b, off, none⟩) c cap) ts) := by
          have h := ReadsT.front (n := c + 1) HRD.out (k := c) (by rw [hl]; omega)
          rw [List.take_append_of_le_length (by rw [HC.out]; omega), List.take_of_length_le (by rw [HC.out]; omega)] at h
          exact h
        have hcb : c ≤ 4611686018427387904 := by
          have h := PTn_len wd i xs
          rw [HP.out, hl, HN.out] at h
          omega
        obtain ⟨m, HM⟩ : ∃ m, Hid (c + 1 = m) := ⟨_, rfl⟩
        rw [HM.out] at hcap ⊢
        have hm1 : ((m : Int) - 1) = (c : Int) := by have := HM.out; omega
        have q2 : ((m : Int) == 0) = false := by rw [beq_eq_false_iff_ne]; have := HM.out; omega
        have hc0 : (0 : Int) ≤ c := by omega
        have hcm : (c : Int) < m := by have := HM.out; omega
        have hcc : (c : Int) ≤ cap := by have := HM.out; omega
        clear hh hq c0 hl HRD
        have CC : Hid (∀ w', T w' → ReadsT w' (.slice (some ⟨b, off, none⟩) c cap) ts → Calls _ _ _ _ _) := fun w' h h' => IH.out (n - t) (by omega) (xs.drop t) (i - t) x _ w' L2.out (by omega) (by omega) (by rw [← HXI.out, List.getD_eq_getElem?_getD, List.getD_eq_getElem?_getD, List.getElem?_drop, show t + (i - t) = i by omega]) h (by rw [← HTS.out] at h'; exact h')
        rw [HR2.out] at CC
        have NC : Hid (∀ w', T w' → Calls _ _ _ _ _) := fun w' h => pNode wd r1 r2 (by omega) w' (HTB.out h)
        rw [HE.out] at NC
        have hik' : ¬ (i : Int) < t := by omega
        have ent2 : ((i - t : Nat) : Int) = (i : Int) - t := by omega
        have ent3 : ((n - t : Nat) : Int) = (n : Int) - t := by omega
        rw [ent2, ent3] at CC
        clear Z1 Z2 ent2 ent3
        clear HH h1
        go_enter Tryd.func19, Tryd.ntmps19
        go_wp2_with fail
        refine (SC.out _).mono ?_
        rintro e w0 ⟨rfl, hw0⟩
        subst hw0
        go_wp2_with fail
        refine (CC.out _ HT.out RF.out).mono ?_
        rintro e w1 ⟨rfl, hb⟩
        have B1 : Hid (Below w0.heap.size w0 w1) := hb
        have T1 : Hid (T w1) := HL.out HT.out hb
        clear hb
        go_wp2_with fail
        refine (NC.out _ T1.out).mono ?_
        rintro e w2 ⟨rfl, hb⟩
        have B2 : Hid (Below w0.heap.size w0 w2) := over B1.out hb
        clear hb
        go_wp2
        go_ret2
        exact ⟨rfl, B2.out⟩
set_option maxHeartbeats 1600000 in
theorem mth_leads {T : World → Prop} (later : ∀ {w w' : World}, T w → Below w.heap.size w w' → T w') (tab : ∀ {w : World}, T w → Tab w) (RC : RootC T) (PC : PathC T) (wd i : Int) (hwd : i64 wd) (hi : i64 i) (v : Value) (xs : List ByteArray) (w : World) (hT : T w) (hR : ReadsT w v xs) (hf : Fits xs) :
    Calls Tryd.prog 5 #[.int .i64 wd, .int .i64 i, v] w fun e w' => e = .returned (.bool true) ∧ Below w.heap.size w w' := by
  have HL : Hid (∀ {w w' : World}, T w → Below w.heap.size w w' → T w') := later
  have HT : Hid (T w) := hT
  have HRD : Hid (ReadsT w v xs) := hR
  have hm := hf.many
  have C1 : Hid (Calls _ _ _ _ _) := PC wd i v xs w hwd hi hT hR hf
  obtain ⟨a, cap, rfl, hcap, hh⟩ := hR
  by_cases hok : 0 ≤ i ∧ i < xs.length
  · obtain ⟨k, rfl⟩ : ∃ k : Nat, i = k := ⟨i.toNat, by omega⟩
    have HP : Hid (PT wd k xs = PTn wd k xs) := by show _ = _; unfold PT; rw [if_pos hok]; rfl
    have HC : Hid (PE k xs = 0) := by show _ = _; unfold PE; rw [if_pos hok]
    rw [HP.out, HC.out] at C1
    obtain ⟨x, HX⟩ : ∃ x, Hid (xs.getD k ByteArray.empty = x) := ⟨_, rfl⟩
    have hxs : x.size ≤ 140737488352000 := by
      rw [← HX.out, getD_at xs k (by omega)]
      exact hf.each _ (List.getElem_mem (by omega))
    have C2 : Hid (∀ w', T w' → Calls _ _ _ _ _) := fun w' h => pLeaf wd x hxs w' (tab h)
    have C3 : Hid (∀ u w', T w' → ReadsT w' u (PTn wd k xs) → Calls _ _ _ _ _) := fun u w' h1 h2 => climbed later tab wd xs.length (by omega) xs k x u w' rfl (by omega) (by omega) HX.out h1 h2
    have C4 : Hid (∀ w', T w' → ReadsT w' (.slice a xs.length cap) xs → Calls _ _ _ _ _) := fun w' h1 h2 => RC wd _ xs w' hwd h1 h2 hf
    obtain ⟨b, off, rfl, hq⟩ := hh.resolve_left (by omega)
    have c0 := hq k (by omega)
    rw [HX.out] at c0
    obtain ⟨P, HPP⟩ : ∃ P, Hid (PTn wd k xs = P) := ⟨_, rfl⟩
    rw [HPP.out] at C1 C3
    obtain ⟨h, HH⟩ : ∃ h, Hid (LF wd x = h) := ⟨_, rfl⟩
    rw [HH.out] at C2 C3
    obtain ⟨R, HRR⟩ : ∃ R, Hid (RT wd xs = R) := ⟨_, rfl⟩
    rw [HRR.out] at C3 C4
    have q0 : (R.toList == R.toList) = true := beq_self_eq_true _
    obtain ⟨n, HN⟩ : ∃ n, Hid (xs.length = n) := ⟨_, rfl⟩
    rw [HN.out] at C1 C3 C4 HRD hcap hok hm ⊢
    have t1 : ¬ (k : Int) < 0 := by omega
    have t2 : ¬ (k : Int) ≥ n := by omega
    have t3 : (0 : Int) ≤ (k : Int) := by omega
    have t4 : (k : Int) < n := by omega
    have HC0 : Hid (w.cell? ⟨b, off + k, none⟩ = some (.string x)) := c0
    clear hh hq hok hT hf later tab RC PC hwd hi hxs c0
    go_enter Tryd.func5, Tryd.ntmps5
    go_wp2_with fail
    refine C1.out.mono ?_
    rintro e w1 ⟨⟨u, rfl, hu⟩, hb⟩
    have B1 : Hid (Below w.heap.size w w1) := hb
    have T1 : Hid (T w1) := HL.out HT.out hb
    have RU1 : Hid (ReadsT w1 u P) := own_readsT hu
    have c1 : w1.cell? ⟨b, off + k, none⟩ = some (.string x) := (hb.cell (p := ⟨b, off + k, none⟩) (World.block_lt_of_cell? _ _ HC0.out)).trans HC0.out
    obtain ⟨ua, uc, rfl⟩ := own_formS hu
    clear hb hu
    go_wp2_with fail
    refine (C2.out _ T1.out).mono ?_
    rintro e w2 ⟨rfl, hb⟩
    have B2 : Hid (Below w.heap.size w w2) := over B1.out hb
    have T2 : Hid (T w2) := HL.out T1.out hb
    have RU2 : Hid (ReadsT w2 (.slice ua P.length uc) P) := RU1.out.later hb
    clear hb c1
    go_wp2_with fail
    refine (C3.out _ _ T2.out RU2.out).mono ?_
    rintro e w3 ⟨rfl, hb⟩
    have B3 : Hid (Below w.heap.size w w3) := over B2.out hb
    have T3 : Hid (T w3) := HL.out T2.out hb
    clear hb
    go_wp2_with fail
    refine (C4.out _ T3.out (HRD.out.later B3.out)).mono ?_
    rintro e w4 ⟨rfl, hb⟩
    have B4 : Hid (Below w.heap.size w w4) := over B3.out hb
    clear hb
    go_wp2
    go_ret
    exact ⟨rfl, B4.out⟩
  · have HP : Hid (PT wd i xs = []) := by show _ = _; unfold PT; rw [if_neg hok]
    have HC : Hid (PE i xs = 81) := by show _ = _; unfold PE; rw [if_neg hok]
    rw [HP.out, HC.out] at C1
    obtain ⟨n, HN⟩ : ∃ n, Hid (xs.length = n) := ⟨_, rfl⟩
    rw [HN.out] at C1 hcap hok ⊢
    clear hh hT hf later tab RC PC hwd hi
    by_cases a1 : i < 0
    · clear hok
      go_enter Tryd.func5, Tryd.ntmps5
      go_wp2_with fail
      refine C1.out.mono ?_
      rintro e w1 ⟨⟨u, rfl, hu⟩, hb⟩
      have B1 : Hid (Below w.heap.size w w1) := hb
      obtain ⟨ua, uc, rfl⟩ := own_formS hu
      clear hb hu
      go_wp2
      go_ret
      exact ⟨rfl, B1.out⟩
    · have a2 : i ≥ n := by omega
      clear hok
      go_enter Tryd.func5, Tryd.ntmps5
      go_wp2_with fail
      refine C1.out.mono ?_
      rintro e w1 ⟨⟨u, rfl, hu⟩, hb⟩
      have B1 : Hid (Below w.heap.size w w1) := hb
      obtain ⟨ua, uc, rfl⟩ := own_formS hu
      clear hb hu
      go_wp2
      go_ret
      exact ⟨rfl, B1.out⟩
end Go.Proofs.YtkanjkofdfmhhaaDoor.gv
