import Derived.Test.YtjjeiklhmbhhoabDoorDb
namespace Go.Proofs.YtjjeiklhmbhhoabDoor.dc
open Go.RowKit Go.PlainAid
open Go.Proofs.YtjjeiklhmbhhoabDoor.ca Go.Proofs.YtjjeiklhmbhhoabDoor.cb Go.Proofs.YtjjeiklhmbhhoabDoor.cp Go.Proofs.YtjjeiklhmbhhoabDoor.cs Go.Proofs.YtjjeiklhmbhhoabDoor.ct Go.Proofs.YtjjeiklhmbhhoabDoor.cu Go.Proofs.YtjjeiklhmbhhoabDoor.cn Go.Proofs.YtjjeiklhmbhhoabDoor.da Go.Proofs.YtjjeiklhmbhhoabDoor.db
set_option linter.unusedVariables false

theorem own_formS {w : World} {B e size n : Nat} {v : Value} {xs : List Value} (h : w.ownsRow B e size v n xs) : ∃ a c, v = .slice a n c := by
  rcases h.2 with ⟨rfl, rfl⟩ | ⟨g, cap, cur, rfl, _⟩
  · exact ⟨_, _, rfl⟩
  · exact ⟨_, _, rfl⟩
theorem new_text (W : World) (u : Value) (t : TypeId) : ∀ (j : Nat) (x : Value), [u][j]? = some x → (W.alloc (.cells #[u] t)).cell? (Addr.add ⟨W.heap.size, 0, none⟩ j) = some x := by
  intro j x hx
  rw [show (Addr.add ⟨W.heap.size, 0, none⟩ j) = ⟨W.heap.size, j, none⟩ by cases j <;> simp [Addr.add], World.cell?_alloc_at _ _ _ _ rfl]
  simpa using hx
theorem one_text (x : ByteArray) : ∀ u ∈ [Value.string x], u.oneCell' = true := by
  intro u hu
  simp only [List.mem_cons, List.not_mem_nil, or_false] at hu
  subst hu
  rfl
set_option maxHeartbeats 1000000 in
set_option maxRecDepth 100000 in
theorem tree_folds {T : World → Prop} {E : Int → ByteArray} {N : Int → ByteArray → ByteArray → ByteArray} (HC : HashC T E N) (CV : CoverC T) (SP : SpanC) (FO : FoldC T E N) (wd : Int) (hwd : i64 wd) (v : Value) (xs0 : List ByteArray) (w : World) (hT : T w) (hR : ReadsT w v xs0) (hx : ∀ x ∈ xs0, x.size ≤ 140737488351232) (hn0 : xs0.length ≤ 140737488351232) :
    Calls Tryd.prog 3 #[.int .i64 wd, v] w fun e w' => e = .returned (.bool true) ∧ Below w.heap.size w w' := by
  have HT : Hid (T w) := hT
  have HHC : Hid (HashC T E N) := HC
  have HSP : Hid SpanC := SP
  have HFO : Hid (FoldC T E N) := FO
  have HWD : Hid (i64 wd) := hwd
  obtain ⟨i9, hi, hz0, hz1, hz2⟩ := info_parts hi9
  have HIN : Hid (_ ∧ _ ∧ _ ∧ _) := ⟨hi, hz0, hz1, hz2⟩
  have N0 : Hid (∀ w, Calls _ _ _ _ _) := fun w => num 0 w
  have hwz := (HC.width wd)
  have EC : Hid (∀ w, T w → Calls _ _ _ _ _) := fun w hw => HC.empty wd hwd w hw
  obtain ⟨EE, HEE⟩ : ∃ x, Hid (E wd = x) := ⟨_, rfl⟩
  obtain ⟨NN, HNN⟩ : ∃ x, Hid (N wd = x) := ⟨_, rfl⟩
  obtain ⟨ew, HEW⟩ : ∃ x, Hid (EE.size = x) := ⟨_, rfl⟩
  rw [HEE.out] at hwz EC
  rw [HEW.out] at hwz
  have HSZ : Hid (∀ l r, (NN l r).size = ew) := fun l r => by rw [← HNN.out, HC.size, HEE.out, HEW.out]
  have ew1 := hwz.1
  have ew2 := hwz.2
  have eww := HEW.out
  clear HC SP FO hwd hT hi hz0 hz1 hz2 hwz
  by_cases big : 2000 < xs0.length
  · obtain ⟨n, HNN0⟩ : ∃ m, Hid (xs0.length = m) := ⟨_, rfl⟩
    obtain ⟨a, cap, rfl, hR1, hR2⟩ := hR
    have HR0 : Hid (ReadsT w (.slice a xs0.length cap) xs0) := ⟨a, cap, rfl, hR1, hR2⟩
    obtain ⟨b0, off0, rfl, _⟩ : ∃ b off, a = some ⟨b, off, none⟩ ∧ True := by
      rcases hR2 with h | ⟨b, off, h, _⟩
      · omega
      · exact ⟨b, off, h, trivial⟩
    obtain ⟨xs, HXS⟩ : ∃ xs, Hid (xs0.take 2000 = xs) := ⟨_, rfl⟩
    have HM : Hid (xs.length = 2000) := by show _ = _; rw [← HXS.out, List.length_take]; omega
    have HX : Hid (∀ x ∈ xs, x.size ≤ 140737488351232) := by rw [← HXS.out]; exact fun x hx' => hx x (List.mem_of_mem_take hx')
    have HRD : Hid (ReadsT w (.slice (some ⟨b0, off0, none⟩) 2000 cap) xs) := by
      rw [← HXS.out]
      exact ReadsT.front HR0.out (by omega)
    rw [HNN0.out] at hR1 big hn0 ⊢
    have t1 : (n : Int) > 2000 := by omega
    have t2 : (2000 : Int) ≤ cap := by omega
    clear hR2 hx HR0
    have hm0 : 2000 ≤ 4611686018427387904 := by omega
    have C1 : Hid (∀ w, T w → Calls _ _ _ _ _) := fun w h => CV.covers 0 2000 ⟨by omega, by omega⟩ (i64_nat hm0) w h
    have HOK : okR 0 2000 := ⟨by omega, by omega, by omega⟩
    have HE : Hid (covE 0 2000 = 0) := by show _ = _; unfold covE; rw [if_pos HOK]
    have HI : Hid (covI 0 2000 = cov 0 2000) := by show _ = _; unfold covI; rw [if_pos HOK]; rfl
    have hN : ∀ l r, (NN l r).size ≤ 140737488351232 := fun l r => by rw [HSZ.out]; omega
    have hEz : EE.size ≤ 140737488351232 := by rw [HEW.out]; omega
    have HRS : Hid (∀ ys : List ByteArray, (∀ y ∈ ys, y ∈ xs) → (rootP EE NN ys).size ≤ 140737488351232) := fun ys h => rootP_size hN hEz ys (fun y hy => HX.out y (h y hy))
    have RT : Hid (∀ (ys : List ByteArray) (u : Value) (w' : World), ys.length ≤ 2000 → T w' → ReadsT w' u ys → (∀ y ∈ ys, y ∈ xs) → Calls Tryd.prog 9 #[.int .i64 wd, u] w' fun e w'' => e = .returned (.string (rootP EE NN ys)) ∧ Below w'.heap.size w' w'') := by
      intro ys u w' h1 h2 h3 h4
      have := rooted HHC.out wd HWD.out ys.length ys u w' rfl h1 h2 h3 (fun y hy => HX.out y (h4 y hy))
      rw [HEE.out, HNN.out] at this
      exact this
    clear HOK hN hEz CV
    go_enter Tryd.func3, Tryd.ntmps3
    go_wp2_with fail
    refine (C1.out _ HT.out).mono ?_
    rintro e w1 ⟨⟨l, rfl, ol⟩, hb⟩
    rw [HE.out]
    rw [HI.out] at ol
    have RL : Hid (ReadsA w1 l (cov 0 2000)) := own_readsA ol
    have B1 : Hid (Below w.heap.size w w1) := hb
    have T1 : Hid (T w1) := HHC.out.later HT.out hb
    have RX1 : Hid (ReadsT w1 (.slice (some ⟨b0, off0, none⟩) 2000 cap) xs) := HRD.out.later hb
    obtain ⟨al, cl, rfl⟩ := formA RL.out
    obtain ⟨z, HZ⟩ : ∃ z, Hid ((cov 0 2000).length = z) := ⟨_, rfl⟩
    have hz : z ≤ 122 := by rw [← HZ.out, ← HI.out]; exact covI_len 0 2000
    rw [HZ.out] at RL ⊢
    clear ol hb
    go_wp2_with fail
    refine (N0.out _).mono ?_
    rintro e w2 ⟨rfl, hw⟩
    replace hw := hw.symm
    subst hw
    go_wp2
    go_loopw [7, 8] (fun p i wr => ∃ (j : Nat) (done rest : List (Nat × Nat)), i = .int .i64 j ∧ j ≤ z ∧ Hid (done ++ rest = cov 0 2000 ∧ done.length = j ∧ wr.ownsRow w1.heap.size 9 1 p j ((done.map fun a => rootP EE NN (piece xs a)).map Value.string) ∧ Below w1.heap.size w1 wr)) (fun _ i _ => (z - intOf i).toNat)
    case atStart => exact ⟨0, [], cov 0 2000, rfl, by omega, rfl, rfl, World.ownsRow_nil _ _ _ _, Below.refl _ _⟩
    case round =>
      obtain ⟨j, done, rest, rfl, hjz, HL⟩ := hrel
      have HBR : Hid (Below w1.heap.size w1 wr) := HL.out.2.2.2
      have HOP : Hid (wr.ownsRow w1.heap.size 9 1 u7 j ((done.map fun a => rootP EE NN (piece xs a)).map Value.string)) := HL.out.2.2.1
      have HDL : Hid (done.length = j) := HL.out.2.1
      have HDR : Hid (done ++ rest = cov 0 2000) := HL.out.1
      have TR : Hid (T wr) := HHC.out.later T1.out HBR.out
      have BWR : Hid (Below w.heap.size w wr) := over B1.out HBR.out
      clear HL
      by_cases hlt : j < z
      · have hlt' : (j : Int) < z := by omega
        obtain ⟨k, i, rest', HRE⟩ : ∃ k i rest', Hid (rest = (k, i) :: rest') := by
          cases rest with
          | nil =>
            have := congrArg List.length HDR.out
            rw [List.append_nil, HDL.out, HZ.out] at this
            omega
          | cons x r => exact ⟨x.1, x.2, r, rfl⟩
        rw [HRE.out] at HDR
        have hmem := cov_mem 0 2000 (k, i) (by rw [← HDR.out]; simp)
        have hk : k ≤ 62 := hmem.2.2
        obtain ⟨t, HTT⟩ : ∃ t : Nat, Hid (2 ^ k = t) := ⟨_, rfl⟩
        have ht0 : 0 < t := by rw [← HTT.out]; exact p2 k
        have hgm : (i + 1) * t ≤ 2000 := by have := hmem.2.1; rw [← HTT.out]; exact this
        have hokA : okA k i := (okA_nat k i).2 ⟨hk, by rw [HTT.out]; omega⟩
        have him : i ≤ 4611686018427387904 := by have := Nat.le_mul_of_pos_right (i + 1) ht0; omega
        have SP1 : Hid (∀ w, Calls _ _ _ _ _) := fun w => HSP.out k i (i64_nat (by omega)) (i64_nat him) w
        rw [spV_nat hokA, HTT.out] at SP1
        obtain ⟨f, HF⟩ : ∃ f, Hid (i * t = f) := ⟨_, rfl⟩
        obtain ⟨g, HG⟩ : ∃ g, Hid ((i + 1) * t = g) := ⟨_, rfl⟩
        rw [HF.out, HG.out] at SP1
        have hgf : g = f + t := by rw [← HG.out, ← HF.out, Nat.add_mul, Nat.one_mul]
        have hgm' : g ≤ 2000 := by rw [← HG.out]; exact hgm
        have HXJ : Hid ((cov 0 2000)[j]? = some (k, i)) := by
          show _ = _
          rw [← HDR.out, List.getElem?_append_right (by rw [HDL.out]; exact Nat.le_refl _), HDL.out, Nat.sub_self]
          rfl
        obtain ⟨bl, hal, c1, c2⟩ := row_at (RL.out.later HBR.out) HXJ.out
        subst hal
        have hcap : 2000 ≤ cap := by omega
        have HPI : Hid (piece xs (k, i) = (xs.drop f).take t) := by
          show (xs.drop (i * 2 ^ k)).take (2 ^ k) = _
          rw [HTT.out, HF.out]
        have RP : Hid (ReadsT wr (.slice (some ⟨b0, off0 + f, none⟩) (g - f) (cap - f)) (piece xs (k, i))) := by
          rw [HPI.out, show g - f = t by omega]
          exact ReadsT.mid (RX1.out.later HBR.out) (by rw [HM.out]; omega)
        have HPM : Hid (∀ y ∈ piece xs (k, i), y ∈ xs) := fun y hy => by
          rw [HPI.out] at hy
          exact List.mem_of_mem_drop (List.mem_of_mem_take hy)
        have HPL : Hid ((piece xs (k, i)).length ≤ 2000) := by
          show _ ≤ _
          rw [HPI.out, List.length_take]
          omega
        obtain ⟨r, HR⟩ : ∃ r, Hid (rootP EE NN (piece xs (k, i)) = r) := ⟨_, rfl⟩
        have CR : Hid (∀ w', T w' → ReadsT w' (.slice (some ⟨b0, off0 + f, none⟩) (g - f) (cap - f)) (piece xs (k, i)) → Calls _ _ _ _ _) := fun w' h h' => RT.out (piece xs (k, i)) _ w' HPL.out h h' HPM.out
        rw [HR.out] at CR
        have HDS : Hid (done ++ [(k, i)] ++ rest' = cov 0 2000) := by show _ = _; rw [← HDR.out, List.append_assoc]; rfl
        have HMS : Hid (((done ++ [(k, i)]).map fun a => rootP EE NN (piece xs a)).map Value.string = ((done.map fun a => rootP EE NN (piece xs a)).map Value.string) ++ [Value.string r]) := by
          show _ = _
          rw [List.map_append, List.map_append]
          show _ ++ [Value.string (rootP EE NN (piece xs (k, i)))] = _
          rw [HR.out]
        have g1 : ¬ (f : Int) < 0 := by omega
        have g2 : ¬ (g : Int) > 2000 := by omega
        have g3 : ¬ (f : Int) > g := by omega
        have g4 : (f : Int) ≤ g := by omega
        have g5 : (g : Int) ≤ cap := by omega
        have g6 : (f : Int) < cap := by omega
        have g7 : f < cap := by omega
        have g8 : f < g := by omega
        clear hmem hgm hokA hgf
        go_wp2_with fail
        refine (SP1.out _).mono ?_
        rintro e w3 ⟨rfl, hb⟩
        have T3 : Hid (T w3) := HHC.out.later TR.out hb
        have B3 : Hid (Below wr.heap.size wr w3) := hb
        have RP3 : Hid (ReadsT w3 (.slice (some ⟨b0, off0 + f, none⟩) (g - f) (cap - f)) (piece xs (k, i))) := RP.out.later hb
        clear hb c1 c2
        go_wp2_with fail
        refine (N0.out _).mono ?_
        rintro e wn ⟨rfl, hw⟩
        replace hw := hw.symm
        subst hw
        go_wp2_with fail
        refine (CR.out _ T3.out RP3.out).mono ?_
        rintro e w4 ⟨rfl, hb⟩
        have B4 : Hid (Below wr.heap.size wr w4) := over B3.out hb
        clear hb
        have BX : Hid (Below wr.heap.size wr (w4.alloc (.cells #[.string r] 9))) := B4.out.alloc B4.out.size _
        have OX : Hid ((w4.alloc (.cells #[.string r] 9)).ownsRow w1.heap.size 9 1 u7 j ((done.map fun a => rootP EE NN (piece xs a)).map Value.string)) := own_later HOP.out BX.out
        have BWX : Hid (Below w1.heap.size w1 (w4.alloc (.cells #[.string r] 9))) := over HBR.out BX.out
        go_wp2_with (at_builtin; refine wpList_append_own _ rfl _ _ 22 rfl w1.heap.size 9 i9 (.string ByteArray.empty) 1 16 Tryd.underlying22 HIN.out.1 HIN.out.2.1 HIN.out.2.2.1 HIN.out.2.2.2 rfl (by decide) _ j _ rfl OX.out ⟨w4.heap.size, 0, none⟩ 1 1 [.string r] rfl rfl (new_text _ _ _) (one_text _) (by unfold maxLen; omega) (by omega) BWX.out.size ?_; intro p' w5 ho hg hnn; have HO5 : Hid (World.ownsRow _ _ _ _ _ _ _) := ho; have HB5 : Hid (Below w1.heap.size w1 w5) := Below.grown BWX.out hg BWX.out.size (fun jj hj => (OX.out.lt _ hj).1); clear ho hg hnn)
        go_roundw
        case rel =>
          refine ⟨j + 1, done ++ [(k, i)], rest', by go_num, by omega, HDS.out, (by rw [List.length_append, HDL.out]; rfl), ?_, HB5.out⟩
          rw [HMS.out]
          exact HO5.out
        case measure => simp [intOf]; omega
      · have hlt' : ¬ (j : Int) < z := by omega
        have HRN : Hid (rest = []) := by
          have := congrArg List.length HDR.out
          rw [List.length_append, HDL.out, HZ.out] at this
          exact List.length_eq_zero_iff.1 (by omega)
        rw [HRN.out, List.append_nil] at HDR
        obtain ⟨R, HRR⟩ : ∃ R, Hid (rootP EE NN xs = R) := ⟨_, rfl⟩
        have HFR : Hid (foldP EE NN ((cov 0 2000).map fun a => rootP EE NN (piece xs a)) = R) := by
          show _ = _
          have := fold_all EE NN xs (by rw [HM.out, p63]; omega)
          rw [HM.out, HRR.out] at this
          exact this
        rw [HDR.out] at HOP
        have RPK : Hid (ReadsT wr u7 ((cov 0 2000).map fun a => rootP EE NN (piece xs a))) := own_readsT HOP.out
        have FC : Hid (∀ w', T w' → ReadsT w' u7 ((cov 0 2000).map fun a => rootP EE NN (piece xs a)) → Calls Tryd.prog 10 #[.int .i64 wd, u7] w' fun e w'' => e = .returned (.string R) ∧ Below w'.heap.size w' w'') := by
          intro w' h h'
          have := HFO.out wd u7 _ w' HWD.out h h' (fun x hx => by
            obtain ⟨a, _, rfl⟩ := List.mem_map.1 hx
            exact HRS.out _ (fun y hy => List.mem_of_mem_drop (List.mem_of_mem_take hy))) (by rw [List.length_map, HZ.out]; omega)
          rw [HEE.out, HNN.out, HFR.out] at this
          exact this
        have RC : Hid (∀ w', T w' → ReadsT w' (.slice (some ⟨b0, off0, none⟩) 2000 cap) xs → Calls _ _ _ _ _) := fun w' h h' => RT.out xs _ w' (by rw [HM.out]; exact Nat.le_refl _) h h' (fun y hy => hy)
        rw [HRR.out] at RC
        obtain ⟨ap, cp, hp⟩ := own_formS HOP.out
        subst hp
        obtain rfl : z = j := by omega
        have RXR : Hid (ReadsT wr (.slice (some ⟨b0, off0, none⟩) 2000 cap) xs) := RX1.out.later HBR.out
        go_wp2_with fail
        refine (FC.out _ TR.out RPK.out).mono ?_
        rintro e w3 ⟨rfl, hb⟩
        have T3 : Hid (T w3) := HHC.out.later TR.out hb
        have RX3 : Hid (ReadsT w3 (.slice (some ⟨b0, off0, none⟩) 2000 cap) xs) := RXR.out.later hb
        have B3 : Hid (Below w.heap.size w w3) := over BWR.out hb
        clear hb
        go_wp2_with fail
        refine (RC.out _ T3.out RX3.out).mono ?_
        rintro e w4 ⟨rfl, hb⟩
        have T4 : Hid (T w4) := HHC.out.later T3.out hb
        have RX4 : Hid (ReadsT w4 (.slice (some ⟨b0, off0, none⟩) 2000 cap) xs) := RX3.out.later hb
        have B4 : Hid (Below w.heap.size w w4) := over B3.out hb
        clear hb
        go_wp2_with fail
        refine (EC.out _ T4.out).mono ?_
        rintro e w5 ⟨rfl, hb⟩
        have RX5 : Hid (ReadsT w5 (.slice (some ⟨b0, off0, none⟩) 2000 cap) xs) := RX4.out.later hb
        have B5 : Hid (Below w.heap.size w w5) := over B4.out hb
        clear hb
        have qR : (R.toList == R.toList) = true := beq_self_eq_true _
        have q1 : ((2000 : Int) == 1) = false := by decide
        have HRZ : Hid (R.size = ew) := by
          show _ = _
          rcases Nat.lt_or_ge 2000 2 with e | e
          · have : xs = [] := List.length_eq_zero_iff.1 (by rw [HM.out]; omega)
            rw [← HRR.out, this, rootP_nil, HEW.out]
          · rw [← HRR.out, rootP_half EE NN (by rw [HM.out]; exact e), HSZ.out]
        have hrz := HRZ.out
        have qw : ((ew : Int) == (ew : Int)) = true := beq_self_eq_true _
        have qz : ((z : Int) == 0) = false := by
          rw [beq_eq_false_iff_ne]
          have : 0 < z := by rw [← HZ.out, cov_at (show 0 < 2000 by omega) (lv_lv 0 (2000 - 0) (by omega)), List.length_cons]; omega
          omega
        go_wp2
        go_ret
        exact ⟨rfl, B5.out⟩
  · obtain ⟨m, HM⟩ : ∃ m, Hid (xs0.length = m) := ⟨_, rfl⟩
    obtain ⟨xs, HXS⟩ : ∃ xs, Hid (xs0 = xs) := ⟨_, rfl⟩
    have HX : Hid (∀ x ∈ xs, x.size ≤ 140737488351232) := by rw [← HXS.out]; exact hx
    rw [HXS.out] at HM hR hn0 big
    have hm : m ≤ 2000 := by rw [← HM.out]; omega
    obtain ⟨a, cap, rfl, hR1, hR2⟩ := hR
    have HRD : Hid (ReadsT w (.slice a m cap) xs) := ⟨a, cap, by rw [HM.out], hR1, hR2⟩
    rw [HM.out] at hR1 ⊢
    have t1 : ¬ (m : Int) > 2000 := by omega
    clear hR1 hR2 hx hn0 big
    have hm0 : m ≤ 4611686018427387904 := by omega
    have C1 : Hid (∀ w, T w → Calls _ _ _ _ _) := fun w h => CV.covers 0 m ⟨by omega, by omega⟩ (i64_nat hm0) w h
    have HOK : okR 0 m := ⟨by omega, by omega, by omega⟩
    have HE : Hid (covE 0 m = 0) := by show _ = _; unfold covE; rw [if_pos HOK]
    have HI : Hid (covI 0 m = cov 0 m) := by show _ = _; unfold covI; rw [if_pos HOK]; rfl
    have hN : ∀ l r, (NN l r).size ≤ 140737488351232 := fun l r => by rw [HSZ.out]; omega
    have hEz : EE.size ≤ 140737488351232 := by rw [HEW.out]; omega
    have HRS : Hid (∀ ys : List ByteArray, (∀ y ∈ ys, y ∈ xs) → (rootP EE NN ys).size ≤ 140737488351232) := fun ys h => rootP_size hN hEz ys (fun y hy => HX.out y (h y hy))
    have RT : Hid (∀ (ys : List ByteArray) (u : Value) (w' : World), ys.length ≤ 2000 → T w' → ReadsT w' u ys → (∀ y ∈ ys, y ∈ xs) → Calls Tryd.prog 9 #[.int .i64 wd, u] w' fun e w'' => e = .returned (.string (rootP EE NN ys)) ∧ Below w'.heap.size w' w'') := by
      intro ys u w' h1 h2 h3 h4
      have := rooted HHC.out wd HWD.out ys.length ys u w' rfl h1 h2 h3 (fun y hy => HX.out y (h4 y hy))
      rw [HEE.out, HNN.out] at this
      exact this
    clear HOK hN hEz CV
    go_enter Tryd.func3, Tryd.ntmps3
    go_wp2_with fail
    refine (C1.out _ HT.out).mono ?_
    rintro e w1 ⟨⟨l, rfl, ol⟩, hb⟩
    rw [HE.out]
    rw [HI.out] at ol
    have RL : Hid (ReadsA w1 l (cov 0 m)) := own_readsA ol
    have B1 : Hid (Below w.heap.size w w1) := hb
    have T1 : Hid (T w1) := HHC.out.later HT.out hb
    have RX1 : Hid (ReadsT w1 (.slice a m cap) xs) := HRD.out.later hb
    obtain ⟨al, cl, rfl⟩ := formA RL.out
    obtain ⟨z, HZ⟩ : ∃ z, Hid ((cov 0 m).length = z) := ⟨_, rfl⟩
    have hz : z ≤ 122 := by rw [← HZ.out, ← HI.out]; exact covI_len 0 m
    rw [HZ.out] at RL ⊢
    clear ol hb
    go_wp2_with fail
    refine (N0.out _).mono ?_
    rintro e w2 ⟨rfl, hw⟩
    replace hw := hw.symm
    subst hw
    go_wp2
    go_loopw [7, 8] (fun p i wr => ∃ (j : Nat) (done rest : List (Nat × Nat)), i = .int .i64 j ∧ j ≤ z ∧ Hid (done ++ rest = cov 0 m ∧ done.length = j ∧ wr.ownsRow w1.heap.size 9 1 p j ((done.map fun a => rootP EE NN (piece xs a)).map Value.string) ∧ Below w1.heap.size w1 wr)) (fun _ i _ => (z - intOf i).toNat)
    case atStart => exact ⟨0, [], cov 0 m, rfl, by omega, rfl, rfl, World.ownsRow_nil _ _ _ _, Below.refl _ _⟩
    case round =>
      obtain ⟨j, done, rest, rfl, hjz, HL⟩ := hrel
      have HBR : Hid (Below w1.heap.size w1 wr) := HL.out.2.2.2
      have HOP : Hid (wr.ownsRow w1.heap.size 9 1 u7 j ((done.map fun a => rootP EE NN (piece xs a)).map Value.string)) := HL.out.2.2.1
      have HDL : Hid (done.length = j) := HL.out.2.1
      have HDR : Hid (done ++ rest = cov 0 m) := HL.out.1
      have TR : Hid (T wr) := HHC.out.later T1.out HBR.out
      have BWR : Hid (Below w.heap.size w wr) := over B1.out HBR.out
      clear HL
      by_cases hlt : j < z
      · have hlt' : (j : Int) < z := by omega
        obtain ⟨k, i, rest', HRE⟩ : ∃ k i rest', Hid (rest = (k, i) :: rest') := by
          cases rest with
          | nil =>
            have := congrArg List.length HDR.out
            rw [List.append_nil, HDL.out, HZ.out] at this
            omega
          | cons x r => exact ⟨x.1, x.2, r, rfl⟩
        rw [HRE.out] at HDR
        have hmem := cov_mem 0 m (k, i) (by rw [← HDR.out]; simp)
        have hk : k ≤ 62 := hmem.2.2
        obtain ⟨t, HTT⟩ : ∃ t : Nat, Hid (2 ^ k = t) := ⟨_, rfl⟩
        have ht0 : 0 < t := by rw [← HTT.out]; exact p2 k
        have hgm : (i + 1) * t ≤ m := by have := hmem.2.1; rw [← HTT.out]; exact this
        have hokA : okA k i := (okA_nat k i).2 ⟨hk, by rw [HTT.out]; omega⟩
        have him : i ≤ 4611686018427387904 := by have := Nat.le_mul_of_pos_right (i + 1) ht0; omega
        have SP1 : Hid (∀ w, Calls _ _ _ _ _) := fun w => HSP.out k i (i64_nat (by omega)) (i64_nat him) w
        rw [spV_nat hokA, HTT.out] at SP1
        obtain ⟨f, HF⟩ : ∃ f, Hid (i * t = f) := ⟨_, rfl⟩
        obtain ⟨g, HG⟩ : ∃ g, Hid ((i + 1) * t = g) := ⟨_, rfl⟩
        rw [HF.out, HG.out] at SP1
        have hgf : g = f + t := by rw [← HG.out, ← HF.out, Nat.add_mul, Nat.one_mul]
        have hgm' : g ≤ m := by rw [← HG.out]; exact hgm
        have HXJ : Hid ((cov 0 m)[j]? = some (k, i)) := by
          show _ = _
          rw [← HDR.out, List.getElem?_append_right (by rw [HDL.out]; exact Nat.le_refl _), HDL.out, Nat.sub_self]
          rfl
        obtain ⟨bl, hal, c1, c2⟩ := row_at (RL.out.later HBR.out) HXJ.out
        subst hal
        obtain ⟨b, off, ha⟩ : ∃ b off, a = some ⟨b, off, none⟩ := by
          obtain ⟨a', cap', e, _, h0 | ⟨b, off, h, _⟩⟩ := RX1.out
          · rw [HM.out] at h0; omega
          · injection e with e1 _ _; rw [e1]; exact ⟨b, off, h⟩
        subst ha
        have hcap : m ≤ cap := by
          obtain ⟨a', cap', e, hc, _⟩ := RX1.out
          injection e with _ _ e3
          rw [HM.out] at hc
          omega
        have HPI : Hid (piece xs (k, i) = (xs.drop f).take t) := by
          show (xs.drop (i * 2 ^ k)).take (2 ^ k) = _
          rw [HTT.out, HF.out]
        have RP : Hid (ReadsT wr (.slice (some ⟨b, off + f, none⟩) (g - f) (cap - f)) (piece xs (k, i))) := by
          rw [HPI.out, show g - f = t by omega]
          exact ReadsT.mid (RX1.out.later HBR.out) (by rw [HM.out]; omega)
        have HPM : Hid (∀ y ∈ piece xs (k, i), y ∈ xs) := fun y hy => by
          rw [HPI.out] at hy
          exact List.mem_of_mem_drop (List.mem_of_mem_take hy)
        have HPL : Hid ((piece xs (k, i)).length ≤ 2000) := by
          show _ ≤ _
          rw [HPI.out, List.length_take]
          omega
        obtain ⟨r, HR⟩ : ∃ r, Hid (rootP EE NN (piece xs (k, i)) = r) := ⟨_, rfl⟩
        have CR : Hid (∀ w', T w' → ReadsT w' (.slice (some ⟨b, off + f, none⟩) (g - f) (cap - f)) (piece xs (k, i)) → Calls _ _ _ _ _) := fun w' h h' => RT.out (piece xs (k, i)) _ w' HPL.out h h' HPM.out
        rw [HR.out] at CR
        have HDS : Hid (done ++ [(k, i)] ++ rest' = cov 0 m) := by show _ = _; rw [← HDR.out, List.append_assoc]; rfl
        have HMS : Hid (((done ++ [(k, i)]).map fun a => rootP EE NN (piece xs a)).map Value.string = ((done.map fun a => rootP EE NN (piece xs a)).map Value.string) ++ [Value.string r]) := by
          show _ = _
          rw [List.map_append, List.map_append]
          show _ ++ [Value.string (rootP EE NN (piece xs (k, i)))] = _
          rw [HR.out]
        have g1 : ¬ (f : Int) < 0 := by omega
        have g2 : ¬ (g : Int) > m := by omega
        have g3 : ¬ (f : Int) > g := by omega
        have g4 : (f : Int) ≤ g := by omega
        have g5 : (g : Int) ≤ cap := by omega
        have g6 : (f : Int) < cap := by omega
        have g7 : f < cap := by omega
        have g8 : f < g := by omega
        clear hmem hgm hokA hgf
        go_wp2_with fail
        refine (SP1.out _).mono ?_
        rintro e w3 ⟨rfl, hb⟩
        have T3 : Hid (T w3) := HHC.out.later TR.out hb
        have B3 : Hid (Below wr.heap.size wr w3) := hb
        have RP3 : Hid (ReadsT w3 (.slice (some ⟨b, off + f, none⟩) (g - f) (cap - f)) (piece xs (k, i))) := RP.out.later hb
        clear hb c1 c2
        go_wp2_with fail
        refine (N0.out _).mono ?_
        rintro e wn ⟨rfl, hw⟩
        replace hw := hw.symm
        subst hw
        go_wp2_with fail
        refine (CR.out _ T3.out RP3.out).mono ?_
        rintro e w4 ⟨rfl, hb⟩
        have B4 : Hid (Below wr.heap.size wr w4) := over B3.out hb
        clear hb
        have BX : Hid (Below wr.heap.size wr (w4.alloc (.cells #[.string r] 9))) := B4.out.alloc B4.out.size _
        have OX : Hid ((w4.alloc (.cells #[.string r] 9)).ownsRow w1.heap.size 9 1 u7 j ((done.map fun a => rootP EE NN (piece xs a)).map Value.string)) := own_later HOP.out BX.out
        have BWX : Hid (Below w1.heap.size w1 (w4.alloc (.cells #[.string r] 9))) := over HBR.out BX.out
        go_wp2_with (at_builtin; refine wpList_append_own _ rfl _ _ 22 rfl w1.heap.size 9 i9 (.string ByteArray.empty) 1 16 Tryd.underlying22 HIN.out.1 HIN.out.2.1 HIN.out.2.2.1 HIN.out.2.2.2 rfl (by decide) _ j _ rfl OX.out ⟨w4.heap.size, 0, none⟩ 1 1 [.string r] rfl rfl (new_text _ _ _) (one_text _) (by unfold maxLen; omega) (by omega) BWX.out.size ?_; intro p' w5 ho hg hnn; have HO5 : Hid (World.ownsRow _ _ _ _ _ _ _) := ho; have HB5 : Hid (Below w1.heap.size w1 w5) := Below.grown BWX.out hg BWX.out.size (fun jj hj => (OX.out.lt _ hj).1); clear ho hg hnn)
        go_roundw
        case rel =>
          refine ⟨j + 1, done ++ [(k, i)], rest', by go_num, by omega, HDS.out, (by rw [List.length_append, HDL.out]; rfl), ?_, HB5.out⟩
          rw [HMS.out]
          exact HO5.out
        case measure => simp [intOf]; omega
      · have hlt' : ¬ (j : Int) < z := by omega
        have HRN : Hid (rest = []) := by
          have := congrArg List.length HDR.out
          rw [List.length_append, HDL.out, HZ.out] at this
          exact List.length_eq_zero_iff.1 (by omega)
        rw [HRN.out, List.append_nil] at HDR
        obtain ⟨R, HRR⟩ : ∃ R, Hid (rootP EE NN xs = R) := ⟨_, rfl⟩
        have HFR : Hid (foldP EE NN ((cov 0 m).map fun a => rootP EE NN (piece xs a)) = R) := by
          show _ = _
          have := fold_all EE NN xs (by rw [HM.out, p63]; omega)
          rw [HM.out, HRR.out] at this
          exact this
        rw [HDR.out] at HOP
        have RPK : Hid (ReadsT wr u7 ((cov 0 m).map fun a => rootP EE NN (piece xs a))) := own_readsT HOP.out
        have FC : Hid (∀ w', T w' → ReadsT w' u7 ((cov 0 m).map fun a => rootP EE NN (piece xs a)) → Calls Tryd.prog 10 #[.int .i64 wd, u7] w' fun e w'' => e = .returned (.string R) ∧ Below w'.heap.size w' w'') := by
          intro w' h h'
          have := HFO.out wd u7 _ w' HWD.out h h' (fun x hx => by
            obtain ⟨a, _, rfl⟩ := List.mem_map.1 hx
            exact HRS.out _ (fun y hy => List.mem_of_mem_drop (List.mem_of_mem_take hy))) (by rw [List.length_map, HZ.out]; omega)
          rw [HEE.out, HNN.out, HFR.out] at this
          exact this
        have RC : Hid (∀ w', T w' → ReadsT w' (.slice a m cap) xs → Calls _ _ _ _ _) := fun w' h h' => RT.out xs _ w' (by rw [HM.out]; exact hm) h h' (fun y hy => hy)
        rw [HRR.out] at RC
        obtain ⟨ap, cp, hp⟩ := own_formS HOP.out
        subst hp
        obtain rfl : z = j := by omega
        have RXR : Hid (ReadsT wr (.slice a m cap) xs) := RX1.out.later HBR.out
        go_wp2_with fail
        refine (FC.out _ TR.out RPK.out).mono ?_
        rintro e w3 ⟨rfl, hb⟩
        have T3 : Hid (T w3) := HHC.out.later TR.out hb
        have RX3 : Hid (ReadsT w3 (.slice a m cap) xs) := RXR.out.later hb
        have B3 : Hid (Below w.heap.size w w3) := over BWR.out hb
        clear hb
        go_wp2_with fail
        refine (RC.out _ T3.out RX3.out).mono ?_
        rintro e w4 ⟨rfl, hb⟩
        have T4 : Hid (T w4) := HHC.out.later T3.out hb
        have RX4 : Hid (ReadsT w4 (.slice a m cap) xs) := RX3.out.later hb
        have B4 : Hid (Below w.heap.size w w4) := over B3.out hb
        clear hb
        go_wp2_with fail
        refine (EC.out _ T4.out).mono ?_
        rintro e w5 ⟨rfl, hb⟩
        have RX5 : Hid (ReadsT w5 (.slice a m cap) xs) := RX4.out.later hb
        have B5 : Hid (Below w.heap.size w w5) := over B4.out hb
        clear hb
        have qR : (R.toList == R.toList) = true := beq_self_eq_true _
        by_cases hm1 : m = 1
        · have q1 : ((m : Int) == 1) = true := by rw [beq_iff_eq]; omega
          have hm0' : (0 : Int) < m := by omega
          obtain ⟨b, off, ha, c0⟩ : ∃ b off, a = some ⟨b, off, none⟩ ∧ w5.cell? ⟨b, off, none⟩ = some (.string R) := by
            obtain ⟨a', cap', e, _, h0 | ⟨b, off, h, hh⟩⟩ := RX5.out
            · rw [HM.out] at h0; omega
            · injection e with e1 _ _
              refine ⟨b, off, e1.trans h, ?_⟩
              have := hh 0 (by rw [HM.out]; omega)
              rw [Nat.add_zero] at this
              rw [this]
              obtain ⟨x, hx⟩ := List.length_eq_one_iff.1 (HM.out.trans hm1)
              rw [← HRR.out, hx, rootP_one]
              rfl
          subst ha
          clear hm1
          go_wp2
          go_ret
          exact ⟨by rw [← decide_eq_true (p := (1 : Int) ≤ (ew : Int)) (by omega)]; rfl, B5.out⟩
        · have q1 : ((m : Int) == 1) = false := by rw [beq_eq_false_iff_ne]; omega
          have HRZ : Hid (R.size = ew) := by
            show _ = _
            rcases Nat.lt_or_ge m 2 with e | e
            · have : xs = [] := List.length_eq_zero_iff.1 (by rw [HM.out]; omega)
              rw [← HRR.out, this, rootP_nil, HEW.out]
            · rw [← HRR.out, rootP_half EE NN (by rw [HM.out]; exact e), HSZ.out]
          have hrz := HRZ.out
          have qw : ((ew : Int) == (ew : Int)) = true := beq_self_eq_true _
          have qz : (((m : Int) == 0) == ((z : Int) == 0)) = true := by
            rw [beq_iff_eq, Bool.eq_iff_iff, beq_iff_eq, beq_iff_eq]
            rcases Nat.eq_zero_or_pos m with e | e
            · have : z = 0 := by rw [← HZ.out, e, cov_end (by omega)]; rfl
              omega
            · have : 0 < z := by rw [← HZ.out, cov_at e (lv_lv 0 (m - 0) (by omega)), List.length_cons]; omega
              omega
          clear hm1
          go_wp2
          go_ret
          exact ⟨rfl, B5.out⟩
end Go.Proofs.YtjjeiklhmbhhoabDoor.dc
