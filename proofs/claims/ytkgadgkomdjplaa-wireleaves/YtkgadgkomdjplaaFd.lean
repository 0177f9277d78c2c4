import Derived.Test.YtkgadgkomdjplaaFc
import Derived.Test.YtkgadgkomdjplaaEi
import Derived.Test.YtkgadgkomdjplaaNj
namespace Go.Proofs.Ytkgadgkomdjplaa.fd
open Go.RowKit Go.PlainAid
open Go.Proofs.Ytkgadgkomdjplaa.ca Go.Proofs.Ytkgadgkomdjplaa.cb Go.Proofs.Ytkgadgkomdjplaa.cp Go.Proofs.Ytkgadgkomdjplaa.ga Go.Proofs.Ytkgadgkomdjplaa.kp Go.Proofs.Ytkgadgkomdjplaa.na Go.Proofs.Ytkgadgkomdjplaa.nb Go.Proofs.Ytkgadgkomdjplaa.nc Go.Proofs.Ytkgadgkomdjplaa.nf Go.Proofs.Ytkgadgkomdjplaa.ng Go.Proofs.Ytkgadgkomdjplaa.nh Go.Proofs.Ytkgadgkomdjplaa.nj Go.Proofs.Ytkgadgkomdjplaa.ea Go.Proofs.Ytkgadgkomdjplaa.eb Go.Proofs.Ytkgadgkomdjplaa.ec Go.Proofs.Ytkgadgkomdjplaa.ed Go.Proofs.Ytkgadgkomdjplaa.ee Go.Proofs.Ytkgadgkomdjplaa.ef Go.Proofs.Ytkgadgkomdjplaa.eg Go.Proofs.Ytkgadgkomdjplaa.eh Go.Proofs.Ytkgadgkomdjplaa.ei Go.Proofs.Ytkgadgkomdjplaa.ka Go.Proofs.Ytkgadgkomdjplaa.bn Go.Proofs.Ytkgadgkomdjplaa.fa Go.Proofs.Ytkgadgkomdjplaa.fb Go.Proofs.Ytkgadgkomdjplaa.fc
set_option linter.unusedVariables false

-- the document's list of leaves, read
structure PI (g : Nat) (b : ByteArray) (n p : Nat) (e : Int) (B : Nat) (w : World) (v : Value) (xs : List ByteArray) (q : Nat) (z : Int) (wr : World) : Prop where
  rd : Rd 81 g b q z [] wr
  ok : Ok b q z
  bl : Below B w wr
  own : wr.ownsRow B 9 1 v xs.length (xs.map Value.string)
  len : xs.length ≤ n
  eq : leavesS b n p e = (xs ++ (leavesS b (n - xs.length) q z).1, (leavesS b (n - xs.length) q z).2)
set_option maxHeartbeats 3200000 in
theorem rUnLeaves (b : ByteArray) (w : World) (hb : b.size ≤ 140737488355328) :
    Calls Try.prog 15 #[.string b] w fun e w' => (∃ v, e = .returned (.tuple #[v, .int .i64 (unLeavesE b)]) ∧ w'.ownsRow w.heap.size 9 1 v (unLeavesL b).length ((unLeavesL b).map Value.string)) ∧ Below w.heap.size w w' := by
  obtain ⟨i9, hi, hz0, hz1, hz2⟩ := info_parts hi9
  have HIN : Hid (_ ∧ _ ∧ _ ∧ _) := ⟨hi, hz0, hz1, hz2⟩
  clear hi hz0 hz1 hz2
  have hk0 : Ok b 0 0 := ⟨Nat.zero_le _, by decide, by decide⟩
  have CM : Hid (∀ W, Rd 81 w.heap.size b 0 0 [] W → Calls _ _ _ _ _) := fun W h => pLetter 81 w.heap.size b 0 0 76 [] W h hb hk0 (by decide) (by decide)
  have hk1 := mark_ok b 76 0 0 hk0
  have HU : Hid (unLeavesS b = leavesS b (mostS b 1024 83 (markS b 76 0 0).1 (markS b 76 0 0).2).1.toNat (mostS b 1024 83 (markS b 76 0 0).1 (markS b 76 0 0).2).2.1 (mostS b 1024 83 (markS b 76 0 0).1 (markS b 76 0 0).2).2.2) := rfl
  obtain ⟨p1, e1, HM⟩ : ∃ p1 e1, Hid (markS b 76 0 0 = (p1, e1)) := ⟨_, _, rfl⟩
  rw [HM.out] at CM HU hk1
  have CN : Hid (∀ w', Rd 81 w.heap.size b p1 e1 [] w' → Calls _ _ _ _ _) := fun w' h => pNumber 81 w.heap.size b p1 e1 1024 83 [] w' h hb hk1 (by decide) (by decide)
  obtain ⟨hk2, hm0, hm1⟩ := most_ok b 1024 83 p1 e1 hk1 (by decide)
  obtain ⟨m, p2, e2, HN⟩ : ∃ m p2 e2, Hid (mostS b 1024 83 p1 e1 = (m, p2, e2)) := ⟨_, _, _, rfl⟩
  have HU2 : Hid (unLeavesS b = leavesS b (mostS b 1024 83 p1 e1).1.toNat (mostS b 1024 83 p1 e1).2.1 (mostS b 1024 83 p1 e1).2.2) := HU.out
  rw [HN.out] at CN HU2 hk2 hm0 hm1
  obtain ⟨n, hn⟩ : ∃ n : Nat, m = n := ⟨m.toNat, by simp at hm0; omega⟩
  subst hn
  have hn1 : n ≤ 1024 := by simp at hm1; omega
  have HU3 : Hid (unLeavesS b = leavesS b n p2 e2) := HU2.out
  have HE0 : Hid (unLeavesE b = endS b (unLeavesS b).2.1 (unLeavesS b).2.2) := rfl
  have HL0 : Hid (unLeavesL b = if unLeavesE b = 0 then (unLeavesS b).1 else []) := rfl
  obtain ⟨R, HR⟩ : ∃ R, Hid (leavesS b n p2 e2 = R) := ⟨_, rfl⟩
  obtain ⟨f0, HF0⟩ : ∃ f0, Hid (unLeavesE b = f0) := ⟨_, rfl⟩
  obtain ⟨L0, HL1⟩ : ∃ L0, Hid (unLeavesL b = L0) := ⟨_, rfl⟩
  have ENDS : Hid (∀ xs q z, R = (xs, q, z) → endS b q z = f0 ∧ (f0 = 0 → L0 = xs) ∧ (f0 ≠ 0 → L0 = [])) := by
    intro xs q z hR
    have h1 : unLeavesS b = (xs, q, z) := by rw [HU3.out, HR.out, hR]
    have h2 : endS b q z = f0 := by rw [← HF0.out, HE0.out, h1]
    refine ⟨h2, fun h => ?_, fun h => ?_⟩
    · rw [← HL1.out, HL0.out, HF0.out, if_pos h, h1]
    · rw [← HL1.out, HL0.out, HF0.out, if_neg h]
  rw [HF0.out, HL1.out]
  have KB : Hid (∀ w1 w2 : World, w.heap.size ≤ w1.heap.size → Kp (fun k => k = w.heap.size) w1 w2 → Below w.heap.size w1 w2) := fun w1 w2 hs k => k.below (fun j hj => by omega) hs
  have R0 : Hid (Rd 81 w.heap.size b 0 0 [] (w.alloc (.cells #[.string b, .int .i64 0, .int .i64 0] 81))) := heap_alloc_new w _
  have B0 : Hid (Below w.heap.size w (w.alloc (.cells #[.string b, .int .i64 0, .int .i64 0] 81))) := (Below.refl _ _).alloc (Nat.le_refl _) _
  obtain ⟨W, HW⟩ : ∃ W, W = w.alloc (.cells #[.string b, .int .i64 0, .int .i64 0] 81) := ⟨_, rfl⟩
  rw [← HW] at R0 B0
  clear hk1 HU HU2 HU3 hm0 hm1 HE0 HL0 HF0 HL1
  go_enter Try.func15, Try.ntmps15
  go_upto_region 2 with fail
  rw [← HW]
  clear HW
  go_wp2_with (first | (go_at_call 38; refine (CM.out _ R0.out).mono ?_; rintro _ w1 ⟨rfl, r1, k1⟩; have R1 : Hid (Rd 81 w.heap.size b p1 e1 [] w1) := r1; have K1 : Hid (Below w.heap.size w w1) := B0.out.trans (KB.out _ _ B0.out.size k1); clear r1 k1) | (go_at_call 39; refine (CN.out _ R1.out).mono ?_; rintro _ w2 ⟨rfl, r2, k2⟩; have R2 : Hid (Rd 81 w.heap.size b p2 e2 [] w2) := r2; have K2 : Hid (Below w.heap.size w w2) := K1.out.trans (KB.out _ _ K1.out.size k2); clear r2 k2))
  go_loopw [6, 7] (fun v i wr => ∃ (k : Nat) (xs : List ByteArray) (q : Nat) (z : Int), k ≤ n ∧ i = .int .i64 k ∧ Hid (xs.length = k ∧ PI w.heap.size b n p2 e2 w.heap.size w v xs q z wr)) (fun _ i _ => (n - intOf i).toNat)
  case atStart => exact ⟨0, [], p2, e2, by omega, rfl, rfl, R2.out, hk2, K2.out, World.ownsRow_nil _ _ _ _, by simp, by simp⟩
  case round =>
    clear CM CN R1 K1 R2 K2 hk2 R0 B0
    obtain ⟨k, xs, q, z, hk, rfl, HHH⟩ := hrel
    have HK : Hid (xs.length = k) := HHH.out.1
    have HH0 : Hid (PI w.heap.size b n p2 e2 w.heap.size w _ xs q z wr) := HHH.out.2
    clear HHH
    obtain ⟨a, cc, hv⟩ := own_formS HH0.out.own
    subst hv
    rw [HK.out] at HH0 ⊢
    have HH : Hid (True ∧ PI w.heap.size b n p2 e2 w.heap.size w (.slice a k cc) xs q z wr) := ⟨trivial, HH0.out⟩
    clear HH0
    have c2 := HH.out.2.rd.e
    have hwr := HH.out.2.bl.size
    by_cases hlt : k < n
    · have hlt' : (k : Int) < n := by omega
      by_cases hz : z = 0
      · subst hz
        have CL : Hid (Calls _ _ _ _ _) := pNumber 81 w.heap.size b q 0 4096 121 [] wr HH.out.2.rd hb HH.out.2.ok (by decide) (by decide)
        obtain ⟨hk3, hl0, hl1⟩ := most_ok b 4096 121 q 0 HH.out.2.ok (by decide)
        obtain ⟨l, q3, z3, HL⟩ : ∃ l q3 z3, Hid (mostS b 4096 121 q 0 = (l, q3, z3)) := ⟨_, _, _, rfl⟩
        rw [HL.out] at CL hk3 hl0 hl1
        obtain ⟨c, hc⟩ : ∃ c : Nat, l = c := ⟨l.toNat, by simp at hl0; omega⟩
        subst hc
        have hc4 : c ≤ 4096 := by simp at hl1; omega
        have OK3 : Hid (Ok b q3 z3) := hk3
        clear hk3 hl0 hl1
        have CT : Hid (∀ W, Rd 81 w.heap.size b q3 z3 [] W → Calls _ _ _ _ _) := fun W h => pBytes 81 w.heap.size b q3 z3 [] c W h hb OK3.out (by omega)
        obtain ⟨x, q4, z4, HX⟩ : ∃ x q4 z4, Hid (takeS b c q3 z3 = (x, q4, z4)) := ⟨_, _, _, rfl⟩
        rw [HX.out] at CT
        have FK : Hid (∀ w4, Kp (fun k => k = w.heap.size) wr w4 → w4.ownsRow w.heap.size 9 1 (.slice a k cc) k (xs.map Value.string) ∧ w.heap.size ≤ w4.heap.size ∧ Below w.heap.size w w4) := fun w4 k4 => by
          have h3 := own_tag HH.out.2.own HH.out.2.rd (by decide) k4
          rw [HK.out] at h3
          have hsz := k4.size
          exact ⟨h3, by omega, HH.out.2.bl.trans (KB.out _ _ hwr k4)⟩
        go_wp2_with (first | (go_at_call 39; refine CL.out.mono ?_; rintro _ w3 ⟨rfl, r3, k3⟩; have R3 : Hid (Rd 81 w.heap.size b q3 z3 [] w3) := r3; have K3 : Hid (Kp (fun k => k = w.heap.size) wr w3) := k3; clear r3 k3) | (go_at_call 40; refine (CT.out _ R3.out).mono ?_; rintro _ w4 ⟨rfl, r4, k4⟩; have R4 : Hid (Rd 81 w.heap.size b q4 z4 [] w4) := r4; have F4 : Hid (_ ∧ _ ∧ _) := FK.out w4 (K3.out.trans k4); clear r4 k4) | (at_builtin; refine wpList_append_own _ rfl _ _ 27 rfl w.heap.size 9 i9 (.string ByteArray.empty) 1 16 Try.underlying27 HIN.out.1 HIN.out.2.1 HIN.out.2.2.1 HIN.out.2.2.2 rfl (by decide) _ k _ rfl (F4.out.1.alloc _) ⟨w4.heap.size, 0, none⟩ 1 1 [.string x] rfl rfl (new_text _ _ _) (one_text _) (by unfold maxLen; omega) (by omega) (by have := F4.out.2.1; simp; omega) ?_; intro v' w5 hown' hgrow5 hnil5; have O5 : Hid (w5.ownsRow w.heap.size 9 1 v' (k + 1) (xs.map Value.string ++ [.string x])) := hown'; have R5 : Hid (Rd 81 w.heap.size b q4 z4 [] w5) := (hgrow5.block w.heap.size (by have := Rd.lt R4.out; simp; omega) (own_ne F4.out.1 R4.out (by decide))).trans ((Below.heap_alloc _ _ _ (Rd.lt R4.out)).trans R4.out); have B5 : Hid (Below w.heap.size w w5) := F4.out.2.2.trans (Below.grown ((Below.refl _ _).alloc F4.out.2.1 _) hgrow5 (by have := F4.out.2.1; simp; omega) (fun j hj => (F4.out.1.lt _ hj).1)); clear hown' hgrow5 hnil5))
        go_roundw
        case rel =>
          refine ⟨k + 1, xs ++ [x], q4, z4, by omega, by go_num, by rw [List.length_append, HK.out]; rfl, R5.out, ?_, B5.out, ?_, by rw [List.length_append, HK.out]; simp; omega, ?_⟩
          · have := take_ok b c q3 z3 OK3.out
            rw [HX.out] at this
            exact this
          · rw [List.length_append, HK.out, List.map_append]
            exact O5.out
          · have h1 := HH.out.2.eq
            rw [HK.out, show n - k = (n - (k + 1)) + 1 by omega, leavesS_next b (n - (k + 1)) q 0 c q3 z3 HL.out] at h1
            have ec : ((c : Int)).toNat = c := by omega
            rw [ec, HX.out] at h1
            rw [h1, List.length_append, HK.out]
            simp
        case measure => simp [intOf]; omega
      · have hz' : (z == 0) = false := by rw [beq_eq_false_iff_ne]; exact hz
        have HE : Hid (R.2 = (q, z)) := by
          show _ = _
          rw [← HR.out, HH.out.2.eq]
          exact leavesS_not b _ q z hz
        have EC : Hid (Calls _ _ _ _ _) := pEnd 81 w.heap.size b q z [] wr HH.out.2.rd hb HH.out.2.ok
        have HZ : Hid (endS b q z = z) := by show _ = _; unfold endS; rw [refu_not z 111 hz]; split <;> rfl
        rw [HZ.out] at EC
        have hz2 : (z != 0) = true := by rw [bne_iff_ne]; exact hz
        have HB : Hid (Below w.heap.size w wr) := HH.out.2.bl
        have HQ : Hid (f0 = z ∧ L0 = []) := by
          have h1 := ENDS.out R.1 q z (by rw [← HE.out])
          have h2 : f0 = z := by rw [← h1.1, HZ.out]
          exact ⟨h2, h1.2.2 (by rw [h2]; exact hz)⟩
        have HZZ : Hid (z ≠ 0) := hz
        clear hz HH
        go_wp2_with (go_at_call 41; refine EC.out.mono ?_; rintro _ w6 ⟨rfl, r6, k6⟩; have K6 : Hid (Below w.heap.size w w6) := HB.out.trans (KB.out _ _ hwr k6); clear r6 k6)
        go_ret2
        rw [HQ.out.1, HQ.out.2]
        exact ⟨⟨_, rfl, World.ownsRow_nil _ _ _ _⟩, K6.out⟩
    · have hlt' : ¬ (k : Int) < n := by omega
      have HE : Hid (R = (xs, q, z)) := by
        have h1 := HH.out.2.eq
        rw [HK.out, show n - k = 0 by omega] at h1
        show _ = _
        rw [← HR.out, h1]
        simp [leavesS]
      have EC : Hid (Calls _ _ _ _ _) := pEnd 81 w.heap.size b q z [] wr HH.out.2.rd hb HH.out.2.ok
      have HQ : Hid (_ ∧ _ ∧ _) := ENDS.out xs q z HE.out
      rw [HQ.out.1] at EC
      have HQ2 : Hid ((f0 = 0 → L0 = xs) ∧ (f0 ≠ 0 → L0 = [])) := HQ.out.2
      clear HQ
      have HO : Hid (wr.ownsRow w.heap.size 9 1 (.slice a k cc) xs.length (xs.map Value.string) ∧ Rd 81 w.heap.size b q z [] wr ∧ Below w.heap.size w wr) := ⟨HH.out.2.own, HH.out.2.rd, HH.out.2.bl⟩
      clear HH
      by_cases hf : f0 = 0
      · have HX1 : Hid (L0 = xs) := HQ2.out.1 hf
        clear HQ2
        subst hf
        go_wp2_with (go_at_call 41; refine EC.out.mono ?_; rintro _ w6 ⟨rfl, r6, k6⟩; have K6 : Hid (Below w.heap.size w w6 ∧ w6.ownsRow w.heap.size 9 1 (.slice a k cc) xs.length (xs.map Value.string)) := ⟨HO.out.2.2.trans (KB.out _ _ hwr k6), own_tag HO.out.1 HO.out.2.1 (by decide) k6⟩; clear r6 k6)
        go_ret2
        rw [HX1.out]
        exact ⟨⟨_, rfl, K6.out.2⟩, K6.out.1⟩
      · have hf' : (f0 != 0) = true := by rw [bne_iff_ne]; exact hf
        have HFF : Hid (f0 ≠ 0) := hf
        clear hf
        go_wp2_with (go_at_call 41; refine EC.out.mono ?_; rintro _ w6 ⟨rfl, r6, k6⟩; have K6 : Hid (Below w.heap.size w w6) := HO.out.2.2.trans (KB.out _ _ hwr k6); clear r6 k6)
        go_ret2
        rw [HQ2.out.2 HFF.out]
        exact ⟨⟨_, rfl, World.ownsRow_nil _ _ _ _⟩, K6.out⟩
end Go.Proofs.Ytkgadgkomdjplaa.fd
