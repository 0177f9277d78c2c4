import Derived.Test.YthpfgdhmpeadeaaG4
import Derived.Test.YthpfgdhmpeadeaaG7
import Derived.Test.YthpfgdhmpeadeaaJ0
import Derived.Test.YthpfgdhmpeadeaaG1
import Derived.Deep.AppendLies
import Derived.Laws.AppendOwnNone
import Derived.Lib.SliceRun
import Derived.BigQuiet
import Derived.RowKit3
import Derived.Handy
import Derived.Deep.DeepCutAuto
namespace Go.Proofs.Ythpfgdhmpeadeaa.ei
open Go.RowKit Go.PlainAid Go.Shelf
open Go.Proofs.Ythpfgdhmpeadeaa.ca Go.Proofs.Ythpfgdhmpeadeaa.cb Go.Proofs.Ythpfgdhmpeadeaa.cp Go.Proofs.Ythpfgdhmpeadeaa.ga Go.Proofs.Ythpfgdhmpeadeaa.kp Go.Proofs.Ythpfgdhmpeadeaa.na Go.Proofs.Ythpfgdhmpeadeaa.nb Go.Proofs.Ythpfgdhmpeadeaa.nc Go.Proofs.Ythpfgdhmpeadeaa.ea Go.Proofs.Ythpfgdhmpeadeaa.eb Go.Proofs.Ythpfgdhmpeadeaa.ec Go.Proofs.Ythpfgdhmpeadeaa.ed Go.Proofs.Ythpfgdhmpeadeaa.ee Go.Proofs.Ythpfgdhmpeadeaa.ef Go.Proofs.Ythpfgdhmpeadeaa.eg Go.Proofs.Ythpfgdhmpeadeaa.eh Go.Proofs.Ythpfgdhmpeadeaa.ka Go.Proofs.Ythpfgdhmpeadeaa.bn
set_option linter.unusedVariables false

theorem un_ok (b : ByteArray) : Ok b (unLeavesS b).2.1 (unLeavesS b).2.2 := by
  have hk0 : Ok b 0 0 := ⟨Nat.zero_le _, by decide, by decide⟩
  exact (leaves_ok b _ _ _ (most_ok b 1024 83 _ _ (mark_ok b 76 0 0 hk0) (by decide)).1).1
set_option maxHeartbeats 1600000 in
theorem unLeavesC (b : ByteArray) (w : World) (hb : b.size ≤ 140737488355328) :
    Calls Try.prog 19 #[.string b] w fun e w' => (∃ v, e = .returned (.tuple #[v, .int .i64 (unLeavesE b)]) ∧ w'.ownsRow w.heap.size 9 1 v (unLeavesL b).length ((unLeavesL b).map Value.string)) ∧ Below w.heap.size w w' := by
  have LR : Hid (∀ W, Rd 90 w.heap.size b 0 0 [.slice none 0 0] W → Calls _ _ _ _ _) := fun W h => lreadC w.heap.size b w.heap.size W h hb (Nat.le_refl _)
  have EC : Hid (∀ v W, _ → Calls _ _ _ _ _) := fun v W h => endC 90 w.heap.size b (unLeavesS b).2.1 (unLeavesS b).2.2 [v] W h hb (un_ok b)
  have HE : Hid (endS b (unLeavesS b).2.1 (unLeavesS b).2.2 = unLeavesE b) := rfl
  have HL : Hid (unLeavesL b = if unLeavesE b = 0 then (unLeavesS b).1 else []) := rfl
  rw [HL.out]
  rw [HE.out] at EC
  obtain ⟨z, HZ⟩ : ∃ z, Hid (unLeavesE b = z) := ⟨_, rfl⟩
  obtain ⟨xs, q, z0, HX⟩ : ∃ xs q z0, Hid (unLeavesS b = (xs, q, z0)) := ⟨_, _, _, rfl⟩
  rw [HZ.out] at EC ⊢
  rw [HX.out] at LR EC ⊢
  have R0 : Hid (Rd 90 w.heap.size b 0 0 [.slice none 0 0] (w.alloc (.cells #[.string b, .int .i64 0, .int .i64 0, .slice none 0 0] 90))) := heap_alloc_new w _
  have B0 : Hid (Below w.heap.size w (w.alloc (.cells #[.string b, .int .i64 0, .int .i64 0, .slice none 0 0] 90))) := (Below.refl _ _).alloc (Nat.le_refl _) _
  have KB : Hid (∀ w1 w2 : World, w.heap.size ≤ w1.heap.size → Kp (fun k => k = w.heap.size) w1 w2 → Below w.heap.size w1 w2) := fun w1 w2 hs k => k.below (fun j hj => by omega) hs
  obtain ⟨W, HW⟩ : ∃ W, W = w.alloc (.cells #[.string b, .int .i64 0, .int .i64 0, .slice none 0 0] 90) := ⟨_, rfl⟩
  rw [← HW] at R0 B0
  by_cases hz : z = 0
  · subst hz
    rw [if_pos rfl]
    go_enter Try.func19, Try.ntmps19
    go_upto_region 2 with fail
    rw [← HW]
    clear HW
    go_wp2_with (first | (go_at_call 50; refine (LR.out _ R0.out).mono ?_; rintro _ w1 ⟨rfl, ⟨v, r1, o1⟩, k1⟩; have R1 : Hid (Rd 90 w.heap.size b q z0 [v] w1) := r1; have O1 : Hid (w1.ownsRow w.heap.size 9 1 v xs.length (xs.map Value.string)) := o1; have K1 : Hid (Below w.heap.size w w1) := B0.out.trans k1; clear r1 o1 k1) | (go_at_call 49; refine (EC.out v _ R1.out).mono ?_; rintro _ w2 ⟨rfl, r2, k2⟩; have d2 := rd1 r2; have O2 : Hid (w2.ownsRow w.heap.size 9 1 v xs.length (xs.map Value.string)) := own_tag O1.out R1.out (by decide) k2; have K2 : Hid (Below w.heap.size w w2) := K1.out.trans (KB.out _ _ K1.out.size k2); clear r2 k2))
    go_ret2
    exact ⟨⟨_, rfl, O2.out⟩, K2.out⟩
  · have hz' : (z != 0) = true := by rw [bne_iff_ne]; exact hz
    rw [if_neg hz]
    clear hz
    go_enter Try.func19, Try.ntmps19
    go_upto_region 2 with fail
    rw [← HW]
    clear HW
    go_wp2_with (first | (go_at_call 50; refine (LR.out _ R0.out).mono ?_; rintro _ w1 ⟨rfl, ⟨v, r1, o1⟩, k1⟩; have R1 : Hid (Rd 90 w.heap.size b q z0 [v] w1) := r1; have K1 : Hid (Below w.heap.size w w1) := B0.out.trans k1; clear r1 o1 k1) | (go_at_call 49; refine (EC.out v _ R1.out).mono ?_; rintro _ w2 ⟨rfl, r2, k2⟩; have K2 : Hid (Below w.heap.size w w2) := K1.out.trans (KB.out _ _ K1.out.size k2); clear r2 k2))
    go_ret2
    exact ⟨⟨_, rfl, World.ownsRow_nil _ _ _ _⟩, K2.out⟩
end Go.Proofs.Ythpfgdhmpeadeaa.ei

namespace Go.Proofs.Ythpfgdhmpeadeaa.fd
open Go.RowKit Go.PlainAid
open Go.Proofs.Ythpfgdhmpeadeaa.ca Go.Proofs.Ythpfgdhmpeadeaa.cb Go.Proofs.Ythpfgdhmpeadeaa.cp Go.Proofs.Ythpfgdhmpeadeaa.ga Go.Proofs.Ythpfgdhmpeadeaa.kp Go.Proofs.Ythpfgdhmpeadeaa.na Go.Proofs.Ythpfgdhmpeadeaa.nb Go.Proofs.Ythpfgdhmpeadeaa.nc Go.Proofs.Ythpfgdhmpeadeaa.nf Go.Proofs.Ythpfgdhmpeadeaa.ng Go.Proofs.Ythpfgdhmpeadeaa.nh Go.Proofs.Ythpfgdhmpeadeaa.nj Go.Proofs.Ythpfgdhmpeadeaa.ea Go.Proofs.Ythpfgdhmpeadeaa.eb Go.Proofs.Ythpfgdhmpeadeaa.ec Go.Proofs.Ythpfgdhmpeadeaa.ed Go.Proofs.Ythpfgdhmpeadeaa.ee Go.Proofs.Ythpfgdhmpeadeaa.ef Go.Proofs.Ythpfgdhmpeadeaa.eg Go.Proofs.Ythpfgdhmpeadeaa.eh Go.Proofs.Ythpfgdhmpeadeaa.ei Go.Proofs.Ythpfgdhmpeadeaa.ka Go.Proofs.Ythpfgdhmpeadeaa.bn Go.Proofs.Ythpfgdhmpeadeaa.fa Go.Proofs.Ythpfgdhmpeadeaa.fb Go.Proofs.Ythpfgdhmpeadeaa.fc
set_option linter.unusedVariables false

-- the document's list of leaves, read
structure PI (g : Nat) (b : ByteArray) (n p : Nat) (e : Int) (B : Nat) (w : World) (v : Value) (xs : List ByteArray) (q : Nat) (z : Int) (wr : World) : Prop where
  rd : Rd 78 g b q z [] wr
  ok : Ok b q z
  bl : Below B w wr
  own : wr.ownsRow B 9 1 v xs.length (xs.map Value.string)
  len : xs.length ≤ n
  eq : leavesS b n p e = (xs ++ (leavesS b (n - xs.length) q z).1, (leavesS b (n - xs.length) q z).2)
set_option maxHeartbeats 3200000 in
theorem rUnLeaves (b : ByteArray) (w : World) (hb : b.size ≤ 140737488355328) :
    Calls Try.prog 17 #[.string b] w fun e w' => (∃ v, e = .returned (.tuple #[v, .int .i64 (unLeavesE b)]) ∧ w'.ownsRow w.heap.size 9 1 v (unLeavesL b).length ((unLeavesL b).map Value.string)) ∧ Below w.heap.size w w' := by
  obtain ⟨i9, hi, hz0, hz1, hz2⟩ := info_parts hi9
  have HIN : Hid (_ ∧ _ ∧ _ ∧ _) := ⟨hi, hz0, hz1, hz2⟩
  clear hi hz0 hz1 hz2
  have hk0 : Ok b 0 0 := ⟨Nat.zero_le _, by decide, by decide⟩
  have CM : Hid (∀ W, Rd 78 w.heap.size b 0 0 [] W → Calls _ _ _ _ _) := fun W h => pLetter 78 w.heap.size b 0 0 76 [] W h hb hk0 (by decide) (by decide)
  have hk1 := mark_ok b 76 0 0 hk0
  have HU : Hid (unLeavesS b = leavesS b (mostS b 1024 83 (markS b 76 0 0).1 (markS b 76 0 0).2).1.toNat (mostS b 1024 83 (markS b 76 0 0).1 (markS b 76 0 0).2).2.1 (mostS b 1024 83 (markS b 76 0 0).1 (markS b 76 0 0).2).2.2) := rfl
  obtain ⟨p1, e1, HM⟩ : ∃ p1 e1, Hid (markS b 76 0 0 = (p1, e1)) := ⟨_, _, rfl⟩
  rw [HM.out] at CM HU hk1
  have CN : Hid (∀ w', Rd 78 w.heap.size b p1 e1 [] w' → Calls _ _ _ _ _) := fun w' h => pNumber 78 w.heap.size b p1 e1 1024 83 [] w' h hb hk1 (by decide) (by decide)
  obtain ⟨hk2, hm0, hm1⟩ := most_ok b 1024 83 p1 e1 hk1 (by decide)
  obtain ⟨m, p2, e2, HN⟩ : ∃ m p2 e2, Hid (mostS b 1024 83 p1 e1 = (m, p2, e2)) := ⟨_, _, _, rfl⟩
  have HU2 : Hid (unLeavesS b = leavesS b (mostS b 1024 83 p1 e1).1.toNat (mostS b 1024 83 p1 e1).2.1 (mostS b 1024 83 p1 e1).2.2) := HU.out
  rw [HN.out] at CN HU2 hk2 hm0 hm1
  obtain ⟨n, hn⟩ : ∃ n : Nat, m = n := ⟨m.toNat, by simp at hm0; omega⟩
  subst hn
  have hn1 : n ≤ 1024 := by simp at hm1; omega
  have HU3 : Hid (unLeavesS b = leavesS b n p2 e2) := HU2.out
  have HE0 : Hid (unLeavesE b = endS b (unLeavesS b).2.1 (unLeavesS b).2.2) := rfl
  have HL0 : Hid (unLeavesL b = if unLeavesE b = 0 then (unLeavesS b).1 else []) := rfl
  obtain ⟨R, HR⟩ : ∃ R, Hid (leavesS b n p2 e2 = R) := ⟨_, rfl⟩
  obtain ⟨f0, HF0⟩ : ∃ f0, Hid (unLeavesE b = f0) := ⟨_, rfl⟩
  obtain ⟨L0, HL1⟩ : ∃ L0, Hid (unLeavesL b = L0) := ⟨_, rfl⟩
  have ENDS : Hid (∀ xs q z, R = (xs, q, z) → endS b q z = f0 ∧ (f0 = 0 → L0 = xs) ∧ (f0 ≠ 0 → L0 = [])) := by
    intro xs q z hR
    have h1 : unLeavesS b = (xs, q, z) := by rw [HU3.out, HR.out, hR]
    have h2 : endS b q z = f0 := by rw [← HF0.out, HE0.out, h1]
    refine ⟨h2, fun h => ?_, fun h => ?_⟩
    · rw [← HL1.out, HL0.out, HF0.out, if_pos h, h1]
    · rw [← HL1.out, HL0.out, HF0.out, if_neg h]
  rw [HF0.out, HL1.out]
  have KB : Hid (∀ w1 w2 : World, w.heap.size ≤ w1.heap.size → Kp (fun k => k = w.heap.size) w1 w2 → Below w.heap.size w1 w2) := fun w1 w2 hs k => k.below (fun j hj => by omega) hs
  have R0 : Hid (Rd 78 w.heap.size b 0 0 [] (w.alloc (.cells #[.string b, .int .i64 0, .int .i64 0] 78))) := heap_alloc_new w _
  have B0 : Hid (Below w.heap.size w (w.alloc (.cells #[.string b, .int .i64 0, .int .i64 0] 78))) := (Below.refl _ _).alloc (Nat.le_refl _) _
  obtain ⟨W, HW⟩ : ∃ W, W = w.alloc (.cells #[.string b, .int .i64 0, .int .i64 0] 78) := ⟨_, rfl⟩
  rw [← HW] at R0 B0
  clear hk1 HU HU2 HU3 hm0 hm1 HE0 HL0 HF0 HL1
  go_enter Try.func17, Try.ntmps17
  go_upto_region 2 with fail
  rw [← HW]
  clear HW
  go_wp2_with (first | (go_at_call 40; refine (CM.out _ R0.out).mono ?_; rintro _ w1 ⟨rfl, r1, k1⟩; have R1 : Hid (Rd 78 w.heap.size b p1 e1 [] w1) := r1; have K1 : Hid (Below w.heap.size w w1) := B0.out.trans (KB.out _ _ B0.out.size k1); clear r1 k1) | (go_at_call 42; refine (CN.out _ R1.out).mono ?_; rintro _ w2 ⟨rfl, r2, k2⟩; have R2 : Hid (Rd 78 w.heap.size b p2 e2 [] w2) := r2; have K2 : Hid (Below w.heap.size w w2) := K1.out.trans (KB.out _ _ K1.out.size k2); clear r2 k2))
  go_loopw [6, 7] (fun v i wr => ∃ (k : Nat) (xs : List ByteArray) (q : Nat) (z : Int), k ≤ n ∧ i = .int .i64 k ∧ Hid (xs.length = k ∧ PI w.heap.size b n p2 e2 w.heap.size w v xs q z wr)) (fun _ i _ => (n - intOf i).toNat)
  case atStart => exact ⟨0, [], p2, e2, by omega, rfl, rfl, R2.out, hk2, K2.out, World.ownsRow_nil _ _ _ _, by simp, by simp⟩
  case round =>
    clear CM CN R1 K1 R2 K2 hk2 R0 B0
    obtain ⟨k, xs, q, z, hk, rfl, HHH⟩ := hrel
    have HK : Hid (xs.length = k) := HHH.out.1
    have HH0 : Hid (PI w.heap.size b n p2 e2 w.heap.size w _ xs q z wr) := HHH.out.2
    clear HHH
    obtain ⟨a, cc, hv⟩ := own_formS HH0.out.own
    subst hv
    rw [HK.out] at HH0 ⊢
    have HH : Hid (True ∧ PI w.heap.size b n p2 e2 w.heap.size w (.slice a k cc) xs q z wr) := ⟨trivial, HH0.out⟩
    clear HH0
    have c2 := HH.out.2.rd.e
    have hwr := HH.out.2.bl.size
    by_cases hlt : k < n
    · have hlt' : (k : Int) < n := by omega
      by_cases hz : z = 0
      · subst hz
        have CL : Hid (Calls _ _ _ _ _) := pNumber 78 w.heap.size b q 0 4096 121 [] wr HH.out.2.rd hb HH.out.2.ok (by decide) (by decide)
        obtain ⟨hk3, hl0, hl1⟩ := most_ok b 4096 121 q 0 HH.out.2.ok (by decide)
        obtain ⟨l, q3, z3, HL⟩ : ∃ l q3 z3, Hid (mostS b 4096 121 q 0 = (l, q3, z3)) := ⟨_, _, _, rfl⟩
        rw [HL.out] at CL hk3 hl0 hl1
        obtain ⟨c, hc⟩ : ∃ c : Nat, l = c := ⟨l.toNat, by simp at hl0; omega⟩
        subst hc
        have hc4 : c ≤ 4096 := by simp at hl1; omega
        have OK3 : Hid (Ok b q3 z3) := hk3
        clear hk3 hl0 hl1
        have CT : Hid (∀ W, Rd 78 w.heap.size b q3 z3 [] W → Calls _ _ _ _ _) := fun W h => pBytes 78 w.heap.size b q3 z3 [] c W h hb OK3.out (by omega)
        obtain ⟨x, q4, z4, HX⟩ : ∃ x q4 z4, Hid (takeS b c q3 z3 = (x, q4, z4)) := ⟨_, _, _, rfl⟩
        rw [HX.out] at CT
        have FK : Hid (∀ w4, Kp (fun k => k = w.heap.size) wr w4 → w4.ownsRow w.heap.size 9 1 (.slice a k cc) k (xs.map Value.string) ∧ w.heap.size ≤ w4.heap.size ∧ Below w.heap.size w w4) := fun w4 k4 => by
          have h3 := own_tag HH.out.2.own HH.out.2.rd (by decide) k4
          rw [HK.out] at h3
          have hsz := k4.size
          exact ⟨h3, by omega, HH.out.2.bl.trans (KB.out _ _ hwr k4)⟩
        go_wp2_with (first | (go_at_call 42; refine CL.out.mono ?_; rintro _ w3 ⟨rfl, r3, k3⟩; have R3 : Hid (Rd 78 w.heap.size b q3 z3 [] w3) := r3; have K3 : Hid (Kp (fun k => k = w.heap.size) wr w3) := k3; clear r3 k3) | (go_at_call 47; refine (CT.out _ R3.out).mono ?_; rintro _ w4 ⟨rfl, r4, k4⟩; have R4 : Hid (Rd 78 w.heap.size b q4 z4 [] w4) := r4; have F4 : Hid (_ ∧ _ ∧ _) := FK.out w4 (K3.out.trans k4); clear r4 k4) | (at_builtin; refine wpList_append_own _ rfl _ _ 23 rfl w.heap.size 9 i9 (.string ByteArray.empty) 1 16 Try.underlying23 HIN.out.1 HIN.out.2.1 HIN.out.2.2.1 HIN.out.2.2.2 rfl (by decide) _ k _ rfl (F4.out.1.alloc _) ⟨w4.heap.size, 0, none⟩ 1 1 [.string x] rfl rfl (new_text _ _ _) (one_text _) (by unfold maxLen; omega) (by omega) (by have := F4.out.2.1; simp; omega) ?_; intro v' w5 hown' hgrow5 hnil5; have O5 : Hid (w5.ownsRow w.heap.size 9 1 v' (k + 1) (xs.map Value.string ++ [.string x])) := hown'; have R5 : Hid (Rd 78 w.heap.size b q4 z4 [] w5) := (hgrow5.block w.heap.size (by have := Rd.lt R4.out; simp; omega) (own_ne F4.out.1 R4.out (by decide))).trans ((Below.heap_alloc _ _ _ (Rd.lt R4.out)).trans R4.out); have B5 : Hid (Below w.heap.size w w5) := F4.out.2.2.trans (Below.grown ((Below.refl _ _).alloc F4.out.2.1 _) hgrow5 (by have := F4.out.2.1; simp; omega) (fun j hj => (F4.out.1.lt _ hj).1)); clear hown' hgrow5 hnil5))
        go_roundw
        case rel =>
          refine ⟨k + 1, xs ++ [x], q4, z4, by omega, by go_num, by rw [List.length_append, HK.out]; rfl, R5.out, ?_, B5.out, ?_, by rw [List.length_append, HK.out]; simp; omega, ?_⟩
          · have := take_ok b c q3 z3 OK3.out
            rw [HX.out] at this
            exact this
          · rw [List.length_append, HK.out, List.map_append]
            exact O5.out
          · have h1 := HH.out.2.eq
            rw [HK.out, show n - k = (n - (k + 1)) + 1 by omega, leavesS_next b (n - (k + 1)) q 0 c q3 z3 HL.out] at h1
            have ec : ((c : Int)).toNat = c := by omega
            rw [ec, HX.out] at h1
            rw [h1, List.length_append, HK.out]
            simp
        case measure => simp [intOf]; omega
      · have hz' : (z == 0) = false := by rw [beq_eq_false_iff_ne]; exact hz
        have HE : Hid (R.2 = (q, z)) := by
          show _ = _
          rw [← HR.out, HH.out.2.eq]
          exact leavesS_not b _ q z hz
        have EC : Hid (Calls _ _ _ _ _) := pEnd 78 w.heap.size b q z [] wr HH.out.2.rd hb HH.out.2.ok
        have HZ : Hid (endS b q z = z) := by show _ = _; unfold endS; rw [refu_not z 111 hz]; split <;> rfl
        rw [HZ.out] at EC
        have hz2 : (z != 0) = true := by rw [bne_iff_ne]; exact hz
        have HB : Hid (Below w.heap.size w wr) := HH.out.2.bl
        have HQ : Hid (f0 = z ∧ L0 = []) := by
          have h1 := ENDS.out R.1 q z (by rw [← HE.out])
          have h2 : f0 = z := by rw [← h1.1, HZ.out]
          exact ⟨h2, h1.2.2 (by rw [h2]; exact hz)⟩
        have HZZ : Hid (z ≠ 0) := hz
        clear hz HH
        go_wp2_with (go_at_call 46; refine EC.out.mono ?_; rintro _ w6 ⟨rfl, r6, k6⟩; have K6 : Hid (Below w.heap.size w w6) := HB.out.trans (KB.out _ _ hwr k6); clear r6 k6)
        go_ret2
        rw [HQ.out.1, HQ.out.2]
        exact ⟨⟨_, rfl, World.ownsRow_nil _ _ _ _⟩, K6.out⟩
    · have hlt' : ¬ (k : Int) < n := by omega
      have HE : Hid (R = (xs, q, z)) := by
        have h1 := HH.out.2.eq
        rw [HK.out, show n - k = 0 by omega] at h1
        show _ = _
        rw [← HR.out, h1]
        simp [leavesS]
      have EC : Hid (Calls _ _ _ _ _) := pEnd 78 w.heap.size b q z [] wr HH.out.2.rd hb HH.out.2.ok
      have HQ : Hid (_ ∧ _ ∧ _) := ENDS.out xs q z HE.out
      rw [HQ.out.1] at EC
      have HQ2 : Hid ((f0 = 0 → L0 = xs) ∧ (f0 ≠ 0 → L0 = [])) := HQ.out.2
      clear HQ
      have HO : Hid (wr.ownsRow w.heap.size 9 1 (.slice a k cc) xs.length (xs.map Value.string) ∧ Rd 78 w.heap.size b q z [] wr ∧ Below w.heap.size w wr) := ⟨HH.out.2.own, HH.out.2.rd, HH.out.2.bl⟩
      clear HH
      by_cases hf : f0 = 0
      · have HX1 : Hid (L0 = xs) := HQ2.out.1 hf
        clear HQ2
        subst hf
        go_wp2_with (go_at_call 46; refine EC.out.mono ?_; rintro _ w6 ⟨rfl, r6, k6⟩; have K6 : Hid (Below w.heap.size w w6 ∧ w6.ownsRow w.heap.size 9 1 (.slice a k cc) xs.length (xs.map Value.string)) := ⟨HO.out.2.2.trans (KB.out _ _ hwr k6), own_tag HO.out.1 HO.out.2.1 (by decide) k6⟩; clear r6 k6)
        go_ret2
        rw [HX1.out]
        exact ⟨⟨_, rfl, K6.out.2⟩, K6.out.1⟩
      · have hf' : (f0 != 0) = true := by rw [bne_iff_ne]; exact hf
        have HFF : Hid (f0 ≠ 0) := hf
        clear hf
        go_wp2_with (go_at_call 46; refine EC.out.mono ?_; rintro _ w6 ⟨rfl, r6, k6⟩; have K6 : Hid (Below w.heap.size w w6) := HO.out.2.2.trans (KB.out _ _ hwr k6); clear r6 k6)
        go_ret2
        rw [HQ2.out.2 HFF.out]
        exact ⟨⟨_, rfl, World.ownsRow_nil _ _ _ _⟩, K6.out⟩
end Go.Proofs.Ythpfgdhmpeadeaa.fd

namespace Go.Proofs.Ythpfgdhmpeadeaa.fe
open Go.RowKit Go.PlainAid
open Go.Proofs.Ythpfgdhmpeadeaa.ca Go.Proofs.Ythpfgdhmpeadeaa.cb Go.Proofs.Ythpfgdhmpeadeaa.cp Go.Proofs.Ythpfgdhmpeadeaa.ga Go.Proofs.Ythpfgdhmpeadeaa.kp Go.Proofs.Ythpfgdhmpeadeaa.na Go.Proofs.Ythpfgdhmpeadeaa.nb Go.Proofs.Ythpfgdhmpeadeaa.nc Go.Proofs.Ythpfgdhmpeadeaa.nh Go.Proofs.Ythpfgdhmpeadeaa.nj Go.Proofs.Ythpfgdhmpeadeaa.ea Go.Proofs.Ythpfgdhmpeadeaa.eb Go.Proofs.Ythpfgdhmpeadeaa.ec Go.Proofs.Ythpfgdhmpeadeaa.ed Go.Proofs.Ythpfgdhmpeadeaa.ee Go.Proofs.Ythpfgdhmpeadeaa.ef Go.Proofs.Ythpfgdhmpeadeaa.eg Go.Proofs.Ythpfgdhmpeadeaa.eh Go.Proofs.Ythpfgdhmpeadeaa.ei Go.Proofs.Ythpfgdhmpeadeaa.ka Go.Proofs.Ythpfgdhmpeadeaa.bn
set_option linter.unusedVariables false

theorem rNumberC (n : Int) (w : World) (h0 : 0 ≤ n) (h1 : n ≤ 9223372036854775807) : Calls Try.prog 32 #[.int .i64 n] w fun e w' => e = .returned (.string (putB n)) ∧ Below w.heap.size w w' := by
  have hw : Wants n (mOf n) := wants_len n h0 (by omega)
  have CP : Hid (Calls _ _ _ _ _) := rpv_any n (mOf n) w h0 (by omega) hw.1 hw.2.1 hw
  have HP : Hid (putB n = str (putL n (mOf n))) := rfl
  rw [← HP.out] at CP
  have hu : IntKind.u64.wrap n = n := u64_nonneg h0 (by omega)
  clear hw
  go_enter Try.func32, Try.ntmps32
  go_wp2_with (go_at_call 62; refine CP.out.mono ?_; rintro _ w1 ⟨rfl, k1⟩; have K1 : Hid (Below w.heap.size w w1) := k1; clear k1)
  go_ret
  exact ⟨rfl, K1.out⟩
-- bytes of the call's own
def OB (w : World) (B : Nat) (v : Value) (l : List UInt8) : Prop := w.ownsRow B 5 1 v l.length (Lib.byteCells l)
theorem OB.later {w w' : World} {B : Nat} {v : Value} {l : List UInt8} (h : OB w B v l) (k : Below w.heap.size w w') : OB w' B v l := own_kp h (A := fun _ => False) (Kp.of_below k) (fun _ e => e.elim)
theorem OB.str {B : Nat} {l : List UInt8} {q : ByteArray} {v' : Value} {w' : World} (h : w'.ownsRow B 5 1 v' (l.length + q.size) (Lib.byteCells l ++ cellsS q)) : OB w' B v' (l ++ q.data.toList) := by
  unfold OB
  rw [Lib.byteCells_append, List.length_append, size_data]
  exact h
end Go.Proofs.Ythpfgdhmpeadeaa.fe

namespace Go.Proofs.Ythpfgdhmpeadeaa.lg
open Go.RowKit Go.PlainAid
open Go.Proofs.Ythpfgdhmpeadeaa.ca Go.Proofs.Ythpfgdhmpeadeaa.cp Go.Proofs.Ythpfgdhmpeadeaa.ka
set_option linter.unusedVariables false

theorem info_parts {t : TypeId} {z : Value} {n b : Nat} (h : (Try.prog.info? t).map (fun i => (i.zero, i.size, i.bytes)) = some (some z, n, b)) : ∃ i, Try.prog.info? t = some i ∧ i.zero = some z ∧ i.size = n ∧ i.bytes = b := by
  obtain ⟨i, hi, he⟩ := Option.map_eq_some_iff.1 h
  injection he with e1 e2
  injection e2 with e2 e3
  exact ⟨i, hi, e1, e2, e3⟩
theorem hiE : (Try.prog.info? 9).map (fun i => (i.zero, i.size, i.bytes)) = some (some (.string ByteArray.empty), 1, 16) := by kernel_rfl
theorem own_form {w : World} {B e s n : Nat} {v : Value} {xs : List Value} (h : w.ownsRow B e s v n xs) : ∃ a c, v = .slice a n c := by
  rcases h.2 with ⟨h, h2⟩ | ⟨g, cap, cur, h, _⟩
  · exact ⟨none, 0, by rw [h, h2]⟩
  · exact ⟨_, _, h⟩
theorem ones (hs : List ByteArray) : ∀ u ∈ hs.map (Value.string), u.oneCell' = true := by
  intro u hu
  obtain ⟨x, _, rfl⟩ := List.mem_map.1 hu
  rfl
theorem new_one (W : World) (u : Value) (t : TypeId) : ∀ (j : Nat) (x : Value), [u][j]? = some x → (W.alloc (.cells #[u] t)).cell? (Addr.add ⟨W.heap.size, 0, none⟩ j) = some x := by
  intro j x hx
  rw [show (Addr.add ⟨W.heap.size, 0, none⟩ j) = ⟨W.heap.size, j, none⟩ by cases j <;> simp [Addr.add], World.cell?_alloc_at _ _ _ _ rfl]
  simpa using hx
-- a list's twin, with a mark behind it
def Tw (w : World) (B g n cp : Nat) (xs : List ByteArray) : Prop := w.ownsRow B 9 1 (.slice (some ⟨g, 0, none⟩) (n + 1) cp) (n + 1) (xs.map (Value.string) ++ [(Value.string ⟨#[98, 101, 104, 105, 110, 100]⟩)])
theorem Tw.later {w w' : World} {B g n cp : Nat} {xs : List ByteArray} (h : Tw w B g n cp xs) (hb : Below w.heap.size w w') : Tw w' B g n cp xs := own_later h hb
theorem Tw.cell {w : World} {B g n cp : Nat} {xs : List ByteArray} (h : Tw w B g n cp xs) (hn : xs.length = n) : (∀ i, i < n → w.cell? ⟨g, i, none⟩ = some (Value.string (xs.getD i ByteArray.empty))) ∧ w.cell? ⟨g, n, none⟩ = some (Value.string ⟨#[98, 101, 104, 105, 110, 100]⟩) ∧ n + 1 ≤ cp := by
  refine ⟨fun i hi => ?_, ?_, ?_⟩
  · rw [h.cellAt i (by omega), List.getElem?_append_left (by rw [List.length_map]; omega), List.getElem?_map, List.getElem?_eq_getElem (by omega), List.getD_eq_getElem?_getD, List.getElem?_eq_getElem (by omega)]
    rfl
  · rw [h.cellAt n (by omega), List.getElem?_append_right (by rw [List.length_map]; omega), List.length_map, hn, Nat.sub_self]
    rfl
  · rcases h.2 with ⟨e, _⟩ | ⟨g', cap', cur, e, _, _, hc, _⟩
    · cases e
    · injection e with _ _ e3; omega
theorem Tw.reads {w : World} {B g n cp : Nat} {xs : List ByteArray} (h : Tw w B g n cp xs) (hn : xs.length = n) : ReadsT w (.slice (some ⟨g, 0, none⟩) n cp) xs := by
  obtain ⟨h1, h2, h3⟩ := h.cell hn
  refine ⟨_, cp, by rw [hn], by omega, .inr ⟨g, 0, rfl, fun i hi => ?_⟩⟩
  rw [Nat.zero_add]
  exact h1 i (by omega)
set_option maxRecDepth 100000 in
set_option maxHeartbeats 1600000 in
theorem twinC (u : Value) (hs : List ByteArray) (w : World) (hR : ReadsT w u hs) (hno : ∀ k c, u = .slice none k c → c = 0) (hz : hs.length * 16 ≤ 140737488351232) :
    Calls Try.prog 6 #[u] w fun e w' => (∃ g cp, e = .returned (.slice (some ⟨g, 0, none⟩) (hs.length + 1) cp) ∧ Tw w' w.heap.size g hs.length cp hs) ∧ Below w.heap.size w w' := by
  obtain ⟨i9, hi, hz0, hz1, hz2⟩ := info_parts hiE
  have HIN : Hid (_ ∧ _ ∧ _ ∧ _) := ⟨hi, hz0, hz1, hz2⟩
  obtain ⟨a, cap, rfl, hcap, hh⟩ := hR
  have HH : Hid (hs.length = 0 ∨ ∃ b off, a = some ⟨b, off, none⟩ ∧ ∀ i, i < hs.length → w.cell? ⟨b, off + i, none⟩ = some (Value.string (hs.getD i ByteArray.empty))) := hh
  obtain ⟨n, HN⟩ : ∃ n, Hid (hs.length = n) := ⟨_, rfl⟩
  have MO : Hid (∀ u ∈ [(Value.string ⟨#[98, 101, 104, 105, 110, 100]⟩)], u.oneCell' = true) := fun u hu => by simp only [List.mem_cons, List.not_mem_nil, or_false] at hu; subst hu; rfl
  have OX : Hid (w.ownsRow w.heap.size 9 1 (.slice none 0 0) 0 []) := World.ownsRow_nil _ _ _ _
  have ENDS : Hid (∀ (w5 : World) (p' : Value), w5.ownsRow w.heap.size 9 1 p' (n + 1) (hs.map (Value.string) ++ [(Value.string ⟨#[98, 101, 104, 105, 110, 100]⟩)]) → ∃ g cp, p' = .slice (some ⟨g, 0, none⟩) (n + 1) cp ∧ n + 1 ≤ cp) := fun w5 p' ho => by
    rcases ho.2 with ⟨_, h⟩ | ⟨g, cp, cur, h, _, _, hc, _⟩
    · omega
    · exact ⟨g, cp, h, by omega⟩
  clear hh hi hz0 hz1 hz2
  have SZ0 : Hid (w.heap.size ≤ w.heap.size) := Nat.le_refl _
  cases a with
  | none =>
    have h0 : hs = [] := by
      rcases HH.out with h | ⟨b, off, e, _⟩
      · exact List.length_eq_zero_iff.1 h
      · cases e
    subst h0
    obtain rfl : 0 = n := HN.out
    obtain rfl := hno _ _ rfl
    simp only [List.length_nil] at hcap ⊢
    have O2 : Hid ((w.alloc (.cells #[(Value.string ⟨#[98, 101, 104, 105, 110, 100]⟩)] 9)).ownsRow w.heap.size 9 1 (.slice none 0 0) 0 []) := World.ownsRow_nil _ _ _ _
    have B2 : Hid (Below w.heap.size w (w.alloc (.cells #[(Value.string ⟨#[98, 101, 104, 105, 110, 100]⟩)] 9))) := (Below.refl _ _).alloc (Nat.le_refl _) _
    have NW : Hid (∀ (j : Nat) (x : Value), [(Value.string ⟨#[98, 101, 104, 105, 110, 100]⟩)][j]? = some x → (w.alloc (.cells #[(Value.string ⟨#[98, 101, 104, 105, 110, 100]⟩)] 9)).cell? (Addr.add ⟨w.heap.size, 0, none⟩ j) = some x) := new_one w (Value.string ⟨#[98, 101, 104, 105, 110, 100]⟩) 9
    clear HH hcap
    go_enter Try.func6, Try.ntmps6
    go_upto_region 2 with fail
    go_wp2_with (at_builtin; refine wpList_append_own _ rfl _ _ 23 rfl w.heap.size 9 i9 (.string ByteArray.empty) 1 16 Try.underlying23 HIN.out.1 HIN.out.2.1 HIN.out.2.2.1 HIN.out.2.2.2 rfl (by decide) _ 0 _ rfl O2.out ⟨w.heap.size, 0, none⟩ 1 1 [(Value.string ⟨#[98, 101, 104, 105, 110, 100]⟩)] rfl rfl NW.out MO.out (by unfold maxLen; omega) (by omega) B2.out.size ?_; intro p' w5 ho hg hnn; obtain ⟨g, cp, rfl, hcp⟩ := ENDS.out w5 p' ho; have HO5 : Hid (w5.ownsRow w.heap.size 9 1 (.slice (some ⟨g, 0, none⟩) (0 + 1) cp) (0 + 1) ([] ++ [(Value.string ⟨#[98, 101, 104, 105, 110, 100]⟩)])) := ho; have HB5 : Hid (Below w.heap.size w w5) := Below.grown B2.out hg B2.out.size (fun jj hj => (O2.out.lt _ hj).1); have hcp1 : (0 : Int) ≤ cp := (by omega); clear ho hg hnn)
    go_ret
    exact ⟨⟨g, cp, rfl, HO5.out⟩, HB5.out⟩
  | some ad =>
    have NX : Hid (∀ (j : Nat) (u : Value), (hs.map (Value.string))[j]? = some u → w.cell? (ad.add j) = some u) := by
      intro j u hu
      rw [List.getElem?_map] at hu
      obtain ⟨x, hx, rfl⟩ := Option.map_eq_some_iff.1 hu
      have hj := (List.getElem?_eq_some_iff.1 hx).1
      rcases HH.out with h | ⟨b, off, e, hc⟩
      · omega
      · have e := Option.some.inj e
        subst e
        have c1 := hc j hj
        rw [List.getD_eq_getElem?_getD, hx] at c1
        rw [show (Addr.add ⟨b, off, none⟩ j) = ⟨b, off + j, none⟩ by cases j <;> simp [Addr.add]]
        exact c1
    rw [HN.out] at hz hcap ⊢
    clear HH
    go_enter Try.func6, Try.ntmps6
    go_upto_region 2 with (at_builtin; refine wpList_append_own _ rfl _ _ 23 rfl w.heap.size 9 i9 (.string ByteArray.empty) 1 16 Try.underlying23 HIN.out.1 HIN.out.2.1 HIN.out.2.2.1 HIN.out.2.2.2 rfl (by decide) _ 0 _ rfl OX.out ad n cap (hs.map (Value.string)) rfl (by rw [List.length_map, HN.out]; omega) NX.out (ones _) (by unfold maxLen; omega) (by omega) SZ0.out ?_; intro p0 w4 ho0 hg0 hnn0; have HO4 : Hid (w4.ownsRow w.heap.size 9 1 p0 (0 + n) ([] ++ hs.map (Value.string))) := ho0; have HB4 : Hid (Below w.heap.size w w4) := Below.grown (Below.refl _ _) hg0 SZ0.out (fun jj hj => (OX.out.lt _ hj).1); clear ho0 hg0 hnn0)
    have HO6 : w4.ownsRow w.heap.size 9 1 p0 n (hs.map (Value.string)) := by have := HO4.out; rw [Nat.zero_add, List.nil_append] at this; exact this
    obtain ⟨pa, pc, rfl⟩ := own_form HO6
    have O2 : Hid ((w4.alloc (.cells #[(Value.string ⟨#[98, 101, 104, 105, 110, 100]⟩)] 9)).ownsRow w.heap.size 9 1 (.slice pa n pc) n (hs.map (Value.string))) := HO6.alloc _
    have B2 : Hid (Below w.heap.size w (w4.alloc (.cells #[(Value.string ⟨#[98, 101, 104, 105, 110, 100]⟩)] 9))) := HB4.out.alloc HB4.out.size _
    have NW : Hid (∀ (j : Nat) (x : Value), [(Value.string ⟨#[98, 101, 104, 105, 110, 100]⟩)][j]? = some x → (w4.alloc (.cells #[(Value.string ⟨#[98, 101, 104, 105, 110, 100]⟩)] 9)).cell? (Addr.add ⟨w4.heap.size, 0, none⟩ j) = some x) := new_one w4 (Value.string ⟨#[98, 101, 104, 105, 110, 100]⟩) 9
    clear HO6
    go_wp2_with (at_builtin; refine wpList_append_own _ rfl _ _ 23 rfl w.heap.size 9 i9 (.string ByteArray.empty) 1 16 Try.underlying23 HIN.out.1 HIN.out.2.1 HIN.out.2.2.1 HIN.out.2.2.2 rfl (by decide) _ n _ rfl O2.out ⟨w4.heap.size, 0, none⟩ 1 1 [(Value.string ⟨#[98, 101, 104, 105, 110, 100]⟩)] rfl rfl NW.out MO.out (by unfold maxLen; omega) (by omega) B2.out.size ?_; intro p' w5 ho hg hnn; obtain ⟨g, cp, rfl, hcp⟩ := ENDS.out w5 p' ho; have HO5 : Hid (w5.ownsRow w.heap.size 9 1 (.slice (some ⟨g, 0, none⟩) (n + 1) cp) (n + 1) (hs.map (Value.string) ++ [(Value.string ⟨#[98, 101, 104, 105, 110, 100]⟩)])) := ho; have HB5 : Hid (Below w.heap.size w w5) := Below.grown B2.out hg B2.out.size (fun jj hj => (O2.out.lt _ hj).1); have hcp1 : (n : Int) ≤ cp := (by omega); have hcp2 : (n : Int) + 1 ≤ cp := (by omega); clear ho hg hnn)
    go_ret
    exact ⟨⟨g, cp, rfl, HO5.out⟩, HB5.out⟩
end Go.Proofs.Ythpfgdhmpeadeaa.lg

namespace Go.Proofs.Ythpfgdhmpeadeaa.wl
open Go.RowKit Go.PlainAid
open Go.Proofs.Ythpfgdhmpeadeaa.ca Go.Proofs.Ythpfgdhmpeadeaa.cb Go.Proofs.Ythpfgdhmpeadeaa.cp Go.Proofs.Ythpfgdhmpeadeaa.ga Go.Proofs.Ythpfgdhmpeadeaa.kp Go.Proofs.Ythpfgdhmpeadeaa.ea Go.Proofs.Ythpfgdhmpeadeaa.eb Go.Proofs.Ythpfgdhmpeadeaa.ec Go.Proofs.Ythpfgdhmpeadeaa.ee Go.Proofs.Ythpfgdhmpeadeaa.eg Go.Proofs.Ythpfgdhmpeadeaa.ei Go.Proofs.Ythpfgdhmpeadeaa.ka Go.Proofs.Ythpfgdhmpeadeaa.bn Go.Proofs.Ythpfgdhmpeadeaa.fd Go.Proofs.Ythpfgdhmpeadeaa.fe Go.Proofs.Ythpfgdhmpeadeaa.lg
set_option linter.unusedVariables false

theorem keptC (B g cp : Nat) (v : Value) (xs : List ByteArray) (w : World) (hT : Tw w B g xs.length cp xs) (hR : ReadsT w v xs) (hz : xs.length ≤ 140737488351232) :
    Calls Try.prog 10 #[.slice (some ⟨g, 0, none⟩) (xs.length + 1) cp, v] w fun e w' => e = .returned (.bool true) ∧ ∃ m, w' = w.drewN m := by
  obtain ⟨t1, t2, t3⟩ := hT.cell rfl
  have SC : Hid (Calls _ _ _ _ _) := same_yes (.slice (some ⟨g, 0, none⟩) xs.length cp) v xs w (hT.reads rfl) hR (by omega)
  obtain ⟨a, cap, rfl, hcap, hh⟩ := hR
  obtain ⟨n, HN⟩ : ∃ n, Hid (xs.length = n) := ⟨_, rfl⟩
  rw [HN.out] at t2 t3 SC hz hcap ⊢
  have hcp : (n : Int) ≤ cp := by omega
  have hcp0 : (n : Int) < (n : Int) + 1 := by omega
  have e1 : ((n + 1 : Nat) : Int) = (n : Int) + 1 := by omega
  have e2 : ((n : Int) + 1 == (n : Int) + 1) = true := beq_self_eq_true _
  clear t1 hh hT
  go_enter Try.func10, Try.ntmps10
  go_wp2_with (go_at_call 20; refine SC.out.mono ?_; rintro _ w1 ⟨rfl, m1, hm1⟩; have D1 : Hid (w1 = w.drewN m1) := hm1; clear hm1)
  go_ret
  exact ⟨rfl, m1, D1.out⟩
end Go.Proofs.Ythpfgdhmpeadeaa.wl
