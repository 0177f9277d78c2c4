import Derived.Test.YtkgadgkomdjplaaEc
import Derived.Test.YtkgadgkomdjplaaKa
import Derived.Test.YtkgadgkomdjplaaBn
namespace Go.Proofs.Ytkgadgkomdjplaa.ed
open Go.RowKit Go.PlainAid Go.Shelf
open Go.Proofs.Ytkgadgkomdjplaa.ca Go.Proofs.Ytkgadgkomdjplaa.cb Go.Proofs.Ytkgadgkomdjplaa.cp Go.Proofs.Ytkgadgkomdjplaa.ga Go.Proofs.Ytkgadgkomdjplaa.kp Go.Proofs.Ytkgadgkomdjplaa.na Go.Proofs.Ytkgadgkomdjplaa.nb Go.Proofs.Ytkgadgkomdjplaa.nc Go.Proofs.Ytkgadgkomdjplaa.nf Go.Proofs.Ytkgadgkomdjplaa.ng Go.Proofs.Ytkgadgkomdjplaa.ea Go.Proofs.Ytkgadgkomdjplaa.eb Go.Proofs.Ytkgadgkomdjplaa.ec Go.Proofs.Ytkgadgkomdjplaa.ka Go.Proofs.Ytkgadgkomdjplaa.bn
set_option linter.unusedVariables false

set_option maxHeartbeats 1600000 in
theorem markC (T g : Nat) (b : ByteArray) (p : Nat) (e c : Int) (s : ByteArray) (rest : List Value) (w : World) (h : Rd T g b p e rest w) (hb : b.size ≤ 140737488355328) (hp : Ok b p e) (hs : str [c] = s) :
    Calls Try.prog 66 #[.pointer (some ⟨g, 0, none⟩), .string s] w fun x w' => x = .returned (.tuple #[]) ∧ Rd T g b (markS b c p e).1 (markS b c p e).2 rest w' ∧ Kp (fun k => k = g) w w' := by
  have hs1 : s.size = 1 := by rw [← hs, str_size]; rfl
  have CT : Hid (Calls _ _ _ _ _) := takeC T g b p e rest 1 w h hb hp (by omega)
  have HM : Hid (markS b c p e = ((takeS b 1 p e).2.1, if (takeS b 1 p e).1 = s then (takeS b 1 p e).2.2 else refu (takeS b 1 p e).2.2 110)) := by show _ = _; rw [← hs]; rfl
  rw [HM.out]
  obtain ⟨x, q, z, HX⟩ : ∃ x q z, Hid (takeS b 1 p e = (x, q, z)) := ⟨_, _, _, rfl⟩
  rw [HX.out] at CT ⊢
  clear h hp hs
  by_cases hq : x = s
  · have g1 : (x.toList == s.toList) = true := by rw [beqL, decide_eq_true hq]
    have HI : Hid ((if x = s then z else refu z 110) = z) := if_pos hq
    rw [HI.out]
    clear hq
    go_enter Try.func66, Try.ntmps66
    go_wp2_with (go_at_call 68; refine CT.out.mono ?_; rintro _ w1 ⟨rfl, r1, k1⟩; have R1 : Hid (Rd T g b q z rest w1) := r1; have K1 : Hid (Kp _ _ _) := k1; clear r1 k1)
    go_end0
    exact ⟨rfl, R1.out, K1.out⟩
  · have g1 : (x.toList == s.toList) = false := by rw [beqL, decide_eq_false hq]
    have HI : Hid ((if x = s then z else refu z 110) = refu z 110) := if_neg hq
    rw [HI.out]
    clear hq
    go_enter Try.func66, Try.ntmps66
    go_wp2_with (first | (go_at_call 68; refine CT.out.mono ?_; rintro _ w1 ⟨rfl, r1, k1⟩; have R1 : Hid (Rd T g b q z rest w1) := r1; have K1 : Hid (Kp _ _ _) := k1; clear r1 k1) | (go_at_call 69; refine (refuseC T g b q z 110 rest _ R1.out).mono ?_; rintro _ w2 ⟨rfl, r2, k2⟩; have R2 : Hid (Rd T g b q (refu z 110) rest w2) := r2; have K2 : Hid (Kp _ _ _) := k2; clear r2 k2))
    go_end0
    exact ⟨rfl, R2.out, K1.out.trans K2.out⟩

theorem isWidthC (x : Int) (w : World) : Calls Try.prog 75 #[.int .i64 x] w fun e w' => e = .returned (.bool (decide (1 ≤ x ∧ x ≤ 32))) ∧ w' = w := by
  by_cases h1 : 1 ≤ x
  · by_cases h2 : x ≤ 32
    · rw [decide_eq_true (show 1 ≤ x ∧ x ≤ 32 from ⟨h1, h2⟩)]
      go_enter Try.func75, Try.ntmps75
      go_wp2
      go_ret
      exact ⟨rfl, rfl⟩
    · rw [decide_eq_false (show ¬ (1 ≤ x ∧ x ≤ 32) from fun h => h2 h.2)]
      go_enter Try.func75, Try.ntmps75
      go_wp2
      go_ret
      exact ⟨rfl, rfl⟩
  · rw [decide_eq_false (show ¬ (1 ≤ x ∧ x ≤ 32) from fun h => h1 h.1)]
    go_enter Try.func75, Try.ntmps75
    go_wp2
    go_ret
    exact ⟨rfl, rfl⟩

theorem beC (x : ByteArray) (h : x.size ≤ 1) (w : World) : Calls Try.prog 102 #[.string x, .int .i64 0, .int .i64 1] w fun e w' => (∃ z : Int, e = .returned (.tuple #[.int .u64 (if x.size = 1 then bt x 0 else 0), .int .i64 z])) ∧ w' = w := by
  by_cases h1 : x.size = 1
  · rw [if_pos h1]
    refine (be_any x 0 1 w (by omega) (by omega) (by omega) (by omega)).mono ?_
    rintro e w' ⟨rfl, rfl⟩
    have e : beR x 0 1 = bt x 0 := by rw [beR, beR]; simp
    rw [e]
    exact ⟨⟨0, rfl⟩, rfl⟩
  · rw [if_neg h1]
    refine (be_range x 0 1 w (by omega) (by omega)).mono ?_
    rintro e w' ⟨rfl, rfl⟩
    exact ⟨⟨10, rfl⟩, rfl⟩

set_option maxHeartbeats 1600000 in
theorem widthC (T g : Nat) (b : ByteArray) (p : Nat) (e : Int) (rest : List Value) (w : World) (h : Rd T g b p e rest w) (hb : b.size ≤ 140737488355328) (hp : Ok b p e) :
    Calls Try.prog 79 #[.pointer (some ⟨g, 0, none⟩)] w fun x w' => x = .returned (.int .i64 (widthS b p e).1) ∧ Rd T g b (widthS b p e).2.1 (widthS b p e).2.2 rest w' ∧ Kp (fun k => k = g) w w' := by
  have CT : Hid (Calls _ _ _ _ _) := takeC T g b p e rest 1 w h hb hp (by omega)
  have hx1 : (takeS b 1 p e).1.size ≤ 1 := by
    unfold takeS
    split
    · exact Nat.zero_le _
    · split
      · exact Nat.zero_le _
      · show (b.extract p (p + 1)).size ≤ 1
        rw [ByteArray.size_extract]; omega
  have CB : Hid (∀ w, Calls _ _ _ _ _) := fun w => beC _ hx1 w
  have hv := byte_in b p e
  have HW : Hid (widthS b p e = (byteS b p e, (takeS b 1 p e).2.1, if 1 ≤ byteS b p e ∧ byteS b p e ≤ 32 then (takeS b 1 p e).2.2 else refu (takeS b 1 p e).2.2 10)) := rfl
  have HV : Hid ((if (takeS b 1 p e).1.size = 1 then bt (takeS b 1 p e).1 0 else 0) = byteS b p e) := rfl
  rw [HV.out] at CB
  rw [HW.out]
  obtain ⟨v, HVV⟩ : ∃ v, Hid (byteS b p e = v) := ⟨_, rfl⟩
  rw [HVV.out] at CB hv ⊢
  obtain ⟨x, q, z, HX⟩ : ∃ x q z, Hid (takeS b 1 p e = (x, q, z)) := ⟨_, _, _, rfl⟩
  rw [HX.out] at CT CB ⊢
  have CW : Hid (∀ w, Calls _ _ _ _ _) := fun w => isWidthC v w
  clear h hp hx1
  by_cases hq : 1 ≤ v ∧ v ≤ 32
  · rw [decide_eq_true hq] at CW
    have HI : Hid ((if 1 ≤ v ∧ v ≤ 32 then z else refu z 10) = z) := if_pos hq
    rw [HI.out]
    clear hq
    go_enter Try.func79, Try.ntmps79
    go_wp2_with (first | (go_at_call 68; refine CT.out.mono ?_; rintro _ w1 ⟨rfl, r1, k1⟩; have R1 : Hid (Rd T g b q z rest w1) := r1; have K1 : Hid (Kp _ _ _) := k1; clear r1 k1) | (go_at_call 102; refine (CB.out _).mono ?_; rintro _ _ ⟨⟨zz, rfl⟩, rfl⟩) | (go_at_call 75; refine (CW.out _).mono ?_; rintro _ _ ⟨rfl, rfl⟩))
    go_ret
    exact ⟨rfl, R1.out, K1.out⟩
  · rw [decide_eq_false hq] at CW
    have HI : Hid ((if 1 ≤ v ∧ v ≤ 32 then z else refu z 10) = refu z 10) := if_neg hq
    rw [HI.out]
    clear hq
    go_enter Try.func79, Try.ntmps79
    go_wp2_with (first | (go_at_call 68; refine CT.out.mono ?_; rintro _ w1 ⟨rfl, r1, k1⟩; have R1 : Hid (Rd T g b q z rest w1) := r1; have K1 : Hid (Kp _ _ _) := k1; clear r1 k1) | (go_at_call 102; refine (CB.out _).mono ?_; rintro _ _ ⟨⟨zz, rfl⟩, rfl⟩) | (go_at_call 75; refine (CW.out _).mono ?_; rintro _ _ ⟨rfl, rfl⟩) | (go_at_call 69; refine (refuseC T g b q z 10 rest _ R1.out).mono ?_; rintro _ w2 ⟨rfl, r2, k2⟩; have R2 : Hid (Rd T g b q (refu z 10) rest w2) := r2; have K2 : Hid (Kp _ _ _) := k2; clear r2 k2))
    go_ret
    exact ⟨rfl, R2.out, K1.out.trans K2.out⟩
end Go.Proofs.Ytkgadgkomdjplaa.ed
