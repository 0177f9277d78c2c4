import Derived.RangeFuncNested
import Derived.RangeFuncBound
import Derived.RangeFuncCalls
import Derived.RangeFuncLeaves
import Derived.RangeFuncBox
import Derived.Shelf.Abstract
import Derived.Shelf.RegionOpen
import Derived.WalkKit
import Derived.OwnWalkIn
import Derived.TacticsInMore
import Derived.LoopNIn
import Derived.LoopIn
import Derived.Sort.QuietIn
import Derived.Maps.AppendAt
import Derived.Test.YthdkbjbhjfiaiaaGreatDoorK4
import Derived.Test.YthdkbjbhjfiaiaaGreatDoorSh
namespace Go.Proofs.YthdkbjbhjfiaiaaGreatDoor.q3
open Go.RowKit Go.Shelf Go.PlainAid
open Go.Proofs.YthdkbjbhjfiaiaaGreatDoor.tb Go.Proofs.YthdkbjbhjfiaiaaGreatDoor.tc Go.Proofs.YthdkbjbhjfiaiaaGreatDoor.tj Go.Proofs.YthdkbjbhjfiaiaaGreatDoor.o3 Go.Proofs.YthdkbjbhjfiaiaaGreatDoor.sh Go.Proofs.YthdkbjbhjfiaiaaGreatDoor.q2
set_option linter.unusedVariables false
theorem wide_fn (f : FuncId) : Fence.wide.fn f = True := rfl
theorem asked_wide (o : Oper) (P : Program) (a : Act) (C : World → Prop) : o.askedIn Fence.wide P a C = True := eq_true (fun _ _ _ _ => trivial)
attribute [local go_sem] Oper.semAt_some wide_fn asked_wide

theorem linesC (s : ByteArray) (w : World) : Calls Tryz.prog 40 #[.string s] w fun e w' => e = .returned (.func (.func 68) #[] #[.pointer (some ⟨w.heap.size, 0, none⟩)]) ∧ w' = w.alloc (.cells #[.string s] 9) := by
  have hmf : ∀ (fn : Fn) (first cap : Array Value) (w : World), (Instr.makeFunc fn first cap).run Tryz.prog w = .ok (.func fn first cap) w := fun _ _ _ _ => rfl
  go_enter Tryz.func40, Tryz.ntmps40
  go_wp2
  go_ret
  exact ⟨rfl, rfl⟩
-- what a round keeps: what lay below n, and the box b
def Kq (n b : Nat) (A B : World) : Prop := Below n A B ∧ B.cell? ⟨b, 0, none⟩ = A.cell? ⟨b, 0, none⟩
theorem Kq.trans {n b : Nat} {A B C : World} (h : Kq n b A B) (k : Kq n b B C) : Kq n b A C := ⟨h.1.trans k.1, k.2.trans h.2⟩
abbrev El := Nat × ByteArray
def ad (x : El) : Array Value := #[.int .i64 (x.1 : Nat), .string x.2]
theorem last_one (s : ByteArray) (hs : s.size ≤ 1000000) (w : World) (r : Int) (hr : Lib.lastIndexByte s 10 = r) : Calls Tryz.prog 70 #[.string s, .int .u8 10] w fun e w' => e = .returned (.int .i64 r) ∧ w' = w := by
  rw [← hr]
  exact Any.strings_LastIndexByte lays149 s 10 (by omega) w
set_option maxRecDepth 100000 in
set_option maxHeartbeats 2000000 in
theorem lines1 (n : Nat) (hn : 1 ≤ n) (l bs n₀ : Nat) (s : ByteArray) (hs : s.size ≤ 1000000) (RL : List ByteArray) (hG : Gives s RL) (J Jx : List El → World → Prop)
    (hY : ∀ pre x W, pre ++ [x] <+: elR RL → J pre W → pre.length < (elR RL).length → YieldAt Fence.wide (n - 1) Tryz.prog l (ad x) W fun e W' =>
      (e = .returned (.bool true) ∧ J (pre ++ [x]) W' ∧ Kq n₀ bs W W') ∨ (e = .returned (.bool false) ∧ Jx (pre ++ [x]) W'))
    (W : World) (hcl : W.cell? ⟨bs, 0, none⟩ = some (.string s)) (h0 : J [] W) :
    CallsIn Fence.wide n Tryz.prog 68 #[.func (.yield l) #[] #[], .pointer (some ⟨bs, 0, none⟩)] W fun e W' => (∃ v, e = .returned v) ∧
      ((∃ ys, ys = elR RL ∧ J ys W') ∨ (∃ pre, pre <+: elR RL ∧ Jx pre W')) := by
  have HY : Hid (∀ pre x W, pre ++ [x] <+: elR RL → J pre W → pre.length < (elR RL).length → YieldAt Fence.wide (n - 1) Tryz.prog l (ad x) W fun e W' =>
      (e = .returned (.bool true) ∧ J (pre ++ [x]) W' ∧ Kq n₀ bs W W') ∨ (e = .returned (.bool false) ∧ Jx (pre ++ [x]) W')) := hY
  have HJ0 : Hid (J [] W) := h0
  obtain ⟨cv, HCV⟩ : ∃ cv, Hid (elR RL = cv) := ⟨_, rfl⟩
  rw [HCV.out] at HY ⊢
  have HGG : Hid (Gives s RL) := hG
  clear hY h0 hG
  refine callsIn_of_wp Tryz.func68 rfl trivial ?_ rfl
  simp only [Tryz.ntmps68, List.size_toArray, List.length_cons, List.length_nil, Nat.reduceAdd, Nat.reduceSub, Array.replicate_succ, Array.replicate_zero, List.push_toArray, List.append_toArray, List.nil_append, List.cons_append]
  gi_wp2
  gi_loopw [3] (fun p wr => ∃ (q : Nat) (pre : List El) (rl : List ByteArray), q ≤ s.size ∧ p = .int .i64 q ∧ Hid (pre ++ elR rl = cv ∧ Gives (s.extract 0 q) rl ∧ wr.cell? ⟨bs, 0, none⟩ = some (.string s) ∧ J pre wr)) (fun p _ => (intOf p).toNat)
  case atStart => exact ⟨s.size, [], RL, Nat.le_refl _, rfl, HCV.out, by rw [ByteArray.extract_zero_size]; exact HGG.out, hcl, HJ0.out⟩
  case round =>
    clear HJ0 hcl HGG
    obtain ⟨q, pre, rl, hq, rfl, HL⟩ := hrel
    have c1 := HL.out.2.2.1
    have hq1 : (q : Int) ≤ (s.size : Int) := by omega
    have C1 : Hid (∀ w, Calls _ _ _ _ _) := fun w => hasS (s.extract 0 q) (by rw [ByteArray.size_extract]; omega) w
    by_cases he : ends (s.extract 0 q) = true
    · rw [he] at C1
      obtain ⟨x, rl', hrl, e1, hx10⟩ : ∃ x rl', rl = x :: rl' ∧ s.extract 0 q = flN rl'.reverse ++ x ++ nlB ∧ (∀ l ∈ x :: rl', no10 l) := by
        rcases HL.out.2.1 with ⟨h1, h2⟩ | ⟨h1, _⟩
        · cases rl with
          | nil =>
            have h3 : s.extract 0 q = ByteArray.empty := h1
            rw [h3, ends_empty] at he
            cases he
          | cons x rl' => exact ⟨x, rl', rfl, by rw [h1, List.reverse_cons, flN_snoc], h2⟩
        · rw [h1] at he; cases he
      have hfe := flN_ends rl'.reverse
      obtain ⟨A, HA⟩ : ∃ A, Hid (flN rl'.reverse = A) := ⟨_, rfl⟩
      rw [HA.out] at e1 hfe
      have hqs : q = A.size + x.size + 1 := by
        have := congrArg ByteArray.size e1
        rw [ByteArray.size_extract, ByteArray.size_append, ByteArray.size_append, nl_size] at this
        omega
      obtain ⟨m, HM⟩ : ∃ m, Hid (A.size + x.size = m) := ⟨_, rfl⟩
      have hm := HM.out
      have ht : s.extract 0 m = A ++ x := by
        have e2 : (s.extract 0 q).extract 0 m = s.extract 0 m := by rw [ByteArray.extract_extract]; congr 1; omega
        rw [← e2, e1, ByteArray.extract_append_eq_left (by rw [ByteArray.size_append, hm])]
      have hA : s.extract 0 A.size = A := by
        have e2 : (s.extract 0 m).extract 0 A.size = s.extract 0 A.size := by rw [ByteArray.extract_extract]; congr 1; omega
        rw [← e2, ht, ByteArray.extract_append_eq_left rfl]
      have hX : (s.extract 0 m).extract A.size (s.extract 0 m).size = x := by
        rw [ht]; exact ByteArray.extract_append_eq_right rfl ByteArray.size_append
      have C2 : Hid (∀ w, Calls _ _ _ _ _) := fun w => last_one (s.extract 0 m) (by rw [ByteArray.size_extract]; omega) w ((A.size : Int) - 1) (by rw [ht]; exact last_at A x (hx10 x (by simp)) hfe)
      have HDS : Hid (pre ++ [(A.size, x)] ++ elR rl' = cv) := by
        show _ = _
        rw [← HL.out.1, hrl, elR, HA.out, List.append_assoc]
        rfl
      have HLN : Hid (pre.length < cv.length) := by
        show _ < _
        rw [← HDS.out, List.length_append, List.length_append]
        simp
        omega
      have HGN : Hid (Gives (s.extract 0 A.size) rl') := by rw [hA]; exact .inl ⟨HA.out.symm, fun l hl => hx10 l (by simp [hl])⟩
      have hzt : (s.extract 0 m).size = m := by rw [ht, ByteArray.size_append, hm]
      obtain ⟨t, HT⟩ : ∃ t, Hid (s.extract 0 m = t) := ⟨_, rfl⟩
      rw [HT.out] at C2 hX hzt
      have hst : s.extract 0 m = t := HT.out
      have hw1 : IntKind.i64.wrap ((q : Int) - 1) = (m : Int) := by rw [IntKind.wrap_i64]; omega
      have hq2 : (q : Int) - 1 = (m : Int) := by omega
      have hw2 : IntKind.i64.wrap ((A.size : Int) - 1 + 1) = (A.size : Int) := by rw [IntKind.wrap_i64]; omega
      have hw3 : wrap64 (A.size : Int) = (A.size : Int) := by unfold wrap64; omega
      have hm1 : (m : Int) ≤ (s.size : Int) := by omega
      have hAt : (A.size : Int) ≤ (t.size : Int) := by omega
      have HQS : Hid (A.size < q) := by show _ < _; omega
      clear e1 hfe ht hA hrl hx10 he hqs hm hzt
      obtain ⟨fn, tmps, assign, body, hy, hR⟩ := HY.out pre (A.size, x) wr ⟨elR rl', HDS.out⟩ HL.out.2.2.2 HLN.out
      dsimp only [ad] at hy
      gi_wp2_with (first | (gi_at_call 69; refine (callsIn_wide.2 (C1.out _)).mono ?_; rintro e wz ⟨rfl, hz⟩; rw [hz]; clear hz wz) | (gi_at_call 70; refine (callsIn_wide.2 (C2.out _)).mono ?_; rintro e wz ⟨rfl, hz⟩; rw [hz]; clear hz wz))
      refine hR.mono ?_
      rintro e W3 (⟨rfl, hJ3, hk3⟩ | ⟨rfl, hJx3⟩)
      · have HJ3 : Hid (J (pre ++ [(A.size, x)]) W3) := hJ3
        have HK3 : Hid (Kq n₀ bs wr W3) := hk3
        clear hJ3 hk3 hy hR
        gi_wp2
        go_roundw
        case rel => exact ⟨A.size, pre ++ [(A.size, x)], rl', by have := HQS.out; omega, by go_num, HDS.out, HGN.out, HK3.out.2.trans HL.out.2.2.1, HJ3.out⟩
        case measure => simp [intOf]; exact HQS.out
      · have HJ3 : Hid (Jx (pre ++ [(A.size, x)]) W3) := hJx3
        clear hJx3 hy hR
        gi_wp2
        refine bodyPost_ret (results_none rfl _ _ _) rfl ?_
        exact ⟨⟨_, rfl⟩, .inr ⟨pre ++ [(A.size, x)], ⟨elR rl', HDS.out⟩, HJ3.out⟩⟩
    · have hf : ends (s.extract 0 q) = false := by simpa using he
      rw [hf] at C1
      have hrl : rl = [] := by
        rcases HL.out.2.1 with ⟨h1, _⟩ | ⟨_, h2⟩
        · rcases flN_ends rl.reverse with h3 | h3
          · cases rl with
            | nil => rfl
            | cons x rl =>
              rw [List.reverse_cons, flN_snoc, ByteArray.size_append] at h3
              have := nl_size
              omega
          · rw [← h1, hf] at h3; cases h3
        · exact h2
      have HE : Hid (pre = cv) := by show _ = _; rw [← HL.out.1, hrl]; simp [elR]
      clear he hf hrl
      gi_wp2_with (gi_at_call 69; refine (callsIn_wide.2 (C1.out _)).mono ?_; rintro e wz ⟨rfl, hz⟩; rw [hz]; clear hz wz)
      go_end0
      have HJ : J cv wr := by rw [← HE.out]; exact HL.out.2.2.2
      first | exact ⟨⟨_, rfl⟩, .inl HJ⟩ | exact ⟨⟨_, rfl⟩, .inl ⟨cv, rfl, HJ⟩⟩
end Go.Proofs.YthdkbjbhjfiaiaaGreatDoor.q3
