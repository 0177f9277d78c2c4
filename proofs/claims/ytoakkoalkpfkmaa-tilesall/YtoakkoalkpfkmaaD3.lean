import Derived.Test.YtoakkoalkpfkmaaD2
namespace Go.Proofs.Ytoakkoalkpfkmaa.d3
open Go.RowKit Go.PlainAid Go.Shelf
open Go.Proofs.Ytoakkoalkpfkmaa.ca Go.Proofs.Ytoakkoalkpfkmaa.cp Go.Proofs.Ytoakkoalkpfkmaa.d1 Go.Proofs.Ytoakkoalkpfkmaa.d2
set_option linter.unusedVariables false
theorem wide_fn (f : FuncId) : Fence.wide.fn f = True := rfl
theorem asked_wide (o : Oper) (P : Program) (a : Act) (C : World → Prop) : o.askedIn Fence.wide P a C = True := eq_true (fun _ _ _ _ => trivial)
attribute [local go_sem] Oper.semAt_some wide_fn asked_wide

theorem rowsC (h n : Int) (w : World) : Calls Try.prog 11 #[.int .i64 h, .int .i64 n] w fun e w' => e = .returned (.func (.func 15) #[] #[.pointer (some ⟨w.heap.size + 1, 0, none⟩), .pointer (some ⟨w.heap.size, 0, none⟩)]) ∧ w' = (w.alloc (.cells #[.int .i64 h] 3)).alloc (.cells #[.int .i64 n] 3) := by
  have hmf : ∀ (fn : Fn) (first cap : Array Value) (w : World), (Instr.makeFunc fn first cap).run Try.prog w = .ok (.func fn first cap) w := fun _ _ _ _ => rfl
  go_enter Try.func11, Try.ntmps11
  go_wp2
  go_ret
  exact ⟨rfl, rfl⟩
def lm (x : Nat × Nat) : Array Value := #[.int .i64 (x.1 : Nat), .int .i64 (x.2 : Nat)]
-- what a round keeps: what lay below n, and the box b
def Kq (n b : Nat) (A B : World) : Prop := Below n A B ∧ B.cell? ⟨b, 0, none⟩ = A.cell? ⟨b, 0, none⟩
theorem Kq.trans {n b : Nat} {A B C : World} (h : Kq n b A B) (k : Kq n b B C) : Kq n b A C := ⟨h.1.trans k.1, k.2.trans h.2⟩
theorem rows_lev {F : Nat} (hF : 2 ≤ F) (n : Nat) : ∀ (l m : Nat), m ≤ n → m < 2 ^ 63 → ∀ x ∈ rowsL F l m, x.1 < l + 63 := by
  intro l m hmn hm
  have key : ∀ (k l m : Nat), m < 2 ^ k → ∀ x ∈ rowsL F l m, x.1 < l + k := by
    intro k
    induction k with
    | zero => intro l m h x hx; rw [show m = 0 by simpa using h, rowsL_zero] at hx; simp at hx
    | succ k ih =>
      intro l m h x hx
      by_cases h0 : m = 0
      · subst h0; rw [rowsL_zero] at hx; simp at hx
      · rw [rowsL_step hF (by omega)] at hx
        rcases List.mem_cons.1 hx with rfl | hx
        · show l < _; omega
        · have h1 : m / F ≤ m / 2 := Nat.div_le_div_left hF (by omega)
          have := ih (l + 1) (m / F) (by rw [Nat.pow_succ] at h; omega) x hx
          omega
  exact key 63 l m hm
set_option maxRecDepth 100000 in
set_option maxHeartbeats 2000000 in
theorem rows1 (n : Nat) (hn : 1 ≤ n) (l bn bh n₀ k N : Nat) (hk1 : 1 ≤ k) (hk : k ≤ 8) (hN : N ≤ 4611686018427387904) (R : List (Nat × Nat)) (hR : rowsL (2 ^ k) 0 N = R) (J Jx : List (Nat × Nat) → World → Prop)
    (hY : ∀ pre x W, J pre W → pre ++ [x] <+: R → YieldAt Fence.wide (n - 1) Try.prog l (lm x) W fun e W' =>
      (e = .returned (.bool true) ∧ J (pre ++ [x]) W' ∧ Kq n₀ bh W W') ∨ (e = .returned (.bool false) ∧ Jx (pre ++ [x]) W'))
    (hJD : ∀ pre W j, J pre W → J pre (W.drewN j))
    (W : World) (hcn : W.cell? ⟨bn, 0, none⟩ = some (.int .i64 (N : Int))) (hch : W.cell? ⟨bh, 0, none⟩ = some (.int .i64 (k : Int))) (h0 : J [] W) :
    CallsIn Fence.wide n Try.prog 15 #[.func (.yield l) #[] #[], .pointer (some ⟨bn, 0, none⟩), .pointer (some ⟨bh, 0, none⟩)] W fun e W' => (∃ v, e = .returned v) ∧
      ((∃ ys, ys = R ∧ J ys W') ∨ (∃ pre, pre <+: R ∧ Jx pre W')) := by
  have HY : Hid (∀ pre x W, J pre W → pre ++ [x] <+: R → YieldAt Fence.wide (n - 1) Try.prog l (lm x) W fun e W' =>
      (e = .returned (.bool true) ∧ J (pre ++ [x]) W' ∧ Kq n₀ bh W W') ∨ (e = .returned (.bool false) ∧ Jx (pre ++ [x]) W')) := hY
  have HS : Hid (W.cell? ⟨bh, 0, none⟩ = some (.int .i64 (k : Int)) ∧ J [] W) := ⟨hch, h0⟩
  have hF : 2 ≤ 2 ^ k := by have := p2le hk1; omega
  have HR0 : Hid (rowsL (2 ^ k) 0 N = R) := hR
  have du : IntKind.u64.wrap (k : Int) = (k : Int) := u64_is k (by omega)
  have dk : decide ((k : Int) < 0) = false := decide_eq_false (by omega)
  clear hY hch h0 hR
  refine callsIn_of_wp Try.func15 rfl trivial ?_ rfl
  simp only [Try.ntmps15, List.size_toArray, List.length_cons, List.length_nil, Nat.reduceAdd, Nat.reduceSub, Array.replicate_succ, Array.replicate_zero, List.push_toArray, List.append_toArray, List.nil_append, List.cons_append]
  gi_wp2
  gi_loopw [4, 5] (fun p r wr => ∃ (lv m : Nat) (pre : List (Nat × Nat)), lv ≤ 63 ∧ m ≤ N ∧ p = .int .i64 lv ∧ r = .int .i64 m ∧ Hid (pre ++ rowsL (2 ^ k) lv m = R ∧ m < 2 ^ (63 - lv) ∧ wr.cell? ⟨bh, 0, none⟩ = some (.int .i64 (k : Int)) ∧ J pre wr)) (fun _ r _ => (intOf r).toNat)
  case atStart => exact ⟨0, N, [], by omega, Nat.le_refl _, rfl, rfl, HR0.out, by omega, HS.out.1, HS.out.2⟩
  case round =>
    clear HS hcn
    obtain ⟨lv, m, pre, hlv, hm, rfl, rfl, HL⟩ := hrel
    have c1 := HL.out.2.2.1
    by_cases h0 : 0 < m
    · have h0' : (0 : Int) < (m : Int) := by omega
      have HST : Hid (pre ++ [(lv, m)] ++ rowsL (2 ^ k) (lv + 1) (m / 2 ^ k) = R) := by
        show _ = _
        rw [List.append_assoc, List.singleton_append, ← rowsL_step hF h0]
        exact HL.out.1
      have HLV : Hid (lv < 63) := by
        have h1 := HL.out.2.1
        show _ < _
        rcases Nat.lt_or_ge lv 63 with e | e
        · exact e
        · rw [show 63 - lv = 0 by omega] at h1; omega
      have HM2 : Hid (m / 2 ^ k < 2 ^ (63 - (lv + 1))) := by
        have h1 := HL.out.2.1
        have h2 : m / 2 ^ k ≤ m / 2 := Nat.div_le_div_left hF (by omega)
        have h3 := HLV.out
        show _ < _
        rw [show 63 - lv = 63 - (lv + 1) + 1 by omega, Nat.pow_succ] at h1
        omega
      have hlv' := HLV.out
      obtain ⟨q, HQ⟩ : ∃ q, Hid (m / 2 ^ k = q) := ⟨_, rfl⟩
      have hq : q ≤ m := by rw [← HQ.out]; exact Nat.div_le_self _ _
      have hq2 : q < m := by rw [← HQ.out]; exact Nat.div_lt_self h0 (by omega)
      have hsh : (m : Int) / (2 : Int) ^ k = (q : Int) := by rw [cast_pow, ← HQ.out]; exact (Int.natCast_ediv _ _).symm
      rw [HQ.out] at HST HM2
      obtain ⟨fn, tmps, assign, body, hy, hR⟩ := HY.out pre (lv, m) wr HL.out.2.2.2 ⟨_, HST.out⟩
      dsimp only [lm] at hy
      gi_wp2
      refine hR.mono ?_
      rintro e W3 (⟨rfl, hJ3, hk3⟩ | ⟨rfl, hJx3⟩)
      · have HJ3 : Hid (J (pre ++ [(lv, m)]) W3) := hJ3
        have c3 : W3.cell? ⟨bh, 0, none⟩ = some (.int .i64 (k : Int)) := hk3.2.trans c1
        clear hJ3 hk3 hy hR
        gi_wp2
        go_roundw
        case rel => exact ⟨lv + 1, q, pre ++ [(lv, m)], by omega, by omega, by go_num, by first | rw [hsh] | rfl | go_num, HST.out, HM2.out, c3, HJ3.out⟩
        case measure => first | (rw [hsh]; simp [intOf]; omega) | (simp [intOf]; omega)
      · have HJ3 : Hid (Jx (pre ++ [(lv, m)]) W3) := hJx3
        clear hJx3 hy hR
        gi_wp2
        refine bodyPost_ret (results_none rfl _ _ _) rfl ?_
        exact ⟨⟨_, rfl⟩, .inr ⟨pre ++ [(lv, m)], ⟨_, HST.out⟩, HJ3.out⟩⟩
    · have h0' : ¬ (0 : Int) < (m : Int) := by omega
      have hm0 : m = 0 := by omega
      have HE : Hid (pre = R) := by have h := HL.out.1; rw [hm0, rowsL_zero, List.append_nil] at h; exact h
      gi_wp2
      go_end0
      have HJ : J R wr := by rw [← HE.out]; exact HL.out.2.2.2
      first | exact ⟨⟨_, rfl⟩, .inl HJ⟩ | exact ⟨⟨_, rfl⟩, .inl ⟨R, rfl, HJ⟩⟩
end Go.Proofs.Ytoakkoalkpfkmaa.d3
