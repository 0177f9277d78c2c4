import Derived.Test.YthppkdjekfginaaGreatDoorP4
import Derived.Deep.RegionHeld3
import Derived.Deep.RegionWith
namespace Go.Proofs.YthppkdjekfginaaGreatDoor.jf
open Go.RowKit Go.PlainAid
open Go.Proofs.YthppkdjekfginaaGreatDoor.pl Go.Proofs.YthppkdjekfginaaGreatDoor.pi Go.Proofs.YthppkdjekfginaaGreatDoor.pj Go.Proofs.YthppkdjekfginaaGreatDoor.rf Go.Proofs.YthppkdjekfginaaGreatDoor.ca Go.Proofs.YthppkdjekfginaaGreatDoor.cb Go.Proofs.YthppkdjekfginaaGreatDoor.cp Go.Proofs.YthppkdjekfginaaGreatDoor.ga Go.Proofs.YthppkdjekfginaaGreatDoor.gb Go.Proofs.YthppkdjekfginaaGreatDoor.aa Go.Proofs.YthppkdjekfginaaGreatDoor.ka Go.Proofs.YthppkdjekfginaaGreatDoor.kb Go.Proofs.YthppkdjekfginaaGreatDoor.kc Go.Proofs.YthppkdjekfginaaGreatDoor.kp Go.Proofs.YthppkdjekfginaaGreatDoor.mi Go.Proofs.YthppkdjekfginaaGreatDoor.lk Go.Proofs.YthppkdjekfginaaGreatDoor.co Go.Proofs.YthppkdjekfginaaGreatDoor.de Go.Proofs.YthppkdjekfginaaGreatDoor.dc Go.Proofs.YthppkdjekfginaaGreatDoor.qb Go.Proofs.YthppkdjekfginaaGreatDoor.qc Go.Proofs.YthppkdjekfginaaGreatDoor.ta Go.Proofs.YthppkdjekfginaaGreatDoor.tb Go.Proofs.YthppkdjekfginaaGreatDoor.tc Go.Proofs.YthppkdjekfginaaGreatDoor.ua Go.Proofs.YthppkdjekfginaaGreatDoor.uk Go.Proofs.YthppkdjekfginaaGreatDoor.ul Go.Proofs.YthppkdjekfginaaGreatDoor.um Go.Proofs.YthppkdjekfginaaGreatDoor.un Go.Proofs.YthppkdjekfginaaGreatDoor.ja Go.Proofs.YthppkdjekfginaaGreatDoor.jb Go.Proofs.YthppkdjekfginaaGreatDoor.jc Go.Proofs.YthppkdjekfginaaGreatDoor.je Go.Proofs.YthppkdjekfginaaGreatDoor.ya
set_option linter.unusedVariables false

theorem inP_le (ps : List (Nat × ByteArray)) (a b : Nat) : (inP ps a b).length ≤ ps.length := List.length_filter_le _ _
-- what stands in a box of two
theorem box2 (w : World) (x y : Value) (t : TypeId) : ∀ W', Below (w.alloc (.cells #[x, y] t)).heap.size (w.alloc (.cells #[x, y] t)) W' → W'.cell? ⟨w.heap.size, 0, none⟩ = some x ∧ W'.cell? ⟨w.heap.size, 1, none⟩ = some y := fun W' b => by
  have h := heap_alloc_new w (.cells #[x, y] t)
  have := (b.block _ (Array.getElem?_eq_some_iff.1 h).1).trans h
  exact ⟨cell_of_row _ _ 0 _ _ _ this, cell_of_row _ _ 1 _ _ _ this⟩
set_option maxRecDepth 100000 in
set_option maxHeartbeats 6400000 in
theorem countD {lk : Nat → Nat → Nat} {lf : Nat → ByteArray} (S : Sh lk) (n : Nat) : ∀ (a b : Nat) (q1 q2 : Value) (ps : List (Nat × ByteArray)) (w : World), b - a = n → a < b → b ≤ 4611686018427387904 → Rep lk lf ps a b → Aq w q1 q2 ps → ps.length * 16 ≤ 140737488351232 →
    Calls Tryz.prog 70 #[.agg #[q1, q2], .int .i64 a, .int .i64 b] w fun e w' => e = .returned (.int .i64 ((WL lk a b).length : Nat)) ∧ Below w.heap.size w w' := by
  induction n using Nat.strongRecOn with
  | ind n ih =>
    intro a b q1 q2 ps w hn hab hb hR hA hz
    obtain ⟨⟨ia, ic, rfl, hic, hih⟩, ⟨ta', tc, rfl, htc, hth⟩⟩ := id hA
    obtain ⟨l1, HL1⟩ : ∃ n, Hid ((zsP ps).length = n) := ⟨_, rfl⟩
    obtain ⟨l2, HL2⟩ : ∃ n, Hid ((csP ps).length = n) := ⟨_, rfl⟩
    rw [HL1.out] at hA ⊢
    rw [HL2.out] at hA ⊢
    have B0 : Hid (Below w.heap.size w (w.alloc (.cells #[.slice ia l1 ic, .slice ta' l2 tc] 61))) := (Below.refl _ _).alloc (Nat.le_refl _) _
    obtain ⟨s0, s1⟩ := box2 w (.slice ia l1 ic) (.slice ta' l2 tc) 61 _ (Below.refl _ _)
    have WC : Hid (Calls _ _ _ _ _) := within (.slice ia l1 ic) (.slice ta' l2 tc) ps a b (w.alloc (.cells #[.slice ia l1 ic, .slice ta' l2 tc] 61)) (hA.later B0.out) hz
    obtain ⟨xs, HXS⟩ : ∃ xs, Hid (inP ps a b = xs) := ⟨_, rfl⟩
    rw [HXS.out] at WC
    clear hih hth hic htc
    by_cases h0 : inP ps a b = []
    · rw [WL_take (hR.none hab h0)]
      have hx0 : xs.length = 0 := by rw [← HXS.out, h0]; rfl
      rw [hx0] at WC
      clear ih hR hA h0 hx0 hz hn hab hb HXS HL1 HL2
      go_enter Tryz.func70, Tryz.ntmps70
      go_wp2_with fail
      refine WC.out.mono ?_
      rintro e w2 ⟨⟨u1, u2, n1, c1, n2, c2, rfl, HN1, _, ha2⟩, hb2⟩
      have B2 : Hid (Below w.heap.size w w2) := over B0.out hb2
      have A2 : Hid (Aq w2 (.slice u1 n1 c1) (.slice u2 n2 c2) xs) := ha2
      clear hb2 ha2 s0 s1
      subst HN1
      have B3 : Hid (Below w.heap.size w (w2.alloc (.cells #[.slice u1 0 c1, .slice u2 n2 c2] 61))) := B2.out.alloc B2.out.size _
      obtain ⟨s0, s1⟩ := box2 w2 (.slice u1 0 c1) (.slice u2 n2 c2) 61 _ (Below.refl _ _)
      go_wp2
      go_ret
      exact ⟨rfl, B3.out⟩
    · by_cases h1 : (inP ps a b).length = b - a
      · rw [hR.full _ a b rfl (Nat.le_refl _) hab (Nat.le_refl _) h1]
        obtain ⟨L, HL⟩ : ∃ L, Hid (b - a = L) := ⟨_, rfl⟩
        have hx0 : xs.length = L := by rw [← HXS.out, h1, HL.out]
        rw [hx0] at WC
        have q1 : ((L : Int) == 0) = false := by rw [beq_eq_false_iff_ne]; have := HL.out; omega
        have q2 : (b : Int) - a = L := by have := HL.out; omega
        have q3 : IntKind.i64.wrap ((b : Int) - a) = (L : Int) := by rw [q2, IntKind.wrap_i64]; have := HL.out; omega
        have q4 : IntKind.i64.wrap (L : Int) = (L : Int) := by rw [IntKind.wrap_i64]; have := HL.out; omega
        clear ih hR hA h0 hx0 hz hn hab hb HXS HL1 HL2 h1
        go_enter Tryz.func70, Tryz.ntmps70
        go_wp2_with fail
        refine WC.out.mono ?_
        rintro e w2 ⟨⟨u1, u2, n1, c1, n2, c2, rfl, HN1, _, ha2⟩, hb2⟩
        have B2 : Hid (Below w.heap.size w w2) := over B0.out hb2
        have A2 : Hid (Aq w2 (.slice u1 n1 c1) (.slice u2 n2 c2) xs) := ha2
        clear hb2 ha2 s0 s1
        subst HN1
        have B3 : Hid (Below w.heap.size w (w2.alloc (.cells #[.slice u1 n1 c1, .slice u2 n2 c2] 61))) := B2.out.alloc B2.out.size _
        obtain ⟨s0, s1⟩ := box2 w2 (.slice u1 n1 c1) (.slice u2 n2 c2) 61 _ (Below.refl _ _)
        go_wp2
        go_ret
        exact ⟨rfl, B3.out⟩
      · have hle := inP_len hR.r _ a b rfl
        have hpos : (inP ps a b).length ≠ 0 := fun e => h0 (List.length_eq_zero_iff.1 e)
        have h2 : 2 ≤ b - a := by omega
        have hh := half_lt h2
        have hc := hR.count hab h0 h2
        have w1 := WL_le S _ a (a + half (b - a)) rfl (by omega)
        have w2' := WL_le S _ (a + half (b - a)) b rfl (by omega)
        have R1 := hR.sub (c := a) (d := a + half (b - a)) (Nat.le_refl _) (by omega)
        have R2 := hR.sub (c := a + half (b - a)) (d := b) (by omega) (Nat.le_refl _)
        rw [HXS.out] at R1 R2
        have hxz : xs.length * 16 ≤ 140737488351232 := by have := inP_le ps a b; rw [HXS.out] at this; omega
        have C1 : Hid (∀ v1 v2 W, Aq W v1 v2 xs → Calls _ _ _ _ _) := fun v1 v2 W h => ih (half (b - a)) (by omega) a (a + half (b - a)) v1 v2 xs W (by omega) (by omega) (by omega) R1 h hxz
        have C2 : Hid (∀ v1 v2 W, Aq W v1 v2 xs → Calls _ _ _ _ _) := fun v1 v2 W h => ih (b - (a + half (b - a))) (by omega) (a + half (b - a)) b v1 v2 xs W rfl (by omega) hb R2 h hxz
        have HC : Hid (∀ w, Calls _ _ _ _ _) := fun w => xhalf (b - a) h2 (by omega) w
        have ek : ((a + half (b - a) : Nat) : Int) = (a : Int) + (half (b - a) : Nat) := by omega
        rw [ek] at C1 C2
        rw [hc]
        have x1 : (inP ps a b).length ≠ b - a := h1
        rw [HXS.out] at hpos x1 hle
        obtain ⟨k1, HK1⟩ : ∃ k, Hid ((WL lk a (a + half (b - a))).length = k) := ⟨_, rfl⟩
        obtain ⟨k2, HK2⟩ : ∃ k, Hid ((WL lk (a + half (b - a)) b).length = k) := ⟨_, rfl⟩
        rw [HK1.out] at C1 w1 ⊢
        rw [HK2.out] at C2 w2' ⊢
        obtain ⟨m, HM⟩ : ∃ k, Hid (half (b - a) = k) := ⟨_, rfl⟩
        rw [HM.out] at HC C1 C2 hh w1 w2'
        obtain ⟨L, HL⟩ : ∃ k, Hid (b - a = k) := ⟨_, rfl⟩
        have q2 : (b : Int) - a = L := by have := HL.out; omega
        have q3 : IntKind.i64.wrap ((b : Int) - a) = (L : Int) := by rw [q2, IntKind.wrap_i64]; have := HL.out; omega
        have q4 : IntKind.i64.wrap (L : Int) = (L : Int) := by rw [IntKind.wrap_i64]; have := HL.out; omega
        have q5 : IntKind.i64.wrap ((a : Int) + m) = (a : Int) + m := by rw [IntKind.wrap_i64]; omega
        have q6 : IntKind.i64.wrap ((k1 : Int) + k2) = (k1 : Int) + k2 := by rw [IntKind.wrap_i64]; omega
        rw [HL.out] at HC x1
        obtain ⟨N1, HNN⟩ : ∃ k, Hid (xs.length = k) := ⟨_, rfl⟩
        rw [HNN.out] at WC hpos x1
        have q7 : ((N1 : Int) == 0) = false := by rw [beq_eq_false_iff_ne]; omega
        have q8 : ((N1 : Int) == L) = false := by rw [beq_eq_false_iff_ne]; omega
        clear ih hR hA h0 hz hn hab hb HXS HL1 HL2 h1 hle hpos h2 hh hc w1 w2' R1 R2 hxz ek x1 HK1 HK2 HM HL HNN
        go_enter Tryz.func70, Tryz.ntmps70
        go_wp2_with fail
        refine WC.out.mono ?_
        rintro e w2 ⟨⟨u1, u2, n1, c1, n2, c2, rfl, HN1, _, ha2⟩, hb2⟩
        have B2 : Hid (Below w.heap.size w w2) := over B0.out hb2
        have A2 : Hid (Aq w2 (.slice u1 n1 c1) (.slice u2 n2 c2) xs) := ha2
        clear hb2 ha2 s0 s1
        subst HN1
        obtain ⟨V, HV⟩ : ∃ V, Hid (V = w2.alloc (.cells #[.slice u1 n1 c1, .slice u2 n2 c2] 61)) := ⟨_, rfl⟩
        have hv : w2.alloc (.cells #[.slice u1 n1 c1, .slice u2 n2 c2] 61) = V := HV.out.symm
        have BV : Hid (Below w2.heap.size w2 V) := by rw [HV.out]; exact (Below.refl _ _).alloc (Nat.le_refl _) _
        have SX : Hid (∀ W', Below V.heap.size V W' → Below V.heap.size V W' ∧ W'.cell? ⟨w2.heap.size, 0, none⟩ = some (.slice u1 n1 c1) ∧ W'.cell? ⟨w2.heap.size, 1, none⟩ = some (.slice u2 n2 c2)) := fun W' b => ⟨b, by have := HV.out; subst this; exact box2 w2 _ _ _ W' b⟩
        have AX : Hid (∀ W', Below V.heap.size V W' → Aq W' (.slice u1 n1 c1) (.slice u2 n2 c2) xs) := fun W' b => A2.out.later (over BV.out b)
        obtain ⟨_, s0, s1⟩ := SX.out V (Below.refl _ _)
        clear HV
        go_wp2_with fail
        try rw [hv]
        refine (HC.out _).mono ?_
        rintro e w3 ⟨rfl, hw3⟩
        rw [hw3]
        clear hw3
        have KV : Hid (Below V.heap.size V V.drew) := below_dr (Below.refl _ _)
        go_wp2_with fail
        go_region_held3 (fun W' => Below V.heap.size V W' ∧ W'.cell? ⟨w2.heap.size, 0, none⟩ = some (.slice u1 n1 c1) ∧ W'.cell? ⟨w2.heap.size, 1, none⟩ = some (.slice u2 n2 c2)) (first | exact SX.out _ KV.out | exact SX.out _ K7.out | exact SX.out _ K8.out) (first | (go_at_call 70; (with_reducible refine (C1.out _ _ _ (AX.out _ KV.out)).mono ?_); rintro e w7 ⟨rfl, hb7⟩; have K7 : Hid (Below V.heap.size V w7) := over KV.out hb7; clear hb7) | (go_at_call 70; (with_reducible refine (C2.out _ _ _ (AX.out _ K7.out)).mono ?_); rintro e w8 ⟨rfl, hb8⟩; have K8 : Hid (Below V.heap.size V w8) := over K7.out hb8; clear hb8))
        go_wp2
        go_ret
        exact ⟨by go_num, over B2.out (over BV.out K8.out)⟩
end Go.Proofs.YthppkdjekfginaaGreatDoor.jf

namespace Go.Proofs.YthppkdjekfginaaGreatDoor.jg
open Go.RowKit Go.PlainAid
open Go.Proofs.YthppkdjekfginaaGreatDoor.pl Go.Proofs.YthppkdjekfginaaGreatDoor.pi Go.Proofs.YthppkdjekfginaaGreatDoor.pj Go.Proofs.YthppkdjekfginaaGreatDoor.rf Go.Proofs.YthppkdjekfginaaGreatDoor.ca Go.Proofs.YthppkdjekfginaaGreatDoor.cb Go.Proofs.YthppkdjekfginaaGreatDoor.cp Go.Proofs.YthppkdjekfginaaGreatDoor.ga Go.Proofs.YthppkdjekfginaaGreatDoor.gb Go.Proofs.YthppkdjekfginaaGreatDoor.aa Go.Proofs.YthppkdjekfginaaGreatDoor.ka Go.Proofs.YthppkdjekfginaaGreatDoor.kb Go.Proofs.YthppkdjekfginaaGreatDoor.kc Go.Proofs.YthppkdjekfginaaGreatDoor.kp Go.Proofs.YthppkdjekfginaaGreatDoor.mi Go.Proofs.YthppkdjekfginaaGreatDoor.lk Go.Proofs.YthppkdjekfginaaGreatDoor.co Go.Proofs.YthppkdjekfginaaGreatDoor.de Go.Proofs.YthppkdjekfginaaGreatDoor.dc Go.Proofs.YthppkdjekfginaaGreatDoor.qb Go.Proofs.YthppkdjekfginaaGreatDoor.qc Go.Proofs.YthppkdjekfginaaGreatDoor.ta Go.Proofs.YthppkdjekfginaaGreatDoor.tb Go.Proofs.YthppkdjekfginaaGreatDoor.tc Go.Proofs.YthppkdjekfginaaGreatDoor.ua Go.Proofs.YthppkdjekfginaaGreatDoor.uk Go.Proofs.YthppkdjekfginaaGreatDoor.ul Go.Proofs.YthppkdjekfginaaGreatDoor.um Go.Proofs.YthppkdjekfginaaGreatDoor.un Go.Proofs.YthppkdjekfginaaGreatDoor.ja Go.Proofs.YthppkdjekfginaaGreatDoor.jb Go.Proofs.YthppkdjekfginaaGreatDoor.jc Go.Proofs.YthppkdjekfginaaGreatDoor.je Go.Proofs.YthppkdjekfginaaGreatDoor.ya Go.Proofs.YthppkdjekfginaaGreatDoor.jf
set_option linter.unusedVariables false
set_option maxRecDepth 100000 in
set_option maxHeartbeats 12800000 in
theorem claimD (wd : Int) {lk : Nat → Nat → Nat} {lf : Nat → ByteArray} (S : Sh lk) (n : Nat) : ∀ (a b : Nat) (q1 q2 : Value) (ps : List (Nat × ByteArray)) (v : Value) (pf : List ByteArray) (w : World), b - a = n → a < b → b ≤ 4611686018427387904 → Rep lk lf ps a b → Aq w q1 q2 ps → ps.length * 16 ≤ 140737488351232 → (∀ p ∈ ps, p.2.size ≤ 140737488352000) → pf.length = (WL lk a b).length → Wide wd pf → ReadsT w v pf → pf.length ≤ 140737488355328 → Tab4 w →
    Calls Tryz.prog 71 #[.int .i64 wd, .agg #[q1, q2], .int .i64 a, .int .i64 b, v] w fun e w' => e = .returned (.string (clM wd lk lf pf a b).sum) ∧ Below w.heap.size w w' := by
  induction n using Nat.strongRecOn with
  | ind n ih =>
    intro a b q1 q2 ps v pf w hn hab hb hR hA hz hsz hl hw hRv hpz hT
    have h32 := qb.wid_le wd
    have RT0 : Hid (ReadsT w v pf) := hRv
    have HT : Hid (Tab4 w) := hT
    obtain ⟨pa, pc, rfl, hpc, hph⟩ := hRv
    obtain ⟨⟨ia, ic, rfl, hic, hih⟩, ⟨ta', tc, rfl, htc, hth⟩⟩ := id hA
    obtain ⟨l1, HL1⟩ : ∃ n, Hid ((zsP ps).length = n) := ⟨_, rfl⟩
    obtain ⟨l2, HL2⟩ : ∃ n, Hid ((csP ps).length = n) := ⟨_, rfl⟩
    rw [HL1.out] at hA ⊢
    rw [HL2.out] at hA ⊢
    have B0 : Hid (Below w.heap.size w (w.alloc (.cells #[.slice ia l1 ic, .slice ta' l2 tc] 61))) := (Below.refl _ _).alloc (Nat.le_refl _) _
    obtain ⟨s0, s1⟩ := box2 w (.slice ia l1 ic) (.slice ta' l2 tc) 61 _ (Below.refl _ _)
    have WC : Hid (Calls _ _ _ _ _) := within (.slice ia l1 ic) (.slice ta' l2 tc) ps a b (w.alloc (.cells #[.slice ia l1 ic, .slice ta' l2 tc] 61)) (hA.later B0.out) hz
    obtain ⟨xs, HXS⟩ : ∃ xs, Hid (inP ps a b = xs) := ⟨_, rfl⟩
    rw [HXS.out] at WC
    clear hih hth hic htc
    by_cases h0 : inP ps a b = []
    · have h1 := hR.none hab h0
      rw [WL_take h1] at hl
      have hl1 : pf.length = 1 := hl
      have AC : Hid (∀ W', Below w.heap.size w W' → Calls Tryz.prog 25 #[.slice pa pf.length pc, .int .i64 0] W' fun e w' => e = .returned (.string (pf.getD (pf.length - 1 - 0) ByteArray.empty)) ∧ w' = W') := fun W' b => xat _ pf 0 W' (RT0.out.later b) (by omega) hpz
      rw [clM_bare h1]
      show Calls _ _ _ _ fun e w' => e = .returned (.string (pf.headD ByteArray.empty)) ∧ _
      rw [show pf.headD ByteArray.empty = pf.getD 0 ByteArray.empty from by cases pf <;> rfl]
      rw [hl1] at AC ⊢
      have AC2 : Hid (∀ W', Below w.heap.size w W' → Calls Tryz.prog 25 #[.slice pa 1 pc, .int .i64 0] W' fun e w' => e = .returned (.string (pf.getD 0 ByteArray.empty)) ∧ w' = W') := AC.out
      obtain ⟨y, HY⟩ : ∃ y, Hid (pf.getD 0 ByteArray.empty = y) := ⟨_, rfl⟩
      rw [HY.out] at AC2 ⊢
      have hx0 : xs.length = 0 := by rw [← HXS.out, h0]; rfl
      rw [hx0] at WC
      clear ih hR hA h0 hx0 hz hn hab hb HXS HL1 HL2 AC hl hl1 h1 hpc hph hw hsz hpz hT h32 HY RT0
      go_enter Tryz.func71, Tryz.ntmps71
      go_wp2_with fail
      refine WC.out.mono ?_
      rintro e w2 ⟨⟨u1, u2, n1, c1, n2, c2, rfl, HN1, _, ha2⟩, hb2⟩
      have B2 : Hid (Below w.heap.size w w2) := over B0.out hb2
      have A2 : Hid (Aq w2 (.slice u1 n1 c1) (.slice u2 n2 c2) xs) := ha2
      clear hb2 ha2 s0 s1
      subst HN1
      have B3 : Hid (Below w.heap.size w (w2.alloc (.cells #[.slice u1 0 c1, .slice u2 n2 c2] 61))) := B2.out.alloc B2.out.size _
      obtain ⟨s0, s1⟩ := box2 w2 (.slice u1 0 c1) (.slice u2 n2 c2) 61 _ (Below.refl _ _)
      go_wp2_with fail
      refine (AC2.out _ B3.out).mono ?_
      rintro e w3 ⟨rfl, hw3⟩
      rw [hw3]
      clear hw3
      go_wp2
      go_ret
      exact ⟨rfl, B3.out⟩
    · have hk1 := hR.some hab h0
      by_cases h1 : b - a = 1
      · have hlf := hR.leaf h1 h0
        rw [clM_leaf hk1 (by omega)]
        have hzl : (lf a).size ≤ 140737488352000 := hsz (a, lf a) (by have := (inP_mem (ps := ps) (a := a) (b := b) (p := (a, lf a))).1 (by rw [hlf]; exact List.mem_cons_self); exact this.1)
        show Calls _ _ _ _ fun e w' => e = .returned (.string (HH wd (tx0 (lf a)))) ∧ _
        have LC : Hid (∀ W', Tab4 W' → Calls Tryz.prog 57 #[.int .i64 wd, .string (lf a)] W' fun e w' => e = .returned (.string (HH wd (tx0 (lf a)))) ∧ Below W'.heap.size W' w') := fun W' h => rLeaf wd (lf a) hzl W' h
        obtain ⟨y, HY⟩ : ∃ y, Hid (lf a = y) := ⟨_, rfl⟩
        rw [HY.out] at LC ⊢
        obtain ⟨z, HZ⟩ : ∃ z, Hid (HH wd (tx0 y) = z) := ⟨_, rfl⟩
        rw [HZ.out] at LC ⊢
        have hxs : xs = [(a, y)] := by rw [← HXS.out, hlf, HY.out]
        have HX1 : Hid (xs = [(a, y)]) := hxs
        have hx0 : xs.length = 1 := by rw [hxs]; rfl
        rw [hx0] at WC
        have q2 : (b : Int) - a = 1 := by omega
        have q3 : IntKind.i64.wrap ((b : Int) - a) = 1 := by rw [q2, IntKind.wrap_i64]; decide
        clear ih hR hA h0 hx0 hz hn hab hb HXS HL1 HL2 hl h1 hpc hph hw hsz hpz hT h32 HY HZ RT0 hlf hzl hk1 hxs
        go_enter Tryz.func71, Tryz.ntmps71
        go_wp2_with fail
        refine WC.out.mono ?_
        rintro e w2 ⟨⟨u1, u2, n1, c1, n2, c2, rfl, HN1, _, ha2⟩, hb2⟩
        have B2 : Hid (Below w.heap.size w w2) := over B0.out hb2
        have A2 : Hid (Aq w2 (.slice u1 n1 c1) (.slice u2 n2 c2) xs) := ha2
        clear hb2 ha2 s0 s1
        subst HN1
        have B3 : Hid (Below w.heap.size w (w2.alloc (.cells #[.slice u1 1 c1, .slice u2 n2 c2] 61))) := B2.out.alloc B2.out.size _
        obtain ⟨s0, s1⟩ := box2 w2 (.slice u1 1 c1) (.slice u2 n2 c2) 61 _ (Below.refl _ _)
        obtain ⟨g, off, hu2, hn2, hc9⟩ : ∃ g off, u2 = some ⟨g, off, none⟩ ∧ n2 = 1 ∧ w2.cell? ⟨g, off, none⟩ = some (.string y) := by
          obtain ⟨a', c', e, _, hh⟩ := A2.out.t
          rw [HX1.out] at e hh
          injection e with e1 e2 e3
          obtain ⟨g, off, hg, hc⟩ := hh.resolve_left (show ¬ (csP [(a, y)]).length = 0 from Nat.one_ne_zero)
          exact ⟨g, off, by rw [e1, hg], by rw [e2]; rfl, hc 0 (show 0 < (csP [(a, y)]).length from Nat.zero_lt_one)⟩
        subst hu2
        subst hn2
        have c9 : (w2.alloc (.cells #[.slice u1 1 c1, .slice (some ⟨g, off, none⟩) 1 c2] 61)).cell? ⟨g, off, none⟩ = some (.string y) := (World.cell?_alloc_lt _ _ _ (World.block_lt_of_cell? _ _ hc9)).trans hc9
        clear hc9 A2
        go_wp2_with fail
        refine (LC.out _ (HT.out.down B3.out)).mono ?_
        rintro e w3 ⟨rfl, hb3⟩
        have B4 : Hid (Below w.heap.size w w3) := over B3.out hb3
        clear hb3
        go_wp2
        go_ret
        exact ⟨rfl, B4.out⟩
      · have hle := inP_len hR.r _ a b rfl
        have hpos : (inP ps a b).length ≠ 0 := fun e => h0 (List.length_eq_zero_iff.1 e)
        have h2 : 2 ≤ b - a := by omega
        have hh := half_lt h2
        have hc := hR.count hab h0 h2
        have w1 := WL_le S _ a (a + half (b - a)) rfl (by omega)
        have w2' := WL_le S _ (a + half (b - a)) b rfl (by omega)
        have R1 := hR.sub (c := a) (d := a + half (b - a)) (Nat.le_refl _) (by omega)
        have R2 := hR.sub (c := a + half (b - a)) (d := b) (by omega) (Nat.le_refl _)
        have hs2 : ∀ p ∈ xs, p.2.size ≤ 140737488352000 := fun p hp => hsz p (by rw [← HXS.out] at hp; exact (inP_mem.1 hp).1)
        rw [HXS.out] at R1 R2
        have hxz : xs.length * 16 ≤ 140737488351232 := by have := inP_le ps a b; rw [HXS.out] at this; omega
        have hlen1 : (pf.take (WL lk a (a + half (b - a))).length).length = (WL lk a (a + half (b - a))).length := by rw [List.length_take]; omega
        have hlen2 : (pf.drop (WL lk a (a + half (b - a))).length).length = (WL lk (a + half (b - a)) b).length := by rw [List.length_drop]; omega
        have ww1 : Wide wd (pf.take (WL lk a (a + half (b - a))).length) := fun y hy => hw y (List.mem_of_mem_take hy)
        have ww2 : Wide wd (pf.drop (WL lk a (a + half (b - a))).length) := hw.drop _
        have z1 := clM_size (lf := lf) (a := a) (b := a + half (b - a)) S (by omega) ww1
        have z2 := clM_size (lf := lf) (a := a + half (b - a)) (b := b) S (by omega) ww2
        have C1 : Hid (∀ v1 v2 W, Aq W v1 v2 xs → Calls _ _ _ _ _) := fun v1 v2 W h => countD S (half (b - a)) a (a + half (b - a)) v1 v2 xs W (by omega) (by omega) (by omega) R1 h hxz
        have I3 : Hid (∀ v1 v2 v W, Aq W v1 v2 xs → ReadsT W v (pf.take (WL lk a (a + half (b - a))).length) → Below w.heap.size w W → Calls _ _ _ _ _) := fun v1 v2 v W h h' b' => ih (half (b - a)) (by omega) a (a + half (b - a)) v1 v2 xs v _ W (by omega) (by omega) (by omega) R1 h hxz hs2 hlen1 ww1 h' (by omega) (HT.out.down b')
        have I4 : Hid (∀ v1 v2 v W, Aq W v1 v2 xs → ReadsT W v (pf.drop (WL lk a (a + half (b - a))).length) → Below w.heap.size w W → Calls _ _ _ _ _) := fun v1 v2 v W h h' b' => ih (b - (a + half (b - a))) (by omega) (a + half (b - a)) b v1 v2 xs v _ W rfl (by omega) hb R2 h hxz hs2 hlen2 ww2 h' (by omega) (HT.out.down b')
        have HC : Hid (∀ w, Calls _ _ _ _ _) := fun w => xhalf (b - a) h2 (by omega) w
        have ek : ((a + half (b - a) : Nat) : Int) = (a : Int) + (half (b - a) : Nat) := by omega
        rw [ek] at C1 I3 I4
        rw [clM_two S (hR.two hab h0 h2) h2]
        show Calls _ _ _ _ fun e w' => e = .returned (.string (NF wd (clM wd lk lf (pf.take (WL lk a (a + half (b - a))).length) a (a + half (b - a))).sum (clM wd lk lf (pf.drop (WL lk a (a + half (b - a))).length) (a + half (b - a)) b).sum)) ∧ _
        obtain ⟨y1, HY1⟩ : ∃ y, Hid ((clM wd lk lf (pf.take (WL lk a (a + half (b - a))).length) a (a + half (b - a))).sum = y) := ⟨_, rfl⟩
        obtain ⟨y2, HY2⟩ : ∃ y, Hid ((clM wd lk lf (pf.drop (WL lk a (a + half (b - a))).length) (a + half (b - a)) b).sum = y) := ⟨_, rfl⟩
        rw [HY1.out] at I3 z1 ⊢
        rw [HY2.out] at I4 z2 ⊢
        have NC : Hid (∀ W', Tab4 W' → Calls _ _ _ _ _) := fun W' h => rNode wd y1 y2 (by omega) W' h
        obtain ⟨z, HZ⟩ : ∃ z, Hid (NF wd y1 y2 = z) := ⟨_, rfl⟩
        rw [HZ.out] at NC ⊢
        rw [HXS.out] at hpos
        obtain ⟨k1, HK1⟩ : ∃ k, Hid ((WL lk a (a + half (b - a))).length = k) := ⟨_, rfl⟩
        have hkl : k1 ≤ pf.length := by have := HK1.out; omega
        rw [HK1.out] at C1 I3 I4 w1
        obtain ⟨l, HNP⟩ : ∃ k, Hid (pf.length = k) := ⟨_, rfl⟩
        rw [HNP.out] at hkl hpc RT0 hpz ⊢
        have C3 : Hid (∀ v1 v2 W, Aq W v1 v2 xs → Below w.heap.size w W → Calls _ _ _ _ _) := fun v1 v2 W h b' => I3.out v1 v2 (.slice pa k1 pc) W h (reads_head (RT0.out.later b') (by rw [HNP.out]; exact hkl)) b'
        obtain ⟨m, HM⟩ : ∃ k, Hid (half (b - a) = k) := ⟨_, rfl⟩
        rw [HM.out] at HC C1 C3 I4 hh w1 w2'
        obtain ⟨L, HL⟩ : ∃ k, Hid (b - a = k) := ⟨_, rfl⟩
        have q2 : (b : Int) - a = L := by have := HL.out; omega
        have q3 : IntKind.i64.wrap ((b : Int) - a) = (L : Int) := by rw [q2, IntKind.wrap_i64]; have := HL.out; omega
        have q4 : IntKind.i64.wrap (L : Int) = (L : Int) := by rw [IntKind.wrap_i64]; have := HL.out; omega
        have q5 : IntKind.i64.wrap ((a : Int) + m) = (a : Int) + m := by rw [IntKind.wrap_i64]; omega
        have q9 : ((L : Int) == 1) = false := by rw [beq_eq_false_iff_ne]; have := HL.out; omega
        rw [HL.out] at HC
        obtain ⟨N1, HNN⟩ : ∃ k, Hid (xs.length = k) := ⟨_, rfl⟩
        rw [HNN.out] at WC hpos
        have q7 : ((N1 : Int) == 0) = false := by rw [beq_eq_false_iff_ne]; omega
        have q10 : ¬ (l : Int) < k1 := by omega
        have q11 : (k1 : Int) ≤ l := by omega
        have q12 : (k1 : Int) ≤ pc := by omega
        have q13 : k1 ≤ pc := by omega
        have q14 : IntKind.i64.wrap (k1 : Int) = k1 := by rw [IntKind.wrap_i64]; omega
        clear hs2 hlen1 hlen2 ww1 ww2 z1 z2 HY1 HY2 HZ hsz hT h32 hk1 hph I3
        have HPL : Hid (pf.length = l) := HNP.out
        clear HNP
        obtain ⟨pq, hpq⟩ : ∃ pq, (if pc = k1 then pa else Option.map (fun x => x.add k1) pa) = pq := ⟨_, rfl⟩
        have RT2 : Hid (∀ W', Below w.heap.size w W' → ReadsT W' (.slice pq (l - k1) (pc - k1)) (pf.drop k1)) := fun W' b => by
          rw [← hpq]
          by_cases hcap : pc = k1
          · rw [if_pos hcap]
            have hl0 : l - k1 = 0 := by omega
            rw [show pc - k1 = 0 by omega]
            exact reads_tail1 (RT0.out.later b) (by rw [HPL.out]; exact hkl) hl0
          · rw [if_neg hcap]
            exact reads_tail (RT0.out.later b) (by rw [HPL.out]; exact hkl)
        have C4 : Hid (∀ v1 v2 W, Aq W v1 v2 xs → Below w.heap.size w W → Calls _ _ _ _ _) := fun v1 v2 W h b => I4.out v1 v2 _ W h (RT2.out W b) b
        clear RT2 I4 RT0
        clear ih hR hA h0 hz hn hab hb HXS HL1 HL2 h2 hh hc w1 w2' R1 R2 hxz ek HK1 HM HL HNN hpos h1 hl hw hle hpc HPL hkl
        go_enter Tryz.func71, Tryz.ntmps71
        go_wp2_with fail
        refine WC.out.mono ?_
        rintro e w2 ⟨⟨u1, u2, n1, c1, n2, c2, rfl, HN1, _, ha2⟩, hb2⟩
        have B2 : Hid (Below w.heap.size w w2) := over B0.out hb2
        have A2 : Hid (Aq w2 (.slice u1 n1 c1) (.slice u2 n2 c2) xs) := ha2
        clear hb2 ha2 s0 s1
        subst HN1
        obtain ⟨V, HV⟩ : ∃ V, Hid (V = w2.alloc (.cells #[.slice u1 n1 c1, .slice u2 n2 c2] 61)) := ⟨_, rfl⟩
        have hv : w2.alloc (.cells #[.slice u1 n1 c1, .slice u2 n2 c2] 61) = V := HV.out.symm
        have BV : Hid (Below w2.heap.size w2 V) := by rw [HV.out]; exact (Below.refl _ _).alloc (Nat.le_refl _) _
        have SX : Hid (∀ W', Below V.heap.size V W' → Below V.heap.size V W' ∧ W'.cell? ⟨w2.heap.size, 0, none⟩ = some (.slice u1 n1 c1) ∧ W'.cell? ⟨w2.heap.size, 1, none⟩ = some (.slice u2 n2 c2)) := fun W' b => ⟨b, by have := HV.out; subst this; exact box2 w2 _ _ _ W' b⟩
        have AX : Hid (∀ W', Below V.heap.size V W' → Aq W' (.slice u1 n1 c1) (.slice u2 n2 c2) xs) := fun W' b => A2.out.later (over BV.out b)
        have BX : Hid (∀ W', Below V.heap.size V W' → Below w.heap.size w W') := fun W' b => over B2.out (over BV.out b)
        obtain ⟨_, s0, s1⟩ := SX.out V (Below.refl _ _)
        clear HV
        go_wp2_with fail
        try rw [hv]
        refine (HC.out _).mono ?_
        rintro e w3 ⟨rfl, hw3⟩
        rw [hw3]
        clear hw3
        go_wp2_with fail
        refine (C1.out _ _ _ (AX.out _ (Below.refl _ _))).mono ?_
        rintro e w4 ⟨rfl, hb4⟩
        have K4 : Hid (Below V.heap.size V w4) := hb4
        clear hb4 s0 s1
        obtain ⟨_, s0, s1⟩ := SX.out w4 K4.out
        have KD : Hid (Below V.heap.size V w4.drew) := below_dr K4.out
        go_wp2_with fail
        go_region_held3 (fun W' => Below V.heap.size V W' ∧ W'.cell? ⟨w2.heap.size, 0, none⟩ = some (.slice u1 n1 c1) ∧ W'.cell? ⟨w2.heap.size, 1, none⟩ = some (.slice u2 n2 c2)) (first | exact SX.out _ KD.out | exact SX.out _ K7.out) ((go_at_call 71; refine (C3.out _ _ _ (AX.out _ KD.out) (BX.out _ KD.out)).mono ?_; rintro e w7 ⟨rfl, hb7⟩; have K7 : Hid (Below V.heap.size V w7) := over KD.out hb7; clear hb7))
        clear s0 s1
        obtain ⟨_, s0, s1⟩ := SX.out w7 K7.out
        have KE : Hid (Below V.heap.size V w7.drew) := below_dr K7.out
        go_wp2_with fail
        go_region_held3 (fun W' => Below V.heap.size V W' ∧ W'.cell? ⟨w2.heap.size, 0, none⟩ = some (.slice u1 n1 c1) ∧ W'.cell? ⟨w2.heap.size, 1, none⟩ = some (.slice u2 n2 c2)) (first | exact SX.out _ KE.out | exact SX.out _ K8.out) ((go_at_call 71; refine (C4.out _ _ _ (AX.out _ KE.out) (BX.out _ KE.out)).mono ?_; rintro e w8 ⟨rfl, hb8⟩; have K8 : Hid (Below V.heap.size V w8) := over KE.out hb8; clear hb8))
        go_wp2_with fail
        refine (NC.out _ (HT.out.down (BX.out _ K8.out))).mono ?_
        rintro e w9 ⟨rfl, hb9⟩
        have K9 : Hid (Below V.heap.size V w9) := over K8.out hb9
        clear hb9
        go_wp2
        go_ret
        exact ⟨rfl, BX.out _ K9.out⟩
end Go.Proofs.YthppkdjekfginaaGreatDoor.jg
