import Derived.Test.YthppkdjekfginaaGreatDoorO4
import Derived.Test.YthppkdjekfginaaGreatDoorY1
import Derived.Test.YthppkdjekfginaaGreatDoorO1
import Derived.Test.YthppkdjekfginaaGreatDoorO3
import Derived.Test.YthppkdjekfginaaGreatDoorG4
namespace Go.Proofs.YthppkdjekfginaaGreatDoor.jl
open Go.RowKit Go.PlainAid
open Go.Proofs.YthppkdjekfginaaGreatDoor.pl Go.Proofs.YthppkdjekfginaaGreatDoor.pi Go.Proofs.YthppkdjekfginaaGreatDoor.pj Go.Proofs.YthppkdjekfginaaGreatDoor.ca Go.Proofs.YthppkdjekfginaaGreatDoor.cb Go.Proofs.YthppkdjekfginaaGreatDoor.cp Go.Proofs.YthppkdjekfginaaGreatDoor.ga Go.Proofs.YthppkdjekfginaaGreatDoor.gb Go.Proofs.YthppkdjekfginaaGreatDoor.aa Go.Proofs.YthppkdjekfginaaGreatDoor.ba Go.Proofs.YthppkdjekfginaaGreatDoor.bb Go.Proofs.YthppkdjekfginaaGreatDoor.ka Go.Proofs.YthppkdjekfginaaGreatDoor.kb Go.Proofs.YthppkdjekfginaaGreatDoor.kc Go.Proofs.YthppkdjekfginaaGreatDoor.kp Go.Proofs.YthppkdjekfginaaGreatDoor.lk Go.Proofs.YthppkdjekfginaaGreatDoor.dc Go.Proofs.YthppkdjekfginaaGreatDoor.qa Go.Proofs.YthppkdjekfginaaGreatDoor.qb Go.Proofs.YthppkdjekfginaaGreatDoor.qc Go.Proofs.YthppkdjekfginaaGreatDoor.ta Go.Proofs.YthppkdjekfginaaGreatDoor.tb Go.Proofs.YthppkdjekfginaaGreatDoor.td Go.Proofs.YthppkdjekfginaaGreatDoor.tc Go.Proofs.YthppkdjekfginaaGreatDoor.ua Go.Proofs.YthppkdjekfginaaGreatDoor.ub Go.Proofs.YthppkdjekfginaaGreatDoor.ma Go.Proofs.YthppkdjekfginaaGreatDoor.uh Go.Proofs.YthppkdjekfginaaGreatDoor.ui Go.Proofs.YthppkdjekfginaaGreatDoor.uj Go.Proofs.YthppkdjekfginaaGreatDoor.uk Go.Proofs.YthppkdjekfginaaGreatDoor.ul Go.Proofs.YthppkdjekfginaaGreatDoor.um Go.Proofs.YthppkdjekfginaaGreatDoor.un Go.Proofs.YthppkdjekfginaaGreatDoor.uo Go.Proofs.YthppkdjekfginaaGreatDoor.uq Go.Proofs.YthppkdjekfginaaGreatDoor.qj Go.Proofs.YthppkdjekfginaaGreatDoor.oa Go.Proofs.YthppkdjekfginaaGreatDoor.oc Go.Proofs.YthppkdjekfginaaGreatDoor.ye Go.Proofs.YthppkdjekfginaaGreatDoor.ya Go.Proofs.YthppkdjekfginaaGreatDoor.jk Go.Proofs.YthppkdjekfginaaGreatDoor.jh Go.Proofs.YthppkdjekfginaaGreatDoor.rf
set_option linter.unusedVariables false

set_option maxRecDepth 100000 in
set_option maxHeartbeats 25600000 in
theorem xOld (wd i : Int) (vl : Value) (xs : List ByteArray) (old : ByteArray) (vp : Value) (proof : List ByteArray) (w : World) (hl : ReadsT w vl xs) (hno : ∀ k c, vl = .slice none k c → c = 0) (hp : ReadsT w vp proof) (hx : Fits xs) (zp : proof.length ≤ 140737488355328) (hT : Tab4 w) :
    Calls Tryz.prog 10 #[.int .i64 wd, vl, .int .i64 i, .string old, vp] w fun e w' => e = .returned (clV (oldX wd i xs old proof)) ∧ Below w.heap.size w w' := by
  have RD : Hid (ReadsT w vl xs ∧ ReadsT w vp proof ∧ Tab4 w ∧ Fits xs) := ⟨hl, hp, hT, hx⟩
  have RC : Hid (∀ w', Tab4 w' → ReadsT w' vl xs → Calls _ _ _ _ _) := fun w' h1 h2 => gc.rRoot wd xs.length xs vl w' rfl h1 h2 hx
  have IC : Hid (∀ w', Tab4 w' → ReadsT w' vp proof → Calls _ _ _ _ _) := fun w' h1 h2 => qy.rCons wd i xs.length old (RT wd xs) vp proof w' h2 zp h1
  have OI : Hid (qw.conA wd i xs.length old (RT wd xs) proof = 0 → RT wd (xs.take i.toNat) ≠ old → ∃ M : Nat, i = M ∧ 1 ≤ M ∧ M < xs.length) := fun h1 h2 => old_inner h1 h2
  obtain ⟨la, lc, rfl, hlc, hlh⟩ := hl
  obtain ⟨pa, pc, rfl, hpc, _⟩ := hp
  obtain ⟨W, HW⟩ : ∃ W, Hid (W = w.alloc (.cells #[.string ⟨#[]⟩, .string ⟨#[]⟩, .bool false] 26)) := ⟨_, rfl⟩
  have hw : w.alloc (.cells #[.string ⟨#[]⟩, .string ⟨#[]⟩, .bool false] 26) = W := HW.out.symm
  have BW : Hid (Below w.heap.size w W) := by rw [HW.out]; exact (Below.refl _ _).alloc (Nat.le_refl _) _
  have HR : Hid (W.heap[w.heap.size]? = some (.cells #[.string ⟨#[]⟩, .string ⟨#[]⟩, .bool false] 26 (0, 0))) := by show _ = _; rw [HW.out]; exact heap_alloc_new w _
  have F4 : Hid (∀ w4, Below W.heap.size W w4 → w4.heap[w.heap.size]? = some (.cells #[.string ⟨#[]⟩, .string ⟨#[]⟩, .bool false] 26 (0, 0))) := fun w4 k => (k.block _ (Array.getElem?_eq_some_iff.1 HR.out).1).trans HR.out
  unfold oldX
  obtain ⟨E, HE⟩ : ∃ E, Hid (qw.conA wd i xs.length old (RT wd xs) proof = E) := ⟨_, rfl⟩
  obtain ⟨y2, HY2⟩ : ∃ y, Hid (RT wd xs = y) := ⟨_, rfl⟩
  rw [HE.out] at IC OI ⊢
  rw [HY2.out] at RC IC
  obtain ⟨n, HN⟩ : ∃ n, Hid (xs.length = n) := ⟨_, rfl⟩
  obtain ⟨m, HM⟩ : ∃ n, Hid (proof.length = n) := ⟨_, rfl⟩
  rw [HN.out] at RC IC RD OI hlc hlh ⊢
  rw [HM.out] at IC RD hpc ⊢
  have GD : Hid (∀ w', Below W.heap.size W w' → Tab4 w' ∧ ReadsT w' (.slice la n lc) xs ∧ ReadsT w' (.slice pa m pc) proof) := fun w' b => ⟨RD.out.2.2.1.down (over BW.out b), RD.out.1.later (over BW.out b), RD.out.2.1.later (over BW.out b)⟩
  by_cases h : E = 0
  · subst h
    rw [if_pos rfl]
    obtain ⟨M, N, rfl, hNN, c1, c2, c3, c4, c5, c6, c7, c8⟩ := conA_ok HE.out
    have hnN : n = N := by have := HN.out; omega
    subst hnN
    rw [Int.toNat_natCast]
    have OI2 : RT wd (xs.take M) ≠ old → 1 ≤ M ∧ M < n := fun h => by
      obtain ⟨M', e, h1, h2⟩ := OI.out rfl h
      obtain rfl : M = M' := by omega
      exact ⟨h1, h2⟩
    by_cases g0 : M = 0
    · subst g0
      have e0' : RT wd (xs.take 0) = old := by
        by_cases q : RT wd (xs.take 0) = old
        · exact q
        · have := OI2 q; omega
      rw [if_pos e0']
      clear e0' OI2 c1 c2 c3 c4 c5 c6 c7 c8 hNN hlh hT hx zp hno
      go_enter Tryz.func10, Tryz.ntmps10
      go_wp2_with fail
      try rw [hw]
      refine (RC.out _ (GD.out _ (Below.refl _ _)).1 (GD.out _ (Below.refl _ _)).2.1).mono ?_
      rintro e w2 ⟨rfl, hb2⟩
      have B2 : Hid (Below W.heap.size W w2) := hb2
      clear hb2
      go_wp2_with fail
      refine (IC.out _ (GD.out _ B2.out).1 (GD.out _ B2.out).2.2).mono ?_
      rintro e w3 ⟨rfl, hb3⟩
      have B3 : Hid (Below W.heap.size W w3) := over B2.out hb3
      clear hb3
      have hr2 := F4.out w3 B3.out
      have e0 : w3.cell? ⟨w.heap.size, 0, none⟩ = _ := cell_of_row _ _ 0 _ _ _ hr2
      have e1 : w3.cell? ⟨w.heap.size, 1, none⟩ = _ := cell_of_row _ _ 1 _ _ _ hr2
      have e2 : w3.cell? ⟨w.heap.size, 2, none⟩ = _ := cell_of_row _ _ 2 _ _ _ hr2
      have f0 := frozen_of_row _ _ 0 _ _ hr2
      have f1 := frozen_of_row _ _ 1 _ _ hr2
      have f2 := frozen_of_row _ _ 2 _ _ hr2
      have FIN : Hid (∀ W', W' = _ → _) := put3 w3 w.heap.size _ _ _ (.string ⟨#[]⟩) (.string ⟨#[]⟩) (.bool false) _ hr2
      clear hr2
      go_wp2
      obtain ⟨G, hb⟩ := FIN.out _ rfl
      refine bodyPost_ret (by simp [results, Tryz.results10, go_sem, G.1, G.2.1, G.2.2]; try rfl) rfl ?_
      exact ⟨rfl, (over BW.out B3.out).trans (hb _ (Nat.le_refl _))⟩
    by_cases g1 : M < n
    · obtain ⟨b, off, ha, hq⟩ := hlh.resolve_left (by omega)
      subst ha
      have v0 : ¬ (M : Int) ≤ 0 := by omega
      have v0' : decide ((M : Int) ≤ 0) = false := decide_eq_false v0
      have v1 : ¬ (n : Int) ≤ M := by omega
      have v1' : decide ((n : Int) ≤ M) = false := decide_eq_false v1
      have v1'' : decide (n ≤ M) = false := decide_eq_false (by omega)
      have v2 : (M : Int) ≤ n := by omega
      have v3 : (M : Int) ≤ lc := by omega
      have hxm := hx.many
      rw [HN.out] at hxm
      have WC : Hid (∀ w', Below W.heap.size W w' → Calls Tryz.prog 22 #[.int .i64 wd, .slice (some ⟨b, off, none⟩) M lc] w' fun e w'' => e = .returned (.string (RT wd (xs.take M))) ∧ Below w'.heap.size w' w'') := fun w' bb => gc.rRoot wd M (xs.take M) _ w' (by rw [List.length_take, HN.out]; omega) (GD.out w' bb).1 (zk.preT (GD.out w' bb).2.1 (by omega)) (RD.out.2.2.2.take M)
      obtain ⟨was, HWS⟩ : ∃ y, Hid (RT wd (xs.take M) = y) := ⟨_, rfl⟩
      rw [HWS.out] at WC ⊢
      by_cases gw : was = old
      · rw [if_pos gw]
        have qy : (was.toList == old.toList) = true := by rw [beqL]; exact decide_eq_true gw
        clear gw OI2 c1 c2 c3 c4 c5 c6 c7 c8 hNN hlh hq hT hx zp hno hxm g0 g1
        go_enter Tryz.func10, Tryz.ntmps10
        go_wp2_with fail
        try rw [hw]
        refine (RC.out _ (GD.out _ (Below.refl _ _)).1 (GD.out _ (Below.refl _ _)).2.1).mono ?_
        rintro e w2 ⟨rfl, hb2⟩
        have B2 : Hid (Below W.heap.size W w2) := hb2
        clear hb2
        go_wp2_with fail
        refine (IC.out _ (GD.out _ B2.out).1 (GD.out _ B2.out).2.2).mono ?_
        rintro e w3 ⟨rfl, hb3⟩
        have B3 : Hid (Below W.heap.size W w3) := over B2.out hb3
        clear hb3
        go_wp2_with fail
        refine (WC.out _ B3.out).mono ?_
        rintro e w4 ⟨rfl, hb4⟩
        have B4 : Hid (Below W.heap.size W w4) := over B3.out hb4
        clear hb4
        have hr2 := F4.out w4 B4.out
        have e0 : w4.cell? ⟨w.heap.size, 0, none⟩ = _ := cell_of_row _ _ 0 _ _ _ hr2
        have e1 : w4.cell? ⟨w.heap.size, 1, none⟩ = _ := cell_of_row _ _ 1 _ _ _ hr2
        have e2 : w4.cell? ⟨w.heap.size, 2, none⟩ = _ := cell_of_row _ _ 2 _ _ _ hr2
        have f0 := frozen_of_row _ _ 0 _ _ hr2
        have f1 := frozen_of_row _ _ 1 _ _ hr2
        have f2 := frozen_of_row _ _ 2 _ _ hr2
        have FIN : Hid (∀ W', W' = _ → _) := put3 w4 w.heap.size _ _ _ (.string ⟨#[]⟩) (.string ⟨#[]⟩) (.bool false) _ hr2
        clear hr2
        go_wp2
        obtain ⟨G, hb⟩ := FIN.out _ rfl
        refine bodyPost_ret (by simp [results, Tryz.results10, go_sem, G.1, G.2.1, G.2.2]; try rfl) rfl ?_
        exact ⟨rfl, (over BW.out B4.out).trans (hb _ (Nat.le_refl _))⟩
      · rw [if_neg gw]
        have qy : (was.toList == old.toList) = false := by rw [beqL]; exact decide_eq_false gw
        have RP : Hid (∀ a c, a < c → c ≤ n → ∀ cap', c - a ≤ cap' → ∀ w', Below W.heap.size W w' → Calls Tryz.prog 22 #[.int .i64 wd, .slice (some ⟨b, off + a, none⟩) (c - a) cap'] w' fun e w'' => e = .returned (.string (RR wd xs a c)) ∧ Below w'.heap.size w' w'') := fun a c h1 h2 cap' h3 w' bb => by
          have hlen : (slc xs a c).length = c - a := slc_len (by rw [HN.out]; exact h2)
          refine gc.rRoot wd (c - a) (slc xs a c) _ w' hlen (GD.out w' bb).1 ⟨_, cap', by rw [hlen], by rw [hlen]; exact h3, .inr ⟨b, off + a, rfl, fun i hi => ?_⟩⟩ ((RD.out.2.2.2.drop a).take (c - a))
          rw [hlen] at hi
          obtain ⟨a', c', e, _, hh⟩ := (GD.out w' bb).2.1
          rw [HN.out] at hh
          obtain ⟨b', o', e2, hc⟩ := hh.resolve_left (by omega)
          injection e with e1 _ _
          rw [← e1] at e2
          injection e2 with e2
          injection e2 with x1 x2 _
          subst x1 x2
          rw [show off + a + i = off + (a + i) by omega, hc (a + i) (by omega)]
          unfold slc
          rw [List.getD_eq_getElem?_getD, List.getD_eq_getElem?_getD, List.getElem?_take, if_pos hi, List.getElem?_drop]
        have ZP : Hid (proof.length ≤ 140737488355328 ∧ m ≤ pc) := ⟨zp, hpc⟩
        have WD : Hid (Wide wd proof ∧ old.size = wid wd) := ⟨c4, c5⟩
        have HL0 : Hid (proof.length = LO M 0 n) := c3 g0
        have PR : Hid (∀ k, k ≤ m → ∀ w', Below W.heap.size W w' → ReadsT w' (.slice pa k pc) (proof.take k)) := fun k h1 w' bb => zk.preT (GD.out w' bb).2.2 h1
        have XH : Hid (∀ L, 2 ≤ L → L ≤ 4611686018427387904 → ∀ w', Calls _ _ _ _ _) := fun L h1 h2 w' => xhalf L h1 h2 w'
        have XA : Hid (∀ k, 1 ≤ k → k ≤ m → ∀ w', Below W.heap.size W w' → Calls Tryz.prog 25 #[.slice pa k pc, .int .i64 0] w' fun e w'' => e = .returned (.string (proof.getD (k - 1) ByteArray.empty)) ∧ w'' = w') := fun k h1 h2 w' bb => by
          have hk : (proof.take k).length = k := by rw [List.length_take, HM.out]; omega
          have := xat (.slice pa k pc) (proof.take k) 0 w' (PR.out k h2 w' bb) (by omega) (by have := HM.out; omega)
          rw [hk, show k - 1 - 0 = k - 1 from rfl] at this
          have e : (proof.take k).getD (k - 1) ByteArray.empty = proof.getD (k - 1) ByteArray.empty := by rw [List.getD_eq_getElem?_getD, List.getD_eq_getElem?_getD, List.getElem?_take, if_pos (by omega)]
          rw [e] at this
          exact this
        have XB : Hid (∀ a c k, a < M → M ≤ c → c ≤ n → k ≤ m → k = LO M a c → ∀ w', Below W.heap.size W w' → Calls Tryz.prog 26 #[.int .i64 wd, .int .i64 (M - a : Nat), .int .i64 (c - a : Nat), .string old, .slice pa k pc, .bool (decide (a = 0))] w' fun e w'' => (∃ y : ByteArray, e = .returned (.tuple #[.string (clO wd M old proof a c).sum, .string y]) ∧ y.size = wid wd) ∧ Below w'.heap.size w' w'') := fun a c k h1 h2 h3 h4 h5 w' bb => by
          have hk : (proof.take k).length = k := by rw [List.length_take, HM.out]; omega
          have := xBoth wd M old c5 (c - a) a c (.slice pa k pc) (proof.take k) w' rfl h1 h2 (by omega) (by omega) (wide_take c4 k) (PR.out k h4 w' bb) (by have := HM.out; omega) (GD.out w' bb).1
          rw [clO_pre wd M old proof (by omega) (by omega)] at this
          exact this
        have XN : Hid (∀ l r : ByteArray, l.size ≤ 32 → r.size ≤ 32 → ∀ w', Calls _ _ _ _ _) := fun l r h1 h2 w' => xnode l r h1 h2 w'
        have XF : Hid (∀ a b w', Calls _ _ _ _ _) := fun a b w' => xfound a b w'
        have SZ : Hid (∀ a c, a < c → LO M a c ≤ m → (clO wd M old proof a c).sum.size ≤ 32) := fun a c h1 h2 => by rw [clO_size c5 h1 (by have := HM.out; omega) c4]; exact qb.wid_le wd
        have SP : Hid (∀ k, k < m → (proof.getD k ByteArray.empty).size ≤ 32) := fun k h => by
          have hk : k < proof.length := by rw [HM.out]; exact h
          rw [List.getD_eq_getElem?_getD, List.getElem?_eq_getElem hk]
          have h1 := c4 _ (List.getElem_mem hk)
          have h2 := qb.wid_le wd
          show (proof[k]'hk).size ≤ 32
          omega
        have SR : Hid (∀ a c, (RR wd xs a c).size ≤ 32) := fun a c => by unfold RR; rw [RT_size]; exact qb.wid_le wd
        have HX : Hid (n ≤ xs.length) := by show _ ≤ _; rw [HN.out]; exact Nat.le_refl _
        have HI : Hid (n ≤ 4611686018427387904) := c2
        obtain ⟨O, HO⟩ : ∃ O, Hid (oldT wd M xs old proof = O) := ⟨_, rfl⟩
        have HO2 : Hid (O = fst1 (clO wd M old proof 0 n) (owO wd M xs 0 n)) := by
          show _ = _
          rw [← HO.out]
          unfold oldT clO owO ownT
          rw [HN.out]
        rw [HO.out]
        have HMP : Hid (m = LO M 0 n) := by show _ = _; rw [← HM.out]; exact HL0.out
        have HMn : Hid (0 < M ∧ M < n) := ⟨by omega, g1⟩
        clear gw OI2 c1 c2 c3 c4 c5 c6 c7 c8 hNN hlh hq hT hx zp hno hxm g0 hpc
        go_enter Tryz.func10, Tryz.ntmps10
        go_wp2_with fail
        try rw [hw]
        refine (RC.out _ (GD.out _ (Below.refl _ _)).1 (GD.out _ (Below.refl _ _)).2.1).mono ?_
        rintro e w2 ⟨rfl, hb2⟩
        have B2 : Hid (Below W.heap.size W w2) := hb2
        clear hb2
        go_wp2_with fail
        refine (IC.out _ (GD.out _ B2.out).1 (GD.out _ B2.out).2.2).mono ?_
        rintro e w3 ⟨rfl, hb3⟩
        have B3 : Hid (Below W.heap.size W w3) := over B2.out hb3
        clear hb3
        go_wp2_with fail
        refine (WC.out _ B3.out).mono ?_
        rintro e w4 ⟨rfl, hb4⟩
        have B4 : Hid (Below W.heap.size W w4) := over B3.out hb4
        clear hb4 v0 v0' v1 v1' v1'' v2 v3 g1
        go_wp2_with fail
        go_loopw [1, 2, 4, 15] (fun l mm p wh wr => ∃ a c k cap' : Nat, a < M ∧ M ≤ c ∧ c ≤ n ∧ c - a ≤ cap' ∧ k ≤ m ∧ l = .slice (some ⟨b, off + a, none⟩) (c - a) cap' ∧ mm = .int .i64 (M - a : Nat) ∧ p = .slice pa k pc ∧ wh = .bool (decide (a = 0)) ∧ Hid (k = LO M a c) ∧ Hid (O = fst1 (clO wd M old proof a c) (owO wd M xs a c)) ∧ Hid (Below W.heap.size W wr)) (fun _ _ p _ _ => slLen p)
        case atStart => exact ⟨0, n, m, lc, HMn.out.1, Nat.le_of_lt HMn.out.2, Nat.le_refl _, hlc, Nat.le_refl _, rfl, rfl, rfl, rfl, HMP, HO2, B4⟩
        case round =>
          obtain ⟨a, c, k, cap', h1, h2, h3, h4, h5, rfl, rfl, rfl, rfl, HP, HF, HB⟩ := hrel
          by_cases hmc : M < c
          · have hL : 2 ≤ c - a := by omega
            have hh := half_lt hL
            have HV : Hid (∀ w', Calls _ _ _ _ _) := XH.out (c - a) hL (by have := HI.out; omega)
            have R1 : Hid (∀ w', Below W.heap.size W w' → Calls _ _ _ _ _) := RP.out a (a + half (c - a)) (by omega) (by omega) cap' (by omega)
            have R2 : Hid (∀ w', Below W.heap.size W w' → Calls _ _ _ _ _) := RP.out (a + half (c - a)) c (by omega) h3 (cap' - half (c - a)) (by omega)
            have s3 := SR.out a (a + half (c - a))
            have s4 := SR.out (a + half (c - a)) c
            rw [Nat.add_sub_cancel_left] at R1
            have e1 : off + (a + half (c - a)) = off + a + half (c - a) := by omega
            have e2 : c - (a + half (c - a)) = c - a - half (c - a) := by omega
            rw [e1, e2] at R2
            by_cases gg : M ≤ a + half (c - a)
            · have hk := HP.out
              rw [LO_low h1 hmc gg] at hk
              have XD : Hid (∀ w', Below W.heap.size W w' → Calls _ _ _ _ _) := XB.out a (a + half (c - a)) (k - 1) h1 gg (by omega) (by omega) (by omega)
              rw [Nat.add_sub_cancel_left] at XD
              have p2 := round_low (wd := wd) (old := old) (x := proof) (xs := xs) h1 hmc gg (Nat.le_trans h3 HX.out)
              have s1 := SZ.out a (a + half (c - a)) (by omega) (by omega)
              rw [show LO M a (a + half (c - a)) = k - 1 by omega] at p2
              have SD : Hid (∀ w', Below W.heap.size W w' → Calls _ _ _ _ _) := XA.out k (by omega) h5
              have s2 := SP.out (k - 1) (by omega)
              obtain ⟨hd, HHD⟩ : ∃ q, Hid ((clO wd M old proof a (a + half (c - a))).sum = q) := ⟨_, rfl⟩
              obtain ⟨sd, HSD⟩ : ∃ q, Hid (proof.getD (k - 1) ByteArray.empty = q) := ⟨_, rfl⟩
              obtain ⟨l1, HL1⟩ : ∃ q, Hid (RR wd xs a (a + half (c - a)) = q) := ⟨_, rfl⟩
              obtain ⟨r1, HR1⟩ : ∃ q, Hid (RR wd xs (a + half (c - a)) c = q) := ⟨_, rfl⟩
              rw [HHD.out] at XD p2 s1
              rw [HSD.out] at SD p2 s2
              rw [HL1.out] at R1 p2 s3
              rw [HR1.out] at R2 p2 s4
              have N1 : Hid (∀ w', Calls _ _ _ _ _) := XN.out hd sd s1 s2
              have N2 : Hid (∀ w', Calls _ _ _ _ _) := XN.out l1 r1 s3 s4
              obtain ⟨ta, HTA⟩ : ∃ q, Hid (tx1 hd sd = q) := ⟨_, rfl⟩
              obtain ⟨tb, HTB⟩ : ∃ q, Hid (tx1 l1 r1 = q) := ⟨_, rfl⟩
              rw [HTA.out] at N1 p2
              rw [HTB.out] at N2 p2
              have gk : half (c - a) < c - a := by omega
              have g0 : half (c - a) ≤ cap' := by omega
              have gm : M - a < c - a := by omega
              have gi : M - a ≤ half (c - a) := by omega
              have hL62 : c - a ≤ 4611686018427387904 := by have := HI.out; omega
              have hk1 : 1 ≤ k := by omega
              have hkm : k ≤ 140737488355328 := by have h1 := ZP.out.1; have h2 := HM.out; omega
              have hkc : k - 1 ≤ pc := by have h1 := ZP.out.2; omega
              by_cases ht : ta = tb
              · have qt : (ta.toList == tb.toList) = true := by rw [beqL]; exact decide_eq_true ht
                have HF2 : Hid (O = fst1 (clO wd M old proof a (a + half (c - a))) (owO wd M xs a (a + half (c - a)))) := by show _ = _; rw [HF.out, p2, if_pos ht]
                have HP2 : Hid (k - 1 = LO M a (a + half (c - a))) := by show _ = _; omega
                have HW1 : Hid (a < M ∧ M ≤ a + half (c - a) ∧ a + half (c - a) ≤ n) := ⟨h1, gg, by omega⟩
                clear p2 ht hk
                obtain ⟨q9, HK⟩ : ∃ k, Hid (half (c - a) = k) := ⟨_, rfl⟩
                rw [HK.out] at R1 R2 XD HV gk g0 gi
                obtain ⟨J, HJ⟩ : ∃ k, Hid (M - a = k) := ⟨_, rfl⟩
                obtain ⟨L, HL⟩ : ∃ k, Hid (c - a = k) := ⟨_, rfl⟩
                obtain ⟨q, HQ⟩ : ∃ k, Hid (off + a = k) := ⟨_, rfl⟩
                obtain ⟨t, HT⟩ : ∃ t, Hid (decide (a = 0) = t) := ⟨_, rfl⟩
                rw [HJ.out] at XD gi gm ⊢
                rw [HL.out] at R2 HV gk gm h4 hL62 ⊢
                rw [HQ.out] at R1 R2 ⊢
                rw [HT.out] at XD ⊢
                have v1 : (J : Int) < L := by omega
                have v1' : decide ((J : Int) < L) = true := decide_eq_true v1
                have v1'' : decide (J < L) = true := decide_eq_true gm
                have v2 : (q9 : Int) ≤ L := by omega
                have v3 : (q9 : Int) ≤ cap' := by omega
                have v4 : (J : Int) ≤ q9 := by omega
                have v5 : (0 : Int) < k := by omega
                have v5' : decide ((0 : Int) < k) = true := decide_eq_true v5
                have v5'' : decide (0 < k) = true := decide_eq_true (by omega)
                have r2 : IntKind.i64.wrap ((k : Int) - 1) = (k : Int) - 1 := by rw [IntKind.wrap_i64]; omega
                have r3 : (k : Int) - 1 ≤ pc := by omega
                have r4 : ((k : Int) - 1).toNat = k - 1 := by omega
                have r5 : (0 : Int) ≤ (k : Int) - 1 := by omega
                have wL : IntKind.i64.wrap ((L : Int) - q9) = (L : Int) - q9 := by rw [IntKind.wrap_i64]; omega
                have wJ : IntKind.i64.wrap ((J : Int) - q9) = (J : Int) - q9 := by rw [IntKind.wrap_i64]; omega
                clear e1 e2 s1 s2 s3 s4 gi hL hh
                go_wp2_with fail
                refine (HV.out _).mono ?_
                rintro e v1w ⟨rfl, hv1⟩
                subst hv1
                go_wp2_with fail
                refine (R1.out _ HB.out).mono ?_
                rintro e q1 ⟨rfl, hq1⟩
                have Q1 : Hid (Below W.heap.size W q1) := over HB.out hq1
                clear hq1
                go_wp2_with fail
                refine (R2.out _ Q1.out).mono ?_
                rintro e q2 ⟨rfl, hq2⟩
                have Q2 : Hid (Below W.heap.size W q2) := over Q1.out hq2
                clear hq2
                go_wp2_with fail
                refine (SD.out _ Q2.out).mono ?_
                rintro e q3 ⟨rfl, hq3⟩
                subst hq3
                go_wp2_with fail
                refine (XD.out _ Q2.out).mono ?_
                rintro e q4 ⟨⟨yq, rfl, _⟩, hq4⟩
                have Q4 : Hid (Below W.heap.size W q4) := over Q2.out hq4
                clear hq4
                go_wp2_with fail
                refine (N1.out _).mono ?_
                rintro e q5 ⟨rfl, hq5⟩
                subst hq5
                go_wp2_with fail
                refine (N2.out _).mono ?_
                rintro e q6 ⟨rfl, hq6⟩
                subst hq6
                go_wp2
                go_roundw
                case rel => exact ⟨a, a + half (c - a), k - 1, cap', HW1.out.1, HW1.out.2.1, HW1.out.2.2, by have h1 := HK.out; rw [Nat.add_sub_cancel_left, h1]; exact g0, by omega, by rw [Nat.add_sub_cancel_left, HK.out, HQ.out], by rw [HJ.out], rfl, by rw [HT.out], HP2.out, HF2.out, Q4.out⟩
                case measure => simp [slLen]; omega
              · have qt : (ta.toList == tb.toList) = false := by rw [beqL]; exact decide_eq_false ht
                have HOV : Hid (O = some (ta, tb)) := by show _ = _; rw [HF.out, p2, if_neg ht]
                clear p2 ht hk
                obtain ⟨q9, HK⟩ : ∃ k, Hid (half (c - a) = k) := ⟨_, rfl⟩
                rw [HK.out] at R1 R2 XD HV gk g0 gi
                obtain ⟨J, HJ⟩ : ∃ k, Hid (M - a = k) := ⟨_, rfl⟩
                obtain ⟨L, HL⟩ : ∃ k, Hid (c - a = k) := ⟨_, rfl⟩
                obtain ⟨q, HQ⟩ : ∃ k, Hid (off + a = k) := ⟨_, rfl⟩
                obtain ⟨t, HT⟩ : ∃ t, Hid (decide (a = 0) = t) := ⟨_, rfl⟩
                rw [HJ.out] at XD gi gm ⊢
                rw [HL.out] at R2 HV gk gm h4 hL62 ⊢
                rw [HQ.out] at R1 R2 ⊢
                rw [HT.out] at XD ⊢
                have v1 : (J : Int) < L := by omega
                have v1' : decide ((J : Int) < L) = true := decide_eq_true v1
                have v1'' : decide (J < L) = true := decide_eq_true gm
                have v2 : (q9 : Int) ≤ L := by omega
                have v3 : (q9 : Int) ≤ cap' := by omega
                have v4 : (J : Int) ≤ q9 := by omega
                have v5 : (0 : Int) < k := by omega
                have v5' : decide ((0 : Int) < k) = true := decide_eq_true v5
                have v5'' : decide (0 < k) = true := decide_eq_true (by omega)
                have r2 : IntKind.i64.wrap ((k : Int) - 1) = (k : Int) - 1 := by rw [IntKind.wrap_i64]; omega
                have r3 : (k : Int) - 1 ≤ pc := by omega
                have r4 : ((k : Int) - 1).toNat = k - 1 := by omega
                have r5 : (0 : Int) ≤ (k : Int) - 1 := by omega
                have wL : IntKind.i64.wrap ((L : Int) - q9) = (L : Int) - q9 := by rw [IntKind.wrap_i64]; omega
                have wJ : IntKind.i64.wrap ((J : Int) - q9) = (J : Int) - q9 := by rw [IntKind.wrap_i64]; omega
                clear e1 e2 s1 s2 s3 s4 gi hL hh
                go_wp2_with fail
                refine (HV.out _).mono ?_
                rintro e v1w ⟨rfl, hv1⟩
                subst hv1
                go_wp2_with fail
                refine (R1.out _ HB.out).mono ?_
                rintro e q1 ⟨rfl, hq1⟩
                have Q1 : Hid (Below W.heap.size W q1) := over HB.out hq1
                clear hq1
                go_wp2_with fail
                refine (R2.out _ Q1.out).mono ?_
                rintro e q2 ⟨rfl, hq2⟩
                have Q2 : Hid (Below W.heap.size W q2) := over Q1.out hq2
                clear hq2
                go_wp2_with fail
                refine (SD.out _ Q2.out).mono ?_
                rintro e q3 ⟨rfl, hq3⟩
                subst hq3
                go_wp2_with fail
                refine (XD.out _ Q2.out).mono ?_
                rintro e q4 ⟨⟨yq, rfl, _⟩, hq4⟩
                have Q4 : Hid (Below W.heap.size W q4) := over Q2.out hq4
                clear hq4
                go_wp2_with fail
                refine (N1.out _).mono ?_
                rintro e q5 ⟨rfl, hq5⟩
                subst hq5
                go_wp2_with fail
                refine (N2.out _).mono ?_
                rintro e q6 ⟨rfl, hq6⟩
                subst hq6
                go_wp2_with fail
                refine (XF.out ta tb _).mono ?_
                rintro e q7 ⟨rfl, hbx⟩
                have Bq7 : Hid (Below W.heap.size W q7) := over Q4.out hbx
                clear hbx
                rw [show clV (some (ta, tb)) = .agg #[.string ta, .string tb, .bool true] from rfl]
                have hr2 := F4.out q7 Bq7.out
                have e0 : q7.cell? ⟨w.heap.size, 0, none⟩ = _ := cell_of_row _ _ 0 _ _ _ hr2
                have e1 : q7.cell? ⟨w.heap.size, 1, none⟩ = _ := cell_of_row _ _ 1 _ _ _ hr2
                have e2 : q7.cell? ⟨w.heap.size, 2, none⟩ = _ := cell_of_row _ _ 2 _ _ _ hr2
                have f0 := frozen_of_row _ _ 0 _ _ hr2
                have f1 := frozen_of_row _ _ 1 _ _ hr2
                have f2 := frozen_of_row _ _ 2 _ _ hr2
                have FIN : Hid (∀ W', W' = _ → _) := put3 q7 w.heap.size _ _ _ (.string ta) (.string tb) (.bool true) _ hr2
                clear hr2
                go_wp2
                obtain ⟨G, hb⟩ := FIN.out _ rfl
                refine bodyPost_ret (by simp [results, Tryz.results10, go_sem, G.1, G.2.1, G.2.2]; try rfl) rfl ?_
                exact ⟨by rw [HOV.out]; rfl, (over BW.out Bq7.out).trans (hb _ (Nat.le_refl _))⟩
            · have hk := HP.out
              rw [LO_high h1 hmc gg] at hk
              have XD : Hid (∀ w', Below W.heap.size W w' → Calls _ _ _ _ _) := XB.out (a + half (c - a)) c (k - 1) (by omega) h2 h3 (by omega) (by omega)
              rw [decide_eq_false (show ¬ a + half (c - a) = 0 by omega)] at XD
              have e4 : ((M - (a + half (c - a)) : Nat) : Int) = ((M - a : Nat) : Int) - (half (c - a) : Nat) := by omega
              have e5 : ((c - (a + half (c - a)) : Nat) : Int) = ((c - a : Nat) : Int) - (half (c - a) : Nat) := by omega
              rw [e4, e5] at XD
              have p2 := round_high (wd := wd) (old := old) (x := proof) (xs := xs) h1 hmc gg (Nat.le_trans h3 HX.out)
              have s1 := SZ.out (a + half (c - a)) c (by omega) (by omega)
              rw [show LO M (a + half (c - a)) c = k - 1 by omega] at p2
              have SD : Hid (∀ w', Below W.heap.size W w' → Calls _ _ _ _ _) := XA.out k (by omega) h5
              have s2 := SP.out (k - 1) (by omega)
              obtain ⟨hd, HHD⟩ : ∃ q, Hid ((clO wd M old proof (a + half (c - a)) c).sum = q) := ⟨_, rfl⟩
              obtain ⟨sd, HSD⟩ : ∃ q, Hid (proof.getD (k - 1) ByteArray.empty = q) := ⟨_, rfl⟩
              obtain ⟨l1, HL1⟩ : ∃ q, Hid (RR wd xs a (a + half (c - a)) = q) := ⟨_, rfl⟩
              obtain ⟨r1, HR1⟩ : ∃ q, Hid (RR wd xs (a + half (c - a)) c = q) := ⟨_, rfl⟩
              rw [HHD.out] at XD p2 s1
              rw [HSD.out] at SD p2 s2
              rw [HL1.out] at R1 p2 s3
              rw [HR1.out] at R2 p2 s4
              have N1 : Hid (∀ w', Calls _ _ _ _ _) := XN.out sd hd s2 s1
              have N2 : Hid (∀ w', Calls _ _ _ _ _) := XN.out l1 r1 s3 s4
              obtain ⟨ta, HTA⟩ : ∃ q, Hid (tx1 sd hd = q) := ⟨_, rfl⟩
              obtain ⟨tb, HTB⟩ : ∃ q, Hid (tx1 l1 r1 = q) := ⟨_, rfl⟩
              rw [HTA.out] at N1 p2
              rw [HTB.out] at N2 p2
              have gk : half (c - a) < c - a := by omega
              have g0 : half (c - a) ≤ cap' := by omega
              have gm : M - a < c - a := by omega
              have gi : ¬ M - a ≤ half (c - a) := by omega
              have hL62 : c - a ≤ 4611686018427387904 := by have := HI.out; omega
              have hk1 : 1 ≤ k := by omega
              have hkm : k ≤ 140737488355328 := by have h1 := ZP.out.1; have h2 := HM.out; omega
              have hkc : k - 1 ≤ pc := by have h1 := ZP.out.2; omega
              by_cases ht : ta = tb
              · have qt : (ta.toList == tb.toList) = true := by rw [beqL]; exact decide_eq_true ht
                have HF2 : Hid (O = fst1 (clO wd M old proof (a + half (c - a)) c) (owO wd M xs (a + half (c - a)) c)) := by show _ = _; rw [HF.out, p2, if_pos ht]
                have HP2 : Hid (k - 1 = LO M (a + half (c - a)) c) := by show _ = _; omega
                have HW1 : Hid (a + half (c - a) < M ∧ M ≤ c ∧ c ≤ n) := ⟨by omega, h2, h3⟩
                have HA0 : Hid (decide (a + half (c - a) = 0) = false) := decide_eq_false (by omega)
                clear p2 ht hk
                obtain ⟨q9, HK⟩ : ∃ k, Hid (half (c - a) = k) := ⟨_, rfl⟩
                rw [HK.out] at R1 R2 XD HV gk g0 gi
                obtain ⟨J, HJ⟩ : ∃ k, Hid (M - a = k) := ⟨_, rfl⟩
                obtain ⟨L, HL⟩ : ∃ k, Hid (c - a = k) := ⟨_, rfl⟩
                obtain ⟨q, HQ⟩ : ∃ k, Hid (off + a = k) := ⟨_, rfl⟩
                obtain ⟨t, HT⟩ : ∃ t, Hid (decide (a = 0) = t) := ⟨_, rfl⟩
                rw [HJ.out] at XD gi gm ⊢
                rw [HL.out] at R2 XD HV gk gm h4 hL62 ⊢
                rw [HQ.out] at R1 R2 ⊢
                rw [HT.out]
                have v1 : (J : Int) < L := by omega
                have v1' : decide ((J : Int) < L) = true := decide_eq_true v1
                have v1'' : decide (J < L) = true := decide_eq_true gm
                have v2 : (q9 : Int) ≤ L := by omega
                have v3 : (q9 : Int) ≤ cap' := by omega
                have v4 : ¬ (J : Int) ≤ q9 := by omega
                have v5 : (0 : Int) < k := by omega
                have v5' : decide ((0 : Int) < k) = true := decide_eq_true v5
                have v5'' : decide (0 < k) = true := decide_eq_true (by omega)
                have r2 : IntKind.i64.wrap ((k : Int) - 1) = (k : Int) - 1 := by rw [IntKind.wrap_i64]; omega
                have r3 : (k : Int) - 1 ≤ pc := by omega
                have r4 : ((k : Int) - 1).toNat = k - 1 := by omega
                have r5 : (0 : Int) ≤ (k : Int) - 1 := by omega
                have wL : IntKind.i64.wrap ((L : Int) - q9) = (L : Int) - q9 := by rw [IntKind.wrap_i64]; omega
                have wJ : IntKind.i64.wrap ((J : Int) - q9) = (J : Int) - q9 := by rw [IntKind.wrap_i64]; omega
                clear e1 e2 s1 s2 s3 s4 gi hL hh e4 e5
                go_wp2_with fail
                refine (HV.out _).mono ?_
                rintro e v1w ⟨rfl, hv1⟩
                subst hv1
                go_wp2_with fail
                refine (R1.out _ HB.out).mono ?_
                rintro e q1 ⟨rfl, hq1⟩
                have Q1 : Hid (Below W.heap.size W q1) := over HB.out hq1
                clear hq1
                go_wp2_with fail
                refine (R2.out _ Q1.out).mono ?_
                rintro e q2 ⟨rfl, hq2⟩
                have Q2 : Hid (Below W.heap.size W q2) := over Q1.out hq2
                clear hq2
                go_wp2_with fail
                refine (SD.out _ Q2.out).mono ?_
                rintro e q3 ⟨rfl, hq3⟩
                subst hq3
                go_wp2_with fail
                refine (XD.out _ Q2.out).mono ?_
                rintro e q4 ⟨⟨yq, rfl, _⟩, hq4⟩
                have Q4 : Hid (Below W.heap.size W q4) := over Q2.out hq4
                clear hq4
                go_wp2_with fail
                refine (N1.out _).mono ?_
                rintro e q5 ⟨rfl, hq5⟩
                subst hq5
                go_wp2_with fail
                refine (N2.out _).mono ?_
                rintro e q6 ⟨rfl, hq6⟩
                subst hq6
                go_wp2
                go_roundw
                case rel => exact ⟨a + half (c - a), c, k - 1, cap' - q9, HW1.out.1, HW1.out.2.1, HW1.out.2.2, by have h1 := HL.out; have h2 := HK.out; omega, by omega, by rw [← Nat.sub_sub, ← Nat.add_assoc, HK.out, HL.out, HQ.out], by rw [← Nat.sub_sub, HK.out, HJ.out]; go_num, rfl, by rw [HA0.out], HP2.out, HF2.out, Q4.out⟩
                case measure => simp [slLen]; omega
              · have qt : (ta.toList == tb.toList) = false := by rw [beqL]; exact decide_eq_false ht
                have HOV : Hid (O = some (ta, tb)) := by show _ = _; rw [HF.out, p2, if_neg ht]
                clear p2 ht hk
                obtain ⟨q9, HK⟩ : ∃ k, Hid (half (c - a) = k) := ⟨_, rfl⟩
                rw [HK.out] at R1 R2 XD HV gk g0 gi
                obtain ⟨J, HJ⟩ : ∃ k, Hid (M - a = k) := ⟨_, rfl⟩
                obtain ⟨L, HL⟩ : ∃ k, Hid (c - a = k) := ⟨_, rfl⟩
                obtain ⟨q, HQ⟩ : ∃ k, Hid (off + a = k) := ⟨_, rfl⟩
                obtain ⟨t, HT⟩ : ∃ t, Hid (decide (a = 0) = t) := ⟨_, rfl⟩
                rw [HJ.out] at XD gi gm ⊢
                rw [HL.out] at R2 XD HV gk gm h4 hL62 ⊢
                rw [HQ.out] at R1 R2 ⊢
                rw [HT.out]
                have v1 : (J : Int) < L := by omega
                have v1' : decide ((J : Int) < L) = true := decide_eq_true v1
                have v1'' : decide (J < L) = true := decide_eq_true gm
                have v2 : (q9 : Int) ≤ L := by omega
                have v3 : (q9 : Int) ≤ cap' := by omega
                have v4 : ¬ (J : Int) ≤ q9 := by omega
                have v5 : (0 : Int) < k := by omega
                have v5' : decide ((0 : Int) < k) = true := decide_eq_true v5
                have v5'' : decide (0 < k) = true := decide_eq_true (by omega)
                have r2 : IntKind.i64.wrap ((k : Int) - 1) = (k : Int) - 1 := by rw [IntKind.wrap_i64]; omega
                have r3 : (k : Int) - 1 ≤ pc := by omega
                have r4 : ((k : Int) - 1).toNat = k - 1 := by omega
                have r5 : (0 : Int) ≤ (k : Int) - 1 := by omega
                have wL : IntKind.i64.wrap ((L : Int) - q9) = (L : Int) - q9 := by rw [IntKind.wrap_i64]; omega
                have wJ : IntKind.i64.wrap ((J : Int) - q9) = (J : Int) - q9 := by rw [IntKind.wrap_i64]; omega
                clear e1 e2 s1 s2 s3 s4 gi hL hh e4 e5
                go_wp2_with fail
                refine (HV.out _).mono ?_
                rintro e v1w ⟨rfl, hv1⟩
                subst hv1
                go_wp2_with fail
                refine (R1.out _ HB.out).mono ?_
                rintro e q1 ⟨rfl, hq1⟩
                have Q1 : Hid (Below W.heap.size W q1) := over HB.out hq1
                clear hq1
                go_wp2_with fail
                refine (R2.out _ Q1.out).mono ?_
                rintro e q2 ⟨rfl, hq2⟩
                have Q2 : Hid (Below W.heap.size W q2) := over Q1.out hq2
                clear hq2
                go_wp2_with fail
                refine (SD.out _ Q2.out).mono ?_
                rintro e q3 ⟨rfl, hq3⟩
                subst hq3
                go_wp2_with fail
                refine (XD.out _ Q2.out).mono ?_
                rintro e q4 ⟨⟨yq, rfl, _⟩, hq4⟩
                have Q4 : Hid (Below W.heap.size W q4) := over Q2.out hq4
                clear hq4
                go_wp2_with fail
                refine (N1.out _).mono ?_
                rintro e q5 ⟨rfl, hq5⟩
                subst hq5
                go_wp2_with fail
                refine (N2.out _).mono ?_
                rintro e q6 ⟨rfl, hq6⟩
                subst hq6
                go_wp2_with fail
                refine (XF.out ta tb _).mono ?_
                rintro e q7 ⟨rfl, hbx⟩
                have Bq7 : Hid (Below W.heap.size W q7) := over Q4.out hbx
                clear hbx
                rw [show clV (some (ta, tb)) = .agg #[.string ta, .string tb, .bool true] from rfl]
                have hr2 := F4.out q7 Bq7.out
                have e0 : q7.cell? ⟨w.heap.size, 0, none⟩ = _ := cell_of_row _ _ 0 _ _ _ hr2
                have e1 : q7.cell? ⟨w.heap.size, 1, none⟩ = _ := cell_of_row _ _ 1 _ _ _ hr2
                have e2 : q7.cell? ⟨w.heap.size, 2, none⟩ = _ := cell_of_row _ _ 2 _ _ _ hr2
                have f0 := frozen_of_row _ _ 0 _ _ hr2
                have f1 := frozen_of_row _ _ 1 _ _ hr2
                have f2 := frozen_of_row _ _ 2 _ _ hr2
                have FIN : Hid (∀ W', W' = _ → _) := put3 q7 w.heap.size _ _ _ (.string ta) (.string tb) (.bool true) _ hr2
                clear hr2
                go_wp2
                obtain ⟨G, hb⟩ := FIN.out _ rfl
                refine bodyPost_ret (by simp [results, Tryz.results10, go_sem, G.1, G.2.1, G.2.2]; try rfl) rfl ?_
                exact ⟨by rw [HOV.out]; rfl, (over BW.out Bq7.out).trans (hb _ (Nat.le_refl _))⟩
          · obtain rfl : M = c := by omega
            have HOV : Hid (O = none) := by show _ = _; rw [HF.out]; exact round_end
            obtain ⟨L, HL⟩ : ∃ L, Hid (M - a = L) := ⟨_, rfl⟩
            rw [HL.out]
            have u1 : ¬ (L : Int) < L := by omega
            have u1' : decide ((L : Int) < L) = false := decide_eq_false u1
            have u1'' : decide (L < L) = false := decide_eq_false (by omega)
            clear hmc
            have hr2 := F4.out wr HB.out
            have e0 : wr.cell? ⟨w.heap.size, 0, none⟩ = _ := cell_of_row _ _ 0 _ _ _ hr2
            have e1 : wr.cell? ⟨w.heap.size, 1, none⟩ = _ := cell_of_row _ _ 1 _ _ _ hr2
            have e2 : wr.cell? ⟨w.heap.size, 2, none⟩ = _ := cell_of_row _ _ 2 _ _ _ hr2
            have f0 := frozen_of_row _ _ 0 _ _ hr2
            have f1 := frozen_of_row _ _ 1 _ _ hr2
            have f2 := frozen_of_row _ _ 2 _ _ hr2
            have FIN : Hid (∀ W', W' = _ → _) := put3 wr w.heap.size _ _ _ (.string ⟨#[]⟩) (.string ⟨#[]⟩) (.bool false) _ hr2
            clear hr2
            go_wp2
            obtain ⟨G, hb⟩ := FIN.out _ rfl
            refine bodyPost_ret (by simp [results, Tryz.results10, go_sem, G.1, G.2.1, G.2.2]; try rfl) rfl ?_
            exact ⟨by rw [HOV.out]; rfl, (over BW.out HB.out).trans (hb _ (Nat.le_refl _))⟩
    · obtain rfl : M = n := by omega
      have e0' : RT wd (xs.take M) = old := by
        by_cases q : RT wd (xs.take M) = old
        · exact q
        · have := OI2 q; omega
      rw [if_pos e0']
      have v0 : ¬ (M : Int) ≤ 0 := by omega
      have v0' : decide ((M : Int) ≤ 0) = false := decide_eq_false v0
      have v1 : decide ((M : Int) ≤ M) = true := decide_eq_true (by omega)
      clear e0' OI2 c1 c2 c3 c4 c5 c6 c7 c8 hNN hlh hT hx zp hno
      go_enter Tryz.func10, Tryz.ntmps10
      go_wp2_with fail
      try rw [hw]
      refine (RC.out _ (GD.out _ (Below.refl _ _)).1 (GD.out _ (Below.refl _ _)).2.1).mono ?_
      rintro e w2 ⟨rfl, hb2⟩
      have B2 : Hid (Below W.heap.size W w2) := hb2
      clear hb2
      go_wp2_with fail
      refine (IC.out _ (GD.out _ B2.out).1 (GD.out _ B2.out).2.2).mono ?_
      rintro e w3 ⟨rfl, hb3⟩
      have B3 : Hid (Below W.heap.size W w3) := over B2.out hb3
      clear hb3
      have hr2 := F4.out w3 B3.out
      have e0 : w3.cell? ⟨w.heap.size, 0, none⟩ = _ := cell_of_row _ _ 0 _ _ _ hr2
      have e1 : w3.cell? ⟨w.heap.size, 1, none⟩ = _ := cell_of_row _ _ 1 _ _ _ hr2
      have e2 : w3.cell? ⟨w.heap.size, 2, none⟩ = _ := cell_of_row _ _ 2 _ _ _ hr2
      have f0 := frozen_of_row _ _ 0 _ _ hr2
      have f1 := frozen_of_row _ _ 1 _ _ hr2
      have f2 := frozen_of_row _ _ 2 _ _ hr2
      have FIN : Hid (∀ W', W' = _ → _) := put3 w3 w.heap.size _ _ _ (.string ⟨#[]⟩) (.string ⟨#[]⟩) (.bool false) _ hr2
      clear hr2
      go_wp2
      obtain ⟨G, hb⟩ := FIN.out _ rfl
      refine bodyPost_ret (by simp [results, Tryz.results10, go_sem, G.1, G.2.1, G.2.2]; try rfl) rfl ?_
      exact ⟨rfl, (over BW.out B3.out).trans (hb _ (Nat.le_refl _))⟩
  · rw [if_neg h]
    have q : (E == 0) = false := by rw [beq_eq_false_iff_ne]; exact h
    have q2 : (E != 0) = true := by rw [bne, q]; rfl
    clear h hlh hT hx zp hno OI
    go_enter Tryz.func10, Tryz.ntmps10
    go_wp2_with fail
    try rw [hw]
    refine (RC.out _ (GD.out _ (Below.refl _ _)).1 (GD.out _ (Below.refl _ _)).2.1).mono ?_
    rintro e w2 ⟨rfl, hb2⟩
    have B2 : Hid (Below W.heap.size W w2) := hb2
    clear hb2
    go_wp2_with fail
    refine (IC.out _ (GD.out _ B2.out).1 (GD.out _ B2.out).2.2).mono ?_
    rintro e w3 ⟨rfl, hb3⟩
    have B3 : Hid (Below W.heap.size W w3) := over B2.out hb3
    clear hb3
    have hr2 := F4.out w3 B3.out
    have e0 : w3.cell? ⟨w.heap.size, 0, none⟩ = _ := cell_of_row _ _ 0 _ _ _ hr2
    have e1 : w3.cell? ⟨w.heap.size, 1, none⟩ = _ := cell_of_row _ _ 1 _ _ _ hr2
    have e2 : w3.cell? ⟨w.heap.size, 2, none⟩ = _ := cell_of_row _ _ 2 _ _ _ hr2
    have f0 := frozen_of_row _ _ 0 _ _ hr2
    have f1 := frozen_of_row _ _ 1 _ _ hr2
    have f2 := frozen_of_row _ _ 2 _ _ hr2
    have FIN : Hid (∀ W', W' = _ → _) := put3 w3 w.heap.size _ _ _ (.string ⟨#[]⟩) (.string ⟨#[]⟩) (.bool false) _ hr2
    clear hr2
    go_wp2
    obtain ⟨G, hb⟩ := FIN.out _ rfl
    refine bodyPost_ret (by simp [results, Tryz.results10, go_sem, G.1, G.2.1, G.2.2]; try rfl) rfl ?_
    exact ⟨rfl, (over BW.out B3.out).trans (hb _ (Nat.le_refl _))⟩
end Go.Proofs.YthppkdjekfginaaGreatDoor.jl
