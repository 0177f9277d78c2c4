import Derived.Test.YtjjeiklhmbhhoaaDoorCt
import Derived.Test.YtjjeiklhmbhhoaaDoorCn
import Derived.Test.YtjjeiklhmbhhoaaDoorCd
import Derived.Test.YtjjeiklhmbhhoaaDoorCe
import Derived.Laws.BitsAllLaws
namespace Go.Proofs.YtjjeiklhmbhhoaaDoor.cf
open Go.RowKit Go.PlainAid
open Go.Proofs.YtjjeiklhmbhhoaaDoor.ca Go.Proofs.YtjjeiklhmbhhoaaDoor.cb Go.Proofs.YtjjeiklhmbhhoaaDoor.cp Go.Proofs.YtjjeiklhmbhhoaaDoor.cs Go.Proofs.YtjjeiklhmbhhoaaDoor.ct Go.Proofs.YtjjeiklhmbhhoaaDoor.cn Go.Proofs.YtjjeiklhmbhhoaaDoor.cc Go.Proofs.YtjjeiklhmbhhoaaDoor.cd Go.Proofs.YtjjeiklhmbhhoaaDoor.ce
set_option linter.unusedVariables false

theorem tree_cover {T : World → Prop} (CV : CoverC T) (lo hi : Int) (h0 : i64 lo) (h1 : i64 hi) (w : World) (hT : T w) :
    Calls Tryd.prog 4 #[.int .i64 lo, .int .i64 hi] w fun e w' => e = .returned (.bool true) ∧ Below w.heap.size w w' := by
  have HTW : Hid (T w) := hT
  have C1 : Hid (∀ w, T w → Calls _ _ _ _ _) := fun w h => CV.covers lo hi h0 h1 w h
  have C2 : Hid (∀ w, Calls _ _ _ _ _) := fun w => rCover lo hi h0.1 h0.2 h1.1 h1.2 w
  have HL : Hid ((covI lo hi).length ≤ 122) := covI_len lo hi
  obtain ⟨ec, HE⟩ : ∃ ec, Hid (covE lo hi = ec) := ⟨_, rfl⟩
  have qe : (ec == ec) = true := beq_self_eq_true _
  clear CV hT
  go_enter Tryd.func4, Tryd.ntmps4
  go_wp2_with fail
  refine (C1.out _ HTW.out).mono ?_
  rintro e w1 ⟨⟨a, rfl, oa⟩, hb⟩
  rw [HE.out]
  have RA : Hid (ReadsA w1 a (covI lo hi)) := own_readsA oa
  have B1 : Hid (Below w.heap.size w w1) := hb
  clear oa hb
  go_wp2_with fail
  refine (C2.out _).mono ?_
  rintro e w2 ⟨⟨b, rfl, ob⟩, hb⟩
  rw [HE.out]
  have RB : Hid (ReadsA w2 b (covI lo hi)) := own_readsA ob
  have RA2 : Hid (ReadsA w2 a (covI lo hi)) := RA.out.later hb
  have B2 : Hid (Below w.heap.size w w2) := over B1.out hb
  have NM : Hid (∀ w, Calls _ _ _ _ _) := fun w => num ec w
  clear ob hb
  go_wp2_with fail
  refine (NM.out _).mono ?_
  rintro e w3 ⟨rfl, hw3⟩
  subst hw3
  go_wp2_with fail
  refine (same _ _ (covI lo hi) _ RA2.out RB.out (by have := HL.out; omega)).mono ?_
  rintro e w4 ⟨rfl, m, hm⟩
  have B4 : Hid (Below w.heap.size w w4) := by subst hm; exact below_dN B2.out m
  clear hm
  go_wp2
  go_ret
  exact ⟨rfl, B4.out⟩
theorem and_one (d : Nat) (h : d ≤ 4611686018427387904) : bits .and .i64 (d : Int) 1 = ((d % 2 : Nat) : Int) := by
  have h1 : (BitVec.ofInt 64 1).toNat = 2 ^ 1 - 1 := by decide
  have key : (BitVec.ofInt 64 (d : Int) &&& BitVec.ofInt 64 1).toNat = ((d : Int) % ((2 ^ 64 : Nat) : Int)).toNat % 2 ^ 1 := by
    rw [BitVec.toNat_and, BitVec.toNat_ofInt, h1, Nat.and_two_pow_sub_one_eq_mod]
  show IntKind.i64.wrap ((BitVec.ofInt 64 (d : Int) &&& BitVec.ofInt 64 1).toNat : Nat) = ((d % 2 : Nat) : Int)
  rw [key, IntKind.wrap_i64]
  omega
-- the digits of n against the list
theorem digs_step {k n : Nat} (h : n / 2 ^ k % 2 = 1) : digs (k + 1) n = k :: digs k n := by show (if _ then _ else _) = _; rw [if_pos h]
theorem digs_skip {k n : Nat} (h : ¬ n / 2 ^ k % 2 = 1) : digs (k + 1) n = digs k n := by show (if _ then _ else _) = _; rw [if_neg h]
set_option maxHeartbeats 1600000 in
theorem tree_peaks {T : World → Prop} (CV : CoverC T) (n : Int) (h : i64 n) (w : World) (hT : T w) :
    Calls Tryd.prog 3 #[.int .i64 n] w fun e w' => e = .returned (.bool true) ∧ Below w.heap.size w w' := by
  have HTW : Hid (T w) := hT
  have C1 : Hid (∀ w, T w → Calls _ _ _ _ _) := fun w h' => CV.covers 0 n ⟨by omega, by omega⟩ h w h'
  clear CV hT
  by_cases hok : 0 ≤ n ∧ n ≤ 4611686018427387904
  · obtain ⟨m, rfl⟩ : ∃ m : Nat, n = m := ⟨n.toNat, by omega⟩
    have hm : m ≤ 4611686018427387904 := by omega
    have HOK : okR 0 m := ⟨by omega, by omega, by omega⟩
    have HE : Hid (covE 0 m = 0) := by show _ = _; unfold covE; rw [if_pos HOK]
    have HI : Hid (covI 0 m = cov 0 m) := by show _ = _; unfold covI; rw [if_pos HOK]; rfl
    have HD : Hid ((cov 0 m).map Prod.fst = digs 63 m) := by
      have := cov_digs 63 0 m (Nat.dvd_zero _) (by rw [p63]; omega) (Nat.le_refl _)
      rw [Nat.zero_add] at this
      exact this
    have t1 : ¬ (m : Int) < 0 := by omega
    have t2 : ¬ (m : Int) > 4611686018427387904 := by omega
    have NM : Hid (∀ w, Calls _ _ _ _ _) := fun w => num 0 w
    clear hok HOK
    go_enter Tryd.func3, Tryd.ntmps3
    go_wp2_with fail
    refine (C1.out _ HTW.out).mono ?_
    rintro e w1 ⟨⟨a, rfl, oa⟩, hb⟩
    rw [HE.out]
    rw [HI.out] at oa
    have RA : Hid (ReadsA w1 a (cov 0 m)) := own_readsA oa
    have B1 : Hid (Below w.heap.size w w1) := hb
    obtain ⟨aa, ca, rfl⟩ := formA RA.out
    obtain ⟨z, HZ⟩ : ∃ z, Hid ((cov 0 m).length = z) := ⟨_, rfl⟩
    have hz : z ≤ 122 := by rw [← HZ.out, ← HI.out]; exact covI_len 0 m
    rw [HZ.out] at RA ⊢
    clear oa hb
    go_wp2_with fail
    refine (NM.out _).mono ?_
    rintro e w2 ⟨rfl, hw2⟩
    subst hw2
    go_wp2
    go_loopw [7, 8] (fun i k wr => ∃ (x y : Nat) (pre : List Nat), y ≤ 63 ∧ i = .int .i64 x ∧ k = .int .i64 ((y : Int) - 1) ∧ Hid (pre ++ digs y m = (cov 0 m).map Prod.fst ∧ pre.length = x) ∧ wr = w2) (fun _ k _ => (intOf k + 1).toNat)
    case atStart => exact ⟨0, 63, [], by omega, rfl, rfl, ⟨HD.out.symm, rfl⟩, rfl⟩
    case round =>
      obtain ⟨x, y, pre, hy, rfl, rfl, HL, rfl⟩ := hrel
      cases y with
      | zero =>
        have HX : Hid (x = z) := by
          have e := congrArg List.length HL.out.1
          rw [List.length_append, List.length_map, HZ.out, HL.out.2] at e
          exact e
        have e1 : ((0 : Nat) : Int) - 1 = -1 := rfl
        have hx := HX.out
        subst hx
        have qx : ((x : Int) == (x : Int)) = true := beq_self_eq_true _
        rw [e1]
        go_wp2
        go_ret
        exact ⟨rfl, B1.out⟩
      | succ k =>
        have e1 : ((k + 1 : Nat) : Int) - 1 = (k : Int) := by omega
        rw [e1]
        have hk : k ≤ 62 := by omega
        have hk0 : (0 : Int) ≤ (k : Int) := by omega
        obtain ⟨t, HT⟩ : ∃ t : Nat, Hid (2 ^ k = t) := ⟨_, rfl⟩
        have hT : (2 : Int) ^ k = (t : Int) := by rw [cast_pow, HT.out]
        have hdv : ((m : Int) / (t : Int)) = ((m / t : Nat) : Int) := (Int.natCast_ediv m t).symm
        obtain ⟨d, HDD⟩ : ∃ d, Hid (m / t = d) := ⟨_, rfl⟩
        rw [HDD.out] at hdv
        have hd : d ≤ 4611686018427387904 := by rw [← HDD.out]; exact Nat.le_trans (Nat.div_le_self _ _) hm
        have han := and_one d hd
        clear e1
        by_cases hb : d % 2 = 1
        · have HST : Hid (pre ++ k :: digs k m = (cov 0 m).map Prod.fst) := by
            show _ = _
            rw [← HL.out.1, digs_step (by rw [HT.out, HDD.out]; exact hb)]
          have HLE := congrArg List.length HST.out
          rw [List.length_append, List.length_cons, List.length_map, HZ.out, HL.out.2] at HLE
          have hxz : x < z := by omega
          have hxz' : (x : Int) < z := by omega
          have hxz2 : ¬ (x : Int) ≥ z := by omega
          have hxc : x < (cov 0 m).length := by rw [HZ.out]; exact hxz
          have HG : Hid ((cov 0 m)[x]? = some (k, ((cov 0 m)[x]'hxc).2)) := by
            show _ = _
            have e := congrArg (fun l : List Nat => l[x]?) HST.out
            rw [List.getElem?_append_right (by rw [HL.out.2]; exact Nat.le_refl _), HL.out.2, Nat.sub_self, List.getElem?_map, List.getElem?_eq_getElem hxc] at e
            have e : k = ((cov 0 m)[x]'hxc).1 := by simpa using e
            rw [List.getElem?_eq_getElem hxc, e]
          obtain ⟨b, hab, c1⟩ : ∃ b, aa = some ⟨b, 0, none⟩ ∧ wr.cell? ⟨b, x * 2, none⟩ = some (.int .i64 (k : Nat)) := by
            obtain ⟨a', cap', e1, hc⟩ := RA.out
            injection e1 with e1 e2 e3
            subst e1
            rcases hc with h0 | ⟨b, e4, hc⟩
            · omega
            · exact ⟨b, e4, (hc x _ HG.out).1⟩
          subst hab
          have hbb : ((d % 2 : Nat) : Int) = 1 := by omega
          rw [hbb] at han
          have qk : ((k : Int) == (k : Int)) = true := beq_self_eq_true _
          have HN : Hid (pre ++ [k] ++ digs k m = (cov 0 m).map Prod.fst ∧ (pre ++ [k]).length = x + 1) := by
            refine ⟨by rw [List.append_assoc]; exact HST.out, by rw [List.length_append, HL.out.2]; rfl⟩
          clear HLE
          go_wp2
          go_roundw
          case rel => exact ⟨x + 1, k, pre ++ [k], by omega, by go_num, rfl, HN.out, by first | rfl | trivial⟩
          case measure => simp [intOf]
        · have hbb : ((d % 2 : Nat) : Int) = 0 := by omega
          rw [hbb] at han
          have HN : Hid (pre ++ digs k m = (cov 0 m).map Prod.fst ∧ pre.length = x) := by
            refine ⟨?_, HL.out.2⟩
            rw [← HL.out.1, digs_skip (by rw [HT.out, HDD.out]; exact hb)]
          go_wp2
          go_roundw
          case rel => exact ⟨x, k, pre, by omega, rfl, rfl, HN.out, by first | rfl | trivial⟩
          case measure => simp [intOf]
  · have HE : Hid (covE 0 n = 10) := by
      show _ = _
      unfold covE
      rw [if_neg (fun h => hok ⟨h.2.1, h.2.2⟩)]
    have NM : Hid (∀ w, Calls _ _ _ _ _) := fun w => num 10 w
    by_cases a1 : n < 0
    · clear hok
      go_enter Tryd.func3, Tryd.ntmps3
      go_wp2_with fail
      refine (C1.out _ HTW.out).mono ?_
      rintro e w1 ⟨⟨a, rfl, oa⟩, hb⟩
      rw [HE.out]
      have B1 : Hid (Below w.heap.size w w1) := hb
      clear oa hb
      go_wp2_with fail
      refine (NM.out _).mono ?_
      rintro e w2 ⟨rfl, hw2⟩
      subst hw2
      go_wp2
      go_ret
      exact ⟨rfl, B1.out⟩
    · have a2 : n > 4611686018427387904 := by omega
      clear hok
      go_enter Tryd.func3, Tryd.ntmps3
      go_wp2_with fail
      refine (C1.out _ HTW.out).mono ?_
      rintro e w1 ⟨⟨a, rfl, oa⟩, hb⟩
      rw [HE.out]
      have B1 : Hid (Below w.heap.size w w1) := hb
      clear oa hb
      go_wp2_with fail
      refine (NM.out _).mono ?_
      rintro e w2 ⟨rfl, hw2⟩
      subst hw2
      go_wp2
      go_ret
      exact ⟨rfl, B1.out⟩
end Go.Proofs.YtjjeiklhmbhhoaaDoor.cf
