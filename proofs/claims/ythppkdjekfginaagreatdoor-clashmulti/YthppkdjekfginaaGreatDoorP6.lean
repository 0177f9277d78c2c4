import Derived.Test.YthppkdjekfginaaGreatDoorP5
import Derived.Test.YthppkdjekfginaaGreatDoorG4
import Derived.Test.YthppkdjekfginaaGreatDoorL3
namespace Go.Proofs.YthppkdjekfginaaGreatDoor.ji
open Go.RowKit Go.PlainAid
open Go.Proofs.YthppkdjekfginaaGreatDoor.pl Go.Proofs.YthppkdjekfginaaGreatDoor.pi Go.Proofs.YthppkdjekfginaaGreatDoor.pj Go.Proofs.YthppkdjekfginaaGreatDoor.rf Go.Proofs.YthppkdjekfginaaGreatDoor.ca Go.Proofs.YthppkdjekfginaaGreatDoor.cb Go.Proofs.YthppkdjekfginaaGreatDoor.cp Go.Proofs.YthppkdjekfginaaGreatDoor.ga Go.Proofs.YthppkdjekfginaaGreatDoor.gb Go.Proofs.YthppkdjekfginaaGreatDoor.aa Go.Proofs.YthppkdjekfginaaGreatDoor.ka Go.Proofs.YthppkdjekfginaaGreatDoor.kb Go.Proofs.YthppkdjekfginaaGreatDoor.kc Go.Proofs.YthppkdjekfginaaGreatDoor.kp Go.Proofs.YthppkdjekfginaaGreatDoor.mi Go.Proofs.YthppkdjekfginaaGreatDoor.lk Go.Proofs.YthppkdjekfginaaGreatDoor.co Go.Proofs.YthppkdjekfginaaGreatDoor.de Go.Proofs.YthppkdjekfginaaGreatDoor.dc Go.Proofs.YthppkdjekfginaaGreatDoor.qb Go.Proofs.YthppkdjekfginaaGreatDoor.qc Go.Proofs.YthppkdjekfginaaGreatDoor.ta Go.Proofs.YthppkdjekfginaaGreatDoor.tb Go.Proofs.YthppkdjekfginaaGreatDoor.tc Go.Proofs.YthppkdjekfginaaGreatDoor.ua Go.Proofs.YthppkdjekfginaaGreatDoor.uk Go.Proofs.YthppkdjekfginaaGreatDoor.ul Go.Proofs.YthppkdjekfginaaGreatDoor.um Go.Proofs.YthppkdjekfginaaGreatDoor.un Go.Proofs.YthppkdjekfginaaGreatDoor.ja Go.Proofs.YthppkdjekfginaaGreatDoor.jb Go.Proofs.YthppkdjekfginaaGreatDoor.jc Go.Proofs.YthppkdjekfginaaGreatDoor.je Go.Proofs.YthppkdjekfginaaGreatDoor.ya Go.Proofs.YthppkdjekfginaaGreatDoor.jf Go.Proofs.YthppkdjekfginaaGreatDoor.jg
set_option linter.unusedVariables false

theorem add_text (a b : ByteArray) (h : a.size + b.size ≤ 9223372036854775807) : Op.stringOp .add a b = pure (.string (a ++ b)) := by
  unfold Op.stringOp
  rw [if_neg]
  have e : IntKind.i64.max = 9223372036854775807 := by decide
  rw [e]
  omega
theorem set_three {W : World} {g : Nat} {x y z : Value} {t : TypeId} (h : W.heap[g]? = some (.cells #[x, y, z] t (0, 0))) (a b c : Value) : (((W.setCell ⟨g, 0, none⟩ a).setCell ⟨g, 1, none⟩ b).setCell ⟨g, 2, none⟩ c).heap[g]? = some (.cells #[a, b, c] t (0, 0)) :=
  heap_setCell_same _ _ 2 _ _ c (heap_setCell_same _ _ 1 _ _ b (heap_setCell_same _ _ 0 _ _ a h))
theorem kp_three (W : World) (g : Nat) (a b c : Value) : Kp (fun q => q = g) W (((W.setCell ⟨g, 0, none⟩ a).setCell ⟨g, 1, none⟩ b).setCell ⟨g, 2, none⟩ c) :=
  ((Kp.setCell (A := fun q => q = g) _ _ _ _ rfl).trans (Kp.setCell (A := fun q => q = g) _ _ _ _ rfl)).trans (Kp.setCell (A := fun q => q = g) _ _ _ _ rfl)
theorem boxes2 (w : World) (q1 q2 : Value) : ∀ W, W = (w.alloc (.cells #[q1, q2] 61)).alloc (.cells #[.string ⟨#[]⟩, .string ⟨#[]⟩, .bool false] 26) → Below w.heap.size w W ∧ W.heap.size = w.heap.size + 2 ∧ W.cell? ⟨w.heap.size, 0, none⟩ = some q1 ∧ W.cell? ⟨w.heap.size, 1, none⟩ = some q2 ∧ W.heap[w.heap.size + 1]? = some (.cells #[.string ⟨#[]⟩, .string ⟨#[]⟩, .bool false] 26 (0, 0)) := by
  intro W hW
  subst hW
  have s1 : (w.alloc (.cells #[q1, q2] 61)).heap.size = w.heap.size + 1 := by simp
  have h0 := heap_alloc_new w (.cells #[q1, q2] 61)
  have h1 : ((w.alloc (.cells #[q1, q2] 61)).alloc (.cells #[.string ⟨#[]⟩, .string ⟨#[]⟩, .bool false] 26)).heap[w.heap.size]? = _ := (Below.heap_alloc _ _ _ (by omega)).trans h0
  have h2 := heap_alloc_new (w.alloc (.cells #[q1, q2] 61)) (.cells #[.string ⟨#[]⟩, .string ⟨#[]⟩, .bool false] 26)
  rw [s1] at h2
  exact ⟨((Below.refl _ _).alloc (Nat.le_refl _) _).alloc (by simp) _, by simp, cell_of_row _ _ 0 _ _ _ h1, cell_of_row _ _ 1 _ _ _ h1, h2⟩
set_option maxRecDepth 100000 in
set_option maxHeartbeats 25600000 in
theorem downD (wd : Int) {lk : Nat → Nat → Nat} {lf : Nat → ByteArray} (S : Sh lk) (list : List ByteArray) (hx : Fits list) (n : Nat) : ∀ (a b : Nat) (q1 q2 : Value) (ps : List (Nat × ByteArray)) (v : Value) (pf : List ByteArray) (vl : Value) (w : World), b - a = n → a < b → b ≤ list.length → Rep lk lf ps a b → Aq w q1 q2 ps → ps.length * 16 ≤ 140737488351232 → (∀ p ∈ ps, p.2.size ≤ 140737488352000) → pf.length = (WL lk a b).length → Wide wd pf → ReadsT w v pf → pf.length ≤ 140737488355328 → ReadsT w vl list → Tab4 w →
    Calls Tryz.prog 37 #[.int .i64 wd, vl, .agg #[q1, q2], .int .i64 a, .int .i64 b, v] w fun e w' => e = .returned (clV (fst1 (clM wd lk lf pf a b) (owM wd lk list a b))) ∧ Below w.heap.size w w' := by
  induction n using Nat.strongRecOn with
  | ind n ih =>
    intro a b q1 q2 ps v pf vl w hn hab hb hR hA hz hsz hl hw hRv hpz hRl hT
    have h32 := qb.wid_le wd
    have hxm := hx.many
    have hb62 : b ≤ 4611686018427387904 := by omega
    have RT0 : Hid (ReadsT w v pf) := hRv
    have RL0 : Hid (ReadsT w vl list) := hRl
    have HT : Hid (Tab4 w) := hT
    obtain ⟨pa, pc, rfl, hpc, hph⟩ := hRv
    obtain ⟨la, lc, rfl, hlc, hlh⟩ := hRl
    obtain ⟨bb, lo, hla, hlq⟩ := hlh.resolve_left (by omega)
    subst hla
    obtain ⟨⟨ia, ic, rfl, hic, hih⟩, ⟨ta', tc, rfl, htc, hth⟩⟩ := id hA
    obtain ⟨l1, HL1⟩ : ∃ n, Hid ((zsP ps).length = n) := ⟨_, rfl⟩
    obtain ⟨l2, HL2⟩ : ∃ n, Hid ((csP ps).length = n) := ⟨_, rfl⟩
    rw [HL1.out] at hA ⊢
    rw [HL2.out] at hA ⊢
    obtain ⟨W, HW⟩ : ∃ W, Hid (W = (w.alloc (.cells #[.slice ia l1 ic, .slice ta' l2 tc] 61)).alloc (.cells #[.string ⟨#[]⟩, .string ⟨#[]⟩, .bool false] 26)) := ⟨_, rfl⟩
    have hW : (w.alloc (.cells #[.slice ia l1 ic, .slice ta' l2 tc] 61)).alloc (.cells #[.string ⟨#[]⟩, .string ⟨#[]⟩, .bool false] 26) = W := HW.out.symm
    obtain ⟨bw, sw, s0, s1, rw0⟩ := boxes2 w (.slice ia l1 ic) (.slice ta' l2 tc) W HW.out
    have BW : Hid (Below w.heap.size w W) := bw
    obtain ⟨r, hr⟩ : ∃ r, w.heap.size + 1 = r := ⟨_, rfl⟩
    rw [hr] at rw0
    have HRW : Hid (r < W.heap.size ∧ w.heap.size ≤ r) := ⟨by omega, by omega⟩
    have F4 : Hid (∀ w4, Below W.heap.size W w4 → w4.heap[r]? = some (.cells #[.string ⟨#[]⟩, .string ⟨#[]⟩, .bool false] 26 (0, 0))) := fun w4 k => (k.block _ HRW.out.1).trans rw0
    have WC : Hid (Calls _ _ _ _ _) := within (.slice ia l1 ic) (.slice ta' l2 tc) ps a b W (hA.later BW.out) hz
    obtain ⟨xs, HXS⟩ : ∃ xs, Hid (inP ps a b = xs) := ⟨_, rfl⟩
    rw [HXS.out] at WC
    clear hih hth hic htc bw sw rw0 HW
    by_cases h0 : inP ps a b = []
    · have h1 := hR.none hab h0
      rw [dn_none h1]
      have hx0 : xs.length = 0 := by rw [← HXS.out, h0]; rfl
      rw [hx0] at WC
      obtain ⟨l, HNP⟩ : ∃ k, Hid (pf.length = k) := ⟨_, rfl⟩
      obtain ⟨nl, HNL⟩ : ∃ k, Hid (list.length = k) := ⟨_, rfl⟩
      rw [HNP.out, HNL.out]
      clear ih hR hA h0 hx0 hz hn hab hb HXS HL1 HL2 hl h1 hpc hph hw hsz hpz hT h32 RT0 RL0 hlq hlc hx hxm HNP HNL hb62
      go_enter Tryz.func37, Tryz.ntmps37
      go_wp2_with fail
      try rw [hr]
      try rw [hW]
      refine WC.out.mono ?_
      rintro e w2 ⟨⟨u1, u2, n1, c1, n2, c2, rfl, HN1, hg2, ha2⟩, hb2⟩
      have B2 : Hid (Below W.heap.size W w2) := hb2
      have A2 : Hid (Aq w2 (.slice u1 n1 c1) (.slice u2 n2 c2) xs) := ha2
      have HG2 : Hid (∀ g off, u2 = some ⟨g, off, none⟩ → W.heap.size ≤ g) := hg2
      clear hb2 ha2 s0 s1 hg2
      subst HN1
      obtain ⟨V, HV⟩ : ∃ V, Hid (V = w2.alloc (.cells #[.slice u1 0 c1, .slice u2 n2 c2] 61)) := ⟨_, rfl⟩
      have hv : w2.alloc (.cells #[.slice u1 0 c1, .slice u2 n2 c2] 61) = V := HV.out.symm
      have BV : Hid (Below w2.heap.size w2 V) := by rw [HV.out]; exact (Below.refl _ _).alloc (Nat.le_refl _) _
      have KX : Hid (∀ W', Kp (fun q => q = r) V W' → W'.cell? ⟨w2.heap.size, 0, none⟩ = some (.slice u1 0 c1) ∧ W'.cell? ⟨w2.heap.size, 1, none⟩ = some (.slice u2 n2 c2)) := fun W' k => by
        have hx := HV.out
        obtain ⟨x0, x1⟩ : V.cell? ⟨w2.heap.size, 0, none⟩ = some (.slice u1 0 c1) ∧ V.cell? ⟨w2.heap.size, 1, none⟩ = some (.slice u2 n2 c2) := by rw [hx]; exact box2 w2 _ _ _ _ (Below.refl _ _)
        have hne : w2.heap.size ≠ r := by have h1 := HRW.out.1; have h2 := B2.out.size; omega
        exact ⟨k.cell x0 hne, k.cell x1 hne⟩
      have SX : Hid (∀ W', Below V.heap.size V W' → W'.cell? ⟨w2.heap.size, 0, none⟩ = some (.slice u1 0 c1) ∧ W'.cell? ⟨w2.heap.size, 1, none⟩ = some (.slice u2 n2 c2)) := fun W' b => KX.out W' (Kp.of_below b)
      have AX : Hid (∀ W', Below V.heap.size V W' → Aq W' (.slice u1 0 c1) (.slice u2 n2 c2) xs) := fun W' b => A2.out.later (over BV.out b)
      have WX : Hid (∀ W', Below V.heap.size V W' → Below W.heap.size W W') := fun W' b => over B2.out (over BV.out b)
      have BX : Hid (∀ W', Below V.heap.size V W' → Below w.heap.size w W') := fun W' b => over BW.out (WX.out W' b)
      obtain ⟨s0, s1⟩ := SX.out V (Below.refl _ _)
      clear HV hW
      have hr2 := F4.out V (WX.out _ (Below.refl _ _))
      have e0 : V.cell? ⟨r, 0, none⟩ = _ := cell_of_row _ _ 0 _ _ _ hr2
      have e1 : V.cell? ⟨r, 1, none⟩ = _ := cell_of_row _ _ 1 _ _ _ hr2
      have e2 : V.cell? ⟨r, 2, none⟩ = _ := cell_of_row _ _ 2 _ _ _ hr2
      have f0 := frozen_of_row _ _ 0 _ _ hr2
      have f1 := frozen_of_row _ _ 1 _ _ hr2
      have f2 := frozen_of_row _ _ 2 _ _ hr2
      have FIN : Hid (∀ W', W' = _ → _) := put3 V r _ _ _ (.string ⟨#[]⟩) (.string ⟨#[]⟩) (.bool false) _ hr2
      clear hr2
      go_wp2
      obtain ⟨G, hb⟩ := FIN.out _ rfl
      refine bodyPost_ret (by simp [results, Tryz.results37, go_sem, G.1, G.2.1, G.2.2]; try rfl) rfl ?_
      exact ⟨rfl, (BX.out _ (Below.refl _ _)).trans (hb _ HRW.out.2)⟩
    · have hk1 := hR.some hab h0
      by_cases h1 : b - a = 1
      · have hlf := hR.leaf h1 h0
        rw [dn_leaf hk1 (by omega)]
        have hzl : (lf a).size ≤ 140737488352000 := hsz (a, lf a) (by have := (inP_mem (ps := ps) (a := a) (b := b) (p := (a, lf a))).1 (by rw [hlf]; exact List.mem_cons_self); exact this.1)
        have hzx : (list.getD a ByteArray.empty).size ≤ 140737488352000 := by
          rw [List.getD_eq_getElem?_getD, List.getElem?_eq_getElem (show a < list.length by omega)]
          exact hx.each _ (List.getElem_mem _)
        have HCL : Hid (w.cell? ⟨bb, lo + a, none⟩ = some (.string (list.getD a ByteArray.empty))) := hlq a (by omega)
        obtain ⟨y, HY⟩ : ∃ y, Hid (lf a = y) := ⟨_, rfl⟩
        obtain ⟨x, HX⟩ : ∃ y, Hid (list.getD a ByteArray.empty = y) := ⟨_, rfl⟩
        rw [HY.out] at hzl ⊢
        rw [HX.out] at hzx HCL ⊢
        have hxs : xs = [(a, y)] := by rw [← HXS.out, hlf, HY.out]
        have HX1 : Hid (xs = [(a, y)]) := hxs
        have hx0 : xs.length = 1 := by rw [hxs]; rfl
        rw [hx0] at WC
        have q2 : (b : Int) - a = 1 := by omega
        have q3 : IntKind.i64.wrap ((b : Int) - a) = 1 := by rw [q2, IntKind.wrap_i64]; decide
        have qa : (a : Int) < (list.length : Nat) := by omega
        have qa' : a < list.length := by omega
        have z1 : (⟨#[0]⟩ : ByteArray).size = 1 := rfl
        have a1 := add_text ⟨#[0]⟩ y (by omega)
        have a2 := add_text ⟨#[0]⟩ x (by omega)
        have XF : Hid (∀ W', Calls Tryz.prog 28 #[.string (⟨#[0]⟩ ++ y), .string (⟨#[0]⟩ ++ x)] W' fun e w' => e = .returned (.agg #[.string (⟨#[0]⟩ ++ y), .string (⟨#[0]⟩ ++ x), .bool true]) ∧ Below W'.heap.size W' w') := fun W' => xfound (tx0 y) (tx0 x) W'
        obtain ⟨l, HNP⟩ : ∃ k, Hid (pf.length = k) := ⟨_, rfl⟩
        obtain ⟨nl, HNL⟩ : ∃ k, Hid (list.length = k) := ⟨_, rfl⟩
        rw [HNL.out] at qa qa' ⊢
        rw [HNP.out]
        by_cases hyx : y = x
        · rw [if_pos hyx]
          have qt : (y.toList == x.toList) = true := by rw [beqL]; exact decide_eq_true hyx
          clear ih hR hA h0 hx0 hz hn hab hb HXS HL1 HL2 hl h1 hpc hph hw hsz hpz hT h32 HY HX RT0 RL0 hlf hzl hzx hk1 hxs hlq hlc hx hxm HNP HNL hb62 hyx a1 a2 z1 XF
          go_enter Tryz.func37, Tryz.ntmps37
          go_wp2_with fail
          try rw [hr]
          try rw [hW]
          refine WC.out.mono ?_
          rintro e w2 ⟨⟨u1, u2, n1, c1, n2, c2, rfl, HN1, hg2, ha2⟩, hb2⟩
          have B2 : Hid (Below W.heap.size W w2) := hb2
          have A2 : Hid (Aq w2 (.slice u1 n1 c1) (.slice u2 n2 c2) xs) := ha2
          have HG2 : Hid (∀ g off, u2 = some ⟨g, off, none⟩ → W.heap.size ≤ g) := hg2
          clear hb2 ha2 s0 s1 hg2
          subst HN1
          obtain ⟨V, HV⟩ : ∃ V, Hid (V = w2.alloc (.cells #[.slice u1 1 c1, .slice u2 n2 c2] 61)) := ⟨_, rfl⟩
          have hv : w2.alloc (.cells #[.slice u1 1 c1, .slice u2 n2 c2] 61) = V := HV.out.symm
          have BV : Hid (Below w2.heap.size w2 V) := by rw [HV.out]; exact (Below.refl _ _).alloc (Nat.le_refl _) _
          have KX : Hid (∀ W', Kp (fun q => q = r) V W' → W'.cell? ⟨w2.heap.size, 0, none⟩ = some (.slice u1 1 c1) ∧ W'.cell? ⟨w2.heap.size, 1, none⟩ = some (.slice u2 n2 c2)) := fun W' k => by
            have hx := HV.out
            obtain ⟨x0, x1⟩ : V.cell? ⟨w2.heap.size, 0, none⟩ = some (.slice u1 1 c1) ∧ V.cell? ⟨w2.heap.size, 1, none⟩ = some (.slice u2 n2 c2) := by rw [hx]; exact box2 w2 _ _ _ _ (Below.refl _ _)
            have hne : w2.heap.size ≠ r := by have h1 := HRW.out.1; have h2 := B2.out.size; omega
            exact ⟨k.cell x0 hne, k.cell x1 hne⟩
          have SX : Hid (∀ W', Below V.heap.size V W' → W'.cell? ⟨w2.heap.size, 0, none⟩ = some (.slice u1 1 c1) ∧ W'.cell? ⟨w2.heap.size, 1, none⟩ = some (.slice u2 n2 c2)) := fun W' b => KX.out W' (Kp.of_below b)
          have AX : Hid (∀ W', Below V.heap.size V W' → Aq W' (.slice u1 1 c1) (.slice u2 n2 c2) xs) := fun W' b => A2.out.later (over BV.out b)
          have WX : Hid (∀ W', Below V.heap.size V W' → Below W.heap.size W W') := fun W' b => over B2.out (over BV.out b)
          have BX : Hid (∀ W', Below V.heap.size V W' → Below w.heap.size w W') := fun W' b => over BW.out (WX.out W' b)
          obtain ⟨s0, s1⟩ := SX.out V (Below.refl _ _)
          clear HV hW
          obtain ⟨g, off, hu2, hn2, hc9⟩ : ∃ g off, u2 = some ⟨g, off, none⟩ ∧ n2 = 1 ∧ w2.cell? ⟨g, off, none⟩ = some (.string y) := by
            obtain ⟨a', c', e, _, hh⟩ := A2.out.t
            rw [HX1.out] at e hh
            injection e with e1 e2 e3
            obtain ⟨g, off, hg, hc⟩ := hh.resolve_left (show ¬ (csP [(a, y)]).length = 0 from Nat.one_ne_zero)
            exact ⟨g, off, by rw [e1, hg], by rw [e2]; rfl, hc 0 (show 0 < (csP [(a, y)]).length from Nat.zero_lt_one)⟩
          subst hu2
          subst hn2
          have HC9 : Hid (V.cell? ⟨g, off, none⟩ = some (.string y) ∧ g ≠ r ∧ V.cell? ⟨bb, lo + a, none⟩ = some (.string x) ∧ bb ≠ r) := by
            refine ⟨(BV.out.cell (World.block_lt_of_cell? _ _ hc9)).trans hc9, ?_, ((BX.out V (Below.refl _ _)).cell (World.block_lt_of_cell? _ _ HCL.out)).trans HCL.out, ?_⟩
            · have h4 := HG2.out g off rfl
              have h5 := HRW.out.1
              omega
            · have h4 : bb < w.heap.size := World.block_lt_of_cell? _ _ HCL.out
              have h5 := HRW.out.2
              omega
          have c8 := HC9.out.1
          have c9 := HC9.out.2.2.1
          clear hc9
          go_wp2_with fail
          try rw [hv]
          go_upto_region 5 with fail
          go_quiet (fail)
          obtain ⟨V2, HV2⟩ : ∃ V2, Hid (V.drewN nq = V2) := ⟨_, rfl⟩
          rw [HV2.out]
          have BV2 : Hid (Below V.heap.size V V2) := by rw [← HV2.out]; exact below_dN (Below.refl _ _) _
          clear HV2
          have hr2 := F4.out V2 (WX.out _ BV2.out)
          have e0 : V2.cell? ⟨r, 0, none⟩ = _ := cell_of_row _ _ 0 _ _ _ hr2
          have e1 : V2.cell? ⟨r, 1, none⟩ = _ := cell_of_row _ _ 1 _ _ _ hr2
          have e2 : V2.cell? ⟨r, 2, none⟩ = _ := cell_of_row _ _ 2 _ _ _ hr2
          have f0 := frozen_of_row _ _ 0 _ _ hr2
          have f1 := frozen_of_row _ _ 1 _ _ hr2
          have f2 := frozen_of_row _ _ 2 _ _ hr2
          have FIN : Hid (∀ W', W' = _ → _) := put3 V2 r _ _ _ (.string ⟨#[]⟩) (.string ⟨#[]⟩) (.bool false) _ hr2
          clear hr2
          go_wp2
          obtain ⟨G, hb⟩ := FIN.out _ rfl
          refine bodyPost_ret (by simp [results, Tryz.results37, go_sem, G.1, G.2.1, G.2.2]; try rfl) rfl ?_
          exact ⟨rfl, (BX.out _ BV2.out).trans (hb _ HRW.out.2)⟩
        · rw [if_neg hyx]
          have qt : (y.toList == x.toList) = false := by rw [beqL]; exact decide_eq_false hyx
          have hyx2 : ¬ y = x := hyx
          clear ih hR hA h0 hx0 hz hn hab hb HXS HL1 HL2 hl h1 hpc hph hw hsz hpz hT h32 HY HX RT0 RL0 hlf hk1 hxs hlq hlc hx hxm HNP HNL hb62 hyx hyx2
          go_enter Tryz.func37, Tryz.ntmps37
          go_wp2_with fail
          try rw [hr]
          try rw [hW]
          refine WC.out.mono ?_
          rintro e w2 ⟨⟨u1, u2, n1, c1, n2, c2, rfl, HN1, hg2, ha2⟩, hb2⟩
          have B2 : Hid (Below W.heap.size W w2) := hb2
          have A2 : Hid (Aq w2 (.slice u1 n1 c1) (.slice u2 n2 c2) xs) := ha2
          have HG2 : Hid (∀ g off, u2 = some ⟨g, off, none⟩ → W.heap.size ≤ g) := hg2
          clear hb2 ha2 s0 s1 hg2
          subst HN1
          obtain ⟨V, HV⟩ : ∃ V, Hid (V = w2.alloc (.cells #[.slice u1 1 c1, .slice u2 n2 c2] 61)) := ⟨_, rfl⟩
          have hv : w2.alloc (.cells #[.slice u1 1 c1, .slice u2 n2 c2] 61) = V := HV.out.symm
          have BV : Hid (Below w2.heap.size w2 V) := by rw [HV.out]; exact (Below.refl _ _).alloc (Nat.le_refl _) _
          have KX : Hid (∀ W', Kp (fun q => q = r) V W' → W'.cell? ⟨w2.heap.size, 0, none⟩ = some (.slice u1 1 c1) ∧ W'.cell? ⟨w2.heap.size, 1, none⟩ = some (.slice u2 n2 c2)) := fun W' k => by
            have hx := HV.out
            obtain ⟨x0, x1⟩ : V.cell? ⟨w2.heap.size, 0, none⟩ = some (.slice u1 1 c1) ∧ V.cell? ⟨w2.heap.size, 1, none⟩ = some (.slice u2 n2 c2) := by rw [hx]; exact box2 w2 _ _ _ _ (Below.refl _ _)
            have hne : w2.heap.size ≠ r := by have h1 := HRW.out.1; have h2 := B2.out.size; omega
            exact ⟨k.cell x0 hne, k.cell x1 hne⟩
          have SX : Hid (∀ W', Below V.heap.size V W' → W'.cell? ⟨w2.heap.size, 0, none⟩ = some (.slice u1 1 c1) ∧ W'.cell? ⟨w2.heap.size, 1, none⟩ = some (.slice u2 n2 c2)) := fun W' b => KX.out W' (Kp.of_below b)
          have AX : Hid (∀ W', Below V.heap.size V W' → Aq W' (.slice u1 1 c1) (.slice u2 n2 c2) xs) := fun W' b => A2.out.later (over BV.out b)
          have WX : Hid (∀ W', Below V.heap.size V W' → Below W.heap.size W W') := fun W' b => over B2.out (over BV.out b)
          have BX : Hid (∀ W', Below V.heap.size V W' → Below w.heap.size w W') := fun W' b => over BW.out (WX.out W' b)
          obtain ⟨s0, s1⟩ := SX.out V (Below.refl _ _)
          clear HV hW
          obtain ⟨g, off, hu2, hn2, hc9⟩ : ∃ g off, u2 = some ⟨g, off, none⟩ ∧ n2 = 1 ∧ w2.cell? ⟨g, off, none⟩ = some (.string y) := by
            obtain ⟨a', c', e, _, hh⟩ := A2.out.t
            rw [HX1.out] at e hh
            injection e with e1 e2 e3
            obtain ⟨g, off, hg, hc⟩ := hh.resolve_left (show ¬ (csP [(a, y)]).length = 0 from Nat.one_ne_zero)
            exact ⟨g, off, by rw [e1, hg], by rw [e2]; rfl, hc 0 (show 0 < (csP [(a, y)]).length from Nat.zero_lt_one)⟩
          subst hu2
          subst hn2
          have HC9 : Hid (V.cell? ⟨g, off, none⟩ = some (.string y) ∧ g ≠ r ∧ V.cell? ⟨bb, lo + a, none⟩ = some (.string x) ∧ bb ≠ r) := by
            refine ⟨(BV.out.cell (World.block_lt_of_cell? _ _ hc9)).trans hc9, ?_, ((BX.out V (Below.refl _ _)).cell (World.block_lt_of_cell? _ _ HCL.out)).trans HCL.out, ?_⟩
            · have h4 := HG2.out g off rfl
              have h5 := HRW.out.1
              omega
            · have h4 : bb < w.heap.size := World.block_lt_of_cell? _ _ HCL.out
              have h5 := HRW.out.2
              omega
          have c8 := HC9.out.1
          have c9 := HC9.out.2.2.1
          clear hc9
          go_wp2_with fail
          try rw [hv]
          go_upto_region 5 with fail
          go_quiet (fail)
          obtain ⟨V2, HV2⟩ : ∃ V2, Hid (V.drewN nq = V2) := ⟨_, rfl⟩
          rw [HV2.out]
          have BV2 : Hid (Below V.heap.size V V2) := by rw [← HV2.out]; exact below_dN (Below.refl _ _) _
          have CX : Hid (∀ W', Kp (fun q => q = r) V W' → W'.cell? ⟨w2.heap.size, 1, none⟩ = some (.slice (some ⟨g, off, none⟩) 1 c2) ∧ W'.cell? ⟨g, off, none⟩ = some (.string y) ∧ W'.cell? ⟨bb, lo + a, none⟩ = some (.string x)) := fun W' k => ⟨(KX.out W' k).2, k.cell HC9.out.1 HC9.out.2.1, k.cell HC9.out.2.2.1 HC9.out.2.2.2⟩
          clear HV2 c8 c9
          obtain ⟨y1, y2, y3⟩ := CX.out V2 (Kp.of_below BV2.out)
          have BD : Hid (Below V.heap.size V V2.drew) := below_dr BV2.out
          go_upto_region 7 with fail
          go_region_held3 (fun W' => W'.cell? ⟨w2.heap.size, 1, none⟩ = some (.slice (some ⟨g, off, none⟩) 1 c2) ∧ W'.cell? ⟨g, off, none⟩ = some (.string y) ∧ W'.cell? ⟨bb, lo + a, none⟩ = some (.string x)) (first | exact CX.out _ (Kp.of_below BD.out) | exact CX.out _ (Kp.of_below K7.out) | exact CX.out _ ((Kp.of_below K7.out).trans (kp_three _ _ _ _ _))) ((go_at_call 28; refine (XF.out _).mono ?_; rintro e w7 ⟨rfl, hb7⟩; have K7 : Hid (Below V.heap.size V w7) := over BD.out hb7; clear hb7; have hr2 := F4.out w7 (WX.out _ K7.out); have e0 : w7.cell? ⟨r, 0, none⟩ = _ := cell_of_row _ _ 0 _ _ _ hr2; have e1 : w7.cell? ⟨r, 1, none⟩ = _ := cell_of_row _ _ 1 _ _ _ hr2; have e2 : w7.cell? ⟨r, 2, none⟩ = _ := cell_of_row _ _ 2 _ _ _ hr2; have f0 := frozen_of_row _ _ 0 _ _ hr2; have f1 := frozen_of_row _ _ 1 _ _ hr2; have f2 := frozen_of_row _ _ 2 _ _ hr2; have FIN : Hid (∀ W', W' = _ → _) := put3 w7 r _ _ _ (.string (⟨#[0]⟩ ++ y)) (.string (⟨#[0]⟩ ++ x)) (.bool true) _ hr2; clear hr2))
          go_wp2
          obtain ⟨G, hb⟩ := FIN.out _ rfl
          refine bodyPost_ret (by simp [results, Tryz.results37, go_sem, G.1, G.2.1, G.2.2]; try rfl) rfl ?_
          exact ⟨rfl, (BX.out _ K7.out).trans (hb _ HRW.out.2)⟩
      · have hle := inP_len hR.r _ a b rfl
        have hpos : (inP ps a b).length ≠ 0 := fun e => h0 (List.length_eq_zero_iff.1 e)
        have h2 : 2 ≤ b - a := by omega
        have hh := half_lt h2
        have hc := hR.count hab h0 h2
        have w1 := WL_le S _ a (a + half (b - a)) rfl (by omega)
        have w2' := WL_le S _ (a + half (b - a)) b rfl (by omega)
        have R1 := hR.sub (c := a) (d := a + half (b - a)) (Nat.le_refl _) (by omega)
        have R2 := hR.sub (c := a + half (b - a)) (d := b) (by omega) (Nat.le_refl _)
        have hs2 : ∀ p ∈ xs, p.2.size ≤ 140737488352000 := fun p hp => hsz p (by rw [← HXS.out] at hp; exact (inP_mem.1 hp).1)
        rw [HXS.out] at R1 R2
        have hxz : xs.length * 16 ≤ 140737488351232 := by have := inP_le ps a b; rw [HXS.out] at this; omega
        have hlen1 : (pf.take (WL lk a (a + half (b - a))).length).length = (WL lk a (a + half (b - a))).length := by rw [List.length_take]; omega
        have hlen2 : (pf.drop (WL lk a (a + half (b - a))).length).length = (WL lk (a + half (b - a)) b).length := by rw [List.length_drop]; omega
        have ww1 : Wide wd (pf.take (WL lk a (a + half (b - a))).length) := fun y hy => hw y (List.mem_of_mem_take hy)
        have ww2 : Wide wd (pf.drop (WL lk a (a + half (b - a))).length) := hw.drop _
        have z1 := clM_size (lf := lf) (a := a) (b := a + half (b - a)) S (by omega) ww1
        have z2 := clM_size (lf := lf) (a := a + half (b - a)) (b := b) S (by omega) ww2
        have z3 : (RR wd list a (a + half (b - a))).size = wid wd := RT_size wd _
        have z4 : (RR wd list (a + half (b - a)) b).size = wid wd := RT_size wd _
        have C1 : Hid (∀ v1 v2 W, Aq W v1 v2 xs → Calls _ _ _ _ _) := fun v1 v2 W h => countD S (half (b - a)) a (a + half (b - a)) v1 v2 xs W (by omega) (by omega) (by omega) R1 h hxz
        have I3 : Hid (∀ v1 v2 v W, Aq W v1 v2 xs → ReadsT W v (pf.take (WL lk a (a + half (b - a))).length) → Below w.heap.size w W → Calls _ _ _ _ _) := fun v1 v2 v W h h' b' => claimD wd S (half (b - a)) a (a + half (b - a)) v1 v2 xs v _ W (by omega) (by omega) (by omega) R1 h hxz hs2 hlen1 ww1 h' (by omega) (HT.out.down b')
        have I4 : Hid (∀ v1 v2 v W, Aq W v1 v2 xs → ReadsT W v (pf.drop (WL lk a (a + half (b - a))).length) → Below w.heap.size w W → Calls _ _ _ _ _) := fun v1 v2 v W h h' b' => claimD wd S (b - (a + half (b - a))) (a + half (b - a)) b v1 v2 xs v _ W rfl (by omega) hb62 R2 h hxz hs2 hlen2 ww2 h' (by omega) (HT.out.down b')
        have I5 : Hid (∀ v1 v2 v W, Aq W v1 v2 xs → ReadsT W v (pf.take (WL lk a (a + half (b - a))).length) → Below w.heap.size w W → Calls _ _ _ _ _) := fun v1 v2 v W h h' b' => ih (half (b - a)) (by omega) a (a + half (b - a)) v1 v2 xs v _ (.slice (some ⟨bb, lo, none⟩) list.length lc) W (by omega) (by omega) (by omega) R1 h hxz hs2 hlen1 ww1 h' (by omega) (RL0.out.later b') (HT.out.down b')
        have I6 : Hid (∀ v1 v2 v W, Aq W v1 v2 xs → ReadsT W v (pf.drop (WL lk a (a + half (b - a))).length) → Below w.heap.size w W → Calls _ _ _ _ _) := fun v1 v2 v W h h' b' => ih (b - (a + half (b - a))) (by omega) (a + half (b - a)) b v1 v2 xs v _ (.slice (some ⟨bb, lo, none⟩) list.length lc) W rfl (by omega) hb R2 h hxz hs2 hlen2 ww2 h' (by omega) (RL0.out.later b') (HT.out.down b')
        have RP : Hid (∀ p c, p < c → c ≤ list.length → ∀ W', Below w.heap.size w W' → Calls Tryz.prog 22 #[.int .i64 wd, .slice (some ⟨bb, lo + p, none⟩) (c - p) (lc - p)] W' fun e w'' => e = .returned (.string (RR wd list p c)) ∧ Below W'.heap.size W' w'') := fun p c h1 h2 W' b' => by
          have hlen : (slc list p c).length = c - p := slc_len h2
          refine gc.rRoot wd (c - p) (slc list p c) _ W' hlen (HT.out.down b') ⟨_, _, by rw [hlen], by rw [hlen]; omega, .inr ⟨bb, lo + p, rfl, fun i hi => ?_⟩⟩ ((hx.drop p).take (c - p))
          rw [hlen] at hi
          have hcl := hlq (p + i) (by omega)
          rw [show lo + p + i = lo + (p + i) by omega, (b'.cell (World.block_lt_of_cell? _ _ hcl)).trans hcl]
          unfold slc
          rw [List.getD_eq_getElem?_getD, List.getD_eq_getElem?_getD, List.getElem?_take, if_pos hi, List.getElem?_drop]
        have P1 : Hid (∀ W', Below w.heap.size w W' → Calls _ _ _ _ _) := RP.out a (a + half (b - a)) (by omega) (by omega)
        have P2 : Hid (∀ W', Below w.heap.size w W' → Calls _ _ _ _ _) := RP.out (a + half (b - a)) b (by omega) hb
        rw [Nat.add_sub_cancel_left] at P1
        have HC : Hid (∀ w, Calls _ _ _ _ _) := fun w => xhalf (b - a) h2 (by omega) w
        have ek : ((a + half (b - a) : Nat) : Int) = (a : Int) + (half (b - a) : Nat) := by omega
        rw [ek] at C1 I3 I4 I5 I6
        rw [dn_two S (hR.two hab h0 h2) h2 hb]
        obtain ⟨y1, HY1⟩ : ∃ y, Hid ((clM wd lk lf (pf.take (WL lk a (a + half (b - a))).length) a (a + half (b - a))).sum = y) := ⟨_, rfl⟩
        obtain ⟨y2, HY2⟩ : ∃ y, Hid ((clM wd lk lf (pf.drop (WL lk a (a + half (b - a))).length) (a + half (b - a)) b).sum = y) := ⟨_, rfl⟩
        obtain ⟨y3, HY3⟩ : ∃ y, Hid (RR wd list a (a + half (b - a)) = y) := ⟨_, rfl⟩
        obtain ⟨y4, HY4⟩ : ∃ y, Hid (RR wd list (a + half (b - a)) b = y) := ⟨_, rfl⟩
        rw [HY1.out] at I3 z1 ⊢
        rw [HY2.out] at I4 z2 ⊢
        rw [HY3.out] at P1 z3 ⊢
        rw [HY4.out] at P2 z4 ⊢
        have N1 : Hid (∀ W', Calls _ _ _ _ _) := fun W' => xnode y1 y2 (by omega) (by omega) W'
        have N2 : Hid (∀ W', Calls _ _ _ _ _) := fun W' => xnode y3 y4 (by omega) (by omega) W'
        obtain ⟨ta, HTA⟩ : ∃ y, Hid (tx1 y1 y2 = y) := ⟨_, rfl⟩
        obtain ⟨tb, HTB⟩ : ∃ y, Hid (tx1 y3 y4 = y) := ⟨_, rfl⟩
        rw [HTA.out] at N1 ⊢
        rw [HTB.out] at N2 ⊢
        obtain ⟨OL, HOL⟩ : ∃ y, Hid (fst1 (clM wd lk lf (pf.take (WL lk a (a + half (b - a))).length) a (a + half (b - a))) (owM wd lk list a (a + half (b - a))) = y) := ⟨_, rfl⟩
        obtain ⟨OR, HOR⟩ : ∃ y, Hid (fst1 (clM wd lk lf (pf.drop (WL lk a (a + half (b - a))).length) (a + half (b - a)) b) (owM wd lk list (a + half (b - a)) b) = y) := ⟨_, rfl⟩
        rw [HOL.out] at I5 ⊢
        rw [HOR.out] at I6 ⊢
        have XF : Hid (∀ W', Calls Tryz.prog 28 #[.string ta, .string tb] W' fun e w' => e = .returned (.agg #[.string ta, .string tb, .bool true]) ∧ Below W'.heap.size W' w') := fun W' => xfound ta tb W'
        rw [HXS.out] at hpos
        obtain ⟨k1, HK1⟩ : ∃ k, Hid ((WL lk a (a + half (b - a))).length = k) := ⟨_, rfl⟩
        have hkl : k1 ≤ pf.length := by have := HK1.out; omega
        rw [HK1.out] at C1 I3 I4 I5 I6 w1
        obtain ⟨l, HNP⟩ : ∃ k, Hid (pf.length = k) := ⟨_, rfl⟩
        rw [HNP.out] at hkl hpc RT0 hpz ⊢
        have HPL : Hid (pf.length = l) := HNP.out
        clear HNP
        have q13 : k1 ≤ pc := by omega
        obtain ⟨pq, hpq⟩ : ∃ pq, (if pc = k1 then pa else Option.map (fun x => x.add k1) pa) = pq := ⟨_, rfl⟩
        have RT2 : Hid (∀ W', Below w.heap.size w W' → ReadsT W' (.slice pq (l - k1) (pc - k1)) (pf.drop k1)) := fun W' b => by
          rw [← hpq]
          by_cases hcap : pc = k1
          · rw [if_pos hcap]
            have hl0 : l - k1 = 0 := by omega
            rw [show pc - k1 = 0 by omega]
            exact reads_tail1 (RT0.out.later b) (by rw [HPL.out]; exact hkl) hl0
          · rw [if_neg hcap]
            exact reads_tail (RT0.out.later b) (by rw [HPL.out]; exact hkl)
        have RT1 : Hid (∀ W', Below w.heap.size w W' → ReadsT W' (.slice pa k1 pc) (pf.take k1)) := fun W' b => reads_head (RT0.out.later b) (by rw [HPL.out]; exact hkl)
        have C3 : Hid (∀ v1 v2 W, Aq W v1 v2 xs → Below w.heap.size w W → Calls _ _ _ _ _) := fun v1 v2 W h b' => I3.out v1 v2 _ W h (RT1.out W b') b'
        have C4 : Hid (∀ v1 v2 W, Aq W v1 v2 xs → Below w.heap.size w W → Calls _ _ _ _ _) := fun v1 v2 W h b' => I4.out v1 v2 _ W h (RT2.out W b') b'
        have C5 : Hid (∀ v1 v2 W, Aq W v1 v2 xs → Below w.heap.size w W → Calls _ _ _ _ _) := fun v1 v2 W h b' => I5.out v1 v2 _ W h (RT1.out W b') b'
        have C6 : Hid (∀ v1 v2 W, Aq W v1 v2 xs → Below w.heap.size w W → Calls _ _ _ _ _) := fun v1 v2 W h b' => I6.out v1 v2 _ W h (RT2.out W b') b'
        have g5 : a + half (b - a) < b := by omega
        obtain ⟨m, HM⟩ : ∃ k, Hid (half (b - a) = k) := ⟨_, rfl⟩
        rw [HM.out] at HC C1 C3 C4 C5 C6 P1 P2 hh w1 w2' g5
        obtain ⟨nl, HNL⟩ : ∃ k, Hid (list.length = k) := ⟨_, rfl⟩
        rw [HNL.out] at C5 C6 hlc hxm ⊢
        have hbn : b ≤ nl := by have := HNL.out; omega
        obtain ⟨L, HL⟩ : ∃ k, Hid (b - a = k) := ⟨_, rfl⟩
        have q2 : (b : Int) - a = L := by have := HL.out; omega
        have q3 : IntKind.i64.wrap ((b : Int) - a) = (L : Int) := by rw [q2, IntKind.wrap_i64]; have := HL.out; omega
        have q4 : IntKind.i64.wrap (L : Int) = (L : Int) := by rw [IntKind.wrap_i64]; have := HL.out; omega
        have q5 : IntKind.i64.wrap ((a : Int) + m) = (a : Int) + m := by rw [IntKind.wrap_i64]; omega
        have q9 : ((L : Int) == 1) = false := by rw [beq_eq_false_iff_ne]; have := HL.out; omega
        rw [HL.out] at HC
        obtain ⟨N0, HNN⟩ : ∃ k, Hid (xs.length = k) := ⟨_, rfl⟩
        rw [HNN.out] at WC hpos
        have q7 : ((N0 : Int) == 0) = false := by rw [beq_eq_false_iff_ne]; omega
        have q10 : ¬ (l : Int) < k1 := by omega
        have q11 : (k1 : Int) ≤ l := by omega
        have q12 : (k1 : Int) ≤ pc := by omega
        have q14 : IntKind.i64.wrap (k1 : Int) = k1 := by rw [IntKind.wrap_i64]; omega
        have j1 : (a : Int) + m ≤ lc := by omega
        have j2 : (b : Int) ≤ lc := by omega
        have j3 : (a : Int) ≤ (a : Int) + m := by omega
        have j4 : (a : Int) + m ≤ b := by omega
        have j5 : ¬ lc = a := by omega
        have j6 : ¬ lc = a + m := by omega
        have j7 : ((a : Int) + m).toNat = a + m := by omega
        have j8 : a + m ≤ lc := by omega
        have j9 : b ≤ lc := by omega
        have j10 : a + m ≤ b := by omega
        have j11 : (0 : Int) ≤ (a : Int) + m := by omega
        have j12 : ¬ (lc : Int) = (a : Int) + m := by omega
        clear hs2 hlen1 hlen2 ww1 ww2 z1 z2 z3 z4 HY1 HY2 HY3 HY4 HTA HTB HOL HOR hsz hT h32 hk1 hph I3 I4 I5 I6 RT0 RT1 RT2 RL0 RP hlq hlc hx hxm HNL hb62 g5 hbn HPL hkl hpc
        clear ih hR hA h0 hz hn hab hb HXS HL1 HL2 h2 hh hc w1 w2' R1 R2 hxz ek HK1 HM HL HNN hpos h1 hl hw hle hpz hlh
        by_cases ht : ta = tb
        · rw [if_pos ht]
          have qt : (ta.toList == tb.toList) = true := by rw [beqL]; exact decide_eq_true ht
          clear ht XF
          cases OL with
          | some cc =>
            obtain ⟨o1, o2⟩ := cc
            have C7 : Hid (∀ v1 v2 W, Aq W v1 v2 xs → Below w.heap.size w W → Calls Tryz.prog 37 #[.int .i64 wd, .slice (some ⟨bb, lo, none⟩) nl lc, .agg #[v1, v2], .int .i64 a, .int .i64 ((a : Int) + m), .slice pa k1 pc] W fun e w' => e = .returned (.agg #[.string o1, .string o2, .bool true]) ∧ Below W.heap.size W w') := fun v1 v2 W h b' => C5.out v1 v2 W h b'
            show Calls _ _ _ _ fun e w' => e = .returned (.agg #[.string o1, .string o2, .bool true]) ∧ _
            clear C5 C6
            go_enter Tryz.func37, Tryz.ntmps37
            go_wp2_with fail
            try rw [hr]
            try rw [hW]
            refine WC.out.mono ?_
            rintro e w2 ⟨⟨u1, u2, n1, c1, n2, c2, rfl, HN1, hg2, ha2⟩, hb2⟩
            have B2 : Hid (Below W.heap.size W w2) := hb2
            have A2 : Hid (Aq w2 (.slice u1 n1 c1) (.slice u2 n2 c2) xs) := ha2
            have HG2 : Hid (∀ g off, u2 = some ⟨g, off, none⟩ → W.heap.size ≤ g) := hg2
            clear hb2 ha2 s0 s1 hg2
            subst HN1
            obtain ⟨V, HV⟩ : ∃ V, Hid (V = w2.alloc (.cells #[.slice u1 n1 c1, .slice u2 n2 c2] 61)) := ⟨_, rfl⟩
            have hv : w2.alloc (.cells #[.slice u1 n1 c1, .slice u2 n2 c2] 61) = V := HV.out.symm
            have BV : Hid (Below w2.heap.size w2 V) := by rw [HV.out]; exact (Below.refl _ _).alloc (Nat.le_refl _) _
            have KX : Hid (∀ W', Kp (fun q => q = r) V W' → W'.cell? ⟨w2.heap.size, 0, none⟩ = some (.slice u1 n1 c1) ∧ W'.cell? ⟨w2.heap.size, 1, none⟩ = some (.slice u2 n2 c2)) := fun W' k => by
              have hx := HV.out
              obtain ⟨x0, x1⟩ : V.cell? ⟨w2.heap.size, 0, none⟩ = some (.slice u1 n1 c1) ∧ V.cell? ⟨w2.heap.size, 1, none⟩ = some (.slice u2 n2 c2) := by rw [hx]; exact box2 w2 _ _ _ _ (Below.refl _ _)
              have hne : w2.heap.size ≠ r := by have h1 := HRW.out.1; have h2 := B2.out.size; omega
              exact ⟨k.cell x0 hne, k.cell x1 hne⟩
            have SX : Hid (∀ W', Below V.heap.size V W' → W'.cell? ⟨w2.heap.size, 0, none⟩ = some (.slice u1 n1 c1) ∧ W'.cell? ⟨w2.heap.size, 1, none⟩ = some (.slice u2 n2 c2)) := fun W' b => KX.out W' (Kp.of_below b)
            have AX : Hid (∀ W', Below V.heap.size V W' → Aq W' (.slice u1 n1 c1) (.slice u2 n2 c2) xs) := fun W' b => A2.out.later (over BV.out b)
            have WX : Hid (∀ W', Below V.heap.size V W' → Below W.heap.size W W') := fun W' b => over B2.out (over BV.out b)
            have BX : Hid (∀ W', Below V.heap.size V W' → Below w.heap.size w W') := fun W' b => over BW.out (WX.out W' b)
            obtain ⟨s0, s1⟩ := SX.out V (Below.refl _ _)
            clear HV hW
            go_wp2_with fail
            try rw [hv]
            refine (HC.out _).mono ?_
            rintro e w3 ⟨rfl, hw3⟩
            rw [hw3]
            clear hw3
            go_wp2_with fail
            refine (C1.out _ _ _ (AX.out _ (Below.refl _ _))).mono ?_
            rintro e w4 ⟨rfl, hb4⟩
            have K4 : Hid (Below V.heap.size V w4) := hb4
            clear hb4 s0 s1
            obtain ⟨s0, s1⟩ := SX.out w4 K4.out
            have KD : Hid (Below V.heap.size V w4.drew) := below_dr K4.out
            go_upto_region 12 with fail
            go_cut [16] (fun x wx => x = .string ta ∧ Hid (Below V.heap.size V wx))
            case first =>
              go_region_held3 (fun W' => W'.cell? ⟨w2.heap.size, 0, none⟩ = some (.slice u1 n1 c1) ∧ W'.cell? ⟨w2.heap.size, 1, none⟩ = some (.slice u2 n2 c2)) (first | exact SX.out _ KD.out | exact SX.out _ K7.out | exact SX.out _ K8.out) (first | (go_at_call 71; (with_reducible refine (C3.out _ _ _ (AX.out _ KD.out) (BX.out _ KD.out)).mono ?_); rintro e w7 ⟨rfl, hb7⟩; have K7 : Hid (Below V.heap.size V w7) := over KD.out hb7; clear hb7) | (go_at_call 71; (with_reducible refine (C4.out _ _ _ (AX.out _ K7.out) (BX.out _ K7.out)).mono ?_); rintro e w8 ⟨rfl, hb8⟩; have K8 : Hid (Below V.heap.size V w8) := over K7.out hb8; clear hb8) | (go_at_call 27; refine (N1.out _).mono ?_; rintro e w9 ⟨rfl, hw9⟩; rw [hw9]; clear hw9))
              all_goals (go_wp2; go_meet; exact ⟨rfl, K8.out⟩)
            case rest =>
            obtain ⟨rfl, K9⟩ := hcut
            clear s0 s1 K4 KD
            obtain ⟨wb, HWB⟩ : ∃ wb, Hid (wb = wc) := ⟨_, rfl⟩
            have hwb := HWB.out
            subst hwb
            clear HWB
            have KE : Hid (Below V.heap.size V wb.drew) := below_dr K9.out
            go_upto_region 13 with fail
            go_cut [17] (fun x wx => x = .string tb ∧ Hid (Below V.heap.size V wx))
            case first =>
              go_region_held3 (fun W' => True) (trivial) (first | (go_at_call 22; (with_reducible refine (P1.out _ (BX.out _ KE.out)).mono ?_); rintro e w7 ⟨rfl, hb7⟩; have K7 : Hid (Below V.heap.size V w7) := over KE.out hb7; clear hb7) | (go_at_call 22; (with_reducible refine (P2.out _ (BX.out _ K7.out)).mono ?_); rintro e w8 ⟨rfl, hb8⟩; have K8 : Hid (Below V.heap.size V w8) := over K7.out hb8; clear hb8) | (go_at_call 27; refine (N2.out _).mono ?_; rintro e w9 ⟨rfl, hw9⟩; rw [hw9]; clear hw9))
              all_goals (go_wp2; go_meet; exact ⟨rfl, K8.out⟩)
            case rest =>
            obtain ⟨rfl, K10⟩ := hcut
            obtain ⟨wq, HWQ⟩ : ∃ wq, Hid (wq = wc) := ⟨_, rfl⟩
            have hwq := HWQ.out
            subst hwq
            clear HWQ K9
            obtain ⟨s0, s1⟩ := SX.out wq K10.out
            have hwV := K10.out.size
            have HZ1 : Hid (Below V.heap.size V wq.drew) := below_dr K10.out
            have HZA : Hid (Below V.heap.size V (wq.alloc (.cells #[.string ⟨#[]⟩, .string ⟨#[]⟩, .bool false] 26)).drew) := below_dr (K10.out.alloc K10.out.size _)
            have RZA : Hid ((wq.alloc (.cells #[.string ⟨#[]⟩, .string ⟨#[]⟩, .bool false] 26)).drew.heap[wq.heap.size]? = some (.cells #[.string ⟨#[]⟩, .string ⟨#[]⟩, .bool false] 26 (0, 0))) := heap_alloc_new wq _
            have CA : Hid (Calls _ _ _ _ _) := C7.out _ _ wq.drew (AX.out _ HZ1.out) (BX.out _ HZ1.out)
            have CB : Hid (Calls _ _ _ _ _) := C7.out _ _ _ (AX.out _ HZA.out) (BX.out _ HZA.out)
            have HZB : Hid (Below V.heap.size V (wq.alloc (.cells #[.string ⟨#[]⟩, .string ⟨#[]⟩, .bool false] 26))) := K10.out.alloc K10.out.size _
            obtain ⟨t0, t1⟩ := SX.out _ HZB.out
            go_upto_region 16 with fail
            go_cut [18] (fun x wx => ∃ g, x = .pointer (some ⟨g, 0, none⟩) ∧ Hid (V.heap.size ≤ g ∧ Below V.heap.size V wx ∧ wx.heap[g]? = some (.cells #[.string o1, .string o2, .bool true] 26 (0, 0))))
            case first =>
              go_region_held3 (fun W' => W'.cell? ⟨w2.heap.size, 0, none⟩ = some (.slice u1 n1 c1) ∧ W'.cell? ⟨w2.heap.size, 1, none⟩ = some (.slice u2 n2 c2)) (first | (with_reducible exact SX.out _ HZ1.out) | (with_reducible exact SX.out _ HZA.out) | (with_reducible exact SX.out _ G.out) | (with_reducible exact SX.out _ (G.out.alloc G.out.size _)) | exact SX.out _ (((G.out.setCell (p := ⟨wq.heap.size, 0, none⟩) hwV _).setCell (p := ⟨wq.heap.size, 1, none⟩) hwV _).setCell (p := ⟨wq.heap.size, 2, none⟩) hwV _)) (first
                | (go_at_call 37; (with_reducible refine CA.out.mono ?_); rintro _ w' ⟨rfl, hb'⟩; have G : Hid (Below V.heap.size V w') := over HZ1.out hb'; clear hb')
                | (go_at_call 37; (with_reducible refine CB.out.mono ?_); rintro _ w' ⟨rfl, hb'⟩; have G : Hid (Below V.heap.size V w') := over HZA.out hb'; have RB : w'.heap[wq.heap.size]? = some (.cells #[.string ⟨#[]⟩, .string ⟨#[]⟩, .bool false] 26 (0, 0)) := (hb'.block _ (Array.getElem?_eq_some_iff.1 RZA.out).1).trans RZA.out; have f0 := frozen_of_row _ _ 0 _ _ RB; have f1 := frozen_of_row _ _ 1 _ _ RB; have f2 := frozen_of_row _ _ 2 _ _ RB; have d0 : w'.cell? ⟨wq.heap.size, 0, none⟩ = some (.string ⟨#[]⟩) := cell_of_row _ _ 0 _ _ _ RB; have d1 : w'.cell? ⟨wq.heap.size, 1, none⟩ = some (.string ⟨#[]⟩) := cell_of_row _ _ 1 _ _ _ RB; have d2 : w'.cell? ⟨wq.heap.size, 2, none⟩ = some (.bool false) := cell_of_row _ _ 2 _ _ _ RB; have RBH : Hid _ := RB; clear hb' RB))
              all_goals (go_wp2; go_meet; first | exact ⟨wq.heap.size, rfl, hwV, ((G.out.setCell (p := ⟨wq.heap.size, 0, none⟩) hwV _).setCell (p := ⟨wq.heap.size, 1, none⟩) hwV _).setCell (p := ⟨wq.heap.size, 2, none⟩) hwV _, set_three RBH.out _ _ _⟩ | exact ⟨w'.heap.size, rfl, G.out.size, G.out.alloc G.out.size _, heap_alloc_new _ _⟩)
            case rest =>
            obtain ⟨g, rfl, HG⟩ := hcut
            clear s0 s1 t0 t1 HZ1 HZA RZA CA CB HZB hwV K10
            obtain ⟨wd2, HWD⟩ : ∃ wq, Hid (wq = wc) := ⟨_, rfl⟩
            have hwd := HWD.out
            subst hwd
            clear HWD
            have gc : wd2.cell? ⟨g, 2, none⟩ = some (.bool true) := cell_of_row _ _ 2 _ _ _ HG.out.2.2
            have HR2 : Hid (wd2.heap[r]? = some (.cells #[.string ⟨#[]⟩, .string ⟨#[]⟩, .bool false] 26 (0, 0))) := F4.out wd2 (WX.out _ HG.out.2.1)
            have h3 : (Tryz.prog.info? 26).map (·.size) = some 3 := by kernel_rfl
            have HI3 : Hid ((Tryz.prog.info? 26).map (·.size) = some (#[Value.string o1, .string o2, .bool true] : Array Value).size) := h3
            clear h3
            go_upto_region 18 with fail
            clear gc
            refine wp_region_list ?_
            refine wpList_load_row rfl 26 (.tmp 18) rfl g rfl 26 #[.string o1, .string o2, .bool true] (0, 0) _ HG.out.2.2 Tryz.underlying26 rfl HI3.out ?_
            refine wpList_store_row rfl 26 (.tmp 12) (.tmp 125) rfl r #[.string o1, .string o2, .bool true] rfl rfl 26 _ HR2.out HI3.out rfl (by simp [Value.oneCell']) ?_
            rename_i kk aa
            refine aa _ _ (wp_ret ?_)
            simp only [Exit.then]
            refine bodyPost_ret (v := .agg #[.string o1, .string o2, .bool true]) ?_ rfl ?_
            · exact results_cell_row Tryz.results37 _ _ r 26 _ (0, 0) _ rfl (setRow_heap _ _ _ _ _ _ HR2.out) Tryz.underlying26 rfl HI3.out
            · exact ⟨rfl, below_setRow (BX.out _ HG.out.2.1) HRW.out.2 _⟩
          | none =>
            obtain ⟨p1, p2, p3, hgo⟩ := clV_of OR
            show Calls _ _ _ _ fun e w' => e = .returned (clV OR) ∧ _
            rw [hgo] at C6 ⊢
            have C7 : Hid (∀ v1 v2 W, Aq W v1 v2 xs → Below w.heap.size w W → Calls Tryz.prog 37 #[.int .i64 wd, .slice (some ⟨bb, lo, none⟩) nl lc, .agg #[v1, v2], .int .i64 a, .int .i64 ((a : Int) + m), .slice pa k1 pc] W fun e w' => e = .returned (.agg #[.string ⟨#[]⟩, .string ⟨#[]⟩, .bool false]) ∧ Below W.heap.size W w') := fun v1 v2 W h b' => C5.out v1 v2 W h b'
            obtain ⟨o1, HO1⟩ : ∃ o : ByteArray, Hid (⟨#[]⟩ = o) := ⟨_, rfl⟩
            obtain ⟨o2, HO2⟩ : ∃ o : ByteArray, Hid (⟨#[]⟩ = o) := ⟨_, rfl⟩
            have C8 : Hid (∀ v1 v2 W, Aq W v1 v2 xs → Below w.heap.size w W → Calls Tryz.prog 37 #[.int .i64 wd, .slice (some ⟨bb, lo, none⟩) nl lc, .agg #[v1, v2], .int .i64 a, .int .i64 ((a : Int) + m), .slice pa k1 pc] W fun e w' => e = .returned (.agg #[.string o1, .string o2, .bool false]) ∧ Below W.heap.size W w') := fun v1 v2 W h b' => by rw [← HO1.out, ← HO2.out]; exact C7.out v1 v2 W h b'
            clear C5 C7 hgo HO1 HO2
            have C7 : Hid _ := C8
            clear C8
            go_enter Tryz.func37, Tryz.ntmps37
            go_wp2_with fail
            try rw [hr]
            try rw [hW]
            refine WC.out.mono ?_
            rintro e w2 ⟨⟨u1, u2, n1, c1, n2, c2, rfl, HN1, hg2, ha2⟩, hb2⟩
            have B2 : Hid (Below W.heap.size W w2) := hb2
            have A2 : Hid (Aq w2 (.slice u1 n1 c1) (.slice u2 n2 c2) xs) := ha2
            have HG2 : Hid (∀ g off, u2 = some ⟨g, off, none⟩ → W.heap.size ≤ g) := hg2
            clear hb2 ha2 s0 s1 hg2
            subst HN1
            obtain ⟨V, HV⟩ : ∃ V, Hid (V = w2.alloc (.cells #[.slice u1 n1 c1, .slice u2 n2 c2] 61)) := ⟨_, rfl⟩
            have hv : w2.alloc (.cells #[.slice u1 n1 c1, .slice u2 n2 c2] 61) = V := HV.out.symm
            have BV : Hid (Below w2.heap.size w2 V) := by rw [HV.out]; exact (Below.refl _ _).alloc (Nat.le_refl _) _
            have KX : Hid (∀ W', Kp (fun q => q = r) V W' → W'.cell? ⟨w2.heap.size, 0, none⟩ = some (.slice u1 n1 c1) ∧ W'.cell? ⟨w2.heap.size, 1, none⟩ = some (.slice u2 n2 c2)) := fun W' k => by
              have hx := HV.out
              obtain ⟨x0, x1⟩ : V.cell? ⟨w2.heap.size, 0, none⟩ = some (.slice u1 n1 c1) ∧ V.cell? ⟨w2.heap.size, 1, none⟩ = some (.slice u2 n2 c2) := by rw [hx]; exact box2 w2 _ _ _ _ (Below.refl _ _)
              have hne : w2.heap.size ≠ r := by have h1 := HRW.out.1; have h2 := B2.out.size; omega
              exact ⟨k.cell x0 hne, k.cell x1 hne⟩
            have SX : Hid (∀ W', Below V.heap.size V W' → W'.cell? ⟨w2.heap.size, 0, none⟩ = some (.slice u1 n1 c1) ∧ W'.cell? ⟨w2.heap.size, 1, none⟩ = some (.slice u2 n2 c2)) := fun W' b => KX.out W' (Kp.of_below b)
            have AX : Hid (∀ W', Below V.heap.size V W' → Aq W' (.slice u1 n1 c1) (.slice u2 n2 c2) xs) := fun W' b => A2.out.later (over BV.out b)
            have WX : Hid (∀ W', Below V.heap.size V W' → Below W.heap.size W W') := fun W' b => over B2.out (over BV.out b)
            have BX : Hid (∀ W', Below V.heap.size V W' → Below w.heap.size w W') := fun W' b => over BW.out (WX.out W' b)
            obtain ⟨s0, s1⟩ := SX.out V (Below.refl _ _)
            clear HV hW
            go_wp2_with fail
            try rw [hv]
            refine (HC.out _).mono ?_
            rintro e w3 ⟨rfl, hw3⟩
            rw [hw3]
            clear hw3
            go_wp2_with fail
            refine (C1.out _ _ _ (AX.out _ (Below.refl _ _))).mono ?_
            rintro e w4 ⟨rfl, hb4⟩
            have K4 : Hid (Below V.heap.size V w4) := hb4
            clear hb4 s0 s1
            obtain ⟨s0, s1⟩ := SX.out w4 K4.out
            have KD : Hid (Below V.heap.size V w4.drew) := below_dr K4.out
            go_upto_region 12 with fail
            go_cut [16] (fun x wx => x = .string ta ∧ Hid (Below V.heap.size V wx))
            case first =>
              go_region_held3 (fun W' => W'.cell? ⟨w2.heap.size, 0, none⟩ = some (.slice u1 n1 c1) ∧ W'.cell? ⟨w2.heap.size, 1, none⟩ = some (.slice u2 n2 c2)) (first | exact SX.out _ KD.out | exact SX.out _ K7.out | exact SX.out _ K8.out) (first | (go_at_call 71; (with_reducible refine (C3.out _ _ _ (AX.out _ KD.out) (BX.out _ KD.out)).mono ?_); rintro e w7 ⟨rfl, hb7⟩; have K7 : Hid (Below V.heap.size V w7) := over KD.out hb7; clear hb7) | (go_at_call 71; (with_reducible refine (C4.out _ _ _ (AX.out _ K7.out) (BX.out _ K7.out)).mono ?_); rintro e w8 ⟨rfl, hb8⟩; have K8 : Hid (Below V.heap.size V w8) := over K7.out hb8; clear hb8) | (go_at_call 27; refine (N1.out _).mono ?_; rintro e w9 ⟨rfl, hw9⟩; rw [hw9]; clear hw9))
              all_goals (go_wp2; go_meet; exact ⟨rfl, K8.out⟩)
            case rest =>
            obtain ⟨rfl, K9⟩ := hcut
            clear s0 s1 K4 KD
            obtain ⟨wb, HWB⟩ : ∃ wb, Hid (wb = wc) := ⟨_, rfl⟩
            have hwb := HWB.out
            subst hwb
            clear HWB
            have KE : Hid (Below V.heap.size V wb.drew) := below_dr K9.out
            go_upto_region 13 with fail
            go_cut [17] (fun x wx => x = .string tb ∧ Hid (Below V.heap.size V wx))
            case first =>
              go_region_held3 (fun W' => True) (trivial) (first | (go_at_call 22; (with_reducible refine (P1.out _ (BX.out _ KE.out)).mono ?_); rintro e w7 ⟨rfl, hb7⟩; have K7 : Hid (Below V.heap.size V w7) := over KE.out hb7; clear hb7) | (go_at_call 22; (with_reducible refine (P2.out _ (BX.out _ K7.out)).mono ?_); rintro e w8 ⟨rfl, hb8⟩; have K8 : Hid (Below V.heap.size V w8) := over K7.out hb8; clear hb8) | (go_at_call 27; refine (N2.out _).mono ?_; rintro e w9 ⟨rfl, hw9⟩; rw [hw9]; clear hw9))
              all_goals (go_wp2; go_meet; exact ⟨rfl, K8.out⟩)
            case rest =>
            obtain ⟨rfl, K10⟩ := hcut
            obtain ⟨wq, HWQ⟩ : ∃ wq, Hid (wq = wc) := ⟨_, rfl⟩
            have hwq := HWQ.out
            subst hwq
            clear HWQ K9
            obtain ⟨s0, s1⟩ := SX.out wq K10.out
            have hwV := K10.out.size
            have HZ1 : Hid (Below V.heap.size V wq.drew) := below_dr K10.out
            have HZA : Hid (Below V.heap.size V (wq.alloc (.cells #[.string ⟨#[]⟩, .string ⟨#[]⟩, .bool false] 26)).drew) := below_dr (K10.out.alloc K10.out.size _)
            have RZA : Hid ((wq.alloc (.cells #[.string ⟨#[]⟩, .string ⟨#[]⟩, .bool false] 26)).drew.heap[wq.heap.size]? = some (.cells #[.string ⟨#[]⟩, .string ⟨#[]⟩, .bool false] 26 (0, 0))) := heap_alloc_new wq _
            have CA : Hid (Calls _ _ _ _ _) := C7.out _ _ wq.drew (AX.out _ HZ1.out) (BX.out _ HZ1.out)
            have CB : Hid (Calls _ _ _ _ _) := C7.out _ _ _ (AX.out _ HZA.out) (BX.out _ HZA.out)
            have HZB : Hid (Below V.heap.size V (wq.alloc (.cells #[.string ⟨#[]⟩, .string ⟨#[]⟩, .bool false] 26))) := K10.out.alloc K10.out.size _
            obtain ⟨t0, t1⟩ := SX.out _ HZB.out
            go_upto_region 16 with fail
            go_cut [18] (fun x wx => ∃ g, x = .pointer (some ⟨g, 0, none⟩) ∧ Hid (V.heap.size ≤ g ∧ Below V.heap.size V wx ∧ wx.heap[g]? = some (.cells #[.string o1, .string o2, .bool false] 26 (0, 0))))
            case first =>
              go_region_held3 (fun W' => W'.cell? ⟨w2.heap.size, 0, none⟩ = some (.slice u1 n1 c1) ∧ W'.cell? ⟨w2.heap.size, 1, none⟩ = some (.slice u2 n2 c2)) (first | (with_reducible exact SX.out _ HZ1.out) | (with_reducible exact SX.out _ HZA.out) | (with_reducible exact SX.out _ G.out) | (with_reducible exact SX.out _ (G.out.alloc G.out.size _)) | exact SX.out _ (((G.out.setCell (p := ⟨wq.heap.size, 0, none⟩) hwV _).setCell (p := ⟨wq.heap.size, 1, none⟩) hwV _).setCell (p := ⟨wq.heap.size, 2, none⟩) hwV _)) (first
                | (go_at_call 37; (with_reducible refine CA.out.mono ?_); rintro _ w' ⟨rfl, hb'⟩; have G : Hid (Below V.heap.size V w') := over HZ1.out hb'; clear hb')
                | (go_at_call 37; (with_reducible refine CB.out.mono ?_); rintro _ w' ⟨rfl, hb'⟩; have G : Hid (Below V.heap.size V w') := over HZA.out hb'; have RB : w'.heap[wq.heap.size]? = some (.cells #[.string ⟨#[]⟩, .string ⟨#[]⟩, .bool false] 26 (0, 0)) := (hb'.block _ (Array.getElem?_eq_some_iff.1 RZA.out).1).trans RZA.out; have f0 := frozen_of_row _ _ 0 _ _ RB; have f1 := frozen_of_row _ _ 1 _ _ RB; have f2 := frozen_of_row _ _ 2 _ _ RB; have d0 : w'.cell? ⟨wq.heap.size, 0, none⟩ = some (.string ⟨#[]⟩) := cell_of_row _ _ 0 _ _ _ RB; have d1 : w'.cell? ⟨wq.heap.size, 1, none⟩ = some (.string ⟨#[]⟩) := cell_of_row _ _ 1 _ _ _ RB; have d2 : w'.cell? ⟨wq.heap.size, 2, none⟩ = some (.bool false) := cell_of_row _ _ 2 _ _ _ RB; have RBH : Hid _ := RB; clear hb' RB))
              all_goals (go_wp2; go_meet; first | exact ⟨wq.heap.size, rfl, hwV, ((G.out.setCell (p := ⟨wq.heap.size, 0, none⟩) hwV _).setCell (p := ⟨wq.heap.size, 1, none⟩) hwV _).setCell (p := ⟨wq.heap.size, 2, none⟩) hwV _, set_three RBH.out _ _ _⟩ | exact ⟨w'.heap.size, rfl, G.out.size, G.out.alloc G.out.size _, heap_alloc_new _ _⟩)
            case rest =>
            obtain ⟨g, rfl, HG⟩ := hcut
            clear s0 s1 t0 t1 HZ1 HZA RZA CA CB HZB hwV K10
            obtain ⟨wd2, HWD⟩ : ∃ wq, Hid (wq = wc) := ⟨_, rfl⟩
            have hwd := HWD.out
            subst hwd
            clear HWD
            have gc : wd2.cell? ⟨g, 2, none⟩ = some (.bool false) := cell_of_row _ _ 2 _ _ _ HG.out.2.2
            obtain ⟨s0, s1⟩ := SX.out wd2 HG.out.2.1
            have KF : Hid (Below V.heap.size V wd2.drew) := below_dr HG.out.2.1
            go_upto_region 19 with fail
            rename_i kk aa
            clear gc
            go_region_held3 (fun W' => W'.cell? ⟨w2.heap.size, 0, none⟩ = some (.slice u1 n1 c1) ∧ W'.cell? ⟨w2.heap.size, 1, none⟩ = some (.slice u2 n2 c2)) (first | (with_reducible exact SX.out _ KF.out) | (with_reducible exact SX.out _ K12.out) | exact KX.out _ ((Kp.of_below K12.out).trans (kp_three _ _ _ _ _))) ((go_at_call 37; refine (C6.out _ _ _ (AX.out _ KF.out) (BX.out _ KF.out)).mono ?_; rintro e w12 ⟨rfl, hb12⟩; have K12 : Hid (Below V.heap.size V w12) := over KF.out hb12; clear hb12; have hr2 := F4.out w12 (WX.out _ K12.out); have e0 : w12.cell? ⟨r, 0, none⟩ = _ := cell_of_row _ _ 0 _ _ _ hr2; have e1 : w12.cell? ⟨r, 1, none⟩ = _ := cell_of_row _ _ 1 _ _ _ hr2; have e2 : w12.cell? ⟨r, 2, none⟩ = _ := cell_of_row _ _ 2 _ _ _ hr2; have f0 := frozen_of_row _ _ 0 _ _ hr2; have f1 := frozen_of_row _ _ 1 _ _ hr2; have f2 := frozen_of_row _ _ 2 _ _ hr2; have FIN : Hid (∀ W', W' = _ → _) := put3 w12 r _ _ _ (.string p1) (.string p2) (.bool p3) _ hr2; clear hr2))
            refine aa _ _ (wp_ret ?_)
            obtain ⟨G, hb⟩ := FIN.out _ rfl
            refine bodyPost_ret (by simp [results, Tryz.results37, go_sem, G.1, G.2.1, G.2.2]; try rfl) rfl ?_
            exact ⟨rfl, (BX.out _ K12.out).trans (hb _ HRW.out.2)⟩
        · rw [if_neg ht]
          have qt : (ta.toList == tb.toList) = false := by rw [beqL]; exact decide_eq_false ht
          clear ht C5 C6
          go_enter Tryz.func37, Tryz.ntmps37
          go_wp2_with fail
          try rw [hr]
          try rw [hW]
          refine WC.out.mono ?_
          rintro e w2 ⟨⟨u1, u2, n1, c1, n2, c2, rfl, HN1, hg2, ha2⟩, hb2⟩
          have B2 : Hid (Below W.heap.size W w2) := hb2
          have A2 : Hid (Aq w2 (.slice u1 n1 c1) (.slice u2 n2 c2) xs) := ha2
          have HG2 : Hid (∀ g off, u2 = some ⟨g, off, none⟩ → W.heap.size ≤ g) := hg2
          clear hb2 ha2 s0 s1 hg2
          subst HN1
          obtain ⟨V, HV⟩ : ∃ V, Hid (V = w2.alloc (.cells #[.slice u1 n1 c1, .slice u2 n2 c2] 61)) := ⟨_, rfl⟩
          have hv : w2.alloc (.cells #[.slice u1 n1 c1, .slice u2 n2 c2] 61) = V := HV.out.symm
          have BV : Hid (Below w2.heap.size w2 V) := by rw [HV.out]; exact (Below.refl _ _).alloc (Nat.le_refl _) _
          have KX : Hid (∀ W', Kp (fun q => q = r) V W' → W'.cell? ⟨w2.heap.size, 0, none⟩ = some (.slice u1 n1 c1) ∧ W'.cell? ⟨w2.heap.size, 1, none⟩ = some (.slice u2 n2 c2)) := fun W' k => by
            have hx := HV.out
            obtain ⟨x0, x1⟩ : V.cell? ⟨w2.heap.size, 0, none⟩ = some (.slice u1 n1 c1) ∧ V.cell? ⟨w2.heap.size, 1, none⟩ = some (.slice u2 n2 c2) := by rw [hx]; exact box2 w2 _ _ _ _ (Below.refl _ _)
            have hne : w2.heap.size ≠ r := by have h1 := HRW.out.1; have h2 := B2.out.size; omega
            exact ⟨k.cell x0 hne, k.cell x1 hne⟩
          have SX : Hid (∀ W', Below V.heap.size V W' → W'.cell? ⟨w2.heap.size, 0, none⟩ = some (.slice u1 n1 c1) ∧ W'.cell? ⟨w2.heap.size, 1, none⟩ = some (.slice u2 n2 c2)) := fun W' b => KX.out W' (Kp.of_below b)
          have AX : Hid (∀ W', Below V.heap.size V W' → Aq W' (.slice u1 n1 c1) (.slice u2 n2 c2) xs) := fun W' b => A2.out.later (over BV.out b)
          have WX : Hid (∀ W', Below V.heap.size V W' → Below W.heap.size W W') := fun W' b => over B2.out (over BV.out b)
          have BX : Hid (∀ W', Below V.heap.size V W' → Below w.heap.size w W') := fun W' b => over BW.out (WX.out W' b)
          obtain ⟨s0, s1⟩ := SX.out V (Below.refl _ _)
          clear HV hW
          go_wp2_with fail
          try rw [hv]
          refine (HC.out _).mono ?_
          rintro e w3 ⟨rfl, hw3⟩
          rw [hw3]
          clear hw3
          go_wp2_with fail
          refine (C1.out _ _ _ (AX.out _ (Below.refl _ _))).mono ?_
          rintro e w4 ⟨rfl, hb4⟩
          have K4 : Hid (Below V.heap.size V w4) := hb4
          clear hb4 s0 s1
          obtain ⟨s0, s1⟩ := SX.out w4 K4.out
          have KD : Hid (Below V.heap.size V w4.drew) := below_dr K4.out
          go_upto_region 12 with fail
          go_cut [16] (fun x wx => x = .string ta ∧ Hid (Below V.heap.size V wx))
          case first =>
            go_region_held3 (fun W' => W'.cell? ⟨w2.heap.size, 0, none⟩ = some (.slice u1 n1 c1) ∧ W'.cell? ⟨w2.heap.size, 1, none⟩ = some (.slice u2 n2 c2)) (first | exact SX.out _ KD.out | exact SX.out _ K7.out | exact SX.out _ K8.out) (first | (go_at_call 71; (with_reducible refine (C3.out _ _ _ (AX.out _ KD.out) (BX.out _ KD.out)).mono ?_); rintro e w7 ⟨rfl, hb7⟩; have K7 : Hid (Below V.heap.size V w7) := over KD.out hb7; clear hb7) | (go_at_call 71; (with_reducible refine (C4.out _ _ _ (AX.out _ K7.out) (BX.out _ K7.out)).mono ?_); rintro e w8 ⟨rfl, hb8⟩; have K8 : Hid (Below V.heap.size V w8) := over K7.out hb8; clear hb8) | (go_at_call 27; refine (N1.out _).mono ?_; rintro e w9 ⟨rfl, hw9⟩; rw [hw9]; clear hw9))
            all_goals (go_wp2; go_meet; exact ⟨rfl, K8.out⟩)
          case rest =>
          obtain ⟨rfl, K9⟩ := hcut
          clear s0 s1 K4 KD
          obtain ⟨wb, HWB⟩ : ∃ wb, Hid (wb = wc) := ⟨_, rfl⟩
          have hwb := HWB.out
          subst hwb
          clear HWB
          have KE : Hid (Below V.heap.size V wb.drew) := below_dr K9.out
          go_upto_region 13 with fail
          go_cut [17] (fun x wx => x = .string tb ∧ Hid (Below V.heap.size V wx))
          case first =>
            go_region_held3 (fun W' => True) (trivial) (first | (go_at_call 22; (with_reducible refine (P1.out _ (BX.out _ KE.out)).mono ?_); rintro e w7 ⟨rfl, hb7⟩; have K7 : Hid (Below V.heap.size V w7) := over KE.out hb7; clear hb7) | (go_at_call 22; (with_reducible refine (P2.out _ (BX.out _ K7.out)).mono ?_); rintro e w8 ⟨rfl, hb8⟩; have K8 : Hid (Below V.heap.size V w8) := over K7.out hb8; clear hb8) | (go_at_call 27; refine (N2.out _).mono ?_; rintro e w9 ⟨rfl, hw9⟩; rw [hw9]; clear hw9))
            all_goals (go_wp2; go_meet; exact ⟨rfl, K8.out⟩)
          case rest =>
          obtain ⟨rfl, K10⟩ := hcut
          go_wp2_with fail
          refine (XF.out _).mono ?_
          rintro e w11 ⟨rfl, hb11⟩
          have K11 : Hid (Below V.heap.size V w11) := over K10.out hb11
          clear hb11
          have hr2 := F4.out w11 (WX.out _ K11.out)
          have e0 : w11.cell? ⟨r, 0, none⟩ = _ := cell_of_row _ _ 0 _ _ _ hr2
          have e1 : w11.cell? ⟨r, 1, none⟩ = _ := cell_of_row _ _ 1 _ _ _ hr2
          have e2 : w11.cell? ⟨r, 2, none⟩ = _ := cell_of_row _ _ 2 _ _ _ hr2
          have f0 := frozen_of_row _ _ 0 _ _ hr2
          have f1 := frozen_of_row _ _ 1 _ _ hr2
          have f2 := frozen_of_row _ _ 2 _ _ hr2
          have FIN : Hid (∀ W', W' = _ → _) := put3 w11 r _ _ _ (.string ta) (.string tb) (.bool true) _ hr2
          clear hr2
          go_wp2
          obtain ⟨G, hb⟩ := FIN.out _ rfl
          refine bodyPost_ret (by simp [results, Tryz.results37, go_sem, G.1, G.2.1, G.2.2]; try rfl) rfl ?_
          exact ⟨rfl, (BX.out _ K11.out).trans (hb _ HRW.out.2)⟩

end Go.Proofs.YthppkdjekfginaaGreatDoor.ji
