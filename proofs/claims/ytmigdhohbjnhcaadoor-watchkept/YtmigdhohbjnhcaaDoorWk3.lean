import Derived.Test.YtmigdhohbjnhcaaDoorWk2
namespace Go.Proofs.YtmigdhohbjnhcaaDoor.wk3
open Go.RowKit Go.PlainAid
open Go.Proofs.YtmigdhohbjnhcaaDoor.pj Go.Proofs.YtmigdhohbjnhcaaDoor.rf Go.Proofs.YtmigdhohbjnhcaaDoor.ca Go.Proofs.YtmigdhohbjnhcaaDoor.cb Go.Proofs.YtmigdhohbjnhcaaDoor.cp Go.Proofs.YtmigdhohbjnhcaaDoor.ka Go.Proofs.YtmigdhohbjnhcaaDoor.kb Go.Proofs.YtmigdhohbjnhcaaDoor.ga Go.Proofs.YtmigdhohbjnhcaaDoor.gb Go.Proofs.YtmigdhohbjnhcaaDoor.gc Go.Proofs.YtmigdhohbjnhcaaDoor.mb Go.Proofs.YtmigdhohbjnhcaaDoor.gs Go.Proofs.YtmigdhohbjnhcaaDoor.wk1 Go.Proofs.YtmigdhohbjnhcaaDoor.wk2
set_option linter.unusedVariables false

-- THE LAW: WatchKept
set_option maxHeartbeats 6400000 in
theorem law_kept (wd : Int) (x : Pc) (leaf : ByteArray) (v : Value) (xs : List ByteArray) (at' : Int) (hwd : i64 wd) (hleaf : leaf.size ≤ 140737488352256) (hf : Fits xs) (hno : ∀ k c, v = .slice none k c → c = 0) (w : World) (hr : ReadsT w v xs) (T : Hid (Tab4 w)) :
    Calls Tryd.prog 3 #[.int .i64 wd, prV x, .string leaf, ckV x, v, .int .i64 at'] w fun e w' => e = .returned (.bool true) ∧ Below w.heap.size w w' := by
  obtain ⟨i9, hi, hz0, hz1, hz2⟩ := info_parts hi9
  have HIN : Hid (_ ∧ _ ∧ _ ∧ _) := ⟨hi, hz0, hz1, hz2⟩
  obtain ⟨W1, HW1⟩ : ∃ W1, Hid ((w.alloc (prB x)).alloc (ckB x) = W1) := ⟨_, rfl⟩
  have K1' : Hid (Kb w w.heap.size (w.heap.size + 1) x W1) := by rw [← HW1.out]; exact kb_new w x
  obtain ⟨P, HP⟩ : ∃ K, Hid (w.heap.size = K) := ⟨_, rfl⟩
  obtain ⟨C, HC⟩ : ∃ R, Hid (w.heap.size + 1 = R) := ⟨_, rfl⟩
  have K1 : Hid (Kb w P C x W1) := by rw [← HP.out, ← HC.out]; exact K1'.out
  have CP : Hid (∀ g cp W, Below w.heap.size w W → ReadsT W (.slice (some ⟨g, 0, none⟩) xs.length cp) xs → Calls Tryd.prog _ _ _ _) := fun g cp W hb h => keptC wd x leaf (.slice (some ⟨g, 0, none⟩) xs.length cp) xs at' hwd hleaf hf W h (T.out.down hb).t
  have CD : Hid (∀ W, Below w.heap.size w W → Calls Tryd.prog _ _ _ _) := fun W hb => keptD wd x leaf v xs at' hleaf hf W (hr.later hb) (T.out.down hb)
  have CS : Hid (∀ g cp W, Below w.heap.size w W → ReadsT W (.slice (some ⟨g, 0, none⟩) xs.length cp) xs → Calls Tryd.prog _ _ _ _) := fun g cp W hb h => same_yes (.slice (some ⟨g, 0, none⟩) xs.length cp) v xs W h (hr.later hb) (by have := hf.many; omega)
  have HR1 : Hid (ReadsT W1 v xs) := hr.later K1.out.bl
  generalize kpT wd x leaf xs at' = KV at CP CD
  obtain ⟨kb, ke⟩ := KV
  obtain ⟨a, cap, rfl, hcap, hh⟩ := hr
  obtain ⟨n, HN⟩ : ∃ n, Hid (xs.length = n) := ⟨_, rfl⟩
  have HC0 : Hid (a = none → cap = 0) := fun h => hno xs.length cap (by rw [h])
  have hnm : n * 16 ≤ 140737488351232 := by have := hf.many; rw [HN.out] at this; exact this
  rw [HN.out] at hcap HR1 CP CD CS ⊢
  clear hh hi hz0 hz1 hz2 hno hf T K1'
  obtain ⟨hash, tm, due, mac, o, size, root, ext⟩ := x
  have SX : Hid (∀ W', Below W1.heap.size W1 W' → (W'.cell? ⟨P, 0, none⟩ = some (.string hash) ∧ W'.cell? ⟨P, 1, none⟩ = some (.int .i64 tm) ∧ W'.cell? ⟨P, 2, none⟩ = some (.int .i64 due) ∧ W'.cell? ⟨P, 3, none⟩ = some (.string mac)) ∧ W'.cell? ⟨C, 0, none⟩ = some (.string o) ∧ W'.cell? ⟨C, 1, none⟩ = some (.int .i64 size) ∧ W'.cell? ⟨C, 2, none⟩ = some (.string root) ∧ W'.cell? ⟨C, 3, none⟩ = some ext) := fun W' h => (K1.out.later h).cells
  have BW : Hid (∀ W', Below W1.heap.size W1 W' → Below w.heap.size w W') := fun W' h => K1.out.bl.trans (h.mono K1.out.bl.size)
  show Calls Tryd.prog 3 #[.int .i64 wd, .agg #[.string hash, .int .i64 tm, .int .i64 due, .string mac], .string leaf, .agg #[.string o, .int .i64 size, .string root, ext], .slice a n cap, .int .i64 at'] w _
  go_enter Tryd.func3, Tryd.ntmps3
  go_upto_region 2 with fail
  rw [show (w.alloc (.cells #[.string hash, .int .i64 tm, .int .i64 due, .string mac] 23)).alloc (.cells #[.string o, .int .i64 size, .string root, ext] 26) = W1 from HW1.out, HC.out, HP.out]
  go_cut [13] (fun f wx => ∃ f', f = f' ∧ Hid (wx.ownsRow W1.heap.size 9 1 f' n (xs.map Value.string)) ∧ Hid (Below W1.heap.size W1 wx))
  case first =>
    cases a with
    | none =>
      obtain rfl : cap = 0 := HC0.out rfl
      have hn0 : n = 0 := by omega
      have hx0 : xs = [] := List.length_eq_zero_iff.1 (HN.out.trans hn0)
      subst hn0
      have O0 : Hid (W1.ownsRow W1.heap.size 9 1 (.slice none 0 0) 0 []) := World.ownsRow_nil _ _ _ _
      go_wp2_with (at_builtin; refine wpList_append_own_none rfl _ _ 24 rfl W1.heap.size 9 i9 1 Tryd.underlying24 HIN.out.1 _ 0 _ rfl O0.out rfl ?_)
      go_meet
      refine ⟨_, rfl, ?_, Below.refl _ _⟩
      rw [hx0]
      exact O0.out
    | some ad =>
      have HNW : Hid (∀ (j : Nat) (u : Value), (xs.map Value.string)[j]? = some u → W1.cell? (ad.add j) = some u) := reads_news HR1.out
      have HNL : Hid ((xs.map Value.string).length = n * 1) := by show _ = _; rw [List.length_map, HN.out, Nat.mul_one]
      have HN1 : Hid (∀ u ∈ xs.map Value.string, u.oneCell' = true) := by
        intro u hu
        obtain ⟨x, _, rfl⟩ := List.mem_map.1 hu
        rfl
      have O0 : Hid (W1.ownsRow W1.heap.size 9 1 (.slice none 0 0) 0 []) := World.ownsRow_nil _ _ _ _
      go_wp2_with (at_builtin; refine wpList_append_own _ rfl _ _ 24 rfl W1.heap.size 9 i9 (.string ByteArray.empty) 1 16 Tryd.underlying24 HIN.out.1 HIN.out.2.1 HIN.out.2.2.1 HIN.out.2.2.2 rfl (by decide) _ 0 _ rfl O0.out ad n cap (xs.map Value.string) rfl HNL.out HNW.out HN1.out (by unfold maxLen; omega) (by omega) (Nat.le_refl _) ?_; intro f' w3 ho hg hnn; have HO3 : Hid (World.ownsRow _ _ _ _ _ _ _) := ho; have HB3 : Hid (Below W1.heap.size W1 w3) := Below.grown (Below.refl _ _) hg (Nat.le_refl _) (fun j hj => by cases hj); clear ho hg hnn)
      go_meet
      refine ⟨_, rfl, ?_, HB3.out⟩
      have := HO3.out
      rw [Nat.zero_add, List.nil_append] at this
      exact this
  case rest =>
    obtain ⟨f1, rfl, O1, B3⟩ := hcut
    have O1a : Hid (World.ownsRow _ _ _ _ _ _ _) := O1.out.alloc (.cells #[.string MK] 9)
    have B3a : Hid (Below W1.heap.size W1 (wc.alloc (.cells #[.string MK] 9))) := B3.out.alloc B3.out.size _
    unfold MK at O1a B3a
    go_upto_region 4 with (at_builtin; refine wpList_append_own _ rfl _ _ 24 rfl W1.heap.size 9 i9 (.string ByteArray.empty) 1 16 Tryd.underlying24 HIN.out.1 HIN.out.2.1 HIN.out.2.2.1 HIN.out.2.2.2 rfl (by decide) _ n _ rfl O1a.out ⟨wc.heap.size, 0, none⟩ 1 1 [.string MK] rfl rfl (new_text _ _ _) (one_text _) (by unfold maxLen; omega) (by omega) B3a.out.size ?_; intro f' w4 ho hg hnn; have O2 : Hid (w4.ownsRow W1.heap.size 9 1 f' (n + 1) (xs.map Value.string ++ [.string MK])) := ho; have B4 : Hid (Below W1.heap.size W1 w4) := Below.grown B3a.out hg B3a.out.size (fun j hj => (O1.out.lt _ hj).1); clear ho hg hnn)
    obtain ⟨g, cp, rfl⟩ : ∃ g cp, f' = .slice (some ⟨g, 0, none⟩) (n + 1) cp := by
      rcases O2.out.2 with ⟨_, h⟩ | ⟨g, cp, cur, h, _⟩
      · omega
      · exact ⟨g, cp, h⟩
    have hcp : n + 1 ≤ cp := by
      rcases O2.out.2 with ⟨e, _⟩ | ⟨g', cap', cur, e, _, _, hc, _⟩
      · cases e
      · injection e with _ _ e3; omega
    have hcp1 : (n : Int) ≤ cp := by omega
    have TW : Hid (TwinR w4 W1.heap.size g n cp xs) := O2.out
    clear O1 O1a B3 B3a O2
    have RT4 : Hid (ReadsT w4 (.slice (some ⟨g, 0, none⟩) n cp) xs) := twin_reads TW.out HN.out
    have KX : Hid (Below W1.heap.size W1 w4.drew) := Go.Proofs.YtmigdhohbjnhcaaDoor.cp.below_dN B4.out 1
    have KT : Hid (Below w4.heap.size w4 w4.drew) := Go.Proofs.YtmigdhohbjnhcaaDoor.cp.below_dN (Below.refl _ _) 1
    go_upto_region 5 with fail
    go_region_held_law (fun W' => (W'.cell? ⟨P, 0, none⟩ = some (.string hash) ∧ W'.cell? ⟨P, 1, none⟩ = some (.int .i64 tm) ∧ W'.cell? ⟨P, 2, none⟩ = some (.int .i64 due) ∧ W'.cell? ⟨P, 3, none⟩ = some (.string mac)) ∧ W'.cell? ⟨C, 0, none⟩ = some (.string o) ∧ W'.cell? ⟨C, 1, none⟩ = some (.int .i64 size) ∧ W'.cell? ⟨C, 2, none⟩ = some (.string root) ∧ W'.cell? ⟨C, 3, none⟩ = some ext) (exact SX.out _ KX.out) ((go_at_call 4; (refine (CP.out g cp _ (BW.out _ KX.out) (RT4.out.later KT.out)).mono ?_); rintro _ w5 ⟨rfl, hb⟩; have KT : Hid (Below w4.heap.size w4 w5) := (KT.out.trans (hb.mono KT.out.size)); have KX : Hid (Below W1.heap.size W1 w5) := (KX.out.trans (hb.mono KX.out.size)); clear hb))
    have TW5 : Hid (TwinR w5 W1.heap.size g n cp xs) := twin_later TW.out KT.out
    obtain ⟨⟨k0, k1, k2, k3⟩, k4, k5, k6, k7⟩ := SX.out w5 KX.out
    go_wp2_with fail
    refine (CD.out w5 (BW.out _ KX.out)).mono ?_
    rintro e w6 ⟨rfl, hb⟩
    have TW6 : Hid (TwinR w6 W1.heap.size g n cp xs) := twin_later TW5.out hb
    have B6 : Hid (Below W1.heap.size W1 w6) := KX.out.trans (hb.mono KX.out.size)
    clear hb k0 k1 k2 k3 k4 k5 k6 k7
    have c0 := own_behind TW6.out HN.out
    have qm : ((⟨#[109, 97, 114, 107]⟩ : ByteArray).toList == (⟨#[109, 97, 114, 107]⟩ : ByteArray).toList) = true := beq_self_eq_true _
    unfold MK at c0
    have CC0 : Hid (_ = _) := c0
    clear c0
    have hcpn : (n : Int) < (n : Int) + 1 := by omega
    go_wp2_with fail
    refine (CS.out g cp w6 (BW.out _ B6.out) (twin_reads TW6.out HN.out)).mono ?_
    rintro e w7 ⟨rfl, m, hm⟩
    have c1 : w7.cell? ⟨g, n, none⟩ = some (.string ⟨#[109, 97, 114, 107]⟩) := by rw [hm]; exact CC0.out
    have B7 : Hid (Below w.heap.size w w7) := by rw [hm]; exact below_dN' (BW.out _ B6.out) m
    clear hm
    go_wp2
    go_ret
    exact ⟨by simp, B7.out⟩
end Go.Proofs.YtmigdhohbjnhcaaDoor.wk3
