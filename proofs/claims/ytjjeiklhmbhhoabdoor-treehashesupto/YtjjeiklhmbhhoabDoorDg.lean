import Derived.Test.YtjjeiklhmbhhoabDoorDf
import Derived.Deep.DeepCutAuto
import Derived.Laws.AppendOwnNone
namespace Go.Proofs.YtjjeiklhmbhhoabDoor.dg
open Go.RowKit Go.PlainAid
open Go.Proofs.YtjjeiklhmbhhoabDoor.pj Go.Proofs.YtjjeiklhmbhhoabDoor.rf Go.Proofs.YtjjeiklhmbhhoabDoor.ca Go.Proofs.YtjjeiklhmbhhoabDoor.cb Go.Proofs.YtjjeiklhmbhhoabDoor.cp Go.Proofs.YtjjeiklhmbhhoabDoor.cs Go.Proofs.YtjjeiklhmbhhoabDoor.da Go.Proofs.YtjjeiklhmbhhoabDoor.db Go.Proofs.YtjjeiklhmbhhoabDoor.de
set_option linter.unusedVariables false

def BEH : ByteArray := ⟨#[98, 101, 104, 105, 110, 100]⟩
theorem own_first {w : World} {B g n cap : Nat} {ys : List ByteArray} {z : Value} (h : w.ownsRow B 9 1 (.slice (some ⟨g, 0, none⟩) (n + 1) cap) (n + 1) (ys.map Value.string ++ [z])) (hn : ys.length = n) : ReadsT w (.slice (some ⟨g, 0, none⟩) n cap) ys := by
  have hc : n + 1 ≤ cap := by
    rcases h.2 with ⟨e, _⟩ | ⟨g', cap', cur, e, _, _, hc, _⟩
    · cases e
    · injection e with _ _ e3; omega
  refine ⟨_, cap, by rw [hn], by omega, .inr ⟨g, 0, rfl, fun i hi => ?_⟩⟩
  rw [Nat.zero_add, h.cellAt i (by omega), List.getElem?_append_left (by rw [List.length_map]; exact hi), List.getElem?_map, List.getElem?_eq_getElem hi, List.getD_eq_getElem?_getD, List.getElem?_eq_getElem hi]
  rfl
theorem own_behind {w : World} {B g n cap : Nat} {ys : List ByteArray} {z : Value} (h : w.ownsRow B 9 1 (.slice (some ⟨g, 0, none⟩) (n + 1) cap) (n + 1) (ys.map Value.string ++ [z])) (hn : ys.length = n) : w.cell? ⟨g, n, none⟩ = some z := by
  rw [h.cellAt n (by omega), List.getElem?_append_right (by rw [List.length_map]; omega), List.length_map, hn, Nat.sub_self]
  rfl
theorem new_text (W : World) (u : Value) (t : TypeId) : ∀ (j : Nat) (x : Value), [u][j]? = some x → (W.alloc (.cells #[u] t)).cell? (Addr.add ⟨W.heap.size, 0, none⟩ j) = some x := by
  intro j x hx
  rw [show (Addr.add ⟨W.heap.size, 0, none⟩ j) = ⟨W.heap.size, j, none⟩ by cases j <;> simp [Addr.add], World.cell?_alloc_at _ _ _ _ rfl]
  simpa using hx
theorem one_text (x : ByteArray) : ∀ u ∈ [Value.string x], u.oneCell' = true := by
  intro u hu
  simp only [List.mem_cons, List.not_mem_nil, or_false] at hu
  subst hu
  rfl
theorem reads_news {w : World} {ad : Addr} {n cap : Nat} {xs : List ByteArray} (h : ReadsT w (.slice (some ad) n cap) xs) : ∀ (j : Nat) (u : Value), (xs.map Value.string)[j]? = some u → w.cell? (ad.add j) = some u := by
  intro j u hu
  have hj : j < xs.length := by have := (List.getElem?_eq_some_iff.1 hu).1; simpa using this
  obtain ⟨a', cap', e, _, h0 | ⟨b, off, e4, hc⟩⟩ := h
  · omega
  · injection e with e1 e2 e3
    rw [← e1] at e4
    obtain rfl := Option.some.inj e4
    rw [Addr.add_mid, hc j hj, ← hu, List.getElem?_map, List.getElem?_eq_getElem hj, List.getD_eq_getElem?_getD, List.getElem?_eq_getElem hj]
    rfl
set_option maxHeartbeats 3200000 in
set_option maxRecDepth 100000 in
theorem tree_fold (FO : FoldC Tab4 EF NF) (wd : Int) (hwd : i64 wd) (v : Value) (xs : List ByteArray) (w : World) (T : Tab4 w) (hR : ReadsT w v xs) (hx : ∀ x ∈ xs, x.size ≤ 1048575) (hn : xs.length ≤ 1048576) (hnone : ∀ k c, v = .slice none k c → c = 0) :
    Calls Tryd.prog 5 #[.int .i64 wd, v] w fun e w' => e = .returned (.bool true) ∧ Below w.heap.size w w' := by
  obtain ⟨i9, hi, hz0, hz1, hz2⟩ := info_parts hi9
  have HIN : Hid (_ ∧ _ ∧ _ ∧ _) := ⟨hi, hz0, hz1, hz2⟩
  have HT : Hid (Tab4 w) := T
  have HX : Hid (∀ x ∈ xs, x.size ≤ 1048575) := hx
  have HRD : Hid (ReadsT w v xs) := hR
  have F1 : Hid (∀ (u : Value) (ys : List ByteArray) (w' : World), Tab4 w' → ReadsT w' u ys → (∀ x ∈ ys, x.size ≤ 1048576) → ys.length ≤ 1048577 → Calls Tryd.prog 10 #[.int .i64 wd, u] w' fun e w'' => e = .returned (.string (foldP (EF wd) (NF wd) ys)) ∧ Below w'.heap.size w' w'') := fun u ys w' h1 h2 h3 h4 => FO wd u ys w' hwd h1 h2 (fun x h => by have := h3 x h; omega) (by omega)
  have F2 : Hid (∀ (u : Value) (ys : List ByteArray) (w' : World), Tab4 w' → ReadsT w' u ys → (∀ x ∈ ys, x.size ≤ 1048576) → ys.length ≤ 1048577 → Calls Tryd.prog 17 #[.int .i64 wd, u] w' fun e w'' => e = .returned (.string (foldP (EF wd) (NF wd) ys)) ∧ Below w'.heap.size w' w'') := fun u ys w' h1 h2 h3 h4 => rFold wd u ys w' h1 h2 h3 h4
  obtain ⟨a, cap, rfl, hcap, hh⟩ := hR
  obtain ⟨n, HN⟩ : ∃ n, Hid (xs.length = n) := ⟨_, rfl⟩
  have HC0 : Hid (a = none → cap = 0) := fun h => hnone xs.length cap (by rw [h])
  rw [HN.out] at hcap hh hn HRD ⊢
  have HH : Hid (n = 0 ∨ ∃ b off, a = some ⟨b, off, none⟩ ∧ ∀ i, i < n → w.cell? ⟨b, off + i, none⟩ = some (.string (xs.getD i ByteArray.empty))) := hh
  have hn63 : n ≤ maxLen := by unfold maxLen; omega
  have HX' : Hid (∀ x ∈ xs, x.size ≤ 1048576) := fun x h => by have := HX.out x h; omega
  have HN' : Hid (xs.length ≤ 1048577) := by show _ ≤ _; rw [HN.out]; omega
  obtain ⟨R, HRR⟩ : ∃ R, Hid (foldP (EF wd) (NF wd) xs = R) := ⟨_, rfl⟩
  have qR : (R.toList == R.toList) = true := beq_self_eq_true _
  have qB : (BEH.toList == BEH.toList) = true := beq_self_eq_true _
  clear FO hwd T hx hnone hh hi hz0 hz1 hz2
  go_enter Tryd.func5, Tryd.ntmps5
  go_upto_region 1 with fail
  go_cut [5] (fun f wx => ∃ f', f = f' ∧ Hid (wx.ownsRow w.heap.size 9 1 f' n (xs.map Value.string)) ∧ Hid (Below w.heap.size w wx))
  case first =>
    cases a with
    | none =>
      obtain rfl : cap = 0 := HC0.out rfl
      have hn0 : n = 0 := by omega
      have hx0 : xs = [] := List.length_eq_zero_iff.1 (HN.out.trans hn0)
      subst hn0
      have O0 : Hid (w.ownsRow w.heap.size 9 1 (.slice none 0 0) 0 []) := World.ownsRow_nil _ _ _ _
      go_wp2_with (at_builtin; refine wpList_append_own_none rfl _ _ 22 rfl w.heap.size 9 i9 1 Tryd.underlying22 HIN.out.1 _ 0 _ rfl O0.out rfl ?_)
      go_meet
      refine ⟨_, rfl, ?_, Below.refl _ _⟩
      rw [hx0]
      exact O0.out
    | some ad =>
      have HNW : Hid (∀ (j : Nat) (u : Value), (xs.map Value.string)[j]? = some u → w.cell? (ad.add j) = some u) := reads_news HRD.out
      have HNL : Hid ((xs.map Value.string).length = n * 1) := by show _ = _; rw [List.length_map, HN.out, Nat.mul_one]
      have HN1 : Hid (∀ u ∈ xs.map Value.string, u.oneCell' = true) := by
        intro u hu
        obtain ⟨x, _, rfl⟩ := List.mem_map.1 hu
        rfl
      have O0 : Hid (w.ownsRow w.heap.size 9 1 (.slice none 0 0) 0 []) := World.ownsRow_nil _ _ _ _
      go_wp2_with (at_builtin; refine wpList_append_own _ rfl _ _ 22 rfl w.heap.size 9 i9 (.string ByteArray.empty) 1 16 Tryd.underlying22 HIN.out.1 HIN.out.2.1 HIN.out.2.2.1 HIN.out.2.2.2 rfl (by decide) _ 0 _ rfl O0.out ad n cap (xs.map Value.string) rfl HNL.out HNW.out HN1.out (by omega) (by omega) (Nat.le_refl _) ?_; intro f' w3 ho hg hnn; have HO3 : Hid (World.ownsRow _ _ _ _ _ _ _) := ho; have HB3 : Hid (Below w.heap.size w w3) := Below.grown (Below.refl _ _) hg (Nat.le_refl _) (fun j hj => by cases hj); clear ho hg hnn)
      go_meet
      refine ⟨_, rfl, ?_, HB3.out⟩
      have := HO3.out
      rw [Nat.zero_add, List.nil_append] at this
      exact this
  case rest =>
    obtain ⟨f1, rfl, O1, B3⟩ := hcut
    have O1a : Hid (World.ownsRow _ _ _ _ _ _ _) := O1.out.alloc (.cells #[.string BEH] 9)
    have B3a : Hid (Below w.heap.size w (wc.alloc (.cells #[.string BEH] 9))) := B3.out.alloc B3.out.size _
    unfold BEH at O1a B3a
    go_upto_region 3 with (at_builtin; refine wpList_append_own _ rfl _ _ 22 rfl w.heap.size 9 i9 (.string ByteArray.empty) 1 16 Tryd.underlying22 HIN.out.1 HIN.out.2.1 HIN.out.2.2.1 HIN.out.2.2.2 rfl (by decide) _ n _ rfl O1a.out ⟨wc.heap.size, 0, none⟩ 1 1 [.string BEH] rfl rfl (new_text _ _ _) (one_text _) (by unfold maxLen; omega) (by omega) B3a.out.size ?_; intro f' w4 ho hg hnn; have O2 : Hid (w4.ownsRow w.heap.size 9 1 f' (n + 1) (xs.map Value.string ++ [.string BEH])) := ho; have B4 : Hid (Below w.heap.size w w4) := Below.grown B3a.out hg B3a.out.size (fun j hj => (O1.out.lt _ hj).1); clear ho hg hnn)
    obtain ⟨g, cp, rfl⟩ : ∃ g cp, f' = .slice (some ⟨g, 0, none⟩) (n + 1) cp := by
      rcases O2.out.2 with ⟨_, h⟩ | ⟨g, cp, cur, h, _⟩
      · omega
      · exact ⟨g, cp, h⟩
    have hgB : w.heap.size ≤ g := (O2.out.lt g rfl).1
    have hcp : n + 1 ≤ cp := by
      rcases O2.out.2 with ⟨e, _⟩ | ⟨g', cap', cur, e, _, _, hc, _⟩
      · cases e
      · injection e with _ _ e3; omega
    have RF : Hid (ReadsT w4 (.slice (some ⟨g, 0, none⟩) n cp) xs) := own_first O2.out HN.out
    have RX : Hid (ReadsT w4 (.slice a n cap) xs) := HRD.out.later B4.out
    have T4 : Hid (Tab4 w4) := HT.out.down B4.out
    have C1 : Hid (∀ w', Tab4 w' → ReadsT w' (.slice (some ⟨g, 0, none⟩) n cp) xs → Calls _ _ _ _ _) := fun w' h1 h2 => F1.out _ xs w' h1 h2 HX'.out HN'.out
    have C2 : Hid (∀ w', Tab4 w' → ReadsT w' (.slice a n cap) xs → Calls _ _ _ _ _) := fun w' h1 h2 => F2.out _ xs w' h1 h2 HX'.out HN'.out
    rw [HRR.out] at C1 C2
    have hcp1 : (n : Int) ≤ cp := by omega
    clear O1 O1a B3 B3a
    go_wp2_with fail
    refine (C1.out _ T4.out RF.out).mono ?_
    rintro e w5 ⟨rfl, hb⟩
    have B5 : Hid (Below w4.heap.size w4 w5) := hb
    have T5 : Hid (Tab4 w5) := T4.out.down hb
    clear hb
    go_wp2_with fail
    refine (C2.out _ T5.out (RX.out.later B5.out)).mono ?_
    rintro e w6 ⟨rfl, hb⟩
    have B6 : Hid (Below w4.heap.size w4 w6) := over B5.out hb
    have T6 : Hid (Tab4 w6) := T5.out.down hb
    have O6 : Hid (w6.ownsRow w.heap.size 9 1 (.slice (some ⟨g, 0, none⟩) (n + 1) cp) (n + 1) (xs.map Value.string ++ [.string BEH])) := own_later O2.out B6.out
    have BW6 : Hid (Below w.heap.size w w6) := over B4.out B6.out
    have RF6 : Hid (ReadsT w6 (.slice (some ⟨g, 0, none⟩) n cp) xs) := RF.out.later B6.out
    have RX6 : Hid (ReadsT w6 (.slice a n cap) xs) := RX.out.later B6.out
    clear hb B5 T5 T4 RF RX O2 B4 B6
    go_wp2
    go_loopw [9] (fun i wr => ∃ (k m : Nat), k ≤ n ∧ i = .int .i64 k ∧ wr = w6.drewN m) (fun i _ => (n - intOf i).toNat)
    case atStart => exact ⟨0, 0, by omega, rfl, rfl⟩
    case round =>
      obtain ⟨k, m, hk, rfl, rfl⟩ := hrel
      by_cases hlt : k < n
      · have hlt' : (k : Int) < n := by omega
        have hlt2 : (k : Int) < (n : Int) + 1 := by omega
        obtain ⟨x, HXK⟩ : ∃ x, Hid (xs.getD k ByteArray.empty = x) := ⟨_, rfl⟩
        have c1 : w6.cell? ⟨g, k, none⟩ = some (.string x) := by
          obtain ⟨a', cap', e, _, h0 | ⟨b, off, e4, hc⟩⟩ := RF6.out
          · rw [HN.out] at h0; omega
          · injection e with e1 _ _
            rw [← e1] at e4
            injection e4 with e4
            injection e4 with e5 e6
            subst e5 e6
            have := hc k (by rw [HN.out]; exact hlt)
            rw [Nat.zero_add, HXK.out] at this
            exact this
        obtain ⟨b, off, hab, c2⟩ : ∃ b off, a = some ⟨b, off, none⟩ ∧ w6.cell? ⟨b, off + k, none⟩ = some (.string x) := by
          obtain ⟨a', cap', e, _, h0 | ⟨b, off, e4, hc⟩⟩ := RX6.out
          · rw [HN.out] at h0; omega
          · injection e with e1 _ _
            refine ⟨b, off, e1.trans e4, ?_⟩
            have := hc k (by rw [HN.out]; exact hlt)
            rw [HXK.out] at this
            exact this
        subst hab
        have qx : (x.toList == x.toList) = true := beq_self_eq_true _
        go_wp2_with fail
        go_quiet (fail)
        go_wp2
        go_roundw
        case rel => exact ⟨k + 1, _, by omega, by go_num, rfl⟩
        case measure => simp [intOf]; omega
      · have hlt' : ¬ (k : Int) < n := by omega
        have DQ : Below w6.heap.size w6 (w6.drewN m) := below_dN (Below.refl _ _) m
        have O7 : Hid ((w6.drewN m).ownsRow w.heap.size 9 1 (.slice (some ⟨g, 0, none⟩) (n + 1) cp) (n + 1) (xs.map Value.string ++ [.string BEH])) := own_later O6.out DQ
        have T7 : Hid (Tab4 (w6.drewN m)) := T6.out.down DQ
        have BW7 : Hid (Below w.heap.size w (w6.drewN m)) := over BW6.out DQ
        clear DQ O6 T6 BW6 RF6 RX6
        generalize hW : w6.drewN m = w7 at *
        clear hW
        have cn := own_behind O7.out HN.out
        have hn9 : (n : Int) < (n : Int) + 1 := by omega
        unfold BEH at cn qB
        by_cases h0 : n = 0
        · have q0 : ((n : Int) == 0) = true := by rw [beq_iff_eq]; omega
          clear h0
          go_wp2
          go_ret
          exact ⟨rfl, BW7.out⟩
        · have q0 : ((n : Int) == 0) = false := by rw [beq_eq_false_iff_ne]; omega
          have hpos : 0 < n := by omega
          have hx0 : 0 < xs.length := by rw [HN.out]; exact hpos
          have hl1 : n - 1 < xs.length := by rw [HN.out]; omega
          obtain ⟨la, HLA⟩ : ∃ x, Hid (xs[n - 1]'hl1 = x) := ⟨_, rfl⟩
          have cl : w7.cell? ⟨g, n - 1, none⟩ = some (.string la) := by
            rw [O7.out.cellAt (n - 1) (by omega), List.getElem?_append_left (by rw [List.length_map]; exact hl1), List.getElem?_map, List.getElem?_eq_getElem hl1, HLA.out]
            rfl
          obtain ⟨o0, c0⟩ : ∃ o, w7.cell? ⟨g, 0, none⟩ = some o := by
            rw [O7.out.cellAt 0 (by omega), List.getElem?_append_left (by rw [List.length_map]; exact hx0), List.getElem?_map, List.getElem?_eq_getElem hx0]
            exact ⟨_, rfl⟩
          have f0 := O7.out.frozenAt 0
          have las : la.size ≤ 1048575 := by rw [← HLA.out]; exact HX.out _ (List.getElem_mem hl1)
          have sx : (⟨#[120]⟩ : ByteArray).size = 1 := rfl
          have hn1 : (0 : Int) ≤ (n : Int) - 1 := by omega
          have hn2 : (n : Int) - 1 < (n : Int) + 1 := by omega
          have hn3 : ((n : Int) - 1).toNat = n - 1 := by omega
          have hn4 : (0 : Int) < (n : Int) + 1 := by omega
          obtain ⟨ys, HYS⟩ : ∃ ys, Hid (xs.set 0 (la ++ (⟨#[120]⟩ : ByteArray)) = ys) := ⟨_, rfl⟩
          have HYN : Hid (ys.length = n) := by show _ = _; rw [← HYS.out, List.length_set, HN.out]
          have O8 : Hid ((w7.setCell ⟨g, 0, none⟩ (.string (la ++ (⟨#[120]⟩ : ByteArray)))).ownsRow w.heap.size 9 1 (.slice (some ⟨g, 0, none⟩) (n + 1) cp) (n + 1) (ys.map Value.string ++ [.string BEH])) := by
            have := (O7.out.stored 0 (.string (la ++ (⟨#[120]⟩ : ByteArray)))).1
            rw [List.set_append_left _ _ (by rw [List.length_map]; exact hx0), ← List.map_set, HYS.out] at this
            exact this
          have BW8 : Hid (Below w.heap.size w (w7.setCell ⟨g, 0, none⟩ (.string (la ++ (⟨#[120]⟩ : ByteArray))))) := BW7.out.setCell (p := ⟨g, 0, none⟩) hgB _
          have T8 : Hid (Tab4 (w7.setCell ⟨g, 0, none⟩ (.string (la ++ (⟨#[120]⟩ : ByteArray))))) := HT.out.down BW8.out
          have R8 : Hid (ReadsT (w7.setCell ⟨g, 0, none⟩ (.string (la ++ (⟨#[120]⟩ : ByteArray)))) (.slice (some ⟨g, 0, none⟩) n cp) ys) := own_first O8.out HYN.out
          have HYX : Hid (∀ y ∈ ys, y.size ≤ 1048576) := by
            intro y hy
            rw [← HYS.out] at hy
            rcases List.mem_or_eq_of_mem_set hy with h | h
            · exact HX'.out y h
            · rw [h, ByteArray.size_append, sx]; omega
          have HYL : Hid (ys.length ≤ 1048577) := by show _ ≤ _; rw [HYN.out]; omega
          obtain ⟨R2, HR2⟩ : ∃ R, Hid (foldP (EF wd) (NF wd) ys = R) := ⟨_, rfl⟩
          have q2 : (R2.toList == R2.toList) = true := beq_self_eq_true _
          have D1 : Hid (∀ w', Tab4 w' → ReadsT w' (.slice (some ⟨g, 0, none⟩) n cp) ys → Calls _ _ _ _ _) := fun w' h1 h2 => F1.out _ ys w' h1 h2 HYX.out HYL.out
          have D2 : Hid (∀ (u : Value) w', Tab4 w' → ReadsT w' u ys → Calls _ _ _ _ _) := fun u w' h1 h2 => F2.out u ys w' h1 h2 HYX.out HYL.out
          rw [HR2.out] at D1 D2
          clear h0
          go_wp2_with fail
          refine (D1.out _ T8.out R8.out).mono ?_
          rintro e w9 ⟨rfl, hb⟩
          have T9 : Hid (Tab4 w9) := T8.out.down hb
          have R9 : Hid (ReadsT w9 (.slice (some ⟨g, 0, none⟩) n cp) ys) := R8.out.later hb
          have BW9 : Hid (Below w.heap.size w w9) := over BW8.out hb
          clear hb
          have HNW : Hid (∀ (j : Nat) (u : Value), (ys.map Value.string)[j]? = some u → w9.cell? (Addr.add ⟨g, 0, none⟩ j) = some u) := reads_news R9.out
          have HNL : Hid ((ys.map Value.string).length = n * 1) := by show _ = _; rw [List.length_map, HYN.out, Nat.mul_one]
          have HN1 : Hid (∀ u ∈ ys.map Value.string, u.oneCell' = true) := by
            intro u hu
            obtain ⟨x, _, rfl⟩ := List.mem_map.1 hu
            rfl
          have O0 : Hid (w9.ownsRow w9.heap.size 9 1 (.slice none 0 0) 0 []) := World.ownsRow_nil _ _ _ _
          go_wp2_with (at_builtin; refine wpList_append_own _ rfl _ _ 22 rfl w9.heap.size 9 i9 (.string ByteArray.empty) 1 16 Tryd.underlying22 HIN.out.1 HIN.out.2.1 HIN.out.2.2.1 HIN.out.2.2.2 rfl (by decide) _ 0 _ rfl O0.out ⟨g, 0, none⟩ n cp (ys.map Value.string) rfl HNL.out HNW.out HN1.out (by omega) (by omega) (Nat.le_refl _) ?_; intro f2 wa ho hg hnn; have HOA : Hid (wa.ownsRow w9.heap.size 9 1 f2 (0 + n) ([] ++ ys.map Value.string)) := ho; have HBA : Hid (Below w9.heap.size w9 wa) := Below.grown (Below.refl _ _) hg (Nat.le_refl _) (fun j hj => by cases hj); clear ho hg hnn)
          have RA : Hid (ReadsT wa f2 ys) := by
            have := HOA.out
            rw [List.nil_append] at this
            exact own_readsT this
          refine (D2.out f2 _ (T9.out.down HBA.out) RA.out).mono ?_
          rintro e wb ⟨rfl, hb⟩
          have BWB : Hid (Below w.heap.size w wb) := over (over BW9.out HBA.out) hb
          clear hb
          go_wp2
          go_ret
          exact ⟨rfl, BWB.out⟩
end Go.Proofs.YtjjeiklhmbhhoabDoor.dg
