import Derived.Test.YtkanjkofdfmhhabDoorGb
import Derived.Deep.DeepCutAuto
import Derived.Laws.AppendOwnNone
import Derived.BigQuiet
namespace Go.Proofs.YtkanjkofdfmhhabDoor.gs
open Go.RowKit Go.PlainAid
open Go.Proofs.YtkanjkofdfmhhabDoor.pj Go.Proofs.YtkanjkofdfmhhabDoor.rf Go.Proofs.YtkanjkofdfmhhabDoor.ca Go.Proofs.YtkanjkofdfmhhabDoor.cb Go.Proofs.YtkanjkofdfmhhabDoor.cp Go.Proofs.YtkanjkofdfmhhabDoor.ka Go.Proofs.YtkanjkofdfmhhabDoor.kb Go.Proofs.YtkanjkofdfmhhabDoor.ga Go.Proofs.YtkanjkofdfmhhabDoor.gb
set_option linter.unusedVariables false

theorem getD_at (xs : List ByteArray) (k : Nat) (h : k < xs.length) : xs.getD k ByteArray.empty = xs[k] := by
  rw [List.getD_eq_getElem?_getD, List.getElem?_eq_getElem h]; rfl
theorem lists_eq {xs ys : List ByteArray} (hl : xs.length = ys.length) (h : ∀ j, j < xs.length → xs.getD j ByteArray.empty = ys.getD j ByteArray.empty) : xs = ys := by
  apply List.ext_getElem hl
  intro j h1 h2
  have := h j h1
  rwa [getD_at _ _ h1, getD_at _ _ h2] at this
theorem beqL (a b : ByteArray) : (a.toList == b.toList) = decide (a = b) := by
  by_cases h : a = b
  · subst h; simp
  · rw [decide_eq_false h, beq_eq_false_iff_ne, ByteArray.toList_eq, ByteArray.toList_eq]
    intro e
    exact h (ByteArray.ext (Array.ext' e))
theorem beqLit (a : ByteArray) (l : List UInt8) : (a.toList == l) = decide (a = ⟨l.toArray⟩) := by
  rw [← beqL, ByteArray.toList_eq, ByteArray.toList_eq]
-- two lists held against each other: nothing is written
set_option maxHeartbeats 1600000 in
theorem same (va vb : Value) (xs ys : List ByteArray) (w : World) (h1 : ReadsT w va xs) (h2 : ReadsT w vb ys) (hz : xs.length ≤ 140737488355328) :
    Calls Tryd.prog 10 #[va, vb] w fun e w' => e = .returned (.bool (decide (xs = ys))) ∧ ∃ m, w' = w.drewN m := by
  obtain ⟨a, cap, rfl, _, h1⟩ := h1
  obtain ⟨a', cap', rfl, _, h2⟩ := h2
  by_cases hl : xs.length = ys.length
  · have HC : Hid (xs.length = 0 ∨ ∃ b off, a = some ⟨b, off, none⟩ ∧ ∀ i, i < xs.length → w.cell? ⟨b, off + i, none⟩ = some (.string (xs.getD i ByteArray.empty))) := h1
    rw [← hl] at h2 ⊢
    have HC' : Hid (xs.length = 0 ∨ ∃ b off, a' = some ⟨b, off, none⟩ ∧ ∀ i, i < xs.length → w.cell? ⟨b, off + i, none⟩ = some (.string (ys.getD i ByteArray.empty))) := h2
    have HL : Hid (xs.length = ys.length) := hl
    obtain ⟨n, HN⟩ : ∃ n, Hid (xs.length = n) := ⟨_, rfl⟩
    obtain ⟨r, HR⟩ : ∃ r, Hid (decide (xs = ys) = r) := ⟨_, rfl⟩
    rw [HR.out]
    rw [HN.out] at HC HC' hz ⊢
    clear h1 h2 hl
    have hl' : ((n : Int) == (n : Int)) = true := beq_self_eq_true _
    go_enter Tryd.func10, Tryd.ntmps10
    go_wp2
    go_loopw [5] (fun i wr => ∃ k m : Nat, k ≤ n ∧ i = .int .i64 k ∧ Hid (∀ j, j < k → xs.getD j ByteArray.empty = ys.getD j ByteArray.empty) ∧ wr = w.drewN m) (fun i _ => (n - intOf i).toNat)
    case atStart => exact ⟨0, 0, by omega, rfl, fun j h => by omega, rfl⟩
    case round =>
      obtain ⟨k, m, hk, rfl, HS, rfl⟩ := hrel
      by_cases hlt : k < n
      · have hlt' : (k : Int) < n := by omega
        obtain ⟨b, off, rfl, hc⟩ : ∃ b off, a = some ⟨b, off, none⟩ ∧ ∀ i, i < n → w.cell? ⟨b, off + i, none⟩ = some (.string (xs.getD i ByteArray.empty)) := by
          rcases HC.out with h | h
          · omega
          · exact h
        obtain ⟨b', off', rfl, hc'⟩ : ∃ b off, a' = some ⟨b, off, none⟩ ∧ ∀ i, i < n → w.cell? ⟨b, off + i, none⟩ = some (.string (ys.getD i ByteArray.empty)) := by
          rcases HC'.out with h | h
          · omega
          · exact h
        obtain ⟨X, HX⟩ : ∃ X, Hid (xs.getD k ByteArray.empty = X) := ⟨_, rfl⟩
        obtain ⟨Y, HY⟩ : ∃ X, Hid (ys.getD k ByteArray.empty = X) := ⟨_, rfl⟩
        have c1 := hc k hlt
        have c2 := hc' k hlt
        rw [HX.out] at c1
        rw [HY.out] at c2
        clear hc hc'
        by_cases hxy : X = Y
        · have hb : (X.toList == Y.toList) = true := by rw [beqL]; exact decide_eq_true hxy
          have HS1 : Hid (∀ j, j < k + 1 → xs.getD j ByteArray.empty = ys.getD j ByteArray.empty) := fun j hj => by
            rcases Nat.lt_or_ge j k with h | h
            · exact HS.out j h
            · obtain rfl : j = k := by omega
              rw [HX.out, HY.out, hxy]
          clear hxy
          go_wp2_with fail
          go_quiet (fail)
          go_wp2
          go_roundw
          case rel => exact ⟨k + 1, _, by omega, by go_num, HS1.out, rfl⟩
          case measure => simp [intOf]; omega
        · have hb : (X.toList == Y.toList) = false := by rw [beqL]; exact decide_eq_false hxy
          have HE : Hid (r = false) := by
            show _ = _
            rw [← HR.out]
            apply decide_eq_false
            intro e
            apply hxy
            rw [← HX.out, ← HY.out, e]
          clear hxy
          go_wp2_with fail
          go_quiet (fail)
          go_wp2
          go_ret
          exact ⟨by rw [HE.out]; rfl, m + nq, by rw [World.drewN_drewN]⟩
      · have hlt' : ¬ (k : Int) < n := by omega
        have HE : Hid (r = true) := by
          show _ = _
          rw [← HR.out]
          apply decide_eq_true
          exact lists_eq HL.out (fun j hj => HS.out j (by rw [HN.out] at hj; omega))
        go_wp2
        go_ret
        exact ⟨by rw [HE.out]; rfl, _, rfl⟩
  · rw [decide_eq_false (fun e => hl (by rw [e]))]
    have hb : ((xs.length : Int) == (ys.length : Int)) = false := by rw [beq_eq_false_iff_ne]; omega
    clear hl h1 h2
    go_enter Tryd.func10, Tryd.ntmps10
    go_wp2
    go_ret
    exact ⟨rfl, 0, rfl⟩
-- a list held against itself
theorem same_yes (va vb : Value) (xs : List ByteArray) (w : World) (h1 : ReadsT w va xs) (h2 : ReadsT w vb xs) (hz : xs.length ≤ 140737488355328) :
    Calls Tryd.prog 10 #[va, vb] w fun e w' => e = .returned (.bool true) ∧ ∃ m, w' = w.drewN m := by
  have := same va vb xs xs w h1 h2 hz
  rwa [decide_eq_true rfl] at this
def MK : ByteArray := ⟨#[109, 97, 114, 107]⟩
-- the same texts with a mark behind them
def TwinR (w : World) (B g n cp : Nat) (xs : List ByteArray) : Prop := w.ownsRow B 9 1 (.slice (some ⟨g, 0, none⟩) (n + 1) cp) (n + 1) (xs.map Value.string ++ [.string MK])
set_option maxHeartbeats 1600000 in
theorem twin (v : Value) (xs : List ByteArray) (w : World) (hR : ReadsT w v xs) (hno : ∀ k c, v = .slice none k c → c = 0) (hf : Fits xs) :
    Calls Tryd.prog 6 #[v] w fun e w' => (∃ g cp, e = .returned (.slice (some ⟨g, 0, none⟩) xs.length cp) ∧ TwinR w' w.heap.size g xs.length cp xs) ∧ Below w.heap.size w w' := by
  obtain ⟨i9, hi, hz0, hz1, hz2⟩ := info_parts hi9
  have HIN : Hid (_ ∧ _ ∧ _ ∧ _) := ⟨hi, hz0, hz1, hz2⟩
  have HRD : Hid (ReadsT w v xs) := hR
  obtain ⟨a, cap, rfl, hcap, hh⟩ := hR
  obtain ⟨n, HN⟩ : ∃ n, Hid (xs.length = n) := ⟨_, rfl⟩
  have HC0 : Hid (a = none → cap = 0) := fun h => hno xs.length cap (by rw [h])
  have hnm : n * 16 ≤ 140737488351232 := by have := hf.many; rw [HN.out] at this; exact this
  rw [HN.out] at hcap HRD ⊢
  clear hh hi hz0 hz1 hz2 hno hf
  go_enter Tryd.func6, Tryd.ntmps6
  go_upto_region 2 with fail
  go_cut [3] (fun f wx => ∃ f', f = f' ∧ Hid (wx.ownsRow w.heap.size 9 1 f' n (xs.map Value.string)) ∧ Hid (Below w.heap.size w wx))
  case first =>
    cases a with
    | none =>
      obtain rfl : cap = 0 := HC0.out rfl
      have hn0 : n = 0 := by omega
      have hx0 : xs = [] := List.length_eq_zero_iff.1 (HN.out.trans hn0)
      subst hn0
      have O0 : Hid (w.ownsRow w.heap.size 9 1 (.slice none 0 0) 0 []) := World.ownsRow_nil _ _ _ _
      go_wp2_with (at_builtin; refine wpList_append_own_none rfl _ _ 22 rfl w.heap.size 9 i9 1 Tryd.underlying22 HIN.out.1 _ 0 _ rfl O0.out rfl ?_)
      go_meet
      refine ⟨_, rfl, ?_, Below.refl _ _⟩
      rw [hx0]
      exact O0.out
    | some ad =>
      have HNW : Hid (∀ (j : Nat) (u : Value), (xs.map Value.string)[j]? = some u → w.cell? (ad.add j) = some u) := reads_news HRD.out
      have HNL : Hid ((xs.map Value.string).length = n * 1) := by show _ = _; rw [List.length_map, HN.out, Nat.mul_one]
      have HN1 : Hid (∀ u ∈ xs.map Value.string, u.oneCell' = true) := by
        intro u hu
        obtain ⟨x, _, rfl⟩ := List.mem_map.1 hu
        rfl
      have O0 : Hid (w.ownsRow w.heap.size 9 1 (.slice none 0 0) 0 []) := World.ownsRow_nil _ _ _ _
      go_wp2_with (at_builtin; refine wpList_append_own _ rfl _ _ 22 rfl w.heap.size 9 i9 (.string ByteArray.empty) 1 16 Tryd.underlying22 HIN.out.1 HIN.out.2.1 HIN.out.2.2.1 HIN.out.2.2.2 rfl (by decide) _ 0 _ rfl O0.out ad n cap (xs.map Value.string) rfl HNL.out HNW.out HN1.out (by unfold maxLen; omega) (by omega) (Nat.le_refl _) ?_; intro f' w3 ho hg hnn; have HO3 : Hid (World.ownsRow _ _ _ _ _ _ _) := ho; have HB3 : Hid (Below w.heap.size w w3) := Below.grown (Below.refl _ _) hg (Nat.le_refl _) (fun j hj => by cases hj); clear ho hg hnn)
      go_meet
      refine ⟨_, rfl, ?_, HB3.out⟩
      have := HO3.out
      rw [Nat.zero_add, List.nil_append] at this
      exact this
  case rest =>
    obtain ⟨f1, rfl, O1, B3⟩ := hcut
    have O1a : Hid (World.ownsRow _ _ _ _ _ _ _) := O1.out.alloc (.cells #[.string MK] 9)
    have B3a : Hid (Below w.heap.size w (wc.alloc (.cells #[.string MK] 9))) := B3.out.alloc B3.out.size _
    unfold MK at O1a B3a
    go_upto_region 4 with (at_builtin; refine wpList_append_own _ rfl _ _ 22 rfl w.heap.size 9 i9 (.string ByteArray.empty) 1 16 Tryd.underlying22 HIN.out.1 HIN.out.2.1 HIN.out.2.2.1 HIN.out.2.2.2 rfl (by decide) _ n _ rfl O1a.out ⟨wc.heap.size, 0, none⟩ 1 1 [.string MK] rfl rfl (new_text _ _ _) (one_text _) (by unfold maxLen; omega) (by omega) B3a.out.size ?_; intro f' w4 ho hg hnn; have O2 : Hid (w4.ownsRow w.heap.size 9 1 f' (n + 1) (xs.map Value.string ++ [.string MK])) := ho; have B4 : Hid (Below w.heap.size w w4) := Below.grown B3a.out hg B3a.out.size (fun j hj => (O1.out.lt _ hj).1); clear ho hg hnn)
    obtain ⟨g, cp, rfl⟩ : ∃ g cp, f' = .slice (some ⟨g, 0, none⟩) (n + 1) cp := by
      rcases O2.out.2 with ⟨_, h⟩ | ⟨g, cp, cur, h, _⟩
      · omega
      · exact ⟨g, cp, h⟩
    have hcp : n + 1 ≤ cp := by
      rcases O2.out.2 with ⟨e, _⟩ | ⟨g', cap', cur, e, _, _, hc, _⟩
      · cases e
      · injection e with _ _ e3; omega
    have hcp1 : (n : Int) ≤ cp := by omega
    clear O1 O1a B3 B3a
    go_wp2
    go_ret
    exact ⟨⟨g, cp, rfl, O2.out⟩, B4.out⟩
theorem twin_reads {w : World} {B g n cp : Nat} {xs : List ByteArray} (h : TwinR w B g n cp xs) (hn : xs.length = n) : ReadsT w (.slice (some ⟨g, 0, none⟩) n cp) xs := own_first h hn
theorem twin_later {w w' : World} {B g n cp : Nat} {xs : List ByteArray} (h : TwinR w B g n cp xs) (hb : Below w.heap.size w w') : TwinR w' B g n cp xs := own_later h hb
set_option maxHeartbeats 1600000 in
theorem kept (B g cp : Nat) (v : Value) (xs : List ByteArray) (w : World) (hT : TwinR w B g xs.length cp xs) (hR : ReadsT w v xs) (hz : xs.length * 16 ≤ 140737488351232) :
    Calls Tryd.prog 9 #[.slice (some ⟨g, 0, none⟩) xs.length cp, v] w fun e w' => e = .returned (.bool true) ∧ Below w.heap.size w w' := by
  have C : Hid (Calls _ _ _ _ _) := same_yes (.slice (some ⟨g, 0, none⟩) xs.length cp) v xs w (twin_reads hT rfl) hR (by omega)
  have c0 := own_behind hT rfl
  have hcp : xs.length + 1 ≤ cp := by
    rcases hT.2 with ⟨e, _⟩ | ⟨g', cap', cur, e, _, _, hc, _⟩
    · cases e
    · injection e with _ _ e3; omega
  obtain ⟨a, cap, rfl, hcap, hh⟩ := hR
  obtain ⟨n, HN⟩ : ∃ n, Hid (xs.length = n) := ⟨_, rfl⟩
  rw [HN.out] at C c0 hcp hz ⊢
  have hcp1 : (n : Int) + 1 ≤ cp := by omega
  have qm : ((⟨#[109, 97, 114, 107]⟩ : ByteArray).toList == (⟨#[109, 97, 114, 107]⟩ : ByteArray).toList) = true := beq_self_eq_true _
  unfold MK at c0
  clear hT hh hcap
  go_enter Tryd.func9, Tryd.ntmps9
  go_wp2_with fail
  refine C.out.mono ?_
  rintro e w1 ⟨rfl, m, hw⟩
  have c1 : w1.cell? ⟨g, n, none⟩ = some (.string ⟨#[109, 97, 114, 107]⟩) := by rw [hw]; exact c0
  have B1 : Hid (Below w.heap.size w w1) := by rw [hw]; exact below_dN (Below.refl _ _) m
  clear hw c0 C
  go_wp2
  go_ret
  exact ⟨rfl, B1.out⟩
end Go.Proofs.YtkanjkofdfmhhabDoor.gs
