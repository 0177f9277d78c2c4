import Derived.Test.YtmmbkfagchaocaaDoorA2
import Derived.Deep.DeepCutAuto
import Derived.BigQuiet
import Derived.Test.YtmmbkfagchaocaaDoorB1
import Derived.Deep.RegionHeld3
import Derived.Handy
import Derived.Laws.BitsAllLaws
import Derived.Shelf.LaysM
import Derived.Shelf.Strconv.Itoa3
import Derived.Test.YtmmbkfagchaocaaDoorProg
import Derived.Test.YtmmbkfagchaocaaDoorA3
import Derived.Lib.AppendIntMem
import Derived.Laws.Strings2
import Derived.Lib.ItoaLen
import Derived.Deep.AppendLies
import Derived.Test.YtmmbkfagchaocaaDoorA1
import Derived.Lib.LaidTab
import Derived.ProofKit
import Derived.LaidMore
import Derived.OpenShut
import Derived.Stop.Joined
import Derived.Stop.LaidErr
namespace Go.Proofs.YtmmbkfagchaocaaDoor.bn
open Go.RowKit Go.PlainAid
open Go.Proofs.YtmmbkfagchaocaaDoor.pj Go.Proofs.YtmmbkfagchaocaaDoor.rf Go.Proofs.YtmmbkfagchaocaaDoor.ca Go.Proofs.YtmmbkfagchaocaaDoor.cb Go.Proofs.YtmmbkfagchaocaaDoor.cp Go.Proofs.YtmmbkfagchaocaaDoor.ka Go.Proofs.YtmmbkfagchaocaaDoor.kb Go.Proofs.YtmmbkfagchaocaaDoor.ga Go.Proofs.YtmmbkfagchaocaaDoor.gb
set_option linter.unusedVariables false

theorem getD_at (xs : List ByteArray) (k : Nat) (h : k < xs.length) : xs.getD k ByteArray.empty = xs[k] := by
  rw [List.getD_eq_getElem?_getD, List.getElem?_eq_getElem h]; rfl
theorem lists_eq {xs ys : List ByteArray} (hl : xs.length = ys.length) (h : ∀ j, j < xs.length → xs.getD j ByteArray.empty = ys.getD j ByteArray.empty) : xs = ys := by
  apply List.ext_getElem hl
  intro j h1 h2
  have := h j h1
  rwa [getD_at _ _ h1, getD_at _ _ h2] at this
theorem beqL (a b : ByteArray) : (a.toList == b.toList) = decide (a = b) := by
  by_cases h : a = b
  · subst h; simp
  · rw [decide_eq_false h, beq_eq_false_iff_ne, ByteArray.toList_eq, ByteArray.toList_eq]
    intro e
    exact h (ByteArray.ext (Array.ext' e))
theorem beqLit (a : ByteArray) (l : List UInt8) : (a.toList == l) = decide (a = ⟨l.toArray⟩) := by
  rw [← beqL, ByteArray.toList_eq, ByteArray.toList_eq]
-- two lists held against each other: nothing is written
set_option maxHeartbeats 1600000 in
theorem same (va vb : Value) (xs ys : List ByteArray) (w : World) (h1 : ReadsT w va xs) (h2 : ReadsT w vb ys) (hz : xs.length ≤ 140737488355328) :
    Calls Tryd.prog 22 #[va, vb] w fun e w' => e = .returned (.bool (decide (xs = ys))) ∧ ∃ m, w' = w.drewN m := by
  obtain ⟨a, cap, rfl, _, h1⟩ := h1
  obtain ⟨a', cap', rfl, _, h2⟩ := h2
  by_cases hl : xs.length = ys.length
  · have HC : Hid (xs.length = 0 ∨ ∃ b off, a = some ⟨b, off, none⟩ ∧ ∀ i, i < xs.length → w.cell? ⟨b, off + i, none⟩ = some (.string (xs.getD i ByteArray.empty))) := h1
    rw [← hl] at h2 ⊢
    have HC' : Hid (xs.length = 0 ∨ ∃ b off, a' = some ⟨b, off, none⟩ ∧ ∀ i, i < xs.length → w.cell? ⟨b, off + i, none⟩ = some (.string (ys.getD i ByteArray.empty))) := h2
    have HL : Hid (xs.length = ys.length) := hl
    obtain ⟨n, HN⟩ : ∃ n, Hid (xs.length = n) := ⟨_, rfl⟩
    obtain ⟨r, HR⟩ : ∃ r, Hid (decide (xs = ys) = r) := ⟨_, rfl⟩
    rw [HR.out]
    rw [HN.out] at HC HC' hz ⊢
    clear h1 h2 hl
    have hl' : ((n : Int) == (n : Int)) = true := beq_self_eq_true _
    go_enter Tryd.func22, Tryd.ntmps22
    go_wp2
    go_loopw [5] (fun i wr => ∃ k m : Nat, k ≤ n ∧ i = .int .i64 k ∧ Hid (∀ j, j < k → xs.getD j ByteArray.empty = ys.getD j ByteArray.empty) ∧ wr = w.drewN m) (fun i _ => (n - intOf i).toNat)
    case atStart => exact ⟨0, 0, by omega, rfl, fun j h => by omega, rfl⟩
    case round =>
      obtain ⟨k, m, hk, rfl, HS, rfl⟩ := hrel
      by_cases hlt : k < n
      · have hlt' : (k : Int) < n := by omega
        obtain ⟨b, off, rfl, hc⟩ : ∃ b off, a = some ⟨b, off, none⟩ ∧ ∀ i, i < n → w.cell? ⟨b, off + i, none⟩ = some (.string (xs.getD i ByteArray.empty)) := by
          rcases HC.out with h | h
          · omega
          · exact h
        obtain ⟨b', off', rfl, hc'⟩ : ∃ b off, a' = some ⟨b, off, none⟩ ∧ ∀ i, i < n → w.cell? ⟨b, off + i, none⟩ = some (.string (ys.getD i ByteArray.empty)) := by
          rcases HC'.out with h | h
          · omega
          · exact h
        obtain ⟨X, HX⟩ : ∃ X, Hid (xs.getD k ByteArray.empty = X) := ⟨_, rfl⟩
        obtain ⟨Y, HY⟩ : ∃ X, Hid (ys.getD k ByteArray.empty = X) := ⟨_, rfl⟩
        have c1 := hc k hlt
        have c2 := hc' k hlt
        rw [HX.out] at c1
        rw [HY.out] at c2
        clear hc hc'
        by_cases hxy : X = Y
        · have hb : (X.toList == Y.toList) = true := by rw [beqL]; exact decide_eq_true hxy
          have HS1 : Hid (∀ j, j < k + 1 → xs.getD j ByteArray.empty = ys.getD j ByteArray.empty) := fun j hj => by
            rcases Nat.lt_or_ge j k with h | h
            · exact HS.out j h
            · obtain rfl : j = k := by omega
              rw [HX.out, HY.out, hxy]
          clear hxy
          go_wp2_with fail
          go_quiet (fail)
          go_wp2
          go_roundw
          case rel => exact ⟨k + 1, _, by omega, by go_num, HS1.out, rfl⟩
          case measure => simp [intOf]; omega
        · have hb : (X.toList == Y.toList) = false := by rw [beqL]; exact decide_eq_false hxy
          have HE : Hid (r = false) := by
            show _ = _
            rw [← HR.out]
            apply decide_eq_false
            intro e
            apply hxy
            rw [← HX.out, ← HY.out, e]
          clear hxy
          go_wp2_with fail
          go_quiet (fail)
          go_wp2
          go_ret
          exact ⟨by rw [HE.out]; rfl, m + nq, by rw [World.drewN_drewN]⟩
      · have hlt' : ¬ (k : Int) < n := by omega
        have HE : Hid (r = true) := by
          show _ = _
          rw [← HR.out]
          apply decide_eq_true
          exact lists_eq HL.out (fun j hj => HS.out j (by rw [HN.out] at hj; omega))
        go_wp2
        go_ret
        exact ⟨by rw [HE.out]; rfl, _, rfl⟩
  · rw [decide_eq_false (fun e => hl (by rw [e]))]
    have hb : ((xs.length : Int) == (ys.length : Int)) = false := by rw [beq_eq_false_iff_ne]; omega
    clear hl h1 h2
    go_enter Tryd.func22, Tryd.ntmps22
    go_wp2
    go_ret
    exact ⟨rfl, 0, rfl⟩
-- a list held against itself
theorem same_yes (va vb : Value) (xs : List ByteArray) (w : World) (h1 : ReadsT w va xs) (h2 : ReadsT w vb xs) (hz : xs.length ≤ 140737488355328) :
    Calls Tryd.prog 22 #[va, vb] w fun e w' => e = .returned (.bool true) ∧ ∃ m, w' = w.drewN m := by
  have := same va vb xs xs w h1 h2 hz
  rwa [decide_eq_true rfl] at this
def MK : ByteArray := ⟨#[109, 97, 114, 107]⟩
-- the same texts with a mark behind them
def TwinR (w : World) (B g n cp : Nat) (xs : List ByteArray) : Prop := w.ownsRow B 9 1 (.slice (some ⟨g, 0, none⟩) (n + 1) cp) (n + 1) (xs.map Value.string ++ [.string MK])
theorem num (x : Int) (w : World) : Calls Tryd.prog 21 #[.int .i64 x] w fun e w' => e = .returned (.int .i64 x) ∧ w' = w := by
  go_enter Tryd.func21, Tryd.ntmps21
  go_wp2
  go_ret
  exact ⟨rfl, rfl⟩
end Go.Proofs.YtmmbkfagchaocaaDoor.bn

namespace Go.Proofs.YtmmbkfagchaocaaDoor.cc
open Go.RowKit Go.PlainAid
open Go.Proofs.YtmmbkfagchaocaaDoor.ca Go.Proofs.YtmmbkfagchaocaaDoor.cb Go.Proofs.YtmmbkfagchaocaaDoor.cp Go.Proofs.YtmmbkfagchaocaaDoor.cs
set_option linter.unusedVariables false

theorem rgreatest (p hi : Nat) (h : p < hi) (hb : hi ≤ 2 ^ 62) (w : World) :
    Calls Tryd.prog 67 #[.int .i64 p, .int .i64 hi] w fun e w' => e = .returned (.int .i64 (lv p (hi - p) : Nat)) ∧ w' = w := by
  rw [p62] at hb
  have HLV : Hid (Lv p (hi - p) (lv p (hi - p))) := lv_lv p (hi - p) (by omega)
  obtain ⟨R, HR⟩ : ∃ R, Hid (lv p (hi - p) = R) := ⟨_, rfl⟩
  rw [HR.out] at HLV ⊢
  clear HR
  go_enter Tryd.func67, Tryd.ntmps67
  go_wp2
  go_loopw [5] (fun i wr => ∃ k : Nat, i = .int .i64 k ∧ Hid (k ≤ 62 ∧ 2 ^ k ∣ p ∧ 2 ^ k ≤ hi - p) ∧ wr = w) (fun i _ => (62 - intOf i).toNat)
  case atStart => exact ⟨0, rfl, ⟨by omega, Nat.one_dvd _, by show 1 ≤ _; omega⟩, rfl⟩
  case round =>
    obtain ⟨k, rfl, HK, rfl⟩ := hrel
    have hk := HK.out.1
    by_cases h62 : k < 62
    · have h62' : (k : Int) < 62 := by omega
      obtain ⟨t, HT⟩ : ∃ t : Nat, Hid (2 ^ k = t) := ⟨_, rfl⟩
      have hT : (2 : Int) ^ k = (t : Int) := by rw [cast_pow, HT.out]
      have htb : t ≤ 2305843009213693952 := by
        rw [← HT.out]
        exact Nat.le_trans (p2le (show k ≤ 61 by omega)) (by decide)
      have ht0 : 0 < t := by rw [← HT.out]; exact p2 k
      have HS : Hid (2 ^ (k + 1) = 2 * t) := by show _ = _; rw [p2s, HT.out]
      by_cases hd : 2 * t ∣ p
      · have hd' : ((p : Int) % (2 * (t : Int)) == 0) = true := by
          rw [beq_iff_eq]
          exact Int.emod_eq_zero_of_dvd (by exact_mod_cast Int.natCast_dvd_natCast.2 hd)
        by_cases hle : 2 * t ≤ hi - p
        · have hle' : 2 * (t : Int) ≤ (hi : Int) - p := by omega
          have HK2 : Hid (k + 1 ≤ 62 ∧ 2 ^ (k + 1) ∣ p ∧ 2 ^ (k + 1) ≤ hi - p) := by
            rw [HS.out]
            exact ⟨by omega, hd, hle⟩
          clear hd
          go_wp2
          go_roundw
          case rel => exact ⟨k + 1, by go_num, HK2.out, by first | rfl | trivial⟩
          case measure => simp [intOf]; omega
        · have hle' : ¬ 2 * (t : Int) ≤ (hi : Int) - p := by omega
          have HE : Hid (k = R) := Lv.unique ⟨HK.out.1, HK.out.2.1, HK.out.2.2, .inr (.inr (by rw [HS.out]; omega))⟩ HLV.out
          clear hd
          go_wp2
          go_ret
          exact ⟨by rw [HE.out]; rfl, rfl⟩
      · have hd' : ((p : Int) % (2 * (t : Int)) == 0) = false := by
          rw [beq_eq_false_iff_ne]
          intro e
          exact hd (by
            have := Int.dvd_of_emod_eq_zero e
            exact Int.natCast_dvd_natCast.1 (by simpa using this))
        have HE : Hid (k = R) := Lv.unique ⟨HK.out.1, HK.out.2.1, HK.out.2.2, .inr (.inl (by rw [HS.out]; exact hd))⟩ HLV.out
        clear hd
        go_wp2
        go_ret
        exact ⟨by rw [HE.out]; rfl, rfl⟩
    · have h62' : ¬ (k : Int) < 62 := by omega
      have HE : Hid (k = R) := Lv.unique ⟨HK.out.1, HK.out.2.1, HK.out.2.2, .inl (by omega)⟩ HLV.out
      go_wp2
      go_ret
      exact ⟨by rw [HE.out]; rfl, rfl⟩
end Go.Proofs.YtmmbkfagchaocaaDoor.cc

namespace Go.Proofs.YtmmbkfagchaocaaDoor.cd
open Go.RowKit Go.PlainAid
open Go.Proofs.YtmmbkfagchaocaaDoor.ca Go.Proofs.YtmmbkfagchaocaaDoor.cb Go.Proofs.YtmmbkfagchaocaaDoor.cp Go.Proofs.YtmmbkfagchaocaaDoor.cs Go.Proofs.YtmmbkfagchaocaaDoor.cc
set_option linter.unusedVariables false

set_option maxHeartbeats 1600000 in
theorem rCover (lo hi : Int) (h0 : -9223372036854775808 ≤ lo) (h1 : lo ≤ 9223372036854775807) (h2 : -9223372036854775808 ≤ hi) (h3 : hi ≤ 9223372036854775807) (w : World) :
    Calls Tryd.prog 53 #[.int .i64 lo, .int .i64 hi] w fun e w' => Rowed w w' e lo hi ∧ Below w.heap.size w w' := by
  by_cases hok : okR lo hi
  · obtain ⟨p0, rfl⟩ : ∃ p : Nat, lo = p := ⟨lo.toNat, by have := hok.1; omega⟩
    obtain ⟨n, rfl⟩ : ∃ n : Nat, hi = n := ⟨hi.toNat, by have := hok.1; have := hok.2.1; omega⟩
    have hn : n ≤ 4611686018427387904 := by have := hok.2.2; omega
    have hpn : p0 ≤ n := by have := hok.2.1; omega
    have HI : Hid (covI p0 n = cov p0 n) := by show _ = _; unfold covI; rw [if_pos hok]; rfl
    have HE : Hid (covE p0 n = 0) := by show _ = _; unfold covE; rw [if_pos hok]
    have HLN : Hid ((cov p0 n).length ≤ 122) := by have := covI_len p0 n; rw [HI.out] at this; exact this
    obtain ⟨iA, hi, hz0, hz1, hz2⟩ := info_parts hiA
    have HIN : Hid (_ ∧ _ ∧ _ ∧ _) := ⟨hi, hz0, hz1, hz2⟩
    have G : Hid (∀ (p : Nat) (w : World), p < n → Calls Tryd.prog 67 #[.int .i64 p, .int .i64 n] w fun e w' => e = .returned (.int .i64 (lv p (n - p) : Nat)) ∧ w' = w) := fun p w hp => rgreatest p n hp (by rw [p62]; exact hn) w
    have t1 : ¬ (p0 : Int) < 0 := by omega
    have t2 : ¬ (n : Int) < p0 := by omega
    have t3 : ¬ (n : Int) > 4611686018427387904 := by omega
    clear hi hz0 hz1 hz2 hok
    go_enter Tryd.func53, Tryd.ntmps53
    go_wp2
    go_loopw [6, 7] (fun o i wr => ∃ (q : Nat) (done : List (Nat × Nat)), q ≤ n ∧ i = .int .i64 q ∧ Hid (done ++ cov q n = cov p0 n ∧ wr.ownsRow w.heap.size 36 2 o done.length (cls done) ∧ Below w.heap.size w wr)) (fun _ i _ => (n - intOf i).toNat)
    case atStart => exact ⟨p0, [], hpn, rfl, rfl, World.ownsRow_nil _ _ _ _, Below.refl _ _⟩
    case round =>
      obtain ⟨q, done, hq, rfl, HL⟩ := hrel
      by_cases hlt : q < n
      · have hlt' : (q : Int) < n := by omega
        have HLV := lv_lv q (n - q) (by omega)
        obtain ⟨k, HK⟩ : ∃ k, Hid (lv q (n - q) = k) := ⟨_, rfl⟩
        rw [HK.out] at HLV
        have hk := HLV.1
        obtain ⟨t, HT⟩ : ∃ t : Nat, Hid (2 ^ k = t) := ⟨_, rfl⟩
        have hT : (2 : Int) ^ k = (t : Int) := by rw [cast_pow, HT.out]
        have htn : q + t ≤ n := by have := HLV.2.2.1; rw [HT.out] at this; omega
        have ht0 : 0 < t := by rw [← HT.out]; exact p2 k
        have HC : Hid (cov q n = (k, q / t) :: cov (q + t) n) := by
          show _ = _
          rw [cov_at hlt HLV, HT.out]
        have hdl : done.length ≤ 121 := by
          have := HLN.out
          rw [← HL.out.1, HC.out, List.length_append, List.length_cons] at this
          omega
        have HDS : Hid (done ++ [(k, q / t)] ++ cov (q + t) n = cov p0 n) := by
          show _ = _
          rw [← HL.out.1, HC.out, List.append_assoc]
          rfl
        obtain ⟨m, HM⟩ : ∃ m, Hid (done.length = m) := ⟨_, rfl⟩
        rw [HM.out] at hdl
        have hdv : ((q : Int) / (t : Int)) = ((q / t : Nat) : Int) := (Int.natCast_ediv q t).symm
        obtain ⟨d, HD⟩ : ∃ d, Hid (q / t = d) := ⟨_, rfl⟩
        rw [HD.out] at hdv HDS
        have HO : Hid ((wr.alloc (.cells #[.int .i64 (k : Nat), .int .i64 (d : Nat)] 36)).ownsRow w.heap.size 36 2 u6 m (cls done)) := by
          have := HL.out.2.1.alloc (.cells #[.int .i64 (k : Nat), .int .i64 (d : Nat)] 36)
          rw [HM.out] at this
          exact this
        have HB : Hid (Below w.heap.size w (wr.alloc (.cells #[.int .i64 (k : Nat), .int .i64 (d : Nat)] 36))) := HL.out.2.2.alloc HL.out.2.2.size _
        clear HLV
        go_wp2_with fail
        refine (G.out q _ hlt).mono ?_
        rintro e w1 ⟨rfl, hw1⟩
        subst hw1
        rw [HK.out]
        go_wp2_with (at_builtin; refine wpList_append_own _ rfl _ _ 63 rfl w.heap.size 36 iA (.agg #[.int .i64 0, .int .i64 0]) 2 16 Tryd.underlying63 HIN.out.1 HIN.out.2.1 HIN.out.2.2.1 HIN.out.2.2.2 rfl (by decide) _ m _ rfl HO.out ⟨w1.heap.size, 0, none⟩ 1 1 [.int .i64 (k : Nat), .int .i64 (d : Nat)] rfl rfl (two_cells _ _ _ _) (fun u hu => by simp at hu; rcases hu with rfl | rfl <;> rfl) (by unfold maxLen; omega) (by omega) HB.out.size ?_; intro v' w3 hown' hgrow3 hnil3; have HO3 : Hid (World.ownsRow _ _ _ _ _ _ _) := hown'; have HB3 : Hid (Below w.heap.size w w3) := Below.grown HB.out hgrow3 HB.out.size (fun j hj => (HO.out.lt _ hj).1); clear hown' hgrow3 hnil3)
        go_roundw
        case rel =>
          refine ⟨q + t, done ++ [(k, d)], htn, by go_num, HDS.out, ?_, HB3.out⟩
          rw [List.length_append, HM.out, cls_app]
          exact HO3.out
        case measure => simp [intOf]; omega
      · have hlt' : ¬ (q : Int) < n := by omega
        have HD : Hid (done = cov p0 n) := by
          have := HL.out.1
          rw [cov_end hlt, List.append_nil] at this
          exact this
        go_wp2
        go_ret2
        refine ⟨⟨u6, by rw [HE.out]; rfl, ?_⟩, HL.out.2.2⟩
        rw [HI.out, ← HD.out]
        exact HL.out.2.1
  · have HI : Hid (covI lo hi = []) := by show _ = _; unfold covI; rw [if_neg hok]
    have HE : Hid (covE lo hi = 10) := by show _ = _; unfold covE; rw [if_neg hok]
    have fin : ∀ e w', e = .returned (.tuple #[.slice none 0 0, .int .i64 10]) ∧ w' = w → Rowed w w' e lo hi ∧ Below w.heap.size w w' := by
      rintro e w' ⟨rfl, rfl⟩
      refine ⟨⟨_, by rw [HE.out], ?_⟩, Below.refl _ _⟩
      rw [HI.out]
      exact World.ownsRow_nil _ _ _ _
    refine Calls.mono ?_ fin
    unfold okR at hok
    by_cases a1 : lo < 0
    · go_enter Tryd.func53, Tryd.ntmps53
      go_wp2
      go_ret2
      exact ⟨rfl, rfl⟩
    · by_cases a2 : hi < lo
      · go_enter Tryd.func53, Tryd.ntmps53
        go_wp2
        go_ret2
        exact ⟨rfl, rfl⟩
      · have a3 : hi > 4611686018427387904 := by omega
        clear hok fin
        go_enter Tryd.func53, Tryd.ntmps53
        go_wp2
        go_ret2
        exact ⟨rfl, rfl⟩
end Go.Proofs.YtmmbkfagchaocaaDoor.cd

namespace Go.Proofs.YtmmbkfagchaocaaDoor.kd
open Go.RowKit Go.PlainAid
open Go.Proofs.YtmmbkfagchaocaaDoor.ca Go.Proofs.YtmmbkfagchaocaaDoor.cp
set_option linter.unusedVariables false

set_option maxHeartbeats 800000 in
theorem rValid (L I : Int) (w : World) :
    Calls Tryd.prog 103 #[.agg #[.int .i64 L, .int .i64 I]] w fun e w' => e = .returned (.bool (decide (okA L I))) ∧ Below w.heap.size w w' := by
  obtain ⟨r, HR⟩ : ∃ r, Hid (decide (okA L I) = r) := ⟨_, rfl⟩
  rw [HR.out]
  have B0 : Hid (Below w.heap.size w (w.alloc (.cells #[.int .i64 L, .int .i64 I] 36))) := (Below.refl _ _).alloc (Nat.le_refl _) _
  have HF : ¬ okA L I → Hid (r = false) := fun h => by show _ = _; rw [← HR.out]; exact decide_eq_false h
  by_cases a1 : L < 0
  · have HV : Hid (r = false) := HF (fun h => by have := h.1; omega)
    clear HF
    go_enter Tryd.func103, Tryd.ntmps103
    go_wp2
    go_ret
    exact ⟨by rw [HV.out]; rfl, B0.out⟩
  · by_cases a2 : L > 62
    · have HV : Hid (r = false) := HF (fun h => by have := h.2.1; omega)
      clear HF
      go_enter Tryd.func103, Tryd.ntmps103
      go_wp2
      go_ret
      exact ⟨by rw [HV.out]; rfl, B0.out⟩
    · by_cases a3 : I < 0
      · have HV : Hid (r = false) := HF (fun h => by have := h.2.2.1; omega)
        clear HF
        go_enter Tryd.func103, Tryd.ntmps103
        go_wp2
        go_ret
        exact ⟨by rw [HV.out]; rfl, B0.out⟩
      · obtain ⟨k, rfl⟩ : ∃ k : Nat, L = k := ⟨L.toNat, by omega⟩
        have hk : k ≤ 62 := by omega
        obtain ⟨t, HT⟩ : ∃ t : Nat, Hid (2 ^ k = t) := ⟨_, rfl⟩
        have hT : (2 : Int) ^ k = (t : Int) := by rw [cast_pow, HT.out]
        have HV : Hid (r = decide (I < 4611686018427387904 / (t : Int))) := by
          show _ = _
          rw [← HR.out]
          refine decide_eq_decide.2 ?_
          unfold okA
          rw [Int.toNat_natCast, hT]
          omega
        clear HF
        go_enter Tryd.func103, Tryd.ntmps103
        go_wp2
        go_ret
        exact ⟨by rw [HV.out]; rfl, B0.out⟩
set_option maxHeartbeats 800000 in
theorem rSpan (L I : Int) (w : World) :
    Calls Tryd.prog 94 #[.agg #[.int .i64 L, .int .i64 I]] w fun e w' => e = .returned (spV L I) ∧ Below w.heap.size w w' := by
  have V1 : Hid (∀ w, Calls _ _ _ _ _) := fun w => rValid L I w
  by_cases hok : okA L I
  · obtain ⟨k, i, rfl, rfl, hk, hf⟩ := okA_form hok
    rw [decide_eq_true hok] at V1
    rw [spV_nat hok]
    have HX : Hid (Bx (w.alloc (.cells #[.int .i64 (k : Int), .int .i64 (i : Int)] 36)) w.heap.size k i) := bx_new _ _ _
    obtain ⟨f, HF⟩ : ∃ f, Hid (i * 2 ^ k = f) := ⟨_, rfl⟩
    obtain ⟨g, HG⟩ : ∃ g, Hid ((i + 1) * 2 ^ k = g) := ⟨_, rfl⟩
    rw [HF.out, HG.out]
    rw [HG.out] at hf
    clear hok
    go_enter Tryd.func94, Tryd.ntmps94
    go_wp2_with fail
    refine (V1.out _).mono ?_
    rintro e w1 ⟨rfl, hb⟩
    have B1 : Hid (Below w.heap.size w w1) := over ((Below.refl _ _).alloc (Nat.le_refl _) _) hb
    obtain ⟨c1, c2⟩ := HX.out.later hb
    have him : i ≤ 4611686018427387904 := by
      have := Nat.le_mul_of_pos_right (i + 1) (p2 k)
      rw [HG.out] at this
      omega
    have hfg : f ≤ g := by rw [← HF.out, ← HG.out]; exact Nat.mul_le_mul_right _ (by omega)
    have hw2 : IntKind.u64.wrap (k : Int) = k := u64_is k (by omega)
    have hw3 : min (k : Int).toNat 64 = k := by omega
    have hw4 : min k 64 = k := by omega
    have hw5 : IntKind.i64.wrap ((i : Int) * 2 ^ k) = f := by rw [cast_pow, ← Int.natCast_mul, HF.out]; exact wrap_is f (by omega)
    have hw6 : IntKind.i64.wrap ((i : Int) + 1) = (i : Int) + 1 := by rw [IntKind.wrap_i64]; omega
    have hw7 : IntKind.i64.wrap (((i : Int) + 1) * 2 ^ k) = g := by rw [cast_pow, show (i : Int) + 1 = ((i + 1 : Nat) : Int) by omega, ← Int.natCast_mul, HG.out]; exact wrap_is g (by omega)
    clear hb
    go_wp2_with fail
    go_quiet (fail)
    go_wp2
    go_returns
    exact ⟨rfl, below_dN B1.out _⟩
  · rw [decide_eq_false hok] at V1
    rw [show spV L I = .tuple #[.int .i64 0, .int .i64 0, .int .i64 50] by unfold spV; rw [if_neg hok]]
    clear hok
    go_enter Tryd.func94, Tryd.ntmps94
    go_wp2_with fail
    refine (V1.out _).mono ?_
    rintro e w1 ⟨rfl, hb⟩
    have B1 : Hid (Below w.heap.size w w1) := over ((Below.refl _ _).alloc (Nat.le_refl _) _) hb
    clear hb
    go_wp2
    go_returns
    exact ⟨rfl, B1.out⟩
end Go.Proofs.YtmmbkfagchaocaaDoor.kd

namespace Go.Proofs.YtmmbkfagchaocaaDoor.ke
open Go.RowKit Go.PlainAid
open Go.Proofs.YtmmbkfagchaocaaDoor.pl Go.Proofs.YtmmbkfagchaocaaDoor.pi Go.Proofs.YtmmbkfagchaocaaDoor.pj Go.Proofs.YtmmbkfagchaocaaDoor.rf
open Go.Proofs.YtmmbkfagchaocaaDoor.ca Go.Proofs.YtmmbkfagchaocaaDoor.cb Go.Proofs.YtmmbkfagchaocaaDoor.cp Go.Proofs.YtmmbkfagchaocaaDoor.ka Go.Proofs.YtmmbkfagchaocaaDoor.kb
set_option linter.unusedVariables false

-- the document's Fold
theorem foldP_snoc {α : Type} (E : α) (N : α → α → α) (xs : List α) (k : Nat) (hk : k + 1 < xs.length) : foldP E N (xs.drop k) = N (xs[k]'(by omega)) (foldP E N (xs.drop (k + 1))) := by
  rw [List.drop_eq_getElem_cons (show k < xs.length by omega), List.drop_eq_getElem_cons hk]
  rfl
theorem foldP_last {α : Type} (E : α) (N : α → α → α) (xs : List α) (k : Nat) (hk : k + 1 = xs.length) : foldP E N (xs.drop k) = xs[k]'(by omega) := by
  rw [List.drop_eq_getElem_cons (show k < xs.length by omega), List.drop_of_length_le (by omega)]
  rfl
end Go.Proofs.YtmmbkfagchaocaaDoor.ke

namespace Go.Proofs.YtmmbkfagchaocaaDoor.si
open Go.Shelf
set_option linter.unusedVariables false
def laysM171_ren : Go.Shelf.Ren := ⟨fun | 171 => 95 | 243 => 104 | 246 => 110 | 283 => 116 | 284 => 117 | 285 => 118 | 286 => 119 | 129 => 86 | 317 => 127 | 318 => 128 | 319 => 129 | 320 => 130 | 337 => 133 | 338 => 85 | n => n, fun | 3 => 3 | 9 => 9 | 2 => 2 | 4 => 4 | 171 => 167 | 0 => 0 | 53 => 136 | 37 => 60 | 5 => 5 | 173 => 169 | 212 => 181 | 51 => 141 | 20 => 20 | 213 => 182 | 46 => 114 | 232 => 189 | 233 => 147 | n => n, fun | 17 => 4 | 18 => 7 | 19 => 1 | n => n⟩
theorem laysM171 : Go.Proofs.LaysM.n171 Tryd.prog laysM171_ren := {
  mixed := by kernel_rfl
  f129 := Tryd.func86.trans (congrArg some (by kernel_rfl))
  f171 := Tryd.func95.trans (congrArg some (by kernel_rfl))
  f243 := Tryd.func104.trans (congrArg some (by kernel_rfl))
  f246 := Tryd.func110.trans (congrArg some (by kernel_rfl))
  f283 := Tryd.func116.trans (congrArg some (by kernel_rfl))
  f284 := Tryd.func117.trans (congrArg some (by kernel_rfl))
  f285 := Tryd.func118.trans (congrArg some (by kernel_rfl))
  f286 := Tryd.func119.trans (congrArg some (by kernel_rfl))
  f317 := Tryd.func127.trans (congrArg some (by kernel_rfl))
  f318 := Tryd.func128.trans (congrArg some (by kernel_rfl))
  f319 := Tryd.func129.trans (congrArg some (by kernel_rfl))
  f320 := Tryd.func130.trans (congrArg some (by kernel_rfl))
  f337 := Tryd.func133.trans (congrArg some (by kernel_rfl))
  f338 := Tryd.func85.trans (congrArg some (by kernel_rfl))
  t0 := Tryd.underlying0
  a0 := Tryd.isAgg0
  z0 := Tryd.sizeOf0
  v0 := Tryd.zeroValue0
  t2 := Tryd.underlying2
  a2 := Tryd.isAgg2
  z2 := Tryd.sizeOf2
  v2 := Tryd.zeroValue2
  t3 := Tryd.underlying3
  a3 := Tryd.isAgg3
  z3 := Tryd.sizeOf3
  v3 := Tryd.zeroValue3
  t4 := Tryd.underlying4
  a4 := Tryd.isAgg4
  z4 := Tryd.sizeOf4
  v4 := Tryd.zeroValue4
  t5 := Tryd.underlying5
  a5 := Tryd.isAgg5
  z5 := Tryd.sizeOf5
  v5 := Tryd.zeroValue5
  t9 := Tryd.underlying9
  a9 := Tryd.isAgg9
  z9 := Tryd.sizeOf9
  v9 := Tryd.zeroValue9
  t20 := Tryd.underlying20
  a20 := Tryd.isAgg20
  z20 := Tryd.sizeOf20
  v20 := Tryd.zeroValue20
  t37 := Tryd.underlying60
  a37 := Tryd.isAgg60
  z37 := Tryd.sizeOf60
  v37 := Tryd.zeroValue60
  t46 := Tryd.underlying114
  a46 := Tryd.isAgg114
  z46 := Tryd.sizeOf114
  v46 := Tryd.zeroValue114
  t51 := Tryd.underlying141
  a51 := Tryd.isAgg141
  z51 := Tryd.sizeOf141
  v51 := Tryd.zeroValue141
  t53 := Tryd.underlying136
  a53 := Tryd.isAgg136
  z53 := Tryd.sizeOf136
  v53 := Tryd.zeroValue136
  t171 := Tryd.underlying167
  a171 := Tryd.isAgg167
  z171 := Tryd.sizeOf167
  v171 := Tryd.zeroValue167
  t173 := Tryd.underlying169
  a173 := Tryd.isAgg169
  z173 := Tryd.sizeOf169
  v173 := Tryd.zeroValue169
  t212 := Tryd.underlying181
  a212 := Tryd.isAgg181
  z212 := Tryd.sizeOf181
  v212 := Tryd.zeroValue181
  t213 := Tryd.underlying182
  a213 := Tryd.isAgg182
  z213 := Tryd.sizeOf182
  t232 := Tryd.underlying189
  a232 := Tryd.isAgg189
  z232 := Tryd.sizeOf189
  v232 := Tryd.zeroValue189
  t233 := Tryd.underlying147
  a233 := Tryd.isAgg147
  z233 := Tryd.sizeOf147
  v233 := Tryd.zeroValue147
  g17 := by kernel_rfl
  g18 := by kernel_rfl
  g19 := by kernel_rfl
  i0 := by kernel_rfl
  i2 := by kernel_rfl
  i3 := by kernel_rfl
  i4 := by kernel_rfl
  i5 := by kernel_rfl
  i9 := by kernel_rfl
  i20 := by kernel_rfl
  i37 := by kernel_rfl
  i46 := by kernel_rfl
  i51 := by kernel_rfl
  i53 := by kernel_rfl
  i171 := by kernel_rfl
  i173 := by kernel_rfl
  i212 := by kernel_rfl
  i232 := by kernel_rfl
  i233 := by kernel_rfl
  m17 := by kernel_rfl
  m18 := by kernel_rfl
  m19 := by kernel_rfl }
end Go.Proofs.YtmmbkfagchaocaaDoor.si

namespace Go.Proofs.YtmmbkfagchaocaaDoor.sa
open Go.RowKit Go.PlainAid Go.Shelf
open Go.Proofs.YtmmbkfagchaocaaDoor.pl Go.Proofs.YtmmbkfagchaocaaDoor.pi Go.Proofs.YtmmbkfagchaocaaDoor.rf Go.Proofs.YtmmbkfagchaocaaDoor.pj Go.Proofs.YtmmbkfagchaocaaDoor.ca Go.Proofs.YtmmbkfagchaocaaDoor.cb Go.Proofs.YtmmbkfagchaocaaDoor.cp Go.Proofs.YtmmbkfagchaocaaDoor.cs Go.Proofs.YtmmbkfagchaocaaDoor.ka Go.Proofs.YtmmbkfagchaocaaDoor.kb Go.Proofs.YtmmbkfagchaocaaDoor.kd Go.Proofs.YtmmbkfagchaocaaDoor.ga Go.Proofs.YtmmbkfagchaocaaDoor.aa Go.Proofs.YtmmbkfagchaocaaDoor.ab Go.Proofs.YtmmbkfagchaocaaDoor.tb Go.Proofs.YtmmbkfagchaocaaDoor.ac Go.Proofs.YtmmbkfagchaocaaDoor.bc Go.Proofs.YtmmbkfagchaocaaDoor.si
set_option linter.unusedVariables false

-- what answers for nodes
structure Src where
  wd : Int
  sz : Int
  ls : List ByteArray
  made : Bool
  fails : Int
  code : Int
def itoaB (n : Int) : ByteArray := ⟨(Lib.itoa n).toArray⟩
def madeB (L I : Int) : ByteArray := ((⟨#[110, 111, 100, 101, 32]⟩ : ByteArray) ++ itoaB L) ++ (⟨#[32]⟩ : ByteArray) ++ itoaB I
def lookP (s : Src) (L I : Int) : ByteArray × Int :=
  if okA L I then (if (I + 1) * 2 ^ L.toNat ≤ s.sz then ((if s.made then cutS (madeB L I) s.wd else rootP (EF s.wd) (NF s.wd) ((s.ls.drop (I * 2 ^ L.toNat).toNat).take (2 ^ L.toNat))), 0) else (ByteArray.empty, 80)) else (ByteArray.empty, 50)
def nodeP (s : Src) (k : Nat) (L I : Int) : ByteArray × Int :=
  if (lookP s L I).2 ≠ 0 ∨ (k : Int) ≠ s.fails then lookP s L I else if s.code ≠ 0 then (ByteArray.empty, s.code) else if (lookP s L I).1 = ByteArray.empty then (⟨#[120]⟩, 0) else ((lookP s L I).1.extract 1 (lookP s L I).1.size, 0)
-- the tables and strconv's
structure T7 (w : World) : Prop where
  t : TB4 w
  p : Lib.TabIs Tryd.prog w "internal/strconv.uint64pow10" .u64 Lib.pow10Tab
theorem T7.down {w w' : World} (h : T7 w) (hb : Below w.heap.size w w') : T7 w' := ⟨h.t.down hb, Lib.TabBelow.here ((Lib.tabBelow_of_tabIs h.p).on hb)⟩
theorem below_grow (w : World) (k : Nat) (os : Array Obj) : Below w.heap.size w (Sort.grow (w.drewN k) os) :=
  ⟨rfl, rfl, rfl, by show w.heap.size ≤ (w.heap ++ os).size; rw [Array.size_append]; omega, fun i hi => by show (w.heap ++ os)[i]? = w.heap[i]?; rw [Array.getElem?_append_left hi]⟩
theorem itoa (n : Int) (h : i64 n) (w : World) (hT : T7 w) : Calls Tryd.prog 95 #[.int .i64 n] w fun e w' => e = .returned (.string (itoaB n)) ∧ Below w.heap.size w w' := by
  have := Any.strconv_Itoa laysM171 n h.1 h.2 w hT.p
  refine this.mono ?_
  rintro e w' ⟨rfl, k, os, rfl⟩
  exact ⟨rfl, below_grow w k os⟩
-- a source's block
def So (w : World) (sb : Nat) (s : Src) (lv av : Value) : Prop := w.heap[sb]? = some (.cells #[.int .i64 s.wd, .int .i64 s.sz, lv, .bool s.made, .int .i64 s.fails, .int .i64 s.code, av] 80 (0, 0))
theorem So.cells {w : World} {sb : Nat} {s : Src} {lv av : Value} (h : So w sb s lv av) : w.cell? ⟨sb, 0, none⟩ = some (.int .i64 s.wd) ∧ w.cell? ⟨sb, 1, none⟩ = some (.int .i64 s.sz) ∧ w.cell? ⟨sb, 2, none⟩ = some lv ∧ w.cell? ⟨sb, 3, none⟩ = some (.bool s.made) ∧ w.cell? ⟨sb, 4, none⟩ = some (.int .i64 s.fails) ∧ w.cell? ⟨sb, 5, none⟩ = some (.int .i64 s.code) ∧ w.cell? ⟨sb, 6, none⟩ = some av := by
  refine ⟨?_, ?_, ?_, ?_, ?_, ?_, ?_⟩ <;> (rw [cell_of_row _ _ _ _ _ _ h]; rfl)
theorem So.later {w w' : World} {sb : Nat} {s : Src} {lv av : Value} (h : So w sb s lv av) (hb : Below w.heap.size w w') : So w' sb s lv av := (hb.block _ (Array.getElem?_eq_some_iff.1 h).1).trans h
theorem So.lt {w : World} {sb : Nat} {s : Src} {lv av : Value} (h : So w sb s lv av) : sb < w.heap.size := (Array.getElem?_eq_some_iff.1 h).1
-- what it answers from, whatever was asked
structure Lq (w : World) (sb : Nat) (s : Src) (lv av : Value) : Prop where
  t : T7 w
  o : So w sb s lv av
  r : ReadsT w lv s.ls
  x : ∀ x ∈ s.ls, x.size ≤ 1048576
  n : s.made = false → s.sz = s.ls.length
  c : ∀ a n c, lv = .slice a n c → c ≤ 9223372036854775807
  k : s.ls.length ≤ 1048576
theorem Lq.later {w w' : World} {sb : Nat} {s : Src} {lv av : Value} (h : Lq w sb s lv av) (hb : Below w.heap.size w w') : Lq w' sb s lv av := ⟨h.t.down hb, h.o.later hb, h.r.later hb, h.x, h.n, h.c, h.k⟩
theorem root_size {wd : Int} {xs : List ByteArray} (hx : ∀ x ∈ xs, x.size ≤ 1048576) : (rootP (EF wd) (NF wd) xs).size ≤ 1048576 := by
  rcases Nat.lt_or_ge xs.length 2 with e | e
  · match xs, e, hx with
    | [], _, _ => rw [rootP_nil]; show (cutS _ _).size ≤ _; rw [cutS_size]; have := wid_le wd; omega
    | [x], _, hx => rw [rootP_one]; exact hx x (List.mem_cons_self ..)
  · rw [rootP_half _ _ e]; show (cutS _ _).size ≤ _; rw [cutS_size]; have := wid_le wd; omega
set_option maxHeartbeats 1600000 in
theorem rooted (s : Src) (sb : Nat) (lv av : Value) (j : Nat) : ∀ (lo : Nat) (w : World), j ≤ 62 → lo + 2 ^ j ≤ s.ls.length → Lq w sb s lv av →
    Calls Tryd.prog 96 #[.pointer (some ⟨sb, 0, none⟩), .int .i64 lo, .int .i64 ((lo + 2 ^ j : Nat) : Int)] w fun e w' => e = .returned (.string (rootP (EF s.wd) (NF s.wd) ((s.ls.drop lo).take (2 ^ j)))) ∧ Below w.heap.size w w' := by
  induction j with
  | zero =>
    intro lo w _ hl hL
    obtain ⟨k0, k1, k2, k3, k4, k5, k6⟩ := hL.o.cells
    rw [Nat.pow_zero] at hl ⊢
    have hlt : lo < s.ls.length := by omega
    obtain ⟨av', cap, rfl, hcap, hh⟩ := hL.r
    obtain ⟨b, off, rfl, hc⟩ : ∃ b off, av' = some ⟨b, off, none⟩ ∧ ∀ i, i < s.ls.length → w.cell? ⟨b, off + i, none⟩ = some (.string (s.ls.getD i ByteArray.empty)) := by
      rcases hh with h | h
      · omega
      · exact h
    have c0 := hc lo hlt
    obtain ⟨x, HX⟩ : ∃ x, Hid (s.ls.getD lo ByteArray.empty = x) := ⟨_, rfl⟩
    rw [HX.out] at c0
    have HE : Hid (rootP (EF s.wd) (NF s.wd) ((s.ls.drop lo).take 1) = x) := by
      show _ = _
      rw [List.drop_eq_getElem_cons hlt, List.take_succ_cons, List.take_zero, rootP_one, ← HX.out, List.getD_eq_getElem?_getD, List.getElem?_eq_getElem hlt]
      rfl
    rw [HE.out]
    obtain ⟨n, HN⟩ : ∃ n, Hid (s.ls.length = n) := ⟨_, rfl⟩
    rw [HN.out] at k2 hlt
    have hlt' : (lo : Int) < n := by omega
    have e1 : ((lo + 1 : Nat) : Int) = (lo : Int) + 1 := by omega
    have e2 : (lo : Int) + 1 - lo = 1 := by omega
    have hb20 := hL.k
    have hw : IntKind.i64.wrap ((lo : Int) + 1 - lo) = 1 := by rw [e2]; rfl
    rw [e1]
    clear hL hh hc hl hcap e1
    go_enter Tryd.func96, Tryd.ntmps96
    go_wp2
    go_ret
    exact ⟨rfl, Below.refl _ _⟩
  | succ j ih =>
    intro lo w hj hl hL
    have hp := p2s j
    have hp0 := p2 j
    obtain ⟨t, HTT⟩ : ∃ t : Nat, Hid ((2 : Nat) ^ j = t) := ⟨2 ^ j, rfl⟩
    rw [HTT.out] at hp0 hp
    rw [hp] at hl ⊢
    have hk := hL.k
    obtain ⟨r1, HR1⟩ : ∃ r, Hid (rootP (EF s.wd) (NF s.wd) ((s.ls.drop lo).take t) = r) := ⟨_, rfl⟩
    obtain ⟨r2, HR2⟩ : ∃ r, Hid (rootP (EF s.wd) (NF s.wd) ((s.ls.drop (lo + t)).take t) = r) := ⟨_, rfl⟩
    obtain ⟨R, HRR⟩ : ∃ r, Hid (rootP (EF s.wd) (NF s.wd) ((s.ls.drop lo).take (2 * t)) = r) := ⟨_, rfl⟩
    have hll : ((s.ls.drop lo).take (2 * t)).length = 2 * t := by rw [List.length_take, List.length_drop]; omega
    have HE : Hid (NF s.wd r1 r2 = R) := by
      show _ = _
      rw [← HRR.out, rootP_two _ _ (l := (s.ls.drop lo).take (2 * t)) (j := j) (by rw [HTT.out, hll]; omega) (by rw [hll, p2s, HTT.out]; omega), HTT.out, List.take_take, Nat.min_eq_left (by omega), List.drop_take, List.drop_drop, show 2 * t - t = t by omega, HR1.out, HR2.out]
    have Z1 : r1.size ≤ 1048576 := by rw [← HR1.out]; exact root_size (fun x h => hL.x x (List.mem_of_mem_drop (List.mem_of_mem_take h)))
    have Z2 : r2.size ≤ 1048576 := by rw [← HR2.out]; exact root_size (fun x h => hL.x x (List.mem_of_mem_drop (List.mem_of_mem_take h)))
    have HL : Hid (Lq w sb s lv av) := hL
    have I1 : Hid (∀ w', Lq w' sb s lv av → Calls _ _ _ _ _) := fun w' h => ih lo w' (by omega) (by rw [HTT.out]; omega) h
    have I2 : Hid (∀ w', Lq w' sb s lv av → Calls _ _ _ _ _) := fun w' h => ih (lo + t) w' (by omega) (by rw [HTT.out]; omega) h
    rw [HTT.out, HR1.out] at I1
    rw [HTT.out, HR2.out] at I2
    have NN : Hid (∀ w', Lq w' sb s lv av → Calls _ _ _ _ _) := fun w' h => rNode s.wd r1 r2 (by omega) w' h.t.t.t
    rw [HE.out] at NN
    rw [HRR.out]
    have e1 : ((lo + 2 * t : Nat) : Int) = (lo : Int) + 2 * t := by omega
    have e2 : ((lo + t : Nat) : Int) = (lo : Int) + t := by omega
    have e3 : ((lo + t + t : Nat) : Int) = (lo : Int) + 2 * t := by omega
    rw [e1]
    rw [e2] at I1
    rw [e2, e3] at I2
    have q1 : ((lo : Int) + 2 * t - lo == 1) = false := by rw [beq_eq_false_iff_ne]; omega
    have d1 : ((lo : Int) + (lo + 2 * t)) / 2 = (lo : Int) + t := by omega
    have d2 : ((lo : Int) + (lo + 2 * t)).tdiv 2 = (lo : Int) + t := by rw [Int.tdiv_eq_ediv_of_nonneg (by omega)]; exact d1
    have hlb : (lo : Int) + 2 * t ≤ 1048576 := by omega
    clear ih hL hll Z1 Z2 hl hp e1 e2 e3 hk
    go_enter Tryd.func96, Tryd.ntmps96
    go_wp2_with fail
    refine (I1.out _ HL.out).mono ?_
    rintro e w1 ⟨rfl, hb1⟩
    have B1 : Hid (Below w.heap.size w w1) := hb1
    clear hb1
    go_wp2_with fail
    refine (I2.out _ (HL.out.later B1.out)).mono ?_
    rintro e w2 ⟨rfl, hb2⟩
    have B2 : Hid (Below w.heap.size w w2) := over B1.out hb2
    obtain ⟨k0, _, _, _, _, _, _⟩ := (HL.out.later B2.out).o.cells
    clear hb2
    go_wp2_with fail
    refine (NN.out _ (HL.out.later B2.out)).mono ?_
    rintro e w3 ⟨rfl, hb3⟩
    have B3 : Hid (Below w.heap.size w w3) := over B2.out hb3
    clear hb3
    go_wp2
    go_ret
    exact ⟨rfl, B3.out⟩
end Go.Proofs.YtmmbkfagchaocaaDoor.sa

namespace Go.Proofs.YtmmbkfagchaocaaDoor.sb
open Go.RowKit Go.PlainAid Go.Shelf
open Go.Proofs.YtmmbkfagchaocaaDoor.pl Go.Proofs.YtmmbkfagchaocaaDoor.pi Go.Proofs.YtmmbkfagchaocaaDoor.rf Go.Proofs.YtmmbkfagchaocaaDoor.pj Go.Proofs.YtmmbkfagchaocaaDoor.ca Go.Proofs.YtmmbkfagchaocaaDoor.cb Go.Proofs.YtmmbkfagchaocaaDoor.cp Go.Proofs.YtmmbkfagchaocaaDoor.cs Go.Proofs.YtmmbkfagchaocaaDoor.ka Go.Proofs.YtmmbkfagchaocaaDoor.kb Go.Proofs.YtmmbkfagchaocaaDoor.kd Go.Proofs.YtmmbkfagchaocaaDoor.ga Go.Proofs.YtmmbkfagchaocaaDoor.aa Go.Proofs.YtmmbkfagchaocaaDoor.ab Go.Proofs.YtmmbkfagchaocaaDoor.tb Go.Proofs.YtmmbkfagchaocaaDoor.ac Go.Proofs.YtmmbkfagchaocaaDoor.bc Go.Proofs.YtmmbkfagchaocaaDoor.sa
set_option linter.unusedVariables false

theorem add_text (a b : ByteArray) (h : a.size + b.size ≤ 9223372036854775807) : Op.stringOp .add a b = pure (.string (a ++ b)) := by
  unfold Op.stringOp
  rw [if_neg]
  have e : IntKind.i64.max = 9223372036854775807 := by decide
  rw [e]
  omega
theorem itoaB_size (n : Int) (h : i64 n) : (itoaB n).size ≤ 21 := by
  have := Lib.itoa_length_le n h.1 h.2
  show (Lib.itoa n).toArray.size ≤ 21
  rw [List.size_toArray]
  exact this
theorem lookP_no (s : Src) {L I : Int} (h : ¬ okA L I) : lookP s L I = (ByteArray.empty, 50) := by unfold lookP; rw [if_neg h]
theorem lookP_out (s : Src) {k i : Nat} (h : okA k i) (hl : s.sz < ((i + 1) * 2 ^ k : Nat)) : lookP s k i = (ByteArray.empty, 80) := by
  unfold lookP
  rw [if_pos h, Int.toNat_natCast, cast_pow, if_neg]
  have : ((i : Int) + 1) * ((2 ^ k : Nat) : Int) = (((i + 1) * 2 ^ k : Nat) : Int) := by rw [Int.natCast_mul]; rfl
  omega
theorem lookP_in (s : Src) {k i : Nat} (h : okA k i) (hl : ¬ s.sz < ((i + 1) * 2 ^ k : Nat)) : lookP s k i = ((if s.made then cutS (madeB k i) s.wd else rootP (EF s.wd) (NF s.wd) ((s.ls.drop (i * 2 ^ k)).take (2 ^ k))), 0) := by
  unfold lookP
  have e1 : ((i : Int) + 1) * ((2 ^ k : Nat) : Int) = (((i + 1) * 2 ^ k : Nat) : Int) := by rw [Int.natCast_mul]; rfl
  rw [if_pos h, Int.toNat_natCast, cast_pow, if_pos (by omega), show ((i : Int) * ((2 ^ k : Nat) : Int)).toNat = i * 2 ^ k by rw [← Int.natCast_mul, Int.toNat_natCast]]
set_option maxHeartbeats 3200000 in
theorem look (s : Src) (sb : Nat) (lv av : Value) (L I : Int) (h0 : i64 L) (h1 : i64 I) (w : World) (hL : Lq w sb s lv av) :
    Calls Tryd.prog 83 #[.pointer (some ⟨sb, 0, none⟩), .agg #[.int .i64 L, .int .i64 I]] w fun e w' => e = .returned (.tuple #[.string (lookP s L I).1, .int .i64 (lookP s L I).2]) ∧ Below w.heap.size w w' := by
  obtain ⟨wd, sz, ls, made, fails, code⟩ := s
  have SC : Hid (∀ w, Calls _ _ _ _ _) := fun w => rSpan L I w
  have BA : Hid (Below w.heap.size w (w.alloc (.cells #[.int .i64 L, .int .i64 I] 36))) := (Below.refl _ _).alloc (Nat.le_refl _) _
  have HX0 : Hid (Bx (w.alloc (.cells #[.int .i64 L, .int .i64 I] 36)) w.heap.size L I) := bx_new w L I
  have HL : Hid (Lq w sb ⟨wd, sz, ls, made, fails, code⟩ lv av) := hL
  obtain ⟨A, HA⟩ : ∃ A, Hid (lookP ⟨wd, sz, ls, made, fails, code⟩ L I = A) := ⟨_, rfl⟩
  rw [HA.out]
  by_cases hok : okA L I
  · obtain ⟨k, i, rfl, rfl, hk62, hki⟩ := okA_form hok
    rw [spV_nat hok] at SC
    obtain ⟨p, HP⟩ : ∃ p, Hid (i * 2 ^ k = p) := ⟨_, rfl⟩
    obtain ⟨q, HQ⟩ : ∃ q, Hid ((i + 1) * 2 ^ k = q) := ⟨_, rfl⟩
    have hpq : Hid (q = p + 2 ^ k) := by show _ = _; rw [← HP.out, ← HQ.out, Nat.add_mul, Nat.one_mul]
    rw [HP.out, HQ.out] at SC
    rw [HQ.out] at hki
    by_cases hl : sz < q
    · have HE : Hid (A = (ByteArray.empty, 80)) := by
        show _ = _
        rw [← HA.out, lookP_out ⟨wd, sz, ls, made, fails, code⟩ hok (by rw [HQ.out]; exact hl)]
      clear hok hL
      go_enter Tryd.func83, Tryd.ntmps83
      go_wp2_with fail
      refine (SC.out _).mono ?_
      rintro e w1 ⟨rfl, hb1⟩
      have B1 : Hid (Below w.heap.size w w1) := over BA.out hb1
      obtain ⟨k0, k1, k2, k3, k4, k5, k6⟩ := (HL.out.later B1.out).o.cells
      dsimp only at k0 k1 k2 k3 k4 k5 k6
      clear hb1
      go_wp2
      go_ret2
      exact ⟨by rw [HE.out]; rfl, B1.out⟩
    · have HE0 := lookP_in ⟨wd, sz, ls, made, fails, code⟩ hok (by rw [HQ.out]; exact hl)
      rw [HA.out, HP.out] at HE0
      dsimp only at HE0
      cases made with
      | false =>
        have hsl : sz = ls.length := hL.n rfl
        have RC : Hid (∀ w', Lq w' sb ⟨wd, sz, ls, false, fails, code⟩ lv av → Calls _ _ _ _ _) := fun w' h => rooted ⟨wd, sz, ls, false, fails, code⟩ sb lv av k p w' hk62 (by rw [← hpq.out]; show q ≤ ls.length; omega) h
        rw [← hpq.out] at RC
        obtain ⟨r, HR⟩ : ∃ r, Hid (rootP (EF wd) (NF wd) ((ls.drop p).take (2 ^ k)) = r) := ⟨_, rfl⟩
        rw [HR.out] at RC
        have HE : Hid (A = (r, 0)) := by rw [HR.out] at HE0; exact HE0
        clear hok hL HE0 hsl
        go_enter Tryd.func83, Tryd.ntmps83
        go_wp2_with fail
        refine (SC.out _).mono ?_
        rintro e w1 ⟨rfl, hb1⟩
        have B1 : Hid (Below w.heap.size w w1) := over BA.out hb1
        obtain ⟨k0, k1, k2, k3, k4, k5, k6⟩ := (HL.out.later B1.out).o.cells
        dsimp only at k0 k1 k2 k3 k4 k5 k6
        clear hb1
        go_wp2_with fail
        refine (RC.out _ (HL.out.later B1.out)).mono ?_
        rintro e w2 ⟨rfl, hb2⟩
        have B2 : Hid (Below w.heap.size w w2) := over B1.out hb2
        clear hb2
        go_wp2
        go_ret2
        exact ⟨by rw [HE.out]; rfl, B2.out⟩
      | true =>
        obtain ⟨t1, HT1⟩ : ∃ t, Hid (itoaB (k : Int) = t) := ⟨_, rfl⟩
        obtain ⟨t2, HT2⟩ : ∃ t, Hid (itoaB (i : Int) = t) := ⟨_, rfl⟩
        have z1 : t1.size ≤ 21 := by rw [← HT1.out]; exact itoaB_size _ h0
        have z2 : t2.size ≤ 21 := by rw [← HT2.out]; exact itoaB_size _ h1
        have za : ((⟨#[110, 111, 100, 101, 32]⟩ : ByteArray) ++ t1).size = 5 + t1.size := by rw [ByteArray.size_append]; rfl
        have zb : (((⟨#[110, 111, 100, 101, 32]⟩ : ByteArray) ++ t1) ++ (⟨#[32]⟩ : ByteArray)).size = 6 + t1.size := by rw [ByteArray.size_append, za]; show 5 + t1.size + 1 = _; omega
        have f1 := add_text (⟨#[110, 111, 100, 101, 32]⟩ : ByteArray) t1 (by show 5 + t1.size ≤ _; omega)
        have f2 := add_text ((⟨#[110, 111, 100, 101, 32]⟩ : ByteArray) ++ t1) (⟨#[32]⟩ : ByteArray) (by rw [za]; show 5 + t1.size + 1 ≤ _; omega)
        have f3 := add_text (((⟨#[110, 111, 100, 101, 32]⟩ : ByteArray) ++ t1) ++ (⟨#[32]⟩ : ByteArray)) t2 (by rw [zb]; omega)
        have CT : Hid (∀ w', Lq w' sb ⟨wd, sz, ls, true, fails, code⟩ lv av → Calls _ _ _ _ _) := fun w' h => rCut (((⟨#[110, 111, 100, 101, 32]⟩ : ByteArray) ++ t1) ++ (⟨#[32]⟩ : ByteArray) ++ t2) wd w' (by rw [ByteArray.size_append, zb]; omega) h.t.t.t
        obtain ⟨r, HR⟩ : ∃ r, Hid (cutS (madeB k i) wd = r) := ⟨_, rfl⟩
        have hcr : (sha (((⟨#[110, 111, 100, 101, 32]⟩ : ByteArray) ++ t1) ++ (⟨#[32]⟩ : ByteArray) ++ t2)).extract 0 (wid wd) = r := by
          rw [← HR.out, ← HT1.out, ← HT2.out]
          rfl
        rw [hcr] at CT
        have HE : Hid (A = (r, 0)) := by
          have := HE0
          rw [if_pos rfl, HR.out] at this
          exact this
        have IT : Hid (∀ (n : Nat) (w' : World), Lq w' sb ⟨wd, sz, ls, true, fails, code⟩ lv av → ((n = k) ∨ (n = i)) → Calls Tryd.prog 95 #[.int .i64 n] w' fun e w'' => (∃ t, e = .returned (.string t) ∧ (n = k → t = t1) ∧ (n = i → t = t2)) ∧ Below w'.heap.size w' w'') := by
          intro n w' h hn
          refine (itoa n (by rcases hn with rfl | rfl <;> assumption) w' h.t).mono ?_
          rintro e w'' ⟨rfl, hb⟩
          exact ⟨⟨_, rfl, fun e => by rw [e]; exact HT1.out, fun e => by rw [e]; exact HT2.out⟩, hb⟩
        clear hok hL HE0 hcr z1 z2 za zb
        go_enter Tryd.func83, Tryd.ntmps83
        go_wp2_with fail
        refine (SC.out _).mono ?_
        rintro e w1 ⟨rfl, hb1⟩
        have B1 : Hid (Below w.heap.size w w1) := over BA.out hb1
        obtain ⟨k0, k1, k2, k3, k4, k5, k6⟩ := (HL.out.later B1.out).o.cells
        dsimp only at k0 k1 k2 k3 k4 k5 k6
        have X1 : Hid (Bx w1 w.heap.size k i) := HX0.out.later hb1
        have S4 : Hid (∀ W, Below w1.heap.size w1 W → Below w1.heap.size w1 W ∧ W.cell? ⟨w.heap.size, 0, none⟩ = some (.int .i64 k) ∧ W.cell? ⟨w.heap.size, 1, none⟩ = some (.int .i64 i) ∧ W.cell? ⟨sb, 0, none⟩ = some (.int .i64 wd)) := fun W h => ⟨h, (X1.out.later h).one, (X1.out.later h).two, ((HL.out.later B1.out).later h).o.cells.1⟩
        have HW0 : Hid (Below w1.heap.size w1 w1) := Below.refl _ _
        clear hb1
        go_wp2_with fail
        go_region_held3 (fun W => Below w1.heap.size w1 W ∧ W.cell? ⟨w.heap.size, 0, none⟩ = some (.int .i64 k) ∧ W.cell? ⟨w.heap.size, 1, none⟩ = some (.int .i64 i) ∧ W.cell? ⟨sb, 0, none⟩ = some (.int .i64 wd)) (first | exact S4.out _ HW0.out | exact S4.out _ (below_dN HW0.out 1) | exact S4.out _ (over (And.left (by assumption)) hb') | exact S4.out _ (below_dN (And.left (by assumption)) 1)) (first | (go_at_call 95; refine (IT.out _ _ ((HL.out.later B1.out).later (by first | exact And.left (by assumption) | exact HW0.out | exact below_dN HW0.out 1)) (by first | exact .inl rfl | exact .inr rfl)).mono ?_; rintro e w' ⟨⟨t, rfl, k1', k2'⟩, hb'⟩; first | obtain rfl := k1' rfl | obtain rfl := k2' rfl) | (go_at_call 68; refine (CT.out _ ((HL.out.later B1.out).later (by first | exact And.left (by assumption) | exact HW0.out | exact below_dN HW0.out 1))).mono ?_; rintro e w' ⟨rfl, hb'⟩))
        have g9 : Below w1.heap.size w1 w' ∧ w'.cell? ⟨w.heap.size, 0, none⟩ = some (.int .i64 k) ∧ w'.cell? ⟨w.heap.size, 1, none⟩ = some (.int .i64 i) ∧ w'.cell? ⟨sb, 0, none⟩ = some (.int .i64 wd) := by assumption
        have G9 : Hid (Below w.heap.size w w') := over B1.out g9.1
        go_wp2
        go_ret2
        exact ⟨by rw [HE.out]; rfl, G9.out⟩
  · have HE : Hid (A = (ByteArray.empty, 50)) := by
      show _ = _
      rw [← HA.out, lookP_no ⟨wd, sz, ls, made, fails, code⟩ hok]
    have hs0 : spV L I = .tuple #[.int .i64 0, .int .i64 0, .int .i64 50] := by unfold spV; rw [if_neg hok]
    rw [hs0] at SC
    clear hok hs0
    go_enter Tryd.func83, Tryd.ntmps83
    go_wp2_with fail
    refine (SC.out _).mono ?_
    rintro e w1 ⟨rfl, hb1⟩
    have B1 : Hid (Below w.heap.size w w1) := over BA.out hb1
    clear hb1
    go_wp2
    go_ret2
    exact ⟨by rw [HE.out]; rfl, B1.out⟩
end Go.Proofs.YtmmbkfagchaocaaDoor.sb

namespace Go.Proofs.YtmmbkfagchaocaaDoor.sc
open Go.RowKit Go.PlainAid Go.Shelf
open Go.Proofs.YtmmbkfagchaocaaDoor.pl Go.Proofs.YtmmbkfagchaocaaDoor.pi Go.Proofs.YtmmbkfagchaocaaDoor.rf Go.Proofs.YtmmbkfagchaocaaDoor.pj Go.Proofs.YtmmbkfagchaocaaDoor.ca Go.Proofs.YtmmbkfagchaocaaDoor.cb Go.Proofs.YtmmbkfagchaocaaDoor.cp Go.Proofs.YtmmbkfagchaocaaDoor.cs Go.Proofs.YtmmbkfagchaocaaDoor.xc Go.Proofs.YtmmbkfagchaocaaDoor.ka Go.Proofs.YtmmbkfagchaocaaDoor.kb Go.Proofs.YtmmbkfagchaocaaDoor.kd Go.Proofs.YtmmbkfagchaocaaDoor.ga Go.Proofs.YtmmbkfagchaocaaDoor.aa Go.Proofs.YtmmbkfagchaocaaDoor.ab Go.Proofs.YtmmbkfagchaocaaDoor.tb Go.Proofs.YtmmbkfagchaocaaDoor.ac Go.Proofs.YtmmbkfagchaocaaDoor.bc Go.Proofs.YtmmbkfagchaocaaDoor.bn Go.Proofs.YtmmbkfagchaocaaDoor.sa Go.Proofs.YtmmbkfagchaocaaDoor.sb
set_option linter.unusedVariables false

theorem gP : Tryd.prog.globalNamed "internal/strconv.uint64pow10" = some 4 := by kernel_rfl
theorem T7.keep {G : Nat → Prop} {w w' : World} (h : T7 w) (k : Kp G w w') (hG : ∀ b, G b → 6 ≤ b) : T7 w' := by
  have hb : Below 6 w w' := k.below hG h.t.t.big
  refine ⟨⟨h.t.t.below hb (Nat.le_refl _), fun j hj => (hb.cell (p := ⟨1, j, none⟩) (by show 1 < 6; decide)).trans (h.t.d j hj)⟩, ?_⟩
  have hp := h.p
  unfold Lib.TabIs World.var? at hp ⊢
  rw [gP] at hp ⊢
  simp only [Option.bind_some] at hp ⊢
  rw [hb.block 4 (by decide)]
  exact hp
theorem reads_keep {w w' : World} {v : Value} {xs : List ByteArray} (h : ReadsT w v xs) (hb : ∀ b off n cap, v = .slice (some ⟨b, off, none⟩) n cap → b < w.heap.size → w'.heap[b]? = w.heap[b]?) : ReadsT w' v xs := by
  obtain ⟨a, cap, rfl, hc, h0 | ⟨b, off, rfl, hh⟩⟩ := h
  · exact ⟨a, cap, rfl, hc, .inl h0⟩
  · refine ⟨_, cap, rfl, hc, .inr ⟨b, off, rfl, fun i hi => ?_⟩⟩
    have c1 := hh i hi
    exact (World.cell?_of_block (a := ⟨b, off + i, none⟩) (hb b off _ _ rfl (World.block_lt_of_cell? _ _ c1))).trans c1
-- what a source's answers hang on besides its own blocks
def Dp (lv : Value) : Nat → Prop := fun b => b < 6 ∨ ∃ off n c, lv = .slice (some ⟨b, off, none⟩) n c
-- a source under way: F its own blocks, l what was asked
structure Sj (s : Src) (sb : Nat) (lv : Value) (base : Nat) (av : Value) (F : Nat → Prop) (l : List (Nat × Nat)) (w : World) : Prop where
  q : Lq w sb s lv av
  own : w.ownsRow base 36 2 av l.length (cls l)
  f : ∀ b, F b ↔ (b = sb ∨ av.ownBlock = some b)
  sbq : 6 ≤ sb ∧ sb < base
  lvb : ∀ b off n c, lv = .slice (some ⟨b, off, none⟩) n c → b < base ∧ b ≠ sb
  bq : 6 ≤ base ∧ base ≤ w.heap.size
theorem Sj.keep {s : Src} {sb : Nat} {lv : Value} {base : Nat} {av : Value} {F G : Nat → Prop} {l : List (Nat × Nat)} {w w' : World} (h : Sj s sb lv base av F l w) (k : Kp G w w') (hG : ∀ b, G b → ¬ F b ∧ ¬ Dp lv b) : Sj s sb lv base av F l w' := by
  have nsb : ¬ G sb := fun hg => (hG sb hg).1 ((h.f sb).2 (.inl rfl))
  refine ⟨⟨T7.keep h.q.t k (fun b hb => Nat.le_of_not_lt fun hl => (hG b hb).2 (.inl hl)), (k.block sb h.q.o.lt nsb).trans h.q.o, reads_keep h.q.r (fun b off n cap he hlt => k.block b hlt (fun hg => (hG b hg).2 (.inr ⟨off, n, cap, he⟩))), h.q.x, h.q.n, h.q.c, h.q.k⟩, owns_keep h.own (fun g hg => k.block g (owns_lt h.own hg).1 (fun hgg => (hG g hgg).1 ((h.f g).2 (.inr hg)))), h.f, h.sbq, h.lvb, ⟨h.bq.1, Nat.le_trans h.bq.2 k.size⟩⟩
theorem Sj.later {s : Src} {sb : Nat} {lv : Value} {base : Nat} {av : Value} {F : Nat → Prop} {l : List (Nat × Nat)} {w w' : World} (h : Sj s sb lv base av F l w) (hb : Below w.heap.size w w') : Sj s sb lv base av F l w' := h.keep (G := fun _ => False) (Kp.of_below hb) (fun _ x => x.elim)
theorem Sj.within {s : Src} {sb : Nat} {lv : Value} {base : Nat} {av : Value} {F : Nat → Prop} {l : List (Nat × Nat)} {w : World} (h : Sj s sb lv base av F l w) : ∀ b, F b → b < w.heap.size := by
  intro b hb
  rcases (h.f b).1 hb with rfl | hb
  · exact h.q.o.lt
  · exact (owns_lt h.own hb).1
theorem Sj.dep {s : Src} {sb : Nat} {lv : Value} {base : Nat} {av : Value} {F : Nat → Prop} {l : List (Nat × Nat)} {w : World} (h : Sj s sb lv base av F l w) : ∀ b, Dp lv b → b < w.heap.size := by
  rintro b (hb | ⟨off, n, c, he⟩)
  · have := h.bq; omega
  · have := h.lvb b off n c he; have := h.bq; omega
-- one more was asked
theorem Sj.asked {s : Src} {sb : Nat} {lv : Value} {base : Nat} {av : Value} {F : Nat → Prop} {l : List (Nat × Nat)} {w w7 : World} {a : Nat × Nat} {g cap : Nat} (h : Sj s sb lv base av F l w)
    (ho : w7.ownsRow base 36 2 (.slice (some ⟨g, 0, none⟩) (l.length + 1) cap) (l.length + 1) (cls l ++ cl a)) (hg : w.grownBy w7 av.ownBlock) (hat : av.ownBlock = some g ∨ g = w.heap.size) :
    Sj s sb lv base (.slice (some ⟨g, 0, none⟩) (l.length + 1) cap) (fun b => b = sb ∨ b = g) (l ++ [a]) (w7.setCell ⟨sb, 6, none⟩ (.slice (some ⟨g, 0, none⟩) (l.length + 1) cap)) ∧ Goes F w (fun b => b = sb ∨ b = g) (w7.setCell ⟨sb, 6, none⟩ (.slice (some ⟨g, 0, none⟩) (l.length + 1) cap)) := by
  have old : ∀ b, b < base → w7.heap[b]? = w.heap[b]? := fun b hb => hg.block b (by have := h.bq; omega) (fun e => by have := (owns_lt h.own e.symm).2; omega)
  have hgb : base ≤ g := by
    rcases hat with e | e
    · exact (owns_lt h.own e).2
    · rw [e]; exact h.bq.2
  have K : Kp (fun b => b = sb) w7 (w7.setCell ⟨sb, 6, none⟩ (.slice (some ⟨g, 0, none⟩) (l.length + 1) cap)) := Kp.setCell _ _ _ _ rfl
  have K0 : Kp F w w7 := ⟨hg.os, hg.tape, hg.output, hg.size, fun k hk hn => hg.block k hk (fun e => hn ((h.f k).2 (.inr e.symm)))⟩
  have ho7 : So w7 sb s lv av := (old sb h.sbq.2).trans h.q.o
  refine ⟨⟨⟨?_, ?_, ?_, h.q.x, h.q.n, h.q.c, h.q.k⟩, ?_, ?_, h.sbq, h.lvb, ⟨h.bq.1, Nat.le_trans h.bq.2 (Nat.le_trans hg.size K.size)⟩⟩, ⟨K0.trans (K.mono (fun k hk => by subst hk; exact (h.f _).2 (.inl rfl))), fun b hb => ?_⟩⟩
  · refine T7.keep (T7.keep h.q.t K0 (fun b hb => ?_)) K (fun b hb => by subst hb; exact h.sbq.1)
    rcases (h.f b).1 hb with rfl | hb
    · exact h.sbq.1
    · have := (owns_lt h.own hb).2; have := h.bq; omega
  · show _ = _
    rw [heap_setCell_same _ _ 6 _ _ _ ho7]
    rfl
  · exact reads_keep (reads_keep h.q.r (fun b off n cap he _ => old b (h.lvb b off n cap he).1)) (fun b off n cap he hlt => K.block b hlt (h.lvb b off n cap he).2)
  · rw [List.length_append, cls_app]
    have e : cls [a] = cl a := by unfold cls; simp
    rw [e]
    exact owns_keep ho (fun gg hgg => K.block gg (owns_lt ho hgg).1 (fun e => by have := (owns_lt ho hgg).2; have := h.sbq; omega))
  · intro b
    constructor
    · rintro (rfl | rfl)
      · exact .inl rfl
      · exact .inr rfl
    · rintro (rfl | hb)
      · exact .inl rfl
      · exact .inr (Option.some.inj hb).symm
  · rcases hb with rfl | rfl
    · exact .inl ((h.f _).2 (.inl rfl))
    · rcases hat with e | e
      · exact .inl ((h.f _).2 (.inr e))
      · exact .inr (by omega)
end Go.Proofs.YtmmbkfagchaocaaDoor.sc

namespace Go.Proofs.YtmmbkfagchaocaaDoor.sd
open Go.RowKit Go.PlainAid Go.Shelf
open Go.Proofs.YtmmbkfagchaocaaDoor.pl Go.Proofs.YtmmbkfagchaocaaDoor.pi Go.Proofs.YtmmbkfagchaocaaDoor.rf Go.Proofs.YtmmbkfagchaocaaDoor.pj Go.Proofs.YtmmbkfagchaocaaDoor.ca Go.Proofs.YtmmbkfagchaocaaDoor.cb Go.Proofs.YtmmbkfagchaocaaDoor.cp Go.Proofs.YtmmbkfagchaocaaDoor.cs Go.Proofs.YtmmbkfagchaocaaDoor.xc Go.Proofs.YtmmbkfagchaocaaDoor.ka Go.Proofs.YtmmbkfagchaocaaDoor.kb Go.Proofs.YtmmbkfagchaocaaDoor.kd Go.Proofs.YtmmbkfagchaocaaDoor.ga Go.Proofs.YtmmbkfagchaocaaDoor.aa Go.Proofs.YtmmbkfagchaocaaDoor.ab Go.Proofs.YtmmbkfagchaocaaDoor.tb Go.Proofs.YtmmbkfagchaocaaDoor.ac Go.Proofs.YtmmbkfagchaocaaDoor.bc Go.Proofs.YtmmbkfagchaocaaDoor.bn Go.Proofs.YtmmbkfagchaocaaDoor.sa Go.Proofs.YtmmbkfagchaocaaDoor.sb Go.Proofs.YtmmbkfagchaocaaDoor.sc
set_option linter.unusedVariables false

theorem addr_new (W : World) (a : Nat × Nat) : ∀ (j : Nat) (u : Value), (cl a)[j]? = some u → (W.alloc (.cells #[.int .i64 a.1, .int .i64 a.2] 36)).drew.cell? (Addr.add ⟨W.heap.size, 0, none⟩ j) = some u := two_cells W (.int .i64 a.1) (.int .i64 a.2) 36
theorem one_addr (a : Nat × Nat) : ∀ u ∈ cl a, u.oneCell' = true := by
  intro u hu
  simp only [cl, List.mem_cons, List.not_mem_nil, or_false] at hu
  rcases hu with rfl | rfl <;> rfl
def askS (s : Src) : Nat → Nat × Nat → ByteArray × Int := fun k a => nodeP s k a.1 a.2
set_option maxHeartbeats 6400000 in
set_option maxRecDepth 100000 in
theorem nodeS (s : Src) (sb : Nat) (lv : Value) (base : Nat) (av : Value) (F : Nat → Prop) (l : List (Nat × Nat)) (a : Nat × Nat) (w : World) (hl : l.length < 4294967296) (hok : okA a.1 a.2) (hS : Sj s sb lv base av F l w) :
    Calls Tryd.prog 69 #[.pointer (some ⟨sb, 0, none⟩), .agg #[.int .i64 a.1, .int .i64 a.2]] w fun e w' => e = .returned (.tuple #[.string (askS s (l.length + 1) a).1, .int .i64 (askS s (l.length + 1) a).2]) ∧ ∃ av' F', Sj s sb lv base av' F' (l ++ [a]) w' ∧ Goes F w F' w' := by
  obtain ⟨aL, aI⟩ := a
  obtain ⟨i9, hi, hz0, hz1, hz2⟩ := cs.info_parts hiA
  have HIN : Hid (_ ∧ _ ∧ _ ∧ _) := ⟨hi, hz0, hz1, hz2⟩
  have hk := (okA_nat aL aI).1 hok
  have hI : aI ≤ 4611686018427387904 := by
    have hp := p2 aL
    have : aI + 1 ≤ (aI + 1) * 2 ^ aL := Nat.le_mul_of_pos_right _ hp
    omega
  have BA : Hid (Below w.heap.size w (w.alloc (.cells #[.int .i64 aL, .int .i64 aI] 36))) := (Below.refl _ _).alloc (Nat.le_refl _) _
  obtain ⟨wA, HWA⟩ : ∃ wA, Hid (w.alloc (.cells #[.int .i64 aL, .int .i64 aI] 36) = wA) := ⟨_, rfl⟩
  have HXA : Hid (Bx wA w.heap.size aL aI) := by show Bx _ _ _ _; rw [← HWA.out]; exact bx_new w aL aI
  rw [HWA.out] at BA
  have SA : Hid (Sj s sb lv base av F l wA) := hS.later BA.out
  have BB : Hid (Below wA.heap.size wA (wA.alloc (.cells #[.int .i64 aL, .int .i64 aI] 36)).drew) := below_dN ((Below.refl _ _).alloc (Nat.le_refl _) _) 1
  have SB : Hid (Sj s sb lv base av F l (wA.alloc (.cells #[.int .i64 aL, .int .i64 aI] 36)).drew) := SA.out.later BB.out
  obtain ⟨va, vc, rfl⟩ := own_formS hS.own
  obtain ⟨n, HN⟩ : ∃ n, Hid (l.length = n) := ⟨_, rfl⟩
  have OX : Hid (World.ownsRow (wA.alloc (.cells #[.int .i64 aL, .int .i64 aI] 36)).drew base 36 2 (.slice va l.length vc) l.length (cls l)) := SB.out.own
  have NX : Hid _ := addr_new wA (aL, aI)
  have SZ : Hid (base ≤ (wA.alloc (.cells #[.int .i64 aL, .int .i64 aI] 36)).drew.heap.size) := SB.out.bq.2
  have r6 := SA.out.q.o.cells.2.2.2.2.2.2
  obtain ⟨x1, x2⟩ := HXA.out
  have r6' : (wA.alloc (.cells #[.int .i64 aL, .int .i64 aI] 36)).cell? ⟨sb, 6, none⟩ = some (.slice va l.length vc) := (Below.cell ((Below.refl _ _).alloc (Nat.le_refl _) _) (World.block_lt_of_cell? _ _ r6)).trans r6
  have x1' : (wA.alloc (.cells #[.int .i64 aL, .int .i64 aI] 36)).cell? ⟨w.heap.size, 0, none⟩ = some (.int .i64 aL) := (Below.cell ((Below.refl _ _).alloc (Nat.le_refl _) _) (World.block_lt_of_cell? _ _ x1)).trans x1
  have x2' : (wA.alloc (.cells #[.int .i64 aL, .int .i64 aI] 36)).cell? ⟨w.heap.size, 1, none⟩ = some (.int .i64 aI) := (Below.cell ((Below.refl _ _).alloc (Nat.le_refl _) _) (World.block_lt_of_cell? _ _ x2)).trans x2
  have HNSB : Hid (w.heap.size ≠ sb ∧ w.heap.size < wA.heap.size ∧ ¬ F w.heap.size) := ⟨fun e => by have := hS.q.o.lt; omega, World.block_lt_of_cell? _ _ x1, fun hF => Nat.lt_irrefl _ (hS.within _ hF)⟩
  rw [HN.out] at hl OX r6 r6' SB ⊢
  obtain ⟨A, HA⟩ : ∃ A, Hid (askS s (n + 1) (aL, aI) = A) := ⟨_, rfl⟩
  rw [HA.out]
  clear hS hi hz0 hz1 hz2
  go_enter Tryd.func69, Tryd.ntmps69
  go_wp2_with fail
  rw [HWA.out]
  go_cut [15] (fun _ wx => ∃ g7 cap7, Hid (Sj s sb lv base (.slice (some ⟨g7, 0, none⟩) (n + 1) cap7) (fun b => b = sb ∨ b = g7) (l ++ [(aL, aI)]) wx ∧ Goes F wA (fun b => b = sb ∨ b = g7) wx))
  case first =>
    go_region_law ((refine step_append_lies _ (by rfl) _ _ 63 (by rfl) base 36 i9 (.agg #[.int .i64 0, .int .i64 0]) 2 16 Tryd.underlying63 HIN.out.1 HIN.out.2.1 HIN.out.2.2.1 HIN.out.2.2.2 rfl (by decide) _ n _ (by rfl) OX.out ⟨wA.heap.size, 0, none⟩ 1 1 (cl (aL, aI)) (by rfl) rfl NX.out (one_addr _) (by omega) (by unfold maxLen; omega) (by omega) SZ.out _ rfl ?_; intro g7 cap7 w7 hown7 hgrow7 hlies7 hglt7; have HS7 : Hid (_ ∧ _) := Sj.asked (a := (aL, aI)) SB.out (by rw [HN.out]; exact hown7) hgrow7 hlies7; have HG7 : Hid (Goes F wA (fun b => b = sb ∨ b = g7) (w7.setCell ⟨sb, 6, none⟩ (.slice (some ⟨g7, 0, none⟩) (l.length + 1) cap7))) := (Goes.of_below BB.out).trans HS7.out.2; have q0 : So w7 sb s lv (.slice va n vc) := (hgrow7.block sb (by have := SB.out.q.o.lt; exact this) (fun e => by have := (owns_lt OX.out e.symm).2; have := SB.out.sbq; omega)).trans SB.out.q.o; have q1 := q0.cells.2.2.2.2.2.2; have q2 := frozen_of_row w7 sb 6 _ _ q0; clear hown7 hgrow7 hlies7 hglt7 q0))
    all_goals
      go_wp2_with fail
      go_meet
      exact ⟨g7, cap7, by have h1 := HS7.out.1; rw [HN.out] at h1; exact h1, by have h1 := HG7.out; rw [HN.out] at h1; exact h1⟩
  case rest =>
    obtain ⟨g7, cap7, HS⟩ := hcut
    obtain ⟨wd, sz, ls, made, fails, code⟩ := s
    have LC : Hid (Calls _ _ _ _ _) := Go.Proofs.YtmmbkfagchaocaaDoor.sb.look ⟨wd, sz, ls, made, fails, code⟩ sb lv _ (aL : Int) (aI : Int) (i64_nat (by omega)) (i64_nat hI) wc HS.out.1.q
    obtain ⟨P, HP⟩ : ∃ P, Hid (lookP ⟨wd, sz, ls, made, fails, code⟩ aL aI = P) := ⟨_, rfl⟩
    rw [HP.out] at LC
    have HAA : Hid (A = if P.2 ≠ 0 ∨ ((n + 1 : Nat) : Int) ≠ fails then P else if code ≠ 0 then (ByteArray.empty, code) else if P.1 = ByteArray.empty then (⟨#[120]⟩, 0) else (P.1.extract 1 P.1.size, 0)) := by
      show _ = _
      rw [← HA.out, ← HP.out]
      rfl
    obtain ⟨h, c⟩ := P
    have y1 := HS.out.2.cell x1 HNSB.out.2.2
    have y2 := HS.out.2.cell x2 HNSB.out.2.2
    have hIn : Hid (Goes F w (fun b => b = sb ∨ b = g7) wc) := (Goes.of_below BA.out).trans HS.out.2
    clear x1 x2 x1' x2' r6 r6' OX NX SZ SB SA BB HXA
    go_wp2_with fail
    refine LC.out.mono ?_
    rintro e w2 ⟨rfl, hb2⟩
    have S2 : Hid (Sj ⟨wd, sz, ls, made, fails, code⟩ sb lv base (.slice (some ⟨g7, 0, none⟩) (n + 1) cap7) (fun b => b = sb ∨ b = g7) (l ++ [(aL, aI)]) w2 ∧ Goes F w (fun b => b = sb ∨ b = g7) w2) := ⟨HS.out.1.later hb2, hIn.out.trans (Goes.of_below hb2)⟩
    obtain ⟨k0, k1, k2, k3, k4, k5, k6⟩ := S2.out.1.q.o.cells
    dsimp only at k0 k1 k2 k3 k4 k5 k6
    have HD : Hid (∀ m, Sj ⟨wd, sz, ls, made, fails, code⟩ sb lv base (.slice (some ⟨g7, 0, none⟩) (n + 1) cap7) (fun b => b = sb ∨ b = g7) (l ++ [(aL, aI)]) (w2.drewN m) ∧ Goes F w (fun b => b = sb ∨ b = g7) (w2.drewN m)) := fun m => ⟨S2.out.1.later (below_dN (Below.refl _ _) m), S2.out.2.trans (Goes.of_below (below_dN (Below.refl _ _) m))⟩
    have HD2 : Hid (∀ m m', Sj ⟨wd, sz, ls, made, fails, code⟩ sb lv base (.slice (some ⟨g7, 0, none⟩) (n + 1) cap7) (fun b => b = sb ∨ b = g7) (l ++ [(aL, aI)]) ((w2.drewN m).drewN m') ∧ Goes F w (fun b => b = sb ∨ b = g7) ((w2.drewN m).drewN m')) := fun m m' => ⟨(HD.out m).1.later (below_dN (Below.refl _ _) m'), (HD.out m).2.trans (Goes.of_below (below_dN (Below.refl _ _) m'))⟩
    clear hb2 y1 y2 hIn HS
    by_cases hc : c = 0
    · subst hc
      by_cases hf : ((n + 1 : Nat) : Int) = fails
      · have qf1 : (((n + 1 : Nat) : Int) == fails) = true := by rw [beq_iff_eq]; exact hf
        have qf2 : ((n : Int) + 1 == fails) = true := by rw [beq_iff_eq]; omega
        by_cases hcd : code = 0
        · have qc : (code == 0) = true := by rw [beq_iff_eq]; exact hcd
          by_cases he : h = (⟨#[]⟩ : ByteArray)
          · have qe : (h.toList == []) = true := by rw [beqLit]; exact decide_eq_true he
            have qe1 : (h.toList == (⟨#[]⟩ : ByteArray).toList) = true := by rw [beqL]; exact decide_eq_true he
            have HE : Hid (A = (⟨#[120]⟩, 0)) := by
              show _ = _
              rw [HAA.out, if_neg (by rintro (z | z); exact z rfl; exact z hf), if_neg (fun z => z hcd), if_pos (show h = ByteArray.empty from he)]
            clear hf hcd he
            go_wp2_with fail
            go_quiet (fail)
            go_wp2
            go_ret2
            exact ⟨by rw [HE.out]; rfl, _, _, (HD.out _).1, (HD.out _).2⟩
          · have qe : (h.toList == []) = false := by rw [beqLit]; exact decide_eq_false he
            have qe1 : (h.toList == (⟨#[]⟩ : ByteArray).toList) = false := by rw [beqL]; exact decide_eq_false he
            have hs1 : 1 ≤ h.size := by
              rcases Nat.eq_zero_or_pos h.size with z | z
              · exact absurd (ByteArray.ext (by have : h.data.size = 0 := z; exact Array.eq_empty_of_size_eq_zero this)) he
              · exact z
            have hs2 : (1 : Int) ≤ h.size := by omega
            have HE : Hid (A = (h.extract 1 h.size, 0)) := by
              show _ = _
              rw [HAA.out, if_neg (by rintro (z | z); exact z rfl; exact z hf), if_neg (fun z => z hcd), if_neg (show ¬ h = ByteArray.empty from he)]
            clear hf hcd he
            go_wp2_with fail
            go_quiet (fail)
            go_wp2
            go_ret2
            exact ⟨by rw [HE.out]; rfl, _, _, (HD.out _).1, (HD.out _).2⟩
        · have qc : (code == 0) = false := by rw [beq_eq_false_iff_ne]; exact hcd
          have HE : Hid (A = (ByteArray.empty, code)) := by
            show _ = _
            rw [HAA.out, if_neg (by rintro (z | z); exact z rfl; exact z hf), if_pos hcd]
          clear hf hcd
          go_wp2_with fail
          go_quiet (fail)
          go_wp2_with fail
          go_quiet (fail)
          go_wp2
          go_ret2
          exact ⟨by rw [HE.out]; rfl, _, _, (HD2.out _ _).1, (HD2.out _ _).2⟩
      · have qf1 : (((n + 1 : Nat) : Int) == fails) = false := by rw [beq_eq_false_iff_ne]; exact hf
        have qf2 : ((n : Int) + 1 == fails) = false := by rw [beq_eq_false_iff_ne]; omega
        have HE : Hid (A = (h, 0)) := by
          show _ = _
          rw [HAA.out, if_pos (.inr hf)]
        clear hf
        go_wp2_with fail
        go_quiet (fail)
        go_wp2
        go_ret2
        exact ⟨by rw [HE.out]; rfl, _, _, (HD.out _).1, (HD.out _).2⟩
    · have q0 : (c == 0) = false := by rw [beq_eq_false_iff_ne]; exact hc
      have HE : Hid (A = (h, c)) := by
        show _ = _
        rw [HAA.out, if_pos (.inl hc)]
      have q1 : (c != 0) = true := by rw [bne, q0]; rfl
      have q2 : decide (c = 0) = false := decide_eq_false hc
      go_wp2_with fail
      go_quiet (fail)
      go_wp2
      go_ret2
      exact ⟨by rw [HE.out]; rfl, _, _, (HD.out _).1, (HD.out _).2⟩
end Go.Proofs.YtmmbkfagchaocaaDoor.sd

namespace Go.Proofs.YtmmbkfagchaocaaDoor.se
open Go.RowKit Go.PlainAid Go.Shelf
open Go.Proofs.YtmmbkfagchaocaaDoor.pl Go.Proofs.YtmmbkfagchaocaaDoor.pi Go.Proofs.YtmmbkfagchaocaaDoor.rf Go.Proofs.YtmmbkfagchaocaaDoor.pj Go.Proofs.YtmmbkfagchaocaaDoor.ca Go.Proofs.YtmmbkfagchaocaaDoor.cb Go.Proofs.YtmmbkfagchaocaaDoor.cp Go.Proofs.YtmmbkfagchaocaaDoor.cs Go.Proofs.YtmmbkfagchaocaaDoor.xc Go.Proofs.YtmmbkfagchaocaaDoor.ka Go.Proofs.YtmmbkfagchaocaaDoor.kb Go.Proofs.YtmmbkfagchaocaaDoor.ga Go.Proofs.YtmmbkfagchaocaaDoor.aa Go.Proofs.YtmmbkfagchaocaaDoor.ab Go.Proofs.YtmmbkfagchaocaaDoor.tb Go.Proofs.YtmmbkfagchaocaaDoor.ac Go.Proofs.YtmmbkfagchaocaaDoor.bc Go.Proofs.YtmmbkfagchaocaaDoor.sa Go.Proofs.YtmmbkfagchaocaaDoor.sb Go.Proofs.YtmmbkfagchaocaaDoor.sc Go.Proofs.YtmmbkfagchaocaaDoor.sd
set_option linter.unusedVariables false

theorem look_fits (s : Src) (L I : Int) : 0 ≤ (lookP s L I).2 ∧ (lookP s L I).2 ≤ 80 := by
  unfold lookP
  split
  · split <;> simp
  · simp
theorem node_fits (s : Src) (hc : i64 s.code) (k : Nat) (a : Nat × Nat) : -9223372036854775808 ≤ (askS s k a).2 ∧ (askS s k a).2 ≤ 9223372036854775807 := by
  have := look_fits s a.1 a.2
  have h1 := hc.1
  have h2 := hc.2
  unfold askS nodeP
  split
  · omega
  · split
    · exact ⟨h1, h2⟩
    · split <;> simp
-- the document's own source
def SJ (s : Src) (sb : Nat) (lv : Value) (base : Nat) : (Nat → Prop) → List (Nat × Nat) → World → Prop := fun F l w => ∃ av, Sj s sb lv base av F l w
theorem srcR (s : Src) (sb : Nat) (lv : Value) (base : Nat) (hc : i64 s.code) : Rd 69 #[.pointer (some ⟨sb, 0, none⟩)] #[] (askS s) (SJ s sb lv base) 4294967296 (Dp lv) where
  enter := fun args w => by simp [go_sem]
  call := fun F l a w hl hok ⟨av, h⟩ => by
    refine (nodeS s sb lv base av F l a w hl hok h).mono ?_
    rintro e w' ⟨rfl, av', F', h', g'⟩
    exact ⟨rfl, F', ⟨av', h'⟩, g'⟩
  keep := fun {F G l w w'} ⟨av, h⟩ k hG => ⟨av, h.keep k hG⟩
  big := fun {F l w} ⟨av, h⟩ => h.dep
  within := fun {F l w} ⟨av, h⟩ => h.within
  tab := fun {F l w} ⟨av, h⟩ => h.q.t.t.tb
  fits := fun k a => node_fits s hc k a
-- a reader of it
structure TJ (s : Src) (sb : Nat) (lv : Value) (base tb : Nat) (F : Nat → Prop) (l : List (Nat × Nat)) (w : World) : Prop where
  j : SJ s sb lv base F l w
  c : w.cell? ⟨tb, 0, none⟩ = some (.pointer (some ⟨sb, 0, none⟩))
  o : ¬ F tb
theorem teller (s : Src) (sb : Nat) (lv : Value) (base tb : Nat) (F : Nat → Prop) (l : List (Nat × Nat)) (a : Nat × Nat) (w : World) (hl : l.length < 4294967296) (hok : okA a.1 a.2) (hS : TJ s sb lv base tb F l w) :
    Calls Tryd.prog 56 #[.pointer (some ⟨tb, 0, none⟩), .agg #[.int .i64 a.1, .int .i64 a.2]] w fun e w' => e = .returned (.tuple #[.string (askS s (l.length + 1) a).1, .int .i64 (askS s (l.length + 1) a).2]) ∧ ∃ F', TJ s sb lv base tb F' (l ++ [a]) w' ∧ Goes F w F' w' := by
  obtain ⟨aL, aI⟩ := a
  have BA : Hid (Below w.heap.size w (w.alloc (.cells #[.int .i64 aL, .int .i64 aI] 36))) := (Below.refl _ _).alloc (Nat.le_refl _) _
  obtain ⟨av, h0⟩ := hS.j
  have SA : Hid (Sj s sb lv base av F l (w.alloc (.cells #[.int .i64 aL, .int .i64 aI] 36)).drew) := h0.later (below_dN BA.out 1)
  have NC : Hid (Calls _ _ _ _ _) := nodeS s sb lv base av F l (aL, aI) (w.alloc (.cells #[.int .i64 aL, .int .i64 aI] 36)).drew hl hok SA.out
  have c0 : (w.alloc (.cells #[.int .i64 aL, .int .i64 aI] 36)).cell? ⟨tb, 0, none⟩ = some (.pointer (some ⟨sb, 0, none⟩)) := (BA.out.cell (World.block_lt_of_cell? _ _ hS.c)).trans hS.c
  have HC : Hid ((w.alloc (.cells #[.int .i64 aL, .int .i64 aI] 36)).cell? ⟨tb, 0, none⟩ = some (.pointer (some ⟨sb, 0, none⟩)) ∧ ¬ F tb ∧ tb < w.heap.size) := ⟨c0, hS.o, World.block_lt_of_cell? _ _ hS.c⟩
  obtain ⟨A, HA⟩ : ∃ A, Hid (askS s (l.length + 1) (aL, aI) = A) := ⟨_, rfl⟩
  rw [HA.out] at NC ⊢
  obtain ⟨h, c⟩ := A
  dsimp only at NC
  clear hS hok
  go_enter Tryd.func56, Tryd.ntmps56
  go_wp2_with fail
  go_region_with (first | (go_at_call 69; refine NC.out.mono ?_; rintro e w' ⟨rfl, av', F', h', g'⟩; have H9 : Hid (TJ s sb lv base tb F' (l ++ [(aL, aI)]) w' ∧ Goes F w F' w') := (by have g2 : Goes F (w.alloc (.cells #[.int .i64 aL, .int .i64 aI] 36)) F' w' := (Goes.of_below (below_dN (Below.refl _ _) 1)).trans g'; exact ⟨⟨⟨av', h'⟩, g2.cell HC.out.1 HC.out.2.1, g2.out (by simp; have := HC.out.2.2; omega) HC.out.2.1⟩, (Goes.of_below BA.out).trans g2⟩); clear h' g'))
  all_goals (
    go_wp2
    go_ret2
    exact ⟨rfl, F', H9.out.1, H9.out.2⟩)
theorem telR (s : Src) (sb : Nat) (lv : Value) (base tb : Nat) (hc : i64 s.code) : Rd 56 #[.pointer (some ⟨tb, 0, none⟩)] #[] (askS s) (TJ s sb lv base tb) 4294967296 (fun b => Dp lv b ∨ b = tb) where
  enter := fun args w => by simp [go_sem]
  call := fun F l a w hl hok h => teller s sb lv base tb F l a w hl hok h
  keep := fun {F G l w w'} h k hG => ⟨(srcR s sb lv base hc).keep h.j k (fun b hb => ⟨(hG b hb).1, fun hd => (hG b hb).2 (.inl hd)⟩), k.cell h.c (fun hg => (hG tb hg).2 (.inr rfl)), h.o⟩
  big := fun {F l w} h b hb => by
    rcases hb with hb | rfl
    · exact (srcR s sb lv base hc).big h.j b hb
    · exact World.block_lt_of_cell? _ _ h.c
  within := fun {F l w} h => (srcR s sb lv base hc).within h.j
  tab := fun {F l w} h => (srcR s sb lv base hc).tab h.j
  fits := fun k a => node_fits s hc k a
end Go.Proofs.YtmmbkfagchaocaaDoor.se

namespace Go.Proofs.YtmmbkfagchaocaaDoor.sf
open Go.RowKit Go.PlainAid Go.Shelf
open Go.Proofs.YtmmbkfagchaocaaDoor.pl Go.Proofs.YtmmbkfagchaocaaDoor.pi Go.Proofs.YtmmbkfagchaocaaDoor.rf Go.Proofs.YtmmbkfagchaocaaDoor.pj Go.Proofs.YtmmbkfagchaocaaDoor.ca Go.Proofs.YtmmbkfagchaocaaDoor.cb Go.Proofs.YtmmbkfagchaocaaDoor.cp Go.Proofs.YtmmbkfagchaocaaDoor.cs Go.Proofs.YtmmbkfagchaocaaDoor.cd Go.Proofs.YtmmbkfagchaocaaDoor.xc Go.Proofs.YtmmbkfagchaocaaDoor.ka Go.Proofs.YtmmbkfagchaocaaDoor.kb Go.Proofs.YtmmbkfagchaocaaDoor.ke Go.Proofs.YtmmbkfagchaocaaDoor.ga Go.Proofs.YtmmbkfagchaocaaDoor.aa Go.Proofs.YtmmbkfagchaocaaDoor.ab Go.Proofs.YtmmbkfagchaocaaDoor.tb Go.Proofs.YtmmbkfagchaocaaDoor.ac Go.Proofs.YtmmbkfagchaocaaDoor.bc Go.Proofs.YtmmbkfagchaocaaDoor.bd Go.Proofs.YtmmbkfagchaocaaDoor.sa Go.Proofs.YtmmbkfagchaocaaDoor.sb Go.Proofs.YtmmbkfagchaocaaDoor.sc Go.Proofs.YtmmbkfagchaocaaDoor.sd Go.Proofs.YtmmbkfagchaocaaDoor.se
set_option linter.unusedVariables false

theorem SJ.cells {s : Src} {sb : Nat} {lv : Value} {base : Nat} {F : Nat → Prop} {l : List (Nat × Nat)} {w : World} (h : SJ s sb lv base F l w) : w.cell? ⟨sb, 0, none⟩ = some (.int .i64 s.wd) ∧ w.cell? ⟨sb, 1, none⟩ = some (.int .i64 s.sz) := by
  obtain ⟨av, h⟩ := h
  have := h.q.o.cells
  exact ⟨this.1, this.2.1⟩
-- asking for a part's nodes: what holds ahead of each
structure Hd (s : Src) (sb : Nat) (lv : Value) (sbase : Nat) (nv : Value) (F0 : Nat → Prop) (w0 : World) (l0 L : List (Nat × Nat)) (base : Nat) (k : Nat) (u : Value) (wr : World) (F : Nat → Prop) (l : List (Nat × Nat)) (acc : List ByteArray) : Prop where
  j : SJ s sb lv sbase F l wr
  go : Goes F0 w0 F wr
  nodes : ReadsA wr nv L
  nout : ∀ b off n cap, nv = .slice (some ⟨b, off, none⟩) n cap → ¬ F b ∧ b < base
  own : wr.ownsRow base 9 1 u k (acc.map Value.string)
  bes : Beside F u
  base_le : w0.heap.size ≤ base ∧ base ≤ wr.heap.size
  bx : ∀ b, Dp lv b → b < w0.heap.size
  kk : k ≤ L.length ∧ acc.length = k ∧ l.length = l0.length + k
  eq : tell (okw s.wd) (askS s) l0 L = (acc ++ (tell (okw s.wd) (askS s) l (L.drop k)).1, (tell (okw s.wd) (askS s) l (L.drop k)).2)
  fit : ∀ x ∈ acc, x.size ≤ 1048576
end Go.Proofs.YtmmbkfagchaocaaDoor.sf

namespace Go.Proofs.YtmmbkfagchaocaaDoor.fk
open Go.ChangeShapes Go.WideShapes Go.ChangeAt Go.WideMaps Go.WideElems Go.RowKit
open Go.Proofs.YtmmbkfagchaocaaDoor.pl Go.Proofs.YtmmbkfagchaocaaDoor.ft Go.Proofs.YtmmbkfagchaocaaDoor.fu Go.Proofs.YtmmbkfagchaocaaDoor.fe Go.Proofs.YtmmbkfagchaocaaDoor.xc Go.Proofs.YtmmbkfagchaocaaDoor.tb Go.Proofs.YtmmbkfagchaocaaDoor.sa
set_option linter.unusedVariables false

theorem gP : Tryd.prog.globalNamed "internal/strconv.uint64pow10" = some 4 := by kernel_rfl
theorem tP : (Tryd.prog.globals[4]?).map (·.type) = some 181 := by kernel_rfl
theorem c20 : Tryd.prog.cellsOf 181 = 20 := by kernel_rfl
theorem cu : Tryd.prog.cellsOf 136 = 1 := by kernel_rfl
theorem pData : (Rows.laid_internal_strconv_uint64pow10 : DataW Unit) = Lib.tabData .u64 Lib.pow10Tab := by kernel_rfl
def laid7 : List (String × DataW Unit) := [("annals/annalsref2.first", Rows.laid_annals_annalsref2_first), ("annals/annalsref2.table", Rows.laid_annals_annalsref2_table), ("math/bits.deBruijn32tab", Rows.laid_math_bits_deBruijn32tab), ("math/bits.deBruijn64tab", Rows.laid_math_bits_deBruijn64tab), ("annals/sha.starts", Rows.laid_annals_sha_starts), ("annals/sha.rounds", Rows.laid_annals_sha_rounds), ("internal/strconv.uint64pow10", Rows.laid_internal_strconv_uint64pow10)]
theorem of_laid7 {W : World} (h : laidMetH Tryd.prog laid7 W) : T7 W := by
  rw [MakeChecks.laidMetH_plain _ _ _ (by kernel_rfl)] at h
  have h2 := h.tail
  have h4 := h2.tail.tail
  have h5 := h4.tail
  have h6 := h5.tail
  have h7 := h6.tail
  have x1 : St8 W 0 := by
    obtain ⟨ps, ⟨g1, t1, cs1, f1, p1, q1, hg1, ht1, hv1, hd1, _, _⟩, _, _⟩ := h
    obtain rfl := Option.some.inj (gF.symm.trans hg1)
    obtain rfl := Option.some.inj (tF.symm.trans ht1)
    rw [fData] at hd1
    exact at8 (Lib.cells_of_tab Tryd.underlying142 Tryd.underlying141 c1 c8 hd1) (World.var?_cell hg1 hv1)
  have x2 : K64 W 2 := by
    obtain ⟨ps, ⟨g1, t1, cs1, f1, p1, q1, hg1, ht1, hv1, hd1, _, _⟩, _, _⟩ := h2
    obtain rfl := Option.some.inj (gT.symm.trans hg1)
    obtain rfl := Option.some.inj (tT.symm.trans ht1)
    rw [tData] at hd1
    exact at64 (Lib.cells_of_tab Tryd.underlying149 Tryd.underlying141 c1 c64 hd1) (World.var?_cell hg1 hv1)
  have x4 : TabB W := by
    obtain ⟨ps, ⟨g1, t1, cs1, f1, p1, q1, hg1, ht1, hv1, hd1, _, _⟩, _, _⟩ := h4
    obtain rfl := Option.some.inj (gD.symm.trans hg1)
    obtain rfl := Option.some.inj (tD.symm.trans ht1)
    rw [dbData] at hd1
    exact atD (Lib.cells_of_tab Tryd.underlying147 Tryd.underlying5 cb c64b hd1) (World.var?_cell hg1 hv1)
  have x5 : St8 W 3 := by
    obtain ⟨ps, ⟨g1, t1, cs1, f1, p1, q1, hg1, ht1, hv1, hd1, _, _⟩, _, _⟩ := h5
    obtain rfl := Option.some.inj (gS.symm.trans hg1)
    obtain rfl := Option.some.inj (tS.symm.trans ht1)
    rw [sData] at hd1
    exact at8 (Lib.cells_of_tab Tryd.underlying171 Tryd.underlying141 c1 cW hd1) (World.var?_cell hg1 hv1)
  have x6 : K64 W 5 := by
    obtain ⟨ps, ⟨g1, t1, cs1, f1, p1, q1, hg1, ht1, hv1, hd1, _, _⟩, _, _⟩ := h6
    obtain rfl := Option.some.inj (gR.symm.trans hg1)
    obtain rfl := Option.some.inj (tR.symm.trans ht1)
    rw [rData] at hd1
    exact at64 (Lib.cells_of_tab Tryd.underlying149 Tryd.underlying141 c1 c64 hd1) (World.var?_cell hg1 hv1)
  refine ⟨TB4.of ⟨x1, x2, x4, x5, x6⟩, ?_⟩
  obtain ⟨ps, ⟨g1, t1, cs1, f1, p1, q1, hg1, ht1, hv1, hd1, _, _⟩, _, _⟩ := h7
  obtain rfl := Option.some.inj (gP.symm.trans hg1)
  obtain rfl := Option.some.inj (tP.symm.trans ht1)
  rw [pData] at hd1
  have e1 := Lib.cells_of_tab Tryd.underlying181 Tryd.underlying136 cu c20 hd1
  show W.var? Tryd.prog _ = _
  rw [hv1, ← e1]
end Go.Proofs.YtmmbkfagchaocaaDoor.fk
