import Derived.Test.YtmmbkfagchaocaaDoorA2
import Derived.Test.YtmmbkfagchaocaaDoorB1
import Derived.Deep.AppendLies
import Derived.Deep.RegionLaw
import Derived.Handy
namespace Go.Proofs.YtmmbkfagchaocaaDoor.ke
open Go.RowKit Go.PlainAid
open Go.Proofs.YtmmbkfagchaocaaDoor.pl Go.Proofs.YtmmbkfagchaocaaDoor.pi Go.Proofs.YtmmbkfagchaocaaDoor.pj Go.Proofs.YtmmbkfagchaocaaDoor.rf
open Go.Proofs.YtmmbkfagchaocaaDoor.ca Go.Proofs.YtmmbkfagchaocaaDoor.cb Go.Proofs.YtmmbkfagchaocaaDoor.cp Go.Proofs.YtmmbkfagchaocaaDoor.ka Go.Proofs.YtmmbkfagchaocaaDoor.kb
set_option linter.unusedVariables false

-- the document's Fold
theorem foldP_snoc {α : Type} (E : α) (N : α → α → α) (xs : List α) (k : Nat) (hk : k + 1 < xs.length) : foldP E N (xs.drop k) = N (xs[k]'(by omega)) (foldP E N (xs.drop (k + 1))) := by
  rw [List.drop_eq_getElem_cons (show k < xs.length by omega), List.drop_eq_getElem_cons hk]
  rfl
theorem foldP_last {α : Type} (E : α) (N : α → α → α) (xs : List α) (k : Nat) (hk : k + 1 = xs.length) : foldP E N (xs.drop k) = xs[k]'(by omega) := by
  rw [List.drop_eq_getElem_cons (show k < xs.length by omega), List.drop_of_length_le (by omega)]
  rfl
end Go.Proofs.YtmmbkfagchaocaaDoor.ke

namespace Go.Proofs.YtmmbkfagchaocaaDoor.cc
open Go.RowKit Go.PlainAid
open Go.Proofs.YtmmbkfagchaocaaDoor.ca Go.Proofs.YtmmbkfagchaocaaDoor.cb Go.Proofs.YtmmbkfagchaocaaDoor.cp Go.Proofs.YtmmbkfagchaocaaDoor.cs
set_option linter.unusedVariables false

theorem rgreatest (p hi : Nat) (h : p < hi) (hb : hi ≤ 2 ^ 62) (w : World) :
    Calls Tryd.prog 67 #[.int .i64 p, .int .i64 hi] w fun e w' => e = .returned (.int .i64 (lv p (hi - p) : Nat)) ∧ w' = w := by
  rw [p62] at hb
  have HLV : Hid (Lv p (hi - p) (lv p (hi - p))) := lv_lv p (hi - p) (by omega)
  obtain ⟨R, HR⟩ : ∃ R, Hid (lv p (hi - p) = R) := ⟨_, rfl⟩
  rw [HR.out] at HLV ⊢
  clear HR
  go_enter Tryd.func67, Tryd.ntmps67
  go_wp2
  go_loopw [5] (fun i wr => ∃ k : Nat, i = .int .i64 k ∧ Hid (k ≤ 62 ∧ 2 ^ k ∣ p ∧ 2 ^ k ≤ hi - p) ∧ wr = w) (fun i _ => (62 - intOf i).toNat)
  case atStart => exact ⟨0, rfl, ⟨by omega, Nat.one_dvd _, by show 1 ≤ _; omega⟩, rfl⟩
  case round =>
    obtain ⟨k, rfl, HK, rfl⟩ := hrel
    have hk := HK.out.1
    by_cases h62 : k < 62
    · have h62' : (k : Int) < 62 := by omega
      obtain ⟨t, HT⟩ : ∃ t : Nat, Hid (2 ^ k = t) := ⟨_, rfl⟩
      have hT : (2 : Int) ^ k = (t : Int) := by rw [cast_pow, HT.out]
      have htb : t ≤ 2305843009213693952 := by
        rw [← HT.out]
        exact Nat.le_trans (p2le (show k ≤ 61 by omega)) (by decide)
      have ht0 : 0 < t := by rw [← HT.out]; exact p2 k
      have HS : Hid (2 ^ (k + 1) = 2 * t) := by show _ = _; rw [p2s, HT.out]
      by_cases hd : 2 * t ∣ p
      · have hd' : ((p : Int) % (2 * (t : Int)) == 0) = true := by
          rw [beq_iff_eq]
          exact Int.emod_eq_zero_of_dvd (by exact_mod_cast Int.natCast_dvd_natCast.2 hd)
        by_cases hle : 2 * t ≤ hi - p
        · have hle' : 2 * (t : Int) ≤ (hi : Int) - p := by omega
          have HK2 : Hid (k + 1 ≤ 62 ∧ 2 ^ (k + 1) ∣ p ∧ 2 ^ (k + 1) ≤ hi - p) := by
            rw [HS.out]
            exact ⟨by omega, hd, hle⟩
          clear hd
          go_wp2
          go_roundw
          case rel => exact ⟨k + 1, by go_num, HK2.out, by first | rfl | trivial⟩
          case measure => simp [intOf]; omega
        · have hle' : ¬ 2 * (t : Int) ≤ (hi : Int) - p := by omega
          have HE : Hid (k = R) := Lv.unique ⟨HK.out.1, HK.out.2.1, HK.out.2.2, .inr (.inr (by rw [HS.out]; omega))⟩ HLV.out
          clear hd
          go_wp2
          go_ret
          exact ⟨by rw [HE.out]; rfl, rfl⟩
      · have hd' : ((p : Int) % (2 * (t : Int)) == 0) = false := by
          rw [beq_eq_false_iff_ne]
          intro e
          exact hd (by
            have := Int.dvd_of_emod_eq_zero e
            exact Int.natCast_dvd_natCast.1 (by simpa using this))
        have HE : Hid (k = R) := Lv.unique ⟨HK.out.1, HK.out.2.1, HK.out.2.2, .inr (.inl (by rw [HS.out]; exact hd))⟩ HLV.out
        clear hd
        go_wp2
        go_ret
        exact ⟨by rw [HE.out]; rfl, rfl⟩
    · have h62' : ¬ (k : Int) < 62 := by omega
      have HE : Hid (k = R) := Lv.unique ⟨HK.out.1, HK.out.2.1, HK.out.2.2, .inl (by omega)⟩ HLV.out
      go_wp2
      go_ret
      exact ⟨by rw [HE.out]; rfl, rfl⟩
end Go.Proofs.YtmmbkfagchaocaaDoor.cc

namespace Go.Proofs.YtmmbkfagchaocaaDoor.cd
open Go.RowKit Go.PlainAid
open Go.Proofs.YtmmbkfagchaocaaDoor.ca Go.Proofs.YtmmbkfagchaocaaDoor.cb Go.Proofs.YtmmbkfagchaocaaDoor.cp Go.Proofs.YtmmbkfagchaocaaDoor.cs Go.Proofs.YtmmbkfagchaocaaDoor.cc
set_option linter.unusedVariables false

set_option maxHeartbeats 1600000 in
theorem rCover (lo hi : Int) (h0 : -9223372036854775808 ≤ lo) (h1 : lo ≤ 9223372036854775807) (h2 : -9223372036854775808 ≤ hi) (h3 : hi ≤ 9223372036854775807) (w : World) :
    Calls Tryd.prog 53 #[.int .i64 lo, .int .i64 hi] w fun e w' => Rowed w w' e lo hi ∧ Below w.heap.size w w' := by
  by_cases hok : okR lo hi
  · obtain ⟨p0, rfl⟩ : ∃ p : Nat, lo = p := ⟨lo.toNat, by have := hok.1; omega⟩
    obtain ⟨n, rfl⟩ : ∃ n : Nat, hi = n := ⟨hi.toNat, by have := hok.1; have := hok.2.1; omega⟩
    have hn : n ≤ 4611686018427387904 := by have := hok.2.2; omega
    have hpn : p0 ≤ n := by have := hok.2.1; omega
    have HI : Hid (covI p0 n = cov p0 n) := by show _ = _; unfold covI; rw [if_pos hok]; rfl
    have HE : Hid (covE p0 n = 0) := by show _ = _; unfold covE; rw [if_pos hok]
    have HLN : Hid ((cov p0 n).length ≤ 122) := by have := covI_len p0 n; rw [HI.out] at this; exact this
    obtain ⟨iA, hi, hz0, hz1, hz2⟩ := info_parts hiA
    have HIN : Hid (_ ∧ _ ∧ _ ∧ _) := ⟨hi, hz0, hz1, hz2⟩
    have G : Hid (∀ (p : Nat) (w : World), p < n → Calls Tryd.prog 67 #[.int .i64 p, .int .i64 n] w fun e w' => e = .returned (.int .i64 (lv p (n - p) : Nat)) ∧ w' = w) := fun p w hp => rgreatest p n hp (by rw [p62]; exact hn) w
    have t1 : ¬ (p0 : Int) < 0 := by omega
    have t2 : ¬ (n : Int) < p0 := by omega
    have t3 : ¬ (n : Int) > 4611686018427387904 := by omega
    clear hi hz0 hz1 hz2 hok
    go_enter Tryd.func53, Tryd.ntmps53
    go_wp2
    go_loopw [6, 7] (fun o i wr => ∃ (q : Nat) (done : List (Nat × Nat)), q ≤ n ∧ i = .int .i64 q ∧ Hid (done ++ cov q n = cov p0 n ∧ wr.ownsRow w.heap.size 36 2 o done.length (cls done) ∧ Below w.heap.size w wr)) (fun _ i _ => (n - intOf i).toNat)
    case atStart => exact ⟨p0, [], hpn, rfl, rfl, World.ownsRow_nil _ _ _ _, Below.refl _ _⟩
    case round =>
      obtain ⟨q, done, hq, rfl, HL⟩ := hrel
      by_cases hlt : q < n
      · have hlt' : (q : Int) < n := by omega
        have HLV := lv_lv q (n - q) (by omega)
        obtain ⟨k, HK⟩ : ∃ k, Hid (lv q (n - q) = k) := ⟨_, rfl⟩
        rw [HK.out] at HLV
        have hk := HLV.1
        obtain ⟨t, HT⟩ : ∃ t : Nat, Hid (2 ^ k = t) := ⟨_, rfl⟩
        have hT : (2 : Int) ^ k = (t : Int) := by rw [cast_pow, HT.out]
        have htn : q + t ≤ n := by have := HLV.2.2.1; rw [HT.out] at this; omega
        have ht0 : 0 < t := by rw [← HT.out]; exact p2 k
        have HC : Hid (cov q n = (k, q / t) :: cov (q + t) n) := by
          show _ = _
          rw [cov_at hlt HLV, HT.out]
        have hdl : done.length ≤ 121 := by
          have := HLN.out
          rw [← HL.out.1, HC.out, List.length_append, List.length_cons] at this
          omega
        have HDS : Hid (done ++ [(k, q / t)] ++ cov (q + t) n = cov p0 n) := by
          show _ = _
          rw [← HL.out.1, HC.out, List.append_assoc]
          rfl
        obtain ⟨m, HM⟩ : ∃ m, Hid (done.length = m) := ⟨_, rfl⟩
        rw [HM.out] at hdl
        have hdv : ((q : Int) / (t : Int)) = ((q / t : Nat) : Int) := (Int.natCast_ediv q t).symm
        obtain ⟨d, HD⟩ : ∃ d, Hid (q / t = d) := ⟨_, rfl⟩
        rw [HD.out] at hdv HDS
        have HO : Hid ((wr.alloc (.cells #[.int .i64 (k : Nat), .int .i64 (d : Nat)] 36)).ownsRow w.heap.size 36 2 u6 m (cls done)) := by
          have := HL.out.2.1.alloc (.cells #[.int .i64 (k : Nat), .int .i64 (d : Nat)] 36)
          rw [HM.out] at this
          exact this
        have HB : Hid (Below w.heap.size w (wr.alloc (.cells #[.int .i64 (k : Nat), .int .i64 (d : Nat)] 36))) := HL.out.2.2.alloc HL.out.2.2.size _
        clear HLV
        go_wp2_with fail
        refine (G.out q _ hlt).mono ?_
        rintro e w1 ⟨rfl, hw1⟩
        subst hw1
        rw [HK.out]
        go_wp2_with (at_builtin; refine wpList_append_own _ rfl _ _ 63 rfl w.heap.size 36 iA (.agg #[.int .i64 0, .int .i64 0]) 2 16 Tryd.underlying63 HIN.out.1 HIN.out.2.1 HIN.out.2.2.1 HIN.out.2.2.2 rfl (by decide) _ m _ rfl HO.out ⟨w1.heap.size, 0, none⟩ 1 1 [.int .i64 (k : Nat), .int .i64 (d : Nat)] rfl rfl (two_cells _ _ _ _) (fun u hu => by simp at hu; rcases hu with rfl | rfl <;> rfl) (by unfold maxLen; omega) (by omega) HB.out.size ?_; intro v' w3 hown' hgrow3 hnil3; have HO3 : Hid (World.ownsRow _ _ _ _ _ _ _) := hown'; have HB3 : Hid (Below w.heap.size w w3) := Below.grown HB.out hgrow3 HB.out.size (fun j hj => (HO.out.lt _ hj).1); clear hown' hgrow3 hnil3)
        go_roundw
        case rel =>
          refine ⟨q + t, done ++ [(k, d)], htn, by go_num, HDS.out, ?_, HB3.out⟩
          rw [List.length_append, HM.out, cls_app]
          exact HO3.out
        case measure => simp [intOf]; omega
      · have hlt' : ¬ (q : Int) < n := by omega
        have HD : Hid (done = cov p0 n) := by
          have := HL.out.1
          rw [cov_end hlt, List.append_nil] at this
          exact this
        go_wp2
        go_ret2
        refine ⟨⟨u6, by rw [HE.out]; rfl, ?_⟩, HL.out.2.2⟩
        rw [HI.out, ← HD.out]
        exact HL.out.2.1
  · have HI : Hid (covI lo hi = []) := by show _ = _; unfold covI; rw [if_neg hok]
    have HE : Hid (covE lo hi = 10) := by show _ = _; unfold covE; rw [if_neg hok]
    have fin : ∀ e w', e = .returned (.tuple #[.slice none 0 0, .int .i64 10]) ∧ w' = w → Rowed w w' e lo hi ∧ Below w.heap.size w w' := by
      rintro e w' ⟨rfl, rfl⟩
      refine ⟨⟨_, by rw [HE.out], ?_⟩, Below.refl _ _⟩
      rw [HI.out]
      exact World.ownsRow_nil _ _ _ _
    refine Calls.mono ?_ fin
    unfold okR at hok
    by_cases a1 : lo < 0
    · go_enter Tryd.func53, Tryd.ntmps53
      go_wp2
      go_ret2
      exact ⟨rfl, rfl⟩
    · by_cases a2 : hi < lo
      · go_enter Tryd.func53, Tryd.ntmps53
        go_wp2
        go_ret2
        exact ⟨rfl, rfl⟩
      · have a3 : hi > 4611686018427387904 := by omega
        clear hok fin
        go_enter Tryd.func53, Tryd.ntmps53
        go_wp2
        go_ret2
        exact ⟨rfl, rfl⟩
end Go.Proofs.YtmmbkfagchaocaaDoor.cd

namespace Go.Proofs.YtmmbkfagchaocaaDoor.rg
open Go.RowKit Go.PlainAid
open Go.Proofs.YtmmbkfagchaocaaDoor.pl Go.Proofs.YtmmbkfagchaocaaDoor.pi Go.Proofs.YtmmbkfagchaocaaDoor.pj Go.Proofs.YtmmbkfagchaocaaDoor.rf Go.Proofs.YtmmbkfagchaocaaDoor.ca Go.Proofs.YtmmbkfagchaocaaDoor.cb Go.Proofs.YtmmbkfagchaocaaDoor.cp Go.Proofs.YtmmbkfagchaocaaDoor.cs Go.Proofs.YtmmbkfagchaocaaDoor.cd Go.Proofs.YtmmbkfagchaocaaDoor.ka Go.Proofs.YtmmbkfagchaocaaDoor.kb Go.Proofs.YtmmbkfagchaocaaDoor.ke Go.Proofs.YtmmbkfagchaocaaDoor.ga Go.Proofs.YtmmbkfagchaocaaDoor.gb Go.Proofs.YtmmbkfagchaocaaDoor.na Go.Proofs.YtmmbkfagchaocaaDoor.nb Go.Proofs.YtmmbkfagchaocaaDoor.nc Go.Proofs.YtmmbkfagchaocaaDoor.oa Go.Proofs.YtmmbkfagchaocaaDoor.ob Go.Proofs.YtmmbkfagchaocaaDoor.qa Go.Proofs.YtmmbkfagchaocaaDoor.qb Go.Proofs.YtmmbkfagchaocaaDoor.qc
set_option linter.unusedVariables false

theorem rWidth (m : Int) (w : World) : Calls Tryd.prog 30 #[.int .i64 m] w fun e w' => e = .returned (.int .i64 (wid m)) ∧ w' = w := by
  by_cases h1 : m < 1
  · rw [show wid m = 32 by unfold wid; rw [if_pos (.inl h1)]]
    go_enter Tryd.func30, Tryd.ntmps30
    go_wp2
    go_ret
    exact ⟨rfl, rfl⟩
  · by_cases h2 : 32 < m
    · rw [show wid m = 32 by unfold wid; rw [if_pos (.inr h2)]]
      go_enter Tryd.func30, Tryd.ntmps30
      go_wp2
      go_ret
      exact ⟨rfl, rfl⟩
    · obtain ⟨k, rfl⟩ : ∃ k : Nat, m = k := ⟨m.toNat, by omega⟩
      rw [show wid (k : Int) = k by unfold wid; rw [if_neg (fun h => h.elim h1 h2)]; omega]
      go_enter Tryd.func30, Tryd.ntmps30
      go_wp2
      go_ret
      exact ⟨rfl, rfl⟩
set_option maxHeartbeats 1600000 in
theorem rCheck (wd lo hi : Int) (hlo : i64 lo) (hhi : i64 hi) (u : Value) (hs : List ByteArray) (w : World) (hR : ReadsT w u hs) (hf : Fits hs) :
    Calls Tryd.prog 29 #[.int .i64 wd, FV lo hi u] w fun e w' => e = .returned (.int .i64 (chkE wd lo hi hs)) ∧ Below w.heap.size w w' := by
  have BA : Below w.heap.size w (w.alloc (.cells #[.int .i64 lo, .int .i64 hi, u] 24)) := (Below.refl _ _).alloc (Nat.le_refl _) _
  have F0 : Hid (Fx (w.alloc (.cells #[.int .i64 lo, .int .i64 hi, u] 24)) w.heap.size lo hi u) := fx_new _ _ _ _
  have CV : Hid (Calls _ _ _ _ _) := rCover lo hi hlo.1 hlo.2 hhi.1 hhi.2 (w.alloc (.cells #[.int .i64 lo, .int .i64 hi, u] 24))
  have WD : Hid (∀ w, Calls _ _ _ _ _) := fun w => rWidth wd w
  have HB0 : Hid (Below _ _ _) := BA
  have HRD : Hid (ReadsT w u hs) := hR
  have hW := (wid_in wd).2
  have hnm := hf.many
  have HZ : Hid (∀ x ∈ hs, x.size ≤ 140737488352000) := hf.each
  obtain ⟨a, cap, rfl, hcap, hh⟩ := hR
  obtain ⟨n, HN⟩ : ∃ n, Hid (hs.length = n) := ⟨_, rfl⟩
  obtain ⟨W, HW⟩ : ∃ W, Hid (wid wd = W) := ⟨_, rfl⟩
  obtain ⟨R, HRR⟩ : ∃ R, Hid (chkE wd lo hi hs = R) := ⟨_, rfl⟩
  rw [HRR.out]
  rw [HN.out] at HRD hcap hnm F0 CV HB0 ⊢
  rw [HW.out] at WD hW
  obtain ⟨d1, d2, d3⟩ := F0.out.fb
  clear BA hh hf hlo hhi
  by_cases hok : okR lo hi
  · have hE : covE lo hi = 0 := by unfold covE; rw [if_pos hok]
    obtain ⟨l, HL⟩ : ∃ l : Nat, Hid ((covI lo hi).length = l) := ⟨_, rfl⟩
    have l122 : l ≤ 122 := by rw [← HL.out]; exact covI_len lo hi
    have HR1 : Hid (R = if l = n then (if ∀ h ∈ hs, h.size = wid wd then 0 else 72) else 71) := by
      show _ = _
      rw [← HRR.out]
      unfold chkE
      rw [if_pos hok, HL.out, HN.out]
    by_cases hln : l = n
    · subst hln
      have hq : ((l : Int) == (l : Int)) = true := beq_self_eq_true _
      go_enter Tryd.func29, Tryd.ntmps29
      go_wp2_with fail
      refine CV.out.mono ?_
      rintro e w2 ⟨⟨vv, rfl, ho⟩, hb⟩
      obtain ⟨va, vc, rfl⟩ := own_formS ho
      rw [hE, HL.out]
      have B2 : Hid (Below w.heap.size w w2) := over HB0.out hb
      obtain ⟨e1, e2, e3⟩ := (F0.out.on hb).fb
      have RD2 : Hid (ReadsT w2 (.slice a l cap) hs) := HRD.out.later B2.out
      clear ho hb d1 d2 d3
      go_wp2_with fail
      refine (WD.out _).mono ?_
      rintro e w3 ⟨rfl, hw⟩
      rw [hw]
      clear hw
      go_wp2
      go_loopw [8] (fun i wr => ∃ k : Nat, k ≤ l ∧ i = .int .i64 k ∧ Hid (∀ t, t < k → ∀ x, hs[t]? = some x → x.size = wid wd) ∧ wr = w2) (fun i _ => (l - intOf i).toNat)
      case atStart => exact ⟨0, by omega, rfl, fun t ht => by omega, rfl⟩
      case round =>
        obtain ⟨k, hk, rfl, HK, rfl⟩ := hrel
        by_cases hlt : k < l
        · have hlt' : (k : Int) < l := by omega
          have hkx : k < hs.length := by rw [HN.out]; exact hlt
          obtain ⟨x, HX⟩ : ∃ x, Hid (hs[k]? = some x) := ⟨_, List.getElem?_eq_getElem hkx⟩
          obtain ⟨b, off, rfl, hc⟩ : ∃ b off, a = some ⟨b, off, none⟩ ∧ wr.cell? ⟨b, off + k, none⟩ = some (.string x) := by
            obtain ⟨a', cap', e, _, h0 | ⟨b, off, e4, hh⟩⟩ := RD2.out
            · omega
            · injection e with e1 _ _
              refine ⟨b, off, by rw [e1]; exact e4, ?_⟩
              rw [hh k hkx, List.getD_eq_getElem?_getD, HX.out]
              rfl
          have hxs : x.size ≤ 140737488352000 := HZ.out x (List.mem_of_getElem? HX.out)
          by_cases hxw : x.size = W
          · have hb1 : ((x.size : Int) == (W : Int)) = true := by rw [beq_iff_eq]; omega
            have HXW : Hid (x.size = W) := hxw
            clear hxw
            go_wp2
            go_roundw
            case rel =>
              refine ⟨k + 1, by omega, by go_num, ?_, by first | rfl | trivial⟩
              intro t ht y hy
              rcases Nat.lt_or_ge t k with h | h
              · exact HK.out t h y hy
              · obtain rfl : t = k := by omega
                rw [HX.out] at hy
                obtain rfl := Option.some.inj hy
                rw [HXW.out, HW.out]
            case measure => simp [intOf]; omega
          · have hb1 : ((x.size : Int) == (W : Int)) = false := by rw [beq_eq_false_iff_ne]; omega
            have HE : Hid (R = 72) := by
              rw [HR1.out, if_pos trivial, if_neg]
              · rfl
              · intro hall
                exact hxw (by rw [hall x (List.mem_of_getElem? HX.out), HW.out])
            clear hxw
            go_wp2
            go_ret
            exact ⟨by rw [HE.out]; rfl, B2.out⟩
        · have hlt' : ¬ (k : Int) < l := by omega
          have HE : Hid (R = 0) := by
            rw [HR1.out, if_pos trivial, if_pos]
            · rfl
            · intro x hx
              obtain ⟨t, ht, rfl⟩ := List.getElem_of_mem hx
              exact HK.out t (by rw [HN.out] at ht; omega) _ (List.getElem?_eq_getElem ht)
          go_wp2
          go_ret
          exact ⟨by rw [HE.out]; rfl, B2.out⟩
    · have hq : ((l : Int) == (n : Int)) = false := by rw [beq_eq_false_iff_ne]; omega
      have HE : Hid (R = 71) := by rw [HR1.out, if_neg hln]; rfl
      clear hln
      go_enter Tryd.func29, Tryd.ntmps29
      go_wp2_with fail
      refine CV.out.mono ?_
      rintro e w2 ⟨⟨vv, rfl, ho⟩, hb⟩
      obtain ⟨va, vc, rfl⟩ := own_formS ho
      rw [hE, HL.out]
      have B2 : Hid (Below w.heap.size w w2) := over HB0.out hb
      obtain ⟨e1, e2, e3⟩ := (F0.out.on hb).fb
      clear ho hb d1 d2 d3
      go_wp2
      go_ret
      exact ⟨by rw [HE.out]; rfl, B2.out⟩
  · have hE : covE lo hi = 10 := by unfold covE; rw [if_neg hok]
    have HE : Hid (R = 10) := by
      show _ = _
      rw [← HRR.out]
      unfold chkE
      rw [if_neg hok]
    clear hok
    go_enter Tryd.func29, Tryd.ntmps29
    go_wp2_with fail
    refine CV.out.mono ?_
    rintro e w2 ⟨⟨vv, rfl, ho⟩, hb⟩
    obtain ⟨va, vc, rfl⟩ := own_formS ho
    rw [hE]
    have B2 : Hid (Below w.heap.size w w2) := over HB0.out hb
    clear ho hb
    go_wp2
    go_ret
    exact ⟨by rw [HE.out]; rfl, B2.out⟩
end Go.Proofs.YtmmbkfagchaocaaDoor.rg

namespace Go.Proofs.YtmmbkfagchaocaaDoor.rl
open Go.RowKit Go.PlainAid
open Go.Proofs.YtmmbkfagchaocaaDoor.pl Go.Proofs.YtmmbkfagchaocaaDoor.pi Go.Proofs.YtmmbkfagchaocaaDoor.pj Go.Proofs.YtmmbkfagchaocaaDoor.rf Go.Proofs.YtmmbkfagchaocaaDoor.ca Go.Proofs.YtmmbkfagchaocaaDoor.cb Go.Proofs.YtmmbkfagchaocaaDoor.cp Go.Proofs.YtmmbkfagchaocaaDoor.cs Go.Proofs.YtmmbkfagchaocaaDoor.cd Go.Proofs.YtmmbkfagchaocaaDoor.kb Go.Proofs.YtmmbkfagchaocaaDoor.ka Go.Proofs.YtmmbkfagchaocaaDoor.ga Go.Proofs.YtmmbkfagchaocaaDoor.gb Go.Proofs.YtmmbkfagchaocaaDoor.na Go.Proofs.YtmmbkfagchaocaaDoor.nb Go.Proofs.YtmmbkfagchaocaaDoor.nc Go.Proofs.YtmmbkfagchaocaaDoor.oa Go.Proofs.YtmmbkfagchaocaaDoor.ob Go.Proofs.YtmmbkfagchaocaaDoor.qa Go.Proofs.YtmmbkfagchaocaaDoor.qb Go.Proofs.YtmmbkfagchaocaaDoor.qc Go.Proofs.YtmmbkfagchaocaaDoor.qd Go.Proofs.YtmmbkfagchaocaaDoor.rg
set_option linter.unusedVariables false

theorem made_new (W : World) (x : Md) : ∀ (j : Nat) (u : Value), (ml x)[j]? = some u → (W.alloc (.cells #[.int .i64 (x.1.1 : Nat), .int .i64 (x.1.2 : Nat), .string x.2] 38)).drew.cell? (Addr.add ⟨W.heap.size, 0, none⟩ j) = some u := by
  intro j u hu
  exact three_cells W _ _ _ 38 j u hu
theorem hb_dr {w w' : World} (h : Hb w w') : Hb w w'.drew := below_dN h 1
set_option maxHeartbeats 3200000 in
set_option maxRecDepth 100000 in
theorem ropen (lo hi : Int) (hlo : i64 lo) (hhi : i64 hi) (u : Value) (hs : List ByteArray) (w : World) (hR : ReadsT w u hs) (hl : (covI lo hi).length = hs.length) :
    Calls Tryd.prog 31 #[FV lo hi u] w fun e w' => (∃ m, e = .returned m ∧ Mades w' w.heap.size m (opened lo hi hs)) ∧ Below w.heap.size w w' := by
  obtain ⟨i9, hi9', hz0, hz1, hz2⟩ := info_parts hiM
  have HIN : Hid (_ ∧ _ ∧ _ ∧ _) := ⟨hi9', hz0, hz1, hz2⟩
  have BA : Below w.heap.size w (w.alloc (.cells #[.int .i64 lo, .int .i64 hi, u] 24)) := (Below.refl _ _).alloc (Nat.le_refl _) _
  have F0 : Hid (Fx (w.alloc (.cells #[.int .i64 lo, .int .i64 hi, u] 24)) w.heap.size lo hi u) := fx_new _ _ _ _
  have CV : Hid (Calls _ _ _ _ _) := rCover lo hi hlo.1 hlo.2 hhi.1 hhi.2 (w.alloc (.cells #[.int .i64 lo, .int .i64 hi, u] 24))
  have HB0 : Hid (Below _ _ _) := BA
  have HRD : Hid (ReadsT w u hs) := hR
  have l122 := covI_len lo hi
  have HO : Hid ((opened lo hi hs).length = hs.length) := by show _ = _; unfold opened; rw [List.length_zip, hl, Nat.min_self]
  have HOG : Hid (∀ k a h, (covI lo hi)[k]? = some a → hs[k]? = some h → (opened lo hi hs)[k]? = some (a, h)) := fun k a h h1 h2 => by unfold opened; rw [List.getElem?_zip_eq_some]; exact ⟨h1, h2⟩
  have HL : Hid ((covI lo hi).length = hs.length) := hl
  obtain ⟨d1, d2, d3⟩ := F0.out.fb
  obtain ⟨a, cap, rfl, hcap, hh⟩ := hR
  obtain ⟨n, HN⟩ : ∃ n, Hid (hs.length = n) := ⟨_, rfl⟩
  obtain ⟨op, HOP⟩ : ∃ op, Hid (opened lo hi hs = op) := ⟨_, rfl⟩
  rw [HOP.out] at HO HOG ⊢
  rw [hl] at l122
  rw [HN.out] at F0 CV HB0 HRD HO HL d3 hcap l122 ⊢
  clear BA hh hlo hhi hi9' hz0 hz1 hz2 hl
  go_enter Tryd.func31, Tryd.ntmps31
  go_wp2_with fail
  refine CV.out.mono ?_
  rintro e w2 ⟨⟨vv, rfl, ho⟩, hb⟩
  have HA : Hid (ReadsA w2 vv (covI lo hi)) := own_readsA ho
  obtain ⟨va, vc, rfl⟩ := own_formS ho
  rw [HL.out] at HA ⊢
  have B2 : Hid (Below w.heap.size w w2) := over HB0.out hb
  have F2 : Hid (Fx w2 w.heap.size lo hi (.slice a n cap)) := F0.out.on hb
  have RD2 : Hid (ReadsT w2 (.slice a n cap) hs) := HRD.out.later B2.out
  clear ho hb d1 d2 d3 F0 CV HB0
  go_wp2
  go_loopw [5, 6] (fun out i wr => ∃ (v : Value) (k : Nat), k ≤ n ∧ out = v ∧ i = .int .i64 k ∧ Hid (wr.ownsRow w2.heap.size 38 3 v k (mls (op.take k))) ∧ Hid (Hb w2 wr)) (fun _ i _ => (n - intOf i).toNat)
  case atStart => exact ⟨_, 0, by omega, rfl, rfl, World.ownsRow_nil _ _ _ _, Below.refl _ _⟩
  case round =>
    obtain ⟨v, k, hk, rfl, rfl, HV, HBR⟩ := hrel
    obtain ⟨ua, uc, rfl⟩ := own_formS HV.out
    by_cases hlt : k < n
    · have hlt' : (k : Int) < n := by omega
      have hkx : k < hs.length := by rw [HN.out]; exact hlt
      have hkc : k < (covI lo hi).length := by rw [HL.out]; exact hlt
      obtain ⟨x, HX⟩ : ∃ x, Hid (hs[k]? = some x) := ⟨_, List.getElem?_eq_getElem hkx⟩
      obtain ⟨L, I, HC⟩ : ∃ L I : Nat, Hid ((covI lo hi)[k]? = some (L, I)) := ⟨((covI lo hi)[k]'hkc).1, ((covI lo hi)[k]'hkc).2, List.getElem?_eq_getElem hkc⟩
      obtain ⟨bc, rfl, c1, c2⟩ := row_at HA.out HC.out
      obtain ⟨b, off, rfl, hc⟩ : ∃ b off, a = some ⟨b, off, none⟩ ∧ w2.cell? ⟨b, off + k, none⟩ = some (.string x) := by
        obtain ⟨a', cap', e, _, h0 | ⟨b, off, e4, hh⟩⟩ := RD2.out
        · omega
        · injection e with e1 _ _
          refine ⟨b, off, by rw [e1]; exact e4, ?_⟩
          rw [hh k hkx, List.getD_eq_getElem?_getD, HX.out]
          rfl
      have d3 := F2.out.fb.z
      have S4 : Hid (∀ w', Hb w2 w' → Hb w2 w' ∧ w'.cell? ⟨bc, k * 2, none⟩ = some (.int .i64 L) ∧ w'.cell? ⟨bc, k * 2 + 1, none⟩ = some (.int .i64 I) ∧ w'.cell? ⟨w.heap.size, 2, none⟩ = some (.slice (some ⟨b, off, none⟩) n cap) ∧ w'.cell? ⟨b, off + k, none⟩ = some (.string x)) := fun w' h => ⟨h, h.cell c1, h.cell c2, h.cell d3, h.cell hc⟩
      have OX : Hid ((wr.alloc (.cells #[.int .i64 L, .int .i64 I, .string x] 38)).drew.ownsRow w2.heap.size 38 3 (.slice ua k uc) k (mls (op.take k))) := World.ownsRow.drew (HV.out.alloc _)
      have BX : Hid (Hb w2 (wr.alloc (.cells #[.int .i64 L, .int .i64 I, .string x] 38)).drew) := hb_dr (HBR.out.alloc _)
      have NX : Hid (∀ (j : Nat) (u : Value), (ml ((L, I), x))[j]? = some u → (wr.alloc (.cells #[.int .i64 L, .int .i64 I, .string x] 38)).drew.cell? (Addr.add ⟨wr.heap.size, 0, none⟩ j) = some u) := made_new wr ((L, I), x)
      clear c1 c2 d3 hc
      go_wp2_with fail
      go_region_held3 (fun w' => Hb w2 w' ∧ w'.cell? ⟨bc, k * 2, none⟩ = some (.int .i64 L) ∧ w'.cell? ⟨bc, k * 2 + 1, none⟩ = some (.int .i64 I) ∧ w'.cell? ⟨w.heap.size, 2, none⟩ = some (.slice (some ⟨b, off, none⟩) n cap) ∧ w'.cell? ⟨b, off + k, none⟩ = some (.string x)) (first | exact S4.out _ (hb_dr HBR.out) | exact S4.out _ BX.out | exact S4.out _ HW.out) ((refine step_append_lies _ (by rfl) _ _ 25 (by rfl) w2.heap.size 38 i9 (.agg #[.int .i64 0, .int .i64 0, .string ByteArray.empty]) 3 32 Tryd.underlying25 HIN.out.1 HIN.out.2.1 HIN.out.2.2.1 HIN.out.2.2.2 rfl (by decide) _ k _ (by rfl) OX.out ⟨wr.heap.size, 0, none⟩ 1 1 (ml ((L, I), x)) (by rfl) rfl NX.out (one_made _) (by omega) (by unfold maxLen; omega) (by omega) BX.out.size _ rfl ?_; intro g7 cap7 w7 hown7 hgrow7 hlies7 hglt7; have HW : Hid (Hb w2 w7) := Below.grown BX.out hgrow7 BX.out.size (fun jj hj => (OX.out.lt _ hj).1); have HO7 : Hid (World.ownsRow _ _ _ _ _ _ _) := hown7; clear hown7 hgrow7 hlies7 hglt7))
      go_wp2
      go_roundw
      case rel =>
        refine ⟨_, k + 1, by omega, rfl, by go_num, ?_, HW.out⟩
        have e : op.take (k + 1) = op.take k ++ [((L, I), x)] := by rw [List.take_add_one, HOG.out k _ _ HC.out HX.out]; rfl
        rw [e, mls_app, mls_one]
        exact HO7.out
      case measure => simp [intOf]; omega
    · have hlt' : ¬ (k : Int) < n := by omega
      obtain rfl : k = n := by omega
      have hV := HV.out
      rw [List.take_of_length_le (by rw [HO.out]; omega)] at hV
      have O9 : Hid (wr.ownsRow w.heap.size 38 3 (.slice ua k uc) k (mls op)) := own_down hV B2.out.size
      have B9 : Hid (Below w.heap.size w wr) := over B2.out HBR.out
      clear hV
      go_wp2
      go_ret
      refine ⟨⟨_, rfl, ?_⟩, B9.out⟩
      unfold Mades
      rw [HO.out]
      exact O9.out
end Go.Proofs.YtmmbkfagchaocaaDoor.rl

namespace Go.Proofs.YtmmbkfagchaocaaDoor.rn
open Go.RowKit Go.PlainAid
open Go.Proofs.YtmmbkfagchaocaaDoor.pl Go.Proofs.YtmmbkfagchaocaaDoor.pi Go.Proofs.YtmmbkfagchaocaaDoor.pj Go.Proofs.YtmmbkfagchaocaaDoor.rf Go.Proofs.YtmmbkfagchaocaaDoor.ca Go.Proofs.YtmmbkfagchaocaaDoor.cb Go.Proofs.YtmmbkfagchaocaaDoor.cp Go.Proofs.YtmmbkfagchaocaaDoor.cs Go.Proofs.YtmmbkfagchaocaaDoor.kb Go.Proofs.YtmmbkfagchaocaaDoor.ka Go.Proofs.YtmmbkfagchaocaaDoor.ga Go.Proofs.YtmmbkfagchaocaaDoor.gb Go.Proofs.YtmmbkfagchaocaaDoor.na Go.Proofs.YtmmbkfagchaocaaDoor.nb Go.Proofs.YtmmbkfagchaocaaDoor.nc Go.Proofs.YtmmbkfagchaocaaDoor.oa Go.Proofs.YtmmbkfagchaocaaDoor.ob Go.Proofs.YtmmbkfagchaocaaDoor.qa Go.Proofs.YtmmbkfagchaocaaDoor.qb Go.Proofs.YtmmbkfagchaocaaDoor.qc Go.Proofs.YtmmbkfagchaocaaDoor.qd Go.Proofs.YtmmbkfagchaocaaDoor.rg Go.Proofs.YtmmbkfagchaocaaDoor.rl
set_option linter.unusedVariables false

-- the run under way: a block with two rows
def Rx (w : World) (p : Nat) (vn vw : Value) : Prop := w.heap[p]? = some (.cells #[vn, vw] 74 (0, 0))
theorem Rx.lt {w : World} {p : Nat} {vn vw : Value} (h : Rx w p vn vw) : p < w.heap.size := (Array.getElem?_eq_some_iff.1 h).1
theorem Rx.one {w : World} {p : Nat} {vn vw : Value} (h : Rx w p vn vw) : w.cell? ⟨p, 0, none⟩ = some vn := by rw [cell_of_row _ _ _ _ _ _ h]; rfl
theorem Rx.two {w : World} {p : Nat} {vn vw : Value} (h : Rx w p vn vw) : w.cell? ⟨p, 1, none⟩ = some vw := by rw [cell_of_row _ _ _ _ _ _ h]; rfl
theorem rx_far {w : World} {p B e s n g : Nat} {vn vw v : Value} {xs : List Value} (h : Rx w p vn vw) (ho : w.ownsRow B e s v n xs) (hne : e ≠ 74) (hg : v.ownBlock = some g) : p ≠ g := by
  rintro rfl
  rcases ho.2 with ⟨rfl, _⟩ | ⟨g', cap', cur', rfl, _, hgg', _⟩
  · cases hg
  · have e1 : g' = p := Option.some.inj hg
    subst e1
    unfold Rx at h
    rw [h] at hgg'
    simp only [Option.some.injEq, Obj.cells.injEq] at hgg'
    exact hne hgg'.2.1.symm
-- blocks that are there are as they were, but for the run and its two rows
structure Kq (w w' : World) (p : Nat) (a b : Option Nat) : Prop where
  os : w'.os = w.os
  tape : w'.tape = w.tape
  output : w'.output = w.output
  size : w.heap.size ≤ w'.heap.size
  block : ∀ k, k < w.heap.size → k ≠ p → some k ≠ a → some k ≠ b → w'.heap[k]? = w.heap[k]?
theorem Kq.refl (w : World) (p : Nat) (a b : Option Nat) : Kq w w p a b := ⟨rfl, rfl, rfl, Nat.le_refl _, fun _ _ _ _ _ => rfl⟩
theorem Kq.below {w w' : World} {p B : Nat} {a b : Option Nat} (h : Kq w w' p a b) (hB : B ≤ w.heap.size) (hp : B ≤ p) (ha : ∀ g, a = some g → B ≤ g) (hb : ∀ g, b = some g → B ≤ g) : Below B w w' :=
  ⟨h.os, h.tape, h.output, h.size, fun k hk => h.block k (by omega) (by omega) (fun e => by have := ha k e.symm; omega) (fun e => by have := hb k e.symm; omega)⟩
structure Sn (w wr : World) (B p : Nat) (a b : Option Nat) (vn vw : Value) (ns wh : List Md) : Prop where
  k : Kq w wr p a b
  r : Rx wr p vn vw
  n : Mades wr B vn ns
  m : Mades wr B vw wh
  ap : vn.ownBlock = none ∨ vn.ownBlock ≠ vw.ownBlock
  fn : vn.ownBlock = a ∨ ∀ g, vn.ownBlock = some g → w.heap.size ≤ g
  fm : vw.ownBlock = b ∨ ∀ g, vw.ownBlock = some g → w.heap.size ≤ g
theorem Kq.on {w wr w' : World} {p : Nat} {a b : Option Nat} (h : Kq w wr p a b) (hb : Below wr.heap.size wr w') : Kq w w' p a b :=
  ⟨hb.os.trans h.os, hb.tape.trans h.tape, hb.output.trans h.output, Nat.le_trans h.size hb.size, fun k h1 h2 h3 h4 => (hb.block k (Nat.lt_of_lt_of_le h1 h.size)).trans (h.block k h1 h2 h3 h4)⟩
theorem Sn.on {w wr w' : World} {B p : Nat} {a b : Option Nat} {vn vw : Value} {ns wh : List Md} (h : Sn w wr B p a b vn vw ns wh) (hb : Below wr.heap.size wr w') : Sn w w' B p a b vn vw ns wh :=
  ⟨h.k.on hb, (hb.block _ h.r.lt).trans h.r, h.n.later hb, h.m.later hb, h.ap, h.fn, h.fm⟩
theorem rx_set {w : World} {p : Nat} {vn vw : Value} (h : Rx w p vn vw) (v : Value) : Rx (w.setCell ⟨p, 0, none⟩ v) p v vw := heap_setCell_same _ _ 0 _ _ v h
theorem rx_set1 {w : World} {p : Nat} {vn vw : Value} (h : Rx w p vn vw) (v : Value) : Rx (w.setCell ⟨p, 1, none⟩ v) p vn v := heap_setCell_same _ _ 1 _ _ v h
theorem own_run {w : World} {B e size n p o : Nat} {v vn vw : Value} {xs : List Value} (h : w.ownsRow B e size v n xs) (hr : Rx w p vn vw) (hne : e ≠ 74) (x : Value) : (w.setCell ⟨p, o, none⟩ x).ownsRow B e size v n xs := by
  refine ⟨h.1, ?_⟩
  rcases h.2 with hn | ⟨g, cap, cur, rfl, hg, hgg, rest⟩
  · exact .inl hn
  · refine .inr ⟨g, cap, cur, rfl, hg, ?_, rest⟩
    rw [Below.heap_setCell _ _ _ _ ?_]
    · exact hgg
    · exact fun e => rx_far hr h hne rfl e.symm
-- a row of the run grows (or is written from a place on), and is put into the run
theorem Sn.nodes {w wr w7 : World} {B p g7 cap7 l : Nat} {a b : Option Nat} {vn vw v0 : Value} {ns wh ns' ns0 : List Md} (h : Sn w wr B p a b vn vw ns wh) (h0 : v0.ownBlock = vn.ownBlock) (hn0 : Mades wr B v0 ns0) (hg : wr.grownBy w7 v0.ownBlock) (ho : Mades w7 B (.slice (some ⟨g7, 0, none⟩) l cap7) ns') (hl : v0.ownBlock = some g7 ∨ g7 = wr.heap.size) :
    Rx w7 p vn vw ∧ Sn w (w7.setCell ⟨p, 0, none⟩ (.slice (some ⟨g7, 0, none⟩) l cap7)) B p a b (.slice (some ⟨g7, 0, none⟩) l cap7) vw ns' wh := by
  have hp7 : w7.heap[p]? = wr.heap[p]? := hg.block p h.r.lt (fun e => rx_far h.r hn0 (by decide) e.symm rfl)
  have R7 : Rx w7 p vn vw := hp7.trans h.r
  have M7 : Mades w7 B vw wh := World.ownsRow.kept h.m hg (by
    by_cases hw0 : vw.ownBlock = none
    · exact .inl hw0
    · right
      rw [h0]
      rcases h.ap with e | e
      · rw [e]; exact hw0
      · exact fun e2 => e e2.symm)
  have K7 : Kq w w7 p a b := ⟨hg.os.trans h.k.os, hg.tape.trans h.k.tape, hg.output.trans h.k.output, Nat.le_trans h.k.size hg.size, fun k h1 h2 h3 h4 => by
    rw [hg.block k (Nat.lt_of_lt_of_le h1 h.k.size) ?_]
    · exact h.k.block k h1 h2 h3 h4
    · rw [h0]
      rcases h.fn with e | e
      · rw [e]; exact h3
      · intro e2; have := e k e2.symm; omega⟩
  have hlt : ∀ g, vw.ownBlock = some g → g < wr.heap.size := fun g e => (World.ownsRow.lt h.m g e).2
  refine ⟨R7, ⟨K7.os, K7.tape, K7.output, by have := K7.size; simpa using this, fun k h1 h2 h3 h4 => (Below.heap_setCell _ _ _ _ h2).trans (K7.block k h1 h2 h3 h4)⟩, rx_set R7 _, own_run ho R7 (by decide) _, own_run M7 R7 (by decide) _, .inr ?_, ?_, h.fm⟩
  · intro e
    rcases hl with h1 | h1
    · rcases h.ap with e2 | e2
      · rw [← h0, h1] at e2; cases e2
      · exact e2 (by rw [← h0, h1]; exact e)
    · have := hlt g7 e.symm; omega
  · rcases hl with h1 | h1
    · rcases h.fn with e2 | e2
      · left; rw [← e2, ← h0, h1]; rfl
      · right; intro g e; exact e2 g (by rw [← h0, h1]; exact e)
    · right
      intro g e
      have e3 : g7 = g := Option.some.inj e
      have := h.k.size
      omega
theorem Sn.whole {w wr w7 : World} {B p g7 cap7 l : Nat} {a b : Option Nat} {vn vw : Value} {ns wh wh' : List Md} (h : Sn w wr B p a b vn vw ns wh) (hg : wr.grownBy w7 vw.ownBlock) (ho : Mades w7 B (.slice (some ⟨g7, 0, none⟩) l cap7) wh') (hl : vw.ownBlock = some g7 ∨ g7 = wr.heap.size) :
    Rx w7 p vn vw ∧ Sn w (w7.setCell ⟨p, 1, none⟩ (.slice (some ⟨g7, 0, none⟩) l cap7)) B p a b vn (.slice (some ⟨g7, 0, none⟩) l cap7) ns wh' := by
  have hp7 : w7.heap[p]? = wr.heap[p]? := hg.block p h.r.lt (fun e => rx_far h.r h.m (by decide) e.symm rfl)
  have R7 : Rx w7 p vn vw := hp7.trans h.r
  have N7 : Mades w7 B vn ns := World.ownsRow.kept h.n hg h.ap
  have K7 : Kq w w7 p a b := ⟨hg.os.trans h.k.os, hg.tape.trans h.k.tape, hg.output.trans h.k.output, Nat.le_trans h.k.size hg.size, fun k h1 h2 h3 h4 => by
    rw [hg.block k (Nat.lt_of_lt_of_le h1 h.k.size) ?_]
    · exact h.k.block k h1 h2 h3 h4
    · rcases h.fm with e | e
      · rw [e]; exact h4
      · intro e2; have := e k e2.symm; omega⟩
  have hlt : ∀ g, vn.ownBlock = some g → g < wr.heap.size := fun g e => (World.ownsRow.lt h.n g e).2
  refine ⟨R7, ⟨K7.os, K7.tape, K7.output, by have := K7.size; simpa using this, fun k h1 h2 h3 h4 => (Below.heap_setCell _ _ _ _ h2).trans (K7.block k h1 h2 h3 h4)⟩, rx_set1 R7 _, own_run N7 R7 (by decide) _, own_run ho R7 (by decide) _, ?_, h.fn, ?_⟩
  · rcases h.ap with e | e
    · exact .inl e
    · right
      intro e2
      rcases hl with h1 | h1
      · exact e (by rw [h1]; exact e2)
      · have := hlt g7 e2; omega
  · rcases hl with h1 | h1
    · rcases h.fm with e2 | e2
      · left; rw [← e2, h1]; rfl
      · right; intro g e; exact e2 g (by rw [h1]; exact e)
    · right
      intro g e
      have e3 : g7 = g := Option.some.inj e
      have := h.k.size
      omega
-- a row, cut short
theorem mades_cut {w : World} {B g n cap : Nat} {ns : List Md} (h : Mades w B (.slice (some ⟨g, 0, none⟩) n cap) ns) (k : Nat) (hk : k ≤ ns.length) : Mades w B (.slice (some ⟨g, 0, none⟩) k cap) (ns.take k) := by
  rcases h.2 with ⟨e, _⟩ | ⟨g', cap', cur, e, hb, hgg, hnc, hcm, hcs, htake⟩
  · cases e
  · injection e with e1 e2 e3
    injection e1 with e1
    injection e1 with e1
    subst e1 e3
    have hl : (ns.take k).length = k := by rw [List.length_take]; omega
    refine ⟨by rw [mls_len], .inr ⟨g, cap, cur, by rw [hl], hb, hgg, by rw [hl]; omega, hcm, hcs, ?_⟩⟩
    rw [hl, mls_take, ← htake, List.take_take, Nat.min_eq_left (by omega)]
end Go.Proofs.YtmmbkfagchaocaaDoor.rn

namespace Go.Proofs.YtmmbkfagchaocaaDoor.ro
open Go.RowKit Go.PlainAid
open Go.Proofs.YtmmbkfagchaocaaDoor.pl Go.Proofs.YtmmbkfagchaocaaDoor.pi Go.Proofs.YtmmbkfagchaocaaDoor.pj Go.Proofs.YtmmbkfagchaocaaDoor.rf Go.Proofs.YtmmbkfagchaocaaDoor.ca Go.Proofs.YtmmbkfagchaocaaDoor.cb Go.Proofs.YtmmbkfagchaocaaDoor.cp Go.Proofs.YtmmbkfagchaocaaDoor.cs Go.Proofs.YtmmbkfagchaocaaDoor.kb Go.Proofs.YtmmbkfagchaocaaDoor.ka Go.Proofs.YtmmbkfagchaocaaDoor.ga Go.Proofs.YtmmbkfagchaocaaDoor.gb Go.Proofs.YtmmbkfagchaocaaDoor.na Go.Proofs.YtmmbkfagchaocaaDoor.nb Go.Proofs.YtmmbkfagchaocaaDoor.nc Go.Proofs.YtmmbkfagchaocaaDoor.oa Go.Proofs.YtmmbkfagchaocaaDoor.ob Go.Proofs.YtmmbkfagchaocaaDoor.qa Go.Proofs.YtmmbkfagchaocaaDoor.qb Go.Proofs.YtmmbkfagchaocaaDoor.qc Go.Proofs.YtmmbkfagchaocaaDoor.qd Go.Proofs.YtmmbkfagchaocaaDoor.rg Go.Proofs.YtmmbkfagchaocaaDoor.rl Go.Proofs.YtmmbkfagchaocaaDoor.rn
set_option linter.unusedVariables false

def Small (n : Md) : Prop := n.1.1 ≤ 126 ∧ n.1.2 ≤ 4611686018427387904 ∧ n.2.size ≤ 32
structure Lq (w wr : World) (wd : Int) (B p : Nat) (a b : Option Nat) (vn vw : Value) (x : Md) (t : Nat) (rs : List Md) (y : Md) (wh wh0 : List Md) (J : List Md × List Md) : Prop where
  s : Sn w wr B p a b vn vw (rs.reverse ++ [y]) wh
  lv : y.1.1 = x.1.1 + t
  j1 : (joinR (NF wd) rs y).1 = J.1
  j2 : wh ++ (joinR (NF wd) rs y).2 = wh0 ++ J.2
  sm : ∀ n ∈ y :: rs, Small n
  lw : wh.length ≤ wh0.length + t
  ln : rs.length ≤ 1000
theorem Lq.stop {w wr : World} {wd : Int} {B p : Nat} {a b : Option Nat} {vn vw : Value} {x : Md} {t : Nat} {rs : List Md} {y : Md} {wh wh0 : List Md} {J : List Md × List Md} (h : Lq w wr wd B p a b vn vw x t rs y wh wh0 J) (hn : joinR (NF wd) rs y = (y :: rs, [])) : Sn w wr B p a b vn vw J.1.reverse (wh0 ++ J.2) := by
  have e1 := h.j1
  have e2 := h.j2
  rw [hn] at e1 e2
  have h3 := h.s
  rw [← e1, ← e2, List.append_nil, List.reverse_cons]
  exact h3
theorem nodes_at {ns : List Md} {w : World} {B g n cap : Nat} {v : Md} {j : Nat} (h : Mades w B (.slice (some ⟨g, 0, none⟩) n cap) ns) (hv : ns[j]? = some v) : w.cell? ⟨g, j * 3, none⟩ = some (.int .i64 (v.1.1 : Nat)) ∧ w.cell? ⟨g, j * 3 + 1, none⟩ = some (.int .i64 (v.1.2 : Nat)) ∧ w.cell? ⟨g, j * 3 + 2, none⟩ = some (.string v.2) := by
  obtain ⟨b, e, c⟩ := row_atM h.reads hv
  injection e with e
  injection e with e1 _
  rw [e1]
  exact c
theorem two_last (rs : List Md) (a y : Md) : ((a :: rs).reverse ++ [y])[rs.length]? = some a ∧ ((a :: rs).reverse ++ [y])[rs.length + 1]? = some y ∧ ((a :: rs).reverse ++ [y]).take rs.length = rs.reverse := by
  rw [List.reverse_cons, List.append_assoc]
  refine ⟨?_, ?_, ?_⟩
  · rw [List.getElem?_append_right (by simp)]; simp
  · rw [List.getElem?_append_right (by simp)]; simp
  · rw [List.take_append_of_le_length (by simp), List.take_of_length_le (by simp)]
theorem Lq.up {w wr w' : World} {wd : Int} {B p : Nat} {a b : Option Nat} {vn vw vn' vw' : Value} {x : Md} {t : Nat} {rs : List Md} {c y : Md} {wh wh0 : List Md} {J : List Md × List Md} (h : Lq w wr wd B p a b vn vw x t (c :: rs) y wh wh0 J) (hh : halves c.1 y.1) (hs : Sn w w' B p a b vn' vw' (rs.reverse ++ [upN (NF wd) c y]) (wh ++ [upN (NF wd) c y])) : Lq w w' wd B p a b vn' vw' x (t + 1) rs (upN (NF wd) c y) (wh ++ [upN (NF wd) c y]) wh0 J := by
  have e1 := h.j1
  have e2 := h.j2
  rw [joinR_yes _ rs hh] at e1 e2
  have hc := h.sm c (by simp)
  refine ⟨hs, ?_, e1, by rw [List.append_assoc]; exact e2, fun n hn => ?_, by rw [List.length_append]; have := h.lw; simp; omega, by have := h.ln; simp at this; omega⟩
  · show c.1.1 + 1 = _
    have := h.lv; have := hh.1; omega
  · rcases List.mem_cons.1 hn with rfl | hn
    · refine ⟨?_, ?_, ?_⟩
      · show c.1.1 + 1 ≤ 126; have := hh.2.2.2; omega
      · show c.1.2 / 2 ≤ _; have := hc.2.1; omega
      · show (NF wd c.2 y.2).size ≤ 32; rw [show (NF wd c.2 y.2).size = wid wd from cutS_size _ _]; have := wid_in wd; omega
    · exact h.sm n (by simp [hn])
end Go.Proofs.YtmmbkfagchaocaaDoor.ro
