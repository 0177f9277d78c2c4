import Derived.Test.YtmmbkfagchaocaaDoorA3
import Derived.Test.YtmmbkfagchaocaaDoorA2
import Derived.Test.YtmmbkfagchaocaaDoorB2
import Derived.Handy
import Derived.Deep.AppendLies
import Derived.Laws.AppendOwnNone
import Derived.Lib.SliceRun
import Derived.BigRegion
namespace Go.Proofs.YtmmbkfagchaocaaDoor.yf
open Go.RowKit Go.PlainAid
open Go.Proofs.YtmmbkfagchaocaaDoor.pl Go.Proofs.YtmmbkfagchaocaaDoor.pi Go.Proofs.YtmmbkfagchaocaaDoor.pj Go.Proofs.YtmmbkfagchaocaaDoor.rf Go.Proofs.YtmmbkfagchaocaaDoor.ca Go.Proofs.YtmmbkfagchaocaaDoor.cb Go.Proofs.YtmmbkfagchaocaaDoor.cp Go.Proofs.YtmmbkfagchaocaaDoor.cs Go.Proofs.YtmmbkfagchaocaaDoor.ct Go.Proofs.YtmmbkfagchaocaaDoor.xc Go.Proofs.YtmmbkfagchaocaaDoor.xf Go.Proofs.YtmmbkfagchaocaaDoor.ka Go.Proofs.YtmmbkfagchaocaaDoor.kb Go.Proofs.YtmmbkfagchaocaaDoor.ga Go.Proofs.YtmmbkfagchaocaaDoor.gb Go.Proofs.YtmmbkfagchaocaaDoor.na Go.Proofs.YtmmbkfagchaocaaDoor.nb Go.Proofs.YtmmbkfagchaocaaDoor.nc Go.Proofs.YtmmbkfagchaocaaDoor.oa Go.Proofs.YtmmbkfagchaocaaDoor.ob Go.Proofs.YtmmbkfagchaocaaDoor.qa Go.Proofs.YtmmbkfagchaocaaDoor.qb Go.Proofs.YtmmbkfagchaocaaDoor.qc Go.Proofs.YtmmbkfagchaocaaDoor.ya
set_option linter.unusedVariables false

theorem isHash (wd : Int) (t : ByteArray) (W : Nat) (hW : wid wd = W) (w : World) (hs : t.size ≤ 140737488352000) :
    Calls Tryd.prog 26 #[.int .i64 wd, .string t] w fun e w' => e = .returned (.bool (decide (t.size = W))) ∧ w' = w := by
  have hW2 := (wid_in wd).2
  obtain ⟨r, HR⟩ : ∃ r, Hid (decide (t.size = W) = r) := ⟨_, rfl⟩
  rw [HR.out]
  have fin : Hid (∀ k : Nat, k = W → ((t.size : Int) == (k : Int)) = r) := by
    rintro k rfl
    rw [← HR.out]
    by_cases h : t.size = k
    · rw [h]; simp
    · rw [beq_eq_false_iff_ne.2 (by omega)]; simp [h]
  rw [hW] at hW2
  by_cases h1 : wd < 1
  · have q := fin.out 32 (by rw [← hW]; unfold wid; rw [if_pos (.inl h1)])
    clear hW
    go_enter Tryd.func26, Tryd.ntmps26
    go_wp2
    go_ret
    exact ⟨by first | rfl | (rw [← q]; rfl), rfl⟩
  · by_cases h2 : 32 < wd
    · have q := fin.out 32 (by rw [← hW]; unfold wid; rw [if_pos (.inr h2)])
      clear hW
      go_enter Tryd.func26, Tryd.ntmps26
      go_wp2
      go_ret
      exact ⟨by first | rfl | (rw [← q]; rfl), rfl⟩
    · obtain ⟨k, rfl⟩ : ∃ k : Nat, wd = k := ⟨wd.toNat, by omega⟩
      have q := fin.out k (by rw [← hW]; unfold wid; rw [if_neg (fun h => h.elim h1 h2)]; omega)
      clear hW
      go_enter Tryd.func26, Tryd.ntmps26
      go_wp2
      go_ret
      exact ⟨by first | rfl | (rw [← q]; rfl), rfl⟩
set_option maxHeartbeats 1600000 in
theorem nodes (wd lo hi : Int) (hlo : i64 lo) (hhi : i64 hi) (u : Value) (hs : List ByteArray) (w : World) (hT : TabB w) (hR : ReadsT w u hs) (hf : Fits hs) :
    Calls Tryd.prog 25 #[.int .i64 wd, FV lo hi u] w fun e w' => (∃ a l c, e = .returned (.tuple #[.slice a l c, .int .i64 (chkE wd lo hi hs)]) ∧ (chkE wd lo hi hs = 0 → Nodes w' w.heap.size (.slice a l c) (covI lo hi))) ∧ Below w.heap.size w w' := by
  have BA : Below w.heap.size w (w.alloc (.cells #[.int .i64 lo, .int .i64 hi, u] 24)) := (Below.refl _ _).alloc (Nat.le_refl _) _
  have F0 : Hid (Fx (w.alloc (.cells #[.int .i64 lo, .int .i64 hi, u] 24)) w.heap.size lo hi u) := fx_new _ _ _ _
  have CV : Hid (Calls _ _ _ _ _) := coverC.covers lo hi hlo hhi (w.alloc (.cells #[.int .i64 lo, .int .i64 hi, u] 24)) (hT.later BA)
  have HB0 : Hid (Below _ _ _) := BA
  have HRD : Hid (ReadsT w u hs) := hR
  have hW := (wid_in wd).2
  have hnm := hf.many
  have HZ : Hid (∀ x ∈ hs, x.size ≤ 140737488352000) := hf.each
  obtain ⟨a, cap, rfl, hcap, hh⟩ := hR
  obtain ⟨n, HN⟩ : ∃ n, Hid (hs.length = n) := ⟨_, rfl⟩
  obtain ⟨W, HW⟩ : ∃ W, Hid (wid wd = W) := ⟨_, rfl⟩
  have IH : Hid (∀ (t : ByteArray) (w : World), t.size ≤ 140737488352000 → Calls _ _ _ _ _) := fun t w h => isHash wd t W HW.out w h
  obtain ⟨R, HRR⟩ : ∃ R, Hid (chkE wd lo hi hs = R) := ⟨_, rfl⟩
  rw [HRR.out]
  rw [HN.out] at HRD hcap hnm F0 CV HB0 ⊢
  rw [HW.out] at hW
  obtain ⟨d1, d2, d3⟩ := F0.out.fb
  clear BA hh hf hlo hhi hT
  by_cases hok : okR lo hi
  · have hE : covE lo hi = 0 := by unfold covE; rw [if_pos hok]
    obtain ⟨l, HL⟩ : ∃ l : Nat, Hid ((covI lo hi).length = l) := ⟨_, rfl⟩
    have l122 : l ≤ 122 := by rw [← HL.out]; exact covI_len lo hi
    have HR1 : Hid (R = if l = n then (if ∀ h ∈ hs, h.size = wid wd then 0 else 72) else 71) := by
      show _ = _
      rw [← HRR.out]
      unfold chkE
      rw [if_pos hok, HL.out, HN.out]
    by_cases hln : l = n
    · subst hln
      have hq : ((l : Int) == (l : Int)) = true := beq_self_eq_true _
      go_enter Tryd.func25, Tryd.ntmps25
      go_wp2_with fail
      refine CV.out.mono ?_
      rintro e w2 ⟨⟨vv, rfl, ho⟩, hb⟩
      obtain ⟨va, vc, rfl⟩ := own_formS ho
      rw [hE, HL.out]
      have B2 : Hid (Below w.heap.size w w2) := over HB0.out hb
      have O2 : Hid (Nodes w2 w.heap.size (.slice va l vc) (covI lo hi)) := by
        have := own_down ho HB0.out.size
        unfold Hid Nodes
        rw [HL.out] at this ⊢
        exact this
      obtain ⟨e1, e2, e3⟩ := (F0.out.on hb).fb
      have RD2 : Hid (ReadsT w2 (.slice a l cap) hs) := HRD.out.later B2.out
      clear ho hb d1 d2 d3
      go_wp2
      go_loopw [30] (fun i wr => ∃ k : Nat, k ≤ l ∧ i = .int .i64 k ∧ Hid (∀ t, t < k → ∀ x, hs[t]? = some x → x.size = wid wd) ∧ wr = w2) (fun i _ => (l - intOf i).toNat)
      case atStart => exact ⟨0, by omega, rfl, fun t ht => by omega, rfl⟩
      case round =>
        obtain ⟨k, hk, rfl, HK, rfl⟩ := hrel
        by_cases hlt : k < l
        · have hlt' : (k : Int) < l := by omega
          have hkx : k < hs.length := by rw [HN.out]; exact hlt
          obtain ⟨x, HX⟩ : ∃ x, Hid (hs[k]? = some x) := ⟨_, List.getElem?_eq_getElem hkx⟩
          obtain ⟨b, off, rfl, hc⟩ : ∃ b off, a = some ⟨b, off, none⟩ ∧ wr.cell? ⟨b, off + k, none⟩ = some (.string x) := by
            obtain ⟨a', cap', e, _, h0 | ⟨b, off, e4, hh⟩⟩ := RD2.out
            · omega
            · injection e with e1 _ _
              refine ⟨b, off, by rw [e1]; exact e4, ?_⟩
              rw [hh k hkx, List.getD_eq_getElem?_getD, HX.out]
              rfl
          have IX : Hid (Calls _ _ _ _ _) := IH.out x wr (HZ.out x (List.mem_of_getElem? HX.out))
          obtain ⟨r, HR⟩ : ∃ r, Hid (decide (x.size = W) = r) := ⟨_, rfl⟩
          rw [HR.out] at IX
          cases r with
          | true =>
            have HXW : Hid (x.size = W) := of_decide_eq_true (p := x.size = W) HR.out
            go_wp2_with fail
            refine IX.out.mono ?_
            rintro e w3 ⟨rfl, hw⟩
            rw [hw]
            clear hw
            go_wp2
            go_roundw
            case rel =>
              refine ⟨k + 1, by omega, by go_num, ?_, by first | rfl | trivial⟩
              intro t ht y hy
              rcases Nat.lt_or_ge t k with h | h
              · exact HK.out t h y hy
              · obtain rfl : t = k := by omega
                rw [HX.out] at hy
                obtain rfl := Option.some.inj hy
                rw [HXW.out, HW.out]
            case measure => simp [intOf]; omega
          | false =>
            have hxw : ¬ x.size = W := of_decide_eq_false (p := x.size = W) HR.out
            have HE : Hid (R = 72) := by
              rw [HR1.out, if_pos trivial, if_neg]
              · rfl
              · intro hall
                exact hxw (by rw [hall x (List.mem_of_getElem? HX.out), HW.out])
            clear hxw
            go_wp2_with fail
            refine IX.out.mono ?_
            rintro e w3 ⟨rfl, hw⟩
            rw [hw]
            clear hw
            go_wp2
            go_returns
            exact ⟨⟨_, _, _, by rw [HE.out]; rfl, fun h => by rw [HE.out] at h; cases h⟩, B2.out⟩
        · have hlt' : ¬ (k : Int) < l := by omega
          have HE : Hid (R = 0) := by
            rw [HR1.out, if_pos trivial, if_pos]
            · rfl
            · intro x hx
              obtain ⟨t, ht, rfl⟩ := List.getElem_of_mem hx
              exact HK.out t (by rw [HN.out] at ht; omega) _ (List.getElem?_eq_getElem ht)
          go_wp2
          go_returns
          exact ⟨⟨_, _, _, by rw [HE.out]; rfl, fun _ => O2.out⟩, B2.out⟩
    · have hq : ((n : Int) == (l : Int)) = false := by rw [beq_eq_false_iff_ne]; omega
      have HE : Hid (R = 71) := by rw [HR1.out, if_neg hln]; rfl
      clear hln
      go_enter Tryd.func25, Tryd.ntmps25
      go_wp2_with fail
      refine CV.out.mono ?_
      rintro e w2 ⟨⟨vv, rfl, ho⟩, hb⟩
      obtain ⟨va, vc, rfl⟩ := own_formS ho
      rw [hE, HL.out]
      have B2 : Hid (Below w.heap.size w w2) := over HB0.out hb
      obtain ⟨e1, e2, e3⟩ := (F0.out.on hb).fb
      clear ho hb d1 d2 d3
      go_wp2
      go_returns
      exact ⟨⟨_, _, _, by rw [HE.out]; rfl, fun h => by rw [HE.out] at h; cases h⟩, B2.out⟩
  · have hE : covE lo hi = 10 := by unfold covE; rw [if_neg hok]
    have HE : Hid (R = 10) := by show _ = _; rw [← HRR.out]; unfold chkE; rw [if_neg hok]
    go_enter Tryd.func25, Tryd.ntmps25
    go_wp2_with fail
    refine CV.out.mono ?_
    rintro e w2 ⟨⟨vv, rfl, ho⟩, hb⟩
    obtain ⟨va, vc, rfl⟩ := own_formS ho
    rw [hE]
    have B2 : Hid (Below w.heap.size w w2) := over HB0.out hb
    clear ho hb d1 d2 d3
    go_wp2
    go_returns
    exact ⟨⟨_, _, _, by rw [HE.out]; rfl, fun h => by rw [HE.out] at h; cases h⟩, B2.out⟩
end Go.Proofs.YtmmbkfagchaocaaDoor.yf

namespace Go.Proofs.YtmmbkfagchaocaaDoor.yg
open Go.RowKit Go.PlainAid
open Go.Proofs.YtmmbkfagchaocaaDoor.pl Go.Proofs.YtmmbkfagchaocaaDoor.pi Go.Proofs.YtmmbkfagchaocaaDoor.pj Go.Proofs.YtmmbkfagchaocaaDoor.rf Go.Proofs.YtmmbkfagchaocaaDoor.ca Go.Proofs.YtmmbkfagchaocaaDoor.cb Go.Proofs.YtmmbkfagchaocaaDoor.cp Go.Proofs.YtmmbkfagchaocaaDoor.cs Go.Proofs.YtmmbkfagchaocaaDoor.xc Go.Proofs.YtmmbkfagchaocaaDoor.ka Go.Proofs.YtmmbkfagchaocaaDoor.kb Go.Proofs.YtmmbkfagchaocaaDoor.kc Go.Proofs.YtmmbkfagchaocaaDoor.ga Go.Proofs.YtmmbkfagchaocaaDoor.gb Go.Proofs.YtmmbkfagchaocaaDoor.na Go.Proofs.YtmmbkfagchaocaaDoor.nb Go.Proofs.YtmmbkfagchaocaaDoor.nc Go.Proofs.YtmmbkfagchaocaaDoor.oa Go.Proofs.YtmmbkfagchaocaaDoor.ob Go.Proofs.YtmmbkfagchaocaaDoor.qa Go.Proofs.YtmmbkfagchaocaaDoor.qb Go.Proofs.YtmmbkfagchaocaaDoor.qc Go.Proofs.YtmmbkfagchaocaaDoor.ya Go.Proofs.YtmmbkfagchaocaaDoor.yf
set_option linter.unusedVariables false

theorem foldP_on {α : Type} (E : α) (N : α → α → α) (xs : List α) (k : Nat) (hk : k + 1 < xs.length) : foldP E N (xs.drop k) = N (xs[k]'(by omega)) (foldP E N (xs.drop (k + 1))) := by
  rw [List.drop_eq_getElem_cons (show k < xs.length by omega), List.drop_eq_getElem_cons hk]
  rfl
theorem foldP_end {α : Type} (E : α) (N : α → α → α) (xs : List α) (k : Nat) (hk : k + 1 = xs.length) : foldP E N (xs.drop k) = xs[k]'(by omega) := by
  rw [List.drop_eq_getElem_cons (show k < xs.length by omega), List.drop_of_length_le (by omega)]
  rfl
set_option maxHeartbeats 1600000 in
theorem pFold (m : Int) (v : Value) (xs : List ByteArray) (w : World) (hT : Tab w) (hR : ReadsT w v xs) (hx : ∀ x ∈ xs, x.size ≤ 1048576) (hn : xs.length ≤ 1048577) :
    Calls Tryd.prog 71 #[.int .i64 m, v] w fun e w' => e = .returned (.string (foldP (EF m) (NF m) xs)) ∧ Below w.heap.size w w' := by
  have HX : Hid (∀ x ∈ xs, x.size ≤ 1048576) := hx
  have HT : Hid (Tab w) := hT
  have HRD : Hid (ReadsT w v xs) := hR
  obtain ⟨a, cap, rfl, hcap, hh⟩ := hR
  obtain ⟨n, HN⟩ : ∃ n, Hid (xs.length = n) := ⟨_, rfl⟩
  rw [HN.out] at hcap hh hn HRD ⊢
  have HH : Hid (n = 0 ∨ ∃ b off, a = some ⟨b, off, none⟩ ∧ ∀ i, i < n → w.cell? ⟨b, off + i, none⟩ = some (.string (xs.getD i ByteArray.empty))) := hh
  obtain ⟨R, HRR⟩ : ∃ R, Hid (foldP (EF m) (NF m) xs = R) := ⟨_, rfl⟩
  rw [HRR.out]
  clear hT hx hh
  by_cases h0 : n = 0
  · have EC : Hid (Calls _ _ _ _ _) := pEmpty m w HT.out
    have q0 : ((n : Int) == 0) = true := by rw [beq_iff_eq]; omega
    have HE : Hid (R = EF m) := by
      show _ = _
      have : xs = [] := List.length_eq_zero_iff.1 (HN.out.trans h0)
      rw [← HRR.out, this]
      rfl
    obtain ⟨X, HX0⟩ : ∃ X, Hid (EF m = X) := ⟨_, rfl⟩
    rw [HX0.out] at EC HE
    clear h0
    go_enter Tryd.func71, Tryd.ntmps71
    go_wp2_with fail
    refine EC.out.mono ?_
    rintro e w1 ⟨rfl, hb⟩
    have B1 : Hid (Below w.heap.size w w1) := hb
    clear hb
    go_wp2
    go_ret
    exact ⟨by rw [HE.out]; rfl, B1.out⟩
  · obtain ⟨b, off, rfl, hh⟩ : ∃ b off, a = some ⟨b, off, none⟩ ∧ ∀ i, i < n → w.cell? ⟨b, off + i, none⟩ = some (.string (xs.getD i ByteArray.empty)) := by
      rcases HH.out with h | h
      · exact absurd h h0
      · exact h
    have HCC : Hid (∀ i, i < n → w.cell? ⟨b, off + i, none⟩ = some (.string (xs.getD i ByteArray.empty))) := hh
    have q0 : ((n : Int) == 0) = false := by rw [beq_eq_false_iff_ne]; omega
    have c0 := hh (n - 1) (by omega)
    obtain ⟨L0, HL0⟩ : ∃ x, Hid (xs.getD (n - 1) ByteArray.empty = x) := ⟨_, rfl⟩
    rw [HL0.out] at c0
    have HS0 : Hid (foldP (EF m) (NF m) (xs.drop (n - 1)) = L0 ∧ L0.size ≤ 1048576) := by
      have hlt : n - 1 < xs.length := by rw [HN.out]; omega
      rw [foldP_end _ _ xs (n - 1) (by rw [HN.out]; omega), ← HL0.out, List.getD_eq_getElem?_getD, List.getElem?_eq_getElem hlt]
      exact ⟨rfl, HX.out _ (List.getElem_mem hlt)⟩
    obtain ⟨d, HD⟩ : ∃ d, Hid (n = d + 1) := ⟨n - 1, by show _ = _; omega⟩
    have hd1 : ((n : Int) - 1) = (d : Int) := by have := HD.out; omega
    have hdn : (d : Int) < n := by omega
    have hd0 : (0 : Int) ≤ (d : Int) := by omega
    rw [show n - 1 = d by have := HD.out; omega] at c0 HS0
    clear hh HH h0
    go_enter Tryd.func71, Tryd.ntmps71
    go_wp2
    go_loopw [6, 21] (fun h i wr => ∃ (k : Nat) (H : ByteArray), k ≤ d ∧ i = .int .i64 k ∧ h = .string H ∧ Hid (foldP (EF m) (NF m) (xs.drop (d - k)) = H ∧ H.size ≤ 1048576 ∧ Below w.heap.size w wr)) (fun _ i _ => (d - intOf i).toNat)
    case atStart => exact ⟨0, L0, by omega, rfl, rfl, HS0.out.1, HS0.out.2, Below.refl _ _⟩
    case round =>
      clear c0
      obtain ⟨k, H, hk, rfl, rfl, HL⟩ := hrel
      by_cases hlt : k < d
      · have hlt' : (k : Int) < d := by omega
        obtain ⟨j, HJ⟩ : ∃ j, Hid (d - 1 - k = j) := ⟨_, rfl⟩
        have hj : ((d : Int) - 1 - (k : Int)) = (j : Int) := by have := HJ.out; omega
        have hj0 : (0 : Int) ≤ (j : Int) := by omega
        have hjn : (j : Int) < n := by have := HJ.out; omega
        have hjx : j < xs.length := by rw [HN.out]; omega
        obtain ⟨x, HXK⟩ : ∃ x, Hid (xs.getD j ByteArray.empty = x) := ⟨_, rfl⟩
        have c1' := HCC.out j (by omega)
        rw [HXK.out] at c1'
        have c1 : wr.cell? ⟨b, off + j, none⟩ = some (.string x) := (HL.out.2.2.cell (p := ⟨b, off + j, none⟩) (World.block_lt_of_cell? _ _ c1')).trans c1'
        have HXE : Hid (x = xs[j]'hjx) := by show _ = _; rw [← HXK.out, List.getD_eq_getElem?_getD, List.getElem?_eq_getElem hjx]; rfl
        have hxs : x.size ≤ 1048576 := by rw [HXE.out]; exact HX.out _ (List.getElem_mem hjx)
        have hHs := HL.out.2.1
        have NC : Hid (∀ w', Tab w' → Calls _ _ _ _ _) := fun w' h => pNode m x H (by omega) w' h
        have HF : Hid (foldP (EF m) (NF m) (xs.drop j) = NF m x H) := by
          show _ = _
          have hd' : foldP (EF m) (NF m) (xs.drop (j + 1)) = H := by rw [show j + 1 = d - k by have := HJ.out; omega]; exact HL.out.1
          rw [foldP_on _ _ xs j (by rw [HN.out]; omega), hd', HXE.out]
        have HFS : Hid ((NF m x H).size ≤ 1048576) := by show _ ≤ _; rw [show (NF m x H).size = wid m from cutS_size _ _]; have := wid_in m; omega
        have TW : Hid (Tab wr) := HT.out.down HL.out.2.2
        obtain ⟨Q, HQ⟩ : ∃ Q, Hid (NF m x H = Q) := ⟨_, rfl⟩
        rw [HQ.out] at NC HF HFS
        clear c1' hxs hHs
        go_wp2_with fail
        refine (NC.out _ TW.out).mono ?_
        rintro e w1 ⟨rfl, hb⟩
        have B1 : Hid (Below w.heap.size w w1) := over HL.out.2.2 hb
        clear hb
        go_wp2
        go_roundw
        case rel => exact ⟨k + 1, Q, by omega, by go_num, rfl, by rw [show d - (k + 1) = j by have := HJ.out; omega]; exact HF.out, HFS.out, B1.out⟩
        case measure => simp [intOf]; omega
      · have hlt' : ¬ (k : Int) < d := by omega
        have HE : Hid (R = H) := by
          have h := HL.out.1
          rw [show d - k = 0 by omega, List.drop_zero, HRR.out] at h
          exact h
        go_wp2
        go_ret
        exact ⟨by rw [HE.out]; rfl, HL.out.2.2⟩

theorem hi9s : (Tryd.prog.info? 9).map (fun i => (i.zero, i.size, i.bytes)) = some (some (.string ByteArray.empty), 1, 16) := by kernel_rfl
theorem one_strs (hs : List ByteArray) : ∀ u ∈ hs.map Value.string, u.oneCell' = true := by
  intro u hu
  obtain ⟨x, _, rfl⟩ := List.mem_map.1 hu
  rfl
set_option maxRecDepth 100000 in
set_option maxHeartbeats 800000 in
theorem clone (u : Value) (hs : List ByteArray) (w : World) (hR : ReadsT w u hs) (hn : hs.length ≤ 1000) :
    Calls Tryd.prog 50 #[u] w fun e w' => (∃ a l c, e = .returned (.slice a l c) ∧ Texts w' w.heap.size (.slice a l c) hs) ∧ Below w.heap.size w w' := by
  obtain ⟨i9, hi, hz0, hz1, hz2⟩ := info_parts hi9s
  have HIN : Hid (_ ∧ _ ∧ _ ∧ _) := ⟨hi, hz0, hz1, hz2⟩
  obtain ⟨a, cap, rfl, hcap, hh⟩ := hR
  have HH : Hid (hs.length = 0 ∨ ∃ b off, a = some ⟨b, off, none⟩ ∧ ∀ i, i < hs.length → w.cell? ⟨b, off + i, none⟩ = some (.string (hs.getD i ByteArray.empty))) := hh
  obtain ⟨n, HN⟩ : ∃ n, Hid (hs.length = n) := ⟨_, rfl⟩
  clear hh hi hz0 hz1 hz2
  cases a with
  | none =>
    have h0 : hs = [] := by
      rcases HH.out with h | ⟨b, off, e, _⟩
      · exact List.length_eq_zero_iff.1 h
      · cases e
    subst h0
    simp only [List.length_nil] at hcap ⊢
    have q := fun w => Lib.run_eql_slice_nil (P := Tryd.prog) w 22 9 none 0 cap 0 0 Tryd.underlying22
    clear HH HN hn hcap
    go_enter Tryd.func50, Tryd.ntmps50
    go_wp2
    go_ret
    exact ⟨⟨_, _, _, rfl, World.ownsRow_nil _ _ _ _⟩, Below.refl _ _⟩
  | some ad =>
    have q := fun w n => Lib.run_eql_slice_nil (P := Tryd.prog) w 22 9 (some ad) n cap 0 0 Tryd.underlying22
    have NX : Hid (∀ (W : World), Below w.heap.size w W → ∀ (j : Nat) (u : Value), (hs.map Value.string)[j]? = some u → W.cell? (ad.add j) = some u) := by
      intro W hW j u hu
      rw [List.getElem?_map] at hu
      obtain ⟨x, hx, rfl⟩ := Option.map_eq_some_iff.1 hu
      have hj := (List.getElem?_eq_some_iff.1 hx).1
      rcases HH.out with h | ⟨b, off, e, hc⟩
      · omega
      · have e := Option.some.inj e
        subst e
        have c1 := hc j hj
        rw [List.getD_eq_getElem?_getD, hx] at c1
        rw [show (Addr.add ⟨b, off, none⟩ j) = ⟨b, off + j, none⟩ by cases j <;> simp [Addr.add]]
        exact (hW.cell (World.block_lt_of_cell? _ _ c1)).trans c1
    have B1 : Hid (Below w.heap.size w (w.alloc (.cells #[] 9))) := (Below.refl _ _).alloc (Nat.le_refl _) _
    have OX : Hid ((w.alloc (.cells #[] 9)).ownsRow w.heap.size 9 1 (.slice (some ⟨w.heap.size, 0, none⟩) 0 0) 0 []) := World.ownsRow_made w #[] 0 (Nat.le_refl _) (by unfold maxLen; omega) (by simp)
    have SZ : Hid (w.heap.size ≤ (w.alloc (.cells #[] 9)).heap.size) := B1.out.size
    rw [HN.out] at hn ⊢
    clear hcap HH
    go_enter Tryd.func50, Tryd.ntmps50
    go_wp2_with (at_builtin; refine wpList_append_own _ rfl _ _ 22 rfl w.heap.size 9 i9 (.string ByteArray.empty) 1 16 Tryd.underlying22 HIN.out.1 HIN.out.2.1 HIN.out.2.2.1 HIN.out.2.2.2 rfl (by decide) _ 0 _ rfl OX.out ad n cap (hs.map Value.string) rfl (by rw [List.length_map, HN.out]; omega) (NX.out _ B1.out) (one_strs _) (by unfold maxLen; omega) (by omega) SZ.out ?_; intro p' w5 ho hg hnn; have HO5 : Hid (w5.ownsRow w.heap.size 9 1 p' (0 + n) ([] ++ hs.map Value.string)) := ho; have HB5 : Hid (Below w.heap.size w w5) := Below.grown B1.out hg SZ.out (fun jj hj => (OX.out.lt _ hj).1); clear ho hg hnn)
    go_ret
    have HO6 : Texts w5 w.heap.size p' hs := by have := HO5.out; rw [Nat.zero_add, List.nil_append] at this; unfold Texts; rw [HN.out]; exact this
    obtain ⟨pa, pc, rfl⟩ := own_formS HO6
    exact ⟨⟨_, _, _, rfl, HO6⟩, HB5.out⟩
set_option maxHeartbeats 800000 in
theorem begin (wd lo hi : Int) (u vn : Value) (hs : List ByteArray) (w : World) (hR : ReadsT w u hs) (hn : hs.length ≤ 1000) (hv : ∃ a l c, vn = .slice a l c) :
    Calls Tryd.prog 27 #[.int .i64 wd, FV lo hi u, vn] w fun e w' => (∃ p vh, e = .returned (.pointer (some ⟨p, 0, none⟩)) ∧ w.heap.size ≤ p ∧ Px w' p lo hi vh wd vn ∧ Texts w' w.heap.size vh hs) ∧ Below w.heap.size w w' := by
  have BA : Below w.heap.size w (w.alloc (.cells #[.int .i64 lo, .int .i64 hi, u] 24)) := (Below.refl _ _).alloc (Nat.le_refl _) _
  have F0 : Hid (Fx (w.alloc (.cells #[.int .i64 lo, .int .i64 hi, u] 24)) w.heap.size lo hi u) := fx_new _ _ _ _
  have C : Hid (Calls _ _ _ _ _) := clone u hs _ (hR.later BA) hn
  have HB : Hid (Below _ _ _) := BA
  obtain ⟨na, nl, nc, rfl⟩ := hv
  obtain ⟨a, cap, rfl, hcap, hh⟩ := hR
  obtain ⟨d1, d2, d3⟩ := F0.out.fb
  clear BA hh hcap hn
  go_enter Tryd.func27, Tryd.ntmps27
  go_wp2_with fail
  refine C.out.mono ?_
  rintro e w2 ⟨⟨va, vl, vc, rfl, hO⟩, hb⟩
  have B2 : Hid (Below w.heap.size w w2) := over HB.out hb
  have O2 : Hid (Texts w2 w.heap.size (.slice va vl vc) hs) := hO.down HB.out.size
  have F2 := F0.out.on hb
  have e3 := F2.fb.z
  have f3 := frozen_of_row w2 w.heap.size 2 _ _ F2
  have F3 : Hid (Fx (w2.setCell ⟨w.heap.size, 2, none⟩ (.slice va vl vc)) w.heap.size lo hi (.slice va vl vc)) := heap_setCell_same _ _ 2 _ _ _ F2
  have B3 : Hid (Below w.heap.size w (w2.setCell ⟨w.heap.size, 2, none⟩ (.slice va vl vc))) := B2.out.setCell (p := ⟨w.heap.size, 2, none⟩) (Nat.le_refl _) _
  have O3 : Hid (Texts (w2.setCell ⟨w.heap.size, 2, none⟩ (.slice va vl vc)) w.heap.size (.slice va vl vc) hs) := World.ownsRow.kept O2.out (setGrown w2 w.heap.size 2 _) (.inr (far F2 O2.out (by decide)).symm)
  clear hb hO d1 d2 d3 F2 F0 C
  obtain ⟨g1, g2, g3⟩ := F3.out.fb
  have PX : Hid (Px ((w2.setCell ⟨w.heap.size, 2, none⟩ (.slice va vl vc)).alloc (.cells #[.int .i64 lo, .int .i64 hi, .slice va vl vc, .int .i64 wd, .slice na nl nc] 98)) w2.heap.size lo hi (.slice va vl vc) wd (.slice na nl nc)) := by
    have := heap_alloc_new (w2.setCell ⟨w.heap.size, 2, none⟩ (.slice va vl vc)) (.cells #[.int .i64 lo, .int .i64 hi, .slice va vl vc, .int .i64 wd, .slice na nl nc] 98)
    rw [show (w2.setCell ⟨w.heap.size, 2, none⟩ (.slice va vl vc)).heap.size = w2.heap.size by simp] at this
    exact this
  have SZ : Hid (w.heap.size ≤ w2.heap.size) := B2.out.size
  have O4 : Hid (Texts ((w2.setCell ⟨w.heap.size, 2, none⟩ (.slice va vl vc)).alloc (.cells #[.int .i64 lo, .int .i64 hi, .slice va vl vc, .int .i64 wd, .slice na nl nc] 98)) w.heap.size (.slice va vl vc) hs) := World.ownsRow.alloc O3.out _
  have B4 : Hid (Below w.heap.size w ((w2.setCell ⟨w.heap.size, 2, none⟩ (.slice va vl vc)).alloc (.cells #[.int .i64 lo, .int .i64 hi, .slice va vl vc, .int .i64 wd, .slice na nl nc] 98))) := B3.out.alloc B3.out.size _
  clear F3 B3 O3 O2
  go_wp2
  go_ret
  exact ⟨⟨_, _, rfl, SZ.out, PX.out, O4.out⟩, B4.out⟩
end Go.Proofs.YtmmbkfagchaocaaDoor.yg

namespace Go.Proofs.YtmmbkfagchaocaaDoor.yh
open Go.RowKit Go.PlainAid
open Go.Proofs.YtmmbkfagchaocaaDoor.pl Go.Proofs.YtmmbkfagchaocaaDoor.pi Go.Proofs.YtmmbkfagchaocaaDoor.pj Go.Proofs.YtmmbkfagchaocaaDoor.rf Go.Proofs.YtmmbkfagchaocaaDoor.ca Go.Proofs.YtmmbkfagchaocaaDoor.cb Go.Proofs.YtmmbkfagchaocaaDoor.cp Go.Proofs.YtmmbkfagchaocaaDoor.cs Go.Proofs.YtmmbkfagchaocaaDoor.xc Go.Proofs.YtmmbkfagchaocaaDoor.ka Go.Proofs.YtmmbkfagchaocaaDoor.kb Go.Proofs.YtmmbkfagchaocaaDoor.kc Go.Proofs.YtmmbkfagchaocaaDoor.ga Go.Proofs.YtmmbkfagchaocaaDoor.gb Go.Proofs.YtmmbkfagchaocaaDoor.na Go.Proofs.YtmmbkfagchaocaaDoor.nb Go.Proofs.YtmmbkfagchaocaaDoor.nc Go.Proofs.YtmmbkfagchaocaaDoor.oa Go.Proofs.YtmmbkfagchaocaaDoor.ob Go.Proofs.YtmmbkfagchaocaaDoor.qa Go.Proofs.YtmmbkfagchaocaaDoor.qb Go.Proofs.YtmmbkfagchaocaaDoor.qc Go.Proofs.YtmmbkfagchaocaaDoor.ya Go.Proofs.YtmmbkfagchaocaaDoor.yb Go.Proofs.YtmmbkfagchaocaaDoor.yc Go.Proofs.YtmmbkfagchaocaaDoor.yd Go.Proofs.YtmmbkfagchaocaaDoor.ye Go.Proofs.YtmmbkfagchaocaaDoor.yf Go.Proofs.YtmmbkfagchaocaaDoor.yg
set_option linter.unusedVariables false

-- one node more; where the run ends; nodes that there may be
theorem runR_snoc {α : Type} (N : α → α → α) (xs : List (Nd α)) (x : Nd α) : ∀ rs, runR N rs (xs ++ [x]) = ((joinR N (runR N rs xs).1 x).1, (runR N rs xs).2 ++ (joinR N (runR N rs xs).1 x).2) := by
  induction xs with
  | nil => intro rs; simp [runR]
  | cons y xs ih =>
    intro rs
    show ((runR N (joinR N rs y).1 (xs ++ [x])).1, (joinR N rs y).2 ++ (runR N (joinR N rs y).1 (xs ++ [x])).2) = _
    rw [ih]
    simp [runR, List.append_assoc]
def spanEnd (n : Md) : Int := (((n.1.2 + 1) * 2 ^ n.1.1 : Nat) : Int)
def endOf (hi : Int) (xs : List Md) : Int := xs.foldl (fun _ x => spanEnd x) hi
theorem endOf_snoc (hi : Int) (xs : List Md) (x : Md) : endOf hi (xs ++ [x]) = spanEnd x := by simp [endOf]
def okM (n : Md) : Prop := okN n.1 ∧ n.2.size ≤ 32
theorem ok_join {wd : Int} (rs : List Md) : ∀ x, (∀ n ∈ x :: rs, okM n) → ∀ n ∈ (joinR (NF wd) rs x).1, okM n := by
  induction rs with
  | nil => intro x h n hn; simp [joinR] at hn; subst hn; exact h _ (by simp)
  | cons a rs ih =>
    intro x h n hn
    by_cases hh : halves a.1 x.1
    · rw [joinR_yes _ rs hh] at hn
      refine ih (upN (NF wd) a x) (fun m hm => ?_) n hn
      rcases List.mem_cons.1 hm with rfl | hm
      · refine ⟨okN_up (h a (by simp)).1 hh.2.2.2, ?_⟩
        show (NF wd a.2 x.2).size ≤ 32
        rw [show (NF wd a.2 x.2).size = wid wd from cutS_size _ _]
        have := wid_in wd
        omega
      · exact h m (by simp [hm])
    · rw [joinR_no _ rs hh] at hn
      exact h n hn
theorem ok_run {wd : Int} (xs : List Md) : ∀ rs, (∀ n ∈ rs, okM n) → (∀ n ∈ xs, okM n) → ∀ n ∈ (runR (NF wd) rs xs).1, okM n := by
  induction xs with
  | nil => intro rs h _; exact h
  | cons x xs ih =>
    intro rs h hx
    exact ih _ (ok_join rs x (fun n hn => by rcases List.mem_cons.1 hn with rfl | hn; exact hx _ (by simp); exact h n hn)) (fun n hn => hx n (by simp [hn]))
theorem readsT_at {W : World} {b off n c k : Nat} {ts : List ByteArray} {x : ByteArray} (h : ReadsT W (.slice (some ⟨b, off, none⟩) n c) ts) (hx : ts[k]? = some x) : W.cell? ⟨b, off + k, none⟩ = some (.string x) := by
  have hk := (List.getElem?_eq_some_iff.1 hx).1
  obtain ⟨a', cap', e, _, h0 | ⟨b', off', e4, hh⟩⟩ := h
  · omega
  · injection e with e1 _ _
    rw [e4] at e1
    injection e1 with e1
    injection e1 with e5 e6 _
    subst e5 e6
    rw [hh k hk, List.getD_eq_getElem?_getD, hx]
    rfl
theorem readsT_some {W : World} {a : Option Addr} {n c k : Nat} {ts : List ByteArray} {x : ByteArray} (h : ReadsT W (.slice a n c) ts) (hx : ts[k]? = some x) : ∃ b off, a = some ⟨b, off, none⟩ := by
  have hk := (List.getElem?_eq_some_iff.1 hx).1
  obtain ⟨a', cap', e, _, h0 | ⟨b', off', e4, hh⟩⟩ := h
  · omega
  · injection e with e1 _ _
    exact ⟨b', off', by rw [e1]; exact e4⟩
-- the run is ended
def Pass (w : World) (p : Nat) (vn vh : Value) (W : World) : Prop := ∀ k, k < w.heap.size → k ≠ p → some k ≠ vn.ownBlock → some k ≠ vh.ownBlock → W.heap[k]? = w.heap[k]?
set_option maxHeartbeats 3200000 in
set_option maxRecDepth 100000 in
theorem join {we w : World} {p : Nat} {lo hi wd : Int} {vh vn vq vt : Value} (rs xs : List Md) (hT : Tab we) (hE : Below we.heap.size we w) (hp : we.heap.size ≤ p) (hX : Px w p lo hi vh wd vn) (hH : Texts w we.heap.size vh (rs.reverse.map Prod.snd)) (hN : Nodes w we.heap.size vn (rs.reverse.map Prod.fst))
    (hpass : ∀ W, Pass w p vn vh W → ReadsA W vq (xs.map Prod.fst) ∧ ReadsT W vt (xs.map Prod.snd)) (hr : ∀ n ∈ rs, okM n) (hx : ∀ n ∈ xs, okM n) (hl1 : rs.length ≤ 200) (hl2 : xs.length ≤ 200) :
    Calls Tryd.prog 28 #[.pointer (some ⟨p, 0, none⟩), vq, vt] w fun e w' => (∃ u m, e = .returned (.tuple #[FV lo (endOf hi xs) u, m, .int .i64 0]) ∧ Texts w' we.heap.size u ((runR (NF wd) rs xs).1.reverse.map Prod.snd) ∧ Mades w' we.heap.size m (runR (NF wd) rs xs).2) ∧ Below we.heap.size we w' ∧ Pass w p vn vh w' := by
  have HP : Hid (∀ W, Pass w p vn vh W → ReadsA W vq (xs.map Prod.fst) ∧ ReadsT W vt (xs.map Prod.snd)) := hpass
  have HR : Hid (∀ n ∈ rs, okM n) := hr
  have HXO : Hid (∀ n ∈ xs, okM n) := hx
  have HT : Hid (Tab we) := hT
  have HL1 : Hid (rs.length ≤ 200) := hl1
  have F1 : Fx (w.alloc (.cells #[.int .i64 0, .int .i64 0, .slice none 0 0] 24)) w.heap.size 0 0 (.slice none 0 0) := fx_new _ _ _ _
  have A1 : Below w.heap.size w (w.alloc (.cells #[.int .i64 0, .int .i64 0, .slice none 0 0] 24)) := (Below.refl _ _).alloc (Nat.le_refl _) _
  have A2 : Below (w.alloc (.cells #[.int .i64 0, .int .i64 0, .slice none 0 0] 24)).heap.size (w.alloc (.cells #[.int .i64 0, .int .i64 0, .slice none 0 0] 24)) ((w.alloc (.cells #[.int .i64 0, .int .i64 0, .slice none 0 0] 24)).alloc (.cells #[.slice none 0 0] 25)) := (Below.refl _ _).alloc (Nat.le_refl _) _
  have F2 : Hid (Fx ((w.alloc (.cells #[.int .i64 0, .int .i64 0, .slice none 0 0] 24)).alloc (.cells #[.slice none 0 0] 25)) w.heap.size 0 0 (.slice none 0 0)) := F1.on A2
  have M2 : Boxed ((w.alloc (.cells #[.int .i64 0, .int .i64 0, .slice none 0 0] 24)).alloc (.cells #[.slice none 0 0] 25)) (w.heap.size + 1) 25 (.slice none 0 0) := by
    have := heap_alloc_new (w.alloc (.cells #[.int .i64 0, .int .i64 0, .slice none 0 0] 24)) (.cells #[.slice none 0 0] 25)
    rw [show (w.alloc (.cells #[.int .i64 0, .int .i64 0, .slice none 0 0] 24)).heap.size = w.heap.size + 1 by simp] at this
    exact this
  have A12 : Below w.heap.size w ((w.alloc (.cells #[.int .i64 0, .int .i64 0, .slice none 0 0] 24)).alloc (.cells #[.slice none 0 0] 25)) := over A1 A2
  obtain ⟨W2, HW2⟩ : ∃ W2, (w.alloc (.cells #[.int .i64 0, .int .i64 0, .slice none 0 0] 24)).alloc (.cells #[.slice none 0 0] 25) = W2 := ⟨_, rfl⟩
  have hsz : W2.heap.size = w.heap.size + 2 := by rw [← HW2]; simp
  obtain ⟨S, HS⟩ : ∃ S : Nat → Prop, Hid (S = fun g => g = p ∨ g = w.heap.size + 1 ∨ some g = vn.ownBlock ∨ some g = vh.ownBlock ∨ W2.heap.size ≤ g) := ⟨_, rfl⟩
  have hpl := hX.lt
  have hw1 := hE.size
  have J0 : Hid (Jn we W2 W2 S p (w.heap.size + 1) lo hi wd vh vn vh vn (.slice none 0 0) (rs.reverse.map Prod.snd) (rs.reverse.map Prod.fst) []) := by
    rw [HW2] at M2 A12
    have hg := below_grown A12
    refine ⟨Keep.refl _ _, over hE A12, hX.kept hg (by simp), M2, hH.later A12, own_later hN A12, World.ownsRow_nil _ _ _ _, ?_, ?_, ?_, ?_, ?_, ?_⟩
    · rw [HS.out]; exact .inl rfl
    · rw [HS.out]; exact .inr (.inl rfl)
    · intro g e; left; rw [HS.out]; exact .inr (.inr (.inr (.inl e.symm)))
    · intro g e; left; rw [HS.out]; exact .inr (.inr (.inl e.symm))
    · intro g e; cases e
    · intro g hg
      rw [HS.out] at hg
      rcases hg with rfl | rfl | h | h | h
      · exact hp
      · omega
      · exact (World.ownsRow.lt hN g h.symm).1
      · exact (World.ownsRow.lt hH g h.symm).1
      · omega
  -- what lies beside is kept
  have PS : Hid (∀ W, Keep S W2 W → Pass w p vn vh W ∧ W.heap[w.heap.size]? = W2.heap[w.heap.size]?) := by
    intro W hK
    rw [HW2] at A12
    refine ⟨fun k h1 h2 h3 h4 => ?_, hK.block _ (by omega) ?_⟩
    · rw [hK.block k (by omega) ?_]
      · exact A12.block k h1
      · rw [HS.out]
        rintro (h | h | h | h | h)
        · exact h2 h
        · omega
        · exact h3 h
        · exact h4 h
        · omega
    · rw [HS.out]
      rintro (h | h | h | h | h)
      · omega
      · omega
      · have := (World.ownsRow.lt hN _ h.symm).2; omega
      · have := (World.ownsRow.lt hH _ h.symm).2; omega
      · omega
  rw [HW2] at F2
  obtain ⟨n, HN⟩ : ∃ n, Hid (xs.length = n) := ⟨_, rfl⟩
  have RA := (HP.out w (fun _ _ _ _ _ => rfl)).1
  have RT := (HP.out w (fun _ _ _ _ _ => rfl)).2
  obtain ⟨qa, qc, rfl⟩ := formA RA
  obtain ⟨ta, tc, rfl, htc, _⟩ := RT
  rw [List.length_map, HN.out] at RA HP ⊢
  rw [List.length_map, HN.out] at htc HP ⊢
  rw [HN.out] at hl2
  have hmf : ∀ (fn : Fn) (first cap : Array Value) (w : World), (Instr.makeFunc fn first cap).run Tryd.prog w = .ok (.func fn first cap) w := fun _ _ _ _ => rfl
  obtain ⟨rr, hrr⟩ : ∃ rr, w.heap.size = rr := ⟨_, rfl⟩
  have HWE : Hid (we.heap.size ≤ w.heap.size) := hw1
  rw [hrr] at PS F2 J0 HS HWE
  clear hpass hr hx hT hl1 F1 A1 A2 M2 A12 hX hH hN hp hE hpl hw1 hsz RA
  go_enter Tryd.func28, Tryd.ntmps28
  go_wp2_with fail
  go_loopw [16] (fun i wr => ∃ (k : Nat) (vh' vn' vm' : Value), k ≤ n ∧ i = .int .i64 k ∧ Hid (Jn we W2 wr S p (rr + 1) lo (endOf hi (xs.take k)) wd vh' vn' vh' vn' vm' ((runR (NF wd) rs (xs.take k)).1.reverse.map Prod.snd) ((runR (NF wd) rs (xs.take k)).1.reverse.map Prod.fst) (runR (NF wd) rs (xs.take k)).2)) (fun i _ => (n - intOf i).toNat)
  case atStart => exact ⟨0, _, _, _, by omega, rfl, J0.out⟩
  case round =>
    obtain ⟨k, vh3, vn3, vm3, hk, rfl, HQ⟩ := hrel
    clear J0
    by_cases hlt : k < n
    · have hlt' : (k : Int) < n := by omega
      have hkx : k < xs.length := by rw [HN.out]; exact hlt
      obtain ⟨x, HX⟩ : ∃ x, Hid (xs[k]? = some x) := ⟨_, List.getElem?_eq_getElem hkx⟩
      obtain ⟨⟨L, I⟩, h⟩ := x
      have PW := PS.out wr HQ.out.k
      obtain ⟨bq, rfl, c1, c2⟩ := row_at (k := L) (i := I) (j := k) (HP.out wr PW.1).1 (by rw [List.getElem?_map, HX.out]; rfl)
      obtain ⟨tb, off, rfl⟩ := readsT_some (k := k) (x := h) (HP.out wr PW.1).2 (by rw [List.getElem?_map, HX.out]; rfl)
      have HC : Hid (∀ W, Keep S W2 W → W.cell? ⟨tb, off + k, none⟩ = some (.string h)) := fun W hW => readsT_at (HP.out W (PS.out W hW).1).2 (by rw [List.getElem?_map, HX.out]; rfl)
      obtain ⟨R, HRR⟩ : ∃ R, Hid (runR (NF wd) rs (xs.take k) = R) := ⟨_, rfl⟩
      have HCNT : R.1.length + R.2.length ≤ 400 := by
        rw [← HRR.out, runR_count]
        have := HL1.out
        rw [List.length_take]
        omega
      have HOK : Hid (∀ n ∈ ((L, I), h) :: R.1, okN n.1 ∧ n.2.size ≤ 32) := by
        intro n hn
        rcases List.mem_cons.1 hn with rfl | hn
        · exact HXO.out _ (List.mem_of_getElem? HX.out)
        · rw [← HRR.out] at hn
          exact ok_run _ rs HR.out (fun n hn => HXO.out n (List.mem_of_mem_take hn)) n hn
      have HQ1 := HQ.out
      rw [HRR.out] at HQ1
      have C : Hid (∀ W, Below wr.heap.size wr W → Calls _ _ _ _ _) := fun W hW => put R.1 L I h HT.out (HQ1.on hW) HOK.out (by omega) (by omega)
      have HQ2 : Hid (Jn _ _ _ _ _ _ _ _ _ _ _ _ _ _ _ _ _) := HQ1
      have NXT : Hid (endOf hi (xs.take (k + 1)) = (((I + 1) * 2 ^ L : Nat) : Int) ∧ runR (NF wd) rs (xs.take (k + 1)) = ((joinR (NF wd) R.1 ((L, I), h)).1, R.2 ++ (joinR (NF wd) R.1 ((L, I), h)).2)) := by
        rw [List.take_add_one, HX.out]
        refine ⟨endOf_snoc _ _ _, ?_⟩
        show runR (NF wd) rs (xs.take k ++ [((L, I), h)]) = _
        rw [runR_snoc, HRR.out]
      have B1 : Hid (Below wr.heap.size wr (wr.alloc (.cells #[.int .i64 (L : Int), .int .i64 (I : Int)] 36)).drew) := below_dr ((Below.refl _ _).alloc (Nat.le_refl _) _)
      have KX : Hid (Keep S W2 (wr.alloc (.cells #[.int .i64 (L : Int), .int .i64 (I : Int)] 36)).drew) := (HQ1.on B1.out).k
      obtain ⟨z1, z2⟩ := bx_new wr (L : Int) (I : Int)
      have z3 : (wr.alloc (.cells #[.int .i64 (L : Int), .int .i64 (I : Int)] 36)).cell? ⟨tb, off + k, none⟩ = some (.string h) := HC.out _ (HQ1.on ((Below.refl _ _).alloc (Nat.le_refl _) _)).k
      clear PW HQ1 HCNT HQ
      go_wp2_with fail
      go_region_with (go_at_call 52; refine (C.out _ B1.out).mono ?_; rintro e w5 ⟨rfl, vh5, vn5, vm5, hJ5⟩; have HJ5 : Hid (Jn _ _ _ _ _ _ _ _ _ _ _ _ _ _ _ _ _) := hJ5; clear hJ5)
      all_goals
        go_wp2
        go_roundw
        case rel =>
          refine ⟨k + 1, vh5, vn5, vm5, by omega, by go_num, ?_⟩
          rw [NXT.out.1, NXT.out.2]
          exact HJ5.out
        case measure => simp [intOf]; omega
    · have hlt' : ¬ (k : Int) < n := by omega
      obtain rfl : k = n := by omega
      have HQ1 := HQ.out
      rw [List.take_of_length_le (by rw [HN.out]; omega)] at HQ1
      have FF : Fx wr rr 0 0 (.slice none 0 0) := (PS.out wr HQ1.k).2.trans F2.out
      obtain ⟨ua, uc, rfl⟩ := own_formS HQ1.h
      obtain ⟨ma, mc, rfl⟩ := own_formS HQ1.m
      obtain ⟨hi2, HHI⟩ : ∃ h2, Hid (endOf hi xs = h2) := ⟨_, rfl⟩
      rw [HHI.out] at HQ1
      have p0 := HQ1.x.c0
      have p1 := HQ1.x.c1
      have p2 := HQ1.x.c2
      have p3 := HQ1.b.cell
      have f0 := frozen_of_row wr rr 0 _ _ FF
      have f1 := frozen_of_row wr rr 1 _ _ FF
      have f2 := frozen_of_row wr rr 2 _ _ FF
      obtain ⟨d1, d2, d3⟩ := FF.fb
      obtain ⟨ln, HLN⟩ : ∃ ln, Hid (((runR (NF wd) rs xs).1.reverse.map Prod.snd).length = ln) := ⟨_, rfl⟩
      obtain ⟨lm, HLM⟩ : ∃ lm, Hid ((runR (NF wd) rs xs).2.length = lm) := ⟨_, rfl⟩
      have oh := HQ1.h
      have om := HQ1.m
      rw [HLN.out] at p2 oh
      rw [HLM.out] at p3 om
      have O1 := fx_set FF lo hi2 (.slice ua ln uc)
      have O2 : Hid (Texts (set3 wr rr (.int .i64 lo) (.int .i64 hi2) (.slice ua ln uc)) _ _ _) := own_set3 oh FF (by decide) (.int .i64 lo) (.int .i64 hi2) (.slice ua ln uc)
      have O4 : Hid (Mades (set3 wr rr (.int .i64 lo) (.int .i64 hi2) (.slice ua ln uc)) _ _ _) := own_set3 om FF (by decide) (.int .i64 lo) (.int .i64 hi2) (.slice ua ln uc)
      have O3 : Hid (Below we.heap.size we (set3 wr rr (.int .i64 lo) (.int .i64 hi2) (.slice ua ln uc))) := below_set3 HQ1.e HWE.out _ _ _
      have O5 : Hid (Pass w p vn vh (set3 wr rr (.int .i64 lo) (.int .i64 hi2) (.slice ua ln uc))) := fun k h1 h2 h3 h4 => (set3_other _ _ _ _ _ _ (by omega)).trans ((PS.out wr HQ1.k).1 k h1 h2 h3 h4)
      obtain ⟨g1, g2, g3⟩ := O1.fb
      clear O1 oh om HQ1 HQ FF
      go_wp2_with fail
      go_region
      all_goals
        go_wp2
        unfold set3 at g1 g2 g3 O2 O3 O4 O5
        generalize World.setCell _ _ _ = wy at g1 g2 g3 O2 O3 O4 O5 ⊢
        (try simp only [Exit.inBlock, Exit.then])
        refine bodyPost_ret (by simp [results, Tryd.results28, go_sem, g1, g2, g3]; try rfl) rfl ?_
        exact ⟨⟨_, _, by rw [HHI.out], World.ownsRow.drew O2.out, World.ownsRow.drew O4.out⟩, below_dr O3.out, O5.out⟩
end Go.Proofs.YtmmbkfagchaocaaDoor.yh

namespace Go.Proofs.YtmmbkfagchaocaaDoor.yi
open Go.RowKit Go.PlainAid
open Go.Proofs.YtmmbkfagchaocaaDoor.pl Go.Proofs.YtmmbkfagchaocaaDoor.pi Go.Proofs.YtmmbkfagchaocaaDoor.pj Go.Proofs.YtmmbkfagchaocaaDoor.rf Go.Proofs.YtmmbkfagchaocaaDoor.ca Go.Proofs.YtmmbkfagchaocaaDoor.cb Go.Proofs.YtmmbkfagchaocaaDoor.cp Go.Proofs.YtmmbkfagchaocaaDoor.cs Go.Proofs.YtmmbkfagchaocaaDoor.xc Go.Proofs.YtmmbkfagchaocaaDoor.ka Go.Proofs.YtmmbkfagchaocaaDoor.kb Go.Proofs.YtmmbkfagchaocaaDoor.kc Go.Proofs.YtmmbkfagchaocaaDoor.ga Go.Proofs.YtmmbkfagchaocaaDoor.gb Go.Proofs.YtmmbkfagchaocaaDoor.na Go.Proofs.YtmmbkfagchaocaaDoor.nb Go.Proofs.YtmmbkfagchaocaaDoor.nc Go.Proofs.YtmmbkfagchaocaaDoor.oa Go.Proofs.YtmmbkfagchaocaaDoor.ob Go.Proofs.YtmmbkfagchaocaaDoor.qa Go.Proofs.YtmmbkfagchaocaaDoor.qb Go.Proofs.YtmmbkfagchaocaaDoor.qc Go.Proofs.YtmmbkfagchaocaaDoor.ya Go.Proofs.YtmmbkfagchaocaaDoor.yb Go.Proofs.YtmmbkfagchaocaaDoor.yc Go.Proofs.YtmmbkfagchaocaaDoor.yd Go.Proofs.YtmmbkfagchaocaaDoor.ye Go.Proofs.YtmmbkfagchaocaaDoor.yf Go.Proofs.YtmmbkfagchaocaaDoor.yg Go.Proofs.YtmmbkfagchaocaaDoor.yh
set_option linter.unusedVariables false

-- the pieces of a range: they may be, and where they end
theorem piece_end {p k : Nat} (hd : 2 ^ k ∣ p) : (p / 2 ^ k + 1) * 2 ^ k = p + 2 ^ k := by rw [Nat.add_mul, Nat.div_mul_cancel hd, Nat.one_mul]
theorem cov_ok {p hi : Nat} (hb : hi ≤ 4611686018427387904) : ∀ a ∈ cov p hi, okN a := by
  refine cov_fold (p := p) (hi := hi) (fun p h => h = hi → ∀ a ∈ cov p h, okN a) ?_ ?_ rfl
  · intro p h _ a ha
    rw [cov_end h] at ha
    cases ha
  · intro p k hlt hl ih he a ha
    rw [cov_at hlt hl] at ha
    rcases List.mem_cons.1 ha with rfl | ha
    · refine ⟨hl.1, ?_⟩
      show (p / 2 ^ k + 1) * 2 ^ k ≤ _
      rw [piece_end hl.2.1]
      have := hl.2.2.1
      omega
    · exact ih he a ha
theorem cov_last {p hi : Nat} : p ≤ hi → ∀ ns : List Md, ns.map Prod.fst = cov p hi → endOf (p : Int) ns = hi := by
  refine cov_fold (p := p) (hi := hi) (fun p h => h = hi → p ≤ h → ∀ ns : List Md, ns.map Prod.fst = cov p h → endOf (p : Int) ns = h) ?_ ?_ rfl
  · intro p h _ hle ns hns
    rw [cov_end h] at hns
    obtain rfl := List.map_eq_nil_iff.1 hns
    show (p : Int) = hi
    omega
  · intro p k hlt hl ih he hle ns hns
    rw [cov_at hlt hl] at hns
    obtain ⟨a, rest, rfl, ha, hrest⟩ := List.map_eq_cons_iff.1 hns
    have e : spanEnd a = ((p + 2 ^ k : Nat) : Int) := by unfold spanEnd; rw [ha]; show (((p / 2 ^ k + 1) * 2 ^ k : Nat) : Int) = _; rw [piece_end hl.2.1]
    show endOf (spanEnd a) rest = hi
    rw [e]
    exact ih he (by have := hl.2.2.1; omega) rest hrest
theorem open_ok {wd lo hi : Int} {hs : List ByteArray} (g : GoodF wd lo hi hs) : ∀ n ∈ opened lo hi hs, okM n := by
  intro n hn
  have h1 := opened_fst g
  have hw := wide_open g n hn
  obtain ⟨a, b, rfl, rfl, h2, h3, _⟩ := good_form g
  rw [covI_nat h2 h3] at h1
  have hm : n.1 ∈ cov a b := by rw [← h1]; exact List.mem_map_of_mem hn
  exact ⟨cov_ok h3 n.1 hm, by rw [hw]; have := wid_in wd; omega⟩
theorem open_end {wd lo hi : Int} {hs : List ByteArray} (g : GoodF wd lo hi hs) : endOf lo (opened lo hi hs) = hi := by
  have h1 := opened_fst g
  obtain ⟨a, b, rfl, rfl, h2, h3, _⟩ := good_form g
  rw [covI_nat h2 h3] at h1
  exact cov_last h2 _ h1
-- what blocks tell
theorem readsT_blocks {w W : World} {u : Value} {hs : List ByteArray} (h : ReadsT w u hs) (hk : ∀ k, k < w.heap.size → W.heap[k]? = w.heap[k]?) : ReadsT W u hs := by
  obtain ⟨a, cap, rfl, hc, h0 | ⟨b, off, rfl, hh⟩⟩ := h
  · exact ⟨a, cap, rfl, hc, .inl h0⟩
  · refine ⟨_, cap, rfl, hc, .inr ⟨b, off, rfl, fun i hi => ?_⟩⟩
    have c := hh i hi
    exact (World.cell?_of_block (a := ⟨b, off + i, none⟩) (hk b (World.block_lt_of_cell? _ _ c))).trans c
theorem own_blocks {w W : World} {B e s n : Nat} {v : Value} {xs : List Value} (h : w.ownsRow B e s v n xs) (hk : ∀ g, v.ownBlock = some g → W.heap[g]? = w.heap[g]?) : W.ownsRow B e s v n xs := by
  refine ⟨h.1, ?_⟩
  rcases h.2 with hn | ⟨g, cap, cur, rfl, hb, hg, rest⟩
  · exact .inl hn
  · exact .inr ⟨g, cap, cur, rfl, hb, by rw [hk g rfl]; exact hg, rest⟩
theorem Fx.same {w W : World} {b : Nat} {lo hi : Int} {u : Value} (h : Fx w b lo hi u) (hk : W.heap[b]? = w.heap[b]?) : Fx W b lo hi u := hk.trans h
set_option maxHeartbeats 3200000 in
set_option maxRecDepth 100000 in
theorem mergeC {T : World → Prop} (later : ∀ {w w' : World}, T w → Below w.heap.size w w' → T w') (tab : ∀ {w : World}, T w → Tab w) (tbb : ∀ {w : World}, T w → TabB w) : MergeC T := by
  intro wd lo hi u hs lo' hi' u' hs' w hwd hlo hhi hlo' hhi' hT hR hf hR' hf'
  have HRD : Hid (ReadsT w u hs) := hR
  have HRD' : Hid (ReadsT w u' hs') := hR'
  have HT : Hid (T w) := hT
  have HTab : Hid (Tab w) := tab hT
  have F1 : Fx (w.alloc (.cells #[.int .i64 lo, .int .i64 hi, u] 24)) w.heap.size lo hi u := fx_new _ _ _ _
  have F2 := fx_new (w.alloc (.cells #[.int .i64 lo, .int .i64 hi, u] 24)) lo' hi' u'
  rw [show (w.alloc (.cells #[.int .i64 lo, .int .i64 hi, u] 24)).heap.size = w.heap.size + 1 by simp] at F2
  have F3 := fx_new ((w.alloc (.cells #[.int .i64 lo, .int .i64 hi, u] 24)).alloc (.cells #[.int .i64 lo', .int .i64 hi', u'] 24)) 0 0 (.slice none 0 0)
  rw [show ((w.alloc (.cells #[.int .i64 lo, .int .i64 hi, u] 24)).alloc (.cells #[.int .i64 lo', .int .i64 hi', u'] 24)).heap.size = w.heap.size + 2 by simp] at F3
  have F1 := (F1.on ((Below.refl _ _).alloc (Nat.le_refl _) (.cells #[.int .i64 lo', .int .i64 hi', u'] 24))).on ((Below.refl _ _).alloc (Nat.le_refl _) (.cells #[.int .i64 0, .int .i64 0, .slice none 0 0] 24))
  have F2 := F2.on ((Below.refl _ _).alloc (Nat.le_refl _) (.cells #[.int .i64 0, .int .i64 0, .slice none 0 0] 24))
  have B0 : Below w.heap.size w (((w.alloc (.cells #[.int .i64 lo, .int .i64 hi, u] 24)).alloc (.cells #[.int .i64 lo', .int .i64 hi', u'] 24)).alloc (.cells #[.int .i64 0, .int .i64 0, .slice none 0 0] 24)) := (((Below.refl _ _).alloc (Nat.le_refl _) _).alloc (by simp) _).alloc (by simp; omega) _
  obtain ⟨W0, HW0⟩ : ∃ W0, ((w.alloc (.cells #[.int .i64 lo, .int .i64 hi, u] 24)).alloc (.cells #[.int .i64 lo', .int .i64 hi', u'] 24)).alloc (.cells #[.int .i64 0, .int .i64 0, .slice none 0 0] 24) = W0 := ⟨_, rfl⟩
  rw [HW0] at F1 F2 F3 B0
  have hsz : W0.heap.size = w.heap.size + 3 := by rw [← HW0]; simp
  have HF1 : Hid (Fx W0 w.heap.size lo hi u) := F1
  have HF2 : Hid (Fx W0 (w.heap.size + 1) lo' hi' u') := F2
  have HF3 : Hid (Fx W0 (w.heap.size + 2) 0 0 (.slice none 0 0)) := F3
  have HB0 : Hid (Below w.heap.size w W0) := B0
  have HSZ : Hid (W0.heap.size = w.heap.size + 3) := hsz
  have C1 : Hid (Calls _ _ _ _ _) := nodes wd lo hi hlo hhi u hs W0 (tbb (later hT B0)) (hR.later B0) hf
  have C2 : Hid (∀ W, Below w.heap.size w W → Calls _ _ _ _ _) := fun W hW => nodes wd lo' hi' hlo' hhi' u' hs' W (tbb (later hT hW)) (hR'.later hW) hf'
  have HG1 : Hid (chkE wd lo hi hs = 0 → GoodF wd lo hi hs) := chk_ok.1
  have HG2 : Hid (chkE wd lo' hi' hs' = 0 → GoodF wd lo' hi' hs') := chk_ok.1
  obtain ⟨E, HE⟩ : ∃ E, Hid (mergeE wd lo hi hs lo' hi' hs' = E) := ⟨_, rfl⟩
  have HE1 : Hid (E = if chkE wd lo hi hs = 0 then (if chkE wd lo' hi' hs' = 0 then (if hi = lo' then 0 else 70) else chkE wd lo' hi' hs') else chkE wd lo hi hs) := by show _ = _; rw [← HE.out]; rfl
  rw [HE.out]
  obtain ⟨R1, HR1⟩ : ∃ R, Hid (chkE wd lo hi hs = R) := ⟨_, rfl⟩
  obtain ⟨R2, HR2⟩ : ∃ R, Hid (chkE wd lo' hi' hs' = R) := ⟨_, rfl⟩
  rw [HR1.out] at C1 HE1 HG1
  rw [HR2.out] at C2 HE1 HG2
  obtain ⟨P1, HP1⟩ : ∃ P, Hid (pick E lo 0 = P) := ⟨_, rfl⟩
  obtain ⟨P2, HP2⟩ : ∃ P, Hid (pick E hi' 0 = P) := ⟨_, rfl⟩
  obtain ⟨P3, HP3⟩ : ∃ P, Hid (pick E (labs (mergeR wd lo hi hs lo' hi' hs').1) [] = P) := ⟨_, rfl⟩
  obtain ⟨P4, HP4⟩ : ∃ P, Hid (pick E (mergeR wd lo hi hs lo' hi' hs').2 [] = P) := ⟨_, rfl⟩
  rw [HP1.out, HP2.out, HP3.out, HP4.out]
  have NO : Hid (E ≠ 0 → P1 = 0 ∧ P2 = 0 ∧ P3 = [] ∧ P4 = []) := fun h => by
    rw [← HP1.out, ← HP2.out, ← HP3.out, ← HP4.out]
    unfold pick
    rw [if_neg h, if_neg h, if_neg h, if_neg h]
    exact ⟨rfl, rfl, rfl, rfl⟩
  obtain ⟨a, cap, rfl, hcap, _⟩ := hR
  obtain ⟨a', cap', rfl, hcap', _⟩ := hR'
  obtain ⟨n, HN⟩ : ∃ n, Hid (hs.length = n) := ⟨_, rfl⟩
  obtain ⟨n', HN'⟩ : ∃ n, Hid (hs'.length = n) := ⟨_, rfl⟩
  rw [HN.out] at HRD HF1 C1 HW0 ⊢
  rw [HN'.out] at HRD' HF2 C2 HW0 ⊢
  obtain ⟨d1, d2, d3⟩ := HF1.out.fb
  clear hT hf hf' F1 F2 F3 B0 hsz hcap hcap' hwd hlo hhi hlo' hhi'
  by_cases h1 : R1 = 0
  · subst h1
    have G1 : Hid (GoodF wd lo hi hs) := HG1.out rfl
    by_cases h2 : R2 = 0
    · subst h2
      have G2 : Hid (GoodF wd lo' hi' hs') := HG2.out rfl
      by_cases h3 : hi = lo'
      · subst h3
        have q3 : (hi == hi) = true := beq_self_eq_true _
        have HEE : Hid (E = 0) := by rw [HE1.out, if_pos rfl, if_pos rfl, if_pos rfl]; rfl
        have HPP : Hid (P1 = lo ∧ P2 = hi' ∧ P3 = labs (mergeR wd lo hi hs hi hi' hs').1 ∧ P4 = (mergeR wd lo hi hs hi hi' hs').2) := by
          rw [← HP1.out, ← HP2.out, ← HP3.out, ← HP4.out, HEE.out]
          exact ⟨rfl, rfl, rfl, rfl⟩
        have HL1 : Hid (hs.length ≤ 122) := by obtain ⟨_, _, _, _, _, _, h⟩ := good_form G1.out; exact h
        have HL2 : Hid (hs'.length ≤ 122) := by obtain ⟨_, _, _, _, _, _, h⟩ := good_form G2.out; exact h
        go_enter Tryd.func6, Tryd.ntmps6
        go_wp2_with fail
        refine C1.out.mono ?_
        rintro e w2 ⟨⟨xa, xl, xc, rfl, hx⟩, hb⟩
        have B2 : Hid (Below w.heap.size w w2) := over HB0.out hb
        have HS2 : Hid (W0.heap.size ≤ w2.heap.size) := hb.size
        obtain ⟨i1, i2, i3⟩ := (HF2.out.on hb).fb
        have FA : Hid (Fx w2 _ _ _ _) := HF1.out.on hb
        have FB : Hid (Fx w2 _ _ _ _) := HF2.out.on hb
        have FC : Hid (Fx w2 _ _ _ _) := HF3.out.on hb
        clear hb d1 d2 d3
        go_wp2_with fail
        refine (C2.out _ B2.out).mono ?_
        rintro e w3 ⟨⟨ya, yl, yc, rfl, hy⟩, hb⟩
        have B3 : Hid (Below w.heap.size w w3) := over B2.out hb
        have HB3 : Hid (Below w2.heap.size w2 w3) := hb
        obtain ⟨j1, j2, j3⟩ := (FA.out.on hb).fb
        obtain ⟨k1, k2, k3⟩ := (FB.out.on hb).fb
        have FR := FC.out.on hb
        clear hb i1 i2 i3
        have NX : Hid (Nodes w2 W0.heap.size (.slice xa xl xc) (covI lo hi)) := hx (by first | rfl | trivial)
        have NY : Hid (Nodes w3 w2.heap.size (.slice ya yl yc) (covI hi hi')) := hy (by first | rfl | trivial)
        have FA3 := FA.out.on HB3.out
        have FB3 := FB.out.on HB3.out
        have FC3 : Hid (Fx w3 _ _ _ _) := FR
        have hs2 := HS2.out
        have hs3 := HB3.out.size
        have hsz := HSZ.out
        have VN : Hid (∀ g, (Value.slice xa xl xc).ownBlock = some g → W0.heap.size ≤ g ∧ g < w2.heap.size) := fun g e => World.ownsRow.lt NX.out g e
        have SB : Hid (∀ W : World, W.heap[w.heap.size]? = w3.heap[w.heap.size]? → W.heap[w.heap.size + 1]? = w3.heap[w.heap.size + 1]? → W.cell? ⟨w.heap.size, 0, none⟩ = some (.int .i64 lo) ∧ W.cell? ⟨w.heap.size, 1, none⟩ = some (.int .i64 hi) ∧ W.cell? ⟨w.heap.size, 2, none⟩ = some (.slice a n cap) ∧ W.cell? ⟨w.heap.size + 1, 2, none⟩ = some (.slice a' n' cap')) := fun W h1 h2 => ⟨(Fx.same FA3 h1).fb.x, (Fx.same FA3 h1).fb.y, (Fx.same FA3 h1).fb.z, (Fx.same FB3 h2).fb.z⟩
        have BG : Hid (∀ W, Below w.heap.size w W → Calls _ _ _ _ _) := fun W hW => Go.Proofs.YtmmbkfagchaocaaDoor.yg.begin wd lo hi (.slice a n cap) (.slice xa xl xc) hs W (HRD.out.later hW) (by have := HL1.out; omega) ⟨_, _, _, rfl⟩
        have SP : Hid (∀ (w5 : World) (p : Nat) (vh : Value), Below w3.heap.size w3 w5 → w3.heap.size ≤ p → Texts w5 w3.heap.size vh hs → ∀ W, Pass w5 p (.slice xa xl xc) vh W → ∀ k, k < W0.heap.size → W.heap[k]? = w3.heap[k]?) := by
          intro w5 p vh hb hp hvh W hW k hk
          rw [hW k (by have := hb.size; omega) (by omega) (fun e => by have := (VN.out k e.symm).1; omega) (fun e => by have := (World.ownsRow.lt hvh k e.symm).1; omega)]
          exact hb.block k (by omega)
        have JC : Hid (∀ (w5 : World) (p : Nat) (vh : Value), Below w3.heap.size w3 w5 → w3.heap.size ≤ p → Px w5 p lo hi vh wd (.slice xa xl xc) → Texts w5 w3.heap.size vh hs → Calls Tryd.prog 28 #[.pointer (some ⟨p, 0, none⟩), .slice ya yl yc, .slice a' n' cap'] w5 fun e w' => (∃ u m, e = .returned (.tuple #[FV lo hi' u, m, .int .i64 0]) ∧ Texts w' w.heap.size u (labs (mergeR wd lo hi hs hi hi' hs').1) ∧ Mades w' w.heap.size m (mergeR wd lo hi hs hi hi' hs').2) ∧ Below w.heap.size w w' ∧ Pass w5 p (.slice xa xl xc) vh w') := by
          intro w5 p vh hb hp hpx hvh
          have h := join (we := w) (w := w5) (p := p) (lo := lo) (hi := hi) (wd := wd) (vh := vh) (vn := .slice xa xl xc) (vq := .slice ya yl yc) (vt := .slice a' n' cap') (opened lo hi hs).reverse (opened hi hi' hs') HTab.out (over B3.out hb) (by have := B3.out.size; omega) hpx (by rw [List.reverse_reverse, opened_snd G1.out]; exact hvh.down B3.out.size) (by rw [List.reverse_reverse, opened_fst G1.out]; exact own_later (own_later (own_down NX.out (by omega)) HB3.out) hb) (fun W hW => ⟨?_, ?_⟩) (fun n hn => open_ok G1.out n (List.mem_reverse.1 hn)) (open_ok G2.out) (by rw [List.length_reverse, opened_len G1.out]; have := HL1.out; omega) (by rw [opened_len G2.out]; have := HL2.out; omega)
          · rw [open_end G2.out] at h
            exact h
          · rw [opened_fst G2.out]
            refine own_readsA (own_blocks NY.out (fun g e => ?_))
            have hg := World.ownsRow.lt NY.out g e
            rw [hW g (by have := hb.size; omega) (by omega) (fun e2 => by have := (VN.out g e2.symm).2; omega) (fun e2 => by have := (World.ownsRow.lt hvh g e2.symm).1; omega)]
            exact hb.block g hg.2
          · rw [opened_snd G2.out]
            refine readsT_blocks HRD'.out (fun k hk => ?_)
            rw [SP.out w5 p vh hb hp hvh W hW k (by omega)]
            exact B3.out.block k hk
        obtain ⟨tL, HTL⟩ : ∃ t, Hid (labs (mergeR wd lo hi hs hi hi' hs').1 = t) := ⟨_, rfl⟩
        obtain ⟨tM, HTM⟩ : ∃ t, Hid ((mergeR wd lo hi hs hi hi' hs').2 = t) := ⟨_, rfl⟩
        rw [HTL.out, HTM.out] at JC HPP
        clear hx hy FA3 FB3 FR
        have hle : Hid (w.heap.size ≤ w.heap.size + 2) := Nat.le_add_right _ _
        have kk0 : Hid (w.heap.size < W0.heap.size ∧ w.heap.size + 1 < W0.heap.size ∧ w.heap.size + 2 < W0.heap.size) := ⟨by omega, by omega, by omega⟩
        have kk3 : Hid (W0.heap.size ≤ w3.heap.size) := by show _ ≤ _; omega
        clear hs2 hs3 hsz
        go_wp2_with fail
        go_region_held3 (fun W => W.cell? ⟨w.heap.size, 0, none⟩ = some (.int .i64 lo) ∧ W.cell? ⟨w.heap.size, 1, none⟩ = some (.int .i64 hi) ∧ W.cell? ⟨w.heap.size, 2, none⟩ = some (.slice a n cap) ∧ W.cell? ⟨w.heap.size + 1, 2, none⟩ = some (.slice a' n' cap')) (first | exact SB.out _ rfl rfl | exact SB.out _ (HB5.out.block _ (Nat.lt_of_lt_of_le kk0.out.1 kk3.out)) (HB5.out.block _ (Nat.lt_of_lt_of_le kk0.out.2.1 kk3.out)) | exact SB.out _ (KP.out _ kk0.out.1) (KP.out _ kk0.out.2.1) | exact SB.out _ ((set3_other _ _ _ _ _ _ (by omega)).trans (KP.out _ kk0.out.1)) ((set3_other _ _ _ _ _ _ (by omega)).trans (KP.out _ kk0.out.2.1))) ((first
          | (go_at_call 27
             refine (BG.out _ (below_dr B3.out)).mono ?_
             rintro e w5 ⟨⟨p, vh, rfl, hp, hpx, hvh⟩, hb⟩
             have HB5 : Hid (Below w3.heap.size w3 w5) := over (below_dr (Below.refl _ _)) hb
             have JX : Hid (Calls _ _ _ _ _) := JC.out w5 p vh HB5.out hp hpx hvh
             have SQ : Hid (∀ W, Pass w5 p (.slice xa xl xc) vh W → ∀ k, k < W0.heap.size → W.heap[k]? = w3.heap[k]?) := SP.out w5 p vh HB5.out hp hvh
             clear hp hpx hvh hb)
          | (go_at_call 28
             refine JX.out.mono ?_
             rintro e w6 ⟨⟨uu, mm, rfl, hu, hm⟩, hB6, hP6⟩
             have KP : Hid (∀ k, k < W0.heap.size → w6.heap[k]? = w3.heap[k]?) := SQ.out w6 hP6
             obtain ⟨ua, uc, rfl⟩ := own_formS hu
             obtain ⟨ma, mc, rfl⟩ := own_formS hm
             have FR6 : Fx w6 (w.heap.size + 2) 0 0 (.slice none 0 0) := Fx.same FC3.out (KP.out _ kk0.out.2.2)
             have f0 := frozen_of_row w6 (w.heap.size + 2) 0 _ _ FR6
             have f1 := frozen_of_row w6 (w.heap.size + 2) 1 _ _ FR6
             have f2 := frozen_of_row w6 (w.heap.size + 2) 2 _ _ FR6
             have s1 := FR6.fb.x
             have s2 := FR6.fb.y
             have s3 := FR6.fb.z
             have O1 : Hid (Fx _ _ _ _ _) := fx_set FR6 lo hi' (.slice ua tL.length uc)
             have O2 : Hid (Texts (set3 w6 (w.heap.size + 2) (.int .i64 lo) (.int .i64 hi') (.slice ua tL.length uc)) _ _ _) := own_set3 hu FR6 (by decide) _ _ _
             have O4 : Hid (Mades (set3 w6 (w.heap.size + 2) (.int .i64 lo) (.int .i64 hi') (.slice ua tL.length uc)) _ _ _) := own_set3 hm FR6 (by decide) _ _ _
             have O3 : Hid (Below w.heap.size w (set3 w6 (w.heap.size + 2) (.int .i64 lo) (.int .i64 hi') (.slice ua tL.length uc))) := below_set3 hB6 hle.out _ _ _
             clear hu hm hB6 hP6 FR6)))
        all_goals
          obtain ⟨g1, g2, g3⟩ := O1.out.fb
          unfold set3 at g1 g2 g3 O2 O3 O4
          generalize World.setCell _ _ _ = wy at g1 g2 g3 O2 O3 O4 ⊢
          clear O1
          go_wp2
          (try simp only [Exit.inBlock, Exit.then])
          refine bodyPost_ret (by simp [results, Tryd.results6, go_sem, g1, g2, g3]; try rfl) rfl ?_
          rw [HPP.out.2.2.1, HPP.out.2.2.2]
          exact ⟨⟨_, _, by rw [HPP.out.1, HPP.out.2.1, HEE.out], O2.out, O4.out⟩, O3.out⟩
      · have q3 : (hi == lo') = false := by rw [beq_eq_false_iff_ne]; exact h3
        have HEE : Hid (E = 70) := by rw [HE1.out, if_pos rfl, if_pos rfl, if_neg h3]; rfl
        have HPP : Hid (_ ∧ _ ∧ _ ∧ _) := NO.out (by rw [HEE.out]; decide)
        clear h3
        go_enter Tryd.func6, Tryd.ntmps6
        go_wp2_with fail
        refine C1.out.mono ?_
        rintro e w2 ⟨⟨xa, xl, xc, rfl, hx⟩, hb⟩
        have B2 : Hid (Below w.heap.size w w2) := over HB0.out hb
        have HS2 : Hid (W0.heap.size ≤ w2.heap.size) := hb.size
        obtain ⟨i1, i2, i3⟩ := (HF2.out.on hb).fb
        have FA : Hid (Fx w2 _ _ _ _) := HF1.out.on hb
        have FB : Hid (Fx w2 _ _ _ _) := HF2.out.on hb
        have FC : Hid (Fx w2 _ _ _ _) := HF3.out.on hb
        clear hb d1 d2 d3
        go_wp2_with fail
        refine (C2.out _ B2.out).mono ?_
        rintro e w3 ⟨⟨ya, yl, yc, rfl, hy⟩, hb⟩
        have B3 : Hid (Below w.heap.size w w3) := over B2.out hb
        have HB3 : Hid (Below w2.heap.size w2 w3) := hb
        obtain ⟨j1, j2, j3⟩ := (FA.out.on hb).fb
        obtain ⟨k1, k2, k3⟩ := (FB.out.on hb).fb
        have FR := FC.out.on hb
        clear hb i1 i2 i3
        have f0 := frozen_of_row w3 (w.heap.size + 2) 0 _ _ FR
        have f1 := frozen_of_row w3 (w.heap.size + 2) 1 _ _ FR
        have f2 := frozen_of_row w3 (w.heap.size + 2) 2 _ _ FR
        obtain ⟨d1, d2, d3⟩ := FR.fb
        have O1 := fx_set FR 0 0 (.slice none 0 0)
        have O3 : Hid (Below w.heap.size w (set3 w3 (w.heap.size + 2) (.int .i64 0) (.int .i64 0) (.slice none 0 0))) := below_set3 B3.out (by omega) _ _ _
        obtain ⟨g1, g2, g3⟩ := O1.fb
        clear O1 FR
        go_wp2
        unfold set3 at g1 g2 g3 O3
        generalize World.setCell _ _ _ = wy at g1 g2 g3 O3 ⊢
        (try simp only [Exit.inBlock, Exit.then])
        refine bodyPost_ret (by simp [results, Tryd.results6, go_sem, g1, g2, g3]; try rfl) rfl ?_
        rw [HPP.out.2.2.1, HPP.out.2.2.2]
        exact ⟨⟨_, _, by rw [HPP.out.1, HPP.out.2.1, HEE.out], World.ownsRow_nil _ _ _ _, World.ownsRow_nil _ _ _ _⟩, O3.out⟩
    · have q2 : (R2 == 0) = false := by rw [beq_eq_false_iff_ne]; exact h2
      have HEE : Hid (E = R2) := by rw [HE1.out, if_pos rfl, if_neg h2]; rfl
      have HPP : Hid (_ ∧ _ ∧ _ ∧ _) := NO.out (by rw [HEE.out]; exact h2)
      clear h2
      go_enter Tryd.func6, Tryd.ntmps6
      go_wp2_with fail
      refine C1.out.mono ?_
      rintro e w2 ⟨⟨xa, xl, xc, rfl, hx⟩, hb⟩
      have B2 : Hid (Below w.heap.size w w2) := over HB0.out hb
      have HS2 : Hid (W0.heap.size ≤ w2.heap.size) := hb.size
      obtain ⟨i1, i2, i3⟩ := (HF2.out.on hb).fb
      have FA : Hid (Fx w2 _ _ _ _) := HF1.out.on hb
      have FB : Hid (Fx w2 _ _ _ _) := HF2.out.on hb
      have FC : Hid (Fx w2 _ _ _ _) := HF3.out.on hb
      clear hb d1 d2 d3
      go_wp2_with fail
      refine (C2.out _ B2.out).mono ?_
      rintro e w3 ⟨⟨ya, yl, yc, rfl, hy⟩, hb⟩
      have B3 : Hid (Below w.heap.size w w3) := over B2.out hb
      have HB3 : Hid (Below w2.heap.size w2 w3) := hb
      obtain ⟨j1, j2, j3⟩ := (FA.out.on hb).fb
      obtain ⟨k1, k2, k3⟩ := (FB.out.on hb).fb
      have FR := FC.out.on hb
      clear hb i1 i2 i3
      have f0 := frozen_of_row w3 (w.heap.size + 2) 0 _ _ FR
      have f1 := frozen_of_row w3 (w.heap.size + 2) 1 _ _ FR
      have f2 := frozen_of_row w3 (w.heap.size + 2) 2 _ _ FR
      obtain ⟨d1, d2, d3⟩ := FR.fb
      have O1 := fx_set FR 0 0 (.slice none 0 0)
      have O3 : Hid (Below w.heap.size w (set3 w3 (w.heap.size + 2) (.int .i64 0) (.int .i64 0) (.slice none 0 0))) := below_set3 B3.out (by omega) _ _ _
      obtain ⟨g1, g2, g3⟩ := O1.fb
      clear O1 FR
      go_wp2
      unfold set3 at g1 g2 g3 O3
      generalize World.setCell _ _ _ = wy at g1 g2 g3 O3 ⊢
      (try simp only [Exit.inBlock, Exit.then])
      refine bodyPost_ret (by simp [results, Tryd.results6, go_sem, g1, g2, g3]; try rfl) rfl ?_
      rw [HPP.out.2.2.1, HPP.out.2.2.2]
      exact ⟨⟨_, _, by rw [HPP.out.1, HPP.out.2.1, HEE.out], World.ownsRow_nil _ _ _ _, World.ownsRow_nil _ _ _ _⟩, O3.out⟩
  · have q1 : (R1 == 0) = false := by rw [beq_eq_false_iff_ne]; exact h1
    have HEE : Hid (E = R1) := by rw [HE1.out, if_neg h1]; rfl
    have HPP : Hid (_ ∧ _ ∧ _ ∧ _) := NO.out (by rw [HEE.out]; exact h1)
    clear h1
    go_enter Tryd.func6, Tryd.ntmps6
    go_wp2_with fail
    refine C1.out.mono ?_
    rintro e w2 ⟨⟨xa, xl, xc, rfl, hx⟩, hb⟩
    have B2 : Hid (Below w.heap.size w w2) := over HB0.out hb
    have HS2 : Hid (W0.heap.size ≤ w2.heap.size) := hb.size
    obtain ⟨i1, i2, i3⟩ := (HF2.out.on hb).fb
    have FA : Hid (Fx w2 _ _ _ _) := HF1.out.on hb
    have FB : Hid (Fx w2 _ _ _ _) := HF2.out.on hb
    have FC : Hid (Fx w2 _ _ _ _) := HF3.out.on hb
    clear hb d1 d2 d3
    have FR := FC.out
    clear i1 i2 i3
    have f0 := frozen_of_row w2 (w.heap.size + 2) 0 _ _ FR
    have f1 := frozen_of_row w2 (w.heap.size + 2) 1 _ _ FR
    have f2 := frozen_of_row w2 (w.heap.size + 2) 2 _ _ FR
    obtain ⟨d1, d2, d3⟩ := FR.fb
    have O1 := fx_set FR 0 0 (.slice none 0 0)
    have O3 : Hid (Below w.heap.size w (set3 w2 (w.heap.size + 2) (.int .i64 0) (.int .i64 0) (.slice none 0 0))) := below_set3 B2.out (by omega) _ _ _
    obtain ⟨g1, g2, g3⟩ := O1.fb
    clear O1 FR
    go_wp2
    unfold set3 at g1 g2 g3 O3
    generalize World.setCell _ _ _ = wy at g1 g2 g3 O3 ⊢
    (try simp only [Exit.inBlock, Exit.then])
    refine bodyPost_ret (by simp [results, Tryd.results6, go_sem, g1, g2, g3]; try rfl) rfl ?_
    rw [HPP.out.2.2.1, HPP.out.2.2.2]
    exact ⟨⟨_, _, by rw [HPP.out.1, HPP.out.2.1, HEE.out], World.ownsRow_nil _ _ _ _, World.ownsRow_nil _ _ _ _⟩, O3.out⟩
end Go.Proofs.YtmmbkfagchaocaaDoor.yi

namespace Go.Proofs.YtmmbkfagchaocaaDoor.yj
open Go.RowKit Go.PlainAid
open Go.Proofs.YtmmbkfagchaocaaDoor.pl Go.Proofs.YtmmbkfagchaocaaDoor.pi Go.Proofs.YtmmbkfagchaocaaDoor.pj Go.Proofs.YtmmbkfagchaocaaDoor.rf Go.Proofs.YtmmbkfagchaocaaDoor.ca Go.Proofs.YtmmbkfagchaocaaDoor.cb Go.Proofs.YtmmbkfagchaocaaDoor.cp Go.Proofs.YtmmbkfagchaocaaDoor.cs Go.Proofs.YtmmbkfagchaocaaDoor.xc Go.Proofs.YtmmbkfagchaocaaDoor.ka Go.Proofs.YtmmbkfagchaocaaDoor.kb Go.Proofs.YtmmbkfagchaocaaDoor.kc Go.Proofs.YtmmbkfagchaocaaDoor.ga Go.Proofs.YtmmbkfagchaocaaDoor.gb Go.Proofs.YtmmbkfagchaocaaDoor.na Go.Proofs.YtmmbkfagchaocaaDoor.nb Go.Proofs.YtmmbkfagchaocaaDoor.nc Go.Proofs.YtmmbkfagchaocaaDoor.oa Go.Proofs.YtmmbkfagchaocaaDoor.ob Go.Proofs.YtmmbkfagchaocaaDoor.qa Go.Proofs.YtmmbkfagchaocaaDoor.qb Go.Proofs.YtmmbkfagchaocaaDoor.qc Go.Proofs.YtmmbkfagchaocaaDoor.ya Go.Proofs.YtmmbkfagchaocaaDoor.yb Go.Proofs.YtmmbkfagchaocaaDoor.yc Go.Proofs.YtmmbkfagchaocaaDoor.yd Go.Proofs.YtmmbkfagchaocaaDoor.ye Go.Proofs.YtmmbkfagchaocaaDoor.yf Go.Proofs.YtmmbkfagchaocaaDoor.yg Go.Proofs.YtmmbkfagchaocaaDoor.yh Go.Proofs.YtmmbkfagchaocaaDoor.yi
set_option linter.unusedVariables false

-- one node, one hash, in a block of its own
theorem readsA_one {W : World} {k L I : Nat} (h : W.heap[k]? = some (.cells #[.int .i64 (L : Nat), .int .i64 (I : Nat)] 36 (0, 0))) : ReadsA W (.slice (some ⟨k, 0, none⟩) 1 1) [(L, I)] := by
  refine ⟨_, 1, rfl, .inr ⟨k, rfl, fun i x hx => ?_⟩⟩
  cases i with
  | zero =>
    obtain rfl := Option.some.inj hx
    exact ⟨by rw [cell_of_row _ _ _ _ _ _ h]; rfl, by rw [cell_of_row _ _ _ _ _ _ h]; rfl⟩
  | succ i => simp at hx
theorem readsT_one {W : World} {k : Nat} {x : ByteArray} (h : W.heap[k]? = some (.cells #[.string x] 9 (0, 0))) : ReadsT W (.slice (some ⟨k, 0, none⟩) 1 1) [x] := by
  refine ⟨_, 1, rfl, Nat.le_refl _, .inr ⟨k, 0, rfl, fun i hi => ?_⟩⟩
  obtain rfl : i = 0 := by simpa using hi
  rw [cell_of_row _ _ _ _ _ _ h]
  rfl
theorem kept1 {v1 w5 : World} {o : Obj} (hb : Below (v1.alloc o).drew.heap.size (v1.alloc o).drew w5) : w5.heap[v1.heap.size]? = some o ∧ v1.heap.size < w5.heap.size := by
  have h1 : v1.heap.size < (v1.alloc o).drew.heap.size := by show _ < (v1.alloc o).heap.size; simp
  exact ⟨(hb.block _ h1).trans (made0 v1 o), Nat.lt_of_lt_of_le h1 hb.size⟩
theorem kept2 {w5 : World} {o o' : Obj} {k : Nat} (h : w5.heap[k]? = some o ∧ k < w5.heap.size) : (w5.alloc o').heap[k]? = some o := (Below.heap_alloc _ _ _ h.2).trans h.1
set_option maxHeartbeats 6400000 in
set_option maxRecDepth 100000 in
theorem pushC {T : World → Prop} (later : ∀ {w w' : World}, T w → Below w.heap.size w w' → T w') (tab : ∀ {w : World}, T w → Tab w) (tbb : ∀ {w : World}, T w → TabB w) : PushC T := by
  intro wd lo hi u hs h w hwd hlo hhi hT hR hf hh
  have HRD : Hid (ReadsT w u hs) := hR
  have HTab : Hid (Tab w) := tab hT
  have F1 : Fx (w.alloc (.cells #[.int .i64 lo, .int .i64 hi, u] 24)) w.heap.size lo hi u := fx_new _ _ _ _
  have F3 := fx_new (w.alloc (.cells #[.int .i64 lo, .int .i64 hi, u] 24)) 0 0 (.slice none 0 0)
  rw [show (w.alloc (.cells #[.int .i64 lo, .int .i64 hi, u] 24)).heap.size = w.heap.size + 1 by simp] at F3
  have F1 := F1.on ((Below.refl _ _).alloc (Nat.le_refl _) (.cells #[.int .i64 0, .int .i64 0, .slice none 0 0] 24))
  have B0 : Below w.heap.size w ((w.alloc (.cells #[.int .i64 lo, .int .i64 hi, u] 24)).alloc (.cells #[.int .i64 0, .int .i64 0, .slice none 0 0] 24)) := ((Below.refl _ _).alloc (Nat.le_refl _) _).alloc (by simp) _
  obtain ⟨W0, HW0⟩ : ∃ W0, (w.alloc (.cells #[.int .i64 lo, .int .i64 hi, u] 24)).alloc (.cells #[.int .i64 0, .int .i64 0, .slice none 0 0] 24) = W0 := ⟨_, rfl⟩
  rw [HW0] at F1 F3 B0
  have hsz : W0.heap.size = w.heap.size + 2 := by rw [← HW0]; simp
  have HF1 : Hid (Fx W0 w.heap.size lo hi u) := F1
  have HF3 : Hid (Fx W0 (w.heap.size + 1) 0 0 (.slice none 0 0)) := F3
  have HB0 : Hid (Below w.heap.size w W0) := B0
  have HSZ : Hid (W0.heap.size = w.heap.size + 2) := hsz
  have C1 : Hid (Calls _ _ _ _ _) := nodes wd lo hi hlo hhi u hs W0 (tbb (later hT B0)) (hR.later B0) hf
  have HG1 : Hid (chkE wd lo hi hs = 0 → GoodF wd lo hi hs) := chk_ok.1
  obtain ⟨E, HE⟩ : ∃ E, Hid (pushE wd lo hi hs h = E) := ⟨_, rfl⟩
  obtain ⟨V, HV⟩ : ∃ V, Hid (wid wd = V) := ⟨_, rfl⟩
  have C2 : Hid (∀ W, Calls _ _ _ _ _) := fun W => isHash wd h V HV.out W hh
  have HE1 : Hid (E = if chkE wd lo hi hs = 0 then (if h.size = V then (if hi = 4611686018427387904 then 10 else 0) else 72) else chkE wd lo hi hs) := by show _ = _; rw [← HE.out, ← HV.out]; rfl
  rw [HE.out]
  obtain ⟨R1, HR1⟩ : ∃ R, Hid (chkE wd lo hi hs = R) := ⟨_, rfl⟩
  rw [HR1.out] at C1 HE1 HG1
  obtain ⟨r2, HR2⟩ : ∃ r, Hid (decide (h.size = V) = r) := ⟨_, rfl⟩
  rw [HR2.out] at C2
  obtain ⟨P1, HP1⟩ : ∃ P, Hid (pick E lo 0 = P) := ⟨_, rfl⟩
  obtain ⟨P2, HP2⟩ : ∃ P, Hid (pick E (hi + 1) 0 = P) := ⟨_, rfl⟩
  obtain ⟨P3, HP3⟩ : ∃ P, Hid (pick E (labs (pushR wd lo hi hs h).1) [] = P) := ⟨_, rfl⟩
  obtain ⟨P4, HP4⟩ : ∃ P, Hid (pick E (pushR wd lo hi hs h).2 [] = P) := ⟨_, rfl⟩
  rw [HP1.out, HP2.out, HP3.out, HP4.out]
  have NO : Hid (E ≠ 0 → P1 = 0 ∧ P2 = 0 ∧ P3 = [] ∧ P4 = []) := fun h => by
    rw [← HP1.out, ← HP2.out, ← HP3.out, ← HP4.out]
    unfold pick
    rw [if_neg h, if_neg h, if_neg h, if_neg h]
    exact ⟨rfl, rfl, rfl, rfl⟩
  obtain ⟨a, cap, rfl, hcap, _⟩ := hR
  obtain ⟨n, HN⟩ : ∃ n, Hid (hs.length = n) := ⟨_, rfl⟩
  rw [HN.out] at HRD HF1 C1 HW0 ⊢
  obtain ⟨d1, d2, d3⟩ := HF1.out.fb
  clear hT hf F1 F3 B0 hsz hcap hwd hlo hhi hh
  by_cases h1 : R1 = 0
  · subst h1
    have G1 : Hid (GoodF wd lo hi hs) := HG1.out rfl
    cases r2 with
    | true =>
      have HVV : Hid (h.size = V) := of_decide_eq_true (p := h.size = V) HR2.out
      by_cases h3 : hi = 4611686018427387904
      · have q3 : (hi == 4611686018427387904) = true := by rw [beq_iff_eq]; exact h3
        have HEE : Hid (E = 10) := by rw [HE1.out, if_pos rfl, if_pos HVV.out, if_pos h3]; rfl
        have HPP : Hid (_ ∧ _ ∧ _ ∧ _) := NO.out (by rw [HEE.out]; decide)
        clear h3
        go_enter Tryd.func5, Tryd.ntmps5
        go_wp2_with fail
        refine C1.out.mono ?_
        rintro e w2 ⟨⟨xa, xl, xc, rfl, hx⟩, hb⟩
        have B2 : Hid (Below w.heap.size w w2) := over HB0.out hb
        have HS2 : Hid (W0.heap.size ≤ w2.heap.size) := hb.size
        have FA : Hid (Fx w2 _ _ _ _) := HF1.out.on hb
        have FC : Hid (Fx w2 _ _ _ _) := HF3.out.on hb
        clear hb d1 d2 d3
        go_wp2_with fail
        refine (C2.out _).mono ?_
        rintro e w3 ⟨rfl, hw⟩
        rw [hw]
        clear hw
        obtain ⟨j1, j2, j3⟩ := FA.out.fb
        have FR := FC.out
        have f0 := frozen_of_row w2 (w.heap.size + 1) 0 _ _ FR
        have f1 := frozen_of_row w2 (w.heap.size + 1) 1 _ _ FR
        have f2 := frozen_of_row w2 (w.heap.size + 1) 2 _ _ FR
        obtain ⟨d1, d2, d3⟩ := FR.fb
        have O1 := fx_set FR 0 0 (.slice none 0 0)
        have O3 : Hid (Below w.heap.size w (set3 w2 (w.heap.size + 1) (.int .i64 0) (.int .i64 0) (.slice none 0 0))) := below_set3 B2.out (by omega) _ _ _
        obtain ⟨g1, g2, g3⟩ := O1.fb
        clear O1 FR
        go_wp2
        unfold set3 at g1 g2 g3 O3
        generalize World.setCell _ _ _ = wy at g1 g2 g3 O3 ⊢
        (try simp only [Exit.inBlock, Exit.then])
        refine bodyPost_ret (by simp [results, Tryd.results5, go_sem, g1, g2, g3]; try rfl) rfl ?_
        rw [HPP.out.2.2.1, HPP.out.2.2.2]
        exact ⟨⟨_, _, by rw [HPP.out.1, HPP.out.2.1, HEE.out], World.ownsRow_nil _ _ _ _, World.ownsRow_nil _ _ _ _⟩, O3.out⟩
      · obtain ⟨b0, rfl⟩ : ∃ m : Nat, hi = m := by obtain ⟨_, b, _, e, _⟩ := good_form G1.out; exact ⟨b, e⟩
        have hb62 : b0 < 4611686018427387904 := by obtain ⟨_, b, _, e, _, e2, _⟩ := good_form G1.out; omega
        have HL1 : Hid (hs.length ≤ 122) := by obtain ⟨_, _, _, _, _, _, h⟩ := good_form G1.out; exact h
        have HEE : Hid (E = 0) := by rw [HE1.out, if_pos rfl, if_pos HVV.out, if_neg h3]; rfl
        have HPP : Hid (P1 = lo ∧ P2 = (b0 : Int) + 1 ∧ P3 = labs (pushR wd lo b0 hs h).1 ∧ P4 = (pushR wd lo b0 hs h).2) := by
          rw [← HP1.out, ← HP2.out, ← HP3.out, ← HP4.out, HEE.out]
          exact ⟨rfl, rfl, rfl, rfl⟩
        have HOK : Hid (okM ((0, b0), h)) := ⟨⟨by show 0 ≤ 62; omega, by show (b0 + 1) * 2 ^ 0 ≤ _; omega⟩, by show h.size ≤ 32; rw [HVV.out, ← HV.out]; have := wid_in wd; omega⟩
        have q3 : ((b0 : Int) == 4611686018427387904) = false := by rw [beq_eq_false_iff_ne]; omega
        clear h3 hb62
        go_enter Tryd.func5, Tryd.ntmps5
        go_wp2_with fail
        refine C1.out.mono ?_
        rintro e w2 ⟨⟨xa, xl, xc, rfl, hx⟩, hb⟩
        have B2 : Hid (Below w.heap.size w w2) := over HB0.out hb
        have HS2 : Hid (W0.heap.size ≤ w2.heap.size) := hb.size
        have FA : Hid (Fx w2 _ _ _ _) := HF1.out.on hb
        have FC : Hid (Fx w2 _ _ _ _) := HF3.out.on hb
        clear hb d1 d2 d3
        go_wp2_with fail
        refine (C2.out _).mono ?_
        rintro e w3 ⟨rfl, hw⟩
        rw [hw]
        clear hw
        obtain ⟨j1, j2, j3⟩ := FA.out.fb
        have NX : Hid (Nodes w2 W0.heap.size (.slice xa xl xc) (covI lo b0)) := hx (by first | rfl | trivial)
        have VN : Hid (∀ g, (Value.slice xa xl xc).ownBlock = some g → W0.heap.size ≤ g ∧ g < w2.heap.size) := fun g e => World.ownsRow.lt NX.out g e
        have A3 : Below w2.heap.size w2 (w2.alloc (.cells #[.int .i64 0, .int .i64 (b0 : Int)] 36)) := (Below.refl _ _).alloc (Nat.le_refl _) _
        have FL : Hid ((w2.alloc (.cells #[.int .i64 0, .int .i64 (b0 : Int)] 36)).heap[w2.heap.size]? = some (.cells #[.int .i64 0, .int .i64 (b0 : Int)] 36 (0, 0))) := heap_alloc_new _ _
        have FA3 : Hid (Fx (w2.alloc (.cells #[.int .i64 0, .int .i64 (b0 : Int)] 36)) _ _ _ _) := FA.out.on A3
        have FC3 : Hid (Fx (w2.alloc (.cells #[.int .i64 0, .int .i64 (b0 : Int)] 36)) _ _ _ _) := FC.out.on A3
        have B3 : Hid (Below w.heap.size w (w2.alloc (.cells #[.int .i64 0, .int .i64 (b0 : Int)] 36))) := over B2.out A3
        have N3 : Hid (Nodes (w2.alloc (.cells #[.int .i64 0, .int .i64 (b0 : Int)] 36)) W0.heap.size (.slice xa xl xc) (covI lo b0)) := own_later NX.out A3
        have hv1 : Hid ((w2.alloc (.cells #[.int .i64 0, .int .i64 (b0 : Int)] 36)).heap.size = w2.heap.size + 1) := by show _ = _; simp
        obtain ⟨bl, hbl⟩ : ∃ bl, w2.heap.size = bl := ⟨_, rfl⟩
        rw [hbl] at FL hv1 VN HS2
        clear hx A3 NX
        go_wp2_with fail
        generalize w2.alloc _ = v1 at FL FA3 FC3 B3 N3 hv1 ⊢
        clear hbl FA FC B2 j1 j2 j3
        have kk : Hid (w.heap.size < W0.heap.size ∧ w.heap.size + 1 < W0.heap.size) := by have := HSZ.out; exact ⟨by omega, by omega⟩
        have kv : Hid (W0.heap.size ≤ bl ∧ bl < v1.heap.size) := by have := hv1.out; have := HS2.out; exact ⟨by omega, by omega⟩
        have SB : Hid (∀ W : World, W.heap[w.heap.size]? = v1.heap[w.heap.size]? → W.heap[bl]? = v1.heap[bl]? → W.cell? ⟨w.heap.size, 0, none⟩ = some (.int .i64 lo) ∧ W.cell? ⟨w.heap.size, 1, none⟩ = some (.int .i64 (b0 : Int)) ∧ W.cell? ⟨w.heap.size, 2, none⟩ = some (.slice a n cap) ∧ W.cell? ⟨bl, 0, none⟩ = some (.int .i64 0) ∧ W.cell? ⟨bl, 1, none⟩ = some (.int .i64 (b0 : Int))) := fun W h1 h2 => ⟨(Fx.same FA3.out h1).fb.x, (Fx.same FA3.out h1).fb.y, (Fx.same FA3.out h1).fb.z, by rw [cell_of_row _ _ _ _ _ _ (h2.trans FL.out)]; rfl, by rw [cell_of_row _ _ _ _ _ _ (h2.trans FL.out)]; rfl⟩
        have SW : Hid (∀ W : World, Below v1.heap.size v1 W → W.cell? ⟨w.heap.size, 0, none⟩ = some (.int .i64 lo) ∧ W.cell? ⟨w.heap.size, 1, none⟩ = some (.int .i64 (b0 : Int)) ∧ W.cell? ⟨w.heap.size, 2, none⟩ = some (.slice a n cap) ∧ W.cell? ⟨bl, 0, none⟩ = some (.int .i64 0) ∧ W.cell? ⟨bl, 1, none⟩ = some (.int .i64 (b0 : Int))) := fun W hW => SB.out W (hW.block _ (by have := kk.out; have := kv.out; omega)) (hW.block _ kv.out.2)
        have E1 : Hid (∀ o, Below v1.heap.size v1 (v1.alloc o).drew) := fun o => below_dr ((Below.refl _ _).alloc (Nat.le_refl _) _)
        have E2 : Hid (∀ o o', Below v1.heap.size v1 ((v1.alloc o).alloc o').drew) := fun o o' => below_dr (((Below.refl _ _).alloc (Nat.le_refl _) _).alloc (by simp) _)
        have E0 : Hid (Below v1.heap.size v1 v1.drew) := below_dr (Below.refl _ _)
        have BG : Hid (∀ W, Below v1.heap.size v1 W → Calls _ _ _ _ _) := fun W hW => Go.Proofs.YtmmbkfagchaocaaDoor.yg.begin wd lo b0 (.slice a n cap) (.slice xa xl xc) hs W (HRD.out.later (over B3.out hW)) (by have := HL1.out; omega) ⟨_, _, _, rfl⟩
        have SP : Hid (∀ (W5 : World) (p : Nat) (vh : Value) (W : World), Below v1.heap.size v1 W5 → v1.heap.size ≤ p → Texts W5 v1.heap.size vh hs → Pass W5 p (.slice xa xl xc) vh W → ∀ k, k < W0.heap.size ∨ k = bl → W.heap[k]? = v1.heap[k]?) := by
          intro W5 p vh W hb hp hvh hW k hk
          have g1 := kv.out
          have g2 := hb.size
          rw [hW k (by omega) (by omega) (fun e => by have := VN.out k e.symm; omega) (fun e => by have := (World.ownsRow.lt hvh k e.symm).1; omega)]
          exact hb.block k (by omega)
        have JC : Hid (∀ (W5 : World) (p bn bh : Nat) (vh : Value), Below v1.heap.size v1 W5 → v1.heap.size ≤ p → Px W5 p lo b0 vh wd (.slice xa xl xc) → Texts W5 v1.heap.size vh hs → W5.heap[bn]? = some (.cells #[.int .i64 0, .int .i64 (b0 : Int)] 36 (0, 0)) → W5.heap[bh]? = some (.cells #[.string h] 9 (0, 0)) → v1.heap.size ≤ bn → some bh ≠ vh.ownBlock → Calls Tryd.prog 28 #[.pointer (some ⟨p, 0, none⟩), .slice (some ⟨bn, 0, none⟩) 1 1, .slice (some ⟨bh, 0, none⟩) 1 1] W5 fun e w' => (∃ u m, e = .returned (.tuple #[FV lo ((b0 : Int) + 1) u, m, .int .i64 0]) ∧ Texts w' w.heap.size u (labs (pushR wd lo b0 hs h).1) ∧ Mades w' w.heap.size m (pushR wd lo b0 hs h).2) ∧ Below w.heap.size w w' ∧ Pass W5 p (.slice xa xl xc) vh w') := by
          intro W5 p bn bh vh hb hp hpx hvh hbn hbh hn1 hh1
          have g1 := kv.out
          have g2 := kk.out
          have NV : Nodes W5 w.heap.size (.slice xa xl xc) (covI lo b0) := own_later (own_down N3.out (by omega)) hb
          have hnl := (Array.getElem?_eq_some_iff.1 hbn).1
          have hhl := (Array.getElem?_eq_some_iff.1 hbh).1
          have n1 : bn ≠ p := fun e => by rw [e] at hbn; have := hbn.symm.trans hpx; simp at this
          have n2 : bh ≠ p := fun e => by rw [e] at hbh; have := hbh.symm.trans hpx; simp at this
          have j := join (we := w) (w := W5) (p := p) (lo := lo) (hi := b0) (wd := wd) (vh := vh) (vn := .slice xa xl xc) (vq := .slice (some ⟨bn, 0, none⟩) 1 1) (vt := .slice (some ⟨bh, 0, none⟩) 1 1) (opened lo b0 hs).reverse [((0, b0), h)] HTab.out (over B3.out hb) (by omega) hpx (by rw [List.reverse_reverse, opened_snd G1.out]; exact hvh.down B3.out.size) (by rw [List.reverse_reverse, opened_fst G1.out]; exact NV) (fun W hW => ⟨?_, ?_⟩) (fun n hn => open_ok G1.out n (List.mem_reverse.1 hn)) (fun n hn => by simp at hn; subst hn; exact HOK.out) (by rw [List.length_reverse, opened_len G1.out]; have := HL1.out; omega) (by simp)
          · rw [show runR (NF wd) (opened lo (b0 : Int) hs).reverse [((0, b0), h)] = pushR wd lo b0 hs h by unfold pushR; simp [runR], show endOf (b0 : Int) [((0, b0), h)] = (b0 : Int) + 1 by show (((b0 + 1) * 2 ^ 0 : Nat) : Int) = _; simp] at j
            exact j
          · refine readsA_one ((hW bn hnl n1 (fun e => by have := VN.out bn e.symm; omega) (far hbn hvh (by decide))).trans ?_)
            exact hbn
          · refine readsT_one ((hW bh hhl n2 (far hbh NV (by decide)) hh1).trans hbh)
        obtain ⟨tL, HTL⟩ : ∃ t, Hid (labs (pushR wd lo b0 hs h).1 = t) := ⟨_, rfl⟩
        obtain ⟨tM, HTM⟩ : ∃ t, Hid ((pushR wd lo b0 hs h).2 = t) := ⟨_, rfl⟩
        rw [HTL.out, HTM.out] at JC HPP
        have hle : Hid (w.heap.size ≤ w.heap.size + 1) := Nat.le_add_right _ _
        obtain ⟨hi1, HHI⟩ : ∃ x : Int, Hid ((b0 : Int) + 1 = x) := ⟨_, rfl⟩
        rw [HHI.out] at JC HPP
        go_region_held3 (fun W => W.cell? ⟨w.heap.size, 0, none⟩ = some (.int .i64 lo) ∧ W.cell? ⟨w.heap.size, 1, none⟩ = some (.int .i64 (b0 : Int)) ∧ W.cell? ⟨w.heap.size, 2, none⟩ = some (.slice a n cap) ∧ W.cell? ⟨bl, 0, none⟩ = some (.int .i64 0) ∧ W.cell? ⟨bl, 1, none⟩ = some (.int .i64 (b0 : Int))) (first | exact SW.out _ E0.out | exact SW.out _ (E1.out _) | exact SW.out _ (E2.out _ _) | exact SW.out _ HB5.out | exact SW.out _ (HB5.out.alloc HB5.out.size _) | exact SW.out _ ((HB5.out.alloc HB5.out.size _).alloc (HB5.out.alloc HB5.out.size _).size _) | exact SB.out _ (KP.out _ (.inl kk.out.1)) (KP.out _ (.inr rfl)) | exact SB.out _ ((set3_other _ _ _ _ _ _ (by omega)).trans (KP.out _ (.inl kk.out.1))) ((set3_other _ _ _ _ _ _ NBL.out).trans (KP.out _ (.inr rfl)))) ((first
          | (go_at_call 27
             refine (BG.out _ (by first | exact E0.out | exact E1.out _ | exact E2.out _ _)).mono ?_
             rintro e w5 ⟨⟨p, vh, rfl, hp, hpx, hvh⟩, hb⟩
             have HBW : Hid (Below _ _ w5) := hb
             have HB5 : Hid (Below v1.heap.size v1 w5) := (by first | exact over E0.out hb | exact over (E1.out _) hb | exact over (E2.out _ _) hb)
             have HP : Hid (v1.heap.size ≤ p) := (by first | exact Nat.le_trans E0.out.size hp | exact Nat.le_trans (E1.out _).size hp | exact Nat.le_trans (E2.out _ _).size hp)
             have HVH : Hid (Texts w5 v1.heap.size vh hs) := (by first | exact hvh.down E0.out.size | exact hvh.down (E1.out _).size | exact hvh.down (E2.out _ _).size)
             have HPX : Hid (Px w5 p lo b0 vh wd (.slice xa xl xc)) := hpx
             have VL : Hid (∀ g, vh.ownBlock = some g → _ ≤ g ∧ g < w5.heap.size) := fun g e => World.ownsRow.lt hvh g e
             try (have HK1 : Hid (w5.heap[v1.heap.size]? = some (.cells #[.int .i64 0, .int .i64 (b0 : Int)] 36 (0, 0)) ∧ v1.heap.size < w5.heap.size) := kept1 hb)
             try (have HK2 : Hid (w5.heap[v1.heap.size]? = some (.cells #[.string h] 9 (0, 0)) ∧ v1.heap.size < w5.heap.size) := kept1 hb)
             clear hp hpx hvh hb)
          | (go_at_call 28
             refine (JC.out _ p _ _ vh (by first | exact HB5.out | exact HB5.out.alloc HB5.out.size _ | exact (HB5.out.alloc HB5.out.size _).alloc (HB5.out.alloc HB5.out.size _).size _) HP.out (by first | exact HPX.out | exact HPX.out.kept (World.grownBy_alloc _ _ none) (by simp) | exact (HPX.out.kept (World.grownBy_alloc _ _ none) (by simp)).kept (World.grownBy_alloc _ _ none) (by simp)) (by first | exact HVH.out | exact World.ownsRow.alloc HVH.out _ | exact World.ownsRow.alloc (World.ownsRow.alloc HVH.out _) _) (by first | exact (HBW.out.block _ (by simp <;> omega)).trans (made0' _ _ _) | exact (HBW.out.block _ (by simp <;> omega)).trans (made1 _ _ _) | exact kept2 HK1.out | exact kept2 HK2.out | exact heap_alloc_new _ _ | exact made0' _ _ _ | exact made1 _ _ _) (by first | exact (HBW.out.block _ (by simp <;> omega)).trans (made0' _ _ _) | exact (HBW.out.block _ (by simp <;> omega)).trans (made1 _ _ _) | exact kept2 HK1.out | exact kept2 HK2.out | exact heap_alloc_new _ _ | exact made0' _ _ _ | exact made1 _ _ _) (by have := HB5.out.size; first | exact Nat.le_refl _ | omega) (by intro e; have := VL.out _ e.symm; first | omega | (simp at this; done) | (simp at this; omega))).mono ?_
             rintro e w6 ⟨⟨uu, mm, rfl, hu, hm⟩, hB6, hP6⟩
             have KP : Hid (∀ k, k < W0.heap.size ∨ k = bl → w6.heap[k]? = v1.heap[k]?) := (by first | exact SP.out _ p vh w6 HB5.out HP.out HVH.out hP6 | exact SP.out _ p vh w6 (HB5.out.alloc HB5.out.size _) HP.out (World.ownsRow.alloc HVH.out _) hP6 | exact SP.out _ p vh w6 ((HB5.out.alloc HB5.out.size _).alloc (HB5.out.alloc HB5.out.size _).size _) HP.out (World.ownsRow.alloc (World.ownsRow.alloc HVH.out _) _) hP6)
             have NBL : Hid (bl ≠ w.heap.size + 1) := (by have := kk.out; have := kv.out; show _ ≠ _; omega)
             obtain ⟨ua, uc, rfl⟩ := own_formS hu
             obtain ⟨ma, mc, rfl⟩ := own_formS hm
             have FR6 : Fx w6 (w.heap.size + 1) 0 0 (.slice none 0 0) := Fx.same FC3.out (KP.out _ (.inl kk.out.2))
             have f0 := frozen_of_row w6 (w.heap.size + 1) 0 _ _ FR6
             have f1 := frozen_of_row w6 (w.heap.size + 1) 1 _ _ FR6
             have f2 := frozen_of_row w6 (w.heap.size + 1) 2 _ _ FR6
             have s1 := FR6.fb.x
             have s2 := FR6.fb.y
             have s3 := FR6.fb.z
             have O1 : Hid (Fx _ _ _ _ _) := fx_set FR6 lo hi1 (.slice ua tL.length uc)
             have O2 : Hid (Texts (set3 w6 (w.heap.size + 1) (.int .i64 lo) (.int .i64 hi1) (.slice ua tL.length uc)) _ _ _) := own_set3 hu FR6 (by decide) _ _ _
             have O4 : Hid (Mades (set3 w6 (w.heap.size + 1) (.int .i64 lo) (.int .i64 hi1) (.slice ua tL.length uc)) _ _ _) := own_set3 hm FR6 (by decide) _ _ _
             have O3 : Hid (Below w.heap.size w (set3 w6 (w.heap.size + 1) (.int .i64 lo) (.int .i64 hi1) (.slice ua tL.length uc))) := below_set3 hB6 hle.out _ _ _
             clear hu hm hB6 hP6 FR6)))
        all_goals
          obtain ⟨g1, g2, g3⟩ := O1.out.fb
          unfold set3 at g1 g2 g3 O2 O3 O4
          generalize World.setCell _ _ _ = wy at g1 g2 g3 O2 O3 O4 ⊢
          clear O1
          go_wp2
          (try simp only [Exit.inBlock, Exit.then])
          refine bodyPost_ret (by simp [results, Tryd.results5, go_sem, g1, g2, g3]; try rfl) rfl ?_
          rw [HPP.out.2.2.1, HPP.out.2.2.2]
          exact ⟨⟨_, _, by rw [HPP.out.1, HPP.out.2.1, HEE.out], O2.out, O4.out⟩, O3.out⟩
    | false =>
      have hvv : ¬ h.size = V := of_decide_eq_false (p := h.size = V) HR2.out
      have HEE : Hid (E = 72) := by rw [HE1.out, if_pos rfl, if_neg hvv]; rfl
      have HPP : Hid (_ ∧ _ ∧ _ ∧ _) := NO.out (by rw [HEE.out]; decide)
      clear hvv
      go_enter Tryd.func5, Tryd.ntmps5
      go_wp2_with fail
      refine C1.out.mono ?_
      rintro e w2 ⟨⟨xa, xl, xc, rfl, hx⟩, hb⟩
      have B2 : Hid (Below w.heap.size w w2) := over HB0.out hb
      have HS2 : Hid (W0.heap.size ≤ w2.heap.size) := hb.size
      have FA : Hid (Fx w2 _ _ _ _) := HF1.out.on hb
      have FC : Hid (Fx w2 _ _ _ _) := HF3.out.on hb
      clear hb d1 d2 d3
      go_wp2_with fail
      refine (C2.out _).mono ?_
      rintro e w3 ⟨rfl, hw⟩
      rw [hw]
      clear hw
      obtain ⟨j1, j2, j3⟩ := FA.out.fb
      have FR := FC.out
      have f0 := frozen_of_row w2 (w.heap.size + 1) 0 _ _ FR
      have f1 := frozen_of_row w2 (w.heap.size + 1) 1 _ _ FR
      have f2 := frozen_of_row w2 (w.heap.size + 1) 2 _ _ FR
      obtain ⟨d1, d2, d3⟩ := FR.fb
      have O1 := fx_set FR 0 0 (.slice none 0 0)
      have O3 : Hid (Below w.heap.size w (set3 w2 (w.heap.size + 1) (.int .i64 0) (.int .i64 0) (.slice none 0 0))) := below_set3 B2.out (by omega) _ _ _
      obtain ⟨g1, g2, g3⟩ := O1.fb
      clear O1 FR
      go_wp2
      unfold set3 at g1 g2 g3 O3
      generalize World.setCell _ _ _ = wy at g1 g2 g3 O3 ⊢
      (try simp only [Exit.inBlock, Exit.then])
      refine bodyPost_ret (by simp [results, Tryd.results5, go_sem, g1, g2, g3]; try rfl) rfl ?_
      rw [HPP.out.2.2.1, HPP.out.2.2.2]
      exact ⟨⟨_, _, by rw [HPP.out.1, HPP.out.2.1, HEE.out], World.ownsRow_nil _ _ _ _, World.ownsRow_nil _ _ _ _⟩, O3.out⟩
  · have q1 : (R1 == 0) = false := by rw [beq_eq_false_iff_ne]; exact h1
    have HEE : Hid (E = R1) := by rw [HE1.out, if_neg h1]; rfl
    have HPP : Hid (_ ∧ _ ∧ _ ∧ _) := NO.out (by rw [HEE.out]; exact h1)
    clear h1
    go_enter Tryd.func5, Tryd.ntmps5
    go_wp2_with fail
    refine C1.out.mono ?_
    rintro e w2 ⟨⟨xa, xl, xc, rfl, hx⟩, hb⟩
    have B2 : Hid (Below w.heap.size w w2) := over HB0.out hb
    have HS2 : Hid (W0.heap.size ≤ w2.heap.size) := hb.size
    have FA : Hid (Fx w2 _ _ _ _) := HF1.out.on hb
    have FC : Hid (Fx w2 _ _ _ _) := HF3.out.on hb
    clear hb d1 d2 d3
    have FR := FC.out
    have f0 := frozen_of_row w2 (w.heap.size + 1) 0 _ _ FR
    have f1 := frozen_of_row w2 (w.heap.size + 1) 1 _ _ FR
    have f2 := frozen_of_row w2 (w.heap.size + 1) 2 _ _ FR
    obtain ⟨d1, d2, d3⟩ := FR.fb
    have O1 := fx_set FR 0 0 (.slice none 0 0)
    have O3 : Hid (Below w.heap.size w (set3 w2 (w.heap.size + 1) (.int .i64 0) (.int .i64 0) (.slice none 0 0))) := below_set3 B2.out (by omega) _ _ _
    obtain ⟨g1, g2, g3⟩ := O1.fb
    clear O1 FR
    go_wp2
    unfold set3 at g1 g2 g3 O3
    generalize World.setCell _ _ _ = wy at g1 g2 g3 O3 ⊢
    (try simp only [Exit.inBlock, Exit.then])
    refine bodyPost_ret (by simp [results, Tryd.results5, go_sem, g1, g2, g3]; try rfl) rfl ?_
    rw [HPP.out.2.2.1, HPP.out.2.2.2]
    exact ⟨⟨_, _, by rw [HPP.out.1, HPP.out.2.1, HEE.out], World.ownsRow_nil _ _ _ _, World.ownsRow_nil _ _ _ _⟩, O3.out⟩
end Go.Proofs.YtmmbkfagchaocaaDoor.yj
