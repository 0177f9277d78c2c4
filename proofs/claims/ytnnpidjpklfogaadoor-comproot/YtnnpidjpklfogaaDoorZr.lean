import Derived.Test.YtnnpidjpklfogaaDoorKb
import Derived.Test.YtnnpidjpklfogaaDoorCb
import Derived.Test.YtnnpidjpklfogaaDoorKa
import Derived.Test.YtnnpidjpklfogaaDoorQc
import Derived.Test.YtnnpidjpklfogaaDoorCd
import Derived.Handy
import Derived.Maps.AppendAt
import Derived.Test.YtnnpidjpklfogaaDoorPf
import Derived.Test.YtnnpidjpklfogaaDoorRf
import Derived.Test.YtnnpidjpklfogaaDoorXc
import Derived.Test.YtnnpidjpklfogaaDoorCv
import Derived.Test.YtnnpidjpklfogaaDoorYa
import Derived.Test.YtnnpidjpklfogaaDoorXf
import Derived.Test.YtnnpidjpklfogaaDoorKc
import Derived.Deep.AppendLies
import Derived.Laws.AppendOwnNone
import Derived.Lib.SliceRun
namespace Go.Proofs.YtnnpidjpklfogaaDoor.ke
open Go.RowKit Go.PlainAid
open Go.Proofs.YtnnpidjpklfogaaDoor.pl Go.Proofs.YtnnpidjpklfogaaDoor.pi Go.Proofs.YtnnpidjpklfogaaDoor.pj Go.Proofs.YtnnpidjpklfogaaDoor.rf
open Go.Proofs.YtnnpidjpklfogaaDoor.ca Go.Proofs.YtnnpidjpklfogaaDoor.cb Go.Proofs.YtnnpidjpklfogaaDoor.cp Go.Proofs.YtnnpidjpklfogaaDoor.ka Go.Proofs.YtnnpidjpklfogaaDoor.kb
set_option linter.unusedVariables false

-- the document's Fold
theorem foldP_snoc {α : Type} (E : α) (N : α → α → α) (xs : List α) (k : Nat) (hk : k + 1 < xs.length) : foldP E N (xs.drop k) = N (xs[k]'(by omega)) (foldP E N (xs.drop (k + 1))) := by
  rw [List.drop_eq_getElem_cons (show k < xs.length by omega), List.drop_eq_getElem_cons hk]
  rfl
theorem foldP_last {α : Type} (E : α) (N : α → α → α) (xs : List α) (k : Nat) (hk : k + 1 = xs.length) : foldP E N (xs.drop k) = xs[k]'(by omega) := by
  rw [List.drop_eq_getElem_cons (show k < xs.length by omega), List.drop_of_length_le (by omega)]
  rfl
set_option maxHeartbeats 1600000 in
theorem rFold (m : Int) (v : Value) (xs : List ByteArray) (w : World) (T : Tab4 w) (hR : ReadsT w v xs) (hx : ∀ x ∈ xs, x.size ≤ 1048576) (hn : xs.length ≤ 1048577) :
    Calls Tryd.prog 46 #[.int .i64 m, v] w fun e w' => e = .returned (.string (foldP (EF m) (NF m) xs)) ∧ Below w.heap.size w w' := by
  have HX : Hid (∀ x ∈ xs, x.size ≤ 1048576) := hx
  have HT : Hid (Tab4 w) := T
  have HRD : Hid (ReadsT w v xs) := hR
  obtain ⟨a, cap, rfl, hcap, hh⟩ := hR
  obtain ⟨n, HN⟩ : ∃ n, Hid (xs.length = n) := ⟨_, rfl⟩
  rw [HN.out] at hcap hh hn HRD ⊢
  have HH : Hid (n = 0 ∨ ∃ b off, a = some ⟨b, off, none⟩ ∧ ∀ i, i < n → w.cell? ⟨b, off + i, none⟩ = some (.string (xs.getD i ByteArray.empty))) := hh
  obtain ⟨R, HRR⟩ : ∃ R, Hid (foldP (EF m) (NF m) xs = R) := ⟨_, rfl⟩
  rw [HRR.out]
  clear T hx hh
  by_cases h0 : n = 0
  · have EC : Hid (Calls _ _ _ _ _) := rEmpty m w HT.out
    have q0 : ((n : Int) == 0) = true := by rw [beq_iff_eq]; omega
    have HE : Hid (R = EF m) := by
      show _ = _
      have : xs = [] := List.length_eq_zero_iff.1 (HN.out.trans h0)
      rw [← HRR.out, this]
      rfl
    clear h0
    go_enter Tryd.func46, Tryd.ntmps46
    go_wp2_with fail
    refine EC.out.mono ?_
    rintro e w1 ⟨rfl, hb⟩
    have B1 : Hid (Below w.heap.size w w1) := hb
    clear hb
    go_wp2
    go_ret
    exact ⟨by rw [HE.out]; rfl, B1.out⟩
  · obtain ⟨b, off, rfl, hh⟩ : ∃ b off, a = some ⟨b, off, none⟩ ∧ ∀ i, i < n → w.cell? ⟨b, off + i, none⟩ = some (.string (xs.getD i ByteArray.empty)) := by
      rcases HH.out with h | h
      · exact absurd h h0
      · exact h
    have HCC : Hid (∀ i, i < n → w.cell? ⟨b, off + i, none⟩ = some (.string (xs.getD i ByteArray.empty))) := hh
    have q0 : ((n : Int) == 0) = false := by rw [beq_eq_false_iff_ne]; omega
    have c0 := hh (n - 1) (by omega)
    have hn1 : (0 : Int) ≤ (n : Int) - 1 := by omega
    have hn2 : (n : Int) - 1 < n := by omega
    have hn3 : ((n : Int) - 1).toNat = n - 1 := by omega
    obtain ⟨L0, HL0⟩ : ∃ x, Hid (xs.getD (n - 1) ByteArray.empty = x) := ⟨_, rfl⟩
    rw [HL0.out] at c0
    have HS0 : Hid (foldP (EF m) (NF m) (xs.drop (n - 1)) = L0 ∧ L0.size ≤ 1048576) := by
      have hlt : n - 1 < xs.length := by rw [HN.out]; omega
      rw [foldP_last _ _ xs (n - 1) (by rw [HN.out]; omega), ← HL0.out, List.getD_eq_getElem?_getD, List.getElem?_eq_getElem hlt]
      exact ⟨rfl, HX.out _ (List.getElem_mem hlt)⟩
    clear hh HH
    go_enter Tryd.func46, Tryd.ntmps46
    go_wp2
    go_loopw [6, 7] (fun h i wr => ∃ (k : Nat) (H : ByteArray) (c : Int), k < n ∧ i = .int .i64 c ∧ c = (k : Int) - 1 ∧ h = .string H ∧ Hid (foldP (EF m) (NF m) (xs.drop k) = H ∧ H.size ≤ 1048576 ∧ Below w.heap.size w wr)) (fun _ i _ => (intOf i + 1).toNat)
    case atStart => exact ⟨n - 1, L0, _, by omega, rfl, by omega, rfl, HS0.out.1, HS0.out.2, Below.refl _ _⟩
    case round =>
      clear c0
      obtain ⟨k, H, c, hk, rfl, hc, rfl, HL⟩ := hrel
      cases k with
      | zero =>
        obtain rfl : c = -1 := by omega
        clear hc
        have HE : Hid (R = H) := by
          have := HL.out.1
          rw [List.drop_zero, HRR.out] at this
          exact this
        go_wp2
        go_ret
        exact ⟨by rw [HE.out]; rfl, HL.out.2.2⟩
      | succ k =>
        obtain rfl : c = (k : Int) := by omega
        clear hc
        have hk0 : (0 : Int) ≤ (k : Int) := by omega
        have hkn : (k : Int) < n := by omega
        have hkx : k < xs.length := by rw [HN.out]; omega
        obtain ⟨x, HXK⟩ : ∃ x, Hid (xs.getD k ByteArray.empty = x) := ⟨_, rfl⟩
        have c1' := HCC.out k (by omega)
        rw [HXK.out] at c1'
        have c1 : wr.cell? ⟨b, off + k, none⟩ = some (.string x) := (HL.out.2.2.cell (p := ⟨b, off + k, none⟩) (World.block_lt_of_cell? _ _ c1')).trans c1'
        have HXE : Hid (x = xs[k]'hkx) := by show _ = _; rw [← HXK.out, List.getD_eq_getElem?_getD, List.getElem?_eq_getElem hkx]; rfl
        have hxs : x.size ≤ 1048576 := by rw [HXE.out]; exact HX.out _ (List.getElem_mem hkx)
        have hHs := HL.out.2.1
        have NC : Hid (∀ w', Tab4 w' → Calls _ _ _ _ _) := fun w' h => rNode m x H (by omega) w' h
        have HF : Hid (foldP (EF m) (NF m) (xs.drop k) = NF m x H) := by
          show _ = _
          rw [foldP_snoc _ _ xs k (by rw [HN.out]; omega), HL.out.1, HXE.out]
        have HFS : Hid ((NF m x H).size ≤ 1048576) := by show _ ≤ _; unfold NF; rw [cutS_size]; have := wid_le m; omega
        have TW : Hid (Tab4 wr) := HT.out.down HL.out.2.2
        obtain ⟨Q, HQ⟩ : ∃ Q, Hid (NF m x H = Q) := ⟨_, rfl⟩
        rw [HQ.out] at NC HF HFS
        clear c1' hxs hHs
        go_wp2_with fail
        refine (NC.out _ TW.out).mono ?_
        rintro e w1 ⟨rfl, hb⟩
        have B1 : Hid (Below w.heap.size w w1) := over HL.out.2.2 hb
        clear hb
        go_wp2
        go_roundw
        case rel => exact ⟨k, Q, _, by omega, rfl, by first | rfl | omega, rfl, HF.out, HFS.out, B1.out⟩
        case measure => simp [intOf]
end Go.Proofs.YtnnpidjpklfogaaDoor.ke

namespace Go.Proofs.YtnnpidjpklfogaaDoor.rg
open Go.RowKit Go.PlainAid
open Go.Proofs.YtnnpidjpklfogaaDoor.pl Go.Proofs.YtnnpidjpklfogaaDoor.pi Go.Proofs.YtnnpidjpklfogaaDoor.pj Go.Proofs.YtnnpidjpklfogaaDoor.rf Go.Proofs.YtnnpidjpklfogaaDoor.ca Go.Proofs.YtnnpidjpklfogaaDoor.cb Go.Proofs.YtnnpidjpklfogaaDoor.cp Go.Proofs.YtnnpidjpklfogaaDoor.cs Go.Proofs.YtnnpidjpklfogaaDoor.cd Go.Proofs.YtnnpidjpklfogaaDoor.ka Go.Proofs.YtnnpidjpklfogaaDoor.kb Go.Proofs.YtnnpidjpklfogaaDoor.ke Go.Proofs.YtnnpidjpklfogaaDoor.ga Go.Proofs.YtnnpidjpklfogaaDoor.gb Go.Proofs.YtnnpidjpklfogaaDoor.na Go.Proofs.YtnnpidjpklfogaaDoor.nb Go.Proofs.YtnnpidjpklfogaaDoor.nc Go.Proofs.YtnnpidjpklfogaaDoor.oa Go.Proofs.YtnnpidjpklfogaaDoor.ob Go.Proofs.YtnnpidjpklfogaaDoor.qa Go.Proofs.YtnnpidjpklfogaaDoor.qb Go.Proofs.YtnnpidjpklfogaaDoor.qc
set_option linter.unusedVariables false

theorem rWidth (m : Int) (w : World) : Calls Tryd.prog 60 #[.int .i64 m] w fun e w' => e = .returned (.int .i64 (wid m)) ∧ w' = w := by
  by_cases h1 : m < 1
  · rw [show wid m = 32 by unfold wid; rw [if_pos (.inl h1)]]
    go_enter Tryd.func60, Tryd.ntmps60
    go_wp2
    go_ret
    exact ⟨rfl, rfl⟩
  · by_cases h2 : 32 < m
    · rw [show wid m = 32 by unfold wid; rw [if_pos (.inr h2)]]
      go_enter Tryd.func60, Tryd.ntmps60
      go_wp2
      go_ret
      exact ⟨rfl, rfl⟩
    · obtain ⟨k, rfl⟩ : ∃ k : Nat, m = k := ⟨m.toNat, by omega⟩
      rw [show wid (k : Int) = k by unfold wid; rw [if_neg (fun h => h.elim h1 h2)]; omega]
      go_enter Tryd.func60, Tryd.ntmps60
      go_wp2
      go_ret
      exact ⟨rfl, rfl⟩
set_option maxHeartbeats 1600000 in
theorem rCheck (wd lo hi : Int) (hlo : i64 lo) (hhi : i64 hi) (u : Value) (hs : List ByteArray) (w : World) (hR : ReadsT w u hs) (hf : Fits hs) :
    Calls Tryd.prog 45 #[.int .i64 wd, FV lo hi u] w fun e w' => e = .returned (.int .i64 (chkE wd lo hi hs)) ∧ Below w.heap.size w w' := by
  have BA : Below w.heap.size w (w.alloc (.cells #[.int .i64 lo, .int .i64 hi, u] 25)) := (Below.refl _ _).alloc (Nat.le_refl _) _
  have F0 : Hid (Fx (w.alloc (.cells #[.int .i64 lo, .int .i64 hi, u] 25)) w.heap.size lo hi u) := fx_new _ _ _ _
  have CV : Hid (Calls _ _ _ _ _) := rCover lo hi hlo.1 hlo.2 hhi.1 hhi.2 (w.alloc (.cells #[.int .i64 lo, .int .i64 hi, u] 25))
  have WD : Hid (∀ w, Calls _ _ _ _ _) := fun w => rWidth wd w
  have HB0 : Hid (Below _ _ _) := BA
  have HRD : Hid (ReadsT w u hs) := hR
  have hW := (wid_in wd).2
  have hnm := hf.many
  have HZ : Hid (∀ x ∈ hs, x.size ≤ 140737488352000) := hf.each
  obtain ⟨a, cap, rfl, hcap, hh⟩ := hR
  obtain ⟨n, HN⟩ : ∃ n, Hid (hs.length = n) := ⟨_, rfl⟩
  obtain ⟨W, HW⟩ : ∃ W, Hid (wid wd = W) := ⟨_, rfl⟩
  obtain ⟨R, HRR⟩ : ∃ R, Hid (chkE wd lo hi hs = R) := ⟨_, rfl⟩
  rw [HRR.out]
  rw [HN.out] at HRD hcap hnm F0 CV HB0 ⊢
  rw [HW.out] at WD hW
  obtain ⟨d1, d2, d3⟩ := F0.out.fb
  clear BA hh hf hlo hhi
  by_cases hok : okR lo hi
  · have hE : covE lo hi = 0 := by unfold covE; rw [if_pos hok]
    obtain ⟨l, HL⟩ : ∃ l : Nat, Hid ((covI lo hi).length = l) := ⟨_, rfl⟩
    have l122 : l ≤ 122 := by rw [← HL.out]; exact covI_len lo hi
    have HR1 : Hid (R = if l = n then (if ∀ h ∈ hs, h.size = wid wd then 0 else 72) else 71) := by
      show _ = _
      rw [← HRR.out]
      unfold chkE
      rw [if_pos hok, HL.out, HN.out]
    by_cases hln : l = n
    · subst hln
      have hq : ((l : Int) == (l : Int)) = true := beq_self_eq_true _
      go_enter Tryd.func45, Tryd.ntmps45
      go_wp2_with fail
      refine CV.out.mono ?_
      rintro e w2 ⟨⟨vv, rfl, ho⟩, hb⟩
      obtain ⟨va, vc, rfl⟩ := own_formS ho
      rw [hE, HL.out]
      have B2 : Hid (Below w.heap.size w w2) := over HB0.out hb
      obtain ⟨e1, e2, e3⟩ := (F0.out.on hb).fb
      have RD2 : Hid (ReadsT w2 (.slice a l cap) hs) := HRD.out.later B2.out
      clear ho hb d1 d2 d3
      go_wp2_with fail
      refine (WD.out _).mono ?_
      rintro e w3 ⟨rfl, hw⟩
      rw [hw]
      clear hw
      go_wp2
      go_loopw [8] (fun i wr => ∃ k : Nat, k ≤ l ∧ i = .int .i64 k ∧ Hid (∀ t, t < k → ∀ x, hs[t]? = some x → x.size = wid wd) ∧ wr = w2) (fun i _ => (l - intOf i).toNat)
      case atStart => exact ⟨0, by omega, rfl, fun t ht => by omega, rfl⟩
      case round =>
        obtain ⟨k, hk, rfl, HK, rfl⟩ := hrel
        by_cases hlt : k < l
        · have hlt' : (k : Int) < l := by omega
          have hkx : k < hs.length := by rw [HN.out]; exact hlt
          obtain ⟨x, HX⟩ : ∃ x, Hid (hs[k]? = some x) := ⟨_, List.getElem?_eq_getElem hkx⟩
          obtain ⟨b, off, rfl, hc⟩ : ∃ b off, a = some ⟨b, off, none⟩ ∧ wr.cell? ⟨b, off + k, none⟩ = some (.string x) := by
            obtain ⟨a', cap', e, _, h0 | ⟨b, off, e4, hh⟩⟩ := RD2.out
            · omega
            · injection e with e1 _ _
              refine ⟨b, off, by rw [e1]; exact e4, ?_⟩
              rw [hh k hkx, List.getD_eq_getElem?_getD, HX.out]
              rfl
          have hxs : x.size ≤ 140737488352000 := HZ.out x (List.mem_of_getElem? HX.out)
          by_cases hxw : x.size = W
          · have hb1 : ((x.size : Int) == (W : Int)) = true := by rw [beq_iff_eq]; omega
            have HXW : Hid (x.size = W) := hxw
            clear hxw
            go_wp2
            go_roundw
            case rel =>
              refine ⟨k + 1, by omega, by go_num, ?_, by first | rfl | trivial⟩
              intro t ht y hy
              rcases Nat.lt_or_ge t k with h | h
              · exact HK.out t h y hy
              · obtain rfl : t = k := by omega
                rw [HX.out] at hy
                obtain rfl := Option.some.inj hy
                rw [HXW.out, HW.out]
            case measure => simp [intOf]; omega
          · have hb1 : ((x.size : Int) == (W : Int)) = false := by rw [beq_eq_false_iff_ne]; omega
            have HE : Hid (R = 72) := by
              rw [HR1.out, if_pos trivial, if_neg]
              · rfl
              · intro hall
                exact hxw (by rw [hall x (List.mem_of_getElem? HX.out), HW.out])
            clear hxw
            go_wp2
            go_ret
            exact ⟨by rw [HE.out]; rfl, B2.out⟩
        · have hlt' : ¬ (k : Int) < l := by omega
          have HE : Hid (R = 0) := by
            rw [HR1.out, if_pos trivial, if_pos]
            · rfl
            · intro x hx
              obtain ⟨t, ht, rfl⟩ := List.getElem_of_mem hx
              exact HK.out t (by rw [HN.out] at ht; omega) _ (List.getElem?_eq_getElem ht)
          go_wp2
          go_ret
          exact ⟨by rw [HE.out]; rfl, B2.out⟩
    · have hq : ((l : Int) == (n : Int)) = false := by rw [beq_eq_false_iff_ne]; omega
      have HE : Hid (R = 71) := by rw [HR1.out, if_neg hln]; rfl
      clear hln
      go_enter Tryd.func45, Tryd.ntmps45
      go_wp2_with fail
      refine CV.out.mono ?_
      rintro e w2 ⟨⟨vv, rfl, ho⟩, hb⟩
      obtain ⟨va, vc, rfl⟩ := own_formS ho
      rw [hE, HL.out]
      have B2 : Hid (Below w.heap.size w w2) := over HB0.out hb
      obtain ⟨e1, e2, e3⟩ := (F0.out.on hb).fb
      clear ho hb d1 d2 d3
      go_wp2
      go_ret
      exact ⟨by rw [HE.out]; rfl, B2.out⟩
  · have hE : covE lo hi = 10 := by unfold covE; rw [if_neg hok]
    have HE : Hid (R = 10) := by
      show _ = _
      rw [← HRR.out]
      unfold chkE
      rw [if_neg hok]
    clear hok
    go_enter Tryd.func45, Tryd.ntmps45
    go_wp2_with fail
    refine CV.out.mono ?_
    rintro e w2 ⟨⟨vv, rfl, ho⟩, hb⟩
    obtain ⟨va, vc, rfl⟩ := own_formS ho
    rw [hE]
    have B2 : Hid (Below w.heap.size w w2) := over HB0.out hb
    clear ho hb
    go_wp2
    go_ret
    exact ⟨by rw [HE.out]; rfl, B2.out⟩
set_option maxHeartbeats 1600000 in
theorem rRoot7 (wd lo hi : Int) (hlo : i64 lo) (hhi : i64 hi) (u : Value) (hs : List ByteArray) (w : World) (hT : Tab4 w) (hR : ReadsT w u hs) (hf : Fits hs) :
    Calls Tryd.prog 28 #[.int .i64 wd, FV lo hi u] w fun e w' => e = .returned (.tuple #[.string (pick (rootE wd lo hi hs) (foldP (EF wd) (NF wd) hs) ByteArray.empty), .int .i64 (rootE wd lo hi hs)]) ∧ Below w.heap.size w w' := by
  have BA : Below w.heap.size w (w.alloc (.cells #[.int .i64 lo, .int .i64 hi, u] 25)) := (Below.refl _ _).alloc (Nat.le_refl _) _
  have F0 : Hid (Fx (w.alloc (.cells #[.int .i64 lo, .int .i64 hi, u] 25)) w.heap.size lo hi u) := fx_new _ _ _ _
  have CK : Hid (Calls _ _ _ _ _) := rCheck wd lo hi hlo hhi u hs (w.alloc (.cells #[.int .i64 lo, .int .i64 hi, u] 25)) (hR.later BA) hf
  have HB0 : Hid (Below _ _ _) := BA
  have HRD : Hid (ReadsT w u hs) := hR
  have HT : Hid (Tab4 w) := hT
  obtain ⟨d1, d2, d3⟩ := F0.out.fb
  obtain ⟨a, cap, rfl, hcap, hh⟩ := hR
  clear BA hh hf hlo hhi hT
  by_cases hck : chkE wd lo hi hs = 0
  · rw [hck] at CK
    by_cases hl : lo = 0
    · have HE : Hid (rootE wd lo hi hs = 0) := by show _ = _; unfold rootE; rw [if_pos hck, if_pos hl]
      rw [HE.out, show pick (0 : Int) (foldP (EF wd) (NF wd) hs) ByteArray.empty = foldP (EF wd) (NF wd) hs by unfold pick; rw [if_pos rfl]]
      have h122 : hs.length ≤ 122 := (good_form (chk_ok.1 hck)).choose_spec.choose_spec.2.2.2.2
      have hsz := (chk_ok.1 hck).2.2
      have FC : Hid (∀ w', Below w.heap.size w w' → Calls _ _ _ _ _) := fun w' h => rFold wd (.slice a hs.length cap) hs w' (HT.out.down h) (HRD.out.later h) (fun x hx => by rw [hsz x hx]; have := wid_in wd; omega) (by omega)
      obtain ⟨R, HR⟩ : ∃ R, Hid (foldP (EF wd) (NF wd) hs = R) := ⟨_, rfl⟩
      rw [HR.out] at FC ⊢
      subst hl
      clear hck hsz
      go_enter Tryd.func28, Tryd.ntmps28
      go_wp2_with fail
      refine CK.out.mono ?_
      rintro e w2 ⟨rfl, hb⟩
      have B2 : Hid (Below w.heap.size w w2) := over HB0.out hb
      obtain ⟨e1, e2, e3⟩ := (F0.out.on hb).fb
      clear hb d1 d2 d3
      go_wp2_with fail
      refine (FC.out _ B2.out).mono ?_
      rintro e w3 ⟨rfl, hb⟩
      have B3 : Hid (Below w.heap.size w w3) := over B2.out hb
      clear hb
      go_wp2
      go_ret2
      exact ⟨rfl, B3.out⟩
    · have HE : Hid (rootE wd lo hi hs = 10) := by show _ = _; unfold rootE; rw [if_pos hck, if_neg hl]
      rw [HE.out, show pick (10 : Int) (foldP (EF wd) (NF wd) hs) ByteArray.empty = ByteArray.empty by unfold pick; rw [if_neg (by decide)]]
      have hq : (lo == 0) = false := by rw [beq_eq_false_iff_ne]; exact hl
      clear hck hl
      go_enter Tryd.func28, Tryd.ntmps28
      go_wp2_with fail
      refine CK.out.mono ?_
      rintro e w2 ⟨rfl, hb⟩
      have B2 : Hid (Below w.heap.size w w2) := over HB0.out hb
      obtain ⟨e1, e2, e3⟩ := (F0.out.on hb).fb
      clear hb d1 d2 d3
      go_wp2
      go_ret2
      exact ⟨rfl, B2.out⟩
  · have HE : Hid (rootE wd lo hi hs = chkE wd lo hi hs) := by show _ = _; unfold rootE; rw [if_neg hck]
    rw [HE.out, show pick (chkE wd lo hi hs) (foldP (EF wd) (NF wd) hs) ByteArray.empty = ByteArray.empty by unfold pick; rw [if_neg hck]]
    obtain ⟨c, HC⟩ : ∃ c, Hid (chkE wd lo hi hs = c) := ⟨_, rfl⟩
    rw [HC.out] at CK hck ⊢
    have hq : (c == 0) = false := by rw [beq_eq_false_iff_ne]; exact hck
    clear hck HE
    go_enter Tryd.func28, Tryd.ntmps28
    go_wp2_with fail
    refine CK.out.mono ?_
    rintro e w2 ⟨rfl, hb⟩
    have B2 : Hid (Below w.heap.size w w2) := over HB0.out hb
    clear hb
    go_wp2
    go_ret2
    exact ⟨rfl, B2.out⟩
end Go.Proofs.YtnnpidjpklfogaaDoor.rg

namespace Go.Proofs.YtnnpidjpklfogaaDoor.rh
open Go.RowKit Go.PlainAid
open Go.Proofs.YtnnpidjpklfogaaDoor.pl Go.Proofs.YtnnpidjpklfogaaDoor.pi Go.Proofs.YtnnpidjpklfogaaDoor.pj Go.Proofs.YtnnpidjpklfogaaDoor.rf Go.Proofs.YtnnpidjpklfogaaDoor.ca Go.Proofs.YtnnpidjpklfogaaDoor.cb Go.Proofs.YtnnpidjpklfogaaDoor.cp Go.Proofs.YtnnpidjpklfogaaDoor.cs Go.Proofs.YtnnpidjpklfogaaDoor.ka Go.Proofs.YtnnpidjpklfogaaDoor.kb Go.Proofs.YtnnpidjpklfogaaDoor.ga Go.Proofs.YtnnpidjpklfogaaDoor.gb Go.Proofs.YtnnpidjpklfogaaDoor.na Go.Proofs.YtnnpidjpklfogaaDoor.nb Go.Proofs.YtnnpidjpklfogaaDoor.nc Go.Proofs.YtnnpidjpklfogaaDoor.oa Go.Proofs.YtnnpidjpklfogaaDoor.ob Go.Proofs.YtnnpidjpklfogaaDoor.qa Go.Proofs.YtnnpidjpklfogaaDoor.qb Go.Proofs.YtnnpidjpklfogaaDoor.qc
set_option linter.unusedVariables false

def MK : ByteArray := ⟨#[109, 97, 114, 107]⟩
-- the same hashes, with two marks behind them
def Twin2 (w : World) (B g n cp : Nat) (xs : List ByteArray) : Prop := w.ownsRow B 9 1 (.slice (some ⟨g, 0, none⟩) (n + 2) cp) (n + 2) (xs.map Value.string ++ [.string MK, .string MK])
theorem fx_grow {w w' : World} {b B e s n : Nat} {lo hi : Int} {u v : Value} {xs : List Value} (h : Fx w b lo hi u) (ho : w.ownsRow B e s v n xs) (hne : e ≠ 25) (hg : w.grownBy w' v.ownBlock) : Fx w' b lo hi u := by
  refine (hg.block b h.lt ?_).trans h
  intro he
  rcases ho.2 with ⟨rfl, _⟩ | ⟨g', cap', cur', rfl, _, hgg', _⟩
  · cases he
  · have e1 : b = g' := Option.some.inj he
    subst e1
    unfold Fx at h
    rw [h] at hgg'
    simp only [Option.some.injEq, Obj.cells.injEq] at hgg'
    exact absurd hgg'.2.1.symm hne
theorem fx_cell2 {w : World} {b : Nat} {lo hi : Int} {u : Value} (h : Fx w b lo hi u) (u' : Value) : Fx (w.setCell ⟨b, 2, none⟩ u') b lo hi u' := heap_setCell_same _ _ 2 _ _ u' h
theorem own_cell {w : World} {B e size n b o : Nat} {v : Value} {xs : List Value} {lo hi : Int} {u : Value} (h : w.ownsRow B e size v n xs) (hf : Fx w b lo hi u) (hne : e ≠ 25) (x : Value) : (w.setCell ⟨b, o, none⟩ x).ownsRow B e size v n xs := by
  refine ⟨h.1, ?_⟩
  rcases h.2 with hn | ⟨g, cap, cur, rfl, hg, hgg, rest⟩
  · exact .inl hn
  · refine .inr ⟨g, cap, cur, rfl, hg, ?_, rest⟩
    rw [Below.heap_setCell _ _ _ _ ?_]
    · exact hgg
    · rintro rfl
      unfold Fx at hf
      rw [hgg] at hf
      simp only [Option.some.injEq, Obj.cells.injEq] at hf
      exact hne hf.2.1
theorem two_texts (W : World) (t : TypeId) : ∀ (j : Nat) (x : Value), [Value.string MK, .string MK][j]? = some x → (W.alloc (.cells #[.string MK, .string MK] t)).cell? (Addr.add ⟨W.heap.size, 0, none⟩ j) = some x := by
  intro j x hx
  rw [show (Addr.add ⟨W.heap.size, 0, none⟩ j) = ⟨W.heap.size, j, none⟩ by cases j <;> simp [Addr.add], World.cell?_alloc_at _ _ _ _ rfl]
  simpa using hx
structure Rm (w wr : World) (lo hi : Int) (u v : Value) (k : Nat) (hs : List ByteArray) : Prop where
  b : Below w.heap.size w wr
  f1 : Fx wr w.heap.size lo hi u
  f2 : Fx wr (w.heap.size + 1) 0 0 (.slice none 0 0)
  o : wr.ownsRow w.heap.size 9 1 v k ((hs.take k).map Value.string)
set_option maxHeartbeats 3200000 in
theorem roomy (lo hi : Int) (u : Value) (hs : List ByteArray) (w : World) (hR : ReadsT w u hs) (hf : Fits hs) :
    Calls Tryd.prog 25 #[FV lo hi u] w fun e w' => (∃ g cp, e = .returned (FV lo hi (.slice (some ⟨g, 0, none⟩) hs.length cp)) ∧ Twin2 w' w.heap.size g hs.length cp hs) ∧ Below w.heap.size w w' := by
  obtain ⟨i9, hi9', hz0, hz1, hz2⟩ := info_parts hi9
  have HIN : Hid (_ ∧ _ ∧ _ ∧ _) := ⟨hi9', hz0, hz1, hz2⟩
  have HRD : Hid (ReadsT w u hs) := hR
  have hnm := hf.many
  have H0 : Hid (Rm w ((w.alloc (.cells #[.int .i64 lo, .int .i64 hi, u] 25)).alloc (.cells #[.int .i64 0, .int .i64 0, .slice none 0 0] 25)) lo hi u (.slice none 0 0) 0 hs) := by
    refine ⟨((Below.refl _ _).alloc (Nat.le_refl _) _).alloc (by simp) _, (fx_new _ _ _ _).on ((Below.refl _ _).alloc (Nat.le_refl _) _), ?_, World.ownsRow_nil _ _ _ _⟩
    have := fx_new (w.alloc (.cells #[.int .i64 lo, .int .i64 hi, u] 25)) 0 0 (.slice none 0 0)
    rw [show (w.alloc (.cells #[.int .i64 lo, .int .i64 hi, u] 25)).heap.size = w.heap.size + 1 by simp] at this
    exact this
  obtain ⟨a, cap, rfl, hcap, hh⟩ := hR
  obtain ⟨n, HN⟩ : ∃ n, Hid (hs.length = n) := ⟨_, rfl⟩
  rw [HN.out] at HRD hcap hnm H0 ⊢
  clear hi9' hz0 hz1 hz2 hh hf
  go_enter Tryd.func25, Tryd.ntmps25
  go_wp2
  go_loopw [3, 4] (fun l i wr => ∃ (v : Value) (k : Nat), k ≤ n ∧ l = v ∧ i = .int .i64 k ∧ Hid (Rm w wr lo hi (.slice a n cap) v k hs)) (fun _ i _ => (n - intOf i).toNat)
  case atStart => exact ⟨_, 0, by omega, rfl, rfl, H0.out⟩
  case round =>
    obtain ⟨v, k, hk, rfl, rfl, HR⟩ := hrel
    obtain ⟨ua, uc, rfl⟩ := own_formS HR.out.o
    obtain ⟨d1, d2, d3⟩ := HR.out.f1.fb
    by_cases hlt : k < n
    · have hlt' : (k : Int) < n := by omega
      have hkx : k < hs.length := by rw [HN.out]; exact hlt
      obtain ⟨x, HX⟩ : ∃ x, Hid (hs[k]? = some x) := ⟨_, List.getElem?_eq_getElem hkx⟩
      obtain ⟨b, off, rfl, hc⟩ : ∃ b off, a = some ⟨b, off, none⟩ ∧ wr.cell? ⟨b, off + k, none⟩ = some (.string x) := by
        obtain ⟨a', cap', e, _, h0 | ⟨b, off, e4, hh⟩⟩ := HRD.out.later HR.out.b
        · omega
        · injection e with e1 _ _
          refine ⟨b, off, by rw [e1]; exact e4, ?_⟩
          rw [hh k hkx, List.getD_eq_getElem?_getD, HX.out]
          rfl
      have OX : Hid ((wr.alloc (.cells #[.string x] 9)).ownsRow w.heap.size 9 1 (.slice ua k uc) k ((hs.take k).map Value.string)) := HR.out.o.alloc _
      have BX : Hid (Below w.heap.size w (wr.alloc (.cells #[.string x] 9))) := HR.out.b.alloc HR.out.b.size _
      have X1 : Hid (Fx (wr.alloc (.cells #[.string x] 9)) w.heap.size lo hi (.slice (some ⟨b, off, none⟩) n cap)) := HR.out.f1.on ((Below.refl _ _).alloc (Nat.le_refl _) _)
      have X2 : Hid (Fx (wr.alloc (.cells #[.string x] 9)) (w.heap.size + 1) 0 0 (.slice none 0 0)) := HR.out.f2.on ((Below.refl _ _).alloc (Nat.le_refl _) _)
      go_wp2_with (at_builtin; refine wpList_append_own _ rfl _ _ 22 rfl w.heap.size 9 i9 (.string ByteArray.empty) 1 16 Tryd.underlying22 HIN.out.1 HIN.out.2.1 HIN.out.2.2.1 HIN.out.2.2.2 rfl (by decide) _ k _ rfl OX.out ⟨wr.heap.size, 0, none⟩ 1 1 [.string x] rfl rfl (new_text _ _ _) (one_text _) (by unfold maxLen; omega) (by omega) BX.out.size ?_; intro p' w5 ho hg hnn; have HO5 : Hid (w5.ownsRow w.heap.size 9 1 p' (k + 1) ((hs.take k).map Value.string ++ [.string x])) := ho; have HB5 : Hid (Below w.heap.size w w5) := Below.grown BX.out hg BX.out.size (fun jj hj => (OX.out.lt _ hj).1); have Y1 : Hid (Fx w5 w.heap.size lo hi (.slice (some ⟨b, off, none⟩) n cap)) := fx_grow X1.out OX.out (by decide) hg; have Y2 : Hid (Fx w5 (w.heap.size + 1) 0 0 (.slice none 0 0)) := fx_grow X2.out OX.out (by decide) hg; clear ho hg hnn)
      go_roundw
      case rel =>
        refine ⟨_, k + 1, by omega, rfl, by go_num, HB5.out, Y1.out, Y2.out, ?_⟩
        have e : hs.take (k + 1) = hs.take k ++ [x] := by rw [List.take_add_one, HX.out]; rfl
        rw [e, List.map_append]
        exact HO5.out
      case measure => simp [intOf]; omega
    · have hlt' : ¬ (k : Int) < n := by omega
      obtain rfl : k = n := by omega
      have hO := HR.out.o
      rw [List.take_of_length_le (by rw [HN.out]; omega)] at hO
      have OX : Hid ((wr.alloc (.cells #[.string MK, .string MK] 9)).ownsRow w.heap.size 9 1 (.slice ua k uc) k (hs.map Value.string)) := hO.alloc _
      have BX : Hid (Below w.heap.size w (wr.alloc (.cells #[.string MK, .string MK] 9))) := HR.out.b.alloc HR.out.b.size _
      have X1 : Hid (Fx (wr.alloc (.cells #[.string MK, .string MK] 9)) w.heap.size lo hi (.slice a k cap)) := HR.out.f1.on ((Below.refl _ _).alloc (Nat.le_refl _) _)
      have X2 : Hid (Fx (wr.alloc (.cells #[.string MK, .string MK] 9)) (w.heap.size + 1) 0 0 (.slice none 0 0)) := HR.out.f2.on ((Below.refl _ _).alloc (Nat.le_refl _) _)
      have NW : Hid _ := two_texts wr 9
      have NO : Hid (∀ u ∈ [Value.string MK, .string MK], u.oneCell' = true) := fun u hu => by simp at hu; subst hu; rfl
      unfold MK at OX BX X1 X2 NW NO
      clear hO d1 d2 d3
      obtain ⟨d1, d2, d3⟩ := HR.out.f1.fb
      go_upto_region 7 with (at_builtin; refine wpList_append_own _ rfl _ _ 22 rfl w.heap.size 9 i9 (.string ByteArray.empty) 1 16 Tryd.underlying22 HIN.out.1 HIN.out.2.1 HIN.out.2.2.1 HIN.out.2.2.2 rfl (by decide) _ k _ rfl OX.out ⟨wr.heap.size, 0, none⟩ 2 2 [.string ⟨#[109, 97, 114, 107]⟩, .string ⟨#[109, 97, 114, 107]⟩] rfl rfl NW.out NO.out (by unfold maxLen; omega) (by omega) BX.out.size ?_; intro p' w5 ho hg hnn; have HO5 : Hid (w5.ownsRow w.heap.size 9 1 p' (k + 2) (hs.map Value.string ++ [.string ⟨#[109, 97, 114, 107]⟩, .string ⟨#[109, 97, 114, 107]⟩])) := ho; have HB5 : Hid (Below w.heap.size w w5) := Below.grown BX.out hg BX.out.size (fun jj hj => (OX.out.lt _ hj).1); have Y1 : Hid (Fx w5 w.heap.size lo hi (.slice a k cap)) := fx_grow X1.out OX.out (by decide) hg; have Y2 : Hid (Fx w5 (w.heap.size + 1) 0 0 (.slice none 0 0)) := fx_grow X2.out OX.out (by decide) hg; clear ho hg hnn)
      obtain ⟨g, cp, rfl⟩ : ∃ g cp, p' = .slice (some ⟨g, 0, none⟩) (k + 2) cp := by
        rcases HO5.out.2 with ⟨_, h⟩ | ⟨g, cp, cur, h, _⟩
        · omega
        · exact ⟨g, cp, h⟩
      have hcp : k + 2 ≤ cp := by
        rcases HO5.out.2 with ⟨e, _⟩ | ⟨g', cap', cur, e, _, _, hc, _⟩
        · cases e
        · injection e with _ _ e3; omega
      have hcp1 : (k : Int) ≤ cp := by omega
      have hcp2 : (k : Int) + 2 ≤ cp := by omega
      have Z1 : Hid (Fx (w5.setCell ⟨w.heap.size, 2, none⟩ (.slice (some ⟨g, 0, none⟩) k cp)) w.heap.size lo hi (.slice (some ⟨g, 0, none⟩) k cp)) := fx_cell2 Y1.out _
      have Z2 : Hid (Fx (w5.setCell ⟨w.heap.size, 2, none⟩ (.slice (some ⟨g, 0, none⟩) k cp)) (w.heap.size + 1) 0 0 (.slice none 0 0)) := (Below.heap_setCell _ _ _ _ (by simp)).trans Y2.out
      have Z3 : Hid (World.ownsRow (w5.setCell ⟨w.heap.size, 2, none⟩ (.slice (some ⟨g, 0, none⟩) k cp)) _ _ _ _ _ _) := own_cell HO5.out Y1.out (by decide) _
      have Z4 : Hid (Below w.heap.size w (w5.setCell ⟨w.heap.size, 2, none⟩ (.slice (some ⟨g, 0, none⟩) k cp))) := HB5.out.setCell (p := ⟨w.heap.size, 2, none⟩) (Nat.le_refl _) _
      obtain ⟨q1, q2, q3⟩ := Y1.out.fb
      have q4 := frozen_of_row w5 w.heap.size 2 _ _ Y1.out
      clear d1 d2 d3
      go_upto_region 8 with fail
      generalize w5.setCell _ _ = w6 at Z1 Z2 Z3 Z4 ⊢
      obtain ⟨d1, d2, d3⟩ := Z1.out.fb
      obtain ⟨e1, e2, e3⟩ := Z2.out.fb
      have f0 := frozen_of_row w6 (w.heap.size + 1) 0 _ _ Z2.out
      have f1 := frozen_of_row w6 (w.heap.size + 1) 1 _ _ Z2.out
      have f2 := frozen_of_row w6 (w.heap.size + 1) 2 _ _ Z2.out
      have O1 := fx_set Z2.out lo hi (.slice (some ⟨g, 0, none⟩) k cp)
      have O2 : Hid (World.ownsRow _ _ _ _ _ _ _) := own_set3 Z3.out Z2.out (by decide) (.int .i64 lo) (.int .i64 hi) (.slice (some ⟨g, 0, none⟩) k cp)
      have O3 : Hid (Below w.heap.size w (set3 w6 (w.heap.size + 1) (.int .i64 lo) (.int .i64 hi) (.slice (some ⟨g, 0, none⟩) k cp))) := below_set3 Z4.out (by omega) _ _ _
      obtain ⟨g1, g2, g3⟩ := O1.fb
      clear O1 q1 q2 q3 q4
      go_wp2
      unfold set3 at g1 g2 g3 O2 O3
      generalize World.setCell _ _ _ = wy at g1 g2 g3 O2 O3 ⊢
      (try simp only [Exit.inBlock, Exit.then])
      refine bodyPost_ret (by simp [results, Tryd.results25, go_sem, g1, g2, g3]; try rfl) rfl ?_
      exact ⟨⟨g, cp, rfl, O2.out⟩, O3.out⟩
theorem twin_reads {w : World} {B g n cp : Nat} {xs : List ByteArray} (h : Twin2 w B g n cp xs) (hn : xs.length = n) : ReadsT w (.slice (some ⟨g, 0, none⟩) n cp) xs := by
  have hc : n + 2 ≤ cp := by
    rcases h.2 with ⟨e, _⟩ | ⟨g', cap', cur, e, _, _, hc, _⟩
    · cases e
    · injection e with _ _ e3; omega
  refine ⟨_, cp, by rw [hn], by omega, .inr ⟨g, 0, rfl, fun i hi => ?_⟩⟩
  rw [Nat.zero_add, World.ownsRow.cellAt h i (by omega), List.getElem?_append_left (by rw [List.length_map]; exact hi), List.getElem?_map, List.getElem?_eq_getElem hi, List.getD_eq_getElem?_getD, List.getElem?_eq_getElem hi]
  rfl
theorem twin_mark {w : World} {B g n cp : Nat} {xs : List ByteArray} (h : Twin2 w B g n cp xs) (hn : xs.length = n) : w.cell? ⟨g, n, none⟩ = some (.string MK) ∧ w.cell? ⟨g, n + 1, none⟩ = some (.string MK) := by
  refine ⟨?_, ?_⟩
  · rw [World.ownsRow.cellAt h n (by omega), List.getElem?_append_right (by rw [List.length_map]; omega), List.length_map, hn, Nat.sub_self]; rfl
  · rw [World.ownsRow.cellAt h (n + 1) (by omega), List.getElem?_append_right (by rw [List.length_map]; omega), List.length_map, hn, show n + 1 - n = 1 by omega]; rfl
theorem twin_cap {w : World} {B g n cp : Nat} {xs : List ByteArray} (h : Twin2 w B g n cp xs) : n + 2 ≤ cp := by
  rcases h.2 with ⟨e, _⟩ | ⟨g', cap', cur, e, _, _, hc, _⟩
  · cases e
  · injection e with _ _ e3; omega
theorem Twin2.later {w w' : World} {B g n cp : Nat} {xs : List ByteArray} (h : Twin2 w B g n cp xs) (hb : Below w.heap.size w w') : Twin2 w' B g n cp xs := own_later h hb
-- a hash written over
theorem twin_set {w : World} {B g n cp : Nat} {xs : List ByteArray} (h : Twin2 w B g n cp xs) (hn : xs.length = n) (k : Nat) (hk : k < n) (x : ByteArray) : Twin2 (w.setCell ⟨g, k, none⟩ (.string x)) B g n cp (xs.set k x) ∧ w.grownBy (w.setCell ⟨g, k, none⟩ (.string x)) (some g) := by
  obtain ⟨h1, h2⟩ := World.ownsRow.stored h k (.string x)
  refine ⟨?_, h2⟩
  unfold Twin2
  rw [List.set_append_left _ _ (by rw [List.length_map]; omega)] at h1
  rw [List.map_set]
  exact h1
-- is the twin as it was made?
set_option maxHeartbeats 1600000 in
theorem untouched_yes (lo hi : Int) (B g cp : Nat) (u : Value) (hs : List ByteArray) (w : World) (hT : Twin2 w B g hs.length cp hs) (hR : ReadsT w u hs) (hf : Fits hs) :
    Calls Tryd.prog 29 #[FV lo hi (.slice (some ⟨g, 0, none⟩) hs.length cp), FV lo hi u] w fun e w' => e = .returned (.bool true) ∧ Below w.heap.size w w' := by
  have BA : Below w.heap.size w ((w.alloc (.cells #[.int .i64 lo, .int .i64 hi, (.slice (some ⟨g, 0, none⟩) hs.length cp)] 25)).alloc (.cells #[.int .i64 lo, .int .i64 hi, u] 25)) := ((Below.refl _ _).alloc (Nat.le_refl _) _).alloc (by simp) _
  have F1 := (fx_new w lo hi (.slice (some ⟨g, 0, none⟩) hs.length cp)).on ((Below.refl _ _).alloc (Nat.le_refl _) (.cells #[.int .i64 lo, .int .i64 hi, u] 25))
  have F2 := fx_new (w.alloc (.cells #[.int .i64 lo, .int .i64 hi, (.slice (some ⟨g, 0, none⟩) hs.length cp)] 25)) lo hi u
  rw [show (w.alloc (.cells #[.int .i64 lo, .int .i64 hi, (.slice (some ⟨g, 0, none⟩) hs.length cp)] 25)).heap.size = w.heap.size + 1 by simp] at F2
  have hnm := hf.many
  have C : Hid (Calls _ _ _ _ _) := same_yes lo hi (.slice (some ⟨g, 0, none⟩) hs.length cp) u hs _ ((twin_reads hT rfl).later BA) (hR.later BA) (by omega)
  have HT2 : Hid (Twin2 _ B g hs.length cp hs) := hT.later BA
  have HF1 : Hid (Fx _ _ _ _ _) := F1
  have HF2 : Hid (Fx _ _ _ _ _) := F2
  have B0 : Hid (Below _ _ _) := BA
  have hcp := twin_cap hT
  obtain ⟨n, HN⟩ : ∃ n, Hid (hs.length = n) := ⟨_, rfl⟩
  obtain ⟨a, cap, rfl, _, _⟩ := hR
  rw [HN.out] at C HF1 HF2 B0 HT2 hcp hnm ⊢
  have hcp1 : (n : Int) + 2 ≤ cp := by omega
  obtain ⟨c1, c2, c3⟩ := HF1.out.fb
  obtain ⟨d1, d2, d3⟩ := HF2.out.fb
  have hq : ((n : Int) == (n : Int)) = true := beq_self_eq_true _
  have qm : ((⟨#[109, 97, 114, 107]⟩ : ByteArray).toList == (⟨#[109, 97, 114, 107]⟩ : ByteArray).toList) = true := beq_self_eq_true _
  clear BA F1 F2 hT hf
  go_enter Tryd.func29, Tryd.ntmps29
  go_wp2_with fail
  refine C.out.mono ?_
  rintro e w1 ⟨rfl, hb⟩
  have B1 : Hid (Below w.heap.size w w1) := over B0.out hb
  obtain ⟨m1, m2⟩ := twin_mark (HT2.out.later hb) HN.out
  obtain ⟨e1, e2, e3⟩ := (HF1.out.on hb).fb
  obtain ⟨g1, g2, g3⟩ := (HF2.out.on hb).fb
  unfold MK at m1 m2
  clear hb c1 c2 c3 d1 d2 d3
  go_wp2
  go_ret
  exact ⟨rfl, B1.out⟩
end Go.Proofs.YtnnpidjpklfogaaDoor.rh

namespace Go.Proofs.YtnnpidjpklfogaaDoor.ri
open Go.RowKit Go.PlainAid
open Go.Proofs.YtnnpidjpklfogaaDoor.pl Go.Proofs.YtnnpidjpklfogaaDoor.pi Go.Proofs.YtnnpidjpklfogaaDoor.pj Go.Proofs.YtnnpidjpklfogaaDoor.rf Go.Proofs.YtnnpidjpklfogaaDoor.ca Go.Proofs.YtnnpidjpklfogaaDoor.cb Go.Proofs.YtnnpidjpklfogaaDoor.cp Go.Proofs.YtnnpidjpklfogaaDoor.cs Go.Proofs.YtnnpidjpklfogaaDoor.ka Go.Proofs.YtnnpidjpklfogaaDoor.kb Go.Proofs.YtnnpidjpklfogaaDoor.ga Go.Proofs.YtnnpidjpklfogaaDoor.gb Go.Proofs.YtnnpidjpklfogaaDoor.na Go.Proofs.YtnnpidjpklfogaaDoor.nb Go.Proofs.YtnnpidjpklfogaaDoor.nc Go.Proofs.YtnnpidjpklfogaaDoor.oa Go.Proofs.YtnnpidjpklfogaaDoor.ob Go.Proofs.YtnnpidjpklfogaaDoor.qa Go.Proofs.YtnnpidjpklfogaaDoor.qb Go.Proofs.YtnnpidjpklfogaaDoor.qc Go.Proofs.YtnnpidjpklfogaaDoor.rh
set_option linter.unusedVariables false

theorem twin_base {w : World} {B g n cp : Nat} {xs : List ByteArray} (h : Twin2 w B g n cp xs) : B ≤ g ∧ g < w.heap.size := World.ownsRow.lt h g rfl
theorem below_row {w0 w w' : World} {g : Nat} (h : Below w0.heap.size w0 w) (hg : w.grownBy w' (some g)) (hB : w0.heap.size ≤ g) : Below w0.heap.size w0 w' := Below.grown h hg h.size (fun j hj => by obtain rfl := Option.some.inj hj; exact hB)
theorem fx_row {w w' : World} {B g n cp b : Nat} {xs : List ByteArray} {lo hi : Int} {u : Value} (h : Fx w b lo hi u) (ht : Twin2 w B g n cp xs) (hg : w.grownBy w' (some g)) : Fx w' b lo hi u := fx_grow (v := .slice (some ⟨g, 0, none⟩) (n + 2) cp) h ht (by decide) hg
theorem grown_drew {w w' : World} {r : Option Nat} (h : w.grownBy w' r) : w.grownBy w'.drew r := ⟨h.os, h.tape, h.output, h.size, h.block⟩
structure Bq (w0 w wr : World) (B g n cp : Nat) (lo hi lo' hi' : Int) (u : Value) (k : Nat) (hs zs : List ByteArray) : Prop where
  t : Twin2 wr B g n cp zs
  l : zs.length = n
  e : zs.take k = hs.take k
  f1 : Fx wr w.heap.size lo hi (.slice (some ⟨g, 0, none⟩) n cp)
  f2 : Fx wr (w.heap.size + 1) lo' hi' u
  b : Below w0.heap.size w0 wr
  gr : w.grownBy wr (some g)
theorem Bq.drew {w0 w wr : World} {B g n cp : Nat} {lo hi lo' hi' : Int} {u : Value} {k : Nat} {hs zs : List ByteArray} (h : Bq w0 w wr B g n cp lo hi lo' hi' u k hs zs) : Bq w0 w wr.drew B g n cp lo hi lo' hi' u k hs zs :=
  ⟨World.ownsRow.drew h.t, h.l, h.e, h.f1, h.f2, below_dN h.b 1, grown_drew h.gr⟩
theorem Bq.next {w0 w wr : World} {B g n cp : Nat} {lo hi lo' hi' : Int} {u : Value} {k : Nat} {hs zs : List ByteArray} {x : ByteArray} (h : Bq w0 w wr B g n cp lo hi lo' hi' u k hs zs) (hB : w0.heap.size ≤ B) (hk : k < n) (hx : hs[k]? = some x) : Bq w0 w (wr.setCell ⟨g, k, none⟩ (.string x)) B g n cp lo hi lo' hi' u (k + 1) hs (zs.set k x) := by
  obtain ⟨h1, h2⟩ := twin_set h.t h.l k hk x
  refine ⟨h1, by rw [List.length_set]; exact h.l, ?_, fx_row h.f1 h.t h2, fx_row h.f2 h.t h2, below_row h.b h2 (Nat.le_trans hB (twin_base h.t).1), h.gr.trans h2⟩
  rw [List.take_add_one, List.take_add_one, hx, List.take_set_of_le (Nat.le_refl _), h.e, List.getElem?_set_self (by rw [h.l]; exact hk)]
theorem Bq.done {w0 w wr : World} {B g n cp : Nat} {lo hi lo' hi' : Int} {u : Value} {hs zs : List ByteArray} (h : Bq w0 w wr B g n cp lo hi lo' hi' u n hs zs) (hn : hs.length = n) : Twin2 wr B g n cp hs := by
  have e := h.e
  rw [List.take_of_length_le (by rw [h.l]; omega), List.take_of_length_le (by omega)] at e
  rw [← e]
  exact h.t
set_option maxHeartbeats 1600000 in
theorem back (lo hi lo' hi' : Int) (B g n cp : Nat) (u : Value) (hs zs : List ByteArray) (w0 w : World) (hR : ReadsT w0 u hs) (hB : w0.heap.size ≤ B) (h0 : Below w0.heap.size w0 w) (hT : Twin2 w B g n cp zs) (hz : zs.length = n) (hn : hs.length = n) (hf : n * 16 ≤ 140737488351232) :
    Calls Tryd.prog 27 #[FV lo hi (.slice (some ⟨g, 0, none⟩) n cp), FV lo' hi' u] w fun e w' => e = .returned (.tuple #[]) ∧ Twin2 w' B g n cp hs ∧ w.grownBy w' (some g) := by
  have H0 : Hid (Bq w0 w ((w.alloc (.cells #[.int .i64 lo, .int .i64 hi, (.slice (some ⟨g, 0, none⟩) n cp)] 25)).alloc (.cells #[.int .i64 lo', .int .i64 hi', u] 25)) B g n cp lo hi lo' hi' u 0 hs zs) := by
    have BA : Below w.heap.size w ((w.alloc (.cells #[.int .i64 lo, .int .i64 hi, (.slice (some ⟨g, 0, none⟩) n cp)] 25)).alloc (.cells #[.int .i64 lo', .int .i64 hi', u] 25)) := ((Below.refl _ _).alloc (Nat.le_refl _) _).alloc (by simp) _
    refine ⟨hT.later BA, hz, rfl, (fx_new _ _ _ _).on ((Below.refl _ _).alloc (Nat.le_refl _) _), ?_, over h0 BA, (World.grownBy_alloc _ _ _).trans (World.grownBy_alloc _ _ _)⟩
    have := fx_new (w.alloc (.cells #[.int .i64 lo, .int .i64 hi, (.slice (some ⟨g, 0, none⟩) n cp)] 25)) lo' hi' u
    rw [show (w.alloc (.cells #[.int .i64 lo, .int .i64 hi, (.slice (some ⟨g, 0, none⟩) n cp)] 25)).heap.size = w.heap.size + 1 by simp] at this
    exact this
  have HRD : Hid (ReadsT w0 u hs) := hR
  have HB : Hid (w0.heap.size ≤ B) := hB
  have HN : Hid (hs.length = n) := hn
  have hcp := twin_cap hT
  obtain ⟨a, cap, rfl, hcap, hh⟩ := hR
  rw [HN.out] at HRD H0 hcap ⊢
  clear hh hT h0 hB hz hn
  go_enter Tryd.func27, Tryd.ntmps27
  go_wp2
  go_loopw [4] (fun i wr => ∃ (k : Nat) (zs : List ByteArray), k ≤ n ∧ i = .int .i64 k ∧ Hid (Bq w0 w wr B g n cp lo hi lo' hi' (.slice a n cap) k hs zs)) (fun i _ => (n - intOf i).toNat)
  case atStart => exact ⟨0, zs, by omega, rfl, H0.out⟩
  case round =>
    obtain ⟨k, ys, hk, rfl, HQ⟩ := hrel
    clear H0
    obtain ⟨d1, d2, d3⟩ := HQ.out.f1.fb
    obtain ⟨e1, e2, e3⟩ := HQ.out.f2.fb
    by_cases hlt : k < n
    · have hlt' : (k : Int) < n := by omega
      have hkx : k < hs.length := by rw [HN.out]; exact hlt
      obtain ⟨x, HX⟩ : ∃ x, Hid (hs[k]? = some x) := ⟨_, List.getElem?_eq_getElem hkx⟩
      obtain ⟨b, off, rfl, hc⟩ : ∃ b off, a = some ⟨b, off, none⟩ ∧ wr.cell? ⟨b, off + k, none⟩ = some (.string x) := by
        obtain ⟨a', cap', e, _, h0 | ⟨b, off, e4, hh⟩⟩ := HRD.out.later HQ.out.b
        · omega
        · injection e with e1 _ _
          refine ⟨b, off, by rw [e1]; exact e4, ?_⟩
          rw [hh k hkx, List.getD_eq_getElem?_getD, HX.out]
          rfl
      obtain ⟨y, hy⟩ : ∃ y, wr.cell? ⟨g, k, none⟩ = some (.string y) := by
        have hl := HQ.out.l
        have := World.ownsRow.cellAt HQ.out.t k (by omega)
        rw [List.getElem?_append_left (by rw [List.length_map]; omega), List.getElem?_map, List.getElem?_eq_getElem (by omega)] at this
        exact ⟨_, this⟩
      have hfz : wr.frozen? ⟨g, k, none⟩ = false := World.ownsRow.frozenAt HQ.out.t k
      have QN : Hid (Bq w0 w (wr.drew.setCell ⟨g, k, none⟩ (.string x)) B g n cp lo hi lo' hi' (.slice (some ⟨b, off, none⟩) n cap) (k + 1) hs (ys.set k x)) := HQ.out.drew.next HB.out hlt HX.out
      have S1 : wr.drew.cell? ⟨w.heap.size, 2, none⟩ = some (.slice (some ⟨g, 0, none⟩) n cp) ∧ wr.drew.cell? ⟨w.heap.size + 1, 2, none⟩ = some (.slice (some ⟨b, off, none⟩) n cap) ∧ wr.drew.cell? ⟨b, off + k, none⟩ = some (.string x) := ⟨d3, e3, hc⟩
      have S2 : (wr.drew.setCell ⟨g, k, none⟩ (.string x)).cell? ⟨w.heap.size, 2, none⟩ = some (.slice (some ⟨g, 0, none⟩) n cp) ∧ (wr.drew.setCell ⟨g, k, none⟩ (.string x)).cell? ⟨w.heap.size + 1, 2, none⟩ = some (.slice (some ⟨b, off, none⟩) n cap) ∧ (wr.drew.setCell ⟨g, k, none⟩ (.string x)).cell? ⟨b, off + k, none⟩ = some (.string x) := by
        refine ⟨QN.out.f1.fb.z, QN.out.f2.fb.z, ?_⟩
        obtain ⟨a', cap', e, _, h0 | ⟨b', off', e4, hh⟩⟩ := HRD.out.later QN.out.b
        · omega
        · injection e with e1 _ _
          rw [← e1] at e4
          injection e4 with e4
          injection e4 with e5 e6
          rw [← e5, ← e6] at hh
          rw [hh k hkx, List.getD_eq_getElem?_getD, HX.out]
          rfl
      clear d1 d2 e1 e2
      go_wp2_with fail
      go_region_held3 (fun w' => w'.cell? ⟨w.heap.size, 2, none⟩ = some (.slice (some ⟨g, 0, none⟩) n cp) ∧ w'.cell? ⟨w.heap.size + 1, 2, none⟩ = some (.slice (some ⟨b, off, none⟩) n cap) ∧ w'.cell? ⟨b, off + k, none⟩ = some (.string x)) (first | exact S1 | exact S2) (fail)
      go_wp2
      go_roundw
      case rel => exact ⟨k + 1, _, by omega, by go_num, QN.out⟩
      case measure => simp [intOf]; omega
    · have hlt' : ¬ (k : Int) < n := by omega
      obtain rfl : k = n := by omega
      go_wp2
      go_returns
      exact ⟨rfl, HQ.out.done HN.out, HQ.out.gr⟩
end Go.Proofs.YtnnpidjpklfogaaDoor.ri

namespace Go.Proofs.YtnnpidjpklfogaaDoor.rk
open Go.RowKit Go.PlainAid
open Go.Proofs.YtnnpidjpklfogaaDoor.pl Go.Proofs.YtnnpidjpklfogaaDoor.pf Go.Proofs.YtnnpidjpklfogaaDoor.pi Go.Proofs.YtnnpidjpklfogaaDoor.pj Go.Proofs.YtnnpidjpklfogaaDoor.rf Go.Proofs.YtnnpidjpklfogaaDoor.ca Go.Proofs.YtnnpidjpklfogaaDoor.cb Go.Proofs.YtnnpidjpklfogaaDoor.cp Go.Proofs.YtnnpidjpklfogaaDoor.cs Go.Proofs.YtnnpidjpklfogaaDoor.kb Go.Proofs.YtnnpidjpklfogaaDoor.ga Go.Proofs.YtnnpidjpklfogaaDoor.gb Go.Proofs.YtnnpidjpklfogaaDoor.na Go.Proofs.YtnnpidjpklfogaaDoor.nb Go.Proofs.YtnnpidjpklfogaaDoor.nc Go.Proofs.YtnnpidjpklfogaaDoor.oa Go.Proofs.YtnnpidjpklfogaaDoor.ob Go.Proofs.YtnnpidjpklfogaaDoor.qa Go.Proofs.YtnnpidjpklfogaaDoor.qb Go.Proofs.YtnnpidjpklfogaaDoor.qc Go.Proofs.YtnnpidjpklfogaaDoor.rh Go.Proofs.YtnnpidjpklfogaaDoor.ri
set_option linter.unusedVariables false

theorem make_any (n : Nat) (hn : n ≤ 140737488355328) (w : World) :
    (Instr.makeSlice 86 (.int .i64 n) (.int .i64 n)).run Tryd.prog w = .ok (.slice (some ⟨w.heap.size, 0, none⟩) n n) (w.alloc (.cells (row (List.replicate n 0)) 5)) := by
  obtain ⟨i, hi, hz0, hz1, hz2⟩ := info_parts info5
  have h := run_make (P := Tryd.prog) w 86 5 i (.int .u8 0) Tryd.underlying86 hi hz0 .i64 .i64 (n : Int) (n : Int) (by omega) (by omega) (by rw [hz2]; omega) (by omega)
  rw [hz1] at h
  simp only [Int.toNat_natCast, Nat.mul_one] at h
  rw [made_row] at h
  exact h
def fillb (c : Int) (j m : Nat) : List Int := List.replicate j c ++ List.replicate (m - j) 0
theorem fillb_len (c : Int) {j m : Nat} (h : j ≤ m) : (fillb c j m).length = m := by unfold fillb; simp; omega
theorem fillb_zero (c : Int) (m : Nat) : fillb c 0 m = List.replicate m 0 := by unfold fillb; simp
theorem fillb_set (c : Int) {j m : Nat} (h : j < m) : (fillb c j m).set j c = fillb c (j + 1) m := by
  unfold fillb
  rw [List.set_append_right _ _ (by simp), List.length_replicate, Nat.sub_self, show m - j = (m - (j + 1)) + 1 by omega, List.replicate_succ, List.set_cons_zero, List.replicate_succ' (n := j), List.append_assoc]
  rfl
structure Oq (w wr : World) (B g n cp : Nat) (lo hi : Int) (ys : List ByteArray) : Prop where
  t : Twin2 wr B g n cp ys
  l : ys.length = n
  z : ∀ y ∈ ys, y.size ≤ 140737488352000
  f : Fx wr w.heap.size lo hi (.slice (some ⟨g, 0, none⟩) n cp)
  gr : w.grownBy wr (some g)
theorem Oq.alloc {w wr : World} {B g n cp : Nat} {lo hi : Int} {ys : List ByteArray} (h : Oq w wr B g n cp lo hi ys) (o : Obj) : Oq w (wr.alloc o) B g n cp lo hi ys :=
  ⟨h.t.later ((Below.refl _ _).alloc (Nat.le_refl _) _), h.l, h.z, h.f.on ((Below.refl _ _).alloc (Nat.le_refl _) _), h.gr.trans (World.grownBy_alloc _ _ _)⟩
theorem Oq.set {w wr : World} {B g n cp : Nat} {lo hi : Int} {ys : List ByteArray} (h : Oq w wr B g n cp lo hi ys) {k : Nat} (hk : k < n) {x : ByteArray} (hx : x.size ≤ 140737488352000) : Oq w (wr.setCell ⟨g, k, none⟩ (.string x)) B g n cp lo hi (ys.set k x) := by
  obtain ⟨h1, h2⟩ := twin_set h.t h.l k hk x
  refine ⟨h1, by rw [List.length_set]; exact h.l, fun y hy => ?_, fx_row h.f h.t h2, h.gr.trans h2⟩
  rcases List.mem_or_eq_of_mem_set hy with h3 | rfl
  · exact h.z y h3
  · exact hx
set_option maxHeartbeats 3200000 in
theorem other (lo hi : Int) (B g n cp : Nat) (zs : List ByteArray) (w : World) (hT : Twin2 w B g n cp zs) (hz : zs.length = n) (hf : ∀ y ∈ zs, y.size ≤ 140737488352000) (hn : n * 16 ≤ 140737488351232) :
    Calls Tryd.prog 26 #[FV lo hi (.slice (some ⟨g, 0, none⟩) n cp)] w fun e w' => e = .returned (.tuple #[]) ∧ (∃ ys, ys.length = n ∧ (∀ y ∈ ys, y.size ≤ 140737488352000) ∧ Twin2 w' B g n cp ys) ∧ w.grownBy w' (some g) := by
  have H0 : Hid (Oq w (w.alloc (.cells #[.int .i64 lo, .int .i64 hi, (.slice (some ⟨g, 0, none⟩) n cp)] 25)) B g n cp lo hi zs) :=
    ⟨hT.later ((Below.refl _ _).alloc (Nat.le_refl _) _), hz, hf, fx_new _ _ _ _, World.grownBy_alloc _ _ _⟩
  have hcp := twin_cap hT
  clear hT hz hf
  go_enter Tryd.func26, Tryd.ntmps26
  go_wp2
  go_loopw [2] (fun i wr => ∃ (k : Nat) (ys : List ByteArray), k ≤ n ∧ i = .int .i64 k ∧ Hid (Oq w wr B g n cp lo hi ys)) (fun i _ => (n - intOf i).toNat)
  case atStart => exact ⟨0, zs, by omega, rfl, H0.out⟩
  case round =>
    obtain ⟨k, ys, hk, rfl, HQ⟩ := hrel
    clear H0
    obtain ⟨d1, d2, d3⟩ := HQ.out.f.fb
    by_cases hlt : k < n
    · have hlt' : (k : Int) < n := by omega
      have hky : k < ys.length := by rw [HQ.out.l]; exact hlt
      obtain ⟨y, HY⟩ : ∃ y, Hid (ys[k]? = some y) := ⟨_, List.getElem?_eq_getElem hky⟩
      have hy : wr.cell? ⟨g, k, none⟩ = some (.string y) := by
        have := World.ownsRow.cellAt HQ.out.t k (by omega)
        rw [List.getElem?_append_left (by rw [List.length_map]; omega), List.getElem?_map, HY.out] at this
        exact this
      have hys : y.size ≤ 140737488352000 := HQ.out.z y (List.mem_of_getElem? HY.out)
      obtain ⟨m, HM⟩ : ∃ m, Hid (y.size = m) := ⟨_, rfl⟩
      rw [HM.out] at hys
      obtain ⟨c, HC⟩ : ∃ c, Hid (IntKind.u8.wrap (122 - (k : Int)) = c) := ⟨_, rfl⟩
      have hmk := make_any m (by omega) wr
      have hys1 : y.size = m := HM.out
      have hc8 := HC.out
      rw [← fillb_zero c m] at hmk
      go_wp2
      go_loopw [4] (fun j wx => ∃ t : Nat, t ≤ m ∧ j = .int .i64 t ∧ wx = wr.alloc (.cells (row (fillb c t m)) 5)) (fun j _ => (m - intOf j).toNat)
      case atStart => exact ⟨0, by omega, rfl, rfl⟩
      case round =>
        obtain ⟨t, ht, rfl, rfl⟩ := hrel
        by_cases hl2 : t < m
        · have hl2' : (t : Int) < m := by omega
          have hrs := row_set (fillb c t m) t c
          rw [fillb_set c hl2] at hrs
          have hsz : (row (fillb c t m)).size = m := by rw [row_size, fillb_len c (by omega)]
          go_wp2
          go_roundw
          case rel => exact ⟨t + 1, by omega, by go_num, rfl⟩
          case measure => simp [intOf]; omega
        · have hl2' : ¬ (t : Int) < m := by omega
          obtain rfl : t = m := by omega
          have hcv := conv_row (fillb c t t) wr t (fillb_len c (Nat.le_refl _)).symm
          obtain ⟨S, HS⟩ : ∃ S, Hid (str (fillb c t t) = S) := ⟨_, rfl⟩
          have hSz : S.size ≤ 140737488352000 := by rw [← HS.out, str_size, fillb_len c (Nat.le_refl _)]; omega
          rw [HS.out] at hcv
          have HA : Hid (Oq w (wr.alloc (.cells (row (fillb c t t)) 5)) B g n cp lo hi ys) := HQ.out.alloc _
          have QN : Hid (Oq w ((wr.alloc (.cells (row (fillb c t t)) 5)).setCell ⟨g, k, none⟩ (.string S)) B g n cp lo hi (ys.set k S)) := HA.out.set hlt hSz
          obtain ⟨e1, e2, e3⟩ := HA.out.f.fb
          have hy2 : (wr.alloc (.cells (row (fillb c t t)) 5)).cell? ⟨g, k, none⟩ = some (.string y) := (Below.cell ((Below.refl _ _).alloc (Nat.le_refl _) _) (World.block_lt_of_cell? _ _ hy)).trans hy
          have hfz : (wr.alloc (.cells (row (fillb c t t)) 5)).frozen? ⟨g, k, none⟩ = false := World.ownsRow.frozenAt HA.out.t k
          clear hmk d1 d2 d3 hy
          generalize wr.alloc _ = wz at hcv HA QN e1 e2 e3 hy2 hfz ⊢
          go_wp2
          go_roundw
          case rel => exact ⟨k + 1, _, by omega, by go_num, QN.out⟩
          case measure => simp [intOf]; omega
    · have hlt' : ¬ (k : Int) < n := by omega
      go_wp2
      go_returns
      exact ⟨rfl, ⟨ys, HQ.out.l, HQ.out.z, HQ.out.t⟩, HQ.out.gr⟩
end Go.Proofs.YtnnpidjpklfogaaDoor.rk

namespace Go.Proofs.YtnnpidjpklfogaaDoor.rj
open Go.RowKit Go.PlainAid
open Go.Proofs.YtnnpidjpklfogaaDoor.pl Go.Proofs.YtnnpidjpklfogaaDoor.pi Go.Proofs.YtnnpidjpklfogaaDoor.pj Go.Proofs.YtnnpidjpklfogaaDoor.rf Go.Proofs.YtnnpidjpklfogaaDoor.ca Go.Proofs.YtnnpidjpklfogaaDoor.cb Go.Proofs.YtnnpidjpklfogaaDoor.cp Go.Proofs.YtnnpidjpklfogaaDoor.cs Go.Proofs.YtnnpidjpklfogaaDoor.ka Go.Proofs.YtnnpidjpklfogaaDoor.kb Go.Proofs.YtnnpidjpklfogaaDoor.ga Go.Proofs.YtnnpidjpklfogaaDoor.gb Go.Proofs.YtnnpidjpklfogaaDoor.na Go.Proofs.YtnnpidjpklfogaaDoor.nb Go.Proofs.YtnnpidjpklfogaaDoor.nc Go.Proofs.YtnnpidjpklfogaaDoor.oa Go.Proofs.YtnnpidjpklfogaaDoor.ob Go.Proofs.YtnnpidjpklfogaaDoor.qa Go.Proofs.YtnnpidjpklfogaaDoor.qb Go.Proofs.YtnnpidjpklfogaaDoor.qc Go.Proofs.YtnnpidjpklfogaaDoor.rg Go.Proofs.YtnnpidjpklfogaaDoor.rh Go.Proofs.YtnnpidjpklfogaaDoor.ri Go.Proofs.YtnnpidjpklfogaaDoor.rk
set_option linter.unusedVariables false

-- a frontier and its twin, while the law asks
structure Ck (w W : World) (B g n cp bf bi : Nat) (lo hi : Int) (u : Value) (ys : List ByteArray) : Prop where
  b : Below w.heap.size w W
  f : Fx W bf lo hi u
  i : Fx W bi lo hi (.slice (some ⟨g, 0, none⟩) n cp)
  t : Twin2 W B g n cp ys
  l : ys.length = n
  z : ∀ y ∈ ys, y.size ≤ 140737488352000
  hB : w.heap.size ≤ B
theorem Ck.on {w W W' : World} {B g n cp bf bi : Nat} {lo hi : Int} {u : Value} {ys : List ByteArray} (h : Ck w W B g n cp bf bi lo hi u ys) (hb : Below W.heap.size W W') : Ck w W' B g n cp bf bi lo hi u ys :=
  ⟨over h.b hb, h.f.on hb, h.i.on hb, h.t.later hb, h.l, h.z, h.hB⟩
theorem Ck.row {w W W' : World} {B g n cp bf bi : Nat} {lo hi : Int} {u : Value} {ys ys' : List ByteArray} (h : Ck w W B g n cp bf bi lo hi u ys) (hg : W.grownBy W' (some g)) (ht : Twin2 W' B g n cp ys') (hl : ys'.length = n) (hz : ∀ y ∈ ys', y.size ≤ 140737488352000) : Ck w W' B g n cp bf bi lo hi u ys' :=
  ⟨below_row h.b hg (Nat.le_trans h.hB (twin_base h.t).1), fx_row h.f h.t hg, fx_row h.i h.t hg, ht, hl, hz, h.hB⟩
theorem Ck.reads {w W : World} {B g n cp bf bi : Nat} {lo hi : Int} {u : Value} {ys : List ByteArray} (h : Ck w W B g n cp bf bi lo hi u ys) : ReadsT W (.slice (some ⟨g, 0, none⟩) n cp) ys := twin_reads h.t h.l
set_option maxHeartbeats 3200000 in
set_option maxRecDepth 100000 in
theorem comp_root {T : World → Prop} (later : ∀ {w w' : World}, T w → Below w.heap.size w w' → T w') (tab : ∀ {w : World}, T w → Tab4 w) (RC : RootC7 T) (wd : Int) (hwd : i64 wd) (lo hi : Int) (hlo : i64 lo) (hhi : i64 hi) (u : Value) (hs : List ByteArray) (w : World) (hT : T w) (hR : ReadsT w u hs) (hf : Fits hs) :
    Calls Tryd.prog 7 #[.int .i64 wd, FV lo hi u] w fun e w' => e = .returned (.bool true) ∧ Below w.heap.size w w' := by
  have BA : Below w.heap.size w (w.alloc (.cells #[.int .i64 lo, .int .i64 hi, u] 25)) := (Below.refl _ _).alloc (Nat.le_refl _) _
  have F0 : Hid (Fx (w.alloc (.cells #[.int .i64 lo, .int .i64 hi, u] 25)) w.heap.size lo hi u) := fx_new _ _ _ _
  have CRm : Hid (Calls _ _ _ _ _) := roomy lo hi u hs _ (hR.later BA) hf
  have LT : Hid (∀ {w w' : World}, T w → Below w.heap.size w w' → T w') := later
  have HT : Hid (T w) := hT
  have HRD : Hid (ReadsT w u hs) := hR
  have HF : Hid (Fits hs) := hf
  have hnm := hf.many
  have PR : Hid (∀ v ys W, T W → ReadsT W v ys → Fits ys → Calls _ _ _ _ _) := fun v ys W h1 h2 h3 => RC wd lo hi v ys W hwd hlo hhi h1 h2 h3
  have RR : Hid (∀ W, T W → ReadsT W u hs → Calls _ _ _ _ _) := fun W h1 h2 => rRoot7 wd lo hi hlo hhi u hs W (tab h1) h2 hf
  have HB0 : Hid (Below _ _ _) := BA
  obtain ⟨n, HN⟩ : ∃ n, Hid (hs.length = n) := ⟨_, rfl⟩
  obtain ⟨a, cap, rfl, hcap, hh⟩ := hR
  rw [HN.out] at CRm F0 HB0 HRD RR hcap hnm ⊢
  obtain ⟨d1, d2, d3⟩ := F0.out.fb
  clear BA hh hf hT later tab RC
  go_enter Tryd.func7, Tryd.ntmps7
  go_wp2_with fail
  refine CRm.out.mono ?_
  rintro e w1 ⟨⟨g, cp, rfl, ht⟩, hb⟩
  have K1 : Hid (Ck w (w1.alloc (.cells #[.int .i64 lo, .int .i64 hi, .slice (some ⟨g, 0, none⟩) n cp] 25)) _ g n cp w.heap.size w1.heap.size lo hi (.slice a n cap) hs) :=
    ⟨(over HB0.out hb).alloc (over HB0.out hb).size _, (F0.out.on hb).on ((Below.refl _ _).alloc (Nat.le_refl _) _), fx_new _ _ _ _, ht.later ((Below.refl _ _).alloc (Nat.le_refl _) _), HN.out, HF.out.each, HB0.out.size⟩
  clear ht hb d1 d2 d3 CRm F0 HB0
  obtain ⟨d1, d2, d3⟩ := K1.out.i.fb
  have CO : Hid (Calls _ _ _ _ _) := other lo hi _ g n cp hs _ K1.out.t K1.out.l K1.out.z hnm
  go_wp2_with fail
  refine CO.out.mono ?_
  rintro e w3 ⟨rfl, ⟨ys, hl, hz, ht⟩, hg⟩
  have K3 : Hid (Ck w w3 _ g n cp w.heap.size w1.heap.size lo hi (.slice a n cap) ys) := K1.out.row hg ht hl hz
  clear ht hg hz CO d1 d2 d3
  obtain ⟨d1, d2, d3⟩ := K3.out.i.fb
  have CR1 : Hid (Calls _ _ _ _ _) := PR.out _ ys w3 (LT.out HT.out K3.out.b) K3.out.reads ⟨K3.out.z, by rw [hl]; exact hnm⟩
  go_wp2_with fail
  refine CR1.out.mono ?_
  rintro e w4 ⟨rfl, hb⟩
  have K4 : Hid (Ck w w4 _ g n cp w.heap.size w1.heap.size lo hi (.slice a n cap) ys) := K3.out.on hb
  clear hb CR1 d1 d2 d3 K3
  obtain ⟨d1, d2, d3⟩ := K4.out.i.fb
  obtain ⟨e1, e2, e3⟩ := K4.out.f.fb
  have CB : Hid (Calls _ _ _ _ _) := back lo hi lo hi _ g n cp (.slice a n cap) hs ys w w4 HRD.out K4.out.hB K4.out.b K4.out.t hl HN.out hnm
  go_wp2_with fail
  refine CB.out.mono ?_
  rintro e w5 ⟨rfl, ht, hg⟩
  have K5 : Hid (Ck w w5 _ g n cp w.heap.size w1.heap.size lo hi (.slice a n cap) hs) := K4.out.row hg ht HN.out HF.out.each
  clear ht hg CB d1 d2 d3 e1 e2 e3 K4
  obtain ⟨d1, d2, d3⟩ := K5.out.i.fb
  obtain ⟨r, HRR⟩ : ∃ r, Hid (pick (rootE wd lo hi hs) (foldP (EF wd) (NF wd) hs) ByteArray.empty = r) := ⟨_, rfl⟩
  obtain ⟨c, HCC⟩ : ∃ c, Hid (rootE wd lo hi hs = c) := ⟨_, rfl⟩
  have CR2 : Hid (Calls _ _ _ _ _) := PR.out _ hs w5 (LT.out HT.out K5.out.b) K5.out.reads HF.out
  rw [HRR.out, HCC.out] at CR2
  rw [HRR.out, HCC.out] at RR
  go_wp2_with fail
  refine CR2.out.mono ?_
  rintro e w6 ⟨rfl, hb⟩
  have K6 : Hid (Ck w w6 _ g n cp w.heap.size w1.heap.size lo hi (.slice a n cap) hs) := K5.out.on hb
  clear hb CR2 d1 d2 d3 K5
  obtain ⟨e1, e2, e3⟩ := K6.out.f.fb
  have CR3 : Hid (Calls _ _ _ _ _) := RR.out w6 (LT.out HT.out K6.out.b) (HRD.out.later K6.out.b)
  go_wp2_with fail
  refine CR3.out.mono ?_
  rintro e w7 ⟨rfl, hb⟩
  have K7 : Hid (Ck w w7 _ g n cp w.heap.size w1.heap.size lo hi (.slice a n cap) hs) := K6.out.on hb
  clear hb CR3 e1 e2 e3 K6
  obtain ⟨d1, d2, d3⟩ := K7.out.i.fb
  obtain ⟨e1, e2, e3⟩ := K7.out.f.fb
  have ht7 := K7.out.t
  rw [← HN.out] at ht7
  have CU : Hid (Calls _ _ _ _ _) := untouched_yes lo hi _ g cp (.slice a n cap) hs w7 ht7 (HRD.out.later K7.out.b) HF.out
  rw [HN.out] at CU
  clear ht7
  go_wp2_with fail
  refine CU.out.mono ?_
  rintro e w8 ⟨rfl, hb⟩
  have B8 : Hid (Below w.heap.size w w8) := over K7.out.b hb
  clear hb CU d1 d2 d3 e1 e2 e3
  have q1 : (r.toList == r.toList) = true := beq_self_eq_true _
  have q2 : (c == c) = true := beq_self_eq_true _
  go_wp2
  go_ret
  exact ⟨rfl, B8.out⟩
end Go.Proofs.YtnnpidjpklfogaaDoor.rj

namespace Go.Proofs.YtnnpidjpklfogaaDoor.tb
open Go.RowKit Go.PlainAid
open Go.Proofs.YtnnpidjpklfogaaDoor.pl Go.Proofs.YtnnpidjpklfogaaDoor.ft Go.Proofs.YtnnpidjpklfogaaDoor.pj Go.Proofs.YtnnpidjpklfogaaDoor.rf Go.Proofs.YtnnpidjpklfogaaDoor.cp Go.Proofs.YtnnpidjpklfogaaDoor.cv Go.Proofs.YtnnpidjpklfogaaDoor.xc
set_option linter.unusedVariables false

-- the tables that layer 7 asks for: sha's two and bits' one; the document's two besides
structure TB (w : World) : Prop where
  t : Tab w
  d : TabB w
theorem TB.down {w w' : World} (h : TB w) (b : Below w.heap.size w w') : TB w' := ⟨h.t.down b, h.d.later b⟩
structure TB4 (w : World) : Prop where
  t : Tab4 w
  d : TabB w
theorem TB4.down {w w' : World} (h : TB4 w) (b : Below w.heap.size w w') : TB4 w' := ⟨h.t.down b, h.d.later b⟩
theorem TB4.tb {w : World} (h : TB4 w) : TB w := ⟨h.t.t, h.d⟩
theorem TB.of {w : World} (h : TabB w ∧ St8 w 2 ∧ K64 w 4) : TB w := ⟨Tab.of ⟨h.2.1, h.2.2⟩, h.1⟩
theorem TB4.of {w : World} (h : St8 w 3 ∧ K64 w 6 ∧ TabB w ∧ St8 w 2 ∧ K64 w 4) : TB4 w := ⟨Tab4.of ⟨h.2.2.2.1, h.2.2.2.2, h.1, h.2.1⟩, h.2.2.1⟩
end Go.Proofs.YtnnpidjpklfogaaDoor.tb

namespace Go.Proofs.YtnnpidjpklfogaaDoor.vr
open Go.RowKit Go.PlainAid
open Go.Proofs.YtnnpidjpklfogaaDoor.pl Go.Proofs.YtnnpidjpklfogaaDoor.ft Go.Proofs.YtnnpidjpklfogaaDoor.pj Go.Proofs.YtnnpidjpklfogaaDoor.rf Go.Proofs.YtnnpidjpklfogaaDoor.cp Go.Proofs.YtnnpidjpklfogaaDoor.cv Go.Proofs.YtnnpidjpklfogaaDoor.ka Go.Proofs.YtnnpidjpklfogaaDoor.gb Go.Proofs.YtnnpidjpklfogaaDoor.ob Go.Proofs.YtnnpidjpklfogaaDoor.rj Go.Proofs.YtnnpidjpklfogaaDoor.xc Go.Proofs.YtnnpidjpklfogaaDoor.tb
set_option linter.unusedVariables false

theorem root_walk (C0 : RootC7 TB4) (W : World) (a0 : Int) (w0 : (Lit.int .i64 a0).wf = true) (a1 : Int) (wA : (Lit.int .i64 a1).wf = true) (b1 : Int) (wB : (Lit.int .i64 b1).wf = true) (v1 : Value) (xs : List ByteArray) (hr : ReadsT W v1 xs) (hx : ∀ x ∈ xs, x.size ≤ 140737488351232) (hl : xs.length * 16 ≤ 140737488351232) (tabs : St8 W 3 ∧ K64 W 6 ∧ TabB W ∧ St8 W 2 ∧ K64 W 4) :
    Calls Tryd.prog 7 #[.int .i64 a0, FV a1 b1 v1] W fun e w' => e = .returned (.bool true) ∧ Below W.heap.size W w' :=
  comp_root (T := TB4) TB4.down (fun h => h.t) C0 a0 (i64_of w0) a1 b1 (i64_of wA) (i64_of wB) v1 xs W (TB4.of tabs) hr ⟨fun x h => by have := hx x h; omega, hl⟩
end Go.Proofs.YtnnpidjpklfogaaDoor.vr

namespace Go.Proofs.YtnnpidjpklfogaaDoor.yf
open Go.RowKit Go.PlainAid
open Go.Proofs.YtnnpidjpklfogaaDoor.pl Go.Proofs.YtnnpidjpklfogaaDoor.pi Go.Proofs.YtnnpidjpklfogaaDoor.pj Go.Proofs.YtnnpidjpklfogaaDoor.rf Go.Proofs.YtnnpidjpklfogaaDoor.ca Go.Proofs.YtnnpidjpklfogaaDoor.cb Go.Proofs.YtnnpidjpklfogaaDoor.cp Go.Proofs.YtnnpidjpklfogaaDoor.cs Go.Proofs.YtnnpidjpklfogaaDoor.ct Go.Proofs.YtnnpidjpklfogaaDoor.xc Go.Proofs.YtnnpidjpklfogaaDoor.xf Go.Proofs.YtnnpidjpklfogaaDoor.ka Go.Proofs.YtnnpidjpklfogaaDoor.kb Go.Proofs.YtnnpidjpklfogaaDoor.ga Go.Proofs.YtnnpidjpklfogaaDoor.gb Go.Proofs.YtnnpidjpklfogaaDoor.na Go.Proofs.YtnnpidjpklfogaaDoor.nb Go.Proofs.YtnnpidjpklfogaaDoor.nc Go.Proofs.YtnnpidjpklfogaaDoor.oa Go.Proofs.YtnnpidjpklfogaaDoor.ob Go.Proofs.YtnnpidjpklfogaaDoor.qa Go.Proofs.YtnnpidjpklfogaaDoor.qb Go.Proofs.YtnnpidjpklfogaaDoor.qc Go.Proofs.YtnnpidjpklfogaaDoor.ya
set_option linter.unusedVariables false

theorem isHash (wd : Int) (t : ByteArray) (W : Nat) (hW : wid wd = W) (w : World) (hs : t.size ≤ 140737488352000) :
    Calls Tryd.prog 41 #[.int .i64 wd, .string t] w fun e w' => e = .returned (.bool (decide (t.size = W))) ∧ w' = w := by
  have hW2 := (wid_in wd).2
  obtain ⟨r, HR⟩ : ∃ r, Hid (decide (t.size = W) = r) := ⟨_, rfl⟩
  rw [HR.out]
  have fin : Hid (∀ k : Nat, k = W → ((t.size : Int) == (k : Int)) = r) := by
    rintro k rfl
    rw [← HR.out]
    by_cases h : t.size = k
    · rw [h]; simp
    · rw [beq_eq_false_iff_ne.2 (by omega)]; simp [h]
  rw [hW] at hW2
  by_cases h1 : wd < 1
  · have q := fin.out 32 (by rw [← hW]; unfold wid; rw [if_pos (.inl h1)])
    clear hW
    go_enter Tryd.func41, Tryd.ntmps41
    go_wp2
    go_ret
    exact ⟨by first | rfl | (rw [← q]; rfl), rfl⟩
  · by_cases h2 : 32 < wd
    · have q := fin.out 32 (by rw [← hW]; unfold wid; rw [if_pos (.inr h2)])
      clear hW
      go_enter Tryd.func41, Tryd.ntmps41
      go_wp2
      go_ret
      exact ⟨by first | rfl | (rw [← q]; rfl), rfl⟩
    · obtain ⟨k, rfl⟩ : ∃ k : Nat, wd = k := ⟨wd.toNat, by omega⟩
      have q := fin.out k (by rw [← hW]; unfold wid; rw [if_neg (fun h => h.elim h1 h2)]; omega)
      clear hW
      go_enter Tryd.func41, Tryd.ntmps41
      go_wp2
      go_ret
      exact ⟨by first | rfl | (rw [← q]; rfl), rfl⟩
set_option maxHeartbeats 1600000 in
theorem nodes (wd lo hi : Int) (hlo : i64 lo) (hhi : i64 hi) (u : Value) (hs : List ByteArray) (w : World) (hT : TabB w) (hR : ReadsT w u hs) (hf : Fits hs) :
    Calls Tryd.prog 32 #[.int .i64 wd, FV lo hi u] w fun e w' => (∃ a l c, e = .returned (.tuple #[.slice a l c, .int .i64 (chkE wd lo hi hs)]) ∧ (chkE wd lo hi hs = 0 → Nodes w' w.heap.size (.slice a l c) (covI lo hi))) ∧ Below w.heap.size w w' := by
  have BA : Below w.heap.size w (w.alloc (.cells #[.int .i64 lo, .int .i64 hi, u] 25)) := (Below.refl _ _).alloc (Nat.le_refl _) _
  have F0 : Hid (Fx (w.alloc (.cells #[.int .i64 lo, .int .i64 hi, u] 25)) w.heap.size lo hi u) := fx_new _ _ _ _
  have CV : Hid (Calls _ _ _ _ _) := coverC.covers lo hi hlo hhi (w.alloc (.cells #[.int .i64 lo, .int .i64 hi, u] 25)) (hT.later BA)
  have HB0 : Hid (Below _ _ _) := BA
  have HRD : Hid (ReadsT w u hs) := hR
  have hW := (wid_in wd).2
  have hnm := hf.many
  have HZ : Hid (∀ x ∈ hs, x.size ≤ 140737488352000) := hf.each
  obtain ⟨a, cap, rfl, hcap, hh⟩ := hR
  obtain ⟨n, HN⟩ : ∃ n, Hid (hs.length = n) := ⟨_, rfl⟩
  obtain ⟨W, HW⟩ : ∃ W, Hid (wid wd = W) := ⟨_, rfl⟩
  have IH : Hid (∀ (t : ByteArray) (w : World), t.size ≤ 140737488352000 → Calls _ _ _ _ _) := fun t w h => isHash wd t W HW.out w h
  obtain ⟨R, HRR⟩ : ∃ R, Hid (chkE wd lo hi hs = R) := ⟨_, rfl⟩
  rw [HRR.out]
  rw [HN.out] at HRD hcap hnm F0 CV HB0 ⊢
  rw [HW.out] at hW
  obtain ⟨d1, d2, d3⟩ := F0.out.fb
  clear BA hh hf hlo hhi hT
  by_cases hok : okR lo hi
  · have hE : covE lo hi = 0 := by unfold covE; rw [if_pos hok]
    obtain ⟨l, HL⟩ : ∃ l : Nat, Hid ((covI lo hi).length = l) := ⟨_, rfl⟩
    have l122 : l ≤ 122 := by rw [← HL.out]; exact covI_len lo hi
    have HR1 : Hid (R = if l = n then (if ∀ h ∈ hs, h.size = wid wd then 0 else 72) else 71) := by
      show _ = _
      rw [← HRR.out]
      unfold chkE
      rw [if_pos hok, HL.out, HN.out]
    by_cases hln : l = n
    · subst hln
      have hq : ((l : Int) == (l : Int)) = true := beq_self_eq_true _
      go_enter Tryd.func32, Tryd.ntmps32
      go_wp2_with fail
      refine CV.out.mono ?_
      rintro e w2 ⟨⟨vv, rfl, ho⟩, hb⟩
      obtain ⟨va, vc, rfl⟩ := own_formS ho
      rw [hE, HL.out]
      have B2 : Hid (Below w.heap.size w w2) := over HB0.out hb
      have O2 : Hid (Nodes w2 w.heap.size (.slice va l vc) (covI lo hi)) := by
        have := own_down ho HB0.out.size
        unfold Hid Nodes
        rw [HL.out] at this ⊢
        exact this
      obtain ⟨e1, e2, e3⟩ := (F0.out.on hb).fb
      have RD2 : Hid (ReadsT w2 (.slice a l cap) hs) := HRD.out.later B2.out
      clear ho hb d1 d2 d3
      go_wp2
      go_loopw [30] (fun i wr => ∃ k : Nat, k ≤ l ∧ i = .int .i64 k ∧ Hid (∀ t, t < k → ∀ x, hs[t]? = some x → x.size = wid wd) ∧ wr = w2) (fun i _ => (l - intOf i).toNat)
      case atStart => exact ⟨0, by omega, rfl, fun t ht => by omega, rfl⟩
      case round =>
        obtain ⟨k, hk, rfl, HK, rfl⟩ := hrel
        by_cases hlt : k < l
        · have hlt' : (k : Int) < l := by omega
          have hkx : k < hs.length := by rw [HN.out]; exact hlt
          obtain ⟨x, HX⟩ : ∃ x, Hid (hs[k]? = some x) := ⟨_, List.getElem?_eq_getElem hkx⟩
          obtain ⟨b, off, rfl, hc⟩ : ∃ b off, a = some ⟨b, off, none⟩ ∧ wr.cell? ⟨b, off + k, none⟩ = some (.string x) := by
            obtain ⟨a', cap', e, _, h0 | ⟨b, off, e4, hh⟩⟩ := RD2.out
            · omega
            · injection e with e1 _ _
              refine ⟨b, off, by rw [e1]; exact e4, ?_⟩
              rw [hh k hkx, List.getD_eq_getElem?_getD, HX.out]
              rfl
          have IX : Hid (Calls _ _ _ _ _) := IH.out x wr (HZ.out x (List.mem_of_getElem? HX.out))
          obtain ⟨r, HR⟩ : ∃ r, Hid (decide (x.size = W) = r) := ⟨_, rfl⟩
          rw [HR.out] at IX
          cases r with
          | true =>
            have HXW : Hid (x.size = W) := of_decide_eq_true (p := x.size = W) HR.out
            go_wp2_with fail
            refine IX.out.mono ?_
            rintro e w3 ⟨rfl, hw⟩
            rw [hw]
            clear hw
            go_wp2
            go_roundw
            case rel =>
              refine ⟨k + 1, by omega, by go_num, ?_, by first | rfl | trivial⟩
              intro t ht y hy
              rcases Nat.lt_or_ge t k with h | h
              · exact HK.out t h y hy
              · obtain rfl : t = k := by omega
                rw [HX.out] at hy
                obtain rfl := Option.some.inj hy
                rw [HXW.out, HW.out]
            case measure => simp [intOf]; omega
          | false =>
            have hxw : ¬ x.size = W := of_decide_eq_false (p := x.size = W) HR.out
            have HE : Hid (R = 72) := by
              rw [HR1.out, if_pos trivial, if_neg]
              · rfl
              · intro hall
                exact hxw (by rw [hall x (List.mem_of_getElem? HX.out), HW.out])
            clear hxw
            go_wp2_with fail
            refine IX.out.mono ?_
            rintro e w3 ⟨rfl, hw⟩
            rw [hw]
            clear hw
            go_wp2
            go_returns
            exact ⟨⟨_, _, _, by rw [HE.out]; rfl, fun h => by rw [HE.out] at h; cases h⟩, B2.out⟩
        · have hlt' : ¬ (k : Int) < l := by omega
          have HE : Hid (R = 0) := by
            rw [HR1.out, if_pos trivial, if_pos]
            · rfl
            · intro x hx
              obtain ⟨t, ht, rfl⟩ := List.getElem_of_mem hx
              exact HK.out t (by rw [HN.out] at ht; omega) _ (List.getElem?_eq_getElem ht)
          go_wp2
          go_returns
          exact ⟨⟨_, _, _, by rw [HE.out]; rfl, fun _ => O2.out⟩, B2.out⟩
    · have hq : ((n : Int) == (l : Int)) = false := by rw [beq_eq_false_iff_ne]; omega
      have HE : Hid (R = 71) := by rw [HR1.out, if_neg hln]; rfl
      clear hln
      go_enter Tryd.func32, Tryd.ntmps32
      go_wp2_with fail
      refine CV.out.mono ?_
      rintro e w2 ⟨⟨vv, rfl, ho⟩, hb⟩
      obtain ⟨va, vc, rfl⟩ := own_formS ho
      rw [hE, HL.out]
      have B2 : Hid (Below w.heap.size w w2) := over HB0.out hb
      obtain ⟨e1, e2, e3⟩ := (F0.out.on hb).fb
      clear ho hb d1 d2 d3
      go_wp2
      go_returns
      exact ⟨⟨_, _, _, by rw [HE.out]; rfl, fun h => by rw [HE.out] at h; cases h⟩, B2.out⟩
  · have hE : covE lo hi = 10 := by unfold covE; rw [if_neg hok]
    have HE : Hid (R = 10) := by show _ = _; rw [← HRR.out]; unfold chkE; rw [if_neg hok]
    go_enter Tryd.func32, Tryd.ntmps32
    go_wp2_with fail
    refine CV.out.mono ?_
    rintro e w2 ⟨⟨vv, rfl, ho⟩, hb⟩
    obtain ⟨va, vc, rfl⟩ := own_formS ho
    rw [hE]
    have B2 : Hid (Below w.heap.size w w2) := over HB0.out hb
    clear ho hb d1 d2 d3
    go_wp2
    go_returns
    exact ⟨⟨_, _, _, by rw [HE.out]; rfl, fun h => by rw [HE.out] at h; cases h⟩, B2.out⟩
theorem checkC : CheckC TabB := by
  intro wd lo hi u hs w hwd hlo hhi hT hR hf
  have BA : Below w.heap.size w (w.alloc (.cells #[.int .i64 lo, .int .i64 hi, u] 25)) := (Below.refl _ _).alloc (Nat.le_refl _) _
  have F0 : Hid (Fx (w.alloc (.cells #[.int .i64 lo, .int .i64 hi, u] 25)) w.heap.size lo hi u) := fx_new _ _ _ _
  have C : Hid (Calls _ _ _ _ _) := nodes wd lo hi hlo hhi u hs _ (hT.later BA) (hR.later BA) hf
  have HB : Hid (Below _ _ _) := BA
  obtain ⟨R, HRR⟩ : ∃ R, Hid (chkE wd lo hi hs = R) := ⟨_, rfl⟩
  rw [HRR.out] at C ⊢
  obtain ⟨a, cap, rfl, hcap, hh⟩ := hR
  obtain ⟨d1, d2, d3⟩ := F0.out.fb
  clear BA hh hT hf hcap
  go_enter Tryd.func17, Tryd.ntmps17
  go_wp2_with fail
  refine C.out.mono ?_
  rintro e w2 ⟨⟨va, vl, vc, rfl, _⟩, hb⟩
  have B2 : Hid (Below w.heap.size w w2) := over HB.out hb
  clear hb d1 d2 d3
  go_wp2
  go_ret
  exact ⟨rfl, B2.out⟩
end Go.Proofs.YtnnpidjpklfogaaDoor.yf

namespace Go.Proofs.YtnnpidjpklfogaaDoor.yg
open Go.RowKit Go.PlainAid
open Go.Proofs.YtnnpidjpklfogaaDoor.pl Go.Proofs.YtnnpidjpklfogaaDoor.pi Go.Proofs.YtnnpidjpklfogaaDoor.pj Go.Proofs.YtnnpidjpklfogaaDoor.rf Go.Proofs.YtnnpidjpklfogaaDoor.ca Go.Proofs.YtnnpidjpklfogaaDoor.cb Go.Proofs.YtnnpidjpklfogaaDoor.cp Go.Proofs.YtnnpidjpklfogaaDoor.cs Go.Proofs.YtnnpidjpklfogaaDoor.xc Go.Proofs.YtnnpidjpklfogaaDoor.ka Go.Proofs.YtnnpidjpklfogaaDoor.kb Go.Proofs.YtnnpidjpklfogaaDoor.kc Go.Proofs.YtnnpidjpklfogaaDoor.ga Go.Proofs.YtnnpidjpklfogaaDoor.gb Go.Proofs.YtnnpidjpklfogaaDoor.na Go.Proofs.YtnnpidjpklfogaaDoor.nb Go.Proofs.YtnnpidjpklfogaaDoor.nc Go.Proofs.YtnnpidjpklfogaaDoor.oa Go.Proofs.YtnnpidjpklfogaaDoor.ob Go.Proofs.YtnnpidjpklfogaaDoor.qa Go.Proofs.YtnnpidjpklfogaaDoor.qb Go.Proofs.YtnnpidjpklfogaaDoor.qc Go.Proofs.YtnnpidjpklfogaaDoor.ya Go.Proofs.YtnnpidjpklfogaaDoor.yf
set_option linter.unusedVariables false

theorem foldP_on {α : Type} (E : α) (N : α → α → α) (xs : List α) (k : Nat) (hk : k + 1 < xs.length) : foldP E N (xs.drop k) = N (xs[k]'(by omega)) (foldP E N (xs.drop (k + 1))) := by
  rw [List.drop_eq_getElem_cons (show k < xs.length by omega), List.drop_eq_getElem_cons hk]
  rfl
theorem foldP_end {α : Type} (E : α) (N : α → α → α) (xs : List α) (k : Nat) (hk : k + 1 = xs.length) : foldP E N (xs.drop k) = xs[k]'(by omega) := by
  rw [List.drop_eq_getElem_cons (show k < xs.length by omega), List.drop_of_length_le (by omega)]
  rfl
set_option maxHeartbeats 1600000 in
theorem pFold (m : Int) (v : Value) (xs : List ByteArray) (w : World) (hT : Tab w) (hR : ReadsT w v xs) (hx : ∀ x ∈ xs, x.size ≤ 1048576) (hn : xs.length ≤ 1048577) :
    Calls Tryd.prog 37 #[.int .i64 m, v] w fun e w' => e = .returned (.string (foldP (EF m) (NF m) xs)) ∧ Below w.heap.size w w' := by
  have HX : Hid (∀ x ∈ xs, x.size ≤ 1048576) := hx
  have HT : Hid (Tab w) := hT
  have HRD : Hid (ReadsT w v xs) := hR
  obtain ⟨a, cap, rfl, hcap, hh⟩ := hR
  obtain ⟨n, HN⟩ : ∃ n, Hid (xs.length = n) := ⟨_, rfl⟩
  rw [HN.out] at hcap hh hn HRD ⊢
  have HH : Hid (n = 0 ∨ ∃ b off, a = some ⟨b, off, none⟩ ∧ ∀ i, i < n → w.cell? ⟨b, off + i, none⟩ = some (.string (xs.getD i ByteArray.empty))) := hh
  obtain ⟨R, HRR⟩ : ∃ R, Hid (foldP (EF m) (NF m) xs = R) := ⟨_, rfl⟩
  rw [HRR.out]
  clear hT hx hh
  by_cases h0 : n = 0
  · have EC : Hid (Calls _ _ _ _ _) := pEmpty m w HT.out
    have q0 : ((n : Int) == 0) = true := by rw [beq_iff_eq]; omega
    have HE : Hid (R = EF m) := by
      show _ = _
      have : xs = [] := List.length_eq_zero_iff.1 (HN.out.trans h0)
      rw [← HRR.out, this]
      rfl
    obtain ⟨X, HX0⟩ : ∃ X, Hid (EF m = X) := ⟨_, rfl⟩
    rw [HX0.out] at EC HE
    clear h0
    go_enter Tryd.func37, Tryd.ntmps37
    go_wp2_with fail
    refine EC.out.mono ?_
    rintro e w1 ⟨rfl, hb⟩
    have B1 : Hid (Below w.heap.size w w1) := hb
    clear hb
    go_wp2
    go_ret
    exact ⟨by rw [HE.out]; rfl, B1.out⟩
  · obtain ⟨b, off, rfl, hh⟩ : ∃ b off, a = some ⟨b, off, none⟩ ∧ ∀ i, i < n → w.cell? ⟨b, off + i, none⟩ = some (.string (xs.getD i ByteArray.empty)) := by
      rcases HH.out with h | h
      · exact absurd h h0
      · exact h
    have HCC : Hid (∀ i, i < n → w.cell? ⟨b, off + i, none⟩ = some (.string (xs.getD i ByteArray.empty))) := hh
    have q0 : ((n : Int) == 0) = false := by rw [beq_eq_false_iff_ne]; omega
    have c0 := hh (n - 1) (by omega)
    obtain ⟨L0, HL0⟩ : ∃ x, Hid (xs.getD (n - 1) ByteArray.empty = x) := ⟨_, rfl⟩
    rw [HL0.out] at c0
    have HS0 : Hid (foldP (EF m) (NF m) (xs.drop (n - 1)) = L0 ∧ L0.size ≤ 1048576) := by
      have hlt : n - 1 < xs.length := by rw [HN.out]; omega
      rw [foldP_end _ _ xs (n - 1) (by rw [HN.out]; omega), ← HL0.out, List.getD_eq_getElem?_getD, List.getElem?_eq_getElem hlt]
      exact ⟨rfl, HX.out _ (List.getElem_mem hlt)⟩
    obtain ⟨d, HD⟩ : ∃ d, Hid (n = d + 1) := ⟨n - 1, by show _ = _; omega⟩
    have hd1 : ((n : Int) - 1) = (d : Int) := by have := HD.out; omega
    have hdn : (d : Int) < n := by omega
    have hd0 : (0 : Int) ≤ (d : Int) := by omega
    rw [show n - 1 = d by have := HD.out; omega] at c0 HS0
    clear hh HH h0
    go_enter Tryd.func37, Tryd.ntmps37
    go_wp2
    go_loopw [6, 21] (fun h i wr => ∃ (k : Nat) (H : ByteArray), k ≤ d ∧ i = .int .i64 k ∧ h = .string H ∧ Hid (foldP (EF m) (NF m) (xs.drop (d - k)) = H ∧ H.size ≤ 1048576 ∧ Below w.heap.size w wr)) (fun _ i _ => (d - intOf i).toNat)
    case atStart => exact ⟨0, L0, by omega, rfl, rfl, HS0.out.1, HS0.out.2, Below.refl _ _⟩
    case round =>
      clear c0
      obtain ⟨k, H, hk, rfl, rfl, HL⟩ := hrel
      by_cases hlt : k < d
      · have hlt' : (k : Int) < d := by omega
        obtain ⟨j, HJ⟩ : ∃ j, Hid (d - 1 - k = j) := ⟨_, rfl⟩
        have hj : ((d : Int) - 1 - (k : Int)) = (j : Int) := by have := HJ.out; omega
        have hj0 : (0 : Int) ≤ (j : Int) := by omega
        have hjn : (j : Int) < n := by have := HJ.out; omega
        have hjx : j < xs.length := by rw [HN.out]; omega
        obtain ⟨x, HXK⟩ : ∃ x, Hid (xs.getD j ByteArray.empty = x) := ⟨_, rfl⟩
        have c1' := HCC.out j (by omega)
        rw [HXK.out] at c1'
        have c1 : wr.cell? ⟨b, off + j, none⟩ = some (.string x) := (HL.out.2.2.cell (p := ⟨b, off + j, none⟩) (World.block_lt_of_cell? _ _ c1')).trans c1'
        have HXE : Hid (x = xs[j]'hjx) := by show _ = _; rw [← HXK.out, List.getD_eq_getElem?_getD, List.getElem?_eq_getElem hjx]; rfl
        have hxs : x.size ≤ 1048576 := by rw [HXE.out]; exact HX.out _ (List.getElem_mem hjx)
        have hHs := HL.out.2.1
        have NC : Hid (∀ w', Tab w' → Calls _ _ _ _ _) := fun w' h => pNode m x H (by omega) w' h
        have HF : Hid (foldP (EF m) (NF m) (xs.drop j) = NF m x H) := by
          show _ = _
          have hd' : foldP (EF m) (NF m) (xs.drop (j + 1)) = H := by rw [show j + 1 = d - k by have := HJ.out; omega]; exact HL.out.1
          rw [foldP_on _ _ xs j (by rw [HN.out]; omega), hd', HXE.out]
        have HFS : Hid ((NF m x H).size ≤ 1048576) := by show _ ≤ _; rw [show (NF m x H).size = wid m from cutS_size _ _]; have := wid_in m; omega
        have TW : Hid (Tab wr) := HT.out.down HL.out.2.2
        obtain ⟨Q, HQ⟩ : ∃ Q, Hid (NF m x H = Q) := ⟨_, rfl⟩
        rw [HQ.out] at NC HF HFS
        clear c1' hxs hHs
        go_wp2_with fail
        refine (NC.out _ TW.out).mono ?_
        rintro e w1 ⟨rfl, hb⟩
        have B1 : Hid (Below w.heap.size w w1) := over HL.out.2.2 hb
        clear hb
        go_wp2
        go_roundw
        case rel => exact ⟨k + 1, Q, by omega, by go_num, rfl, by rw [show d - (k + 1) = j by have := HJ.out; omega]; exact HF.out, HFS.out, B1.out⟩
        case measure => simp [intOf]; omega
      · have hlt' : ¬ (k : Int) < d := by omega
        have HE : Hid (R = H) := by
          have h := HL.out.1
          rw [show d - k = 0 by omega, List.drop_zero, HRR.out] at h
          exact h
        go_wp2
        go_ret
        exact ⟨by rw [HE.out]; rfl, HL.out.2.2⟩

set_option maxHeartbeats 800000 in
theorem startC {T : World → Prop} : StartC T := by
  intro q w hq hT
  have F0 : Fx (w.alloc (.cells #[.int .i64 0, .int .i64 0, .slice none 0 0] 25)) w.heap.size 0 0 (.slice none 0 0) := fx_new _ _ _ _
  have F1 : Fx (w.alloc (.cells #[.int .i64 q, .int .i64 q, .slice none 0 0] 25)) w.heap.size q q (.slice none 0 0) := fx_new _ _ _ _
  have B0 : Hid (∀ o, Below w.heap.size w (w.alloc o)) := fun o => (Below.refl _ _).alloc (Nat.le_refl _) _
  obtain ⟨g1, g2, g3⟩ := F0.fb
  obtain ⟨k1, k2, k3⟩ := F1.fb
  clear F0 F1
  by_cases h1 : q < 0
  · rw [if_neg (by omega), if_neg (by omega)]
    go_enter Tryd.func18, Tryd.ntmps18
    go_wp2
    (try simp only [Exit.inBlock, Exit.then])
    refine bodyPost_ret (by simp [results, Tryd.results18, go_sem, g1, g2, g3]; try rfl) rfl ?_
    exact ⟨⟨_, rfl, World.ownsRow_nil _ _ _ _⟩, B0.out _⟩
  · by_cases h2 : 4611686018427387904 < q
    · rw [if_neg (by omega), if_neg (by omega)]
      go_enter Tryd.func18, Tryd.ntmps18
      go_wp2
      (try simp only [Exit.inBlock, Exit.then])
      refine bodyPost_ret (by simp [results, Tryd.results18, go_sem, g1, g2, g3]; try rfl) rfl ?_
      exact ⟨⟨_, rfl, World.ownsRow_nil _ _ _ _⟩, B0.out _⟩
    · rw [if_pos (by omega), if_pos (by omega)]
      go_enter Tryd.func18, Tryd.ntmps18
      go_wp2
      (try simp only [Exit.inBlock, Exit.then])
      refine bodyPost_ret (by simp [results, Tryd.results18, go_sem, k1, k2, k3]; try rfl) rfl ?_
      exact ⟨⟨_, rfl, World.ownsRow_nil _ _ _ _⟩, B0.out _⟩
theorem hi9s : (Tryd.prog.info? 9).map (fun i => (i.zero, i.size, i.bytes)) = some (some (.string ByteArray.empty), 1, 16) := by kernel_rfl
theorem one_strs (hs : List ByteArray) : ∀ u ∈ hs.map Value.string, u.oneCell' = true := by
  intro u hu
  obtain ⟨x, _, rfl⟩ := List.mem_map.1 hu
  rfl
set_option maxRecDepth 100000 in
set_option maxHeartbeats 800000 in
theorem clone (u : Value) (hs : List ByteArray) (w : World) (hR : ReadsT w u hs) (hn : hs.length ≤ 1000) :
    Calls Tryd.prog 50 #[u] w fun e w' => (∃ a l c, e = .returned (.slice a l c) ∧ Texts w' w.heap.size (.slice a l c) hs) ∧ Below w.heap.size w w' := by
  obtain ⟨i9, hi, hz0, hz1, hz2⟩ := info_parts hi9s
  have HIN : Hid (_ ∧ _ ∧ _ ∧ _) := ⟨hi, hz0, hz1, hz2⟩
  obtain ⟨a, cap, rfl, hcap, hh⟩ := hR
  have HH : Hid (hs.length = 0 ∨ ∃ b off, a = some ⟨b, off, none⟩ ∧ ∀ i, i < hs.length → w.cell? ⟨b, off + i, none⟩ = some (.string (hs.getD i ByteArray.empty))) := hh
  obtain ⟨n, HN⟩ : ∃ n, Hid (hs.length = n) := ⟨_, rfl⟩
  clear hh hi hz0 hz1 hz2
  cases a with
  | none =>
    have h0 : hs = [] := by
      rcases HH.out with h | ⟨b, off, e, _⟩
      · exact List.length_eq_zero_iff.1 h
      · cases e
    subst h0
    simp only [List.length_nil] at hcap ⊢
    have q := fun w => Lib.run_eql_slice_nil (P := Tryd.prog) w 22 9 none 0 cap 0 0 Tryd.underlying22
    clear HH HN hn hcap
    go_enter Tryd.func50, Tryd.ntmps50
    go_wp2
    go_ret
    exact ⟨⟨_, _, _, rfl, World.ownsRow_nil _ _ _ _⟩, Below.refl _ _⟩
  | some ad =>
    have q := fun w n => Lib.run_eql_slice_nil (P := Tryd.prog) w 22 9 (some ad) n cap 0 0 Tryd.underlying22
    have NX : Hid (∀ (W : World), Below w.heap.size w W → ∀ (j : Nat) (u : Value), (hs.map Value.string)[j]? = some u → W.cell? (ad.add j) = some u) := by
      intro W hW j u hu
      rw [List.getElem?_map] at hu
      obtain ⟨x, hx, rfl⟩ := Option.map_eq_some_iff.1 hu
      have hj := (List.getElem?_eq_some_iff.1 hx).1
      rcases HH.out with h | ⟨b, off, e, hc⟩
      · omega
      · have e := Option.some.inj e
        subst e
        have c1 := hc j hj
        rw [List.getD_eq_getElem?_getD, hx] at c1
        rw [show (Addr.add ⟨b, off, none⟩ j) = ⟨b, off + j, none⟩ by cases j <;> simp [Addr.add]]
        exact (hW.cell (World.block_lt_of_cell? _ _ c1)).trans c1
    have B1 : Hid (Below w.heap.size w (w.alloc (.cells #[] 9))) := (Below.refl _ _).alloc (Nat.le_refl _) _
    have OX : Hid ((w.alloc (.cells #[] 9)).ownsRow w.heap.size 9 1 (.slice (some ⟨w.heap.size, 0, none⟩) 0 0) 0 []) := World.ownsRow_made w #[] 0 (Nat.le_refl _) (by unfold maxLen; omega) (by simp)
    have SZ : Hid (w.heap.size ≤ (w.alloc (.cells #[] 9)).heap.size) := B1.out.size
    rw [HN.out] at hn ⊢
    clear hcap HH
    go_enter Tryd.func50, Tryd.ntmps50
    go_wp2_with (at_builtin; refine wpList_append_own _ rfl _ _ 22 rfl w.heap.size 9 i9 (.string ByteArray.empty) 1 16 Tryd.underlying22 HIN.out.1 HIN.out.2.1 HIN.out.2.2.1 HIN.out.2.2.2 rfl (by decide) _ 0 _ rfl OX.out ad n cap (hs.map Value.string) rfl (by rw [List.length_map, HN.out]; omega) (NX.out _ B1.out) (one_strs _) (by unfold maxLen; omega) (by omega) SZ.out ?_; intro p' w5 ho hg hnn; have HO5 : Hid (w5.ownsRow w.heap.size 9 1 p' (0 + n) ([] ++ hs.map Value.string)) := ho; have HB5 : Hid (Below w.heap.size w w5) := Below.grown B1.out hg SZ.out (fun jj hj => (OX.out.lt _ hj).1); clear ho hg hnn)
    go_ret
    have HO6 : Texts w5 w.heap.size p' hs := by have := HO5.out; rw [Nat.zero_add, List.nil_append] at this; unfold Texts; rw [HN.out]; exact this
    obtain ⟨pa, pc, rfl⟩ := own_formS HO6
    exact ⟨⟨_, _, _, rfl, HO6⟩, HB5.out⟩
set_option maxHeartbeats 800000 in
theorem begin (wd lo hi : Int) (u vn : Value) (hs : List ByteArray) (w : World) (hR : ReadsT w u hs) (hn : hs.length ≤ 1000) (hv : ∃ a l c, vn = .slice a l c) :
    Calls Tryd.prog 33 #[.int .i64 wd, FV lo hi u, vn] w fun e w' => (∃ p vh, e = .returned (.pointer (some ⟨p, 0, none⟩)) ∧ w.heap.size ≤ p ∧ Px w' p lo hi vh wd vn ∧ Texts w' w.heap.size vh hs) ∧ Below w.heap.size w w' := by
  have BA : Below w.heap.size w (w.alloc (.cells #[.int .i64 lo, .int .i64 hi, u] 25)) := (Below.refl _ _).alloc (Nat.le_refl _) _
  have F0 : Hid (Fx (w.alloc (.cells #[.int .i64 lo, .int .i64 hi, u] 25)) w.heap.size lo hi u) := fx_new _ _ _ _
  have C : Hid (Calls _ _ _ _ _) := clone u hs _ (hR.later BA) hn
  have HB : Hid (Below _ _ _) := BA
  obtain ⟨na, nl, nc, rfl⟩ := hv
  obtain ⟨a, cap, rfl, hcap, hh⟩ := hR
  obtain ⟨d1, d2, d3⟩ := F0.out.fb
  clear BA hh hcap hn
  go_enter Tryd.func33, Tryd.ntmps33
  go_wp2_with fail
  refine C.out.mono ?_
  rintro e w2 ⟨⟨va, vl, vc, rfl, hO⟩, hb⟩
  have B2 : Hid (Below w.heap.size w w2) := over HB.out hb
  have O2 : Hid (Texts w2 w.heap.size (.slice va vl vc) hs) := hO.down HB.out.size
  have F2 := F0.out.on hb
  have e3 := F2.fb.z
  have f3 := frozen_of_row w2 w.heap.size 2 _ _ F2
  have F3 : Hid (Fx (w2.setCell ⟨w.heap.size, 2, none⟩ (.slice va vl vc)) w.heap.size lo hi (.slice va vl vc)) := heap_setCell_same _ _ 2 _ _ _ F2
  have B3 : Hid (Below w.heap.size w (w2.setCell ⟨w.heap.size, 2, none⟩ (.slice va vl vc))) := B2.out.setCell (p := ⟨w.heap.size, 2, none⟩) (Nat.le_refl _) _
  have O3 : Hid (Texts (w2.setCell ⟨w.heap.size, 2, none⟩ (.slice va vl vc)) w.heap.size (.slice va vl vc) hs) := World.ownsRow.kept O2.out (setGrown w2 w.heap.size 2 _) (.inr (far F2 O2.out (by decide)).symm)
  clear hb hO d1 d2 d3 F2 F0 C
  obtain ⟨g1, g2, g3⟩ := F3.out.fb
  have PX : Hid (Px ((w2.setCell ⟨w.heap.size, 2, none⟩ (.slice va vl vc)).alloc (.cells #[.int .i64 lo, .int .i64 hi, .slice va vl vc, .int .i64 wd, .slice na nl nc] 96)) w2.heap.size lo hi (.slice va vl vc) wd (.slice na nl nc)) := by
    have := heap_alloc_new (w2.setCell ⟨w.heap.size, 2, none⟩ (.slice va vl vc)) (.cells #[.int .i64 lo, .int .i64 hi, .slice va vl vc, .int .i64 wd, .slice na nl nc] 96)
    rw [show (w2.setCell ⟨w.heap.size, 2, none⟩ (.slice va vl vc)).heap.size = w2.heap.size by simp] at this
    exact this
  have SZ : Hid (w.heap.size ≤ w2.heap.size) := B2.out.size
  have O4 : Hid (Texts ((w2.setCell ⟨w.heap.size, 2, none⟩ (.slice va vl vc)).alloc (.cells #[.int .i64 lo, .int .i64 hi, .slice va vl vc, .int .i64 wd, .slice na nl nc] 96)) w.heap.size (.slice va vl vc) hs) := World.ownsRow.alloc O3.out _
  have B4 : Hid (Below w.heap.size w ((w2.setCell ⟨w.heap.size, 2, none⟩ (.slice va vl vc)).alloc (.cells #[.int .i64 lo, .int .i64 hi, .slice va vl vc, .int .i64 wd, .slice na nl nc] 96))) := B3.out.alloc B3.out.size _
  clear F3 B3 O3 O2
  go_wp2
  go_ret
  exact ⟨⟨_, _, rfl, SZ.out, PX.out, O4.out⟩, B4.out⟩
set_option maxHeartbeats 800000 in
theorem root7 {T : World → Prop} (tab : ∀ {w : World}, T w → Tab w) (tbb : ∀ {w : World}, T w → TabB w) : RootC7 T := by
  intro wd lo hi u hs w hwd hlo hhi hT hR hf
  have BA : Below w.heap.size w (w.alloc (.cells #[.int .i64 lo, .int .i64 hi, u] 25)) := (Below.refl _ _).alloc (Nat.le_refl _) _
  have F0 : Hid (Fx (w.alloc (.cells #[.int .i64 lo, .int .i64 hi, u] 25)) w.heap.size lo hi u) := fx_new _ _ _ _
  have C : Hid (Calls _ _ _ _ _) := checkC wd lo hi u hs _ hwd hlo hhi ((tbb hT).later BA) (hR.later BA) hf
  have HB : Hid (Below _ _ _) := BA
  have HT : Hid (Tab w) := tab hT
  have HRD : Hid (ReadsT w u hs) := hR
  have HF : Hid (∀ w, Tab w → ReadsT w u hs → chkE wd lo hi hs = 0 → Calls _ _ _ _ _) := fun w h1 h2 h3 => by
    have g := chk_ok.1 h3
    obtain ⟨_, _, _, _, _, _, g2⟩ := good_form g
    exact pFold wd u hs w h1 h2 (fun x hx => by rw [g.2.2 x hx]; have := wid_in wd; omega) (by omega)
  obtain ⟨R, HRR⟩ : ∃ R, Hid (chkE wd lo hi hs = R) := ⟨_, rfl⟩
  obtain ⟨X, HX⟩ : ∃ X, Hid (foldP (EF wd) (NF wd) hs = X) := ⟨_, rfl⟩
  obtain ⟨E, HE⟩ : ∃ E, Hid (rootE wd lo hi hs = E) := ⟨_, rfl⟩
  rw [HRR.out] at C HF
  rw [HX.out] at HF ⊢
  rw [HE.out]
  have HE1 : Hid (E = if R = 0 then (if lo = 0 then 0 else 10) else R) := by show _ = _; rw [← HE.out, ← HRR.out]; rfl
  obtain ⟨Y, HY⟩ : ∃ Y, Hid (pick E X ByteArray.empty = Y) := ⟨_, rfl⟩
  rw [HY.out]
  obtain ⟨a, cap, rfl, hcap, hh⟩ := hR
  obtain ⟨d1, d2, d3⟩ := F0.out.fb
  clear BA hh hT hf hcap
  by_cases h0 : R = 0
  · subst h0
    by_cases h1 : lo = 0
    · subst h1
      have HEE : Hid (E = 0) := by rw [HE1.out, if_pos rfl, if_pos rfl]; rfl
      go_enter Tryd.func19, Tryd.ntmps19
      go_wp2_with fail
      refine C.out.mono ?_
      rintro e w2 ⟨rfl, hb⟩
      have B2 : Hid (Below w.heap.size w w2) := over HB.out hb
      obtain ⟨g1, g2, g3⟩ := (F0.out.on hb).fb
      have FC : Hid (Calls _ _ _ _ _) := HF.out _ (HT.out.down B2.out) (HRD.out.later B2.out) (by first | trivial | exact HRR.out)
      clear hb d1 d2 d3
      go_wp2_with fail
      refine FC.out.mono ?_
      rintro e w3 ⟨rfl, hb⟩
      have B3 : Hid (Below w.heap.size w w3) := over B2.out hb
      clear hb
      go_wp2
      go_returns
      exact ⟨by rw [← HY.out, HEE.out]; rfl, B3.out⟩
    · have HEE : Hid (E = 10) := by rw [HE1.out, if_pos rfl, if_neg h1]; rfl
      have q1 : (lo == 0) = false := by rw [beq_eq_false_iff_ne]; exact h1
      clear h1
      go_enter Tryd.func19, Tryd.ntmps19
      go_wp2_with fail
      refine C.out.mono ?_
      rintro e w2 ⟨rfl, hb⟩
      have B2 : Hid (Below w.heap.size w w2) := over HB.out hb
      obtain ⟨g1, g2, g3⟩ := (F0.out.on hb).fb
      clear hb d1 d2 d3
      go_wp2
      go_returns
      exact ⟨by rw [← HY.out, HEE.out]; rfl, B2.out⟩
  · have HEE : Hid (E = R) := by rw [HE1.out, if_neg h0]; rfl
    have q1 : (R == 0) = false := by rw [beq_eq_false_iff_ne]; exact h0
    have HYY : Hid (Y = ByteArray.empty) := by show _ = _; rw [← HY.out, HEE.out]; unfold pick; rw [if_neg h0]
    clear h0
    go_enter Tryd.func19, Tryd.ntmps19
    go_wp2_with fail
    refine C.out.mono ?_
    rintro e w2 ⟨rfl, hb⟩
    have B2 : Hid (Below w.heap.size w w2) := over HB.out hb
    clear hb d1 d2 d3
    go_wp2
    go_returns
    exact ⟨by rw [HYY.out, HEE.out]; rfl, B2.out⟩
end Go.Proofs.YtnnpidjpklfogaaDoor.yg

namespace Go.Proofs.YtnnpidjpklfogaaDoor.yr
open Go.Proofs.YtnnpidjpklfogaaDoor.ob Go.Proofs.YtnnpidjpklfogaaDoor.tb Go.Proofs.YtnnpidjpklfogaaDoor.yg

theorem rootC7 : RootC7 TB4 := root7 (fun h => h.tb.t) (fun h => h.d)
end Go.Proofs.YtnnpidjpklfogaaDoor.yr
