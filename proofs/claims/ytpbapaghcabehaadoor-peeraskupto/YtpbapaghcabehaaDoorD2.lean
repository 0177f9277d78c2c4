import Derived.Test.YtpbapaghcabehaaDoorD1
import Derived.Deep.DeepCutAuto
namespace Go.Proofs.YtpbapaghcabehaaDoor.d2
open Go.RowKit Go.PlainAid Go.Shelf
open Go.Proofs.YtpbapaghcabehaaDoor.tb Go.Proofs.YtpbapaghcabehaaDoor.tc Go.Proofs.YtpbapaghcabehaaDoor.th Go.Proofs.YtpbapaghcabehaaDoor.tj Go.Proofs.YtpbapaghcabehaaDoor.tk Go.Proofs.YtpbapaghcabehaaDoor.va Go.Proofs.YtpbapaghcabehaaDoor.vb Go.Proofs.YtpbapaghcabehaaDoor.vc Go.Proofs.YtpbapaghcabehaaDoor.wa Go.Proofs.YtpbapaghcabehaaDoor.wb Go.Proofs.YtpbapaghcabehaaDoor.kp Go.Proofs.YtpbapaghcabehaaDoor.a1 Go.Proofs.YtpbapaghcabehaaDoor.a2 Go.Proofs.YtpbapaghcabehaaDoor.b1 Go.Proofs.YtpbapaghcabehaaDoor.b2 Go.Proofs.YtpbapaghcabehaaDoor.b3 Go.Proofs.YtpbapaghcabehaaDoor.b4 Go.Proofs.YtpbapaghcabehaaDoor.b5 Go.Proofs.YtpbapaghcabehaaDoor.c1 Go.Proofs.YtpbapaghcabehaaDoor.c2 Go.Proofs.YtpbapaghcabehaaDoor.c4 Go.Proofs.YtpbapaghcabehaaDoor.d1
set_option linter.unusedVariables false
set_option maxRecDepth 8000

def markB : ByteArray := ⟨#[109, 97, 114, 107]⟩
theorem reads_cut {w : World} {g cap m : Nat} {r : List ByteArray} (h : AtS w g r) (hm : m ≤ r.length) : Reads w (.slice (some ⟨g, 0, none⟩) m cap) (r.take m) := by
  have h2 : AtS w g (r.take m ++ r.drop m) := by rw [List.take_append_drop]; exact h
  have h3 := h2.reads (cap := cap)
  rwa [List.length_take, Nat.min_eq_left hm] at h3
theorem reads_cells {w : World} {b off n c : Nat} {xs : List ByteArray} (h : Reads w (.slice (some ⟨b, off, none⟩) n c) xs) : ∀ j u, (xs.map Value.string)[j]? = some u → w.cell? ((⟨b, off, none⟩ : Addr).add j) = some u := by
  obtain ⟨a, cap, e, h0⟩ := h
  injection e with e1 e2 e3
  intro j u hj
  have hjl : j < xs.length := by have := (List.getElem?_eq_some_iff.1 hj).1; rwa [List.length_map] at this
  rcases h0 with h0 | ⟨b', off', e4, hh⟩
  · omega
  · rw [← e1] at e4
    injection e4 with e4
    injection e4 with e5 e6
    subst e5 e6
    rw [Addr.add_mid, hh j hjl, ← hj, List.getElem?_map, List.getD_eq_getElem?_getD, List.getElem?_eq_getElem hjl]
    rfl
theorem reads_len {w : World} {a : Option Addr} {n c : Nat} {xs : List ByteArray} (h : Reads w (.slice a n c) xs) : xs.length = n ∧ (a = none → n = 0) := by
  obtain ⟨a', cap, e, h0⟩ := h
  injection e with e1 e2 e3
  refine ⟨e2.symm, fun ha => ?_⟩
  rcases h0 with h0 | ⟨b, off, e4, _⟩
  · omega
  · rw [← e1, ha] at e4; cases e4
set_option maxHeartbeats 6400000 in
theorem law_ask (old : Int) (pf : List ByteArray) (note : ByteArray) (a : Option Addr) (c : Nat) (b : ByteArray) (w : World) (hI : I64 old) (zn : note.size ≤ 1048576) (hr : Reads w (.slice a pf.length c) pf) (hno : a = none → c = 0) (hz : pf.length ≤ 1048576) (zb : b.size ≤ 1048576) (N : Hid (NumW w)) (M : Hid (MaxW w))
    (RD : ∀ w, NumW w → MaxW w → Calls Tryd.prog 10 #[.string b] w fun e w' => e = .returned (.bool true) ∧ Below w.heap.size w w') :
    Calls Tryd.prog 4 #[.agg #[.int .i64 old, .slice a pf.length c, .string note], .string b] w fun e w' => e = .returned (.bool true) ∧ Below w.heap.size w w' := by
  obtain ⟨i0, hi, hz0, hz1, hz2⟩ := info_parts infoS
  have HIN : Hid (_ ∧ _ ∧ _ ∧ _) := ⟨hi, hz0, hz1, hz2⟩
  clear hi hz0 hz1 hz2
  have HRR : Hid (Reads w (.slice a pf.length c) pf) := hr
  have HI : Hid (I64 old) := hI
  have HRD : Hid (∀ w, NumW w → MaxW w → Calls Tryd.prog 10 #[.string b] w fun e w' => e = .returned (.bool true) ∧ Below w.heap.size w w') := RD
  obtain ⟨W, HW⟩ : ∃ W, Hid (w.alloc (.cells #[.int .i64 old, .slice a pf.length c, .string note] 24) = W) := ⟨_, rfl⟩
  have BW : Hid (Below w.heap.size w W) := by rw [← HW.out]; exact (Below.refl _ _).alloc (Nat.le_refl _) _
  have zW : Hid (W.heap.size = w.heap.size + 1) := by show _ = _; rw [← HW.out]; simp
  have SX : Hid (∀ w', Below (w.heap.size + 1) W w' → w'.cell? ⟨w.heap.size, 0, none⟩ = some (.int .i64 old) ∧ w'.cell? ⟨w.heap.size, 1, none⟩ = some (.slice a pf.length c) ∧ w'.cell? ⟨w.heap.size, 2, none⟩ = some (.string note)) := by
    rw [← HW.out]; exact fun w' h => box3 w w' _ _ _ _ h
  obtain ⟨p, HP⟩ : ∃ p, Hid (w.heap.size = p) := ⟨_, rfl⟩
  have FIN : Hid (∀ w', Below (p + 1) W w' → Below w.heap.size w w') := fun w' h => BW.out.trans (h.mono (by rw [← HP.out]; omega))
  have NW : Hid (∀ w', Below (p + 1) W w' → Hid (NumW w')) := fun w' h => N.out.down (FIN.out w' h)
  have MW : Hid (∀ w', Below (p + 1) W w' → Hid (MaxW w')) := fun w' h => M.out.down (FIN.out w' h)
  obtain ⟨n, HN⟩ : ∃ n, Hid (pf.length = n) := ⟨_, rfl⟩
  have hzn : n ≤ 1048576 := by rw [← HN.out]; exact hz
  have HRW : Hid (∀ w', Below (p + 1) W w' → Reads w' (.slice a n c) pf) := fun w' h => by rw [← HN.out]; exact HRR.out.later (FIN.out w' h)
  rw [HP.out, HN.out] at SX
  rw [HP.out] at zW
  have CA : Hid (∀ (l : List ByteArray) (aa : Option Addr) (k : Nat) (w' : World), l.length = n → Reads w' (.slice aa n k) l → Below (p + 1) W w' → Calls Tryd.prog 5 #[.agg #[.int .i64 old, .slice aa n k, .string note]] w' fun e w'' => e = .returned (.tuple #[.string (rqT old l note), .int .i64 (rqE old l)]) ∧ Below w'.heap.size w' w'') := fun l aa k w' e h hb => by
    subst e
    exact askC old l note aa k w' HI.out (by omega) h (by omega) (NW.out w' hb)
  have CD : Hid (∀ (w' : World), Below (p + 1) W w' → Calls Tryd.prog 8 #[.agg #[.int .i64 old, .slice a n c, .string note]] w' fun e w'' => e = .returned (.tuple #[.string (rqT old pf note), .int .i64 (rqE old pf)]) ∧ Below w'.heap.size w' w'') := fun w' hb => by
    have h := HRW.out w' hb
    rw [← HN.out] at h ⊢
    exact askD old pf note a c w' HI.out (by omega) h (by omega)
  have CB : Hid (∀ (w' : World), Below (p + 1) W w' → Calls Tryd.prog 6 #[.string b] w' fun e w'' => asR w' w'' (asP b) e ∧ Below w'.heap.size w' w'') := fun w' hb => askedC b (by omega) w' (NW.out w' hb) (MW.out w' hb)
  have CE : Hid (∀ (w' : World), Calls Tryd.prog 9 #[.string b] w' fun e w'' => asR w' w'' (asP b) e ∧ Below w'.heap.size w' w'') := fun w' => askedD b (by omega) w'
  have HVL : Hid ((asV b).proof.length ≤ 1048577) := Nat.le_trans (asV_len b) (by omega)
  have TOP : Hid (w.alloc (.cells #[.int .i64 old, .slice a n c, .string note] 24) = W) := by rw [← HN.out]; exact HW.out
  have HKL : Hid ((pf.map Value.string).length = n * 1) := by show _ = _; rw [List.length_map, HN.out, Nat.mul_one]
  obtain ⟨q, HQ⟩ : ∃ q, Hid (W.heap.size = q) := ⟨_, rfl⟩
  have HPQ : Hid (p < q) := by show _ < _; rw [← HQ.out, zW.out]; omega
  have HP1 : Hid (p + 1 = q) := by show _ = _; rw [← HQ.out, zW.out]
  obtain ⟨p0, p1, p2⟩ := SX.out W (Below.refl _ _)
  obtain ⟨Q, HQW⟩ : ∃ Q, Hid (W.alloc (.cells #[.int .i64 old, .slice none 0 0, .string note] 24) = Q) := ⟨_, rfl⟩
  have RQ : Hid (Rd3 p q W old note [] Q) := by
    rw [← HQW.out]
    exact ⟨HPQ.out, ⟨none, 0, by rw [← HQ.out]; exact heap_alloc_new W _, World.ownsRow_nil _ _ _ _⟩, (Below.refl _ _).alloc (by rw [zW.out]; exact Nat.le_refl _) _⟩
  have HBQ : Hid (Q.heap[q]? = some (.cells #[.int .i64 old, .slice none 0 0, .string note] 24 (0, 0))) := by
    rw [← HQW.out, ← HQ.out]; exact heap_alloc_new W _
  have zQ : Hid (q + 1 ≤ Q.heap.size) := by show _ ≤ _; rw [← HQW.out, ← HQ.out]; simp
  rw [HN.out]
  clear hr hz BW HW zb zn hI RD
  go_enter Tryd.func4, Tryd.ntmps4
  go_upto_region 3 with fail
  rw [HP.out, TOP.out, HP1.out, HQW.out]
  clear p0 p1 p2
  go_cut [4] (fun cc wx => cc = .bool false ∧ Hid (Rd3 p q W old note pf wx))
  case first =>
    have HO0 : Hid (Q.ownsRow (q + 1) 9 1 (.slice none 0 0) 0 []) := World.ownsRow_nil _ _ _ _
    obtain ⟨p0, p1, p2⟩ := SX.out Q RQ.out.low
    have c1 := cell_of_row _ _ 1 _ _ _ HBQ.out
    have f1 := frozen_of_row _ _ 1 _ _ HBQ.out
    cases a with
    | none =>
      have hc0 := hno rfl
      subst hc0
      have hm0 : n = 0 := (reads_len (HRW.out Q RQ.out.low)).2 rfl
      subst hm0
      have HE0 : Hid (pf = []) := List.length_eq_zero_iff.1 HN.out
      have hq := HBQ.out
      go_wp2
      go_meet
      refine ⟨rfl, ?_⟩
      rw [HE0.out]
      exact ⟨HPQ.out, ⟨none, 0, heap_setCell_same _ _ 1 _ _ _ hq, World.ownsRow_nil _ _ _ _⟩, RQ.out.low.setCell (show p + 1 ≤ q from HPQ.out) _⟩
    | some s =>
      have HNW : Hid (∀ j u, (pf.map Value.string)[j]? = some u → Q.cell? (s.add j) = some u) := by
        obtain ⟨a', cap, e, h0⟩ := HRW.out Q RQ.out.low
        injection e with e1 e2 e3
        rcases h0 with h0 | ⟨b', off', e4, _⟩
        · intro j u hj
          have := (List.getElem?_eq_some_iff.1 hj).1
          rw [HKL.out] at this
          omega
        · rw [← e1] at e4
          injection e4 with e4
          subst e4
          exact reads_cells (HRW.out Q RQ.out.low)
      go_wp2_with (at_builtin; refine wpList_append_own _ rfl _ _ 22 rfl (q + 1) 9 i0 (.string ⟨#[]⟩) 1 16 Tryd.underlying22 HIN.out.1 HIN.out.2.1 HIN.out.2.2.1 HIN.out.2.2.2 rfl (by decide) (.slice none 0 0) 0 [] rfl HO0.out s n c (pf.map Value.string) rfl HKL.out HNW.out (one_texts _) (by unfold maxLen; omega) (by omega) zQ.out ?_; intro v2 w2 hown2 hgr2 hnn2; have HO2 : Hid (w2.ownsRow (q + 1) 9 1 v2 n (pf.map Value.string)) := (by have := hown2; rw [Nat.zero_add, List.nil_append] at this; exact this); have B2 : Hid (Below (q + 1) Q w2) := (Below.refl _ _).grown hgr2 zQ.out (fun j hj => (HO0.out.lt _ hj).1); clear hown2 hgr2 hnn2; obtain ⟨va, vc, hv⟩ := own_form HO2.out; subst hv; have hq2 := (B2.out.block q (Nat.lt_succ_self _)).trans HBQ.out; have HQ2 : Hid (_ = _) := hq2; have g2 := cell_of_row _ _ 1 _ _ _ hq2; have g3 := frozen_of_row _ _ 1 _ _ hq2; clear hq2)
      go_meet
      refine ⟨rfl, HPQ.out, ⟨va, vc, ?_, ?_⟩, ?_⟩
      · rw [HN.out]; exact heap_setCell_same _ _ 1 _ _ _ HQ2.out
      · rw [HN.out]; exact own_set HO2.out (Nat.lt_succ_self q)
      · exact (RQ.out.low.trans (B2.out.mono (Nat.succ_le_succ (Nat.le_of_lt HPQ.out)))).setCell (show p + 1 ≤ q from HPQ.out) _
  case rest =>
    obtain ⟨rfl, HRC⟩ := hcut
    clear RQ HBQ zQ HQW
    obtain ⟨a1, k1, hb1, hb2⟩ := HRC.out.box
    rw [HN.out] at hb1 hb2
    have HOW : Hid (wc.ownsRow (q + 1) 9 1 (.slice a1 n k1) n (pf.map Value.string)) := hb2
    have HBQ : Hid (wc.heap[q]? = some (.cells #[.int .i64 old, .slice a1 n k1, .string note] 24 (0, 0))) := hb1
    have hql : q < wc.heap.size := (Array.getElem?_eq_some_iff.1 hb1).1
    have c1 := cell_of_row _ _ 1 _ _ _ hb1
    have BAL : Hid (Below wc.heap.size wc (wc.alloc (.cells #[.string markB] 9))) := (Below.refl _ _).alloc (Nat.le_refl _) _
    have HOA : Hid ((wc.alloc (.cells #[.string markB] 9)).ownsRow (q + 1) 9 1 (.slice a1 n k1) n (pf.map Value.string)) := HOW.out.alloc _
    have BAQ : Hid (Below (q + 1) wc (wc.alloc (.cells #[.string markB] 9))) := BAL.out.mono hql
    have HBS : Hid (q + 1 ≤ (wc.alloc (.cells #[.string markB] 9)).heap.size) := Nat.le_trans hql BAL.out.size
    clear hb1 hb2 hql
    go_upto_region 5 with (at_builtin; refine wpList_append_own _ rfl _ _ 22 rfl (q + 1) 9 i0 (.string ⟨#[]⟩) 1 16 Tryd.underlying22 HIN.out.1 HIN.out.2.1 HIN.out.2.2.1 HIN.out.2.2.2 rfl (by decide) (.slice a1 n k1) n _ rfl HOA.out ⟨wc.heap.size, 0, none⟩ 1 1 [.string markB] rfl rfl (new_one _ _ _) (one_texts [markB]) (by unfold maxLen; omega) (by omega) HBS.out ?_; intro v2 w2 hown2 hgr2 hnn2; have HO2 : Hid (w2.ownsRow (q + 1) 9 1 v2 (n + 1) ((pf ++ [markB]).map Value.string)) := (by rw [List.map_append]; exact hown2); have B2 : Hid (Below (q + 1) wc w2) := BAQ.out.grown hgr2 HBS.out (fun j hj => (HOA.out.lt _ hj).1); clear hown2 hgr2 hnn2; obtain ⟨g, cap, hv, hcp, hgB, hfz, hat⟩ := own_ats HO2.out (by rw [List.length_append, HN.out]; rfl) (Nat.succ_pos _); subst hv; have hq2 := (B2.out.block q (Nat.lt_succ_self _)).trans HBQ.out; have HQ2 : Hid (_ = _) := hq2; have g2 := cell_of_row _ _ 1 _ _ _ hq2; have g3 := frozen_of_row _ _ 1 _ _ hq2; clear hq2)
    have HQG : Hid (q < g) := hgB
    have MK0 : Hid (Mk p q g cap W old note (n + 1) (pf ++ [markB]) (w2.setCell ⟨q, 1, none⟩ (.slice (some ⟨g, 0, none⟩) (n + 1) cap))) := by
      refine ⟨HPQ.out, HQG.out, heap_setCell_same _ _ 1 _ _ _ HQ2.out, ⟨by simpa [World.setCell] using hat.1, fun i x hi => ?_⟩, fun i => ?_, (HRC.out.low.trans (B2.out.mono (Nat.succ_le_succ (Nat.le_of_lt HPQ.out)))).setCell (show p + 1 ≤ q from HPQ.out) _⟩
      · exact (World.cell?_setCell_other _ _ _ _ (by intro e; injection e with e1 _ _; have := HQG.out; omega)).trans (hat.2 i x hi)
      · rw [← hfz i]; exact World.frozen?_setCell _ _ _ _
    obtain ⟨V, HV⟩ : ∃ V, Hid (w2.setCell ⟨q, 1, none⟩ (.slice (some ⟨g, 0, none⟩) (n + 1) cap) = V) := ⟨_, rfl⟩
    rw [HV.out] at MK0 ⊢
    clear c1 g2 g3 HOA HOW HBQ BAL BAQ HBS HO2 HQ2 B2 HV hfz hat hgB HRC
    obtain ⟨p0, p1, p2⟩ := SX.out V MK0.out.low
    have v1 := cell_of_row _ _ 1 _ _ _ MK0.out.box
    have vf := frozen_of_row _ _ 1 _ _ MK0.out.box
    have u0 : (0 : Int) ≤ n := by omega
    have u1 : (n : Int) ≤ cap := by omega
    go_upto_region 8 with fail
    have MK1 : Hid (Mk p q g cap W old note n (pf ++ [markB]) (V.setCell ⟨q, 1, none⟩ (.slice (some ⟨g, 0, none⟩) n cap))) := Mk.cut MK0.out n
    have HL1 : Hid ((pf ++ [markB]).length = n + 1) := by show _ = _; rw [List.length_append, HN.out]; rfl
    have HM1 : Hid ((pf ++ [markB])[n]? = some markB) := by show _ = _; rw [← HN.out, List.getElem?_append_right (Nat.le_refl _), Nat.sub_self]; rfl
    clear p0 p1 p2 v1 vf MK0
    go_upto_region 9 with fail
    go_loopw [8] (fun i wr => ∃ (k : Nat) (row : List ByteArray), k ≤ n ∧ i = .int .i64 k ∧ Hid (row.length = n + 1) ∧ Hid (row[n]? = some markB) ∧ Hid (Mk p q g cap W old note n row wr)) (fun i _ => (n - intOf i).toNat)
    case atStart => exact ⟨0, _, Nat.zero_le _, rfl, HL1.out, HM1.out, MK1.out⟩
    case round =>
      clear HL1 HM1 MK1
      obtain ⟨k, row, hk, rfl, HLR, HMR, HMK⟩ := hrel
      by_cases hlt : k < n
      · have hlt' : (k : Int) < n := by omega
        have hlt2 : (k : Int) < (n : Int) + 1 := by omega
        have hkr : k < row.length := by rw [HLR.out]; omega
        have x0 := HMK.out.ats.2 k _ (List.getElem?_eq_getElem hkr)
        have x1 := HMK.out.fz k
        have MS : Hid (∀ x, Mk p q g cap W old note n (row.set k x) (wr.setCell ⟨g, k, none⟩ (.string x))) := fun x => HMK.out.set k x hkr
        have HLS : Hid (∀ x : ByteArray, (row.set k x).length = n + 1) := fun x => by rw [List.length_set]; exact HLR.out
        have HMS : Hid (∀ x : ByteArray, (row.set k x)[n]? = some markB) := fun x => by rw [List.getElem?_set_ne (by omega)]; exact HMR.out
        go_wp2
        go_roundw
        case rel => exact ⟨k + 1, _, by omega, by go_num, HLS.out _, HMS.out _, MS.out _⟩
        case measure => simp [intOf]; omega
      · have hlt' : ¬ (k : Int) < n := by omega
        obtain ⟨q0, q1, q2⟩ : _ ∧ _ ∧ _ := ⟨cell_of_row _ _ 0 _ _ _ HMK.out.box, cell_of_row _ _ 1 _ _ _ HMK.out.box, cell_of_row _ _ 2 _ _ _ HMK.out.box⟩
        have C1 : Hid (Calls _ _ _ _ _) := CA.out (row.take n) _ cap wr (by rw [List.length_take, HLR.out]; omega) (reads_cut HMK.out.ats (by rw [HLR.out]; omega)) HMK.out.low
        clear hk
        go_upto_region 13 with (go_at_call 5; refine C1.out.mono ?_; rintro e w5 ⟨rfl, hb5⟩; have MK5 : Hid (Mk p q g cap W old note n row w5) := HMK.out.later hb5; clear hb5)
        clear q0 q1 q2 C1 HMK hlt hlt'
        go_upto_region 14 with fail
        go_loopw [9] (fun i wr => ∃ (k : Nat) (row : List ByteArray), k ≤ n ∧ i = .int .i64 k ∧ Hid (row.length = n + 1) ∧ Hid (row[n]? = some markB) ∧ Hid (∀ j, j < k → row[j]? = pf[j]?) ∧ Hid (Mk p q g cap W old note n row wr)) (fun i _ => (n - intOf i).toNat)
        case atStart => exact ⟨0, _, Nat.zero_le _, rfl, HLR.out, HMR.out, (fun j hj => by omega), MK5.out⟩
        case round =>
          clear HLR HMR MK5
          obtain ⟨k, row, hk, rfl, HLR, HMR, HJR, HMK⟩ := hrel
          by_cases hlt : k < n
          · have hlt' : (k : Int) < n := by omega
            have hlt2 : (k : Int) < (n : Int) + 1 := by omega
            have hkr : k < row.length := by rw [HLR.out]; omega
            have hkp : k < pf.length := by rw [HN.out]; exact hlt
            obtain ⟨b', off', e1, hbw, r1⟩ := rd_at HRR.out k hkp
            subst e1
            obtain ⟨p0, p1, p2⟩ := SX.out wr HMK.out.low
            have r2 := ((FIN.out wr HMK.out.low).cell (p := ⟨b', off' + k, none⟩) hbw).trans r1
            obtain ⟨x, HX⟩ : ∃ x, Hid (pf[k]'hkp = x) := ⟨_, rfl⟩
            rw [HX.out] at r2
            have x0 := HMK.out.ats.2 k _ (List.getElem?_eq_getElem hkr)
            have x1 := HMK.out.fz k
            have MS : Hid (Mk p q g cap W old note n (row.set k x) (wr.setCell ⟨g, k, none⟩ (.string x))) := HMK.out.set k x hkr
            have HLS : Hid ((row.set k x).length = n + 1) := by show _ = _; rw [List.length_set]; exact HLR.out
            have HMS : Hid ((row.set k x)[n]? = some markB) := by show _ = _; rw [List.getElem?_set_ne (by omega)]; exact HMR.out
            have HJS : Hid (∀ j, j < k + 1 → (row.set k x)[j]? = pf[j]?) := fun j hj => by
              rcases Decidable.em (j = k) with rfl | hne
              · rw [List.getElem?_set_self hkr, List.getElem?_eq_getElem hkp, HX.out]
              · rw [List.getElem?_set_ne (fun e => hne e.symm)]; exact HJR.out j (by omega)
            clear r1 HX
            go_wp2
            go_roundw
            case rel => exact ⟨k + 1, _, by omega, by go_num, HLS.out, HMS.out, HJS.out, MS.out⟩
            case measure => simp [intOf]; omega
          · have hlt' : ¬ (k : Int) < n := by omega
            obtain rfl : k = n := by omega
            have HTK : Hid (row.take k = pf) := by
              show _ = _
              refine List.ext_getElem? fun j => ?_
              rw [List.getElem?_take]
              split
              · exact HJR.out j (by assumption)
              · rw [List.getElem?_eq_none (by rw [HN.out]; omega)]
            have RQ : Hid (∀ w', Below wr.heap.size wr w' → Reads w' (.slice (some ⟨g, 0, none⟩) k cap) pf) := fun w' h => by
              have := reads_cut (cap := cap) (HMK.out.later h).ats (m := k) (by rw [HLR.out]; omega)
              rwa [HTK.out] at this
            have C1 : Hid (Calls _ _ _ _ _) := CA.out pf _ cap wr HN.out (RQ.out wr (Below.refl _ _)) HMK.out.low
            obtain ⟨q0, q1, q2⟩ : _ ∧ _ ∧ _ := ⟨cell_of_row _ _ 0 _ _ _ HMK.out.box, cell_of_row _ _ 1 _ _ _ HMK.out.box, cell_of_row _ _ 2 _ _ _ HMK.out.box⟩
            obtain ⟨X, HXX⟩ : ∃ X, Hid (rqT old pf note = X) := ⟨_, rfl⟩
            obtain ⟨E, HEE⟩ : ∃ E, Hid (rqE old pf = E) := ⟨_, rfl⟩
            rw [HXX.out, HEE.out] at C1 CD
            have KQ : Hid (∀ w', Below wr.heap.size wr w' → Mk p q g cap W old note k row w') := fun w' h => HMK.out.later h
            clear hk hlt HTK HMK HJR
            go_upto_region 18 with (go_at_call 5; refine C1.out.mono ?_; rintro e w5 ⟨rfl, hb5⟩; have B5 : Hid (Below wr.heap.size wr w5) := hb5; clear hb5)
            clear q0 q1 q2 C1
            obtain ⟨p0, p1, p2⟩ := SX.out w5 (KQ.out w5 B5.out).low
            go_upto_region 19 with (go_at_call 8; refine (CD.out w5 (KQ.out w5 B5.out).low).mono ?_; rintro e w6 ⟨rfl, hb6⟩; have B6 : Hid (Below wr.heap.size wr w6) := B5.out.trans (hb6.mono B5.out.size); clear hb6)
            clear p0 p1 p2
            go_upto_region 20 with (go_at_call 6; refine (CB.out w6 (KQ.out w6 B6.out).low).mono ?_; rintro e w7 ⟨ho, hb7⟩; obtain ⟨aa, ac, rfl, ho7⟩ := asR_any ho; have B7 : Hid (Below wr.heap.size wr w7) := B6.out.trans (hb7.mono B6.out.size); have O7 : Hid (Reads w7 _ _) := own_reads ho7 rfl; clear hb7 ho ho7)
            obtain ⟨o, HO⟩ : ∃ o, Hid ((asV b).old = o) := ⟨_, rfl⟩
            obtain ⟨l, HL⟩ : ∃ l, Hid ((asV b).proof = l) := ⟨_, rfl⟩
            obtain ⟨t, HT⟩ : ∃ t, Hid ((asV b).note = t) := ⟨_, rfl⟩
            obtain ⟨F, HF⟩ : ∃ F, Hid (asF b = F) := ⟨_, rfl⟩
            rw [HL.out] at O7 HVL
            rw [HO.out, HL.out, HT.out, HF.out]
            obtain ⟨U, HU⟩ : ∃ U, Hid (w7.alloc (.cells #[.int .i64 o, .slice aa l.length ac, .string t] 24) = U) := ⟨_, rfl⟩
            have BU : Hid (Below w7.heap.size w7 U) := by rw [← HU.out]; exact (Below.refl _ _).alloc (Nat.le_refl _) _
            have SU : Hid (∀ w', Below (w7.heap.size + 1) U w' → w'.cell? ⟨w7.heap.size, 0, none⟩ = some (.int .i64 o) ∧ w'.cell? ⟨w7.heap.size, 1, none⟩ = some (.slice aa l.length ac) ∧ w'.cell? ⟨w7.heap.size, 2, none⟩ = some (.string t)) := by
              rw [← HU.out]; exact fun w' h => box3 w7 w' _ _ _ _ h
            have zU : Hid (w7.heap.size + 1 ≤ U.heap.size) := by show _ ≤ _; rw [← HU.out]; simp
            (try rw [HU.out])
            have B8 : Hid (Below wr.heap.size wr U) := B7.out.trans (BU.out.mono B7.out.size)
            go_upto_region 21 with (go_at_call 9; refine (CE.out U).mono ?_; rintro e w9 ⟨ho, hb9⟩; obtain ⟨da, dc, rfl, ho9⟩ := asR_any ho; have B9 : Hid (Below U.heap.size U w9) := hb9; have O9 : Hid (Reads w9 _ _) := own_reads ho9 rfl; clear hb9 ho ho9)
            rw [HL.out] at O9
            (try rw [HO.out, HL.out, HT.out, HF.out])
            obtain ⟨Y, HY⟩ : ∃ Y, Hid (w9.alloc (.cells #[.int .i64 o, .slice da l.length dc, .string t] 24) = Y) := ⟨_, rfl⟩
            have BY : Hid (Below w9.heap.size w9 Y) := by rw [← HY.out]; exact (Below.refl _ _).alloc (Nat.le_refl _) _
            have SY : Hid (∀ w', Below (w9.heap.size + 1) Y w' → w'.cell? ⟨w9.heap.size, 0, none⟩ = some (.int .i64 o) ∧ w'.cell? ⟨w9.heap.size, 1, none⟩ = some (.slice da l.length dc) ∧ w'.cell? ⟨w9.heap.size, 2, none⟩ = some (.string t)) := by
              rw [← HY.out]; exact fun w' h => box3 w9 w' _ _ _ _ h
            (try rw [HY.out])
            have BUY : Hid (Below U.heap.size U Y) := B9.out.trans (BY.out.mono B9.out.size)
            have BWY : Hid (Below wr.heap.size wr Y) := B8.out.trans (BUY.out.mono B8.out.size)
            have R1 : Hid (Reads Y (.slice aa l.length ac) l) := (O7.out.later BU.out).later BUY.out
            have R2 : Hid (Reads Y (.slice da l.length dc) l) := O9.out.later BY.out
            have CS : Hid (Calls _ _ _ _ _) := sameReqC o o l l t t aa da ac dc Y R1.out R2.out (by have := HVL.out; omega) (by have := HVL.out; omega)
            obtain ⟨x0, x1, x2⟩ := SU.out Y (BUY.out.mono zU.out)
            obtain ⟨y0, y1, y2⟩ := SY.out Y (Below.refl _ _)
            go_upto_region 22 with (go_at_call 7; refine CS.out.mono ?_; rintro e wA ⟨rfl, hbA⟩; have BA : Hid (Below wr.heap.size wr wA) := BWY.out.trans (hbA.mono BWY.out.size); clear hbA)
            clear x0 x1 x2 y0 y1 y2 CS R1 R2
            have MA : Hid (Mk p q g cap W old note k row wA) := KQ.out wA BA.out
            obtain ⟨p0, p1, p2⟩ := SX.out wA MA.out.low
            obtain ⟨q0, q1, q2⟩ : _ ∧ _ ∧ _ := ⟨cell_of_row _ _ 0 _ _ _ MA.out.box, cell_of_row _ _ 1 _ _ _ MA.out.box, cell_of_row _ _ 2 _ _ _ MA.out.box⟩
            have CS2 : Hid (Calls Tryd.prog 7 #[.agg #[.int .i64 old, .slice (some ⟨g, 0, none⟩) k cap, .string note], .agg #[.int .i64 old, .slice a k c, .string note]] wA fun e w' => e = .returned (.bool (decide (pf = pf) && decide (old = old) && decide (note = note))) ∧ Below wA.heap.size wA w') := by
              have h1 := RQ.out wA BA.out
              have h2 := HRW.out wA MA.out.low
              rw [← HN.out] at h1 h2 ⊢
              exact sameReqC old old pf pf note note _ _ _ _ wA h1 h2 (by rw [HN.out]; omega) (by rw [HN.out]; omega)
            go_upto_region 23 with (go_at_call 7; refine CS2.out.mono ?_; rintro e wB ⟨rfl, hbB⟩; have BB : Hid (Below wr.heap.size wr wB) := BA.out.trans (hbB.mono BA.out.size); clear hbB)
            clear p0 p1 p2 q0 q1 q2 CS2 MA
            have LB : Hid (Below (p + 1) W wB) := (KQ.out wB BB.out).low
            go_upto_region 24 with (go_at_call 10; refine (HRD.out wB (NW.out wB LB.out).out (MW.out wB LB.out).out).mono ?_; rintro e wC ⟨rfl, hbC⟩; have BC : Hid (Below wr.heap.size wr wC) := BB.out.trans (hbC.mono BB.out.size); clear hbC)
            have MC : Hid (Mk p q g cap W old note k row wC) := KQ.out wC BC.out
            have xm := MC.out.ats.2 k markB HMR.out
            have hxx : (X.toList == X.toList) = true := by simp
            have hee : (E == E) = true := beq_iff_eq.2 rfl
            have hff : (F == F) = true := beq_iff_eq.2 rfl
            have e1 : decide (l = l) = true := decide_eq_true rfl
            have e2 : decide (o = o) = true := decide_eq_true rfl
            have e3 : decide (t = t) = true := decide_eq_true rfl
            have e4 : decide (pf = pf) = true := decide_eq_true rfl
            have e5 : decide (old = old) = true := decide_eq_true rfl
            have e6 : decide (note = note) = true := decide_eq_true rfl
            have hkk : (k : Int) < (k : Int) + 1 := by omega
            have hk0 : (0 : Int) ≤ k := by omega
            have hmm : (markB.toList == [109, 97, 114, 107]) = true := by decide +kernel
            go_wp2
            go_ret
            exact ⟨rfl, FIN.out wC MC.out.low⟩
end Go.Proofs.YtpbapaghcabehaaDoor.d2
