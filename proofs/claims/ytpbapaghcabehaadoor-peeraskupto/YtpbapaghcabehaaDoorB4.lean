import Derived.Test.YtpbapaghcabehaaDoorB3
namespace Go.Proofs.YtpbapaghcabehaaDoor.b4
open Go.RowKit Go.PlainAid Go.Shelf
open Go.Proofs.YtpbapaghcabehaaDoor.tb Go.Proofs.YtpbapaghcabehaaDoor.tc Go.Proofs.YtpbapaghcabehaaDoor.th Go.Proofs.YtpbapaghcabehaaDoor.tj Go.Proofs.YtpbapaghcabehaaDoor.tk Go.Proofs.YtpbapaghcabehaaDoor.va Go.Proofs.YtpbapaghcabehaaDoor.vb Go.Proofs.YtpbapaghcabehaaDoor.vc Go.Proofs.YtpbapaghcabehaaDoor.wa Go.Proofs.YtpbapaghcabehaaDoor.wb Go.Proofs.YtpbapaghcabehaaDoor.kp Go.Proofs.YtpbapaghcabehaaDoor.a1 Go.Proofs.YtpbapaghcabehaaDoor.a2 Go.Proofs.YtpbapaghcabehaaDoor.b1 Go.Proofs.YtpbapaghcabehaaDoor.b2 Go.Proofs.YtpbapaghcabehaaDoor.b3
set_option linter.unusedVariables false

set_option maxHeartbeats 1600000 in
theorem sameTextsM (va vb : Value) (xs ys : List ByteArray) (w : World) (h1 : Reads w va xs) (h2 : Reads w vb ys) (hz : xs.length ≤ 140737488355328) (hy : ys.length ≤ 140737488355328) :
    Calls Tryd.prog 17 #[va, vb] w fun e w' => e = .returned (.bool (decide (xs = ys))) ∧ Below w.heap.size w w' := by
  obtain ⟨a, cap, rfl, h1⟩ := h1
  obtain ⟨a', cap', rfl, h2⟩ := h2
  by_cases hl : xs.length = ys.length
  · have hl' : ((xs.length : Int) == (ys.length : Int)) = true := by rw [beq_iff_eq]; omega
    rcases h1 with h0 | ⟨b, off, rfl, hc⟩
    · have e1 : xs = [] := List.length_eq_zero_iff.1 h0
      have e2 : ys = [] := List.length_eq_zero_iff.1 (by omega)
      subst e1 e2
      go_enter Tryd.func17, Tryd.ntmps17
      go_wp2
      go_loopw [5] (fun i wr => i = .int .i64 0 ∧ wr = w) (fun i _ => 0)
      case atStart => exact ⟨rfl, rfl⟩
      case round =>
        obtain ⟨rfl, rfl⟩ := hrel
        go_wp2
        go_ret
        exact ⟨rfl, Below.refl _ _⟩
    · rcases h2 with h0 | ⟨b', off', rfl, hc'⟩
      · have e2 : ys = [] := List.length_eq_zero_iff.1 h0
        have e1 : xs = [] := List.length_eq_zero_iff.1 (by omega)
        subst e1 e2
        clear hc
        go_enter Tryd.func17, Tryd.ntmps17
        go_wp2
        go_loopw [5] (fun i wr => i = .int .i64 0 ∧ wr = w) (fun i _ => 0)
        case atStart => exact ⟨rfl, rfl⟩
        case round =>
          obtain ⟨rfl, rfl⟩ := hrel
          go_wp2
          go_ret
          exact ⟨rfl, Below.refl _ _⟩
      · have HC : Hid (∀ i, i < xs.length → w.cell? ⟨b, off + i, none⟩ = some (.string (xs.getD i ByteArray.empty))) := hc
        have HC' : Hid (∀ i, i < ys.length → w.cell? ⟨b', off' + i, none⟩ = some (.string (ys.getD i ByteArray.empty))) := hc'
        clear hc hc'
        obtain ⟨D, HD⟩ : ∃ D, Hid (decide (xs = ys) = D) := ⟨_, rfl⟩
        rw [HD.out]
        obtain ⟨n, HN⟩ : ∃ n, Hid (xs.length = n) := ⟨_, rfl⟩
        have HM : Hid (ys.length = n) := hl.symm.trans HN.out
        rw [HN.out, HM.out] at hl'
        rw [HN.out] at HC hz
        rw [HM.out] at HC'
        rw [HN.out, HM.out]
        clear hl hy
        go_enter Tryd.func17, Tryd.ntmps17
        go_wp2
        go_loopw [5] (fun i wr => ∃ k : Nat, k ≤ n ∧ i = .int .i64 k ∧ Hid ((∀ j, j < k → xs.getD j ByteArray.empty = ys.getD j ByteArray.empty) ∧ Below w.heap.size w wr)) (fun i _ => (n - intOf i).toNat)
        case atStart => exact ⟨0, by omega, rfl, (fun j hj => by omega), Below.refl _ _⟩
        case round =>
          obtain ⟨k, hk, rfl, HL⟩ := hrel
          by_cases hlt : k < n
          · have hlt' : (k : Int) < n := by omega
            have c1 : wr.cell? ⟨b, off + k, none⟩ = some (.string (xs.getD k ByteArray.empty)) := (HL.out.2.cell (p := ⟨b, off + k, none⟩) (World.block_lt_of_cell? _ _ (HC.out k hlt))).trans (HC.out k hlt)
            have c2 : wr.cell? ⟨b', off' + k, none⟩ = some (.string (ys.getD k ByteArray.empty)) := (HL.out.2.cell (p := ⟨b', off' + k, none⟩) (World.block_lt_of_cell? _ _ (HC'.out k hlt))).trans (HC'.out k hlt)
            obtain ⟨X, HX⟩ : ∃ X, Hid (xs.getD k ByteArray.empty = X) := ⟨_, rfl⟩
            obtain ⟨Y, HY⟩ : ∃ Y, Hid (ys.getD k ByteArray.empty = Y) := ⟨_, rfl⟩
            rw [HX.out] at c1
            rw [HY.out] at c2
            by_cases he : X = Y
            · have hb : (X.toList == Y.toList) = true := by rw [he]; exact beq_self_eq_true _
              have HE : Hid (X = Y) := he
              clear he
              go_wp2_with fail
              go_quiet (fail)
              generalize hW : wr.drewN nq = wr2
              have HB3 : Hid (Below w.heap.size w wr2) := by subst hW; exact below_dN HL.out.2 nq
              clear hW
              go_wp2
              go_roundw
              case rel =>
                refine ⟨k + 1, by omega, by go_num, fun j hj => ?_, HB3.out⟩
                rcases Nat.lt_or_ge j k with h | h
                · exact HL.out.1 j h
                · obtain rfl : j = k := by omega
                  rw [HX.out, HY.out, HE.out]
              case measure => simp [intOf]; omega
            · have hb : (X.toList == Y.toList) = false := by rw [toList_bs]; exact decide_eq_false he
              have HF : Hid (D = false) := by
                show _ = _
                rw [← HD.out]
                refine decide_eq_false (fun e => he ?_)
                rw [← HX.out, ← HY.out, e]
              clear he
              go_wp2_with fail
              go_quiet (fail)
              generalize hW : wr.drewN nq = wr2
              have HB3 : Hid (Below w.heap.size w wr2) := by subst hW; exact below_dN HL.out.2 nq
              clear hW
              go_wp2
              go_ret
              exact ⟨by rw [HF.out]; rfl, HB3.out⟩
          · have hlt' : ¬ (k : Int) < n := by omega
            obtain rfl : k = n := by omega
            have HT : Hid (D = true) := by
              show _ = _
              rw [← HD.out]
              refine decide_eq_true ?_
              apply List.ext_getElem
              · rw [HN.out, HM.out]
              · intro j g1 g2
                have := HL.out.1 j (by rw [← HN.out]; exact g1)
                rw [List.getD_eq_getElem?_getD, List.getD_eq_getElem?_getD, List.getElem?_eq_getElem g1, List.getElem?_eq_getElem g2] at this
                exact this
            go_wp2
            go_ret
            exact ⟨by rw [HT.out]; rfl, HL.out.2⟩
  · have hl' : ((xs.length : Int) == (ys.length : Int)) = false := beq_eq_false_iff_ne.2 (by omega)
    have HD : Hid (decide (xs = ys) = false) := decide_eq_false (fun e => hl (by rw [e]))
    rw [HD.out]
    generalize xs.length = n at *
    generalize ys.length = m at *
    clear h1 h2
    go_enter Tryd.func17, Tryd.ntmps17
    go_wp2
    go_ret
    exact ⟨rfl, Below.refl _ _⟩
theorem own_reads {w : World} {B n c : Nat} {a : Option Addr} {xs : List ByteArray} (h : w.ownsRow B 9 1 (.slice a n c) n (xs.map Value.string)) (hl : xs.length = n) : Reads w (.slice a n c) xs := by
  subst hl
  rcases h.2 with ⟨e, h0⟩ | ⟨g, cap, cur, e, _, h3, h4, h5, h6, h7⟩
  · injection e with e1 _ e3
    exact ⟨a, c, rfl, .inl h0⟩
  · injection e with e1 _ e3
    refine ⟨a, c, rfl, .inr ⟨g, 0, e1, fun i hi => ?_⟩⟩
    rw [cell_of_row _ _ _ _ _ _ h3, Nat.zero_add]
    have hh : (cur.toList.take (xs.length * 1))[i]? = some (.string (xs.getD i ByteArray.empty)) := by
      rw [h7, List.getElem?_map, List.getElem?_eq_getElem hi, List.getD_eq_getElem?_getD, List.getElem?_eq_getElem hi]
      rfl
    rw [List.getElem?_take_of_lt (by omega)] at hh
    simpa using hh
-- what is asked of a request that was read
theorem fr_small (b : ByteArray) (r : Rq) (h : frP b = some r) : I64 r.old ∧ r.note.size ≤ b.size ∧ r.proof.length ≤ b.size + 1 := by
  refine ⟨fr_old b r h, ?_⟩
  unfold frP at h
  split at h
  · have h1 := cut_sizes b dbB
    have h2 := drop_size (cutA b dbB)
    have h3 := pc_len (dropOld (cutA b dbB))
    cases e : pcB (dropOld (cutA b dbB)) with
    | nil => rw [e] at h; cases h
    | cons x ls =>
      rw [e] at h h3
      by_cases hc : (∃ n, I64 n ∧ decS n = x) ∧ ∀ y ∈ ls, Acc64 (bs y)
      · rw [frN_yes x ls _ hc.1 hc.2] at h
        obtain rfl := Option.some.inj h
        simp only [List.length_cons] at h3
        simp only [List.length_map]
        omega
      · rw [frN_no x ls _ hc] at h; cases h
  · cases h
def asR (w w' : World) (o : Option Rq) (e : Ending) : Prop := match o with
  | some r => ∃ a c, e = .returned (.tuple #[.agg #[.int .i64 r.old, .slice a r.proof.length c, .string r.note], .int .i64 0]) ∧ w'.ownsRow w.heap.size 9 1 (.slice a r.proof.length c) r.proof.length (r.proof.map Value.string)
  | none => e = .returned (.tuple #[zeroR, .int .i64 13])
set_option maxHeartbeats 3200000 in
theorem askedC (b : ByteArray) (hs : b.size ≤ 1100000) (w : World) (N : Hid (NumW w)) (M : Hid (MaxW w)) :
    Calls Tryd.prog 6 #[.string b] w fun e w' => asR w w' (asP b) e ∧ Below w.heap.size w w' := by
  obtain ⟨W, HW⟩ : ∃ W, Hid (w.alloc (.cells #[.int .i64 0, .slice none 0 0, .string ⟨#[]⟩] 24) = W) := ⟨_, rfl⟩
  have BW : Hid (Below w.heap.size w W) := by rw [← HW.out]; exact (Below.refl _ _).alloc (Nat.le_refl _) _
  have HBK : Hid (W.heap[w.heap.size]? = some (.cells #[.int .i64 0, .slice none 0 0, .string ⟨#[]⟩] 24 (0, 0))) := by rw [← HW.out]; exact heap_alloc_new w _
  have zW : Hid (w.heap.size + 1 ≤ W.heap.size) := by show _ ≤ _; rw [← HW.out]; simp
  have C1 : Hid (Calls _ _ _ _ _) := fromTextC b hs W (N.out.down BW.out) (M.out.down BW.out)
  obtain ⟨p, HP⟩ : ∃ p, Hid (w.heap.size = p) := ⟨_, rfl⟩
  have FIN : Hid (∀ w', Below p W w' → Below w.heap.size w w') := fun w' h => by rw [HP.out] at BW ⊢; exact BW.out.trans h
  rw [HP.out] at HBK zW
  have NW : Hid (∀ w', Below (p + 1) W w' → NumW w') := fun w' h => N.out.down (FIN.out w' (h.mono (Nat.le_succ p)))
  have BK : Hid (∀ w', Below (p + 1) W w' → w'.heap[p]? = some (.cells #[.int .i64 0, .slice none 0 0, .string ⟨#[]⟩] 24 (0, 0))) := fun w' h => (h.block p (Nat.lt_succ_self _)).trans HBK.out
  cases hf : frP b with
  | none =>
    rw [as_none b hf]
    rw [hf] at C1
    clear hf
    go_enter Tryd.func6, Tryd.ntmps6
    go_wp2_with fail
    rw [HW.out]
    go_wp2_with fail
    refine C1.out.mono ?_
    rintro e w3 ⟨rfl, hb1⟩
    have B3 : Hid (Below (p + 1) W w3) := hb1.mono zW.out
    have B4 : Hid (Below (p + 1) W (w3.alloc (.cells #[.int .i64 0, .slice none 0 0, .string ⟨#[]⟩] 24))) := B3.out.alloc (Nat.le_trans zW.out hb1.size) _
    clear hb1
    unfold zeroR
    have hbk := BK.out _ B4.out
    have FZ : Hid (∀ W', W' = _ → _) := put3 (w3.alloc (.cells #[.int .i64 0, .slice none 0 0, .string ⟨#[]⟩] 24)) p _ _ _ (.int .i64 0) (.slice none 0 0) (.string ⟨#[]⟩) _ hbk
    have c0 := cell_of_row _ _ 0 _ _ _ hbk
    have c1 := cell_of_row _ _ 1 _ _ _ hbk
    have c2 := cell_of_row _ _ 2 _ _ _ hbk
    have f0 := frozen_of_row _ _ 0 _ _ hbk
    have f1 := frozen_of_row _ _ 1 _ _ hbk
    have f2 := frozen_of_row _ _ 2 _ _ hbk
    rw [HP.out]
    go_wp2
    obtain ⟨⟨d0, d1, d2⟩, hbl⟩ := FZ.out _ rfl
    exact bodyPost_ret (v := .tuple #[.agg #[.int .i64 0, .slice none 0 0, .string ⟨#[]⟩], .int .i64 13]) (by simp [results, Tryd.results6, go_sem, d0, d1, d2]) rfl ⟨rfl, FIN.out _ ((B4.out.mono (Nat.le_succ p)).trans (hbl _ (Nat.le_refl _)))⟩
  | some r =>
    obtain ⟨hI, zn, zl⟩ := fr_small b r hf
    have HYES : Hid (rqE r.old r.proof = 0 → rqT r.old r.proof r.note = b → asP b = some r) := fun h1 h2 => as_some b r hf h1 h2
    have HNO : Hid (¬ (rqE r.old r.proof = 0 ∧ rqT r.old r.proof r.note = b) → asP b = none) := fun h => as_no b r hf h
    rw [hf] at C1
    obtain ⟨old, pf, note⟩ := r
    simp only at hI zn zl HYES HNO
    obtain ⟨E, HE⟩ : ∃ E, Hid (rqE old pf = E) := ⟨_, rfl⟩
    obtain ⟨T, HT⟩ : ∃ T, Hid (rqT old pf note = T) := ⟨_, rfl⟩
    obtain ⟨R, HR⟩ : ∃ R, Hid (asP b = R) := ⟨_, rfl⟩
    rw [HE.out, HT.out, HR.out] at HYES HNO
    rw [HR.out]
    have C2 : Hid (∀ w a c, NumW w → Reads w (.slice a pf.length c) pf → Calls _ _ _ _ _) := fun w a c h1 h2 => askC old pf note a c w hI (by omega) h2 (by omega) h1
    rw [HE.out, HT.out] at C2
    obtain ⟨n, HN⟩ : ∃ n, Hid (pf.length = n) := ⟨_, rfl⟩
    have HQT := toList_bs T b
    clear hf hI zn zl hs
    have hcs : (E = 0 ∧ T = b) ∨ E ≠ 0 ∨ (E = 0 ∧ T ≠ b) := by
      by_cases h1 : E = 0
      · by_cases h2 : T = b
        · exact .inl ⟨h1, h2⟩
        · exact .inr (.inr ⟨h1, h2⟩)
      · exact .inr (.inl h1)
    rcases hcs with ⟨h1, h2⟩ | h1 | ⟨h1, h2⟩
    · have HRR : Hid (R = some ⟨old, pf, note⟩) := HYES.out h1 h2
      rw [decide_eq_true h2] at HQT
      subst h1
      clear h2
      go_enter Tryd.func6, Tryd.ntmps6
      go_wp2_with fail
      rw [HW.out]
      go_wp2_with fail
      refine C1.out.mono ?_
      rintro e w1 ⟨⟨a, c, rfl, ho⟩, hb1⟩
      have O1 : Hid (w1.ownsRow W.heap.size 9 1 (.slice a n c) n (pf.map Value.string)) := by rw [← HN.out]; exact ho
      have B1 : Hid (Below W.heap.size W w1) := hb1
      have R1 : Hid (Reads w1 (.slice a pf.length c) pf) := own_reads ho rfl
      clear hb1 ho
      obtain ⟨V, HV⟩ : ∃ V, Hid (w1.alloc (.cells #[.int .i64 old, .slice a pf.length c, .string note] 24) = V) := ⟨_, rfl⟩
      have BV : Hid (Below w1.heap.size w1 V) := by rw [← HV.out]; exact (Below.refl _ _).alloc (Nat.le_refl _) _
      have SV : Hid (∀ w', Below (w1.heap.size + 1) V w' → w'.cell? ⟨w1.heap.size, 0, none⟩ = some (.int .i64 old) ∧ w'.cell? ⟨w1.heap.size, 1, none⟩ = some (.slice a pf.length c) ∧ w'.cell? ⟨w1.heap.size, 2, none⟩ = some (.string note)) := by
        rw [← HV.out]; exact fun w' h => box3 w1 w' _ _ _ _ h
      have zV : Hid (w1.heap.size + 1 ≤ V.heap.size) := by show _ ≤ _; rw [← HV.out]; simp
      have BVW : Hid (Below (p + 1) W V) := (B1.out.mono zW.out).trans (BV.out.mono (Nat.le_trans zW.out B1.out.size))
      have CA : Hid (Calls _ _ _ _ _) := C2.out V a c (NW.out V BVW.out) (R1.out.later BV.out)
      have OV : Hid (V.ownsRow W.heap.size 9 1 (.slice a n c) n (pf.map Value.string)) := own_below O1.out BV.out
      have zqW : Hid (p + 1 ≤ w1.heap.size) := Nat.le_trans zW.out B1.out.size
      obtain ⟨q, HQ⟩ : ∃ q, Hid (w1.heap.size = q) := ⟨_, rfl⟩
      rw [HQ.out] at SV zV zqW
      rw [HN.out] at SV CA HV
      obtain ⟨v0, v1, v2⟩ := SV.out V (Below.refl _ _)
      rw [← HV.out] at v0 v1 v2
      rw [HN.out, HP.out]
      clear R1
      go_wp2_with fail
      rw [HV.out]
      clear v0 v1 v2
      refine CA.out.mono ?_
      rintro e w4 ⟨rfl, hb4⟩
      have B4 : Hid (Below (p + 1) W w4) := BVW.out.trans (hb4.mono (Nat.le_trans zqW.out (Nat.le_trans (Nat.le_succ q) zV.out)))
      have O4 : Hid (w4.ownsRow W.heap.size 9 1 (.slice a n c) n (pf.map Value.string)) := own_below OV.out hb4
      obtain ⟨v0, v1, v2⟩ := SV.out w4 (hb4.mono zV.out)
      rw [HQ.out]
      clear hb4
      have hbk := BK.out w4 B4.out
      have FZ : Hid (∀ W', W' = _ → _) := put3 w4 p _ _ _ (.int .i64 old) (.slice a n c) (.string note) _ hbk
      have FO : Hid (∀ W', W' = ((w4.setCell ⟨p, 0, none⟩ (.int .i64 old)).setCell ⟨p, 1, none⟩ (.slice a n c)).setCell ⟨p, 2, none⟩ (.string note) → W'.ownsRow p 9 1 (.slice a n c) n (pf.map Value.string)) := by
        have hp : p < W.heap.size := Nat.lt_of_succ_le zW.out
        rintro _ rfl
        exact own_mono (own_set (own_set (own_set O4.out hp) hp) hp) (Nat.le_of_lt hp)
      have c0 := cell_of_row _ _ 0 _ _ _ hbk
      have c1 := cell_of_row _ _ 1 _ _ _ hbk
      have c2 := cell_of_row _ _ 2 _ _ _ hbk
      have f0 := frozen_of_row _ _ 0 _ _ hbk
      have f1 := frozen_of_row _ _ 1 _ _ hbk
      have f2 := frozen_of_row _ _ 2 _ _ hbk
      go_wp2
      have hfo := FO.out _ rfl
      obtain ⟨⟨d0, d1, d2⟩, hbl⟩ := FZ.out _ rfl
      refine bodyPost_ret (v := .tuple #[.agg #[.int .i64 old, .slice a n c, .string note], .int .i64 0]) (by simp [results, Tryd.results6, go_sem, d0, d1, d2]) rfl ⟨?_, FIN.out _ ((B4.out.mono (Nat.le_succ p)).trans (hbl _ (Nat.le_refl _)))⟩
      rw [HRR.out]
      exact ⟨a, c, by rw [HN.out], by rw [HN.out, HP.out]; exact hfo⟩
    · have HRR : Hid (R = none) := HNO.out (fun h => h1 h.1)
      clear HQT
      go_enter Tryd.func6, Tryd.ntmps6
      go_wp2_with fail
      rw [HW.out]
      go_wp2_with fail
      refine C1.out.mono ?_
      rintro e w1 ⟨⟨a, c, rfl, ho⟩, hb1⟩
      have O1 : Hid (w1.ownsRow W.heap.size 9 1 (.slice a n c) n (pf.map Value.string)) := by rw [← HN.out]; exact ho
      have B1 : Hid (Below W.heap.size W w1) := hb1
      have R1 : Hid (Reads w1 (.slice a pf.length c) pf) := own_reads ho rfl
      clear hb1 ho
      obtain ⟨V, HV⟩ : ∃ V, Hid (w1.alloc (.cells #[.int .i64 old, .slice a pf.length c, .string note] 24) = V) := ⟨_, rfl⟩
      have BV : Hid (Below w1.heap.size w1 V) := by rw [← HV.out]; exact (Below.refl _ _).alloc (Nat.le_refl _) _
      have SV : Hid (∀ w', Below (w1.heap.size + 1) V w' → w'.cell? ⟨w1.heap.size, 0, none⟩ = some (.int .i64 old) ∧ w'.cell? ⟨w1.heap.size, 1, none⟩ = some (.slice a pf.length c) ∧ w'.cell? ⟨w1.heap.size, 2, none⟩ = some (.string note)) := by
        rw [← HV.out]; exact fun w' h => box3 w1 w' _ _ _ _ h
      have zV : Hid (w1.heap.size + 1 ≤ V.heap.size) := by show _ ≤ _; rw [← HV.out]; simp
      have BVW : Hid (Below (p + 1) W V) := (B1.out.mono zW.out).trans (BV.out.mono (Nat.le_trans zW.out B1.out.size))
      have CA : Hid (Calls _ _ _ _ _) := C2.out V a c (NW.out V BVW.out) (R1.out.later BV.out)
      have OV : Hid (V.ownsRow W.heap.size 9 1 (.slice a n c) n (pf.map Value.string)) := own_below O1.out BV.out
      have zqW : Hid (p + 1 ≤ w1.heap.size) := Nat.le_trans zW.out B1.out.size
      obtain ⟨q, HQ⟩ : ∃ q, Hid (w1.heap.size = q) := ⟨_, rfl⟩
      rw [HQ.out] at SV zV zqW
      rw [HN.out] at SV CA HV
      obtain ⟨v0, v1, v2⟩ := SV.out V (Below.refl _ _)
      rw [← HV.out] at v0 v1 v2
      rw [HN.out, HP.out]
      clear R1
      go_wp2_with fail
      rw [HV.out]
      clear v0 v1 v2
      refine CA.out.mono ?_
      rintro e w4 ⟨rfl, hb4⟩
      have B4 : Hid (Below (p + 1) W w4) := BVW.out.trans (hb4.mono (Nat.le_trans zqW.out (Nat.le_trans (Nat.le_succ q) zV.out)))
      have O4 : Hid (w4.ownsRow W.heap.size 9 1 (.slice a n c) n (pf.map Value.string)) := own_below OV.out hb4
      obtain ⟨v0, v1, v2⟩ := SV.out w4 (hb4.mono zV.out)
      rw [HQ.out]
      clear hb4
      have hbk := BK.out w4 B4.out
      have FZ : Hid (∀ W', W' = _ → _) := put3 w4 p _ _ _ (.int .i64 0) (.slice none 0 0) (.string ⟨#[]⟩) _ hbk
      have c0 := cell_of_row _ _ 0 _ _ _ hbk
      have c1 := cell_of_row _ _ 1 _ _ _ hbk
      have c2 := cell_of_row _ _ 2 _ _ _ hbk
      have f0 := frozen_of_row _ _ 0 _ _ hbk
      have f1 := frozen_of_row _ _ 1 _ _ hbk
      have f2 := frozen_of_row _ _ 2 _ _ hbk
      go_wp2
      obtain ⟨⟨d0, d1, d2⟩, hbl⟩ := FZ.out _ rfl
      exact bodyPost_ret (v := .tuple #[.agg #[.int .i64 0, .slice none 0 0, .string ⟨#[]⟩], .int .i64 13]) (by simp [results, Tryd.results6, go_sem, d0, d1, d2]) rfl ⟨by rw [HRR.out]; rfl, FIN.out _ ((B4.out.mono (Nat.le_succ p)).trans (hbl _ (Nat.le_refl _)))⟩
    · have HRR : Hid (R = none) := HNO.out (fun h => h2 h.2)
      rw [decide_eq_false h2] at HQT
      subst h1
      clear h2
      go_enter Tryd.func6, Tryd.ntmps6
      go_wp2_with fail
      rw [HW.out]
      go_wp2_with fail
      refine C1.out.mono ?_
      rintro e w1 ⟨⟨a, c, rfl, ho⟩, hb1⟩
      have O1 : Hid (w1.ownsRow W.heap.size 9 1 (.slice a n c) n (pf.map Value.string)) := by rw [← HN.out]; exact ho
      have B1 : Hid (Below W.heap.size W w1) := hb1
      have R1 : Hid (Reads w1 (.slice a pf.length c) pf) := own_reads ho rfl
      clear hb1 ho
      obtain ⟨V, HV⟩ : ∃ V, Hid (w1.alloc (.cells #[.int .i64 old, .slice a pf.length c, .string note] 24) = V) := ⟨_, rfl⟩
      have BV : Hid (Below w1.heap.size w1 V) := by rw [← HV.out]; exact (Below.refl _ _).alloc (Nat.le_refl _) _
      have SV : Hid (∀ w', Below (w1.heap.size + 1) V w' → w'.cell? ⟨w1.heap.size, 0, none⟩ = some (.int .i64 old) ∧ w'.cell? ⟨w1.heap.size, 1, none⟩ = some (.slice a pf.length c) ∧ w'.cell? ⟨w1.heap.size, 2, none⟩ = some (.string note)) := by
        rw [← HV.out]; exact fun w' h => box3 w1 w' _ _ _ _ h
      have zV : Hid (w1.heap.size + 1 ≤ V.heap.size) := by show _ ≤ _; rw [← HV.out]; simp
      have BVW : Hid (Below (p + 1) W V) := (B1.out.mono zW.out).trans (BV.out.mono (Nat.le_trans zW.out B1.out.size))
      have CA : Hid (Calls _ _ _ _ _) := C2.out V a c (NW.out V BVW.out) (R1.out.later BV.out)
      have OV : Hid (V.ownsRow W.heap.size 9 1 (.slice a n c) n (pf.map Value.string)) := own_below O1.out BV.out
      have zqW : Hid (p + 1 ≤ w1.heap.size) := Nat.le_trans zW.out B1.out.size
      obtain ⟨q, HQ⟩ : ∃ q, Hid (w1.heap.size = q) := ⟨_, rfl⟩
      rw [HQ.out] at SV zV zqW
      rw [HN.out] at SV CA HV
      obtain ⟨v0, v1, v2⟩ := SV.out V (Below.refl _ _)
      rw [← HV.out] at v0 v1 v2
      rw [HN.out, HP.out]
      clear R1
      go_wp2_with fail
      rw [HV.out]
      clear v0 v1 v2
      refine CA.out.mono ?_
      rintro e w4 ⟨rfl, hb4⟩
      have B4 : Hid (Below (p + 1) W w4) := BVW.out.trans (hb4.mono (Nat.le_trans zqW.out (Nat.le_trans (Nat.le_succ q) zV.out)))
      have O4 : Hid (w4.ownsRow W.heap.size 9 1 (.slice a n c) n (pf.map Value.string)) := own_below OV.out hb4
      obtain ⟨v0, v1, v2⟩ := SV.out w4 (hb4.mono zV.out)
      rw [HQ.out]
      clear hb4
      have hbk := BK.out w4 B4.out
      have FZ : Hid (∀ W', W' = _ → _) := put3 w4 p _ _ _ (.int .i64 0) (.slice none 0 0) (.string ⟨#[]⟩) _ hbk
      have c0 := cell_of_row _ _ 0 _ _ _ hbk
      have c1 := cell_of_row _ _ 1 _ _ _ hbk
      have c2 := cell_of_row _ _ 2 _ _ _ hbk
      have f0 := frozen_of_row _ _ 0 _ _ hbk
      have f1 := frozen_of_row _ _ 1 _ _ hbk
      have f2 := frozen_of_row _ _ 2 _ _ hbk
      go_wp2
      obtain ⟨⟨d0, d1, d2⟩, hbl⟩ := FZ.out _ rfl
      exact bodyPost_ret (v := .tuple #[.agg #[.int .i64 0, .slice none 0 0, .string ⟨#[]⟩], .int .i64 13]) (by simp [results, Tryd.results6, go_sem, d0, d1, d2]) rfl ⟨by rw [HRR.out]; rfl, FIN.out _ ((B4.out.mono (Nat.le_succ p)).trans (hbl _ (Nat.le_refl _)))⟩
end Go.Proofs.YtpbapaghcabehaaDoor.b4
