import Derived.Test.YtgioekepoebibaaQf
import Derived.Deep.LoopGhost
import Derived.Laws.EntriesVeiled
import Derived.Shelf.Abstract
namespace Go.Proofs.Ytgioekepoebibaa.qg
open Go.RowKit Go.PlainAid Go.Shelf
open Go.Proofs.Ytgioekepoebibaa.na Go.Proofs.Ytgioekepoebibaa.nb Go.Proofs.Ytgioekepoebibaa.pa Go.Proofs.Ytgioekepoebibaa.pd Go.Proofs.Ytgioekepoebibaa.pe Go.Proofs.Ytgioekepoebibaa.ra Go.Proofs.Ytgioekepoebibaa.rb Go.Proofs.Ytgioekepoebibaa.ri Go.Proofs.Ytgioekepoebibaa.qa Go.Proofs.Ytgioekepoebibaa.qb Go.Proofs.Ytgioekepoebibaa.qd Go.Proofs.Ytgioekepoebibaa.qe Go.Proofs.Ytgioekepoebibaa.qf
set_option linter.unusedVariables false
set_option linter.unusedSimpArgs false

def codes : List Int := [12, 130, 12, 110, 10, 121, 12, 111, 131]
def fns : List Nat := [59, 60, 61, 62, 63, 64, 65, 67, 68]
def fcs : Array Value := #[.int .i64 12, .func (.func 59) #[] #[], .int .i64 130, .func (.func 60) #[] #[], .int .i64 12, .func (.func 61) #[] #[], .int .i64 110, .func (.func 62) #[] #[], .int .i64 10, .func (.func 63) #[] #[], .int .i64 121, .func (.func 64) #[] #[], .int .i64 12, .func (.func 65) #[] #[], .int .i64 111, .func (.func 67) #[] #[], .int .i64 131, .func (.func 68) #[] #[]]
set_option maxHeartbeats 1600000 in
theorem faultsC (w : World) : Calls Try.prog 34 #[] w fun e w' => e = .returned (.slice (some ⟨w.heap.size, 0, none⟩) 9 9) ∧ w' = w.alloc (.cells fcs 69) := by
  unfold fcs
  go_enter Try.func34, Try.ntmps34
  go_wp2
  go_ret
  exact ⟨rfl, rfl⟩
-- the nine tests
def tst (b : ByteArray) : Nat → Bool
  | 0 => b.toList == []
  | 1 => fM b != 165
  | 2 => decide ((b.size : Int) < 14)
  | 3 => !decide (1 ≤ fK b ∧ fK b ≤ 255)
  | 4 => decide (9223372036854775807 < fN b)
  | 5 => decide (524288 < (fL b : Int))
  | 6 => decide ((b.size : Int) < 14 + (fL b : Int) + 4)
  | 7 => decide (14 + (fL b : Int) + 4 < (b.size : Int))
  | 8 => fU b != (crcF (b.extract 0 (b.size - 4)) : Nat)
  | _ => false
theorem empty_tst (b : ByteArray) : (b.toList == []) = decide (b.size = 0) := by
  rw [ByteArray.toList_eq]
  have h : b.data.toList.length = b.size := Array.length_toList
  by_cases hz : b.size = 0
  · rw [decide_eq_true hz]
    have : b.data.toList = [] := List.length_eq_zero_iff.1 (by omega)
    rw [this]; rfl
  · rw [decide_eq_false hz, beq_eq_false_iff_ne]
    intro e
    rw [e] at h
    simp at h
    omega
def chk (b : ByteArray) : Int := if tst b 0 then 12 else if tst b 1 then 130 else if tst b 2 then 12 else if tst b 3 then 110 else if tst b 4 then 10 else if tst b 5 then 121 else if tst b 6 then 12 else if tst b 7 then 111 else if tst b 8 then 131 else 0
theorem if_eq {p : Prop} [Decidable p] {x : Bool} {a b c : Int} (h : x = decide p) (g : ¬ p → b = c) : (if x then a else b) = (if p then a else c) := by
  subst h
  by_cases hp : p
  · simp [hp]
  · simp [hp]; exact g hp
theorem chk_is (b : ByteArray) : chk b = parseE b := by
  unfold chk parseE
  refine if_eq (by rw [tst, empty_tst]) fun h0 => ?_
  refine if_eq (by rw [tst, fM_is b (by omega)]; by_cases h : bt b 0 = 165 <;> simp [h]) fun h1 => ?_
  refine if_eq (by rw [tst]; apply decide_eq_decide.2; omega) fun h2 => ?_
  refine if_eq (by rw [tst, fK_is b (by omega), ← decide_not]; apply decide_eq_decide.2; have := bt_nonneg b 1; have := bt_le b 1; omega) fun h3 => ?_
  refine if_eq (by rw [tst, fN_is b (by omega)]) fun h4 => ?_
  refine if_eq (by rw [tst, fL_is b (by omega)]) fun h5 => ?_
  refine if_eq (by rw [tst, fL_is b (by omega)]; apply decide_eq_decide.2; omega) fun h6 => ?_
  refine if_eq (by rw [tst, fL_is b (by omega)]; apply decide_eq_decide.2; omega) fun h7 => ?_
  have hl := fL_is b (by omega)
  refine if_eq (by rw [tst, fU_is b (by omega)]; by_cases h : beR b (b.size - 4) 4 = (crcF (b.extract 0 (b.size - 4)) : Nat) <;> simp [h]) fun h8 => rfl
theorem chk_at (b : ByteArray) (k : Nat) (hk : k < 9) (hn : ∀ j, j < k → tst b j = false) (ht : tst b k = true) : chk b = codes.getD k 0 := by
  unfold chk
  have h0 : 0 < k → tst b 0 = false := hn 0
  have h1 : 1 < k → tst b 1 = false := hn 1
  have h2 : 2 < k → tst b 2 = false := hn 2
  have h3 : 3 < k → tst b 3 = false := hn 3
  have h4 : 4 < k → tst b 4 = false := hn 4
  have h5 : 5 < k → tst b 5 = false := hn 5
  have h6 : 6 < k → tst b 6 = false := hn 6
  have h7 : 7 < k → tst b 7 = false := hn 7
  have : k = 0 ∨ k = 1 ∨ k = 2 ∨ k = 3 ∨ k = 4 ∨ k = 5 ∨ k = 6 ∨ k = 7 ∨ k = 8 := by omega
  rcases this with rfl | rfl | rfl | rfl | rfl | rfl | rfl | rfl | rfl <;> simp_all [codes]
theorem chk_none (b : ByteArray) (hn : ∀ j, j < 9 → tst b j = false) : chk b = 0 := by
  unfold chk
  simp [hn 0, hn 1, hn 2, hn 3, hn 4, hn 5, hn 6, hn 7, hn 8]
theorem size_ok (b : ByteArray) (hn : ∀ j, j < 8 → tst b j = false) : 4 ≤ b.size := by
  have h := hn 2 (by omega)
  rw [tst] at h
  have := of_decide_eq_false h
  omega
theorem tstC (b : ByteArray) (k : Nat) (hk : k < 9) (hn : ∀ j, j < k → tst b j = false) (hs : b.size ≤ 281474976710656) (w : World) :
    Calls Try.prog (fns.getD k 0) #[.agg (frC b (fM b) (fK b) (fN b) (fL b) (fP b) (fU b))] w fun e w' => e = .returned (.bool (tst b k)) ∧ Below w.heap.size w w' := by
  have hl := fL_lt b
  have hkk := fK_rng b
  have : k = 0 ∨ k = 1 ∨ k = 2 ∨ k = 3 ∨ k = 4 ∨ k = 5 ∨ k = 6 ∨ k = 7 ∨ k = 8 := by omega
  rcases this with rfl | rfl | rfl | rfl | rfl | rfl | rfl | rfl | rfl
  · exact f1C _ _ _ _ _ _ _ w _ rfl
  · exact f2C _ _ _ _ _ _ _ w
  · exact f3C _ _ _ _ _ _ _ w
  · exact f4C _ _ _ _ _ _ _ w hkk.1 hkk.2
  · exact f5C _ _ _ _ _ _ _ w
  · exact f6C _ _ _ _ _ _ _ w
  · exact f7C _ _ _ _ _ _ _ w (by omega) (by omega)
  · exact f8C _ _ _ _ _ _ _ w (by omega) (by omega)
  · exact f9C _ _ _ _ _ _ _ w (size_ok b hn) hs
theorem fcs_at (k : Nat) (hk : k < 9) : fcs[k * 2]? = some (.int .i64 (codes.getD k 0)) ∧ fcs[k * 2 + 1]? = some (.func (.func (fns.getD k 0)) #[] #[]) := by
  have : k = 0 ∨ k = 1 ∨ k = 2 ∨ k = 3 ∨ k = 4 ∨ k = 5 ∨ k = 6 ∨ k = 7 ∨ k = 8 := by omega
  rcases this with rfl | rfl | rfl | rfl | rfl | rfl | rfl | rfl | rfl <;> exact ⟨rfl, rfl⟩
theorem fns_in (k : Nat) (hk : k < 9) : ∀ args w, (callFunc (fns.getD k 0) args).run Try.prog w = .ok (.enter (fns.getD k 0) args) w := by
  have : k = 0 ∨ k = 1 ∨ k = 2 ∨ k = 3 ∨ k = 4 ∨ k = 5 ∨ k = 6 ∨ k = 7 ∨ k = 8 := by omega
  rcases this with rfl | rfl | rfl | rfl | rfl | rfl | rfl | rfl | rfl
  · exact enters_of Try.func59 (by kernel_rfl) rfl
  · exact enters_of Try.func60 (by kernel_rfl) rfl
  · exact enters_of Try.func61 (by kernel_rfl) rfl
  · exact enters_of Try.func62 (by kernel_rfl) rfl
  · exact enters_of Try.func63 (by kernel_rfl) rfl
  · exact enters_of Try.func64 (by kernel_rfl) rfl
  · exact enters_of Try.func65 (by kernel_rfl) rfl
  · exact enters_of Try.func67 (by kernel_rfl) rfl
  · exact enters_of Try.func68 (by kernel_rfl) rfl
structure PW (w : World) (cs : Array Value) (g q : Nat) (w' : World) : Prop where
  f : w'.heap[g]? = some (.cells cs 63 (0, 0))
  t : w'.heap[q]? = some (.cells fcs 69 (0, 0))
  b : Below w.heap.size w w'
theorem PW.later {w : World} {cs : Array Value} {g q : Nat} {w1 w2 : World} (h : PW w cs g q w1) (k : Below w1.heap.size w1 w2) : PW w cs g q w2 := by
  have h1 := (Array.getElem?_eq_some_iff.1 h.f).1
  have h2 := (Array.getElem?_eq_some_iff.1 h.t).1
  exact ⟨(k.block _ (by omega)).trans h.f, (k.block _ (by omega)).trans h.t, over h.b k⟩
set_option maxRecDepth 100000 in
set_option maxHeartbeats 3200000 in
theorem parseC (b : ByteArray) (w : World) (hs : b.size ≤ 281474976710656) :
    Calls Try.prog 14 #[.string b] w fun e w' => e = .returned (.tuple #[.int .i64 (parseK b), .int .i64 (parseN b), .string (parseP b), .int .i64 (parseE b)]) ∧ Below w.heap.size w w' := by
  have CR : Hid (∀ w, Calls _ _ _ _ _) := fun w => readFrameC b w hs
  have CT : Hid (∀ k, k < 9 → (∀ j, j < k → tst b j = false) → ∀ w, Calls _ _ _ _ _) := fun k hk hn w => tstC b k hk hn hs w
  have hl := fL_lt b
  have hK := fK_rng b
  have hN := fN_rng b
  obtain ⟨m, HM⟩ : ∃ m, Hid (fM b = m) := ⟨_, rfl⟩
  obtain ⟨k, HK⟩ : ∃ k, Hid (fK b = k) := ⟨_, rfl⟩
  obtain ⟨n, HN⟩ : ∃ n, Hid (fN b = n) := ⟨_, rfl⟩
  obtain ⟨l, HL⟩ : ∃ l, Hid (fL b = l) := ⟨_, rfl⟩
  obtain ⟨p, HP⟩ : ∃ p, Hid (fP b = p) := ⟨_, rfl⟩
  obtain ⟨u, HU⟩ : ∃ u, Hid (fU b = u) := ⟨_, rfl⟩
  rw [HM.out, HK.out, HN.out, HL.out, HP.out, HU.out] at CR CT
  unfold frC at CR CT
  go_enter Try.func14, Try.ntmps14
  go_wp2_with fail
  refine (CR.out _).mono ?_
  rintro _ w1 ⟨rfl, b1⟩
  have B1 : Hid (Below w.heap.size w w1) := b1
  clear b1
  go_wp2_with fail
  refine (faultsC _).mono ?_
  rintro _ w2 ⟨rfl, hw⟩
  have P2 : Hid (PW w #[.string b, .int .u8 m, .int .u8 k, .int .u64 n, .int .u32 l, .string p, .int .u32 u] w1.heap.size (w1.heap.size + 1) w2) := by
    rw [hw]
    refine ⟨?_, ?_, ?_⟩
    · rw [heap_alloc_old _ _ (by simp)]; exact heap_alloc_new w1 _
    · exact heap_alloc2_new w1 _ _
    · exact (B1.out.alloc B1.out.size _).alloc (by have := B1.out.size; simp; omega) _
  clear hw
  go_wp2_with fail
  go_loopw [13] (fun i wr => ∃ t : Nat, t ≤ 9 ∧ i = .int .i64 t ∧ Hid (∀ j, j < t → tst b j = false) ∧ Hid (PW w #[.string b, .int .u8 m, .int .u8 k, .int .u64 n, .int .u32 l, .string p, .int .u32 u] w1.heap.size (w1.heap.size + 1) wr)) (fun i _ => (9 - intOf i).toNat)
  case atStart => exact ⟨0, by omega, rfl, fun j hj => by omega, P2.out⟩
  case round =>
    clear P2
    obtain ⟨t, ht, rfl, HT, PR⟩ := hrel
    have hg : w1.heap.size < wr.heap.size := (Array.getElem?_eq_some_iff.1 PR.out.f).1
    have hq : w1.heap.size + 1 < wr.heap.size := (Array.getElem?_eq_some_iff.1 PR.out.t).1
    obtain ⟨c0, c1, c2, c3, c4, c5, c6⟩ := cell7 PR.out.f
    by_cases h9 : t < 9
    · have h9' : (t : Int) < 9 := by omega
      obtain ⟨fa, fb⟩ := fcs_at t h9
      have ca : wr.cell? ⟨w1.heap.size + 1, t * 2, none⟩ = some (.int .i64 (codes.getD t 0)) := by rw [cell_of_row _ _ _ _ _ _ PR.out.t]; exact fa
      have cb : wr.cell? ⟨w1.heap.size + 1, t * 2 + 1, none⟩ = some (.func (.func (fns.getD t 0)) #[] #[]) := by rw [cell_of_row _ _ _ _ _ _ PR.out.t]; exact fb
      have CC : Hid (∀ w, Calls _ _ _ _ _) := fun w => CT.out t h9 HT.out w
      have eF := fns_in t h9
      have HE : Hid (tst b t = true → parseE b = codes.getD t 0) := fun h => by rw [← chk_is]; exact chk_at b t h9 HT.out h
      obtain ⟨x, HX⟩ : ∃ x, Hid (tst b t = x) := ⟨_, rfl⟩
      obtain ⟨F, HF⟩ : ∃ F, Hid (fns.getD t 0 = F) := ⟨_, rfl⟩
      obtain ⟨c, HC⟩ : ∃ c, Hid (codes.getD t 0 = c) := ⟨_, rfl⟩
      rw [HX.out] at CC HE
      rw [HF.out] at cb CC eF
      rw [HC.out] at ca HE
      clear fa fb
      have P3 : Hid (PW _ _ _ _ _) := PR.out.later (new_below wr (.cells #[.int .i64 c, .func (.func F) #[] #[]] 69))
      have H3 : Hid _ := heap_alloc_new wr (.cells #[.int .i64 c, .func (.func F) #[] #[]] 69)
      go_upto_region 5 with fail
      obtain ⟨wa, HW⟩ : ∃ x, x = wr.alloc (.cells #[.int .i64 c, .func (.func F) #[] #[]] 69) := ⟨_, rfl⟩
      rw [← HW] at P3 H3 ⊢
      clear HW c0 c1 c2 c3 c4 c5 c6 ca cb PR hg hq
      obtain ⟨c0, c1, c2, c3, c4, c5, c6⟩ := cell7 P3.out.f
      have cb : wa.cell? ⟨wr.heap.size, 1, none⟩ = some (.func (.func F) #[] #[]) := by rw [cell_of_row _ _ _ _ _ _ H3.out]; rfl
      go_wp2_with fail
      refine (CC.out _).mono ?_
      rintro _ wb ⟨rfl, bb⟩
      have P4 : Hid (PW _ _ _ _ _) := P3.out.later bb
      have cd : wb.cell? ⟨wr.heap.size, 0, none⟩ = some (.int .i64 c) := by
        rw [bb.cell (Array.getElem?_eq_some_iff.1 H3.out).1, cell_of_row _ _ _ _ _ _ H3.out]; rfl
      clear c0 c1 c2 c3 c4 c5 c6 cb bb
      cases x with
      | true =>
        have HE2 : Hid _ := HE.out rfl
        have HZ : Hid (parseE b ≠ 0) := by
          rw [HE2.out, ← HC.out]
          have : t = 0 ∨ t = 1 ∨ t = 2 ∨ t = 3 ∨ t = 4 ∨ t = 5 ∨ t = 6 ∨ t = 7 ∨ t = 8 := by omega
          show _ ≠ _
          rcases this with rfl | rfl | rfl | rfl | rfl | rfl | rfl | rfl | rfl <;> decide
        have HK2 : Hid (parseK b = 0 ∧ parseN b = 0 ∧ parseP b = ⟨#[]⟩) := ⟨by rw [parseK, if_neg HZ.out], by rw [parseN, if_neg HZ.out], by rw [parseP, if_neg HZ.out]; rfl⟩
        go_upto_region 6 with fail
        go_region
        go_wp2
        refine bodyPost_ret (by simp [results, Try.results14, go_sem]; try rfl) rfl ?_
        exact ⟨by rw [HK2.out.1, HK2.out.2.1, HK2.out.2.2, HE2.out], P4.out.b.drew⟩
      | false =>
        go_wp2
        go_roundw
        case rel => exact ⟨t + 1, by omega, by go_num, fun j hj => by rcases Nat.lt_or_ge j t with h | h; exact HT.out j h; rw [show j = t by omega]; exact HX.out, P4.out⟩
        case measure => simp [intOf]; omega
    · have h9' : ¬ (t : Int) < 9 := by omega
      obtain rfl : t = 9 := by omega
      have HE : Hid (parseE b = 0) := by show _ = _; rw [← chk_is]; exact chk_none b HT.out
      obtain ⟨h18, hb0, hb1, hb2, hb3, hb4, hb5⟩ := parse_ok b HE.out
      have hlb := fL_is b (by omega)
      have HV : Hid (parseK b = k ∧ parseN b = n ∧ parseP b = p ∧ n ≤ 9223372036854775807 ∧ 0 ≤ n ∧ 0 ≤ k ∧ k ≤ 255 ∧ p.size ≤ 524288) := by
        refine ⟨?_, ?_, ?_, ?_, ?_, ?_, ?_, ?_⟩
        · rw [parseK, if_pos HE.out, ← HK.out, fK_is b (by omega)]
        · rw [parseN, if_pos HE.out, ← HN.out, fN_is b (by omega)]
        · rw [parseP, if_pos HE.out, ← HP.out, fP_is b (by omega)]
        · rw [← HN.out, fN_is b (by omega)]; exact hb2
        · rw [← HN.out]; exact hN.1
        · rw [← HK.out]; exact hK.1
        · rw [← HK.out]; exact hK.2
        · rw [← HP.out]; have := (fP_size b).1; omega
      have hn1 := HV.out.2.2.2.1
      have hn0 := HV.out.2.2.2.2.1
      have hk0 := HV.out.2.2.2.2.2.1
      have hk1 := HV.out.2.2.2.2.2.2.1
      have CL : Hid (∀ w, Calls _ _ _ _ _) := fun w => cloneC p w (by have := HV.out.2.2.2.2.2.2.2; omega)
      have hw2 : IntKind.i64.wrap k = k := by rw [IntKind.wrap_i64]; omega
      have hw1 : IntKind.i64.wrap n = n := by rw [IntKind.wrap_i64]; omega
      have HH : Hid (∀ W, Below wr.drew.heap.size wr.drew W → Below w.heap.size w W ∧ W.cell? ⟨w1.heap.size, 2, none⟩ = some (.int .u8 k) ∧ W.cell? ⟨w1.heap.size, 3, none⟩ = some (.int .u64 n)) := fun W hb => by
        have h1 : w1.heap.size < wr.drew.heap.size := hg
        exact ⟨over PR.out.b.drew hb, by rw [hb.cell h1]; exact c2, by rw [hb.cell h1]; exact c3⟩
      clear h18 hb0 hb1 hb2 hb3 hb4 hb5 hlb hK hN
      go_upto_region 8 with fail
      go_region_with (go_at_call 35; refine (CL.out _).mono ?_; rintro _ w5 ⟨rfl, b5⟩; obtain ⟨B5, x2, x3⟩ := HH.out w5 b5; clear b5)
      all_goals
        go_wp2
        refine bodyPost_ret (by simp [results, Try.results14, go_sem]; try rfl) rfl ?_
        exact ⟨by rw [HV.out.1, HV.out.2.1, HV.out.2.2.1, HE.out], by first | exact B5.drew | exact B5⟩
end Go.Proofs.Ytgioekepoebibaa.qg
