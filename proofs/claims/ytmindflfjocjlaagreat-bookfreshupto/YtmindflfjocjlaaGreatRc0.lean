import Derived.Test.YtmindflfjocjlaaGreatRb0
import Derived.Deep.LoopGhost
import Derived.Laws.EntriesVeiled
import Derived.Shelf.Abstract
import Derived.Test.YtmindflfjocjlaaGreatQ13
import Derived.Test.YtmindflfjocjlaaGreatRa0
import Derived.OpenShut
import Derived.Test.YtmindflfjocjlaaGreatQ05
import Derived.Test.YtmindflfjocjlaaGreatQ04
namespace Go.Proofs.YtmindflfjocjlaaGreat.tqg
open Go.RowKit Go.PlainAid Go.Shelf
open Go.Proofs.YtmindflfjocjlaaGreat.na Go.Proofs.YtmindflfjocjlaaGreat.nb Go.Proofs.YtmindflfjocjlaaGreat.tpa Go.Proofs.YtmindflfjocjlaaGreat.tpd Go.Proofs.YtmindflfjocjlaaGreat.tpe Go.Proofs.YtmindflfjocjlaaGreat.tra Go.Proofs.YtmindflfjocjlaaGreat.trb Go.Proofs.YtmindflfjocjlaaGreat.tri Go.Proofs.YtmindflfjocjlaaGreat.tqa Go.Proofs.YtmindflfjocjlaaGreat.tqb Go.Proofs.YtmindflfjocjlaaGreat.tqd Go.Proofs.YtmindflfjocjlaaGreat.tqe Go.Proofs.YtmindflfjocjlaaGreat.tqf
set_option linter.unusedVariables false
set_option linter.unusedSimpArgs false

def codes : List Int := [12, 130, 12, 110, 10, 121, 12, 111, 131]
def fns : List Nat := [96, 97, 98, 99, 100, 101, 102, 104, 105]
def fcs : Array Value := #[.int .i64 12, .func (.func 96) #[] #[], .int .i64 130, .func (.func 97) #[] #[], .int .i64 12, .func (.func 98) #[] #[], .int .i64 110, .func (.func 99) #[] #[], .int .i64 10, .func (.func 100) #[] #[], .int .i64 121, .func (.func 101) #[] #[], .int .i64 12, .func (.func 102) #[] #[], .int .i64 111, .func (.func 104) #[] #[], .int .i64 131, .func (.func 105) #[] #[]]
set_option maxHeartbeats 1600000 in
theorem faultsC (w : World) : Calls Tryz.prog 82 #[] w fun e w' => e = .returned (.slice (some ⟨w.heap.size, 0, none⟩) 9 9) ∧ w' = w.alloc (.cells fcs 132) := by
  unfold fcs
  go_enter Tryz.func82, Tryz.ntmps82
  go_wp2
  go_ret
  exact ⟨rfl, rfl⟩
-- the nine tests
def tst (b : ByteArray) : Nat → Bool
  | 0 => b.toList == []
  | 1 => fM b != 165
  | 2 => decide ((b.size : Int) < 14)
  | 3 => !decide (1 ≤ fK b ∧ fK b ≤ 255)
  | 4 => decide (9223372036854775807 < fN b)
  | 5 => decide (524288 < (fL b : Int))
  | 6 => decide ((b.size : Int) < 14 + (fL b : Int) + 4)
  | 7 => decide (14 + (fL b : Int) + 4 < (b.size : Int))
  | 8 => fU b != (crcF (b.extract 0 (b.size - 4)) : Nat)
  | _ => false
theorem empty_tst (b : ByteArray) : (b.toList == []) = decide (b.size = 0) := by
  rw [ByteArray.toList_eq]
  have h : b.data.toList.length = b.size := Array.length_toList
  by_cases hz : b.size = 0
  · rw [decide_eq_true hz]
    have : b.data.toList = [] := List.length_eq_zero_iff.1 (by omega)
    rw [this]; rfl
  · rw [decide_eq_false hz, beq_eq_false_iff_ne]
    intro e
    rw [e] at h
    simp at h
    omega
def chk (b : ByteArray) : Int := if tst b 0 then 12 else if tst b 1 then 130 else if tst b 2 then 12 else if tst b 3 then 110 else if tst b 4 then 10 else if tst b 5 then 121 else if tst b 6 then 12 else if tst b 7 then 111 else if tst b 8 then 131 else 0
theorem if_eq {p : Prop} [Decidable p] {x : Bool} {a b c : Int} (h : x = decide p) (g : ¬ p → b = c) : (if x then a else b) = (if p then a else c) := by
  subst h
  by_cases hp : p
  · simp [hp]
  · simp [hp]; exact g hp
theorem chk_is (b : ByteArray) : chk b = parseE b := by
  unfold chk parseE
  refine if_eq (by rw [tst, empty_tst]) fun h0 => ?_
  refine if_eq (by rw [tst, fM_is b (by omega)]; by_cases h : bt b 0 = 165 <;> simp [h]) fun h1 => ?_
  refine if_eq (by rw [tst]; apply decide_eq_decide.2; omega) fun h2 => ?_
  refine if_eq (by rw [tst, fK_is b (by omega), ← decide_not]; apply decide_eq_decide.2; have := bt_nonneg b 1; have := bt_le b 1; omega) fun h3 => ?_
  refine if_eq (by rw [tst, fN_is b (by omega)]) fun h4 => ?_
  refine if_eq (by rw [tst, fL_is b (by omega)]) fun h5 => ?_
  refine if_eq (by rw [tst, fL_is b (by omega)]; apply decide_eq_decide.2; omega) fun h6 => ?_
  refine if_eq (by rw [tst, fL_is b (by omega)]; apply decide_eq_decide.2; omega) fun h7 => ?_
  have hl := fL_is b (by omega)
  refine if_eq (by rw [tst, fU_is b (by omega)]; by_cases h : beR b (b.size - 4) 4 = (crcF (b.extract 0 (b.size - 4)) : Nat) <;> simp [h]) fun h8 => rfl
theorem chk_at (b : ByteArray) (k : Nat) (hk : k < 9) (hn : ∀ j, j < k → tst b j = false) (ht : tst b k = true) : chk b = codes.getD k 0 := by
  unfold chk
  have h0 : 0 < k → tst b 0 = false := hn 0
  have h1 : 1 < k → tst b 1 = false := hn 1
  have h2 : 2 < k → tst b 2 = false := hn 2
  have h3 : 3 < k → tst b 3 = false := hn 3
  have h4 : 4 < k → tst b 4 = false := hn 4
  have h5 : 5 < k → tst b 5 = false := hn 5
  have h6 : 6 < k → tst b 6 = false := hn 6
  have h7 : 7 < k → tst b 7 = false := hn 7
  have : k = 0 ∨ k = 1 ∨ k = 2 ∨ k = 3 ∨ k = 4 ∨ k = 5 ∨ k = 6 ∨ k = 7 ∨ k = 8 := by omega
  rcases this with rfl | rfl | rfl | rfl | rfl | rfl | rfl | rfl | rfl <;> simp_all [codes]
theorem chk_none (b : ByteArray) (hn : ∀ j, j < 9 → tst b j = false) : chk b = 0 := by
  unfold chk
  simp [hn 0, hn 1, hn 2, hn 3, hn 4, hn 5, hn 6, hn 7, hn 8]
theorem size_ok (b : ByteArray) (hn : ∀ j, j < 8 → tst b j = false) : 4 ≤ b.size := by
  have h := hn 2 (by omega)
  rw [tst] at h
  have := of_decide_eq_false h
  omega
theorem tstC (b : ByteArray) (k : Nat) (hk : k < 9) (hn : ∀ j, j < k → tst b j = false) (hs : b.size ≤ 281474976710656) (w : World) :
    Calls Tryz.prog (fns.getD k 0) #[.agg (frC b (fM b) (fK b) (fN b) (fL b) (fP b) (fU b))] w fun e w' => e = .returned (.bool (tst b k)) ∧ Below w.heap.size w w' := by
  have hl := fL_lt b
  have hkk := fK_rng b
  have : k = 0 ∨ k = 1 ∨ k = 2 ∨ k = 3 ∨ k = 4 ∨ k = 5 ∨ k = 6 ∨ k = 7 ∨ k = 8 := by omega
  rcases this with rfl | rfl | rfl | rfl | rfl | rfl | rfl | rfl | rfl
  · exact f1C _ _ _ _ _ _ _ w _ rfl
  · exact f2C _ _ _ _ _ _ _ w
  · exact f3C _ _ _ _ _ _ _ w
  · exact f4C _ _ _ _ _ _ _ w hkk.1 hkk.2
  · exact f5C _ _ _ _ _ _ _ w
  · exact f6C _ _ _ _ _ _ _ w
  · exact f7C _ _ _ _ _ _ _ w (by omega) (by omega)
  · exact f8C _ _ _ _ _ _ _ w (by omega) (by omega)
  · exact f9C _ _ _ _ _ _ _ w (size_ok b hn) hs
theorem fcs_at (k : Nat) (hk : k < 9) : fcs[k * 2]? = some (.int .i64 (codes.getD k 0)) ∧ fcs[k * 2 + 1]? = some (.func (.func (fns.getD k 0)) #[] #[]) := by
  have : k = 0 ∨ k = 1 ∨ k = 2 ∨ k = 3 ∨ k = 4 ∨ k = 5 ∨ k = 6 ∨ k = 7 ∨ k = 8 := by omega
  rcases this with rfl | rfl | rfl | rfl | rfl | rfl | rfl | rfl | rfl <;> exact ⟨rfl, rfl⟩
theorem fns_in (k : Nat) (hk : k < 9) : ∀ args w, (callFunc (fns.getD k 0) args).run Tryz.prog w = .ok (.enter (fns.getD k 0) args) w := by
  have : k = 0 ∨ k = 1 ∨ k = 2 ∨ k = 3 ∨ k = 4 ∨ k = 5 ∨ k = 6 ∨ k = 7 ∨ k = 8 := by omega
  rcases this with rfl | rfl | rfl | rfl | rfl | rfl | rfl | rfl | rfl
  · exact enters_of Tryz.func96 (by kernel_rfl) rfl
  · exact enters_of Tryz.func97 (by kernel_rfl) rfl
  · exact enters_of Tryz.func98 (by kernel_rfl) rfl
  · exact enters_of Tryz.func99 (by kernel_rfl) rfl
  · exact enters_of Tryz.func100 (by kernel_rfl) rfl
  · exact enters_of Tryz.func101 (by kernel_rfl) rfl
  · exact enters_of Tryz.func102 (by kernel_rfl) rfl
  · exact enters_of Tryz.func104 (by kernel_rfl) rfl
  · exact enters_of Tryz.func105 (by kernel_rfl) rfl
structure PW (w : World) (cs : Array Value) (g q : Nat) (w' : World) : Prop where
  f : w'.heap[g]? = some (.cells cs 126 (0, 0))
  t : w'.heap[q]? = some (.cells fcs 132 (0, 0))
  b : Below w.heap.size w w'
theorem PW.later {w : World} {cs : Array Value} {g q : Nat} {w1 w2 : World} (h : PW w cs g q w1) (k : Below w1.heap.size w1 w2) : PW w cs g q w2 := by
  have h1 := (Array.getElem?_eq_some_iff.1 h.f).1
  have h2 := (Array.getElem?_eq_some_iff.1 h.t).1
  exact ⟨(k.block _ (by omega)).trans h.f, (k.block _ (by omega)).trans h.t, over h.b k⟩
set_option maxRecDepth 100000 in
set_option maxHeartbeats 3200000 in
theorem parseC (b : ByteArray) (w : World) (hs : b.size ≤ 281474976710656) :
    Calls Tryz.prog 50 #[.string b] w fun e w' => e = .returned (.tuple #[.int .i64 (parseK b), .int .i64 (parseN b), .string (parseP b), .int .i64 (parseE b)]) ∧ Below w.heap.size w w' := by
  have CR : Hid (∀ w, Calls _ _ _ _ _) := fun w => readFrameC b w hs
  have CT : Hid (∀ k, k < 9 → (∀ j, j < k → tst b j = false) → ∀ w, Calls _ _ _ _ _) := fun k hk hn w => tstC b k hk hn hs w
  have hl := fL_lt b
  have hK := fK_rng b
  have hN := fN_rng b
  obtain ⟨m, HM⟩ : ∃ m, Hid (fM b = m) := ⟨_, rfl⟩
  obtain ⟨k, HK⟩ : ∃ k, Hid (fK b = k) := ⟨_, rfl⟩
  obtain ⟨n, HN⟩ : ∃ n, Hid (fN b = n) := ⟨_, rfl⟩
  obtain ⟨l, HL⟩ : ∃ l, Hid (fL b = l) := ⟨_, rfl⟩
  obtain ⟨p, HP⟩ : ∃ p, Hid (fP b = p) := ⟨_, rfl⟩
  obtain ⟨u, HU⟩ : ∃ u, Hid (fU b = u) := ⟨_, rfl⟩
  rw [HM.out, HK.out, HN.out, HL.out, HP.out, HU.out] at CR CT
  unfold frC at CR CT
  go_enter Tryz.func50, Tryz.ntmps50
  go_wp2_with fail
  refine (CR.out _).mono ?_
  rintro _ w1 ⟨rfl, b1⟩
  have B1 : Hid (Below w.heap.size w w1) := b1
  clear b1
  go_wp2_with fail
  refine (faultsC _).mono ?_
  rintro _ w2 ⟨rfl, hw⟩
  have P2 : Hid (PW w #[.string b, .int .u8 m, .int .u8 k, .int .u64 n, .int .u32 l, .string p, .int .u32 u] w1.heap.size (w1.heap.size + 1) w2) := by
    rw [hw]
    refine ⟨?_, ?_, ?_⟩
    · rw [heap_alloc_old _ _ (by simp)]; exact heap_alloc_new w1 _
    · exact heap_alloc2_new w1 _ _
    · exact (B1.out.alloc B1.out.size _).alloc (by have := B1.out.size; simp; omega) _
  clear hw
  go_wp2_with fail
  go_loopw [13] (fun i wr => ∃ t : Nat, t ≤ 9 ∧ i = .int .i64 t ∧ Hid (∀ j, j < t → tst b j = false) ∧ Hid (PW w #[.string b, .int .u8 m, .int .u8 k, .int .u64 n, .int .u32 l, .string p, .int .u32 u] w1.heap.size (w1.heap.size + 1) wr)) (fun i _ => (9 - intOf i).toNat)
  case atStart => exact ⟨0, by omega, rfl, fun j hj => by omega, P2.out⟩
  case round =>
    clear P2
    obtain ⟨t, ht, rfl, HT, PR⟩ := hrel
    have hg : w1.heap.size < wr.heap.size := (Array.getElem?_eq_some_iff.1 PR.out.f).1
    have hq : w1.heap.size + 1 < wr.heap.size := (Array.getElem?_eq_some_iff.1 PR.out.t).1
    obtain ⟨c0, c1, c2, c3, c4, c5, c6⟩ := cell7 PR.out.f
    by_cases h9 : t < 9
    · have h9' : (t : Int) < 9 := by omega
      obtain ⟨fa, fb⟩ := fcs_at t h9
      have ca : wr.cell? ⟨w1.heap.size + 1, t * 2, none⟩ = some (.int .i64 (codes.getD t 0)) := by rw [cell_of_row _ _ _ _ _ _ PR.out.t]; exact fa
      have cb : wr.cell? ⟨w1.heap.size + 1, t * 2 + 1, none⟩ = some (.func (.func (fns.getD t 0)) #[] #[]) := by rw [cell_of_row _ _ _ _ _ _ PR.out.t]; exact fb
      have CC : Hid (∀ w, Calls _ _ _ _ _) := fun w => CT.out t h9 HT.out w
      have eF := fns_in t h9
      have HE : Hid (tst b t = true → parseE b = codes.getD t 0) := fun h => by rw [← chk_is]; exact chk_at b t h9 HT.out h
      obtain ⟨x, HX⟩ : ∃ x, Hid (tst b t = x) := ⟨_, rfl⟩
      obtain ⟨F, HF⟩ : ∃ F, Hid (fns.getD t 0 = F) := ⟨_, rfl⟩
      obtain ⟨c, HC⟩ : ∃ c, Hid (codes.getD t 0 = c) := ⟨_, rfl⟩
      rw [HX.out] at CC HE
      rw [HF.out] at cb CC eF
      rw [HC.out] at ca HE
      clear fa fb
      have P3 : Hid (PW _ _ _ _ _) := PR.out.later (new_below wr (.cells #[.int .i64 c, .func (.func F) #[] #[]] 132))
      have H3 : Hid _ := heap_alloc_new wr (.cells #[.int .i64 c, .func (.func F) #[] #[]] 132)
      go_upto_region 5 with fail
      obtain ⟨wa, HW⟩ : ∃ x, x = wr.alloc (.cells #[.int .i64 c, .func (.func F) #[] #[]] 132) := ⟨_, rfl⟩
      rw [← HW] at P3 H3 ⊢
      clear HW c0 c1 c2 c3 c4 c5 c6 ca cb PR hg hq
      obtain ⟨c0, c1, c2, c3, c4, c5, c6⟩ := cell7 P3.out.f
      have cb : wa.cell? ⟨wr.heap.size, 1, none⟩ = some (.func (.func F) #[] #[]) := by rw [cell_of_row _ _ _ _ _ _ H3.out]; rfl
      go_wp2_with fail
      refine (CC.out _).mono ?_
      rintro _ wb ⟨rfl, bb⟩
      have P4 : Hid (PW _ _ _ _ _) := P3.out.later bb
      have cd : wb.cell? ⟨wr.heap.size, 0, none⟩ = some (.int .i64 c) := by
        rw [bb.cell (Array.getElem?_eq_some_iff.1 H3.out).1, cell_of_row _ _ _ _ _ _ H3.out]; rfl
      clear c0 c1 c2 c3 c4 c5 c6 cb bb
      cases x with
      | true =>
        have HE2 : Hid _ := HE.out rfl
        have HZ : Hid (parseE b ≠ 0) := by
          rw [HE2.out, ← HC.out]
          have : t = 0 ∨ t = 1 ∨ t = 2 ∨ t = 3 ∨ t = 4 ∨ t = 5 ∨ t = 6 ∨ t = 7 ∨ t = 8 := by omega
          show _ ≠ _
          rcases this with rfl | rfl | rfl | rfl | rfl | rfl | rfl | rfl | rfl <;> decide
        have HK2 : Hid (parseK b = 0 ∧ parseN b = 0 ∧ parseP b = ⟨#[]⟩) := ⟨by rw [parseK, if_neg HZ.out], by rw [parseN, if_neg HZ.out], by rw [parseP, if_neg HZ.out]; rfl⟩
        go_upto_region 6 with fail
        go_region
        go_wp2
        refine bodyPost_ret (by simp [results, Tryz.results50, go_sem]; try rfl) rfl ?_
        exact ⟨by rw [HK2.out.1, HK2.out.2.1, HK2.out.2.2, HE2.out], P4.out.b.drew⟩
      | false =>
        go_wp2
        go_roundw
        case rel => exact ⟨t + 1, by omega, by go_num, fun j hj => by rcases Nat.lt_or_ge j t with h | h; exact HT.out j h; rw [show j = t by omega]; exact HX.out, P4.out⟩
        case measure => simp [intOf]; omega
    · have h9' : ¬ (t : Int) < 9 := by omega
      obtain rfl : t = 9 := by omega
      have HE : Hid (parseE b = 0) := by show _ = _; rw [← chk_is]; exact chk_none b HT.out
      obtain ⟨h18, hb0, hb1, hb2, hb3, hb4, hb5⟩ := parse_ok b HE.out
      have hlb := fL_is b (by omega)
      have HV : Hid (parseK b = k ∧ parseN b = n ∧ parseP b = p ∧ n ≤ 9223372036854775807 ∧ 0 ≤ n ∧ 0 ≤ k ∧ k ≤ 255 ∧ p.size ≤ 524288) := by
        refine ⟨?_, ?_, ?_, ?_, ?_, ?_, ?_, ?_⟩
        · rw [parseK, if_pos HE.out, ← HK.out, fK_is b (by omega)]
        · rw [parseN, if_pos HE.out, ← HN.out, fN_is b (by omega)]
        · rw [parseP, if_pos HE.out, ← HP.out, fP_is b (by omega)]
        · rw [← HN.out, fN_is b (by omega)]; exact hb2
        · rw [← HN.out]; exact hN.1
        · rw [← HK.out]; exact hK.1
        · rw [← HK.out]; exact hK.2
        · rw [← HP.out]; have := (fP_size b).1; omega
      have hn1 := HV.out.2.2.2.1
      have hn0 := HV.out.2.2.2.2.1
      have hk0 := HV.out.2.2.2.2.2.1
      have hk1 := HV.out.2.2.2.2.2.2.1
      have CL : Hid (∀ w, Calls _ _ _ _ _) := fun w => cloneC p w (by have := HV.out.2.2.2.2.2.2.2; omega)
      have hw2 : IntKind.i64.wrap k = k := by rw [IntKind.wrap_i64]; omega
      have hw1 : IntKind.i64.wrap n = n := by rw [IntKind.wrap_i64]; omega
      have HH : Hid (∀ W, Below wr.drew.heap.size wr.drew W → Below w.heap.size w W ∧ W.cell? ⟨w1.heap.size, 2, none⟩ = some (.int .u8 k) ∧ W.cell? ⟨w1.heap.size, 3, none⟩ = some (.int .u64 n)) := fun W hb => by
        have h1 : w1.heap.size < wr.drew.heap.size := hg
        exact ⟨over PR.out.b.drew hb, by rw [hb.cell h1]; exact c2, by rw [hb.cell h1]; exact c3⟩
      clear h18 hb0 hb1 hb2 hb3 hb4 hb5 hlb hK hN
      go_upto_region 8 with fail
      go_region_with (go_at_call 63; refine (CL.out _).mono ?_; rintro _ w5 ⟨rfl, b5⟩; obtain ⟨B5, x2, x3⟩ := HH.out w5 b5; clear b5)
      all_goals
        go_wp2
        refine bodyPost_ret (by simp [results, Tryz.results50, go_sem]; try rfl) rfl ?_
        exact ⟨by rw [HV.out.1, HV.out.2.1, HV.out.2.2.1, HE.out], by first | exact B5.drew | exact B5⟩
end Go.Proofs.YtmindflfjocjlaaGreat.tqg

namespace Go.Proofs.YtmindflfjocjlaaGreat.tqh
open Go.RowKit Go.PlainAid
open Go.Proofs.YtmindflfjocjlaaGreat.na Go.Proofs.YtmindflfjocjlaaGreat.nb Go.Proofs.YtmindflfjocjlaaGreat.tpa Go.Proofs.YtmindflfjocjlaaGreat.tpd Go.Proofs.YtmindflfjocjlaaGreat.tra Go.Proofs.YtmindflfjocjlaaGreat.trb Go.Proofs.YtmindflfjocjlaaGreat.tri Go.Proofs.YtmindflfjocjlaaGreat.tqa Go.Proofs.YtmindflfjocjlaaGreat.tqb
set_option linter.unusedVariables false
set_option linter.unusedSimpArgs false
theorem body_is (k n : Int) (p : ByteArray) : bodyT k n p = str [165] ++ str [k] ++ str (lowB n 8) ++ str (lowB (p.size : Int) 4) ++ p := by rw [bodyT, headT_parts]
set_option maxHeartbeats 1600000 in
theorem frameC (k n : Int) (p : ByteArray) (w : World) (k0 : 1 ≤ k) (k1 : k ≤ 255) (n0 : 0 ≤ n) (n1 : n ≤ 9223372036854775807) (hp : p.size ≤ 524288) :
    Calls Tryz.prog 48 #[.int .i64 k, .int .i64 n, .string p] w fun e w' => e = .returned (.tuple #[.string (frameT k n p), .int .i64 0]) ∧ Below w.heap.size w w' := by
  have CK : Hid (∀ w, Calls _ _ _ _ _) := fun w => isKindC k w
  rw [decide_eq_true ⟨k0, k1⟩] at CK
  have C1 : Hid (∀ w, Calls _ _ _ _ _) := fun w => oneByteC 165 w (by omega) (by omega)
  have C2 : Hid (∀ w, Calls _ _ _ _ _) := fun w => oneByteC k w (by omega) k1
  have C3 : Hid (∀ w, Calls _ _ _ _ _) := fun w => big8C n w n0 n1
  have C4 : Hid (∀ w, Calls _ _ _ _ _) := fun w => big4C (p.size : Int) w (by omega) (by omega)
  have hu : IntKind.u32.wrap (p.size : Int) = (p.size : Int) := by rw [IntKind.wrap_u32]; omega
  have hz1 : (str [(165 : Int)]).size = 1 := str_size [165]
  have hz2 : (str [k]).size = 1 := str_size [k]
  have hz3 : (str (lowB n 8)).size = 8 := by rw [str_size, lowB_length]
  have hz4 : (str (lowB (p.size : Int) 4)).size = 4 := by rw [str_size, lowB_length]
  have HB : Hid _ := body_is k n p
  have hlt := crcF_lt (bodyT k n p)
  have CC : Hid (∀ w, Calls _ _ _ _ _) := fun w => Crc (bodyT k n p) w (by rw [bodyT_size]; omega)
  have C5 : Hid (∀ w, Calls _ _ _ _ _) := fun w => big4C ((crcF (bodyT k n p) : Nat) : Int) w (by omega) (by omega)
  have hz5 : (str (lowB ((crcF (bodyT k n p) : Nat) : Int) 4)).size = 4 := by rw [str_size, lowB_length]
  have hzb := bodyT_size k n p
  unfold frameT
  generalize str (lowB ((crcF (bodyT k n p) : Nat) : Int) 4) = t5 at *
  generalize crcF (bodyT k n p) = x at *
  obtain ⟨B, HBB⟩ : ∃ B, Hid (bodyT k n p = B) := ⟨_, rfl⟩
  rw [HBB.out] at HB CC hzb ⊢
  generalize str [(165 : Int)] = t1 at *
  generalize str [k] = t2 at *
  generalize str (lowB n 8) = t3 at *
  generalize str (lowB (p.size : Int) 4) = t4 at *
  clear HBB hlt
  go_enter Tryz.func48, Tryz.ntmps48
  go_wp2_with fail
  refine (CK.out _).mono ?_
  rintro _ w0 ⟨rfl, hw⟩; rw [hw]; clear hw
  go_wp2_with fail
  refine (C1.out _).mono ?_
  rintro _ w1 ⟨rfl, b1⟩
  go_wp2_with fail
  refine (C2.out _).mono ?_
  rintro _ w2 ⟨rfl, b2⟩
  have B2 : Hid (Below w.heap.size w w2) := over b1 b2
  clear b1 b2
  go_wp2_with fail
  refine (C3.out _).mono ?_
  rintro _ w3 ⟨rfl, b3⟩
  have B3 : Hid (Below w.heap.size w w3) := over B2.out b3
  clear b3 B2
  go_wp2_with fail
  refine (C4.out _).mono ?_
  rintro _ w4 ⟨rfl, b4⟩
  have B4 : Hid (Below w.heap.size w w4) := over B3.out b4
  clear b4 B3
  go_wp2_with fail
  rw [← HB.out]
  refine (CC.out _).mono ?_
  rintro _ w5 ⟨rfl, b5⟩
  have B5 : Hid (Below w.heap.size w w5) := over B4.out b5
  clear b5 B4
  go_wp2_with fail
  refine (C5.out _).mono ?_
  rintro _ w6 ⟨rfl, b6⟩
  have B6 : Hid (Below w.heap.size w w6) := over B5.out b6
  clear b6 B5
  go_wp2
  go_ret2
  exact ⟨rfl, B6.out⟩
theorem frameNo (k n : Int) (p : ByteArray) (w : World) (h : ¬ (1 ≤ k ∧ k ≤ 255 ∧ 0 ≤ n)) :
    Calls Tryz.prog 48 #[.int .i64 k, .int .i64 n, .string p] w fun e w' => e = .returned (.tuple #[.string ByteArray.empty, .int .i64 10]) ∧ w' = w := by
  have CK : Hid (∀ w, Calls _ _ _ _ _) := fun w => isKindC k w
  by_cases hk : 1 ≤ k ∧ k ≤ 255
  · rw [decide_eq_true hk] at CK
    have hn : n < 0 := by omega
    clear h hk
    go_enter Tryz.func48, Tryz.ntmps48
    go_wp2_with fail
    refine (CK.out _).mono ?_
    rintro _ w0 ⟨rfl, hw⟩; rw [hw]; clear hw
    go_wp2
    go_ret2
    exact ⟨rfl, rfl⟩
  · rw [decide_eq_false hk] at CK
    clear h hk
    go_enter Tryz.func48, Tryz.ntmps48
    go_wp2_with fail
    refine (CK.out _).mono ?_
    rintro _ w0 ⟨rfl, hw⟩; rw [hw]; clear hw
    go_wp2
    go_ret2
    exact ⟨rfl, rfl⟩
theorem frameBig (k n : Int) (p : ByteArray) (w : World) (k0 : 1 ≤ k) (k1 : k ≤ 255) (n0 : 0 ≤ n) (hp : 524288 < p.size) :
    Calls Tryz.prog 48 #[.int .i64 k, .int .i64 n, .string p] w fun e w' => e = .returned (.tuple #[.string ByteArray.empty, .int .i64 121]) ∧ w' = w := by
  have CK : Hid (∀ w, Calls _ _ _ _ _) := fun w => isKindC k w
  rw [decide_eq_true ⟨k0, k1⟩] at CK
  have hp' : (524288 : Int) < p.size := by omega
  go_enter Tryz.func48, Tryz.ntmps48
  go_wp2_with fail
  refine (CK.out _).mono ?_
  rintro _ w0 ⟨rfl, hw⟩; rw [hw]; clear hw
  go_wp2
  go_ret2
  exact ⟨rfl, rfl⟩
end Go.Proofs.YtmindflfjocjlaaGreat.tqh

namespace Go.Proofs.YtmindflfjocjlaaGreat.tlb
open Go.RowKit Go.PlainAid
open Go.Proofs.YtmindflfjocjlaaGreat.na Go.Proofs.YtmindflfjocjlaaGreat.nb Go.Proofs.YtmindflfjocjlaaGreat.tpa Go.Proofs.YtmindflfjocjlaaGreat.tpd Go.Proofs.YtmindflfjocjlaaGreat.tra Go.Proofs.YtmindflfjocjlaaGreat.trb Go.Proofs.YtmindflfjocjlaaGreat.tri Go.Proofs.YtmindflfjocjlaaGreat.tqa Go.Proofs.YtmindflfjocjlaaGreat.tqb Go.Proofs.YtmindflfjocjlaaGreat.tqc Go.Proofs.YtmindflfjocjlaaGreat.tqg Go.Proofs.YtmindflfjocjlaaGreat.tqh
set_option linter.unusedVariables false
set_option linter.unusedSimpArgs false
def shF (s : ByteArray) : ByteArray := if 524288 < s.size then s.extract 0 524288 else s
theorem shF_size (s : ByteArray) : (shF s).size ≤ 524288 := by
  unfold shF
  split
  · rw [ext_size]; omega
  · omega
theorem same_text (a : ByteArray) : (a.toList != a.toList) = false := by simp
theorem empty_ne (s : ByteArray) : (s.toList != []) = true ↔ s.size ≠ 0 := by
  have h := empty_tst s
  rw [bne, h]
  by_cases hz : s.size = 0 <;> simp [hz]
end Go.Proofs.YtmindflfjocjlaaGreat.tlb

namespace Go.Proofs.YtmindflfjocjlaaGreat.tba
open Go.RowKit Go.PlainAid Go.Maps Go.Shelf
open Go.Proofs.YtmindflfjocjlaaGreat.kp Go.Proofs.YtmindflfjocjlaaGreat.ya Go.Proofs.YtmindflfjocjlaaGreat.yb Go.Proofs.YtmindflfjocjlaaGreat.yc Go.Proofs.YtmindflfjocjlaaGreat.yd Go.Proofs.YtmindflfjocjlaaGreat.ye Go.Proofs.YtmindflfjocjlaaGreat.yf Go.Proofs.YtmindflfjocjlaaGreat.yi Go.Proofs.YtmindflfjocjlaaGreat.yk Go.Proofs.YtmindflfjocjlaaGreat.yl Go.Proofs.YtmindflfjocjlaaGreat.ym Go.Proofs.YtmindflfjocjlaaGreat.yn
open Go.Proofs.YtmindflfjocjlaaGreat.tqa Go.Proofs.YtmindflfjocjlaaGreat.tqg Go.Proofs.YtmindflfjocjlaaGreat.tqh
open Go.Proofs.YtmindflfjocjlaaGreat.tqb (over keyC keyNo)
set_option linter.unusedVariables false
set_option linter.unusedSimpArgs false
theorem rn_pre {B g bn bd : Nat} {pv : Value} {s : S} {w w1 w2 : World} (hb : Below w.heap.size w w1) (r : Rn B g bn bd pv s w1 w2) : Rn B g bn bd pv s w w2 := by
  obtain ⟨pv', h, k, n⟩ := r
  exact ⟨pv', h, (Kp.of_below hb).trans k, fun j hj => (n j hj).imp id (fun x => Nat.le_trans hb.size x)⟩
-- Put, whatever is put
def bputS (s : S) (sp k n : Int) (p : ByteArray) : Int × S :=
  if 0 ≤ sp ∧ 1 ≤ k ∧ k ≤ 255 ∧ 0 ≤ n then (if p.size ≤ 524288 then putS s (keyT sp k n) (frameT k n p) else (121, s)) else (10, s)
theorem bputC {B g bn bd : Nat} {pv : Value} {s : S} {w : World} (sp k n : Int) (p : ByteArray) (h : Sr B g bn bd pv s w) (h1 : sp ≤ 9223372036854775807) (n1 : n ≤ 9223372036854775807) (hl : s.dur.length + s.pend.length + 1 < 3518437208883) (hB : B ≤ w.heap.size) :
    Calls Tryz.prog 18 #[.pointer (some ⟨g, 0, none⟩), .int .i64 sp, .int .i64 k, .int .i64 n, .string p] w fun e w' => e = .returned (.int .i64 (bputS s sp k n p).1) ∧ Rn B g bn bd pv (bputS s sp k n p).2 w w' := by
  have H : Hid (Sr B g bn bd pv s w) := h
  unfold bputS
  by_cases hk : 0 ≤ sp ∧ 1 ≤ k ∧ k ≤ 255 ∧ 0 ≤ n
  · rw [if_pos hk]
    have CK : Hid (∀ w, Calls _ _ _ _ _) := fun w => keyC sp k n w hk.1 h1 hk.2.1 hk.2.2.1 hk.2.2.2 n1
    by_cases hp : p.size ≤ 524288
    · rw [if_pos hp]
      have CF : Hid (∀ w, Calls _ _ _ _ _) := fun w => frameC k n p w hk.2.1 hk.2.2.1 hk.2.2.2 n1 hp
      have zk := keyT_size sp k n
      have zf := frameT_size k n p
      have CP : Hid (∀ w1, Below w.heap.size w w1 → Calls _ _ _ _ _) := fun w1 b1 => putC (keyT sp k n) (frameT k n p) (sr_later H.out b1) (by omega) (by omega) hl (Nat.le_trans hB b1.size)
      generalize keyT sp k n = K at *
      generalize frameT k n p = F at *
      clear h hk hp hl
      go_enter Tryz.func18, Tryz.ntmps18
      go_wp2_with fail
      refine (CK.out _).mono ?_
      rintro _ w1 ⟨rfl, b1⟩
      go_wp2_with fail
      refine (CF.out _).mono ?_
      rintro _ w2 ⟨rfl, b2⟩
      have B2 : Hid (Below w.heap.size w w2) := over b1 b2
      clear b1 b2
      go_wp2_with fail
      refine (CP.out w2 B2.out).mono ?_
      rintro _ w3 ⟨rfl, r3⟩
      have R3 : Hid (Rn _ _ _ _ _ _ _ _) := r3
      clear r3
      go_wp2
      go_ret
      exact ⟨rfl, rn_pre B2.out R3.out⟩
    · rw [if_neg hp]
      have CF : Hid (∀ w, Calls _ _ _ _ _) := fun w => frameBig k n p w hk.2.1 hk.2.2.1 hk.2.2.2 (by omega)
      generalize keyT sp k n = K at *
      clear h hk hp hl
      go_enter Tryz.func18, Tryz.ntmps18
      go_wp2_with fail
      refine (CK.out _).mono ?_
      rintro _ w1 ⟨rfl, b1⟩
      have B1 : Hid (Below w.heap.size w w1) := b1
      clear b1
      go_wp2_with fail
      refine (CF.out _).mono ?_
      rintro _ _ ⟨rfl, hw⟩; rw [hw]; clear hw
      go_wp2
      go_ret
      exact ⟨rfl, rn_pre B1.out (Rn.refl (sr_later H.out B1.out))⟩
  · rw [if_neg hk]
    have CK : Hid (∀ w, Calls _ _ _ _ _) := fun w => keyNo sp k n w hk
    clear h hk hl
    go_enter Tryz.func18, Tryz.ntmps18
    go_wp2_with fail
    refine (CK.out _).mono ?_
    rintro _ _ ⟨rfl, hw⟩; rw [hw]; clear hw
    go_wp2
    go_ret
    exact ⟨rfl, Rn.refl H.out⟩
-- Get
def bgetV (k n : Int) (x : ByteArray × Int) : ByteArray × Int := if x.2 = 0 then (if parseE x.1 = 0 ∧ parseK x.1 = k ∧ parseN x.1 = n then (parseP x.1, 0) else (ByteArray.empty, 132)) else (ByteArray.empty, x.2)
def bgetS (s : S) (sp k n : Int) : ByteArray × Int := if 0 ≤ sp ∧ 1 ≤ k ∧ k ≤ 255 ∧ 0 ≤ n then bgetV k n (getS s (keyT sp k n)) else (ByteArray.empty, 10)
theorem get_size {s : S} (h : OkS s) (k : ByteArray) : (getS s k).1.size ≤ 1048576 := by
  unfold getS
  split
  · exact Nat.zero_le _
  · show ((rget k (now s)).getD ByteArray.empty).size ≤ _
    cases hr : rget k (now s) with
    | none => exact Nat.zero_le _
    | some d => exact (h.now _ (get_mem hr)).2.2
set_option maxHeartbeats 1600000 in
theorem bgetC {B g bn bd : Nat} {pv : Value} {s : S} {w : World} (sp k n : Int) (h : Sr B g bn bd pv s w) (h1 : sp ≤ 9223372036854775807) (n1 : n ≤ 9223372036854775807) :
    Calls Tryz.prog 20 #[.pointer (some ⟨g, 0, none⟩), .int .i64 sp, .int .i64 k, .int .i64 n] w fun e w' => e = .returned (.tuple #[.string (bgetS s sp k n).1, .int .i64 (bgetS s sp k n).2]) ∧ Below w.heap.size w w' := by
  have H : Hid (Sr B g bn bd pv s w) := h
  unfold bgetS
  by_cases hk : 0 ≤ sp ∧ 1 ≤ k ∧ k ≤ 255 ∧ 0 ≤ n
  · rw [if_pos hk]
    have CK : Hid (∀ w, Calls _ _ _ _ _) := fun w => keyC sp k n w hk.1 h1 hk.2.1 hk.2.2.1 hk.2.2.2 n1
    have zk := keyT_size sp k n
    have CG : Hid (∀ w1, Below w.heap.size w w1 → Calls _ _ _ _ _) := fun w1 b1 => getC (keyT sp k n) (sr_later H.out b1) (by omega)
    have hz := get_size h.ok (keyT sp k n)
    generalize keyT sp k n = K at *
    generalize getS s K = x at *
    obtain ⟨d, e⟩ := x
    have hz' : d.size ≤ 1048576 := hz
    have CG' : Hid (∀ w1, Below w.heap.size w w1 → Calls Tryz.prog 49 #[.pointer (some ⟨g, 0, none⟩), .string K] w1 fun e' w' => e' = .returned (.tuple #[.string d, .int .i64 e]) ∧ Below w1.heap.size w1 w') := CG.out
    clear CG hz
    unfold bgetV
    by_cases he : e = 0
    · have CP : Hid (∀ w, Calls _ _ _ _ _) := fun w => parseC d w (by omega)
      rw [if_pos he]
      subst he
      have key : (∃ f : Prop, (parseE d = 0 ∧ parseK d = k ∧ parseN d = n) ∨ ((parseE d != 0) = true) ∨ (parseE d = 0 ∧ (parseK d != k) = true) ∨ (parseE d = 0 ∧ parseK d = k ∧ (parseN d != n) = true)) := ⟨True, by
        by_cases a : parseE d = 0
        · by_cases b : parseK d = k
          · by_cases c : parseN d = n
            · exact .inl ⟨a, b, c⟩
            · exact .inr (.inr (.inr ⟨a, b, by rw [bne_iff_ne]; exact c⟩))
          · exact .inr (.inr (.inl ⟨a, by rw [bne_iff_ne]; exact b⟩))
        · exact .inr (.inl (by rw [bne_iff_ne]; exact a))⟩
      obtain ⟨_, key⟩ := key
      have HV : Hid (((parseE d = 0 ∧ parseK d = k ∧ parseN d = n) → (if parseE d = 0 ∧ parseK d = k ∧ parseN d = n then (parseP d, (0 : Int)) else (ByteArray.empty, 132)) = (parseP d, 0)) ∧ (¬ (parseE d = 0 ∧ parseK d = k ∧ parseN d = n) → (if parseE d = 0 ∧ parseK d = k ∧ parseN d = n then (parseP d, (0 : Int)) else (ByteArray.empty, 132)) = (ByteArray.empty, 132))) := ⟨fun h => if_pos h, fun h => if_neg h⟩
      obtain ⟨v, HVV⟩ : ∃ v, Hid ((if parseE d = 0 ∧ parseK d = k ∧ parseN d = n then (parseP d, (0 : Int)) else (ByteArray.empty, 132)) = v) := ⟨_, rfl⟩
      show Calls _ _ _ _ fun e' w' => e' = .returned (.tuple #[.string (if parseE d = 0 ∧ parseK d = k ∧ parseN d = n then (parseP d, (0 : Int)) else (ByteArray.empty, 132)).1, .int .i64 (if parseE d = 0 ∧ parseK d = k ∧ parseN d = n then (parseP d, (0 : Int)) else (ByteArray.empty, 132)).2]) ∧ _
      rw [HVV.out] at HV ⊢
      clear HVV
      generalize parseE d = pe at *
      generalize parseK d = pk at *
      generalize parseN d = pn at *
      generalize parseP d = pp at *
      clear h hk
      rcases key with ⟨rfl, rfl, rfl⟩ | key | ⟨rfl, key⟩ | ⟨rfl, rfl, key⟩
      · have HV2 : Hid (v = (pp, 0)) := HV.out.1 ⟨rfl, rfl, rfl⟩
        clear HV
        go_enter Tryz.func20, Tryz.ntmps20
        go_wp2_with fail
        refine (CK.out _).mono ?_
        rintro _ w1 ⟨rfl, b1⟩
        go_wp2_with fail
        refine (CG'.out _ b1).mono ?_
        rintro _ w2 ⟨rfl, b2⟩
        have B2 : Hid (Below w.heap.size w w2) := over b1 b2
        clear b1 b2
        go_wp2_with fail
        refine (CP.out _).mono ?_
        rintro _ w3 ⟨rfl, b3⟩
        have B3 : Hid (Below w.heap.size w w3) := over B2.out b3
        clear b3
        go_wp2
        go_ret2
        exact ⟨by rw [HV2.out]; rfl, B3.out⟩
      all_goals
        have HV2 : Hid (v = (⟨#[]⟩, 132)) := HV.out.2 (fun h => by simp [h] at key)
        clear HV
        go_enter Tryz.func20, Tryz.ntmps20
        go_wp2_with fail
        refine (CK.out _).mono ?_
        rintro _ w1 ⟨rfl, b1⟩
        go_wp2_with fail
        refine (CG'.out _ b1).mono ?_
        rintro _ w2 ⟨rfl, b2⟩
        have B2 : Hid (Below w.heap.size w w2) := over b1 b2
        clear b1 b2
        go_wp2_with fail
        refine (CP.out _).mono ?_
        rintro _ w3 ⟨rfl, b3⟩
        have B3 : Hid (Below w.heap.size w w3) := over B2.out b3
        clear b3
        go_wp2
        go_ret2
        exact ⟨by rw [HV2.out]; rfl, B3.out⟩
    · rw [if_neg he]
      have he' : (e != 0) = true := by rw [bne_iff_ne]; exact he
      clear h hk he
      go_enter Tryz.func20, Tryz.ntmps20
      go_wp2_with fail
      refine (CK.out _).mono ?_
      rintro _ w1 ⟨rfl, b1⟩
      go_wp2_with fail
      refine (CG'.out _ b1).mono ?_
      rintro _ w2 ⟨rfl, b2⟩
      have B2 : Hid (Below w.heap.size w w2) := over b1 b2
      clear b1 b2
      go_wp2
      go_ret2
      exact ⟨rfl, B2.out⟩
  · rw [if_neg hk]
    have CK : Hid (∀ w, Calls _ _ _ _ _) := fun w => keyNo sp k n w hk
    clear h hk
    go_enter Tryz.func20, Tryz.ntmps20
    go_wp2_with fail
    refine (CK.out _).mono ?_
    rintro _ _ ⟨rfl, hw⟩; rw [hw]; clear hw
    go_wp2
    go_ret2
    exact ⟨rfl, Below.refl _ _⟩
end Go.Proofs.YtmindflfjocjlaaGreat.tba
