import Derived.Test.YtpcllegjnbeppaaGreatG6
import Derived.Test.YtpcllegjnbeppaaGreatG7
import Derived.Test.YtpcllegjnbeppaaGreatT2
import Derived.Test.YtpcllegjnbeppaaGreatH2
import Derived.Deep.RegionWith
namespace Go.Proofs.YtpcllegjnbeppaaGreat.ja
open Go.RowKit Go.PlainAid Go.Maps Go.Shelf
open Go.Proofs.YtpcllegjnbeppaaGreat.kp Go.Proofs.YtpcllegjnbeppaaGreat.ka Go.Proofs.YtpcllegjnbeppaaGreat.ya Go.Proofs.YtpcllegjnbeppaaGreat.yb Go.Proofs.YtpcllegjnbeppaaGreat.yc Go.Proofs.YtpcllegjnbeppaaGreat.yd Go.Proofs.YtpcllegjnbeppaaGreat.ye Go.Proofs.YtpcllegjnbeppaaGreat.yf Go.Proofs.YtpcllegjnbeppaaGreat.yg Go.Proofs.YtpcllegjnbeppaaGreat.yi Go.Proofs.YtpcllegjnbeppaaGreat.yj Go.Proofs.YtpcllegjnbeppaaGreat.yk Go.Proofs.YtpcllegjnbeppaaGreat.yl Go.Proofs.YtpcllegjnbeppaaGreat.ym
open Go.Proofs.YtpcllegjnbeppaaGreat.tqa Go.Proofs.YtpcllegjnbeppaaGreat.tba Go.Proofs.YtpcllegjnbeppaaGreat.tbb Go.Proofs.YtpcllegjnbeppaaGreat.tbc Go.Proofs.YtpcllegjnbeppaaGreat.tbd Go.Proofs.YtpcllegjnbeppaaGreat.tbe Go.Proofs.YtpcllegjnbeppaaGreat.tbf
open Go.Proofs.YtpcllegjnbeppaaGreat.tqb (over keyC keyNo kindT kindT_size spaceT spaceT_size key_is)
open Go.Proofs.YtpcllegjnbeppaaGreat.ea Go.Proofs.YtpcllegjnbeppaaGreat.eb Go.Proofs.YtpcllegjnbeppaaGreat.ec Go.Proofs.YtpcllegjnbeppaaGreat.ed Go.Proofs.YtpcllegjnbeppaaGreat.eh Go.Proofs.YtpcllegjnbeppaaGreat.ha Go.Proofs.YtpcllegjnbeppaaGreat.hi
open Go.Proofs.YtpcllegjnbeppaaGreat.tda (big8R add_text)
open Go.Proofs.YtpcllegjnbeppaaGreat.xc (Ds Rd Dt)
set_option linter.unusedVariables false
set_option linter.unusedSimpArgs false
-- an empty store
def Em (s : S) : Prop := s.dur = [] ∧ s.pend = []
theorem em_keys {s : S} (h : Em s) (k : ByteArray) : keysS s k = [] := by
  unfold keysS
  split
  · rfl
  · unfold keysL now
    rw [h.1, h.2]
    rfl
def mkE (a b sp : Int) (off : Bool) : Int := if okO a b then (if sp < 0 then 10 else if off then 124 else 0) else 150
def opE (a b sp least : Int) (off : Bool) : Int := if okO a b then (if sp < 0 then 10 else if off then 124 else if 0 < least then 151 else 0) else 150
section
variable {g : Nat} {dv wv vv : Value} {s : S} {w : World}
theorem keys0 (h : Ds 0 g dv wv vv s w) (he : Em s) (pre : ByteArray) : Calls Tryz.prog 70 #[.pointer (some ⟨g, 0, none⟩), .string pre] w fun e w' => (∃ a c, e = .returned (.slice a 0 c)) ∧ Below w.heap.size w w' := by
  refine (xh.keysD pre h).mono ?_
  rintro e w' ⟨v, rfl, ho, b⟩
  rw [em_keys he] at ho
  obtain ⟨a, c, rfl⟩ := own_formS ho
  exact ⟨⟨a, c, rfl⟩, b⟩
theorem numbers0 (h : Ds 0 g dv wv vv s w) (he : Em s) (sp k : Int) : Calls Tryz.prog 32 #[.pointer (some ⟨g, 0, none⟩), .int .i64 sp, .int .i64 k] w fun e w' => e = .returned (.slice none 0 0) ∧ Below w.heap.size w w' := by
  have CK : Hid (Calls _ _ _ _ _) := keys0 h he ⟨#[66]⟩
  clear h he
  go_enter Tryz.func32, Tryz.ntmps32
  go_wp2_with (first | (go_at_call 70; refine CK.out.mono ?_; rintro _ w1 ⟨⟨a, c, rfl⟩, b1⟩; have B1 : Hid (Below w.heap.size w w1) := b1; clear b1) | go_in)
  go_loopw [8, 9] (fun o i wr => o = .slice none 0 0 ∧ i = .int .i64 0 ∧ wr = w1) (fun _ _ _ => 0)
  case atStart => exact ⟨rfl, rfl, rfl⟩
  case round =>
    obtain ⟨rfl, rfl, rfl⟩ := hrel
    go_wp2
    go_ret
    exact ⟨rfl, B1.out⟩
theorem wipe0 (h : Ds 0 g dv wv vv s w) (he : Em s) (ho : s.off = false) (sp : Int) (h0 : 0 ≤ sp) (h1 : sp ≤ 9223372036854775807) : Calls Tryz.prog 36 #[.pointer (some ⟨g, 0, none⟩), .int .i64 sp] w fun e w' => e = .returned (.tuple #[.int .i64 0, .int .i64 0]) ∧ Below w.heap.size w w' := by
  have CD : Hid (Calls _ _ _ _ _) := xc.downD h
  rw [ho] at CD
  have CB : Hid (Calls _ _ _ _ _) := big8R sp w h0 h1
  have CK : Hid (∀ w1 p, Below w.heap.size w w1 → Calls _ _ _ _ _) := fun w1 p b => keys0 (h.later b) he p
  obtain ⟨T, HT⟩ : ∃ T : ByteArray, Hid (Go.Proofs.YtpcllegjnbeppaaGreat.nb.str (Go.Proofs.YtpcllegjnbeppaaGreat.tpa.lowB sp 8) = T) := ⟨_, rfl⟩
  have hT : T.size = 8 := by rw [← HT.out, Go.Proofs.YtpcllegjnbeppaaGreat.nb.str_size, Go.Proofs.YtpcllegjnbeppaaGreat.tpa.lowB_length]
  have ha := add_text ⟨#[66]⟩ T (by rw [hT]; decide)
  have q0 : decide (sp < 0) = false := decide_eq_false (by omega)
  rw [HT.out] at CB
  clear h he ho h0 h1
  go_enter Tryz.func36, Tryz.ntmps36
  go_wp2_with (first | (go_at_call 14; refine CD.out.mono ?_; rintro _ _ ⟨rfl, hw⟩; rw [hw]; clear hw) | (go_at_call 73; refine CB.out.mono ?_; rintro _ w1 ⟨rfl, b1⟩; have B1 : Hid (Below w.heap.size w w1) := b1; clear b1) | (go_at_call 70; refine (CK.out _ _ B1.out).mono ?_; rintro _ w2 ⟨⟨a, c, rfl⟩, b2⟩; have B2 : Hid (Below w.heap.size w w2) := over B1.out b2; clear b2) | go_in)
  go_loopw [8] (fun i wr => i = .int .i64 0 ∧ wr = w2) (fun _ _ => 0)
  case atStart => exact ⟨rfl, rfl⟩
  case round =>
    obtain ⟨rfl, rfl⟩ := hrel
    go_wp2
    go_ret2
    exact ⟨rfl, B2.out⟩
theorem standing0 (h : Ds 0 g dv wv vv s w) (he : Em s) (sp : Int) : Calls Tryz.prog 98 #[.pointer (some ⟨g, 0, none⟩), .int .i64 sp] w fun e w' => e = .returned (.slice none 0 0) ∧ Below w.heap.size w w' := by
  have CN : Hid (Calls _ _ _ _ _) := numbers0 h he sp 1
  clear h he
  go_enter Tryz.func98, Tryz.ntmps98
  go_wp2_with (first | (go_at_call 32; refine CN.out.mono ?_; rintro _ w1 ⟨rfl, b1⟩; have B1 : Hid (Below w.heap.size w w1) := b1; clear b1) | go_in)
  go_loopw [5, 7] (fun o i wr => o = .slice none 0 0 ∧ i = .int .i64 0 ∧ wr = w1) (fun _ _ _ => 0)
  case atStart => exact ⟨rfl, rfl, rfl⟩
  case round =>
    obtain ⟨rfl, rfl, rfl⟩ := hrel
    go_wp2
    go_ret
    exact ⟨rfl, B1.out⟩
theorem cleared0 (h : Ds 0 g dv wv vv s w) (he : Em s) (sp : Int) : Calls Tryz.prog 99 #[.pointer (some ⟨g, 0, none⟩), .int .i64 sp, .int .i64 1, .int .i64 0] w fun e w' => e = .returned (.int .i64 0) ∧ Below w.heap.size w w' := by
  have CN : Hid (∀ w1 k, Below w.heap.size w w1 → Calls _ _ _ _ _) := fun w1 k b => numbers0 (h.later b) he sp k
  have B0 : Hid (Below w.heap.size w w) := Below.refl _ _
  clear h he
  go_enter Tryz.func99, Tryz.ntmps99
  go_wp2
  go_loopw [9] (fun k wr => ∃ i : Nat, k = .int .i64 i ∧ 1 ≤ i ∧ i ≤ 256 ∧ Hid (Below w.heap.size w wr)) (fun k _ => (256 - intOf k).toNat)
  case atStart => exact ⟨1, rfl, by omega, by omega, B0.out⟩
  case round =>
    obtain ⟨i, rfl, hi1, hi2, HB⟩ := hrel
    clear B0
    by_cases hlt : i < 256
    · have hlt' : (i : Int) < 256 := by omega
      go_wp2_with (first | (go_at_call 32; refine (CN.out _ _ HB.out).mono ?_; rintro _ w1 ⟨rfl, b1⟩; have B1 : Hid (Below w.heap.size w w1) := over HB.out b1; clear b1) | go_in)
      go_loopw [11] (fun j wx => j = .int .i64 0 ∧ wx = w1) (fun _ _ => 0)
      case atStart => exact ⟨rfl, rfl⟩
      case round =>
        obtain ⟨rfl, rfl⟩ := hrel
        go_wp2
        go_roundw
        case rel => exact ⟨i + 1, by go_num, by omega, by omega, B1.out⟩
        case measure => simp [intOf]; omega
    · have hlt' : ¬ (i : Int) < 256 := by omega
      go_wp2
      go_ret
      exact ⟨rfl, HB.out⟩
theorem begin0 (h : Ds 0 g dv wv vv s w) : Calls Tryz.prog 93 #[.pointer (some ⟨g, 0, none⟩)] w fun e w' => e = .returned (.agg #[.pointer (some ⟨g, 0, none⟩), .int .i64 s.age, .bool false]) ∧ Below w.heap.size w w' := by
  obtain ⟨W, HW⟩ : ∃ W, Hid (w.alloc (.cells #[.pointer none, .int .i64 0, .bool false] 144) = W) := ⟨_, rfl⟩
  have bW : Below w.heap.size w W := by rw [← HW.out]; exact new1 _ _
  have hz : W.heap[w.heap.size]? = some (.cells #[.pointer none, .int .i64 0, .bool false] 144 (0, 0)) := by rw [← HW.out]; exact heap_alloc_new w _
  have c5 := (h.later bW).row.c5
  have d0 := cell_of_row _ _ 0 _ _ _ hz
  have d1 := cell_of_row _ _ 1 _ _ _ hz
  have d2 := cell_of_row _ _ 2 _ _ _ hz
  have f0 := frozen_of_row _ _ 0 _ _ hz
  have f1 := frozen_of_row _ _ 1 _ _ hz
  have f2 := frozen_of_row _ _ 2 _ _ hz
  have FIN : Hid (∀ W', W' = _ → _) := put3k W w.heap.size _ _ _ (.pointer (some ⟨g, 0, none⟩)) (.int .i64 (s.age : Int)) (.bool false) _ hz
  have BE : Hid (Below w.heap.size w W) := bW
  generalize s.age = ag at *
  clear h bW hz
  go_enter Tryz.func93, Tryz.ntmps93
  go_upto_region 1 with fail
  rw [HW.out]
  go_wp2
  obtain ⟨⟨x0, x1, x2⟩, xk⟩ := FIN.out _ rfl
  refine bodyPost_ret (by simp [results, Tryz.results93, go_sem, x0, x1, x2]; try rfl) rfl ?_
  exact ⟨rfl, BE.out.trans (xk.below (fun q e => by omega) BE.out.size)⟩
end
theorem goes0 (a b c d e f : Int) (w : World) : Calls Tryz.prog 92 #[.agg #[.int .i64 a, .int .i64 b, .int .i64 c, .int .i64 d, .int .i64 e, .int .i64 f]] w fun r w' => r = .returned (.bool (okO a b)) ∧ Below w.heap.size w w' := by
  have b1 : Hid (Below w.heap.size w (w.alloc (.cells #[.int .i64 a, .int .i64 b, .int .i64 c, .int .i64 d, .int .i64 e, .int .i64 f] 36))) := new1 w _
  unfold okO
  by_cases ha : a = 1
  · have ha' : (a == 1) = true := by simp [ha]
    by_cases hb : 1 ≤ b
    · have hb' : decide (1 ≤ b) = true := decide_eq_true hb
      by_cases hc : b ≤ 32
      · have hc' : decide (b ≤ 32) = true := decide_eq_true hc
        have HE : Hid (decide (a = 1 ∧ 1 ≤ b ∧ b ≤ 32) = true) := decide_eq_true ⟨ha, hb, hc⟩
        rw [HE.out]
        clear ha hb hc
        go_enter Tryz.func92, Tryz.ntmps92
        go_wp2
        go_ret
        exact ⟨rfl, b1.out⟩
      · have hc' : decide (b ≤ 32) = false := decide_eq_false hc
        have HE : Hid (decide (a = 1 ∧ 1 ≤ b ∧ b ≤ 32) = false) := decide_eq_false (fun h => hc h.2.2)
        rw [HE.out]
        clear ha hb hc
        go_enter Tryz.func92, Tryz.ntmps92
        go_wp2
        go_ret
        exact ⟨rfl, b1.out⟩
    · have hb' : decide (1 ≤ b) = false := decide_eq_false hb
      have HE : Hid (decide (a = 1 ∧ 1 ≤ b ∧ b ≤ 32) = false) := decide_eq_false (fun h => hb h.2.1)
      rw [HE.out]
      clear ha hb
      go_enter Tryz.func92, Tryz.ntmps92
      go_wp2
      go_ret
      exact ⟨rfl, b1.out⟩
  · have ha' : (a == 1) = false := by rw [beq_eq_false_iff_ne]; exact ha
    have HE : Hid (decide (a = 1 ∧ 1 ≤ b ∧ b ≤ 32) = false) := decide_eq_false (fun h => ha h.1)
    rw [HE.out]
    clear ha
    go_enter Tryz.func92, Tryz.ntmps92
    go_wp2
    go_ret
    exact ⟨rfl, b1.out⟩
set_option maxHeartbeats 3200000 in
theorem make0 {g : Nat} {dv wv vv : Value} {s : S} {w : World} (a b c d e f sp : Int) (h : Ds 0 g dv wv vv s w) (he : Em s) (hs : sp ≤ 9223372036854775807) : Calls Tryz.prog 53 #[.pointer (some ⟨g, 0, none⟩), .agg #[.int .i64 a, .int .i64 b, .int .i64 c, .int .i64 d, .int .i64 e, .int .i64 f], .int .i64 sp] w fun r w' => ∃ q, r = .returned (.tuple #[.pointer q, .int .i64 (mkE a b sp s.off)]) ∧ (q = none ↔ mkE a b sp s.off ≠ 0) ∧ Below w.heap.size w w' := by
  obtain ⟨W, HW⟩ : ∃ W, Hid (w.alloc (.cells #[.int .i64 a, .int .i64 b, .int .i64 c, .int .i64 d, .int .i64 e, .int .i64 f] 36) = W) := ⟨_, rfl⟩
  have bW : Below w.heap.size w W := by rw [← HW.out]; exact new1 _ _
  have hz : W.heap[w.heap.size]? = some (.cells #[.int .i64 a, .int .i64 b, .int .i64 c, .int .i64 d, .int .i64 e, .int .i64 f] 36 (0, 0)) := by rw [← HW.out]; exact heap_alloc_new w _
  have HZ : Hid (∀ w1, Below W.heap.size W w1 → w1.heap[w.heap.size]? = some (.cells #[.int .i64 a, .int .i64 b, .int .i64 c, .int .i64 d, .int .i64 e, .int .i64 f] 36 (0, 0)) ∧ Below w.heap.size w w1 ∧ Ds 0 g dv wv vv s w1) := fun w1 b1 => ⟨(b1.block _ (Array.getElem?_eq_some_iff.1 hz).1).trans hz, over bW b1, h.later (over bW b1)⟩
  have p0 := cell_of_row _ _ 0 _ _ _ hz
  have p1 := cell_of_row _ _ 1 _ _ _ hz
  have p2 := cell_of_row _ _ 2 _ _ _ hz
  have p3 := cell_of_row _ _ 3 _ _ _ hz
  have p4 := cell_of_row _ _ 4 _ _ _ hz
  have p5 := cell_of_row _ _ 5 _ _ _ hz
  have CG : Hid (Calls _ _ _ _ _) := goes0 a b c d e f W
  have HH : Hid (Ds 0 g dv wv vv s w) := h
  have HEM : Hid (Em s) := he
  have HS : Hid (sp ≤ 9223372036854775807) := hs
  unfold mkE
  obtain ⟨ok, HOK⟩ : ∃ k, Hid (okO a b = k) := ⟨_, rfl⟩
  rw [HOK.out] at CG ⊢
  clear h he hs bW hz
  cases ok with
  | false =>
    rw [if_neg (by simp)]
    go_enter Tryz.func53, Tryz.ntmps53
    go_upto_region 1 with fail
    rw [HW.out]
    go_wp2_with (first | (go_at_call 92; refine CG.out.mono ?_; rintro _ w1 ⟨rfl, b1⟩; have B1 : Hid (Below W.heap.size W w1) := b1; clear b1) | go_in)
    go_ret2
    exact ⟨_, rfl, by simp, (HZ.out _ B1.out).2.1⟩
  | true =>
    rw [if_pos rfl]
    by_cases h0 : sp < 0
    · rw [if_pos h0]
      go_enter Tryz.func53, Tryz.ntmps53
      go_upto_region 1 with fail
      rw [HW.out]
      go_wp2_with (first | (go_at_call 92; refine CG.out.mono ?_; rintro _ w1 ⟨rfl, b1⟩; have B1 : Hid (Below W.heap.size W w1) := b1; clear b1) | go_in)
      go_ret2
      exact ⟨_, rfl, by simp, (HZ.out _ B1.out).2.1⟩
    · rw [if_neg h0]
      obtain ⟨off, HOF⟩ : ∃ k, Hid (s.off = k) := ⟨_, rfl⟩
      rw [HOF.out]
      cases off with
      | true =>
        rw [if_pos rfl]
        go_enter Tryz.func53, Tryz.ntmps53
        go_upto_region 1 with fail
        rw [HW.out]
        go_upto_region 6 with (first | (go_at_call 92; refine CG.out.mono ?_; rintro _ w1 ⟨rfl, b1⟩; have B1 : Hid (Below W.heap.size W w1) := b1; clear b1) | go_in)
        have e3 := (HZ.out _ B1.out).2.2.row.c3
        rw [HOF.out] at e3
        go_wp2
        go_ret2
        exact ⟨_, rfl, by simp, (HZ.out _ B1.out).2.1⟩
      | false =>
        rw [if_neg (by simp)]
        go_enter Tryz.func53, Tryz.ntmps53
        go_upto_region 1 with fail
        rw [HW.out]
        go_upto_region 6 with (first | (go_at_call 92; refine CG.out.mono ?_; rintro _ w1 ⟨rfl, b1⟩; have B1 : Hid (Below W.heap.size W w1) := b1; clear b1) | go_in)
        have e3 := (HZ.out _ B1.out).2.2.row.c3
        rw [HOF.out] at e3
        have CW : Hid (Calls _ _ _ _ _) := wipe0 (HZ.out _ B1.out).2.2 HEM.out HOF.out sp (by omega) HS.out
        go_upto_region 11 with (first | (go_at_call 36; refine CW.out.mono ?_; rintro _ w2 ⟨rfl, b2⟩; have B2 : Hid (Below W.heap.size W w2) := over B1.out b2; clear b2) | go_in)
        obtain ⟨z2, _, k2⟩ := HZ.out _ B2.out
        have e1 := cell_of_row _ _ 1 _ _ _ z2
        have BQ : Hid (∀ w3, Below w2.heap.size w2 w3 → Calls _ _ _ _ _) := fun w3 b3 => begin0 (k2.later b3)
        have HE1 : Hid (∀ w3, Below w2.heap.size w2 w3 → w3.cell? ⟨w.heap.size, 1, none⟩ = some (.int .i64 b) ∧ Below w.heap.size w w3) := fun w3 b3 => ⟨cell_of_row _ _ 1 _ _ _ (HZ.out _ (over B2.out b3)).1, (HZ.out _ (over B2.out b3)).2.1⟩
        have DR : Hid (Below w2.heap.size w2 w2.drew) := (Below.refl _ _).drew
        clear z2 k2
        go_region_with (first | (go_at_call 93; refine (BQ.out _ DR.out).mono ?_; rintro _ w3 ⟨rfl, b3⟩; have B3 : Hid (Below w2.heap.size w2 w3) := over DR.out b3; have e9 := (HE1.out _ B3.out).1; clear b3))
        all_goals (
          go_wp2
          go_ret2
          exact ⟨_, rfl, by simp, (HE1.out _ B3.out).2.alloc (HE1.out _ B3.out).2.size _⟩)
set_option maxHeartbeats 3200000 in
theorem open0 {g : Nat} {dv wv vv : Value} {s : S} {w : World} (a b c d e f sp least : Int) (h : Ds 0 g dv wv vv s w) (he : Em s) (hs : sp ≤ 9223372036854775807) : Calls Tryz.prog 55 #[.pointer (some ⟨g, 0, none⟩), .agg #[.int .i64 a, .int .i64 b, .int .i64 c, .int .i64 d, .int .i64 e, .int .i64 f], .int .i64 sp, .int .i64 least] w fun r w' => ∃ q, r = .returned (.tuple #[.pointer q, .int .i64 (opE a b sp least s.off)]) ∧ (q = none ↔ opE a b sp least s.off ≠ 0) ∧ Below w.heap.size w w' := by
  obtain ⟨W, HW⟩ : ∃ W, Hid (w.alloc (.cells #[.int .i64 a, .int .i64 b, .int .i64 c, .int .i64 d, .int .i64 e, .int .i64 f] 36) = W) := ⟨_, rfl⟩
  have bW : Below w.heap.size w W := by rw [← HW.out]; exact new1 _ _
  have hz : W.heap[w.heap.size]? = some (.cells #[.int .i64 a, .int .i64 b, .int .i64 c, .int .i64 d, .int .i64 e, .int .i64 f] 36 (0, 0)) := by rw [← HW.out]; exact heap_alloc_new w _
  have HZ : Hid (∀ w1, Below W.heap.size W w1 → w1.heap[w.heap.size]? = some (.cells #[.int .i64 a, .int .i64 b, .int .i64 c, .int .i64 d, .int .i64 e, .int .i64 f] 36 (0, 0)) ∧ Below w.heap.size w w1 ∧ Ds 0 g dv wv vv s w1) := fun w1 b1 => ⟨(b1.block _ (Array.getElem?_eq_some_iff.1 hz).1).trans hz, over bW b1, h.later (over bW b1)⟩
  have p0 := cell_of_row _ _ 0 _ _ _ hz
  have p1 := cell_of_row _ _ 1 _ _ _ hz
  have p2 := cell_of_row _ _ 2 _ _ _ hz
  have p3 := cell_of_row _ _ 3 _ _ _ hz
  have p4 := cell_of_row _ _ 4 _ _ _ hz
  have p5 := cell_of_row _ _ 5 _ _ _ hz
  have CG : Hid (Calls _ _ _ _ _) := goes0 a b c d e f W
  have HH : Hid (Ds 0 g dv wv vv s w) := h
  have HEM : Hid (Em s) := he
  have HS : Hid (sp ≤ 9223372036854775807) := hs
  unfold opE
  obtain ⟨ok, HOK⟩ : ∃ k, Hid (okO a b = k) := ⟨_, rfl⟩
  rw [HOK.out] at CG ⊢
  clear h he hs bW hz
  cases ok with
  | false =>
    rw [if_neg (by simp)]
    go_enter Tryz.func55, Tryz.ntmps55
    go_upto_region 1 with fail
    rw [HW.out]
    go_wp2_with (first | (go_at_call 92; refine CG.out.mono ?_; rintro _ w1 ⟨rfl, b1⟩; have B1 : Hid (Below W.heap.size W w1) := b1; clear b1) | go_in)
    go_ret2
    exact ⟨_, rfl, by simp, (HZ.out _ B1.out).2.1⟩
  | true =>
    rw [if_pos rfl]
    by_cases h0 : sp < 0
    · rw [if_pos h0]
      go_enter Tryz.func55, Tryz.ntmps55
      go_upto_region 1 with fail
      rw [HW.out]
      go_wp2_with (first | (go_at_call 92; refine CG.out.mono ?_; rintro _ w1 ⟨rfl, b1⟩; have B1 : Hid (Below W.heap.size W w1) := b1; clear b1) | go_in)
      go_ret2
      exact ⟨_, rfl, by simp, (HZ.out _ B1.out).2.1⟩
    · rw [if_neg h0]
      obtain ⟨off, HOF⟩ : ∃ k, Hid (s.off = k) := ⟨_, rfl⟩
      rw [HOF.out]
      cases off with
      | true =>
        rw [if_pos rfl]
        go_enter Tryz.func55, Tryz.ntmps55
        go_upto_region 1 with fail
        rw [HW.out]
        go_upto_region 6 with (first | (go_at_call 92; refine CG.out.mono ?_; rintro _ w1 ⟨rfl, b1⟩; have B1 : Hid (Below W.heap.size W w1) := b1; clear b1) | go_in)
        have e3 := (HZ.out _ B1.out).2.2.row.c3
        rw [HOF.out] at e3
        go_wp2
        go_ret2
        exact ⟨_, rfl, by simp, (HZ.out _ B1.out).2.1⟩
      | false =>
        rw [if_neg (by simp)]
        by_cases hl : 0 < least
        · rw [if_pos hl]
          go_enter Tryz.func55, Tryz.ntmps55
          go_upto_region 1 with fail
          rw [HW.out]
          go_upto_region 6 with (first | (go_at_call 92; refine CG.out.mono ?_; rintro _ w1 ⟨rfl, b1⟩; have B1 : Hid (Below W.heap.size W w1) := b1; clear b1) | go_in)
          have e3 := (HZ.out _ B1.out).2.2.row.c3
          rw [HOF.out] at e3
          have CW : Hid (Calls _ _ _ _ _) := standing0 (HZ.out _ B1.out).2.2 HEM.out sp
          go_wp2_with (first | (go_at_call 98; refine CW.out.mono ?_; rintro _ w2 ⟨rfl, b2⟩; have B2 : Hid (Below W.heap.size W w2) := over B1.out b2; clear b2) | go_in)
          go_ret2
          exact ⟨_, rfl, by simp, (HZ.out _ B2.out).2.1⟩
        · rw [if_neg hl]
          go_enter Tryz.func55, Tryz.ntmps55
          go_upto_region 1 with fail
          rw [HW.out]
          go_upto_region 6 with (first | (go_at_call 92; refine CG.out.mono ?_; rintro _ w1 ⟨rfl, b1⟩; have B1 : Hid (Below W.heap.size W w1) := b1; clear b1) | go_in)
          have e3 := (HZ.out _ B1.out).2.2.row.c3
          rw [HOF.out] at e3
          have CW : Hid (Calls _ _ _ _ _) := standing0 (HZ.out _ B1.out).2.2 HEM.out sp
          go_upto_region 11 with (first | (go_at_call 98; refine CW.out.mono ?_; rintro _ w2 ⟨rfl, b2⟩; have B2 : Hid (Below W.heap.size W w2) := over B1.out b2; clear b2) | go_in)
          have CX : Hid (Calls _ _ _ _ _) := cleared0 (HZ.out _ B2.out).2.2 HEM.out sp
          go_upto_region 14 with (first | (go_at_call 99; refine CX.out.mono ?_; rintro _ w4 ⟨rfl, b4⟩; have B4 : Hid (Below W.heap.size W w4) := over B2.out b4; clear b4) | go_in)
          obtain ⟨z2, _, k2⟩ := HZ.out _ B4.out
          have e1 := cell_of_row _ _ 1 _ _ _ z2
          have BQ : Hid (∀ w3, Below w4.heap.size w4 w3 → Calls _ _ _ _ _) := fun w3 b3 => begin0 (k2.later b3)
          have HE1 : Hid (∀ w3, Below w4.heap.size w4 w3 → w3.cell? ⟨w.heap.size, 1, none⟩ = some (.int .i64 b) ∧ Below w.heap.size w w3) := fun w3 b3 => ⟨cell_of_row _ _ 1 _ _ _ (HZ.out _ (over B4.out b3)).1, (HZ.out _ (over B4.out b3)).2.1⟩
          have DR : Hid (Below w4.heap.size w4 w4.drew) := (Below.refl _ _).drew
          clear z2 k2
          go_region_with (first | (go_at_call 93; refine (BQ.out _ DR.out).mono ?_; rintro _ w3 ⟨rfl, b3⟩; have B3 : Hid (Below w4.heap.size w4 w3) := over DR.out b3; have e9 := (HE1.out _ B3.out).1; clear b3))
          all_goals (
            go_wp2
            go_ret2
            exact ⟨_, rfl, by simp, (HE1.out _ B3.out).2.alloc (HE1.out _ B3.out).2.size _⟩)
end Go.Proofs.YtpcllegjnbeppaaGreat.ja
