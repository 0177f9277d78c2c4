import Derived.Test.YtmindflfjocjlaaGreatRg0
import Derived.Test.YtmindflfjocjlaaGreatRe0
import Derived.Test.YtmindflfjocjlaaGreatQ11
namespace Go.Proofs.YtmindflfjocjlaaGreat.jf
open Go.RowKit Go.PlainAid Go.Maps Go.Shelf
open Go.Proofs.YtmindflfjocjlaaGreat.na Go.Proofs.YtmindflfjocjlaaGreat.nb Go.Proofs.YtmindflfjocjlaaGreat.tpa Go.Proofs.YtmindflfjocjlaaGreat.tpd Go.Proofs.YtmindflfjocjlaaGreat.tpe Go.Proofs.YtmindflfjocjlaaGreat.tpf Go.Proofs.YtmindflfjocjlaaGreat.tqa Go.Proofs.YtmindflfjocjlaaGreat.tbc
open Go.Proofs.YtmindflfjocjlaaGreat.tqb (over kindT kindT_size spaceT spaceT_size)
open Go.Proofs.YtmindflfjocjlaaGreat.tqc (beR_split keyT_letter)
open Go.Proofs.YtmindflfjocjlaaGreat.tqd (cutL nx)
open Go.Proofs.YtmindflfjocjlaaGreat.tqf (cutL_at nx_at)
set_option linter.unusedVariables false
set_option linter.unusedSimpArgs false
-- a text read as a key by the document: the same keys, the same parts
def isP (b : ByteArray) : Prop := b.size = 18 ∧ bt b 0 = 66 ∧ bt b 1 < 128 ∧ bt b 9 ≠ 0 ∧ bt b 10 < 128
theorem high8 (b : ByteArray) (p : Nat) : 128 ≤ bt b p ↔ 9223372036854775807 < beR b p 8 := by
  have h := beR_split b p 1 7
  rw [show (1 : Nat) + 7 = 8 by rfl, beR_one] at h
  have h0 := beR_nonneg b (p + 1) 7
  have h1 := beR_lt b (p + 1) 7
  have e : (256 : Int) ^ 7 = 72057594037927936 := by decide
  rw [e] at h h1
  rw [h]; omega
theorem parts_at (b : ByteArray) (hz : b.size = 18) : kH b = beR b 1 8 ∧ kC b = bt b 9 ∧ kL b = beR b 10 8 := by
  have e1 : r1 b = b.extract 1 b.size := by
    have h := cutL_at b 0 1 (by omega)
    rw [ext_all b b.size rfl] at h
    exact h
  have e2 : r2 b = b.extract 9 b.size := by rw [r2, e1, cutL_at _ 1 8 (by omega)]
  have e3 : r3 b = b.extract 10 b.size := by rw [r3, e2, cutL_at _ 9 1 (by omega)]
  exact ⟨by rw [kH, e1, nx_at _ 1 8 (by omega)], by rw [kC, e2, nx_at _ 9 1 (by omega), beR_one], by rw [kL, e3, nx_at _ 10 8 (by omega)]⟩
theorem sg_is (x : Int) (h : x ≤ 9223372036854775807) : sg x = x := by unfold sg; rw [if_neg (by omega)]
theorem key_of (b : ByteArray) (h : isP b) : keyT (beR b 1 8) (bt b 9) (beR b 10 8) = b := by
  obtain ⟨hz, h0, _⟩ := h
  have e0 := bt_one b 0 (by omega)
  rw [h0] at e0
  rw [keyT_parts, e0, put_read b 1 8 (by omega), bt_one b 9 (by omega), put_read b 10 8 (by omega)]
  rw [ext_join b 0 (0 + 1) (1 + 8) (by omega) (by omega) (by omega), ext_join b 0 (1 + 8) (9 + 1) (by omega) (by omega) (by omega), ext_join b 0 (9 + 1) (10 + 8) (by omega) (by omega) (by omega)]
  exact ext_all b _ (by omega)
theorem isKey_iff (b : ByteArray) : isKey b = true ↔ isP b := by
  constructor
  · intro h
    unfold isKey at h
    obtain ⟨⟨h1, h2, h3, h4⟩, h5⟩ := of_decide_eq_true h
    have hz : b.size = 18 := by rw [← h5]; exact keyT_size _ _ _
    obtain ⟨a1, a2, a3⟩ := parts_at b hz
    have hl := keyT_letter (sg (kH b)) (kC b) (sg (kL b))
    rw [h5, beR_one] at hl
    rw [a1] at h1
    rw [a2] at h2
    rw [a3] at h4
    have b1 := high8 b 1
    have b2 := high8 b 10
    have r1 := beR_lt b 1 8
    have r2 := beR_lt b 10 8
    have e8 : (256 : Int) ^ 8 = 18446744073709551616 := by decide
    rw [e8] at r1 r2
    unfold sg at h1 h4
    refine ⟨hz, hl, ?_, by omega, ?_⟩
    · by_cases q : 9223372036854775807 < beR b 1 8
      · rw [if_pos q] at h1; omega
      · have := mt b1.1 q; omega
    · by_cases q : 9223372036854775807 < beR b 10 8
      · rw [if_pos q] at h4; omega
      · have := mt b2.1 q; omega
  · intro h
    have hk := key_of b h
    obtain ⟨hz, h0, h1, h9, h10⟩ := h
    obtain ⟨a1, a2, a3⟩ := parts_at b hz
    have b1 := high8 b 1
    have b2 := high8 b 10
    have q1 : beR b 1 8 ≤ 9223372036854775807 := by
      by_cases q : 9223372036854775807 < beR b 1 8
      · have := b1.2 q; omega
      · omega
    have q2 : beR b 10 8 ≤ 9223372036854775807 := by
      by_cases q : 9223372036854775807 < beR b 10 8
      · have := b2.2 q; omega
      · omega
    unfold isKey
    rw [a1, a2, a3, sg_is _ q1, sg_is _ q2]
    have c0 := bt_nonneg b 9
    have c1 := bt_le b 9
    exact decide_eq_true ⟨⟨beR_nonneg b 1 8, by omega, by omega, beR_nonneg b 10 8⟩, hk⟩
def ptV (b : ByteArray) : Value := if isKey b then .tuple #[.int .i64 (sg (kH b)), .int .i64 (kC b), .int .i64 (sg (kL b)), .bool true] else .tuple #[.int .i64 0, .int .i64 0, .int .i64 0, .bool false]
theorem ptV_no {b : ByteArray} (h : ¬ isP b) : ptV b = .tuple #[.int .i64 0, .int .i64 0, .int .i64 0, .bool false] := by
  unfold ptV; rw [if_neg (fun e => h ((isKey_iff b).1 e))]
theorem ptV_yes {b : ByteArray} (h : isP b) : ptV b = .tuple #[.int .i64 (beR b 1 8), .int .i64 (bt b 9), .int .i64 (beR b 10 8), .bool true] ∧ beR b 1 8 ≤ 9223372036854775807 ∧ beR b 10 8 ≤ 9223372036854775807 := by
  obtain ⟨hz, h0, h1, h9, h10⟩ := h
  obtain ⟨a1, a2, a3⟩ := parts_at b hz
  have b1 := high8 b 1
  have b2 := high8 b 10
  have q1 : beR b 1 8 ≤ 9223372036854775807 := by
    by_cases q : 9223372036854775807 < beR b 1 8
    · have := b1.2 q; omega
    · omega
  have q2 : beR b 10 8 ≤ 9223372036854775807 := by
    by_cases q : 9223372036854775807 < beR b 10 8
    · have := b2.2 q; omega
    · omega
  refine ⟨?_, q1, q2⟩
  unfold ptV
  rw [if_pos ((isKey_iff b).2 ⟨hz, h0, h1, h9, h10⟩), a1, a2, a3, sg_is _ q1, sg_is _ q2]
set_option maxRecDepth 100000 in
set_option maxHeartbeats 6400000 in
theorem partsR (b : ByteArray) (w : World) (hs : b.size ≤ 281474976710656) :
    Calls Tryz.prog 40 #[.string b] w fun e w' => e = .returned (ptV b) ∧ Below w.heap.size w w' := by
  have hbt := get_bt b
  by_cases t0 : b.size = 18
  rotate_left
  · have HV : Hid _ := ptV_no (b := b) (fun h => t0 h.1)
    have g0 : ((b.size : Int) != 18) = true := by rw [bne_iff_ne]; omega
    rw [HV.out]
    clear t0 hbt
    go_enter Tryz.func40, Tryz.ntmps40
    go_wp2
    refine bodyPost_ret (by simp [results, Tryz.results40, go_sem]; try rfl) rfl ?_
    exact ⟨rfl, Below.refl _ _⟩
  have g0 : ((b.size : Int) != 18) = false := by rw [t0]; rfl
  have z : 17 < b.size := by omega
  by_cases t1 : bt b 0 = 66
  rotate_left
  · have HV : Hid _ := ptV_no (b := b) (fun h => t1 h.2.1)
    have g1 : (bt b 0 != 66) = true := by rw [bne_iff_ne]; exact t1
    rw [HV.out]
    clear t0 t1
    go_enter Tryz.func40, Tryz.ntmps40
    go_wp2
    refine bodyPost_ret (by simp [results, Tryz.results40, go_sem]; try rfl) rfl ?_
    exact ⟨rfl, Below.refl _ _⟩
  have g1 : (bt b 0 != 66) = false := by rw [t1]; rfl
  by_cases t2 : 128 ≤ bt b 1
  · have HV : Hid _ := ptV_no (b := b) (fun h => by have := h.2.2.1; omega)
    rw [HV.out]
    clear t0 t1
    go_enter Tryz.func40, Tryz.ntmps40
    go_wp2
    refine bodyPost_ret (by simp [results, Tryz.results40, go_sem]; try rfl) rfl ?_
    exact ⟨rfl, Below.refl _ _⟩
  by_cases t3 : bt b 9 = 0
  · have HV : Hid _ := ptV_no (b := b) (fun h => h.2.2.2.1 t3)
    have g3 : (bt b 9 == 0) = true := by rw [beq_iff_eq]; exact t3
    rw [HV.out]
    clear t0 t1 t3
    go_enter Tryz.func40, Tryz.ntmps40
    go_wp2
    refine bodyPost_ret (by simp [results, Tryz.results40, go_sem]; try rfl) rfl ?_
    exact ⟨rfl, Below.refl _ _⟩
  have g3 : (bt b 9 == 0) = false := by rw [beq_eq_false_iff_ne]; exact t3
  by_cases t4 : 128 ≤ bt b 10
  · have HV : Hid _ := ptV_no (b := b) (fun h => by have := h.2.2.2.2; omega)
    rw [HV.out]
    clear t0 t1 t3
    go_enter Tryz.func40, Tryz.ntmps40
    go_wp2
    refine bodyPost_ret (by simp [results, Tryz.results40, go_sem]; try rfl) rfl ?_
    exact ⟨rfl, Below.refl _ _⟩
  obtain ⟨hv, q1, q2⟩ := ptV_yes (b := b) ⟨t0, t1, by omega, t3, by omega⟩
  have HV : Hid _ := hv
  have CA : Hid (∀ w, Calls Tryz.prog 71 #[.string b, .int .i64 1, .int .i64 8] w fun e w' => e = .returned (.tuple #[.int .u64 (beR b 1 8), .int .i64 0]) ∧ w' = w) := fun w => rbe_any b 1 8 w (by omega) (by omega) (by omega) (by omega)
  have CB : Hid (∀ w, Calls Tryz.prog 71 #[.string b, .int .i64 10, .int .i64 8] w fun e w' => e = .returned (.tuple #[.int .u64 (beR b 10 8), .int .i64 0]) ∧ w' = w) := fun w => rbe_any b 10 8 w (by omega) (by omega) (by omega) (by omega)
  have p1 := beR_nonneg b 1 8
  have p2 := beR_nonneg b 10 8
  have p3 := bt_nonneg b 9
  have p4 := bt_le b 9
  rw [HV.out]
  generalize beR b 1 8 = x1 at *
  generalize beR b 10 8 = x2 at *
  have w1 : IntKind.i64.wrap x1 = x1 := by rw [IntKind.wrap_i64]; omega
  have w2 : IntKind.i64.wrap x2 = x2 := by rw [IntKind.wrap_i64]; omega
  have w3 : IntKind.i64.wrap (bt b 9) = bt b 9 := by rw [IntKind.wrap_i64]; omega
  clear t0 t1 t3 hv
  go_enter Tryz.func40, Tryz.ntmps40
  go_upto_region 5 with first | (go_at_call 71; refine (CA.out _).mono ?_; rintro _ _ ⟨rfl, hw⟩; rw [hw]; clear hw CA) | (go_at_call 71; refine (CB.out _).mono ?_; rintro _ _ ⟨rfl, hw⟩; rw [hw]; clear hw) | go_in
  go_region
  go_wp2
  refine bodyPost_ret (by simp [results, Tryz.results40, go_sem]; try rfl) rfl ?_
  exact ⟨rfl, (Below.refl _ _).drew⟩
end Go.Proofs.YtmindflfjocjlaaGreat.jf

namespace Go.Proofs.YtmindflfjocjlaaGreat.jg
open Go.RowKit Go.PlainAid Go.Maps Go.Shelf
open Go.Proofs.YtmindflfjocjlaaGreat.kp Go.Proofs.YtmindflfjocjlaaGreat.ka Go.Proofs.YtmindflfjocjlaaGreat.ya Go.Proofs.YtmindflfjocjlaaGreat.yb Go.Proofs.YtmindflfjocjlaaGreat.yc Go.Proofs.YtmindflfjocjlaaGreat.yd Go.Proofs.YtmindflfjocjlaaGreat.ye Go.Proofs.YtmindflfjocjlaaGreat.yf
open Go.Proofs.YtmindflfjocjlaaGreat.nb (str)
open Go.Proofs.YtmindflfjocjlaaGreat.tqa Go.Proofs.YtmindflfjocjlaaGreat.tbc Go.Proofs.YtmindflfjocjlaaGreat.tbd Go.Proofs.YtmindflfjocjlaaGreat.jf
open Go.Proofs.YtmindflfjocjlaaGreat.tqb (over kindT kindT_size spaceT)
open Go.Proofs.YtmindflfjocjlaaGreat.tbf (okI pre_kind app_bs prefix_of)
open Go.Proofs.YtmindflfjocjlaaGreat.xc (Ds)
open Go.Proofs.YtmindflfjocjlaaGreat.xh (keysD)
set_option linter.unusedVariables false
set_option linter.unusedSimpArgs false
-- what the document takes for the numbers of a kind
def dnOf (sp k : Int) (b : ByteArray) : Option Int := if isKey b = true ∧ sg (kH b) = sp ∧ kC b = k then some (sg (kL b)) else none
def dn (sp k : Int) (l : List ByteArray) : List Int := l.filterMap (dnOf sp k)
theorem dn_next (sp k : Int) (l : List ByteArray) (b : ByteArray) : dn sp k (l ++ [b]) = dn sp k l ++ (if isKey b = true ∧ sg (kH b) = sp ∧ kC b = k then [sg (kL b)] else []) := by
  unfold dn
  rw [List.filterMap_append]
  congr 1
  unfold dnOf
  by_cases h : isKey b = true ∧ sg (kH b) = sp ∧ kC b = k
  · simp only [List.filterMap, if_pos h]
  · simp only [List.filterMap, if_neg h]
theorem dn_len (sp k : Int) (l : List ByteArray) : (dn sp k l).length ≤ l.length := List.length_filterMap_le _ _
def mk : ByteArray := ⟨#[66]⟩
theorem mk_str : mk = str [66] := by decide
theorem key_mk {b : ByteArray} (h : isKey b = true) : Lib.hasPrefix (bs b) (bs mk) = true ∧ keyT (sg (kH b)) (kC b) (sg (kL b)) = b ∧ okI (sg (kH b)) ∧ (1 ≤ kC b ∧ kC b ≤ 255) ∧ okI (sg (kL b)) := by
  have h' := h
  unfold isKey at h'
  obtain ⟨⟨h1, h2, h3, h4⟩, h5⟩ := of_decide_eq_true h'
  have hH := nx8_rng (r1 b)
  have hL := nx8_rng (r3 b)
  refine ⟨?_, h5, ⟨h1, (sg_rng _ hH.1 hH.2).2⟩, ⟨h2, h3⟩, ⟨h4, (sg_rng _ hL.1 hL.2).2⟩⟩
  rw [← h5, keyT_parts, app_assoc, app_assoc, mk_str]
  rw [prefix_of _ _ _ rfl]
  exact decide_eq_true rfl
theorem fm_keys {f : ByteArray → Option Int} (p : ByteArray) (R : List Rec) : (keysL p R).filterMap f = R.filterMap (fun r => if Lib.hasPrefix (bs r.1) (bs p) = true then f r.1 else none) := by
  unfold keysL
  induction R with
  | nil => rfl
  | cons r R ih =>
    rw [List.filter_cons, List.filterMap_cons]
    by_cases h : Lib.hasPrefix (bs r.1) (bs p) = true
    · rw [if_pos h, if_pos h, List.map_cons, List.filterMap_cons, ih]
    · rw [if_neg h, if_neg h, ih]
theorem numbers_doc (s : S) (sp k : Int) (h1 : sp ≤ 9223372036854775807) : dn sp k (keysS s mk) = numbersS s sp k := by
  unfold numbersS keysS
  cases s.off with
  | true => simp [dn, nums]
  | false =>
    simp only [Bool.false_eq_true, if_false]
    unfold dn
    rw [fm_keys]
    by_cases hk : 0 ≤ sp ∧ 1 ≤ k ∧ k ≤ 255
    · rw [if_pos hk]
      unfold nums
      rw [fm_keys]
      congr 1
      funext r
      obtain ⟨b, d⟩ := r
      simp only
      unfold dnOf numOf
      by_cases hb : isKey b = true
      · obtain ⟨a1, a2, a3, a4, a5⟩ := key_mk hb
        have e := pre_kind (m := sg (kL b)) a3 a4 (s := sp) (k := k) ⟨hk.1, h1⟩ ⟨hk.2.1, hk.2.2⟩
        rw [a2] at e
        rw [if_pos a1, e, if_pos hb]
        by_cases q : sg (kH b) = sp ∧ kC b = k
        · rw [if_pos ⟨hb, q⟩, if_pos (decide_eq_true q)]
        · rw [if_neg (fun z => q z.2), if_neg (by simp [q])]
      · rw [if_neg (show ¬ (isKey b = true ∧ sg (kH b) = sp ∧ kC b = k) from fun z => hb z.1), if_neg hb]
        simp
    · rw [if_neg hk]
      rw [List.filterMap_eq_nil_iff]
      intro r _
      obtain ⟨b, d⟩ := r
      simp only
      by_cases q : isKey b = true ∧ sg (kH b) = sp ∧ kC b = k
      · exfalso
        obtain ⟨a1, a2, a3, a4, a5⟩ := key_mk q.1
        obtain ⟨_, rfl, rfl⟩ := q
        exact hk ⟨a3.1, a4.1, a4.2⟩
      · unfold dnOf
        rw [if_neg q]; simp
-- the spaces, by both: the last one that is told is not told again
def spStep (o : List Int) (b : ByteArray) : List Int := if isKey b = true ∧ (o = [] ∨ o.getLast? ≠ some (sg (kH b))) then o ++ [sg (kH b)] else o
def sps (l : List ByteArray) : List Int := l.foldl spStep []
theorem sps_next (l : List ByteArray) (b : ByteArray) : sps (l ++ [b]) = spStep (sps l) b := by unfold sps; rw [List.foldl_append]; rfl
theorem sps_len (l : List ByteArray) : (sps l).length ≤ l.length := by
  have h : ∀ (l : List ByteArray) (o : List Int), (l.foldl spStep o).length ≤ o.length + l.length := by
    intro l
    induction l with
    | nil => intro o; simp
    | cons b l ih =>
      intro o
      rw [List.foldl_cons]
      have h1 := ih (spStep o b)
      have h2 : (spStep o b).length ≤ o.length + 1 := by unfold spStep; split <;> simp
      simp only [List.length_cons]; omega
  have := h l []
  simpa [sps] using this
def spacesS (s : S) : List Int := sps (keysS s mk)
theorem last_cell {w : World} {B : Nat} {a : Option Addr} {n c : Nat} {o : List Int} (h : w.ownsRow B 3 1 (.slice a n c) o.length (o.map (Value.int .i64))) (h0 : o ≠ []) : ∃ g x, a = some ⟨g, 0, none⟩ ∧ n = o.length ∧ o.getLast? = some x ∧ w.cell? ⟨g, 0 + (o.length - 1), none⟩ = some (.int .i64 x) := by
  obtain ⟨a', cap, e, h1⟩ := tbe.own_readsN h
  injection e with e1 e2 e3
  subst e1 e2
  have hl : 0 < o.length := List.length_pos_iff.2 h0
  obtain ⟨_, h2⟩ := h
  rcases h2 with ⟨h2, h3⟩ | ⟨g, cap', cur, h2, hg, hh, _⟩
  · omega
  injection h2 with f1 f2 f3
  subst f1
  rcases h1 with h1 | ⟨b, off, hb, hc⟩
  · omega
  obtain ⟨rfl, rfl⟩ : b = g ∧ off = 0 := by injection hb with hb; injection hb with hb1 hb2 hb3; exact ⟨hb1.symm, hb2.symm⟩
  have q := hc (o.length - 1) (by omega)
  refine ⟨b, o.getD (o.length - 1) 0, rfl, rfl, ?_, q⟩
  rw [List.getLast?_eq_getElem?, List.getD, List.getElem?_eq_getElem (by omega)]
  rfl
set_option maxRecDepth 100000 in
set_option maxHeartbeats 6400000 in
theorem numbersR {g : Nat} {dv wv vv : Value} {s : S} {w : World} (sp k : Int) (h : Ds 0 g dv wv vv s w) (h1 : sp ≤ 9223372036854775807) :
    Calls Tryz.prog 10 #[.pointer (some ⟨g, 0, none⟩), .int .i64 sp, .int .i64 k] w fun e w' => ∃ v, e = .returned v ∧ w'.ownsRow w.heap.size 3 1 v (numbersS s sp k).length ((numbersS s sp k).map (Value.int .i64)) ∧ Below w.heap.size w w' := by
  have C2 : Hid (Calls _ _ _ _ _) := keysD mk h
  have hko := keys_ok h.ok mk
  have hnd := numbers_doc s sp k h1
  obtain ⟨ks, HKS⟩ : ∃ ks, Hid (keysS s mk = ks) := ⟨_, rfl⟩
  rw [HKS.out] at C2 hko hnd
  rw [← hnd]
  have hlen := hko.1
  have HZ : Hid _ := hko.2
  obtain ⟨i3, hi, hz0, hz1, hz2⟩ := info_parts info3
  have HIN : Hid (_ ∧ _ ∧ _ ∧ _) := ⟨hi, hz0, hz1, hz2⟩
  unfold mk at C2
  clear h hko hi hz0 hz1 hz2 hnd
  go_enter Tryz.func10, Tryz.ntmps10
  go_wp2_with fail
  refine C2.out.mono ?_
  rintro _ w2 ⟨v, rfl, hrow, b2⟩
  have B2 : Hid (Below w.heap.size w w2) := b2
  have HRD : Hid (ReadsT w2 v ks) := own_readsT hrow
  clear b2 hrow
  obtain ⟨ka', kc, rfl, _, _⟩ := HRD.out
  go_wp2_with fail
  go_loopw [8, 9] (fun lv iv wr => ∃ i : Nat, i ≤ ks.length ∧ iv = .int .i64 i ∧ Hid (wr.ownsRow w2.heap.size 3 1 lv (dn sp k (ks.take i)).length ((dn sp k (ks.take i)).map (Value.int .i64)) ∧ Below w2.heap.size w2 wr)) (fun _ iv _ => (ks.length - intOf iv).toNat)
  case atStart => exact ⟨0, by omega, rfl, World.ownsRow_nil _ _ _ _, Below.refl _ _⟩
  case round =>
    obtain ⟨i, hil, rfl, HH⟩ := hrel
    obtain ⟨ma, mc, hform⟩ := own_formS HH.out.1
    subst hform
    by_cases hlt : i < ks.length
    · have g1 : (i : Int) < ks.length := by omega
      obtain ⟨x, hx⟩ : ∃ x, ks[i]? = some x := ⟨_, List.getElem?_eq_getElem hlt⟩
      have CR : Hid (∀ w, Calls _ _ _ _ _) := fun w => partsR x w (by have := HZ.out x (List.mem_of_getElem? hx); omega)
      obtain ⟨la', lc', e0, _, hcl⟩ := HRD.out.later HH.out.2
      injection e0 with e1 e2 e3
      subst e1
      rcases hcl with h0 | ⟨lb, lo', rfl, hcl⟩
      · omega
      have cx : wr.cell? ⟨lb, lo' + i, none⟩ = some (.string x) := by
        have h := hcl i hlt
        rw [List.getD, hx] at h
        exact h
      have HT : Hid _ := take_next hx
      have HN : Hid _ := dn_next sp k (ks.take i) x
      have hnl : (dn sp k (ks.take i)).length ≤ i := by have h1 := dn_len sp k (ks.take i); rw [List.length_take] at h1; omega
      clear hcl e2 e3 hx
      unfold ptV at CR
      obtain ⟨y, HY⟩ : ∃ y, Hid (sg (kL x) = y) := ⟨_, rfl⟩
      obtain ⟨yh, HYh⟩ : ∃ y, Hid (sg (kH x) = y) := ⟨_, rfl⟩
      obtain ⟨yc, HYc⟩ : ∃ y, Hid (kC x = y) := ⟨_, rfl⟩
      rw [HY.out, HYh.out, HYc.out] at CR HN
      have key : (isKey x = true ∧ yh = sp ∧ yc = k) ∨ (isKey x = false) ∨ (isKey x = true ∧ (yh == sp) = false) ∨ (isKey x = true ∧ yh = sp ∧ (yc == k) = false) := by
        by_cases a : isKey x = true
        · by_cases b : yh = sp
          · by_cases c : yc = k
            · exact .inl ⟨a, b, c⟩
            · exact .inr (.inr (.inr ⟨a, b, by rw [beq_eq_false_iff_ne]; exact c⟩))
          · exact .inr (.inr (.inl ⟨a, by rw [beq_eq_false_iff_ne]; exact b⟩))
        · exact .inr (.inl (by simpa using a))
      have NO : ¬ (isKey x = true ∧ yh = sp ∧ yc = k) → dn sp k (ks.take (i + 1)) = dn sp k (ks.take i) := fun q => by rw [HT.out, HN.out, if_neg q, List.append_nil]
      have YES : (isKey x = true ∧ yh = sp ∧ yc = k) → dn sp k (ks.take (i + 1)) = dn sp k (ks.take i) ++ [y] := fun q => by rw [HT.out, HN.out, if_pos q]
      clear HN HT
      obtain ⟨D, HD⟩ : ∃ D, Hid (dn sp k (ks.take i) = D) := ⟨_, rfl⟩
      rw [HD.out] at HH hnl NO YES ⊢
      obtain ⟨m, HM⟩ : ∃ m, Hid (D.length = m) := ⟨_, rfl⟩
      have hm : m ≤ i := by have := HM.out; omega
      rw [HM.out] at HH ⊢
      rcases key with q | q | ⟨q1, q2⟩ | ⟨q1, rfl, q2⟩
      · have HN : Hid _ := YES q
        obtain ⟨q0, rfl, rfl⟩ := q
        rw [q0] at CR
        clear q0 NO YES
        go_wp2_with fail
        refine (CR.out _).mono ?_
        rintro _ w5 ⟨rfl, b5⟩
        have O5 : Hid ((w5.alloc (.cells #[.int .i64 y] 3)).ownsRow w2.heap.size 3 1 (.slice ma m mc) m (D.map (Value.int .i64))) := (own_kp HH.out.1 (Kp.of_below (A := fun _ => False) b5) (fun _ _ e => e)).alloc _
        have hB5 := over HH.out.2 b5
        have hsz5 : w2.heap.size ≤ w5.heap.size := hB5.size
        have B5 : Hid (Below w2.heap.size w2 (w5.alloc (.cells #[.int .i64 y] 3))) := hB5.alloc hB5.size _
        clear b5 hB5
        simp only [if_true]
        go_wp2_with (first | (at_builtin; (refine wpList_append_own _ rfl _ _ 32 rfl w2.heap.size 3 i3 (.int .i64 0) 1 8 Tryz.underlying32 HIN.out.1 HIN.out.2.1 HIN.out.2.2.1 HIN.out.2.2.2 rfl (by decide) _ m _ rfl O5.out ⟨w5.heap.size, 0, none⟩ 1 1 [.int .i64 y] rfl rfl (new_num _ _ _) (one_num _) (by unfold maxLen; omega) (by omega) (by simp; omega) ?_; intro v' w7 ho hg hnn; have HO3 : Hid (World.ownsRow _ _ _ _ _ _ _) := ho; have HG3 : Hid (World.grownBy _ _ _) := hg; clear ho hg hnn)) | go_in)
        go_roundw
        case rel =>
          refine ⟨i + 1, by omega, by go_num, ?_, ?_⟩
          · rw [HN.out, List.map_append, List.length_append, HM.out]
            exact HO3.out
          · exact B5.out.grown HG3.out (by simp; omega) (fun j hj => (O5.out.lt _ hj).1)
        case measure => simp [intOf]; omega
      · have HN : Hid _ := NO (fun z => by rw [q] at z; cases z.1)
        rw [q] at CR
        clear NO YES q
        go_wp2_with fail
        refine (CR.out _).mono ?_
        rintro _ w5 ⟨rfl, b5⟩
        have O5 : Hid (World.ownsRow _ _ _ _ _ _ _) := own_kp HH.out.1 (Kp.of_below (A := fun _ => False) b5) (fun _ _ e => e)
        have B5 : Hid (Below w2.heap.size w2 w5) := over HH.out.2 b5
        clear b5
        simp only [Bool.false_eq_true, if_false]
        go_wp2
        go_roundw
        case rel => exact ⟨i + 1, by omega, by go_num, by rw [HN.out, HM.out]; exact O5.out, B5.out⟩
        case measure => simp [intOf]; omega
      all_goals
        have HN : Hid _ := NO (fun z => by
          first
          | (rw [beq_eq_false_iff_ne] at q2; exact q2 z.2.1)
          | (rw [beq_eq_false_iff_ne] at q2; exact q2 z.2.2))
        rw [q1] at CR
        clear NO YES q1
        go_wp2_with fail
        refine (CR.out _).mono ?_
        rintro _ w5 ⟨rfl, b5⟩
        have O5 : Hid (World.ownsRow _ _ _ _ _ _ _) := own_kp HH.out.1 (Kp.of_below (A := fun _ => False) b5) (fun _ _ e => e)
        have B5 : Hid (Below w2.heap.size w2 w5) := over HH.out.2 b5
        clear b5
        simp only [if_true]
        go_wp2
        go_roundw
        case rel => exact ⟨i + 1, by omega, by go_num, by rw [HN.out, HM.out]; exact O5.out, B5.out⟩
        case measure => simp [intOf]; omega
    · have g1 : ¬ (i : Int) < ks.length := by omega
      obtain rfl : i = ks.length := by omega
      have HF : Hid (ks.take ks.length = ks) := List.take_length
      rw [HF.out] at HH
      go_wp2
      go_ret
      exact ⟨_, rfl, ⟨HH.out.1.1, by
        rcases HH.out.1.2 with h | ⟨g', cap, cur, e, hb, hrest⟩
        · exact .inl h
        · exact .inr ⟨g', cap, cur, e, Nat.le_trans B2.out.size hb, hrest⟩⟩, over B2.out HH.out.2⟩
end Go.Proofs.YtmindflfjocjlaaGreat.jg

namespace Go.Proofs.YtmindflfjocjlaaGreat.jh
open Go.RowKit Go.PlainAid Go.Maps Go.Shelf
open Go.Proofs.YtmindflfjocjlaaGreat.kp Go.Proofs.YtmindflfjocjlaaGreat.ka Go.Proofs.YtmindflfjocjlaaGreat.ya Go.Proofs.YtmindflfjocjlaaGreat.yb Go.Proofs.YtmindflfjocjlaaGreat.yc Go.Proofs.YtmindflfjocjlaaGreat.yd Go.Proofs.YtmindflfjocjlaaGreat.ye Go.Proofs.YtmindflfjocjlaaGreat.yf
open Go.Proofs.YtmindflfjocjlaaGreat.tqa Go.Proofs.YtmindflfjocjlaaGreat.tbc Go.Proofs.YtmindflfjocjlaaGreat.tbd Go.Proofs.YtmindflfjocjlaaGreat.jf Go.Proofs.YtmindflfjocjlaaGreat.jg
open Go.Proofs.YtmindflfjocjlaaGreat.tqb (over kindT kindT_size spaceT)
open Go.Proofs.YtmindflfjocjlaaGreat.xc (Ds)
open Go.Proofs.YtmindflfjocjlaaGreat.xh (keysD)
set_option linter.unusedVariables false
set_option linter.unusedSimpArgs false
set_option maxRecDepth 100000 in
set_option maxHeartbeats 6400000 in
theorem spacesC {B g bn bd : Nat} {pv : Value} {s : S} {w : World} (h : Sr B g bn bd pv s w) :
    Calls Tryz.prog 14 #[.pointer (some ⟨g, 0, none⟩)] w fun e w' => ∃ v, e = .returned v ∧ w'.ownsRow w.heap.size 3 1 v (spacesS s).length ((spacesS s).map (Value.int .i64)) ∧ Below w.heap.size w w' := by
  have C2 : Hid (Calls _ _ _ _ _) := keysC mk h
  have hko := keys_ok h.ok mk
  unfold spacesS
  obtain ⟨ks, HKS⟩ : ∃ ks, Hid (keysS s mk = ks) := ⟨_, rfl⟩
  rw [HKS.out] at C2 hko ⊢
  have hlen := hko.1
  have HZ : Hid _ := hko.2
  obtain ⟨i3, hi, hz0, hz1, hz2⟩ := info_parts info3
  have HIN : Hid (_ ∧ _ ∧ _ ∧ _) := ⟨hi, hz0, hz1, hz2⟩
  unfold mk at C2
  clear h hko hi hz0 hz1 hz2
  go_enter Tryz.func14, Tryz.ntmps14
  go_wp2_with fail
  refine C2.out.mono ?_
  rintro _ w2 ⟨v, rfl, hrow, b2⟩
  have B2 : Hid (Below w.heap.size w w2) := b2
  have HRD : Hid (ReadsT w2 v ks) := own_readsT hrow
  clear b2 hrow
  obtain ⟨ka', kc, rfl, _, _⟩ := HRD.out
  go_wp2_with fail
  go_loopw [3, 12] (fun lv iv wr => ∃ i : Nat, i ≤ ks.length ∧ iv = .int .i64 i ∧ Hid (wr.ownsRow w2.heap.size 3 1 lv (sps (ks.take i)).length ((sps (ks.take i)).map (Value.int .i64)) ∧ Below w2.heap.size w2 wr)) (fun _ iv _ => (ks.length - intOf iv).toNat)
  case atStart => exact ⟨0, by omega, rfl, World.ownsRow_nil _ _ _ _, Below.refl _ _⟩
  case round =>
    obtain ⟨i, hil, rfl, HH⟩ := hrel
    obtain ⟨ma, mc, hform⟩ := own_formS HH.out.1
    subst hform
    by_cases hlt : i < ks.length
    · have g1 : (i : Int) < ks.length := by omega
      obtain ⟨x, hx⟩ : ∃ x, ks[i]? = some x := ⟨_, List.getElem?_eq_getElem hlt⟩
      have CR : Hid (∀ w, Calls _ _ _ _ _) := fun w => readKeyC x w (by have := HZ.out x (List.mem_of_getElem? hx); omega)
      obtain ⟨la', lc', e0, _, hcl⟩ := HRD.out.later HH.out.2
      injection e0 with e1 e2 e3
      subst e1
      rcases hcl with h0 | ⟨lb, lo', rfl, hcl⟩
      · omega
      have cx : wr.cell? ⟨lb, lo' + i, none⟩ = some (.string x) := by
        have h := hcl i hlt
        rw [List.getD, hx] at h
        exact h
      have HT : Hid _ := take_next hx
      have HN0 : Hid _ := sps_next (ks.take i) x
      have hnl : (sps (ks.take i)).length ≤ i := by have h1 := sps_len (ks.take i); rw [List.length_take] at h1; omega
      clear hcl e2 e3 hx
      unfold rkV at CR
      obtain ⟨D, HD⟩ : ∃ D, Hid (sps (ks.take i) = D) := ⟨_, rfl⟩
      have HN : Hid (sps (ks.take (i + 1)) = spStep D x) := by rw [HT.out, HN0.out, HD.out]; exact rfl
      rw [HD.out] at HH hnl ⊢
      clear HT HN0
      unfold spStep at HN
      obtain ⟨y, HY⟩ : ∃ y, Hid (sg (kH x) = y) := ⟨_, rfl⟩
      rw [HY.out] at CR HN
      by_cases hik : isKey x = true
      rotate_left
      · have q : isKey x = false := by simpa using hik
        rw [q] at CR HN
        clear hik q
        obtain ⟨m, HM⟩ : ∃ m, Hid (D.length = m) := ⟨_, rfl⟩
        rw [HM.out] at HH ⊢
        go_wp2_with fail
        refine (CR.out _).mono ?_
        rintro _ w5 ⟨rfl, b5⟩
        have O5 : Hid (World.ownsRow _ _ _ _ _ _ _) := own_kp HH.out.1 (Kp.of_below (A := fun _ => False) b5) (fun _ _ e => e)
        have B5 : Hid (Below w2.heap.size w2 w5) := over HH.out.2 b5
        clear b5
        simp only [Bool.false_eq_true, if_false]
        go_wp2
        go_roundw
        case rel => exact ⟨i + 1, by omega, by go_num, by rw [HN.out, if_neg (by simp), HM.out]; exact O5.out, B5.out⟩
        case measure => simp [intOf]; omega
      rw [hik] at CR HN
      clear hik
      -- the list so far: none yet, or its last one
      have hcase : D = [] ∨ ∃ gl z, D ≠ [] ∧ ma = some ⟨gl, 0, none⟩ ∧ D.getLast? = some z ∧ wr.cell? ⟨gl, 0 + (D.length - 1), none⟩ = some (.int .i64 z) := by
        by_cases hD : D = []
        · exact .inl hD
        · obtain ⟨gl, z, h1, h2, h3, h4⟩ := last_cell HH.out.1 hD
          exact .inr ⟨gl, z, hD, h1, h3, h4⟩
      rcases hcase with rfl | ⟨gl, z, hD, rfl, hlast, hcell⟩
      · have hn2 : sps (ks.take (i + 1)) = [] ++ [y] := by rw [HN.out, if_pos ⟨rfl, .inl rfl⟩]
        have HN2 : Hid _ := hn2
        clear hn2
        clear HN
        go_wp2_with fail
        refine (CR.out _).mono ?_
        rintro _ w5 ⟨rfl, b5⟩
        have O5 : Hid ((w5.alloc (.cells #[.int .i64 y] 3)).ownsRow w2.heap.size 3 1 (.slice ma 0 mc) 0 (([] : List Int).map (Value.int .i64))) := (own_kp HH.out.1 (Kp.of_below (A := fun _ => False) b5) (fun _ _ e => e)).alloc _
        have hB5 := over HH.out.2 b5
        have hsz5 : w2.heap.size ≤ w5.heap.size := hB5.size
        have B5 : Hid (Below w2.heap.size w2 (w5.alloc (.cells #[.int .i64 y] 3))) := hB5.alloc hB5.size _
        clear b5 hB5
        simp only [if_true, List.length_nil]
        go_wp2_with (first | (at_builtin; (refine wpList_append_own _ rfl _ _ 32 rfl w2.heap.size 3 i3 (.int .i64 0) 1 8 Tryz.underlying32 HIN.out.1 HIN.out.2.1 HIN.out.2.2.1 HIN.out.2.2.2 rfl (by decide) _ 0 _ rfl O5.out ⟨w5.heap.size, 0, none⟩ 1 1 [.int .i64 y] rfl rfl (new_num _ _ _) (one_num _) (by unfold maxLen; omega) (by omega) (by simp; omega) ?_; intro v' w7 ho hg hnn; have HO3 : Hid (World.ownsRow _ _ _ _ _ _ _) := ho; have HG3 : Hid (World.grownBy _ _ _) := hg; clear ho hg hnn)) | go_in)
        go_roundw
        case rel =>
          refine ⟨i + 1, by omega, by go_num, ?_, ?_⟩
          · rw [HN2.out]
            exact HO3.out
          · exact B5.out.grown HG3.out (by simp; omega) (fun j hj => (O5.out.lt _ hj).1)
        case measure => simp [intOf]; omega
      obtain ⟨m, HM⟩ : ∃ m, Hid (D.length = m) := ⟨_, rfl⟩
      have hm0 : 0 < m := by have := HM.out; have := List.length_pos_iff.2 hD; omega
      have hmi : m ≤ i := by have := HM.out; omega
      have hmz : ((m : Int) == 0) = false := by rw [beq_eq_false_iff_ne]; omega
      rw [HM.out] at HH hcell ⊢
      have HC : Hid (wr.cell? ⟨gl, 0 + (m - 1), none⟩ = some (.int .i64 z)) := hcell
      have hgl := World.block_lt_of_cell? _ _ hcell
      clear hcell
      by_cases hzy : z = y
      · subst hzy
        have hn2 : sps (ks.take (i + 1)) = D := by
          rw [HN.out, if_neg]
          rintro ⟨_, h | h⟩
          · exact hD h
          · exact h hlast
        have HN2 : Hid _ := hn2
        clear HN hD hlast hn2
        go_wp2_with fail
        refine (CR.out _).mono ?_
        rintro _ w5 ⟨rfl, b5⟩
        have cz : w5.cell? ⟨gl, 0 + (m - 1), none⟩ = some (.int .i64 z) := (b5.cell hgl).trans HC.out
        have cz' : w5.cell? ⟨gl, 0 + ((m : Int) - 1).toNat, none⟩ = some (.int .i64 z) := by rw [show ((m : Int) - 1).toNat = m - 1 by omega]; exact cz
        have cz2 : w5.cell? ⟨gl, m - 1, none⟩ = some (.int .i64 z) := by rw [← Nat.zero_add (m - 1)]; exact cz
        have O5 : Hid (World.ownsRow _ _ _ _ _ _ _) := own_kp HH.out.1 (Kp.of_below (A := fun _ => False) b5) (fun _ _ e => e)
        have B5 : Hid (Below w2.heap.size w2 w5) := over HH.out.2 b5
        clear b5
        simp only [if_true]
        go_wp2
        go_roundw
        case rel => exact ⟨i + 1, by omega, by go_num, by rw [HN2.out, HM.out]; exact O5.out, B5.out⟩
        case measure => simp [intOf]; omega
      · have hzy' : (z != y) = true := by rw [bne_iff_ne]; exact hzy
        have hn2 : sps (ks.take (i + 1)) = D ++ [y] := by
          rw [HN.out, if_pos ⟨rfl, .inr (fun e => by rw [hlast] at e; exact hzy (Option.some.inj e))⟩]
        have HN2 : Hid _ := hn2
        clear HN hD hlast hzy hn2
        go_wp2_with fail
        refine (CR.out _).mono ?_
        rintro _ w5 ⟨rfl, b5⟩
        have cz : w5.cell? ⟨gl, 0 + (m - 1), none⟩ = some (.int .i64 z) := (b5.cell hgl).trans HC.out
        have cz' : w5.cell? ⟨gl, 0 + ((m : Int) - 1).toNat, none⟩ = some (.int .i64 z) := by rw [show ((m : Int) - 1).toNat = m - 1 by omega]; exact cz
        have cz2 : w5.cell? ⟨gl, m - 1, none⟩ = some (.int .i64 z) := by rw [← Nat.zero_add (m - 1)]; exact cz
        have O5 : Hid ((w5.alloc (.cells #[.int .i64 y] 3)).ownsRow w2.heap.size 3 1 (.slice (some ⟨gl, 0, none⟩) m mc) m (D.map (Value.int .i64))) := (own_kp HH.out.1 (Kp.of_below (A := fun _ => False) b5) (fun _ _ e => e)).alloc _
        have hB5 := over HH.out.2 b5
        have hsz5 : w2.heap.size ≤ w5.heap.size := hB5.size
        have B5 : Hid (Below w2.heap.size w2 (w5.alloc (.cells #[.int .i64 y] 3))) := hB5.alloc hB5.size _
        clear b5 hB5
        simp only [if_true]
        go_wp2_with (first | (at_builtin; (refine wpList_append_own _ rfl _ _ 32 rfl w2.heap.size 3 i3 (.int .i64 0) 1 8 Tryz.underlying32 HIN.out.1 HIN.out.2.1 HIN.out.2.2.1 HIN.out.2.2.2 rfl (by decide) _ m _ rfl O5.out ⟨w5.heap.size, 0, none⟩ 1 1 [.int .i64 y] rfl rfl (new_num _ _ _) (one_num _) (by unfold maxLen; omega) (by omega) (by simp; omega) ?_; intro v' w7 ho hg hnn; have HO3 : Hid (World.ownsRow _ _ _ _ _ _ _) := ho; have HG3 : Hid (World.grownBy _ _ _) := hg; clear ho hg hnn)) | go_in)
        go_roundw
        case rel =>
          refine ⟨i + 1, by omega, by go_num, ?_, ?_⟩
          · rw [HN2.out, List.map_append, List.length_append, HM.out]
            exact HO3.out
          · exact B5.out.grown HG3.out (by simp; omega) (fun j hj => (O5.out.lt _ hj).1)
        case measure => simp [intOf]; omega
    · have g1 : ¬ (i : Int) < ks.length := by omega
      obtain rfl : i = ks.length := by omega
      have HF : Hid (ks.take ks.length = ks) := List.take_length
      rw [HF.out] at HH
      go_wp2
      go_ret
      exact ⟨_, rfl, ⟨HH.out.1.1, by
        rcases HH.out.1.2 with h | ⟨g', cap, cur, e, hb, hrest⟩
        · exact .inl h
        · exact .inr ⟨g', cap, cur, e, Nat.le_trans B2.out.size hb, hrest⟩⟩, over B2.out HH.out.2⟩
set_option maxRecDepth 100000 in
set_option maxHeartbeats 6400000 in
theorem spacesR {g : Nat} {dv wv vv : Value} {s : S} {w : World} (h : Ds 0 g dv wv vv s w) :
    Calls Tryz.prog 11 #[.pointer (some ⟨g, 0, none⟩)] w fun e w' => ∃ v, e = .returned v ∧ w'.ownsRow w.heap.size 3 1 v (spacesS s).length ((spacesS s).map (Value.int .i64)) ∧ Below w.heap.size w w' := by
  have C2 : Hid (Calls _ _ _ _ _) := keysD mk h
  have hko := keys_ok h.ok mk
  unfold spacesS
  obtain ⟨ks, HKS⟩ : ∃ ks, Hid (keysS s mk = ks) := ⟨_, rfl⟩
  rw [HKS.out] at C2 hko ⊢
  have hlen := hko.1
  have HZ : Hid _ := hko.2
  obtain ⟨i3, hi, hz0, hz1, hz2⟩ := info_parts info3
  have HIN : Hid (_ ∧ _ ∧ _ ∧ _) := ⟨hi, hz0, hz1, hz2⟩
  unfold mk at C2
  clear h hko hi hz0 hz1 hz2
  go_enter Tryz.func11, Tryz.ntmps11
  go_wp2_with fail
  refine C2.out.mono ?_
  rintro _ w2 ⟨v, rfl, hrow, b2⟩
  have B2 : Hid (Below w.heap.size w w2) := b2
  have HRD : Hid (ReadsT w2 v ks) := own_readsT hrow
  clear b2 hrow
  obtain ⟨ka', kc, rfl, _, _⟩ := HRD.out
  go_wp2_with fail
  go_loopw [4, 5] (fun lv iv wr => ∃ i : Nat, i ≤ ks.length ∧ iv = .int .i64 i ∧ Hid (wr.ownsRow w2.heap.size 3 1 lv (sps (ks.take i)).length ((sps (ks.take i)).map (Value.int .i64)) ∧ Below w2.heap.size w2 wr)) (fun _ iv _ => (ks.length - intOf iv).toNat)
  case atStart => exact ⟨0, by omega, rfl, World.ownsRow_nil _ _ _ _, Below.refl _ _⟩
  case round =>
    obtain ⟨i, hil, rfl, HH⟩ := hrel
    obtain ⟨ma, mc, hform⟩ := own_formS HH.out.1
    subst hform
    by_cases hlt : i < ks.length
    · have g1 : (i : Int) < ks.length := by omega
      obtain ⟨x, hx⟩ : ∃ x, ks[i]? = some x := ⟨_, List.getElem?_eq_getElem hlt⟩
      have CR : Hid (∀ w, Calls _ _ _ _ _) := fun w => partsR x w (by have := HZ.out x (List.mem_of_getElem? hx); omega)
      obtain ⟨la', lc', e0, _, hcl⟩ := HRD.out.later HH.out.2
      injection e0 with e1 e2 e3
      subst e1
      rcases hcl with h0 | ⟨lb, lo', rfl, hcl⟩
      · omega
      have cx : wr.cell? ⟨lb, lo' + i, none⟩ = some (.string x) := by
        have h := hcl i hlt
        rw [List.getD, hx] at h
        exact h
      have HT : Hid _ := take_next hx
      have HN0 : Hid _ := sps_next (ks.take i) x
      have hnl : (sps (ks.take i)).length ≤ i := by have h1 := sps_len (ks.take i); rw [List.length_take] at h1; omega
      clear hcl e2 e3 hx
      unfold ptV at CR
      obtain ⟨D, HD⟩ : ∃ D, Hid (sps (ks.take i) = D) := ⟨_, rfl⟩
      have HN : Hid (sps (ks.take (i + 1)) = spStep D x) := by rw [HT.out, HN0.out, HD.out]; exact rfl
      rw [HD.out] at HH hnl ⊢
      clear HT HN0
      unfold spStep at HN
      obtain ⟨y, HY⟩ : ∃ y, Hid (sg (kH x) = y) := ⟨_, rfl⟩
      rw [HY.out] at CR HN
      by_cases hik : isKey x = true
      rotate_left
      · have q : isKey x = false := by simpa using hik
        rw [q] at CR HN
        clear hik q
        obtain ⟨m, HM⟩ : ∃ m, Hid (D.length = m) := ⟨_, rfl⟩
        rw [HM.out] at HH ⊢
        go_wp2_with fail
        refine (CR.out _).mono ?_
        rintro _ w5 ⟨rfl, b5⟩
        have O5 : Hid (World.ownsRow _ _ _ _ _ _ _) := own_kp HH.out.1 (Kp.of_below (A := fun _ => False) b5) (fun _ _ e => e)
        have B5 : Hid (Below w2.heap.size w2 w5) := over HH.out.2 b5
        clear b5
        simp only [Bool.false_eq_true, if_false]
        go_wp2
        go_roundw
        case rel => exact ⟨i + 1, by omega, by go_num, by rw [HN.out, if_neg (by simp), HM.out]; exact O5.out, B5.out⟩
        case measure => simp [intOf]; omega
      rw [hik] at CR HN
      clear hik
      -- the list so far: none yet, or its last one
      have hcase : D = [] ∨ ∃ gl z, D ≠ [] ∧ ma = some ⟨gl, 0, none⟩ ∧ D.getLast? = some z ∧ wr.cell? ⟨gl, 0 + (D.length - 1), none⟩ = some (.int .i64 z) := by
        by_cases hD : D = []
        · exact .inl hD
        · obtain ⟨gl, z, h1, h2, h3, h4⟩ := last_cell HH.out.1 hD
          exact .inr ⟨gl, z, hD, h1, h3, h4⟩
      rcases hcase with rfl | ⟨gl, z, hD, rfl, hlast, hcell⟩
      · have hn2 : sps (ks.take (i + 1)) = [] ++ [y] := by rw [HN.out, if_pos ⟨rfl, .inl rfl⟩]
        have HN2 : Hid _ := hn2
        clear hn2
        clear HN
        go_wp2_with fail
        refine (CR.out _).mono ?_
        rintro _ w5 ⟨rfl, b5⟩
        have O5 : Hid ((w5.alloc (.cells #[.int .i64 y] 3)).ownsRow w2.heap.size 3 1 (.slice ma 0 mc) 0 (([] : List Int).map (Value.int .i64))) := (own_kp HH.out.1 (Kp.of_below (A := fun _ => False) b5) (fun _ _ e => e)).alloc _
        have hB5 := over HH.out.2 b5
        have hsz5 : w2.heap.size ≤ w5.heap.size := hB5.size
        have B5 : Hid (Below w2.heap.size w2 (w5.alloc (.cells #[.int .i64 y] 3))) := hB5.alloc hB5.size _
        clear b5 hB5
        simp only [if_true, List.length_nil]
        go_wp2_with (first | (at_builtin; (refine wpList_append_own _ rfl _ _ 32 rfl w2.heap.size 3 i3 (.int .i64 0) 1 8 Tryz.underlying32 HIN.out.1 HIN.out.2.1 HIN.out.2.2.1 HIN.out.2.2.2 rfl (by decide) _ 0 _ rfl O5.out ⟨w5.heap.size, 0, none⟩ 1 1 [.int .i64 y] rfl rfl (new_num _ _ _) (one_num _) (by unfold maxLen; omega) (by omega) (by simp; omega) ?_; intro v' w7 ho hg hnn; have HO3 : Hid (World.ownsRow _ _ _ _ _ _ _) := ho; have HG3 : Hid (World.grownBy _ _ _) := hg; clear ho hg hnn)) | go_in)
        go_roundw
        case rel =>
          refine ⟨i + 1, by omega, by go_num, ?_, ?_⟩
          · rw [HN2.out]
            exact HO3.out
          · exact B5.out.grown HG3.out (by simp; omega) (fun j hj => (O5.out.lt _ hj).1)
        case measure => simp [intOf]; omega
      obtain ⟨m, HM⟩ : ∃ m, Hid (D.length = m) := ⟨_, rfl⟩
      have hm0 : 0 < m := by have := HM.out; have := List.length_pos_iff.2 hD; omega
      have hmi : m ≤ i := by have := HM.out; omega
      have hmz : ((m : Int) == 0) = false := by rw [beq_eq_false_iff_ne]; omega
      rw [HM.out] at HH hcell ⊢
      have HC : Hid (wr.cell? ⟨gl, 0 + (m - 1), none⟩ = some (.int .i64 z)) := hcell
      have hgl := World.block_lt_of_cell? _ _ hcell
      clear hcell
      by_cases hzy : z = y
      · subst hzy
        have hn2 : sps (ks.take (i + 1)) = D := by
          rw [HN.out, if_neg]
          rintro ⟨_, h | h⟩
          · exact hD h
          · exact h hlast
        have HN2 : Hid _ := hn2
        clear HN hD hlast hn2
        go_wp2_with fail
        refine (CR.out _).mono ?_
        rintro _ w5 ⟨rfl, b5⟩
        have cz : w5.cell? ⟨gl, 0 + (m - 1), none⟩ = some (.int .i64 z) := (b5.cell hgl).trans HC.out
        have cz' : w5.cell? ⟨gl, 0 + ((m : Int) - 1).toNat, none⟩ = some (.int .i64 z) := by rw [show ((m : Int) - 1).toNat = m - 1 by omega]; exact cz
        have cz2 : w5.cell? ⟨gl, m - 1, none⟩ = some (.int .i64 z) := by rw [← Nat.zero_add (m - 1)]; exact cz
        have O5 : Hid (World.ownsRow _ _ _ _ _ _ _) := own_kp HH.out.1 (Kp.of_below (A := fun _ => False) b5) (fun _ _ e => e)
        have B5 : Hid (Below w2.heap.size w2 w5) := over HH.out.2 b5
        clear b5
        simp only [if_true]
        go_wp2
        go_roundw
        case rel => exact ⟨i + 1, by omega, by go_num, by rw [HN2.out, HM.out]; exact O5.out, B5.out⟩
        case measure => simp [intOf]; omega
      · have hzy' : (z != y) = true := by rw [bne_iff_ne]; exact hzy
        have hn2 : sps (ks.take (i + 1)) = D ++ [y] := by
          rw [HN.out, if_pos ⟨rfl, .inr (fun e => by rw [hlast] at e; exact hzy (Option.some.inj e))⟩]
        have HN2 : Hid _ := hn2
        clear HN hD hlast hzy hn2
        go_wp2_with fail
        refine (CR.out _).mono ?_
        rintro _ w5 ⟨rfl, b5⟩
        have cz : w5.cell? ⟨gl, 0 + (m - 1), none⟩ = some (.int .i64 z) := (b5.cell hgl).trans HC.out
        have cz' : w5.cell? ⟨gl, 0 + ((m : Int) - 1).toNat, none⟩ = some (.int .i64 z) := by rw [show ((m : Int) - 1).toNat = m - 1 by omega]; exact cz
        have cz2 : w5.cell? ⟨gl, m - 1, none⟩ = some (.int .i64 z) := by rw [← Nat.zero_add (m - 1)]; exact cz
        have O5 : Hid ((w5.alloc (.cells #[.int .i64 y] 3)).ownsRow w2.heap.size 3 1 (.slice (some ⟨gl, 0, none⟩) m mc) m (D.map (Value.int .i64))) := (own_kp HH.out.1 (Kp.of_below (A := fun _ => False) b5) (fun _ _ e => e)).alloc _
        have hB5 := over HH.out.2 b5
        have hsz5 : w2.heap.size ≤ w5.heap.size := hB5.size
        have B5 : Hid (Below w2.heap.size w2 (w5.alloc (.cells #[.int .i64 y] 3))) := hB5.alloc hB5.size _
        clear b5 hB5
        simp only [if_true]
        go_wp2_with (first | (at_builtin; (refine wpList_append_own _ rfl _ _ 32 rfl w2.heap.size 3 i3 (.int .i64 0) 1 8 Tryz.underlying32 HIN.out.1 HIN.out.2.1 HIN.out.2.2.1 HIN.out.2.2.2 rfl (by decide) _ m _ rfl O5.out ⟨w5.heap.size, 0, none⟩ 1 1 [.int .i64 y] rfl rfl (new_num _ _ _) (one_num _) (by unfold maxLen; omega) (by omega) (by simp; omega) ?_; intro v' w7 ho hg hnn; have HO3 : Hid (World.ownsRow _ _ _ _ _ _ _) := ho; have HG3 : Hid (World.grownBy _ _ _) := hg; clear ho hg hnn)) | go_in)
        go_roundw
        case rel =>
          refine ⟨i + 1, by omega, by go_num, ?_, ?_⟩
          · rw [HN2.out, List.map_append, List.length_append, HM.out]
            exact HO3.out
          · exact B5.out.grown HG3.out (by simp; omega) (fun j hj => (O5.out.lt _ hj).1)
        case measure => simp [intOf]; omega
    · have g1 : ¬ (i : Int) < ks.length := by omega
      obtain rfl : i = ks.length := by omega
      have HF : Hid (ks.take ks.length = ks) := List.take_length
      rw [HF.out] at HH
      go_wp2
      go_ret
      exact ⟨_, rfl, ⟨HH.out.1.1, by
        rcases HH.out.1.2 with h | ⟨g', cap, cur, e, hb, hrest⟩
        · exact .inl h
        · exact .inr ⟨g', cap, cur, e, Nat.le_trans B2.out.size hb, hrest⟩⟩, over B2.out HH.out.2⟩
end Go.Proofs.YtmindflfjocjlaaGreat.jh
