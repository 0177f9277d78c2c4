import Derived.Test.YtofmkdagehehaaaGreatDoorB8
import Derived.Deep.RegionHeld3
import Derived.Test.YtofmkdagehehaaaGreatDoorC1
import Derived.Test.YtofmkdagehehaaaGreatDoorC2
namespace Go.Proofs.YtofmkdagehehaaaGreatDoor.ia
open Go.RowKit Go.PlainAid Go.Maps Go.Shelf
open Go.Proofs.YtofmkdagehehaaaGreatDoor.kp Go.Proofs.YtofmkdagehehaaaGreatDoor.ka Go.Proofs.YtofmkdagehehaaaGreatDoor.ya Go.Proofs.YtofmkdagehehaaaGreatDoor.yb Go.Proofs.YtofmkdagehehaaaGreatDoor.yc Go.Proofs.YtofmkdagehehaaaGreatDoor.yd Go.Proofs.YtofmkdagehehaaaGreatDoor.ye Go.Proofs.YtofmkdagehehaaaGreatDoor.yf Go.Proofs.YtofmkdagehehaaaGreatDoor.yg Go.Proofs.YtofmkdagehehaaaGreatDoor.yi Go.Proofs.YtofmkdagehehaaaGreatDoor.yj Go.Proofs.YtofmkdagehehaaaGreatDoor.yk Go.Proofs.YtofmkdagehehaaaGreatDoor.yl Go.Proofs.YtofmkdagehehaaaGreatDoor.ym
open Go.Proofs.YtofmkdagehehaaaGreatDoor.tqa Go.Proofs.YtofmkdagehehaaaGreatDoor.tba Go.Proofs.YtofmkdagehehaaaGreatDoor.tbb Go.Proofs.YtofmkdagehehaaaGreatDoor.tbc Go.Proofs.YtofmkdagehehaaaGreatDoor.tbd Go.Proofs.YtofmkdagehehaaaGreatDoor.tbe
open Go.Proofs.YtofmkdagehehaaaGreatDoor.tbf (okI kind_is)
open Go.Proofs.YtofmkdagehehaaaGreatDoor.cp (own_later)
open Go.Proofs.YtofmkdagehehaaaGreatDoor.tqb (over keyC keyNo spaceT spaceT_size)
open Go.Proofs.YtofmkdagehehaaaGreatDoor.ea Go.Proofs.YtofmkdagehehaaaGreatDoor.eb Go.Proofs.YtofmkdagehehaaaGreatDoor.ec Go.Proofs.YtofmkdagehehaaaGreatDoor.ed Go.Proofs.YtofmkdagehehaaaGreatDoor.ee Go.Proofs.YtofmkdagehehaaaGreatDoor.ef Go.Proofs.YtofmkdagehehaaaGreatDoor.eg Go.Proofs.YtofmkdagehehaaaGreatDoor.eh Go.Proofs.YtofmkdagehehaaaGreatDoor.ei Go.Proofs.YtofmkdagehehaaaGreatDoor.ej Go.Proofs.YtofmkdagehehaaaGreatDoor.ek Go.Proofs.YtofmkdagehehaaaGreatDoor.el Go.Proofs.YtofmkdagehehaaaGreatDoor.ha Go.Proofs.YtofmkdagehehaaaGreatDoor.hb Go.Proofs.YtofmkdagehehaaaGreatDoor.hc Go.Proofs.YtofmkdagehehaaaGreatDoor.hd Go.Proofs.YtofmkdagehehaaaGreatDoor.hf Go.Proofs.YtofmkdagehehaaaGreatDoor.hg Go.Proofs.YtofmkdagehehaaaGreatDoor.hh
open Go.Proofs.YtofmkdagehehaaaGreatDoor.hi
set_option linter.unusedVariables false
set_option linter.unusedSimpArgs false
-- a list stands in every store
theorem st_first (f : Nat → Option ByteArray) : ∀ n, (∀ i, i < n → (f i).isSome = true) ∨ ∃ m, m < n ∧ (∀ i, i < m → (f i).isSome = true) ∧ f m = none := by
  intro n
  induction n with
  | zero => exact .inl (fun i hi => by omega)
  | succ n ih =>
    rcases ih with h | ⟨m, h1, h2, h3⟩
    · cases hf : f n with
      | none => exact .inr ⟨n, by omega, h, hf⟩
      | some x =>
        left
        intro i hi
        rcases Nat.lt_or_ge i n with h' | h'
        · exact h i h'
        · obtain rfl : i = n := by omega
          rw [hf]; rfl
    · exact .inr ⟨m, by omega, h2, h3⟩
theorem st_exists {s : S} {sp : Int} (hs : okI sp) (hl : (now s).length < 4611686018427387904) : ∃ l, IsSt s sp l ∧ l.length ≤ (now s).length := by
  rcases st_first (lf s sp) ((now s).length + 1) with h | ⟨m, h1, h2, h3⟩
  · have := st_bound hs ((now s).length + 1) (by omega) h
    omega
  · refine ⟨(List.range m).map (fun i => (lf s sp i).getD ByteArray.empty), ⟨fun i hi => ?_, ?_⟩, by simp; omega⟩
    · have hi : i < m := by simpa using hi
      rw [List.getElem?_map, List.getElem?_range hi]
      obtain ⟨x, hx⟩ := Option.isSome_iff_exists.1 (h2 i hi)
      show _ = some ((lf s sp i).getD ByteArray.empty)
      rw [hx]; rfl
    · have e : ((List.range m).map (fun i => (lf s sp i).getD ByteArray.empty)).length = m := by simp
      rw [e]; exact h3
-- what was purged once is purged
theorem cuts_stay {s s' : S} {sp : Int} {m : Nat} {cs : List ByteArray} (hs : okI sp) (c : Cuts s s' cs (Dr sp m)) {t : S} (hn : now t = now s') (ho : t.off = false) (ha : t.armed = 0) : purgeS t sp m = (0, t) := by
  have hsrt : Srt (now t) := by rw [hn]; exact c.srt
  obtain ⟨t', ds, e, d⟩ := purge_run hs m ho ha hsrt
  have hnn : now t' = now t := by
    refine ext_get d.srt hsrt (fun k => ?_)
    have : ∀ x, rget k (now t') = some x ↔ rget k (now t) = some x := by
      intro x
      rw [get_some d.srt, get_some hsrt, d.mem]
      constructor
      · exact fun h => h.1
      · intro h
        refine ⟨h, ?_⟩
        rw [hn] at h
        exact ((c.mem _).1 h).2
    cases h1 : rget k (now t') with
    | none =>
      cases h2 : rget k (now t) with
      | none => rfl
      | some x => rw [(this x).2 h2] at h1; cases h1
    | some x => rw [(this x).1 h1]
  have hl := d.len
  rw [hnn] at hl
  have : ds = [] := List.length_eq_zero_iff.1 (by omega)
  rw [e, d.eq, this]
  simp
theorem lf_of {s t : S} {sp : Int} (hs : okI sp) (ho : s.off = false) (ho' : t.off = false) {i : Nat} (hi : okI (i : Int)) (h : rget (keyT sp 1 i) (now s) = rget (keyT sp 1 i) (now t)) : lf s sp i = lf t sp i := by
  unfold lf
  rw [bget_on ho hs one_ok hi, bget_on ho' hs one_ok hi, h]
theorem lf_none {s : S} {sp : Int} {i : Nat} (h : rget (keyT sp 1 i) (now s) = none) : lf s sp i = none := by
  cases hl : lf s sp i with
  | none => rfl
  | some x =>
    have := lf_some (s := s) (sp := sp) (i := i) (by rw [hl]; rfl)
    rw [h] at this
    cases this
theorem st_cuts {s s' t : S} {sp : Int} {l : List ByteArray} {cs : List ByteArray} (hs : okI sp) (h : IsSt s sp l) (hl : l.length < 4611686018427387904) (ho : s.off = false) (hsrt : Srt (now s)) (c : Cuts s s' cs (Dr sp l.length)) (hn : now t = now s') (ho' : t.off = false) : IsSt t sp l := by
  have key : ∀ i : Nat, i ≤ l.length → ∀ d, rget (keyT sp 1 i) (now t) = some d ↔ rget (keyT sp 1 i) (now s) = some d ∧ i < l.length := by
    intro i hi d
    rw [hn, get_some c.srt, get_some hsrt, c.mem]
    have := dr_leaf hs (m := l.length) (i := i) (show okI (i : Int) from ⟨by omega, by omega⟩)
    simp only
    rw [this, Nat.not_le]
  constructor
  · intro i hi
    rw [← h.has i hi]
    refine (lf_of hs ho ho' ⟨by omega, by omega⟩ ?_).symm
    cases h1 : rget (keyT sp 1 i) (now s) with
    | none =>
      cases h2 : rget (keyT sp 1 i) (now t) with
      | none => rfl
      | some x => have := ((key i (by omega) x).1 h2).1; rw [h1] at this; cases this
    | some x => rw [(key i (by omega) x).2 ⟨h1, hi⟩]
  · refine lf_none ?_
    cases h2 : rget (keyT sp 1 l.length) (now t) with
    | none => rfl
    | some x => have := ((key l.length (Nat.le_refl _) x).1 h2).2; omega
-- opened for more leaves than stand there
set_option maxRecDepth 100000 in
set_option maxHeartbeats 6400000 in
theorem OpenLost {g bn bd : Nat} {pv : Value} {s : S} {w : World} (a b c d e f : Int) (sp least : Int) (l : List ByteArray) (h : Sr 0 g bn bd pv s w) (hs : okI sp) (hopt : a = 1 ∧ 1 ≤ b ∧ b ≤ 32) (ho : s.off = false) (hst : IsSt s sp l) (hl : l.length < 1099511627776) (hle : (l.length : Int) < least) :
    Calls Tryz.prog 16 #[.pointer (some ⟨g, 0, none⟩), .agg #[.int .i64 a, .int .i64 b, .int .i64 c, .int .i64 d, .int .i64 e, .int .i64 f], .int .i64 sp, .int .i64 least] w fun r w' => r = .returned (.tuple #[.pointer none, .int .i64 151]) ∧ Below w.heap.size w w' := by
  obtain ⟨W, HW⟩ : ∃ W, Hid (w.alloc (.cells #[.int .i64 a, .int .i64 b, .int .i64 c, .int .i64 d, .int .i64 e, .int .i64 f] 31) = W) := ⟨_, rfl⟩
  have bW : Below w.heap.size w W := by rw [← HW.out]; exact new1 _ _
  have hz : W.heap[w.heap.size]? = some (.cells #[.int .i64 a, .int .i64 b, .int .i64 c, .int .i64 d, .int .i64 e, .int .i64 f] 31 (0, 0)) := by rw [← HW.out]; exact heap_alloc_new w _
  have hzl := (Array.getElem?_eq_some_iff.1 hz).1
  have BW : Hid (Below w.heap.size w W) := bW
  have HFR : Hid (∀ j, w.heap.size ≤ j → ¬ Fr g bn bd pv j) := fun j hj e => by have := (sr_in h j e).1; omega
  have CO : Hid (Calls _ _ _ _ _) := optsC a b c d e f W
  have hok : okO a b = true := decide_eq_true hopt
  rw [hok] at CO
  have CK : Hid (∀ w1, Below W.heap.size W w1 → Calls _ _ _ _ _) := fun w1 bb => kopenYes sp (sr_later h (over bW bb)) hs ho
  have CS : Hid (∀ w1, Below W.heap.size W w1 → Calls _ _ _ _ _) := fun w1 bb => standingC sp s.age l (sr_later h (over bW bb)) hs hst hl
  have z0 := cell_of_row _ _ 0 _ _ _ hz
  have z1 := cell_of_row _ _ 1 _ _ _ hz
  have z2 := cell_of_row _ _ 2 _ _ _ hz
  have z3 := cell_of_row _ _ 3 _ _ _ hz
  have z4 := cell_of_row _ _ 4 _ _ _ hz
  have z5 := cell_of_row _ _ 5 _ _ _ hz
  have HFRS : Hid (∀ w1, Below W.heap.size W w1 → ∀ j, w1.heap.size ≤ j → ¬ Fr g bn bd pv j) := fun w1 bb j hj => HFR.out j (by have := (over bW bb).size; omega)
  have hlt : (l.length : Int) < least := by omega
  clear hl
  generalize s.age = ag at *
  clear h hz hzl bW hok hopt hst hle
  go_enter Tryz.func16, Tryz.ntmps16
  go_upto_region 1 with fail
  rw [HW.out]
  go_upto_region 3 with (first | (go_at_call 35; refine CO.out.mono ?_; rintro _ w1 ⟨rfl, b1⟩; have B1 : Hid (Below W.heap.size W w1) := b1; clear b1) | go_in)
  have C4 : Hid (Calls _ _ _ _ _) := CK.out w1 B1.out
  go_upto_region 6 with (first | (go_at_call 45; refine C4.out.mono ?_; rintro _ w2 ⟨rfl, b2⟩; have B2 : Hid (Below W.heap.size W w2) := over B1.out b2; clear b2) | go_in)
  obtain ⟨V, HV⟩ : ∃ V, Hid (w2.alloc (.cells #[.pointer (some ⟨g, 0, none⟩), .int .i64 sp, .int .i64 (ag : Int)] 81) = V) := ⟨_, rfl⟩
  have bV : Below w2.heap.size w2 V := by rw [← HV.out]; exact new1 _ _
  have hv : V.heap[w2.heap.size]? = some (.cells #[.pointer (some ⟨g, 0, none⟩), .int .i64 sp, .int .i64 (ag : Int)] 81 (0, 0)) := by rw [← HV.out]; exact heap_alloc_new w2 _
  have hvl := (Array.getElem?_eq_some_iff.1 hv).1
  have BV : Hid (Below W.heap.size W V) := over B2.out bV
  have hnF : ¬ Fr g bn bd pv w2.heap.size := HFRS.out w2 B2.out _ (Nat.le_refl _)
  rw [HV.out]
  have v0 := cell_of_row _ _ 0 _ _ _ hv
  have v1 := cell_of_row _ _ 1 _ _ _ hv
  have v2 := cell_of_row _ _ 2 _ _ _ hv
  have C5 : Hid (Calls _ _ _ _ _) := CS.out V BV.out
  clear hv hvl bV hnF
  go_wp2_with (first | (go_at_call 46; refine C5.out.mono ?_; rintro _ w3 ⟨lv, rfl, hrow, b3⟩; have B3 : Hid (Below V.heap.size V w3) := b3; have O3 : Hid (w3.ownsRow V.heap.size 9 1 lv l.length (l.map Value.string)) := hrow; have hvf := own_formS hrow; clear b3 hrow; obtain ⟨la, lc, rfl⟩ := hvf) | go_in)
  go_ret2
  exact ⟨rfl, over BW.out (over BV.out (over B3.out (new1 _ _)))⟩
end Go.Proofs.YtofmkdagehehaaaGreatDoor.ia

namespace Go.Proofs.YtofmkdagehehaaaGreatDoor.ib
open Go.RowKit Go.PlainAid Go.Maps Go.Shelf
open Go.Proofs.YtofmkdagehehaaaGreatDoor.kp Go.Proofs.YtofmkdagehehaaaGreatDoor.ka Go.Proofs.YtofmkdagehehaaaGreatDoor.ya Go.Proofs.YtofmkdagehehaaaGreatDoor.yb Go.Proofs.YtofmkdagehehaaaGreatDoor.yc Go.Proofs.YtofmkdagehehaaaGreatDoor.yd Go.Proofs.YtofmkdagehehaaaGreatDoor.ye Go.Proofs.YtofmkdagehehaaaGreatDoor.yf Go.Proofs.YtofmkdagehehaaaGreatDoor.yg Go.Proofs.YtofmkdagehehaaaGreatDoor.yi Go.Proofs.YtofmkdagehehaaaGreatDoor.yj Go.Proofs.YtofmkdagehehaaaGreatDoor.yk Go.Proofs.YtofmkdagehehaaaGreatDoor.yl Go.Proofs.YtofmkdagehehaaaGreatDoor.ym
open Go.Proofs.YtofmkdagehehaaaGreatDoor.tqa Go.Proofs.YtofmkdagehehaaaGreatDoor.tba Go.Proofs.YtofmkdagehehaaaGreatDoor.tbc Go.Proofs.YtofmkdagehehaaaGreatDoor.tbd Go.Proofs.YtofmkdagehehaaaGreatDoor.tbe
open Go.Proofs.YtofmkdagehehaaaGreatDoor.tbf (okI kind_is)
open Go.Proofs.YtofmkdagehehaaaGreatDoor.cp (own_later i64)
open Go.Proofs.YtofmkdagehehaaaGreatDoor.tqb (over)
open Go.Proofs.YtofmkdagehehaaaGreatDoor.ea Go.Proofs.YtofmkdagehehaaaGreatDoor.eb Go.Proofs.YtofmkdagehehaaaGreatDoor.ec Go.Proofs.YtofmkdagehehaaaGreatDoor.ed Go.Proofs.YtofmkdagehehaaaGreatDoor.ee Go.Proofs.YtofmkdagehehaaaGreatDoor.ef Go.Proofs.YtofmkdagehehaaaGreatDoor.eg Go.Proofs.YtofmkdagehehaaaGreatDoor.eh Go.Proofs.YtofmkdagehehaaaGreatDoor.ei Go.Proofs.YtofmkdagehehaaaGreatDoor.ej Go.Proofs.YtofmkdagehehaaaGreatDoor.ek Go.Proofs.YtofmkdagehehaaaGreatDoor.el Go.Proofs.YtofmkdagehehaaaGreatDoor.ha Go.Proofs.YtofmkdagehehaaaGreatDoor.hb Go.Proofs.YtofmkdagehehaaaGreatDoor.hc Go.Proofs.YtofmkdagehehaaaGreatDoor.hd Go.Proofs.YtofmkdagehehaaaGreatDoor.hf Go.Proofs.YtofmkdagehehaaaGreatDoor.hg Go.Proofs.YtofmkdagehehaaaGreatDoor.hh Go.Proofs.YtofmkdagehehaaaGreatDoor.hi Go.Proofs.YtofmkdagehehaaaGreatDoor.hj
open Go.Proofs.YtofmkdagehehaaaGreatDoor.pj (Tab)
open Go.Proofs.YtofmkdagehehaaaGreatDoor.ia
open Go.Proofs.YtofmkdagehehaaaGreatDoor.tqb (keyC keyNo)
set_option linter.unusedVariables false
set_option linter.unusedSimpArgs false
theorem put9 (w : World) (p : Nat) (a0 a1 a2 a3 a4 a5 a6 a7 a8 x0 x1 x2 x3 x4 x5 x6 x7 x8 : Value) (t : TypeId) (h : w.heap[p]? = some (.cells #[a0, a1, a2, a3, a4, a5, a6, a7, a8] t (0, 0))) :
    ∀ W, W = (((((((((w.setCell ⟨p, 0, none⟩ x0).setCell ⟨p, 1, none⟩ x1).setCell ⟨p, 2, none⟩ x2).setCell ⟨p, 3, none⟩ x3).setCell ⟨p, 4, none⟩ x4).setCell ⟨p, 5, none⟩ x5).setCell ⟨p, 6, none⟩ x6).setCell ⟨p, 7, none⟩ x7).setCell ⟨p, 8, none⟩ x8) → W.heap[p]? = some (.cells #[x0, x1, x2, x3, x4, x5, x6, x7, x8] t (0, 0)) ∧ Kp (fun q => q = p) w W := by
  intro W hW
  obtain ⟨v0, e0⟩ : ∃ v, v = w.setCell ⟨p, 0, none⟩ x0 := ⟨_, rfl⟩
  rw [← e0] at hW
  have h0 : v0.heap[p]? = some (.cells #[x0, a1, a2, a3, a4, a5, a6, a7, a8] t (0, 0)) := by rw [e0]; exact heap_setCell_same _ _ 0 _ _ x0 h
  have k0 : Kp (fun q => q = p) w v0 := by rw [e0]; exact Kp.setCell _ _ _ _ rfl
  clear e0
  obtain ⟨v1, e1⟩ : ∃ v, v = v0.setCell ⟨p, 1, none⟩ x1 := ⟨_, rfl⟩
  rw [← e1] at hW
  have h1 : v1.heap[p]? = some (.cells #[x0, x1, a2, a3, a4, a5, a6, a7, a8] t (0, 0)) := by rw [e1]; exact heap_setCell_same _ _ 1 _ _ x1 h0
  have k1 : Kp (fun q => q = p) v0 v1 := by rw [e1]; exact Kp.setCell _ _ _ _ rfl
  clear e1
  obtain ⟨v2, e2⟩ : ∃ v, v = v1.setCell ⟨p, 2, none⟩ x2 := ⟨_, rfl⟩
  rw [← e2] at hW
  have h2 : v2.heap[p]? = some (.cells #[x0, x1, x2, a3, a4, a5, a6, a7, a8] t (0, 0)) := by rw [e2]; exact heap_setCell_same _ _ 2 _ _ x2 h1
  have k2 : Kp (fun q => q = p) v1 v2 := by rw [e2]; exact Kp.setCell _ _ _ _ rfl
  clear e2
  obtain ⟨v3, e3⟩ : ∃ v, v = v2.setCell ⟨p, 3, none⟩ x3 := ⟨_, rfl⟩
  rw [← e3] at hW
  have h3 : v3.heap[p]? = some (.cells #[x0, x1, x2, x3, a4, a5, a6, a7, a8] t (0, 0)) := by rw [e3]; exact heap_setCell_same _ _ 3 _ _ x3 h2
  have k3 : Kp (fun q => q = p) v2 v3 := by rw [e3]; exact Kp.setCell _ _ _ _ rfl
  clear e3
  obtain ⟨v4, e4⟩ : ∃ v, v = v3.setCell ⟨p, 4, none⟩ x4 := ⟨_, rfl⟩
  rw [← e4] at hW
  have h4 : v4.heap[p]? = some (.cells #[x0, x1, x2, x3, x4, a5, a6, a7, a8] t (0, 0)) := by rw [e4]; exact heap_setCell_same _ _ 4 _ _ x4 h3
  have k4 : Kp (fun q => q = p) v3 v4 := by rw [e4]; exact Kp.setCell _ _ _ _ rfl
  clear e4
  obtain ⟨v5, e5⟩ : ∃ v, v = v4.setCell ⟨p, 5, none⟩ x5 := ⟨_, rfl⟩
  rw [← e5] at hW
  have h5 : v5.heap[p]? = some (.cells #[x0, x1, x2, x3, x4, x5, a6, a7, a8] t (0, 0)) := by rw [e5]; exact heap_setCell_same _ _ 5 _ _ x5 h4
  have k5 : Kp (fun q => q = p) v4 v5 := by rw [e5]; exact Kp.setCell _ _ _ _ rfl
  clear e5
  obtain ⟨v6, e6⟩ : ∃ v, v = v5.setCell ⟨p, 6, none⟩ x6 := ⟨_, rfl⟩
  rw [← e6] at hW
  have h6 : v6.heap[p]? = some (.cells #[x0, x1, x2, x3, x4, x5, x6, a7, a8] t (0, 0)) := by rw [e6]; exact heap_setCell_same _ _ 6 _ _ x6 h5
  have k6 : Kp (fun q => q = p) v5 v6 := by rw [e6]; exact Kp.setCell _ _ _ _ rfl
  clear e6
  obtain ⟨v7, e7⟩ : ∃ v, v = v6.setCell ⟨p, 7, none⟩ x7 := ⟨_, rfl⟩
  rw [← e7] at hW
  have h7 : v7.heap[p]? = some (.cells #[x0, x1, x2, x3, x4, x5, x6, x7, a8] t (0, 0)) := by rw [e7]; exact heap_setCell_same _ _ 7 _ _ x7 h6
  have k7 : Kp (fun q => q = p) v6 v7 := by rw [e7]; exact Kp.setCell _ _ _ _ rfl
  clear e7
  have h8 : W.heap[p]? = some (.cells #[x0, x1, x2, x3, x4, x5, x6, x7, x8] t (0, 0)) := by rw [hW]; exact heap_setCell_same _ _ 8 _ _ x8 h7
  have k8 : Kp (fun q => q = p) v7 W := by rw [hW]; exact Kp.setCell _ _ _ _ rfl
  exact ⟨h8, ((((((((k0.trans k1).trans k2).trans k3).trans k4).trans k5).trans k6).trans k7).trans k8)⟩
theorem nine {w : World} {p : Nat} {x0 x1 x2 x3 x4 x5 x6 x7 x8 : Value} {t : TypeId} (h : w.heap[p]? = some (.cells #[x0, x1, x2, x3, x4, x5, x6, x7, x8] t (0, 0))) : w.cell? ⟨p, 0, none⟩ = some x0 ∧ w.cell? ⟨p, 1, none⟩ = some x1 ∧ w.cell? ⟨p, 2, none⟩ = some x2 ∧ w.cell? ⟨p, 3, none⟩ = some x3 ∧ w.cell? ⟨p, 4, none⟩ = some x4 ∧ w.cell? ⟨p, 5, none⟩ = some x5 ∧ w.cell? ⟨p, 6, none⟩ = some x6 ∧ w.cell? ⟨p, 7, none⟩ = some x7 ∧ w.cell? ⟨p, 8, none⟩ = some x8 :=
  ⟨cell_of_row _ _ 0 _ _ _ h, cell_of_row _ _ 1 _ _ _ h, cell_of_row _ _ 2 _ _ _ h, cell_of_row _ _ 3 _ _ _ h, cell_of_row _ _ 4 _ _ _ h, cell_of_row _ _ 5 _ _ _ h, cell_of_row _ _ 6 _ _ _ h, cell_of_row _ _ 7 _ _ _ h, cell_of_row _ _ 8 _ _ _ h⟩
theorem froz9 {w : World} {p : Nat} {x0 x1 x2 x3 x4 x5 x6 x7 x8 : Value} {t : TypeId} (h : w.heap[p]? = some (.cells #[x0, x1, x2, x3, x4, x5, x6, x7, x8] t (0, 0))) : w.frozen? ⟨p, 0, none⟩ = false ∧ w.frozen? ⟨p, 1, none⟩ = false ∧ w.frozen? ⟨p, 2, none⟩ = false ∧ w.frozen? ⟨p, 3, none⟩ = false ∧ w.frozen? ⟨p, 4, none⟩ = false ∧ w.frozen? ⟨p, 5, none⟩ = false ∧ w.frozen? ⟨p, 6, none⟩ = false ∧ w.frozen? ⟨p, 7, none⟩ = false ∧ w.frozen? ⟨p, 8, none⟩ = false :=
  ⟨frozen_of_row _ _ 0 _ _ h, frozen_of_row _ _ 1 _ _ h, frozen_of_row _ _ 2 _ _ h, frozen_of_row _ _ 3 _ _ h, frozen_of_row _ _ 4 _ _ h, frozen_of_row _ _ 5 _ _ h, frozen_of_row _ _ 6 _ _ h, frozen_of_row _ _ 7 _ _ h, frozen_of_row _ _ 8 _ _ h⟩
theorem rn_wrap {B g bn bd p : Nat} {pv : Value} {s s' : S} {w W1 w2 W : World} (h : Sr B g bn bd pv s w) (b1 : Below w.heap.size w W1) (r : Rn B g bn bd pv s' W1 w2) (k : Kp (fun q => q = p) w2 W) (hp : w.heap.size ≤ p) (hp2 : p < W1.heap.size) : Rn B g bn bd pv s' w W := by
  obtain ⟨pv2, h2, k2, n2⟩ := r
  have key : ∀ j, Fr g bn bd pv2 j → j ≠ p := by
    rintro j (e | e | e | e) rfl
    · have := (sr_in h j (.inl e)).1; omega
    · have := (sr_in h j (.inr (.inl e))).1; omega
    · have := (sr_in h j (.inr (.inr (.inl e)))).1; omega
    · rcases n2 j e with e | e
      · have := (sr_in h j (.inr (.inr (.inr e)))).1; omega
      · omega
  refine ⟨pv2, sr_keep h2 k (fun j hj e => key j hj e), ⟨k.os.trans (k2.os.trans b1.os), k.tape.trans (k2.tape.trans b1.tape), k.output.trans (k2.output.trans b1.output), Nat.le_trans b1.size (Nat.le_trans k2.size k.size), fun j hj hn => ?_⟩, fun j hj => ?_⟩
  · have hs := b1.size
    have hs2 := k2.size
    rw [k.block j (by omega) (by omega), k2.block j (by omega) hn, b1.block j hj]
  · rcases n2 j hj with e | e
    · exact .inl e
    · exact .inr (Nat.le_trans b1.size e)
theorem rn_cells {B g bn bd p : Nat} {pv : Value} {s s' : S} {w W1 w2 : World} {o : Obj} (h : Sr B g bn bd pv s w) (r : Rn B g bn bd pv s' W1 w2) (hp : w.heap.size ≤ p) (ho : W1.heap[p]? = some o) : w2.heap[p]? = some o := by
  obtain ⟨pv2, h2, k2, n2⟩ := r
  rw [k2.block p (Array.getElem?_eq_some_iff.1 ho).1 (fun e => by have := (sr_in h p e).1; omega)]
  exact ho
abbrev Z9 : Array Value := #[.string ⟨#[]⟩, .int .i64 0, .int .i64 0, .int .i64 0, .int .i64 0, .int .i64 0, .int .i64 0, .int .i64 0, .int .i64 0]
-- a step of the law's that puts a record
abbrev opA (k : Int) (lv : Value) (n L I sp : Int) (x : ByteArray) : Array Value := #[.int .i64 k, lv, .int .i64 n, .int .i64 L, .int .i64 I, .int .i64 sp, .string x]
theorem rn_pair {g bn bd Pk : Nat} {pv : Value} {s' : S} {W1 w2 : World} {v : Value} (r : Rn 0 g bn bd pv s' W1 w2) (hF : ¬ Fr g bn bd pv Pk) (hc : W1.cell? ⟨Pk, 7, none⟩ = some v) : w2.cell? ⟨Pk, 7, none⟩ = some v := by
  obtain ⟨pv2, h2, k2, n2⟩ := r
  exact (World.cell?_of_block (a := ⟨Pk, 7, none⟩) (k2.block Pk (World.block_lt_of_cell? _ _ hc) hF)).trans hc
set_option maxRecDepth 100000 in
set_option maxHeartbeats 12800000 in
theorem doPut {g bn bd Pk : Nat} {pv : Value} {s : S} {w : World} (lv : Value) (n L I sp : Int) (x : ByteArray) (h : Sr 0 g bn bd pv s w) (hP : w.cell? ⟨Pk, 7, none⟩ = some (.pointer (some ⟨g, 0, none⟩))) (hPF : ¬ Fr g bn bd pv Pk) (h1 : sp ≤ 9223372036854775807) (n1 : I ≤ 9223372036854775807) (hx : x.size ≤ 140737488355328) (hl : s.dur.length + s.pend.length + 1 < 3518437208883) :
    Calls Tryz.prog 23 #[.pointer (some ⟨Pk, 0, none⟩), .agg (opA 12 lv n L I sp x)] w fun r w' => ∃ v, r = .returned v ∧ Rn 0 g bn bd pv (bputS s sp L I x).2 w w' := by
  obtain ⟨W1, HW⟩ : ∃ W1, Hid ((w.alloc (.cells (opA 12 lv n L I sp x) 59)).alloc (.cells Z9 63) = W1) := ⟨_, rfl⟩
  have B1 : Hid (Below w.heap.size w W1) := by rw [← HW.out]; exact ((Below.refl _ w).alloc (Nat.le_refl _) _).alloc (by simp) _
  have F1 : Hid (W1.heap[w.heap.size + 1]? = some (.cells Z9 63 (0, 0)) ∧ W1.heap.size = w.heap.size + 2 ∧ W1.heap[w.heap.size]? = some (.cells (opA 12 lv n L I sp x) 59 (0, 0))) := by
    rw [← HW.out]
    have h1 := heap_alloc_new (w.alloc (.cells (opA 12 lv n L I sp x) 59)) (.cells Z9 63)
    have h2 := heap_alloc_old (w.alloc (.cells (opA 12 lv n L I sp x) 59)) (.cells Z9 63) (r := w.heap.size) (by simp)
    have e : (w.alloc (.cells (opA 12 lv n L I sp x) 59)).heap.size = w.heap.size + 1 := by simp
    rw [e] at h1
    exact ⟨h1, by simp, h2.trans (heap_alloc_new w _)⟩
  obtain ⟨Q, HQ⟩ : ∃ Q, Hid (w.heap.size = Q) := ⟨_, rfl⟩
  have BD : Hid (Below w.heap.size w W1.drew) := ⟨B1.out.os, B1.out.tape, B1.out.output, B1.out.size, B1.out.block⟩
  have H : Hid (Sr 0 g bn bd pv s w) := h
  have H1 : Hid (Sr 0 g bn bd pv s W1.drew) := sr_later h BD.out
  have HPF : Hid (¬ Fr g bn bd pv Pk) := hPF
  have cP : W1.cell? ⟨Pk, 7, none⟩ = some (.pointer (some ⟨g, 0, none⟩)) := (B1.out.cell (World.block_lt_of_cell? _ _ hP)).trans hP
  have fq := F1.out.2.2
  rw [HQ.out] at fq
  have q0 := cell_of_row _ _ 0 _ _ _ fq
  have q1 := cell_of_row _ _ 1 _ _ _ fq
  have q2 := cell_of_row _ _ 2 _ _ _ fq
  have q3 := cell_of_row _ _ 3 _ _ _ fq
  have q4 := cell_of_row _ _ 4 _ _ _ fq
  have q5 := cell_of_row _ _ 5 _ _ _ fq
  have q6 := cell_of_row _ _ 6 _ _ _ fq
  have SV : Hid (∀ V, Below W1.heap.size W1 V → (V.cell? ⟨Pk, 7, none⟩ = some (.pointer (some ⟨g, 0, none⟩)) ∧ V.cell? ⟨Q, 3, none⟩ = some (.int .i64 L) ∧ V.cell? ⟨Q, 4, none⟩ = some (.int .i64 I) ∧ V.cell? ⟨Q, 5, none⟩ = some (.int .i64 sp) ∧ V.cell? ⟨Q, 6, none⟩ = some (.string x))) := fun V bb => by
    have kk : ∀ {p : Addr} {v : Value}, W1.cell? p = some v → V.cell? p = some v := fun h => (bb.cell (World.block_lt_of_cell? _ _ h)).trans h
    exact ⟨kk cP, kk q3, kk q4, kk q5, kk q6⟩
  have FF : Hid (∀ V w2 s', Below W1.heap.size W1 V → Rn 0 g bn bd pv s' V w2 → w2.heap[Q + 1]? = some (.cells Z9 63 (0, 0)) ∧ (w2.cell? ⟨Pk, 7, none⟩ = some (.pointer (some ⟨g, 0, none⟩)) ∧ w2.cell? ⟨Q, 3, none⟩ = some (.int .i64 L) ∧ w2.cell? ⟨Q, 4, none⟩ = some (.int .i64 I) ∧ w2.cell? ⟨Q, 5, none⟩ = some (.int .i64 sp) ∧ w2.cell? ⟨Q, 6, none⟩ = some (.string x))) := fun V w2 s' bb r => by
    have hh := sr_in H.out
    have fqV := (bb.block _ (Array.getElem?_eq_some_iff.1 fq).1).trans fq
    have fgV := (bb.block _ (Array.getElem?_eq_some_iff.1 F1.out.1).1).trans F1.out.1
    have fq2 := rn_cells H.out r (p := Q) (by rw [← HQ.out]; exact Nat.le_refl _) fqV
    exact ⟨rn_cells H.out r (by rw [← HQ.out]; omega) (by rw [← HQ.out]; exact fgV), rn_pair r HPF.out ((bb.cell (World.block_lt_of_cell? _ _ cP)).trans cP), cell_of_row _ _ 3 _ _ _ fq2, cell_of_row _ _ 4 _ _ _ fq2, cell_of_row _ _ 5 _ _ _ fq2, cell_of_row _ _ 6 _ _ _ fq2⟩
  have FIN0 : Hid (∀ V w2 s' W', Below W1.heap.size W1 V → Rn 0 g bn bd pv s' V w2 → Kp (fun q => q = Q + 1) w2 W' → Rn 0 g bn bd pv s' w W') := fun V w2 s' W' bb r k => rn_wrap H.out (over B1.out bb) r k (by rw [← HQ.out]; omega) (by have := F1.out.2.1; have := bb.size; rw [← HQ.out]; omega)
  have BDD : Hid (Below W1.heap.size W1 W1.drew) := ⟨rfl, rfl, rfl, Nat.le_refl _, fun _ _ => rfl⟩
  have S1 : Hid (W1.drew.cell? ⟨Pk, 7, none⟩ = some (.pointer (some ⟨g, 0, none⟩)) ∧ W1.drew.cell? ⟨Q, 3, none⟩ = some (.int .i64 L) ∧ W1.drew.cell? ⟨Q, 4, none⟩ = some (.int .i64 I) ∧ W1.drew.cell? ⟨Q, 5, none⟩ = some (.int .i64 sp) ∧ W1.drew.cell? ⟨Q, 6, none⟩ = some (.string x)) := SV.out _ BDD.out
  have CC : Hid (Calls _ _ _ _ _) := bputC sp L I x H1.out h1 n1 hl (Nat.zero_le _)
  have BV : Hid _ := BDD.out
  clear h hP hPF fq
  go_enter Tryz.func23, Tryz.ntmps23
  go_upto_region 1 with fail
  try rw [HW.out]
  try rw [HQ.out]
  go_upto_region 27 with fail
  go_region_held3 (fun w' => w'.cell? ⟨Pk, 7, none⟩ = some (.pointer (some ⟨g, 0, none⟩)) ∧ w'.cell? ⟨Q, 3, none⟩ = some (.int .i64 L) ∧ w'.cell? ⟨Q, 4, none⟩ = some (.int .i64 I) ∧ w'.cell? ⟨Q, 5, none⟩ = some (.int .i64 sp) ∧ w'.cell? ⟨Q, 6, none⟩ = some (.string x)) (first | exact S1.out | exact S2.out) (first | (go_at_call 54; refine CC.out.mono ?_; rintro _ w2 ⟨rfl, r2⟩; have R2 : Hid (Rn 0 g bn bd pv (bputS s sp L I x).2 _ w2) := r2; have F2 : Hid _ := FF.out _ w2 _ BV.out r2; have S2 : Hid (w2.cell? ⟨Pk, 7, none⟩ = some (.pointer (some ⟨g, 0, none⟩)) ∧ w2.cell? ⟨Q, 3, none⟩ = some (.int .i64 L) ∧ w2.cell? ⟨Q, 4, none⟩ = some (.int .i64 I) ∧ w2.cell? ⟨Q, 5, none⟩ = some (.int .i64 sp) ∧ w2.cell? ⟨Q, 6, none⟩ = some (.string x)) := F2.out.2; obtain ⟨d0, d1, d2, d3, d4, d5, d6, d7, d8⟩ := nine F2.out.1; obtain ⟨g0, g1, g2, g3, g4, g5, g6, g7, g8⟩ := froz9 F2.out.1; have FIN : Hid (∀ W', W' = _ → _) := put9 w2 (Q + 1) _ _ _ _ _ _ _ _ _ (.string ⟨#[]⟩) (.int .i64 (bputS s sp L I x).1) (.int .i64 0) (.int .i64 0) (.int .i64 0) (.int .i64 0) (.int .i64 0) (.int .i64 0) (.int .i64 0) _ F2.out.1; clear r2 F2))
  all_goals
    go_wp2_with fail
    obtain ⟨G, hk2⟩ := FIN.out _ rfl
    obtain ⟨e0, e1, e2, e3, e4, e5, e6, e7, e8⟩ := nine G
    refine bodyPost_ret (by simp [results, Tryz.results23, go_sem, e0, e1, e2, e3, e4, e5, e6, e7, e8]; try rfl) rfl ?_
    exact ⟨_, rfl, FIN0.out _ _ _ _ BV.out R2.out hk2⟩
set_option maxRecDepth 100000 in
set_option maxHeartbeats 12800000 in
theorem doRaw {g bn bd Pk : Nat} {pv : Value} {s : S} {w : World} (lv : Value) (n L I sp : Int) (x : ByteArray) (h : Sr 0 g bn bd pv s w) (hP : w.cell? ⟨Pk, 7, none⟩ = some (.pointer (some ⟨g, 0, none⟩))) (hPF : ¬ Fr g bn bd pv Pk) (h1 : sp ≤ 9223372036854775807) (n1 : I ≤ 9223372036854775807) (hx : x.size ≤ 140737488355328) (hl : s.dur.length + s.pend.length + 1 < 3518437208883) (hk : 0 ≤ sp ∧ 1 ≤ L ∧ L ≤ 255 ∧ 0 ≤ I) :
    Calls Tryz.prog 23 #[.pointer (some ⟨Pk, 0, none⟩), .agg (opA 13 lv n L I sp x)] w fun r w' => ∃ v, r = .returned v ∧ Rn 0 g bn bd pv (putS s (keyT sp L I) x).2 w w' := by
  obtain ⟨ky, HKY⟩ : ∃ ky, Hid (keyT sp L I = ky) := ⟨_, rfl⟩
  have hks : ky.size = 18 := by rw [← HKY.out]; exact keyT_size _ _ _
  obtain ⟨W1, HW⟩ : ∃ W1, Hid ((w.alloc (.cells (opA 13 lv n L I sp x) 59)).alloc (.cells Z9 63) = W1) := ⟨_, rfl⟩
  have B1 : Hid (Below w.heap.size w W1) := by rw [← HW.out]; exact ((Below.refl _ w).alloc (Nat.le_refl _) _).alloc (by simp) _
  have F1 : Hid (W1.heap[w.heap.size + 1]? = some (.cells Z9 63 (0, 0)) ∧ W1.heap.size = w.heap.size + 2 ∧ W1.heap[w.heap.size]? = some (.cells (opA 13 lv n L I sp x) 59 (0, 0))) := by
    rw [← HW.out]
    have h1 := heap_alloc_new (w.alloc (.cells (opA 13 lv n L I sp x) 59)) (.cells Z9 63)
    have h2 := heap_alloc_old (w.alloc (.cells (opA 13 lv n L I sp x) 59)) (.cells Z9 63) (r := w.heap.size) (by simp)
    have e : (w.alloc (.cells (opA 13 lv n L I sp x) 59)).heap.size = w.heap.size + 1 := by simp
    rw [e] at h1
    exact ⟨h1, by simp, h2.trans (heap_alloc_new w _)⟩
  obtain ⟨Q, HQ⟩ : ∃ Q, Hid (w.heap.size = Q) := ⟨_, rfl⟩
  have BD : Hid (Below w.heap.size w W1.drew) := ⟨B1.out.os, B1.out.tape, B1.out.output, B1.out.size, B1.out.block⟩
  have H : Hid (Sr 0 g bn bd pv s w) := h
  have H1 : Hid (Sr 0 g bn bd pv s W1.drew) := sr_later h BD.out
  have HPF : Hid (¬ Fr g bn bd pv Pk) := hPF
  have cP : W1.cell? ⟨Pk, 7, none⟩ = some (.pointer (some ⟨g, 0, none⟩)) := (B1.out.cell (World.block_lt_of_cell? _ _ hP)).trans hP
  have fq := F1.out.2.2
  rw [HQ.out] at fq
  have q0 := cell_of_row _ _ 0 _ _ _ fq
  have q1 := cell_of_row _ _ 1 _ _ _ fq
  have q2 := cell_of_row _ _ 2 _ _ _ fq
  have q3 := cell_of_row _ _ 3 _ _ _ fq
  have q4 := cell_of_row _ _ 4 _ _ _ fq
  have q5 := cell_of_row _ _ 5 _ _ _ fq
  have q6 := cell_of_row _ _ 6 _ _ _ fq
  have SV : Hid (∀ V, Below W1.heap.size W1 V → (V.cell? ⟨Pk, 7, none⟩ = some (.pointer (some ⟨g, 0, none⟩)) ∧ V.cell? ⟨Q, 3, none⟩ = some (.int .i64 L) ∧ V.cell? ⟨Q, 4, none⟩ = some (.int .i64 I) ∧ V.cell? ⟨Q, 5, none⟩ = some (.int .i64 sp) ∧ V.cell? ⟨Q, 6, none⟩ = some (.string x))) := fun V bb => by
    have kk : ∀ {p : Addr} {v : Value}, W1.cell? p = some v → V.cell? p = some v := fun h => (bb.cell (World.block_lt_of_cell? _ _ h)).trans h
    exact ⟨kk cP, kk q3, kk q4, kk q5, kk q6⟩
  have FF : Hid (∀ V w2 s', Below W1.heap.size W1 V → Rn 0 g bn bd pv s' V w2 → w2.heap[Q + 1]? = some (.cells Z9 63 (0, 0)) ∧ (w2.cell? ⟨Pk, 7, none⟩ = some (.pointer (some ⟨g, 0, none⟩)) ∧ w2.cell? ⟨Q, 3, none⟩ = some (.int .i64 L) ∧ w2.cell? ⟨Q, 4, none⟩ = some (.int .i64 I) ∧ w2.cell? ⟨Q, 5, none⟩ = some (.int .i64 sp) ∧ w2.cell? ⟨Q, 6, none⟩ = some (.string x))) := fun V w2 s' bb r => by
    have hh := sr_in H.out
    have fqV := (bb.block _ (Array.getElem?_eq_some_iff.1 fq).1).trans fq
    have fgV := (bb.block _ (Array.getElem?_eq_some_iff.1 F1.out.1).1).trans F1.out.1
    have fq2 := rn_cells H.out r (p := Q) (by rw [← HQ.out]; exact Nat.le_refl _) fqV
    exact ⟨rn_cells H.out r (by rw [← HQ.out]; omega) (by rw [← HQ.out]; exact fgV), rn_pair r HPF.out ((bb.cell (World.block_lt_of_cell? _ _ cP)).trans cP), cell_of_row _ _ 3 _ _ _ fq2, cell_of_row _ _ 4 _ _ _ fq2, cell_of_row _ _ 5 _ _ _ fq2, cell_of_row _ _ 6 _ _ _ fq2⟩
  have FIN0 : Hid (∀ V w2 s' W', Below W1.heap.size W1 V → Rn 0 g bn bd pv s' V w2 → Kp (fun q => q = Q + 1) w2 W' → Rn 0 g bn bd pv s' w W') := fun V w2 s' W' bb r k => rn_wrap H.out (over B1.out bb) r k (by rw [← HQ.out]; omega) (by have := F1.out.2.1; have := bb.size; rw [← HQ.out]; omega)
  have BDD : Hid (Below W1.heap.size W1 W1.drew) := ⟨rfl, rfl, rfl, Nat.le_refl _, fun _ _ => rfl⟩
  have S1 : Hid (W1.drew.cell? ⟨Pk, 7, none⟩ = some (.pointer (some ⟨g, 0, none⟩)) ∧ W1.drew.cell? ⟨Q, 3, none⟩ = some (.int .i64 L) ∧ W1.drew.cell? ⟨Q, 4, none⟩ = some (.int .i64 I) ∧ W1.drew.cell? ⟨Q, 5, none⟩ = some (.int .i64 sp) ∧ W1.drew.cell? ⟨Q, 6, none⟩ = some (.string x)) := SV.out _ BDD.out
  have CK : Hid (Calls _ _ _ _ _) := keyC sp L I W1 hk.1 h1 hk.2.1 hk.2.2.1 hk.2.2.2 n1
  rw [HKY.out] at CK ⊢
  have CC : Hid (∀ w1, Below W1.heap.size W1 w1 → Calls _ _ _ _ _) := fun w1 bb => putC ky x (sr_later H.out (over B1.out bb)) (by omega) hx hl (Nat.zero_le _)
  clear h hP hPF fq
  go_enter Tryz.func23, Tryz.ntmps23
  go_upto_region 1 with fail
  try rw [HW.out]
  try rw [HQ.out]
  go_upto_region 31 with (first | (go_at_call 55; refine CK.out.mono ?_; rintro _ wk ⟨rfl, bk⟩; have BK : Hid (Below W1.heap.size W1 wk) := bk; clear bk) | go_in)
  have BV : Hid (Below W1.heap.size W1 wk.drew) := ⟨BK.out.os, BK.out.tape, BK.out.output, BK.out.size, BK.out.block⟩
  have S1k : Hid (wk.drew.cell? ⟨Pk, 7, none⟩ = some (.pointer (some ⟨g, 0, none⟩)) ∧ wk.drew.cell? ⟨Q, 3, none⟩ = some (.int .i64 L) ∧ wk.drew.cell? ⟨Q, 4, none⟩ = some (.int .i64 I) ∧ wk.drew.cell? ⟨Q, 5, none⟩ = some (.int .i64 sp) ∧ wk.drew.cell? ⟨Q, 6, none⟩ = some (.string x)) := SV.out _ BV.out
  have C5 : Hid (Calls _ _ _ _ _) := CC.out _ BV.out
  go_upto_region 32 with fail
  go_region_held3 (fun w' => w'.cell? ⟨Pk, 7, none⟩ = some (.pointer (some ⟨g, 0, none⟩)) ∧ w'.cell? ⟨Q, 3, none⟩ = some (.int .i64 L) ∧ w'.cell? ⟨Q, 4, none⟩ = some (.int .i64 I) ∧ w'.cell? ⟨Q, 5, none⟩ = some (.int .i64 sp) ∧ w'.cell? ⟨Q, 6, none⟩ = some (.string x)) (first | exact S1k.out | exact S2.out) (first | (go_at_call 56; refine C5.out.mono ?_; rintro _ w2 ⟨rfl, r2⟩; have R2 : Hid (Rn 0 g bn bd pv (putS s ky x).2 _ w2) := r2; have F2 : Hid _ := FF.out _ w2 _ BV.out r2; have S2 : Hid (w2.cell? ⟨Pk, 7, none⟩ = some (.pointer (some ⟨g, 0, none⟩)) ∧ w2.cell? ⟨Q, 3, none⟩ = some (.int .i64 L) ∧ w2.cell? ⟨Q, 4, none⟩ = some (.int .i64 I) ∧ w2.cell? ⟨Q, 5, none⟩ = some (.int .i64 sp) ∧ w2.cell? ⟨Q, 6, none⟩ = some (.string x)) := F2.out.2; obtain ⟨d0, d1, d2, d3, d4, d5, d6, d7, d8⟩ := nine F2.out.1; obtain ⟨g0, g1, g2, g3, g4, g5, g6, g7, g8⟩ := froz9 F2.out.1; have FIN : Hid (∀ W', W' = _ → _) := put9 w2 (Q + 1) _ _ _ _ _ _ _ _ _ (.string ⟨#[]⟩) (.int .i64 (putS s ky x).1) (.int .i64 0) (.int .i64 0) (.int .i64 0) (.int .i64 0) (.int .i64 0) (.int .i64 0) (.int .i64 0) _ F2.out.1; clear r2 F2))
  all_goals
    go_wp2_with fail
    obtain ⟨G, hk2⟩ := FIN.out _ rfl
    obtain ⟨e0, e1, e2, e3, e4, e5, e6, e7, e8⟩ := nine G
    refine bodyPost_ret (by simp [results, Tryz.results23, go_sem, e0, e1, e2, e3, e4, e5, e6, e7, e8]; try rfl) rfl ?_
    exact ⟨_, rfl, FIN0.out _ _ _ _ BV.out R2.out hk2⟩
set_option maxRecDepth 100000 in
set_option maxHeartbeats 12800000 in
theorem doRawNo {g bn bd Pk : Nat} {pv : Value} {s : S} {w : World} (lv : Value) (n L I sp : Int) (x : ByteArray) (h : Sr 0 g bn bd pv s w) (hP : w.cell? ⟨Pk, 7, none⟩ = some (.pointer (some ⟨g, 0, none⟩))) (hPF : ¬ Fr g bn bd pv Pk) (h1 : sp ≤ 9223372036854775807) (n1 : I ≤ 9223372036854775807) (hx : x.size ≤ 140737488355328) (hl : s.dur.length + s.pend.length + 1 < 3518437208883) (hk : ¬ (0 ≤ sp ∧ 1 ≤ L ∧ L ≤ 255 ∧ 0 ≤ I)) :
    Calls Tryz.prog 23 #[.pointer (some ⟨Pk, 0, none⟩), .agg (opA 13 lv n L I sp x)] w fun r w' => ∃ v, r = .returned v ∧ Rn 0 g bn bd pv s w w' := by
  obtain ⟨W1, HW⟩ : ∃ W1, Hid ((w.alloc (.cells (opA 13 lv n L I sp x) 59)).alloc (.cells Z9 63) = W1) := ⟨_, rfl⟩
  have B1 : Hid (Below w.heap.size w W1) := by rw [← HW.out]; exact ((Below.refl _ w).alloc (Nat.le_refl _) _).alloc (by simp) _
  have F1 : Hid (W1.heap[w.heap.size + 1]? = some (.cells Z9 63 (0, 0)) ∧ W1.heap.size = w.heap.size + 2 ∧ W1.heap[w.heap.size]? = some (.cells (opA 13 lv n L I sp x) 59 (0, 0))) := by
    rw [← HW.out]
    have h1 := heap_alloc_new (w.alloc (.cells (opA 13 lv n L I sp x) 59)) (.cells Z9 63)
    have h2 := heap_alloc_old (w.alloc (.cells (opA 13 lv n L I sp x) 59)) (.cells Z9 63) (r := w.heap.size) (by simp)
    have e : (w.alloc (.cells (opA 13 lv n L I sp x) 59)).heap.size = w.heap.size + 1 := by simp
    rw [e] at h1
    exact ⟨h1, by simp, h2.trans (heap_alloc_new w _)⟩
  obtain ⟨Q, HQ⟩ : ∃ Q, Hid (w.heap.size = Q) := ⟨_, rfl⟩
  have BD : Hid (Below w.heap.size w W1.drew) := ⟨B1.out.os, B1.out.tape, B1.out.output, B1.out.size, B1.out.block⟩
  have H : Hid (Sr 0 g bn bd pv s w) := h
  have H1 : Hid (Sr 0 g bn bd pv s W1.drew) := sr_later h BD.out
  have HPF : Hid (¬ Fr g bn bd pv Pk) := hPF
  have cP : W1.cell? ⟨Pk, 7, none⟩ = some (.pointer (some ⟨g, 0, none⟩)) := (B1.out.cell (World.block_lt_of_cell? _ _ hP)).trans hP
  have fq := F1.out.2.2
  rw [HQ.out] at fq
  have q0 := cell_of_row _ _ 0 _ _ _ fq
  have q1 := cell_of_row _ _ 1 _ _ _ fq
  have q2 := cell_of_row _ _ 2 _ _ _ fq
  have q3 := cell_of_row _ _ 3 _ _ _ fq
  have q4 := cell_of_row _ _ 4 _ _ _ fq
  have q5 := cell_of_row _ _ 5 _ _ _ fq
  have q6 := cell_of_row _ _ 6 _ _ _ fq
  have SV : Hid (∀ V, Below W1.heap.size W1 V → (V.cell? ⟨Pk, 7, none⟩ = some (.pointer (some ⟨g, 0, none⟩)) ∧ V.cell? ⟨Q, 3, none⟩ = some (.int .i64 L) ∧ V.cell? ⟨Q, 4, none⟩ = some (.int .i64 I) ∧ V.cell? ⟨Q, 5, none⟩ = some (.int .i64 sp) ∧ V.cell? ⟨Q, 6, none⟩ = some (.string x))) := fun V bb => by
    have kk : ∀ {p : Addr} {v : Value}, W1.cell? p = some v → V.cell? p = some v := fun h => (bb.cell (World.block_lt_of_cell? _ _ h)).trans h
    exact ⟨kk cP, kk q3, kk q4, kk q5, kk q6⟩
  have FF : Hid (∀ V w2 s', Below W1.heap.size W1 V → Rn 0 g bn bd pv s' V w2 → w2.heap[Q + 1]? = some (.cells Z9 63 (0, 0)) ∧ (w2.cell? ⟨Pk, 7, none⟩ = some (.pointer (some ⟨g, 0, none⟩)) ∧ w2.cell? ⟨Q, 3, none⟩ = some (.int .i64 L) ∧ w2.cell? ⟨Q, 4, none⟩ = some (.int .i64 I) ∧ w2.cell? ⟨Q, 5, none⟩ = some (.int .i64 sp) ∧ w2.cell? ⟨Q, 6, none⟩ = some (.string x))) := fun V w2 s' bb r => by
    have hh := sr_in H.out
    have fqV := (bb.block _ (Array.getElem?_eq_some_iff.1 fq).1).trans fq
    have fgV := (bb.block _ (Array.getElem?_eq_some_iff.1 F1.out.1).1).trans F1.out.1
    have fq2 := rn_cells H.out r (p := Q) (by rw [← HQ.out]; exact Nat.le_refl _) fqV
    exact ⟨rn_cells H.out r (by rw [← HQ.out]; omega) (by rw [← HQ.out]; exact fgV), rn_pair r HPF.out ((bb.cell (World.block_lt_of_cell? _ _ cP)).trans cP), cell_of_row _ _ 3 _ _ _ fq2, cell_of_row _ _ 4 _ _ _ fq2, cell_of_row _ _ 5 _ _ _ fq2, cell_of_row _ _ 6 _ _ _ fq2⟩
  have FIN0 : Hid (∀ V w2 s' W', Below W1.heap.size W1 V → Rn 0 g bn bd pv s' V w2 → Kp (fun q => q = Q + 1) w2 W' → Rn 0 g bn bd pv s' w W') := fun V w2 s' W' bb r k => rn_wrap H.out (over B1.out bb) r k (by rw [← HQ.out]; omega) (by have := F1.out.2.1; have := bb.size; rw [← HQ.out]; omega)
  have BDD : Hid (Below W1.heap.size W1 W1.drew) := ⟨rfl, rfl, rfl, Nat.le_refl _, fun _ _ => rfl⟩
  have S1 : Hid (W1.drew.cell? ⟨Pk, 7, none⟩ = some (.pointer (some ⟨g, 0, none⟩)) ∧ W1.drew.cell? ⟨Q, 3, none⟩ = some (.int .i64 L) ∧ W1.drew.cell? ⟨Q, 4, none⟩ = some (.int .i64 I) ∧ W1.drew.cell? ⟨Q, 5, none⟩ = some (.int .i64 sp) ∧ W1.drew.cell? ⟨Q, 6, none⟩ = some (.string x)) := SV.out _ BDD.out
  have CK : Hid (Calls _ _ _ _ _) := keyNo sp L I W1 hk
  have BV : Hid (Below W1.heap.size W1 W1) := Below.refl _ _
  have R1 : Hid (Rn 0 g bn bd pv s W1 W1) := Rn.refl (sr_later h B1.out)
  clear h hP hPF fq
  go_enter Tryz.func23, Tryz.ntmps23
  go_upto_region 1 with fail
  try rw [HW.out]
  try rw [HQ.out]
  have r2 := R1.out
  obtain ⟨w2, hw2⟩ : ∃ w2, Hid (w2 = W1) := ⟨_, rfl⟩
  have r2' : Rn 0 g bn bd pv s W1 w2 := by rw [hw2.out]; exact r2
  clear r2
  have F2 : Hid _ := FF.out W1 W1 _ BV.out R1.out
  obtain ⟨d0, d1, d2, d3, d4, d5, d6, d7, d8⟩ := nine F2.out.1
  obtain ⟨g0, g1, g2, g3, g4, g5, g6, g7, g8⟩ := froz9 F2.out.1
  have R2 : Hid (Rn 0 g bn bd pv s W1 W1) := R1.out
  have FIN : Hid (∀ W', W' = _ → _) := put9 W1 (Q + 1) _ _ _ _ _ _ _ _ _ (.string ⟨#[]⟩) (.int .i64 10) (.int .i64 0) (.int .i64 0) (.int .i64 0) (.int .i64 0) (.int .i64 0) (.int .i64 0) (.int .i64 0) _ F2.out.1
  clear F2 r2' hw2
  go_wp2_with (first | (go_at_call 55; refine CK.out.mono ?_; rintro _ _ ⟨rfl, hw⟩; rw [hw]; clear hw) | go_in)
  obtain ⟨G, hk2⟩ := FIN.out _ rfl
  obtain ⟨e0, e1, e2, e3, e4, e5, e6, e7, e8⟩ := nine G
  refine bodyPost_ret (by simp [results, Tryz.results23, go_sem, e0, e1, e2, e3, e4, e5, e6, e7, e8]; try rfl) rfl ?_
  exact ⟨_, rfl, FIN0.out _ _ _ _ BV.out R2.out hk2⟩
end Go.Proofs.YtofmkdagehehaaaGreatDoor.ib

namespace Go.Proofs.YtofmkdagehehaaaGreatDoor.ic
open Go.RowKit Go.PlainAid Go.Maps Go.Shelf
open Go.Proofs.YtofmkdagehehaaaGreatDoor.kp Go.Proofs.YtofmkdagehehaaaGreatDoor.ka Go.Proofs.YtofmkdagehehaaaGreatDoor.ya Go.Proofs.YtofmkdagehehaaaGreatDoor.yb Go.Proofs.YtofmkdagehehaaaGreatDoor.yc Go.Proofs.YtofmkdagehehaaaGreatDoor.yd Go.Proofs.YtofmkdagehehaaaGreatDoor.ye Go.Proofs.YtofmkdagehehaaaGreatDoor.yf Go.Proofs.YtofmkdagehehaaaGreatDoor.yg Go.Proofs.YtofmkdagehehaaaGreatDoor.yi Go.Proofs.YtofmkdagehehaaaGreatDoor.yj Go.Proofs.YtofmkdagehehaaaGreatDoor.yk Go.Proofs.YtofmkdagehehaaaGreatDoor.yl Go.Proofs.YtofmkdagehehaaaGreatDoor.ym
open Go.Proofs.YtofmkdagehehaaaGreatDoor.tqa Go.Proofs.YtofmkdagehehaaaGreatDoor.tba Go.Proofs.YtofmkdagehehaaaGreatDoor.tbc Go.Proofs.YtofmkdagehehaaaGreatDoor.tbd Go.Proofs.YtofmkdagehehaaaGreatDoor.tbe
open Go.Proofs.YtofmkdagehehaaaGreatDoor.tbf (okI kind_is)
open Go.Proofs.YtofmkdagehehaaaGreatDoor.cp (own_later i64)
open Go.Proofs.YtofmkdagehehaaaGreatDoor.tqb (over)
open Go.Proofs.YtofmkdagehehaaaGreatDoor.ea Go.Proofs.YtofmkdagehehaaaGreatDoor.eb Go.Proofs.YtofmkdagehehaaaGreatDoor.ec Go.Proofs.YtofmkdagehehaaaGreatDoor.ed Go.Proofs.YtofmkdagehehaaaGreatDoor.ee Go.Proofs.YtofmkdagehehaaaGreatDoor.ef Go.Proofs.YtofmkdagehehaaaGreatDoor.eg Go.Proofs.YtofmkdagehehaaaGreatDoor.eh Go.Proofs.YtofmkdagehehaaaGreatDoor.ei Go.Proofs.YtofmkdagehehaaaGreatDoor.ej Go.Proofs.YtofmkdagehehaaaGreatDoor.ek Go.Proofs.YtofmkdagehehaaaGreatDoor.el Go.Proofs.YtofmkdagehehaaaGreatDoor.ha Go.Proofs.YtofmkdagehehaaaGreatDoor.hb Go.Proofs.YtofmkdagehehaaaGreatDoor.hc Go.Proofs.YtofmkdagehehaaaGreatDoor.hd Go.Proofs.YtofmkdagehehaaaGreatDoor.hf Go.Proofs.YtofmkdagehehaaaGreatDoor.hg Go.Proofs.YtofmkdagehehaaaGreatDoor.hh Go.Proofs.YtofmkdagehehaaaGreatDoor.hi Go.Proofs.YtofmkdagehehaaaGreatDoor.hj
open Go.Proofs.YtofmkdagehehaaaGreatDoor.pj (Tab)
open Go.Proofs.YtofmkdagehehaaaGreatDoor.hi Go.Proofs.YtofmkdagehehaaaGreatDoor.hk Go.Proofs.YtofmkdagehehaaaGreatDoor.hm Go.Proofs.YtofmkdagehehaaaGreatDoor.hn Go.Proofs.YtofmkdagehehaaaGreatDoor.ho Go.Proofs.YtofmkdagehehaaaGreatDoor.hp Go.Proofs.YtofmkdagehehaaaGreatDoor.hq Go.Proofs.YtofmkdagehehaaaGreatDoor.ia Go.Proofs.YtofmkdagehehaaaGreatDoor.ib
open Go.Proofs.YtofmkdagehehaaaGreatDoor.yo (isz)
open Go.Proofs.YtofmkdagehehaaaGreatDoor.yp (imageT imageC)
set_option linter.unusedVariables false
set_option linter.unusedSimpArgs false
section
variable {τ : Type} {U : Thg τ} {t : τ} {ge g bn bd B : Nat} {s : S} {e : E} {w0 w : World} {l : List (Value × List ByteArray)}
-- the list that an engine tells
set_option maxRecDepth 100000 in
set_option maxHeartbeats 6400000 in
theorem toldB (h : One (pairO (EnO ge g bn bd) (pairO RowsO U)) B ((s, e), (l, t)) w0 w) (hg : gone s e = false) (m : Nat) (HM : Hid (e.l.length = m)) (hm : m ≤ 30000000) :
    Calls Tryz.prog 20 #[.pointer (some ⟨ge, 0, none⟩)] w fun r w' => ∃ a c, r = .returned (.slice a m c) ∧ One (pairO (EnO ge g bn bd) (pairO RowsO U)) B ((s, e), ((.slice a m c, e.l) :: l, t)) w0 w' := by
  have CS : Hid (∀ w1 l1, One (pairO (EnO ge g bn bd) (pairO RowsO U)) B ((s, e), (l1, t)) w0 w1 → Calls Tryz.prog 21 #[.pointer (some ⟨ge, 0, none⟩)] w1 fun r w' => r = .returned (.int .i64 (m : Nat)) ∧ w' = w1) := fun w1 l1 hh => by
    have C := pSize hh
    rw [HM.out] at C
    exact C
  have CL : Hid (∀ w1 l1 (i : Nat) x, One (pairO (EnO ge g bn bd) (pairO RowsO U)) B ((s, e), (l1, t)) w0 w1 → i < m → e.l[i]? = some x → Calls Tryz.prog 30 #[.pointer (some ⟨ge, 0, none⟩), .int .i64 i] w1 fun r w' => r = .returned (.tuple #[.string x, .int .i64 0]) ∧ One (pairO (EnO ge g bn bd) (pairO RowsO U)) B ((s, e), (l1, t)) w0 w') := fun w1 l1 i x hh hi hx => by
    have C := pLeaf hh (i : Int) hg
    have e1 : leafV e.l i = (x, 0) := by
      unfold leafV
      rw [if_pos ⟨by omega, by rw [HM.out]; omega⟩, Int.toNat_natCast, List.getD, hx]; rfl
    rw [e1] at C
    exact C
  have H0 : Hid (One (pairO (EnO ge g bn bd) (pairO RowsO U)) B ((s, e), ((.slice none 0 0, []) :: l, t)) w0 w) := bSub h (fun p hp => by
    rcases List.mem_cons.1 hp with rfl | hp
    · exact .inr ⟨rfl, rfl⟩
    · exact .inl hp)
  have T0 : Hid (Top (.slice none 0 0) 0 l) := fun p hp hb => by
    have := bRow h hp
    rcases this.form with ⟨_, e2⟩ | ⟨g', c', e1, _⟩
    · rw [e2]; exact Nat.le_refl _
    · rw [e1] at hb; cases hb
  obtain ⟨L, HL⟩ : ∃ L, Hid (e.l = L) := ⟨_, rfl⟩
  rw [HL.out] at CL HM ⊢
  obtain ⟨i9, hi9', hz0, hz1, hz2⟩ := info_parts hi9
  have HIN : Hid (_ ∧ _ ∧ _ ∧ _) := ⟨hi9', hz0, hz1, hz2⟩
  clear hi9' hz0 hz1 hz2 h hg
  have hmi : (m : Int) ≤ 30000000 := by omega
  go_enter Tryz.func20, Tryz.ntmps20
  go_wp2_with fail
  go_loopw [3, 4] (fun ov iv wr => ∃ (i : Nat) (a : Option Addr) (c : Nat), i ≤ m ∧ ov = .slice a i c ∧ iv = .int .i64 i ∧ Hid (One (pairO (EnO ge g bn bd) (pairO RowsO U)) B ((s, e), ((.slice a i c, L.take i) :: l, t)) w0 wr ∧ Top (.slice a i c) i l)) (fun _ iv _ => (m - intOf iv).toNat)
  case atStart => exact ⟨0, none, 0, by omega, rfl, rfl, by simpa using H0.out, T0.out⟩
  case round =>
    obtain ⟨i, a, c, hi, rfl, rfl, HH⟩ := hrel
    have C1 : Hid (Calls _ _ _ _ _) := CS.out wr _ HH.out.1
    by_cases hlt : i < m
    · have hlt' : decide ((i : Int) < (m : Int)) = true := decide_eq_true (by omega)
      obtain ⟨x, hx⟩ : ∃ x, L[i]? = some x := ⟨L[i]'(by rw [HM.out]; exact hlt), List.getElem?_eq_getElem _⟩
      have HX : Hid (L[i]? = some x) := hx
      have C2 : Hid (Calls _ _ _ _ _) := CL.out wr _ i x HH.out.1 hlt hx
      have HLI : Hid ((L.take i).length = i) := by show _ = _; rw [List.length_take, HM.out]; omega
      have HT1 : Hid (L.take i ++ [x] = L.take (i + 1)) := by show _ = _; rw [List.take_add_one, hx]; rfl
      clear hx
      go_upto_region 8 with (first
        | (go_at_call 21; refine C1.out.mono ?_; rintro _ _ ⟨rfl, hw⟩; rw [hw]; clear hw)
        | (go_at_call 30; refine C2.out.mono ?_; rintro _ w2 ⟨rfl, h2⟩; have H2 : Hid _ := h2; clear h2)
        | go_in)
      have H3 : Hid (One (pairO (EnO ge g bn bd) (pairO RowsO U)) B ((s, e), ((.slice a i c, L.take i) :: l, t)) w0 (w2.alloc (.cells #[.string x] 9))) := One.later H2.out (new1 w2 _)
      have O3 : Hid ((w2.alloc (.cells #[.string x] 9)).ownsRow 0 9 1 (.slice a i c) i ((L.take i).map Value.string)) := by
        have := bRow H3.out List.mem_cons_self
        unfold Own at this
        rw [HLI.out] at this
        exact this
      have HG : Hid (∀ v' w4, w4.ownsRow 0 9 1 v' (i + 1) ((L.take i).map Value.string ++ [.string x]) → (w2.alloc (.cells #[.string x] 9)).grownBy w4 (Value.slice a i c).ownBlock → (v'.ownBlock = (Value.slice a i c).ownBlock ∨ v'.ownBlock = some (w2.alloc (.cells #[.string x] 9)).heap.size) → (∀ p k ps, (w2.alloc (.cells #[.string x] 9)).ownsRow 0 9 1 p k ps → (p.ownBlock = (Value.slice a i c).ownBlock → k ≤ i) → w4.ownsRow 0 9 1 p k ps) → One (pairO (EnO ge g bn bd) (pairO RowsO U)) B ((s, e), ((v', L.take (i + 1)) :: l, t)) w0 w4 ∧ Top v' (i + 1) l) := fun v' w4 k1 k2 k3 k4 => by
        have hT := HH.out.2
        have := bGrow (ys := [x]) H3.out (by
          unfold Own
          rw [List.length_append, List.map_append, HLI.out]
          exact k1) k2 k3 (by rw [HLI.out]; exact hT) (by rw [HLI.out]; exact k4)
        rw [HT1.out] at this
        have e1 : (L.take (i + 1)).length = i + 1 := by rw [List.length_take, HM.out]; omega
        rw [e1] at this
        exact this
      go_wp2_with (first | (at_builtin; (refine wpList_app rfl _ _ 22 rfl 9 i9 (.string ByteArray.empty) 16 Tryz.underlying22 HIN.out.1 HIN.out.2.1 HIN.out.2.2.1 HIN.out.2.2.2 rfl _ i _ rfl O3.out ⟨w2.heap.size, 0, none⟩ 1 1 [.string x] rfl rfl (new_text _ _ _) (one_text _) (by unfold maxLen; omega) (by omega) ?_; intro v' w4 ho hg hls hkp; have H4 : Hid _ := HG.out v' w4 ho hg hls hkp; have hvf : ∃ a c, v' = .slice a (i + 1) c := own_formS ho; clear ho hg hls hkp; obtain ⟨a4, c4, rfl⟩ := hvf)) | go_in)
      go_roundw
      case rel => exact ⟨i + 1, a4, c4, by omega, rfl, by go_num, H4.out⟩
      case measure => simp [intOf]; omega
    · have hlt' : decide ((i : Int) < (m : Int)) = false := decide_eq_false (by omega)
      obtain rfl : i = m := by omega
      have HTM : Hid (L.take i = L) := by show _ = _; rw [← HM.out]; exact List.take_length
      rw [HTM.out] at HH
      go_wp2_with (first
        | (go_at_call 21; refine C1.out.mono ?_; rintro _ _ ⟨rfl, hw⟩; rw [hw]; clear hw)
        | go_in)
      go_ret
      exact ⟨a, c, rfl, HH.out.1⟩
end
theorem ins_len (x : Rec) (r : List Rec) : (ins x r).length = r.length + 1 := by
  induction r with
  | nil => rfl
  | cons y r ih =>
    unfold ins
    split
    · rfl
    · simp [ih]
theorem doW_len (r : List Rec) (x : W) : (doW r x).length ≤ r.length + 1 := by
  have h1 : ∀ k, (del k r).length ≤ r.length := fun k => List.length_filter_le _ _
  unfold doW
  split
  · have := h1 x.key; omega
  · unfold put
    rw [ins_len]
    have := h1 x.key; omega
theorem kd_len (keep : ByteArray) (l : List W) (r : List Rec) : ∀ j, (kdN keep l r j).length ≤ r.length + j := by
  intro j
  induction j with
  | zero => exact Nat.le_refl _
  | succ j ih =>
    unfold kdN
    split
    · split
      · have := doW_len (kdN keep l r j) ‹_›; omega
      · omega
    · omega
theorem isz_le (r : List Rec) (h : OkR r) : isz r ≤ 1 + r.length * 1048645 := by
  induction r with
  | nil => exact Nat.le_refl _
  | cons p r ih =>
    have h1 := h p (by simp)
    have h2 := ih (fun q hq => h q (by simp [hq]))
    show p.1.size + p.2.size + 5 + isz r ≤ _
    simp only [List.length_cons]
    omega
-- a store into which records were put
structure Rs (s : S) (i : Nat) : Prop where
  off : s.off = false
  arm : s.armed = 0
  age : s.age = 0
  dur : s.dur = []
  len : s.pend.length ≤ i
theorem Rs.put {s : S} {i : Nat} (h : Rs s i) (k d : ByteArray) : Rs (putS s k d).2 (i + 1) := by
  have h0 : Rs s (i + 1) := ⟨h.off, h.arm, h.age, h.dur, by have := h.len; omega⟩
  unfold putS
  split
  · exact h0
  · split
    · split
      · exact h0
      · unfold spendS
        rw [if_pos (show (addW s ⟨false, k, d⟩).armed = 0 from h.arm)]
        exact ⟨h.off, h.arm, h.age, h.dur, by show (s.pend ++ [_]).length ≤ _; rw [List.length_append]; have := h.len; simp; omega⟩
    · exact h0
theorem Rs.more {s : S} {i : Nat} (h : Rs s i) : Rs s (i + 1) := ⟨h.off, h.arm, h.age, h.dur, by have := h.len; omega⟩
theorem Rs.bput {s : S} {i : Nat} (h : Rs s i) (sp k n : Int) (p : ByteArray) : Rs (bputS s sp k n p).2 (i + 1) := by
  unfold bputS
  split
  · split
    · exact h.put _ _
    · exact h.more
  · exact h.more
theorem settle {s : S} {i : Nat} (h : Rs s i) (hi : i ≤ 1048576) (keep : ByteArray) (ok : OkS (crashS s keep)) : ∃ l s2 s3, IsSt (crashS s keep) 3 l ∧ l.length ≤ 1048576 ∧ purgeS (crashS s keep) 3 l.length = (0, s2) ∧ syncS s2 = (0, s3) ∧ IsSt s3 3 l ∧ purgeS s3 3 l.length = (0, s3) ∧ s3.off = false ∧ s3.age = 1 ∧ s3.pend = [] ∧ s3.dur.length ≤ 1048576 ∧ (crashS s keep).dur.length ≤ 1048576 := by
  have hn : now (crashS s keep) = (crashS s keep).dur := now_none rfl
  have hlen : (crashS s keep).dur.length ≤ i := by
    have := kd_len keep s.pend s.dur s.pend.length
    show (kdN keep s.pend s.dur s.pend.length).length ≤ i
    rw [h.dur] at this ⊢
    have := h.len
    simp only [List.length_nil] at *
    omega
  have hs : okI (3 : Int) := ⟨by omega, by omega⟩
  have hsrt : Srt (now (crashS s keep)) := by rw [hn]; exact ok.srt
  obtain ⟨l, h1, h2⟩ := st_exists (s := crashS s keep) hs (by rw [hn]; omega)
  rw [hn] at h2
  obtain ⟨s2, cs, e, c⟩ := purge_run hs l.length (s := crashS s keep) rfl rfl hsrt
  have ho2 : s2.off = false := by rw [c.off.1]; rfl
  have ha2 : s2.armed = 0 := by rw [c.off.2.1]; rfl
  have hsy := sync_on ho2 ha2
  have hcl := c.len
  rw [hn] at hcl
  obtain ⟨s3, hs3⟩ : ∃ s3 : S, s3 = { s2 with dur := now s2, pend := [] } := ⟨_, rfl⟩
  rw [← hs3] at hsy
  have f1 : s3.off = false := by rw [hs3]; exact ho2
  have f2 : s3.armed = 0 := by rw [hs3]; exact ha2
  have f3 : now s3 = now s2 := by rw [now_none (by rw [hs3]), hs3]
  have f4 : s3.age = 1 := by rw [hs3]; show s2.age = 1; rw [c.off.2.2.2.1]; show s.age + 1 = 1; rw [h.age]
  refine ⟨l, s2, s3, h1, by omega, e, hsy, st_cuts hs h1 (by omega) rfl hsrt c f3 f1, cuts_stay hs c f3 f1 f2, f1, f4, by rw [hs3], ?_, by omega⟩
  rw [hs3]
  show (now s2).length ≤ _
  omega
section
variable {τ : Type} {U : Thg τ} {ge g bn bd B Pk : Nat} {s : S} {e : E} {t : τ} {w0 w : World} {ob : Obj}
theorem srOf (h : One (pairO (EnO ge g bn bd) U) B ((s, e), t) w0 w) : ∃ pv, Sr 0 g bn bd pv s w := by
  obtain ⟨F, hP⟩ := One.get (One.fst h)
  obtain ⟨pv, lv, h1, _⟩ := hP
  exact ⟨pv, h1.st⟩
theorem pImage (h : One (pairO (EnO ge g bn bd) U) B ((s, e), t) w0 w) (hz : isz s.dur ≤ 140737488355000) : Calls Tryz.prog 24 #[.pointer (some ⟨g, 0, none⟩)] w fun r w' => r = .returned (.string (imageT s.dur)) ∧ One (pairO (EnO ge g bn bd) U) B ((s, e), t) w0 w' := by
  obtain ⟨pv, hS⟩ := srOf h
  exact (imageC hS hz).mono fun r w' ⟨g1, g2⟩ => ⟨g1, One.later h g2⟩
theorem pPend (h : One (pairO (EnO ge g bn bd) U) B ((s, e), t) w0 w) : Calls Tryz.prog 25 #[.pointer (some ⟨g, 0, none⟩)] w fun r w' => r = .returned (.int .i64 (s.pend.length : Nat)) ∧ w' = w := by
  obtain ⟨pv, hS⟩ := srOf h
  exact pendingC hS.row hS.pr
theorem pLost (h : One (pairO (EnO ge g bn bd) U) B ((s, e), t) w0 w) (b : Int) (sp least : Int) (l : List ByteArray) (hs : okI sp) (hb : 1 ≤ b ∧ b ≤ 32) (ho : s.off = false) (hst : IsSt s sp l) (hl : l.length < 1099511627776) (hle : (l.length : Int) < least) :
    Calls Tryz.prog 16 #[.pointer (some ⟨g, 0, none⟩), .agg #[.int .i64 1, .int .i64 b, .int .i64 0, .int .i64 0, .int .i64 0, .int .i64 0], .int .i64 sp, .int .i64 least] w fun r w' => r = .returned (.tuple #[.pointer none, .int .i64 151]) ∧ One (pairO (EnO ge g bn bd) U) B ((s, e), t) w0 w' := by
  obtain ⟨pv, hS⟩ := srOf h
  exact (OpenLost 1 b 0 0 0 0 sp least l hS hs ⟨rfl, hb⟩ ho hst hl hle).mono fun r w' ⟨g1, g2⟩ => ⟨g1, One.later h g2⟩
theorem bornB {pv : Value} {W w' : World} (hS : ∀ k, Fr g bn bd pv k → B ≤ k) (hb : Below B W w) (hB : B ≤ W.heap.size) (hPk : w.heap[Pk]? = some ob) (hPB : B ≤ Pk) (hPF : ¬ Fr g bn bd pv Pk) (h : Born ge g bn bd pv s e w w') : One (Bx ge g bn bd Pk) B ((s, e), ([], ob)) W w' := by
  obtain ⟨p, l, h1, k, n⟩ := h
  have hsz : B ≤ w.heap.size := Nat.le_trans hB hb.size
  have hlt := (Array.getElem?_eq_some_iff.1 hPk).1
  have hne : ∀ j, Ef ge g bn bd p l j → j ≠ Pk := fun j hj e => by
    rcases n j hj with h2 | h2
    · exact hPF (e ▸ h2)
    · omega
  refine ⟨fun j => Ef ge g bn bd p l j ∨ j = Pk, ⟨Ef ge g bn bd p l, fun j => j = Pk, ⟨p, l, h1, fun _ => Iff.rfl⟩, ⟨fun _ => False, fun j => j = Pk, ⟨fun p hp => (by cases hp), fun j => ⟨False.elim, fun ⟨p, hp, _⟩ => (by cases hp)⟩⟩, ⟨(k.block Pk hlt hPF).trans hPk, fun _ => Iff.rfl⟩, fun j hj _ => hj, fun j => ⟨.inr, fun hj => hj.elim False.elim id⟩⟩, fun j hj he => hne j hj he, fun _ => Iff.rfl⟩, fun j hj => ?_, ov hb (k.below hS hsz), hB⟩
  rcases hj with hj | hj
  · rcases n j hj with h2 | h2
    · exact hS j h2
    · omega
  · omega
end
-- records in memory
structure Opq where
  kind : Int
  la : Option Addr
  ln : Nat
  lc : Nat
  n : Int
  L : Int
  I : Int
  sp : Int
  x : ByteArray
def ReadsQ (w : World) (v : Value) (l : List Opq) : Prop := ∃ a c, v = .slice a l.length c ∧ (l.length = 0 ∨ ∃ b off, a = some ⟨b, off, none⟩ ∧ ∀ i o, l[i]? = some o → w.cell? ⟨b, off + i * 7, none⟩ = some (.int .i64 o.kind) ∧ w.cell? ⟨b, off + i * 7 + 1, none⟩ = some (.slice o.la o.ln o.lc) ∧ w.cell? ⟨b, off + i * 7 + 2, none⟩ = some (.int .i64 o.n) ∧ w.cell? ⟨b, off + i * 7 + 3, none⟩ = some (.int .i64 o.L) ∧ w.cell? ⟨b, off + i * 7 + 4, none⟩ = some (.int .i64 o.I) ∧ w.cell? ⟨b, off + i * 7 + 5, none⟩ = some (.int .i64 o.sp) ∧ w.cell? ⟨b, off + i * 7 + 6, none⟩ = some (.string o.x))
theorem ReadsQ.later {w w' : World} {v : Value} {l : List Opq} (h : ReadsQ w v l) (b : Below w.heap.size w w') : ReadsQ w' v l := by
  obtain ⟨a, c, rfl, h0 | ⟨b', off, rfl, hh⟩⟩ := h
  · exact ⟨a, c, rfl, .inl h0⟩
  · refine ⟨_, c, rfl, .inr ⟨b', off, rfl, fun i o hl => ?_⟩⟩
    obtain ⟨h1, h2, h3, h4, h5, h6, h7⟩ := hh i o hl
    have k : ∀ {p : Addr} {v : Value}, w.cell? p = some v → w'.cell? p = some v := fun h => (b.cell (World.block_lt_of_cell? _ _ h)).trans h
    exact ⟨k h1, k h2, k h3, k h4, k h5, k h6, k h7⟩
-- the store and the law's pair, before there is an engine
structure Lo (g bn bd Pk B i : Nat) (ob : Obj) (W w : World) (pv : Value) (s : S) : Prop where
  sr : Sr 0 g bn bd pv s w
  rs : Rs s i
  pk : w.heap[Pk]? = some ob
  nf : ¬ Fr g bn bd pv Pk
  fr : ∀ k, Fr g bn bd pv k → B ≤ k
  bl : Below B W w
theorem Lo.later {g bn bd Pk B i : Nat} {ob : Obj} {W w w' : World} {pv : Value} {s : S} (h : Lo g bn bd Pk B i ob W w pv s) (b : Below w.heap.size w w') (hB : B ≤ W.heap.size) : Lo g bn bd Pk B i ob W w' pv s :=
  ⟨sr_later h.sr b, h.rs, (b.block _ (Array.getElem?_eq_some_iff.1 h.pk).1).trans h.pk, h.nf, h.fr, ov h.bl (dn b (Nat.le_trans hB h.bl.size))⟩
theorem Lo.rn {g bn bd Pk B i j : Nat} {ob : Obj} {W w w' : World} {pv : Value} {s s' : S} (h : Lo g bn bd Pk B i ob W w pv s) (hB : B ≤ W.heap.size) (r : Rn 0 g bn bd pv s' w w') (hr : Rs s' j) : ∃ pv', Lo g bn bd Pk B j ob W w' pv' s' := by
  obtain ⟨pv2, h2, k2, n2⟩ := r
  have hlt := (Array.getElem?_eq_some_iff.1 h.pk).1
  have hsz : B ≤ w.heap.size := Nat.le_trans hB h.bl.size
  refine ⟨pv2, h2, hr, (k2.block _ hlt h.nf).trans h.pk, ?_, ?_, ov h.bl (k2.below h.fr hsz)⟩
  · rintro (e | e | e | e)
    · exact h.nf (.inl e)
    · exact h.nf (.inr (.inl e))
    · exact h.nf (.inr (.inr (.inl e)))
    · rcases n2 _ e with e | e
      · exact h.nf (.inr (.inr (.inr e)))
      · omega
  · rintro q (e | e | e | e)
    · exact h.fr q (.inl e)
    · exact h.fr q (.inr (.inl e))
    · exact h.fr q (.inr (.inr (.inl e)))
    · rcases n2 _ e with e | e
      · exact h.fr q (.inr (.inr (.inr e)))
      · omega
end Go.Proofs.YtofmkdagehehaaaGreatDoor.ic
