import Derived.Test.YtlkkibiedlakfaaGreatYv
import Derived.Test.YtlkkibiedlakfaaGreatYw
namespace Go.Proofs.YtlkkibiedlakfaaGreat.yx
open Go.RowKit Go.PlainAid Go.Maps Go.Shelf
open Go.Proofs.YtlkkibiedlakfaaGreat.ca Go.Proofs.YtlkkibiedlakfaaGreat.cb Go.Proofs.YtlkkibiedlakfaaGreat.cp Go.Proofs.YtlkkibiedlakfaaGreat.kp Go.Proofs.YtlkkibiedlakfaaGreat.ka Go.Proofs.YtlkkibiedlakfaaGreat.ya Go.Proofs.YtlkkibiedlakfaaGreat.yb Go.Proofs.YtlkkibiedlakfaaGreat.yc Go.Proofs.YtlkkibiedlakfaaGreat.yd Go.Proofs.YtlkkibiedlakfaaGreat.ye Go.Proofs.YtlkkibiedlakfaaGreat.yf Go.Proofs.YtlkkibiedlakfaaGreat.yg Go.Proofs.YtlkkibiedlakfaaGreat.yk Go.Proofs.YtlkkibiedlakfaaGreat.yl Go.Proofs.YtlkkibiedlakfaaGreat.ym Go.Proofs.YtlkkibiedlakfaaGreat.yn Go.Proofs.YtlkkibiedlakfaaGreat.yo Go.Proofs.YtlkkibiedlakfaaGreat.yp Go.Proofs.YtlkkibiedlakfaaGreat.yq Go.Proofs.YtlkkibiedlakfaaGreat.yr Go.Proofs.YtlkkibiedlakfaaGreat.ys Go.Proofs.YtlkkibiedlakfaaGreat.yt Go.Proofs.YtlkkibiedlakfaaGreat.yu Go.Proofs.YtlkkibiedlakfaaGreat.yv Go.Proofs.YtlkkibiedlakfaaGreat.yw Go.Proofs.YtlkkibiedlakfaaGreat.bn Go.Proofs.YtlkkibiedlakfaaGreat.sb Go.Proofs.YtlkkibiedlakfaaGreat.mc
set_option linter.unusedVariables false
set_option linter.unusedSimpArgs false
theorem at_rn {B g bn bd : Nat} {s s' : S} {pv : Value} {w0 w1 w2 : World} (h : At B g bn bd s w0 w1) (h5 : Sr B g bn bd pv s w1) (hB : B ≤ w0.heap.size) (r : Rn B g bn bd pv s' w1 w2) : At B g bn bd s' w0 w2 := by
  have hb := Rn.below h5 r (Nat.le_trans hB h.bl.size)
  obtain ⟨p, h7, _, _⟩ := r
  exact ⟨⟨p, h7⟩, h.bl.trans hb⟩
theorem aCrash {B g bn bd : Nat} {s : S} {w0 w1 : World} (k : ByteArray) (h : At B g bn bd s w0 w1) (hB : B ≤ w0.heap.size) (hk : k.size ≤ 140737488355328) (ha : s.age < 4398046511104) : Calls Tryz.prog 15 #[.pointer (some ⟨g, 0, none⟩), .string k] w1 fun e w' => e = .returned (.tuple #[]) ∧ At B g bn bd (crashS s k) w0 w' := by
  obtain ⟨pv, h5⟩ := h.ex
  refine (crashC k h5 hk ha).mono ?_
  rintro e w' ⟨rfl, r⟩
  exact ⟨rfl, at_rn h h5 hB r⟩
theorem aPut {B g bn bd : Nat} {s : S} {w0 w1 : World} (k d : ByteArray) (h : At B g bn bd s w0 w1) (hB : B ≤ w0.heap.size) (hk : k.size ≤ 140737488355328) (hd : d.size ≤ 140737488355328) (hn : nums s + 1 < 3518437208883) : Calls Tryz.prog 43 #[.pointer (some ⟨g, 0, none⟩), .string k, .string d] w1 fun e w' => e = .returned (.int .i64 (putS s k d).1) ∧ At B g bn bd (putS s k d).2 w0 w' := by
  obtain ⟨pv, h5⟩ := h.ex
  refine (putC k d h5 hk hd hn (Nat.le_trans hB h.bl.size)).mono ?_
  rintro e w' ⟨rfl, r⟩
  exact ⟨rfl, at_rn h h5 hB r⟩
theorem aSync {B g bn bd : Nat} {s : S} {w0 w1 : World} (h : At B g bn bd s w0 w1) (hB : B ≤ w0.heap.size) : Calls Tryz.prog 47 #[.pointer (some ⟨g, 0, none⟩)] w1 fun e w' => e = .returned (.int .i64 (syncS s).1) ∧ At B g bn bd (syncS s).2 w0 w' := by
  obtain ⟨pv, h5⟩ := h.ex
  refine (syncC h5 (Nat.le_trans hB h.bl.size)).mono ?_
  rintro e w' ⟨rfl, r⟩
  exact ⟨rfl, at_rn h h5 hB r⟩
theorem aDo {B g bn bd : Nat} {s : S} {w0 w1 : World} (o : Opn) (h : At B g bn bd s w0 w1) (hB : B ≤ w0.heap.size) (ho : OkO o) (hn : nums s + 1 < 3518437208883) (ha : s.age < 4398046511104) (hm : mass s ≤ 140737488355000) : Calls Tryz.prog 26 #[.pointer (some ⟨g, 0, none⟩), .agg #[.int .i64 o.kind, .string o.key, .string o.data, .int .i64 o.n]] w1 fun e w' => (∃ (t : ByteArray) (na : Option Addr) (nl nc : Nat) (a b c : Int) (f : Bool) (q : Int), e = .returned (.agg #[.string t, .slice na nl nc, .int .i64 (doS s o.kind o.key o.data o.n).1, .int .i64 a, .int .i64 b, .int .i64 c, .bool f, .int .i64 q])) ∧ At B g bn bd (doO s o) w0 w' := by
  obtain ⟨pv, h5⟩ := h.ex
  refine (doC o.kind o.key o.data o.n h5 ho.1 ho.2.1 ho.2.2 hn ha (by unfold mass at hm; omega) (Nat.le_trans hB h.bl.size)).mono ?_
  rintro e w' ⟨t, na, nl, nc, a, b, c, f, q, rfl, r⟩
  exact ⟨⟨t, na, nl, nc, a, b, c, f, q, rfl⟩, at_rn h h5 hB r⟩
-- a record that is held is answered, unless the power is off
theorem aGet {B g bn bd : Nat} {s : S} {w0 w1 : World} {k d : ByteArray} (h : At B g bn bd s w0 w1) (hB : B ≤ w0.heap.size) (hh : Held k d s) : Calls Tryz.prog 63 #[.pointer (some ⟨g, 0, none⟩), .string k] w1 fun e w' => e = .returned (.tuple #[.string (if s.off then ByteArray.empty else d), .int .i64 (if s.off then 124 else 0)]) ∧ At B g bn bd s w0 w' := by
  obtain ⟨pv, h5⟩ := h.ex
  have h6 := h5.ok.dur.get hh.dur
  have e : getS s k = (if s.off then ByteArray.empty else d, if s.off then 124 else 0) := by
    unfold getS refS
    cases s.off with
    | true => rfl
    | false =>
      simp only [Bool.false_eq_true, if_false]
      have e0 : (if 1 ≤ k.size ∧ k.size ≤ 64 then (0 : Int) else 120) = 0 := if_pos ⟨h6.1, h6.2.1⟩
      rw [e0, if_neg (by simp), hh.now]
      rfl
  have C := getC k h5 (by omega)
  rw [e] at C
  refine C.mono ?_
  rintro e w' ⟨rfl, b⟩
  exact ⟨rfl, h.lat b hB⟩
theorem aDown {B g bn bd : Nat} {s : S} {w0 w1 : World} (h : At B g bn bd s w0 w1) : Calls Tryz.prog 33 #[.pointer (some ⟨g, 0, none⟩)] w1 fun e w' => e = .returned (.bool s.off) ∧ w' = w1 := by
  obtain ⟨pv, h5⟩ := h.ex
  exact downC h5.row
end Go.Proofs.YtlkkibiedlakfaaGreat.yx
