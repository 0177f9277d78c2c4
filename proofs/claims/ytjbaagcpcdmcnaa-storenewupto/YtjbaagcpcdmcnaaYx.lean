import Derived.Test.YtjbaagcpcdmcnaaYv
import Derived.Test.YtjbaagcpcdmcnaaYw
namespace Go.Proofs.Ytjbaagcpcdmcnaa.yx
open Go.RowKit Go.PlainAid Go.Maps Go.Shelf
open Go.Proofs.Ytjbaagcpcdmcnaa.ca Go.Proofs.Ytjbaagcpcdmcnaa.cb Go.Proofs.Ytjbaagcpcdmcnaa.cp Go.Proofs.Ytjbaagcpcdmcnaa.kp Go.Proofs.Ytjbaagcpcdmcnaa.ka Go.Proofs.Ytjbaagcpcdmcnaa.ya Go.Proofs.Ytjbaagcpcdmcnaa.yb Go.Proofs.Ytjbaagcpcdmcnaa.yc Go.Proofs.Ytjbaagcpcdmcnaa.yd Go.Proofs.Ytjbaagcpcdmcnaa.ye Go.Proofs.Ytjbaagcpcdmcnaa.yf Go.Proofs.Ytjbaagcpcdmcnaa.yg Go.Proofs.Ytjbaagcpcdmcnaa.yk Go.Proofs.Ytjbaagcpcdmcnaa.yl Go.Proofs.Ytjbaagcpcdmcnaa.ym Go.Proofs.Ytjbaagcpcdmcnaa.yn Go.Proofs.Ytjbaagcpcdmcnaa.yo Go.Proofs.Ytjbaagcpcdmcnaa.yp Go.Proofs.Ytjbaagcpcdmcnaa.yq Go.Proofs.Ytjbaagcpcdmcnaa.yr Go.Proofs.Ytjbaagcpcdmcnaa.ys Go.Proofs.Ytjbaagcpcdmcnaa.yt Go.Proofs.Ytjbaagcpcdmcnaa.yu Go.Proofs.Ytjbaagcpcdmcnaa.yv Go.Proofs.Ytjbaagcpcdmcnaa.yw Go.Proofs.Ytjbaagcpcdmcnaa.bn Go.Proofs.Ytjbaagcpcdmcnaa.sb Go.Proofs.Ytjbaagcpcdmcnaa.mc
set_option linter.unusedVariables false
set_option linter.unusedSimpArgs false
theorem at_rn {B g bn bd : Nat} {s s' : S} {pv : Value} {w0 w1 w2 : World} (h : At B g bn bd s w0 w1) (h5 : Sr B g bn bd pv s w1) (hB : B ≤ w0.heap.size) (r : Rn B g bn bd pv s' w1 w2) : At B g bn bd s' w0 w2 := by
  have hb := Rn.below h5 r (Nat.le_trans hB h.bl.size)
  obtain ⟨p, h7, _, _⟩ := r
  exact ⟨⟨p, h7⟩, h.bl.trans hb⟩
theorem aCrash {B g bn bd : Nat} {s : S} {w0 w1 : World} (k : ByteArray) (h : At B g bn bd s w0 w1) (hB : B ≤ w0.heap.size) (hk : k.size ≤ 140737488355328) (ha : s.age < 4398046511104) : Calls Try.prog 22 #[.pointer (some ⟨g, 0, none⟩), .string k] w1 fun e w' => e = .returned (.tuple #[]) ∧ At B g bn bd (crashS s k) w0 w' := by
  obtain ⟨pv, h5⟩ := h.ex
  refine (crashC k h5 hk ha).mono ?_
  rintro e w' ⟨rfl, r⟩
  exact ⟨rfl, at_rn h h5 hB r⟩
theorem aPut {B g bn bd : Nat} {s : S} {w0 w1 : World} (k d : ByteArray) (h : At B g bn bd s w0 w1) (hB : B ≤ w0.heap.size) (hk : k.size ≤ 140737488355328) (hd : d.size ≤ 140737488355328) (hn : nums s + 1 < 3518437208883) : Calls Try.prog 18 #[.pointer (some ⟨g, 0, none⟩), .string k, .string d] w1 fun e w' => e = .returned (.int .i64 (putS s k d).1) ∧ At B g bn bd (putS s k d).2 w0 w' := by
  obtain ⟨pv, h5⟩ := h.ex
  refine (putC k d h5 hk hd hn (Nat.le_trans hB h.bl.size)).mono ?_
  rintro e w' ⟨rfl, r⟩
  exact ⟨rfl, at_rn h h5 hB r⟩
theorem aSync {B g bn bd : Nat} {s : S} {w0 w1 : World} (h : At B g bn bd s w0 w1) (hB : B ≤ w0.heap.size) : Calls Try.prog 20 #[.pointer (some ⟨g, 0, none⟩)] w1 fun e w' => e = .returned (.int .i64 (syncS s).1) ∧ At B g bn bd (syncS s).2 w0 w' := by
  obtain ⟨pv, h5⟩ := h.ex
  refine (syncC h5 (Nat.le_trans hB h.bl.size)).mono ?_
  rintro e w' ⟨rfl, r⟩
  exact ⟨rfl, at_rn h h5 hB r⟩
theorem aDo {B g bn bd : Nat} {s : S} {w0 w1 : World} (o : Opn) (h : At B g bn bd s w0 w1) (hB : B ≤ w0.heap.size) (ho : OkO o) (hn : nums s + 1 < 3518437208883) (ha : s.age < 4398046511104) (hm : mass s ≤ 140737488355000) : Calls Try.prog 7 #[.pointer (some ⟨g, 0, none⟩), .agg #[.int .i64 o.kind, .string o.key, .string o.data, .int .i64 o.n]] w1 fun e w' => (∃ (t : ByteArray) (na : Option Addr) (nl nc : Nat) (a b c : Int) (f : Bool) (q : Int), e = .returned (.agg #[.string t, .slice na nl nc, .int .i64 (doS s o.kind o.key o.data o.n).1, .int .i64 a, .int .i64 b, .int .i64 c, .bool f, .int .i64 q])) ∧ At B g bn bd (doO s o) w0 w' := by
  obtain ⟨pv, h5⟩ := h.ex
  refine (doC o.kind o.key o.data o.n h5 ho.1 ho.2.1 ho.2.2 hn ha (by unfold mass at hm; omega) (Nat.le_trans hB h.bl.size)).mono ?_
  rintro e w' ⟨t, na, nl, nc, a, b, c, f, q, rfl, r⟩
  exact ⟨⟨t, na, nl, nc, a, b, c, f, q, rfl⟩, at_rn h h5 hB r⟩
-- a record that is held is answered, unless the power is off
theorem aGet {B g bn bd : Nat} {s : S} {w0 w1 : World} {k d : ByteArray} (h : At B g bn bd s w0 w1) (hB : B ≤ w0.heap.size) (hh : Held k d s) : Calls Try.prog 23 #[.pointer (some ⟨g, 0, none⟩), .string k] w1 fun e w' => e = .returned (.tuple #[.string (if s.off then ByteArray.empty else d), .int .i64 (if s.off then 124 else 0)]) ∧ At B g bn bd s w0 w' := by
  obtain ⟨pv, h5⟩ := h.ex
  have h6 := h5.ok.dur.get hh.dur
  have e : getS s k = (if s.off then ByteArray.empty else d, if s.off then 124 else 0) := by
    unfold getS refS
    cases s.off with
    | true => rfl
    | false =>
      simp only [Bool.false_eq_true, if_false]
      have e0 : (if 1 ≤ k.size ∧ k.size ≤ 64 then (0 : Int) else 120) = 0 := if_pos ⟨h6.1, h6.2.1⟩
      rw [e0, if_neg (by simp), hh.now]
      rfl
  have C := getC k h5 (by omega)
  rw [e] at C
  refine C.mono ?_
  rintro e w' ⟨rfl, b⟩
  exact ⟨rfl, h.lat b hB⟩
theorem aDown {B g bn bd : Nat} {s : S} {w0 w1 : World} (h : At B g bn bd s w0 w1) : Calls Try.prog 27 #[.pointer (some ⟨g, 0, none⟩)] w1 fun e w' => e = .returned (.bool s.off) ∧ w' = w1 := by
  obtain ⟨pv, h5⟩ := h.ex
  exact downC h5.row
end Go.Proofs.Ytjbaagcpcdmcnaa.yx
