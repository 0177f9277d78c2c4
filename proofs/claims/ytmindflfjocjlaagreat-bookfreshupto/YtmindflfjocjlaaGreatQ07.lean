import Derived.Test.YtmindflfjocjlaaGreatQ06
import Derived.Laws.Cover1
import Derived.BigQuiet
import Derived.Deep.QuietTactic
import Derived.Test.YtmindflfjocjlaaGreatQ01
import Derived.Shelf.Small.Wraps
namespace Go.Proofs.YtmindflfjocjlaaGreat.yw
open Go.Maps
open Go.Proofs.YtmindflfjocjlaaGreat.ya Go.Proofs.YtmindflfjocjlaaGreat.yb Go.Proofs.YtmindflfjocjlaaGreat.yc Go.Proofs.YtmindflfjocjlaaGreat.yd Go.Proofs.YtmindflfjocjlaaGreat.ye Go.Proofs.YtmindflfjocjlaaGreat.yf Go.Proofs.YtmindflfjocjlaaGreat.yi Go.Proofs.YtmindflfjocjlaaGreat.yk Go.Proofs.YtmindflfjocjlaaGreat.yl Go.Proofs.YtmindflfjocjlaaGreat.ym Go.Proofs.YtmindflfjocjlaaGreat.yr Go.Proofs.YtmindflfjocjlaaGreat.yt
set_option linter.unusedVariables false
set_option linter.unusedSimpArgs false
-- a record that is durable, and that no pending write touches
structure Held (k d : ByteArray) (s : S) : Prop where
  dur : rget k s.dur = some d
  pend : ∀ x ∈ s.pend, x.key ≠ k
  srt : Srt s.dur
theorem Held.now {k d : ByteArray} {s : S} (h : Held k d s) : rget k (now s) = some d := by
  unfold ye.now
  rw [get_do h.srt h.pend]
  exact h.dur
theorem held_spend {k d : ByteArray} {s : S} (h : Held k d s) : Held k d (spendS s).2 := ⟨by rw [dur_spend]; exact h.dur, by rw [pend_spend]; exact h.pend, by rw [dur_spend]; exact h.srt⟩
theorem held_add {k d : ByteArray} {s : S} {x : W} (h : Held k d s) (hx : x.key ≠ k) : Held k d (addW s x) := by
  refine ⟨h.dur, fun y hy => ?_, h.srt⟩
  rcases List.mem_append.1 hy with hy | hy
  · exact h.pend y hy
  · rw [List.mem_singleton.1 hy]; exact hx
theorem held_do {k d : ByteArray} {s : S} (o : Opn) (h : Held k d s) (hn : (o.kind = 1 ∨ o.kind = 2) → o.key ≠ k) : Held k d (doO s o) := by
  unfold doO doS
  split
  · rename_i e
    unfold putS
    split
    · exact h
    · split
      · split
        · exact h
        · exact held_spend (held_add h (hn (.inl e)))
      · exact h
  · split
    · rename_i e
      unfold cutS
      split
      · exact h
      · split
        · exact held_spend (held_add h (hn (.inr e)))
        · exact h
    · split
      · unfold syncS
        split
        · exact h
        · split
          · exact held_spend h
          · exact ⟨h.now, fun x hx => (by cases hx), srt_do h.srt⟩
      · split
        · unfold armS
          split
          · exact h
          · exact ⟨h.dur, h.pend, h.srt⟩
        · split
          · exact ⟨(get_kd h.srt h.pend _).trans h.dur, fun x hx => (by cases hx), srt_kd h.srt _⟩
          · split <;> exact h
-- what was put and synced is held
theorem held_put {k d : ByteArray} {s : S} (hp : s.pend = []) (hs : Srt s.dur) (h1 : (putS s k d).1 = 0) (h2 : (syncS (putS s k d).2).1 = 0) : Held k d (syncS (putS s k d).2).2 := by
  have e : putS s k d = spendS (addW s ⟨false, k, d⟩) := by
    unfold putS at h1 ⊢
    split
    · rename_i h; rw [if_pos h] at h1; exact absurd h1 h
    · rename_i h
      rw [if_neg h] at h1
      split
      · rename_i h'
        rw [if_pos h'] at h1
        split
        · rename_i h''; rw [if_pos h''] at h1; exact absurd h1 (by simp)
        · rfl
      · rename_i h'; rw [if_neg h'] at h1; exact absurd h1 (by simp)
  rw [e] at h2 ⊢
  have hnow : ye.now (spendS (addW s ⟨false, k, d⟩)).2 = put k d s.dur := by
    rw [now_spend, now_add]
    unfold ye.now
    rw [hp]
    rfl
  unfold syncS at h2 ⊢
  split
  · rename_i h; rw [if_pos h] at h2; exact absurd h2 (by simp)
  · rename_i h
    rw [if_neg h] at h2
    split
    · rename_i h'; rw [if_pos h'] at h2; exact absurd h2 h'
    · exact ⟨by show rget k (ye.now (spendS (addW s ⟨false, k, d⟩)).2) = _; rw [hnow]; exact get_put_same hs, fun x hx => (by cases hx), by show Srt (ye.now (spendS (addW s ⟨false, k, d⟩)).2); rw [hnow]; exact srt_put hs⟩
end Go.Proofs.YtmindflfjocjlaaGreat.yw

namespace Go.Proofs.YtmindflfjocjlaaGreat.yx
open Go.RowKit Go.PlainAid Go.Maps Go.Shelf
open Go.Proofs.YtmindflfjocjlaaGreat.ca Go.Proofs.YtmindflfjocjlaaGreat.cb Go.Proofs.YtmindflfjocjlaaGreat.cp Go.Proofs.YtmindflfjocjlaaGreat.kp Go.Proofs.YtmindflfjocjlaaGreat.ka Go.Proofs.YtmindflfjocjlaaGreat.ya Go.Proofs.YtmindflfjocjlaaGreat.yb Go.Proofs.YtmindflfjocjlaaGreat.yc Go.Proofs.YtmindflfjocjlaaGreat.yd Go.Proofs.YtmindflfjocjlaaGreat.ye Go.Proofs.YtmindflfjocjlaaGreat.yf Go.Proofs.YtmindflfjocjlaaGreat.yg Go.Proofs.YtmindflfjocjlaaGreat.yk Go.Proofs.YtmindflfjocjlaaGreat.yl Go.Proofs.YtmindflfjocjlaaGreat.ym Go.Proofs.YtmindflfjocjlaaGreat.yn Go.Proofs.YtmindflfjocjlaaGreat.yo Go.Proofs.YtmindflfjocjlaaGreat.yp Go.Proofs.YtmindflfjocjlaaGreat.yq Go.Proofs.YtmindflfjocjlaaGreat.yr Go.Proofs.YtmindflfjocjlaaGreat.ys Go.Proofs.YtmindflfjocjlaaGreat.yt Go.Proofs.YtmindflfjocjlaaGreat.yu Go.Proofs.YtmindflfjocjlaaGreat.yv Go.Proofs.YtmindflfjocjlaaGreat.yw Go.Proofs.YtmindflfjocjlaaGreat.bn Go.Proofs.YtmindflfjocjlaaGreat.sb Go.Proofs.YtmindflfjocjlaaGreat.mc
set_option linter.unusedVariables false
set_option linter.unusedSimpArgs false
theorem at_rn {B g bn bd : Nat} {s s' : S} {pv : Value} {w0 w1 w2 : World} (h : At B g bn bd s w0 w1) (h5 : Sr B g bn bd pv s w1) (hB : B ≤ w0.heap.size) (r : Rn B g bn bd pv s' w1 w2) : At B g bn bd s' w0 w2 := by
  have hb := Rn.below h5 r (Nat.le_trans hB h.bl.size)
  obtain ⟨p, h7, _, _⟩ := r
  exact ⟨⟨p, h7⟩, h.bl.trans hb⟩
theorem aCrash {B g bn bd : Nat} {s : S} {w0 w1 : World} (k : ByteArray) (h : At B g bn bd s w0 w1) (hB : B ≤ w0.heap.size) (hk : k.size ≤ 140737488355328) (ha : s.age < 4398046511104) : Calls Tryz.prog 8 #[.pointer (some ⟨g, 0, none⟩), .string k] w1 fun e w' => e = .returned (.tuple #[]) ∧ At B g bn bd (crashS s k) w0 w' := by
  obtain ⟨pv, h5⟩ := h.ex
  refine (crashC k h5 hk ha).mono ?_
  rintro e w' ⟨rfl, r⟩
  exact ⟨rfl, at_rn h h5 hB r⟩
theorem aPut {B g bn bd : Nat} {s : S} {w0 w1 : World} (k d : ByteArray) (h : At B g bn bd s w0 w1) (hB : B ≤ w0.heap.size) (hk : k.size ≤ 140737488355328) (hd : d.size ≤ 140737488355328) (hn : nums s + 1 < 3518437208883) : Calls Tryz.prog 26 #[.pointer (some ⟨g, 0, none⟩), .string k, .string d] w1 fun e w' => e = .returned (.int .i64 (putS s k d).1) ∧ At B g bn bd (putS s k d).2 w0 w' := by
  obtain ⟨pv, h5⟩ := h.ex
  refine (putC k d h5 hk hd hn (Nat.le_trans hB h.bl.size)).mono ?_
  rintro e w' ⟨rfl, r⟩
  exact ⟨rfl, at_rn h h5 hB r⟩
theorem aSync {B g bn bd : Nat} {s : S} {w0 w1 : World} (h : At B g bn bd s w0 w1) (hB : B ≤ w0.heap.size) : Calls Tryz.prog 30 #[.pointer (some ⟨g, 0, none⟩)] w1 fun e w' => e = .returned (.int .i64 (syncS s).1) ∧ At B g bn bd (syncS s).2 w0 w' := by
  obtain ⟨pv, h5⟩ := h.ex
  refine (syncC h5 (Nat.le_trans hB h.bl.size)).mono ?_
  rintro e w' ⟨rfl, r⟩
  exact ⟨rfl, at_rn h h5 hB r⟩
-- a record that is held is answered, unless the power is off
theorem aGet {B g bn bd : Nat} {s : S} {w0 w1 : World} {k d : ByteArray} (h : At B g bn bd s w0 w1) (hB : B ≤ w0.heap.size) (hh : Held k d s) : Calls Tryz.prog 49 #[.pointer (some ⟨g, 0, none⟩), .string k] w1 fun e w' => e = .returned (.tuple #[.string (if s.off then ByteArray.empty else d), .int .i64 (if s.off then 124 else 0)]) ∧ At B g bn bd s w0 w' := by
  obtain ⟨pv, h5⟩ := h.ex
  have h6 := h5.ok.dur.get hh.dur
  have e : getS s k = (if s.off then ByteArray.empty else d, if s.off then 124 else 0) := by
    unfold getS refS
    cases s.off with
    | true => rfl
    | false =>
      simp only [Bool.false_eq_true, if_false]
      have e0 : (if 1 ≤ k.size ∧ k.size ≤ 64 then (0 : Int) else 120) = 0 := if_pos ⟨h6.1, h6.2.1⟩
      rw [e0, if_neg (by simp), hh.now]
      rfl
  have C := getC k h5 (by omega)
  rw [e] at C
  refine C.mono ?_
  rintro e w' ⟨rfl, b⟩
  exact ⟨rfl, h.lat b hB⟩
theorem aDown {B g bn bd : Nat} {s : S} {w0 w1 : World} (h : At B g bn bd s w0 w1) : Calls Tryz.prog 55 #[.pointer (some ⟨g, 0, none⟩)] w1 fun e w' => e = .returned (.bool s.off) ∧ w' = w1 := by
  obtain ⟨pv, h5⟩ := h.ex
  exact downC h5.row
end Go.Proofs.YtmindflfjocjlaaGreat.yx

namespace Go.Proofs.YtmindflfjocjlaaGreat.za
open Go.RowKit Go.PlainAid Go.Maps Go.Shelf
open Go.Proofs.YtmindflfjocjlaaGreat.ca Go.Proofs.YtmindflfjocjlaaGreat.cb Go.Proofs.YtmindflfjocjlaaGreat.cp Go.Proofs.YtmindflfjocjlaaGreat.kp Go.Proofs.YtmindflfjocjlaaGreat.ka Go.Proofs.YtmindflfjocjlaaGreat.ya Go.Proofs.YtmindflfjocjlaaGreat.yb Go.Proofs.YtmindflfjocjlaaGreat.yc Go.Proofs.YtmindflfjocjlaaGreat.yd Go.Proofs.YtmindflfjocjlaaGreat.ye Go.Proofs.YtmindflfjocjlaaGreat.yf Go.Proofs.YtmindflfjocjlaaGreat.yg Go.Proofs.YtmindflfjocjlaaGreat.yi Go.Proofs.YtmindflfjocjlaaGreat.yk Go.Proofs.YtmindflfjocjlaaGreat.yl Go.Proofs.YtmindflfjocjlaaGreat.ym Go.Proofs.YtmindflfjocjlaaGreat.yn Go.Proofs.YtmindflfjocjlaaGreat.yo Go.Proofs.YtmindflfjocjlaaGreat.yp Go.Proofs.YtmindflfjocjlaaGreat.yq Go.Proofs.YtmindflfjocjlaaGreat.yr Go.Proofs.YtmindflfjocjlaaGreat.ys Go.Proofs.YtmindflfjocjlaaGreat.yt Go.Proofs.YtmindflfjocjlaaGreat.yu Go.Proofs.YtmindflfjocjlaaGreat.yv Go.Proofs.YtmindflfjocjlaaGreat.yw Go.Proofs.YtmindflfjocjlaaGreat.yx Go.Proofs.YtmindflfjocjlaaGreat.sb Go.Proofs.YtmindflfjocjlaaGreat.mc
set_option linter.unusedVariables false
set_option linter.unusedSimpArgs false
theorem isz_tot (r : List Rec) : isz r ≤ 1 + tot r := by
  induction r with
  | nil => simp [isz, tot]
  | cons p r ih => simp only [isz, tot, cnt]; omega
-- as long as no power is cut
structure Rm (c : Int) (s : S) : Prop where
  off : s.off = false
  arm : s.armed = 0
  cap : s.cap = c
  tn : (tot (now s) : Int) ≤ c
  td : (tot s.dur : Int) ≤ c
theorem spend_not {s : S} (h : s.armed = 0) : spendS s = (0, s) := by unfold spendS; rw [if_pos h]
theorem rm_do {c : Int} {s : S} (h : Rm c s) (hs : Srt s.dur) (kind : Int) (k d : ByteArray) (n : Int) (h4 : kind ≠ 4) (h5 : kind ≠ 5) : Rm c (doS s kind k d n).2 ∧ ((doS s kind k d n).1 ≠ 0 → tot (now (doS s kind k d n).2) = tot (now s)) := by
  have hsn : Srt (now s) := srt_do hs
  unfold doS
  by_cases h1 : kind = 1
  · rw [if_pos h1]
    unfold putS
    split
    · exact ⟨h, fun _ => rfl⟩
    · split
      · split
        · exact ⟨h, fun _ => rfl⟩
        · rename_i hx
          rw [spend_not (show (addW s ⟨false, k, d⟩).armed = 0 from h.arm)]
          refine ⟨⟨h.off, h.arm, h.cap, ?_, h.td⟩, fun e => absurd rfl e⟩
          rw [now_add]
          show ((tot (put k d (now s)) : Nat) : Int) ≤ c
          have h6 := h.tn
          have h7 := h.cap
          have h8 : ¬ (s.cap < (tot (put k d (now s)) : Nat) ∧ tot (now s) < tot (put k d (now s))) := hx
          omega
      · exact ⟨h, fun _ => rfl⟩
  · rw [if_neg h1]
    by_cases h2 : kind = 2
    · rw [if_pos h2]
      unfold cutS
      split
      · exact ⟨h, fun _ => rfl⟩
      · split
        · rw [spend_not (show (addW s ⟨true, k, ByteArray.empty⟩).armed = 0 from h.arm)]
          refine ⟨⟨h.off, h.arm, h.cap, ?_, h.td⟩, fun e => absurd rfl e⟩
          rw [now_add]
          show ((tot (del k (now s)) : Nat) : Int) ≤ c
          have h6 := tot_del k (now s) hsn
          have h7 := h.tn
          omega
        · exact ⟨h, fun _ => rfl⟩
    · rw [if_neg h2]
      by_cases h3 : kind = 3
      · rw [if_pos h3]
        unfold syncS
        rw [if_neg (by simp [h.off]), if_neg (by simp [spend_not h.arm]), spend_not h.arm]
        exact ⟨⟨h.off, h.arm, h.cap, h.tn, h.tn⟩, fun e => absurd rfl e⟩
      · rw [if_neg h3, if_neg h4, if_neg h5]
        split
        · exact ⟨h, fun _ => rfl⟩
        · exact ⟨h, fun _ => rfl⟩
theorem keys_all (r : List Rec) : keysL ⟨#[]⟩ r = r.map (·.1) := by
  unfold keysL
  have : (fun p : Rec => Lib.hasPrefix (bs p.1) (bs ⟨#[]⟩)) = fun _ => true := by
    funext p
    show List.isPrefixOf [] _ = true
    simp
  rw [this, List.filter_eq_self.2 (fun _ _ => rfl)]
theorem tot_take (r : List Rec) (j : Nat) (p : Rec) (h : r[j]? = some p) : tot (r.take (j + 1)) = tot (r.take j) + cnt p := by
  induction r generalizing j with
  | nil => simp at h
  | cons q r ih =>
    cases j with
    | zero => simp at h; subst h; simp [tot]
    | succ j =>
      simp at h
      simp only [List.take_succ_cons, tot]
      rw [ih j h]; omega
theorem tot_take_le (r : List Rec) (j : Nat) : tot (r.take j) ≤ tot r := by
  induction r generalizing j with
  | nil => simp
  | cons q r ih =>
    cases j with
    | zero => simp [tot]
    | succ j => simp only [List.take_succ_cons, tot]; have := ih j; omega
theorem bytes_is (l m : List UInt8) : Op.bytesLess l m = bytesBefore l m := by
  induction l generalizing m with
  | nil => cases m <;> rfl
  | cons x l ih =>
    cases m with
    | nil => rfl
    | cons y m => show (decide (x < y) || (x == y && Op.bytesLess l m)) = _; rw [ih]; rfl
theorem less_of {a b : ByteArray} (h : lt a b = true) : Op.bytesLess a.toList b.toList = true ∧ (b.toList == a.toList) = false ∧ Op.bytesLess b.toList a.toList = false := by
  refine ⟨?_, ?_, ?_⟩
  · rw [bytes_is, ByteArray.toList_eq, ByteArray.toList_eq]; exact h
  · rw [ByteArray.toList_eq, ByteArray.toList_eq, beq_eq_false_iff_ne]
    intro e
    exact lt_ne h (bs_inj e).symm
  · rw [bytes_is, ByteArray.toList_eq, ByteArray.toList_eq]; exact lt_asym h
theorem below_dN {B : Nat} {w w' : World} (h : Below B w w') (n : Nat) : Below B w (w'.drewN n) := ⟨h.os, h.tape, h.output, h.size, h.block⟩
theorem ops_at {B : Nat} {w : World} {va : Option Addr} {vc : Nat} {l : List Opn} (h : ReadsO B w (.slice va l.length vc) l) (j : Nat) (o : Opn) (ho : l[j]? = some o) (hj : j < l.length) : ∃ b off, va = some ⟨b, off, none⟩ ∧ w.cell? ⟨b, off + j * 4, none⟩ = some (.int .i64 o.kind) ∧ w.cell? ⟨b, off + j * 4 + 1, none⟩ = some (.string o.key) ∧ w.cell? ⟨b, off + j * 4 + 2, none⟩ = some (.string o.data) ∧ w.cell? ⟨b, off + j * 4 + 3, none⟩ = some (.int .i64 o.n) ∧ OkO o := by
  obtain ⟨⟨a', c', e', h1⟩, hev⟩ := h
  injection e' with e1 _ e2
  subst e1 e2
  rcases h1 with h1 | ⟨b, off, rfl, _, hc⟩
  · omega
  · obtain ⟨d0, d1, d2, d3⟩ := hc j o ho
    exact ⟨b, off, rfl, d0, d1, d2, d3, hev o (List.mem_of_getElem? ho)⟩
end Go.Proofs.YtmindflfjocjlaaGreat.za

namespace Go.Proofs.YtmindflfjocjlaaGreat.ze
open Go.RowKit Go.PlainAid Go.Maps Go.Shelf
open Go.Proofs.YtmindflfjocjlaaGreat.na Go.Proofs.YtmindflfjocjlaaGreat.ya Go.Proofs.YtmindflfjocjlaaGreat.yb Go.Proofs.YtmindflfjocjlaaGreat.yc Go.Proofs.YtmindflfjocjlaaGreat.yo Go.Proofs.YtmindflfjocjlaaGreat.yp Go.Proofs.YtmindflfjocjlaaGreat.za
set_option linter.unusedVariables false
set_option linter.unusedSimpArgs false
theorem or_i64 (v c : Int) (h0 : 0 ≤ v) (h1 : v < 16777216) (c0 : 0 ≤ c) (c1 : c ≤ 255) : bits .or .i64 (v * 256) c = v * 256 + c := by
  obtain ⟨A, rfl⟩ := Int.eq_ofNat_of_zero_le h0
  obtain ⟨C, rfl⟩ := Int.eq_ofNat_of_zero_le c0
  have e1 : ((A : Int) * 256) = ((A * 256 : Nat) : Int) := by omega
  rw [e1]
  show IntKind.i64.wrap ((BitVec.ofInt 64 ((A * 256 : Nat) : Int) ||| BitVec.ofInt 64 (C : Int)).toNat : Nat) = _
  have h : A * 256 ||| C = 2 ^ 8 * A + C := by
    rw [Nat.two_pow_add_eq_or_of_lt (by omega)]
    congr 1
    omega
  rw [BitVec.toNat_or, ofInt_u64 (A * 256) (by omega), ofInt_u64 C (by omega), h, IntKind.wrap_i64]
  omega
-- pieces of texts
theorem bs_ext (t : ByteArray) (i j : Nat) : bs (t.extract i j) = ((bs t).drop i).take (j - i) := by
  unfold bs
  rw [ByteArray.data_extract]
  simp [List.extract_eq_take_drop]
theorem bt_bs (t : ByteArray) (k : Nat) (u : UInt8) (h : (bs t)[k]? = some u) : bt t k = u.toNat := by
  unfold bs at h
  have hk : k < t.size := by
    have := (List.getElem?_eq_some_iff.1 h).1
    simpa using this
  rw [← get_bt t k hk]
  have : t[k] = u := by
    obtain ⟨h1, h2⟩ := List.getElem?_eq_some_iff.1 h
    rw [← h2]; rfl
  rw [this]
def rp (t : ByteArray) (nb : Nat) : ByteArray × ByteArray × Bool :=
  if t.size < nb then (ByteArray.empty, ByteArray.empty, false)
  else if ((t.extract nb t.size).size : Int) < beR t 0 nb then (ByteArray.empty, ByteArray.empty, false)
  else ((t.extract nb t.size).extract 0 (beR t 0 nb).toNat, (t.extract nb t.size).extract (beR t 0 nb).toNat (t.extract nb t.size).size, true)
end Go.Proofs.YtmindflfjocjlaaGreat.ze

namespace Go.Proofs.YtmindflfjocjlaaGreat.zf
open Go.RowKit Go.PlainAid Go.Maps Go.Shelf
open Go.Proofs.YtmindflfjocjlaaGreat.sh Go.Proofs.YtmindflfjocjlaaGreat.ca Go.Proofs.YtmindflfjocjlaaGreat.cb Go.Proofs.YtmindflfjocjlaaGreat.cp Go.Proofs.YtmindflfjocjlaaGreat.ka Go.Proofs.YtmindflfjocjlaaGreat.kp Go.Proofs.YtmindflfjocjlaaGreat.na Go.Proofs.YtmindflfjocjlaaGreat.ya Go.Proofs.YtmindflfjocjlaaGreat.yb Go.Proofs.YtmindflfjocjlaaGreat.yc Go.Proofs.YtmindflfjocjlaaGreat.ye Go.Proofs.YtmindflfjocjlaaGreat.yf Go.Proofs.YtmindflfjocjlaaGreat.yg Go.Proofs.YtmindflfjocjlaaGreat.yi Go.Proofs.YtmindflfjocjlaaGreat.yo Go.Proofs.YtmindflfjocjlaaGreat.yp Go.Proofs.YtmindflfjocjlaaGreat.za Go.Proofs.YtmindflfjocjlaaGreat.ze
set_option linter.unusedVariables false
set_option linter.unusedSimpArgs false
def tx (l : List UInt8) : ByteArray := ⟨l.toArray⟩
theorem bs_tx (l : List UInt8) : bs (tx l) = l := by simp [bs, tx]
theorem tx_bs (a : ByteArray) : tx (bs a) = a := bs_inj (bs_tx _)
theorem tx_size (l : List UInt8) : (tx l).size = l.length := by rw [← bs_len, bs_tx]
theorem beR_one (t : ByteArray) : beR t 0 1 = bt t 0 := by show 0 * 256 + bt t (0 + 0) = _; simp
theorem beR_four (t : ByteArray) : beR t 0 4 = ((bt t 0 * 256 + bt t 1) * 256 + bt t 2) * 256 + bt t 3 := by
  show (((0 * 256 + bt t (0 + 0)) * 256 + bt t (0 + 1)) * 256 + bt t (0 + 2)) * 256 + bt t (0 + 3) = _
  simp
theorem rp_of (T x : ByteArray) (nb : Nat) (Y : List UInt8) (pre : List UInt8) (hp : pre.length = nb) (h : bs T = pre ++ (bs x ++ Y)) (hv : beR T 0 nb = (x.size : Int)) : rp T nb = (x, tx Y, true) := by
  have hz : T.size = nb + (x.size + Y.length) := by rw [← bs_len, h]; simp [hp, bs_len]
  have hu : T.extract nb T.size = tx (bs x ++ Y) := by
    apply bs_inj
    rw [bs_ext, h, bs_tx, hz, List.drop_append_of_le_length (by omega), ← hp, List.drop_length]
    rw [List.take_of_length_le]
    · simp
    · simp [bs_len]
  unfold rp
  rw [if_neg (by omega), hu, hv, tx_size]
  have hl : (bs x ++ Y).length = x.size + Y.length := by simp [bs_len]
  rw [if_neg (by rw [hl]; omega), hl]
  have h1 : (tx (bs x ++ Y)).extract 0 ((x.size : Int)).toNat = x := by
    apply bs_inj
    rw [bs_ext, bs_tx]
    have : ((x.size : Int)).toNat - 0 = (bs x).length := by rw [bs_len]; omega
    rw [this, List.drop_zero, List.take_left]
  have h2 : (tx (bs x ++ Y)).extract ((x.size : Int)).toNat (x.size + Y.length) = tx Y := by
    apply bs_inj
    rw [bs_ext, bs_tx, bs_tx]
    have : ((x.size : Int)).toNat = (bs x).length := by rw [bs_len]; omega
    rw [this, List.drop_left, bs_len, List.take_of_length_le (by omega)]
  rw [h1, h2]
theorem rp1 (T x : ByteArray) (Y : List UInt8) (hx : x.size < 256) (h : bs T = beN 1 x.size 1 ++ (bs x ++ Y)) : rp T 1 = (x, tx Y, true) := by
  refine rp_of T x 1 Y _ (beN_len _ _ _) h ?_
  have e : beN 1 x.size 1 = [UInt8.ofNat x.size] := by simp [beN]
  have h0 := bt_bs T 0 (UInt8.ofNat x.size) (by rw [h, e]; rfl)
  rw [beR_one, h0]
  simp
  omega
theorem rp4 (T x : ByteArray) (Y : List UInt8) (hx : x.size < 4294967296) (h : bs T = beN 4 x.size 4 ++ (bs x ++ Y)) : rp T 4 = (x, tx Y, true) := by
  refine rp_of T x 4 Y _ (beN_len _ _ _) h ?_
  have e : beN 4 x.size 4 = [UInt8.ofNat (x.size / 16777216), UInt8.ofNat (x.size / 65536), UInt8.ofNat (x.size / 256), UInt8.ofNat x.size] := by simp [beN]
  have h0 := bt_bs T 0 (UInt8.ofNat (x.size / 16777216)) (by rw [h, e]; rfl)
  have h1 := bt_bs T 1 (UInt8.ofNat (x.size / 65536)) (by rw [h, e]; rfl)
  have h2 := bt_bs T 2 (UInt8.ofNat (x.size / 256)) (by rw [h, e]; rfl)
  have h3 := bt_bs T 3 (UInt8.ofNat x.size) (by rw [h, e]; rfl)
  rw [beR_four, h0, h1, h2, h3]
  simp
  omega
-- the records of an image, one behind the other
theorem ins_last (x : Rec) (l : List Rec) (h : ∀ y ∈ l, lt y.1 x.1 = true) : ins x l = l ++ [x] := by
  induction l with
  | nil => rfl
  | cons y l ih =>
    have h1 := h y (by simp)
    have h2 : lt x.1 y.1 = false := lt_asym h1
    unfold ins
    rw [h2, ih (fun z hz => h z (by simp [hz]))]
    rfl
theorem srt_before {r : List Rec} (h : Srt r) {j : Nat} {p : Rec} (hp : r[j]? = some p) : ∀ y ∈ r.take j, lt y.1 p.1 = true := by
  intro y hy
  obtain ⟨i, hi, e⟩ := List.mem_iff_getElem.1 hy
  obtain ⟨hj, e2⟩ := List.getElem?_eq_some_iff.1 hp
  simp only [List.length_take] at hi
  rw [List.getElem_take] at e
  have := List.pairwise_iff_getElem.1 h i j (by omega) hj (by omega)
  rw [e, e2] at this
  exact this
theorem put_take {r : List Rec} (h : Srt r) {j : Nat} {p : Rec} (hp : r[j]? = some p) : put p.1 p.2 (r.take j) = r.take (j + 1) := by
  have hb := srt_before h hp
  have hd : del p.1 (r.take j) = r.take j := del_none (get_none.2 (fun y hy => lt_ne (hb y hy)))
  unfold put
  rw [hd, ins_last _ _ hb, List.take_add_one, hp]
  rfl
def recsB (r : List Rec) : List UInt8 := r.flatMap recB
theorem recs_at {r : List Rec} {j : Nat} {p : Rec} (hp : r[j]? = some p) : recsB (r.drop j) = beN 1 p.1.size 1 ++ (bs p.1 ++ (beN 4 p.2.size 4 ++ (bs p.2 ++ recsB (r.drop (j + 1))))) := by
  obtain ⟨hj, e⟩ := List.getElem?_eq_some_iff.1 hp
  rw [List.drop_eq_getElem_cons hj, e]
  simp [recsB, recB, List.append_assoc]
theorem recs_len (r : List Rec) (j : Nat) : (recsB (r.drop j)).length ≤ isz r := by
  induction r generalizing j with
  | nil => simp [recsB]
  | cons p r ih =>
    cases j with
    | zero =>
      have := ih 0
      simp only [List.drop_zero, recsB, List.flatMap_cons, List.length_append, recB_len, isz] at this ⊢
      omega
    | succ j => have := ih j; simp only [List.drop_succ_cons, isz]; omega
theorem len_isz (r : List Rec) : r.length < isz r := by
  induction r with
  | nil => simp [isz]
  | cons p r ih => simp only [List.length_cons, isz]; omega
def lastK (r : List Rec) : Nat → ByteArray
  | 0 => ⟨#[]⟩
  | j + 1 => ((r[j]?).map (·.1)).getD ⟨#[]⟩
def lenV : Value → Nat
  | .string s => s.size
  | _ => 0
theorem above_last {r : List Rec} (h : Srt r) (hok : OkR r) {j : Nat} {p : Rec} (hp : r[j]? = some p) : Op.bytesLess p.1.toList (lastK r j).toList = false ∧ (p.1.toList == (lastK r j).toList) = false := by
  cases j with
  | zero =>
    have hz := hok p (List.mem_of_getElem? hp)
    have he : (lastK r 0).toList = [] := by show (⟨#[]⟩ : ByteArray).toList = []; rw [ByteArray.toList_eq]
    have hn : p.1.toList ≠ [] := by
      intro e
      have : (bs p.1).length = 0 := by unfold bs; rw [← ByteArray.toList_eq, e]; rfl
      rw [bs_len] at this
      omega
    rw [he]
    refine ⟨?_, ?_⟩
    · cases p.1.toList <;> rfl
    · rw [beq_eq_false_iff_ne]; exact hn
  | succ j =>
    obtain ⟨hj, e⟩ := List.getElem?_eq_some_iff.1 hp
    have hq : r[j]? = some r[j] := List.getElem?_eq_getElem (by omega)
    have hl : lastK r (j + 1) = r[j].1 := by show ((r[j]?).map (·.1)).getD ⟨#[]⟩ = _; rw [hq]; rfl
    have := List.pairwise_iff_getElem.1 h j (j + 1) (by omega) hj (by omega)
    rw [e] at this
    rw [hl]
    obtain ⟨_, h2, h3⟩ := less_of this
    exact ⟨h3, h2⟩
end Go.Proofs.YtmindflfjocjlaaGreat.zf

namespace Go.Proofs.YtmindflfjocjlaaGreat.xa
open Go.RowKit Go.PlainAid Go.Maps Go.Shelf
open Go.Proofs.YtmindflfjocjlaaGreat.ca Go.Proofs.YtmindflfjocjlaaGreat.cb Go.Proofs.YtmindflfjocjlaaGreat.cp Go.Proofs.YtmindflfjocjlaaGreat.kp Go.Proofs.YtmindflfjocjlaaGreat.ka Go.Proofs.YtmindflfjocjlaaGreat.ya Go.Proofs.YtmindflfjocjlaaGreat.yb Go.Proofs.YtmindflfjocjlaaGreat.yc Go.Proofs.YtmindflfjocjlaaGreat.ye Go.Proofs.YtmindflfjocjlaaGreat.yf Go.Proofs.YtmindflfjocjlaaGreat.za Go.Proofs.YtmindflfjocjlaaGreat.zf
set_option linter.unusedVariables false
set_option linter.unusedSimpArgs false
-- the document's lists of records
def rc (p : Rec) : List Value := [.string p.1, .string p.2]
def rcs (l : List Rec) : List Value := l.flatMap rc
theorem rcs_app (l l' : List Rec) : rcs (l ++ l') = rcs l ++ rcs l' := by simp [rcs]
theorem rcs_len (l : List Rec) : (rcs l).length = l.length * 2 := by
  induction l with
  | nil => rfl
  | cons p l ih => simp only [rcs, List.flatMap_cons, List.length_append, List.length_cons] at ih ⊢; rw [ih]; simp [rc]; omega
theorem rcs_at (l : List Rec) (j : Nat) (p : Rec) (h : l[j]? = some p) : (rcs l)[j * 2]? = some (.string p.1) ∧ (rcs l)[j * 2 + 1]? = some (.string p.2) := by
  induction l generalizing j with
  | nil => simp at h
  | cons q l ih =>
    cases j with
    | zero =>
      simp at h
      subst h
      exact ⟨rfl, rfl⟩
    | succ j =>
      have := ih j (by simpa using h)
      have e1 : (j + 1) * 2 = j * 2 + 2 := by omega
      rw [e1]
      exact this
abbrev Lr (B : Nat) (v : Value) (r : List Rec) (w : World) : Prop := w.ownsRow B 79 2 v r.length (rcs r)
theorem lr_form {B : Nat} {v : Value} {r : List Rec} {w : World} (o : Lr B v r w) : ∃ a c, v = .slice a r.length c := by
  rcases o.2 with ⟨rfl, h0⟩ | ⟨g, cap, cur, rfl, _⟩
  · exact ⟨none, 0, by rw [h0]⟩
  · exact ⟨_, cap, rfl⟩
theorem lr_at {B : Nat} {a : Option Addr} {c : Nat} {r : List Rec} {w : World} (o : Lr B (.slice a r.length c) r w) (j : Nat) (p : Rec) (hj : r[j]? = some p) : ∃ g, a = some ⟨g, 0, none⟩ ∧ g < w.heap.size ∧ w.cell? ⟨g, j * 2, none⟩ = some (.string p.1) ∧ w.cell? ⟨g, j * 2 + 1, none⟩ = some (.string p.2) := by
  have hjl := (List.getElem?_eq_some_iff.1 hj).1
  rcases o.2 with ⟨_, h0⟩ | ⟨g, cap, cur, e, _, h3, h4, h5, h6, h7⟩
  · omega
  · injection e with e1 _ _
    obtain ⟨s1, s2⟩ := rcs_at r j p hj
    rw [← h7, List.getElem?_take_of_lt (by omega)] at s1 s2
    refine ⟨g, e1, (Array.getElem?_eq_some_iff.1 h3).1, ?_, ?_⟩
    · rw [cell_of_row _ _ _ _ _ _ h3]; simpa using s1
    · rw [cell_of_row _ _ _ _ _ _ h3]; simpa using s2
theorem Lr.later {B : Nat} {v : Value} {r : List Rec} {w w' : World} (h : Lr B v r w) (b : Below w.heap.size w w') : Lr B v r w' := own_kp h (Kp.of_below (A := fun _ => False) b) (fun _ _ e => e)
theorem text_ne {a b : ByteArray} (h : a ≠ b) : (a.toList == b.toList) = false := by
  rw [beq_eq_false_iff_ne]
  intro e
  rw [ByteArray.toList_eq, ByteArray.toList_eq] at e
  exact h (ByteArray.ext (Array.toList_inj.1 e))
-- find
def Fnd (k : ByteArray) (r : List Rec) (i : Int) : Prop := (rget k r = none ∧ i = -1) ∨ ∃ (n : Nat) (d : ByteArray), i = n ∧ r[n]? = some (k, d) ∧ rget k r = some d
set_option maxRecDepth 20000 in
set_option maxHeartbeats 3200000 in
theorem findC {B : Nat} (v : Value) (r : List Rec) (k : ByteArray) (w : World) (h : Lr B v r w) (hs : Srt r) (hl : r.length ≤ 140737488355328) :
    Calls Tryz.prog 83 #[v, .string k] w fun e w' => (∃ i, e = .returned (.int .i64 i) ∧ Fnd k r i) ∧ w' = w := by
  obtain ⟨a, c, rfl⟩ := lr_form h
  have H : Hid _ := h
  have HS : Hid _ := hs
  clear h hs
  go_enter Tryz.func83, Tryz.ntmps83
  go_wp2_with fail
  go_loop [5] (fun iv => ∃ j : Nat, j ≤ r.length ∧ iv = .int .i64 j ∧ Hid (∀ y ∈ r.take j, y.1 ≠ k)) (fun iv => (r.length - intOf iv).toNat)
  case atStart => exact ⟨0, Nat.zero_le _, rfl, fun y hy => by cases hy⟩
  case round =>
    obtain ⟨j, hj, rfl, HJ⟩ := hrel
    by_cases hlt : j < r.length
    · have hlt' : (j : Int) < r.length := by omega
      obtain ⟨p, hp⟩ : ∃ p, r[j]? = some p := ⟨_, List.getElem?_eq_getElem hlt⟩
      obtain ⟨g, rfl, _, c0, c1⟩ := lr_at H.out j p hp
      have HP : Hid _ := hp
      clear hp
      obtain ⟨pk, pd⟩ := p
      by_cases e : pk = k
      · subst e
        have t1 : (pk.toList == pk.toList) = true := by simp
        go_wp2
        go_ret
        exact ⟨⟨j, rfl, .inr ⟨j, pd, rfl, HP.out, (get_some HS.out).2 (List.mem_of_getElem? HP.out)⟩⟩, rfl⟩
      · have t1 : (pk.toList == k.toList) = false := text_ne e
        have HE : Hid _ := e
        clear e
        go_wp2
        go_round
        case rel => exact ⟨j + 1, by omega, by go_num, fun y hy => by
          rw [List.take_add_one, HP.out] at hy
          rcases List.mem_append.1 hy with h | h
          · exact HJ.out y h
          · simp at h; subst h; exact HE.out⟩
        case measure => simp [intOf]; omega
    · have hlt' : ¬ (j : Int) < r.length := by omega
      have HN : Hid (rget k r = none) := get_none.2 (by have h := HJ.out; rw [List.take_of_length_le (by omega)] at h; exact h)
      go_wp2
      go_ret
      exact ⟨⟨-1, rfl, .inl ⟨HN.out, rfl⟩⟩, rfl⟩
-- counts
set_option maxRecDepth 20000 in
set_option maxHeartbeats 3200000 in
theorem cntsC {B : Nat} (v : Value) (r : List Rec) (w : World) (h : Lr B v r w) (hok : OkR r) (hl : r.length < 3518437208883) :
    Calls Tryz.prog 67 #[v] w fun e w' => e = .returned (.int .i64 (tot r : Nat)) ∧ ∃ n, w' = w.drewN n := by
  obtain ⟨a, c, rfl⟩ := lr_form h
  have htot := hok.tot
  have H : Hid _ := h
  have HK : Hid _ := hok
  clear h hok
  go_enter Tryz.func67, Tryz.ntmps67
  go_wp2_with fail
  go_loopw [3, 4] (fun nv iv wr => ∃ j : Nat, j ≤ r.length ∧ iv = .int .i64 j ∧ nv = .int .i64 ((tot (r.take j) : Nat) : Int) ∧ Hid (∃ n, wr = w.drewN n)) (fun _ iv _ => (r.length - intOf iv).toNat)
  case atStart => exact ⟨0, Nat.zero_le _, rfl, rfl, ⟨0, rfl⟩⟩
  case round =>
    obtain ⟨j, hj, rfl, rfl, HW⟩ := hrel
    have hle := tot_take_le r j
    by_cases hlt : j < r.length
    · have hlt' : (j : Int) < r.length := by omega
      obtain ⟨p, hp⟩ : ∃ p, r[j]? = some p := ⟨_, List.getElem?_eq_getElem hlt⟩
      have hz := HK.out p (List.mem_of_getElem? hp)
      have htk := tot_take r j p hp
      have hr : Lr B (.slice a r.length c) r wr := by obtain ⟨n, hn⟩ := HW.out; rw [hn]; exact Lr.later H.out (za.below_dN (Below.refl _ _) n)
      obtain ⟨g, rfl, _, c0, c1⟩ := lr_at hr j p hp
      clear hp hr
      obtain ⟨pk, pd⟩ := p
      simp only at c0 c1 hz htk
      obtain ⟨T, HT⟩ : ∃ T : Nat, Hid (tot (r.take j) = T) := ⟨_, rfl⟩
      rw [HT.out] at htk hle ⊢
      have HTK : Hid _ := htk
      have hT : (T : Int) ≤ 4000000000000000000 := by omega
      have hz1 : (pk.size : Int) ≤ 64 := by omega
      have hz2 : (pd.size : Int) ≤ 1048576 := by omega
      clear htk hz htot
      go_upto_region 5 with fail
      go_quiet (fail)
      obtain ⟨wd, HWD⟩ : ∃ wd, wd = wr.drewN nq := ⟨_, rfl⟩
      have HWD2 : Hid (∃ n, wd = w.drewN n) := by
        obtain ⟨n, hn⟩ := HW.out
        rw [HWD, hn]
        exact ⟨n + nq, by rw [World.drewN_drewN]⟩
      rw [← HWD]
      clear HWD
      go_wp2
      go_roundw
      case rel => exact ⟨j + 1, by omega, by go_num, by rw [HTK.out]; simp only [cnt]; go_num, HWD2.out⟩
      case measure => simp [intOf]; omega
    · have hlt' : ¬ (j : Int) < r.length := by omega
      obtain rfl : j = r.length := by omega
      have HTL : Hid (r.take r.length = r) := List.take_length
      rw [HTL.out]
      go_wp2
      go_ret
      exact ⟨rfl, HW.out⟩
end Go.Proofs.YtmindflfjocjlaaGreat.xa
