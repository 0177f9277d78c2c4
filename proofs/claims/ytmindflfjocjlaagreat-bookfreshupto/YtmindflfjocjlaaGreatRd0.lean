import Derived.Test.YtmindflfjocjlaaGreatRc0
import Derived.Test.YtmindflfjocjlaaGreatRb0
import Derived.Test.YtmindflfjocjlaaGreatRa0
namespace Go.Proofs.YtmindflfjocjlaaGreat.tbb
open Go.RowKit Go.PlainAid Go.Maps Go.Shelf
open Go.Proofs.YtmindflfjocjlaaGreat.kp Go.Proofs.YtmindflfjocjlaaGreat.ya Go.Proofs.YtmindflfjocjlaaGreat.yb Go.Proofs.YtmindflfjocjlaaGreat.yc Go.Proofs.YtmindflfjocjlaaGreat.yd Go.Proofs.YtmindflfjocjlaaGreat.ye Go.Proofs.YtmindflfjocjlaaGreat.yf Go.Proofs.YtmindflfjocjlaaGreat.yi Go.Proofs.YtmindflfjocjlaaGreat.yk Go.Proofs.YtmindflfjocjlaaGreat.yl Go.Proofs.YtmindflfjocjlaaGreat.ym Go.Proofs.YtmindflfjocjlaaGreat.yn
open Go.Proofs.YtmindflfjocjlaaGreat.tqa Go.Proofs.YtmindflfjocjlaaGreat.tqg Go.Proofs.YtmindflfjocjlaaGreat.tqh Go.Proofs.YtmindflfjocjlaaGreat.tba
open Go.Proofs.YtmindflfjocjlaaGreat.tqb (over keyC keyNo)
open Go.Proofs.YtmindflfjocjlaaGreat.tqc (key_same wi kd)
set_option linter.unusedVariables false
set_option linter.unusedSimpArgs false
-- a row beside a store
theorem row_apart {T z B B' g bn bd n : Nat} {pv v : Value} {s : S} {xs : List Value} {w : World} (h1 : T ≠ 72) (h2 : T ≠ 75) (h : Sr B g bn bd pv s w) (o : w.ownsRow B' T z v n xs) : ∀ j, Fr g bn bd pv j → some j ≠ v.ownBlock := by
  rintro j (rfl | rfl | rfl | hj)
  · exact own_tag o h.row h1
  · exact own_map o h.mn
  · exact own_map o h.md
  · rcases h.pr.2 with ⟨rfl, _⟩ | ⟨g', cap, cur, rfl, _, hh, _⟩
    · cases hj
    · have : j = g' := Option.some.inj hj
      subst this
      exact own_tag o hh h2
structure Mt (T z B g bn bd : Nat) (s : S) (v : Value) (n : Nat) (xs : List Value) (w w' : World) : Prop where
  ex : ∃ pv, Sr B g bn bd pv s w'
  row : w'.ownsRow B T z v n xs
  bl : Below B w w'
theorem Mt.later {T z B g bn bd n : Nat} {s : S} {v : Value} {xs : List Value} {w w1 w2 : World} (h : Mt T z B g bn bd s v n xs w w1) (b : Below w1.heap.size w1 w2) (hB : B ≤ w.heap.size) : Mt T z B g bn bd s v n xs w w2 := by
  obtain ⟨⟨pv, h1⟩, h2, h3⟩ := h
  exact ⟨⟨pv, sr_later h1 b⟩, own_kp h2 (Kp.of_below (A := fun _ => False) b) (fun _ _ e => e), h3.trans (b.mono (Nat.le_trans hB h3.size))⟩
theorem Mt.rn {T z B g bn bd n : Nat} {pv : Value} {s s' : S} {v : Value} {xs : List Value} {w w1 w2 : World} (h1 : T ≠ 72) (h2 : T ≠ 75) (h : Mt T z B g bn bd s v n xs w w1) (hp : Sr B g bn bd pv s w1) (r : Rn B g bn bd pv s' w1 w2) (hB : B ≤ w.heap.size) : Mt T z B g bn bd s' v n xs w w2 := by
  have hb := Rn.below hp r (Nat.le_trans hB h.bl.size)
  obtain ⟨p, h7, k, _⟩ := r
  exact ⟨⟨p, h7⟩, own_kp h.row k (fun j hj hF => row_apart h1 h2 hp h.row j hF hj), h.bl.trans hb⟩
-- the row grows
theorem Mt.grown {T z B g bn bd n n' : Nat} {s : S} {v v' : Value} {xs xs' : List Value} {w w1 w2 : World} (h1 : T ≠ 72) (h2 : T ≠ 75) (h : Mt T z B g bn bd s v n xs w w1) (o : w2.ownsRow B T z v' n' xs') (hg : w1.grownBy w2 v.ownBlock) (hB : B ≤ w.heap.size) : Mt T z B g bn bd s v' n' xs' w w2 := by
  obtain ⟨⟨pv, hp⟩, hr, hb⟩ := h
  have k : Kp (fun k => some k = v.ownBlock) w1 w2 := ⟨hg.os, hg.tape, hg.output, hg.size, fun j hj hn => hg.block j hj (fun e => hn e)⟩
  exact ⟨⟨pv, sr_keep hp k (fun j hj e => row_apart h1 h2 hp hr j hj e)⟩, o, hb.grown hg (Nat.le_trans hB hb.size) (fun j hj => (hr.lt _ hj).1)⟩
-- what the law puts
theorem put_ok {s : S} {k d : ByteArray} (ho : s.off = false) (ha : s.armed = 0) (h1 : 1 ≤ k.size ∧ k.size ≤ 64) (hd : d.size ≤ 1048576) (ht : (tot (put k d (now s)) : Int) ≤ s.cap) : putS s k d = (0, addW s ⟨false, k, d⟩) := by
  have hr : refS s k = 0 := by unfold refS; rw [ho]; simp [h1]
  have hsp : spendS (addW s ⟨false, k, d⟩) = (0, addW s ⟨false, k, d⟩) := by
    unfold spendS
    rw [if_pos (show (addW s ⟨false, k, d⟩).armed = 0 from ha)]
  unfold putS
  rw [if_neg (by simp [hr]), if_pos hd, if_neg (by omega), hsp]
theorem put_put {k x y : ByteArray} {r : List Rec} (h : Srt r) : put k x (put k y r) = put k x r := by
  refine ext_get (srt_put (srt_put h)) (srt_put h) (fun k' => ?_)
  by_cases e : k' = k
  · subst e; rw [get_put_same (srt_put h), get_put_same h]
  · rw [get_put_other (srt_put h) e, get_put_other h e, get_put_other h e]
theorem tot_le (k d : ByteArray) {r : List Rec} (h : Srt r) : tot (put k d r) ≤ tot r + cnt (k, d) := by have := tot_put k d r h; omega
structure Ks (K1 K2 : ByteArray) : Prop where
  ne : K1 ≠ K2
  z1 : K1.size = 18
  z2 : K2.size = 18
def D0 (K1 K2 a b : ByteArray) : List Rec := put K2 b (put K1 a [])
theorem srt_nil : Srt [] := List.Pairwise.nil
theorem srtD (K1 K2 a b : ByteArray) : Srt (D0 K1 K2 a b) := srt_put (srt_put srt_nil)
theorem totD (K1 K2 a b : ByteArray) : tot (D0 K1 K2 a b) ≤ cnt (K1, a) + cnt (K2, b) := by
  have h1 := tot_le K2 b (srt_put (k := K1) (d := a) srt_nil)
  have h2 := tot_le K1 a srt_nil
  have h3 : tot ([] : List Rec) = 0 := rfl
  unfold D0; omega
def sL (F : ByteArray → ByteArray) (K1 K2 a b : ByteArray) (ps : List ByteArray) : S := ⟨536870912, D0 K1 K2 a b, ps.map fun p => ⟨false, K1, F p⟩, 0, false, 0⟩
theorem sL_add (F : ByteArray → ByteArray) (K1 K2 a b : ByteArray) (ps : List ByteArray) (p : ByteArray) : addW (sL F K1 K2 a b ps) ⟨false, K1, F p⟩ = sL F K1 K2 a b (ps ++ [p]) := by simp [sL, addW]
theorem sL_now (F : ByteArray → ByteArray) (K1 K2 a b : ByteArray) (ps : List ByteArray) (p : ByteArray) : now (sL F K1 K2 a b (ps ++ [p])) = put K1 (F p) (now (sL F K1 K2 a b ps)) := by
  rw [← sL_add, now_add]; rfl
theorem fold_last (F : ByteArray → ByteArray) (K1 : ByteArray) : ∀ (ps : List ByteArray) (p : ByteArray) (r : List Rec), Srt r → ((ps ++ [p]).map fun p => (⟨false, K1, F p⟩ : W)).foldl doW r = put K1 (F p) r := by
  intro ps
  induction ps with
  | nil => intro p r h; rfl
  | cons x l ih =>
    intro p r h
    have := ih p (put K1 (F x) r) (srt_put h)
    rw [put_put h] at this
    exact this
theorem sL_last (F : ByteArray → ByteArray) (K1 K2 a b : ByteArray) (ps : List ByteArray) (p : ByteArray) : now (sL F K1 K2 a b (ps ++ [p])) = put K1 (F p) (D0 K1 K2 a b) := fold_last F K1 ps p _ (srtD _ _ _ _)
theorem sL_put {F : ByteArray → ByteArray} {K1 K2 a b : ByteArray} (hk : Ks K1 K2) (ha : a.size ≤ 524306) (hb : b.size ≤ 524306) (ps : List ByteArray) (p : ByteArray) (hp : (F p).size ≤ 524306) : putS (sL F K1 K2 a b ps) K1 (F p) = (0, sL F K1 K2 a b (ps ++ [p])) := by
  rw [← sL_add]
  refine put_ok rfl rfl (by rw [hk.z1]; omega) (by omega) ?_
  rw [← sL_now, sL_last]
  have h1 := tot_le K1 (F p) (srtD K1 K2 a b)
  have h2 := totD K1 K2 a b
  have z1 := hk.z1
  have z2 := hk.z2
  simp only [cnt] at h1 h2
  show (tot (put K1 (F p) (D0 K1 K2 a b)) : Int) ≤ 536870912
  omega
theorem sL_get {F : ByteArray → ByteArray} {K1 K2 a b : ByteArray} (hk : Ks K1 K2) (ps : List ByteArray) (p : ByteArray) : getS (sL F K1 K2 a b (ps ++ [p])) K1 = (F p, 0) := by
  have hr : refS (sL F K1 K2 a b (ps ++ [p])) K1 = 0 := by unfold refS; rw [show (sL F K1 K2 a b (ps ++ [p])).off = false from rfl]; simp [hk.z1]
  unfold getS
  rw [if_neg (by simp [hr]), sL_last, get_put_same (srtD K1 K2 a b)]
  rfl
-- the beginning: two puts, and a Sync
def s00 : S := ⟨536870912, [], [], 0, false, 0⟩
theorem s00_put {K1 K2 a b : ByteArray} (hk : Ks K1 K2) (ha : a.size ≤ 524306) (hb : b.size ≤ 524306) : putS s00 K1 a = (0, addW s00 ⟨false, K1, a⟩) ∧ putS (addW s00 ⟨false, K1, a⟩) K2 b = (0, addW (addW s00 ⟨false, K1, a⟩) ⟨false, K2, b⟩) := by
  have z1 := hk.z1
  have z2 := hk.z2
  constructor
  · refine put_ok rfl rfl (by omega) (by omega) ?_
    have h2 := tot_le K1 a srt_nil
    have h3 : tot ([] : List Rec) = 0 := rfl
    simp only [cnt] at h2
    show (tot (put K1 a []) : Int) ≤ 536870912
    omega
  · refine put_ok rfl rfl (by omega) (by omega) ?_
    have h2 := totD K1 K2 a b
    simp only [cnt] at h2
    show (tot (D0 K1 K2 a b) : Int) ≤ 536870912
    omega
theorem s00_sync (F : ByteArray → ByteArray) (K1 K2 a b : ByteArray) : syncS (addW (addW s00 ⟨false, K1, a⟩) ⟨false, K2, b⟩) = (0, sL F K1 K2 a b []) := rfl
-- behind the power cut
def sC (F : ByteArray → ByteArray) (K1 K2 a b : ByteArray) (ps : List ByteArray) (keep : ByteArray) : S := crashS (sL F K1 K2 a b ps) keep
theorem kd_one (F : ByteArray → ByteArray) (K1 K2 : ByteArray) (a0 b keep : ByteArray) (hne : K1 ≠ K2) (ps : List ByteArray) (j : Nat) : ∃ p ∈ a0 :: ps, rget K1 (kdN keep (ps.map fun p => (⟨false, K1, F p⟩ : W)) (D0 K1 K2 (F a0) b) j) = some (F p) := by
  induction j with
  | zero =>
    refine ⟨a0, by simp, ?_⟩
    show rget K1 (D0 K1 K2 (F a0) b) = _
    unfold D0
    rw [get_put_other (srt_put srt_nil) hne, get_put_same srt_nil]
  | succ j ih =>
    show ∃ p ∈ a0 :: ps, rget K1 (match (ps.map fun p => (⟨false, K1, F p⟩ : W))[j]? with | some x => if surv keep j then doW (kdN keep (ps.map fun p => (⟨false, K1, F p⟩ : W)) (D0 K1 K2 (F a0) b) j) x else kdN keep (ps.map fun p => (⟨false, K1, F p⟩ : W)) (D0 K1 K2 (F a0) b) j | none => kdN keep (ps.map fun p => (⟨false, K1, F p⟩ : W)) (D0 K1 K2 (F a0) b) j) = some (F p)
    cases h : (ps.map fun p => (⟨false, K1, F p⟩ : W))[j]? with
    | none => exact ih
    | some x =>
      rw [List.getElem?_map, Option.map_eq_some_iff] at h
      obtain ⟨p, hp, rfl⟩ := h
      cases surv keep j with
      | false => exact ih
      | true =>
        refine ⟨p, List.mem_cons_of_mem _ (List.mem_of_getElem? hp), ?_⟩
        exact get_put_same (srt_kd (srtD _ _ _ _) _)
theorem sC_get {F : ByteArray → ByteArray} {K1 K2 a0 b : ByteArray} (hk : Ks K1 K2) (ps : List ByteArray) (keep : ByteArray) : (∃ p ∈ a0 :: ps, getS (sC F K1 K2 (F a0) b ps keep) K1 = (F p, 0)) ∧ getS (sC F K1 K2 (F a0) b ps keep) K2 = (b, 0) := by
  have hr1 : refS (sC F K1 K2 (F a0) b ps keep) K1 = 0 := by unfold refS; rw [show (sC F K1 K2 (F a0) b ps keep).off = false from rfl]; simp [hk.z1]
  have hr2 : refS (sC F K1 K2 (F a0) b ps keep) K2 = 0 := by unfold refS; rw [show (sC F K1 K2 (F a0) b ps keep).off = false from rfl]; simp [hk.z2]
  have hn : now (sC F K1 K2 (F a0) b ps keep) = kdN keep (ps.map fun p => (⟨false, K1, F p⟩ : W)) (D0 K1 K2 (F a0) b) (ps.map fun p => (⟨false, K1, F p⟩ : W)).length := rfl
  constructor
  · obtain ⟨p, hp, h⟩ := kd_one F K1 K2 a0 b keep hk.ne ps (ps.map fun p => (⟨false, K1, F p⟩ : W)).length
    refine ⟨p, hp, ?_⟩
    unfold getS
    rw [if_neg (by simp [hr1]), hn, h]
    rfl
  · unfold getS
    rw [if_neg (by simp [hr2]), hn, get_kd (srtD _ _ _ _) (fun x hx => by
      obtain ⟨p, _, rfl⟩ := List.mem_map.1 hx
      exact hk.ne)]
    unfold D0
    rw [get_put_same (srt_put srt_nil)]
    rfl
end Go.Proofs.YtmindflfjocjlaaGreat.tbb

namespace Go.Proofs.YtmindflfjocjlaaGreat.tlo
open Go.RowKit Go.PlainAid Go.Maps Go.Shelf
open Go.Proofs.YtmindflfjocjlaaGreat.kp Go.Proofs.YtmindflfjocjlaaGreat.ka Go.Proofs.YtmindflfjocjlaaGreat.ya Go.Proofs.YtmindflfjocjlaaGreat.yb Go.Proofs.YtmindflfjocjlaaGreat.yc Go.Proofs.YtmindflfjocjlaaGreat.yd Go.Proofs.YtmindflfjocjlaaGreat.ye Go.Proofs.YtmindflfjocjlaaGreat.yf Go.Proofs.YtmindflfjocjlaaGreat.yg Go.Proofs.YtmindflfjocjlaaGreat.yi Go.Proofs.YtmindflfjocjlaaGreat.yk Go.Proofs.YtmindflfjocjlaaGreat.yl Go.Proofs.YtmindflfjocjlaaGreat.ym Go.Proofs.YtmindflfjocjlaaGreat.yn
open Go.Proofs.YtmindflfjocjlaaGreat.tqa Go.Proofs.YtmindflfjocjlaaGreat.tqg Go.Proofs.YtmindflfjocjlaaGreat.tqh Go.Proofs.YtmindflfjocjlaaGreat.tba Go.Proofs.YtmindflfjocjlaaGreat.tbb
open Go.Proofs.YtmindflfjocjlaaGreat.tqb (over keyC keyNo)
open Go.Proofs.YtmindflfjocjlaaGreat.tqc (key_same wi kd wi_ok kd_ok)
open Go.Proofs.YtmindflfjocjlaaGreat.tlb (shF shF_size)
set_option linter.unusedVariables false
set_option linter.unusedSimpArgs false
def besd (n : Int) : Int := if n = 0 then 1 else n - 1
theorem besd_ok (n : Int) (h0 : 0 ≤ n) (h1 : n ≤ 9223372036854775807) : 0 ≤ besd n ∧ besd n ≤ 9223372036854775807 ∧ besd n ≠ n := by unfold besd; split <;> omega
theorem text_ne {a b : ByteArray} (h : a ≠ b) : (a.toList == b.toList) = false := by
  rw [beq_eq_false_iff_ne]
  intro e
  rw [ByteArray.toList_eq, ByteArray.toList_eq] at e
  exact h (ByteArray.ext (Array.toList_inj.1 e))
theorem keys_apart (s k n t l m : Int) (s0 : 0 ≤ s) (s1 : s ≤ 9223372036854775807) (k0 : 0 ≤ k) (k1 : k ≤ 255) (n0 : 0 ≤ n) (n1 : n ≤ 9223372036854775807) (t0 : 0 ≤ t) (t1 : t ≤ 9223372036854775807) (l0 : 0 ≤ l) (l1 : l ≤ 255) (m0 : 0 ≤ m) (m1 : m ≤ 9223372036854775807) (h : ¬ (s = t ∧ k = l ∧ n = m)) : keyT s k n ≠ keyT t l m := by
  intro e
  have hh := key_same s k n t l m s0 s1 k0 k1 n0 n1 t0 t1 l0 l1 m0 m1
  rw [e] at hh
  simp at hh
  exact h ⟨hh.1.1, hh.1.2, hh.2⟩
theorem bget_frame {k n : Int} {p : ByteArray} (k0 : 1 ≤ k) (k1 : k ≤ 255) (n0 : 0 ≤ n) (n1 : n ≤ 9223372036854775807) (hp : p.size ≤ 524288) : bgetV k n (frameT k n p, 0) = (p, 0) := by
  obtain ⟨h1, h2, h3, h4⟩ := parse_frame k n p k0 k1 n0 n1 hp
  unfold bgetV
  rw [if_pos rfl, if_pos ⟨h1, h2, h3⟩, h4]
theorem mt_new {T B g bn bd n : Nat} {s : S} {v u : Value} {xs : List Value} {w w1 : World} (h : Mt T 1 B g bn bd s v n xs w w1) (hB : B ≤ w.heap.size) : Mt T 1 B g bn bd s (.slice (some ⟨w1.heap.size, 0, none⟩) 1 1) 1 [u] w (w1.alloc (.cells #[u] T)) := by
  have h2 := h.later ((Below.refl _ w1).alloc (Nat.le_refl _) (.cells #[u] T)) hB
  refine ⟨h2.ex, ⟨rfl, .inr ⟨w1.heap.size, 1, #[u], rfl, Nat.le_trans hB h.bl.size, heap_alloc_new w1 _, Nat.le_refl _, by unfold maxLen; omega, rfl, rfl⟩⟩, h2.bl⟩
theorem tne1 : (9 : Nat) ≠ 72 := by decide
theorem tne2 : (9 : Nat) ≠ 75 := by decide
def bsd : ByteArray := ⟨#[98, 101, 115, 105, 100, 101]⟩
end Go.Proofs.YtmindflfjocjlaaGreat.tlo

namespace Go.Proofs.YtmindflfjocjlaaGreat.tbc
open Go.RowKit Go.PlainAid Go.Shelf
open Go.Proofs.YtmindflfjocjlaaGreat.na Go.Proofs.YtmindflfjocjlaaGreat.nb Go.Proofs.YtmindflfjocjlaaGreat.tpa Go.Proofs.YtmindflfjocjlaaGreat.tpd Go.Proofs.YtmindflfjocjlaaGreat.tqa Go.Proofs.YtmindflfjocjlaaGreat.tqb Go.Proofs.YtmindflfjocjlaaGreat.tqd Go.Proofs.YtmindflfjocjlaaGreat.tqe
open Go.Proofs.YtmindflfjocjlaaGreat.tqf (cutL_size cutL_at nx_at)
open Go.Proofs.YtmindflfjocjlaaGreat.tqc (keyT_space keyT_kind keyT_number)
set_option linter.unusedVariables false
set_option linter.unusedSimpArgs false
-- a text read as a key
def sg (x : Int) : Int := if 9223372036854775807 < x then x - 18446744073709551616 else x
theorem sg_wrap (x : Int) (h0 : 0 ≤ x) (h1 : x ≤ 18446744073709551615) : IntKind.i64.wrap x = sg x := by
  rw [IntKind.wrap_i64]; unfold sg; split <;> omega
theorem sg_rng (x : Int) (h0 : 0 ≤ x) (h1 : x ≤ 18446744073709551615) : -9223372036854775808 ≤ sg x ∧ sg x ≤ 9223372036854775807 := by unfold sg; split <;> omega
def r1 (b : ByteArray) := cutL b 1
def r2 (b : ByteArray) := cutL (r1 b) 8
def r3 (b : ByteArray) := cutL (r2 b) 1
def kH (b : ByteArray) : Int := nx (r1 b) 8
def kC (b : ByteArray) : Int := nx (r2 b) 1
def kL (b : ByteArray) : Int := nx (r3 b) 8
def isKey (b : ByteArray) : Bool := decide ((0 ≤ sg (kH b) ∧ 1 ≤ kC b ∧ kC b ≤ 255 ∧ 0 ≤ sg (kL b)) ∧ keyT (sg (kH b)) (kC b) (sg (kL b)) = b)
theorem nx8_rng (b : ByteArray) : 0 ≤ nx b 8 ∧ nx b 8 ≤ 18446744073709551615 := by
  have h := nx_range b 8
  have e : (256 : Int) ^ 8 = 18446744073709551616 := by decide
  omega
theorem nx1_rng (b : ByteArray) : 0 ≤ nx b 1 ∧ nx b 1 ≤ 255 := by
  have h := nx_range b 1
  have e : (256 : Int) ^ 1 = 256 := by decide
  omega
def rkV (b : ByteArray) : Value := if isKey b then .tuple #[.int .i64 (sg (kH b)), .int .i64 (sg (kL b)), .bool true] else .tuple #[.int .i64 0, .int .i64 0, .bool false]
theorem one_box {w w1 : World} {o : Obj} (b : Below (w.alloc o).heap.size (w.alloc o) w1) : w1.heap[w.heap.size]? = some o := by
  refine (b.block _ (by simp)).trans ?_
  exact heap_alloc_new w _
theorem text_eq (a b : ByteArray) : (a.toList == b.toList) = decide (a = b) := by
  by_cases h : a = b
  · subst h; simp
  · rw [decide_eq_false h, beq_eq_false_iff_ne]
    intro e
    rw [ByteArray.toList_eq, ByteArray.toList_eq] at e
    exact h (ByteArray.ext (Array.toList_inj.1 e))
set_option maxRecDepth 100000 in
set_option maxHeartbeats 6400000 in
theorem readKeyC (b : ByteArray) (w : World) (hs : b.size ≤ 281474976710656) :
    Calls Tryz.prog 44 #[.string b] w fun e w' => e = .returned (rkV b) ∧ Below w.heap.size w w' := by
  have s1 : (r1 b).size ≤ b.size := by rw [r1, cutL_size]; omega
  have s2 : (r2 b).size ≤ b.size := by rw [r2, cutL_size]; omega
  have s3 : (r3 b).size ≤ b.size := by rw [r3, cutL_size]; omega
  have C1 : Hid (∀ w, Calls Tryz.prog 74 #[.agg #[.string b], .int .i64 1] w fun e w' => e = .returned (.tuple #[.string (b.extract 0 (min 1 b.size)), .agg #[.string (r1 b)]]) ∧ Below w.heap.size w w') := fun w => takeC b 1 _ w hs (by omega) rfl
  have C2 : Hid (∀ w, Calls Tryz.prog 75 #[.agg #[.string (r1 b)]] w fun e w' => e = .returned (.tuple #[.int .u64 (kH b), .agg #[.string (r2 b)]]) ∧ Below w.heap.size w w') := fun w => next64C (r1 b) w (by omega)
  have C3 : Hid (∀ w, Calls Tryz.prog 76 #[.agg #[.string (r2 b)]] w fun e w' => e = .returned (.tuple #[.int .u8 (kC b), .agg #[.string (r3 b)]]) ∧ Below w.heap.size w w') := fun w => next8C (r2 b) w (by omega)
  have C4 : Hid (∀ w, Calls Tryz.prog 75 #[.agg #[.string (r3 b)]] w fun e w' => e = .returned (.tuple #[.int .u64 (kL b), .agg #[.string (cutL (r3 b) 8)]]) ∧ Below w.heap.size w w') := fun w => next64C (r3 b) w (by omega)
  have hH := nx8_rng (r1 b)
  have hL := nx8_rng (r3 b)
  have hC := nx1_rng (r2 b)
  have wH : IntKind.i64.wrap (kH b) = sg (kH b) := sg_wrap _ hH.1 hH.2
  have wL : IntKind.i64.wrap (kL b) = sg (kL b) := sg_wrap _ hL.1 hL.2
  have wC : IntKind.i64.wrap (kC b) = kC b := by rw [IntKind.wrap_i64]; have := hC; unfold kC; omega
  have gH := sg_rng (kH b) hH.1 hH.2
  have gL := sg_rng (kL b) hL.1 hL.2
  have C5 : Hid (∃ (t : ByteArray) (e : Int), (∀ w, Calls Tryz.prog 47 #[.int .i64 (sg (kH b)), .int .i64 (kC b), .int .i64 (sg (kL b))] w fun x w' => x = .returned (.tuple #[.string t, .int .i64 e]) ∧ Below w.heap.size w w') ∧ ((isKey b = true ∧ e = 0 ∧ t = b) ∨ (isKey b = false ∧ ((e != 0) = true ∨ (e = 0 ∧ (t.toList == b.toList) = false)))) ) := by
    by_cases h : 0 ≤ sg (kH b) ∧ 1 ≤ kC b ∧ kC b ≤ 255 ∧ 0 ≤ sg (kL b)
    · refine ⟨keyT (sg (kH b)) (kC b) (sg (kL b)), 0, fun w => keyC _ _ _ w h.1 gH.2 h.2.1 h.2.2.1 h.2.2.2 gL.2, ?_⟩
      by_cases e : keyT (sg (kH b)) (kC b) (sg (kL b)) = b
      · exact .inl ⟨decide_eq_true ⟨h, e⟩, rfl, e⟩
      · exact .inr ⟨decide_eq_false (fun h2 => e h2.2), .inr ⟨rfl, by rw [text_eq, decide_eq_false e]⟩⟩
    · exact ⟨ByteArray.empty, 10, fun w => (keyNo _ _ _ w h).mono (by rintro _ _ ⟨rfl, hw⟩; exact ⟨rfl, by rw [hw]; exact Below.refl _ _⟩), .inr ⟨decide_eq_false (fun h2 => h h2.1), .inl (by decide)⟩⟩
  obtain ⟨t, e, c5, key⟩ := C5.out
  have C5' : Hid (∀ w, Calls _ _ _ _ _) := c5
  have HV : Hid ((isKey b = true → rkV b = .tuple #[.int .i64 (sg (kH b)), .int .i64 (sg (kL b)), .bool true]) ∧ (isKey b = false → rkV b = .tuple #[.int .i64 0, .int .i64 0, .bool false])) := ⟨fun h => by unfold rkV; rw [if_pos h], fun h => by unfold rkV; rw [if_neg (by simp [h])]⟩
  clear C5 c5 s1 s2 s3 hH hL hC gH gL
  generalize rkV b = rv at *
  generalize isKey b = ik at *
  generalize kH b = h1 at *
  generalize kC b = h2 at *
  generalize kL b = h3 at *
  generalize cutL (r3 b) 8 = z4 at *
  generalize r1 b = z1 at *
  generalize r2 b = z2 at *
  generalize r3 b = z3 at *
  generalize b.extract 0 (min 1 b.size) = z0 at *
  generalize sg h1 = x1 at *
  generalize sg h3 = x3 at *
  have key2 : (ik = true ∧ e = 0 ∧ t = b) ∨ (ik = false ∧ (e != 0) = true) ∨ (ik = false ∧ e = 0 ∧ (t.toList == b.toList) = false) := by
    rcases key with h | ⟨h, h2 | ⟨h2, h3⟩⟩
    · exact .inl h
    · exact .inr (.inl ⟨h, h2⟩)
    · exact .inr (.inr ⟨h, h2, h3⟩)
  clear key
  have tb : (b.toList == b.toList) = true := by simp
  go_enter Tryz.func44, Tryz.ntmps44
  go_wp2_with fail
  refine (C1.out _).mono ?_
  rintro _ w1 ⟨rfl, b1⟩
  have B1 : Hid (Below w.heap.size w w1) := b1
  clear b1
  go_wp2_with fail
  refine (C2.out _).mono ?_
  rintro _ w2 ⟨rfl, b2⟩
  have h0 := one_box b2
  have B2 : Hid (Below w.heap.size w w2) := over (B1.out.alloc B1.out.size _) b2
  have HS2 : Hid (w.heap.size ≤ w1.heap.size) := B1.out.size
  have c0 : w2.cell? ⟨w1.heap.size, 0, none⟩ = some (.string z1) := by rw [cell_of_row _ _ _ _ _ _ h0]; rfl
  have f0 : w2.frozen? ⟨w1.heap.size, 0, none⟩ = false := frozen_of_row _ _ _ _ _ h0
  have H0 : Hid _ := heap_setCell_same w2 _ 0 _ _ (.string z2) h0
  clear h0 b2
  go_wp2_with fail
  obtain ⟨x2, HX2⟩ : ∃ x, x = w2.setCell ⟨w1.heap.size, 0, none⟩ (.string z2) := ⟨_, rfl⟩
  rw [← HX2] at H0 ⊢
  have BX2 : Hid (Below w.heap.size w x2) := by rw [HX2]; exact B2.out.setCell HS2.out _
  clear HX2 c0 f0
  refine (C3.out _).mono ?_
  rintro _ w3 ⟨rfl, b3⟩
  have h0 : w3.heap[w1.heap.size]? = some (.cells #[.string z2] 114 (0, 0)) := (b3.block _ (Array.getElem?_eq_some_iff.1 H0.out).1).trans H0.out
  have B3 : Hid (Below w.heap.size w w3) := over BX2.out b3
  have c0 : w3.cell? ⟨w1.heap.size, 0, none⟩ = some (.string z2) := by rw [cell_of_row _ _ _ _ _ _ h0]; rfl
  have f0 : w3.frozen? ⟨w1.heap.size, 0, none⟩ = false := frozen_of_row _ _ _ _ _ h0
  have H1 : Hid _ := heap_setCell_same w3 _ 0 _ _ (.string z3) h0
  clear h0 b3 H0 BX2
  go_wp2_with fail
  obtain ⟨x3', HX3⟩ : ∃ x, x = w3.setCell ⟨w1.heap.size, 0, none⟩ (.string z3) := ⟨_, rfl⟩
  rw [← HX3] at H1 ⊢
  have BX3 : Hid (Below w.heap.size w x3') := by rw [HX3]; exact B3.out.setCell HS2.out _
  clear HX3 c0 f0
  refine (C4.out _).mono ?_
  rintro _ w4 ⟨rfl, b4⟩
  have B4 : Hid (Below w.heap.size w (w4.alloc (.cells #[.string z4] 114))) := (over BX3.out b4).alloc (over BX3.out b4).size _
  clear b4 H1 BX3
  go_wp2_with fail
  refine (C5'.out _).mono ?_
  rintro _ w5 ⟨rfl, b5⟩
  have B5 : Hid (Below w.heap.size w w5) := over B4.out b5
  clear b5
  rcases key2 with ⟨rfl, rfl, rfl⟩ | ⟨rfl, k2⟩ | ⟨rfl, rfl, k2⟩
  · have HR : Hid _ := HV.out.1 rfl
    go_wp2
    go_ret3
    exact ⟨by rw [HR.out]; rfl, B5.out⟩
  all_goals
    have HR : Hid _ := HV.out.2 rfl
    go_wp2
    go_ret3
    exact ⟨by rw [HR.out]; rfl, B5.out⟩
-- keys are read
theorem isKey_of (s k n : Int) (s0 : 0 ≤ s) (s1 : s ≤ 9223372036854775807) (k0 : 1 ≤ k) (k1 : k ≤ 255) (n0 : 0 ≤ n) (n1 : n ≤ 9223372036854775807) : sg (kH (keyT s k n)) = s ∧ kC (keyT s k n) = k ∧ sg (kL (keyT s k n)) = n ∧ isKey (keyT s k n) = true := by
  have hz := keyT_size s k n
  have e1 : r1 (keyT s k n) = (keyT s k n).extract 1 (keyT s k n).size := by
    have h := cutL_at (keyT s k n) 0 1 (by omega)
    rw [ext_all (keyT s k n) (keyT s k n).size rfl] at h
    exact h
  have e2 : r2 (keyT s k n) = (keyT s k n).extract 9 (keyT s k n).size := by rw [r2, e1, cutL_at _ 1 8 (by omega)]
  have e3 : r3 (keyT s k n) = (keyT s k n).extract 10 (keyT s k n).size := by rw [r3, e2, cutL_at _ 9 1 (by omega)]
  have hH : kH (keyT s k n) = s := by rw [kH, e1, nx_at _ 1 8 (by omega)]; exact keyT_space s k n s0 (by omega)
  have hC : kC (keyT s k n) = k := by rw [kC, e2, nx_at _ 9 1 (by omega)]; exact keyT_kind s k n (by omega) k1
  have hL : kL (keyT s k n) = n := by rw [kL, e3, nx_at _ 10 8 (by omega)]; exact keyT_number s k n n0 (by omega)
  have g1 : sg s = s := by unfold sg; rw [if_neg (by omega)]
  have g2 : sg n = n := by unfold sg; rw [if_neg (by omega)]
  refine ⟨by rw [hH, g1], hC, by rw [hL, g2], ?_⟩
  unfold isKey
  rw [hH, hC, hL, g1, g2]
  exact decide_eq_true ⟨⟨s0, k0, k1, n0⟩, rfl⟩
end Go.Proofs.YtmindflfjocjlaaGreat.tbc

namespace Go.Proofs.YtmindflfjocjlaaGreat.tbd
open Go.RowKit Go.PlainAid Go.Maps Go.Shelf
open Go.Proofs.YtmindflfjocjlaaGreat.kp Go.Proofs.YtmindflfjocjlaaGreat.ka Go.Proofs.YtmindflfjocjlaaGreat.ya Go.Proofs.YtmindflfjocjlaaGreat.yb Go.Proofs.YtmindflfjocjlaaGreat.yc Go.Proofs.YtmindflfjocjlaaGreat.yd Go.Proofs.YtmindflfjocjlaaGreat.ye Go.Proofs.YtmindflfjocjlaaGreat.yf Go.Proofs.YtmindflfjocjlaaGreat.yg Go.Proofs.YtmindflfjocjlaaGreat.yi Go.Proofs.YtmindflfjocjlaaGreat.yj Go.Proofs.YtmindflfjocjlaaGreat.yk Go.Proofs.YtmindflfjocjlaaGreat.yl
open Go.Proofs.YtmindflfjocjlaaGreat.tqa Go.Proofs.YtmindflfjocjlaaGreat.tba Go.Proofs.YtmindflfjocjlaaGreat.tbb Go.Proofs.YtmindflfjocjlaaGreat.tbc
open Go.Proofs.YtmindflfjocjlaaGreat.tqb (over keyC keyNo isKindC kindKeysC kindT kindT_size spaceC spaceT spaceT_size)
set_option linter.unusedVariables false
set_option linter.unusedSimpArgs false
-- rows of numbers
theorem info3 : (Tryz.prog.info? 3).map (fun i => (i.zero, i.size, i.bytes)) = some (some (.int .i64 0), 1, 8) := by kernel_rfl
theorem new_num (W : World) (u : Value) (t : TypeId) : ∀ (j : Nat) (x : Value), [u][j]? = some x → (W.alloc (.cells #[u] t)).cell? (Addr.add ⟨W.heap.size, 0, none⟩ j) = some x := new_text W u t
theorem one_num (x : Int) : ∀ u ∈ [Value.int .i64 x], u.oneCell' = true := by intro u hu; simp at hu; subst hu; rfl
def numOf (k : ByteArray) : Option Int := if isKey k then some (sg (kL k)) else none
def nums (l : List ByteArray) : List Int := l.filterMap numOf
theorem nums_next (l : List ByteArray) (k : ByteArray) : nums (l ++ [k]) = nums l ++ (if isKey k then [sg (kL k)] else []) := by
  unfold nums
  rw [List.filterMap_append]
  congr 1
  unfold numOf
  cases h : isKey k <;> simp [List.filterMap, h]
def numbersS (s : S) (sp k : Int) : List Int := if 0 ≤ sp ∧ 1 ≤ k ∧ k ≤ 255 then nums (keysS s (kindT sp k)) else []
theorem keys_ok {s : S} (h : OkS s) (p : ByteArray) : (keysS s p).length < 3518437208883 ∧ ∀ x ∈ keysS s p, x.size ≤ 64 := by
  unfold keysS
  split
  · exact ⟨by simp, fun x hx => by cases hx⟩
  · have h1 := h.lnow
    constructor
    · unfold keysL
      rw [List.length_map]
      exact Nat.lt_of_le_of_lt (List.length_filter_le _ _) h1
    · intro x hx
      obtain ⟨p, hp, rfl⟩ := List.mem_map.1 hx
      exact (h.now p (List.mem_filter.1 hp).1).2.1
theorem take_next {α : Type} {l : List α} {i : Nat} {x : α} (h : l[i]? = some x) : l.take (i + 1) = l.take i ++ [x] := by
  rw [List.take_add_one, h]; rfl
theorem nums_len (l : List ByteArray) : (nums l).length ≤ l.length := List.length_filterMap_le _ _
set_option maxRecDepth 100000 in
set_option maxHeartbeats 6400000 in
theorem numbersC {B g bn bd : Nat} {pv : Value} {s : S} {w : World} (sp k : Int) (h : Sr B g bn bd pv s w) (h1 : sp ≤ 9223372036854775807) :
    Calls Tryz.prog 12 #[.pointer (some ⟨g, 0, none⟩), .int .i64 sp, .int .i64 k] w fun e w' => ∃ v, e = .returned v ∧ w'.ownsRow w.heap.size 3 1 v (numbersS s sp k).length ((numbersS s sp k).map (Value.int .i64)) ∧ Below w.heap.size w w' := by
  have H : Hid (Sr B g bn bd pv s w) := h
  have CK : Hid (∀ w, Calls _ _ _ _ _) := fun w => isKindC k w
  unfold numbersS
  by_cases hk : 0 ≤ sp ∧ 1 ≤ k ∧ k ≤ 255
  · rw [if_pos hk]
    rw [decide_eq_true hk.2] at CK
    have hs0 : ¬ sp < 0 := by omega
    have C1 : Hid (∀ w, Calls _ _ _ _ _) := fun w => kindKeysC sp k w hk.1 h1 (by omega) hk.2.2
    have C2 : Hid (∀ w1, Below w.heap.size w w1 → Calls _ _ _ _ _) := fun w1 b => keysC (kindT sp k) (sr_later H.out b)
    have hko := keys_ok h.ok (kindT sp k)
    generalize kindT sp k = K at *
    obtain ⟨ks, HKS⟩ : ∃ ks, Hid (keysS s K = ks) := ⟨_, rfl⟩
    rw [HKS.out] at C2 hko ⊢
    have hlen := hko.1
    have HZ : Hid _ := hko.2
    obtain ⟨i3, hi, hz0, hz1, hz2⟩ := info_parts info3
    have HIN : Hid (_ ∧ _ ∧ _ ∧ _) := ⟨hi, hz0, hz1, hz2⟩
    clear h hk hko hi hz0 hz1 hz2
    go_enter Tryz.func12, Tryz.ntmps12
    go_wp2_with fail
    refine (CK.out _).mono ?_
    rintro _ _ ⟨rfl, hw⟩; rw [hw]; clear hw
    go_wp2_with fail
    refine (C1.out _).mono ?_
    rintro _ w1 ⟨rfl, b1⟩
    go_wp2_with fail
    refine (C2.out _ b1).mono ?_
    rintro _ w2 ⟨v, rfl, hrow, b2⟩
    have B2 : Hid (Below w.heap.size w w2) := over b1 b2
    have HRD : Hid (ReadsT w2 v ks) := own_readsT hrow
    clear b1 b2 hrow
    obtain ⟨ka', kc, rfl, _, _⟩ := HRD.out
    go_wp2_with fail
    go_loopw [7, 26] (fun lv iv wr => ∃ i : Nat, i ≤ ks.length ∧ iv = .int .i64 i ∧ Hid (wr.ownsRow w2.heap.size 3 1 lv (nums (ks.take i)).length ((nums (ks.take i)).map (Value.int .i64)) ∧ Below w2.heap.size w2 wr)) (fun _ iv _ => (ks.length - intOf iv).toNat)
    case atStart => exact ⟨0, by omega, rfl, World.ownsRow_nil _ _ _ _, Below.refl _ _⟩
    case round =>
      obtain ⟨i, hil, rfl, HH⟩ := hrel
      obtain ⟨ma, mc, hform⟩ := own_formS HH.out.1
      subst hform
      by_cases hlt : i < ks.length
      · have g1 : (i : Int) < ks.length := by omega
        obtain ⟨x, hx⟩ : ∃ x, ks[i]? = some x := ⟨_, List.getElem?_eq_getElem hlt⟩
        have CR : Hid (∀ w, Calls _ _ _ _ _) := fun w => readKeyC x w (by have := HZ.out x (List.mem_of_getElem? hx); omega)
        obtain ⟨la', lc', e0, _, hcl⟩ := HRD.out.later HH.out.2
        injection e0 with e1 e2 e3
        subst e1
        rcases hcl with h0 | ⟨lb, lo', rfl, hcl⟩
        · omega
        have cx : wr.cell? ⟨lb, lo' + i, none⟩ = some (.string x) := by
          have h := hcl i hlt
          rw [List.getD, hx] at h
          exact h
        have HT : Hid _ := take_next hx
        have HN : Hid _ := nums_next (ks.take i) x
        have hnl : (nums (ks.take i)).length ≤ i := by have h1 := nums_len (ks.take i); rw [List.length_take] at h1; omega
        clear hcl e2 e3 hx
        unfold rkV at CR
        obtain ⟨y, HY⟩ : ∃ y, Hid (sg (kL x) = y) := ⟨_, rfl⟩
        rw [HY.out] at CR HN
        cases hik : isKey x with
        | false =>
          rw [hik] at CR HN
          clear hik
          go_wp2_with fail
          refine (CR.out _).mono ?_
          rintro _ w5 ⟨rfl, b5⟩
          have O5 : Hid (World.ownsRow _ _ _ _ _ _ _) := own_kp HH.out.1 (Kp.of_below (A := fun _ => False) b5) (fun _ _ e => e)
          have B5 : Hid (Below w2.heap.size w2 w5) := over HH.out.2 b5
          clear b5
          simp only [Bool.false_eq_true, if_false]
          go_wp2
          go_roundw
          case rel => exact ⟨i + 1, by omega, by go_num, by rw [HT.out, HN.out]; simpa using O5.out, B5.out⟩
          case measure => simp [intOf]; omega
        | true =>
          rw [hik] at CR HN
          clear hik
          go_wp2_with fail
          refine (CR.out _).mono ?_
          rintro _ w5 ⟨rfl, b5⟩
          have O5 : Hid ((w5.alloc (.cells #[.int .i64 y] 3)).ownsRow w2.heap.size 3 1 (.slice ma (nums (ks.take i)).length mc) (nums (ks.take i)).length ((nums (ks.take i)).map (Value.int .i64))) := (own_kp HH.out.1 (Kp.of_below (A := fun _ => False) b5) (fun _ _ e => e)).alloc _
          have hB5 := over HH.out.2 b5
          have hsz5 : w2.heap.size ≤ w5.heap.size := hB5.size
          have B5 : Hid (Below w2.heap.size w2 (w5.alloc (.cells #[.int .i64 y] 3))) := hB5.alloc hB5.size _
          clear b5 hB5
          simp only [if_true]
          go_wp2_with (first | (at_builtin; (refine wpList_append_own _ rfl _ _ 32 rfl w2.heap.size 3 i3 (.int .i64 0) 1 8 Tryz.underlying32 HIN.out.1 HIN.out.2.1 HIN.out.2.2.1 HIN.out.2.2.2 rfl (by decide) _ (nums (ks.take i)).length _ rfl O5.out ⟨w5.heap.size, 0, none⟩ 1 1 [.int .i64 y] rfl rfl (new_num _ _ _) (one_num _) (by unfold maxLen; omega) (by omega) (by simp; omega) ?_; intro v' w7 ho hg hnn; have HO3 : Hid (World.ownsRow _ _ _ _ _ _ _) := ho; have HG3 : Hid (World.grownBy _ _ _) := hg; clear ho hg hnn)) | go_in)
          go_roundw
          case rel =>
            refine ⟨i + 1, by omega, by go_num, ?_, ?_⟩
            · rw [HT.out, HN.out, if_pos trivial, List.map_append, List.length_append]
              exact HO3.out
            · exact B5.out.grown HG3.out (by simp; omega) (fun j hj => (O5.out.lt _ hj).1)
          case measure => simp [intOf]; omega
      · have g1 : ¬ (i : Int) < ks.length := by omega
        obtain rfl : i = ks.length := by omega
        have HF : Hid (ks.take ks.length = ks) := List.take_length
        rw [HF.out] at HH
        go_wp2
        go_ret
        exact ⟨_, rfl, ⟨HH.out.1.1, by
          rcases HH.out.1.2 with h | ⟨g', cap, cur, e, hb, hrest⟩
          · exact .inl h
          · exact .inr ⟨g', cap, cur, e, Nat.le_trans B2.out.size hb, hrest⟩⟩, over B2.out HH.out.2⟩
  · rw [if_neg hk]
    by_cases hs0 : sp < 0
    · clear h hk
      go_enter Tryz.func12, Tryz.ntmps12
      go_wp2
      go_ret
      exact ⟨_, rfl, World.ownsRow_nil _ _ _ _, Below.refl _ _⟩
    · rw [decide_eq_false (fun h2 => hk ⟨by omega, h2⟩)] at CK
      clear h hk
      go_enter Tryz.func12, Tryz.ntmps12
      go_wp2_with fail
      refine (CK.out _).mono ?_
      rintro _ _ ⟨rfl, hw⟩; rw [hw]; clear hw
      go_wp2
      go_ret
      exact ⟨_, rfl, World.ownsRow_nil _ _ _ _, Below.refl _ _⟩
end Go.Proofs.YtmindflfjocjlaaGreat.tbd
