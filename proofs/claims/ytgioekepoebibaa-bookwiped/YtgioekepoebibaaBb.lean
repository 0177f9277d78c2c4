import Derived.Test.YtgioekepoebibaaBa
import Derived.Test.YtgioekepoebibaaLb
namespace Go.Proofs.Ytgioekepoebibaa.bb
open Go.RowKit Go.PlainAid Go.Maps Go.Shelf
open Go.Proofs.Ytgioekepoebibaa.kp Go.Proofs.Ytgioekepoebibaa.ya Go.Proofs.Ytgioekepoebibaa.yb Go.Proofs.Ytgioekepoebibaa.yc Go.Proofs.Ytgioekepoebibaa.yd Go.Proofs.Ytgioekepoebibaa.ye Go.Proofs.Ytgioekepoebibaa.yf Go.Proofs.Ytgioekepoebibaa.yi Go.Proofs.Ytgioekepoebibaa.yk Go.Proofs.Ytgioekepoebibaa.yl Go.Proofs.Ytgioekepoebibaa.ym Go.Proofs.Ytgioekepoebibaa.yn
open Go.Proofs.Ytgioekepoebibaa.qa Go.Proofs.Ytgioekepoebibaa.qg Go.Proofs.Ytgioekepoebibaa.qh Go.Proofs.Ytgioekepoebibaa.ba
open Go.Proofs.Ytgioekepoebibaa.qb (over keyC keyNo)
open Go.Proofs.Ytgioekepoebibaa.qc (key_same wi kd)
set_option linter.unusedVariables false
set_option linter.unusedSimpArgs false
-- a row beside a store
theorem row_apart {T z B B' g bn bd n : Nat} {pv v : Value} {s : S} {xs : List Value} {w : World} (h1 : T ≠ 79) (h2 : T ≠ 82) (h : Sr B g bn bd pv s w) (o : w.ownsRow B' T z v n xs) : ∀ j, Fr g bn bd pv j → some j ≠ v.ownBlock := by
  rintro j (rfl | rfl | rfl | hj)
  · exact own_tag o h.row h1
  · exact own_map o h.mn
  · exact own_map o h.md
  · rcases h.pr.2 with ⟨rfl, _⟩ | ⟨g', cap, cur, rfl, _, hh, _⟩
    · cases hj
    · have : j = g' := Option.some.inj hj
      subst this
      exact own_tag o hh h2
structure Mt (T z B g bn bd : Nat) (s : S) (v : Value) (n : Nat) (xs : List Value) (w w' : World) : Prop where
  ex : ∃ pv, Sr B g bn bd pv s w'
  row : w'.ownsRow B T z v n xs
  bl : Below B w w'
theorem Mt.later {T z B g bn bd n : Nat} {s : S} {v : Value} {xs : List Value} {w w1 w2 : World} (h : Mt T z B g bn bd s v n xs w w1) (b : Below w1.heap.size w1 w2) (hB : B ≤ w.heap.size) : Mt T z B g bn bd s v n xs w w2 := by
  obtain ⟨⟨pv, h1⟩, h2, h3⟩ := h
  exact ⟨⟨pv, sr_later h1 b⟩, own_kp h2 (Kp.of_below (A := fun _ => False) b) (fun _ _ e => e), h3.trans (b.mono (Nat.le_trans hB h3.size))⟩
theorem Mt.rn {T z B g bn bd n : Nat} {pv : Value} {s s' : S} {v : Value} {xs : List Value} {w w1 w2 : World} (h1 : T ≠ 79) (h2 : T ≠ 82) (h : Mt T z B g bn bd s v n xs w w1) (hp : Sr B g bn bd pv s w1) (r : Rn B g bn bd pv s' w1 w2) (hB : B ≤ w.heap.size) : Mt T z B g bn bd s' v n xs w w2 := by
  have hb := Rn.below hp r (Nat.le_trans hB h.bl.size)
  obtain ⟨p, h7, k, _⟩ := r
  exact ⟨⟨p, h7⟩, own_kp h.row k (fun j hj hF => row_apart h1 h2 hp h.row j hF hj), h.bl.trans hb⟩
-- the row grows
theorem Mt.grown {T z B g bn bd n n' : Nat} {s : S} {v v' : Value} {xs xs' : List Value} {w w1 w2 : World} (h1 : T ≠ 79) (h2 : T ≠ 82) (h : Mt T z B g bn bd s v n xs w w1) (o : w2.ownsRow B T z v' n' xs') (hg : w1.grownBy w2 v.ownBlock) (hB : B ≤ w.heap.size) : Mt T z B g bn bd s v' n' xs' w w2 := by
  obtain ⟨⟨pv, hp⟩, hr, hb⟩ := h
  have k : Kp (fun k => some k = v.ownBlock) w1 w2 := ⟨hg.os, hg.tape, hg.output, hg.size, fun j hj hn => hg.block j hj (fun e => hn e)⟩
  exact ⟨⟨pv, sr_keep hp k (fun j hj e => row_apart h1 h2 hp hr j hj e)⟩, o, hb.grown hg (Nat.le_trans hB hb.size) (fun j hj => (hr.lt _ hj).1)⟩
-- what the law puts
theorem put_ok {s : S} {k d : ByteArray} (ho : s.off = false) (ha : s.armed = 0) (h1 : 1 ≤ k.size ∧ k.size ≤ 64) (hd : d.size ≤ 1048576) (ht : (tot (put k d (now s)) : Int) ≤ s.cap) : putS s k d = (0, addW s ⟨false, k, d⟩) := by
  have hr : refS s k = 0 := by unfold refS; rw [ho]; simp [h1]
  have hsp : spendS (addW s ⟨false, k, d⟩) = (0, addW s ⟨false, k, d⟩) := by
    unfold spendS
    rw [if_pos (show (addW s ⟨false, k, d⟩).armed = 0 from ha)]
  unfold putS
  rw [if_neg (by simp [hr]), if_pos hd, if_neg (by omega), hsp]
theorem put_put {k x y : ByteArray} {r : List Rec} (h : Srt r) : put k x (put k y r) = put k x r := by
  refine ext_get (srt_put (srt_put h)) (srt_put h) (fun k' => ?_)
  by_cases e : k' = k
  · subst e; rw [get_put_same (srt_put h), get_put_same h]
  · rw [get_put_other (srt_put h) e, get_put_other h e, get_put_other h e]
theorem tot_le (k d : ByteArray) {r : List Rec} (h : Srt r) : tot (put k d r) ≤ tot r + cnt (k, d) := by have := tot_put k d r h; omega
structure Ks (K1 K2 : ByteArray) : Prop where
  ne : K1 ≠ K2
  z1 : K1.size = 18
  z2 : K2.size = 18
def D0 (K1 K2 a b : ByteArray) : List Rec := put K2 b (put K1 a [])
theorem srt_nil : Srt [] := List.Pairwise.nil
theorem srtD (K1 K2 a b : ByteArray) : Srt (D0 K1 K2 a b) := srt_put (srt_put srt_nil)
theorem totD (K1 K2 a b : ByteArray) : tot (D0 K1 K2 a b) ≤ cnt (K1, a) + cnt (K2, b) := by
  have h1 := tot_le K2 b (srt_put (k := K1) (d := a) srt_nil)
  have h2 := tot_le K1 a srt_nil
  have h3 : tot ([] : List Rec) = 0 := rfl
  unfold D0; omega
def sL (F : ByteArray → ByteArray) (K1 K2 a b : ByteArray) (ps : List ByteArray) : S := ⟨536870912, D0 K1 K2 a b, ps.map fun p => ⟨false, K1, F p⟩, 0, false, 0⟩
theorem sL_add (F : ByteArray → ByteArray) (K1 K2 a b : ByteArray) (ps : List ByteArray) (p : ByteArray) : addW (sL F K1 K2 a b ps) ⟨false, K1, F p⟩ = sL F K1 K2 a b (ps ++ [p]) := by simp [sL, addW]
theorem sL_now (F : ByteArray → ByteArray) (K1 K2 a b : ByteArray) (ps : List ByteArray) (p : ByteArray) : now (sL F K1 K2 a b (ps ++ [p])) = put K1 (F p) (now (sL F K1 K2 a b ps)) := by
  rw [← sL_add, now_add]; rfl
theorem fold_last (F : ByteArray → ByteArray) (K1 : ByteArray) : ∀ (ps : List ByteArray) (p : ByteArray) (r : List Rec), Srt r → ((ps ++ [p]).map fun p => (⟨false, K1, F p⟩ : W)).foldl doW r = put K1 (F p) r := by
  intro ps
  induction ps with
  | nil => intro p r h; rfl
  | cons x l ih =>
    intro p r h
    have := ih p (put K1 (F x) r) (srt_put h)
    rw [put_put h] at this
    exact this
theorem sL_last (F : ByteArray → ByteArray) (K1 K2 a b : ByteArray) (ps : List ByteArray) (p : ByteArray) : now (sL F K1 K2 a b (ps ++ [p])) = put K1 (F p) (D0 K1 K2 a b) := fold_last F K1 ps p _ (srtD _ _ _ _)
theorem sL_put {F : ByteArray → ByteArray} {K1 K2 a b : ByteArray} (hk : Ks K1 K2) (ha : a.size ≤ 524306) (hb : b.size ≤ 524306) (ps : List ByteArray) (p : ByteArray) (hp : (F p).size ≤ 524306) : putS (sL F K1 K2 a b ps) K1 (F p) = (0, sL F K1 K2 a b (ps ++ [p])) := by
  rw [← sL_add]
  refine put_ok rfl rfl (by rw [hk.z1]; omega) (by omega) ?_
  rw [← sL_now, sL_last]
  have h1 := tot_le K1 (F p) (srtD K1 K2 a b)
  have h2 := totD K1 K2 a b
  have z1 := hk.z1
  have z2 := hk.z2
  simp only [cnt] at h1 h2
  show (tot (put K1 (F p) (D0 K1 K2 a b)) : Int) ≤ 536870912
  omega
theorem sL_get {F : ByteArray → ByteArray} {K1 K2 a b : ByteArray} (hk : Ks K1 K2) (ps : List ByteArray) (p : ByteArray) : getS (sL F K1 K2 a b (ps ++ [p])) K1 = (F p, 0) := by
  have hr : refS (sL F K1 K2 a b (ps ++ [p])) K1 = 0 := by unfold refS; rw [show (sL F K1 K2 a b (ps ++ [p])).off = false from rfl]; simp [hk.z1]
  unfold getS
  rw [if_neg (by simp [hr]), sL_last, get_put_same (srtD K1 K2 a b)]
  rfl
-- the beginning: two puts, and a Sync
def s00 : S := ⟨536870912, [], [], 0, false, 0⟩
theorem s00_put {K1 K2 a b : ByteArray} (hk : Ks K1 K2) (ha : a.size ≤ 524306) (hb : b.size ≤ 524306) : putS s00 K1 a = (0, addW s00 ⟨false, K1, a⟩) ∧ putS (addW s00 ⟨false, K1, a⟩) K2 b = (0, addW (addW s00 ⟨false, K1, a⟩) ⟨false, K2, b⟩) := by
  have z1 := hk.z1
  have z2 := hk.z2
  constructor
  · refine put_ok rfl rfl (by omega) (by omega) ?_
    have h2 := tot_le K1 a srt_nil
    have h3 : tot ([] : List Rec) = 0 := rfl
    simp only [cnt] at h2
    show (tot (put K1 a []) : Int) ≤ 536870912
    omega
  · refine put_ok rfl rfl (by omega) (by omega) ?_
    have h2 := totD K1 K2 a b
    simp only [cnt] at h2
    show (tot (D0 K1 K2 a b) : Int) ≤ 536870912
    omega
theorem s00_sync (F : ByteArray → ByteArray) (K1 K2 a b : ByteArray) : syncS (addW (addW s00 ⟨false, K1, a⟩) ⟨false, K2, b⟩) = (0, sL F K1 K2 a b []) := rfl
-- behind the power cut
def sC (F : ByteArray → ByteArray) (K1 K2 a b : ByteArray) (ps : List ByteArray) (keep : ByteArray) : S := crashS (sL F K1 K2 a b ps) keep
theorem kd_one (F : ByteArray → ByteArray) (K1 K2 : ByteArray) (a0 b keep : ByteArray) (hne : K1 ≠ K2) (ps : List ByteArray) (j : Nat) : ∃ p ∈ a0 :: ps, rget K1 (kdN keep (ps.map fun p => (⟨false, K1, F p⟩ : W)) (D0 K1 K2 (F a0) b) j) = some (F p) := by
  induction j with
  | zero =>
    refine ⟨a0, by simp, ?_⟩
    show rget K1 (D0 K1 K2 (F a0) b) = _
    unfold D0
    rw [get_put_other (srt_put srt_nil) hne, get_put_same srt_nil]
  | succ j ih =>
    show ∃ p ∈ a0 :: ps, rget K1 (match (ps.map fun p => (⟨false, K1, F p⟩ : W))[j]? with | some x => if surv keep j then doW (kdN keep (ps.map fun p => (⟨false, K1, F p⟩ : W)) (D0 K1 K2 (F a0) b) j) x else kdN keep (ps.map fun p => (⟨false, K1, F p⟩ : W)) (D0 K1 K2 (F a0) b) j | none => kdN keep (ps.map fun p => (⟨false, K1, F p⟩ : W)) (D0 K1 K2 (F a0) b) j) = some (F p)
    cases h : (ps.map fun p => (⟨false, K1, F p⟩ : W))[j]? with
    | none => exact ih
    | some x =>
      rw [List.getElem?_map, Option.map_eq_some_iff] at h
      obtain ⟨p, hp, rfl⟩ := h
      cases surv keep j with
      | false => exact ih
      | true =>
        refine ⟨p, List.mem_cons_of_mem _ (List.mem_of_getElem? hp), ?_⟩
        exact get_put_same (srt_kd (srtD _ _ _ _) _)
theorem sC_get {F : ByteArray → ByteArray} {K1 K2 a0 b : ByteArray} (hk : Ks K1 K2) (ps : List ByteArray) (keep : ByteArray) : (∃ p ∈ a0 :: ps, getS (sC F K1 K2 (F a0) b ps keep) K1 = (F p, 0)) ∧ getS (sC F K1 K2 (F a0) b ps keep) K2 = (b, 0) := by
  have hr1 : refS (sC F K1 K2 (F a0) b ps keep) K1 = 0 := by unfold refS; rw [show (sC F K1 K2 (F a0) b ps keep).off = false from rfl]; simp [hk.z1]
  have hr2 : refS (sC F K1 K2 (F a0) b ps keep) K2 = 0 := by unfold refS; rw [show (sC F K1 K2 (F a0) b ps keep).off = false from rfl]; simp [hk.z2]
  have hn : now (sC F K1 K2 (F a0) b ps keep) = kdN keep (ps.map fun p => (⟨false, K1, F p⟩ : W)) (D0 K1 K2 (F a0) b) (ps.map fun p => (⟨false, K1, F p⟩ : W)).length := rfl
  constructor
  · obtain ⟨p, hp, h⟩ := kd_one F K1 K2 a0 b keep hk.ne ps (ps.map fun p => (⟨false, K1, F p⟩ : W)).length
    refine ⟨p, hp, ?_⟩
    unfold getS
    rw [if_neg (by simp [hr1]), hn, h]
    rfl
  · unfold getS
    rw [if_neg (by simp [hr2]), hn, get_kd (srtD _ _ _ _) (fun x hx => by
      obtain ⟨p, _, rfl⟩ := List.mem_map.1 hx
      exact hk.ne)]
    unfold D0
    rw [get_put_same (srt_put srt_nil)]
    rfl
end Go.Proofs.Ytgioekepoebibaa.bb
