import Derived.Test.YtmindflfjocjlaaGreatQ07
import Derived.Deep.AppendLies
namespace Go.Proofs.YtmindflfjocjlaaGreat.zb
open Go.RowKit Go.PlainAid Go.Maps Go.Shelf
open Go.Proofs.YtmindflfjocjlaaGreat.ya Go.Proofs.YtmindflfjocjlaaGreat.yb Go.Proofs.YtmindflfjocjlaaGreat.yc Go.Proofs.YtmindflfjocjlaaGreat.yd Go.Proofs.YtmindflfjocjlaaGreat.ye Go.Proofs.YtmindflfjocjlaaGreat.yf Go.Proofs.YtmindflfjocjlaaGreat.yi Go.Proofs.YtmindflfjocjlaaGreat.yk Go.Proofs.YtmindflfjocjlaaGreat.yl Go.Proofs.YtmindflfjocjlaaGreat.ym Go.Proofs.YtmindflfjocjlaaGreat.yr Go.Proofs.YtmindflfjocjlaaGreat.yt
set_option linter.unusedVariables false
set_option linter.unusedSimpArgs false
-- what a key has, and what it may have behind a Crash
abbrev Sn := Bool × ByteArray
def sn (k : ByteArray) (r : List Rec) : Sn := ((rget k r).isSome, (rget k r).getD ByteArray.empty)
def wsn (x : W) : Sn := (!x.cut, if x.cut then ByteArray.empty else x.data)
def onK (k : ByteArray) (l : List W) : List Sn := (l.filter fun x => decide (x.key = k)).map wsn
def canL (k : ByteArray) (s : S) : List Sn := sn k s.dur :: onK k s.pend
theorem sn_same {k : ByteArray} {r : List Rec} {x : W} (h : Srt r) (hk : x.key = k) : sn k (doW r x) = wsn x := by
  subst hk
  unfold doW wsn
  cases x.cut with
  | true => simp [sn, get_del_same]
  | false => simp [sn, get_put_same h]
theorem sn_other {k : ByteArray} {r : List Rec} {x : W} (h : Srt r) (hk : x.key ≠ k) : sn k (doW r x) = sn k r := by
  unfold sn
  rw [get_doW h hk]
theorem onK_app (k : ByteArray) (l l' : List W) : onK k (l ++ l') = onK k l ++ onK k l' := by simp [onK]
theorem onK_one (k : ByteArray) (x : W) : onK k [x] = if x.key = k then [wsn x] else [] := by
  unfold onK
  by_cases h : x.key = k <;> simp [h]
theorem onK_cons (k : ByteArray) (x : W) (l : List W) : onK k (x :: l) = (if x.key = k then [wsn x] else []) ++ onK k l := by
  rw [← onK_one, ← onK_app]; rfl
theorem kd_can (keep k : ByteArray) (l : List W) {r : List Rec} (h : Srt r) (j : Nat) : sn k (kdN keep l r j) ∈ sn k r :: onK k l := by
  induction j with
  | zero => exact List.mem_cons_self
  | succ j ih =>
    unfold kdN
    split
    · rename_i x hx
      split
      · by_cases e : x.key = k
        · rw [sn_same (srt_kd h _) e]
          refine List.mem_cons_of_mem _ ?_
          unfold onK
          exact List.mem_map.2 ⟨x, List.mem_filter.2 ⟨List.mem_of_getElem? hx, by simp [e]⟩, rfl⟩
        · rw [sn_other (srt_kd h _) e]; exact ih
      · exact ih
    · exact ih
theorem kd_no {keep : ByteArray} (hk : keep.size = 0) (l : List W) (r : List Rec) (j : Nat) : kdN keep l r j = r := by
  have hs : ∀ i, surv keep i = false := fun i => by unfold surv; exact decide_eq_false (fun h => h.1 hk)
  induction j with
  | zero => rfl
  | succ j ih =>
    unfold kdN
    rw [hs, ih]
    split <;> simp
def one : ByteArray := ⟨#[1]⟩
theorem surv_one (i : Nat) : surv one i = true := by
  unfold surv
  have h1 : one.size = 1 := rfl
  rw [h1, Nat.mod_one]
  exact decide_eq_true ⟨by omega, by rfl⟩
theorem kd_all (l : List W) (r : List Rec) (j : Nat) (hj : j ≤ l.length) : kdN one l r j = (l.take j).foldl doW r := by
  induction j with
  | zero => rfl
  | succ j ih =>
    have hx : l[j]? = some l[j] := List.getElem?_eq_getElem (by omega)
    have ht : l.take (j + 1) = l.take j ++ [l[j]] := by rw [List.take_add_one, hx]; rfl
    rw [ht, List.foldl_append]
    unfold kdN
    rw [hx, surv_one, ih (by omega)]
    rfl
theorem sn_last (k : ByteArray) (l : List W) : ∀ {r : List Rec}, Srt r → some (sn k (l.foldl doW r)) = (sn k r :: onK k l)[(onK k l).length]? := by
  induction l with
  | nil => intro r h; rfl
  | cons x l ih =>
    intro r h
    rw [List.foldl_cons, ih (srt_doW h), onK_cons]
    by_cases e : x.key = k
    · rw [sn_same h e, if_pos e]; rfl
    · rw [sn_other h e, if_neg e]; rfl
-- behind a Crash
theorem can_crash (keep k : ByteArray) {s : S} (h : Srt s.dur) : sn k (now (crashS s keep)) ∈ canL k s ∧ (keep.size = 0 → (canL k s)[0]? = some (sn k (now (crashS s keep)))) ∧ (keep = one → (canL k s)[(canL k s).length - 1]? = some (sn k (now (crashS s keep)))) := by
  have e : now (crashS s keep) = kdN keep s.pend s.dur s.pend.length := rfl
  rw [e]
  refine ⟨kd_can _ _ _ h _, fun h0 => by rw [kd_no h0]; rfl, ?_⟩
  rintro rfl
  rw [kd_all _ _ _ (Nat.le_refl _), List.take_length, sn_last k s.pend h]
  show (sn k s.dur :: onK k s.pend)[(sn k s.dur :: onK k s.pend).length - 1]? = _
  simp
theorem can_spend (k : ByteArray) (s : S) : canL k (spendS s).2 = canL k s := by unfold canL; rw [dur_spend, pend_spend]
theorem can_add (k : ByteArray) (s : S) (x : W) : canL k (addW s x) = canL k s ++ (if x.key = k then [wsn x] else []) := by
  unfold canL addW
  rw [onK_app, onK_one]
  rfl
-- one call: it settles, it writes, or it leaves all that may be
def settles (s : S) (o : Opn) : Prop := (o.kind = 3 ∧ (doS s o.kind o.key o.data o.n).1 = 0) ∨ o.kind = 5
def wrote (k : ByteArray) (s : S) (o : Opn) : Prop := (o.kind = 1 ∨ o.kind = 2) ∧ o.key = k ∧ s.off = false ∧ ((doS s o.kind o.key o.data o.n).1 = 0 ∨ (doS s o.kind o.key o.data o.n).1 = 124)
theorem spend_off (s : S) (h : s.off = false) (h0 : (spendS s).1 = 0) : (spendS s).2.off = false := by
  unfold spendS at h0 ⊢
  split
  · exact h
  · rename_i h1
    rw [if_neg h1] at h0
    split
    · rename_i h2; rw [if_pos h2] at h0; cases h0
    · exact h
theorem spend_e (s : S) : (spendS s).1 = 0 ∨ (spendS s).1 = 124 := by
  unfold spendS
  split
  · exact .inl rfl
  · split
    · exact .inr rfl
    · exact .inl rfl
theorem can_settle (k : ByteArray) (s : S) (o : Opn) (h : settles s o) : canL k (doO s o) = [sn k (now (doO s o))] ∧ (doO s o).off = false := by
  rcases h with ⟨h3, h0⟩ | h5
  · unfold doO
    unfold doS at h0 ⊢
    rw [h3] at h0 ⊢
    simp only [show ¬ ((3 : Int) = 1) by omega, show ¬ ((3 : Int) = 2) by omega, if_false, if_true] at h0 ⊢
    unfold syncS at h0 ⊢
    split
    · rename_i ho; rw [if_pos ho] at h0; cases h0
    · rename_i ho
      rw [if_neg ho] at h0
      split
      · rename_i hz; rw [if_pos hz] at h0; exact absurd h0 hz
      · rename_i hz
        exact ⟨rfl, spend_off s (by simpa using ho) (by simpa using hz)⟩
  · unfold doO doS
    rw [h5]
    simp only [show ¬ ((5 : Int) = 1) by omega, show ¬ ((5 : Int) = 2) by omega, show ¬ ((5 : Int) = 3) by omega, show ¬ ((5 : Int) = 4) by omega, if_false, if_true]
    exact ⟨rfl, rfl⟩
theorem ref_off {s : S} {k : ByteArray} (h : ¬ refS s k ≠ 0) : s.off = false := by
  cases e : s.off with
  | false => rfl
  | true => exact absurd (by unfold refS; rw [e]; simp) h
theorem ref_e {s : S} {k : ByteArray} (h : s.off = false) : refS s k = 0 ∨ refS s k = 120 := by
  unfold refS
  rw [h]
  simp only [Bool.false_eq_true, if_false]
  split
  · exact .inl rfl
  · exact .inr rfl
theorem can_wrote (k : ByteArray) (s : S) (o : Opn) (h : wrote k s o) : canL k (doO s o) = canL k s ++ [(decide (o.kind = 1), if o.kind = 1 then o.data else ByteArray.empty)] := by
  obtain ⟨hk, rfl, hoff, hE⟩ := h
  have hr := ref_e (k := o.key) hoff
  unfold doO
  unfold doS at hE ⊢
  rcases hk with h1 | h2
  · rw [h1] at hE ⊢
    simp only [if_true] at hE ⊢
    unfold putS at hE ⊢
    split
    · rename_i hz
      rw [if_pos hz] at hE
      rcases hr with hr | hr
      · exact absurd hr hz
      · rw [hr] at hE; simp at hE
    · rename_i hz
      rw [if_neg hz] at hE
      split
      · rename_i hd
        rw [if_pos hd] at hE
        split
        · rename_i hf; rw [if_pos hf] at hE; simp at hE
        · rw [can_spend, can_add]; simp [wsn]
      · rename_i hd; rw [if_neg hd] at hE; simp at hE
  · rw [h2] at hE ⊢
    simp only [show ¬ ((2 : Int) = 1) by omega, if_false, if_true] at hE ⊢
    unfold cutS at hE ⊢
    split
    · rename_i hz
      rw [if_pos hz] at hE
      rcases hr with hr | hr
      · exact absurd hr hz
      · rw [hr] at hE; simp at hE
    · rename_i hz
      rw [if_neg hz] at hE
      split
      · rw [can_spend, can_add]; simp [wsn]
      · rename_i hd; rw [if_neg hd] at hE; simp at hE
theorem can_else (k : ByteArray) (s : S) (o : Opn) (h1 : ¬ settles s o) (h2 : ¬ wrote k s o) : canL k (doO s o) = canL k s := by
  unfold settles at h1
  unfold wrote at h2
  unfold doO
  unfold doS at h1 h2 ⊢
  split
  · rename_i e
    simp only [if_pos e] at h2
    unfold putS at h2 ⊢
    split
    · rfl
    · rename_i hz
      simp only [if_neg hz] at h2
      split
      · rename_i hd
        simp only [if_pos hd] at h2
        split
        · rfl
        · rename_i hf
          simp only [if_neg hf] at h2
          rw [can_spend, can_add, if_neg (fun ek => h2 ⟨.inl e, ek, ref_off hz, spend_e _⟩)]
          simp
      · rfl
  · rename_i e1
    split
    · rename_i e
      simp only [if_neg e1, if_pos e] at h2
      unfold cutS at h2 ⊢
      split
      · rfl
      · rename_i hz
        simp only [if_neg hz] at h2
        split
        · rename_i hf
          simp only [if_pos hf] at h2
          rw [can_spend, can_add, if_neg (fun ek => h2 ⟨.inr e, ek, ref_off hz, spend_e _⟩)]
          simp
        · rfl
    · rename_i e2
      split
      · rename_i e3
        simp only [if_neg e1, if_neg e2, if_pos e3] at h1
        unfold syncS at h1 ⊢
        split
        · rfl
        · rename_i ho
          simp only [if_neg ho] at h1
          split
          · exact can_spend k s
          · rename_i hz
            simp only [if_neg hz] at h1
            exact absurd (.inl ⟨e3, by trivial⟩) h1
      · split
        · unfold armS
          split <;> rfl
        · rename_i e4
          split
          · rename_i e5; exact absurd (.inr e5) h1
          · split <;> rfl
-- what is asked of a key
theorem get_sn {s : S} (h : OkS s) (ho : s.off = false) (k : ByteArray) : (((getS s k).2 == 0), (getS s k).1) = sn k (now s) := by
  unfold getS refS
  rw [ho]
  simp only [Bool.false_eq_true, if_false]
  by_cases hk : 1 ≤ k.size ∧ k.size ≤ 64
  · rw [if_pos hk, if_neg (by simp)]
    unfold sn
    cases rget k (now s) <;> simp
  · rw [if_neg hk, if_pos (by simp)]
    have : rget k (now s) = none := by
      cases e : rget k (now s) with
      | none => rfl
      | some d => exact absurd ⟨(h.now.get e).1, (h.now.get e).2.1⟩ hk
    simp [sn, this]
end Go.Proofs.YtmindflfjocjlaaGreat.zb

namespace Go.Proofs.YtmindflfjocjlaaGreat.zc
open Go.RowKit Go.PlainAid Go.Maps Go.Shelf
open Go.Proofs.YtmindflfjocjlaaGreat.kp Go.Proofs.YtmindflfjocjlaaGreat.ka Go.Proofs.YtmindflfjocjlaaGreat.ya Go.Proofs.YtmindflfjocjlaaGreat.yb Go.Proofs.YtmindflfjocjlaaGreat.yc Go.Proofs.YtmindflfjocjlaaGreat.yd Go.Proofs.YtmindflfjocjlaaGreat.ye Go.Proofs.YtmindflfjocjlaaGreat.yf Go.Proofs.YtmindflfjocjlaaGreat.yg Go.Proofs.YtmindflfjocjlaaGreat.yi Go.Proofs.YtmindflfjocjlaaGreat.yk Go.Proofs.YtmindflfjocjlaaGreat.yl Go.Proofs.YtmindflfjocjlaaGreat.ym Go.Proofs.YtmindflfjocjlaaGreat.yn Go.Proofs.YtmindflfjocjlaaGreat.yr Go.Proofs.YtmindflfjocjlaaGreat.ys Go.Proofs.YtmindflfjocjlaaGreat.yt Go.Proofs.YtmindflfjocjlaaGreat.yu Go.Proofs.YtmindflfjocjlaaGreat.zb
set_option linter.unusedVariables false
set_option linter.unusedSimpArgs false
-- a row beside a store
theorem row_apart {T z B B' g bn bd n : Nat} {pv v : Value} {s : S} {xs : List Value} {w : World} (h1 : T ≠ 72) (h2 : T ≠ 75) (h : Sr B g bn bd pv s w) (o : w.ownsRow B' T z v n xs) : ∀ j, Fr g bn bd pv j → some j ≠ v.ownBlock := by
  rintro j (rfl | rfl | rfl | hj)
  · exact own_tag o h.row h1
  · exact own_map o h.mn
  · exact own_map o h.md
  · rcases h.pr.2 with ⟨rfl, _⟩ | ⟨g', cap, cur, rfl, _, hh, _⟩
    · cases hj
    · have : j = g' := Option.some.inj hj
      subst this
      exact own_tag o hh h2
structure Mt (T z B g bn bd : Nat) (s : S) (v : Value) (n : Nat) (xs : List Value) (w w' : World) : Prop where
  ex : ∃ pv, Sr B g bn bd pv s w'
  row : w'.ownsRow B T z v n xs
  bl : Below B w w'
theorem Mt.later {T z B g bn bd n : Nat} {s : S} {v : Value} {xs : List Value} {w w1 w2 : World} (h : Mt T z B g bn bd s v n xs w w1) (b : Below w1.heap.size w1 w2) (hB : B ≤ w.heap.size) : Mt T z B g bn bd s v n xs w w2 := by
  obtain ⟨⟨pv, h1⟩, h2, h3⟩ := h
  exact ⟨⟨pv, sr_later h1 b⟩, own_kp h2 (Kp.of_below (A := fun _ => False) b) (fun _ _ e => e), h3.trans (b.mono (Nat.le_trans hB h3.size))⟩
theorem Mt.rn {T z B g bn bd n : Nat} {pv : Value} {s s' : S} {v : Value} {xs : List Value} {w w1 w2 : World} (h1 : T ≠ 72) (h2 : T ≠ 75) (h : Mt T z B g bn bd s v n xs w w1) (hp : Sr B g bn bd pv s w1) (r : Rn B g bn bd pv s' w1 w2) (hB : B ≤ w.heap.size) : Mt T z B g bn bd s' v n xs w w2 := by
  have hb := Rn.below hp r (Nat.le_trans hB h.bl.size)
  obtain ⟨p, h7, k, _⟩ := r
  exact ⟨⟨p, h7⟩, own_kp h.row k (fun j hj hF => row_apart h1 h2 hp h.row j hF hj), h.bl.trans hb⟩
theorem Mt.grown {T z B g bn bd n n' : Nat} {s : S} {v v' : Value} {xs xs' : List Value} {w w1 w2 : World} (h1 : T ≠ 72) (h2 : T ≠ 75) (h : Mt T z B g bn bd s v n xs w w1) (o : w2.ownsRow B T z v' n' xs') (hg : w1.grownBy w2 v.ownBlock) (hB : B ≤ w.heap.size) : Mt T z B g bn bd s v' n' xs' w w2 := by
  obtain ⟨⟨pv, hp⟩, hr, hb⟩ := h
  have k : Kp (fun k => some k = v.ownBlock) w1 w2 := ⟨hg.os, hg.tape, hg.output, hg.size, fun j hj hn => hg.block j hj (fun e => hn e)⟩
  exact ⟨⟨pv, sr_keep hp k (fun j hj e => row_apart h1 h2 hp hr j hj e)⟩, o, hb.grown hg (Nat.le_trans hB hb.size) (fun j hj => (hr.lt _ hj).1)⟩
theorem Mt.nil {T z B g bn bd n : Nat} {s : S} {v : Value} {xs : List Value} {w w1 : World} (h : Mt T z B g bn bd s v n xs w w1) : Mt T z B g bn bd s (.slice none 0 0) 0 [] w w1 := ⟨h.ex, World.ownsRow_nil _ _ _ _, h.bl⟩
-- the cells of a list of Seen
def sc (p : Sn) : List Value := [.bool p.1, .string p.2]
def scs (l : List Sn) : List Value := l.flatMap sc
theorem scs_app (l l' : List Sn) : scs (l ++ l') = scs l ++ scs l' := by simp [scs]
theorem scs_len (l : List Sn) : (scs l).length = l.length * 2 := by
  induction l with
  | nil => rfl
  | cons p l ih => simp only [scs, List.flatMap_cons, List.length_append, List.length_cons] at ih ⊢; rw [ih]; simp [sc]; omega
theorem scs_at (l : List Sn) (j : Nat) (p : Sn) (h : l[j]? = some p) : (scs l)[j * 2]? = some (.bool p.1) ∧ (scs l)[j * 2 + 1]? = some (.string p.2) := by
  induction l generalizing j with
  | nil => simp at h
  | cons q l ih =>
    cases j with
    | zero =>
      simp at h
      subst h
      exact ⟨rfl, rfl⟩
    | succ j =>
      have := ih j (by simpa using h)
      have e1 : (j + 1) * 2 = j * 2 + 2 := by omega
      rw [e1]
      exact this
theorem new_two (W : World) (u v : Value) (t : TypeId) : ∀ (j : Nat) (y : Value), [u, v][j]? = some y → (W.alloc (.cells #[u, v] t)).cell? (Addr.add ⟨W.heap.size, 0, none⟩ j) = some y := by
  intro j y h
  have hb : (W.alloc (.cells #[u, v] t)).heap[W.heap.size]? = some (.cells #[u, v] t (0, 0)) := (MapKept.heap_alloc W _).1
  have e : (Addr.add ⟨W.heap.size, 0, none⟩ j) = ⟨W.heap.size, j, none⟩ := by simp [Addr.add]; omega
  rw [e, cell_of_row _ _ j _ _ _ hb]
  simpa using h
theorem one_sn (b : Bool) (d : ByteArray) : ∀ u ∈ [Value.bool b, .string d], u.oneCell' = true := by
  intro u hu; simp only [List.mem_cons, List.not_mem_nil, or_false] at hu; rcases hu with rfl | rfl <;> rfl
-- see
theorem put2 (w : World) (p : Nat) (a0 a1 x0 x1 : Value) (t : TypeId) (h : w.heap[p]? = some (.cells #[a0, a1] t (0, 0))) :
    ∀ W, W = ((w.setCell ⟨p, 0, none⟩ x0).setCell ⟨p, 1, none⟩ x1) → W.heap[p]? = some (.cells #[x0, x1] t (0, 0)) ∧ Kp (fun q => q = p) w W := by
  intro W hW
  have h0 : (w.setCell ⟨p, 0, none⟩ x0).heap[p]? = some (.cells #[x0, a1] t (0, 0)) := heap_setCell_same _ _ 0 _ _ x0 h
  rw [hW]
  exact ⟨heap_setCell_same _ _ 1 _ _ x1 h0, (kset _ _ _ _).trans (kset _ _ _ _)⟩
theorem two {w : World} {p : Nat} {x0 x1 : Value} {t : TypeId} (h : w.heap[p]? = some (.cells #[x0, x1] t (0, 0))) : w.cell? ⟨p, 0, none⟩ = some x0 ∧ w.cell? ⟨p, 1, none⟩ = some x1 ∧ w.frozen? ⟨p, 0, none⟩ = false ∧ w.frozen? ⟨p, 1, none⟩ = false :=
  ⟨cell_of_row _ _ 0 _ _ _ h, cell_of_row _ _ 1 _ _ _ h, frozen_of_row _ _ 0 _ _ h, frozen_of_row _ _ 1 _ _ h⟩
theorem four {w : World} {p : Nat} {x0 x1 x2 x3 : Value} {t : TypeId} (h : w.heap[p]? = some (.cells #[x0, x1, x2, x3] t (0, 0))) : w.cell? ⟨p, 0, none⟩ = some x0 ∧ w.cell? ⟨p, 1, none⟩ = some x1 ∧ w.cell? ⟨p, 2, none⟩ = some x2 ∧ w.cell? ⟨p, 3, none⟩ = some x3 :=
  ⟨cell_of_row _ _ 0 _ _ _ h, cell_of_row _ _ 1 _ _ _ h, cell_of_row _ _ 2 _ _ _ h, cell_of_row _ _ 3 _ _ _ h⟩
theorem below_kset {w w2 W : World} {p : Nat} (h : Below w.heap.size w w2) (k : Kp (fun q => q = p) w2 W) (hp : w.heap.size ≤ p) : Below w.heap.size w W :=
  ⟨k.os.trans h.os, k.tape.trans h.tape, k.output.trans h.output, Nat.le_trans h.size k.size, fun j hj => (k.block j (Nat.lt_of_lt_of_le hj h.size) (by omega)).trans (h.block j hj)⟩
-- kept
def kpt (kd : Int) (dt : ByteArray) : ByteArray := if kd = 1 then dt else ByteArray.empty
end Go.Proofs.YtmindflfjocjlaaGreat.zc

namespace Go.Proofs.YtmindflfjocjlaaGreat.xb
open Go.RowKit Go.PlainAid Go.Maps Go.Shelf
open Go.Proofs.YtmindflfjocjlaaGreat.ca Go.Proofs.YtmindflfjocjlaaGreat.cb Go.Proofs.YtmindflfjocjlaaGreat.cp Go.Proofs.YtmindflfjocjlaaGreat.kp Go.Proofs.YtmindflfjocjlaaGreat.ka Go.Proofs.YtmindflfjocjlaaGreat.ya Go.Proofs.YtmindflfjocjlaaGreat.yb Go.Proofs.YtmindflfjocjlaaGreat.yc Go.Proofs.YtmindflfjocjlaaGreat.ye Go.Proofs.YtmindflfjocjlaaGreat.yf Go.Proofs.YtmindflfjocjlaaGreat.yo Go.Proofs.YtmindflfjocjlaaGreat.zf Go.Proofs.YtmindflfjocjlaaGreat.xa
set_option linter.unusedVariables false
set_option linter.unusedSimpArgs false
theorem info_R : (Tryz.prog.info? 79).map (fun i => (i.zero, i.size, i.bytes)) = some (some (.agg #[.string ByteArray.empty, .string ByteArray.empty]), 2, 32) := by kernel_rfl
theorem info_W : (Tryz.prog.info? 81).map (fun i => (i.zero, i.size, i.bytes)) = some (some (.agg #[.string ByteArray.empty, .string ByteArray.empty, .bool false]), 3, 40) := by kernel_rfl
-- one write done to a list
def dn (k d : ByteArray) : List Rec → Bool → List Rec
  | [], put => if put then [] else [(k, d)]
  | y :: l, put => (if !put && !(lt y.1 k) then [(k, d)] else []) ++ ((if y.1 = k then [] else [y]) ++ dn k d l (put || !(lt y.1 k)))
theorem dn_true (k d : ByteArray) (l : List Rec) : dn k d l true = del k l := by
  induction l with
  | nil => rfl
  | cons y l ih =>
    unfold dn
    simp only [Bool.not_true, Bool.false_and, Bool.false_eq_true, if_false, List.nil_append, Bool.true_or, ih]
    unfold del
    by_cases e : y.1 = k <;> simp [e]
theorem ins_first (x : Rec) (l : List Rec) (h : ∀ y ∈ l, lt x.1 y.1 = true) : ins x l = x :: l := by
  cases l with
  | nil => rfl
  | cons y l => unfold ins; rw [if_pos (h y (by simp))]
theorem dn_false (k d : ByteArray) (l : List Rec) (hs : Srt l) : dn k d l false = put k d l := by
  induction l with
  | nil => rfl
  | cons y l ih =>
    have hs2 := List.pairwise_cons.1 hs
    unfold dn
    cases h : lt y.1 k with
    | true =>
      have hne : y.1 ≠ k := lt_ne h
      have hd : del k (y :: l) = y :: del k l := by unfold del; simp [hne]
      simp only [Bool.not_true, Bool.and_false, Bool.false_eq_true, if_false, List.nil_append, Bool.or_false, hne]
      rw [ih hs2.2]
      unfold put
      rw [hd]
      show _ = ins (k, d) (y :: del k l)
      rw [ins, if_neg (by simp [lt_asym h])]
      rfl
    | false =>
      simp only [Bool.not_false, Bool.and_true, if_true, Bool.or_true, dn_true]
      unfold put
      by_cases e : y.1 = k
      · have hd : del k (y :: l) = del k l := by unfold del; simp [e]
        rw [if_pos e, hd, ins_first (k, d) (del k l) (fun z hz => by rw [← e]; exact hs2.1 z (mem_del.1 hz).1)]
        rfl
      · have hd : del k (y :: l) = y :: del k l := by unfold del; simp [e]
        have hk : lt k y.1 = true := by
          rcases lt_tot y.1 k e with h2 | h2
          · rw [h2] at h; cases h
          · exact h2
        rw [if_neg e, hd]
        show _ = ins (k, d) (y :: del k l)
        rw [ins, if_pos hk]
        rfl
theorem dn_doW (x : W) (l : List Rec) (hs : Srt l) : dn x.key x.data l x.cut = doW l x := by
  unfold doW
  cases x.cut with
  | true => exact dn_true _ _ _
  | false => exact dn_false _ _ _ hs
theorem dn_at (k d : ByteArray) {r : List Rec} {j : Nat} {p : Rec} (hp : r[j]? = some p) (put : Bool) : dn k d (r.drop j) put = (if !put && !(lt p.1 k) then [(k, d)] else []) ++ ((if p.1 = k then [] else [p]) ++ dn k d (r.drop (j + 1)) (put || !(lt p.1 k))) := by
  obtain ⟨hj, e⟩ := List.getElem?_eq_some_iff.1 hp
  rw [List.drop_eq_getElem_cons hj, e]
  rfl
theorem less_is (a b : ByteArray) : Op.bytesLess a.toList b.toList = lt a b := by
  rw [za.bytes_is, ByteArray.toList_eq, ByteArray.toList_eq]; rfl
-- a row of records of the call's own grows by one
structure Gr (B : Nat) (w : World) (v : Value) (l : List Rec) (w' : World) : Prop where
  own : Lr B v l w'
  bl : Below B w w'
theorem one_rc (k d : ByteArray) : ∀ u ∈ [Value.string k, .string d], u.oneCell' = true := by
  intro u hu; simp only [List.mem_cons, List.not_mem_nil, or_false] at hu; rcases hu with rfl | rfl <;> rfl
theorem Gr.later {B : Nat} {w w1 w2 : World} {v : Value} {l : List Rec} (h : Gr B w v l w1) (b : Below w1.heap.size w1 w2) (hB : B ≤ w.heap.size) : Gr B w v l w2 := ⟨Lr.later h.own b, h.bl.trans (b.mono (Nat.le_trans hB h.bl.size))⟩
theorem Gr.grown {B : Nat} {w w1 w2 : World} {v v' : Value} {l : List Rec} {k d : ByteArray} (h : Gr B w v l w1) (hB : B ≤ w.heap.size) (o : w2.ownsRow B 79 2 v' (l.length + 1) (rcs l ++ [.string k, .string d])) (hg : w1.grownBy w2 v.ownBlock) : Gr B w v' (l ++ [(k, d)]) w2 := by
  refine ⟨?_, h.bl.grown hg (Nat.le_trans hB h.bl.size) (fun j hj => (h.own.lt _ hj).1)⟩
  have e : (l ++ [(k, d)]).length = l.length + 1 := by simp
  show w2.ownsRow B 79 2 v' (l ++ [(k, d)]).length (rcs (l ++ [(k, d)]))
  rw [e, rcs_app]
  exact o
theorem tw1 : (79 : Nat) ≠ 81 := by decide
structure Dn (k d : ByteArray) (cut : Bool) (w : World) (ov : Value) (out : List Rec) (wr : World) : Prop where
  gr : Gr w.heap.size w ov out wr
  box : wr.heap[w.heap.size]? = some (.cells #[.string k, .string d, .bool cut] 81 (0, 0))
theorem Dn.later {k d : ByteArray} {cut : Bool} {w w1 w2 : World} {ov : Value} {out : List Rec} (h : Dn k d cut w ov out w1) (b : Below w1.heap.size w1 w2) : Dn k d cut w ov out w2 :=
  ⟨h.gr.later b (Nat.le_refl _), (b.block _ (Array.getElem?_eq_some_iff.1 h.box).1).trans h.box⟩
theorem Dn.grown {k d : ByteArray} {cut : Bool} {w w1 w2 : World} {v v' : Value} {l : List Rec} {x y : ByteArray} (h : Dn k d cut w v l w1) (o : w2.ownsRow w.heap.size 79 2 v' (l.length + 1) (rcs l ++ [.string x, .string y])) (hg : w1.grownBy w2 v.ownBlock) : Dn k d cut w v' (l ++ [(x, y)]) w2 :=
  ⟨h.gr.grown (Nat.le_refl _) o hg, (hg.block _ (Array.getElem?_eq_some_iff.1 h.box).1 (own_tag h.gr.own h.box tw1)).trans h.box⟩
theorem Dn.cells {k d : ByteArray} {cut : Bool} {w w1 : World} {ov : Value} {out : List Rec} (h : Dn k d cut w ov out w1) : w1.cell? ⟨w.heap.size, 0, none⟩ = some (.string k) ∧ w1.cell? ⟨w.heap.size, 1, none⟩ = some (.string d) ∧ w1.cell? ⟨w.heap.size, 2, none⟩ = some (.bool cut) :=
  ⟨cell_of_row _ _ 0 _ _ _ h.box, cell_of_row _ _ 1 _ _ _ h.box, cell_of_row _ _ 2 _ _ _ h.box⟩
set_option maxRecDepth 40000 in
set_option maxHeartbeats 12800000 in
theorem doneC0 {B : Nat} (v : Value) (r : List Rec) (k d : ByteArray) (cut : Bool) (R : List Rec) (w : World) (h : Lr B v r w) (HR : Hid (dn k d r cut = R)) (hl : r.length < 3518437208883) :
    Calls Tryz.prog 38 #[v, .agg #[.string k, .string d, .bool cut]] w fun e w' => ∃ v', e = .returned v' ∧ Gr w.heap.size w v' R w' := by
  obtain ⟨a, c, rfl⟩ := lr_form h
  obtain ⟨i0, hi0, hz0, hz1, hz2⟩ := info_parts info_R
  have HIN : Hid (_ ∧ _ ∧ _ ∧ _) := ⟨hi0, hz0, hz1, hz2⟩
  clear hi0 hz0 hz1 hz2
  have H0 : Hid (Lr B (.slice a r.length c) r w) := h
  have D0 : Hid (Dn k d cut w (.slice none 0 0) [] (w.alloc (.cells #[.string k, .string d, .bool cut] 81))) := ⟨⟨World.ownsRow_nil _ _ _ _, (Below.refl _ w).alloc (Nat.le_refl _) _⟩, heap_alloc_new w _⟩
  have HIC : Hid (∀ (j : Nat) (p : Rec), r[j]? = some p → ∃ g, a = some ⟨g, 0, none⟩ ∧ ∀ wx, Below w.heap.size w wx → wx.cell? ⟨g, j * 2, none⟩ = some (.string p.1) ∧ wx.cell? ⟨g, j * 2 + 1, none⟩ = some (.string p.2)) := fun j p hp => by
    obtain ⟨g, e, hg, c0, c1⟩ := lr_at H0.out j p hp
    exact ⟨g, e, fun wx b => ⟨(b.cell hg).trans c0, (b.cell hg).trans c1⟩⟩
  clear h
  obtain ⟨pb, hpb⟩ : ∃ x, w.heap.size = x := ⟨_, rfl⟩
  go_enter Tryz.func38, Tryz.ntmps38
  go_wp2_with fail
  go_loopw [5, 6, 7] (fun ov qv iv wr => ∃ (j : Nat) (out : List Rec) (put : Bool), iv = .int .i64 j ∧ j ≤ r.length ∧ qv = .bool put ∧ Hid (out ++ dn k d (r.drop j) put = R) ∧ Hid (out.length + (if put then 0 else 1) ≤ j + 1) ∧ Hid (Dn k d cut w ov out wr)) (fun _ _ iv _ => (r.length - intOf iv).toNat)
  case atStart => exact ⟨0, [], cut, rfl, Nat.zero_le _, rfl, by rw [List.drop_zero]; exact HR.out, by show _ ≤ _; cases cut <;> simp, D0.out⟩
  case round =>
    clear D0
    obtain ⟨j, out, put, rfl, hj, rfl, HD, HL, HN⟩ := hrel
    obtain ⟨oa, oc, rfl⟩ := lr_form HN.out.gr.own
    obtain ⟨n, Hn⟩ : ∃ n, Hid (out.length = n) := ⟨_, rfl⟩
    have hnb : n ≤ j + 1 := by have h1 := Hn.out; have h2 := HL.out; omega
    rw [Hn.out] at HN ⊢
    by_cases hlt : j < r.length
    · have hlt' : (j : Int) < r.length := by omega
      obtain ⟨p, hp⟩ : ∃ p, r[j]? = some p := ⟨_, List.getElem?_eq_getElem hlt⟩
      obtain ⟨g, rfl, hic⟩ := HIC.out j p hp
      have HC : Hid _ := hic
      have hd := dn_at k d hp put
      rw [hd] at HD
      obtain ⟨pk, pd⟩ := p
      simp only at HC HD
      have HDD : Hid _ := HD.out
      clear hic hd hp HD
      obtain ⟨c0, c1⟩ := HC.out wr HN.out.gr.bl
      obtain ⟨x0, x1, x2⟩ := HN.out.cells
      rw [hpb] at x0 x1 x2
--ROUND
      have hways : ((put = false ∧ lt pk k = false) ∧ pk ≠ k) ∨ ((put = false ∧ lt pk k = false) ∧ pk = k) ∨ ((put = false ∧ lt pk k = true) ∧ pk ≠ k) ∨ (put = true ∧ pk ≠ k) ∨ (put = true ∧ pk = k) := by
        cases put with
        | true => by_cases e : pk = k <;> simp [e]
        | false =>
          cases h : lt pk k with
          | true => simp [lt_ne h]
          | false => by_cases e : pk = k <;> simp [e]
      rcases hways with ⟨hA, hE⟩ | ⟨hA, hE⟩ | ⟨hA, hE⟩ | ⟨hA, hE⟩ | ⟨hA, hE⟩
      · -- A E
        have hlt2 : Op.bytesLess pk.toList k.toList = false := by rw [less_is]; exact hA.2
        obtain rfl : put = false := hA.1
        have hne : (pk.toList == k.toList) = false := text_ne hE
        have HEND : Hid ((out ++ [(k, d)] ++ [(pk, pd)]) ++ dn k d (r.drop (j + 1)) true = R) := by
          have h := HDD.out
          rw [hA.2] at h
          show _ = _
          simpa [hE] using h
        clear HDD hE hA
        have HL2 : n + 1 ≤ j + 1 := by have h1 := Hn.out; have h2 := HL.out; simp at h2; omega
        go_upto_region 6 with fail
        go_quiet (fail)
        obtain ⟨wd, Hwd⟩ : ∃ x, x = wr.drewN nq := ⟨_, rfl⟩
        have N1 : Hid (Dn k d cut w (.slice oa n oc) out wd) := by rw [Hwd]; exact HN.out.later (za.below_dN (Below.refl _ _) nq)
        try rw [← Hwd]
        clear Hwd
        obtain ⟨c0wd, c1wd⟩ := HC.out wd N1.out.gr.bl
        obtain ⟨x0wd, x1wd, x2wd⟩ := N1.out.cells
        rw [hpb] at x0wd x1wd x2wd
        have hswd : pb ≤ wd.heap.size := by rw [← hpb]; exact N1.out.gr.bl.size
        have MN2 : Hid (Dn k d cut w (.slice oa n oc) out (wd.alloc (.cells #[.string k, .string d] 79))) := N1.out.later ((Below.refl _ wd).alloc (Nat.le_refl _) _)
        have RN2 : Hid (World.ownsRow (wd.alloc (.cells #[.string k, .string d] 79)) w.heap.size 79 2 (.slice oa n oc) (n) (rcs out)) := by have this : World.ownsRow (wd.alloc (.cells #[.string k, .string d] 79)) w.heap.size 79 2 (.slice oa n oc) (out).length (rcs out) := MN2.out.gr.own; simp only [List.length_append, List.length_cons, List.length_nil, Nat.zero_add, Hn.out] at this; exact this
        go_upto_region 9 with (first | (at_builtin; (refine wpList_append_own _ rfl _ _ 45 rfl w.heap.size 79 i0 (.agg #[.string ByteArray.empty, .string ByteArray.empty]) 2 32 Tryz.underlying45 HIN.out.1 HIN.out.2.1 HIN.out.2.2.1 HIN.out.2.2.2 rfl (by decide) _ (n) _ rfl RN2.out ⟨wd.heap.size, 0, none⟩ 1 1 [.string k, .string d] rfl rfl (zc.new_two _ _ _ _) (one_rc _ _) (by unfold maxLen; omega) (by omega) (by simp; omega) ?_; intro v5 w5 ho hg hnn; have HON2 : Hid (World.ownsRow _ _ _ _ _ _ _) := ho; have HGN2 : Hid (World.grownBy _ _ _) := hg; clear ho hg hnn)) | go_in)
        have N2 : Hid (Dn k d cut w v5 (out ++ [(k, d)]) w5) := MN2.out.grown (by have := HON2.out; simp only [List.length_append, List.length_cons, List.length_nil, Nat.zero_add, Hn.out]; exact this) HGN2.out
        clear MN2 RN2 HON2 HGN2
        obtain ⟨c0w5, c1w5⟩ := HC.out w5 N2.out.gr.bl
        obtain ⟨x0w5, x1w5, x2w5⟩ := N2.out.cells
        rw [hpb] at x0w5 x1w5 x2w5
        go_upto_region 9 with fail
        go_quiet (fail)
        obtain ⟨we, Hwe⟩ : ∃ x, x = w5.drewN nq := ⟨_, rfl⟩
        have N3 : Hid (Dn k d cut w v5 (out ++ [(k, d)]) we) := by rw [Hwe]; exact N2.out.later (za.below_dN (Below.refl _ _) nq)
        try rw [← Hwe]
        clear Hwe
        obtain ⟨c0we, c1we⟩ := HC.out we N3.out.gr.bl
        obtain ⟨x0we, x1we, x2we⟩ := N3.out.cells
        rw [hpb] at x0we x1we x2we
        have hswe : pb ≤ we.heap.size := by rw [← hpb]; exact N3.out.gr.bl.size
        have MN4 : Hid (Dn k d cut w v5 (out ++ [(k, d)]) (we.alloc (.cells #[.string pk, .string pd] 79))) := N3.out.later ((Below.refl _ we).alloc (Nat.le_refl _) _)
        have RN4 : Hid (World.ownsRow (we.alloc (.cells #[.string pk, .string pd] 79)) w.heap.size 79 2 v5 (n + 1) (rcs (out ++ [(k, d)]))) := by have this : World.ownsRow (we.alloc (.cells #[.string pk, .string pd] 79)) w.heap.size 79 2 v5 ((out ++ [(k, d)])).length (rcs (out ++ [(k, d)])) := MN4.out.gr.own; simp only [List.length_append, List.length_cons, List.length_nil, Nat.zero_add, Hn.out] at this; exact this
        go_wp2_with (first | (at_builtin; (refine wpList_append_own _ rfl _ _ 45 rfl w.heap.size 79 i0 (.agg #[.string ByteArray.empty, .string ByteArray.empty]) 2 32 Tryz.underlying45 HIN.out.1 HIN.out.2.1 HIN.out.2.2.1 HIN.out.2.2.2 rfl (by decide) _ (n + 1) _ rfl RN4.out ⟨we.heap.size, 0, none⟩ 1 1 [.string pk, .string pd] rfl rfl (zc.new_two _ _ _ _) (one_rc _ _) (by unfold maxLen; omega) (by omega) (by simp; omega) ?_; intro v6 w6 ho hg hnn; have HON4 : Hid (World.ownsRow _ _ _ _ _ _ _) := ho; have HGN4 : Hid (World.grownBy _ _ _) := hg; clear ho hg hnn)) | go_in)
        have N4 : Hid (Dn k d cut w v6 ((out ++ [(k, d)]) ++ [(pk, pd)]) w6) := MN4.out.grown (by have := HON4.out; simp only [List.length_append, List.length_cons, List.length_nil, Nat.zero_add, Hn.out]; exact this) HGN4.out
        clear MN4 RN4 HON4 HGN4
        go_roundw
        case rel => exact ⟨j + 1, ((out ++ [(k, d)]) ++ [(pk, pd)]), true, by go_num, by omega, rfl, HEND.out, by have h1 := Hn.out; have h2 := HL2; show _ ≤ _; simp; omega, N4.out⟩
        case measure => simp [intOf]; omega
      · -- A D
        have hlt2 : Op.bytesLess pk.toList k.toList = false := by rw [less_is]; exact hA.2
        obtain rfl : put = false := hA.1
        subst hE
        have hne : (pk.toList == pk.toList) = true := by simp
        have HEND : Hid ((out ++ [(pk, d)]) ++ dn pk d (r.drop (j + 1)) true = R) := by
          have h := HDD.out
          rw [hA.2] at h
          show _ = _
          simpa using h
        clear HDD hA
        have HL2 : n + 1 ≤ j + 1 := by have h1 := Hn.out; have h2 := HL.out; simp at h2; omega
        go_upto_region 6 with fail
        go_quiet (fail)
        obtain ⟨wd, Hwd⟩ : ∃ x, x = wr.drewN nq := ⟨_, rfl⟩
        have N1 : Hid (Dn pk d cut w (.slice oa n oc) out wd) := by rw [Hwd]; exact HN.out.later (za.below_dN (Below.refl _ _) nq)
        try rw [← Hwd]
        clear Hwd
        obtain ⟨c0wd, c1wd⟩ := HC.out wd N1.out.gr.bl
        obtain ⟨x0wd, x1wd, x2wd⟩ := N1.out.cells
        rw [hpb] at x0wd x1wd x2wd
        have hswd : pb ≤ wd.heap.size := by rw [← hpb]; exact N1.out.gr.bl.size
        have MN2 : Hid (Dn pk d cut w (.slice oa n oc) out (wd.alloc (.cells #[.string pk, .string d] 79))) := N1.out.later ((Below.refl _ wd).alloc (Nat.le_refl _) _)
        have RN2 : Hid (World.ownsRow (wd.alloc (.cells #[.string pk, .string d] 79)) w.heap.size 79 2 (.slice oa n oc) (n) (rcs out)) := by have this : World.ownsRow (wd.alloc (.cells #[.string pk, .string d] 79)) w.heap.size 79 2 (.slice oa n oc) (out).length (rcs out) := MN2.out.gr.own; simp only [List.length_append, List.length_cons, List.length_nil, Nat.zero_add, Hn.out] at this; exact this
        go_upto_region 9 with (first | (at_builtin; (refine wpList_append_own _ rfl _ _ 45 rfl w.heap.size 79 i0 (.agg #[.string ByteArray.empty, .string ByteArray.empty]) 2 32 Tryz.underlying45 HIN.out.1 HIN.out.2.1 HIN.out.2.2.1 HIN.out.2.2.2 rfl (by decide) _ (n) _ rfl RN2.out ⟨wd.heap.size, 0, none⟩ 1 1 [.string pk, .string d] rfl rfl (zc.new_two _ _ _ _) (one_rc _ _) (by unfold maxLen; omega) (by omega) (by simp; omega) ?_; intro v5 w5 ho hg hnn; have HON2 : Hid (World.ownsRow _ _ _ _ _ _ _) := ho; have HGN2 : Hid (World.grownBy _ _ _) := hg; clear ho hg hnn)) | go_in)
        have N2 : Hid (Dn pk d cut w v5 (out ++ [(pk, d)]) w5) := MN2.out.grown (by have := HON2.out; simp only [List.length_append, List.length_cons, List.length_nil, Nat.zero_add, Hn.out]; exact this) HGN2.out
        clear MN2 RN2 HON2 HGN2
        obtain ⟨c0w5, c1w5⟩ := HC.out w5 N2.out.gr.bl
        obtain ⟨x0w5, x1w5, x2w5⟩ := N2.out.cells
        rw [hpb] at x0w5 x1w5 x2w5
        go_upto_region 9 with fail
        go_quiet (fail)
        obtain ⟨we, Hwe⟩ : ∃ x, x = w5.drewN nq := ⟨_, rfl⟩
        have N3 : Hid (Dn pk d cut w v5 (out ++ [(pk, d)]) we) := by rw [Hwe]; exact N2.out.later (za.below_dN (Below.refl _ _) nq)
        try rw [← Hwe]
        clear Hwe
        obtain ⟨c0we, c1we⟩ := HC.out we N3.out.gr.bl
        obtain ⟨x0we, x1we, x2we⟩ := N3.out.cells
        rw [hpb] at x0we x1we x2we
        have hswe : pb ≤ we.heap.size := by rw [← hpb]; exact N3.out.gr.bl.size
        go_wp2
        go_roundw
        case rel => exact ⟨j + 1, (out ++ [(pk, d)]), true, by go_num, by omega, rfl, HEND.out, by have h1 := Hn.out; have h2 := HL2; show _ ≤ _; simp; omega, N3.out⟩
        case measure => simp [intOf]; omega
      · -- B E
        have hlt2 : Op.bytesLess pk.toList k.toList = true := by rw [less_is]; exact hA.2
        obtain rfl : put = false := hA.1
        have hne : (pk.toList == k.toList) = false := text_ne hE
        have HEND : Hid ((out ++ [(pk, pd)]) ++ dn k d (r.drop (j + 1)) false = R) := by
          have h := HDD.out
          rw [hA.2] at h
          show _ = _
          simpa [hE] using h
        clear HDD hE hA
        have HL2 : n + 1 ≤ j + 1 := by have h1 := Hn.out; have h2 := HL.out; simp at h2; omega
        go_upto_region 6 with fail
        go_quiet (fail)
        obtain ⟨wd, Hwd⟩ : ∃ x, x = wr.drewN nq := ⟨_, rfl⟩
        have N1 : Hid (Dn k d cut w (.slice oa n oc) out wd) := by rw [Hwd]; exact HN.out.later (za.below_dN (Below.refl _ _) nq)
        try rw [← Hwd]
        clear Hwd
        obtain ⟨c0wd, c1wd⟩ := HC.out wd N1.out.gr.bl
        obtain ⟨x0wd, x1wd, x2wd⟩ := N1.out.cells
        rw [hpb] at x0wd x1wd x2wd
        have hswd : pb ≤ wd.heap.size := by rw [← hpb]; exact N1.out.gr.bl.size
        go_upto_region 9 with fail
        go_quiet (fail)
        obtain ⟨we, Hwe⟩ : ∃ x, x = wd.drewN nq := ⟨_, rfl⟩
        have N3 : Hid (Dn k d cut w (.slice oa n oc) out we) := by rw [Hwe]; exact N1.out.later (za.below_dN (Below.refl _ _) nq)
        try rw [← Hwe]
        clear Hwe
        obtain ⟨c0we, c1we⟩ := HC.out we N3.out.gr.bl
        obtain ⟨x0we, x1we, x2we⟩ := N3.out.cells
        rw [hpb] at x0we x1we x2we
        have hswe : pb ≤ we.heap.size := by rw [← hpb]; exact N3.out.gr.bl.size
        have MN4 : Hid (Dn k d cut w (.slice oa n oc) out (we.alloc (.cells #[.string pk, .string pd] 79))) := N3.out.later ((Below.refl _ we).alloc (Nat.le_refl _) _)
        have RN4 : Hid (World.ownsRow (we.alloc (.cells #[.string pk, .string pd] 79)) w.heap.size 79 2 (.slice oa n oc) (n) (rcs out)) := by have this : World.ownsRow (we.alloc (.cells #[.string pk, .string pd] 79)) w.heap.size 79 2 (.slice oa n oc) (out).length (rcs out) := MN4.out.gr.own; simp only [List.length_append, List.length_cons, List.length_nil, Nat.zero_add, Hn.out] at this; exact this
        go_wp2_with (first | (at_builtin; (refine wpList_append_own _ rfl _ _ 45 rfl w.heap.size 79 i0 (.agg #[.string ByteArray.empty, .string ByteArray.empty]) 2 32 Tryz.underlying45 HIN.out.1 HIN.out.2.1 HIN.out.2.2.1 HIN.out.2.2.2 rfl (by decide) _ (n) _ rfl RN4.out ⟨we.heap.size, 0, none⟩ 1 1 [.string pk, .string pd] rfl rfl (zc.new_two _ _ _ _) (one_rc _ _) (by unfold maxLen; omega) (by omega) (by simp; omega) ?_; intro v6 w6 ho hg hnn; have HON4 : Hid (World.ownsRow _ _ _ _ _ _ _) := ho; have HGN4 : Hid (World.grownBy _ _ _) := hg; clear ho hg hnn)) | go_in)
        have N4 : Hid (Dn k d cut w v6 (out ++ [(pk, pd)]) w6) := MN4.out.grown (by have := HON4.out; simp only [List.length_append, List.length_cons, List.length_nil, Nat.zero_add, Hn.out]; exact this) HGN4.out
        clear MN4 RN4 HON4 HGN4
        go_roundw
        case rel => exact ⟨j + 1, (out ++ [(pk, pd)]), false, by go_num, by omega, rfl, HEND.out, by have h1 := Hn.out; have h2 := HL2; show _ ≤ _; simp; omega, N4.out⟩
        case measure => simp [intOf]; omega
      · -- C E
        skip
        obtain rfl : put = true := hA
        have hne : (pk.toList == k.toList) = false := text_ne hE
        have HEND : Hid ((out ++ [(pk, pd)]) ++ dn k d (r.drop (j + 1)) true = R) := by
          have h := HDD.out
          show _ = _
          simpa [hE] using h
        clear HDD hE
        have HL2 : n + 0 ≤ j + 1 := by have h1 := Hn.out; have h2 := HL.out; simp at h2; omega
        go_upto_region 6 with fail
        go_quiet (fail)
        obtain ⟨wd, Hwd⟩ : ∃ x, x = wr.drewN nq := ⟨_, rfl⟩
        have N1 : Hid (Dn k d cut w (.slice oa n oc) out wd) := by rw [Hwd]; exact HN.out.later (za.below_dN (Below.refl _ _) nq)
        try rw [← Hwd]
        clear Hwd
        obtain ⟨c0wd, c1wd⟩ := HC.out wd N1.out.gr.bl
        obtain ⟨x0wd, x1wd, x2wd⟩ := N1.out.cells
        rw [hpb] at x0wd x1wd x2wd
        have hswd : pb ≤ wd.heap.size := by rw [← hpb]; exact N1.out.gr.bl.size
        go_upto_region 9 with fail
        go_quiet (fail)
        obtain ⟨we, Hwe⟩ : ∃ x, x = wd.drewN nq := ⟨_, rfl⟩
        have N3 : Hid (Dn k d cut w (.slice oa n oc) out we) := by rw [Hwe]; exact N1.out.later (za.below_dN (Below.refl _ _) nq)
        try rw [← Hwe]
        clear Hwe
        obtain ⟨c0we, c1we⟩ := HC.out we N3.out.gr.bl
        obtain ⟨x0we, x1we, x2we⟩ := N3.out.cells
        rw [hpb] at x0we x1we x2we
        have hswe : pb ≤ we.heap.size := by rw [← hpb]; exact N3.out.gr.bl.size
        have MN4 : Hid (Dn k d cut w (.slice oa n oc) out (we.alloc (.cells #[.string pk, .string pd] 79))) := N3.out.later ((Below.refl _ we).alloc (Nat.le_refl _) _)
        have RN4 : Hid (World.ownsRow (we.alloc (.cells #[.string pk, .string pd] 79)) w.heap.size 79 2 (.slice oa n oc) (n) (rcs out)) := by have this : World.ownsRow (we.alloc (.cells #[.string pk, .string pd] 79)) w.heap.size 79 2 (.slice oa n oc) (out).length (rcs out) := MN4.out.gr.own; simp only [List.length_append, List.length_cons, List.length_nil, Nat.zero_add, Hn.out] at this; exact this
        go_wp2_with (first | (at_builtin; (refine wpList_append_own _ rfl _ _ 45 rfl w.heap.size 79 i0 (.agg #[.string ByteArray.empty, .string ByteArray.empty]) 2 32 Tryz.underlying45 HIN.out.1 HIN.out.2.1 HIN.out.2.2.1 HIN.out.2.2.2 rfl (by decide) _ (n) _ rfl RN4.out ⟨we.heap.size, 0, none⟩ 1 1 [.string pk, .string pd] rfl rfl (zc.new_two _ _ _ _) (one_rc _ _) (by unfold maxLen; omega) (by omega) (by simp; omega) ?_; intro v6 w6 ho hg hnn; have HON4 : Hid (World.ownsRow _ _ _ _ _ _ _) := ho; have HGN4 : Hid (World.grownBy _ _ _) := hg; clear ho hg hnn)) | go_in)
        have N4 : Hid (Dn k d cut w v6 (out ++ [(pk, pd)]) w6) := MN4.out.grown (by have := HON4.out; simp only [List.length_append, List.length_cons, List.length_nil, Nat.zero_add, Hn.out]; exact this) HGN4.out
        clear MN4 RN4 HON4 HGN4
        go_roundw
        case rel => exact ⟨j + 1, (out ++ [(pk, pd)]), true, by go_num, by omega, rfl, HEND.out, by have h1 := Hn.out; have h2 := HL2; show _ ≤ _; simp; omega, N4.out⟩
        case measure => simp [intOf]; omega
      · -- C D
        skip
        obtain rfl : put = true := hA
        subst hE
        have hne : (pk.toList == pk.toList) = true := by simp
        have HEND : Hid ((out) ++ dn pk d (r.drop (j + 1)) true = R) := by
          have h := HDD.out
          show _ = _
          simpa using h
        clear HDD
        have HL2 : n + 0 ≤ j + 1 := by have h1 := Hn.out; have h2 := HL.out; simp at h2; omega
        go_upto_region 6 with fail
        go_quiet (fail)
        obtain ⟨wd, Hwd⟩ : ∃ x, x = wr.drewN nq := ⟨_, rfl⟩
        have N1 : Hid (Dn pk d cut w (.slice oa n oc) out wd) := by rw [Hwd]; exact HN.out.later (za.below_dN (Below.refl _ _) nq)
        try rw [← Hwd]
        clear Hwd
        obtain ⟨c0wd, c1wd⟩ := HC.out wd N1.out.gr.bl
        obtain ⟨x0wd, x1wd, x2wd⟩ := N1.out.cells
        rw [hpb] at x0wd x1wd x2wd
        have hswd : pb ≤ wd.heap.size := by rw [← hpb]; exact N1.out.gr.bl.size
        go_upto_region 9 with fail
        go_quiet (fail)
        obtain ⟨we, Hwe⟩ : ∃ x, x = wd.drewN nq := ⟨_, rfl⟩
        have N3 : Hid (Dn pk d cut w (.slice oa n oc) out we) := by rw [Hwe]; exact N1.out.later (za.below_dN (Below.refl _ _) nq)
        try rw [← Hwe]
        clear Hwe
        obtain ⟨c0we, c1we⟩ := HC.out we N3.out.gr.bl
        obtain ⟨x0we, x1we, x2we⟩ := N3.out.cells
        rw [hpb] at x0we x1we x2we
        have hswe : pb ≤ we.heap.size := by rw [← hpb]; exact N3.out.gr.bl.size
        go_wp2
        go_roundw
        case rel => exact ⟨j + 1, out, true, by go_num, by omega, rfl, HEND.out, by have h1 := Hn.out; have h2 := HL2; show _ ≤ _; simp; omega, N3.out⟩
        case measure => simp [intOf]; omega
--END
--TAIL
    · have hlt' : ¬ (j : Int) < r.length := by omega
      have hdr : r.drop j = [] := List.drop_eq_nil_of_le (by omega)
      have HD2 := HD.out
      rw [hdr] at HD2
      have HDD : Hid (out ++ (if put then [] else [(k, d)]) = R) := HD2
      clear HD HD2 hdr
      obtain ⟨x0, x1, x2⟩ := HN.out.cells
      rw [hpb] at x0 x1 x2
      have hswr : pb ≤ wr.heap.size := by rw [← hpb]; exact HN.out.gr.bl.size
      cases put with
      | true =>
        have HE2 : Hid (out = R) := by have := HDD.out; show _ = _; simpa using this
        go_wp2
        go_ret
        exact ⟨_, rfl, by have h := HN.out.gr; rw [HE2.out, hpb] at h; exact h⟩
      | false =>
        have HE2 : Hid (out ++ [(k, d)] = R) := by have := HDD.out; show _ = _; simpa using this
        have MN2 : Hid (Dn k d cut w (.slice oa n oc) out (wr.alloc (.cells #[.string k, .string d] 79))) := HN.out.later ((Below.refl _ wr).alloc (Nat.le_refl _) _)
        have RN2 : Hid (World.ownsRow (wr.alloc (.cells #[.string k, .string d] 79)) w.heap.size 79 2 (.slice oa n oc) (n) (rcs out)) := by have this : World.ownsRow (wr.alloc (.cells #[.string k, .string d] 79)) w.heap.size 79 2 (.slice oa n oc) (out).length (rcs out) := MN2.out.gr.own; simp only [List.length_append, List.length_cons, List.length_nil, Nat.zero_add, Hn.out] at this; exact this
        go_wp2_with (first | (at_builtin; (refine wpList_append_own _ rfl _ _ 45 rfl w.heap.size 79 i0 (.agg #[.string ByteArray.empty, .string ByteArray.empty]) 2 32 Tryz.underlying45 HIN.out.1 HIN.out.2.1 HIN.out.2.2.1 HIN.out.2.2.2 rfl (by decide) _ (n) _ rfl RN2.out ⟨wr.heap.size, 0, none⟩ 1 1 [.string k, .string d] rfl rfl (zc.new_two _ _ _ _) (one_rc _ _) (by unfold maxLen; omega) (by omega) (by simp; omega) ?_; intro v5 w5 ho hg hnn; have HON2 : Hid (World.ownsRow _ _ _ _ _ _ _) := ho; have HGN2 : Hid (World.grownBy _ _ _) := hg; clear ho hg hnn)) | go_in)
        have N2 : Hid (Dn k d cut w v5 (out ++ [(k, d)]) w5) := MN2.out.grown (by have := HON2.out; simp only [List.length_append, List.length_cons, List.length_nil, Nat.zero_add, Hn.out]; exact this) HGN2.out
        clear MN2 RN2 HON2 HGN2
        go_ret
        exact ⟨_, rfl, by have h := N2.out.gr; rw [HE2.out, hpb] at h; exact h⟩
--TAILEND
theorem doneC {B : Nat} (v : Value) (r : List Rec) (x : W) (w : World) (h : Lr B v r w) (hs : Srt r) (hl : r.length < 3518437208883) :
    Calls Tryz.prog 38 #[v, .agg #[.string x.key, .string x.data, .bool x.cut]] w fun e w' => ∃ v', e = .returned v' ∧ Gr w.heap.size w v' (doW r x) w' :=
  doneC0 v r x.key x.data x.cut (doW r x) w h (dn_doW x r hs) hl
end Go.Proofs.YtmindflfjocjlaaGreat.xb
