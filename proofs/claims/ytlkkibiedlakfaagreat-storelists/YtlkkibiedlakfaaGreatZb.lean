import Derived.Test.YtlkkibiedlakfaaGreatYx
namespace Go.Proofs.YtlkkibiedlakfaaGreat.zb
open Go.RowKit Go.PlainAid Go.Maps Go.Shelf
open Go.Proofs.YtlkkibiedlakfaaGreat.ya Go.Proofs.YtlkkibiedlakfaaGreat.yb Go.Proofs.YtlkkibiedlakfaaGreat.yc Go.Proofs.YtlkkibiedlakfaaGreat.yd Go.Proofs.YtlkkibiedlakfaaGreat.ye Go.Proofs.YtlkkibiedlakfaaGreat.yf Go.Proofs.YtlkkibiedlakfaaGreat.yi Go.Proofs.YtlkkibiedlakfaaGreat.yk Go.Proofs.YtlkkibiedlakfaaGreat.yl Go.Proofs.YtlkkibiedlakfaaGreat.ym Go.Proofs.YtlkkibiedlakfaaGreat.yr Go.Proofs.YtlkkibiedlakfaaGreat.yt
set_option linter.unusedVariables false
set_option linter.unusedSimpArgs false
-- what a key has, and what it may have behind a Crash
abbrev Sn := Bool × ByteArray
def sn (k : ByteArray) (r : List Rec) : Sn := ((rget k r).isSome, (rget k r).getD ByteArray.empty)
def wsn (x : W) : Sn := (!x.cut, if x.cut then ByteArray.empty else x.data)
def onK (k : ByteArray) (l : List W) : List Sn := (l.filter fun x => decide (x.key = k)).map wsn
def canL (k : ByteArray) (s : S) : List Sn := sn k s.dur :: onK k s.pend
theorem sn_same {k : ByteArray} {r : List Rec} {x : W} (h : Srt r) (hk : x.key = k) : sn k (doW r x) = wsn x := by
  subst hk
  unfold doW wsn
  cases x.cut with
  | true => simp [sn, get_del_same]
  | false => simp [sn, get_put_same h]
theorem sn_other {k : ByteArray} {r : List Rec} {x : W} (h : Srt r) (hk : x.key ≠ k) : sn k (doW r x) = sn k r := by
  unfold sn
  rw [get_doW h hk]
theorem onK_app (k : ByteArray) (l l' : List W) : onK k (l ++ l') = onK k l ++ onK k l' := by simp [onK]
theorem onK_one (k : ByteArray) (x : W) : onK k [x] = if x.key = k then [wsn x] else [] := by
  unfold onK
  by_cases h : x.key = k <;> simp [h]
theorem onK_cons (k : ByteArray) (x : W) (l : List W) : onK k (x :: l) = (if x.key = k then [wsn x] else []) ++ onK k l := by
  rw [← onK_one, ← onK_app]; rfl
theorem kd_can (keep k : ByteArray) (l : List W) {r : List Rec} (h : Srt r) (j : Nat) : sn k (kdN keep l r j) ∈ sn k r :: onK k l := by
  induction j with
  | zero => exact List.mem_cons_self
  | succ j ih =>
    unfold kdN
    split
    · rename_i x hx
      split
      · by_cases e : x.key = k
        · rw [sn_same (srt_kd h _) e]
          refine List.mem_cons_of_mem _ ?_
          unfold onK
          exact List.mem_map.2 ⟨x, List.mem_filter.2 ⟨List.mem_of_getElem? hx, by simp [e]⟩, rfl⟩
        · rw [sn_other (srt_kd h _) e]; exact ih
      · exact ih
    · exact ih
theorem kd_no {keep : ByteArray} (hk : keep.size = 0) (l : List W) (r : List Rec) (j : Nat) : kdN keep l r j = r := by
  have hs : ∀ i, surv keep i = false := fun i => by unfold surv; exact decide_eq_false (fun h => h.1 hk)
  induction j with
  | zero => rfl
  | succ j ih =>
    unfold kdN
    rw [hs, ih]
    split <;> simp
def one : ByteArray := ⟨#[1]⟩
theorem surv_one (i : Nat) : surv one i = true := by
  unfold surv
  have h1 : one.size = 1 := rfl
  rw [h1, Nat.mod_one]
  exact decide_eq_true ⟨by omega, by rfl⟩
theorem kd_all (l : List W) (r : List Rec) (j : Nat) (hj : j ≤ l.length) : kdN one l r j = (l.take j).foldl doW r := by
  induction j with
  | zero => rfl
  | succ j ih =>
    have hx : l[j]? = some l[j] := List.getElem?_eq_getElem (by omega)
    have ht : l.take (j + 1) = l.take j ++ [l[j]] := by rw [List.take_add_one, hx]; rfl
    rw [ht, List.foldl_append]
    unfold kdN
    rw [hx, surv_one, ih (by omega)]
    rfl
theorem sn_last (k : ByteArray) (l : List W) : ∀ {r : List Rec}, Srt r → some (sn k (l.foldl doW r)) = (sn k r :: onK k l)[(onK k l).length]? := by
  induction l with
  | nil => intro r h; rfl
  | cons x l ih =>
    intro r h
    rw [List.foldl_cons, ih (srt_doW h), onK_cons]
    by_cases e : x.key = k
    · rw [sn_same h e, if_pos e]; rfl
    · rw [sn_other h e, if_neg e]; rfl
-- behind a Crash
theorem can_crash (keep k : ByteArray) {s : S} (h : Srt s.dur) : sn k (now (crashS s keep)) ∈ canL k s ∧ (keep.size = 0 → (canL k s)[0]? = some (sn k (now (crashS s keep)))) ∧ (keep = one → (canL k s)[(canL k s).length - 1]? = some (sn k (now (crashS s keep)))) := by
  have e : now (crashS s keep) = kdN keep s.pend s.dur s.pend.length := rfl
  rw [e]
  refine ⟨kd_can _ _ _ h _, fun h0 => by rw [kd_no h0]; rfl, ?_⟩
  rintro rfl
  rw [kd_all _ _ _ (Nat.le_refl _), List.take_length, sn_last k s.pend h]
  show (sn k s.dur :: onK k s.pend)[(sn k s.dur :: onK k s.pend).length - 1]? = _
  simp
theorem can_spend (k : ByteArray) (s : S) : canL k (spendS s).2 = canL k s := by unfold canL; rw [dur_spend, pend_spend]
theorem can_add (k : ByteArray) (s : S) (x : W) : canL k (addW s x) = canL k s ++ (if x.key = k then [wsn x] else []) := by
  unfold canL addW
  rw [onK_app, onK_one]
  rfl
-- one call: it settles, it writes, or it leaves all that may be
def settles (s : S) (o : Opn) : Prop := (o.kind = 3 ∧ (doS s o.kind o.key o.data o.n).1 = 0) ∨ o.kind = 5
def wrote (k : ByteArray) (s : S) (o : Opn) : Prop := (o.kind = 1 ∨ o.kind = 2) ∧ o.key = k ∧ s.off = false ∧ ((doS s o.kind o.key o.data o.n).1 = 0 ∨ (doS s o.kind o.key o.data o.n).1 = 124)
theorem spend_off (s : S) (h : s.off = false) (h0 : (spendS s).1 = 0) : (spendS s).2.off = false := by
  unfold spendS at h0 ⊢
  split
  · exact h
  · rename_i h1
    rw [if_neg h1] at h0
    split
    · rename_i h2; rw [if_pos h2] at h0; cases h0
    · exact h
theorem spend_e (s : S) : (spendS s).1 = 0 ∨ (spendS s).1 = 124 := by
  unfold spendS
  split
  · exact .inl rfl
  · split
    · exact .inr rfl
    · exact .inl rfl
theorem can_settle (k : ByteArray) (s : S) (o : Opn) (h : settles s o) : canL k (doO s o) = [sn k (now (doO s o))] ∧ (doO s o).off = false := by
  rcases h with ⟨h3, h0⟩ | h5
  · unfold doO
    unfold doS at h0 ⊢
    rw [h3] at h0 ⊢
    simp only [show ¬ ((3 : Int) = 1) by omega, show ¬ ((3 : Int) = 2) by omega, if_false, if_true] at h0 ⊢
    unfold syncS at h0 ⊢
    split
    · rename_i ho; rw [if_pos ho] at h0; cases h0
    · rename_i ho
      rw [if_neg ho] at h0
      split
      · rename_i hz; rw [if_pos hz] at h0; exact absurd h0 hz
      · rename_i hz
        exact ⟨rfl, spend_off s (by simpa using ho) (by simpa using hz)⟩
  · unfold doO doS
    rw [h5]
    simp only [show ¬ ((5 : Int) = 1) by omega, show ¬ ((5 : Int) = 2) by omega, show ¬ ((5 : Int) = 3) by omega, show ¬ ((5 : Int) = 4) by omega, if_false, if_true]
    exact ⟨rfl, rfl⟩
theorem ref_off {s : S} {k : ByteArray} (h : ¬ refS s k ≠ 0) : s.off = false := by
  cases e : s.off with
  | false => rfl
  | true => exact absurd (by unfold refS; rw [e]; simp) h
theorem ref_e {s : S} {k : ByteArray} (h : s.off = false) : refS s k = 0 ∨ refS s k = 120 := by
  unfold refS
  rw [h]
  simp only [Bool.false_eq_true, if_false]
  split
  · exact .inl rfl
  · exact .inr rfl
theorem can_wrote (k : ByteArray) (s : S) (o : Opn) (h : wrote k s o) : canL k (doO s o) = canL k s ++ [(decide (o.kind = 1), if o.kind = 1 then o.data else ByteArray.empty)] := by
  obtain ⟨hk, rfl, hoff, hE⟩ := h
  have hr := ref_e (k := o.key) hoff
  unfold doO
  unfold doS at hE ⊢
  rcases hk with h1 | h2
  · rw [h1] at hE ⊢
    simp only [if_true] at hE ⊢
    unfold putS at hE ⊢
    split
    · rename_i hz
      rw [if_pos hz] at hE
      rcases hr with hr | hr
      · exact absurd hr hz
      · rw [hr] at hE; simp at hE
    · rename_i hz
      rw [if_neg hz] at hE
      split
      · rename_i hd
        rw [if_pos hd] at hE
        split
        · rename_i hf; rw [if_pos hf] at hE; simp at hE
        · rw [can_spend, can_add]; simp [wsn]
      · rename_i hd; rw [if_neg hd] at hE; simp at hE
  · rw [h2] at hE ⊢
    simp only [show ¬ ((2 : Int) = 1) by omega, if_false, if_true] at hE ⊢
    unfold cutS at hE ⊢
    split
    · rename_i hz
      rw [if_pos hz] at hE
      rcases hr with hr | hr
      · exact absurd hr hz
      · rw [hr] at hE; simp at hE
    · rename_i hz
      rw [if_neg hz] at hE
      split
      · rw [can_spend, can_add]; simp [wsn]
      · rename_i hd; rw [if_neg hd] at hE; simp at hE
theorem can_else (k : ByteArray) (s : S) (o : Opn) (h1 : ¬ settles s o) (h2 : ¬ wrote k s o) : canL k (doO s o) = canL k s := by
  unfold settles at h1
  unfold wrote at h2
  unfold doO
  unfold doS at h1 h2 ⊢
  split
  · rename_i e
    simp only [if_pos e] at h2
    unfold putS at h2 ⊢
    split
    · rfl
    · rename_i hz
      simp only [if_neg hz] at h2
      split
      · rename_i hd
        simp only [if_pos hd] at h2
        split
        · rfl
        · rename_i hf
          simp only [if_neg hf] at h2
          rw [can_spend, can_add, if_neg (fun ek => h2 ⟨.inl e, ek, ref_off hz, spend_e _⟩)]
          simp
      · rfl
  · rename_i e1
    split
    · rename_i e
      simp only [if_neg e1, if_pos e] at h2
      unfold cutS at h2 ⊢
      split
      · rfl
      · rename_i hz
        simp only [if_neg hz] at h2
        split
        · rename_i hf
          simp only [if_pos hf] at h2
          rw [can_spend, can_add, if_neg (fun ek => h2 ⟨.inr e, ek, ref_off hz, spend_e _⟩)]
          simp
        · rfl
    · rename_i e2
      split
      · rename_i e3
        simp only [if_neg e1, if_neg e2, if_pos e3] at h1
        unfold syncS at h1 ⊢
        split
        · rfl
        · rename_i ho
          simp only [if_neg ho] at h1
          split
          · exact can_spend k s
          · rename_i hz
            simp only [if_neg hz] at h1
            exact absurd (.inl ⟨e3, by trivial⟩) h1
      · split
        · unfold armS
          split <;> rfl
        · rename_i e4
          split
          · rename_i e5; exact absurd (.inr e5) h1
          · split <;> rfl
-- what is asked of a key
theorem get_sn {s : S} (h : OkS s) (ho : s.off = false) (k : ByteArray) : (((getS s k).2 == 0), (getS s k).1) = sn k (now s) := by
  unfold getS refS
  rw [ho]
  simp only [Bool.false_eq_true, if_false]
  by_cases hk : 1 ≤ k.size ∧ k.size ≤ 64
  · rw [if_pos hk, if_neg (by simp)]
    unfold sn
    cases rget k (now s) <;> simp
  · rw [if_neg hk, if_pos (by simp)]
    have : rget k (now s) = none := by
      cases e : rget k (now s) with
      | none => rfl
      | some d => exact absurd ⟨(h.now.get e).1, (h.now.get e).2.1⟩ hk
    simp [sn, this]
end Go.Proofs.YtlkkibiedlakfaaGreat.zb
