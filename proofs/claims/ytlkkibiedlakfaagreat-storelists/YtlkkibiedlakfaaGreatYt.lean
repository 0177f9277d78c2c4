import Derived.Test.YtlkkibiedlakfaaGreatYs
namespace Go.Proofs.YtlkkibiedlakfaaGreat.yt
open Go.RowKit Go.PlainAid Go.Maps Go.Shelf
open Go.Proofs.YtlkkibiedlakfaaGreat.ca Go.Proofs.YtlkkibiedlakfaaGreat.cb Go.Proofs.YtlkkibiedlakfaaGreat.cp Go.Proofs.YtlkkibiedlakfaaGreat.kp Go.Proofs.YtlkkibiedlakfaaGreat.ka Go.Proofs.YtlkkibiedlakfaaGreat.ya Go.Proofs.YtlkkibiedlakfaaGreat.yb Go.Proofs.YtlkkibiedlakfaaGreat.yc Go.Proofs.YtlkkibiedlakfaaGreat.yd Go.Proofs.YtlkkibiedlakfaaGreat.ye Go.Proofs.YtlkkibiedlakfaaGreat.yf Go.Proofs.YtlkkibiedlakfaaGreat.yg Go.Proofs.YtlkkibiedlakfaaGreat.yh Go.Proofs.YtlkkibiedlakfaaGreat.yi Go.Proofs.YtlkkibiedlakfaaGreat.yj Go.Proofs.YtlkkibiedlakfaaGreat.yk Go.Proofs.YtlkkibiedlakfaaGreat.yl Go.Proofs.YtlkkibiedlakfaaGreat.ym Go.Proofs.YtlkkibiedlakfaaGreat.yn Go.Proofs.YtlkkibiedlakfaaGreat.yo Go.Proofs.YtlkkibiedlakfaaGreat.yp Go.Proofs.YtlkkibiedlakfaaGreat.yr Go.Proofs.YtlkkibiedlakfaaGreat.ys Go.Proofs.YtlkkibiedlakfaaGreat.sb Go.Proofs.YtlkkibiedlakfaaGreat.mc
set_option linter.unusedVariables false
set_option linter.unusedSimpArgs false
-- what a store's records and pending writes weigh
theorem isz_ins (x : Rec) (r : List Rec) : isz (ins x r) = isz r + (x.1.size + x.2.size + 5) := by
  induction r with
  | nil => simp [ins, isz]; omega
  | cons y r ih =>
    unfold ins
    split
    · simp [isz]; omega
    · simp [isz, ih]; omega
theorem isz_del (k : ByteArray) (r : List Rec) : isz (del k r) ≤ isz r := by
  induction r with
  | nil => exact Nat.le_refl _
  | cons y r ih =>
    unfold del at ih ⊢
    rw [List.filter_cons]
    split
    · simp only [isz]; omega
    · simp only [isz]; omega
def wW (x : W) : Nat := x.key.size + x.data.size + 5
def pw : List W → Nat
  | [] => 0
  | x :: l => wW x + pw l
theorem pw_app (l l' : List W) : pw (l ++ l') = pw l + pw l' := by
  induction l with
  | nil => simp [pw]
  | cons x l ih => simp [pw, ih]; omega
theorem isz_doW (r : List Rec) (x : W) : isz (doW r x) ≤ isz r + wW x := by
  unfold doW
  split
  · have := isz_del x.key r; omega
  · have := isz_del x.key r; rw [put, isz_ins]; simp only [wW]; omega
theorem isz_do (r : List Rec) (l : List W) : isz (l.foldl doW r) ≤ isz r + pw l := by
  induction l generalizing r with
  | nil => simp [pw]
  | cons x l ih => have := ih (doW r x); have := isz_doW r x; simp only [List.foldl_cons, pw]; omega
theorem isz_kd (keep : ByteArray) (l : List W) (r : List Rec) (j : Nat) : isz (kdN keep l r j) ≤ isz r + pw (l.take j) := by
  induction j with
  | zero => simp [kdN, pw]
  | succ j ih =>
    unfold kdN
    split
    · rename_i x hx
      rw [List.take_add_one, hx, pw_app]
      have e : pw (some x).toList = wW x := by simp [pw]
      rw [e]
      split
      · have := isz_doW (kdN keep l r j) x; omega
      · omega
    · rename_i hx
      rw [List.take_add_one, hx]
      simpa using ih
def mass (s : S) : Nat := isz s.dur + pw s.pend
theorem mass_spend (s : S) : mass (spendS s).2 = mass s := by unfold mass; rw [dur_spend, pend_spend]
theorem mass_add (s : S) (x : W) : mass (addW s x) = mass s + wW x := by
  show isz s.dur + pw (s.pend ++ [x]) = _
  rw [pw_app]; simp [mass, pw]; omega
structure Opn where
  kind : Int
  key : ByteArray
  data : ByteArray
  n : Int
def doO (s : S) (o : Opn) : S := (doS s o.kind o.key o.data o.n).2
def wt (o : Opn) : Nat := o.key.size + o.data.size + 5
def nums (s : S) : Nat := s.dur.length + s.pend.length
-- one step: how a store grows
theorem grows (s : S) (o : Opn) : mass (doO s o) ≤ mass s + wt o ∧ nums (doO s o) ≤ nums s + 1 ∧ (doO s o).age ≤ s.age + 1 := by
  have same : mass s ≤ mass s + wt o ∧ nums s ≤ nums s + 1 ∧ s.age ≤ s.age + 1 := ⟨by omega, by omega, by omega⟩
  have add : ∀ x : W, wW x ≤ wt o → mass (spendS (addW s x)).2 ≤ mass s + wt o ∧ nums (spendS (addW s x)).2 ≤ nums s + 1 ∧ (spendS (addW s x)).2.age ≤ s.age + 1 := fun x hx => by
    refine ⟨by rw [mass_spend, mass_add]; omega, ?_, by rw [age_spend]; show s.age ≤ _; omega⟩
    unfold nums
    rw [dur_spend, pend_spend]
    show s.dur.length + (s.pend ++ [x]).length ≤ _
    simp
    omega
  unfold doO doS
  split
  · unfold putS
    split
    · exact same
    · split
      · split
        · exact same
        · exact add _ (Nat.le_refl _)
      · exact same
  · split
    · unfold cutS
      split
      · exact same
      · split
        · exact add _ (by simp [wW, wt])
        · exact same
    · split
      · unfold syncS
        split
        · exact same
        · split
          · refine ⟨by rw [mass_spend]; omega, by unfold nums; rw [dur_spend, pend_spend]; omega, by rw [age_spend]; omega⟩
          · refine ⟨?_, ?_, by show (spendS s).2.age ≤ _; rw [age_spend]; omega⟩
            · show isz (now s) + 0 ≤ _
              have := isz_do s.dur s.pend
              unfold now mass; omega
            · show (now s).length + 0 ≤ _
              have := len_do s.dur s.pend
              unfold now nums; omega
      · split
        · unfold armS
          split <;> exact same
        · split
          · refine ⟨?_, ?_, by show s.age + 1 ≤ _; omega⟩
            · show isz (kdN o.data s.pend s.dur s.pend.length) + 0 ≤ _
              have := isz_kd o.data s.pend s.dur s.pend.length
              rw [List.take_length] at this
              unfold mass; omega
            · show (kdN o.data s.pend s.dur s.pend.length).length + 0 ≤ _
              have := len_kd o.data s.pend s.dur s.pend.length
              unfold nums; omega
          · split <;> exact same
def tw : List Opn → Nat
  | [] => 0
  | o :: l => wt o + tw l
theorem tw_at (l : List Opn) (j : Nat) (o : Opn) (h : l[j]? = some o) : tw (l.take (j + 1)) = tw (l.take j) + wt o := by
  induction l generalizing j with
  | nil => simp at h
  | cons p l ih =>
    cases j with
    | zero => simp at h; subst h; simp [tw]
    | succ j => simp only [List.take_succ_cons, tw]; have := ih j (by simpa using h); omega
theorem tw_take (l : List Opn) (j : Nat) : tw (l.take j) ≤ tw l := by
  induction l generalizing j with
  | nil => simp
  | cons p l ih =>
    cases j with
    | zero => simp [tw]
    | succ j => simp only [List.take_succ_cons, tw]; have := ih j; omega
theorem steps (s : S) (l : List Opn) (j : Nat) : mass ((l.take j).foldl doO s) ≤ mass s + tw (l.take j) ∧ nums ((l.take j).foldl doO s) ≤ nums s + j ∧ ((l.take j).foldl doO s).age ≤ s.age + j := by
  induction j with
  | zero => simp [tw]
  | succ j ih =>
    cases hx : l[j]? with
    | none =>
      rw [List.take_add_one, hx]
      simp only [Option.toList_none, List.append_nil]
      omega
    | some o =>
      have h1 := grows ((l.take j).foldl doO s) o
      have h2 := tw_at l j o hx
      rw [h2, List.take_add_one, hx, List.foldl_append]
      show mass (doO ((l.take j).foldl doO s) o) ≤ _ ∧ nums (doO ((l.take j).foldl doO s) o) ≤ _ ∧ (doO ((l.take j).foldl doO s) o).age ≤ _
      omega
end Go.Proofs.YtlkkibiedlakfaaGreat.yt
