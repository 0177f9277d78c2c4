import Derived.Test.YtlkkibiedlakfaaGreatYl
namespace Go.Proofs.YtlkkibiedlakfaaGreat.ym
open Go.RowKit Go.PlainAid Go.Maps Go.Shelf
open Go.Proofs.YtlkkibiedlakfaaGreat.ca Go.Proofs.YtlkkibiedlakfaaGreat.cb Go.Proofs.YtlkkibiedlakfaaGreat.cp Go.Proofs.YtlkkibiedlakfaaGreat.kp Go.Proofs.YtlkkibiedlakfaaGreat.ka Go.Proofs.YtlkkibiedlakfaaGreat.ya Go.Proofs.YtlkkibiedlakfaaGreat.yb Go.Proofs.YtlkkibiedlakfaaGreat.yc Go.Proofs.YtlkkibiedlakfaaGreat.yd Go.Proofs.YtlkkibiedlakfaaGreat.ye Go.Proofs.YtlkkibiedlakfaaGreat.yf Go.Proofs.YtlkkibiedlakfaaGreat.yg Go.Proofs.YtlkkibiedlakfaaGreat.yh Go.Proofs.YtlkkibiedlakfaaGreat.yi Go.Proofs.YtlkkibiedlakfaaGreat.yl Go.Proofs.YtlkkibiedlakfaaGreat.sb Go.Proofs.YtlkkibiedlakfaaGreat.mc Go.Proofs.YtlkkibiedlakfaaGreat.na Go.Proofs.YtlkkibiedlakfaaGreat.nb
set_option linter.unusedVariables false
set_option linter.unusedSimpArgs false
-- what is left of the pending writes
def surv (keep : ByteArray) (i : Nat) : Bool := decide (keep.size ≠ 0 ∧ bt keep (i % keep.size) % 2 = 1)
def kdN (keep : ByteArray) (l : List W) (r : List Rec) : Nat → List Rec
  | 0 => r
  | j + 1 => match l[j]? with
    | some x => if surv keep j then doW (kdN keep l r j) x else kdN keep l r j
    | none => kdN keep l r j
def tbN (rd : List Rec) (l : List W) (rn : List Rec) : Nat → List Rec
  | 0 => rn
  | j + 1 => match l[j]? with
    | some x => tb rd (tbN rd l rn j) x.key
    | none => tbN rd l rn j
theorem ok_kd {keep : ByteArray} {l : List W} {r : List Rec} (h : OkR r) (hl : ∀ x ∈ l, OkW x) (j : Nat) : OkR (kdN keep l r j) := by
  induction j with
  | zero => exact h
  | succ j ih =>
    unfold kdN
    split
    · rename_i x hx
      split
      · exact ok_doW ih (hl x (List.mem_of_getElem? hx))
      · exact ih
    · exact ih
theorem srt_kd {keep : ByteArray} {l : List W} {r : List Rec} (h : Srt r) (j : Nat) : Srt (kdN keep l r j) := by
  induction j with
  | zero => exact h
  | succ j ih =>
    unfold kdN
    split
    · split
      · exact srt_doW ih
      · exact ih
    · exact ih
theorem len_kd (keep : ByteArray) (l : List W) (r : List Rec) (j : Nat) : (kdN keep l r j).length ≤ r.length + j := by
  induction j with
  | zero => exact Nat.le_refl _
  | succ j ih =>
    unfold kdN
    split
    · split
      · rename_i x _ _; have := len_doW (kdN keep l r j) x; omega
      · omega
    · omega
theorem ok_tb {rd rn : List Rec} {k : ByteArray} (h : OkR rd) (hn : OkR rn) : OkR (tb rd rn k) := by
  unfold tb
  split
  · rename_i d hd; have := h.get hd; exact hn.put this.1 this.2.1 this.2.2
  · exact hn.del
theorem srt_tb {rd rn : List Rec} {k : ByteArray} (hn : Srt rn) : Srt (tb rd rn k) := by
  unfold tb
  split
  · exact srt_put hn
  · exact srt_del hn
theorem len_tb (rd rn : List Rec) (k : ByteArray) : (tb rd rn k).length ≤ rn.length + 1 := by
  unfold tb
  split
  · exact len_put _ _ _
  · have := len_del k rn; omega
theorem ok_tbN {rd rn : List Rec} {l : List W} (h : OkR rd) (hn : OkR rn) (j : Nat) : OkR (tbN rd l rn j) := by
  induction j with
  | zero => exact hn
  | succ j ih => unfold tbN; split; exact ok_tb h ih; exact ih
theorem srt_tbN {rd rn : List Rec} {l : List W} (hn : Srt rn) (j : Nat) : Srt (tbN rd l rn j) := by
  induction j with
  | zero => exact hn
  | succ j ih => unfold tbN; split; exact srt_tb ih; exact ih
theorem len_tbN (rd rn : List Rec) (l : List W) (j : Nat) : (tbN rd l rn j).length ≤ rn.length + j := by
  induction j with
  | zero => exact Nat.le_refl _
  | succ j ih => unfold tbN; split; (rename_i x _; have := len_tb rd (tbN rd l rn j) x.key; omega); omega
theorem get_doW {r : List Rec} {x : W} {k : ByteArray} (h : Srt r) (hn : x.key ≠ k) : rget k (doW r x) = rget k r := by
  unfold doW
  split
  · exact get_del_other h (fun e => hn e.symm)
  · exact get_put_other h (fun e => hn e.symm)
theorem get_do {l : List W} {r : List Rec} {k : ByteArray} (h : Srt r) (hn : ∀ x ∈ l, x.key ≠ k) : rget k (l.foldl doW r) = rget k r := by
  induction l generalizing r with
  | nil => rfl
  | cons x l ih => rw [List.foldl_cons, ih (srt_doW h) (fun y hy => hn y (by simp [hy])), get_doW h (hn x (by simp))]
theorem get_kd {keep : ByteArray} {l : List W} {r : List Rec} {k : ByteArray} (h : Srt r) (hn : ∀ x ∈ l, x.key ≠ k) (j : Nat) : rget k (kdN keep l r j) = rget k r := by
  induction j with
  | zero => rfl
  | succ j ih =>
    unfold kdN
    split
    · rename_i x hx
      split
      · rw [get_doW (srt_kd h j) (hn x (List.mem_of_getElem? hx)), ih]
      · exact ih
    · exact ih
theorem get_tb_same {rd rn : List Rec} {k : ByteArray} (hn : Srt rn) : rget k (tb rd rn k) = rget k rd := by
  unfold tb
  split
  · rename_i d hd; rw [get_put_same hn, hd]
  · rename_i hd; rw [get_del_same, hd]
theorem get_tb_other {rd rn : List Rec} {k k' : ByteArray} (hn : Srt rn) (h : k' ≠ k) : rget k' (tb rd rn k) = rget k' rn := by
  unfold tb
  split
  · exact get_put_other hn h
  · exact get_del_other hn h
theorem get_tbN {rd rn : List Rec} {l : List W} {k : ByteArray} (hn : Srt rn) (j : Nat) : rget k (tbN rd l rn j) = if (∃ x ∈ l.take j, x.key = k) then rget k rd else rget k rn := by
  induction j with
  | zero => simp [tbN]
  | succ j ih =>
    unfold tbN
    split
    · rename_i x hx
      rw [List.take_add_one, hx]
      by_cases e : x.key = k
      · rw [if_pos ⟨x, by simp, e⟩, ← e, get_tb_same (srt_tbN hn j)]
      · rw [get_tb_other (srt_tbN hn j) (fun h => e h.symm), ih]
        congr 1
        simp only [eq_iff_iff]
        constructor
        · rintro ⟨y, h1, h2⟩; exact ⟨y, by simp [h1], h2⟩
        · rintro ⟨y, h1, h2⟩
          rcases List.mem_append.1 h1 with h1 | h1
          · exact ⟨y, h1, h2⟩
          · simp at h1; subst h1; exact absurd h2 e
    · rename_i hx
      rw [ih, List.take_add_one, hx]
      simp
-- behind the taking back what is there is what is durable
theorem tb_all {keep : ByteArray} {l : List W} {r : List Rec} (h : Srt r) : tbN (kdN keep l r l.length) l (l.foldl doW r) l.length = kdN keep l r l.length := by
  refine ext_get (srt_tbN (srt_do h) _) (srt_kd h _) fun k => ?_
  rw [get_tbN (srt_do h), List.take_length]
  split
  · rfl
  · rename_i hn
    have hn : ∀ x ∈ l, x.key ≠ k := fun x hx e => hn ⟨x, hx, e⟩
    rw [get_do h hn, get_kd h hn]
def crashS (s : S) (keep : ByteArray) : S := ⟨s.cap, kdN keep s.pend s.dur s.pend.length, [], 0, false, s.age + 1⟩
theorem survC (keep : ByteArray) (i : Nat) (w : World) (hk : keep.size ≤ 140737488355328) (hi : i ≤ 4398046511104) : Calls Tryz.prog 52 #[.string keep, .int .i64 i] w fun e w' => e = .returned (.bool (surv keep i)) ∧ w' = w := by
  have hbt := get_bt keep
  by_cases h0 : keep.size = 0
  · have hk0 : keep = ⟨#[]⟩ := by
      cases keep with
      | mk d => simp only [ByteArray.size] at h0; rw [Array.eq_empty_of_size_eq_zero h0]
    subst hk0
    go_enter Tryz.func52, Tryz.ntmps52
    go_wp2
    go_ret
    exact ⟨congrArg (fun b => Ending.returned (.bool b)) (decide_eq_false (fun h => h.1 rfl)).symm, rfl⟩
  · have hne : (keep.toList == []) = false := by
      rw [beq_eq_false_iff_ne, ByteArray.toList_eq]
      intro e
      have := congrArg List.length e
      have e2 : keep.data.toList.length = 0 := this
      rw [Array.length_toList] at e2
      exact h0 e2
    have hne' : (keep.toList != []) = true := by rw [bne, hne]; rfl
    obtain ⟨n, hn⟩ : ∃ n, keep.size = n := ⟨_, rfl⟩
    obtain ⟨r, hr⟩ : ∃ r, i % n = r := ⟨_, rfl⟩
    have hrn : r < n := by rw [← hr]; exact Nat.mod_lt _ (by omega)
    have hm : Int.tmod (i : Int) (n : Int) = (r : Int) := by rw [← hr]; rfl
    have hn0 : ((n : Int) == 0) = false := by rw [beq_eq_false_iff_ne]; omega
    have hw1 : IntKind.i64.wrap (r : Int) = r := wrap_is _ (by omega)
    have hrs : r < keep.size := by omega
    have hb0 := bt_nonneg keep r
    have hb1 := bt_le keep r
    have HSV : Hid (surv keep i = decide (bt keep r % 2 = 1)) := by
      show _ = _
      unfold surv
      rw [hn, hr]
      simp [show n ≠ 0 by omega]
    have hlt2 : (r : Int) < (n : Int) := by omega
    obtain ⟨y, hy⟩ : ∃ y, bt keep r = y := ⟨_, rfl⟩
    rw [hy] at hb0 hb1
    have hy' : ∀ h, ((keep[r]'h).toNat : Int) = y := fun h => by rw [← hy]; exact hbt r h
    have ht : Int.tmod y 2 = y % 2 := Int.tmod_eq_emod_of_nonneg hb0
    have hw2 : IntKind.u8.wrap (y % 2) = y % 2 := by
      have : 0 ≤ y % 2 ∧ y % 2 < 256 := by omega
      rcases (show y % 2 = 0 ∨ y % 2 = 1 by omega) with e | e <;> rw [e] <;> decide
    rw [HSV.out, hy]
    clear hr hbt hy h0 HSV
    go_enter Tryz.func52, Tryz.ntmps52
    go_wp2
    go_ret
    exact ⟨rfl, rfl⟩
end Go.Proofs.YtlkkibiedlakfaaGreat.ym
