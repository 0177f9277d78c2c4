import Derived.PlainAid
namespace Go.Proofs.Ytjkkijeamcihiaa.sa
set_option linter.unusedVariables false
set_option linter.unusedSimpArgs false

-- a cache: what it keeps, the newest first
structure S (κ ν : Type) where
  most : Nat
  hits : Nat
  misses : Nat
  gone : Nat
  l : List (κ × ν)
section
variable {κ ν : Type} [DecidableEq κ]
def fnd (k : κ) (l : List (κ × ν)) : Option ν := (l.find? fun p => decide (p.1 = k)).map (·.2)
def rm (k : κ) (l : List (κ × ν)) : List (κ × ν) := l.filter fun p => !decide (p.1 = k)
def keys (l : List (κ × ν)) : List κ := l.map (·.1)
def getS (s : S κ ν) (k : κ) : S κ ν := match fnd k s.l with
  | some v => { s with hits := s.hits + 1, l := (k, v) :: rm k s.l }
  | none => { s with misses := s.misses + 1 }
-- the key that goes
def outS (s : S κ ν) (k : κ) : Option κ := match fnd k s.l with
  | some _ => none
  | none => if s.most = 0 then some k else if s.l.length < s.most then none else (s.l.getLast?).map (·.1)
def putS (s : S κ ν) (k : κ) (v : ν) : S κ ν := match fnd k s.l with
  | some _ => { s with l := (k, v) :: rm k s.l }
  | none => if s.most = 0 then { s with gone := s.gone + 1 } else if s.l.length < s.most then { s with l := (k, v) :: s.l } else { s with gone := s.gone + 1, l := (k, v) :: s.l.dropLast }
def dropS (s : S κ ν) (k : κ) : S κ ν := { s with l := rm k s.l }
def clearS (s : S κ ν) : S κ ν := { s with l := [] }
structure Ok (s : S κ ν) : Prop where
  nd : (keys s.l).Nodup
  len : s.l.length ≤ s.most
  most : s.most ≤ 4096
theorem fnd_mem {k : κ} {v : ν} {l : List (κ × ν)} (h : fnd k l = some v) : (k, v) ∈ l := by
  unfold fnd at h
  cases h1 : l.find? fun p => decide (p.1 = k) with
  | none => rw [h1] at h; cases h
  | some p =>
    rw [h1] at h
    have h2 := List.find?_some h1
    have h3 := List.mem_of_find?_eq_some h1
    simp only [decide_eq_true_eq] at h2
    simp only [Option.map_some, Option.some.injEq] at h
    rw [← h2, ← h]
    exact h3
theorem fnd_none {k : κ} {l : List (κ × ν)} : fnd k l = none ↔ ∀ p ∈ l, p.1 ≠ k := by simp [fnd]
theorem fnd_some {k : κ} {v : ν} {l : List (κ × ν)} (nd : (keys l).Nodup) : fnd k l = some v ↔ (k, v) ∈ l := by
  refine ⟨fnd_mem, fun h => ?_⟩
  induction l with
  | nil => cases h
  | cons p l ih =>
    obtain ⟨n1, n2⟩ := List.nodup_cons.1 (show (p.1 :: keys l).Nodup from nd)
    by_cases e : p.1 = k
    · have : fnd k (p :: l) = some p.2 := by simp [fnd, e]
      rw [this]
      rcases List.mem_cons.1 h with h | h
      · rw [← h]
      · exact absurd (List.mem_map.2 ⟨(k, v), h, e.symm⟩) n1
    · have : fnd k (p :: l) = fnd k l := by simp [fnd, e]
      rw [this]
      rcases List.mem_cons.1 h with h | h
      · exact absurd (by rw [← h]) e
      · exact ih n2 h
theorem mem_rm {k : κ} {p : κ × ν} {l : List (κ × ν)} : p ∈ rm k l ↔ p ∈ l ∧ p.1 ≠ k := by simp [rm]
theorem rm_none {k : κ} {l : List (κ × ν)} (h : fnd k l = none) : rm k l = l := by
  unfold rm
  rw [List.filter_eq_self]
  intro p hp
  simpa using fnd_none.1 h p hp
theorem keys_rm (k : κ) (l : List (κ × ν)) : keys (rm k l) = (keys l).filter fun x => !decide (x = k) := by
  unfold keys rm
  rw [List.filter_map]
  rfl
theorem nd_rm {k : κ} {l : List (κ × ν)} (h : (keys l).Nodup) : (keys (rm k l)).Nodup := by rw [keys_rm]; exact h.filter _
theorem nd_new {k : κ} {v : ν} {l : List (κ × ν)} (h : (keys l).Nodup) : (keys ((k, v) :: rm k l)).Nodup := by
  refine List.nodup_cons.2 ⟨fun hm => ?_, nd_rm h⟩
  obtain ⟨p, hp, e⟩ := List.mem_map.1 hm
  exact (mem_rm.1 hp).2 e
theorem rm_len {k : κ} {l : List (κ × ν)} : (rm k l).length ≤ l.length := List.length_filter_le _ _
theorem rm_lt {k : κ} {v : ν} {l : List (κ × ν)} (nd : (keys l).Nodup) (h : fnd k l = some v) : (rm k l).length + 1 = l.length := by
  induction l with
  | nil => cases h
  | cons p l ih =>
    obtain ⟨n1, n2⟩ := List.nodup_cons.1 (show (p.1 :: keys l).Nodup from nd)
    by_cases e : p.1 = k
    · have : rm k (p :: l) = l := by
        have : rm k l = l := rm_none (fnd_none.2 fun q hq e2 => n1 (List.mem_map.2 ⟨q, hq, by rw [e2, e]⟩))
        unfold rm at this ⊢
        rw [List.filter_cons, decide_eq_true e]
        exact this
      rw [this]; rfl
    · have h2 : fnd k l = some v := by rw [← h]; simp [fnd, e]
      have : rm k (p :: l) = p :: rm k l := by unfold rm; rw [List.filter_cons, decide_eq_false e]; rfl
      rw [this, List.length_cons, ih n2 h2]; rfl
-- by place
theorem erase_rm {k : κ} {l : List (κ × ν)} (nd : (keys l).Nodup) {i : Nat} (hi : i < l.length) (e : (l[i]).1 = k) : l.eraseIdx i = rm k l := by
  induction l generalizing i with
  | nil => cases hi
  | cons p l ih =>
    obtain ⟨n1, n2⟩ := List.nodup_cons.1 (show (p.1 :: keys l).Nodup from nd)
    cases i with
    | zero =>
      have e : p.1 = k := e
      have : rm k l = l := rm_none (fnd_none.2 fun q hq e2 => n1 (List.mem_map.2 ⟨q, hq, by rw [e2, e]⟩))
      show l = rm k (p :: l)
      unfold rm at this ⊢
      rw [List.filter_cons, decide_eq_true e]
      exact this.symm
    | succ i =>
      have hi : i < l.length := Nat.lt_of_succ_lt_succ hi
      have e : (l[i]).1 = k := e
      have ne : p.1 ≠ k := fun e2 => n1 (List.mem_map.2 ⟨l[i], List.getElem_mem hi, by rw [e, e2]⟩)
      show p :: l.eraseIdx i = rm k (p :: l)
      rw [ih n2 hi e]
      unfold rm
      rw [List.filter_cons, decide_eq_false ne]
      rfl
theorem drop_rm {l : List (κ × ν)} (nd : (keys l).Nodup) {p : κ × ν} (h : l.getLast? = some p) : l.dropLast = rm p.1 l := by
  have hl : 0 < l.length := by cases l with | nil => cases h | cons => simp
  have hi : l.length - 1 < l.length := by omega
  have : l[l.length - 1] = p := by
    rw [List.getLast?_eq_getElem?, List.getElem?_eq_getElem hi] at h
    exact Option.some.inj h
  rw [← erase_rm nd hi (by rw [this]), List.eraseIdx_length_sub_one]
theorem Ok.get {s : S κ ν} (h : Ok s) (k : κ) : Ok (getS s k) := by
  unfold getS
  cases hf : fnd k s.l with
  | none => exact ⟨h.nd, h.len, h.most⟩
  | some v => exact ⟨nd_new h.nd, by have := rm_lt h.nd hf; have := h.len; show (rm k s.l).length + 1 ≤ s.most; omega, h.most⟩
theorem Ok.put {s : S κ ν} (h : Ok s) (k : κ) (v : ν) : Ok (putS s k v) := by
  unfold putS
  cases hf : fnd k s.l with
  | some x => exact ⟨nd_new h.nd, by have := rm_lt h.nd hf; have := h.len; show (rm k s.l).length + 1 ≤ s.most; omega, h.most⟩
  | none =>
    dsimp only
    split
    · exact ⟨h.nd, h.len, h.most⟩
    · split
      · rename_i h1 h2
        refine ⟨?_, h2, h.most⟩
        have := nd_new (k := k) (v := v) h.nd
        rw [rm_none hf] at this
        exact this
      · rename_i h1 h2
        have hl := h.len
        cases hg : s.l.getLast? with
        | none => rw [List.getLast?_eq_none_iff] at hg; rw [hg] at h2; simp at h2; omega
        | some p =>
          have hd := drop_rm h.nd hg
          refine ⟨?_, by show (s.l.dropLast).length + 1 ≤ s.most; rw [List.length_dropLast]; omega, h.most⟩
          show (keys ((k, v) :: s.l.dropLast)).Nodup
          rw [hd]
          refine List.nodup_cons.2 ⟨fun hm => ?_, nd_rm h.nd⟩
          obtain ⟨q, hq, e⟩ := List.mem_map.1 hm
          exact fnd_none.1 hf q (mem_rm.1 hq).1 e
theorem Ok.drop {s : S κ ν} (h : Ok s) (k : κ) : Ok (dropS s k) := ⟨nd_rm h.nd, Nat.le_trans rm_len h.len, h.most⟩
omit [DecidableEq κ] in
theorem Ok.clear {s : S κ ν} (h : Ok s) : Ok (clearS s) := ⟨List.nodup_nil, Nat.zero_le _, h.most⟩
end
end Go.Proofs.Ytjkkijeamcihiaa.sa
