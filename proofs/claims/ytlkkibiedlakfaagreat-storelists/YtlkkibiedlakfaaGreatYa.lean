import Derived.Maps.RangeWalk
import Derived.Maps.OwnSet
import Derived.Sort.KeysCollected
import Derived.WideShapes
namespace Go.Proofs.YtlkkibiedlakfaaGreat.ya
open Go.Maps
set_option linter.unusedVariables false
set_option linter.unusedSimpArgs false

abbrev Rec := ByteArray × ByteArray
def bs (s : ByteArray) : List UInt8 := s.data.toList
theorem bs_inj {a b : ByteArray} (h : bs a = bs b) : a = b := by
  cases a; cases b
  simp only [bs] at h
  rw [Array.toList_inj] at h
  rw [h]
theorem bs_eq (a b : ByteArray) : (bs a == bs b) = decide (a = b) := by
  by_cases h : a = b
  · subst h; simp
  · rw [decide_eq_false h, beq_eq_false_iff_ne]
    exact fun e => h (bs_inj e)
theorem bs_len (a : ByteArray) : (bs a).length = a.size := Array.length_toList
def lt (a b : ByteArray) : Bool := bytesBefore (bs a) (bs b)
theorem lt_irr (a : ByteArray) : lt a a = false := WideAt.bytes_irrefl _
theorem lt_tr {a b c : ByteArray} (h1 : lt a b = true) (h2 : lt b c = true) : lt a c = true := WideShapes.bytes_trans _ _ _ h1 h2
theorem lt_tot (a b : ByteArray) (h : a ≠ b) : lt a b = true ∨ lt b a = true := WideAt.bytes_total _ _ (fun e => h (bs_inj e))
theorem lt_ne {a b : ByteArray} (h : lt a b = true) : a ≠ b := by rintro rfl; rw [lt_irr] at h; cases h
theorem lt_asym {a b : ByteArray} (h : lt a b = true) : lt b a = false := by
  cases h2 : lt b a with
  | false => rfl
  | true => have := lt_tr h h2; rw [lt_irr] at this; cases this
theorem lt_iff (a b : ByteArray) : lt a b = decide (bs a < bs b) := by
  unfold lt
  generalize bs a = x
  generalize bs b = y
  induction x generalizing y with
  | nil => cases y <;> simp [bytesBefore]
  | cons u x ih =>
    cases y with
    | nil => simp [bytesBefore]
    | cons v y =>
      simp only [bytesBefore, ih y]
      by_cases h1 : u < v
      · simp [h1, List.cons_lt_cons_iff]
      · by_cases h2 : u = v
        · subst h2; simp [List.cons_lt_cons_iff]
        · simp [h1, h2, List.cons_lt_cons_iff]

-- records, rising by their keys
def ins (x : Rec) : List Rec → List Rec
  | [] => [x]
  | y :: r => if lt x.1 y.1 then x :: y :: r else y :: ins x r
def del (k : ByteArray) (r : List Rec) : List Rec := r.filter fun p => !decide (p.1 = k)
def put (k d : ByteArray) (r : List Rec) : List Rec := ins (k, d) (del k r)
def rget (k : ByteArray) (r : List Rec) : Option ByteArray := (r.find? fun p => decide (p.1 = k)).map (·.2)
def Srt (r : List Rec) : Prop := r.Pairwise fun p q => lt p.1 q.1 = true
def cnt (p : Rec) : Nat := p.1.size + p.2.size + 16
def tot : List Rec → Nat
  | [] => 0
  | p :: r => cnt p + tot r
def at0 (k : ByteArray) (r : List Rec) : Nat := match rget k r with | some d => cnt (k, d) | none => 0
theorem mem_ins {x y : Rec} {r : List Rec} : y ∈ ins x r ↔ y = x ∨ y ∈ r := by
  induction r with
  | nil => simp [ins]
  | cons z r ih =>
    unfold ins
    split
    · simp
    · simp only [List.mem_cons, ih]
      constructor
      · rintro (h | h | h)
        · exact .inr (.inl h)
        · exact .inl h
        · exact .inr (.inr h)
      · rintro (h | h | h)
        · exact .inr (.inl h)
        · exact .inl h
        · exact .inr (.inr h)
theorem mem_del {k : ByteArray} {y : Rec} {r : List Rec} : y ∈ del k r ↔ y ∈ r ∧ y.1 ≠ k := by simp [del]
theorem mem_put {k d : ByteArray} {y : Rec} {r : List Rec} : y ∈ put k d r ↔ y = (k, d) ∨ (y ∈ r ∧ y.1 ≠ k) := by rw [put, mem_ins, mem_del]
theorem srt_del {k : ByteArray} {r : List Rec} (h : Srt r) : Srt (del k r) := List.Pairwise.filter _ h
theorem srt_ins {x : Rec} {r : List Rec} (h : Srt r) (hn : ∀ y ∈ r, y.1 ≠ x.1) : Srt (ins x r) := by
  induction r with
  | nil => simp [ins, Srt]
  | cons y r ih =>
    obtain ⟨h1, h2⟩ := List.pairwise_cons.1 h
    unfold ins
    split
    · rename_i hl
      refine List.pairwise_cons.2 ⟨fun z hz => ?_, h⟩
      rcases List.mem_cons.1 hz with rfl | hz
      · exact hl
      · exact lt_tr hl (h1 z hz)
    · rename_i hl
      refine List.pairwise_cons.2 ⟨fun z hz => ?_, ih h2 (fun z hz => hn z (by simp [hz]))⟩
      rcases mem_ins.1 hz with rfl | hz
      · rcases lt_tot y.1 z.1 (hn y (by simp)) with h3 | h3
        · exact h3
        · exact absurd h3 (by simpa using hl)
      · exact h1 z hz
theorem srt_put {k d : ByteArray} {r : List Rec} (h : Srt r) : Srt (put k d r) := srt_ins (srt_del h) (fun y hy => (mem_del.1 hy).2)
theorem get_some {k d : ByteArray} {r : List Rec} (h : Srt r) : rget k r = some d ↔ (k, d) ∈ r := by
  induction r with
  | nil => simp [rget]
  | cons y r ih =>
    obtain ⟨h1, h2⟩ := List.pairwise_cons.1 h
    have ih := ih h2
    unfold rget at ih ⊢
    rw [List.find?_cons]
    by_cases e : y.1 = k
    · rw [decide_eq_true e]
      simp only [Option.map_some, Option.some.injEq, List.mem_cons]
      constructor
      · rintro rfl; left; rw [← e]
      · rintro (h3 | h3)
        · rw [← h3]
        · exact absurd e (by have := lt_ne (h1 _ h3); exact this)
    · rw [decide_eq_false e]
      simp only [List.mem_cons]
      rw [ih]
      constructor
      · exact .inr
      · rintro (h3 | h3)
        · exact absurd (by rw [← h3]) e
        · exact h3
theorem get_none {k : ByteArray} {r : List Rec} : rget k r = none ↔ ∀ y ∈ r, y.1 ≠ k := by simp [rget]
theorem get_put_same {k d : ByteArray} {r : List Rec} (h : Srt r) : rget k (put k d r) = some d := (get_some (srt_put h)).2 (mem_put.2 (.inl rfl))
theorem get_put_other {k d k' : ByteArray} {r : List Rec} (h : Srt r) (hn : k' ≠ k) : rget k' (put k d r) = rget k' r := by
  cases h1 : rget k' r with
  | none =>
    refine get_none.2 fun y hy => ?_
    rcases mem_put.1 hy with rfl | ⟨h2, _⟩
    · exact hn.symm
    · exact get_none.1 h1 y h2
  | some x => exact (get_some (srt_put h)).2 (mem_put.2 (.inr ⟨(get_some h).1 h1, hn⟩))
theorem get_del_same {k : ByteArray} {r : List Rec} : rget k (del k r) = none := get_none.2 fun y hy => (mem_del.1 hy).2
theorem get_del_other {k k' : ByteArray} {r : List Rec} (h : Srt r) (hn : k' ≠ k) : rget k' (del k r) = rget k' r := by
  cases h1 : rget k' r with
  | none => exact get_none.2 fun y hy => get_none.1 h1 y (mem_del.1 hy).1
  | some x => exact (get_some (srt_del h)).2 (mem_del.2 ⟨(get_some h).1 h1, hn⟩)
-- two lists with the same answers are one
theorem ext_get {a b : List Rec} (ha : Srt a) (hb : Srt b) (h : ∀ k, rget k a = rget k b) : a = b := by
  have hm : ∀ x, x ∈ a ↔ x ∈ b := fun x => by
    rw [← show (x.1, x.2) = x from rfl, ← get_some ha, ← get_some hb, h]
  have na : a.Nodup := List.Pairwise.imp (fun {p q} h e => by subst e; rw [lt_irr] at h; cases h) ha
  have nb : b.Nodup := List.Pairwise.imp (fun {p q} h e => by subst e; rw [lt_irr] at h; cases h) hb
  refine List.Perm.eq_of_pairwise (le := fun (p q : Rec) => lt p.1 q.1 = true) (fun p q _ _ h1 h2 => ?_) ha hb ((List.perm_ext_iff_of_nodup na nb).2 hm)
  have := lt_tr h1 h2
  rw [lt_irr] at this
  cases this
theorem tot_ins (x : Rec) (r : List Rec) : tot (ins x r) = cnt x + tot r := by
  induction r with
  | nil => simp [ins, tot]
  | cons y r ih =>
    unfold ins
    split
    · simp [tot]
    · simp [tot, ih]; omega
theorem del_none {k : ByteArray} {r : List Rec} (h : rget k r = none) : del k r = r := by
  unfold del
  rw [List.filter_eq_self]
  intro y hy
  simpa using get_none.1 h y hy
theorem tot_del (k : ByteArray) (r : List Rec) (h : Srt r) : tot r = tot (del k r) + at0 k r := by
  induction r with
  | nil => rfl
  | cons y r ih =>
    obtain ⟨h1, h2⟩ := List.pairwise_cons.1 h
    by_cases e : y.1 = k
    · have hn : rget k r = none := get_none.2 fun z hz => by
        rw [← e]; exact (lt_ne (h1 z hz)).symm
      have hd : del k (y :: r) = r := by
        have h3 := del_none hn
        unfold del at h3 ⊢
        rw [List.filter_cons, decide_eq_true e]
        exact h3
      have hg : rget k (y :: r) = some y.2 := (get_some h).2 (by rw [← e]; exact List.mem_cons_self)
      rw [hd]
      unfold at0
      rw [hg]
      simp only [tot]
      rw [← e]
      show cnt y + _ = _ + cnt y
      omega
    · have hd : del k (y :: r) = y :: del k r := by
        unfold del; rw [List.filter_cons, decide_eq_false e]; rfl
      have hg : rget k (y :: r) = rget k r := by
        unfold rget; rw [List.find?_cons, decide_eq_false e]
      rw [hd]
      unfold at0
      rw [hg]
      simp only [tot]
      have := ih h2
      unfold at0 at this
      omega
theorem tot_put (k d : ByteArray) (r : List Rec) (h : Srt r) : tot (put k d r) + at0 k r = tot r + cnt (k, d) := by
  rw [put, tot_ins, tot_del k r h]; omega
theorem len_del (k : ByteArray) (r : List Rec) : (del k r).length ≤ r.length := List.length_filter_le _ _
theorem len_ins (x : Rec) (r : List Rec) : (ins x r).length = r.length + 1 := by
  induction r with
  | nil => rfl
  | cons y r ih => unfold ins; split <;> simp [ih]
theorem len_put (k d : ByteArray) (r : List Rec) : (put k d r).length ≤ r.length + 1 := by
  rw [put, len_ins]; have := len_del k r; omega

-- as a map's datum
def ent (p : Rec) : Lit × DataW Unit := (.string (bs p.1), .lit (.string (bs p.2)))
def dat (r : List Rec) : DataW Unit := .map (r.map ent)
theorem same_key (p : Rec) (k : ByteArray) : (ent p).1.sameKey (.string (bs k)) = decide (p.1 = k) := by
  show (bs p.1 == bs k) = _
  exact bs_eq _ _
theorem dat_del (k : ByteArray) (r : List Rec) : (dat r).del (.string (bs k)) = dat (del k r) := by
  unfold dat DataW.del del
  simp only [List.filter_map, DataW.map.injEq]
  congr 1
  apply List.filter_congr
  intro x _
  simp only [Function.comp_def]
  rw [same_key]
theorem dat_ins (x : Rec) (r : List Rec) : DataW.insert (ent x) (r.map ent) = (ins x r).map ent := by
  induction r with
  | nil => rfl
  | cons y r ih =>
    simp only [List.map_cons]
    unfold DataW.insert ins
    have : (ent x).1.before (ent y).1 = lt x.1 y.1 := rfl
    rw [this]
    split
    · rfl
    · simp [ih]
theorem dat_put (k d : ByteArray) (r : List Rec) : (dat r).put (.string (bs k)) (.lit (.string (bs d))) = dat (put k d r) := by
  have h := dat_del k r
  unfold dat DataW.del at h
  simp only [DataW.map.injEq] at h
  unfold dat DataW.put put
  rw [← dat_ins]
  simp only [DataW.map.injEq]
  rw [h]
  rfl
theorem dat_has (k : ByteArray) (r : List Rec) : Maps.has (dat r) (.string (bs k)) = (rget k r).isSome := by
  unfold dat rget
  rw [Maps.has_eq, Option.isSome_map]
  induction r with
  | nil => rfl
  | cons y r ih =>
    rw [List.map_cons, List.any_cons, same_key, ih, List.find?_cons]
    by_cases e : y.1 = k
    · simp [decide_eq_true e]
    · simp [decide_eq_false e]
theorem dat_at (k : ByteArray) (r : List Rec) (z : DataW Unit) : (dat r).atKey (.string (bs k)) z = match rget k r with | some d => .lit (.string (bs d)) | none => z := by
  unfold dat rget DataW.atKey
  simp only
  induction r with
  | nil => rfl
  | cons y r ih =>
    rw [List.map_cons, List.find?_cons, same_key, List.find?_cons]
    by_cases e : y.1 = k
    · simp [decide_eq_true e, ent]
    · simp only [decide_eq_false e]
      exact ih
theorem dat_size (r : List Rec) : Maps.size (dat r) = r.length := by simp [dat, Maps.size]
theorem dat_keys (r : List Rec) : strKeys (dat r) = r.map fun p => bs p.1 := by
  simp [dat, strKeys, ent, strOf, Function.comp_def]
end Go.Proofs.YtlkkibiedlakfaaGreat.ya
