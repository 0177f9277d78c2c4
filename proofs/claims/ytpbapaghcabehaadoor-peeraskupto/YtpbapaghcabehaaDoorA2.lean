import Derived.Test.YtpbapaghcabehaaDoorA1
namespace Go.Proofs.YtpbapaghcabehaaDoor.a2
open Go.RowKit Go.PlainAid
open Go.Proofs.YtpbapaghcabehaaDoor.ta Go.Proofs.YtpbapaghcabehaaDoor.tb Go.Proofs.YtpbapaghcabehaaDoor.tc Go.Proofs.YtpbapaghcabehaaDoor.tj Go.Proofs.YtpbapaghcabehaaDoor.tk Go.Proofs.YtpbapaghcabehaaDoor.va Go.Proofs.YtpbapaghcabehaaDoor.wa Go.Proofs.YtpbapaghcabehaaDoor.wb Go.Proofs.YtpbapaghcabehaaDoor.a1
set_option linter.unusedVariables false

-- a request, and its text
structure Rq where
  old : Int
  proof : List ByteArray
  note : ByteArray
def badH (h : ByteArray) : Bool := decide (h.size < 1 ∨ 32 < h.size)
def rqE (old : Int) (pf : List ByteArray) : Int := if old < 0 ∨ 4611686018427387904 < old then 10 else if 63 < pf.length then 83 else if pf.any badH = true then 72 else 0
def b64S (h : ByteArray) : ByteArray := str (b64L (bs h))
def hdB (old : Int) : ByteArray := oldB ++ decS old
def rqX (old : Int) (pf : List ByteArray) (note : ByteArray) : ByteArray := hdB old ++ nlB ++ flN (pf.map b64S) ++ (nlB ++ note)
def rqT (old : Int) (pf : List ByteArray) (note : ByteArray) : ByteArray := if rqE old pf = 0 then rqX old pf note else ByteArray.empty
theorem rqT_no {old : Int} {pf : List ByteArray} {note : ByteArray} (h : rqE old pf ≠ 0) : rqT old pf note = ByteArray.empty := if_neg h
theorem rqT_yes {old : Int} {pf : List ByteArray} {note : ByteArray} (h : rqE old pf = 0) : rqT old pf note = rqX old pf note := if_pos h
theorem rqE_yes {old : Int} {pf : List ByteArray} (h : rqE old pf = 0) : 0 ≤ old ∧ old ≤ 4611686018427387904 ∧ pf.length ≤ 63 ∧ pf.any badH = false := by
  unfold rqE at h
  by_cases h1 : old < 0 ∨ 4611686018427387904 < old
  · rw [if_pos h1] at h; omega
  rw [if_neg h1] at h
  by_cases h2 : 63 < pf.length
  · rw [if_pos h2] at h; omega
  rw [if_neg h2] at h
  by_cases h3 : pf.any badH = true
  · rw [if_pos h3] at h; omega
  exact ⟨by omega, by omega, by omega, by simpa using h3⟩
theorem bad_no {h : ByteArray} (e : badH h = false) : 1 ≤ h.size ∧ h.size ≤ 32 := by
  unfold badH at e
  have := of_decide_eq_false e
  omega
theorem any_bad {pf : List ByteArray} (e : pf.any badH = false) : ∀ h ∈ pf, 1 ≤ h.size ∧ h.size ≤ 32 := fun h hh => bad_no (by simpa using List.any_eq_false.1 e h hh)
theorem b64S_size (h : ByteArray) : (b64S h).size = 4 * ((h.size + 2) / 3) := by
  unfold b64S
  rw [str_size, b64L_length, bs_length]
  omega
theorem fl_size (l : List ByteArray) : (flN l).size = (l.map ByteArray.size).sum + l.length := by
  induction l with
  | nil => rfl
  | cons x l ih => rw [flN, ByteArray.size_append, ByteArray.size_append, ih, nl_size]; simp; omega
theorem sum_le (l : List ByteArray) (m : Nat) (h : ∀ x ∈ l, x.size ≤ m) : (l.map ByteArray.size).sum ≤ l.length * m := by
  induction l with
  | nil => simp
  | cons x l ih =>
    have h1 := h x (by simp)
    have h2 := ih (fun y hy => h y (by simp [hy]))
    simp only [List.map_cons, List.sum_cons, List.length_cons]
    rw [Nat.add_mul]
    omega
theorem body_size (pf : List ByteArray) (hb : pf.any badH = false) (hl : pf.length ≤ 63) : (flN (pf.map b64S)).size ≤ 2900 := by
  have h1 := sum_le (pf.map b64S) 44 (fun x hx => by
    obtain ⟨h, hh, rfl⟩ := List.mem_map.1 hx
    have := any_bad hb h hh
    rw [b64S_size]; omega)
  rw [List.length_map] at h1
  rw [fl_size, List.length_map]
  omega
theorem hd_size (old : Int) (h : I64 old) : (hdB old).size ≤ 24 := by
  have := dec_size old h
  unfold hdB
  rw [ByteArray.size_append]
  show 4 + _ ≤ _
  omega
theorem rqX_size (old : Int) (pf : List ByteArray) (note : ByteArray) (hI : I64 old) (hb : pf.any badH = false) (hl : pf.length ≤ 63) : (rqX old pf note).size ≤ note.size + 3000 := by
  have h1 := body_size pf hb hl
  have h2 := hd_size old hI
  unfold rqX
  simp only [ByteArray.size_append, nl_size]
  omega
-- what a request's text seems to say
open Classical in
noncomputable def frN (l : List ByteArray) (note : ByteArray) : Option Rq := match l with
  | x :: ls => if (∃ n, I64 n ∧ decS n = x) ∧ ∀ y ∈ ls, Acc64 (bs y) then some ⟨unN x, ls.map (fun y => str (cutL (bs y))), note⟩ else none
  | [] => none
def hasOld (h : ByteArray) : Bool := Lib.hasPrefix h.data.toList oldB.data.toList
def dropOld (h : ByteArray) : ByteArray := ⟨(Lib.trimPrefix h.data.toList oldB.data.toList).toArray⟩
noncomputable def frP (b : ByteArray) : Option Rq := if cutF b dbB = true ∧ hasOld (cutA b dbB) = true then frN (pcB (dropOld (cutA b dbB))) (cutB b dbB) else none
open Classical in
noncomputable def asP (b : ByteArray) : Option Rq := match frP b with
  | some r => if rqE r.old r.proof = 0 ∧ rqT r.old r.proof r.note = b then some r else none
  | none => none
theorem frN_yes (x : ByteArray) (ls : List ByteArray) (note : ByteArray) (h1 : ∃ n, I64 n ∧ decS n = x) (h2 : ∀ y ∈ ls, Acc64 (bs y)) : frN (x :: ls) note = some ⟨unN x, ls.map (fun y => str (cutL (bs y))), note⟩ := if_pos ⟨h1, h2⟩
theorem frN_no (x : ByteArray) (ls : List ByteArray) (note : ByteArray) (h : ¬ ((∃ n, I64 n ∧ decS n = x) ∧ ∀ y ∈ ls, Acc64 (bs y))) : frN (x :: ls) note = none := if_neg h
theorem frP_yes (b : ByteArray) (h1 : cutF b dbB = true) (h2 : hasOld (cutA b dbB) = true) : frP b = frN (pcB (dropOld (cutA b dbB))) (cutB b dbB) := if_pos ⟨h1, h2⟩
theorem frP_no (b : ByteArray) (h : ¬ (cutF b dbB = true ∧ hasOld (cutA b dbB) = true)) : frP b = none := if_neg h
theorem as_some (b : ByteArray) (r : Rq) (h : frP b = some r) (h1 : rqE r.old r.proof = 0) (h2 : rqT r.old r.proof r.note = b) : asP b = some r := by
  unfold asP
  rw [h]
  exact if_pos ⟨h1, h2⟩
theorem as_no (b : ByteArray) (r : Rq) (h : frP b = some r) (h1 : ¬ (rqE r.old r.proof = 0 ∧ rqT r.old r.proof r.note = b)) : asP b = none := by
  unfold asP
  rw [h]
  exact if_neg h1
theorem as_none (b : ByteArray) (h : frP b = none) : asP b = none := by
  unfold asP
  rw [h]
theorem as_form (b : ByteArray) (r : Rq) (h : asP b = some r) : frP b = some r ∧ rqE r.old r.proof = 0 ∧ rqT r.old r.proof r.note = b := by
  cases e : frP b with
  | none => rw [as_none b e] at h; cases h
  | some q =>
    by_cases hc : rqE q.old q.proof = 0 ∧ rqT q.old q.proof q.note = b
    · rw [as_some b q e hc.1 hc.2] at h
      obtain rfl := Option.some.inj h
      exact ⟨rfl, hc.1, hc.2⟩
    · rw [as_no b q e hc] at h; cases h
theorem fr_old (b : ByteArray) (r : Rq) (h : frP b = some r) : I64 r.old := by
  unfold frP at h
  split at h
  · cases e : pcB (dropOld (cutA b dbB)) with
    | nil => rw [e] at h; cases h
    | cons x ls =>
      rw [e] at h
      by_cases hc : (∃ n, I64 n ∧ decS n = x) ∧ ∀ y ∈ ls, Acc64 (bs y)
      · rw [frN_yes x ls _ hc.1 hc.2] at h
        obtain rfl := Option.some.inj h
        exact unN_in x
      · rw [frN_no x ls _ hc] at h; cases h
  · cases h
-- what is written is read
theorem has_old (z : ByteArray) : hasOld (oldB ++ z) = true ∧ dropOld (oldB ++ z) = z := by
  have e : (oldB ++ z).data.toList = oldB.data.toList ++ z.data.toList := by simp only [ByteArray.data_append, Array.toList_append]
  have h : Lib.hasPrefix (oldB.data.toList ++ z.data.toList) oldB.data.toList = true := by
    unfold Lib.hasPrefix
    rw [List.isPrefixOf_iff_prefix]
    exact List.prefix_append _ _
  unfold hasOld dropOld Lib.trimPrefix
  rw [e, h]
  refine ⟨rfl, ?_⟩
  rw [if_pos rfl, List.drop_left']
  rfl
theorem old_in : ∀ x ∈ bs oldB, x ≠ 10 := by decide +kernel
theorem dec_no10 (n : Int) : no10 (decS n) := no10_in (fun x hx e => by
  rw [bs_dec] at hx
  unfold decI at hx
  split at hx
  · rcases List.mem_cons.1 hx with h | h
    · omega
    · have := dg_in _ x h; omega
  · have := dg_in _ x hx; omega)
theorem hd_no10 (n : Int) : no10 (hdB n) := no10_in (fun x hx e => by
  unfold hdB at hx
  rw [bs_two] at hx
  rcases List.mem_append.1 hx with h | h
  · exact old_in x h e
  · exact in_no10 (dec_no10 n) x h e)
theorem hd_ne (n : Int) : hdB n ≠ ByteArray.empty := by
  intro h
  have := congrArg ByteArray.size h
  unfold hdB at this
  rw [ByteArray.size_append] at this
  have h4 : oldB.size = 4 := rfl
  have h0 : ByteArray.empty.size = 0 := rfl
  omega
theorem sg_no10 : ∀ v : Nat, v < 64 → sg A64 v ≠ 10 := by decide +kernel
theorem b64L_no10 (l : List Int) (h : In 256 l) : ∀ x ∈ b64L l, x ≠ 10 := by
  intro x hx
  unfold b64L at hx
  rcases List.mem_append.1 hx with hx | hx
  · obtain ⟨v, hv, rfl⟩ := List.mem_map.1 (List.mem_of_mem_take hx)
    obtain ⟨h0, h1⟩ := sixes_full l h v hv
    obtain ⟨k, rfl⟩ := Int.eq_ofNat_of_zero_le h0
    exact sg_no10 k (by omega)
  · rw [List.eq_of_mem_replicate hx]; decide
theorem b64_no10 (h : ByteArray) (hne : 1 ≤ h.size) : no10 (b64S h) ∧ b64S h ≠ ByteArray.empty := by
  constructor
  · refine no10_in fun x hx => ?_
    unfold b64S at hx
    rw [bs_str _ (b64L_in _ (bs_in h))] at hx
    exact b64L_no10 _ (bs_in h) x hx
  · intro e
    have h1 := congrArg ByteArray.size e
    rw [b64S_size] at h1
    have h0 : ByteArray.empty.size = 0 := rfl
    omega
theorem cut_b64 (x : ByteArray) : str (cutL (bs (b64S x))) = x := by
  unfold b64S
  rw [bs_str _ (b64L_in _ (bs_in x)), (b64_there (bs x) (bs_in x)).2, str_bs]
theorem map_back (pf : List ByteArray) : (pf.map b64S).map (fun y => str (cutL (bs y))) = pf := by
  induction pf with
  | nil => rfl
  | cons x l ih => simp only [List.map_cons, ih, cut_b64]
theorem as_back (old : Int) (pf : List ByteArray) (note : ByteArray) (hI : I64 old) (h : rqE old pf = 0) : asP (rqX old pf note) = some ⟨old, pf, note⟩ := by
  obtain ⟨_, _, _, hb⟩ := rqE_yes h
  have hall := any_bad hb
  have hm : ∀ l ∈ pf.map b64S, no10 l ∧ l ≠ ByteArray.empty := fun l hl => by
    obtain ⟨x, hx, rfl⟩ := List.mem_map.1 hl
    exact b64_no10 x (hall x hx).1
  have hcut : ∃ ls t, hdB old :: pf.map b64S = ls ++ [t] := by
    rcases List.eq_nil_or_concat (hdB old :: pf.map b64S) with h | ⟨ls, t, h⟩
    · cases h
    · exact ⟨ls, t, by rw [h]; simp⟩
  obtain ⟨ls, t, e⟩ := hcut
  have hlt : ∀ l ∈ ls ++ [t], no10 l ∧ l ≠ ByteArray.empty := by
    rw [← e]
    intro l hl
    rcases List.mem_cons.1 hl with rfl | hl
    · exact ⟨hd_no10 old, hd_ne old⟩
    · exact hm l hl
  have hX : rqX old pf note = flN ls ++ t ++ dbB ++ note := by
    have h1 : flN (hdB old :: pf.map b64S) = flN ls ++ t ++ nlB := by rw [e, flN_snoc]
    unfold rqX
    rw [flN] at h1
    rw [h1, dbl_nl]
    simp only [ByteArray.append_assoc]
  obtain ⟨c1, c2, c3⟩ := cut_empty ls t note (fun l hl => hlt l (by simp [hl])) (hlt t (by simp))
  rw [← hX] at c1 c2 c3
  have hpc : ∃ z, flN ls ++ t = oldB ++ z ∧ pcB z = decS old :: pf.map b64S := by
    cases ls with
    | nil =>
      rw [List.nil_append] at e
      injection e with e1 e2
      rw [e2]
      exact ⟨decS old, by rw [flN, ByteArray.empty_append, ← e1]; rfl, pc_one _ (dec_no10 old)⟩
    | cons l ls =>
      rw [List.cons_append] at e
      injection e with e1 e2
      subst e1
      refine ⟨decS old ++ nlB ++ (flN ls ++ t), ?_, ?_⟩
      · rw [flN]
        unfold hdB
        simp only [ByteArray.append_assoc]
      · rw [pc_nl _ _ (dec_no10 old), e2, pc_fl ls t (fun x hx => (hlt x (by simp [hx])).1) (hlt t (by simp)).1]
  obtain ⟨z, hz, hp⟩ := hpc
  obtain ⟨o1, o2⟩ := has_old z
  rw [← hz, ← c1] at o1 o2
  have hf := frP_yes (rqX old pf note) c3 o1
  rw [o2, hp, c2, frN_yes _ _ _ ⟨old, hI, rfl⟩ (fun y hy => by
    obtain ⟨x, hx, rfl⟩ := List.mem_map.1 hy
    unfold b64S
    rw [bs_str _ (b64L_in _ (bs_in x))]
    exact (b64_there (bs x) (bs_in x)).1), unN_dec old hI, map_back] at hf
  exact as_some _ _ hf h (rqT_yes h)
end Go.Proofs.YtpbapaghcabehaaDoor.a2
