import Derived.Test.YtnnpidjpklfogaaDoorNa
import Derived.Test.YtnnpidjpklfogaaDoorGb
import Derived.Test.YtnnpidjpklfogaaDoorCs
namespace Go.Proofs.YtnnpidjpklfogaaDoor.nb
open Go.RowKit Go.PlainAid
open Go.Proofs.YtnnpidjpklfogaaDoor.pl Go.Proofs.YtnnpidjpklfogaaDoor.pi Go.Proofs.YtnnpidjpklfogaaDoor.pj Go.Proofs.YtnnpidjpklfogaaDoor.rf Go.Proofs.YtnnpidjpklfogaaDoor.ca Go.Proofs.YtnnpidjpklfogaaDoor.cb Go.Proofs.YtnnpidjpklfogaaDoor.cp Go.Proofs.YtnnpidjpklfogaaDoor.cs Go.Proofs.YtnnpidjpklfogaaDoor.ka Go.Proofs.YtnnpidjpklfogaaDoor.kb Go.Proofs.YtnnpidjpklfogaaDoor.ga Go.Proofs.YtnnpidjpklfogaaDoor.gb Go.Proofs.YtnnpidjpklfogaaDoor.na
set_option linter.unusedVariables false

theorem wid_in (wd : Int) : 1 ≤ wid wd ∧ wid wd ≤ 32 := by unfold wid; split <;> omega
-- what Check answers; a frontier as nodes; Push; Merge; Root
def GoodF (wd lo hi : Int) (hs : List ByteArray) : Prop := okR lo hi ∧ (covI lo hi).length = hs.length ∧ ∀ h ∈ hs, h.size = wid wd
noncomputable def chkE (wd lo hi : Int) (hs : List ByteArray) : Int := if okR lo hi then (if (covI lo hi).length = hs.length then (if ∀ h ∈ hs, h.size = wid wd then 0 else 72) else 71) else 10
theorem chk_ok {wd lo hi : Int} {hs : List ByteArray} : chkE wd lo hi hs = 0 ↔ GoodF wd lo hi hs := by
  unfold chkE GoodF
  by_cases h1 : okR lo hi
  · by_cases h2 : (covI lo hi).length = hs.length
    · by_cases h3 : ∀ h ∈ hs, h.size = wid wd
      · rw [if_pos h1, if_pos h2, if_pos h3]; exact ⟨fun _ => ⟨h1, h2, h3⟩, fun _ => rfl⟩
      · rw [if_pos h1, if_pos h2, if_neg h3]
        exact ⟨fun h => by omega, fun h => absurd h.2.2 h3⟩
    · rw [if_pos h1, if_neg h2]
      exact ⟨fun h => by omega, fun h => absurd h.2.1 h2⟩
  · rw [if_neg h1]
    exact ⟨fun h => by omega, fun h => absurd h.1 h1⟩
def opened (lo hi : Int) (hs : List ByteArray) : List (Nd ByteArray) := (covI lo hi).zip hs
noncomputable def pushE (wd lo hi : Int) (hs : List ByteArray) (h : ByteArray) : Int := if chkE wd lo hi hs = 0 then (if h.size = wid wd then (if hi = 4611686018427387904 then 10 else 0) else 72) else chkE wd lo hi hs
def pushR (wd lo hi : Int) (hs : List ByteArray) (h : ByteArray) : List (Nd ByteArray) × List (Nd ByteArray) := joinR (NF wd) (opened lo hi hs).reverse ((0, hi.toNat), h)
def labs (r : List (Nd ByteArray)) : List ByteArray := r.reverse.map Prod.snd
noncomputable def mergeE (wd lo hi : Int) (hs : List ByteArray) (lo' hi' : Int) (hs' : List ByteArray) : Int := if chkE wd lo hi hs = 0 then (if chkE wd lo' hi' hs' = 0 then (if hi = lo' then 0 else 70) else chkE wd lo' hi' hs') else chkE wd lo hi hs
def mergeR (wd lo hi : Int) (hs : List ByteArray) (lo' hi' : Int) (hs' : List ByteArray) : List (Nd ByteArray) × List (Nd ByteArray) := runR (NF wd) (opened lo hi hs).reverse (opened lo' hi' hs')
noncomputable def rootE (wd lo hi : Int) (hs : List ByteArray) : Int := if chkE wd lo hi hs = 0 then (if lo = 0 then 0 else 10) else chkE wd lo hi hs
theorem opened_fst {wd lo hi : Int} {hs : List ByteArray} (h : GoodF wd lo hi hs) : (opened lo hi hs).map Prod.fst = covI lo hi := by
  unfold opened
  exact List.map_fst_zip (by have := h.2.1; omega)
theorem opened_snd {wd lo hi : Int} {hs : List ByteArray} (h : GoodF wd lo hi hs) : (opened lo hi hs).map Prod.snd = hs := by
  unfold opened
  exact List.map_snd_zip (by have := h.2.1; omega)
theorem opened_len {wd lo hi : Int} {hs : List ByteArray} (h : GoodF wd lo hi hs) : (opened lo hi hs).length = hs.length := by
  unfold opened
  rw [List.length_zip, h.2.1, Nat.min_self]
theorem covI_nat {lo hi : Nat} (h1 : lo ≤ hi) (h2 : hi ≤ 4611686018427387904) : covI lo hi = cov lo hi := by
  unfold covI
  rw [if_pos ⟨by omega, by omega, by omega⟩]
  simp
theorem good_form {wd lo hi : Int} {hs : List ByteArray} (h : GoodF wd lo hi hs) : ∃ a b : Nat, lo = a ∧ hi = b ∧ a ≤ b ∧ b ≤ 4611686018427387904 ∧ hs.length ≤ 122 := by
  obtain ⟨⟨h1, h2, h3⟩, h4, _⟩ := h
  refine ⟨lo.toNat, hi.toNat, by omega, by omega, by omega, by omega, ?_⟩
  rw [← h4]
  exact covI_len lo hi
-- every hash of what Push and Merge make has the width
def Wide (wd : Int) (ns : List (Nd ByteArray)) : Prop := ∀ n ∈ ns, n.2.size = wid wd
theorem wide_join {wd : Int} (rs : List (Nd ByteArray)) : ∀ x, Wide wd rs → x.2.size = wid wd → Wide wd (joinR (NF wd) rs x).1 ∧ Wide wd (joinR (NF wd) rs x).2 := by
  induction rs with
  | nil =>
    intro x _ hx
    refine ⟨fun n hn => ?_, fun n hn => ?_⟩
    · simp [joinR] at hn; subst hn; exact hx
    · simp [joinR] at hn
  | cons a rs ih =>
    intro x hr hx
    by_cases hh : halves a.1 x.1
    · rw [joinR_yes _ rs hh]
      have hu : (upN (NF wd) a x).2.size = wid wd := cutS_size _ _
      obtain ⟨g1, g2⟩ := ih (upN (NF wd) a x) (fun n hn => hr n (by simp [hn])) hu
      refine ⟨g1, fun n hn => ?_⟩
      rcases List.mem_cons.1 hn with rfl | hn
      · exact hu
      · exact g2 n hn
    · rw [joinR_no _ rs hh]
      refine ⟨fun n hn => ?_, fun n hn => by simp at hn⟩
      rcases List.mem_cons.1 hn with rfl | hn
      · exact hx
      · exact hr n hn
theorem wide_run {wd : Int} (xs : List (Nd ByteArray)) : ∀ rs, Wide wd rs → Wide wd xs → Wide wd (runR (NF wd) rs xs).1 ∧ Wide wd (runR (NF wd) rs xs).2 := by
  induction xs with
  | nil => intro rs h _; exact ⟨h, fun n hn => by simp [runR] at hn⟩
  | cons x xs ih =>
    intro rs h hx
    obtain ⟨g1, g2⟩ := wide_join rs x h (hx x (by simp))
    obtain ⟨g3, g4⟩ := ih _ g1 (fun n hn => hx n (by simp [hn]))
    refine ⟨g3, fun n hn => ?_⟩
    rcases List.mem_append.1 hn with hn | hn
    · exact g2 n hn
    · exact g4 n hn
theorem wide_open {wd lo hi : Int} {hs : List ByteArray} (h : GoodF wd lo hi hs) : Wide wd (opened lo hi hs) := by
  intro n hn
  have : n.2 ∈ hs := by
    have h1 := opened_snd h
    rw [← h1]
    exact List.mem_map_of_mem hn
  exact h.2.2 _ this
theorem wide_rev {wd : Int} {ns : List (Nd ByteArray)} (h : Wide wd ns) : Wide wd ns.reverse := fun n hn => h n (List.mem_reverse.1 hn)
-- behind a Push, a Merge, the frontier is a good one
theorem push_good {wd lo hi : Int} {hs : List ByteArray} {h : ByteArray} (g : GoodF wd lo hi hs) (hh : h.size = wid wd) (hb : hi ≠ 4611686018427387904) : GoodF wd lo (hi + 1) (labs (pushR wd lo hi hs h).1) := by
  have hf := opened_fst g
  have hw := wide_join (wd := wd) (opened lo hi hs).reverse ((0, hi.toNat), h) (wide_rev (wide_open g)) hh
  obtain ⟨a, b, rfl, rfl, h1, h2, h3⟩ := good_form g
  rw [covI_nat h1 h2] at hf
  have hj := join_cov (NF wd) (p := b) (k := 0) (by omega) (Nat.one_dvd _) (by simp; omega) ((0, (b : Int).toNat), h) (by simp) a h1 _ hf
  have hi1 : ((b : Int) + 1) = ((b + 1 : Nat) : Int) := by omega
  refine ⟨⟨by omega, by omega, by omega⟩, ?_, ?_⟩
  · rw [hi1, covI_nat (by omega) (by omega)]
    rw [Nat.pow_zero] at hj
    rw [← hj]
    simp [labs, pushR]
  · intro y hy
    unfold labs at hy
    obtain ⟨n, hn, rfl⟩ := List.mem_map.1 hy
    exact hw.1 n (List.mem_reverse.1 hn)
theorem merge_good {wd lo hi lo' hi' : Int} {hs hs' : List ByteArray} (g : GoodF wd lo hi hs) (g' : GoodF wd lo' hi' hs') (he : hi = lo') : GoodF wd lo hi' (labs (mergeR wd lo hi hs lo' hi' hs').1) := by
  have hf := opened_fst g
  have hf' := opened_fst g'
  have hw := wide_run (wd := wd) (opened lo' hi' hs') (opened lo hi hs).reverse (wide_rev (wide_open g)) (wide_open g')
  subst he
  obtain ⟨a, b, rfl, rfl, h1, h2, h3⟩ := good_form g
  obtain ⟨b', c, e1, rfl, h4, h5, h6⟩ := good_form g'
  obtain rfl : b' = b := by omega
  rw [covI_nat h1 h2] at hf
  rw [covI_nat h4 h5] at hf'
  have hj := run_cov (NF wd) (hi := c) (by rw [p62]; omega) a b' h1 h4 _ _ hf hf'
  refine ⟨⟨by omega, by omega, by omega⟩, ?_, ?_⟩
  · rw [covI_nat (by omega) (by omega), ← hj]
    simp [labs, mergeR]
  · intro y hy
    unfold labs at hy
    obtain ⟨n, hn, rfl⟩ := List.mem_map.1 hy
    exact hw.1 n (List.mem_reverse.1 hn)
end Go.Proofs.YtnnpidjpklfogaaDoor.nb
