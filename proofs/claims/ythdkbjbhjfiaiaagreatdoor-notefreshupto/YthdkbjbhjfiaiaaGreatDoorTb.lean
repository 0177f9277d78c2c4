import Derived.Test.YthdkbjbhjfiaiaaGreatDoorTa
namespace Go.Proofs.YthdkbjbhjfiaiaaGreatDoor.tb
open Go.Proofs.YthdkbjbhjfiaiaaGreatDoor.ta
set_option linter.unusedVariables false
set_option maxRecDepth 4000

-- alphabets
def A64 : List Int := [65, 66, 67, 68, 69, 70, 71, 72, 73, 74, 75, 76, 77, 78, 79, 80, 81, 82, 83, 84, 85, 86, 87, 88, 89, 90, 97, 98, 99, 100, 101, 102, 103, 104, 105, 106, 107, 108, 109, 110, 111, 112, 113, 114, 115, 116, 117, 118, 119, 120, 121, 122, 48, 49, 50, 51, 52, 53, 54, 55, 56, 57, 43, 47]
def A16 : List Int := [48, 49, 50, 51, 52, 53, 54, 55, 56, 57, 97, 98, 99, 100, 101, 102]
def AUP : List Int := [48, 49, 50, 51, 52, 53, 54, 55, 56, 57, 65, 66, 67, 68, 69, 70]

-- the values of all bytes, as far as k signs
def valK (al : List Int) (k : Nat) : List Int := (List.range k).foldl (fun t i => t.set (al.getD i 0).toNat ((i : Int) + 1)) (List.replicate 256 0)
def sg (al : List Int) (v : Int) : Int := al.getD v.toNat 0
def vl (al : List Int) (b : Int) : Int := (valK al al.length).getD b.toNat 0
theorem valK_succ (al : List Int) (k : Nat) : valK al (k + 1) = (valK al k).set (al.getD k 0).toNat ((k : Int) + 1) := by
  unfold valK; rw [List.range_succ, List.foldl_append]; rfl
theorem valK_length (al : List Int) (k : Nat) : (valK al k).length = 256 := by
  induction k with
  | zero => unfold valK; rw [List.range_zero, List.foldl_nil, List.length_replicate]
  | succ k ih => rw [valK_succ, List.length_set, ih]

structure Alpha (al : List Int) (m : Nat) : Prop where
  len : al.length = m
  most : m ≤ 64
  inn : In 256 al
  there : ∀ i, i < m → vl al (al.getD i 0) = (i : Int) + 1
  back : ∀ b : Nat, b < 256 → vl al b = 0 ∨ (1 ≤ vl al b ∧ vl al b ≤ m ∧ al.getD ((vl al b) - 1).toNat 0 = b)
theorem a64 : Alpha A64 64 := ⟨by decide +kernel, by omega, by unfold In; decide +kernel, by decide +kernel, by decide +kernel⟩
theorem a16 : Alpha A16 16 := ⟨by decide +kernel, by omega, by unfold In; decide +kernel, by decide +kernel, by decide +kernel⟩
theorem aup : Alpha AUP 16 := ⟨by decide +kernel, by omega, by unfold In; decide +kernel, by decide +kernel, by decide +kernel⟩

section
variable {al : List Int} {m : Nat}
theorem Alpha.sg_vl (h : Alpha al m) (b : Int) (hb : 0 ≤ b ∧ b < 256) (hv : vl al b ≠ 0) : sg al (vl al b - 1) = b ∧ 0 ≤ vl al b - 1 ∧ vl al b - 1 < m := by
  obtain ⟨n, rfl⟩ : ∃ n : Nat, b = (n : Int) := ⟨b.toNat, by omega⟩
  rcases h.back n (by omega) with h0 | ⟨h1, h2, h3⟩
  · exact absurd h0 hv
  · exact ⟨h3, by omega, by omega⟩
theorem Alpha.vl_sg (h : Alpha al m) (v : Int) (h0 : 0 ≤ v) (h1 : v < m) : vl al (sg al v) = v + 1 := by
  have := h.there v.toNat (by omega)
  unfold sg
  rw [this]
  omega
theorem Alpha.sg_in (h : Alpha al m) (v : Int) (h0 : 0 ≤ v) (h1 : v < m) : 0 ≤ sg al v ∧ sg al v < 256 := by
  refine h.inn _ ?_
  unfold sg
  rw [List.getD_eq_getElem?_getD, List.getElem?_eq_getElem (by rw [h.len]; omega), Option.getD_some]
  exact List.getElem_mem _
theorem Alpha.map_in (h : Alpha al m) (l : List Int) (hl : In m l) : In 256 (l.map (sg al)) := by
  intro x hx
  obtain ⟨y, hy, rfl⟩ := List.mem_map.1 hx
  exact h.sg_in y (hl y hy).1 (hl y hy).2
-- all are signs
def Ok (al : List Int) (l : List Int) : Prop := ∀ x ∈ l, vl al x ≠ 0
def vs (al : List Int) (l : List Int) : List Int := l.map fun x => vl al x - 1
theorem vs_length (al l : List Int) : (vs al l).length = l.length := by simp [vs]
theorem Alpha.ok_map (h : Alpha al m) (l : List Int) (hl : In m l) : Ok al (l.map (sg al)) := by
  intro x hx
  obtain ⟨y, hy, rfl⟩ := List.mem_map.1 hx
  have h1 := hl y hy
  rw [h.vl_sg y h1.1 h1.2]
  omega
theorem Alpha.vs_map (h : Alpha al m) (l : List Int) (hl : In m l) : vs al (l.map (sg al)) = l := by
  unfold vs
  rw [List.map_map]
  conv => rhs; rw [← List.map_id l]
  apply List.map_congr_left
  intro y hy
  have h1 := hl y hy
  simp only [Function.comp, id]
  rw [h.vl_sg y h1.1 h1.2]
  omega
theorem Alpha.vs_in (h : Alpha al m) (l : List Int) (hl : In 256 l) (ho : Ok al l) : In m (vs al l) := by
  intro x hx
  obtain ⟨y, hy, rfl⟩ := List.mem_map.1 hx
  exact (h.sg_vl y (hl y hy) (ho y hy)).2
theorem Alpha.map_vs (h : Alpha al m) (l : List Int) (hl : In 256 l) (ho : Ok al l) : (vs al l).map (sg al) = l := by
  unfold vs
  rw [List.map_map]
  conv => rhs; rw [← List.map_id l]
  apply List.map_congr_left
  intro y hy
  exact (h.sg_vl y (hl y hy) (ho y hy)).1
end

-- hexadecimal
def hexL (l : List Int) : List Int := (nibs l).map (sg A16)
def unhexL (l : List Int) : List Int := pairs (vs A16 l)
theorem hexL_in (l : List Int) (h : In 256 l) : In 256 (hexL l) := a16.map_in _ (nibs_in l h)
theorem hexL_length (l : List Int) : (hexL l).length = 2 * l.length := by simp [hexL, nibs_length]
theorem hexL_app (a b : List Int) : hexL (a ++ b) = hexL a ++ hexL b := by simp [hexL, nibs_app]
theorem hex_there (l : List Int) (h : In 256 l) : Ok A16 (hexL l) ∧ unhexL (hexL l) = l :=
  ⟨a16.ok_map _ (nibs_in l h), by unfold unhexL hexL; rw [a16.vs_map _ (nibs_in l h), pairs_nibs]⟩
theorem hex_back (l : List Int) (h : In 256 l) (h2 : l.length % 2 = 0) (ho : Ok A16 l) : hexL (unhexL l) = l ∧ In 256 (unhexL l) := by
  have hi : In 16 (vs A16 l) := a16.vs_in l h ho
  have hn : (vs A16 l).length = 2 * (l.length / 2) := by rw [vs_length]; omega
  exact ⟨by unfold hexL unhexL; rw [nibs_pairs _ _ hn hi, a16.map_vs l h ho], pairs_in _ _ hn hi⟩

-- base64
def spare (n : Nat) : Nat := (3 - n % 3) % 3
def b64L (l : List Int) : List Int := ((sixes (l ++ List.replicate (spare l.length) 0)).map (sg A64)).take ((sixes (l ++ List.replicate (spare l.length) 0)).length - spare l.length) ++ List.replicate (spare l.length) 61
theorem full_length (l : List Int) : ∃ n, (l ++ List.replicate (spare l.length) 0).length = 3 * n ∧ (sixes (l ++ List.replicate (spare l.length) 0)).length = 4 * n ∧ l.length + spare l.length = 3 * n := by
  have h : l.length + spare l.length = 3 * ((l.length + spare l.length) / 3) := by unfold spare; omega
  have h' : (l ++ List.replicate (spare l.length) 0).length = 3 * ((l.length + spare l.length) / 3) := by simpa using h
  exact ⟨_, h', sixes_length _ _ h', h⟩
theorem spare_le (n : Nat) : spare n ≤ 2 := by unfold spare; omega
-- the last signs of the full text are those of noughts
theorem sixes_last (m : Nat) : ∀ (l : List Int) (sp : Nat), sp ≤ 2 → l.length + sp = 3 * m → In 256 l → (sixes (l ++ List.replicate sp 0)).drop (4 * m - sp) = List.replicate sp 0 := by
  induction m with
  | zero => intro l sp h1 h2 _; have : sp = 0 := by omega
            subst this; have : l = [] := List.length_eq_zero_iff.1 (by omega)
            subst this; rfl
  | succ m ih =>
    intro l sp h1 h2 hi
    match l, h2, hi with
    | [], h2, _ => simp at h2; omega
    | [a], h2, _ =>
      have e : sp = 2 := by simp at h2; omega
      have e2 : m = 0 := by simp at h2; omega
      subst e e2
      rfl
    | [a, b], h2, _ =>
      have e : sp = 1 := by simp at h2; omega
      have e2 : m = 0 := by simp at h2; omega
      subst e e2
      rfl
    | a :: b :: c :: r, h2, hi =>
      simp at h2
      by_cases hz : m = 0 ∧ sp = 0
      · obtain ⟨rfl, rfl⟩ := hz
        have : r = [] := List.length_eq_zero_iff.1 (by omega)
        subst this
        rfl
      · have e : 4 * (m + 1) - sp = (4 * m - sp) + 4 := by omega
        rw [e]
        simp [sixes]
        exact ih r sp h1 (by omega) hi.tail.tail.tail
def trim1 (l : List Int) : List Int := if l.getLast? = some 61 then l.dropLast else l
def trim2 (l : List Int) : List Int := trim1 (trim1 l)
theorem trim1_snoc (l : List Int) (x : Int) : trim1 (l ++ [x]) = if x = 61 then l else l ++ [x] := by
  unfold trim1
  by_cases h : x = 61 <;> simp [h]
theorem trim1_none (l : List Int) (h : ∀ x ∈ l, x ≠ 61) : trim1 l = l := by
  unfold trim1
  rw [if_neg]
  intro e
  exact h 61 (List.mem_of_getLast? e) rfl
theorem trim2_of (l : List Int) (sp : Nat) (hsp : sp ≤ 2) (h : ∀ x ∈ l, x ≠ 61) : trim2 (l ++ List.replicate sp 61) = l := by
  unfold trim2
  match sp, hsp with
  | 0, _ => simp [trim1_none l h]
  | 1, _ => rw [show List.replicate 1 (61 : Int) = [61] from rfl, trim1_snoc, if_pos rfl, trim1_none l h]
  | 2, _ => rw [show List.replicate 2 (61 : Int) = [61] ++ [61] from rfl, ← List.append_assoc, trim1_snoc, if_pos rfl, trim1_snoc, if_pos rfl]
theorem trim1_back (l : List Int) : ∃ k, k ≤ 1 ∧ l = trim1 l ++ List.replicate k 61 := by
  unfold trim1
  split
  · rename_i h
    refine ⟨1, Nat.le_refl _, ?_⟩
    obtain ⟨a, rfl⟩ : ∃ a, l = a ++ [61] := by
      have := List.getLast?_eq_some_iff.1 h
      exact this
    simp
  · exact ⟨0, by omega, by simp⟩
theorem trim2_back (l : List Int) : ∃ k, k ≤ 2 ∧ l = trim2 l ++ List.replicate k 61 ∧ k = l.length - (trim2 l).length := by
  obtain ⟨a, ha, h1⟩ := trim1_back l
  obtain ⟨b, hb, h2⟩ := trim1_back (trim1 l)
  have e : l = trim2 l ++ List.replicate (b + a) 61 := by
    rw [← List.replicate_append_replicate, ← List.append_assoc]
    unfold trim2
    rw [← h2]
    exact h1
  refine ⟨b + a, by omega, e, ?_⟩
  have := congrArg List.length e
  simp at this
  omega
theorem sg64_ne : ∀ v : Nat, v < 64 → sg A64 v ≠ 61 := by decide +kernel
theorem sixes_full (l : List Int) (h : In 256 l) : In 64 (sixes (l ++ List.replicate (spare l.length) 0)) := sixes_in _ _ (Nat.le_refl _) (h.app (In.rep _ 0 (by omega) (by omega)))
-- what base64 is, read by its parts
theorem b64_parts (l : List Int) (h : In 256 l) : (b64L l).length % 4 = 0 ∧ trim2 (b64L l) = ((sixes (l ++ List.replicate (spare l.length) 0)).map (sg A64)).take ((sixes (l ++ List.replicate (spare l.length) 0)).length - spare l.length) ∧
    trim2 (b64L l) ++ List.replicate (spare l.length) 65 = (sixes (l ++ List.replicate (spare l.length) 0)).map (sg A64) ∧ (b64L l).length - (trim2 (b64L l)).length = spare l.length := by
  obtain ⟨n, h1, h2, h3⟩ := full_length l
  have hsp := spare_le l.length
  have hin := sixes_full l h
  have hlast := sixes_last n l (spare l.length) hsp h3 h
  rw [← h2] at hlast
  have hn : ∀ x ∈ ((sixes (l ++ List.replicate (spare l.length) 0)).map (sg A64)).take ((sixes (l ++ List.replicate (spare l.length) 0)).length - spare l.length), x ≠ 61 := by
    intro x hx
    obtain ⟨y, hy, rfl⟩ := List.mem_map.1 (List.mem_of_mem_take hx)
    have := hin y hy
    have e := sg64_ne y.toNat (by omega)
    rwa [Int.toNat_of_nonneg this.1] at e
  have ht : trim2 (b64L l) = ((sixes (l ++ List.replicate (spare l.length) 0)).map (sg A64)).take ((sixes (l ++ List.replicate (spare l.length) 0)).length - spare l.length) := trim2_of _ _ hsp hn
  refine ⟨?_, ht, ?_, ?_⟩
  · unfold b64L
    rw [List.length_append, List.length_take, List.length_map, List.length_replicate, h2]
    omega
  · rw [ht]
    have e : List.replicate (spare l.length) (65 : Int) = ((sixes (l ++ List.replicate (spare l.length) 0)).map (sg A64)).drop ((sixes (l ++ List.replicate (spare l.length) 0)).length - spare l.length) := by
      rw [← List.map_drop, hlast, List.map_replicate]
      rfl
    rw [e, List.take_append_drop]
  · rw [ht]
    unfold b64L
    simp [h2]
-- what is read: the full text, if all is right
def fullL (l : List Int) : List Int := eights (vs A64 (trim2 l ++ List.replicate (l.length - (trim2 l).length) 65))
def cutL (l : List Int) : List Int := (fullL l).take ((fullL l).length - (l.length - (trim2 l).length))
structure Acc64 (l : List Int) : Prop where
  four : l.length % 4 = 0
  ok : Ok A64 (trim2 l ++ List.replicate (l.length - (trim2 l).length) 65)
  zero : (fullL l).drop ((fullL l).length - (l.length - (trim2 l).length)) = List.replicate (l.length - (trim2 l).length) 0
theorem b64_there (l : List Int) (h : In 256 l) : Acc64 (b64L l) ∧ cutL (b64L l) = l := by
  obtain ⟨h1, h2, h3, h4⟩ := b64_parts l h
  obtain ⟨n, g1, g2, g3⟩ := full_length l
  have hin := sixes_full l h
  have hf : fullL (b64L l) = l ++ List.replicate (spare l.length) 0 := by
    unfold fullL
    rw [h4, h3, a64.vs_map _ hin, eights_sixes n _ g1 (h.app (In.rep _ 0 (by omega) (by omega)))]
  refine ⟨⟨h1, ?_, ?_⟩, ?_⟩
  · rw [h4, h3]; exact a64.ok_map _ hin
  · rw [h4, hf]; simp
  · unfold cutL; rw [h4, hf]; simp
theorem trim_in (l : List Int) (h : In 256 l) : In 256 (trim2 l ++ List.replicate (l.length - (trim2 l).length) 65) := by
  obtain ⟨k, hk, e, _⟩ := trim2_back l
  rw [e] at h
  exact h.left.app (In.rep _ 65 (by omega) (by omega))
theorem b64_back (l : List Int) (h : In 256 l) (ha : Acc64 l) : b64L (cutL l) = l ∧ In 256 (cutL l) := by
  obtain ⟨k, hk, e, ek⟩ := trim2_back l
  have hl : (trim2 l).length + k = l.length := by have := congrArg List.length e; simp at this; omega
  have hin := a64.vs_in _ (trim_in l h) ha.ok
  have hlen : (vs A64 (trim2 l ++ List.replicate (l.length - (trim2 l).length) 65)).length = 4 * (l.length / 4) := by
    have := ha.four
    rw [vs_length]; simp; omega
  have hfl : (fullL l).length = 3 * (l.length / 4) := eights_length _ _ hlen
  have hfin : In 256 (fullL l) := eights_in _ _ (Nat.le_refl _) hin
  have hz := ha.zero
  rw [← ek] at hz
  have hk3 : k ≤ (fullL l).length := by
    have := congrArg List.length hz
    simp at this
    have h4 := ha.four
    omega
  have hcl : (cutL l).length = (fullL l).length - k := by unfold cutL; rw [← ek]; simp
  have hsp : spare (cutL l).length = k := by rw [hcl, hfl]; unfold spare; omega
  have hfull : cutL l ++ List.replicate k 0 = fullL l := by
    unfold cutL; rw [← ek, ← hz, List.take_append_drop]
  refine ⟨?_, fun x hx => hfin x (List.mem_of_mem_take hx)⟩
  unfold b64L
  rw [hsp, hfull]
  have hs : sixes (fullL l) = vs A64 (trim2 l ++ List.replicate (l.length - (trim2 l).length) 65) := sixes_eights _ _ hlen hin
  rw [hs, a64.map_vs _ (trim_in l h) ha.ok, vs_length, ← ek]
  simp
  exact e.symm
theorem b64L_length (l : List Int) : (b64L l).length = (l.length + 2) / 3 * 4 := by
  obtain ⟨n, h1, h2, h3⟩ := full_length l
  unfold b64L
  have := spare_le l.length
  simp [h2]
  unfold spare at *
  omega
theorem b64L_in (l : List Int) (h : In 256 l) : In 256 (b64L l) := by
  unfold b64L
  exact In.app (fun x hx => a64.map_in _ (sixes_full l h) x (List.mem_of_mem_take hx)) (In.rep _ 61 (by omega) (by omega))
theorem b64L_app (a b : List Int) (ha : a.length % 3 = 0) : b64L (a ++ b) = b64L a ++ b64L b := by
  have s0 : spare a.length = 0 := by unfold spare; omega
  have s1 : spare (a ++ b).length = spare b.length := by unfold spare; simp; omega
  have e1 : sixes (a ++ (b ++ List.replicate (spare b.length) 0)) = sixes a ++ sixes (b ++ List.replicate (spare b.length) 0) := sixes_app (a.length / 3) _ _ (by omega)
  obtain ⟨n, h1, h2, h3⟩ := full_length b
  have hsp := spare_le b.length
  unfold b64L
  rw [s1, s0, List.append_assoc, e1]
  have ha4 : (sixes a).length = 4 * (a.length / 3) := sixes_length _ _ (by omega)
  rw [List.map_append, List.take_append, List.length_append, List.length_map, h2, ha4, List.take_of_length_le (by rw [List.length_map]; omega)]
  rw [show 4 * (a.length / 3) + 4 * n - spare b.length - 4 * (a.length / 3) = 4 * n - spare b.length by omega]
  simp [ha4]
  exact (List.take_of_length_le (by rw [List.length_map]; omega)).symm
end Go.Proofs.YthdkbjbhjfiaiaaGreatDoor.tb
