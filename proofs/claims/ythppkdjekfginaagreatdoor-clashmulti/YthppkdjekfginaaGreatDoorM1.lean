import Derived.Test.YthppkdjekfginaaGreatDoorP7
import Derived.Test.YthppkdjekfginaaGreatDoorP3
import Derived.Test.YthppkdjekfginaaGreatDoorP4
import Derived.Test.YthppkdjekfginaaGreatDoorP6
import Derived.Test.YthppkdjekfginaaGreatDoorP1
import Derived.Test.YthppkdjekfginaaGreatDoorG4
import Derived.Test.YthppkdjekfginaaGreatDoorP2
import Derived.Deep.DeepCutAuto
import Derived.Deep.AppendLies
namespace Go.Proofs.YthppkdjekfginaaGreatDoor.jp
open Go.RowKit Go.PlainAid
open Go.Proofs.YthppkdjekfginaaGreatDoor.pl Go.Proofs.YthppkdjekfginaaGreatDoor.pi Go.Proofs.YthppkdjekfginaaGreatDoor.pj Go.Proofs.YthppkdjekfginaaGreatDoor.ca Go.Proofs.YthppkdjekfginaaGreatDoor.cb Go.Proofs.YthppkdjekfginaaGreatDoor.cp Go.Proofs.YthppkdjekfginaaGreatDoor.ga Go.Proofs.YthppkdjekfginaaGreatDoor.gb Go.Proofs.YthppkdjekfginaaGreatDoor.aa Go.Proofs.YthppkdjekfginaaGreatDoor.ka Go.Proofs.YthppkdjekfginaaGreatDoor.kb Go.Proofs.YthppkdjekfginaaGreatDoor.kc Go.Proofs.YthppkdjekfginaaGreatDoor.kp Go.Proofs.YthppkdjekfginaaGreatDoor.mi Go.Proofs.YthppkdjekfginaaGreatDoor.lk Go.Proofs.YthppkdjekfginaaGreatDoor.lm Go.Proofs.YthppkdjekfginaaGreatDoor.co Go.Proofs.YthppkdjekfginaaGreatDoor.cn Go.Proofs.YthppkdjekfginaaGreatDoor.qg Go.Proofs.YthppkdjekfginaaGreatDoor.qj Go.Proofs.YthppkdjekfginaaGreatDoor.ta Go.Proofs.YthppkdjekfginaaGreatDoor.tb Go.Proofs.YthppkdjekfginaaGreatDoor.td Go.Proofs.YthppkdjekfginaaGreatDoor.tc Go.Proofs.YthppkdjekfginaaGreatDoor.va Go.Proofs.YthppkdjekfginaaGreatDoor.wa Go.Proofs.YthppkdjekfginaaGreatDoor.ja Go.Proofs.YthppkdjekfginaaGreatDoor.jb Go.Proofs.YthppkdjekfginaaGreatDoor.jc Go.Proofs.YthppkdjekfginaaGreatDoor.jj Go.Proofs.YthppkdjekfginaaGreatDoor.jt
set_option linter.unusedVariables false

theorem nat_at {zs : List Int} (k : Nat) (hk : k < (natL zs).length) : (natL zs)[k] = (zs.getD k 0).toNat := by
  have hk' : k < zs.length := by unfold natL at hk; rw [List.length_map] at hk; exact hk
  have e : (natL zs)[k] = (zs[k]'hk').toNat := List.getElem_map _
  rw [e, List.getD_eq_getElem?_getD, List.getElem?_eq_getElem hk']
  rfl
theorem nat_pair {zs : List Int} (h : Ris zs) : (natL zs).Pairwise (· < ·) := by
  rw [List.pairwise_iff_getElem]
  intro i j hi hj hij
  rw [nat_at i hi, nat_at j hj]
  unfold natL at hi hj
  rw [List.length_map] at hi hj
  have h1 := h.1 i hi
  have h2 := h.2 i j hij hj
  omega
theorem nat_len (zs : List Int) : (natL zs).length = zs.length := List.length_map _
theorem cnt_at {zs : List Int} (h : Ris zs) {j : Nat} (hj : j < zs.length) : cnt zs (zs.getD j 0).toNat = j := by
  have h0 := h.1 j hj
  refine cnt_is h (by omega) (fun i hi => ?_) (fun i h1 h2 => ?_)
  · have := h.2 i j hi hj; omega
  · rcases Nat.eq_or_lt_of_le h1 with e | e
    · rw [← e]; omega
    · have := h.2 j i e h2; omega

-- places and what is claimed there
def psM (zs : List Int) (cs : List ByteArray) : List (Nat × ByteArray) := (natL zs).zip cs
theorem psM_len {zs : List Int} {cs : List ByteArray} (he : cs.length = zs.length) : (psM zs cs).length = zs.length := by unfold psM; rw [List.length_zip, nat_len]; omega
theorem psM_fst {zs : List Int} {cs : List ByteArray} (he : cs.length = zs.length) : (psM zs cs).map (·.1) = natL zs := by unfold psM; exact List.map_fst_zip (by rw [nat_len]; omega)
theorem psM_cs {zs : List Int} {cs : List ByteArray} (he : cs.length = zs.length) : csP (psM zs cs) = cs := by unfold csP psM; exact List.map_snd_zip (by rw [nat_len]; omega)
theorem psM_zs {zs : List Int} {cs : List ByteArray} (he : cs.length = zs.length) (h : Ris zs) : zsP (psM zs cs) = zs := by
  have e : zsP (psM zs cs) = ((psM zs cs).map (·.1)).map Int.ofNat := by unfold zsP; rw [List.map_map]; rfl
  rw [e, psM_fst he]
  apply List.ext_getElem
  · rw [List.length_map, nat_len]
  · intro k h1 h2
    rw [List.getElem_map, nat_at]
    have := h.1 k h2
    rw [List.getD_eq_getElem?_getD, List.getElem?_eq_getElem h2] at this ⊢
    have q : (0 : Int) ≤ zs[k] := this
    show Int.ofNat (zs[k]).toNat = zs[k]
    exact Int.toNat_of_nonneg q
theorem psM_mem {zs : List Int} {cs : List ByteArray} (he : cs.length = zs.length) {p : Nat × ByteArray} (hp : p ∈ psM zs cs) : ∃ i, i < zs.length ∧ p = ((zs.getD i 0).toNat, cs.getD i ByteArray.empty) := by
  obtain ⟨i, hi, rfl⟩ := List.getElem_of_mem hp
  have hz : i < zs.length := by rw [psM_len he] at hi; exact hi
  refine ⟨i, hz, ?_⟩
  have e : (psM zs cs)[i] = ((natL zs)[i]'(by rw [nat_len]; exact hz), cs[i]'(by omega)) := by unfold psM; exact List.getElem_zip
  rw [e, nat_at, getD_at _ _ (by omega)]
theorem psM_in {zs : List Int} {cs : List ByteArray} (he : cs.length = zs.length) {i : Nat} (hi : i < zs.length) : ((zs.getD i 0).toNat, cs.getD i ByteArray.empty) ∈ psM zs cs := by
  have hz : i < (psM zs cs).length := by rw [psM_len he]; exact hi
  have e : (psM zs cs)[i] = ((natL zs)[i]'(by rw [nat_len]; exact hi), cs[i]'(by omega)) := by unfold psM; exact List.getElem_zip
  rw [nat_at] at e
  rw [getD_at _ _ (by omega), ← e]
  exact List.getElem_mem hz
theorem rep_multi {zs : List Int} {cs : List ByteArray} (he : cs.length = zs.length) (h : Ris zs) (n : Nat) : Rep (lkM (natL zs)) (fun p => cs.getD (cnt zs p) ByteArray.empty) (psM zs cs) 0 n where
  r := by
    have := nat_pair h
    rw [← psM_fst he, List.pairwise_map] at this
    exact this
  k := fun c d _ hcd _ => by
    have e : inP (psM zs cs) c d = [] ↔ inn (natL zs) c d = [] := by
      rw [← psM_fst he, ← inP_map]
      exact List.map_eq_nil_iff.symm
    rw [e]
    unfold lkM inn
    rw [List.filter_eq_nil_iff]
    constructor
    · intro q p hp hpp
      rw [Bool.and_eq_true, decide_eq_true_eq, decide_eq_true_eq] at hpp
      rw [if_pos ⟨p, hp, hpp⟩] at q
      split at q <;> omega
    · intro q
      rw [if_neg]
      rintro ⟨p, hp, g1, g2⟩
      exact q p hp (by rw [decide_eq_true g1, decide_eq_true g2]; rfl)
  z := fun c d _ q => by
    unfold lkM at q ⊢
    split
    · rfl
    · rename_i g; rw [if_neg g] at q; exact absurd rfl q
  f := fun p hp _ _ => by
    obtain ⟨i, hi, rfl⟩ := psM_mem he hp
    show cs.getD (cnt zs (zs.getD i 0).toNat) ByteArray.empty = _
    rw [cnt_at h hi]
theorem sh_multi (ps : List Nat) : Sh (lkM ps) := ⟨fun a b h => lkM_zero ps a b h⟩
theorem own_multi {xs : List ByteArray} {zs : List Int} {cs : List ByteArray} (he : cs.length = zs.length) : ownP xs (psM zs cs) ↔ atP xs zs cs zs.length := by
  constructor
  · intro q j hj
    exact q _ (psM_in he hj)
  · intro q p hp
    obtain ⟨i, hi, rfl⟩ := psM_mem he hp
    exact q i hi
-- a copy of the places, apart from three blocks
def PI (g1 g2 g3 : Nat) (v : Value) (zs : List Int) (W : World) : Prop :=
  ∃ a cap, v = .slice a zs.length cap ∧ zs.length ≤ cap ∧ (zs.length = 0 ∨ ∃ g off, a = some ⟨g, off, none⟩ ∧ g ≠ g1 ∧ g ≠ g2 ∧ g ≠ g3 ∧ ∀ i, i < zs.length → W.cell? ⟨g, off + i, none⟩ = some (.int .i64 (zs.getD i 0)))
theorem PI_reads {g1 g2 g3 : Nat} {v : Value} {zs : List Int} {W : World} (h : PI g1 g2 g3 v zs W) : ReadsI W v zs := by
  obtain ⟨a, cap, rfl, hc, h0 | ⟨g, off, rfl, _, _, _, hh⟩⟩ := h
  · exact ⟨a, cap, rfl, hc, .inl h0⟩
  · exact ⟨_, cap, rfl, hc, .inr ⟨g, off, rfl, hh⟩⟩
theorem PI_st (g1 g2 g3 : Nat) (v : Value) (zs : List Int) : Stq g1 g2 g3 (PI g1 g2 g3 v zs) where
  later := fun {W W'} h b => by
    obtain ⟨a, cap, rfl, hc, h0 | ⟨g, off, rfl, n1, n2, n3, hh⟩⟩ := h
    · exact ⟨a, cap, rfl, hc, .inl h0⟩
    · exact ⟨_, cap, rfl, hc, .inr ⟨g, off, rfl, n1, n2, n3, fun i hi => (b.cell (World.block_lt_of_cell? _ _ (hh i hi))).trans (hh i hi)⟩⟩
  kp := fun {W W' g'} h e k => by
    obtain ⟨a, cap, rfl, hc, h0 | ⟨g, off, rfl, n1, n2, n3, hh⟩⟩ := h
    · exact ⟨a, cap, rfl, hc, .inl h0⟩
    · refine ⟨_, cap, rfl, hc, .inr ⟨g, off, rfl, n1, n2, n3, fun i hi => k.cell (hh i hi) ?_⟩⟩
      intro q
      have q' : g = g' := q
      rcases e with rfl | rfl | rfl
      · exact n1 q'
      · exact n2 q'
      · exact n3 q'
theorem PI_own {g1 g2 g3 B : Nat} {v : Value} {zs : List Int} {W : World} (h : W.ownsRow B 3 1 v zs.length (zs.map (Value.int .i64))) (l1 : g1 < B) (l2 : g2 < B) (l3 : g3 < B) : PI g1 g2 g3 v zs W := by
  obtain ⟨a, cap, e, hc, hh⟩ := readsI_own h
  refine ⟨a, cap, e, hc, ?_⟩
  rcases hh with h0 | ⟨g, off, ea, hcell⟩
  · exact .inl h0
  · subst e ea
    have hB : B ≤ g := (h.lt g rfl).1
    exact .inr ⟨g, off, rfl, by omega, by omega, by omega, hcell⟩
end Go.Proofs.YthppkdjekfginaaGreatDoor.jp

namespace Go.Proofs.YthppkdjekfginaaGreatDoor.jx
open Go.RowKit Go.PlainAid
open Go.Proofs.YthppkdjekfginaaGreatDoor.pl Go.Proofs.YthppkdjekfginaaGreatDoor.pi Go.Proofs.YthppkdjekfginaaGreatDoor.pj Go.Proofs.YthppkdjekfginaaGreatDoor.rf Go.Proofs.YthppkdjekfginaaGreatDoor.ca Go.Proofs.YthppkdjekfginaaGreatDoor.cb Go.Proofs.YthppkdjekfginaaGreatDoor.cp Go.Proofs.YthppkdjekfginaaGreatDoor.ga Go.Proofs.YthppkdjekfginaaGreatDoor.gb Go.Proofs.YthppkdjekfginaaGreatDoor.aa Go.Proofs.YthppkdjekfginaaGreatDoor.ka Go.Proofs.YthppkdjekfginaaGreatDoor.kb Go.Proofs.YthppkdjekfginaaGreatDoor.kc Go.Proofs.YthppkdjekfginaaGreatDoor.kp Go.Proofs.YthppkdjekfginaaGreatDoor.mi Go.Proofs.YthppkdjekfginaaGreatDoor.lk Go.Proofs.YthppkdjekfginaaGreatDoor.co Go.Proofs.YthppkdjekfginaaGreatDoor.qb Go.Proofs.YthppkdjekfginaaGreatDoor.qc Go.Proofs.YthppkdjekfginaaGreatDoor.qk Go.Proofs.YthppkdjekfginaaGreatDoor.qp Go.Proofs.YthppkdjekfginaaGreatDoor.qm Go.Proofs.YthppkdjekfginaaGreatDoor.cn Go.Proofs.YthppkdjekfginaaGreatDoor.lm Go.Proofs.YthppkdjekfginaaGreatDoor.wa Go.Proofs.YthppkdjekfginaaGreatDoor.jw Go.Proofs.YthppkdjekfginaaGreatDoor.jp Go.Proofs.YthppkdjekfginaaGreatDoor.ta Go.Proofs.YthppkdjekfginaaGreatDoor.tb Go.Proofs.YthppkdjekfginaaGreatDoor.tc Go.Proofs.YthppkdjekfginaaGreatDoor.ua Go.Proofs.YthppkdjekfginaaGreatDoor.uk Go.Proofs.YthppkdjekfginaaGreatDoor.ul Go.Proofs.YthppkdjekfginaaGreatDoor.um Go.Proofs.YthppkdjekfginaaGreatDoor.un Go.Proofs.YthppkdjekfginaaGreatDoor.va Go.Proofs.YthppkdjekfginaaGreatDoor.vd Go.Proofs.YthppkdjekfginaaGreatDoor.ja Go.Proofs.YthppkdjekfginaaGreatDoor.jb Go.Proofs.YthppkdjekfginaaGreatDoor.jc Go.Proofs.YthppkdjekfginaaGreatDoor.je Go.Proofs.YthppkdjekfginaaGreatDoor.jj Go.Proofs.YthppkdjekfginaaGreatDoor.jq Go.Proofs.YthppkdjekfginaaGreatDoor.ji
set_option linter.unusedVariables false

set_option maxRecDepth 100000 in
set_option maxHeartbeats 12800000 in
theorem xMulti (wd : Int) (vl : Value) (xs : List ByteArray) (vt : Value) (zs : List Int) (vc : Value) (cs : List ByteArray) (vp : Value) (proof : List ByteArray) (w : World) (hl : ReadsT w vl xs) (ht : ReadsI w vt zs) (hc : ReadsT w vc cs) (hp : ReadsT w vp proof) (hx : Fits xs) (hf : Fits cs) (zt : zs.length ≤ 140737488355328) (zp : proof.length ≤ 140737488355328) (hT : Tab4 w) :
    Calls Tryz.prog 15 #[.int .i64 wd, vl, vt, vc, vp] w fun e w' => e = .returned (clV (multiX wd zs xs cs proof)) ∧ Below w.heap.size w w' := by
  obtain ⟨i8, hi8, hy0, hy1, hy2⟩ := ti.info_parts ti.hiE
  have HII : Hid (_ ∧ _ ∧ _ ∧ _) := ⟨hi8, hy0, hy1, hy2⟩
  obtain ⟨i9, hi, hz0, hz1, hz2⟩ := ka.info_parts ka.hi9
  have HIN : Hid (_ ∧ _ ∧ _ ∧ _) := ⟨hi, hz0, hz1, hz2⟩
  clear hi8 hy0 hy1 hy2 hi hz0 hz1 hz2
  have RD : Hid (ReadsT w vl xs ∧ ReadsT w vc cs ∧ ReadsT w vp proof ∧ Tab4 w ∧ Fits xs ∧ Fits cs) := ⟨hl, hc, hp, hT, hx, hf⟩
  have RC : Hid (∀ w', Tab4 w' → ReadsT w' vl xs → Calls _ _ _ _ _) := fun w' h1 h2 => gc.rRoot wd xs.length xs vl w' rfl h1 h2 hx
  have HC : Hid (∀ w', Tab4 w' → ReadsT w' vc cs → Calls _ _ _ _ _) := fun w' h1 h2 => hashesD wd vc cs w' h1 h2 hf
  have IC : Hid (∀ w' vh, Tab4 w' → ReadsT w' vh (LX wd cs) → ReadsT w' vp proof → ReadsI w' vt zs → Calls _ _ _ _ _) := fun w' vh h1 h2 h3 h4 => qn.rMulti wd xs.length vt zs vh vp (LX wd cs) proof (RT wd xs) w' h4 h2 h3 zt (by rw [LX_len]; exact hf.many) zp h1
  have RZ : Hid (ReadsI w vt zs) := ht
  obtain ⟨ta, tc, rfl, htc, hth⟩ := ht
  obtain ⟨la, lc, rfl, hlc, hlh⟩ := hl
  obtain ⟨ca', cc, rfl, hcc, hch⟩ := hc
  obtain ⟨pa, pc, rfl, hpc, _⟩ := hp
  obtain ⟨W, HW⟩ : ∃ W, Hid (W = w.alloc (.cells #[.string ⟨#[]⟩, .string ⟨#[]⟩, .bool false] 26)) := ⟨_, rfl⟩
  have hw : w.alloc (.cells #[.string ⟨#[]⟩, .string ⟨#[]⟩, .bool false] 26) = W := HW.out.symm
  have BW : Hid (Below w.heap.size w W) := by rw [HW.out]; exact (Below.refl _ _).alloc (Nat.le_refl _) _
  have HR : Hid (W.heap[w.heap.size]? = some (.cells #[.string ⟨#[]⟩, .string ⟨#[]⟩, .bool false] 26 (0, 0))) := by show _ = _; rw [HW.out]; exact heap_alloc_new w _
  have F4 : Hid (∀ w4, Below W.heap.size W w4 → w4.heap[w.heap.size]? = some (.cells #[.string ⟨#[]⟩, .string ⟨#[]⟩, .bool false] 26 (0, 0))) := fun w4 k => (k.block _ (Array.getElem?_eq_some_iff.1 HR.out).1).trans HR.out
  unfold multiX
  obtain ⟨E, HE⟩ : ∃ E, Hid (mulA wd xs.length zs (LX wd cs) proof (RT wd xs) = E) := ⟨_, rfl⟩
  obtain ⟨y2, HY2⟩ : ∃ y, Hid (RT wd xs = y) := ⟨_, rfl⟩
  rw [HE.out] at IC ⊢
  rw [HY2.out] at RC IC
  obtain ⟨n, HN⟩ : ∃ n, Hid (xs.length = n) := ⟨_, rfl⟩
  obtain ⟨c, HCN⟩ : ∃ n, Hid (cs.length = n) := ⟨_, rfl⟩
  obtain ⟨l, HM⟩ : ∃ n, Hid (proof.length = n) := ⟨_, rfl⟩
  rw [HN.out] at RC IC RD hlc hlh ⊢
  rw [HCN.out] at HC RD hcc hch ⊢
  rw [HM.out] at IC RD ⊢
  have GD : Hid (∀ w', Below W.heap.size W w' → Tab4 w' ∧ ReadsT w' (.slice la n lc) xs ∧ ReadsT w' (.slice ca' c cc) cs ∧ ReadsT w' (.slice pa l pc) proof) := fun w' b => ⟨RD.out.2.2.2.1.down (over BW.out b), RD.out.1.later (over BW.out b), RD.out.2.1.later (over BW.out b), RD.out.2.2.1.later (over BW.out b)⟩
  obtain ⟨j, HJ⟩ : ∃ n, Hid (zs.length = n) := ⟨_, rfl⟩
  rw [HJ.out] at IC RZ htc hth ⊢
  by_cases h : E = 0
  · subst h
    rw [if_pos rfl]
    obtain ⟨k1, k2, k3, k4, k5, k6, k7⟩ := mulA_ok HE.out
    obtain ⟨m1, m2, m3, m4⟩ := places_ok k1
    have hris := ris_of k1
    rw [LX_len] at k2
    have HEQ : Hid (cs.length = zs.length) := k2
    have hcj : c = j := by rw [← HCN.out, ← HJ.out]; exact k2
    subst hcj
    rw [HJ.out] at m1 m2 m3
    rw [HN.out] at k3 k4 k5 m3
    have hxm := hx.many
    rw [HN.out] at hxm
    obtain ⟨bb, lo', hla, hlq⟩ := hlh.resolve_left (by omega)
    subst hla
    obtain ⟨cb, co', hca, hcq⟩ := hch.resolve_left (by omega)
    subst hca
    obtain ⟨tb, to', hta, htq⟩ := hth.resolve_left (by omega)
    subst hta
    have HCQ : Hid (∀ i, i < c → w.cell? ⟨cb, co' + i, none⟩ = some (.string (cs.getD i ByteArray.empty))) := hcq
    have HTQ : Hid (∀ i, i < c → w.cell? ⟨tb, to' + i, none⟩ = some (.int .i64 (zs.getD i 0))) := htq
    have OWN : Hid (ownP xs (psM zs cs) ↔ atP xs zs cs zs.length) := own_multi HEQ.out
    have REP : Hid (Rep (lkM (natL zs)) (fun p => cs.getD (cnt zs p) ByteArray.empty) (psM zs cs) 0 xs.length) := rep_multi HEQ.out hris xs.length
    have SH : Hid (Sh (lkM (natL zs))) := sh_multi _
    have LIM : Hid ((psM zs cs).length * 16 ≤ 140737488351232 ∧ (∀ p ∈ psM zs cs, p.1 < xs.length) ∧ xs.length ≤ 4611686018427387904) := ⟨by rw [psM_len HEQ.out, HJ.out]; omega, fun p hp => by obtain ⟨i, hi, rfl⟩ := psM_mem HEQ.out hp; rw [HJ.out] at hi; have := m3 i hi; rw [HN.out]; show (zs.getD i 0).toNat < n; omega, by rw [HN.out]; exact k4⟩
    have LIM2 : Hid (0 < xs.length ∧ (∀ p ∈ psM zs cs, p.2.size ≤ 140737488352000) ∧ proof.length = (WL (lkM (natL zs)) 0 xs.length).length ∧ Wide wd proof ∧ proof.length ≤ 140737488355328) := by
      refine ⟨by rw [HN.out]; omega, fun p hp => ?_, by rw [HN.out]; exact k5, k6, zp⟩
      obtain ⟨i, hi, rfl⟩ := psM_mem HEQ.out hp
      show (cs.getD i ByteArray.empty).size ≤ _
      rw [List.getD_eq_getElem?_getD, List.getElem?_eq_getElem (show i < cs.length by rw [HEQ.out]; exact hi)]
      exact hf.each _ (List.getElem_mem _)
    have ZC : Hid (zsP (psM zs cs) = zs ∧ csP (psM zs cs) = cs) := ⟨psM_zs HEQ.out hris, psM_cs HEQ.out⟩
    obtain ⟨OO, HOO⟩ : ∃ OO, Hid (fst1 (clM wd (lkM (natL zs)) (fun p => cs.getD (cnt zs p) ByteArray.empty) proof 0 n) (owM wd (lkM (natL zs)) xs 0 n) = OO) := ⟨_, rfl⟩
    have HAN : Hid (fst1 (gw (HH wd) (lkM (natL zs)) (fun p => cs.getD (cnt zs p) ByteArray.empty) nx proof 0 n).1 (ownT wd (lkM (natL zs)) xs) = OO) := by
      show _ = _
      rw [← HOO.out]
      unfold clM owM ownT
      rw [HN.out]
    rw [HAN.out]
    rw [HJ.out] at OWN
    obtain ⟨ANS, HANS⟩ : ∃ ANS, Hid ((if atP xs zs cs c then none else OO) = ANS) := ⟨_, rfl⟩
    rw [HANS.out]
    have hc24 : c ≤ 1024 := m2
    clear k1 k2 k3 k4 k5 k6 k7 hxm hlq hcq htq hlh hch hth hT hx hf zp zt m1 m2 m3 m4 hris
    go_enter Tryz.func15, Tryz.ntmps15
    go_wp2_with fail
    try rw [hw]
    refine (RC.out _ (GD.out _ (Below.refl _ _)).1 (GD.out _ (Below.refl _ _)).2.1).mono ?_
    rintro e w2 ⟨rfl, hb2⟩
    have B2 : Hid (Below W.heap.size W w2) := hb2
    clear hb2
    go_wp2_with fail
    refine (HC.out _ (GD.out _ B2.out).1 (GD.out _ B2.out).2.2.1).mono ?_
    rintro e w3 ⟨⟨vh, rfl, oh⟩, hb3⟩
    have B3 : Hid (Below W.heap.size W w3) := over B2.out hb3
    have RH : Hid (ReadsT w3 vh (LX wd cs)) := readsT_own oh
    obtain ⟨ha', hc', hvh⟩ := own_formS oh
    subst hvh
    clear hb3 oh
    go_wp2_with fail
    refine (IC.out _ _ (GD.out _ B3.out).1 RH.out (GD.out _ B3.out).2.2.2 (RZ.out.later (over BW.out B3.out))).mono ?_
    rintro e w4 ⟨rfl, hb4⟩
    have B4 : Hid (Below W.heap.size W w4) := over B3.out hb4
    clear hb4 RH
    obtain ⟨V, HV⟩ : ∃ V, Hid (V = w4.alloc (.cells #[.slice none 0 0, .slice none 0 0] 61)) := ⟨_, rfl⟩
    have hv : w4.alloc (.cells #[.slice none 0 0, .slice none 0 0] 61) = V := HV.out.symm
    have BV : Hid (Below w4.heap.size w4 V) := by rw [HV.out]; exact (Below.refl _ _).alloc (Nat.le_refl _) _
    have hV0 : V.heap[w4.heap.size]? = some (.cells #[.slice none 0 0, .slice none 0 0] 61 (0, 0)) := by rw [HV.out]; exact heap_alloc_new w4 _
    have W0 : Hid (Wn V w4.heap.size (.slice none 0 0) (.slice none 0 0) [] [] V) := ⟨hV0, World.ownsRow_nil _ _ _ _, World.ownsRow_nil _ _ _ _, Kp.refl _ _, (Array.getElem?_eq_some_iff.1 hV0).1⟩
    have BOX : Hid (∀ wr, Kp (fun b => b = w4.heap.size) V wr → ∀ g off v, w.cell? ⟨g, off, none⟩ = some v → wr.cell? ⟨g, off, none⟩ = some v) := fun wr k g off v hc0 => by
      have hlt : g < w.heap.size := World.block_lt_of_cell? _ _ hc0
      have hb := over BW.out (over B4.out BV.out)
      exact k.cell ((hb.cell hlt).trans hc0) (fun e => by have := (over BW.out B4.out).size; omega)
    have q0 : V.cell? ⟨w4.heap.size, 0, none⟩ = some (.slice none 0 0) := cell_of_row _ _ 0 _ _ _ hV0
    have N1 : Hid (∀ (i : Nat) (u : Value), (zs.map (Value.int .i64))[i]? = some u → V.cell? (Addr.add ⟨tb, to', none⟩ i) = some u) := fun i u hu => by
      rw [List.getElem?_map] at hu
      cases hz : zs[i]? with
      | none => rw [hz] at hu; cases hu
      | some z =>
        rw [hz] at hu
        have hi : i < c := by rw [← HJ.out]; exact (List.getElem?_eq_some_iff.1 hz).1
        have := BOX.out V (Kp.refl _ _) _ _ _ (HTQ.out i hi)
        rw [List.getD_eq_getElem?_getD, hz] at this
        rw [Addr.add_mid]
        rw [this]
        exact hu
    have M1 : Hid (∀ u ∈ zs.map (Value.int .i64), u.oneCell' = true) := fun u hu => by obtain ⟨z, _, rfl⟩ := List.mem_map.1 hu; rfl
    have M2 : Hid (∀ u ∈ cs.map Value.string, u.oneCell' = true) := fun u hu => by obtain ⟨z, _, rfl⟩ := List.mem_map.1 hu; rfl
    have AR : Hid (∀ w7 v5, w7.ownsRow V.heap.size 3 1 v5 (0 + c) ([] ++ zs.map (Value.int .i64)) → V.grownBy w7 (Value.slice none 0 0).ownBlock → w7.heap[w4.heap.size]? = some (.cells #[.slice none 0 0, .slice none 0 0] 61 (0, 0)) ∧ Wn V w4.heap.size v5 (.slice none 0 0) zs [] (w7.setCell ⟨w4.heap.size, 0, none⟩ v5)) := fun w7 v5 ho7 hg7 => Wn.app1 W0.out (v5 := v5) (ns := zs) (.inl rfl) (by rw [HJ.out]; exact ho7) hg7
    have hBV : V.heap.size ≤ V.heap.size := Nat.le_refl _
    have hZ : ((zs.map (Value.int .i64)).length = c * 1) := by rw [List.length_map, HJ.out, Nat.mul_one]
    have hZ2 : ((cs.map Value.string).length = c * 1) := by rw [List.length_map, HCN.out, Nat.mul_one]
    clear HV hV0
    go_upto_region 7 with (at_builtin; refine wpList_append_own _ rfl _ _ 33 rfl V.heap.size 3 i8 (.int .i64 0) 1 8 Tryz.underlying33 HII.out.1 HII.out.2.1 HII.out.2.2.1 HII.out.2.2.2 rfl (by decide) _ 0 [] rfl (World.ownsRow_nil _ _ _ _) ⟨tb, to', none⟩ c tc (zs.map (Value.int .i64)) rfl hZ N1.out M1.out (by unfold maxLen; omega) (by omega) hBV ?_; intro f' w7 ho hg hnn; have A7 : Hid _ := AR.out w7 f' ho hg; obtain ⟨fa, fc, hff⟩ := own_formS ho; subst hff; have c17 := cell_of_row _ _ 0 _ _ _ A7.out.1; have f17 := frozen_of_row _ _ 0 _ _ A7.out.1; clear ho hg hnn)
    rw [Nat.zero_add] at A7
    obtain ⟨w8, HW8⟩ : ∃ w8, Hid (w8 = w7.setCell ⟨w4.heap.size, 0, none⟩ (.slice fa c fc)) := ⟨_, rfl⟩
    have hw8 : w7.setCell ⟨w4.heap.size, 0, none⟩ (.slice fa c fc) = w8 := HW8.out.symm
    have H2 : Hid (Wn V w4.heap.size (.slice fa c fc) (.slice none 0 0) zs [] w8) := by rw [← hw8]; exact A7.out.2
    rw [hw8]
    clear hw8 HW8 A7 c17 f17 q0 N1 AR hBV W0 hv hZ
    have q1 : w8.cell? ⟨w4.heap.size, 1, none⟩ = some (.slice none 0 0) := cell_of_row _ _ 1 _ _ _ H2.out.row
    have N2 : Hid (∀ (i : Nat) (u : Value), (cs.map Value.string)[i]? = some u → w8.cell? (Addr.add ⟨cb, co', none⟩ i) = some u) := fun i u hu => by
      rw [List.getElem?_map] at hu
      cases hz : cs[i]? with
      | none => rw [hz] at hu; cases hu
      | some z =>
        rw [hz] at hu
        have hi : i < c := by rw [← HCN.out]; exact (List.getElem?_eq_some_iff.1 hz).1
        have := BOX.out w8 H2.out.fr _ _ _ (HCQ.out i hi)
        rw [List.getD_eq_getElem?_getD, hz] at this
        rw [Addr.add_mid]
        rw [this]
        exact hu
    have AT : Hid (∀ w9 v5, w9.ownsRow V.heap.size 9 1 v5 (0 + c) ([] ++ cs.map Value.string) → w8.grownBy w9 (Value.slice none 0 0).ownBlock → w9.heap[w4.heap.size]? = some (.cells #[.slice fa c fc, .slice none 0 0] 61 (0, 0)) ∧ Wn V w4.heap.size (.slice fa c fc) v5 zs cs (w9.setCell ⟨w4.heap.size, 1, none⟩ v5)) := fun w9 v5 ho7 hg7 => Wn.app2 H2.out (v5 := v5) (ms := cs) (.inl rfl) (by rw [HCN.out]; exact ho7) hg7
    have hB8 : V.heap.size ≤ w8.heap.size := H2.out.fr.size
    go_upto_region 8 with (at_builtin; refine wpList_append_own _ rfl _ _ 22 rfl V.heap.size 9 i9 (.string ByteArray.empty) 1 16 Tryz.underlying22 HIN.out.1 HIN.out.2.1 HIN.out.2.2.1 HIN.out.2.2.2 rfl (by decide) _ 0 [] rfl (World.ownsRow_nil _ _ _ _) ⟨cb, co', none⟩ c cc (cs.map Value.string) rfl hZ2 N2.out M2.out (by unfold maxLen; omega) (by omega) hB8 ?_; intro f' w9 ho hg hnn; have A9 : Hid _ := AT.out w9 f' ho hg; obtain ⟨ga, gc', hff⟩ := own_formS ho; subst hff; have c19 := cell_of_row _ _ 1 _ _ _ A9.out.1; have f19 := frozen_of_row _ _ 1 _ _ A9.out.1; clear ho hg hnn)
    rw [Nat.zero_add] at A9
    obtain ⟨wr, HWR⟩ : ∃ wr, Hid (wr = w9.setCell ⟨w4.heap.size, 1, none⟩ (.slice ga c gc')) := ⟨_, rfl⟩
    have hwr : w9.setCell ⟨w4.heap.size, 1, none⟩ (.slice ga c gc') = wr := HWR.out.symm
    have HH : Hid (Wn V w4.heap.size (.slice fa c fc) (.slice ga c gc') (zsP (psM zs cs)) (csP (psM zs cs)) wr) := by rw [← hwr, ZC.out.1, ZC.out.2]; exact A9.out.2
    rw [hwr]
    clear hwr HWR A9 c19 f19 q1 N2 AT hB8 H2 hZ2
    have AQ : Hid (Aq wr (.slice fa c fc) (.slice ga c gc') (psM zs cs)) := ⟨readsI_own HH.out.r1, readsT_own HH.out.r2⟩
    have o0 : wr.cell? ⟨w4.heap.size, 0, none⟩ = some _ := cell_of_row _ _ 0 _ _ _ HH.out.row
    have o1 : wr.cell? ⟨w4.heap.size, 1, none⟩ = some _ := cell_of_row _ _ 1 _ _ _ HH.out.row
    have BR : Hid (Below W.heap.size W wr) := (over B4.out BV.out).trans (HH.out.fr.below (fun q e => by have := B4.out.size; omega) (by have := (over B4.out BV.out).size; omega))
    have LC : Hid (Calls _ _ _ _ _) := listsD (.slice (some ⟨bb, lo', none⟩) n lc) xs _ _ (psM zs cs) wr (GD.out _ BR.out).2.1 AQ.out LIM.out.1 LIM.out.2.1 LIM.out.2.2
    have DC : Hid (∀ W', Below wr.heap.size wr W' → Calls _ _ _ _ _) := fun W' b => downD wd SH.out xs RD.out.2.2.2.2.1 xs.length 0 xs.length _ _ (psM zs cs) (.slice pa l pc) proof (.slice (some ⟨bb, lo', none⟩) n lc) W' rfl LIM2.out.1 (Nat.le_refl _) REP.out (AQ.out.later b) LIM.out.1 LIM2.out.2.1 LIM2.out.2.2.1 LIM2.out.2.2.2.1 (GD.out _ (over BR.out b)).2.2.2 LIM2.out.2.2.2.2 (GD.out _ (over BR.out b)).2.1 (GD.out _ (over BR.out b)).1
    rw [HN.out] at DC
    have DC0 : Hid (∀ W', Below wr.heap.size wr W' → Calls Tryz.prog 37 #[.int .i64 wd, .slice (some ⟨bb, lo', none⟩) n lc, .agg #[.slice fa c fc, .slice ga c gc'], .int .i64 0, .int .i64 n, .slice pa l pc] W' fun e w' => e = .returned (clV OO) ∧ Below W'.heap.size W' w') := fun W' b => by have := DC.out W' b; rw [HOO.out] at this; exact this
    obtain ⟨p1, p2, p3, hgo⟩ := clV_of OO
    rw [hgo] at DC0
    clear DC
    by_cases hown : atP xs zs cs c
    · have HOV : Hid (ANS = none) := by show _ = _; rw [← HANS.out, if_pos hown]
      rw [decide_eq_true (OWN.out.2 hown)] at LC
      clear hown hgo DC0
      go_wp2_with fail
      refine LC.out.mono ?_
      rintro e w6 ⟨rfl, hb6⟩
      have B6 : Hid (Below W.heap.size W w6) := over BR.out hb6
      clear hb6
      have hr2 := F4.out w6 B6.out
      have e0 : w6.cell? ⟨w.heap.size, 0, none⟩ = _ := cell_of_row _ _ 0 _ _ _ hr2
      have e1 : w6.cell? ⟨w.heap.size, 1, none⟩ = _ := cell_of_row _ _ 1 _ _ _ hr2
      have e2 : w6.cell? ⟨w.heap.size, 2, none⟩ = _ := cell_of_row _ _ 2 _ _ _ hr2
      have f0 := frozen_of_row _ _ 0 _ _ hr2
      have f1 := frozen_of_row _ _ 1 _ _ hr2
      have f2 := frozen_of_row _ _ 2 _ _ hr2
      have FIN : Hid (∀ W', W' = _ → _) := put3 w6 w.heap.size _ _ _ (.string ⟨#[]⟩) (.string ⟨#[]⟩) (.bool false) _ hr2
      clear hr2
      go_wp2
      obtain ⟨G, hb⟩ := FIN.out _ rfl
      refine bodyPost_ret (by simp [results, Tryz.results15, go_sem, G.1, G.2.1, G.2.2]; try rfl) rfl ?_
      exact ⟨by rw [HOV.out]; rfl, (over BW.out B6.out).trans (hb _ (Nat.le_refl _))⟩
    · have HOV : Hid (clV ANS = .agg #[.string p1, .string p2, .bool p3]) := by show _ = _; rw [← HANS.out, if_neg hown]; exact hgo
      rw [decide_eq_false (fun e => hown (OWN.out.1 e))] at LC
      clear hown hgo
      go_wp2_with fail
      refine LC.out.mono ?_
      rintro e w6 ⟨rfl, hb6⟩
      have B6 : Hid (Below wr.heap.size wr w6) := hb6
      have o0' : w6.cell? ⟨w4.heap.size, 0, none⟩ = some _ := (hb6.cell (World.block_lt_of_cell? _ _ o0)).trans o0
      have o1' : w6.cell? ⟨w4.heap.size, 1, none⟩ = some _ := (hb6.cell (World.block_lt_of_cell? _ _ o1)).trans o1
      clear hb6 o0 o1
      go_wp2_with fail
      refine (DC0.out _ B6.out).mono ?_
      rintro e w7 ⟨rfl, hb7⟩
      have B7 : Hid (Below W.heap.size W w7) := over BR.out (over B6.out hb7)
      clear hb7
      have hr2 := F4.out w7 B7.out
      have e0 : w7.cell? ⟨w.heap.size, 0, none⟩ = _ := cell_of_row _ _ 0 _ _ _ hr2
      have e1 : w7.cell? ⟨w.heap.size, 1, none⟩ = _ := cell_of_row _ _ 1 _ _ _ hr2
      have e2 : w7.cell? ⟨w.heap.size, 2, none⟩ = _ := cell_of_row _ _ 2 _ _ _ hr2
      have f0 := frozen_of_row _ _ 0 _ _ hr2
      have f1 := frozen_of_row _ _ 1 _ _ hr2
      have f2 := frozen_of_row _ _ 2 _ _ hr2
      have FIN : Hid (∀ W', W' = _ → _) := put3 w7 w.heap.size _ _ _ (.string p1) (.string p2) (.bool p3) _ hr2
      clear hr2
      go_wp2
      obtain ⟨G, hb⟩ := FIN.out _ rfl
      refine bodyPost_ret (by simp [results, Tryz.results15, go_sem, G.1, G.2.1, G.2.2]; try rfl) rfl ?_
      exact ⟨by rw [HOV.out], (over BW.out B7.out).trans (hb _ (Nat.le_refl _))⟩
  · rw [if_neg h]
    have q : (E == 0) = false := by rw [beq_eq_false_iff_ne]; exact h
    have q2 : (E != 0) = true := by rw [bne, q]; rfl
    clear h hlh hch hth hT hx hf zp zt
    go_enter Tryz.func15, Tryz.ntmps15
    go_wp2_with fail
    try rw [hw]
    refine (RC.out _ (GD.out _ (Below.refl _ _)).1 (GD.out _ (Below.refl _ _)).2.1).mono ?_
    rintro e w2 ⟨rfl, hb2⟩
    have B2 : Hid (Below W.heap.size W w2) := hb2
    clear hb2
    go_wp2_with fail
    refine (HC.out _ (GD.out _ B2.out).1 (GD.out _ B2.out).2.2.1).mono ?_
    rintro e w3 ⟨⟨vh, rfl, oh⟩, hb3⟩
    have B3 : Hid (Below W.heap.size W w3) := over B2.out hb3
    have RH : Hid (ReadsT w3 vh (LX wd cs)) := readsT_own oh
    obtain ⟨ha', hc', hvh⟩ := own_formS oh
    subst hvh
    clear hb3 oh
    go_wp2_with fail
    refine (IC.out _ _ (GD.out _ B3.out).1 RH.out (GD.out _ B3.out).2.2.2 (RZ.out.later (over BW.out B3.out))).mono ?_
    rintro e w4 ⟨rfl, hb4⟩
    have B4 : Hid (Below W.heap.size W w4) := over B3.out hb4
    clear hb4 RH
    have hr2 := F4.out w4 B4.out
    have e0 : w4.cell? ⟨w.heap.size, 0, none⟩ = _ := cell_of_row _ _ 0 _ _ _ hr2
    have e1 : w4.cell? ⟨w.heap.size, 1, none⟩ = _ := cell_of_row _ _ 1 _ _ _ hr2
    have e2 : w4.cell? ⟨w.heap.size, 2, none⟩ = _ := cell_of_row _ _ 2 _ _ _ hr2
    have f0 := frozen_of_row _ _ 0 _ _ hr2
    have f1 := frozen_of_row _ _ 1 _ _ hr2
    have f2 := frozen_of_row _ _ 2 _ _ hr2
    have FIN : Hid (∀ W', W' = _ → _) := put3 w4 w.heap.size _ _ _ (.string ⟨#[]⟩) (.string ⟨#[]⟩) (.bool false) _ hr2
    clear hr2
    go_wp2
    obtain ⟨G, hb⟩ := FIN.out _ rfl
    refine bodyPost_ret (by simp [results, Tryz.results15, go_sem, G.1, G.2.1, G.2.2]; try rfl) rfl ?_
    exact ⟨rfl, (over BW.out B4.out).trans (hb _ (Nat.le_refl _))⟩
end Go.Proofs.YthppkdjekfginaaGreatDoor.jx
