import Derived.Test.YthpfgdhmpeadeaaJ9
import Derived.Deep.Slices
import Derived.Deep.Strs
import Derived.Test.YthpfgdhmpeadeaaRows
import Derived.WalkKit
import Derived.ProofKit
import Derived.OpenShut
import Derived.SizedLaws
import Derived.ChangeSlices
import Derived.SliceStrings
import Derived.Deep.MidRow
import Derived.Lib.SmallJoins
import Derived.RowKit3
import Derived.Carry
namespace Go.Proofs.Ythpfgdhmpeadeaa.wireApart
open Go.ChangeShapes Go.WideShapes Go.ChangeAt Go.RowKit Go.Joins Go.WideElems
open Go.ChangeMaps (open_string shut_string)
open Go.Deep Go.WideMaps Go.Proofs.Ythpfgdhmpeadeaa.ka
set_option linter.unusedVariables false

theorem own : ownKnob Try.prog.godebug = none := by kernel_rfl
theorem laidOut : laidOutB Try.prog = true := by kernel_rfl
theorem cells3 : Try.prog.cellsOf 3 = 1 := by kernel_rfl
theorem bytes3 : Try.prog.bytesOf 3 = 8 := by kernel_rfl
theorem open_listI {H : Type} (enc : TypeId × Value → H) (W : World) (a : Option Addr) (len cap : Nat) (d : DataW H) (p : List MemPlace) (h0 : DataW.Trod enc Try.prog W 0 (fun _ => true) true 22 (.slice a len cap) d p) :
    ∃ xs, Go.Proofs.Ythpfgdhmpeadeaa.mi.ReadsI W (.slice a len cap) xs ∧ ((∀ k c, Value.slice a len cap = .slice none k c → c = 0) ∧ (∀ x ∈ xs, -9223372036854775808 ≤ x ∧ x ≤ 9223372036854775807)) ∧ ((∀ k ∈ DataW.weights Try.prog 22 d, k ≤ 140737488351232) → xs.length * 8 ≤ 140737488351232) := by
  obtain ⟨fuel, hf⟩ := h0
  rcases open_ints Try.underlying22 Try.underlying3 cells3 hf with ⟨hcs, hx⟩ | ⟨a', len', cap', ss, hcs, _, hl, hm, hz, hx, hcell, hws⟩
  · simp [Value.cells] at hcs
    obtain ⟨rfl, rfl, rfl⟩ := hcs
    exact ⟨[], ⟨none, 0, rfl, Nat.le_refl _, .inl rfl⟩, ⟨(fun k c e => by injection e with _ _ e; exact e.symm), fun x h => by cases h⟩, fun _ => by simp⟩
  · simp [Value.cells] at hcs
    obtain ⟨rfl, rfl, rfl⟩ := hcs
    simp only [Prod.mk.injEq] at hx
    obtain ⟨rfl, rfl⟩ := hx
    simp only [if_true] at hz
    have hlen : (ss.take len).length = len := by rw [List.length_take]; omega
    refine ⟨ss.take len, ⟨some a', cap, by rw [hlen], by rw [hlen]; omega, ?_⟩, ⟨(fun k c e => by cases e), fun x h => bounds_i64 (hws x (List.mem_of_mem_take h))⟩, fun hw => ?_⟩
    · by_cases hl0 : len = 0
      · exact .inl (by rw [hlen]; exact hl0)
      · right
        obtain ⟨b, off, spot⟩ := a'
        have hspot : spot = none := by simpa [Addr.add] using World.cell?_spot (hcell 0 (by omega))
        subst hspot
        refine ⟨b, off, rfl, fun i hi => ?_⟩
        rw [hlen] at hi
        have := hcell i (by omega)
        rw [Addr.add_mid] at this
        rw [this, List.getD_eq_getElem?_getD, List.getD_eq_getElem?_getD, List.getElem?_take, if_pos hi]
    · have h2 := hw (((lits (H := H) .i64 (ss.take len)).length + (lits (H := H) .i64 (ss.drop len)).length) * 8) (by
        simp only [DataW.weights, Try.underlying22, bytes3]
        exact List.mem_cons_self)
      rw [hlen]
      simp only [lits, List.length_map, List.length_take, List.length_drop] at h2
      omega
theorem cells9 : Try.prog.cellsOf 9 = 1 := by kernel_rfl
theorem bytes9 : Try.prog.bytesOf 9 = 16 := by kernel_rfl
theorem weight_mem {H : Type} (l : List ByteArray) (s : ByteArray) (h : s ∈ l) : s.data.toList.length ∈ DataW.weightsAll Try.prog 9 (strs (H := H) l) := by
  induction l with
  | nil => cases h
  | cons x l ih =>
    show _ ∈ DataW.weights Try.prog 9 (.lit (.string x.data.toList)) ++ DataW.weightsAll Try.prog 9 (strs (H := H) l)
    rcases List.mem_cons.1 h with rfl | h
    · exact List.mem_append_left _ (by simp [DataW.weights])
    · exact List.mem_append_right _ (ih h)
theorem open_list {H : Type} (enc : TypeId × Value → H) (W : World) (a : Option Addr) (len cap : Nat) (d : DataW H) (p : List MemPlace) (h0 : DataW.Trod enc Try.prog W 0 (fun _ => true) true 23 (.slice a len cap) d p) :
    ∃ xs, ReadsT W (.slice a len cap) xs ∧ ((∀ k ∈ DataW.weights Try.prog 23 d, k ≤ 140737488351232) → (∀ x ∈ xs, x.size ≤ 140737488351232) ∧ xs.length * 16 ≤ 140737488351232) ∧ (a = none → cap = 0) := by
  obtain ⟨fuel, hf⟩ := h0
  rcases open_strings Try.underlying23 Try.underlying9 cells9 hf with ⟨hcs, hx⟩ | ⟨a', len', cap', ss, hcs, _, hl, hm, hz, hx, hcell, hws⟩
  · simp [Value.cells] at hcs
    obtain ⟨rfl, rfl, rfl⟩ := hcs
    exact ⟨[], ⟨none, 0, rfl, Nat.le_refl _, .inl rfl⟩, fun _ => ⟨fun x h => (by cases h), (by simp)⟩, fun _ => rfl⟩
  · simp [Value.cells] at hcs
    obtain ⟨rfl, rfl, rfl⟩ := hcs
    simp only [Prod.mk.injEq] at hx
    obtain ⟨rfl, rfl⟩ := hx
    simp only [if_true] at hz
    have hlen : (ss.take len).length = len := by rw [List.length_take]; omega
    refine ⟨ss.take len, ⟨some a', cap, by rw [hlen], by rw [hlen]; omega, ?_⟩, fun hw => ⟨fun x hxm => ?_, ?_⟩, fun e => by cases e⟩
    · by_cases hl0 : len = 0
      · exact .inl (by rw [hlen]; exact hl0)
      · right
        obtain ⟨b, off, spot⟩ := a'
        have hspot : spot = none := by simpa [Addr.add] using World.cell?_spot (hcell 0 (by omega))
        subst hspot
        refine ⟨b, off, rfl, fun i hi => ?_⟩
        rw [hlen] at hi
        have := hcell i (by omega)
        rw [Addr.add_mid] at this
        rw [this, List.getD_eq_getElem?_getD, List.getD_eq_getElem?_getD, List.getElem?_take, if_pos hi]
    · have h1 := weight_mem (H := H) _ _ hxm
      have h2 := hw x.data.toList.length (by
        simp only [DataW.weights, Try.underlying23]
        exact List.mem_cons_of_mem _ (List.mem_append_left _ h1))
      have e : x.data.toList.length = x.size := Array.length_toList
      omega
    · have h2 := hw (((strs (H := H) (ss.take len)).length + (strs (H := H) (ss.drop len)).length) * 16) (by
        simp only [DataW.weights, Try.underlying23, bytes9]
        exact List.mem_cons_self)
      rw [hlen]
      simp only [strs, List.length_map, List.length_take, List.length_drop] at h2
      omega

theorem cellsW : Try.prog.cellsOf 25 = 7 := by kernel_rfl
theorem array7 {α : Type} {a : Array α} (h : a.size = 7) : ∃ c0 c1 c2 c3 c4 c5 c6, a = #[c0, c1, c2, c3, c4, c5, c6] := by
  obtain ⟨l⟩ := a
  match l, h with
  | [c0, c1, c2, c3, c4, c5, c6], _ => exact ⟨c0, c1, c2, c3, c4, c5, c6, rfl⟩
theorem list7 {α : Type} {l : List α} (h : l.length = 7) : ∃ c0 c1 c2 c3 c4 c5 c6, l = [c0, c1, c2, c3, c4, c5, c6] := by
  match l, h with
  | [c0, c1, c2, c3, c4, c5, c6], _ => exact ⟨c0, c1, c2, c3, c4, c5, c6, rfl⟩
section
variable {H : Type} {enc : TypeId × Value → H} {P : Program} {w : World} {base : Nat} {spare : Nat → Bool} {held : Bool}
theorem open_agg7 {r : Reach} {b0 : Nat} {t : TypeId} {f0 f1 f2 f3 f4 f5 f6 : Field} {v : Value} {d : DataW H} {p : List MemPlace} (hs : P.underlying t = some (.struct #[f0, f1, f2, f3, f4, f5, f6])) (hone : Go.Deep.oneCellFields P #[f0, f1, f2, f3, f4, f5, f6] = true) (hC : P.cellsOf t = 7)
    (hv : Value.okWide P w r b0 t v) (h : DataW.Trod enc P w base spare held t v d p) :
    ∃ (v0 v1 v2 v3 v4 v5 v6 : Value) (y0 y1 y2 y3 y4 y5 y6 : DataW H × List MemPlace) (n : Nat), v = .agg #[v0, v1, v2, v3, v4, v5, v6] ∧ d = .agg [y0.1, y1.1, y2.1, y3.1, y4.1, y5.1, y6.1] ∧ p = y0.2 ++ (y1.2 ++ (y2.2 ++ (y3.2 ++ (y4.2 ++ (y5.2 ++ y6.2))))) ∧
      DataW.trod enc P w base spare held n f0.type [v0] = some y0 ∧ DataW.trod enc P w base spare held n f1.type [v1] = some y1 ∧ DataW.trod enc P w base spare held n f2.type [v2] = some y2 ∧ DataW.trod enc P w base spare held n f3.type [v3] = some y3 ∧ DataW.trod enc P w base spare held n f4.type [v4] = some y4 ∧ DataW.trod enc P w base spare held n f5.type [v5] = some y5 ∧ DataW.trod enc P w base spare held n f6.type [v6] = some y6 := by
  obtain ⟨cs, rfl, hsz⟩ := okWide_struct hs hv
  obtain ⟨c0, c1, c2, c3, c4, c5, c6, rfl⟩ := array7 (hsz.trans hC)
  obtain ⟨fuel, hf⟩ := h
  obtain ⟨xs, n, _, hx, hl, hlen, hff⟩ := DataW.trod_struct hs hf
  obtain ⟨y0, y1, y2, y3, y4, y5, y6, rfl⟩ := list7 hlen
  obtain ⟨o0, k0⟩ := Go.Deep.hone_of hone 0 f0 rfl
  obtain ⟨o1, k1⟩ := Go.Deep.hone_of hone 1 f1 rfl
  obtain ⟨o2, k2⟩ := Go.Deep.hone_of hone 2 f2 rfl
  obtain ⟨o3, k3⟩ := Go.Deep.hone_of hone 3 f3 rfl
  obtain ⟨o4, k4⟩ := Go.Deep.hone_of hone 4 f4 rfl
  obtain ⟨o5, k5⟩ := Go.Deep.hone_of hone 5 f5 rfl
  obtain ⟨o6, k6⟩ := Go.Deep.hone_of hone 6 f6 rfl
  simp only [Prod.mk.injEq] at hx
  exact ⟨c0, c1, c2, c3, c4, c5, c6, y0, y1, y2, y3, y4, y5, y6, n, rfl, by rw [hx.1]; rfl, by rw [hx.2]; simp, by simpa [Value.cells, o0, k0] using hff 0 f0 rfl, by simpa [Value.cells, o1, k1] using hff 1 f1 rfl, by simpa [Value.cells, o2, k2] using hff 2 f2 rfl, by simpa [Value.cells, o3, k3] using hff 3 f3 rfl, by simpa [Value.cells, o4, k4] using hff 4 f4 rfl, by simpa [Value.cells, o5, k5] using hff 5 f5 rfl, by simpa [Value.cells, o6, k6] using hff 6 f6 rfl⟩
end
set_option maxRecDepth 100000 in
theorem lifted (os : Os) (started : os.Started) (H : Type) (enc : TypeId × Value → H) :
    ReturnsInHanded {} Try.checked os 4 .any (Rows.wireApartSpec.pre6 enc Try.prog Try.f4 Rows.wireApartRow.domain false) (Rows.wireApartSpec.post enc Try.prog Try.f4 false true false false) := by
  refine returnsInHanded_of_change_sized (C := Try.checked) own started (by kernel_rfl) Try.func4
    (ChangeSpec.witness6 (enc := enc) (C := Try.checked) false ⟨#[], #[.agg #[.int .i64 0, .int .i64 0, .int .i64 0, .int .i64 0, .int .i64 0, .slice none 0 0, .slice none 0 0], .agg #[.int .i64 0, .int .i64 0, .int .i64 0, .int .i64 0, .int .i64 0, .slice none 0 0, .slice none 0 0], .slice none 0 0], []⟩ 8 (by kernel_rfl) (by kernel_rfl) (by kernel_rfl) (by kernel_rfl)) ?_
  intro W base args ds gs before hval0 hW hcnd hsz0 _
  have hval : ∀ (j : Nat) t v, Try.f4.params[j]? = some t → args[j]? = some v → Value.okWide Try.prog W .any base t v := hval0
  have hW' := hW
  obtain ⟨p, q, hA0, hV, rfl, hfz, hnd⟩ := hW
  have hA : DataW.TrodAll enc Try.prog W 0 (fun _ => true) true Try.f4.params.toList args.toList ds p := hA0
  have hsz : (DataW.weightsEach Try.prog (Try.f4.params.toList ++ Rows.wireApartSpec.plain.varTypes Try.prog) (ds ++ gs)).all (· ≤ reachBytes) = true := hsz0
  rw [Try.params4] at hA hval hsz
  obtain ⟨v0, vs0, d0, ds0, p0, q0, hargs0, rfl, rfl, h0, r0⟩ := trodAll_cons hA
  obtain ⟨v1, vs1, d1, ds1, p1, q1, rfl, rfl, rfl, h1, r1⟩ := trodAll_cons r0
  obtain ⟨v2, vs2, d2, ds2, p2, q2, rfl, rfl, rfl, h2, r2⟩ := trodAll_cons r1
  obtain ⟨rfl, rfl, rfl⟩ := trodAll_nil r2
  obtain rfl : args = #[v0, v1, v2] := by cases args; simp_all
  obtain ⟨rfl, rfl⟩ := trodVars_none hV
  have hk0 := h0
  obtain ⟨cA0, cB0, cC0, cD0, cE0, cF0, cG0, yA0, yB0, yC0, yD0, yE0, yF0, yG0, mA0, hv0, hdE0, hpE0, hyA0, hyB0, hyC0, hyD0, hyE0, hyF0, hyG0⟩ := open_agg7 Try.underlying25 (by kernel_rfl) cellsW (hval 0 25 v0 rfl rfl) h0
  obtain ⟨a00, eA0, _, w00⟩ := DataW.trod_int Try.underlying3 hyA0
  obtain ⟨a10, eB0, _, w10⟩ := DataW.trod_int Try.underlying3 hyB0
  obtain ⟨a20, eC0, _, w20⟩ := DataW.trod_int Try.underlying3 hyC0
  obtain ⟨a30, eD0, _, w30⟩ := DataW.trod_int Try.underlying3 hyD0
  obtain ⟨a40, eE0, _, w40⟩ := DataW.trod_int Try.underlying3 hyE0
  obtain ⟨s0, len0, cap0, eF0⟩ : ∃ a len cap, cF0 = .slice a len cap := by
    rcases open_ints Try.underlying22 Try.underlying3 cells3 hyF0 with ⟨hcs, _⟩ | ⟨a', len', cap', ss, hcs, _⟩
    · simp at hcs; exact ⟨_, _, _, hcs⟩
    · simp at hcs; exact ⟨_, _, _, hcs⟩
  obtain ⟨sT0, lenT0, capT0, eG0⟩ : ∃ a len cap, cG0 = .slice a len cap := by
    rcases open_strings Try.underlying23 Try.underlying9 cells9 hyG0 with ⟨hcs, _⟩ | ⟨a', len', cap', ss, hcs, _⟩
    · simp at hcs; exact ⟨_, _, _, hcs⟩
    · simp at hcs; exact ⟨_, _, _, hcs⟩
  simp at eA0 eB0 eC0 eD0 eE0
  subst eA0 eB0 eC0 eD0 eE0 eF0 eG0
  subst hv0
  obtain ⟨xs0, hr0, hno0, hd0⟩ := open_listI enc W s0 len0 cap0 yF0.1 yF0.2 ⟨mA0, by simpa [Value.cells] using hyF0⟩
  have hz0 : xs0.length * 8 ≤ 140737488351232 := hd0 (fun k hk => by
    have h1 : k ∈ DataW.weights Try.prog 25 d0 := by
      rw [hdE0]
      simp only [DataW.weights, Try.underlying25]
      simp [DataW.weightsEach, hk]
    have h2 := List.all_eq_true.1 hsz _ (DataW.weights_mem_each (j := 0) (t := 25) rfl rfl k h1)
    have h3 : k ≤ reachBytes := by simpa using h2
    unfold reachBytes at h3
    omega)
  obtain ⟨ts0, ht0, hdt0, hnt0⟩ := open_list enc W sT0 lenT0 capT0 yG0.1 yG0.2 ⟨mA0, by simpa [Value.cells] using hyG0⟩
  have hno20 : ∀ k c, Value.slice sT0 lenT0 capT0 = .slice none k c → c = 0 := fun k c e => by
    have e1 := Value.slice.inj e
    rw [← e1.2.2]
    exact hnt0 e1.1
  have hst0 : (∀ x ∈ ts0, x.size ≤ 140737488351232) ∧ ts0.length * 16 ≤ 140737488351232 := hdt0 (fun k hk => by
    have h1 : k ∈ DataW.weights Try.prog 25 d0 := by
      rw [hdE0]
      simp only [DataW.weights, Try.underlying25]
      simp [DataW.weightsEach, hk]
    have h2 := List.all_eq_true.1 hsz _ (DataW.weights_mem_each (j := 0) (t := 25) rfl rfl k h1)
    have h3 : k ≤ reachBytes := by simpa using h2
    unfold reachBytes at h3
    omega)
  have hk1 := h1
  obtain ⟨cA1, cB1, cC1, cD1, cE1, cF1, cG1, yA1, yB1, yC1, yD1, yE1, yF1, yG1, mA1, hv1, hdE1, hpE1, hyA1, hyB1, hyC1, hyD1, hyE1, hyF1, hyG1⟩ := open_agg7 Try.underlying25 (by kernel_rfl) cellsW (hval 1 25 v1 rfl rfl) h1
  obtain ⟨a01, eA1, _, w01⟩ := DataW.trod_int Try.underlying3 hyA1
  obtain ⟨a11, eB1, _, w11⟩ := DataW.trod_int Try.underlying3 hyB1
  obtain ⟨a21, eC1, _, w21⟩ := DataW.trod_int Try.underlying3 hyC1
  obtain ⟨a31, eD1, _, w31⟩ := DataW.trod_int Try.underlying3 hyD1
  obtain ⟨a41, eE1, _, w41⟩ := DataW.trod_int Try.underlying3 hyE1
  obtain ⟨s1, len1, cap1, eF1⟩ : ∃ a len cap, cF1 = .slice a len cap := by
    rcases open_ints Try.underlying22 Try.underlying3 cells3 hyF1 with ⟨hcs, _⟩ | ⟨a', len', cap', ss, hcs, _⟩
    · simp at hcs; exact ⟨_, _, _, hcs⟩
    · simp at hcs; exact ⟨_, _, _, hcs⟩
  obtain ⟨sT1, lenT1, capT1, eG1⟩ : ∃ a len cap, cG1 = .slice a len cap := by
    rcases open_strings Try.underlying23 Try.underlying9 cells9 hyG1 with ⟨hcs, _⟩ | ⟨a', len', cap', ss, hcs, _⟩
    · simp at hcs; exact ⟨_, _, _, hcs⟩
    · simp at hcs; exact ⟨_, _, _, hcs⟩
  simp at eA1 eB1 eC1 eD1 eE1
  subst eA1 eB1 eC1 eD1 eE1 eF1 eG1
  subst hv1
  obtain ⟨xs1, hr1, hno1, hd1⟩ := open_listI enc W s1 len1 cap1 yF1.1 yF1.2 ⟨mA1, by simpa [Value.cells] using hyF1⟩
  have hz1 : xs1.length * 8 ≤ 140737488351232 := hd1 (fun k hk => by
    have h1 : k ∈ DataW.weights Try.prog 25 d1 := by
      rw [hdE1]
      simp only [DataW.weights, Try.underlying25]
      simp [DataW.weightsEach, hk]
    have h2 := List.all_eq_true.1 hsz _ (DataW.weights_mem_each (j := 1) (t := 25) rfl rfl k h1)
    have h3 : k ≤ reachBytes := by simpa using h2
    unfold reachBytes at h3
    omega)
  obtain ⟨ts1, ht1, hdt1, hnt1⟩ := open_list enc W sT1 lenT1 capT1 yG1.1 yG1.2 ⟨mA1, by simpa [Value.cells] using hyG1⟩
  have hno21 : ∀ k c, Value.slice sT1 lenT1 capT1 = .slice none k c → c = 0 := fun k c e => by
    have e1 := Value.slice.inj e
    rw [← e1.2.2]
    exact hnt1 e1.1
  have hst1 : (∀ x ∈ ts1, x.size ≤ 140737488351232) ∧ ts1.length * 16 ≤ 140737488351232 := hdt1 (fun k hk => by
    have h1 : k ∈ DataW.weights Try.prog 25 d1 := by
      rw [hdE1]
      simp only [DataW.weights, Try.underlying25]
      simp [DataW.weightsEach, hk]
    have h2 := List.all_eq_true.1 hsz _ (DataW.weights_mem_each (j := 1) (t := 25) rfl rfl k h1)
    have h3 : k ≤ reachBytes := by simpa using h2
    unfold reachBytes at h3
    omega)
  obtain ⟨a2, len2, cap2, rfl⟩ := okWide_slice Try.underlying23 (hval 2 23 v2 rfl rfl)
  obtain ⟨xs2, hr2, hd2, hz2⟩ := open_list enc W a2 len2 cap2 d2 p2 h2
  have hno2 : ∀ k c, Value.slice a2 len2 cap2 = .slice none k c → c = 0 := fun k c e => by injection e with e1 _ e3; rw [← e3]; exact hz2 e1
  have hsz2 : (∀ x ∈ xs2, x.size ≤ 140737488351232) ∧ xs2.length * 16 ≤ 140737488351232 := hd2 (fun k hk => by
    have h2 := List.all_eq_true.1 hsz _ (DataW.weights_mem_each (j := 2) (t := 23) rfl rfl k hk)
    have h3 : k ≤ reachBytes := by simpa using h2
    unfold reachBytes at h3
    omega)
  clear hA0 hval0 hsz0 hsz
  simp only [List.append_nil] at hW'
  have hlt0 : ∀ x ∈ p0, x.block < W.heap.size := fun x hx => by simpa using hW'.lt x (by simp [hx])
  have hargs0k : ∀ (W' : World), Below W.heap.size W W' → DataW.Trod enc Try.prog W' 0 (fun b => decide (b < W.heap.size)) true 25 (.agg #[.int .i64 a00, .int .i64 a10, .int .i64 a20, .int .i64 a30, .int .i64 a40, .slice s0 len0 cap0, .slice sT0 lenT0 capT0]) d0 p0 :=
    fun W' hn => Below.trod laidOut (by kernel_rfl) (of_decide_eq_true (by kernel_rfl)) hk0 hn hlt0
  have hlt1 : ∀ x ∈ p1, x.block < W.heap.size := fun x hx => by simpa using hW'.lt x (by simp [hx])
  have hargs1k : ∀ (W' : World), Below W.heap.size W W' → DataW.Trod enc Try.prog W' 0 (fun b => decide (b < W.heap.size)) true 25 (.agg #[.int .i64 a01, .int .i64 a11, .int .i64 a21, .int .i64 a31, .int .i64 a41, .slice s1 len1 cap1, .slice sT1 lenT1 capT1]) d1 p1 :=
    fun W' hn => Below.trod laidOut (by kernel_rfl) (of_decide_eq_true (by kernel_rfl)) hk1 hn hlt1
  have hlt2 : ∀ x ∈ p2, x.block < W.heap.size := fun x hx => by simpa using hW'.lt x (by simp [hx])
  have hargs2k : ∀ (W' : World), Below W.heap.size W W' → DataW.Trod enc Try.prog W' 0 (fun b => decide (b < W.heap.size)) true 23 (.slice a2 len2 cap2) d2 p2 :=
    fun W' hn => Below.trod laidOut (by kernel_rfl) (of_decide_eq_true (by kernel_rfl)) h2 hn hlt2
  refine (Go.Proofs.Ythpfgdhmpeadeaa.w3.apart_walk a00 w00 a10 w10 a20 w20 a30 w30 a40 w40 s0 sT0 len0 cap0 lenT0 capT0 xs0 ts0 hr0 hno0.1 hno0.2 hz0 ht0 hno20 hst0.1 hst0.2 a01 w01 a11 w11 a21 w21 a31 w31 a41 w41 s1 sT1 len1 cap1 lenT1 capT1 xs1 ts1 hr1 hno1.1 hno1.2 hz1 ht1 hno21 hst1.1 hst1.2 (.slice a2 len2 cap2) xs2 hr2 hno2 hsz2.1 hsz2.2).mono fun e W' ⟨he, hb⟩ => ?_
  subst he
  have hA2 : DataW.TrodAll enc Try.prog W' 0 (fun b => decide (b < W.heap.size)) true [25, 25, 23] [.agg #[.int .i64 a00, .int .i64 a10, .int .i64 a20, .int .i64 a30, .int .i64 a40, .slice s0 len0 cap0, .slice sT0 lenT0 capT0], .agg #[.int .i64 a01, .int .i64 a11, .int .i64 a21, .int .i64 a31, .int .i64 a41, .slice s1 len1 cap1, .slice sT1 lenT1 capT1], .slice a2 len2 cap2] [d0, d1, d2] (p0 ++ p1 ++ p2) := by simpa using (trodAll_cons_mk (hargs0k _ hb) (trodAll_cons_mk (hargs1k _ hb) (trodAll_cons_mk (hargs2k _ hb) trodAll_mk0)))
  exact ⟨_, rfl, _, _, _, [], p0 ++ p1 ++ p2, [], hW', trodAll_cons_mk (shut_bool Try.underlying4 _) trodAll_mk0, hA2, rfl, hb.frame _, fun h => by cases h⟩

theorem over : Rows.wireApartRow.holds Try.pinned (OpenSpec.ofChange Rows.wireApartSpec) :=
  OpenClaim.holds_of_wide 4 Try.f4 rfl rfl rfl rfl rfl rfl rfl ⟨rfl, rfl, rfl, rfl, rfl⟩ rfl rfl rfl rfl rfl (by kernel_rfl) Try.func4 (by kernel_rfl)
    (of_decide_eq_true (by kernel_rfl)) (by unfold Func.isWrapper; first | (rw [if_pos (by decide +kernel)]; kernel_rfl) | (rw [if_neg (by decide +kernel)]; exact ⟨rfl, rfl⟩))
    (fun os started H enc _ => lifted os started H enc)
end Go.Proofs.Ythpfgdhmpeadeaa.wireApart
namespace Go.Proofs.Ythpfgdhmpeadeaa
theorem wireApart_holds : Rows.WireApartSaid := wireApart.over
#print axioms wireApart_holds
end Go.Proofs.Ythpfgdhmpeadeaa
