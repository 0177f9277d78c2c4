import Derived.Test.YthmfljjpanghgaaDoorH2
import Derived.Test.YthmfljjpanghgaaDoorG2
import Derived.Test.YthmfljjpanghgaaDoorG4
import Derived.ChangeSlices
import Derived.Deep.MidRow
import Derived.Test.YthmfljjpanghgaaDoorTie
import Derived.Test.YthmfljjpanghgaaDoorCards
import Derived.ProofKit
import Derived.LaidMore
import Derived.OpenShut
import Derived.SliceStrings
import Derived.Carry
import Derived.Stop.Joined
import Derived.SevenTiedAt
import Derived.SizedLaws
import Derived.Lib.SmallJoins
namespace Go.Proofs.YthmfljjpanghgaaDoor.checkSound
open Go.ChangeShapes Go.WideShapes Go.ChangeAt Go.WideMaps Go.WideElems Go.RowKit Go.Joins
open Go.ChangeMaps (open_string shut_string)
open Go.Proofs.YthmfljjpanghgaaDoor.ft
open Go.Proofs.YthmfljjpanghgaaDoor.ka
set_option linter.unusedVariables false

theorem laidOut : laidOutB Tryd.prog = true := by kernel_rfl
theorem cells3 : Tryd.prog.cellsOf 3 = 1 := by kernel_rfl
theorem bytes3 : Tryd.prog.bytesOf 3 = 8 := by kernel_rfl
theorem open_listI {H : Type} (enc : TypeId × Value → H) (W : World) (a : Option Addr) (len cap : Nat) (d : DataW H) (p : List MemPlace) (h0 : DataW.Trod enc Tryd.prog W 0 (fun _ => true) true 22 (.slice a len cap) d p) :
    ∃ xs, Go.Proofs.YthmfljjpanghgaaDoor.mi.ReadsI W (.slice a len cap) xs ∧ (∀ k c, Value.slice a len cap = .slice none k c → c = 0) ∧ ((∀ k ∈ DataW.weights Tryd.prog 22 d, k ≤ 140737488351232) → xs.length * 8 ≤ 140737488351232) := by
  obtain ⟨fuel, hf⟩ := h0
  rcases open_ints Tryd.underlying22 Tryd.underlying3 cells3 hf with ⟨hcs, hx⟩ | ⟨a', len', cap', ss, hcs, _, hl, hm, hz, hx, hcell, hws⟩
  · simp [Value.cells] at hcs
    obtain ⟨rfl, rfl, rfl⟩ := hcs
    exact ⟨[], ⟨none, 0, rfl, Nat.le_refl _, .inl rfl⟩, (fun k c e => by injection e with _ _ e; exact e.symm), fun _ => by simp⟩
  · simp [Value.cells] at hcs
    obtain ⟨rfl, rfl, rfl⟩ := hcs
    simp only [Prod.mk.injEq] at hx
    obtain ⟨rfl, rfl⟩ := hx
    simp only [if_true] at hz
    have hlen : (ss.take len).length = len := by rw [List.length_take]; omega
    refine ⟨ss.take len, ⟨some a', cap, by rw [hlen], by rw [hlen]; omega, ?_⟩, (fun k c e => by cases e), fun hw => ?_⟩
    · by_cases hl0 : len = 0
      · exact .inl (by rw [hlen]; exact hl0)
      · right
        obtain ⟨b, off, spot⟩ := a'
        have hspot : spot = none := by simpa [Addr.add] using World.cell?_spot (hcell 0 (by omega))
        subst hspot
        refine ⟨b, off, rfl, fun i hi => ?_⟩
        rw [hlen] at hi
        have := hcell i (by omega)
        rw [Addr.add_mid] at this
        rw [this, List.getD_eq_getElem?_getD, List.getD_eq_getElem?_getD, List.getElem?_take, if_pos hi]
    · have h2 := hw (((lits (H := H) .i64 (ss.take len)).length + (lits (H := H) .i64 (ss.drop len)).length) * 8) (by
        simp only [DataW.weights, Tryd.underlying22, bytes3]
        exact List.mem_cons_self)
      rw [hlen]
      simp only [lits, List.length_map, List.length_take, List.length_drop] at h2
      omega


theorem cellsK : Tryd.prog.cellsOf 25 = 2 := by kernel_rfl
theorem cells9 : Tryd.prog.cellsOf 9 = 1 := by kernel_rfl
theorem bytes9 : Tryd.prog.bytesOf 9 = 16 := by kernel_rfl
theorem weight_mem {H : Type} (l : List ByteArray) (s : ByteArray) (h : s ∈ l) : s.data.toList.length ∈ DataW.weightsAll Tryd.prog 9 (strs (H := H) l) := by
  induction l with
  | nil => cases h
  | cons x l ih =>
    show _ ∈ DataW.weights Tryd.prog 9 (.lit (.string x.data.toList)) ++ DataW.weightsAll Tryd.prog 9 (strs (H := H) l)
    rcases List.mem_cons.1 h with rfl | h
    · exact List.mem_append_left _ (by simp [DataW.weights])
    · exact List.mem_append_right _ (ih h)
theorem open_list {H : Type} (enc : TypeId × Value → H) (W : World) (a : Option Addr) (len cap : Nat) (d : DataW H) (p : List MemPlace) (h0 : DataW.Trod enc Tryd.prog W 0 (fun _ => true) true 23 (.slice a len cap) d p) :
    ∃ xs, ReadsT W (.slice a len cap) xs ∧ ((∀ k ∈ DataW.weights Tryd.prog 23 d, k ≤ 140737488351232) → (∀ x ∈ xs, x.size ≤ 140737488351232) ∧ xs.length * 16 ≤ 140737488351232) ∧ (a = none → cap = 0) := by
  obtain ⟨fuel, hf⟩ := h0
  rcases open_strings Tryd.underlying23 Tryd.underlying9 cells9 hf with ⟨hcs, hx⟩ | ⟨a', len', cap', ss, hcs, _, hl, hm, hz, hx, hcell, hws⟩
  · simp [Value.cells] at hcs
    obtain ⟨rfl, rfl, rfl⟩ := hcs
    exact ⟨[], ⟨none, 0, rfl, Nat.le_refl _, .inl rfl⟩, fun _ => ⟨fun x h => (by cases h), (by simp)⟩, fun _ => rfl⟩
  · simp [Value.cells] at hcs
    obtain ⟨rfl, rfl, rfl⟩ := hcs
    simp only [Prod.mk.injEq] at hx
    obtain ⟨rfl, rfl⟩ := hx
    simp only [if_true] at hz
    have hlen : (ss.take len).length = len := by rw [List.length_take]; omega
    refine ⟨ss.take len, ⟨some a', cap, by rw [hlen], by rw [hlen]; omega, ?_⟩, fun hw => ⟨fun x hxm => ?_, ?_⟩, fun e => by cases e⟩
    · by_cases hl0 : len = 0
      · exact .inl (by rw [hlen]; exact hl0)
      · right
        obtain ⟨b, off, spot⟩ := a'
        have hspot : spot = none := by simpa [Addr.add] using World.cell?_spot (hcell 0 (by omega))
        subst hspot
        refine ⟨b, off, rfl, fun i hi => ?_⟩
        rw [hlen] at hi
        have := hcell i (by omega)
        rw [Addr.add_mid] at this
        rw [this, List.getD_eq_getElem?_getD, List.getD_eq_getElem?_getD, List.getElem?_take, if_pos hi]
    · have h1 := weight_mem (H := H) _ _ hxm
      have h2 := hw x.data.toList.length (by
        simp only [DataW.weights, Tryd.underlying23]
        exact List.mem_cons_of_mem _ (List.mem_append_left _ h1))
      have e : x.data.toList.length = x.size := Array.length_toList
      omega
    · have h2 := hw (((strs (H := H) (ss.take len)).length + (strs (H := H) (ss.drop len)).length) * 16) (by
        simp only [DataW.weights, Tryd.underlying23, bytes9]
        exact List.mem_cons_self)
      rw [hlen]
      simp only [strs, List.length_map, List.length_take, List.length_drop] at h2
      omega

set_option maxRecDepth 100000 in
theorem lifted (os : Os) (started : os.Started) (H : Type) (enc : TypeId × Value → H) :
    ReturnsInHanded {} Tryd.checked os 3 .any (fun w args => (Rows.checkSoundSpec.pre enc Tryd.prog Tryd.f3 [] false w args ∧ laidMetH Tryd.prog laid2 w) ∧ sizedMet enc Tryd.prog Tryd.f3 (OpenSpec.ofChange Rows.checkSoundSpec) false w args)
      (Rows.checkSoundSpec.post enc Tryd.prog Tryd.f3 false true false false) := by
  refine returnsInHanded_of_change_and (C := Tryd.checked) (X := fun w _ => laidMetH Tryd.prog laid2 w) (fun _ _ _ hh h => h.of_heap hh) own started (by kernel_rfl) Tryd.func3
    (ChangeSpec.witness_shaped (enc := enc) (C := Tryd.checked) (os := os) (X := fun w _ => laidMetH Tryd.prog laid2 w) false (World.doorLaid Tryd.prog 400 os) #[.int .i64 0, .int .i64 0, .slice none 0 0, .agg #[.slice none 0 0, .slice none 0 0], .agg #[.slice none 0 0, .slice none 0 0], .string ByteArray.empty] 8 rfl (World.shaped_of_RefB (by kernel_rfl) (by kernel_rfl)) (by kernel_rfl) (by kernel_rfl) (by kernel_rfl) (door_met2 os _)) ?_
  intro W base args ds gs before hval0 hW _ hsz0 hL _
  have hval : ∀ (j : Nat) t v, Tryd.f3.params[j]? = some t → args[j]? = some v → Value.okWide Tryd.prog W .any base t v := hval0
  have hW' := hW
  obtain ⟨p, q, hA0, hV, rfl, hfz, hnd⟩ := hW
  have hA : DataW.TrodAll enc Tryd.prog W 0 (fun _ => true) true Tryd.f3.params.toList args.toList ds p := hA0
  have hsz : (DataW.weightsEach Tryd.prog (Tryd.f3.params.toList ++ Rows.checkSoundSpec.plain.varTypes Tryd.prog) (ds ++ gs)).all (· ≤ reachBytes) = true := hsz0
  rw [Tryd.params3] at hA hval hsz
  obtain ⟨v0, vs0, d0, ds0, p0, q0, hargs0, rfl, rfl, h0, r0⟩ := trodAll_cons hA
  obtain ⟨v1, vs1, d1, ds1, p1, q1, rfl, rfl, rfl, h1, r1⟩ := trodAll_cons r0
  obtain ⟨v2, vs2, d2, ds2, p2, q2, rfl, rfl, rfl, h2, r2⟩ := trodAll_cons r1
  obtain ⟨v3, vs3, d3, ds3, p3, q3, rfl, rfl, rfl, h3, r3⟩ := trodAll_cons r2
  obtain ⟨v4, vs4, d4, ds4, p4, q4, rfl, rfl, rfl, h4, r4⟩ := trodAll_cons r3
  obtain ⟨v5, vs5, d5, ds5, p5, q5, rfl, rfl, rfl, h5, r5⟩ := trodAll_cons r4
  obtain ⟨rfl, rfl, rfl⟩ := trodAll_nil r5
  obtain rfl : args = #[v0, v1, v2, v3, v4, v5] := by cases args; simp_all
  obtain ⟨rfl, rfl⟩ := trodVars_none hV
  obtain ⟨a0, rfl, rfl, rfl, w0⟩ := open_int Tryd.underlying3 (hval 0 3 v0 rfl rfl) h0
  obtain ⟨a1, rfl, rfl, rfl, w1⟩ := open_int Tryd.underlying3 (hval 1 3 v1 rfl rfl) h1
  obtain ⟨a2, len2, cap2, rfl⟩ := okWide_slice Tryd.underlying22 (hval 2 22 v2 rfl rfl)
  obtain ⟨xs2, hr2, hno2, hd2⟩ := open_listI enc W a2 len2 cap2 d2 p2 h2
  have hz2 : xs2.length * 8 ≤ 140737488351232 := hd2 (fun k hk => by
    have h2 := List.all_eq_true.1 hsz _ (DataW.weights_mem_each (j := 2) (t := 22) rfl rfl k hk)
    have h3 : k ≤ reachBytes := by simpa using h2
    unfold reachBytes at h3
    omega)
  have hk3 := h3
  obtain ⟨cA3, cB3, yA3, yB3, mA3, rfl, rfl, rfl, hyA3, hyB3⟩ := open_agg2 Tryd.underlying25 (by kernel_rfl) cellsK (hval 3 25 v3 rfl rfl) h3
  have hyA23 : DataW.trod enc Tryd.prog W 0 (fun _ => true) true mA3 23 [cA3] = some yA3 := hyA3
  obtain ⟨sA3, lenA3, capA3, eA3⟩ : ∃ a len cap, cA3 = .slice a len cap := by
    rcases open_strings Tryd.underlying23 Tryd.underlying9 cells9 hyA23 with ⟨hcs, _⟩ | ⟨a', len', cap', ss, hcs, _⟩
    · simp at hcs; exact ⟨_, _, _, hcs⟩
    · simp at hcs; exact ⟨_, _, _, hcs⟩
  subst eA3
  obtain ⟨xsA3, hrA3, hdA3, hzA3⟩ := open_list enc W sA3 lenA3 capA3 yA3.1 yA3.2 ⟨mA3, by simpa [Value.cells] using hyA23⟩
  have hszA3 : (∀ x ∈ xsA3, x.size ≤ 140737488351232) ∧ xsA3.length * 16 ≤ 140737488351232 := hdA3 (fun k hk => by
    have h1 : k ∈ DataW.weights Tryd.prog 25 (.agg [yA3.1, yB3.1]) := by
      simp only [DataW.weights, Tryd.underlying25]
      simp [DataW.weightsEach, hk]
    have h2 := List.all_eq_true.1 hsz _ (DataW.weights_mem_each (j := 3) (t := 25) rfl rfl k h1)
    have h3 : k ≤ reachBytes := by simpa using h2
    unfold reachBytes at h3
    omega)
  have hyB23 : DataW.trod enc Tryd.prog W 0 (fun _ => true) true mA3 23 [cB3] = some yB3 := hyB3
  obtain ⟨sB3, lenB3, capB3, eB3⟩ : ∃ a len cap, cB3 = .slice a len cap := by
    rcases open_strings Tryd.underlying23 Tryd.underlying9 cells9 hyB23 with ⟨hcs, _⟩ | ⟨a', len', cap', ss, hcs, _⟩
    · simp at hcs; exact ⟨_, _, _, hcs⟩
    · simp at hcs; exact ⟨_, _, _, hcs⟩
  subst eB3
  obtain ⟨xsB3, hrB3, hdB3, hzB3⟩ := open_list enc W sB3 lenB3 capB3 yB3.1 yB3.2 ⟨mA3, by simpa [Value.cells] using hyB23⟩
  have hszB3 : (∀ x ∈ xsB3, x.size ≤ 140737488351232) ∧ xsB3.length * 16 ≤ 140737488351232 := hdB3 (fun k hk => by
    have h1 : k ∈ DataW.weights Tryd.prog 25 (.agg [yA3.1, yB3.1]) := by
      simp only [DataW.weights, Tryd.underlying25]
      simp [DataW.weightsEach, hk]
    have h2 := List.all_eq_true.1 hsz _ (DataW.weights_mem_each (j := 3) (t := 25) rfl rfl k h1)
    have h3 : k ≤ reachBytes := by simpa using h2
    unfold reachBytes at h3
    omega)
  have hk4 := h4
  obtain ⟨cA4, cB4, yA4, yB4, mA4, rfl, rfl, rfl, hyA4, hyB4⟩ := open_agg2 Tryd.underlying25 (by kernel_rfl) cellsK (hval 4 25 v4 rfl rfl) h4
  have hyA24 : DataW.trod enc Tryd.prog W 0 (fun _ => true) true mA4 23 [cA4] = some yA4 := hyA4
  obtain ⟨sA4, lenA4, capA4, eA4⟩ : ∃ a len cap, cA4 = .slice a len cap := by
    rcases open_strings Tryd.underlying23 Tryd.underlying9 cells9 hyA24 with ⟨hcs, _⟩ | ⟨a', len', cap', ss, hcs, _⟩
    · simp at hcs; exact ⟨_, _, _, hcs⟩
    · simp at hcs; exact ⟨_, _, _, hcs⟩
  subst eA4
  obtain ⟨xsA4, hrA4, hdA4, hzA4⟩ := open_list enc W sA4 lenA4 capA4 yA4.1 yA4.2 ⟨mA4, by simpa [Value.cells] using hyA24⟩
  have hszA4 : (∀ x ∈ xsA4, x.size ≤ 140737488351232) ∧ xsA4.length * 16 ≤ 140737488351232 := hdA4 (fun k hk => by
    have h1 : k ∈ DataW.weights Tryd.prog 25 (.agg [yA4.1, yB4.1]) := by
      simp only [DataW.weights, Tryd.underlying25]
      simp [DataW.weightsEach, hk]
    have h2 := List.all_eq_true.1 hsz _ (DataW.weights_mem_each (j := 4) (t := 25) rfl rfl k h1)
    have h3 : k ≤ reachBytes := by simpa using h2
    unfold reachBytes at h3
    omega)
  have hyB24 : DataW.trod enc Tryd.prog W 0 (fun _ => true) true mA4 23 [cB4] = some yB4 := hyB4
  obtain ⟨sB4, lenB4, capB4, eB4⟩ : ∃ a len cap, cB4 = .slice a len cap := by
    rcases open_strings Tryd.underlying23 Tryd.underlying9 cells9 hyB24 with ⟨hcs, _⟩ | ⟨a', len', cap', ss, hcs, _⟩
    · simp at hcs; exact ⟨_, _, _, hcs⟩
    · simp at hcs; exact ⟨_, _, _, hcs⟩
  subst eB4
  obtain ⟨xsB4, hrB4, hdB4, hzB4⟩ := open_list enc W sB4 lenB4 capB4 yB4.1 yB4.2 ⟨mA4, by simpa [Value.cells] using hyB24⟩
  have hszB4 : (∀ x ∈ xsB4, x.size ≤ 140737488351232) ∧ xsB4.length * 16 ≤ 140737488351232 := hdB4 (fun k hk => by
    have h1 : k ∈ DataW.weights Tryd.prog 25 (.agg [yA4.1, yB4.1]) := by
      simp only [DataW.weights, Tryd.underlying25]
      simp [DataW.weightsEach, hk]
    have h2 := List.all_eq_true.1 hsz _ (DataW.weights_mem_each (j := 4) (t := 25) rfl rfl k h1)
    have h3 : k ≤ reachBytes := by simpa using h2
    unfold reachBytes at h3
    omega)
  obtain ⟨a5, rfl, rfl, rfl, w5⟩ := open_string Tryd.underlying9 (hval 5 9 v5 rfl rfl) h5
  have z5 : a5.size ≤ 140737488351232 := by
    have h := sized_string hsz (j := 5) (t := 9) (bytes := a5.data.toList) rfl rfl
    have e : a5.data.toList.length = a5.size := Array.length_toList
    unfold reachBytes at h
    omega
  have tabs := of_laid2 hL
  clear hA0 hval0 hsz0 hsz
  simp only [List.append_nil] at hW'
  have hlt2 : ∀ x ∈ p2, x.block < W.heap.size := fun x hx => by simpa using hW'.lt x (by simp [hx])
  have hargs2k : ∀ (W' : World), Below W.heap.size W W' → DataW.Trod enc Tryd.prog W' 0 (fun b => decide (b < W.heap.size)) true 22 (.slice a2 len2 cap2) d2 p2 :=
    fun W' hn => Below.trod laidOut (by kernel_rfl) (of_decide_eq_true (by kernel_rfl)) h2 hn hlt2
  have hlt3 : ∀ x ∈ yA3.2 ++ yB3.2, x.block < W.heap.size := fun x hx => by simpa using hW'.lt x (by simp at hx ⊢; rcases hx with hx | hx <;> simp [hx])
  have hargs3k : ∀ (W' : World), Below W.heap.size W W' → DataW.Trod enc Tryd.prog W' 0 (fun b => decide (b < W.heap.size)) true 25 (.agg #[.slice sA3 lenA3 capA3, .slice sB3 lenB3 capB3]) (.agg [yA3.1, yB3.1]) (yA3.2 ++ yB3.2) :=
    fun W' hn => Below.trod laidOut (by kernel_rfl) (of_decide_eq_true (by kernel_rfl)) hk3 hn hlt3
  have hlt4 : ∀ x ∈ yA4.2 ++ yB4.2, x.block < W.heap.size := fun x hx => by simpa using hW'.lt x (by simp at hx ⊢; rcases hx with hx | hx <;> simp [hx])
  have hargs4k : ∀ (W' : World), Below W.heap.size W W' → DataW.Trod enc Tryd.prog W' 0 (fun b => decide (b < W.heap.size)) true 25 (.agg #[.slice sA4 lenA4 capA4, .slice sB4 lenB4 capB4]) (.agg [yA4.1, yB4.1]) (yA4.2 ++ yB4.2) :=
    fun W' hn => Below.trod laidOut (by kernel_rfl) (of_decide_eq_true (by kernel_rfl)) hk4 hn hlt4
  refine ((fun W wd w0 n w1 v (xs : List Int) hx hno (zx : xs.length * 8 ≤ 140737488351232) v1 ah r1 z1 v2 ap r2 z2 v3 bh r3 z3 v4 bp r4 z4 root zr tabs => Go.Proofs.YthmfljjpanghgaaDoor.zf.sound_walk W wd w0 n w1 v xs hx (by omega) v1 ah r1 z1 v2 ap r2 z2 v3 bh r3 z3 v4 bp r4 z4 root (Go.Proofs.YthmfljjpanghgaaDoor.pj.Tab.of tabs)) W a0 w0 a1 w1 (.slice a2 len2 cap2) xs2 hr2 hno2 hz2 (.slice sA3 lenA3 capA3) xsA3 hrA3 (by have := hszA3.2; omega) (.slice sB3 lenB3 capB3) xsB3 hrB3 (by have := hszB3.2; omega) (.slice sA4 lenA4 capA4) xsA4 hrA4 (by have := hszA4.2; omega) (.slice sB4 lenB4 capB4) xsB4 hrB4 (by have := hszB4.2; omega) a5 z5 tabs).mono fun e W' ⟨he, hnx⟩ => ?_
  subst he
  have hA2 : DataW.TrodAll enc Tryd.prog W' 0 (fun b => decide (b < W.heap.size)) true [3, 3, 22, 25, 25, 9] [.int .i64 a0, .int .i64 a1, .slice a2 len2 cap2, .agg #[.slice sA3 lenA3 capA3, .slice sB3 lenB3 capB3], .agg #[.slice sA4 lenA4 capA4, .slice sB4 lenB4 capB4], .string a5] [.lit (.int .i64 a0), .lit (.int .i64 a1), d2, .agg [yA3.1, yB3.1], .agg [yA4.1, yB4.1], .lit (.string a5.data.toList)] (p2 ++ (yA3.2 ++ yB3.2) ++ (yA4.2 ++ yB4.2)) := by simpa using (trodAll_cons_mk (shut_int Tryd.underlying3 w0) (trodAll_cons_mk (shut_int Tryd.underlying3 w1) (trodAll_cons_mk (hargs2k _ hnx) (trodAll_cons_mk (hargs3k _ hnx) (trodAll_cons_mk (hargs4k _ hnx) (trodAll_cons_mk (shut_string Tryd.underlying9 w5) trodAll_mk0))))))
  exact ⟨_, rfl, _, _, _, [], p2 ++ (yA3.2 ++ yB3.2) ++ (yA4.2 ++ yB4.2), [], hW', trodAll_cons_mk (shut_bool Tryd.underlying4 _) trodAll_mk0, hA2, rfl, hnx.frame _, fun h => by cases h⟩

theorem row_holds : Rows.CheckSoundSaid :=
  OpenClaim.holds_of_wide 3 Tryd.f3 rfl rfl rfl rfl rfl rfl rfl ⟨rfl, rfl, rfl, rfl, rfl⟩ rfl rfl rfl rfl rfl (by kernel_rfl) Tryd.func3 (by kernel_rfl)
    (of_decide_eq_true (by kernel_rfl)) (by unfold Func.isWrapper; first | (rw [if_pos (by decide +kernel)]; kernel_rfl) | (rw [if_neg (by decide +kernel)]; exact ⟨rfl, rfl⟩))
    (fun os started H enc _ => lifted os started H enc)

theorem card_holds : Rows.CheckSoundCardSaid :=
  Claim7.holds_tied_plain_at .later [] [.data, .data] true (true, "5809438df616f881c70342415a29c48faee805ed1ce732b9d4cbac319ba1fd77") true
    row_holds (fun _ h => by cases h) (by kernel_rfl) (fun _ h => by cases h) checkSound_row_tie rfl ⟨rfl, rfl⟩ (by kernel_rfl) rfl
    (fun f fn hf hfn => by
      obtain rfl : f = 3 := Option.some.inj ((show Tryd.prog.funcNamed "annals/annalslaw9.CheckSound" = some 3 by kernel_rfl).symm.trans hf) |>.symm
      obtain rfl : fn = Tryd.f3 := (Option.some.inj (Tryd.func3.symm.trans hfn)).symm
      exact ⟨by kernel_rfl, fun j t ht => by
        rw [Tryd.params3] at ht
        have hm : t ∈ ([3, 3, 22, 25, 25, 9] : List TypeId) := by simpa using Array.mem_of_getElem? ht
        have hall : (([3, 3, 22, 25, 25, 9] : List TypeId).all fun u => !Tryd.prog.wantsStandIn u) = true := by kernel_rfl
        exact (show Tryd.prog.wantsStandIn t = false by simpa using List.all_eq_true.1 hall t hm)⟩)
    (by kernel_rfl)
end Go.Proofs.YthmfljjpanghgaaDoor.checkSound
namespace Go.Proofs.YthmfljjpanghgaaDoor
theorem checkSound_holds : Rows.CheckSoundCardSaid := checkSound.card_holds
#print axioms checkSound_holds
end Go.Proofs.YthmfljjpanghgaaDoor
