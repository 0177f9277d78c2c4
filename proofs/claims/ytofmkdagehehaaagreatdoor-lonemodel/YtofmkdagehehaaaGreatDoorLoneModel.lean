import Derived.Test.YtofmkdagehehaaaGreatDoorB8
import Derived.Test.YtofmkdagehehaaaGreatDoorA4
import Derived.ChangeSlices
import Derived.Deep.MidRow
import Derived.Test.YtofmkdagehehaaaGreatDoorTie
import Derived.Test.YtofmkdagehehaaaGreatDoorCards
import Derived.ProofKit
import Derived.LaidMore
import Derived.OpenShut
import Derived.SliceStrings
import Derived.Carry
import Derived.Stop.Joined
import Derived.SevenTiedAt
import Derived.SizedLaws
import Derived.Lib.SmallJoins
namespace Go.Proofs.YtofmkdagehehaaaGreatDoor.loneModel
open Go.ChangeShapes Go.WideShapes Go.ChangeAt Go.WideMaps Go.WideElems Go.RowKit Go.Joins
open Go.ChangeMaps (open_string shut_string)
open Go.Proofs.YtofmkdagehehaaaGreatDoor.ft
open Go.Proofs.YtofmkdagehehaaaGreatDoor.ka Go.Proofs.YtofmkdagehehaaaGreatDoor.hk
set_option linter.unusedVariables false

theorem laidOut : laidOutB Tryz.prog = true := by kernel_rfl
theorem cellsA : Tryz.prog.cellsOf 38 = 2 := by kernel_rfl

theorem cells9 : Tryz.prog.cellsOf 9 = 1 := by kernel_rfl
theorem bytes9 : Tryz.prog.bytesOf 9 = 16 := by kernel_rfl
theorem weight_mem {H : Type} (l : List ByteArray) (s : ByteArray) (h : s ∈ l) : s.data.toList.length ∈ DataW.weightsAll Tryz.prog 9 (strs (H := H) l) := by
  induction l with
  | nil => cases h
  | cons x l ih =>
    show _ ∈ DataW.weights Tryz.prog 9 (.lit (.string x.data.toList)) ++ DataW.weightsAll Tryz.prog 9 (strs (H := H) l)
    rcases List.mem_cons.1 h with rfl | h
    · exact List.mem_append_left _ (by simp [DataW.weights])
    · exact List.mem_append_right _ (ih h)
theorem open_list {H : Type} (enc : TypeId × Value → H) (W : World) (a : Option Addr) (len cap : Nat) (d : DataW H) (p : List MemPlace) (h0 : DataW.Trod enc Tryz.prog W 0 (fun _ => true) true 22 (.slice a len cap) d p) :
    ∃ xs, ReadsT W (.slice a len cap) xs ∧ ((∀ k ∈ DataW.weights Tryz.prog 22 d, k ≤ 140737488351232) → (∀ x ∈ xs, x.size ≤ 140737488351232) ∧ xs.length * 16 ≤ 140737488351232) ∧ (a = none → cap = 0) := by
  obtain ⟨fuel, hf⟩ := h0
  rcases open_strings Tryz.underlying22 Tryz.underlying9 cells9 hf with ⟨hcs, hx⟩ | ⟨a', len', cap', ss, hcs, _, hl, hm, hz, hx, hcell, hws⟩
  · simp [Value.cells] at hcs
    obtain ⟨rfl, rfl, rfl⟩ := hcs
    exact ⟨[], ⟨none, 0, rfl, Nat.le_refl _, .inl rfl⟩, fun _ => ⟨fun x h => (by cases h), (by simp)⟩, fun _ => rfl⟩
  · simp [Value.cells] at hcs
    obtain ⟨rfl, rfl, rfl⟩ := hcs
    simp only [Prod.mk.injEq] at hx
    obtain ⟨rfl, rfl⟩ := hx
    simp only [if_true] at hz
    have hlen : (ss.take len).length = len := by rw [List.length_take]; omega
    refine ⟨ss.take len, ⟨some a', cap, by rw [hlen], by rw [hlen]; omega, ?_⟩, fun hw => ⟨fun x hxm => ?_, ?_⟩, fun e => by cases e⟩
    · by_cases hl0 : len = 0
      · exact .inl (by rw [hlen]; exact hl0)
      · right
        obtain ⟨b, off, spot⟩ := a'
        have hspot : spot = none := by simpa [Addr.add] using World.cell?_spot (hcell 0 (by omega))
        subst hspot
        refine ⟨b, off, rfl, fun i hi => ?_⟩
        rw [hlen] at hi
        have := hcell i (by omega)
        rw [Addr.add_mid] at this
        rw [this, List.getD_eq_getElem?_getD, List.getD_eq_getElem?_getD, List.getElem?_take, if_pos hi]
    · have h1 := weight_mem (H := H) _ _ hxm
      have h2 := hw x.data.toList.length (by
        simp only [DataW.weights, Tryz.underlying22]
        exact List.mem_cons_of_mem _ (List.mem_append_left _ h1))
      have e : x.data.toList.length = x.size := Array.length_toList
      omega
    · have h2 := hw (((strs (H := H) (ss.take len)).length + (strs (H := H) (ss.drop len)).length) * 16) (by
        simp only [DataW.weights, Tryz.underlying22, bytes9]
        exact List.mem_cons_self)
      rw [hlen]
      simp only [strs, List.length_map, List.length_take, List.length_drop] at h2
      omega
theorem cells22 : Tryz.prog.cellsOf 22 = 1 := by kernel_rfl
theorem bytes22 : Tryz.prog.bytesOf 22 = 24 := by kernel_rfl
theorem all_mem {H : Type} (t : TypeId) (l : List (DataW H)) (d : DataW H) (h : d ∈ l) (k : Nat) (hk : k ∈ DataW.weights Tryz.prog t d) : k ∈ DataW.weightsAll Tryz.prog t l := by
  induction l with
  | nil => cases h
  | cons x l ih =>
    show _ ∈ DataW.weights Tryz.prog t x ++ DataW.weightsAll Tryz.prog t l
    rcases List.mem_cons.1 h with rfl | h
    · exact List.mem_append_left _ hk
    · exact List.mem_append_right _ (ih h)
theorem picks {P : Nat → List ByteArray → Prop} (len : Nat) (h : ∀ i, i < len → ∃ l, P i l) : ∃ bs : List (List ByteArray), bs.length = len ∧ ∀ i l, bs[i]? = some l → P i l := by
  induction len with
  | zero => exact ⟨[], rfl, fun i l h => by simp at h⟩
  | succ n ih =>
    obtain ⟨bs, h1, h2⟩ := ih (fun i hi => h i (by omega))
    obtain ⟨x, hx⟩ := h n (by omega)
    refine ⟨bs ++ [x], by simp [h1], fun i l hl => ?_⟩
    by_cases hi : i < n
    · rw [List.getElem?_append_left (by omega)] at hl
      exact h2 i l hl
    · rw [List.getElem?_append_right (by omega)] at hl
      have hi' : i = n := by have := (List.getElem?_eq_some_iff.1 hl).1; simp at this; omega
      subst hi'
      rw [h1, Nat.sub_self] at hl
      simp at hl
      rw [← hl]
      exact hx
theorem open_lists {H : Type} (enc : TypeId × Value → H) (W : World) (a : Option Addr) (len cap : Nat) (d : DataW H) (p : List MemPlace) (h0 : DataW.Trod enc Tryz.prog W 0 (fun _ => true) true 33 (.slice a len cap) d p) :
    ∃ bs, ReadsL W (.slice a len cap) bs ∧ ((∀ k ∈ DataW.weights Tryz.prog 33 d, k ≤ 140737488351232) → bs.length * 24 ≤ 140737488351232 ∧ ∀ l ∈ bs, l.length * 16 ≤ 140737488351232) := by
  obtain ⟨fuel, hf⟩ := h0
  rcases DataW.trod_slice Tryz.underlying33 hf with ⟨hcs, hx⟩ | ⟨a', len', cap', elems, rest, n, _, hcs, hx, hb, hl, hm, hlen, hel, hsp, hns⟩
  · simp [Value.cells] at hcs
    obtain ⟨rfl, rfl, rfl⟩ := hcs
    exact ⟨[], ⟨none, 0, rfl, .inl rfl⟩, fun _ => ⟨by simp, fun l h => by cases h⟩⟩
  · simp [Value.cells] at hcs
    obtain ⟨rfl, rfl, rfl⟩ := hcs
    simp only [Prod.mk.injEq] at hx
    obtain ⟨rfl, _⟩ := hx
    obtain ⟨bs, hbl, hbs⟩ := picks (P := fun i l => ∃ y a2 l2 c2, elems[i]? = some y ∧ W.cell? (a'.add i) = some (.slice a2 l2 c2) ∧ ReadsT W (.slice a2 l2 c2) l ∧ ((∀ k ∈ DataW.weights Tryz.prog 22 y.1, k ≤ 140737488351232) → (∀ x ∈ l, x.size ≤ 140737488351232) ∧ l.length * 16 ≤ 140737488351232) ∧ (a2 = none → c2 = 0)) len (fun i hi => by
      have h1 := hel i hi
      obtain ⟨y, hy⟩ : ∃ y, elems[i]? = some y := ⟨elems[i]'(by omega), List.getElem?_eq_getElem _⟩
      rw [hy, cells22, Nat.mul_one, Option.bind_eq_some_iff] at h1
      obtain ⟨cs', hc1, hc2⟩ := h1
      obtain ⟨a2, l2, c2, rfl⟩ : ∃ a2 l2 c2, cs' = [.slice a2 l2 c2] := by
        rcases open_strings Tryz.underlying22 Tryz.underlying9 cells9 hc2 with ⟨h2, _⟩ | ⟨a2, l2, c2, ss, h2, _⟩
        · exact ⟨_, _, _, h2⟩
        · exact ⟨_, _, _, h2⟩
      obtain ⟨xs, hr, hd, hz⟩ := open_list enc W a2 l2 c2 y.1 y.2 ⟨n, by simpa [Value.cells] using hc2⟩
      exact ⟨xs, y, a2, l2, c2, hy, cell_of_cells?_one hc1, hr, hd, hz⟩)
    refine ⟨bs, ⟨some a', cap, by rw [hbl], ?_⟩, fun hw => ⟨?_, fun l hl' => ?_⟩⟩
    · by_cases hl0 : len = 0
      · exact .inl (by rw [hbl]; exact hl0)
      · right
        obtain ⟨b, off, spot⟩ := a'
        have hspot : spot = none := by
          obtain ⟨y, a2, l2, c2, _, hc, _⟩ := hbs 0 (bs[0]'(by omega)) (List.getElem?_eq_getElem _)
          simpa [Addr.add] using World.cell?_spot hc
        subst hspot
        refine ⟨b, off, rfl, fun i l hil => ?_⟩
        obtain ⟨y, a2, l2, c2, _, hc, hr, _, hz⟩ := hbs i l hil
        obtain ⟨a3, c3, e3, hle, _⟩ := id hr
        injection e3 with e4 e5 e6
        subst e4 e5 e6
        rw [Addr.add_mid] at hc
        exact ⟨a2, c2, hc, hr, fun e => by have := hz e; omega⟩
    · have h2 := hw ((elems.map (·.1)).length * 24 + (rest.map (·.1)).length * 24) (by
        simp only [DataW.weights, Tryz.underlying33, bytes22, Nat.add_mul]
        exact List.mem_cons_self)
      simp only [List.length_map] at h2
      omega
    · obtain ⟨i, hi⟩ := List.getElem?_of_mem hl'
      obtain ⟨y, a2, l2, c2, hy, _, _, hd, _⟩ := hbs i l hi
      refine (hd (fun k hk => hw k ?_)).2
      simp only [DataW.weights, Tryz.underlying33]
      exact List.mem_cons_of_mem _ (List.mem_append_left _ (all_mem 22 _ y.1 (List.mem_map.2 ⟨y, List.mem_of_getElem? hy, rfl⟩) k hk))

set_option maxRecDepth 100000 in
theorem lifted (os : Os) (started : os.Started) (H : Type) (enc : TypeId × Value → H) :
    ReturnsInHanded {} Tryz.checked os 4 .any (fun w args => (Rows.loneModelSpec.pre enc Tryz.prog Tryz.f4 [] false w args ∧ laidMetH Tryz.prog laid2 w) ∧ sizedMet enc Tryz.prog Tryz.f4 (OpenSpec.ofChange Rows.loneModelSpec) false w args)
      (Rows.loneModelSpec.post enc Tryz.prog Tryz.f4 false true false false) := by
  refine returnsInHanded_of_change_and (C := Tryz.checked) (X := fun w _ => laidMetH Tryz.prog laid2 w) (fun _ _ _ hh h => h.of_heap hh) own started (by kernel_rfl) Tryz.func4
    (ChangeSpec.witness_shaped (enc := enc) (C := Tryz.checked) (os := os) (X := fun w _ => laidMetH Tryz.prog laid2 w) false (World.doorLaid Tryz.prog 400 os) #[.int .i64 0, .int .i64 0, .int .i64 0, .slice none 0 0, .int .i64 0, .agg #[.int .i64 0, .int .i64 0], .int .i64 0] 8 rfl (World.shaped_of_RefB (by kernel_rfl) (by kernel_rfl)) (by kernel_rfl) (by kernel_rfl) (by kernel_rfl) (door_met2 os _)) ?_
  intro W base args ds gs before hval0 hW _ hsz0 hL _
  have hval : ∀ (j : Nat) t v, Tryz.f4.params[j]? = some t → args[j]? = some v → Value.okWide Tryz.prog W .any base t v := hval0
  have hW' := hW
  obtain ⟨p, q, hA0, hV, rfl, hfz, hnd⟩ := hW
  have hA : DataW.TrodAll enc Tryz.prog W 0 (fun _ => true) true Tryz.f4.params.toList args.toList ds p := hA0
  have hsz : (DataW.weightsEach Tryz.prog (Tryz.f4.params.toList ++ Rows.loneModelSpec.plain.varTypes Tryz.prog) (ds ++ gs)).all (· ≤ reachBytes) = true := hsz0
  rw [Tryz.params4] at hA hval hsz
  obtain ⟨v0, vs0, d0, ds0, p0, q0, hargs0, rfl, rfl, h0, r0⟩ := trodAll_cons hA
  obtain ⟨v1, vs1, d1, ds1, p1, q1, rfl, rfl, rfl, h1, r1⟩ := trodAll_cons r0
  obtain ⟨v2, vs2, d2, ds2, p2, q2, rfl, rfl, rfl, h2, r2⟩ := trodAll_cons r1
  obtain ⟨v3, vs3, d3, ds3, p3, q3, rfl, rfl, rfl, h3, r3⟩ := trodAll_cons r2
  obtain ⟨v4, vs4, d4, ds4, p4, q4, rfl, rfl, rfl, h4, r4⟩ := trodAll_cons r3
  obtain ⟨v5, vs5, d5, ds5, p5, q5, rfl, rfl, rfl, h5, r5⟩ := trodAll_cons r4
  obtain ⟨v6, vs6, d6, ds6, p6, q6, rfl, rfl, rfl, h6, r6⟩ := trodAll_cons r5
  obtain ⟨rfl, rfl, rfl⟩ := trodAll_nil r6
  obtain rfl : args = #[v0, v1, v2, v3, v4, v5, v6] := by cases args; simp_all
  obtain ⟨rfl, rfl⟩ := trodVars_none hV
  obtain ⟨a0, rfl, rfl, rfl, w0⟩ := open_int Tryz.underlying3 (hval 0 3 v0 rfl rfl) h0
  obtain ⟨a1, rfl, rfl, rfl, w1⟩ := open_int Tryz.underlying3 (hval 1 3 v1 rfl rfl) h1
  obtain ⟨a2, rfl, rfl, rfl, w2⟩ := open_int Tryz.underlying3 (hval 2 3 v2 rfl rfl) h2
  obtain ⟨a3, len3, cap3, rfl⟩ := okWide_slice Tryz.underlying33 (hval 3 33 v3 rfl rfl)
  obtain ⟨xs3, hr3, hd3⟩ := open_lists enc W a3 len3 cap3 d3 p3 h3
  have hsz3 : xs3.length * 24 ≤ 140737488351232 ∧ ∀ l ∈ xs3, l.length * 16 ≤ 140737488351232 := hd3 (fun k hk => by
    have h2 := List.all_eq_true.1 hsz _ (DataW.weights_mem_each (j := 3) (t := 33) rfl rfl k hk)
    have h3 : k ≤ reachBytes := by simpa using h2
    unfold reachBytes at h3
    omega)
  obtain ⟨a4, rfl, rfl, rfl, w4⟩ := open_int Tryz.underlying3 (hval 4 3 v4 rfl rfl) h4
  obtain ⟨cA5, cB5, yA5, yB5, mA5, rfl, rfl, rfl, hyA5, hyB5⟩ := open_agg2 Tryz.underlying38 (by kernel_rfl) cellsA (hval 5 38 v5 rfl rfl) h5
  obtain ⟨a5, eA5, rfl, wA5⟩ := DataW.trod_int Tryz.underlying3 hyA5
  obtain ⟨b5, eB5, rfl, wB5⟩ := DataW.trod_int Tryz.underlying3 hyB5
  simp at eA5 eB5
  subst eA5 eB5
  have sr5 : ∀ (W' : World) (sp : Nat → Bool), DataW.Trod enc Tryz.prog W' 0 sp true 38 (.agg #[.int .i64 a5, .int .i64 b5]) (.agg [.lit (.int .i64 a5), .lit (.int .i64 b5)]) [] := fun W' sp =>
    shut_agg2 (y0 := (.lit (.int .i64 a5), [])) (y1 := (.lit (.int .i64 b5), [])) Tryz.underlying38 (by kernel_rfl) cellsA ⟨1, by simp [DataW.trod, Tryz.underlying3, wA5]⟩ ⟨1, by simp [DataW.trod, Tryz.underlying3, wB5]⟩
  obtain ⟨a6, rfl, rfl, rfl, w6⟩ := open_int Tryz.underlying3 (hval 6 3 v6 rfl rfl) h6
  have tabs := of_laid2 hL
  clear hA0 hval0 hsz0 hsz
  simp only [List.append_nil] at hW'
  have hlt3 : ∀ x ∈ p3, x.block < W.heap.size := fun x hx => by simpa using hW'.lt x (by simp [hx])
  have hargs3k : ∀ (W' : World), Below W.heap.size W W' → DataW.Trod enc Tryz.prog W' 0 (fun b => decide (b < W.heap.size)) true 33 (.slice a3 len3 cap3) d3 p3 :=
    fun W' hn => Below.trod laidOut (by kernel_rfl) (of_decide_eq_true (by kernel_rfl)) h3 hn hlt3
  refine (Go.Proofs.YtofmkdagehehaaaGreatDoor.wo.model_walk W a0 w0 a1 w1 a2 w2 (.slice a3 len3 cap3) xs3 hr3 hsz3.1 hsz3.2 a4 w4 a5 b5 wA5 wB5 a6 w6 tabs).mono fun e W' ⟨he, hnx⟩ => ?_
  subst he
  have hA2 : DataW.TrodAll enc Tryz.prog W' 0 (fun b => decide (b < W.heap.size)) true [3, 3, 3, 33, 3, 38, 3] [.int .i64 a0, .int .i64 a1, .int .i64 a2, .slice a3 len3 cap3, .int .i64 a4, .agg #[.int .i64 a5, .int .i64 b5], .int .i64 a6] [.lit (.int .i64 a0), .lit (.int .i64 a1), .lit (.int .i64 a2), d3, .lit (.int .i64 a4), .agg [.lit (.int .i64 a5), .lit (.int .i64 b5)], .lit (.int .i64 a6)] (p3) := by simpa using (trodAll_cons_mk (shut_int Tryz.underlying3 w0) (trodAll_cons_mk (shut_int Tryz.underlying3 w1) (trodAll_cons_mk (shut_int Tryz.underlying3 w2) (trodAll_cons_mk (hargs3k _ hnx) (trodAll_cons_mk (shut_int Tryz.underlying3 w4) (trodAll_cons_mk (sr5 _ _) (trodAll_cons_mk (shut_int Tryz.underlying3 w6) trodAll_mk0)))))))
  exact ⟨_, rfl, _, _, _, [], p3, [], hW', trodAll_cons_mk (shut_bool Tryz.underlying4 _) trodAll_mk0, hA2, rfl, hnx.frame _, fun h => by cases h⟩

theorem row_holds : Rows.LoneModelSaid :=
  OpenClaim.holds_of_wide 4 Tryz.f4 rfl rfl rfl rfl rfl rfl rfl ⟨rfl, rfl, rfl, rfl, rfl⟩ rfl rfl rfl rfl rfl (by kernel_rfl) Tryz.func4 (by kernel_rfl)
    (of_decide_eq_true (by kernel_rfl)) (by unfold Func.isWrapper; first | (rw [if_pos (by decide +kernel)]; kernel_rfl) | (rw [if_neg (by decide +kernel)]; exact ⟨rfl, rfl⟩))
    (fun os started H enc _ => lifted os started H enc)

theorem card_holds : Rows.LoneModelCardSaid :=
  Claim7.holds_tied_plain_at .later [] [.data, .data] true (true, "b077d7a1286e417dad01f993e5fd7bb70cb8a30e59bad197bfa8f56ff49182c1") true
    row_holds (fun _ h => by cases h) (by kernel_rfl) (fun _ h => by cases h) loneModel_row_tie rfl ⟨rfl, rfl⟩ (by kernel_rfl) rfl
    (fun f fn hf hfn => by
      obtain rfl : f = 4 := Option.some.inj ((show Tryz.prog.funcNamed "annals/annalslaw15.LoneModel" = some 4 by kernel_rfl).symm.trans hf) |>.symm
      obtain rfl : fn = Tryz.f4 := (Option.some.inj (Tryz.func4.symm.trans hfn)).symm
      exact ⟨by kernel_rfl, fun j t ht => by
        rw [Tryz.params4] at ht
        have hm : t ∈ ([3, 3, 3, 33, 3, 38, 3] : List TypeId) := by simpa using Array.mem_of_getElem? ht
        have hall : (([3, 3, 3, 33, 3, 38, 3] : List TypeId).all fun u => !Tryz.prog.wantsStandIn u) = true := by kernel_rfl
        exact (show Tryz.prog.wantsStandIn t = false by simpa using List.all_eq_true.1 hall t hm)⟩)
    (by kernel_rfl)
end Go.Proofs.YtofmkdagehehaaaGreatDoor.loneModel
namespace Go.Proofs.YtofmkdagehehaaaGreatDoor
theorem loneModel_holds : Rows.LoneModelCardSaid := loneModel.card_holds
#print axioms loneModel_holds
end Go.Proofs.YtofmkdagehehaaaGreatDoor
