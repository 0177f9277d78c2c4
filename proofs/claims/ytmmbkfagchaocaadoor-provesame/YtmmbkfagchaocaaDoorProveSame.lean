import Derived.Test.YtmmbkfagchaocaaDoorC6
import Derived.Test.YtmmbkfagchaocaaDoorA8
import Derived.ChangeSlices
import Derived.Deep.MidRow
import Derived.Test.YtmmbkfagchaocaaDoorTie
import Derived.Test.YtmmbkfagchaocaaDoorCards
import Derived.ProofKit
import Derived.LaidMore
import Derived.OpenShut
import Derived.SliceStrings
import Derived.Carry
import Derived.Stop.Joined
import Derived.SevenTiedAt
import Derived.SizedLaws
import Derived.Lib.SmallJoins
namespace Go.Proofs.YtmmbkfagchaocaaDoor.proveSame
open Go.ChangeShapes Go.WideShapes Go.ChangeAt Go.WideMaps Go.WideElems Go.RowKit Go.Joins
open Go.ChangeMaps (open_string shut_string)
open Go.Proofs.YtmmbkfagchaocaaDoor.ft Go.Proofs.YtmmbkfagchaocaaDoor.fk
open Go.Proofs.YtmmbkfagchaocaaDoor.ka
set_option linter.unusedVariables false

theorem laidOut : laidOutB Tryd.prog = true := by kernel_rfl
theorem cells3 : Tryd.prog.cellsOf 3 = 1 := by kernel_rfl
theorem bytes3 : Tryd.prog.bytesOf 3 = 8 := by kernel_rfl
theorem open_listH {H : Type} (enc : TypeId × Value → H) (W : World) (a : Option Addr) (len cap : Nat) (d : DataW H) (p : List MemPlace) (h0 : DataW.Trod enc Tryd.prog W 0 (fun _ => true) true 41 (.slice a len cap) d p) :
    ∃ xs, Go.Proofs.YtmmbkfagchaocaaDoor.mi.ReadsI W (.slice a len cap) xs ∧ (∀ x ∈ xs, (Lit.int .i64 x).wf = true) ∧ ((∀ k ∈ DataW.weights Tryd.prog 41 d, k ≤ 140737488351232) → xs.length * 8 ≤ 140737488351232) := by
  obtain ⟨fuel, hf⟩ := h0
  rcases open_ints Tryd.underlying41 Tryd.underlying3 cells3 hf with ⟨hcs, hx⟩ | ⟨a', len', cap', ss, hcs, _, hl, hm, hz, hx, hcell, hws⟩
  · simp [Value.cells] at hcs
    obtain ⟨rfl, rfl, rfl⟩ := hcs
    exact ⟨[], ⟨none, 0, rfl, Nat.le_refl _, .inl rfl⟩, (fun x h => by cases h), fun _ => by simp⟩
  · simp [Value.cells] at hcs
    obtain ⟨rfl, rfl, rfl⟩ := hcs
    simp only [Prod.mk.injEq] at hx
    obtain ⟨rfl, rfl⟩ := hx
    simp only [if_true] at hz
    have hlen : (ss.take len).length = len := by rw [List.length_take]; omega
    refine ⟨ss.take len, ⟨some a', cap, by rw [hlen], by rw [hlen]; omega, ?_⟩, (fun x h => hws x (List.mem_of_mem_take h)), fun hw => ?_⟩
    · by_cases hl0 : len = 0
      · exact .inl (by rw [hlen]; exact hl0)
      · right
        obtain ⟨b, off, spot⟩ := a'
        have hspot : spot = none := by simpa [Addr.add] using World.cell?_spot (hcell 0 (by omega))
        subst hspot
        refine ⟨b, off, rfl, fun i hi => ?_⟩
        rw [hlen] at hi
        have := hcell i (by omega)
        rw [Addr.add_mid] at this
        rw [this, List.getD_eq_getElem?_getD, List.getD_eq_getElem?_getD, List.getElem?_take, if_pos hi]
    · have h2 := hw (((lits (H := H) .i64 (ss.take len)).length + (lits (H := H) .i64 (ss.drop len)).length) * 8) (by
        simp only [DataW.weights, Tryd.underlying41, bytes3]
        exact List.mem_cons_self)
      rw [hlen]
      simp only [lits, List.length_map, List.length_take, List.length_drop] at h2
      omega
theorem cellsH : Tryd.prog.cellsOf 43 = 6 := by kernel_rfl
theorem array6 {α : Type} {a : Array α} (h : a.size = 6) : ∃ c0 c1 c2 c3 c4 c5, a = #[c0, c1, c2, c3, c4, c5] := by
  obtain ⟨l⟩ := a
  match l, h with
  | [c0, c1, c2, c3, c4, c5], _ => exact ⟨c0, c1, c2, c3, c4, c5, rfl⟩
theorem list6 {α : Type} {l : List α} (h : l.length = 6) : ∃ c0 c1 c2 c3 c4 c5, l = [c0, c1, c2, c3, c4, c5] := by
  match l, h with
  | [c0, c1, c2, c3, c4, c5], _ => exact ⟨c0, c1, c2, c3, c4, c5, rfl⟩
section
variable {H : Type} {enc : TypeId × Value → H} {P : Program} {w : World} {base : Nat} {spare : Nat → Bool} {held : Bool}
theorem open_agg6 {r : Reach} {b0 : Nat} {t : TypeId} {f0 f1 f2 f3 f4 f5 : Field} {v : Value} {d : DataW H} {p : List MemPlace} (hs : P.underlying t = some (.struct #[f0, f1, f2, f3, f4, f5])) (hone : Go.Deep.oneCellFields P #[f0, f1, f2, f3, f4, f5] = true) (hC : P.cellsOf t = 6)
    (hv : Value.okWide P w r b0 t v) (h : DataW.Trod enc P w base spare held t v d p) :
    ∃ (v0 v1 v2 v3 v4 v5 : Value) (y0 y1 y2 y3 y4 y5 : DataW H × List MemPlace) (n : Nat), v = .agg #[v0, v1, v2, v3, v4, v5] ∧ d = .agg [y0.1, y1.1, y2.1, y3.1, y4.1, y5.1] ∧ p = y0.2 ++ (y1.2 ++ (y2.2 ++ (y3.2 ++ (y4.2 ++ y5.2)))) ∧
      DataW.trod enc P w base spare held n f0.type [v0] = some y0 ∧ DataW.trod enc P w base spare held n f1.type [v1] = some y1 ∧ DataW.trod enc P w base spare held n f2.type [v2] = some y2 ∧ DataW.trod enc P w base spare held n f3.type [v3] = some y3 ∧ DataW.trod enc P w base spare held n f4.type [v4] = some y4 ∧ DataW.trod enc P w base spare held n f5.type [v5] = some y5 := by
  obtain ⟨cs, rfl, hsz⟩ := okWide_struct hs hv
  obtain ⟨c0, c1, c2, c3, c4, c5, rfl⟩ := array6 (hsz.trans hC)
  obtain ⟨fuel, hf⟩ := h
  obtain ⟨xs, n, _, hx, hl, hlen, hff⟩ := DataW.trod_struct hs hf
  obtain ⟨y0, y1, y2, y3, y4, y5, rfl⟩ := list6 hlen
  obtain ⟨o0, k0⟩ := Go.Deep.hone_of hone 0 f0 rfl
  obtain ⟨o1, k1⟩ := Go.Deep.hone_of hone 1 f1 rfl
  obtain ⟨o2, k2⟩ := Go.Deep.hone_of hone 2 f2 rfl
  obtain ⟨o3, k3⟩ := Go.Deep.hone_of hone 3 f3 rfl
  obtain ⟨o4, k4⟩ := Go.Deep.hone_of hone 4 f4 rfl
  obtain ⟨o5, k5⟩ := Go.Deep.hone_of hone 5 f5 rfl
  simp only [Prod.mk.injEq] at hx
  exact ⟨c0, c1, c2, c3, c4, c5, y0, y1, y2, y3, y4, y5, n, rfl, by rw [hx.1]; rfl, by rw [hx.2]; simp, by simpa [Value.cells, o0, k0] using hff 0 f0 rfl, by simpa [Value.cells, o1, k1] using hff 1 f1 rfl, by simpa [Value.cells, o2, k2] using hff 2 f2 rfl, by simpa [Value.cells, o3, k3] using hff 3 f3 rfl, by simpa [Value.cells, o4, k4] using hff 4 f4 rfl, by simpa [Value.cells, o5, k5] using hff 5 f5 rfl⟩
end



theorem cells9 : Tryd.prog.cellsOf 9 = 1 := by kernel_rfl
theorem bytes9 : Tryd.prog.bytesOf 9 = 16 := by kernel_rfl
theorem weight_mem {H : Type} (l : List ByteArray) (s : ByteArray) (h : s ∈ l) : s.data.toList.length ∈ DataW.weightsAll Tryd.prog 9 (strs (H := H) l) := by
  induction l with
  | nil => cases h
  | cons x l ih =>
    show _ ∈ DataW.weights Tryd.prog 9 (.lit (.string x.data.toList)) ++ DataW.weightsAll Tryd.prog 9 (strs (H := H) l)
    rcases List.mem_cons.1 h with rfl | h
    · exact List.mem_append_left _ (by simp [DataW.weights])
    · exact List.mem_append_right _ (ih h)
theorem open_list {H : Type} (enc : TypeId × Value → H) (W : World) (a : Option Addr) (len cap : Nat) (d : DataW H) (p : List MemPlace) (h0 : DataW.Trod enc Tryd.prog W 0 (fun _ => true) true 22 (.slice a len cap) d p) :
    ∃ xs, ReadsT W (.slice a len cap) xs ∧ ((∀ k ∈ DataW.weights Tryd.prog 22 d, k ≤ 140737488351232) → (∀ x ∈ xs, x.size ≤ 140737488351232) ∧ xs.length * 16 ≤ 140737488351232) ∧ (a = none → cap = 0) := by
  obtain ⟨fuel, hf⟩ := h0
  rcases open_strings Tryd.underlying22 Tryd.underlying9 cells9 hf with ⟨hcs, hx⟩ | ⟨a', len', cap', ss, hcs, _, hl, hm, hz, hx, hcell, hws⟩
  · simp [Value.cells] at hcs
    obtain ⟨rfl, rfl, rfl⟩ := hcs
    exact ⟨[], ⟨none, 0, rfl, Nat.le_refl _, .inl rfl⟩, fun _ => ⟨fun x h => (by cases h), (by simp)⟩, fun _ => rfl⟩
  · simp [Value.cells] at hcs
    obtain ⟨rfl, rfl, rfl⟩ := hcs
    simp only [Prod.mk.injEq] at hx
    obtain ⟨rfl, rfl⟩ := hx
    simp only [if_true] at hz
    have hlen : (ss.take len).length = len := by rw [List.length_take]; omega
    refine ⟨ss.take len, ⟨some a', cap, by rw [hlen], by rw [hlen]; omega, ?_⟩, fun hw => ⟨fun x hxm => ?_, ?_⟩, fun e => by cases e⟩
    · by_cases hl0 : len = 0
      · exact .inl (by rw [hlen]; exact hl0)
      · right
        obtain ⟨b, off, spot⟩ := a'
        have hspot : spot = none := by simpa [Addr.add] using World.cell?_spot (hcell 0 (by omega))
        subst hspot
        refine ⟨b, off, rfl, fun i hi => ?_⟩
        rw [hlen] at hi
        have := hcell i (by omega)
        rw [Addr.add_mid] at this
        rw [this, List.getD_eq_getElem?_getD, List.getD_eq_getElem?_getD, List.getElem?_take, if_pos hi]
    · have h1 := weight_mem (H := H) _ _ hxm
      have h2 := hw x.data.toList.length (by
        simp only [DataW.weights, Tryd.underlying22]
        exact List.mem_cons_of_mem _ (List.mem_append_left _ h1))
      have e : x.data.toList.length = x.size := Array.length_toList
      omega
    · have h2 := hw (((strs (H := H) (ss.take len)).length + (strs (H := H) (ss.drop len)).length) * 16) (by
        simp only [DataW.weights, Tryd.underlying22, bytes9]
        exact List.mem_cons_self)
      rw [hlen]
      simp only [strs, List.length_map, List.length_take, List.length_drop] at h2
      omega

theorem door_met7 (os : Os) (args : Array Value) : laidMetH Tryd.prog laid7 ((World.doorLaid Tryd.prog 400 os).forCall (fun _ _ => 0) ⟨#[], args, []⟩).memory :=
  laidMetH_of_parts3 (fuel := 8) (laidMet_of_run' 8 (by kernel_rfl) (by kernel_rfl)) (by kernel_rfl) (by kernel_rfl)
set_option maxRecDepth 100000 in
theorem lifted (os : Os) (started : os.Started) (H : Type) (enc : TypeId × Value → H) :
    ReturnsInHanded {} Tryd.checked os 4 .any (fun w args => (Rows.proveSameSpec.pre enc Tryd.prog Tryd.f4 [] false w args ∧ laidMetH Tryd.prog laid7 w) ∧ sizedMet enc Tryd.prog Tryd.f4 (OpenSpec.ofChange Rows.proveSameSpec) false w args)
      (Rows.proveSameSpec.post enc Tryd.prog Tryd.f4 false true false false) := by
  refine returnsInHanded_of_change_and (C := Tryd.checked) (X := fun w _ => laidMetH Tryd.prog laid7 w) (fun _ _ _ hh h => h.of_heap hh) own started (by kernel_rfl) Tryd.func4
    (ChangeSpec.witness_shaped (enc := enc) (C := Tryd.checked) (os := os) (X := fun w _ => laidMetH Tryd.prog laid7 w) false (World.doorLaid Tryd.prog 400 os) #[.int .i64 0, .agg #[.int .i64 0, .int .i64 0, .int .i64 0, .int .i64 0, .int .i64 0, .slice none 0 0]] 8 rfl (World.shaped_of_RefB (by kernel_rfl) (by kernel_rfl)) (by kernel_rfl) (by kernel_rfl) (by kernel_rfl) (door_met7 os _)) ?_
  intro W base args ds gs before hval0 hW _ hsz0 hL _
  have hval : ∀ (j : Nat) t v, Tryd.f4.params[j]? = some t → args[j]? = some v → Value.okWide Tryd.prog W .any base t v := hval0
  have hW' := hW
  obtain ⟨p, q, hA0, hV, rfl, hfz, hnd⟩ := hW
  have hA : DataW.TrodAll enc Tryd.prog W 0 (fun _ => true) true Tryd.f4.params.toList args.toList ds p := hA0
  have hsz : (DataW.weightsEach Tryd.prog (Tryd.f4.params.toList ++ Rows.proveSameSpec.plain.varTypes Tryd.prog) (ds ++ gs)).all (· ≤ reachBytes) = true := hsz0
  rw [Tryd.params4] at hA hval hsz
  obtain ⟨v0, vs0, d0, ds0, p0, q0, hargs0, rfl, rfl, h0, r0⟩ := trodAll_cons hA
  obtain ⟨v1, vs1, d1, ds1, p1, q1, rfl, rfl, rfl, h1, r1⟩ := trodAll_cons r0
  obtain ⟨rfl, rfl, rfl⟩ := trodAll_nil r1
  obtain rfl : args = #[v0, v1] := by cases args; simp_all
  obtain ⟨rfl, rfl⟩ := trodVars_none hV
  obtain ⟨a0, rfl, rfl, rfl, w0⟩ := open_int Tryd.underlying3 (hval 0 3 v0 rfl rfl) h0
  have hk1 := h1
  obtain ⟨cA1, cB1, cC1, cD1, cE1, cF1, yA1, yB1, yC1, yD1, yE1, yF1, mA1, hv1, hdE1, hpE1, hyA1, hyB1, hyC1, hyD1, hyE1, hyF1⟩ := open_agg6 Tryd.underlying43 (by kernel_rfl) cellsH (hval 1 43 v1 rfl rfl) h1
  obtain ⟨a01, eA1, _, w01⟩ := DataW.trod_int Tryd.underlying3 hyA1
  obtain ⟨a11, eB1, _, w11⟩ := DataW.trod_int Tryd.underlying3 hyB1
  obtain ⟨a21, eC1, _, w21⟩ := DataW.trod_int Tryd.underlying3 hyC1
  obtain ⟨a31, eD1, _, w31⟩ := DataW.trod_int Tryd.underlying3 hyD1
  obtain ⟨a41, eE1, _, w41⟩ := DataW.trod_int Tryd.underlying3 hyE1
  obtain ⟨s1, len1, cap1, eF1⟩ : ∃ a len cap, cF1 = .slice a len cap := by
    rcases open_ints Tryd.underlying41 Tryd.underlying3 cells3 hyF1 with ⟨hcs, _⟩ | ⟨a', len', cap', ss, hcs, _⟩
    · simp at hcs; exact ⟨_, _, _, hcs⟩
    · simp at hcs; exact ⟨_, _, _, hcs⟩
  simp at eA1 eB1 eC1 eD1 eE1
  subst eA1 eB1 eC1 eD1 eE1 eF1
  subst hv1
  obtain ⟨xs1, hr1, hx1, hd1⟩ := open_listH enc W s1 len1 cap1 yF1.1 yF1.2 ⟨mA1, by simpa [Value.cells] using hyF1⟩
  have hz1 : xs1.length * 8 ≤ 140737488351232 := hd1 (fun k hk => by
    have h1 : k ∈ DataW.weights Tryd.prog 43 d1 := by
      rw [hdE1]
      simp only [DataW.weights, Tryd.underlying43]
      simp [DataW.weightsEach, hk]
    have h2 := List.all_eq_true.1 hsz _ (DataW.weights_mem_each (j := 1) (t := 43) rfl rfl k h1)
    have h3 : k ≤ reachBytes := by simpa using h2
    unfold reachBytes at h3
    omega)
  have tabs := of_laid7 hL
  clear hA0 hval0 hsz0 hsz
  simp only [List.append_nil] at hW'
  have hlt1 : ∀ x ∈ p1, x.block < W.heap.size := fun x hx => by simpa using hW'.lt x (by simp [hx])
  have hargs1k : ∀ (W' : World), Below W.heap.size W W' → DataW.Trod enc Tryd.prog W' 0 (fun b => decide (b < W.heap.size)) true 43 (.agg #[.int .i64 a01, .int .i64 a11, .int .i64 a21, .int .i64 a31, .int .i64 a41, .slice s1 len1 cap1]) d1 p1 :=
    fun W' hn => Below.trod laidOut (by kernel_rfl) (of_decide_eq_true (by kernel_rfl)) hk1 hn hlt1
  refine (Go.Proofs.YtmmbkfagchaocaaDoor.v9.same_walk W a0 w0 a01 w01 a11 w11 a21 w21 a31 w31 a41 w41 (.slice s1 len1 cap1) xs1 hr1 hx1 hz1 tabs).mono fun e W' ⟨he, hnx⟩ => ?_
  subst he
  have hA2 : DataW.TrodAll enc Tryd.prog W' 0 (fun b => decide (b < W.heap.size)) true [3, 43] [.int .i64 a0, .agg #[.int .i64 a01, .int .i64 a11, .int .i64 a21, .int .i64 a31, .int .i64 a41, .slice s1 len1 cap1]] [.lit (.int .i64 a0), d1] (p1) := by simpa using (trodAll_cons_mk (shut_int Tryd.underlying3 w0) (trodAll_cons_mk (hargs1k _ hnx) trodAll_mk0))
  exact ⟨_, rfl, _, _, _, [], p1, [], hW', trodAll_cons_mk (shut_bool Tryd.underlying4 _) trodAll_mk0, hA2, rfl, hnx.frame _, fun h => by cases h⟩

theorem row_holds : Rows.ProveSameSaid :=
  OpenClaim.holds_of_wide 4 Tryd.f4 rfl rfl rfl rfl rfl rfl rfl ⟨rfl, rfl, rfl, rfl, rfl⟩ rfl rfl rfl rfl rfl (by kernel_rfl) Tryd.func4 (by kernel_rfl)
    (of_decide_eq_true (by kernel_rfl)) (by unfold Func.isWrapper; first | (rw [if_pos (by decide +kernel)]; kernel_rfl) | (rw [if_neg (by decide +kernel)]; exact ⟨rfl, rfl⟩))
    (fun os started H enc _ => lifted os started H enc)

theorem card_holds : Rows.ProveSameCardSaid :=
  Claim7.holds_tied_plain_at .later [] [.data, .data, .data, .data, .data, .data, .data] true (true, "9eaf62993e4fb653507a3bc5346864efe6b7f2631a210177d016ac2466b32146") false
    row_holds (fun _ h => by cases h) (by kernel_rfl) (fun _ h => by cases h) proveSame_row_tie rfl ⟨rfl, rfl⟩ (by kernel_rfl) rfl
    (fun f fn hf hfn => by
      obtain rfl : f = 4 := Option.some.inj ((show Tryd.prog.funcNamed "annals/annalslaw8.ProveSame" = some 4 by kernel_rfl).symm.trans hf) |>.symm
      obtain rfl : fn = Tryd.f4 := (Option.some.inj (Tryd.func4.symm.trans hfn)).symm
      exact ⟨by kernel_rfl, fun j t ht => by
        rw [Tryd.params4] at ht
        have hm : t ∈ ([3, 43] : List TypeId) := by simpa using Array.mem_of_getElem? ht
        have hall : (([3, 43] : List TypeId).all fun u => !Tryd.prog.wantsStandIn u) = true := by kernel_rfl
        exact (show Tryd.prog.wantsStandIn t = false by simpa using List.all_eq_true.1 hall t hm)⟩)
    (by kernel_rfl)
end Go.Proofs.YtmmbkfagchaocaaDoor.proveSame
namespace Go.Proofs.YtmmbkfagchaocaaDoor
theorem proveSame_holds : Rows.ProveSameCardSaid := proveSame.card_holds
#print axioms proveSame_holds
end Go.Proofs.YtmmbkfagchaocaaDoor
