import Derived.Test.YtmmbkfagchaocaaDoorH5
import Derived.Test.YtmmbkfagchaocaaDoorA5
import Derived.Test.YtmmbkfagchaocaaDoorTie
import Derived.Test.YtmmbkfagchaocaaDoorCards
import Derived.ProofKit
import Derived.LaidMore
import Derived.OpenShut
import Derived.SliceStrings
import Derived.Carry
import Derived.Stop.Joined
import Derived.SevenTiedAt
import Derived.SizedLaws
import Derived.Lib.SmallJoins
namespace Go.Proofs.YtmmbkfagchaocaaDoor.compFresh
open Go.ChangeShapes Go.WideShapes Go.ChangeAt Go.WideMaps Go.WideElems Go.RowKit Go.Joins
open Go.ChangeMaps (open_string shut_string)
open Go.Proofs.YtmmbkfagchaocaaDoor.ft Go.Proofs.YtmmbkfagchaocaaDoor.fg
open Go.Proofs.YtmmbkfagchaocaaDoor.ka Go.Proofs.YtmmbkfagchaocaaDoor.ob
set_option linter.unusedVariables false

theorem laidOut : laidOutB Tryd.prog = true := by kernel_rfl

theorem cellsF : Tryd.prog.cellsOf 24 = 3 := by kernel_rfl

theorem cells9 : Tryd.prog.cellsOf 9 = 1 := by kernel_rfl
theorem bytes9 : Tryd.prog.bytesOf 9 = 16 := by kernel_rfl
theorem weight_mem {H : Type} (l : List ByteArray) (s : ByteArray) (h : s ∈ l) : s.data.toList.length ∈ DataW.weightsAll Tryd.prog 9 (strs (H := H) l) := by
  induction l with
  | nil => cases h
  | cons x l ih =>
    show _ ∈ DataW.weights Tryd.prog 9 (.lit (.string x.data.toList)) ++ DataW.weightsAll Tryd.prog 9 (strs (H := H) l)
    rcases List.mem_cons.1 h with rfl | h
    · exact List.mem_append_left _ (by simp [DataW.weights])
    · exact List.mem_append_right _ (ih h)
theorem open_list {H : Type} (enc : TypeId × Value → H) (W : World) (a : Option Addr) (len cap : Nat) (d : DataW H) (p : List MemPlace) (h0 : DataW.Trod enc Tryd.prog W 0 (fun _ => true) true 22 (.slice a len cap) d p) :
    ∃ xs, ReadsT W (.slice a len cap) xs ∧ ((∀ k ∈ DataW.weights Tryd.prog 22 d, k ≤ 140737488351232) → (∀ x ∈ xs, x.size ≤ 140737488351232) ∧ xs.length * 16 ≤ 140737488351232) ∧ (a = none → cap = 0) := by
  obtain ⟨fuel, hf⟩ := h0
  rcases open_strings Tryd.underlying22 Tryd.underlying9 cells9 hf with ⟨hcs, hx⟩ | ⟨a', len', cap', ss, hcs, _, hl, hm, hz, hx, hcell, hws⟩
  · simp [Value.cells] at hcs
    obtain ⟨rfl, rfl, rfl⟩ := hcs
    exact ⟨[], ⟨none, 0, rfl, Nat.le_refl _, .inl rfl⟩, fun _ => ⟨fun x h => (by cases h), (by simp)⟩, fun _ => rfl⟩
  · simp [Value.cells] at hcs
    obtain ⟨rfl, rfl, rfl⟩ := hcs
    simp only [Prod.mk.injEq] at hx
    obtain ⟨rfl, rfl⟩ := hx
    simp only [if_true] at hz
    have hlen : (ss.take len).length = len := by rw [List.length_take]; omega
    refine ⟨ss.take len, ⟨some a', cap, by rw [hlen], by rw [hlen]; omega, ?_⟩, fun hw => ⟨fun x hxm => ?_, ?_⟩, fun e => by cases e⟩
    · by_cases hl0 : len = 0
      · exact .inl (by rw [hlen]; exact hl0)
      · right
        obtain ⟨b, off, spot⟩ := a'
        have hspot : spot = none := by simpa [Addr.add] using World.cell?_spot (hcell 0 (by omega))
        subst hspot
        refine ⟨b, off, rfl, fun i hi => ?_⟩
        rw [hlen] at hi
        have := hcell i (by omega)
        rw [Addr.add_mid] at this
        rw [this, List.getD_eq_getElem?_getD, List.getD_eq_getElem?_getD, List.getElem?_take, if_pos hi]
    · have h1 := weight_mem (H := H) _ _ hxm
      have h2 := hw x.data.toList.length (by
        simp only [DataW.weights, Tryd.underlying22]
        exact List.mem_cons_of_mem _ (List.mem_append_left _ h1))
      have e : x.data.toList.length = x.size := Array.length_toList
      omega
    · have h2 := hw (((strs (H := H) (ss.take len)).length + (strs (H := H) (ss.drop len)).length) * 16) (by
        simp only [DataW.weights, Tryd.underlying22, bytes9]
        exact List.mem_cons_self)
      rw [hlen]
      simp only [strs, List.length_map, List.length_take, List.length_drop] at h2
      omega

set_option maxRecDepth 100000 in
theorem lifted (os : Os) (started : os.Started) (H : Type) (enc : TypeId × Value → H) :
    ReturnsInHanded {} Tryd.checked os 3 .any (fun w args => (Rows.compFreshSpec.pre enc Tryd.prog Tryd.f3 [] false w args ∧ laidMetH Tryd.prog laid5 w) ∧ sizedMet enc Tryd.prog Tryd.f3 (OpenSpec.ofChange Rows.compFreshSpec) false w args)
      (Rows.compFreshSpec.post enc Tryd.prog Tryd.f3 false true false false) := by
  refine returnsInHanded_of_change_and (C := Tryd.checked) (X := fun w _ => laidMetH Tryd.prog laid5 w) (fun _ _ _ hh h => h.of_heap hh) own started (by kernel_rfl) Tryd.func3
    (ChangeSpec.witness_shaped (enc := enc) (C := Tryd.checked) (os := os) (X := fun w _ => laidMetH Tryd.prog laid5 w) false (World.doorLaid Tryd.prog 400 os) #[.int .i64 0, .agg #[.int .i64 0, .int .i64 0, .slice none 0 0], .agg #[.int .i64 0, .int .i64 0, .slice none 0 0], .string ByteArray.empty] 8 rfl (World.shaped_of_RefB (by kernel_rfl) (by kernel_rfl)) (by kernel_rfl) (by kernel_rfl) (by kernel_rfl) (door_met5 os _)) ?_
  intro W base args ds gs before hval0 hW _ hsz0 hL _
  have hval : ∀ (j : Nat) t v, Tryd.f3.params[j]? = some t → args[j]? = some v → Value.okWide Tryd.prog W .any base t v := hval0
  have hW' := hW
  obtain ⟨p, q, hA0, hV, rfl, hfz, hnd⟩ := hW
  have hA : DataW.TrodAll enc Tryd.prog W 0 (fun _ => true) true Tryd.f3.params.toList args.toList ds p := hA0
  have hsz : (DataW.weightsEach Tryd.prog (Tryd.f3.params.toList ++ Rows.compFreshSpec.plain.varTypes Tryd.prog) (ds ++ gs)).all (· ≤ reachBytes) = true := hsz0
  rw [Tryd.params3] at hA hval hsz
  obtain ⟨v0, vs0, d0, ds0, p0, q0, hargs0, rfl, rfl, h0, r0⟩ := trodAll_cons hA
  obtain ⟨v1, vs1, d1, ds1, p1, q1, rfl, rfl, rfl, h1, r1⟩ := trodAll_cons r0
  obtain ⟨v2, vs2, d2, ds2, p2, q2, rfl, rfl, rfl, h2, r2⟩ := trodAll_cons r1
  obtain ⟨v3, vs3, d3, ds3, p3, q3, rfl, rfl, rfl, h3, r3⟩ := trodAll_cons r2
  obtain ⟨rfl, rfl, rfl⟩ := trodAll_nil r3
  obtain rfl : args = #[v0, v1, v2, v3] := by cases args; simp_all
  obtain ⟨rfl, rfl⟩ := trodVars_none hV
  obtain ⟨a0, rfl, rfl, rfl, w0⟩ := open_int Tryd.underlying3 (hval 0 3 v0 rfl rfl) h0
  have hk1 := h1
  obtain ⟨cA1, cB1, cC1, yA1, yB1, yC1, mA1, rfl, rfl, rfl, hyA1, hyB1, hyC1⟩ := open_agg3 Tryd.underlying24 (by kernel_rfl) cellsF (hval 1 24 v1 rfl rfl) h1
  obtain ⟨a1, eA1, rA1, wA1⟩ := DataW.trod_int Tryd.underlying3 hyA1
  obtain ⟨b1, eB1, rB1, wB1⟩ := DataW.trod_int Tryd.underlying3 hyB1
  simp at eA1 eB1
  subst eA1 eB1
  have hy1 : DataW.trod enc Tryd.prog W 0 (fun _ => true) true mA1 22 [cC1] = some yC1 := hyC1
  obtain ⟨s1, len1, cap1, eC1⟩ : ∃ a len cap, cC1 = .slice a len cap := by
    rcases open_strings Tryd.underlying22 Tryd.underlying9 cells9 hy1 with ⟨hcs, _⟩ | ⟨a', len', cap', ss, hcs, _⟩
    · simp at hcs; exact ⟨_, _, _, hcs⟩
    · simp at hcs; exact ⟨_, _, _, hcs⟩
  subst eC1
  obtain ⟨xs1, hr1, hd1, hz1⟩ := open_list enc W s1 len1 cap1 yC1.1 yC1.2 ⟨mA1, by simpa [Value.cells] using hy1⟩
  have hsz1 : (∀ x ∈ xs1, x.size ≤ 140737488351232) ∧ xs1.length * 16 ≤ 140737488351232 := hd1 (fun k hk => by
    have h1 : k ∈ DataW.weights Tryd.prog 24 (.agg [yA1.1, yB1.1, yC1.1]) := by
      simp only [DataW.weights, Tryd.underlying24]
      simp [DataW.weightsEach, hk]
    have h2 := List.all_eq_true.1 hsz _ (DataW.weights_mem_each (j := 1) (t := 24) rfl rfl k h1)
    have h3 : k ≤ reachBytes := by simpa using h2
    unfold reachBytes at h3
    omega)
  have hk2 := h2
  obtain ⟨cA2, cB2, cC2, yA2, yB2, yC2, mA2, rfl, rfl, rfl, hyA2, hyB2, hyC2⟩ := open_agg3 Tryd.underlying24 (by kernel_rfl) cellsF (hval 2 24 v2 rfl rfl) h2
  obtain ⟨a2, eA2, rA2, wA2⟩ := DataW.trod_int Tryd.underlying3 hyA2
  obtain ⟨b2, eB2, rB2, wB2⟩ := DataW.trod_int Tryd.underlying3 hyB2
  simp at eA2 eB2
  subst eA2 eB2
  have hy2 : DataW.trod enc Tryd.prog W 0 (fun _ => true) true mA2 22 [cC2] = some yC2 := hyC2
  obtain ⟨s2, len2, cap2, eC2⟩ : ∃ a len cap, cC2 = .slice a len cap := by
    rcases open_strings Tryd.underlying22 Tryd.underlying9 cells9 hy2 with ⟨hcs, _⟩ | ⟨a', len', cap', ss, hcs, _⟩
    · simp at hcs; exact ⟨_, _, _, hcs⟩
    · simp at hcs; exact ⟨_, _, _, hcs⟩
  subst eC2
  obtain ⟨xs2, hr2, hd2, hz2⟩ := open_list enc W s2 len2 cap2 yC2.1 yC2.2 ⟨mA2, by simpa [Value.cells] using hy2⟩
  have hsz2 : (∀ x ∈ xs2, x.size ≤ 140737488351232) ∧ xs2.length * 16 ≤ 140737488351232 := hd2 (fun k hk => by
    have h1 : k ∈ DataW.weights Tryd.prog 24 (.agg [yA2.1, yB2.1, yC2.1]) := by
      simp only [DataW.weights, Tryd.underlying24]
      simp [DataW.weightsEach, hk]
    have h2 := List.all_eq_true.1 hsz _ (DataW.weights_mem_each (j := 2) (t := 24) rfl rfl k h1)
    have h3 : k ≤ reachBytes := by simpa using h2
    unfold reachBytes at h3
    omega)
  obtain ⟨a3, rfl, rfl, rfl, w3⟩ := open_string Tryd.underlying9 (hval 3 9 v3 rfl rfl) h3
  have z3 : a3.size ≤ 140737488351232 := by
    have h := sized_string hsz (j := 3) (t := 9) (bytes := a3.data.toList) rfl rfl
    have e : a3.data.toList.length = a3.size := Array.length_toList
    unfold reachBytes at h
    omega
  have tabs := of_laid5 hL
  clear hA0 hval0 hsz0 hsz
  simp only [List.append_nil] at hW'
  have hlt1 : ∀ x ∈ yA1.2 ++ (yB1.2 ++ yC1.2), x.block < W.heap.size := fun x hx => by simpa using hW'.lt x (by simp at hx ⊢; rcases hx with hx | hx | hx <;> simp [hx])
  have hargs1k : ∀ (W' : World), Below W.heap.size W W' → DataW.Trod enc Tryd.prog W' 0 (fun b => decide (b < W.heap.size)) true 24 (.agg #[.int .i64 a1, .int .i64 b1, .slice s1 len1 cap1]) (.agg [yA1.1, yB1.1, yC1.1]) (yA1.2 ++ (yB1.2 ++ yC1.2)) :=
    fun W' hn => Below.trod laidOut (by kernel_rfl) (of_decide_eq_true (by kernel_rfl)) hk1 hn hlt1
  have hlt2 : ∀ x ∈ yA2.2 ++ (yB2.2 ++ yC2.2), x.block < W.heap.size := fun x hx => by simpa using hW'.lt x (by simp at hx ⊢; rcases hx with hx | hx | hx <;> simp [hx])
  have hargs2k : ∀ (W' : World), Below W.heap.size W W' → DataW.Trod enc Tryd.prog W' 0 (fun b => decide (b < W.heap.size)) true 24 (.agg #[.int .i64 a2, .int .i64 b2, .slice s2 len2 cap2]) (.agg [yA2.1, yB2.1, yC2.1]) (yA2.2 ++ (yB2.2 ++ yC2.2)) :=
    fun W' hn => Below.trod laidOut (by kernel_rfl) (of_decide_eq_true (by kernel_rfl)) hk2 hn hlt2
  refine (Go.Proofs.YtmmbkfagchaocaaDoor.s13.fresh_walk W a0 w0 a1 wA1 b1 wB1 (.slice s1 len1 cap1) xs1 hr1 hsz1.1 hsz1.2 a2 wA2 b2 wB2 (.slice s2 len2 cap2) xs2 hr2 hsz2.1 hsz2.2 a3 z3 tabs).mono fun e W' ⟨he, hnx⟩ => ?_
  subst he
  have hA2 : DataW.TrodAll enc Tryd.prog W' 0 (fun b => decide (b < W.heap.size)) true [3, 24, 24, 9] [.int .i64 a0, .agg #[.int .i64 a1, .int .i64 b1, .slice s1 len1 cap1], .agg #[.int .i64 a2, .int .i64 b2, .slice s2 len2 cap2], .string a3] [.lit (.int .i64 a0), .agg [yA1.1, yB1.1, yC1.1], .agg [yA2.1, yB2.1, yC2.1], .lit (.string a3.data.toList)] ((yA1.2 ++ (yB1.2 ++ yC1.2)) ++ (yA2.2 ++ (yB2.2 ++ yC2.2))) := by simpa using (trodAll_cons_mk (shut_int Tryd.underlying3 w0) (trodAll_cons_mk (hargs1k _ hnx) (trodAll_cons_mk (hargs2k _ hnx) (trodAll_cons_mk (shut_string Tryd.underlying9 w3) trodAll_mk0))))
  exact ⟨_, rfl, _, _, _, [], (yA1.2 ++ (yB1.2 ++ yC1.2)) ++ (yA2.2 ++ (yB2.2 ++ yC2.2)), [], hW', trodAll_cons_mk (shut_bool Tryd.underlying4 _) trodAll_mk0, hA2, rfl, hnx.frame _, fun h => by cases h⟩

theorem row_holds : Rows.CompFreshSaid :=
  OpenClaim.holds_of_wide 3 Tryd.f3 rfl rfl rfl rfl rfl rfl rfl ⟨rfl, rfl, rfl, rfl, rfl⟩ rfl rfl rfl rfl rfl (by kernel_rfl) Tryd.func3 (by kernel_rfl)
    (of_decide_eq_true (by kernel_rfl)) (by unfold Func.isWrapper; first | (rw [if_pos (by decide +kernel)]; kernel_rfl) | (rw [if_neg (by decide +kernel)]; exact ⟨rfl, rfl⟩))
    (fun os started H enc _ => lifted os started H enc)

theorem card_holds : Rows.CompFreshCardSaid :=
  Claim7.holds_tied_plain_at .later [] [.data, .data, .data, .data, .data] true (true, "9eaf62993e4fb653507a3bc5346864efe6b7f2631a210177d016ac2466b32146") false
    row_holds (fun _ h => by cases h) (by kernel_rfl) (fun _ h => by cases h) compFresh_row_tie rfl ⟨rfl, rfl⟩ (by kernel_rfl) rfl
    (fun f fn hf hfn => by
      obtain rfl : f = 3 := Option.some.inj ((show Tryd.prog.funcNamed "annals/annalslaw7.CompFresh" = some 3 by kernel_rfl).symm.trans hf) |>.symm
      obtain rfl : fn = Tryd.f3 := (Option.some.inj (Tryd.func3.symm.trans hfn)).symm
      exact ⟨by kernel_rfl, fun j t ht => by
        rw [Tryd.params3] at ht
        have hm : t ∈ ([3, 24, 24, 9] : List TypeId) := by simpa using Array.mem_of_getElem? ht
        have hall : (([3, 24, 24, 9] : List TypeId).all fun u => !Tryd.prog.wantsStandIn u) = true := by kernel_rfl
        exact (show Tryd.prog.wantsStandIn t = false by simpa using List.all_eq_true.1 hall t hm)⟩)
    (by kernel_rfl)
end Go.Proofs.YtmmbkfagchaocaaDoor.compFresh
namespace Go.Proofs.YtmmbkfagchaocaaDoor
theorem compFresh_holds : Rows.CompFreshCardSaid := compFresh.card_holds
#print axioms compFresh_holds
end Go.Proofs.YtmmbkfagchaocaaDoor
