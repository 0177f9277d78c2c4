import Derived.Test.YthppkdjekfginaaGreatDoorM2
import Derived.Test.YthppkdjekfginaaGreatDoorG2
import Derived.Test.YthppkdjekfginaaGreatDoorG4
import Derived.ChangeSlices
import Derived.Deep.MidRow
import Derived.Test.YthppkdjekfginaaGreatDoorTie
import Derived.Test.YthppkdjekfginaaGreatDoorCards
import Derived.ProofKit
import Derived.LaidMore
import Derived.OpenShut
import Derived.SliceStrings
import Derived.Carry
import Derived.Stop.Joined
import Derived.SevenTiedAt
import Derived.SizedLaws
import Derived.Lib.SmallJoins
namespace Go.Proofs.YthppkdjekfginaaGreatDoor.clashMulti
open Go.ChangeShapes Go.WideShapes Go.ChangeAt Go.WideMaps Go.WideElems Go.RowKit Go.Joins
open Go.ChangeMaps (open_string shut_string)
open Go.Proofs.YthppkdjekfginaaGreatDoor.ft Go.Proofs.YthppkdjekfginaaGreatDoor.fu
open Go.Proofs.YthppkdjekfginaaGreatDoor.ka Go.Proofs.YthppkdjekfginaaGreatDoor.mi
set_option linter.unusedVariables false

theorem laidOut : laidOutB Tryz.prog = true := by kernel_rfl
theorem cells3 : Tryz.prog.cellsOf 3 = 1 := by kernel_rfl
theorem bytes3 : Tryz.prog.bytesOf 3 = 8 := by kernel_rfl
theorem open_listI {H : Type} (enc : TypeId × Value → H) (W : World) (a : Option Addr) (len cap : Nat) (d : DataW H) (p : List MemPlace) (h0 : DataW.Trod enc Tryz.prog W 0 (fun _ => true) true 33 (.slice a len cap) d p) :
    ∃ xs, Go.Proofs.YthppkdjekfginaaGreatDoor.mi.ReadsI W (.slice a len cap) xs ∧ (∀ k c, Value.slice a len cap = .slice none k c → c = 0) ∧ ((∀ k ∈ DataW.weights Tryz.prog 33 d, k ≤ 140737488351232) → xs.length * 8 ≤ 140737488351232) := by
  obtain ⟨fuel, hf⟩ := h0
  rcases open_ints Tryz.underlying33 Tryz.underlying3 cells3 hf with ⟨hcs, hx⟩ | ⟨a', len', cap', ss, hcs, _, hl, hm, hz, hx, hcell, hws⟩
  · simp [Value.cells] at hcs
    obtain ⟨rfl, rfl, rfl⟩ := hcs
    exact ⟨[], ⟨none, 0, rfl, Nat.le_refl _, .inl rfl⟩, (fun k c e => by injection e with _ _ e; exact e.symm), fun _ => by simp⟩
  · simp [Value.cells] at hcs
    obtain ⟨rfl, rfl, rfl⟩ := hcs
    simp only [Prod.mk.injEq] at hx
    obtain ⟨rfl, rfl⟩ := hx
    simp only [if_true] at hz
    have hlen : (ss.take len).length = len := by rw [List.length_take]; omega
    refine ⟨ss.take len, ⟨some a', cap, by rw [hlen], by rw [hlen]; omega, ?_⟩, (fun k c e => by cases e), fun hw => ?_⟩
    · by_cases hl0 : len = 0
      · exact .inl (by rw [hlen]; exact hl0)
      · right
        obtain ⟨b, off, spot⟩ := a'
        have hspot : spot = none := by simpa [Addr.add] using World.cell?_spot (hcell 0 (by omega))
        subst hspot
        refine ⟨b, off, rfl, fun i hi => ?_⟩
        rw [hlen] at hi
        have := hcell i (by omega)
        rw [Addr.add_mid] at this
        rw [this, List.getD_eq_getElem?_getD, List.getD_eq_getElem?_getD, List.getElem?_take, if_pos hi]
    · have h2 := hw (((lits (H := H) .i64 (ss.take len)).length + (lits (H := H) .i64 (ss.drop len)).length) * 8) (by
        simp only [DataW.weights, Tryz.underlying33, bytes3]
        exact List.mem_cons_self)
      rw [hlen]
      simp only [lits, List.length_map, List.length_take, List.length_drop] at h2
      omega



theorem cells9 : Tryz.prog.cellsOf 9 = 1 := by kernel_rfl
theorem bytes9 : Tryz.prog.bytesOf 9 = 16 := by kernel_rfl
theorem weight_mem {H : Type} (l : List ByteArray) (s : ByteArray) (h : s ∈ l) : s.data.toList.length ∈ DataW.weightsAll Tryz.prog 9 (strs (H := H) l) := by
  induction l with
  | nil => cases h
  | cons x l ih =>
    show _ ∈ DataW.weights Tryz.prog 9 (.lit (.string x.data.toList)) ++ DataW.weightsAll Tryz.prog 9 (strs (H := H) l)
    rcases List.mem_cons.1 h with rfl | h
    · exact List.mem_append_left _ (by simp [DataW.weights])
    · exact List.mem_append_right _ (ih h)
theorem open_list {H : Type} (enc : TypeId × Value → H) (W : World) (a : Option Addr) (len cap : Nat) (d : DataW H) (p : List MemPlace) (h0 : DataW.Trod enc Tryz.prog W 0 (fun _ => true) true 22 (.slice a len cap) d p) :
    ∃ xs, ReadsT W (.slice a len cap) xs ∧ ((∀ k ∈ DataW.weights Tryz.prog 22 d, k ≤ 140737488351232) → (∀ x ∈ xs, x.size ≤ 140737488351232) ∧ xs.length * 16 ≤ 140737488351232) ∧ (a = none → cap = 0) := by
  obtain ⟨fuel, hf⟩ := h0
  rcases open_strings Tryz.underlying22 Tryz.underlying9 cells9 hf with ⟨hcs, hx⟩ | ⟨a', len', cap', ss, hcs, _, hl, hm, hz, hx, hcell, hws⟩
  · simp [Value.cells] at hcs
    obtain ⟨rfl, rfl, rfl⟩ := hcs
    exact ⟨[], ⟨none, 0, rfl, Nat.le_refl _, .inl rfl⟩, fun _ => ⟨fun x h => (by cases h), (by simp)⟩, fun _ => rfl⟩
  · simp [Value.cells] at hcs
    obtain ⟨rfl, rfl, rfl⟩ := hcs
    simp only [Prod.mk.injEq] at hx
    obtain ⟨rfl, rfl⟩ := hx
    simp only [if_true] at hz
    have hlen : (ss.take len).length = len := by rw [List.length_take]; omega
    refine ⟨ss.take len, ⟨some a', cap, by rw [hlen], by rw [hlen]; omega, ?_⟩, fun hw => ⟨fun x hxm => ?_, ?_⟩, fun e => by cases e⟩
    · by_cases hl0 : len = 0
      · exact .inl (by rw [hlen]; exact hl0)
      · right
        obtain ⟨b, off, spot⟩ := a'
        have hspot : spot = none := by simpa [Addr.add] using World.cell?_spot (hcell 0 (by omega))
        subst hspot
        refine ⟨b, off, rfl, fun i hi => ?_⟩
        rw [hlen] at hi
        have := hcell i (by omega)
        rw [Addr.add_mid] at this
        rw [this, List.getD_eq_getElem?_getD, List.getD_eq_getElem?_getD, List.getElem?_take, if_pos hi]
    · have h1 := weight_mem (H := H) _ _ hxm
      have h2 := hw x.data.toList.length (by
        simp only [DataW.weights, Tryz.underlying22]
        exact List.mem_cons_of_mem _ (List.mem_append_left _ h1))
      have e : x.data.toList.length = x.size := Array.length_toList
      omega
    · have h2 := hw (((strs (H := H) (ss.take len)).length + (strs (H := H) (ss.drop len)).length) * 16) (by
        simp only [DataW.weights, Tryz.underlying22, bytes9]
        exact List.mem_cons_self)
      rw [hlen]
      simp only [strs, List.length_map, List.length_take, List.length_drop] at h2
      omega

set_option maxRecDepth 100000 in
theorem lifted (os : Os) (started : os.Started) (H : Type) (enc : TypeId × Value → H) :
    ReturnsInHanded {} Tryz.checked os 5 .any (fun w args => (Rows.clashMultiSpec.pre enc Tryz.prog Tryz.f5 [] false w args ∧ laidMetH Tryz.prog laid4 w) ∧ sizedMet enc Tryz.prog Tryz.f5 (OpenSpec.ofChange Rows.clashMultiSpec) false w args)
      (Rows.clashMultiSpec.post enc Tryz.prog Tryz.f5 false true false false) := by
  refine returnsInHanded_of_change_and (C := Tryz.checked) (X := fun w _ => laidMetH Tryz.prog laid4 w) (fun _ _ _ hh h => h.of_heap hh) own started (by kernel_rfl) Tryz.func5
    (ChangeSpec.witness_shaped (enc := enc) (C := Tryz.checked) (os := os) (X := fun w _ => laidMetH Tryz.prog laid4 w) false (World.doorLaid Tryz.prog 400 os) #[.int .i64 0, .slice none 0 0, .slice none 0 0, .slice none 0 0, .slice none 0 0] 8 rfl (World.shaped_of_RefB (by kernel_rfl) (by kernel_rfl)) (by kernel_rfl) (by kernel_rfl) (by kernel_rfl) (door_met4 os _)) ?_
  intro W base args ds gs before hval0 hW _ hsz0 hL _
  have hval : ∀ (j : Nat) t v, Tryz.f5.params[j]? = some t → args[j]? = some v → Value.okWide Tryz.prog W .any base t v := hval0
  have hW' := hW
  obtain ⟨p, q, hA0, hV, rfl, hfz, hnd⟩ := hW
  have hA : DataW.TrodAll enc Tryz.prog W 0 (fun _ => true) true Tryz.f5.params.toList args.toList ds p := hA0
  have hsz : (DataW.weightsEach Tryz.prog (Tryz.f5.params.toList ++ Rows.clashMultiSpec.plain.varTypes Tryz.prog) (ds ++ gs)).all (· ≤ reachBytes) = true := hsz0
  rw [Tryz.params5] at hA hval hsz
  obtain ⟨v0, vs0, d0, ds0, p0, q0, hargs0, rfl, rfl, h0, r0⟩ := trodAll_cons hA
  obtain ⟨v1, vs1, d1, ds1, p1, q1, rfl, rfl, rfl, h1, r1⟩ := trodAll_cons r0
  obtain ⟨v2, vs2, d2, ds2, p2, q2, rfl, rfl, rfl, h2, r2⟩ := trodAll_cons r1
  obtain ⟨v3, vs3, d3, ds3, p3, q3, rfl, rfl, rfl, h3, r3⟩ := trodAll_cons r2
  obtain ⟨v4, vs4, d4, ds4, p4, q4, rfl, rfl, rfl, h4, r4⟩ := trodAll_cons r3
  obtain ⟨rfl, rfl, rfl⟩ := trodAll_nil r4
  obtain rfl : args = #[v0, v1, v2, v3, v4] := by cases args; simp_all
  obtain ⟨rfl, rfl⟩ := trodVars_none hV
  obtain ⟨a0, rfl, rfl, rfl, w0⟩ := open_int Tryz.underlying3 (hval 0 3 v0 rfl rfl) h0
  obtain ⟨a1, len1, cap1, rfl⟩ := okWide_slice Tryz.underlying22 (hval 1 22 v1 rfl rfl)
  obtain ⟨xs1, hr1, hd1, hz1⟩ := open_list enc W a1 len1 cap1 d1 p1 h1
  have hno1 : ∀ k c, Value.slice a1 len1 cap1 = .slice none k c → c = 0 := fun k c e => by injection e with e1 _ e3; rw [← e3]; exact hz1 e1
  have hsz1 : (∀ x ∈ xs1, x.size ≤ 140737488351232) ∧ xs1.length * 16 ≤ 140737488351232 := hd1 (fun k hk => by
    have h2 := List.all_eq_true.1 hsz _ (DataW.weights_mem_each (j := 1) (t := 22) rfl rfl k hk)
    have h3 : k ≤ reachBytes := by simpa using h2
    unfold reachBytes at h3
    omega)
  obtain ⟨a2, len2, cap2, rfl⟩ := okWide_slice Tryz.underlying33 (hval 2 33 v2 rfl rfl)
  obtain ⟨xs2, hr2, hno2, hd2⟩ := open_listI enc W a2 len2 cap2 d2 p2 h2
  have hz2 : xs2.length * 8 ≤ 140737488351232 := hd2 (fun k hk => by
    have h2 := List.all_eq_true.1 hsz _ (DataW.weights_mem_each (j := 2) (t := 33) rfl rfl k hk)
    have h3 : k ≤ reachBytes := by simpa using h2
    unfold reachBytes at h3
    omega)
  obtain ⟨a3, len3, cap3, rfl⟩ := okWide_slice Tryz.underlying22 (hval 3 22 v3 rfl rfl)
  obtain ⟨xs3, hr3, hd3, hz3⟩ := open_list enc W a3 len3 cap3 d3 p3 h3
  have hno3 : ∀ k c, Value.slice a3 len3 cap3 = .slice none k c → c = 0 := fun k c e => by injection e with e1 _ e3; rw [← e3]; exact hz3 e1
  have hsz3 : (∀ x ∈ xs3, x.size ≤ 140737488351232) ∧ xs3.length * 16 ≤ 140737488351232 := hd3 (fun k hk => by
    have h2 := List.all_eq_true.1 hsz _ (DataW.weights_mem_each (j := 3) (t := 22) rfl rfl k hk)
    have h3 : k ≤ reachBytes := by simpa using h2
    unfold reachBytes at h3
    omega)
  obtain ⟨a4, len4, cap4, rfl⟩ := okWide_slice Tryz.underlying22 (hval 4 22 v4 rfl rfl)
  obtain ⟨xs4, hr4, hd4, hz4⟩ := open_list enc W a4 len4 cap4 d4 p4 h4
  have hno4 : ∀ k c, Value.slice a4 len4 cap4 = .slice none k c → c = 0 := fun k c e => by injection e with e1 _ e3; rw [← e3]; exact hz4 e1
  have hsz4 : (∀ x ∈ xs4, x.size ≤ 140737488351232) ∧ xs4.length * 16 ≤ 140737488351232 := hd4 (fun k hk => by
    have h2 := List.all_eq_true.1 hsz _ (DataW.weights_mem_each (j := 4) (t := 22) rfl rfl k hk)
    have h3 : k ≤ reachBytes := by simpa using h2
    unfold reachBytes at h3
    omega)
  have tabs := of_laid4 hL
  clear hA0 hval0 hsz0 hsz
  simp only [List.append_nil] at hW'
  have hlt1 : ∀ x ∈ p1, x.block < W.heap.size := fun x hx => by simpa using hW'.lt x (by simp [hx])
  have hargs1k : ∀ (W' : World), Below W.heap.size W W' → DataW.Trod enc Tryz.prog W' 0 (fun b => decide (b < W.heap.size)) true 22 (.slice a1 len1 cap1) d1 p1 :=
    fun W' hn => Below.trod laidOut (by kernel_rfl) (of_decide_eq_true (by kernel_rfl)) h1 hn hlt1
  have hlt2 : ∀ x ∈ p2, x.block < W.heap.size := fun x hx => by simpa using hW'.lt x (by simp [hx])
  have hargs2k : ∀ (W' : World), Below W.heap.size W W' → DataW.Trod enc Tryz.prog W' 0 (fun b => decide (b < W.heap.size)) true 33 (.slice a2 len2 cap2) d2 p2 :=
    fun W' hn => Below.trod laidOut (by kernel_rfl) (of_decide_eq_true (by kernel_rfl)) h2 hn hlt2
  have hlt3 : ∀ x ∈ p3, x.block < W.heap.size := fun x hx => by simpa using hW'.lt x (by simp [hx])
  have hargs3k : ∀ (W' : World), Below W.heap.size W W' → DataW.Trod enc Tryz.prog W' 0 (fun b => decide (b < W.heap.size)) true 22 (.slice a3 len3 cap3) d3 p3 :=
    fun W' hn => Below.trod laidOut (by kernel_rfl) (of_decide_eq_true (by kernel_rfl)) h3 hn hlt3
  have hlt4 : ∀ x ∈ p4, x.block < W.heap.size := fun x hx => by simpa using hW'.lt x (by simp [hx])
  have hargs4k : ∀ (W' : World), Below W.heap.size W W' → DataW.Trod enc Tryz.prog W' 0 (fun b => decide (b < W.heap.size)) true 22 (.slice a4 len4 cap4) d4 p4 :=
    fun W' hn => Below.trod laidOut (by kernel_rfl) (of_decide_eq_true (by kernel_rfl)) h4 hn hlt4
  refine ((fun W wd w0 v l hr hno hx hz vt t ht tno tz vc c hc cno hcx hcz vp p hp pno hpx hpz tabs => Go.Proofs.YthppkdjekfginaaGreatDoor.jm.multi_walk W wd w0 v l hr hno hx hz vt t ht tno tz vc c hc cno hcx hcz vp p hp pno hpx hpz (Go.Proofs.YthppkdjekfginaaGreatDoor.rf.Tab4.of tabs)) W a0 w0 (.slice a1 len1 cap1) xs1 hr1 hno1 hsz1.1 hsz1.2 (.slice a2 len2 cap2) xs2 hr2 hno2 hz2 (.slice a3 len3 cap3) xs3 hr3 hno3 hsz3.1 hsz3.2 (.slice a4 len4 cap4) xs4 hr4 hno4 hsz4.1 hsz4.2 tabs).mono fun e W' ⟨he, hnx⟩ => ?_
  subst he
  have hA2 : DataW.TrodAll enc Tryz.prog W' 0 (fun b => decide (b < W.heap.size)) true [3, 22, 33, 22, 22] [.int .i64 a0, .slice a1 len1 cap1, .slice a2 len2 cap2, .slice a3 len3 cap3, .slice a4 len4 cap4] [.lit (.int .i64 a0), d1, d2, d3, d4] (p1 ++ p2 ++ p3 ++ p4) := by simpa using (trodAll_cons_mk (shut_int Tryz.underlying3 w0) (trodAll_cons_mk (hargs1k _ hnx) (trodAll_cons_mk (hargs2k _ hnx) (trodAll_cons_mk (hargs3k _ hnx) (trodAll_cons_mk (hargs4k _ hnx) trodAll_mk0)))))
  exact ⟨_, rfl, _, _, _, [], p1 ++ p2 ++ p3 ++ p4, [], hW', trodAll_cons_mk (shut_bool Tryz.underlying4 _) trodAll_mk0, hA2, rfl, hnx.frame _, fun h => by cases h⟩

theorem row_holds : Rows.ClashMultiSaid :=
  OpenClaim.holds_of_wide 5 Tryz.f5 rfl rfl rfl rfl rfl rfl rfl ⟨rfl, rfl, rfl, rfl, rfl⟩ rfl rfl rfl rfl rfl (by kernel_rfl) Tryz.func5 (by kernel_rfl)
    (of_decide_eq_true (by kernel_rfl)) (by unfold Func.isWrapper; first | (rw [if_pos (by decide +kernel)]; kernel_rfl) | (rw [if_neg (by decide +kernel)]; exact ⟨rfl, rfl⟩))
    (fun os started H enc _ => lifted os started H enc)

theorem card_holds : Rows.ClashMultiCardSaid :=
  Claim7.holds_tied_plain_at .later [] [.data, .data, .data, .data] true (true, "541709367033ce0f6cfa650324fdbbb85ee9fb82284e466a83d2e35083af7a08") true
    row_holds (fun _ h => by cases h) (by kernel_rfl) (fun _ h => by cases h) clashMulti_row_tie rfl ⟨rfl, rfl⟩ (by kernel_rfl) rfl
    (fun f fn hf hfn => by
      obtain rfl : f = 5 := Option.some.inj ((show Tryz.prog.funcNamed "annals/annalslaw10.ClashMulti" = some 5 by kernel_rfl).symm.trans hf) |>.symm
      obtain rfl : fn = Tryz.f5 := (Option.some.inj (Tryz.func5.symm.trans hfn)).symm
      exact ⟨by kernel_rfl, fun j t ht => by
        rw [Tryz.params5] at ht
        have hm : t ∈ ([3, 22, 33, 22, 22] : List TypeId) := by simpa using Array.mem_of_getElem? ht
        have hall : (([3, 22, 33, 22, 22] : List TypeId).all fun u => !Tryz.prog.wantsStandIn u) = true := by kernel_rfl
        exact (show Tryz.prog.wantsStandIn t = false by simpa using List.all_eq_true.1 hall t hm)⟩)
    (by kernel_rfl)
end Go.Proofs.YthppkdjekfginaaGreatDoor.clashMulti
namespace Go.Proofs.YthppkdjekfginaaGreatDoor
theorem clashMulti_holds : Rows.ClashMultiCardSaid := clashMulti.card_holds
#print axioms clashMulti_holds
end Go.Proofs.YthppkdjekfginaaGreatDoor
