import Derived.Test.YthgieagebcjafaaDoorN4
import Derived.Test.YthgieagebcjafaaDoorFu
import Derived.Test.YthgieagebcjafaaDoorTie
import Derived.Test.YthgieagebcjafaaDoorCards
import Derived.ProofKit
import Derived.LaidMore
import Derived.OpenShut
import Derived.SliceStrings
import Derived.Carry
import Derived.Stop.Joined
import Derived.SevenTiedAt
import Derived.SizedLaws
import Derived.Lib.SmallJoins
namespace Go.Proofs.YthgieagebcjafaaDoor.noteID
open Go.ChangeShapes Go.WideShapes Go.ChangeAt Go.WideMaps Go.WideElems Go.RowKit Go.Joins
open Go.ChangeMaps (open_string shut_string)
open Go.Proofs.YthgieagebcjafaaDoor.ft Go.Proofs.YthgieagebcjafaaDoor.fu

set_option linter.unusedVariables false

theorem laidOut : laidOutB Tryd.prog = true := by kernel_rfl
theorem cellsY : Tryd.prog.cellsOf 27 = 2 := by kernel_rfl



theorem cells9 : Tryd.prog.cellsOf 9 = 1 := by kernel_rfl
theorem bytes9 : Tryd.prog.bytesOf 9 = 16 := by kernel_rfl
set_option maxRecDepth 100000 in
theorem lifted (os : Os) (started : os.Started) (H : Type) (enc : TypeId × Value → H) :
    ReturnsInHanded {} Tryd.checked os 5 .any (fun w args => (Rows.noteIDSpec.pre enc Tryd.prog Tryd.f5 [] false w args ∧ laidMetH Tryd.prog laid4 w) ∧ sizedMet enc Tryd.prog Tryd.f5 (OpenSpec.ofChange Rows.noteIDSpec) false w args)
      (Rows.noteIDSpec.post enc Tryd.prog Tryd.f5 false true false false) := by
  refine returnsInHanded_of_change_and (C := Tryd.checked) (X := fun w _ => laidMetH Tryd.prog laid4 w) (fun _ _ _ hh h => h.of_heap hh) own started (by kernel_rfl) Tryd.func5
    (ChangeSpec.witness_shaped (enc := enc) (C := Tryd.checked) (os := os) (X := fun w _ => laidMetH Tryd.prog laid4 w) false (World.doorLaid Tryd.prog 400 os) #[.agg #[.string ByteArray.empty, .string ByteArray.empty]] 8 rfl (World.shaped_of_RefB (by kernel_rfl) (by kernel_rfl)) (by kernel_rfl) (by kernel_rfl) (by kernel_rfl) (door_met4 os _)) ?_
  intro W base args ds gs before hval0 hW _ hsz0 hL _
  have hval : ∀ (j : Nat) t v, Tryd.f5.params[j]? = some t → args[j]? = some v → Value.okWide Tryd.prog W .any base t v := hval0
  have hW' := hW
  obtain ⟨p, q, hA0, hV, rfl, hfz, hnd⟩ := hW
  have hA : DataW.TrodAll enc Tryd.prog W 0 (fun _ => true) true Tryd.f5.params.toList args.toList ds p := hA0
  have hsz : (DataW.weightsEach Tryd.prog (Tryd.f5.params.toList ++ Rows.noteIDSpec.plain.varTypes Tryd.prog) (ds ++ gs)).all (· ≤ reachBytes) = true := hsz0
  rw [Tryd.params5] at hA hval hsz
  obtain ⟨v0, vs0, d0, ds0, p0, q0, hargs0, rfl, rfl, h0, r0⟩ := trodAll_cons hA
  obtain ⟨rfl, rfl, rfl⟩ := trodAll_nil r0
  obtain rfl : args = #[v0] := by cases args; simp_all
  obtain ⟨rfl, rfl⟩ := trodVars_none hV
  have hk0 := h0
  obtain ⟨cA0, cB0, yA0, yB0, mA0, rfl, rfl, rfl, hyA0, hyB0⟩ := open_agg2 Tryd.underlying27 (by kernel_rfl) cellsY (hval 0 27 v0 rfl rfl) h0
  obtain ⟨a0, eA0, rA0, wA0⟩ := DataW.trod_string Tryd.underlying9 hyA0
  obtain ⟨b0, eB0, rB0, wB0⟩ := DataW.trod_string Tryd.underlying9 hyB0
  simp at eA0 eB0
  subst eA0 eB0
  have hw0 : ∀ k ∈ DataW.weights Tryd.prog 27 (.agg [yA0.1, yB0.1]), k ≤ 140737488351232 := fun k hk => by
    have h2 := List.all_eq_true.1 hsz _ (DataW.weights_mem_each (j := 0) (t := 27) rfl rfl k hk)
    have h3 : k ≤ reachBytes := by simpa using h2
    unfold reachBytes at h3
    omega
  have zA0 : a0.size ≤ 140737488351232 := by
    have h := hw0 a0.data.toList.length (by rw [rA0]; simp only [DataW.weights, Tryd.underlying27]; simp [DataW.weightsEach, DataW.weights])
    have e : a0.data.toList.length = a0.size := Array.length_toList
    omega
  have zB0 : b0.size ≤ 140737488351232 := by
    have h := hw0 b0.data.toList.length (by rw [rB0]; simp only [DataW.weights, Tryd.underlying27]; simp [DataW.weightsEach, DataW.weights])
    have e : b0.data.toList.length = b0.size := Array.length_toList
    omega
  have tabs := of_laid4 hL
  clear hA0 hval0 hsz0 hsz
  simp only [List.append_nil] at hW'
  have hlt0 : ∀ x ∈ yA0.2 ++ yB0.2, x.block < W.heap.size := fun x hx => by simpa using hW'.lt x (by simp at hx ⊢; rcases hx with hx | hx <;> simp [hx])
  have hargs0k : ∀ (W' : World), Below W.heap.size W W' → DataW.Trod enc Tryd.prog W' 0 (fun b => decide (b < W.heap.size)) true 27 (.agg #[.string a0, .string b0]) (.agg [yA0.1, yB0.1]) (yA0.2 ++ yB0.2) :=
    fun W' hn => Below.trod laidOut (by kernel_rfl) (of_decide_eq_true (by kernel_rfl)) hk0 hn hlt0
  refine ((fun (W : World) (a b : ByteArray) za zb => @Go.Proofs.YthgieagebcjafaaDoor.n4.law_id a b za zb W) W a0 b0 zA0 zB0 tabs).mono fun e W' ⟨he, hnx⟩ => ?_
  subst he
  have hA2 : DataW.TrodAll enc Tryd.prog W' 0 (fun b => decide (b < W.heap.size)) true [27] [.agg #[.string a0, .string b0]] [.agg [yA0.1, yB0.1]] ((yA0.2 ++ yB0.2)) := by simpa using (trodAll_cons_mk (hargs0k _ hnx) trodAll_mk0)
  exact ⟨_, rfl, _, _, _, [], (yA0.2 ++ yB0.2), [], hW', trodAll_cons_mk (shut_bool Tryd.underlying4 _) trodAll_mk0, hA2, rfl, hnx.frame _, fun h => by cases h⟩

theorem row_holds : Rows.NoteIDSaid :=
  OpenClaim.holds_of_wide 5 Tryd.f5 rfl rfl rfl rfl rfl rfl rfl ⟨rfl, rfl, rfl, rfl, rfl⟩ rfl rfl rfl rfl rfl (by kernel_rfl) Tryd.func5 (by kernel_rfl)
    (of_decide_eq_true (by kernel_rfl)) (by unfold Func.isWrapper; first | (rw [if_pos (by decide +kernel)]; kernel_rfl) | (rw [if_neg (by decide +kernel)]; exact ⟨rfl, rfl⟩))
    (fun os started H enc _ => lifted os started H enc)

theorem card_holds : Rows.NoteIDCardSaid :=
  Claim7.holds_tied_plain_at .later [] [.data, .data, .data, .data] true (true, "d7c478fd84392efc779cbeb7d3c6499ed5b7a7f5e90df022cc80bdbb53aac9e1") false
    row_holds (fun _ h => by cases h) (by kernel_rfl) (fun _ h => by cases h) noteID_row_tie rfl ⟨rfl, rfl⟩ (by kernel_rfl) rfl
    (fun f fn hf hfn => by
      obtain rfl : f = 5 := Option.some.inj ((show Tryd.prog.funcNamed "annals/annalslaw20.NoteID" = some 5 by kernel_rfl).symm.trans hf) |>.symm
      obtain rfl : fn = Tryd.f5 := (Option.some.inj (Tryd.func5.symm.trans hfn)).symm
      exact ⟨by kernel_rfl, fun j t ht => by
        rw [Tryd.params5] at ht
        have hm : t ∈ ([27] : List TypeId) := by simpa using Array.mem_of_getElem? ht
        have hall : (([27] : List TypeId).all fun u => !Tryd.prog.wantsStandIn u) = true := by kernel_rfl
        exact (show Tryd.prog.wantsStandIn t = false by simpa using List.all_eq_true.1 hall t hm)⟩)
    (by kernel_rfl)
end Go.Proofs.YthgieagebcjafaaDoor.noteID
namespace Go.Proofs.YthgieagebcjafaaDoor
theorem noteID_holds : Rows.NoteIDCardSaid := noteID.card_holds
#print axioms noteID_holds
end Go.Proofs.YthgieagebcjafaaDoor
