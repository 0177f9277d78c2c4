import Derived.Test.YtmldkecaghokeaaGreatDoorJ2
import Derived.Test.YtmldkecaghokeaaGreatDoorFu
import Derived.Test.YtmldkecaghokeaaGreatDoorFu
import Derived.Test.YtmldkecaghokeaaGreatDoorTie
import Derived.Test.YtmldkecaghokeaaGreatDoorCards
import Derived.ProofKit
import Derived.LaidMore
import Derived.OpenShut
import Derived.SliceStrings
import Derived.Carry
import Derived.Stop.Joined
import Derived.SevenTiedAt
import Derived.SizedLaws
import Derived.Lib.SmallJoins
namespace Go.Proofs.YtmldkecaghokeaaGreatDoor.noteAdd
open Go.ChangeShapes Go.WideShapes Go.ChangeAt Go.WideMaps Go.WideElems Go.RowKit Go.Joins
open Go.ChangeMaps (open_string shut_string)
open Go.Proofs.YtmldkecaghokeaaGreatDoor.ft Go.Proofs.YtmldkecaghokeaaGreatDoor.fu

set_option linter.unusedVariables false

theorem laidOut : laidOutB Tryz.prog = true := by kernel_rfl
theorem cellsY : Tryz.prog.cellsOf 36 = 2 := by kernel_rfl



theorem cells9 : Tryz.prog.cellsOf 9 = 1 := by kernel_rfl
theorem bytes9 : Tryz.prog.bytesOf 9 = 16 := by kernel_rfl
set_option maxRecDepth 100000 in
theorem lifted (os : Os) (started : os.Started) (H : Type) (enc : TypeId × Value → H) :
    ReturnsInHanded {} Tryz.checked os 4 .any (fun w args => (Rows.noteAddSpec.pre enc Tryz.prog Tryz.f4 [] false w args ∧ laidMetH Tryz.prog laid4 w) ∧ sizedMet enc Tryz.prog Tryz.f4 (OpenSpec.ofChange Rows.noteAddSpec) false w args)
      (Rows.noteAddSpec.post enc Tryz.prog Tryz.f4 false true false false) := by
  refine returnsInHanded_of_change_and (C := Tryz.checked) (X := fun w _ => laidMetH Tryz.prog laid4 w) (fun _ _ _ hh h => h.of_heap hh) own started (by kernel_rfl) Tryz.func4
    (ChangeSpec.witness_shaped (enc := enc) (C := Tryz.checked) (os := os) (X := fun w _ => laidMetH Tryz.prog laid4 w) false (World.doorLaid Tryz.prog 400 os) #[.string ByteArray.empty, .agg #[.string ByteArray.empty, .string ByteArray.empty]] 8 rfl (World.shaped_of_RefB (by kernel_rfl) (by kernel_rfl)) (by kernel_rfl) (by kernel_rfl) (by kernel_rfl) (door_met4 os _)) ?_
  intro W base args ds gs before hval0 hW _ hsz0 hL _
  have hval : ∀ (j : Nat) t v, Tryz.f4.params[j]? = some t → args[j]? = some v → Value.okWide Tryz.prog W .any base t v := hval0
  have hW' := hW
  obtain ⟨p, q, hA0, hV, rfl, hfz, hnd⟩ := hW
  have hA : DataW.TrodAll enc Tryz.prog W 0 (fun _ => true) true Tryz.f4.params.toList args.toList ds p := hA0
  have hsz : (DataW.weightsEach Tryz.prog (Tryz.f4.params.toList ++ Rows.noteAddSpec.plain.varTypes Tryz.prog) (ds ++ gs)).all (· ≤ reachBytes) = true := hsz0
  rw [Tryz.params4] at hA hval hsz
  obtain ⟨v0, vs0, d0, ds0, p0, q0, hargs0, rfl, rfl, h0, r0⟩ := trodAll_cons hA
  obtain ⟨v1, vs1, d1, ds1, p1, q1, rfl, rfl, rfl, h1, r1⟩ := trodAll_cons r0
  obtain ⟨rfl, rfl, rfl⟩ := trodAll_nil r1
  obtain rfl : args = #[v0, v1] := by cases args; simp_all
  obtain ⟨rfl, rfl⟩ := trodVars_none hV
  obtain ⟨a0, rfl, rfl, rfl, w0⟩ := open_string Tryz.underlying9 (hval 0 9 v0 rfl rfl) h0
  have z0 : a0.size ≤ 140737488351232 := by
    have h := sized_string hsz (j := 0) (t := 9) (bytes := a0.data.toList) rfl rfl
    have e : a0.data.toList.length = a0.size := Array.length_toList
    unfold reachBytes at h
    omega
  have hk1 := h1
  obtain ⟨cA1, cB1, yA1, yB1, mA1, rfl, rfl, rfl, hyA1, hyB1⟩ := open_agg2 Tryz.underlying36 (by kernel_rfl) cellsY (hval 1 36 v1 rfl rfl) h1
  obtain ⟨a1, eA1, rA1, wA1⟩ := DataW.trod_string Tryz.underlying9 hyA1
  obtain ⟨b1, eB1, rB1, wB1⟩ := DataW.trod_string Tryz.underlying9 hyB1
  simp at eA1 eB1
  subst eA1 eB1
  have hw1 : ∀ k ∈ DataW.weights Tryz.prog 36 (.agg [yA1.1, yB1.1]), k ≤ 140737488351232 := fun k hk => by
    have h2 := List.all_eq_true.1 hsz _ (DataW.weights_mem_each (j := 1) (t := 36) rfl rfl k hk)
    have h3 : k ≤ reachBytes := by simpa using h2
    unfold reachBytes at h3
    omega
  have zA1 : a1.size ≤ 140737488351232 := by
    have h := hw1 a1.data.toList.length (by rw [rA1]; simp only [DataW.weights, Tryz.underlying36]; simp [DataW.weightsEach, DataW.weights])
    have e : a1.data.toList.length = a1.size := Array.length_toList
    omega
  have zB1 : b1.size ≤ 140737488351232 := by
    have h := hw1 b1.data.toList.length (by rw [rB1]; simp only [DataW.weights, Tryz.underlying36]; simp [DataW.weightsEach, DataW.weights])
    have e : b1.data.toList.length = b1.size := Array.length_toList
    omega
  have tabs := of_laid4 hL
  clear hA0 hval0 hsz0 hsz
  simp only [List.append_nil] at hW'
  have hlt1 : ∀ x ∈ yA1.2 ++ yB1.2, x.block < W.heap.size := fun x hx => by simpa using hW'.lt x (by simp at hx ⊢; rcases hx with hx | hx <;> simp [hx])
  have hargs1k : ∀ (W' : World), Below W.heap.size W W' → DataW.Trod enc Tryz.prog W' 0 (fun b => decide (b < W.heap.size)) true 36 (.agg #[.string a1, .string b1]) (.agg [yA1.1, yB1.1]) (yA1.2 ++ yB1.2) :=
    fun W' hn => Below.trod laidOut (by kernel_rfl) (of_decide_eq_true (by kernel_rfl)) hk1 hn hlt1
  refine ((fun (W : World) (a : ByteArray) za (b c : ByteArray) zb zc => @Go.Proofs.YtmldkecaghokeaaGreatDoor.t6.law_add a b c za zb zc W) W a0 z0 a1 b1 zA1 zB1 tabs).mono fun e W' ⟨he, hnx⟩ => ?_
  subst he
  have hA2 : DataW.TrodAll enc Tryz.prog W' 0 (fun b => decide (b < W.heap.size)) true [9, 36] [.string a0, .agg #[.string a1, .string b1]] [.lit (.string a0.data.toList), .agg [yA1.1, yB1.1]] ((yA1.2 ++ yB1.2)) := by simpa using (trodAll_cons_mk (shut_string Tryz.underlying9 w0) (trodAll_cons_mk (hargs1k _ hnx) trodAll_mk0))
  exact ⟨_, rfl, _, _, _, [], (yA1.2 ++ yB1.2), [], hW', trodAll_cons_mk (shut_bool Tryz.underlying4 _) trodAll_mk0, hA2, rfl, hnx.frame _, fun h => by cases h⟩

theorem row_holds : Rows.NoteAddSaid :=
  OpenClaim.holds_of_wide 4 Tryz.f4 rfl rfl rfl rfl rfl rfl rfl ⟨rfl, rfl, rfl, rfl, rfl⟩ rfl rfl rfl rfl rfl (by kernel_rfl) Tryz.func4 (by kernel_rfl)
    (of_decide_eq_true (by kernel_rfl)) (by unfold Func.isWrapper; first | (rw [if_pos (by decide +kernel)]; kernel_rfl) | (rw [if_neg (by decide +kernel)]; exact ⟨rfl, rfl⟩))
    (fun os started H enc _ => lifted os started H enc)

theorem card_holds : Rows.NoteAddCardSaid :=
  Claim7.holds_tied_plain_at .later [] [.data, .data, .data, .data] true (true, "095b57feb7ece7645239bbb0253660060260b0bf4e226d7ae2192d71e1171b98") false
    row_holds (fun _ h => by cases h) (by kernel_rfl) (fun _ h => by cases h) noteAdd_row_tie rfl ⟨rfl, rfl⟩ (by kernel_rfl) rfl
    (fun f fn hf hfn => by
      obtain rfl : f = 4 := Option.some.inj ((show Tryz.prog.funcNamed "annals/annalslaw20.NoteAdd" = some 4 by kernel_rfl).symm.trans hf) |>.symm
      obtain rfl : fn = Tryz.f4 := (Option.some.inj (Tryz.func4.symm.trans hfn)).symm
      exact ⟨by kernel_rfl, fun j t ht => by
        rw [Tryz.params4] at ht
        have hm : t ∈ ([9, 36] : List TypeId) := by simpa using Array.mem_of_getElem? ht
        have hall : (([9, 36] : List TypeId).all fun u => !Tryz.prog.wantsStandIn u) = true := by kernel_rfl
        exact (show Tryz.prog.wantsStandIn t = false by simpa using List.all_eq_true.1 hall t hm)⟩)
    (by kernel_rfl)
end Go.Proofs.YtmldkecaghokeaaGreatDoor.noteAdd
namespace Go.Proofs.YtmldkecaghokeaaGreatDoor
theorem noteAdd_holds : Rows.NoteAddCardSaid := noteAdd.card_holds
#print axioms noteAdd_holds
end Go.Proofs.YtmldkecaghokeaaGreatDoor
