import Derived.Test.YtmldkecaghokeaaDoorV3
import Derived.Test.YtmldkecaghokeaaDoorV5
import Derived.Test.YtmldkecaghokeaaDoorTie
import Derived.Test.YtmldkecaghokeaaDoorCards
import Derived.ProofKit
import Derived.LaidMore
import Derived.OpenShut
import Derived.ShutString
import Derived.SliceStrings
import Derived.Carry
import Derived.Deep.DeepHandedRow
import Derived.Stop.Joined
import Derived.SevenTiedAt
import Derived.ChangeSlices
import Derived.Deep.MidRow
import Derived.Lib.SmallJoins
namespace Go.Proofs.YtmldkecaghokeaaDoor.queuePromised
open Go.ChangeShapes Go.WideShapes Go.ChangeAt Go.WideMaps Go.WideElems Go.RowKit Go.Joins
open Go.ChangeMaps (open_string shut_string)
open Go.Proofs.YtmldkecaghokeaaDoor.ft Go.Proofs.YtmldkecaghokeaaDoor.fu Go.Proofs.YtmldkecaghokeaaDoor.f7
set_option linter.unusedVariables false

theorem laidOut : laidOutB Tryd.prog = true := by kernel_rfl
theorem cellsP : Tryd.prog.cellsOf 23 = 4 := by kernel_rfl
theorem fits64 (a : Int) (h : (Lit.int .i64 a).wf = true) : -9223372036854775808 ≤ a ∧ a ≤ 9223372036854775807 := by
  simp only [Lit.wf, Bool.and_eq_true, decide_eq_true_eq] at h
  have h1 : IntKind.i64.min = -9223372036854775808 := by decide +kernel
  have h2 : IntKind.i64.max = 9223372036854775807 := by decide +kernel
  omega
set_option maxRecDepth 100000 in
theorem contract (H : Type) (enc : TypeId × Value → H) (W : World) (base : Nat) (args : Array Value) (ds gs : List (DataW H)) (before : List MemPlace)
    (hval : ∀ (j : Nat) t v, Tryd.f3.params[j]? = some t → args[j]? = some v → Value.okWide Tryd.prog W .any base t v)
    (hW : DataW.Whole enc Tryd.prog Tryd.f3.params.toList Rows.queuePromisedSpec.vars false W args.toList ds gs before) (hsm : Rows.uptoSmall H (ds ++ gs) = true) (hL : laidMetH Tryd.prog laid7 W) :
    Calls Tryd.prog 3 args W fun e W' => ∃ v, e = .returned v ∧ Rows.queuePromisedSpec.post enc Tryd.prog Tryd.f3 false true false false W args v W' := by
  have tabs := of_laid7 hL
  have hW' := hW
  obtain ⟨p, q, hA0, hV, rfl, hfz, hnd⟩ := hW
  have hA : DataW.TrodAll enc Tryd.prog W 0 (fun _ => true) true Tryd.f3.params.toList args.toList ds p := hA0
  rw [Tryd.params3] at hA hval
  obtain ⟨v0, vs0, d0, ds0, p0, q0, hargs0, rfl, rfl, h0, r0⟩ := trodAll_cons hA
  obtain ⟨v1, vs1, d1, ds1, p1, q1, rfl, rfl, rfl, h1, r1⟩ := trodAll_cons r0
  obtain ⟨v2, vs2, d2, ds2, p2, q2, rfl, rfl, rfl, h2, r2⟩ := trodAll_cons r1
  obtain ⟨rfl, rfl, rfl⟩ := trodAll_nil r2
  obtain rfl : args = #[v0, v1, v2] := by cases args; simp_all
  obtain ⟨rfl, rfl⟩ := trodVars_none hV
  obtain ⟨a0, rfl, rfl, rfl, w0⟩ := open_string Tryd.underlying9 (hval 0 9 v0 rfl rfl) h0
  obtain ⟨a1, rfl, rfl, rfl, w1⟩ := open_string Tryd.underlying9 (hval 1 9 v1 rfl rfl) h1
  obtain ⟨cA, cB, cC, cD, yA, yB, yC, yD, mA, rfl, rfl, rfl, hyA, hyB, hyC, hyD⟩ := open_agg4 Tryd.underlying23 (by kernel_rfl) cellsP (hval 2 23 v2 rfl rfl) h2
  obtain ⟨ph, eA, rfl, wA⟩ := DataW.trod_string Tryd.underlying9 hyA
  obtain ⟨pt, eB, rfl, wB⟩ := DataW.trod_int Tryd.underlying3 hyB
  obtain ⟨pd, eC, rfl, wC⟩ := DataW.trod_int Tryd.underlying3 hyC
  obtain ⟨pm, eD, rfl, wD⟩ := DataW.trod_string Tryd.underlying9 hyD
  simp at eA eB eC eD
  subst eA eB eC eD
  have sr : ∀ (W' : World) (sp : Nat → Bool), DataW.Trod enc Tryd.prog W' 0 sp true 23 (.agg #[.string ph, .int .i64 pt, .int .i64 pd, .string pm]) (.agg [.lit (.string ph.data.toList), .lit (.int .i64 pt), .lit (.int .i64 pd), .lit (.string pm.data.toList)]) [] := fun W' sp =>
    shut_agg4 (y0 := (.lit (.string ph.data.toList), [])) (y1 := (.lit (.int .i64 pt), [])) (y2 := (.lit (.int .i64 pd), [])) (y3 := (.lit (.string pm.data.toList), [])) Tryd.underlying23 (by kernel_rfl) cellsP ⟨1, by simp [DataW.trod, Tryd.underlying9, wA]⟩ ⟨1, by simp [DataW.trod, Tryd.underlying3, wB]⟩ ⟨1, by simp [DataW.trod, Tryd.underlying3, wC]⟩ ⟨1, by simp [DataW.trod, Tryd.underlying9, wD]⟩
  have hsum : a0.size + a1.size + ph.size + pm.size ≤ 1048576 := by
    have h : Rows.uptoBulkAll ([.lit (.string a0.data.toList), .lit (.string a1.data.toList), .agg [.lit (.string ph.data.toList), .lit (.int .i64 pt), .lit (.int .i64 pd), .lit (.string pm.data.toList)]] ++ []) ≤ 1048576 := of_decide_eq_true hsm
    simp only [List.append_nil, Rows.uptoBulkAll, Rows.uptoBulk] at h
    have e0 : a0.data.toList.length = a0.size := Array.length_toList
    have e1 : a1.data.toList.length = a1.size := Array.length_toList
    have e2 : ph.data.toList.length = ph.size := Array.length_toList
    have e3 : pm.data.toList.length = pm.size := Array.length_toList
    omega
  clear hA0 hsm
  simp only [List.append_nil] at hW'
  refine (Go.Proofs.YtmldkecaghokeaaDoor.u4.law_promised a0 a1 ph pm pt pd (by omega) (by omega) (by omega) (by omega) (fits64 pt wB) (fits64 pd wC) W tabs.1 tabs.2).mono fun e W' ⟨he, hnx⟩ => ?_
  subst he
  exact ⟨_, rfl, _, _, _, [], [], [], hW', trodAll_cons_mk (shut_bool Tryd.underlying4 _) trodAll_mk0, (trodAll_cons_mk (shut_string Tryd.underlying9 w0) (trodAll_cons_mk (shut_string Tryd.underlying9 w1) (trodAll_cons_mk (sr _ _) trodAll_mk0))), rfl, hnx.frame _, fun h => by cases h⟩

theorem laid_met (os : Os) : laidMet Tryd.prog Rows.queuePromisedUptoRow.laid ((World.doorLaid Tryd.prog 4000 os).forCall (fun _ _ => 0) ⟨#[], #[.string ByteArray.empty, .string ByteArray.empty, .agg #[.string ByteArray.empty, .int .i64 0, .int .i64 0, .string ByteArray.empty]], []⟩).memory :=
  laidMet_of_run' 8 (by kernel_rfl) (by kernel_rfl)
theorem reads (os : Os) {H : Type} (enc : TypeId × Value → H) : ∃ places, DataW.whole enc Tryd.prog ((World.doorLaid Tryd.prog 4000 os).forCall (fun _ _ => 0) ⟨#[], #[.string ByteArray.empty, .string ByteArray.empty, .agg #[.string ByteArray.empty, .int .i64 0, .int .i64 0, .string ByteArray.empty]], []⟩).memory Tryd.f3.params.toList Rows.queuePromisedSpec.vars false #[Value.string ByteArray.empty, Value.string ByteArray.empty, Value.agg #[.string ByteArray.empty, .int .i64 0, .int .i64 0, .string ByteArray.empty]].toList 8 = some ([.lit (.string []), .lit (.string []), .agg [.lit (.string []), .lit (.int .i64 0), .lit (.int .i64 0), .lit (.string [])]], [], places) :=
  ⟨[], by kernel_rfl⟩

set_option maxRecDepth 100000 in
theorem liftedUpto (os : Os) (started : os.Started) (H : Type) (enc : TypeId × Value → H) (F : Stop.Interp) :
    ReturnsInHanded {} Tryd.checked os 3 .any ((Rows.OpenSpec.upto Rows.queuePromisedSpec).preRow enc Tryd.prog Tryd.f3 Rows.queuePromisedUptoRow.domain false Rows.queuePromisedUptoRow.laid) (((Rows.OpenSpec.upto Rows.queuePromisedSpec).at F).post enc Tryd.prog Tryd.f3 false true false false) := by
  obtain ⟨places, hx⟩ := reads os enc
  refine returnsInHanded_of_row (C := Tryd.checked) (s := Rows.OpenSpec.upto Rows.queuePromisedSpec) own started (by kernel_rfl) Tryd.func3
    (witness_row_at (enc := enc) (C := Tryd.checked) false (World.doorLaid Tryd.prog 4000 os) #[.string ByteArray.empty, .string ByteArray.empty, .agg #[.string ByteArray.empty, .int .i64 0, .int .i64 0, .string ByteArray.empty]] rfl (by kernel_rfl) (by kernel_rfl) (by kernel_rfl)
      (OpenSpec.preRow_of_cond 8 hx (by kernel_rfl) (fun k hk => by cases hk; kernel_rfl) (by kernel_rfl) (laid_met os))) ?_
  intro W base args ds gs before hval hW _ hcond _ hL _ _
  exact contract H enc W base args ds gs before hval hW (hcond _ rfl) hL

theorem saidUpto : Rows.QueuePromisedUptoSaid :=
  OpenClaim.holds_of_cond 3 Tryd.f3 rfl rfl rfl rfl rfl rfl rfl ⟨rfl, rfl, rfl, rfl, rfl⟩ rfl rfl rfl rfl rfl (by kernel_rfl) Tryd.func3 (by kernel_rfl)
    (of_decide_eq_true (by kernel_rfl)) (by unfold Func.isWrapper; first | (rw [if_pos (by decide +kernel)]; kernel_rfl) | (rw [if_neg (by decide +kernel)]; exact ⟨rfl, rfl⟩))
    (fun os started H enc _ F => by rw [OpenClaim.pre_eq_preRow]; exact liftedUpto os started H enc F)

theorem plain (f : FuncId) (fn : Func) (hf : Tryd.pinned.checked.prog.funcNamed "annals/annalslaw21.QueuePromised" = some f) (hfn : Tryd.pinned.checked.prog.funcs[f]? = some fn) :
    false = Tryd.pinned.checked.prog.looks [] ∧ ∀ (j : Nat) t, fn.params[j]? = some t → Tryd.pinned.checked.prog.wantsStandIn t = false := by
  obtain rfl : f = 3 := Option.some.inj ((show Tryd.prog.funcNamed "annals/annalslaw21.QueuePromised" = some 3 by kernel_rfl).symm.trans hf) |>.symm
  obtain rfl : fn = Tryd.f3 := (Option.some.inj (Tryd.func3.symm.trans hfn)).symm
  refine ⟨by kernel_rfl, fun j t ht => ?_⟩
  rw [Tryd.params3] at ht
  have hm : t ∈ ([9, 9, 23] : List TypeId) := by simpa using Array.mem_of_getElem? ht
  have hall : (([9, 9, 23] : List TypeId).all fun u => !Tryd.prog.wantsStandIn u) = true := by kernel_rfl
  exact (show Tryd.prog.wantsStandIn t = false by simpa using List.all_eq_true.1 hall t hm)

theorem card_holds : Rows.QueuePromisedUptoCardSaid :=
  Claim7.holds_tied_plain_at .later [] _ _ _ _ saidUpto (fun _ h => by cases h) (by kernel_rfl) (fun _ h => by cases h) queuePromisedUpto_row_tie rfl ⟨rfl, rfl⟩ (by kernel_rfl) rfl plain (by kernel_rfl)
end Go.Proofs.YtmldkecaghokeaaDoor.queuePromised
namespace Go.Proofs.YtmldkecaghokeaaDoor
theorem queuePromised_holds : Rows.QueuePromisedUptoCardSaid := queuePromised.card_holds
#print axioms queuePromised_holds
end Go.Proofs.YtmldkecaghokeaaDoor
