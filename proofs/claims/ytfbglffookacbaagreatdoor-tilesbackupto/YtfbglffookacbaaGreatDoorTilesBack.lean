import Derived.Test.YtfbglffookacbaaGreatDoorRp
import Derived.Test.YtfbglffookacbaaGreatDoorTie
import Derived.Test.YtfbglffookacbaaGreatDoorCards
import Derived.ProofKit
import Derived.LaidMore
import Derived.OpenShut
import Derived.ShutString
import Derived.SliceStrings
import Derived.Carry
import Derived.Deep.DeepHandedRow
import Derived.Stop.Joined
import Derived.SevenTiedAt
import Derived.Deep.MidRow
import Derived.Lib.SmallJoins
import Derived.Test.YtfbglffookacbaaGreatDoorSh
import Derived.Test.YtfbglffookacbaaGreatDoorFy
namespace Go.Proofs.YtfbglffookacbaaGreatDoor.tilesBack
open Go.ChangeShapes Go.WideShapes Go.ChangeAt Go.WideMaps Go.WideElems Go.RowKit
open Go.ChangeMaps (open_string shut_string)
open Go.Joins Go.Proofs.YtfbglffookacbaaGreatDoor.sh Go.Proofs.YtfbglffookacbaaGreatDoor.r9 Go.Proofs.YtfbglffookacbaaGreatDoor.fy
open Go.Proofs.YtfbglffookacbaaGreatDoor.rp
set_option linter.unusedVariables false

theorem own : ownKnob Tryz.prog.godebug = none := by kernel_rfl
theorem laidOut : laidOutB Tryz.prog = true := by kernel_rfl
theorem cellsT : Tryz.prog.cellsOf 23 = 4 := by kernel_rfl
theorem fits64 (a : Int) (h : (Lit.int .i64 a).wf = true) : -9223372036854775808 ≤ a ∧ a ≤ 9223372036854775807 := by
  simp only [Lit.wf, Bool.and_eq_true, decide_eq_true_eq] at h
  have h1 : IntKind.i64.min = -9223372036854775808 := by decide +kernel
  have h2 : IntKind.i64.max = 9223372036854775807 := by decide +kernel
  omega
theorem sr {H : Type} {enc : TypeId × Value → H} (W' : World) (sp : Nat → Bool) (a b c d : Int) (wA : (Lit.int .i64 a).wf = true) (wB : (Lit.int .i64 b).wf = true) (wC : (Lit.int .i64 c).wf = true) (wD : (Lit.int .i64 d).wf = true) : DataW.Trod enc Tryz.prog W' 0 sp true 23 (.agg #[.int .i64 a, .int .i64 b, .int .i64 c, .int .i64 d]) (.agg [.lit (.int .i64 a), .lit (.int .i64 b), .lit (.int .i64 c), .lit (.int .i64 d)]) [] :=
  shut_agg4 (y0 := (.lit (.int .i64 a), [])) (y1 := (.lit (.int .i64 b), [])) (y2 := (.lit (.int .i64 c), [])) (y3 := (.lit (.int .i64 d), [])) Tryz.underlying23 (by kernel_rfl) cellsT ⟨1, by simp [DataW.trod, Tryz.underlying3, wA]⟩ ⟨1, by simp [DataW.trod, Tryz.underlying3, wB]⟩ ⟨1, by simp [DataW.trod, Tryz.underlying3, wC]⟩ ⟨1, by simp [DataW.trod, Tryz.underlying3, wD]⟩

set_option maxRecDepth 100000 in
theorem contract (H : Type) (enc : TypeId × Value → H) (W : World) (base : Nat) (args : Array Value) (ds gs : List (DataW H)) (before : List MemPlace)
    (hval : ∀ (j : Nat) t v, Tryz.f3.params[j]? = some t → args[j]? = some v → Value.okWide Tryz.prog W .any base t v)
    (hW : DataW.Whole enc Tryz.prog Tryz.f3.params.toList Rows.tilesBackSpec.vars false W args.toList ds gs before) (hsm : Rows.uptoSmall H (ds ++ gs) = true) (hL : laidMetH Tryz.prog laidP W) (hsh : W.ShapedOpen Tryz.prog) :
    Calls Tryz.prog 3 args W fun e W' => ∃ v, e = .returned v ∧ Rows.tilesBackSpec.post enc Tryz.prog Tryz.f3 false true false false W args v W' := by
  have tabs := of_laidP hL
  have mx : MaxW W := laysM145.s1_3 W hsh
  have hW' := hW
  obtain ⟨p, q, hA0, hV, rfl, hfz, hnd⟩ := hW
  have hA : DataW.TrodAll enc Tryz.prog W 0 (fun _ => true) true Tryz.f3.params.toList args.toList ds p := hA0
  rw [Tryz.params3] at hA hval
  obtain ⟨v0, vs0, d0, ds0, p0, q0, hargs0, rfl, rfl, h0, r0⟩ := trodAll_cons hA
  obtain ⟨v1, vs1, d1, ds1, p1, q1, rfl, rfl, rfl, h1, r1⟩ := trodAll_cons r0
  obtain ⟨v2, vs2, d2, ds2, p2, q2, rfl, rfl, rfl, h2, r2⟩ := trodAll_cons r1
  obtain ⟨rfl, rfl, rfl⟩ := trodAll_nil r2
  obtain rfl : args = #[v0, v1, v2] := by cases args; simp_all
  obtain ⟨rfl, rfl⟩ := trodVars_none hV
  obtain ⟨cA0, cB0, cC0, cD0, yA0, yB0, yC0, yD0, mA0, rfl, rfl, rfl, hyA0, hyB0, hyC0, hyD0⟩ := open_agg4 Tryz.underlying23 (by kernel_rfl) cellsT (hval 0 23 v0 rfl rfl) h0
  obtain ⟨a0, eA0, rfl, wA0⟩ := DataW.trod_int Tryz.underlying3 hyA0
  obtain ⟨b0, eB0, rfl, wB0⟩ := DataW.trod_int Tryz.underlying3 hyB0
  obtain ⟨c0, eC0, rfl, wC0⟩ := DataW.trod_int Tryz.underlying3 hyC0
  obtain ⟨e0, eD0, rfl, wD0⟩ := DataW.trod_int Tryz.underlying3 hyD0
  simp at eA0 eB0 eC0 eD0
  subst eA0 eB0 eC0 eD0
  obtain ⟨cA1, cB1, cC1, cD1, yA1, yB1, yC1, yD1, mA1, rfl, rfl, rfl, hyA1, hyB1, hyC1, hyD1⟩ := open_agg4 Tryz.underlying23 (by kernel_rfl) cellsT (hval 1 23 v1 rfl rfl) h1
  obtain ⟨a1, eA1, rfl, wA1⟩ := DataW.trod_int Tryz.underlying3 hyA1
  obtain ⟨b1, eB1, rfl, wB1⟩ := DataW.trod_int Tryz.underlying3 hyB1
  obtain ⟨c1, eC1, rfl, wC1⟩ := DataW.trod_int Tryz.underlying3 hyC1
  obtain ⟨e1, eD1, rfl, wD1⟩ := DataW.trod_int Tryz.underlying3 hyD1
  simp at eA1 eB1 eC1 eD1
  subst eA1 eB1 eC1 eD1
  obtain ⟨a2, rfl, rfl, rfl, w2⟩ := open_string Tryz.underlying9 (hval 2 9 v2 rfl rfl) h2
  have hsum : 0 + 0 + a2.size ≤ 1048576 := by
    have h : Rows.uptoBulkAll ([.agg [.lit (.int .i64 a0), .lit (.int .i64 b0), .lit (.int .i64 c0), .lit (.int .i64 e0)], .agg [.lit (.int .i64 a1), .lit (.int .i64 b1), .lit (.int .i64 c1), .lit (.int .i64 e1)], .lit (.string a2.data.toList)] ++ []) ≤ 1048576 := of_decide_eq_true hsm
    simp only [List.append_nil, Rows.uptoBulkAll, Rows.uptoBulk] at h
    have e2 : a2.data.toList.length = a2.size := Array.length_toList
    omega
  clear hA0 hsm
  simp only [List.append_nil] at hW'
  refine (Go.Proofs.YtfbglffookacbaaGreatDoor.rp.law_back a0 b0 c0 e0 a1 b1 c1 e1 (fits64 a0 wA0) (fits64 b0 wB0) (fits64 c0 wC0) (fits64 e0 wD0) (fits64 a1 wA1) (fits64 b1 wB1) (fits64 c1 wC1) (fits64 e1 wD1) a2 (by omega) W tabs mx tabs.tab).mono fun e W' ⟨he, hnx⟩ => ?_
  subst he
  exact ⟨_, rfl, _, _, _, [], [], [], hW', trodAll_cons_mk (shut_bool Tryz.underlying4 _) trodAll_mk0, (trodAll_cons_mk (sr _ _ a0 b0 c0 e0 wA0 wB0 wC0 wD0) (trodAll_cons_mk (sr _ _ a1 b1 c1 e1 wA1 wB1 wC1 wD1) (trodAll_cons_mk (shut_string Tryz.underlying9 w2) trodAll_mk0))), rfl, hnx.frame _, fun h => by cases h⟩

noncomputable def laidWorld (os : Os) : World :=
  { World.doorLaid Tryz.prog 4000 os with heap := (World.doorLaid Tryz.prog 4000 os).heap.modify 6 fun
      | .cells _ t frozen => .cells (Go.Pinned.utf8FirstZ.map fun (n : Nat) => Value.int .u8 (n : Int)).toArray t frozen
      | o => o }
theorem laid_met (os : Os) : laidMet Tryz.prog Rows.tilesBackUptoRow.laid ((laidWorld os).forCall (fun _ _ => 0) ⟨#[], #[.agg #[.int .i64 0, .int .i64 0, .int .i64 0, .int .i64 0], .agg #[.int .i64 0, .int .i64 0, .int .i64 0, .int .i64 0], .string ByteArray.empty], []⟩).memory :=
  laidMet_of_run' 8 (by kernel_rfl) (by kernel_rfl)
theorem reads (os : Os) {H : Type} (enc : TypeId × Value → H) : ∃ places, DataW.whole enc Tryz.prog ((laidWorld os).forCall (fun _ _ => 0) ⟨#[], #[.agg #[.int .i64 0, .int .i64 0, .int .i64 0, .int .i64 0], .agg #[.int .i64 0, .int .i64 0, .int .i64 0, .int .i64 0], .string ByteArray.empty], []⟩).memory Tryz.f3.params.toList Rows.tilesBackSpec.vars false #[Value.agg #[.int .i64 0, .int .i64 0, .int .i64 0, .int .i64 0], Value.agg #[.int .i64 0, .int .i64 0, .int .i64 0, .int .i64 0], Value.string ByteArray.empty].toList 8 = some ([.agg [.lit (.int .i64 0), .lit (.int .i64 0), .lit (.int .i64 0), .lit (.int .i64 0)], .agg [.lit (.int .i64 0), .lit (.int .i64 0), .lit (.int .i64 0), .lit (.int .i64 0)], .lit (.string [])], [], places) :=
  ⟨[], by kernel_rfl⟩

set_option maxRecDepth 100000 in
theorem liftedUpto (os : Os) (started : os.Started) (H : Type) (enc : TypeId × Value → H) (F : Stop.Interp) :
    ReturnsInHanded {} Tryz.checked os 3 .any ((Rows.OpenSpec.upto Rows.tilesBackSpec).preRow enc Tryz.prog Tryz.f3 Rows.tilesBackUptoRow.domain false Rows.tilesBackUptoRow.laid) (((Rows.OpenSpec.upto Rows.tilesBackSpec).at F).post enc Tryz.prog Tryz.f3 false true false false) := by
  obtain ⟨places, hx⟩ := reads os enc
  refine returnsInHanded_of_row (C := Tryz.checked) (s := Rows.OpenSpec.upto Rows.tilesBackSpec) own started (by kernel_rfl) Tryz.func3
    (witness_row_at (enc := enc) (C := Tryz.checked) false (laidWorld os) #[.agg #[.int .i64 0, .int .i64 0, .int .i64 0, .int .i64 0], .agg #[.int .i64 0, .int .i64 0, .int .i64 0, .int .i64 0], .string ByteArray.empty] rfl (by kernel_rfl) (by kernel_rfl) (by kernel_rfl)
      (OpenSpec.preRow_of_cond 8 hx (by kernel_rfl) (fun k hk => by cases hk; kernel_rfl) (by kernel_rfl) (laid_met os))) ?_
  intro W base args ds gs before hval hW _ hcond _ hL hsh _
  exact contract H enc W base args ds gs before hval hW (hcond _ rfl) hL hsh

theorem saidUpto : Rows.TilesBackUptoSaid :=
  OpenClaim.holds_of_cond 3 Tryz.f3 rfl rfl rfl rfl rfl rfl rfl ⟨rfl, rfl, rfl, rfl, rfl⟩ rfl rfl rfl rfl rfl (by kernel_rfl) Tryz.func3 (by kernel_rfl)
    (of_decide_eq_true (by kernel_rfl)) (by unfold Func.isWrapper; first | (rw [if_pos (by decide +kernel)]; kernel_rfl) | (rw [if_neg (by decide +kernel)]; exact ⟨rfl, rfl⟩))
    (fun os started H enc _ F => by rw [OpenClaim.pre_eq_preRow]; exact liftedUpto os started H enc F)

theorem plain (f : FuncId) (fn : Func) (hf : Tryz.pinned.checked.prog.funcNamed "annals/annalslaw23.TilesBack" = some f) (hfn : Tryz.pinned.checked.prog.funcs[f]? = some fn) :
    true = Tryz.pinned.checked.prog.looks [] ∧ ∀ (j : Nat) t, fn.params[j]? = some t → Tryz.pinned.checked.prog.wantsStandIn t = false := by
  obtain rfl : f = 3 := Option.some.inj ((show Tryz.prog.funcNamed "annals/annalslaw23.TilesBack" = some 3 by kernel_rfl).symm.trans hf) |>.symm
  obtain rfl : fn = Tryz.f3 := (Option.some.inj (Tryz.func3.symm.trans hfn)).symm
  refine ⟨by kernel_rfl, fun j t ht => ?_⟩
  rw [Tryz.params3] at ht
  have hm : t ∈ ([23, 23, 9] : List TypeId) := by simpa using Array.mem_of_getElem? ht
  have hall : (([23, 23, 9] : List TypeId).all fun u => !Tryz.prog.wantsStandIn u) = true := by kernel_rfl
  exact (show Tryz.prog.wantsStandIn t = false by simpa using List.all_eq_true.1 hall t hm)

theorem card_holds : Rows.TilesBackUptoCardSaid :=
  Claim7.holds_tied_plain_at .later [] _ _ _ _ saidUpto (fun _ h => by cases h) (by kernel_rfl) (fun _ h => by cases h) tilesBackUpto_row_tie rfl ⟨rfl, rfl⟩ (by kernel_rfl) rfl plain (by kernel_rfl)
end Go.Proofs.YtfbglffookacbaaGreatDoor.tilesBack
namespace Go.Proofs.YtfbglffookacbaaGreatDoor
theorem tilesBack_holds : Rows.TilesBackUptoCardSaid := tilesBack.card_holds
#print axioms tilesBack_holds
end Go.Proofs.YtfbglffookacbaaGreatDoor
