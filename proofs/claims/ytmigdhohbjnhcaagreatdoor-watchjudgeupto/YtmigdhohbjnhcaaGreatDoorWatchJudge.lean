import Derived.Test.YtmigdhohbjnhcaaGreatDoorL5
import Derived.Test.YtmigdhohbjnhcaaGreatDoorTie
import Derived.Test.YtmigdhohbjnhcaaGreatDoorCards
import Derived.ProofKit
import Derived.LaidMore
import Derived.OpenShut
import Derived.ShutString
import Derived.SliceStrings
import Derived.Carry
import Derived.Deep.DeepHandedRow
import Derived.Stop.Joined
import Derived.SevenTiedAt
import Derived.ChangeSlices
import Derived.Deep.MidRow
import Derived.Lib.SmallJoins
namespace Go.Proofs.YtmigdhohbjnhcaaGreatDoor.watchJudge
open Go.ChangeShapes Go.WideShapes Go.ChangeAt Go.WideMaps Go.WideElems Go.RowKit Go.Joins
open Go.ChangeMaps (open_string shut_string)
open Go.Proofs.YtmigdhohbjnhcaaGreatDoor.f8 Go.Proofs.YtmigdhohbjnhcaaGreatDoor.rf Go.Proofs.YtmigdhohbjnhcaaGreatDoor.wb
set_option linter.unusedVariables false

theorem laidOut : laidOutB Tryz.prog = true := by kernel_rfl
theorem cellsK : Tryz.prog.cellsOf 23 = 2 := by kernel_rfl
theorem cellsE : Tryz.prog.cellsOf 25 = 2 := by kernel_rfl
theorem own : ownKnob Tryz.prog.godebug = none := by kernel_rfl
set_option maxRecDepth 100000 in
theorem contract (H : Type) (enc : TypeId × Value → H) (W : World) (base : Nat) (args : Array Value) (ds gs : List (DataW H)) (before : List MemPlace)
    (hval : ∀ (j : Nat) t v, Tryz.f3.params[j]? = some t → args[j]? = some v → Value.okWide Tryz.prog W .any base t v)
    (hW : DataW.Whole enc Tryz.prog Tryz.f3.params.toList Rows.watchJudgeSpec.vars false W args.toList ds gs before) (hsm : Rows.uptoSmall H (ds ++ gs) = true) (hL : laidMetH Tryz.prog laidR W) :
    Calls Tryz.prog 3 args W fun e W' => ∃ v, e = .returned v ∧ Rows.watchJudgeSpec.post enc Tryz.prog Tryz.f3 false true false false W args v W' := by
  have tabs := of_laidR hL
  have hW' := hW
  obtain ⟨p, q, hA0, hV, rfl, hfz, hnd⟩ := hW
  have hA : DataW.TrodAll enc Tryz.prog W 0 (fun _ => true) true Tryz.f3.params.toList args.toList ds p := hA0
  rw [Tryz.params3] at hA hval
  obtain ⟨v0, vs0, d0, ds0, p0, q0, hargs0, rfl, rfl, h0, r0⟩ := trodAll_cons hA
  obtain ⟨v1, vs1, d1, ds1, p1, q1, rfl, rfl, rfl, h1, r1⟩ := trodAll_cons r0
  obtain ⟨rfl, rfl, rfl⟩ := trodAll_nil r1
  obtain rfl : args = #[v0, v1] := by cases args; simp_all
  obtain ⟨rfl, rfl⟩ := trodVars_none hV
  have hk0 := h0
  have hk1 := h1
  obtain ⟨cA0, cB0, yA0, yB0, mA0, rfl, rfl, rfl, hyA0, hyB0⟩ := open_agg2 Tryz.underlying23 (by kernel_rfl) cellsK (hval 0 23 v0 rfl rfl) h0
  obtain ⟨a0, eA0, rA0, wA0⟩ := DataW.trod_string Tryz.underlying9 hyA0
  obtain ⟨b0, eB0, rB0, wB0⟩ := DataW.trod_string Tryz.underlying9 hyB0
  simp at eA0 eB0
  subst eA0 eB0
  obtain ⟨cA1, cB1, yA1, yB1, mA1, rfl, rfl, rfl, hyA1, hyB1⟩ := open_agg2 Tryz.underlying25 (by kernel_rfl) cellsE (hval 1 25 v1 rfl rfl) h1
  obtain ⟨a1, eA1, rA1, wA1⟩ := DataW.trod_string Tryz.underlying9 hyA1
  obtain ⟨b1, eB1, rB1, wB1⟩ := DataW.trod_string Tryz.underlying9 hyB1
  simp at eA1 eB1
  subst eA1 eB1
  have hsum : a0.size + b0.size + a1.size + b1.size ≤ 1048576 := by
    have h : Rows.uptoBulkAll ([.agg [yA0.1, yB0.1], .agg [yA1.1, yB1.1]] ++ []) ≤ 1048576 := of_decide_eq_true hsm
    simp only [List.append_nil, Rows.uptoBulkAll, Rows.uptoBulk] at h
    have e0 : Rows.uptoBulk yA0.1 = a0.data.toList.length + 1 := by rw [rA0]; rfl
    have e1 : Rows.uptoBulk yB0.1 = b0.data.toList.length + 1 := by rw [rB0]; rfl
    have e2 : Rows.uptoBulk yA1.1 = a1.data.toList.length + 1 := by rw [rA1]; rfl
    have e3 : Rows.uptoBulk yB1.1 = b1.data.toList.length + 1 := by rw [rB1]; rfl
    have g0 : a0.data.toList.length = a0.size := Array.length_toList
    have g1 : b0.data.toList.length = b0.size := Array.length_toList
    have g2 : a1.data.toList.length = a1.size := Array.length_toList
    have g3 : b1.data.toList.length = b1.size := Array.length_toList
    omega
  clear hA0 hsm
  simp only [List.append_nil] at hW'
  have hlt0 : ∀ x ∈ yA0.2 ++ yB0.2, x.block < W.heap.size := fun x hx => by simpa using hW'.lt x (by simp at hx ⊢; rcases hx with hx | hx <;> simp [hx])
  have hlt1 : ∀ x ∈ yA1.2 ++ yB1.2, x.block < W.heap.size := fun x hx => by simpa using hW'.lt x (by simp at hx ⊢; rcases hx with hx | hx <;> simp [hx])
  have hargs0k : ∀ (W' : World), Below W.heap.size W W' → DataW.Trod enc Tryz.prog W' 0 (fun b => decide (b < W.heap.size)) true 23 (.agg #[.string a0, .string b0]) (.agg [yA0.1, yB0.1]) (yA0.2 ++ yB0.2) :=
    fun W' hn => Below.trod laidOut (by kernel_rfl) (of_decide_eq_true (by kernel_rfl)) hk0 hn hlt0
  have hargs1k : ∀ (W' : World), Below W.heap.size W W' → DataW.Trod enc Tryz.prog W' 0 (fun b => decide (b < W.heap.size)) true 25 (.agg #[.string a1, .string b1]) (.agg [yA1.1, yB1.1]) (yA1.2 ++ yB1.2) :=
    fun W' hn => Below.trod laidOut (by kernel_rfl) (of_decide_eq_true (by kernel_rfl)) hk1 hn hlt1
  refine (Go.Proofs.YtmigdhohbjnhcaaGreatDoor.wj4.law_judge (a0, b0) (a1, b1) ⟨by show a0.size ≤ _; omega, by show b0.size ≤ _; omega⟩ ⟨by show a1.size ≤ _; omega, by show b1.size ≤ _; omega⟩ W (Tab4.of tabs.1) tabs.2).mono fun e W' ⟨he, hnx⟩ => ?_
  subst he
  have hA2 : DataW.TrodAll enc Tryz.prog W' 0 (fun b => decide (b < W.heap.size)) true [23, 25] [.agg #[.string a0, .string b0], .agg #[.string a1, .string b1]] [.agg [yA0.1, yB0.1], .agg [yA1.1, yB1.1]] ((yA0.2 ++ yB0.2) ++ (yA1.2 ++ yB1.2)) := by simpa using trodAll_cons_mk (hargs0k _ hnx) (trodAll_cons_mk (hargs1k _ hnx) trodAll_mk0)
  exact ⟨_, rfl, _, _, _, [], (yA0.2 ++ yB0.2) ++ (yA1.2 ++ yB1.2), [], hW', trodAll_cons_mk (shut_bool Tryz.underlying4 _) trodAll_mk0, hA2, rfl, hnx.frame _, fun h => by cases h⟩

noncomputable def laidWorld (os : Os) : World :=
  { World.doorLaid Tryz.prog 4000 os with heap := (World.doorLaid Tryz.prog 4000 os).heap.modify 8 fun
      | .cells _ t frozen => .cells (Go.Pinned.utf8FirstZ.map fun (n : Nat) => Value.int .u8 (n : Int)).toArray t frozen
      | o => o }
theorem laid_met (os : Os) : laidMet Tryz.prog Rows.watchJudgeUptoRow.laid ((laidWorld os).forCall (fun _ _ => 0) ⟨#[], #[.agg #[.string ByteArray.empty, .string ByteArray.empty], .agg #[.string ByteArray.empty, .string ByteArray.empty]], []⟩).memory :=
  laidMet_of_run' 8 (by kernel_rfl) (by kernel_rfl)
theorem reads (os : Os) {H : Type} (enc : TypeId × Value → H) : ∃ places, DataW.whole enc Tryz.prog ((laidWorld os).forCall (fun _ _ => 0) ⟨#[], #[.agg #[.string ByteArray.empty, .string ByteArray.empty], .agg #[.string ByteArray.empty, .string ByteArray.empty]], []⟩).memory Tryz.f3.params.toList Rows.watchJudgeSpec.vars false #[Value.agg #[.string ByteArray.empty, .string ByteArray.empty], Value.agg #[.string ByteArray.empty, .string ByteArray.empty]].toList 8 = some ([.agg [.lit (.string []), .lit (.string [])], .agg [.lit (.string []), .lit (.string [])]], [], places) :=
  ⟨[], by kernel_rfl⟩

set_option maxRecDepth 100000 in
theorem liftedUpto (os : Os) (started : os.Started) (H : Type) (enc : TypeId × Value → H) (F : Stop.Interp) :
    ReturnsInHanded {} Tryz.checked os 3 .any ((Rows.OpenSpec.upto Rows.watchJudgeSpec).preRow enc Tryz.prog Tryz.f3 Rows.watchJudgeUptoRow.domain false Rows.watchJudgeUptoRow.laid) (((Rows.OpenSpec.upto Rows.watchJudgeSpec).at F).post enc Tryz.prog Tryz.f3 false true false false) := by
  obtain ⟨places, hx⟩ := reads os enc
  refine returnsInHanded_of_row (C := Tryz.checked) (s := Rows.OpenSpec.upto Rows.watchJudgeSpec) own started (by kernel_rfl) Tryz.func3
    (witness_row_at (enc := enc) (C := Tryz.checked) false (laidWorld os) #[.agg #[.string ByteArray.empty, .string ByteArray.empty], .agg #[.string ByteArray.empty, .string ByteArray.empty]] rfl (by kernel_rfl) (by kernel_rfl) (by kernel_rfl)
      (OpenSpec.preRow_of_cond 8 hx (by kernel_rfl) (fun k hk => by cases hk; kernel_rfl) (by kernel_rfl) (laid_met os))) ?_
  intro W base args ds gs before hval hW _ hcond _ hL _ _
  exact contract H enc W base args ds gs before hval hW (hcond _ rfl) hL

theorem saidUpto : Rows.WatchJudgeUptoSaid :=
  OpenClaim.holds_of_cond 3 Tryz.f3 rfl rfl rfl rfl rfl rfl rfl ⟨rfl, rfl, rfl, rfl, rfl⟩ rfl rfl rfl rfl rfl (by kernel_rfl) Tryz.func3 (by kernel_rfl)
    (of_decide_eq_true (by kernel_rfl)) (by unfold Func.isWrapper; first | (rw [if_pos (by decide +kernel)]; kernel_rfl) | (rw [if_neg (by decide +kernel)]; exact ⟨rfl, rfl⟩))
    (fun os started H enc _ F => by rw [OpenClaim.pre_eq_preRow]; exact liftedUpto os started H enc F)

theorem plain (f : FuncId) (fn : Func) (hf : Tryz.pinned.checked.prog.funcNamed "annals/annalslaw24.WatchJudge" = some f) (hfn : Tryz.pinned.checked.prog.funcs[f]? = some fn) :
    true = Tryz.pinned.checked.prog.looks [] ∧ ∀ (j : Nat) t, fn.params[j]? = some t → Tryz.pinned.checked.prog.wantsStandIn t = false := by
  obtain rfl : f = 3 := Option.some.inj ((show Tryz.prog.funcNamed "annals/annalslaw24.WatchJudge" = some 3 by kernel_rfl).symm.trans hf) |>.symm
  obtain rfl : fn = Tryz.f3 := (Option.some.inj (Tryz.func3.symm.trans hfn)).symm
  refine ⟨by kernel_rfl, fun j t ht => ?_⟩
  rw [Tryz.params3] at ht
  have hm : t ∈ ([23, 25] : List TypeId) := by simpa using Array.mem_of_getElem? ht
  have hall : (([23, 25] : List TypeId).all fun u => !Tryz.prog.wantsStandIn u) = true := by kernel_rfl
  exact (show Tryz.prog.wantsStandIn t = false by simpa using List.all_eq_true.1 hall t hm)

theorem card_holds : Rows.WatchJudgeUptoCardSaid :=
  Claim7.holds_tied_plain_at .later [] _ _ _ _ saidUpto (fun _ h => by cases h) (by kernel_rfl) (fun _ h => by cases h) watchJudgeUpto_row_tie rfl ⟨rfl, rfl⟩ (by kernel_rfl) rfl plain (by kernel_rfl)
end Go.Proofs.YtmigdhohbjnhcaaGreatDoor.watchJudge
namespace Go.Proofs.YtmigdhohbjnhcaaGreatDoor
theorem watchJudge_holds : Rows.WatchJudgeUptoCardSaid := watchJudge.card_holds
#print axioms watchJudge_holds
end Go.Proofs.YtmigdhohbjnhcaaGreatDoor
