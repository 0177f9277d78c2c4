import Derived.Test.YtoakkoalkpfkmaaDoorA8
import Derived.Test.YtoakkoalkpfkmaaDoorF9
import Derived.Test.YtoakkoalkpfkmaaDoorTie
import Derived.Test.YtoakkoalkpfkmaaDoorCards
import Derived.ProofKit
import Derived.LaidMore
import Derived.OpenShut
import Derived.SliceStrings
import Derived.Carry
import Derived.Stop.Joined
import Derived.SevenTiedAt
import Derived.SizedLaws
import Derived.Lib.SmallJoins
namespace Go.Proofs.YtoakkoalkpfkmaaDoor.tilesPath
open Go.ChangeShapes Go.WideShapes Go.ChangeAt Go.WideMaps Go.WideElems Go.RowKit Go.Joins
open Go.Proofs.YtoakkoalkpfkmaaDoor.f9
set_option linter.unusedVariables false

theorem cellsT : Tryd.prog.cellsOf 23 = 4 := by kernel_rfl
theorem fits64 (a : Int) (h : (Lit.int .i64 a).wf = true) : -9223372036854775808 ≤ a ∧ a ≤ 9223372036854775807 := by
  simp only [Lit.wf, Bool.and_eq_true, decide_eq_true_eq] at h
  have h1 : IntKind.i64.min = -9223372036854775808 := by decide +kernel
  have h2 : IntKind.i64.max = 9223372036854775807 := by decide +kernel
  omega
set_option maxRecDepth 100000 in
theorem lifted (os : Os) (started : os.Started) (H : Type) (enc : TypeId × Value → H) :
    ReturnsInHanded {} Tryd.checked os 3 .any (fun w args => (Rows.tilesPathSpec.pre enc Tryd.prog Tryd.f3 [] false w args ∧ laidMetH Tryd.prog laid3 w) ∧ sizedMet enc Tryd.prog Tryd.f3 (OpenSpec.ofChange Rows.tilesPathSpec) false w args)
      (Rows.tilesPathSpec.post enc Tryd.prog Tryd.f3 false true false false) := by
  refine returnsInHanded_of_change_and (C := Tryd.checked) (X := fun w _ => laidMetH Tryd.prog laid3 w) (fun _ _ _ hh h => h.of_heap hh) own started (by kernel_rfl) Tryd.func3
    (ChangeSpec.witness_shaped (enc := enc) (C := Tryd.checked) (os := os) (X := fun w _ => laidMetH Tryd.prog laid3 w) false (World.doorLaid Tryd.prog 400 os) #[.agg #[.int .i64 0, .int .i64 0, .int .i64 0, .int .i64 0]] 8 rfl (World.shaped_of_RefB (by kernel_rfl) (by kernel_rfl)) (by kernel_rfl) (by kernel_rfl) (by kernel_rfl) (door_met3 os _)) ?_
  intro W base args ds gs before hval0 hW _ hsz0 hL _
  have hval : ∀ (j : Nat) t v, Tryd.f3.params[j]? = some t → args[j]? = some v → Value.okWide Tryd.prog W .any base t v := hval0
  have hW' := hW
  obtain ⟨p, q, hA0, hV, rfl, hfz, hnd⟩ := hW
  have hA : DataW.TrodAll enc Tryd.prog W 0 (fun _ => true) true Tryd.f3.params.toList args.toList ds p := hA0
  rw [Tryd.params3] at hA hval
  obtain ⟨v0, vs0, d0, ds0, p0, q0, hargs0, rfl, rfl, h0, r0⟩ := trodAll_cons hA
  obtain ⟨rfl, rfl, rfl⟩ := trodAll_nil r0
  obtain rfl : args = #[v0] := by cases args; simp_all
  obtain ⟨rfl, rfl⟩ := trodVars_none hV
  obtain ⟨cA, cB, cC, cD, yA, yB, yC, yD, mA, rfl, rfl, rfl, hyA, hyB, hyC, hyD⟩ := open_agg4 Tryd.underlying23 (by kernel_rfl) cellsT (hval 0 23 v0 rfl rfl) h0
  obtain ⟨a, eA, rfl, wA⟩ := DataW.trod_int Tryd.underlying3 hyA
  obtain ⟨b, eB, rfl, wB⟩ := DataW.trod_int Tryd.underlying3 hyB
  obtain ⟨c, eC, rfl, wC⟩ := DataW.trod_int Tryd.underlying3 hyC
  obtain ⟨d, eD, rfl, wD⟩ := DataW.trod_int Tryd.underlying3 hyD
  simp at eA eB eC eD
  subst eA eB eC eD
  have sr : ∀ (W' : World) (sp : Nat → Bool), DataW.Trod enc Tryd.prog W' 0 sp true 23 (.agg #[.int .i64 a, .int .i64 b, .int .i64 c, .int .i64 d]) (.agg [.lit (.int .i64 a), .lit (.int .i64 b), .lit (.int .i64 c), .lit (.int .i64 d)]) [] := fun W' sp =>
    shut_agg4 (y0 := (.lit (.int .i64 a), [])) (y1 := (.lit (.int .i64 b), [])) (y2 := (.lit (.int .i64 c), [])) (y3 := (.lit (.int .i64 d), [])) Tryd.underlying23 (by kernel_rfl) cellsT ⟨1, by simp [DataW.trod, Tryd.underlying3, wA]⟩ ⟨1, by simp [DataW.trod, Tryd.underlying3, wB]⟩ ⟨1, by simp [DataW.trod, Tryd.underlying3, wC]⟩ ⟨1, by simp [DataW.trod, Tryd.underlying3, wD]⟩
  have tabs := of_laid3 hL
  clear hA0 hval0 hsz0
  simp only [List.append_nil] at hW'
  refine ((fun a b c d ha hb hc hd W T => Go.Proofs.YtoakkoalkpfkmaaDoor.a8.law_path a b c d ha hb hc hd W T) a b c d (fits64 a wA) (fits64 b wB) (fits64 c wC) (fits64 d wD) W tabs).mono fun e W' ⟨he, hnx⟩ => ?_
  subst he
  exact ⟨_, rfl, _, _, _, [], [], [], hW', trodAll_cons_mk (shut_bool Tryd.underlying4 _) trodAll_mk0, (trodAll_cons_mk (sr _ _) trodAll_mk0), rfl, hnx.frame _, fun h => by cases h⟩

theorem row_holds : Rows.TilesPathSaid :=
  OpenClaim.holds_of_wide 3 Tryd.f3 rfl rfl rfl rfl rfl rfl rfl ⟨rfl, rfl, rfl, rfl, rfl⟩ rfl rfl rfl rfl rfl (by kernel_rfl) Tryd.func3 (by kernel_rfl)
    (of_decide_eq_true (by kernel_rfl)) (by unfold Func.isWrapper; first | (rw [if_pos (by decide +kernel)]; kernel_rfl) | (rw [if_neg (by decide +kernel)]; exact ⟨rfl, rfl⟩))
    (fun os started H enc _ => lifted os started H enc)

theorem card_holds : Rows.TilesPathCardSaid :=
  Claim7.holds_tied_plain_at .later [] [.data, .data, .data] true (true, "0f6034c6c4b80643b61b45a9ab3d088f947bf0efd923b9fb5a0b89f3f16ab6c1") false
    row_holds (fun _ h => by cases h) (by kernel_rfl) (fun _ h => by cases h) tilesPath_row_tie rfl ⟨rfl, rfl⟩ (by kernel_rfl) rfl
    (fun f fn hf hfn => by
      obtain rfl : f = 3 := Option.some.inj ((show Tryd.prog.funcNamed "annals/annalslaw23.TilesPath" = some 3 by kernel_rfl).symm.trans hf) |>.symm
      obtain rfl : fn = Tryd.f3 := (Option.some.inj (Tryd.func3.symm.trans hfn)).symm
      exact ⟨by kernel_rfl, fun j t ht => by
        rw [Tryd.params3] at ht
        have hm : t ∈ ([23] : List TypeId) := by simpa using Array.mem_of_getElem? ht
        have hall : (([23] : List TypeId).all fun u => !Tryd.prog.wantsStandIn u) = true := by kernel_rfl
        exact (show Tryd.prog.wantsStandIn t = false by simpa using List.all_eq_true.1 hall t hm)⟩)
    (by kernel_rfl)
end Go.Proofs.YtoakkoalkpfkmaaDoor.tilesPath
namespace Go.Proofs.YtoakkoalkpfkmaaDoor
theorem tilesPath_holds : Rows.TilesPathCardSaid := tilesPath.card_holds
#print axioms tilesPath_holds
end Go.Proofs.YtoakkoalkpfkmaaDoor
