import Derived.Test.YtjjeiklhmbhhoabCl
import Derived.Test.YtjjeiklhmbhhoabVa
import Derived.Test.YtjjeiklhmbhhoabVp
import Derived.Test.YtjjeiklhmbhhoabVs
import Derived.Test.YtjjeiklhmbhhoabCv
import Derived.Test.YtjjeiklhmbhhoabRows
import Derived.WalkKit
import Derived.ProofKit
import Derived.OpenShut
import Derived.Lib.SmallJoins
namespace Go.Proofs.Ytjjeiklhmbhhoab.treeAddr
open Go.ChangeShapes Go.WideShapes Go.ChangeAt Go.RowKit Go.Joins
open Go.Proofs.Ytjjeiklhmbhhoab.cl Go.Proofs.Ytjjeiklhmbhhoab.va Go.Proofs.Ytjjeiklhmbhhoab.vp Go.Proofs.Ytjjeiklhmbhhoab.vs Go.Proofs.Ytjjeiklhmbhhoab.cv
set_option linter.unusedVariables false

theorem own : ownKnob Try.prog.godebug = none := by kernel_rfl
theorem cellsA : Try.prog.cellsOf 23 = 2 := by kernel_rfl
theorem walk (L I : Int) (w0 : (Lit.int .i64 L).wf = true) (w1 : (Lit.int .i64 I).wf = true) (w : World) :
    Calls Try.prog 3 #[.agg #[.int .i64 L, .int .i64 I]] w fun e w' => e = .returned (.bool true) ∧ Below w.heap.size w w' := tree_addr validC spanC parentC siblingC leftC rightC L I (i64_of w0) (i64_of w1) w
set_option maxRecDepth 100000 in
theorem lifted (os : Os) (started : os.Started) (H : Type) (enc : TypeId × Value → H) :
    ReturnsInHanded {} Try.checked os 3 .any (Rows.treeAddrSpec.pre6 enc Try.prog Try.f3 Rows.treeAddrRow.domain false) (Rows.treeAddrSpec.post enc Try.prog Try.f3 false true false false) := by
  refine returnsInHanded_of_change (C := Try.checked) own started (by kernel_rfl) Try.func3
    (ChangeSpec.witness6 (enc := enc) (C := Try.checked) false ⟨#[], #[.agg #[.int .i64 0, .int .i64 0]], []⟩ 8 (by kernel_rfl) (by kernel_rfl) (by kernel_rfl) (by kernel_rfl)) ?_
  intro W base args ds gs before hval0 hW hcnd _
  have hval : ∀ (j : Nat) t v, Try.f3.params[j]? = some t → args[j]? = some v → Value.okWide Try.prog W .any base t v := hval0
  have hW' := hW
  obtain ⟨p, q, hA0, hV, rfl, hfz, hnd⟩ := hW
  have hA : DataW.TrodAll enc Try.prog W 0 (fun _ => true) true Try.f3.params.toList args.toList ds p := hA0
  rw [Try.params3] at hA hval
  obtain ⟨v0, d0, rfl, rfl, h0⟩ := trodAll_one hA
  obtain ⟨rfl, rfl⟩ := trodVars_none hV
  obtain ⟨c0, c1, y0, y1, m, rfl, rfl, rfl, hy0, hy1⟩ := open_agg2 Try.underlying23 (by kernel_rfl) cellsA (hval 0 23 v0 rfl rfl) h0
  obtain ⟨a, e0, rfl, wa⟩ := DataW.trod_int Try.underlying3 hy0
  obtain ⟨b, e1, rfl, wb⟩ := DataW.trod_int Try.underlying3 hy1
  simp at e0 e1
  subst e0 e1
  clear hA0 hval0
  simp only [List.append_nil] at hW'
  have structReads : ∀ (W' : World) (sp : Nat → Bool), DataW.Trod enc Try.prog W' 0 sp true 23 (.agg #[.int .i64 a, .int .i64 b]) (.agg [.lit (.int .i64 a), .lit (.int .i64 b)]) [] := fun W' sp =>
    shut_agg2 (y0 := (.lit (.int .i64 a), [])) (y1 := (.lit (.int .i64 b), [])) Try.underlying23 (by kernel_rfl) cellsA ⟨1, by simp [DataW.trod, Try.underlying3, wa]⟩ ⟨1, by simp [DataW.trod, Try.underlying3, wb]⟩
  refine (walk a b wa wb W).mono fun e W' ⟨he, hb⟩ => ?_
  subst he
  exact ⟨_, rfl, _, _, _, [], [], [], hW', trodAll_cons_mk (shut_bool Try.underlying4 _) trodAll_mk0, trodAll_mk1 (structReads _ _), rfl, hb.frame _, fun h => by cases h⟩

theorem over : Rows.treeAddrRow.holds Try.pinned (OpenSpec.ofChange Rows.treeAddrSpec) :=
  OpenClaim.holds_of_wide 3 Try.f3 rfl rfl rfl rfl rfl rfl rfl ⟨rfl, rfl, rfl, rfl, rfl⟩ rfl rfl rfl rfl rfl (by kernel_rfl) Try.func3 (by kernel_rfl)
    (of_decide_eq_true (by kernel_rfl)) (by unfold Func.isWrapper; first | (rw [if_pos (by decide +kernel)]; kernel_rfl) | (rw [if_neg (by decide +kernel)]; exact ⟨rfl, rfl⟩))
    (fun os started H enc _ => lifted os started H enc)
theorem proved : Rows.TreeAddrSaid := over
end Go.Proofs.Ytjjeiklhmbhhoab.treeAddr
namespace Go.Proofs.Ytjjeiklhmbhhoab
theorem treeAddr_holds : Rows.TreeAddrSaid := treeAddr.proved
#print axioms treeAddr_holds
end Go.Proofs.Ytjjeiklhmbhhoab
