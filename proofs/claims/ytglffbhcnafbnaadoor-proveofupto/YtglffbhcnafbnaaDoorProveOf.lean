import Derived.Test.YtglffbhcnafbnaaDoorC4
import Derived.Test.YtglffbhcnafbnaaDoorA8
import Derived.Test.YtglffbhcnafbnaaDoorTie
import Derived.Test.YtglffbhcnafbnaaDoorCards
import Derived.ProofKit
import Derived.LaidMore
import Derived.OpenShut
import Derived.ShutString
import Derived.SliceStrings
import Derived.Carry
import Derived.Deep.DeepHandedRow
import Derived.Stop.Joined
import Derived.SevenTiedAt
import Derived.Lib.SmallJoins
namespace Go.Proofs.YtglffbhcnafbnaaDoor.proveOf
open Go.ChangeShapes Go.WideShapes Go.ChangeAt Go.WideMaps Go.WideElems Go.RowKit Go.Joins
open Go.ChangeMaps (open_string shut_string)
open Go.Proofs.YtglffbhcnafbnaaDoor.ft Go.Proofs.YtglffbhcnafbnaaDoor.fk
open Go.Proofs.YtglffbhcnafbnaaDoor.ka
set_option linter.unusedVariables false

theorem laidOut : laidOutB Tryd.prog = true := by kernel_rfl
theorem cells9 : Tryd.prog.cellsOf 9 = 1 := by kernel_rfl
theorem bulk_strs {H : Type} (l : List ByteArray) : (l.map ByteArray.size).sum + l.length ≤ Rows.uptoBulkAll (strs (H := H) l) := by
  induction l with
  | nil => simp [strs]
  | cons x l ih =>
    unfold strs at ih ⊢
    simp only [List.map_cons, List.sum_cons, List.length_cons, Rows.uptoBulkAll, Rows.uptoBulk]
    have e : x.data.toList.length = x.size := Array.length_toList
    omega
theorem open_list {H : Type} (enc : TypeId × Value → H) (W : World) (a : Option Addr) (len cap : Nat) (d : DataW H) (p : List MemPlace) (h0 : DataW.Trod enc Tryd.prog W 0 (fun _ => true) true 28 (.slice a len cap) d p) :
    ∃ xs, ReadsT W (.slice a len cap) xs ∧ (∀ k c, Value.slice a len cap = .slice none k c → c = 0) ∧ (xs.map ByteArray.size).sum + xs.length + 1 ≤ Rows.uptoBulk d ∧ cap ≤ 9223372036854775807 := by
  obtain ⟨fuel, hf⟩ := h0
  rcases open_strings Tryd.underlying28 Tryd.underlying9 cells9 hf with ⟨hcs, hx⟩ | ⟨a', len', cap', ss, hcs, _, hl, hm, hz, hx, hcell, hws⟩
  · simp [Value.cells] at hcs
    obtain ⟨rfl, rfl, rfl⟩ := hcs
    simp only [Prod.mk.injEq] at hx
    obtain ⟨rfl, rfl⟩ := hx
    exact ⟨[], ⟨none, 0, rfl, Nat.le_refl _, .inl rfl⟩, (fun k c e => by injection e with _ _ e; exact e.symm), by simp [Rows.uptoBulk], by decide⟩
  · simp [Value.cells] at hcs
    obtain ⟨rfl, rfl, rfl⟩ := hcs
    simp only [Prod.mk.injEq] at hx
    obtain ⟨rfl, rfl⟩ := hx
    simp only [if_true] at hz
    have hlen : (ss.take len).length = len := by rw [List.length_take]; omega
    refine ⟨ss.take len, ⟨some a', cap, by rw [hlen], by rw [hlen]; omega, ?_⟩, (fun k c e => by cases e), ?_, by unfold maxLen at hm; omega⟩
    · by_cases hl0 : len = 0
      · exact .inl (by rw [hlen]; exact hl0)
      · right
        obtain ⟨b, off, spot⟩ := a'
        have hspot : spot = none := by simpa [Addr.add] using World.cell?_spot (hcell 0 (by omega))
        subst hspot
        refine ⟨b, off, rfl, fun i hi => ?_⟩
        rw [hlen] at hi
        have := hcell i (by omega)
        rw [Addr.add_mid] at this
        rw [this, List.getD_eq_getElem?_getD, List.getD_eq_getElem?_getD, List.getElem?_take, if_pos hi]
    · have h1 := bulk_strs (H := H) (ss.take len)
      simp only [Rows.uptoBulk]
      unfold strs at h1 ⊢
      omega
theorem cellsA : Tryd.prog.cellsOf 36 = 2 := by kernel_rfl

set_option maxRecDepth 100000 in
theorem contract (H : Type) (enc : TypeId × Value → H) (W : World) (base : Nat) (args : Array Value) (ds gs : List (DataW H)) (before : List MemPlace)
    (hval : ∀ (j : Nat) t v, Tryd.f4.params[j]? = some t → args[j]? = some v → Value.okWide Tryd.prog W .any base t v)
    (hW : DataW.Whole enc Tryd.prog Tryd.f4.params.toList Rows.proveOfSpec.vars false W args.toList ds gs before) (hsm : Rows.uptoSmall H (ds ++ gs) = true) (hL : laidMetH Tryd.prog laid7 W) :
    Calls Tryd.prog 4 args W fun e W' => ∃ v, e = .returned v ∧ Rows.proveOfSpec.post enc Tryd.prog Tryd.f4 false true false false W args v W' := by
  have tabs := of_laid7 hL
  have hW' := hW
  obtain ⟨p, q, hA0, hV, rfl, hfz, hnd⟩ := hW
  have hA : DataW.TrodAll enc Tryd.prog W 0 (fun _ => true) true Tryd.f4.params.toList args.toList ds p := hA0
  rw [Tryd.params4] at hA hval
  obtain ⟨v0, vs0, d0, ds0, p0, q0, hargs0, rfl, rfl, h0, r0⟩ := trodAll_cons hA
  obtain ⟨v1, vs1, d1, ds1, p1, q1, rfl, rfl, rfl, h1, r1⟩ := trodAll_cons r0
  obtain ⟨v2, vs2, d2, ds2, p2, q2, rfl, rfl, rfl, h2, r2⟩ := trodAll_cons r1
  obtain ⟨v3, vs3, d3, ds3, p3, q3, rfl, rfl, rfl, h3, r3⟩ := trodAll_cons r2
  obtain ⟨rfl, rfl, rfl⟩ := trodAll_nil r3
  obtain rfl : args = #[v0, v1, v2, v3] := by cases args; simp_all
  obtain ⟨rfl, rfl⟩ := trodVars_none hV
  obtain ⟨a0, rfl, rfl, rfl, w0⟩ := open_int Tryd.underlying3 (hval 0 3 v0 rfl rfl) h0
  obtain ⟨a1, len1, cap1, rfl⟩ := okWide_slice Tryd.underlying28 (hval 1 28 v1 rfl rfl)
  obtain ⟨xs1, hr1, hno1, hz1, hm1⟩ := open_list enc W a1 len1 cap1 d1 p1 h1
  obtain ⟨cA2, cB2, yA2, yB2, mA2, rfl, rfl, rfl, hyA2, hyB2⟩ := open_agg2 Tryd.underlying36 (by kernel_rfl) cellsA (hval 2 36 v2 rfl rfl) h2
  obtain ⟨a2, eA2, rfl, wA2⟩ := DataW.trod_int Tryd.underlying3 hyA2
  obtain ⟨b2, eB2, rfl, wB2⟩ := DataW.trod_int Tryd.underlying3 hyB2
  simp at eA2 eB2
  subst eA2 eB2
  have sr2 : ∀ (W' : World) (sp : Nat → Bool), DataW.Trod enc Tryd.prog W' 0 sp true 36 (.agg #[.int .i64 a2, .int .i64 b2]) (.agg [.lit (.int .i64 a2), .lit (.int .i64 b2)]) [] := fun W' sp =>
    shut_agg2 (y0 := (.lit (.int .i64 a2), [])) (y1 := (.lit (.int .i64 b2), [])) Tryd.underlying36 (by kernel_rfl) cellsA ⟨1, by simp [DataW.trod, Tryd.underlying3, wA2]⟩ ⟨1, by simp [DataW.trod, Tryd.underlying3, wB2]⟩
  obtain ⟨cA3, cB3, yA3, yB3, mA3, rfl, rfl, rfl, hyA3, hyB3⟩ := open_agg2 Tryd.underlying36 (by kernel_rfl) cellsA (hval 3 36 v3 rfl rfl) h3
  obtain ⟨a3, eA3, rfl, wA3⟩ := DataW.trod_int Tryd.underlying3 hyA3
  obtain ⟨b3, eB3, rfl, wB3⟩ := DataW.trod_int Tryd.underlying3 hyB3
  simp at eA3 eB3
  subst eA3 eB3
  have sr3 : ∀ (W' : World) (sp : Nat → Bool), DataW.Trod enc Tryd.prog W' 0 sp true 36 (.agg #[.int .i64 a3, .int .i64 b3]) (.agg [.lit (.int .i64 a3), .lit (.int .i64 b3)]) [] := fun W' sp =>
    shut_agg2 (y0 := (.lit (.int .i64 a3), [])) (y1 := (.lit (.int .i64 b3), [])) Tryd.underlying36 (by kernel_rfl) cellsA ⟨1, by simp [DataW.trod, Tryd.underlying3, wA3]⟩ ⟨1, by simp [DataW.trod, Tryd.underlying3, wB3]⟩
  have hsum : ((xs1.map ByteArray.size).sum + xs1.length) ≤ 1048576 := by
    have h : Rows.uptoBulkAll ([.lit (.int .i64 a0), d1, .agg [.lit (.int .i64 a2), .lit (.int .i64 b2)], .agg [.lit (.int .i64 a3), .lit (.int .i64 b3)]] ++ []) ≤ 1048576 := of_decide_eq_true hsm
    simp only [List.append_nil, Rows.uptoBulkAll, Rows.uptoBulk] at h
    have f1 := hz1
    omega
  clear hA0 hsm
  simp only [List.append_nil] at hW'
  have hlt1 : ∀ x ∈ p1, x.block < W.heap.size := fun x hx => by simpa using hW'.lt x (by simp [hx])
  have hargs1k : ∀ (W' : World), Below W.heap.size W W' → DataW.Trod enc Tryd.prog W' 0 (fun b => decide (b < W.heap.size)) true 28 (.slice a1 len1 cap1) d1 p1 :=
    fun W' hn => Below.trod laidOut (by kernel_rfl) (of_decide_eq_true (by kernel_rfl)) h1 hn hlt1
  refine (Go.Proofs.YtglffbhcnafbnaaDoor.wf.of_call W a0 w0 (.slice a1 len1 cap1) xs1 hr1 hno1 hm1 ⟨_, _, rfl⟩ a2 b2 wA2 wB2 a3 b3 wA3 wB3 hsum tabs).mono fun e W' ⟨he, hnx⟩ => ?_
  subst he
  have hA2 : DataW.TrodAll enc Tryd.prog W' 0 (fun b => decide (b < W.heap.size)) true [3, 28, 36, 36] [.int .i64 a0, .slice a1 len1 cap1, .agg #[.int .i64 a2, .int .i64 b2], .agg #[.int .i64 a3, .int .i64 b3]] [.lit (.int .i64 a0), d1, .agg [.lit (.int .i64 a2), .lit (.int .i64 b2)], .agg [.lit (.int .i64 a3), .lit (.int .i64 b3)]] (p1) := by simpa using (trodAll_cons_mk (shut_int Tryd.underlying3 w0) (trodAll_cons_mk (hargs1k _ hnx) (trodAll_cons_mk (sr2 _ _) (trodAll_cons_mk (sr3 _ _) trodAll_mk0))))
  exact ⟨_, rfl, _, _, _, [], p1, [], hW', trodAll_cons_mk (shut_bool Tryd.underlying4 _) trodAll_mk0, hA2, rfl, hnx.frame _, fun h => by cases h⟩

theorem laid_met (os : Os) : laidMet Tryd.prog Rows.proveOfUptoRow.laid ((World.doorLaid Tryd.prog 400 os).forCall (fun _ _ => 0) ⟨#[], #[.int .i64 0, .slice none 0 0, .agg #[.int .i64 0, .int .i64 0], .agg #[.int .i64 0, .int .i64 0]], []⟩).memory :=
  laidMet_of_run' 8 (by kernel_rfl) (by kernel_rfl)
theorem reads (os : Os) {H : Type} (enc : TypeId × Value → H) : ∃ places, DataW.whole enc Tryd.prog ((World.doorLaid Tryd.prog 400 os).forCall (fun _ _ => 0) ⟨#[], #[.int .i64 0, .slice none 0 0, .agg #[.int .i64 0, .int .i64 0], .agg #[.int .i64 0, .int .i64 0]], []⟩).memory Tryd.f4.params.toList Rows.proveOfSpec.vars false #[Value.int .i64 0, Value.slice none 0 0, Value.agg #[.int .i64 0, .int .i64 0], Value.agg #[.int .i64 0, .int .i64 0]].toList 8 = some ([.lit (.int .i64 0), .nil, .agg [.lit (.int .i64 0), .lit (.int .i64 0)], .agg [.lit (.int .i64 0), .lit (.int .i64 0)]], [], places) :=
  ⟨[], by kernel_rfl⟩

set_option maxRecDepth 100000 in
theorem liftedUpto (os : Os) (started : os.Started) (H : Type) (enc : TypeId × Value → H) (F : Stop.Interp) :
    ReturnsInHanded {} Tryd.checked os 4 .any ((Rows.OpenSpec.upto Rows.proveOfSpec).preRow enc Tryd.prog Tryd.f4 Rows.proveOfUptoRow.domain false Rows.proveOfUptoRow.laid) (((Rows.OpenSpec.upto Rows.proveOfSpec).at F).post enc Tryd.prog Tryd.f4 false true false false) := by
  obtain ⟨places, hx⟩ := reads os enc
  refine returnsInHanded_of_row (C := Tryd.checked) (s := Rows.OpenSpec.upto Rows.proveOfSpec) own started (by kernel_rfl) Tryd.func4
    (witness_row_at (enc := enc) (C := Tryd.checked) false (World.doorLaid Tryd.prog 400 os) #[.int .i64 0, .slice none 0 0, .agg #[.int .i64 0, .int .i64 0], .agg #[.int .i64 0, .int .i64 0]] rfl (by kernel_rfl) (by kernel_rfl) (by kernel_rfl)
      (OpenSpec.preRow_of_cond 8 hx (by kernel_rfl) (fun k hk => by cases hk; kernel_rfl) (by kernel_rfl) (laid_met os))) ?_
  intro W base args ds gs before hval hW _ hcond _ hL _ _
  exact contract H enc W base args ds gs before hval hW (hcond _ rfl) hL

theorem saidUpto : Rows.ProveOfUptoSaid :=
  OpenClaim.holds_of_cond 4 Tryd.f4 rfl rfl rfl rfl rfl rfl rfl ⟨rfl, rfl, rfl, rfl, rfl⟩ rfl rfl rfl rfl rfl (by kernel_rfl) Tryd.func4 (by kernel_rfl)
    (of_decide_eq_true (by kernel_rfl)) (by unfold Func.isWrapper; first | (rw [if_pos (by decide +kernel)]; kernel_rfl) | (rw [if_neg (by decide +kernel)]; exact ⟨rfl, rfl⟩))
    (fun os started H enc _ F => by rw [OpenClaim.pre_eq_preRow]; exact liftedUpto os started H enc F)

theorem plain (f : FuncId) (fn : Func) (hf : Tryd.pinned.checked.prog.funcNamed "annals/annalslaw8.ProveOf" = some f) (hfn : Tryd.pinned.checked.prog.funcs[f]? = some fn) :
    false = Tryd.pinned.checked.prog.looks [] ∧ ∀ (j : Nat) t, fn.params[j]? = some t → Tryd.pinned.checked.prog.wantsStandIn t = false := by
  obtain rfl : f = 4 := Option.some.inj ((show Tryd.prog.funcNamed "annals/annalslaw8.ProveOf" = some 4 by kernel_rfl).symm.trans hf) |>.symm
  obtain rfl : fn = Tryd.f4 := (Option.some.inj (Tryd.func4.symm.trans hfn)).symm
  refine ⟨by kernel_rfl, fun j t ht => ?_⟩
  rw [Tryd.params4] at ht
  have hm : t ∈ ([3, 28, 36, 36] : List TypeId) := by simpa using Array.mem_of_getElem? ht
  have hall : (([3, 28, 36, 36] : List TypeId).all fun u => !Tryd.prog.wantsStandIn u) = true := by kernel_rfl
  exact (show Tryd.prog.wantsStandIn t = false by simpa using List.all_eq_true.1 hall t hm)

theorem card_holds : Rows.ProveOfUptoCardSaid :=
  Claim7.holds_tied_plain_at .later [] _ _ _ _ saidUpto (fun _ h => by cases h) (by kernel_rfl) (fun _ h => by cases h) proveOfUpto_row_tie rfl ⟨rfl, rfl⟩ (by kernel_rfl) rfl plain (by kernel_rfl)
end Go.Proofs.YtglffbhcnafbnaaDoor.proveOf
namespace Go.Proofs.YtglffbhcnafbnaaDoor
theorem proveOf_holds : Rows.ProveOfUptoCardSaid := proveOf.card_holds
#print axioms proveOf_holds
end Go.Proofs.YtglffbhcnafbnaaDoor
