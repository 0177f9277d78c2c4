import Derived.Test.YtpbapaghcabehaaDoorE4
import Derived.Test.YtpbapaghcabehaaDoorFn
import Derived.Test.YtpbapaghcabehaaDoorTie
import Derived.Test.YtpbapaghcabehaaDoorCards
import Derived.ProofKit
import Derived.LaidMore
import Derived.OpenShut
import Derived.ShutString
import Derived.SliceStrings
import Derived.Carry
import Derived.Deep.DeepHandedRow
import Derived.Stop.Joined
import Derived.SevenTiedAt
import Derived.ChangeSlices
import Derived.Deep.MidRow
import Derived.Lib.SmallJoins
namespace Go.Proofs.YtpbapaghcabehaaDoor.peerAsk
open Go.ChangeShapes Go.WideShapes Go.ChangeAt Go.WideMaps Go.WideElems Go.RowKit Go.Joins
open Go.ChangeMaps (open_string shut_string)
open Go.Proofs.YtpbapaghcabehaaDoor.fn Go.Proofs.YtpbapaghcabehaaDoor.vc Go.Proofs.YtpbapaghcabehaaDoor.b3 Go.Proofs.YtpbapaghcabehaaDoor.sh
set_option linter.unusedVariables false

theorem laidOut : laidOutB Tryd.prog = true := by kernel_rfl
theorem cellsP : Tryd.prog.cellsOf 24 = 3 := by kernel_rfl
theorem fits64 (a : Int) (h : (Lit.int .i64 a).wf = true) : -9223372036854775808 ≤ a ∧ a ≤ 9223372036854775807 := by
  simp only [Lit.wf, Bool.and_eq_true, decide_eq_true_eq] at h
  have h1 : IntKind.i64.min = -9223372036854775808 := by decide +kernel
  have h2 : IntKind.i64.max = 9223372036854775807 := by decide +kernel
  omega
theorem cells9 : Tryd.prog.cellsOf 9 = 1 := by kernel_rfl
theorem bulk_strs {H : Type} (l : List ByteArray) : (l.map ByteArray.size).sum + l.length ≤ Rows.uptoBulkAll (strs (H := H) l) := by
  induction l with
  | nil => simp [strs]
  | cons x l ih =>
    unfold strs at ih ⊢
    simp only [List.map_cons, List.sum_cons, List.length_cons, Rows.uptoBulkAll, Rows.uptoBulk]
    have e : x.data.toList.length = x.size := Array.length_toList
    omega
theorem open_list {H : Type} (enc : TypeId × Value → H) (W : World) (a : Option Addr) (len cap : Nat) (d : DataW H) (p : List MemPlace) (h0 : DataW.Trod enc Tryd.prog W 0 (fun _ => true) true 22 (.slice a len cap) d p) :
    ∃ xs, Reads W (.slice a len cap) xs ∧ (∀ k c, Value.slice a len cap = .slice none k c → c = 0) ∧ (xs.map ByteArray.size).sum + xs.length + 1 ≤ Rows.uptoBulk d := by
  obtain ⟨fuel, hf⟩ := h0
  rcases open_strings Tryd.underlying22 Tryd.underlying9 cells9 hf with ⟨hcs, hx⟩ | ⟨a', len', cap', ss, hcs, _, hl, hm, hz, hx, hcell, hws⟩
  · simp [Value.cells] at hcs
    obtain ⟨rfl, rfl, rfl⟩ := hcs
    simp only [Prod.mk.injEq] at hx
    obtain ⟨rfl, rfl⟩ := hx
    exact ⟨[], ⟨none, 0, rfl, .inl rfl⟩, (fun k c e => by injection e with _ _ e; exact e.symm), by simp [Rows.uptoBulk]⟩
  · simp [Value.cells] at hcs
    obtain ⟨rfl, rfl, rfl⟩ := hcs
    simp only [Prod.mk.injEq] at hx
    obtain ⟨rfl, rfl⟩ := hx
    simp only [if_true] at hz
    have hlen : (ss.take len).length = len := by rw [List.length_take]; omega
    refine ⟨ss.take len, ⟨some a', cap, by rw [hlen], ?_⟩, (fun k c e => by cases e), ?_⟩
    · by_cases hl0 : len = 0
      · exact .inl (by rw [hlen]; exact hl0)
      · right
        obtain ⟨b, off, spot⟩ := a'
        have hspot : spot = none := by simpa [Addr.add] using World.cell?_spot (hcell 0 (by omega))
        subst hspot
        refine ⟨b, off, rfl, fun i hi => ?_⟩
        rw [hlen] at hi
        have := hcell i (by omega)
        rw [Addr.add_mid] at this
        rw [this, List.getD_eq_getElem?_getD, List.getD_eq_getElem?_getD, List.getElem?_take, if_pos hi]
    · have h1 := bulk_strs (H := H) (ss.take len)
      simp only [Rows.uptoBulk]
      unfold strs at h1 ⊢
      omega
theorem reads_len' {w : World} {a : Option Addr} {n c : Nat} {l : List ByteArray} (h : Reads w (.slice a n c) l) : l.length = n := by
  obtain ⟨_, _, e, _⟩ := h
  injection e with _ e2 _
  exact e2.symm
set_option maxRecDepth 100000 in
theorem contract (H : Type) (enc : TypeId × Value → H) (W : World) (base : Nat) (args : Array Value) (ds gs : List (DataW H)) (before : List MemPlace)
    (hval : ∀ (j : Nat) t v, Tryd.f4.params[j]? = some t → args[j]? = some v → Value.okWide Tryd.prog W .any base t v)
    (hW : DataW.Whole enc Tryd.prog Tryd.f4.params.toList Rows.peerAskSpec.vars false W args.toList ds gs before) (hsm : Rows.uptoSmall H (ds ++ gs) = true) (hL : laidMetH Tryd.prog laid5 W) (hsh : W.ShapedOpen Tryd.prog) :
    Calls Tryd.prog 4 args W fun e W' => ∃ v, e = .returned v ∧ Rows.peerAskSpec.post enc Tryd.prog Tryd.f4 false true false false W args v W' := by
  have tabs := of_laid5 hL
  have mx : MaxW W := laysM145.s1_3 W hsh
  have hW' := hW
  obtain ⟨p, q, hA0, hV, rfl, hfz, hnd⟩ := hW
  have hA : DataW.TrodAll enc Tryd.prog W 0 (fun _ => true) true Tryd.f4.params.toList args.toList ds p := hA0
  rw [Tryd.params4] at hA hval
  obtain ⟨v0, vs0, d0, ds0, p0, q0, hargs0, rfl, rfl, h0, r0⟩ := trodAll_cons hA
  obtain ⟨v1, vs1, d1, ds1, p1, q1, rfl, rfl, rfl, h1, r1⟩ := trodAll_cons r0
  obtain ⟨rfl, rfl, rfl⟩ := trodAll_nil r1
  obtain rfl : args = #[v0, v1] := by cases args; simp_all
  obtain ⟨rfl, rfl⟩ := trodVars_none hV
  obtain ⟨a1, rfl, rfl, rfl, w1⟩ := open_string Tryd.underlying9 (hval 1 9 v1 rfl rfl) h1
  have hk0 := h0
  obtain ⟨cA, cB, cC, yA, yB, yC, mA, rfl, rfl, rfl, hyA, hyB, hyC⟩ := open_agg3 Tryd.underlying24 (by kernel_rfl) cellsP (hval 0 24 v0 rfl rfl) h0
  obtain ⟨pn, eA, rA, wA⟩ := DataW.trod_int Tryd.underlying3 hyA
  obtain ⟨po, eC, rC, wC⟩ := DataW.trod_string Tryd.underlying9 hyC
  simp at eA eC
  subst eA eC
  have hy0 : DataW.trod enc Tryd.prog W 0 (fun _ => true) true mA 22 [cB] = some yB := hyB
  obtain ⟨s0, len0, cap0, eB⟩ : ∃ a len cap, cB = .slice a len cap := by
    rcases open_strings Tryd.underlying22 Tryd.underlying9 cells9 hy0 with ⟨hcs, _⟩ | ⟨a', len', cap', ss, hcs, _⟩
    · simp at hcs; exact ⟨_, _, _, hcs⟩
    · simp at hcs; exact ⟨_, _, _, hcs⟩
  subst eB
  obtain ⟨xs, hr, hno, hbk⟩ := open_list enc W s0 len0 cap0 yB.1 yB.2 ⟨mA, by simpa [Value.cells] using hy0⟩
  have hsum : po.size + a1.size + ((xs.map ByteArray.size).sum + xs.length) ≤ 1048576 := by
    have h : Rows.uptoBulkAll ([.agg [yA.1, yB.1, yC.1], .lit (.string a1.data.toList)] ++ []) ≤ 1048576 := of_decide_eq_true hsm
    simp only [List.append_nil, Rows.uptoBulkAll, Rows.uptoBulk] at h
    have e0 : Rows.uptoBulk yC.1 = po.data.toList.length + 1 := by rw [rC]; rfl
    have e2 : po.data.toList.length = po.size := Array.length_toList
    have e3 : a1.data.toList.length = a1.size := Array.length_toList
    omega
  clear hA0 hsm
  simp only [List.append_nil] at hW'
  have hlt0 : ∀ x ∈ yA.2 ++ (yB.2 ++ yC.2), x.block < W.heap.size := fun x hx => by simpa using hW'.lt x (by simp at hx ⊢; rcases hx with hx | hx | hx <;> simp [hx])
  have hargs0k : ∀ (W' : World), Below W.heap.size W W' → DataW.Trod enc Tryd.prog W' 0 (fun b => decide (b < W.heap.size)) true 24 (.agg #[.int .i64 pn, .slice s0 len0 cap0, .string po]) (.agg [yA.1, yB.1, yC.1]) (yA.2 ++ (yB.2 ++ yC.2)) :=
    fun W' hn => Below.trod laidOut (by kernel_rfl) (of_decide_eq_true (by kernel_rfl)) hk0 hn hlt0
  have hl := reads_len' hr
  have hgo : Calls Tryd.prog 4 #[.agg #[.int .i64 pn, .slice s0 len0 cap0, .string po], .string a1] W fun e w' => e = .returned (.bool true) ∧ Below W.heap.size W w' := by
    subst hl
    exact Go.Proofs.YtpbapaghcabehaaDoor.e4.law_peerask pn xs po s0 cap0 a1 W (fits64 pn wA) (by omega) hr (fun e => hno _ _ (by rw [e])) (by omega) (by omega) tabs mx
  refine hgo.mono fun e W' ⟨he, hnx⟩ => ?_
  subst he
  have hA2 : DataW.TrodAll enc Tryd.prog W' 0 (fun b => decide (b < W.heap.size)) true [24, 9] [.agg #[.int .i64 pn, .slice s0 len0 cap0, .string po], .string a1] [.agg [yA.1, yB.1, yC.1], .lit (.string a1.data.toList)] (yA.2 ++ (yB.2 ++ yC.2)) := by simpa using trodAll_cons_mk (hargs0k _ hnx) (trodAll_cons_mk (shut_string Tryd.underlying9 w1) trodAll_mk0)
  exact ⟨_, rfl, _, _, _, [], yA.2 ++ (yB.2 ++ yC.2), [], hW', trodAll_cons_mk (shut_bool Tryd.underlying4 _) trodAll_mk0, hA2, rfl, hnx.frame _, fun h => by cases h⟩

theorem laid_met (os : Os) : laidMet Tryd.prog Rows.peerAskUptoRow.laid ((World.doorLaid Tryd.prog 4000 os).forCall (fun _ _ => 0) ⟨#[], #[.agg #[.int .i64 0, .slice none 0 0, .string ByteArray.empty], .string ByteArray.empty], []⟩).memory :=
  laidMet_of_run' 8 (by kernel_rfl) (by kernel_rfl)
theorem reads (os : Os) {H : Type} (enc : TypeId × Value → H) : ∃ places, DataW.whole enc Tryd.prog ((World.doorLaid Tryd.prog 4000 os).forCall (fun _ _ => 0) ⟨#[], #[.agg #[.int .i64 0, .slice none 0 0, .string ByteArray.empty], .string ByteArray.empty], []⟩).memory Tryd.f4.params.toList Rows.peerAskSpec.vars false #[Value.agg #[.int .i64 0, .slice none 0 0, .string ByteArray.empty], Value.string ByteArray.empty].toList 8 = some ([.agg [.lit (.int .i64 0), .nil, .lit (.string [])], .lit (.string [])], [], places) :=
  ⟨[], by kernel_rfl⟩

set_option maxRecDepth 100000 in
theorem liftedUpto (os : Os) (started : os.Started) (H : Type) (enc : TypeId × Value → H) (F : Stop.Interp) :
    ReturnsInHanded {} Tryd.checked os 4 .any ((Rows.OpenSpec.upto Rows.peerAskSpec).preRow enc Tryd.prog Tryd.f4 Rows.peerAskUptoRow.domain false Rows.peerAskUptoRow.laid) (((Rows.OpenSpec.upto Rows.peerAskSpec).at F).post enc Tryd.prog Tryd.f4 false true false false) := by
  obtain ⟨places, hx⟩ := reads os enc
  refine returnsInHanded_of_row (C := Tryd.checked) (s := Rows.OpenSpec.upto Rows.peerAskSpec) own started (by kernel_rfl) Tryd.func4
    (witness_row_at (enc := enc) (C := Tryd.checked) false (World.doorLaid Tryd.prog 4000 os) #[.agg #[.int .i64 0, .slice none 0 0, .string ByteArray.empty], .string ByteArray.empty] rfl (by kernel_rfl) (by kernel_rfl) (by kernel_rfl)
      (OpenSpec.preRow_of_cond 8 hx (by kernel_rfl) (fun k hk => by cases hk; kernel_rfl) (by kernel_rfl) (laid_met os))) ?_
  intro W base args ds gs before hval hW _ hcond _ hL hsh _
  exact contract H enc W base args ds gs before hval hW (hcond _ rfl) hL hsh

theorem saidUpto : Rows.PeerAskUptoSaid :=
  OpenClaim.holds_of_cond 4 Tryd.f4 rfl rfl rfl rfl rfl rfl rfl ⟨rfl, rfl, rfl, rfl, rfl⟩ rfl rfl rfl rfl rfl (by kernel_rfl) Tryd.func4 (by kernel_rfl)
    (of_decide_eq_true (by kernel_rfl)) (by unfold Func.isWrapper; first | (rw [if_pos (by decide +kernel)]; kernel_rfl) | (rw [if_neg (by decide +kernel)]; exact ⟨rfl, rfl⟩))
    (fun os started H enc _ F => by rw [OpenClaim.pre_eq_preRow]; exact liftedUpto os started H enc F)

theorem plain (f : FuncId) (fn : Func) (hf : Tryd.pinned.checked.prog.funcNamed "annals/annalslaw22.PeerAsk" = some f) (hfn : Tryd.pinned.checked.prog.funcs[f]? = some fn) :
    true = Tryd.pinned.checked.prog.looks [] ∧ ∀ (j : Nat) t, fn.params[j]? = some t → Tryd.pinned.checked.prog.wantsStandIn t = false := by
  obtain rfl : f = 4 := Option.some.inj ((show Tryd.prog.funcNamed "annals/annalslaw22.PeerAsk" = some 4 by kernel_rfl).symm.trans hf) |>.symm
  obtain rfl : fn = Tryd.f4 := (Option.some.inj (Tryd.func4.symm.trans hfn)).symm
  refine ⟨by kernel_rfl, fun j t ht => ?_⟩
  rw [Tryd.params4] at ht
  have hm : t ∈ ([24, 9] : List TypeId) := by simpa using Array.mem_of_getElem? ht
  have hall : (([24, 9] : List TypeId).all fun u => !Tryd.prog.wantsStandIn u) = true := by kernel_rfl
  exact (show Tryd.prog.wantsStandIn t = false by simpa using List.all_eq_true.1 hall t hm)

theorem card_holds : Rows.PeerAskUptoCardSaid :=
  Claim7.holds_tied_plain_at .later [] _ _ _ _ saidUpto (fun _ h => by cases h) (by kernel_rfl) (fun _ h => by cases h) peerAskUpto_row_tie rfl ⟨rfl, rfl⟩ (by kernel_rfl) rfl plain (by kernel_rfl)
end Go.Proofs.YtpbapaghcabehaaDoor.peerAsk
namespace Go.Proofs.YtpbapaghcabehaaDoor
theorem peerAsk_holds : Rows.PeerAskUptoCardSaid := peerAsk.card_holds
#print axioms peerAsk_holds
end Go.Proofs.YtpbapaghcabehaaDoor
