import Derived.Test.YtgbachojkbfeoabDoorHg
import Derived.Test.YtgbachojkbfeoabDoorFt
import Derived.Test.YtgbachojkbfeoabDoorTie
import Derived.Test.YtgbachojkbfeoabDoorCards
import Derived.ProofKit
import Derived.LaidMore
import Derived.OpenShut
import Derived.Carry
import Derived.Deep.Slices
import Derived.Lib.SmallJoins
import Derived.Deep.DeepHandedRow
import Derived.Stop.Joined
import Derived.SevenTiedAt
namespace Go.Proofs.YtgbachojkbfeoabDoor.shaHistory
open Go.ChangeShapes Go.WideShapes Go.ChangeAt Go.WideMaps Go.WideElems Go.RowKit Go.Deep
open Go.Proofs.YtgbachojkbfeoabDoor.ft
set_option linter.unusedVariables false

theorem laidOut : laidOutB Tryd.prog = true := by kernel_rfl
theorem cells28 : Tryd.prog.cellsOf 28 = 3 := by kernel_rfl
theorem cells3 : Tryd.prog.cellsOf 3 = 1 := by kernel_rfl
theorem cells9 : Tryd.prog.cellsOf 9 = 1 := by kernel_rfl

theorem bulk_append {H : Type} (l r : List (DataW H)) : Rows.uptoBulkAll (l ++ r) = Rows.uptoBulkAll l + Rows.uptoBulkAll r := by
  induction l with
  | nil => simp [Rows.uptoBulkAll]
  | cons x l ih => simp only [List.cons_append, Rows.uptoBulkAll, ih]; omega

theorem bulk_ops {H : Type} (D : Nat → DataW H) (ts : Nat → ByteArray) (n : Nat) (h : ∀ i, i < n → (ts i).size + 4 ≤ Rows.uptoBulk (D i)) : Go.Proofs.YtgbachojkbfeoabDoor.hg.tot ts n + 4 * n ≤ Rows.uptoBulkAll ((List.range n).map D) := by
  induction n with
  | zero => simp [Go.Proofs.YtgbachojkbfeoabDoor.hg.tot]
  | succ n ih =>
    rw [List.range_succ, List.map_append, bulk_append]
    have h1 := ih (fun i hi => h i (by omega))
    have h2 := h n (by omega)
    simp only [List.map_cons, List.map_nil, Rows.uptoBulkAll, Go.Proofs.YtgbachojkbfeoabDoor.hg.tot]
    omega

theorem contract (H : Type) (enc : TypeId × Value → H) (W : World) (base : Nat) (args : Array Value) (ds gs : List (DataW H)) (before : List MemPlace)
    (hval : ∀ (j : Nat) t v, Tryd.f3.params[j]? = some t → args[j]? = some v → Value.okWide Tryd.prog W .any base t v)
    (hW : DataW.Whole enc Tryd.prog Tryd.f3.params.toList Rows.shaHistorySpec.vars false W args.toList ds gs before) (hsm : Rows.uptoSmall H (ds ++ gs) = true) (hL : laidMetH Tryd.prog laid4 W) :
    Calls Tryd.prog 3 args W fun e W' => ∃ v, e = .returned v ∧ Rows.shaHistorySpec.post enc Tryd.prog Tryd.f3 false true false false W args v W' := by
  have hW' := hW
  obtain ⟨p, q, hA0, hV, rfl, hfz, hnd⟩ := hW
  have hA : DataW.TrodAll enc Tryd.prog W 0 (fun _ => true) true Tryd.f3.params.toList args.toList ds p := hA0
  rw [Tryd.params3] at hA hval
  obtain ⟨x0, d0, rfl, rfl, h0⟩ := trodAll_one hA
  obtain ⟨rfl, rfl⟩ := trodVars_none hV
  obtain ⟨a0, len, cap, rfl⟩ := okWide_slice Tryd.underlying22 (hval 0 22 x0 rfl rfl)
  have h0k := h0
  obtain ⟨fuel, hf⟩ := h0
  have tabs := of_laid4 hL
  clear hA0
  simp only [List.append_nil] at hW'
  have hlt : ∀ x ∈ p, x.block < W.heap.size := fun x hx => by simpa using hW'.lt x hx
  have hargs : ∀ (W' : World), Below W.heap.size W W' → DataW.Trod enc Tryd.prog W' 0 (fun b => decide (b < W.heap.size)) true 22 (.slice a0 len cap) d0 p :=
    fun W' hn => Below.trod laidOut (by kernel_rfl) (of_decide_eq_true (by kernel_rfl)) h0k hn hlt
  have fin : ∀ e W', (e = Ending.returned (.bool true) ∧ Below W.heap.size W W') →
      ∃ v, e = Ending.returned v ∧ Rows.shaHistorySpec.post enc Tryd.prog Tryd.f3 false true false false W #[.slice a0 len cap] v W' := by
    intro e W' ⟨he, hnx⟩
    subst he
    exact ⟨_, rfl, _, _, _, [], p, [], hW', trodAll_mk1 (shut_bool Tryd.underlying4 _), trodAll_mk1 (hargs _ hnx), rfl, hnx.frame _, fun h => by cases h⟩
  have hbulk : Rows.uptoBulkAll ([d0] ++ []) ≤ 1048576 := of_decide_eq_true hsm
  rcases open_slice Tryd.underlying22 hf with ⟨hcs, hx⟩ | ⟨a, len', cap', m, n, D, Pl, hcs, _, hl, hm, hmm, hx, hel⟩
  · simp [Value.cells] at hcs
    obtain ⟨rfl, rfl, rfl⟩ := hcs
    exact (Go.Proofs.YtgbachojkbfeoabDoor.hg.hist none 0 0 (fun _ => 0) (fun _ => 0) (fun _ => ByteArray.empty) W (by omega) (fun k hk => by omega) (fun k hk => by omega) (show _ ≤ _ by decide) tabs).mono fin
  · simp [Value.cells] at hcs
    obtain ⟨rfl, rfl, rfl⟩ := hcs
    simp only [Prod.mk.injEq] at hx
    obtain ⟨rfl, hp⟩ := hx
    simp only [if_true] at hmm
    subst hmm
    have el : ∀ i, i < len → ∃ y : Int × Int × ByteArray, (W.cell? (a.add (i * 3)) = some (.int .i64 y.1) ∧ W.cell? ((a.add (i * 3)).add 1) = some (.int .i64 y.2.1) ∧ W.cell? ((a.add (i * 3)).add 2) = some (.string y.2.2)) ∧ (-9223372036854775808 ≤ y.2.1 ∧ y.2.1 ≤ 9223372036854775807) ∧ y.2.2.size + 4 ≤ Rows.uptoBulk (D i) := by
      intro i hi
      obtain ⟨cs', h1, h2⟩ := hel i (by omega)
      rw [cells28] at h1
      obtain ⟨_, hlen, hc⟩ := World.cells?_some h1
      obtain ⟨y0, y1, y2, n', hx', _, k0, k1, k2⟩ := trod_struct3 Tryd.underlying28 h2
      simp only [cells3, cells9] at k0 k1 k2
      obtain ⟨kk, e0, rfl, _⟩ := DataW.trod_int Tryd.underlying3 k0
      obtain ⟨oo, e1, rfl, wo⟩ := DataW.trod_int Tryd.underlying3 k1
      obtain ⟨tt, e2, rfl, _⟩ := DataW.trod_string Tryd.underlying9 k2
      have g0 : cs'[0]? = some (.int .i64 kk) := by
        have := congrArg (·[0]?) e0
        simpa using this
      have g1 : cs'[1]? = some (.int .i64 oo) := by
        have := congrArg (·[0]?) e1
        simpa using this
      have g2 : cs'[2]? = some (.string tt) := by
        have := congrArg (·[0]?) e2
        simpa using this
      have q0 := hc 0 (by omega)
      have q1 := hc 1 (by omega)
      have q2 := hc 2 (by omega)
      have ez : (a.add (i * 3)).add 0 = a.add (i * 3) := by simp [Addr.add]
      rw [ez] at q0
      refine ⟨(kk, oo, tt), ⟨q0.trans g0, q1.trans g1, q2.trans g2⟩, bounds_i64 wo, ?_⟩
      simp only [Prod.mk.injEq] at hx'
      rw [hx'.1]
      have eb : tt.data.toList.length = tt.size := Array.length_toList
      simp only [Rows.uptoBulk, Rows.uptoBulkAll]
      omega
    obtain ⟨Y, hY⟩ := choose_lt el
    have hb1 := bulk_ops D (fun i => (Y i).2.2) len (fun i hi => (hY i hi).2.2)
    have hb2 : Rows.uptoBulkAll ((List.range len).map D) ≤ 1048576 := by
      simp only [List.append_nil, Rows.uptoBulkAll, Rows.uptoBulk] at hbulk
      omega
    refine (Go.Proofs.YtgbachojkbfeoabDoor.hg.hist (some a) len _ (fun i => (Y i).1) (fun i => (Y i).2.1) (fun i => (Y i).2.2) W (by omega) (fun k hk => ?_) (fun k hk => (hY k hk).2.1) (show _ ≤ _ by omega) tabs).mono fin
    obtain ⟨b, off, spot⟩ := a
    obtain ⟨⟨c0, c1, c2⟩, _⟩ := hY k hk
    have hspot : spot = none := by simpa [Addr.add] using World.cell?_spot (hY 0 (by omega)).1.1
    subst hspot
    simp only [Addr.add_mid] at c0 c1 c2
    exact ⟨b, off, rfl, c0, c1, c2⟩

theorem laid_met (os : Os) : laidMet Tryd.prog Rows.shaHistoryUptoRow.laid ((World.doorLaid Tryd.prog 400 os).forCall (fun _ _ => 0) ⟨#[], #[.slice none 0 0], []⟩).memory :=
  laidMet_of_run' 8 (by kernel_rfl) (by kernel_rfl)
theorem reads (os : Os) {H : Type} (enc : TypeId × Value → H) : ∃ places, DataW.whole enc Tryd.prog ((World.doorLaid Tryd.prog 400 os).forCall (fun _ _ => 0) ⟨#[], #[.slice none 0 0], []⟩).memory Tryd.f3.params.toList Rows.shaHistorySpec.vars false #[Value.slice none 0 0].toList 8 = some ([.nil], [], places) :=
  ⟨[], by kernel_rfl⟩

set_option maxRecDepth 100000 in
theorem liftedUpto (os : Os) (started : os.Started) (H : Type) (enc : TypeId × Value → H) (F : Stop.Interp) :
    ReturnsInHanded {} Tryd.checked os 3 .any ((Rows.OpenSpec.upto Rows.shaHistorySpec).preRow enc Tryd.prog Tryd.f3 Rows.shaHistoryUptoRow.domain false Rows.shaHistoryUptoRow.laid) (((Rows.OpenSpec.upto Rows.shaHistorySpec).at F).post enc Tryd.prog Tryd.f3 false true false false) := by
  obtain ⟨places, hx⟩ := reads os enc
  refine returnsInHanded_of_row (C := Tryd.checked) (s := Rows.OpenSpec.upto Rows.shaHistorySpec) own started (by kernel_rfl) Tryd.func3
    (witness_row_at (enc := enc) (C := Tryd.checked) false (World.doorLaid Tryd.prog 400 os) #[.slice none 0 0] rfl (by kernel_rfl) (by kernel_rfl) (by kernel_rfl)
      (OpenSpec.preRow_of_cond 8 hx (by kernel_rfl) (fun k hk => by cases hk; kernel_rfl) (by kernel_rfl) (laid_met os))) ?_
  intro W base args ds gs before hval hW _ hcond _ hL _ _
  exact contract H enc W base args ds gs before hval hW (hcond _ rfl) hL

theorem saidUpto : Rows.ShaHistoryUptoSaid :=
  OpenClaim.holds_of_cond 3 Tryd.f3 rfl rfl rfl rfl rfl rfl rfl ⟨rfl, rfl, rfl, rfl, rfl⟩ rfl rfl rfl rfl rfl (by kernel_rfl) Tryd.func3 (by kernel_rfl)
    (of_decide_eq_true (by kernel_rfl)) (by unfold Func.isWrapper; first | (rw [if_pos (by decide +kernel)]; kernel_rfl) | (rw [if_neg (by decide +kernel)]; exact ⟨rfl, rfl⟩))
    (fun os started H enc _ F => by rw [OpenClaim.pre_eq_preRow]; exact liftedUpto os started H enc F)

theorem plain (f : FuncId) (fn : Func) (hf : Tryd.pinned.checked.prog.funcNamed "annals/annalslaw2.ShaHistory" = some f) (hfn : Tryd.pinned.checked.prog.funcs[f]? = some fn) :
    false = Tryd.pinned.checked.prog.looks [] ∧ ∀ (j : Nat) t, fn.params[j]? = some t → Tryd.pinned.checked.prog.wantsStandIn t = false := by
  obtain rfl : f = 3 := Option.some.inj ((show Tryd.prog.funcNamed "annals/annalslaw2.ShaHistory" = some 3 by kernel_rfl).symm.trans hf) |>.symm
  obtain rfl : fn = Tryd.f3 := (Option.some.inj (Tryd.func3.symm.trans hfn)).symm
  refine ⟨by kernel_rfl, fun j t ht => ?_⟩
  rw [Tryd.params3] at ht
  obtain rfl : t = 22 := by simpa using Array.mem_of_getElem? ht
  exact (show Tryd.prog.wantsStandIn 22 = false by kernel_rfl)

theorem card_holds : Rows.ShaHistoryUptoCardSaid :=
  Claim7.holds_tied_plain_at .later [] _ _ _ _ saidUpto (fun _ h => by cases h) (by kernel_rfl) (fun _ h => by cases h) shaHistoryUpto_row_tie rfl ⟨rfl, rfl⟩ (by kernel_rfl) rfl plain (by kernel_rfl)
end Go.Proofs.YtgbachojkbfeoabDoor.shaHistory
namespace Go.Proofs.YtgbachojkbfeoabDoor
theorem shaHistory_holds : Rows.ShaHistoryUptoCardSaid := shaHistory.card_holds
#print axioms shaHistory_holds
end Go.Proofs.YtgbachojkbfeoabDoor
