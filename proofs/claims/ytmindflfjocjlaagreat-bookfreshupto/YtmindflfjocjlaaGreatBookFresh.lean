import Derived.Test.YtmindflfjocjlaaGreatRm0
import Derived.Test.YtmindflfjocjlaaGreatRj0
import Derived.Test.YtmindflfjocjlaaGreatRi0
import Derived.Test.YtmindflfjocjlaaGreatRows
import Derived.WalkKit
import Derived.ProofKit
import Derived.OpenShut
import Derived.JoinedCond
import Derived.ShutString
import Derived.Carry
import Derived.Deep.Slices
import Derived.Deep.Strs
import Derived.Deep.MidRow
import Derived.Lib.SmallJoins
import Derived.Deep.DeepHandedRow
namespace Go.Proofs.YtmindflfjocjlaaGreat.bookFresh
open Go.ChangeShapes Go.WideShapes Go.ChangeAt Go.WideMaps Go.WideElems Go.RowKit Go.Deep Go.Joins
open Go.ChangeMaps (open_string shut_string)
open Go.Proofs.YtmindflfjocjlaaGreat.jj Go.Proofs.YtmindflfjocjlaaGreat.jk Go.Proofs.YtmindflfjocjlaaGreat.jo
set_option linter.unusedVariables false

theorem own : ownKnob Tryz.prog.godebug = none := by kernel_rfl
theorem laidOut : laidOutB Tryz.prog = true := by kernel_rfl
theorem cellsY : Tryz.prog.cellsOf 29 = 7 := by kernel_rfl
theorem cells3 : Tryz.prog.cellsOf 3 = 1 := by kernel_rfl
theorem cells9 : Tryz.prog.cellsOf 9 = 1 := by kernel_rfl
theorem tS_app (l l' : List Stp) : tS (l ++ l') = tS l + tS l' := by
  induction l with
  | nil => simp [tS]
  | cons o l ih => simp only [List.cons_append, tS, ih]; omega
theorem tS_mem (l : List Stp) (o : Stp) (h : o ∈ l) : wS o ≤ tS l := by
  induction l with
  | nil => cases h
  | cons p l ih =>
    simp only [tS]
    rcases List.mem_cons.1 h with rfl | h
    · omega
    · have := ih h; omega
theorem bulk_append {H : Type} (l r : List (DataW H)) : Rows.uptoBulkAll (l ++ r) = Rows.uptoBulkAll l + Rows.uptoBulkAll r := by
  induction l with
  | nil => simp [Rows.uptoBulkAll]
  | cons x l ih => simp only [List.cons_append, Rows.uptoBulkAll, ih]; omega
theorem bulk_steps {H : Type} (D : Nat → DataW H) (Y : Nat → Stp) (n : Nat) (h : ∀ i, i < n → wS (Y i) ≤ Rows.uptoBulk (D i)) : tS ((List.range n).map Y) ≤ Rows.uptoBulkAll ((List.range n).map D) := by
  induction n with
  | zero => simp [tS]
  | succ n ih =>
    rw [List.range_succ, List.map_append, List.map_append, bulk_append, tS_app]
    have h1 := ih (fun i hi => h i (by omega))
    have h2 := h n (by omega)
    simp only [List.map_cons, List.map_nil, Rows.uptoBulkAll, tS]
    omega
theorem trod_struct7 {H : Type} {enc : TypeId × Value → H} {P : Program} {w : World} {base : Nat} {spare : Nat → Bool} {held : Bool} {t : TypeId} {f0 f1 f2 f3 f4 f5 f6 : Field} {fuel : Nat} {cs : List Value} {x : DataW H × List MemPlace} (ht : P.underlying t = some (.struct #[f0, f1, f2, f3, f4, f5, f6])) (h : DataW.trod enc P w base spare held fuel t cs = some x) :
    ∃ (y : Nat → DataW H × List MemPlace) (n : Nat), x.1 = .agg [(y 0).1, (y 1).1, (y 2).1, (y 3).1, (y 4).1, (y 5).1, (y 6).1] ∧
      DataW.trod enc P w base spare held n f0.type ((cs.drop f0.offset).take (P.cellsOf f0.type)) = some (y 0) ∧ DataW.trod enc P w base spare held n f1.type ((cs.drop f1.offset).take (P.cellsOf f1.type)) = some (y 1) ∧
      DataW.trod enc P w base spare held n f2.type ((cs.drop f2.offset).take (P.cellsOf f2.type)) = some (y 2) ∧ DataW.trod enc P w base spare held n f3.type ((cs.drop f3.offset).take (P.cellsOf f3.type)) = some (y 3) ∧
      DataW.trod enc P w base spare held n f4.type ((cs.drop f4.offset).take (P.cellsOf f4.type)) = some (y 4) ∧ DataW.trod enc P w base spare held n f5.type ((cs.drop f5.offset).take (P.cellsOf f5.type)) = some (y 5) ∧
      DataW.trod enc P w base spare held n f6.type ((cs.drop f6.offset).take (P.cellsOf f6.type)) = some (y 6) := by
  obtain ⟨xs, n, _, rfl, hl, hlen, hf⟩ := DataW.trod_struct ht h
  match xs, hlen with
  | [y0, y1, y2, y3, y4, y5, y6], _ =>
    exact ⟨fun i => [y0, y1, y2, y3, y4, y5, y6].getD i y0, n, by simp, by simpa using hf 0 f0 rfl, by simpa using hf 1 f1 rfl, by simpa using hf 2 f2 rfl, by simpa using hf 3 f3 rfl, by simpa using hf 4 f4 rfl, by simpa using hf 5 f5 rfl, by simpa using hf 6 f6 rfl⟩
theorem first_of {cs : List Value} {k : Nat} {x : Value} (h : (cs.drop k).take 1 = [x]) : cs[k]? = some x := by
  have := congrArg (·[0]?) h
  simpa using this
theorem open_steps {H : Type} (enc : TypeId × Value → H) (W : World) (a0 : Option Addr) (len cap : Nat) (d0 : DataW H) (p : List MemPlace) (h0 : DataW.Trod enc Tryz.prog W 0 (fun _ => true) true 22 (.slice a0 len cap) d0 p) :
    ∃ l, (tS l ≤ 1048576 → ReadsS W.heap.size W (.slice a0 len cap) l) ∧ tS l ≤ Rows.uptoBulk d0 := by
  obtain ⟨fuel, hf⟩ := h0
  rcases open_slice Tryz.underlying22 hf with ⟨hcs, hx⟩ | ⟨a, len', cap', m, n, D, Pl, hcs, _, hl, hm, hmm, hx, hel⟩
  · simp [Value.cells] at hcs
    obtain ⟨rfl, rfl, rfl⟩ := hcs
    exact ⟨[], fun _ => ⟨⟨none, 0, rfl, .inl rfl⟩, fun o ho => by cases ho⟩, Nat.zero_le _⟩
  · simp [Value.cells] at hcs
    obtain ⟨rfl, rfl, rfl⟩ := hcs
    simp only [Prod.mk.injEq] at hx
    obtain ⟨rfl, hp⟩ := hx
    simp only [if_true] at hmm
    subst hmm
    have el : ∀ i, i < len → ∃ y : Stp, (W.cell? (a.add (i * 7)) = some (.int .i64 y.d) ∧ W.cell? ((a.add (i * 7)).add 1) = some (.int .i64 y.sp) ∧ W.cell? ((a.add (i * 7)).add 2) = some (.int .i64 y.k) ∧ W.cell? ((a.add (i * 7)).add 3) = some (.int .i64 y.n) ∧ W.cell? ((a.add (i * 7)).add 4) = some (.int .i64 y.m) ∧ W.cell? ((a.add (i * 7)).add 5) = some (.string y.key) ∧ W.cell? ((a.add (i * 7)).add 6) = some (.string y.text)) ∧ (y.sp ≤ 9223372036854775807 ∧ y.n ≤ 9223372036854775807 ∧ y.m ≤ 9223372036854775807) ∧ wS y ≤ Rows.uptoBulk (D i) := by
      intro i hi
      obtain ⟨cs', h1, h2⟩ := hel i (by omega)
      rw [cellsY] at h1
      obtain ⟨_, hlen, hc⟩ := World.cells?_some h1
      obtain ⟨y, n', hx', k0, k1, k2, k3, k4, k5, k6⟩ := trod_struct7 Tryz.underlying29 h2
      simp only [cells3, cells9] at k0 k1 k2 k3 k4 k5 k6
      obtain ⟨i0, e0, r0, _⟩ := DataW.trod_int Tryz.underlying3 k0
      obtain ⟨i1, e1, r1, o1⟩ := DataW.trod_int Tryz.underlying3 k1
      obtain ⟨i2, e2, r2, _⟩ := DataW.trod_int Tryz.underlying3 k2
      obtain ⟨i3, e3, r3, o3⟩ := DataW.trod_int Tryz.underlying3 k3
      obtain ⟨i4, e4, r4, o4⟩ := DataW.trod_int Tryz.underlying3 k4
      obtain ⟨t5, e5, r5, _⟩ := DataW.trod_string Tryz.underlying9 k5
      obtain ⟨t6, e6, r6, _⟩ := DataW.trod_string Tryz.underlying9 k6
      have q0 := hc 0 (by omega)
      have ez : (a.add (i * 7)).add 0 = a.add (i * 7) := by simp [Addr.add]
      rw [ez] at q0
      refine ⟨⟨i0, i1, i2, i3, i4, t5, t6⟩, ⟨q0.trans (first_of e0), (hc 1 (by omega)).trans (first_of e1), (hc 2 (by omega)).trans (first_of e2), (hc 3 (by omega)).trans (first_of e3), (hc 4 (by omega)).trans (first_of e4), (hc 5 (by omega)).trans (first_of e5), (hc 6 (by omega)).trans (first_of e6)⟩, ⟨(bounds_i64 o1).2, (bounds_i64 o3).2, (bounds_i64 o4).2⟩, ?_⟩
      simp only at hx'
      rw [hx', r0, r1, r2, r3, r4, r5, r6]
      have eb1 : t5.data.toList.length = t5.size := Array.length_toList
      have eb2 : t6.data.toList.length = t6.size := Array.length_toList
      simp only [Rows.uptoBulk, Rows.uptoBulkAll, wS]
      omega
    haveI : Inhabited Stp := ⟨⟨0, 0, 0, 0, 0, ByteArray.empty, ByteArray.empty⟩⟩
    obtain ⟨Y, hY⟩ := choose_lt el
    have hb1 := bulk_steps D Y len (fun i hi => (hY i hi).2.2)
    refine ⟨(List.range len).map Y, fun hw => ⟨⟨some a, m, by simp, ?_⟩, ?_⟩, ?_⟩
    · by_cases hl0 : len = 0
      · exact .inl (by simp [hl0])
      · right
        obtain ⟨b, off, spot⟩ := a
        have hspot : spot = none := by simpa [Addr.add] using World.cell?_spot (hY 0 (by omega)).1.1
        subst hspot
        have hbl : b < W.heap.size := World.block_lt_of_cell? _ _ (hY 0 (by omega)).1.1
        refine ⟨b, off, rfl, hbl, fun i o ho => ?_⟩
        have hi : i < len := by
          rcases Nat.lt_or_ge i len with h' | h'
          · exact h'
          · rw [List.getElem?_eq_none (by simpa using h')] at ho; cases ho
        rw [List.getElem?_map, List.getElem?_range hi] at ho
        simp only [Option.map_some, Option.some.injEq] at ho
        subst ho
        obtain ⟨⟨c0, c1, c2, c3, c4, c5, c6⟩, _⟩ := hY i hi
        simp only [Addr.add_mid] at c0 c1 c2 c3 c4 c5 c6
        exact ⟨c0, c1, c2, c3, c4, c5, c6⟩
    · intro o ho
      have h9 := tS_mem _ o ho
      obtain ⟨i, hi, rfl⟩ := List.mem_map.1 ho
      have hi : i < len := by simpa using hi
      unfold wS at h9
      obtain ⟨z1, z2, z3⟩ := (hY i hi).2.1
      exact ⟨z1, z2, z3, by omega, by omega⟩
    · simp only [Rows.uptoBulk]
      omega
set_option maxRecDepth 100000 in
theorem contract (H : Type) (enc : TypeId × Value → H) (W : World) (base : Nat) (args : Array Value) (ds gs : List (DataW H)) (before : List MemPlace)
    (hval : ∀ (j : Nat) t v, Tryz.f3.params[j]? = some t → args[j]? = some v → Value.okWide Tryz.prog W .any base t v)
    (hW : DataW.Whole enc Tryz.prog Tryz.f3.params.toList Rows.bookFreshSpec.vars false W args.toList ds gs before) (hk : Rows.uptoSmall H (ds ++ gs) = true) :
    Calls Tryz.prog 3 args W fun e W' => ∃ v, e = .returned v ∧ Rows.bookFreshSpec.post enc Tryz.prog Tryz.f3 false true false false W args v W' := by
  have hW' := hW
  obtain ⟨p, q, hA0, hV, rfl, hfz, hnd⟩ := hW
  have hA : DataW.TrodAll enc Tryz.prog W 0 (fun _ => true) true Tryz.f3.params.toList args.toList ds p := hA0
  rw [Tryz.params3] at hA hval
  obtain ⟨v0, vs0, d0, ds0, p0, q0, hargs0, rfl, rfl, h0, r0⟩ := trodAll_cons hA
  obtain ⟨v1, vs1, d1, ds1, p1, q1, rfl, rfl, rfl, h1, r1⟩ := trodAll_cons r0
  obtain ⟨v2, vs2, d2, ds2, p2, q2, rfl, rfl, rfl, h2, r2⟩ := trodAll_cons r1
  obtain ⟨rfl, rfl, rfl⟩ := trodAll_nil r2
  obtain rfl : args = #[v0, v1, v2] := by cases args; simp_all
  obtain ⟨rfl, rfl⟩ := trodVars_none hV
  obtain ⟨a0, len0, cap0, rfl⟩ := okWide_slice Tryz.underlying22 (hval 0 22 v0 rfl rfl)
  obtain ⟨l0, hr0, hb0⟩ := open_steps enc W a0 len0 cap0 d0 p0 h0
  obtain ⟨a1, rfl, rfl, rfl, w1⟩ := open_int Tryz.underlying3 (hval 1 3 v1 rfl rfl) h1
  obtain ⟨a2, rfl, rfl, rfl, w2⟩ := open_int Tryz.underlying3 (hval 2 3 v2 rfl rfl) h2
  have hbulk := of_decide_eq_true hk
  simp only [List.append_nil, Rows.uptoBulkAll, Rows.uptoBulk] at hbulk
  have z0 : tS l0 ≤ 1048576 := by omega
  clear hA0 hk
  simp only [List.append_nil] at hW'
  have hlt0 : ∀ x ∈ p0, x.block < W.heap.size := fun x hx => by simpa using hW'.lt x (by simp [hx])
  have hargs0k : ∀ (W' : World), Below W.heap.size W W' → DataW.Trod enc Tryz.prog W' 0 (fun b => decide (b < W.heap.size)) true 22 (.slice a0 len0 cap0) d0 p0 :=
    fun W' hn => Below.trod laidOut (by kernel_rfl) (of_decide_eq_true (by kernel_rfl)) h0 hn hlt0
  refine (Go.Proofs.YtmindflfjocjlaaGreat.fd.fresh_walk (.slice a0 len0 cap0) l0 _ (hr0 (by omega)) z0 a1 w1 a2 w2).mono fun e W' ⟨he, hb⟩ => ?_
  subst he
  have hA2 : DataW.TrodAll enc Tryz.prog W' 0 (fun b => decide (b < W.heap.size)) true [22, 3, 3] [.slice a0 len0 cap0, .int .i64 a1, .int .i64 a2] [d0, .lit (.int .i64 a1), .lit (.int .i64 a2)] (p0) := by simpa using (trodAll_cons_mk (hargs0k _ hb) (trodAll_cons_mk (shut_int Tryz.underlying3 w1) (trodAll_cons_mk (shut_int Tryz.underlying3 w2) trodAll_mk0)))
  exact ⟨_, rfl, _, _, _, [], p0, [], hW', trodAll_cons_mk (shut_bool Tryz.underlying4 _) trodAll_mk0, hA2, rfl, hb.frame _, fun h => by cases h⟩

set_option maxRecDepth 100000 in
theorem lifted (os : Os) (started : os.Started) (H : Type) (enc : TypeId × Value → H) (F : Stop.Interp) :
    ReturnsInHanded {} Tryz.checked os 3 .any ((Rows.OpenSpec.upto Rows.bookFreshSpec).pre6 enc Tryz.prog Tryz.f3 Rows.bookFreshUptoRow.domain false) (((Rows.OpenSpec.upto Rows.bookFreshSpec).at F).post enc Tryz.prog Tryz.f3 false true false false) := by
  refine returnsInHanded_of_cond (C := Tryz.checked) (s := Rows.OpenSpec.upto Rows.bookFreshSpec) (k := Rows.uptoSmall) rfl own started (by kernel_rfl) Tryz.func3
    (OpenSpec.witness (enc := enc) (C := Tryz.checked) (s := Rows.OpenSpec.upto Rows.bookFreshSpec) (k := Rows.uptoSmall) rfl false ⟨#[], #[.slice none 0 0, .int .i64 0, .int .i64 0], []⟩ 8 (by kernel_rfl) (by kernel_rfl) (by kernel_rfl)
      (x := ([.nil, .lit (.int .i64 0), .lit (.int .i64 0)], [], [])) (by kernel_rfl) rfl (by kernel_rfl)) ?_
  intro W base args ds gs before hval hW _ hk _
  exact contract H enc W base args ds gs before hval hW hk

theorem over : Rows.bookFreshUptoRow.holds Tryz.pinned (Rows.OpenSpec.upto Rows.bookFreshSpec) :=
  OpenClaim.holds_of_cond 3 Tryz.f3 rfl rfl rfl rfl rfl rfl rfl ⟨rfl, rfl, rfl, rfl, rfl⟩ rfl rfl rfl rfl rfl (by kernel_rfl) Tryz.func3 (by kernel_rfl)
    (of_decide_eq_true (by kernel_rfl)) (by unfold Func.isWrapper; first | (rw [if_pos (by decide +kernel)]; kernel_rfl) | (rw [if_neg (by decide +kernel)]; exact ⟨rfl, rfl⟩))
    (fun os started H enc _ F => lifted os started H enc F)
end Go.Proofs.YtmindflfjocjlaaGreat.bookFresh
namespace Go.Proofs.YtmindflfjocjlaaGreat
theorem bookFresh_holds : Rows.BookFreshUptoSaid := bookFresh.over
#print axioms bookFresh_holds
end Go.Proofs.YtmindflfjocjlaaGreat
