import Derived.Test.YtlkkibiedlakfaaGreatE4
import Derived.Test.YtlkkibiedlakfaaGreatRows
import Derived.WalkKit
import Derived.ProofKit
import Derived.OpenShut
import Derived.JoinedCond
import Derived.ShutString
import Derived.Carry
import Derived.Deep.Slices
import Derived.Deep.Strs
import Derived.Deep.MidRow
import Derived.Lib.SmallJoins
import Derived.Deep.DeepHandedRow
namespace Go.Proofs.YtlkkibiedlakfaaGreat.storeLists
open Go.ChangeShapes Go.WideShapes Go.ChangeAt Go.WideMaps Go.WideElems Go.RowKit Go.Deep Go.Joins
open Go.ChangeMaps (open_string shut_string)
open Go.Proofs.YtlkkibiedlakfaaGreat.yt Go.Proofs.YtlkkibiedlakfaaGreat.yu
set_option linter.unusedVariables false

theorem own : ownKnob Tryz.prog.godebug = none := by kernel_rfl
theorem laidOut : laidOutB Tryz.prog = true := by kernel_rfl
theorem cellsP : Tryz.prog.cellsOf 34 = 4 := by kernel_rfl
theorem cells3 : Tryz.prog.cellsOf 3 = 1 := by kernel_rfl
theorem cells9 : Tryz.prog.cellsOf 9 = 1 := by kernel_rfl
theorem len_tw (l : List Opn) : l.length ≤ tw l := by
  induction l with
  | nil => exact Nat.le_refl _
  | cons o l ih => simp only [tw, wt, List.length_cons]; omega
theorem tw_app (l l' : List Opn) : tw (l ++ l') = tw l + tw l' := by
  induction l with
  | nil => simp [tw]
  | cons o l ih => simp only [List.cons_append, tw, ih]; omega
theorem tw_mem (l : List Opn) (o : Opn) (h : o ∈ l) : wt o ≤ tw l := by
  induction l with
  | nil => cases h
  | cons p l ih =>
    simp only [tw]
    rcases List.mem_cons.1 h with rfl | h
    · omega
    · have := ih h; omega
theorem bulk_append {H : Type} (l r : List (DataW H)) : Rows.uptoBulkAll (l ++ r) = Rows.uptoBulkAll l + Rows.uptoBulkAll r := by
  induction l with
  | nil => simp [Rows.uptoBulkAll]
  | cons x l ih => simp only [List.cons_append, Rows.uptoBulkAll, ih]; omega
theorem bulk_ops {H : Type} (D : Nat → DataW H) (Y : Nat → Opn) (n : Nat) (h : ∀ i, i < n → wt (Y i) ≤ Rows.uptoBulk (D i)) : tw ((List.range n).map Y) ≤ Rows.uptoBulkAll ((List.range n).map D) := by
  induction n with
  | zero => simp [tw]
  | succ n ih =>
    rw [List.range_succ, List.map_append, List.map_append, bulk_append, tw_app]
    have h1 := ih (fun i hi => h i (by omega))
    have h2 := h n (by omega)
    simp only [List.map_cons, List.map_nil, Rows.uptoBulkAll, tw]
    omega
theorem open_ops {H : Type} (enc : TypeId × Value → H) (W : World) (a0 : Option Addr) (len cap : Nat) (d0 : DataW H) (p : List MemPlace) (h0 : DataW.Trod enc Tryz.prog W 0 (fun _ => true) true 22 (.slice a0 len cap) d0 p) :
    ∃ l, (tw l ≤ 1048576 → ReadsO W.heap.size W (.slice a0 len cap) l) ∧ tw l ≤ Rows.uptoBulk d0 := by
  obtain ⟨fuel, hf⟩ := h0
  rcases open_slice Tryz.underlying22 hf with ⟨hcs, hx⟩ | ⟨a, len', cap', m, n, D, Pl, hcs, _, hl, hm, hmm, hx, hel⟩
  · simp [Value.cells] at hcs
    obtain ⟨rfl, rfl, rfl⟩ := hcs
    exact ⟨[], fun _ => ⟨⟨none, 0, rfl, .inl rfl⟩, fun o ho => by cases ho⟩, Nat.zero_le _⟩
  · simp [Value.cells] at hcs
    obtain ⟨rfl, rfl, rfl⟩ := hcs
    simp only [Prod.mk.injEq] at hx
    obtain ⟨rfl, hp⟩ := hx
    simp only [if_true] at hmm
    subst hmm
    have el : ∀ i, i < len → ∃ y : Int × ByteArray × ByteArray × Int, (W.cell? (a.add (i * 4)) = some (.int .i64 y.1) ∧ W.cell? ((a.add (i * 4)).add 1) = some (.string y.2.1) ∧ W.cell? ((a.add (i * 4)).add 2) = some (.string y.2.2.1) ∧ W.cell? ((a.add (i * 4)).add 3) = some (.int .i64 y.2.2.2)) ∧ (-9223372036854775808 ≤ y.2.2.2 ∧ y.2.2.2 ≤ 9223372036854775807) ∧ y.2.1.size + y.2.2.1.size + 5 ≤ Rows.uptoBulk (D i) := by
      intro i hi
      obtain ⟨cs', h1, h2⟩ := hel i (by omega)
      rw [cellsP] at h1
      obtain ⟨_, hlen, hc⟩ := World.cells?_some h1
      obtain ⟨y0, y1, y2, y3, n', hx', _, k0, k1, k2, k3⟩ := trod_struct4 Tryz.underlying34 h2
      simp only [cells3, cells9] at k0 k1 k2 k3
      obtain ⟨kk, e0, rfl, _⟩ := DataW.trod_int Tryz.underlying3 k0
      obtain ⟨t1, e1, rfl, _⟩ := DataW.trod_string Tryz.underlying9 k1
      obtain ⟨t2, e2, rfl, _⟩ := DataW.trod_string Tryz.underlying9 k2
      obtain ⟨oo, e3, rfl, wo⟩ := DataW.trod_int Tryz.underlying3 k3
      have g0 : cs'[0]? = some (.int .i64 kk) := by
        have := congrArg (·[0]?) e0
        simpa using this
      have g1 : cs'[1]? = some (.string t1) := by
        have := congrArg (·[0]?) e1
        simpa using this
      have g2 : cs'[2]? = some (.string t2) := by
        have := congrArg (·[0]?) e2
        simpa using this
      have g3 : cs'[3]? = some (.int .i64 oo) := by
        have := congrArg (·[0]?) e3
        simpa using this
      have q0 := hc 0 (by omega)
      have q1 := hc 1 (by omega)
      have q2 := hc 2 (by omega)
      have q3 := hc 3 (by omega)
      have ez : (a.add (i * 4)).add 0 = a.add (i * 4) := by simp [Addr.add]
      rw [ez] at q0
      refine ⟨(kk, t1, t2, oo), ⟨q0.trans g0, q1.trans g1, q2.trans g2, q3.trans g3⟩, bounds_i64 wo, ?_⟩
      simp only [Prod.mk.injEq] at hx'
      rw [hx'.1]
      have eb1 : t1.data.toList.length = t1.size := Array.length_toList
      have eb2 : t2.data.toList.length = t2.size := Array.length_toList
      simp only [Rows.uptoBulk, Rows.uptoBulkAll]
      omega
    obtain ⟨Y, hY⟩ := choose_lt el
    have hb1 := bulk_ops D (fun i => ⟨(Y i).1, (Y i).2.1, (Y i).2.2.1, (Y i).2.2.2⟩) len (fun i hi => (hY i hi).2.2)
    refine ⟨(List.range len).map fun i => ⟨(Y i).1, (Y i).2.1, (Y i).2.2.1, (Y i).2.2.2⟩, fun hw => ⟨⟨some a, m, by simp, ?_⟩, ?_⟩, ?_⟩
    · by_cases hl0 : len = 0
      · exact .inl (by simp [hl0])
      · right
        obtain ⟨b, off, spot⟩ := a
        have hspot : spot = none := by simpa [Addr.add] using World.cell?_spot (hY 0 (by omega)).1.1
        subst hspot
        have hbl : b < W.heap.size := World.block_lt_of_cell? _ _ (hY 0 (by omega)).1.1
        refine ⟨b, off, rfl, hbl, fun i o ho => ?_⟩
        have hi : i < len := by
          rcases Nat.lt_or_ge i len with h' | h'
          · exact h'
          · rw [List.getElem?_eq_none (by simpa using h')] at ho; cases ho
        rw [List.getElem?_map, List.getElem?_range hi] at ho
        simp only [Option.map_some, Option.some.injEq] at ho
        subst ho
        obtain ⟨⟨c0, c1, c2, c3⟩, _⟩ := hY i hi
        simp only [Addr.add_mid] at c0 c1 c2 c3
        exact ⟨c0, c1, c2, c3⟩
    · intro o ho
      have h9 := tw_mem _ o ho
      obtain ⟨i, hi, rfl⟩ := List.mem_map.1 ho
      have hi : i < len := by simpa using hi
      simp only [wt] at h9
      exact ⟨by simp only; omega, by simp only; omega, (hY i hi).2.1.2⟩
    · simp only [Rows.uptoBulk]
      omega
set_option maxRecDepth 100000 in
theorem contract (H : Type) (enc : TypeId × Value → H) (W : World) (base : Nat) (args : Array Value) (ds gs : List (DataW H)) (before : List MemPlace)
    (hval : ∀ (j : Nat) t v, Tryz.f3.params[j]? = some t → args[j]? = some v → Value.okWide Tryz.prog W .any base t v)
    (hW : DataW.Whole enc Tryz.prog Tryz.f3.params.toList Rows.storeListsSpec.vars false W args.toList ds gs before) (hk : Rows.uptoSmall H (ds ++ gs) = true) :
    Calls Tryz.prog 3 args W fun e W' => ∃ v, e = .returned v ∧ Rows.storeListsSpec.post enc Tryz.prog Tryz.f3 false true false false W args v W' := by
  have hW' := hW
  obtain ⟨p, q, hA0, hV, rfl, hfz, hnd⟩ := hW
  have hA : DataW.TrodAll enc Tryz.prog W 0 (fun _ => true) true Tryz.f3.params.toList args.toList ds p := hA0
  rw [Tryz.params3] at hA hval
  obtain ⟨v0, vs0, d0, ds0, p0, q0, hargs0, rfl, rfl, h0, r0⟩ := trodAll_cons hA
  obtain ⟨v1, vs1, d1, ds1, p1, q1, rfl, rfl, rfl, h1, r1⟩ := trodAll_cons r0
  obtain ⟨rfl, rfl, rfl⟩ := trodAll_nil r1
  obtain rfl : args = #[v0, v1] := by cases args; simp_all
  obtain ⟨rfl, rfl⟩ := trodVars_none hV
  obtain ⟨a0, rfl, rfl, rfl, w0⟩ := open_int Tryz.underlying3 (hval 0 3 v0 rfl rfl) h0
  obtain ⟨a1, len1, cap1, rfl⟩ := okWide_slice Tryz.underlying22 (hval 1 22 v1 rfl rfl)
  obtain ⟨l1, hr1, hb1⟩ := open_ops enc W a1 len1 cap1 d1 p1 h1
  have hbulk := of_decide_eq_true hk
  simp only [List.append_nil, Rows.uptoBulkAll, Rows.uptoBulk] at hbulk
  have z1 : tw l1 ≤ 1048576 := by omega
  have y1 : l1.length ≤ 1048576 := by have := len_tw l1; omega
  clear hA0 hk
  simp only [List.append_nil] at hW'
  have hlt1 : ∀ x ∈ p1, x.block < W.heap.size := fun x hx => by simpa using hW'.lt x (by simp [hx])
  have hargs1k : ∀ (W' : World), Below W.heap.size W W' → DataW.Trod enc Tryz.prog W' 0 (fun b => decide (b < W.heap.size)) true 22 (.slice a1 len1 cap1) d1 p1 :=
    fun W' hn => Below.trod laidOut (by kernel_rfl) (of_decide_eq_true (by kernel_rfl)) h1 hn hlt1
  refine (Go.Proofs.YtlkkibiedlakfaaGreat.ue.lists_walk a0 w0 (.slice a1 len1 cap1) l1 (hr1 (by omega)) z1 y1).mono fun e W' ⟨he, hb⟩ => ?_
  subst he
  have hA2 : DataW.TrodAll enc Tryz.prog W' 0 (fun b => decide (b < W.heap.size)) true [3, 22] [.int .i64 a0, .slice a1 len1 cap1] [.lit (.int .i64 a0), d1] (p1) := by simpa using (trodAll_cons_mk (shut_int Tryz.underlying3 w0) (trodAll_cons_mk (hargs1k _ hb) trodAll_mk0))
  exact ⟨_, rfl, _, _, _, [], p1, [], hW', trodAll_cons_mk (shut_bool Tryz.underlying4 _) trodAll_mk0, hA2, rfl, hb.frame _, fun h => by cases h⟩

set_option maxRecDepth 100000 in
theorem lifted (os : Os) (started : os.Started) (H : Type) (enc : TypeId × Value → H) (F : Stop.Interp) :
    ReturnsInHanded {} Tryz.checked os 3 .any ((Rows.OpenSpec.upto Rows.storeListsSpec).pre6 enc Tryz.prog Tryz.f3 Rows.storeListsUptoRow.domain false) (((Rows.OpenSpec.upto Rows.storeListsSpec).at F).post enc Tryz.prog Tryz.f3 false true false false) := by
  refine returnsInHanded_of_cond (C := Tryz.checked) (s := Rows.OpenSpec.upto Rows.storeListsSpec) (k := Rows.uptoSmall) rfl own started (by kernel_rfl) Tryz.func3
    (OpenSpec.witness (enc := enc) (C := Tryz.checked) (s := Rows.OpenSpec.upto Rows.storeListsSpec) (k := Rows.uptoSmall) rfl false ⟨#[], #[.int .i64 0, .slice none 0 0], []⟩ 8 (by kernel_rfl) (by kernel_rfl) (by kernel_rfl)
      (x := ([.lit (.int .i64 0), .nil], [], [])) (by kernel_rfl) rfl (by kernel_rfl)) ?_
  intro W base args ds gs before hval hW _ hk _
  exact contract H enc W base args ds gs before hval hW hk

theorem over : Rows.storeListsUptoRow.holds Tryz.pinned (Rows.OpenSpec.upto Rows.storeListsSpec) :=
  OpenClaim.holds_of_cond 3 Tryz.f3 rfl rfl rfl rfl rfl rfl rfl ⟨rfl, rfl, rfl, rfl, rfl⟩ rfl rfl rfl rfl rfl (by kernel_rfl) Tryz.func3 (by kernel_rfl)
    (of_decide_eq_true (by kernel_rfl)) (by unfold Func.isWrapper; first | (rw [if_pos (by decide +kernel)]; kernel_rfl) | (rw [if_neg (by decide +kernel)]; exact ⟨rfl, rfl⟩))
    (fun os started H enc _ F => lifted os started H enc F)
end Go.Proofs.YtlkkibiedlakfaaGreat.storeLists
namespace Go.Proofs.YtlkkibiedlakfaaGreat
theorem storeLists_holds : Rows.StoreListsUptoSaid := storeLists.over
#print axioms storeLists_holds
end Go.Proofs.YtlkkibiedlakfaaGreat
