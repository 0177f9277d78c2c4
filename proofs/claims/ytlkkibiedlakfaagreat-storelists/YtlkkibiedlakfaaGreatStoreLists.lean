import Derived.Test.YtlkkibiedlakfaaGreatE4
import Derived.Deep.Slices
import Derived.Deep.Strs
import Derived.Test.YtlkkibiedlakfaaGreatRows
import Derived.WalkKit
import Derived.ProofKit
import Derived.OpenShut
import Derived.SizedLaws
import Derived.ChangeSlices
import Derived.SliceStrings
import Derived.Deep.MidRow
import Derived.Lib.SmallJoins
import Derived.RowKit3
import Derived.Carry
namespace Go.Proofs.YtlkkibiedlakfaaGreat.storeLists
open Go.ChangeShapes Go.WideShapes Go.ChangeAt Go.RowKit Go.Joins Go.WideElems
open Go.ChangeMaps (open_string shut_string)
open Go.Deep Go.WideMaps Go.Proofs.YtlkkibiedlakfaaGreat.yt Go.Proofs.YtlkkibiedlakfaaGreat.yu
set_option linter.unusedVariables false

theorem own : ownKnob Tryz.prog.godebug = none := by kernel_rfl
theorem laidOut : laidOutB Tryz.prog = true := by kernel_rfl
theorem cellsP : Tryz.prog.cellsOf 34 = 4 := by kernel_rfl
theorem bytesP : Tryz.prog.bytesOf 34 = 48 := by kernel_rfl
theorem cells3 : Tryz.prog.cellsOf 3 = 1 := by kernel_rfl
theorem cells9 : Tryz.prog.cellsOf 9 = 1 := by kernel_rfl
theorem all_mem {H : Type} (l : List (DataW H)) (d : DataW H) (x : Nat) (h : d ∈ l) (hx : x ∈ DataW.weights Tryz.prog 34 d) : x ∈ DataW.weightsAll Tryz.prog 34 l := by
  induction l with
  | nil => cases h
  | cons y l ih =>
    show _ ∈ DataW.weights Tryz.prog 34 y ++ DataW.weightsAll Tryz.prog 34 l
    rcases List.mem_cons.1 h with rfl | h
    · exact List.mem_append_left _ hx
    · exact List.mem_append_right _ (ih h)
theorem open_opsW {H : Type} (enc : TypeId × Value → H) (W : World) (a0 : Option Addr) (len cap : Nat) (d0 : DataW H) (p : List MemPlace) (h0 : DataW.Trod enc Tryz.prog W 0 (fun _ => true) true 22 (.slice a0 len cap) d0 p) :
    ∃ l, ((∀ k ∈ DataW.weights Tryz.prog 22 d0, k ≤ 140737488351232) → ReadsO W.heap.size W (.slice a0 len cap) l ∧ l.length * 48 ≤ 140737488351232) := by
  obtain ⟨fuel, hf⟩ := h0
  rcases open_slice Tryz.underlying22 hf with ⟨hcs, hx⟩ | ⟨a, len', cap', m, n, D, Pl, hcs, _, hl, hm, hmm, hx, hel⟩
  · simp [Value.cells] at hcs
    obtain ⟨rfl, rfl, rfl⟩ := hcs
    exact ⟨[], fun _ => ⟨⟨⟨none, 0, rfl, .inl rfl⟩, fun o ho => by cases ho⟩, by simp⟩⟩
  · simp [Value.cells] at hcs
    obtain ⟨rfl, rfl, rfl⟩ := hcs
    simp only [Prod.mk.injEq] at hx
    obtain ⟨rfl, hp⟩ := hx
    simp only [if_true] at hmm
    subst hmm
    have el : ∀ i, i < len → ∃ y : Int × ByteArray × ByteArray × Int, (W.cell? (a.add (i * 4)) = some (.int .i64 y.1) ∧ W.cell? ((a.add (i * 4)).add 1) = some (.string y.2.1) ∧ W.cell? ((a.add (i * 4)).add 2) = some (.string y.2.2.1) ∧ W.cell? ((a.add (i * 4)).add 3) = some (.int .i64 y.2.2.2)) ∧ (-9223372036854775808 ≤ y.2.2.2 ∧ y.2.2.2 ≤ 9223372036854775807) ∧ (y.2.1.size ∈ DataW.weights Tryz.prog 34 (D i) ∧ y.2.2.1.size ∈ DataW.weights Tryz.prog 34 (D i)) := by
      intro i hi
      obtain ⟨cs', h1, h2⟩ := hel i (by omega)
      rw [cellsP] at h1
      obtain ⟨_, hlen, hc⟩ := World.cells?_some h1
      obtain ⟨y0, y1, y2, y3, n', hx', _, k0, k1, k2, k3⟩ := trod_struct4 Tryz.underlying34 h2
      simp only [cells3, cells9] at k0 k1 k2 k3
      obtain ⟨kk, e0, rfl, _⟩ := DataW.trod_int Tryz.underlying3 k0
      obtain ⟨t1, e1, rfl, _⟩ := DataW.trod_string Tryz.underlying9 k1
      obtain ⟨t2, e2, rfl, _⟩ := DataW.trod_string Tryz.underlying9 k2
      obtain ⟨oo, e3, rfl, wo⟩ := DataW.trod_int Tryz.underlying3 k3
      have g0 : cs'[0]? = some (.int .i64 kk) := by
        have := congrArg (·[0]?) e0
        simpa using this
      have g1 : cs'[1]? = some (.string t1) := by
        have := congrArg (·[0]?) e1
        simpa using this
      have g2 : cs'[2]? = some (.string t2) := by
        have := congrArg (·[0]?) e2
        simpa using this
      have g3 : cs'[3]? = some (.int .i64 oo) := by
        have := congrArg (·[0]?) e3
        simpa using this
      have q0 := hc 0 (by omega)
      have q1 := hc 1 (by omega)
      have q2 := hc 2 (by omega)
      have q3 := hc 3 (by omega)
      have ez : (a.add (i * 4)).add 0 = a.add (i * 4) := by simp [Addr.add]
      rw [ez] at q0
      refine ⟨(kk, t1, t2, oo), ⟨q0.trans g0, q1.trans g1, q2.trans g2, q3.trans g3⟩, bounds_i64 wo, ?_⟩
      simp only [Prod.mk.injEq] at hx'
      rw [hx'.1]
      have eb1 : t1.data.toList.length = t1.size := Array.length_toList
      have eb2 : t2.data.toList.length = t2.size := Array.length_toList
      rw [← eb1, ← eb2]
      simp [DataW.weights, Tryz.underlying34, DataW.weightsEach]
    obtain ⟨Y, hY⟩ := choose_lt el
    refine ⟨(List.range len).map fun i => ⟨(Y i).1, (Y i).2.1, (Y i).2.2.1, (Y i).2.2.2⟩, fun hw => ⟨⟨⟨some a, m, by simp, ?_⟩, ?_⟩, ?_⟩⟩
    · by_cases hl0 : len = 0
      · exact .inl (by simp [hl0])
      · right
        obtain ⟨b, off, spot⟩ := a
        have hspot : spot = none := by simpa [Addr.add] using World.cell?_spot (hY 0 (by omega)).1.1
        subst hspot
        have hbl : b < W.heap.size := World.block_lt_of_cell? _ _ (hY 0 (by omega)).1.1
        refine ⟨b, off, rfl, hbl, fun i o ho => ?_⟩
        have hi : i < len := by
          rcases Nat.lt_or_ge i len with h' | h'
          · exact h'
          · rw [List.getElem?_eq_none (by simpa using h')] at ho; cases ho
        rw [List.getElem?_map, List.getElem?_range hi] at ho
        simp only [Option.map_some, Option.some.injEq] at ho
        subst ho
        obtain ⟨⟨c0, c1, c2, c3⟩, _⟩ := hY i hi
        simp only [Addr.add_mid] at c0 c1 c2 c3
        exact ⟨c0, c1, c2, c3⟩
    · intro o ho
      obtain ⟨i, hi, rfl⟩ := List.mem_map.1 ho
      have hi : i < len := by simpa using hi
      have inn : ∀ x, x ∈ DataW.weights Tryz.prog 34 (D i) → x ≤ 140737488351232 := fun x hx => hw x (by
        simp only [DataW.weights, Tryz.underlying22]
        exact List.mem_cons_of_mem _ (List.mem_append_left _ (all_mem _ _ x (List.mem_map.2 ⟨i, List.mem_range.2 hi, rfl⟩) hx)))
      have h1 := inn _ (hY i hi).2.2.1
      have h2 := inn _ (hY i hi).2.2.2
      exact ⟨by simp only; omega, by simp only; omega, (hY i hi).2.1.2⟩
    · simp only [DataW.weights, Tryz.underlying22, bytesP] at hw
      have h2 := hw _ List.mem_cons_self
      simp only [List.length_map, List.length_range] at h2 ⊢
      omega
set_option maxRecDepth 100000 in
theorem lifted (os : Os) (started : os.Started) (H : Type) (enc : TypeId × Value → H) :
    ReturnsInHanded {} Tryz.checked os 3 .any (Rows.storeListsSpec.pre6 enc Tryz.prog Tryz.f3 Rows.storeListsRow.domain false) (Rows.storeListsSpec.post enc Tryz.prog Tryz.f3 false true false false) := by
  refine returnsInHanded_of_change_sized (C := Tryz.checked) own started (by kernel_rfl) Tryz.func3
    (ChangeSpec.witness6 (enc := enc) (C := Tryz.checked) false ⟨#[], #[.int .i64 0, .slice none 0 0], []⟩ 8 (by kernel_rfl) (by kernel_rfl) (by kernel_rfl) (by kernel_rfl)) ?_
  intro W base args ds gs before hval0 hW hcnd hsz0 _
  have hval : ∀ (j : Nat) t v, Tryz.f3.params[j]? = some t → args[j]? = some v → Value.okWide Tryz.prog W .any base t v := hval0
  have hW' := hW
  obtain ⟨p, q, hA0, hV, rfl, hfz, hnd⟩ := hW
  have hA : DataW.TrodAll enc Tryz.prog W 0 (fun _ => true) true Tryz.f3.params.toList args.toList ds p := hA0
  have hsz : (DataW.weightsEach Tryz.prog (Tryz.f3.params.toList ++ Rows.storeListsSpec.plain.varTypes Tryz.prog) (ds ++ gs)).all (· ≤ reachBytes) = true := hsz0
  rw [Tryz.params3] at hA hval hsz
  obtain ⟨v0, vs0, d0, ds0, p0, q0, hargs0, rfl, rfl, h0, r0⟩ := trodAll_cons hA
  obtain ⟨v1, vs1, d1, ds1, p1, q1, rfl, rfl, rfl, h1, r1⟩ := trodAll_cons r0
  obtain ⟨rfl, rfl, rfl⟩ := trodAll_nil r1
  obtain rfl : args = #[v0, v1] := by cases args; simp_all
  obtain ⟨rfl, rfl⟩ := trodVars_none hV
  obtain ⟨a0, rfl, rfl, rfl, w0⟩ := open_int Tryz.underlying3 (hval 0 3 v0 rfl rfl) h0
  obtain ⟨a1, len1, cap1, rfl⟩ := okWide_slice Tryz.underlying22 (hval 1 22 v1 rfl rfl)
  obtain ⟨l1, hd1⟩ := open_opsW enc W a1 len1 cap1 d1 p1 h1
  obtain ⟨hr1, hz1⟩ := hd1 (fun k hk => by
    have h2 := List.all_eq_true.1 hsz _ (DataW.weights_mem_each (j := 1) (t := 22) rfl rfl k hk)
    have h3 : k ≤ reachBytes := by simpa using h2
    unfold reachBytes at h3
    omega)
  clear hA0 hval0 hsz0 hsz
  simp only [List.append_nil] at hW'
  have hlt1 : ∀ x ∈ p1, x.block < W.heap.size := fun x hx => by simpa using hW'.lt x (by simp [hx])
  have hargs1k : ∀ (W' : World), Below W.heap.size W W' → DataW.Trod enc Tryz.prog W' 0 (fun b => decide (b < W.heap.size)) true 22 (.slice a1 len1 cap1) d1 p1 :=
    fun W' hn => Below.trod laidOut (by kernel_rfl) (of_decide_eq_true (by kernel_rfl)) h1 hn hlt1
  refine (Go.Proofs.YtlkkibiedlakfaaGreat.ue.lists_walk a0 w0 (.slice a1 len1 cap1) l1 hr1 hz1).mono fun e W' ⟨he, hb⟩ => ?_
  subst he
  have hA2 : DataW.TrodAll enc Tryz.prog W' 0 (fun b => decide (b < W.heap.size)) true [3, 22] [.int .i64 a0, .slice a1 len1 cap1] [.lit (.int .i64 a0), d1] (p1) := by simpa using (trodAll_cons_mk (shut_int Tryz.underlying3 w0) (trodAll_cons_mk (hargs1k _ hb) trodAll_mk0))
  exact ⟨_, rfl, _, _, _, [], p1, [], hW', trodAll_cons_mk (shut_bool Tryz.underlying4 _) trodAll_mk0, hA2, rfl, hb.frame _, fun h => by cases h⟩

theorem over : Rows.storeListsRow.holds Tryz.pinned (OpenSpec.ofChange Rows.storeListsSpec) :=
  OpenClaim.holds_of_wide 3 Tryz.f3 rfl rfl rfl rfl rfl rfl rfl ⟨rfl, rfl, rfl, rfl, rfl⟩ rfl rfl rfl rfl rfl (by kernel_rfl) Tryz.func3 (by kernel_rfl)
    (of_decide_eq_true (by kernel_rfl)) (by unfold Func.isWrapper; first | (rw [if_pos (by decide +kernel)]; kernel_rfl) | (rw [if_neg (by decide +kernel)]; exact ⟨rfl, rfl⟩))
    (fun os started H enc _ => lifted os started H enc)
end Go.Proofs.YtlkkibiedlakfaaGreat.storeLists
namespace Go.Proofs.YtlkkibiedlakfaaGreat
theorem storeLists_holds : Rows.StoreListsSaid := storeLists.over
#print axioms storeLists_holds
end Go.Proofs.YtlkkibiedlakfaaGreat
