import Derived.Test.YtjkkijeamcihiaaJo
import Derived.Deep.Slices
import Derived.Deep.Strs
import Derived.Test.YtjkkijeamcihiaaRows
import Derived.WalkKit
import Derived.ProofKit
import Derived.OpenShut
import Derived.SizedLaws
import Derived.ChangeSlices
import Derived.SliceStrings
import Derived.Deep.MidRow
import Derived.Lib.SmallJoins
import Derived.RowKit3
import Derived.Carry
namespace Go.Proofs.Ytjkkijeamcihiaa.cacheOther
open Go.ChangeShapes Go.WideShapes Go.ChangeAt Go.RowKit Go.Joins Go.WideElems
open Go.ChangeMaps (open_string shut_string)
open Go.Deep Go.WideMaps Go.Proofs.Ytjkkijeamcihiaa.lc
set_option linter.unusedVariables false

theorem own : ownKnob Try.prog.godebug = none := by kernel_rfl
theorem laidOut : laidOutB Try.prog = true := by kernel_rfl
theorem cellsP : Try.prog.cellsOf 35 = 3 := by kernel_rfl
theorem bytesP : Try.prog.bytesOf 35 = 32 := by kernel_rfl
theorem cells3 : Try.prog.cellsOf 3 = 1 := by kernel_rfl
theorem cells9 : Try.prog.cellsOf 9 = 1 := by kernel_rfl
theorem open_opsD {H : Type} (enc : TypeId × Value → H) (W : World) (a0 : Option Addr) (len cap : Nat) (d0 : DataW H) (p : List MemPlace) (h0 : DataW.Trod enc Try.prog W 0 (fun _ => true) true 32 (.slice a0 len cap) d0 p) :
    ∃ l, ReadsC W (.slice a0 len cap) l ∧ ((Value.slice a0 len cap).ownBlock = none → Value.slice a0 len cap = .slice none 0 0) ∧ ((∀ k ∈ DataW.weights Try.prog 32 d0, k ≤ 140737488351232) → l.length * 32 ≤ 140737488351232) ∧ (∀ o ∈ l, (Lit.int .i64 o.k).wf = true) := by
  obtain ⟨fuel, hf⟩ := h0
  rcases open_slice Try.underlying32 hf with ⟨hcs, hx⟩ | ⟨a, len', cap', m, n, D, Pl, hcs, _, hl, hm, hmm, hx, hel⟩
  · simp [Value.cells] at hcs
    obtain ⟨rfl, rfl, rfl⟩ := hcs
    exact ⟨[], ⟨none, 0, rfl, .inl rfl⟩, fun _ => rfl, fun _ => by simp, fun o ho => by cases ho⟩
  · simp [Value.cells] at hcs
    obtain ⟨rfl, rfl, rfl⟩ := hcs
    simp only [Prod.mk.injEq] at hx
    obtain ⟨rfl, hp⟩ := hx
    simp only [if_true] at hmm
    subst hmm
    have el : ∀ i, i < len → ∃ y : Int × Int × ByteArray, W.cell? (a.add (i * 3)) = some (.int .i64 y.1) ∧ W.cell? ((a.add (i * 3)).add 1) = some (.int .i64 y.2.1) ∧ W.cell? ((a.add (i * 3)).add 2) = some (.string y.2.2) ∧ (Lit.int .i64 y.2.1).wf = true := by
      intro i hi
      obtain ⟨cs', h1, h2⟩ := hel i (by omega)
      rw [cellsP] at h1
      obtain ⟨_, hlen, hc⟩ := World.cells?_some h1
      obtain ⟨y0, y1, y2, n', hx', _, k0, k1, k2⟩ := trod_struct3 Try.underlying35 h2
      simp only [cells3, cells9] at k0 k1 k2
      obtain ⟨kk, e0, rfl, _⟩ := DataW.trod_int Try.underlying3 k0
      obtain ⟨oo, e1, rfl, wo⟩ := DataW.trod_int Try.underlying3 k1
      obtain ⟨t2, e2, rfl, _⟩ := DataW.trod_string Try.underlying9 k2
      have g0 : cs'[0]? = some (.int .i64 kk) := by
        have := congrArg (·[0]?) e0
        simpa using this
      have g1 : cs'[1]? = some (.int .i64 oo) := by
        have := congrArg (·[0]?) e1
        simpa using this
      have g2 : cs'[2]? = some (.string t2) := by
        have := congrArg (·[0]?) e2
        simpa using this
      have q0 := hc 0 (by omega)
      have q1 := hc 1 (by omega)
      have q2 := hc 2 (by omega)
      have ez : (a.add (i * 3)).add 0 = a.add (i * 3) := by simp [Addr.add]
      rw [ez] at q0
      exact ⟨(kk, oo, t2), q0.trans g0, q1.trans g1, q2.trans g2, wo⟩
    obtain ⟨Y, hY⟩ := choose_lt el
    refine ⟨(List.range len).map fun i => ⟨(Y i).1, (Y i).2.1, (Y i).2.2⟩, ⟨some a, m, by simp, ?_⟩, fun e => (by cases e), fun hw => ?_, fun o ho => ?_⟩
    · by_cases hl0 : len = 0
      · exact .inl (by simp [hl0])
      · right
        obtain ⟨b, off, spot⟩ := a
        have hspot : spot = none := by simpa [Addr.add] using World.cell?_spot (hY 0 (by omega)).1
        subst hspot
        refine ⟨b, off, rfl, fun i o ho => ?_⟩
        have hi : i < len := by
          rcases Nat.lt_or_ge i len with h' | h'
          · exact h'
          · rw [List.getElem?_eq_none (by simpa using h')] at ho; cases ho
        rw [List.getElem?_map, List.getElem?_range hi] at ho
        simp only [Option.map_some, Option.some.injEq] at ho
        subst ho
        obtain ⟨c0, c1, c2, _⟩ := hY i hi
        simp only [Addr.add_mid] at c0 c1 c2
        exact ⟨c0, c1, c2⟩
    · simp only [DataW.weights, Try.underlying32, bytesP] at hw
      have h2 := hw _ List.mem_cons_self
      simp only [List.length_map, List.length_range] at h2 ⊢
      omega
    · obtain ⟨i, hi, rfl⟩ := List.mem_map.1 ho
      exact (hY i (by simpa using hi)).2.2.2
set_option maxRecDepth 100000 in
theorem lifted (os : Os) (started : os.Started) (H : Type) (enc : TypeId × Value → H) :
    ReturnsInHanded {} Try.checked os 8 .any (Rows.cacheOtherSpec.pre6 enc Try.prog Try.f8 Rows.cacheOtherRow.domain false) (Rows.cacheOtherSpec.post enc Try.prog Try.f8 false true false false) := by
  refine returnsInHanded_of_change_sized (C := Try.checked) own started (by kernel_rfl) Try.func8
    (ChangeSpec.witness6 (enc := enc) (C := Try.checked) false ⟨#[], #[.int .i64 0, .slice none 0 0], []⟩ 8 (by kernel_rfl) (by kernel_rfl) (by kernel_rfl) (by kernel_rfl)) ?_
  intro W base args ds gs before hval0 hW hcnd hsz0 _
  have hval : ∀ (j : Nat) t v, Try.f8.params[j]? = some t → args[j]? = some v → Value.okWide Try.prog W .any base t v := hval0
  have hW' := hW
  obtain ⟨p, q, hA0, hV, rfl, hfz, hnd⟩ := hW
  have hA : DataW.TrodAll enc Try.prog W 0 (fun _ => true) true Try.f8.params.toList args.toList ds p := hA0
  have hsz : (DataW.weightsEach Try.prog (Try.f8.params.toList ++ Rows.cacheOtherSpec.plain.varTypes Try.prog) (ds ++ gs)).all (· ≤ reachBytes) = true := hsz0
  rw [Try.params8] at hA hval hsz
  obtain ⟨v0, vs0, d0, ds0, p0, q0, hargs0, rfl, rfl, h0, r0⟩ := trodAll_cons hA
  obtain ⟨v1, vs1, d1, ds1, p1, q1, rfl, rfl, rfl, h1, r1⟩ := trodAll_cons r0
  obtain ⟨rfl, rfl, rfl⟩ := trodAll_nil r1
  obtain rfl : args = #[v0, v1] := by cases args; simp_all
  obtain ⟨rfl, rfl⟩ := trodVars_none hV
  obtain ⟨a0, rfl, rfl, rfl, w0⟩ := open_int Try.underlying3 (hval 0 3 v0 rfl rfl) h0
  obtain ⟨a1, len1, cap1, rfl⟩ := okWide_slice Try.underlying32 (hval 1 32 v1 rfl rfl)
  obtain ⟨l1, hr1, hno1, hd1, hk1⟩ := open_opsD enc W a1 len1 cap1 d1 p1 h1
  have hz1 : l1.length * 32 ≤ 140737488351232 := hd1 (fun k hk => by
    have h2 := List.all_eq_true.1 hsz _ (DataW.weights_mem_each (j := 1) (t := 32) rfl rfl k hk)
    have h3 : k ≤ reachBytes := by simpa using h2
    unfold reachBytes at h3
    omega)
  clear hA0 hval0 hsz0 hsz
  simp only [List.append_nil] at hW'
  have hlt1 : ∀ x ∈ p1, x.block < W.heap.size := fun x hx => by simpa using hW'.lt x (by simp [hx])
  have hargs1k : ∀ (W' : World), Below W.heap.size W W' → DataW.Trod enc Try.prog W' 0 (fun b => decide (b < W.heap.size)) true 32 (.slice a1 len1 cap1) d1 p1 :=
    fun W' hn => Below.trod laidOut (by kernel_rfl) (of_decide_eq_true (by kernel_rfl)) h1 hn hlt1
  refine (Go.Proofs.Ytjkkijeamcihiaa.jo.other_walk a0 w0 (.slice a1 len1 cap1) l1 _ hr1 hk1 hno1 hz1).mono fun e W' ⟨he, hb⟩ => ?_
  subst he
  have hA2 : DataW.TrodAll enc Try.prog W' 0 (fun b => decide (b < W.heap.size)) true [3, 32] [.int .i64 a0, .slice a1 len1 cap1] [.lit (.int .i64 a0), d1] (p1) := by simpa using (trodAll_cons_mk (shut_int Try.underlying3 w0) (trodAll_cons_mk (hargs1k _ hb) trodAll_mk0))
  exact ⟨_, rfl, _, _, _, [], p1, [], hW', trodAll_cons_mk (shut_bool Try.underlying4 _) trodAll_mk0, hA2, rfl, hb.frame _, fun h => by cases h⟩

theorem over : Rows.cacheOtherRow.holds Try.pinned (OpenSpec.ofChange Rows.cacheOtherSpec) :=
  OpenClaim.holds_of_wide 8 Try.f8 rfl rfl rfl rfl rfl rfl rfl ⟨rfl, rfl, rfl, rfl, rfl⟩ rfl rfl rfl rfl rfl (by kernel_rfl) Try.func8 (by kernel_rfl)
    (of_decide_eq_true (by kernel_rfl)) (by unfold Func.isWrapper; first | (rw [if_pos (by decide +kernel)]; kernel_rfl) | (rw [if_neg (by decide +kernel)]; exact ⟨rfl, rfl⟩))
    (fun os started H enc _ => lifted os started H enc)
end Go.Proofs.Ytjkkijeamcihiaa.cacheOther
namespace Go.Proofs.Ytjkkijeamcihiaa
theorem cacheOther_holds : Rows.CacheOtherSaid := cacheOther.over
#print axioms cacheOther_holds
end Go.Proofs.Ytjkkijeamcihiaa
