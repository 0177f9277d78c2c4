import Derived.Test.YtjkkijeamcihiaaIb
import Derived.Test.YtjkkijeamcihiaaSa
import Derived.Maps.OwnSet
import Derived.Maps.Ext
import Derived.StringKeys
namespace Go.Proofs.Ytjkkijeamcihiaa.ic
open Go.RowKit Go.PlainAid Go.Maps
open Go.Proofs.Ytjkkijeamcihiaa.kp Go.Proofs.Ytjkkijeamcihiaa.ra Go.Proofs.Ytjkkijeamcihiaa.ib Go.Proofs.Ytjkkijeamcihiaa.sa
set_option linter.unusedVariables false
set_option linter.unusedSimpArgs false
set_option linter.unusedSectionVars false

-- where the keys' links stand
def ptE (v : Value) : Option (DataW Unit × List MemPlace) :=
  match v with
  | .pointer none => some (.nil, [])
  | .pointer (some ⟨b, 0, none⟩) => some (.lit (.int .i64 (b : Int)), [])
  | _ => none
theorem ptE_nil {v : Value} {ps : List MemPlace} (h : ptE v = some (.nil, ps)) : v = .pointer none := by
  unfold ptE at h
  split at h
  · rfl
  · cases h
  · cases h
theorem ptE_at {v : Value} {ps : List MemPlace} {b : Nat} (h : ptE v = some (.lit (.int .i64 (b : Int)), ps)) : v = pt (lk b) := by
  unfold ptE at h
  split at h
  · cases h
  · rename_i c
    simp only [Option.some.injEq, Prod.mk.injEq, DataW.lit.injEq, Lit.int.injEq, true_and] at h
    have : c = b := by omega
    rw [this]; rfl
  · cases h
abbrev K := Int
abbrev okK (k : K) : Prop := (Lit.int .i64 k).wf = true
abbrev kl (k : K) : Lit := .int .i64 k
abbrev kv (k : K) : Value := .int .i64 k
theorem law : Keyed Try.prog 3 := int_keyed Try.underlying3
theorem key_is {k : K} (h : okK k) : keyOf Try.prog 3 (kv k) = some (kl k) := keyOf_int_mk Try.underlying3 h
theorem kl_inj {a b : K} (h : kl a = kl b) : a = b := by
  injection h with _ h
theorem isKey {k : K} (h : okK k) : WideAt.IsKeyLit (kl k) := law.key (key_is h)
theorem zeroP (w : World) : (zeroValue 94).run Try.prog w = .ok (.pointer none) w := by kernel_rfl
variable {ν : Type}
abbrev E (ν : Type) := Nat × K × ν
def where1 (k : K) (es : List (E ν)) : Option Nat := (es.find? fun x => decide (x.2.1 = k)).map (·.1)
def Mq (mb : Nat) (es : List (E ν)) (w : World) : Prop :=
  ∃ D, w.ownsMap Try.prog 3 ptE mb es.length D ∧ Maps.size D = es.length ∧ ∀ k, okK k → Maps.has D (kl k) = (where1 k es).isSome ∧ ∀ z, D.atKey (kl k) z = match where1 k es with | some b => .lit (.int .i64 (b : Int)) | none => z
theorem Mq.lt {mb : Nat} {es : List (E ν)} {w : World} (h : Mq mb es w) : mb < w.heap.size := by obtain ⟨D, h, _⟩ := h; exact h.lt
theorem Mq.keep {mb : Nat} {es : List (E ν)} {w w' : World} (h : Mq mb es w) (k : w'.heap[mb]? = w.heap[mb]?) : Mq mb es w' := by
  obtain ⟨D, ⟨xs, clock, hb, F, hs, hD⟩, h2⟩ := h
  exact ⟨D, ⟨xs, clock, k.trans hb, F, hs, hD⟩, h2⟩
theorem Mq.ne {mb g : Nat} {es : List (E ν)} {w : World} {o : Nat} {v : Value} (h : Mq mb es w) (hg : w.cell? ⟨g, o, none⟩ = some v) : mb ≠ g := by
  rintro rfl
  obtain ⟨D, ⟨xs, clock, hb, _⟩, _⟩ := h
  unfold World.cell? at hg
  rw [show (⟨mb, o, none⟩ : Addr).block = mb from rfl, hb] at hg
  cases hg
theorem kp_turn {w w' : World} {b : Nat} (h : w.mapTurned w' b) : Kp (fun k => k = b) w w' := by
  have g := h.grown
  exact ⟨g.os, g.tape, g.output, g.size, fun k hk hn => g.block k hk (fun e => hn (Option.some.inj e))⟩
theorem where_map (k : K) (es : List (E ν)) : (where1 k es).isSome = (fnd k (es.map (·.2))).isSome := by
  unfold where1 fnd
  rw [Option.isSome_map, Option.isSome_map, List.find?_map, Option.isSome_map]
  rfl
theorem Mq.of_perm {mb : Nat} {es fs : List (E ν)} {w : World} (h : Mq mb es w) (hl : fs.length = es.length) (hw : ∀ k, where1 k fs = where1 k es) : Mq mb fs w := by
  obtain ⟨D, h1, h2, h3⟩ := h
  refine ⟨D, by rw [hl]; exact h1, by rw [hl]; exact h2, fun k hk => ?_⟩
  rw [hw]
  exact h3 k hk
def rmE (k : K) (es : List (E ν)) : List (E ν) := es.filter fun x => !decide (x.2.1 = k)
theorem rmE_map (k : K) (es : List (E ν)) : (rmE k es).map (·.2) = rm k (es.map (·.2)) := by
  unfold rmE rm
  rw [List.filter_map]
  rfl
theorem mem_rmE {k : K} {x : E ν} {es : List (E ν)} : x ∈ rmE k es ↔ x ∈ es ∧ x.2.1 ≠ k := by simp [rmE]
theorem where_rm_same (k : K) (es : List (E ν)) : where1 k (rmE k es) = none := by
  simp only [where1, Option.map_eq_none_iff, List.find?_eq_none]
  intro x hx
  simpa using (mem_rmE.1 hx).2
theorem where_rm_other {k k' : K} (es : List (E ν)) (h : k' ≠ k) : where1 k' (rmE k es) = where1 k' es := by
  unfold where1 rmE
  congr 1
  rw [Maps.find_filter_keep]
  intro p hp
  simp only [decide_eq_true_eq] at hp
  simp [hp, h]
theorem where_cons_same (b : Nat) (k : K) (v : ν) (es : List (E ν)) : where1 k ((b, k, v) :: es) = some b := by simp [where1]
theorem where_cons_other {b : Nat} {k k' : K} {v : ν} {es : List (E ν)} (h : k' ≠ k) : where1 k' ((b, k, v) :: es) = where1 k' es := by simp [where1, Ne.symm h]
theorem where_none {k : K} {es : List (E ν)} : where1 k es = none ↔ ∀ x ∈ es, x.2.1 ≠ k := by simp [where1]
theorem where_some {k : K} {b : Nat} {es : List (E ν)} (h : where1 k es = some b) : ∃ i, ∃ hi : i < es.length, (es[i]).1 = b ∧ (es[i]).2.1 = k := by
  unfold where1 at h
  cases h1 : es.find? fun x => decide (x.2.1 = k) with
  | none => rw [h1] at h; cases h
  | some x =>
    rw [h1] at h
    have h2 := List.find?_some h1
    obtain ⟨i, hi, e⟩ := List.getElem_of_mem (List.mem_of_find?_eq_some h1)
    exact ⟨i, hi, by rw [e]; exact Option.some.inj h, by rw [e]; simpa using h2⟩
-- a key is taken out of the map, and put into it
theorem Mq.del {mb : Nat} {es : List (E ν)} {k : K} {b : Nat} {w w' : World} {D : DataW Unit} (hk : okK k) (h1 : w.ownsMap Try.prog 3 ptE mb es.length D) (h2 : Maps.size D = es.length) (h3 : ∀ k, okK k → Maps.has D (kl k) = (where1 k es).isSome ∧ ∀ z, D.atKey (kl k) z = match where1 k es with | some b => .lit (.int .i64 (b : Int)) | none => z)
    (hb : where1 k es = some b) (hl : (rmE k es).length + 1 = es.length) (h4 : w'.ownsMap Try.prog 3 ptE mb es.length (D.del (kl k))) : Mq mb (rmE k es) w' := by
  have hs : Maps.size (D.del (kl k)) = (rmE k es).length := by
    have := Maps.size_del (k := kl k) (h1.tidy law)
    rw [(h3 k hk).1, hb] at this
    simp at this
    omega
  refine ⟨_, ?_, hs, fun k' hk' => ?_⟩
  · obtain ⟨xs, clock, hb, F, hs2, hD⟩ := h4
    refine ⟨xs, clock, hb, F, ?_, hD⟩
    rw [← hs, hD]
    simp [Maps.size, length_sorted]
  · by_cases e : k' = k
    · subst e
      rw [where_rm_same]
      exact ⟨Maps.has_del_same, fun z => Maps.atKey_del_same z⟩
    · have ne : kl k' ≠ kl k := fun q => e (kl_inj q)
      rw [where_rm_other _ e, Maps.has_del_other ne]
      exact ⟨(h3 k' hk').1, fun z => by rw [Maps.atKey_del_other ne]; exact (h3 k' hk').2 z⟩
theorem Mq.add {mb b : Nat} {es : List (E ν)} {k : K} {v : ν} {w w' : World} {D : DataW Unit} (hk : okK k) (h1 : w.ownsMap Try.prog 3 ptE mb es.length D) (h2 : Maps.size D = es.length) (h3 : ∀ k, okK k → Maps.has D (kl k) = (where1 k es).isSome ∧ ∀ z, D.atKey (kl k) z = match where1 k es with | some b => .lit (.int .i64 (b : Int)) | none => z)
    (hb : where1 k es = none) (h4 : w'.ownsMap Try.prog 3 ptE mb (es.length + 1) (D.put (kl k) (.lit (.int .i64 (b : Int))))) : Mq mb ((b, k, v) :: es) w' := by
  have hs : Maps.size (D.put (kl k) (.lit (.int .i64 (b : Int)))) = es.length + 1 := by
    rw [Maps.size_put (h1.tidy law), (h3 k hk).1, hb, h2]
    rfl
  refine ⟨_, h4, hs, fun k' hk' => ?_⟩
  by_cases e : k' = k
  · subst e
    rw [where_cons_same]
    exact ⟨Maps.has_put_same h1.isMap (isKey hk) _, fun z => Maps.atKey_put_same h1.isMap (isKey hk) _ z⟩
  · have ne : kl k' ≠ kl k := fun q => e (kl_inj q)
    rw [where_cons_other e, Maps.has_put_other ne]
    exact ⟨(h3 k' hk').1, fun z => by rw [Maps.atKey_put_other ne]; exact (h3 k' hk').2 z⟩
theorem mq_empty {mb clock : Nat} {w : World} (h : w.heap[mb]? = some (.map #[] clock)) : Mq mb ([] : List (E ν)) w :=
  ⟨.map [], ⟨#[], clock, h, ⟨by simp, MapKept.stamped_empty clock, by simp⟩, Nat.le_refl _, rfl⟩, rfl, fun k _ => ⟨rfl, fun z => rfl⟩⟩
section
variable (w : World) {ops : Array Oper} {rest : List Oper} {o : Oper} {a : Act} {Q : Exit → Act → World → Prop}
def ptr1 (b : Option Nat) : Value := match b with | some b => pt (lk b) | none => .pointer none
theorem wpList_look (hg : o.guard = none) (m x : Operand) (hop : o.op = Op.lookup 93 m x true) (b : Nat) (es : List (E ν)) (hm : a.eval m = .map (some b)) (hown : Mq b es w) (k : K) (hx : a.eval x = kv k) (hk : okK k)
    (hK : wpList Try.prog ops Q rest (a.put o.dst (.tuple #[ptr1 (where1 k es), .bool (where1 k es).isSome])) w) : wpList Try.prog ops Q (o :: rest) a w := by
  obtain ⟨D, h1, h2, h3⟩ := hown
  refine wpList_lookup_own_ok w hg m x 93 hop 3 94 law Try.underlying93 ptE (zeroP _) .nil [] rfl b es.length D hm h1 (kv k) (kl k) hx (key_is hk) (fun v ps hv => ?_)
  obtain ⟨g1, g2⟩ := h3 k hk
  rw [g1]
  rw [g2] at hv
  cases hw : where1 k es with
  | none => rw [hw] at hv hK; rw [ptE_nil hv]; exact hK
  | some c => rw [hw] at hv hK; rw [ptE_at hv]; exact hK
theorem wpList_set (hg : o.guard = none) (m x v : Operand) (hop : o.op = Op.mapUpdate 93 m x v) (b : Nat) (es : List (E ν)) (hm : a.eval m = .map (some b)) (hown : Mq b es w) (hn : es.length < maxLen) (k : K) (c : Nat) (y : ν) (hx : a.eval x = kv k) (hv : a.eval v = pt (lk c)) (hk : okK k) (hno : where1 k es = none)
    (hK : ∀ w', Mq b ((c, k, y) :: es) w' → w.mapTurned w' b → wpList Try.prog ops Q rest (a.put o.dst undef) w') : wpList Try.prog ops Q (o :: rest) a w := by
  obtain ⟨D, h1, h2, h3⟩ := hown
  exact wpList_mapUpdate_in w hg m x v 93 hop 3 94 law Try.underlying93 ptE b es.length D hm h1 hn (kv k) (pt (lk c)) (kl k) hx hv (key_is hk) (.lit (.int .i64 (c : Int))) [] rfl (fun w' g1 g2 => hK w' (Mq.add hk h1 h2 h3 hno g1) g2)
theorem wpList_len (hg : o.guard = none) (m : Operand) (hop : o.op = Op.call { callee := Callee.builtin Builtin.len, args := #[m], argTypes := #[93] }) (b : Nat) (es : List (E ν)) (hm : a.eval m = .map (some b)) (hown : Mq b es w)
    (hK : wpList Try.prog ops Q rest (a.put o.dst (.int .i64 (es.length : Nat))) w) : wpList Try.prog ops Q (o :: rest) a w := by
  obtain ⟨D, h1, h2, h3⟩ := hown
  refine wpList_len_own w hg m 93 hop 3 94 Try.underlying93 ptE b es.length D hm h1 ?_
  rw [h2]
  exact hK
theorem run_clear {b : Nat} {es : List (E ν)} (h : Mq b es w) (ty : TypeId) : ∃ w', (Builtin.clear_ #[93] ty #[.map (some b)]).run Try.prog w = .ok (.tuple #[]) w' ∧ Mq b ([] : List (E ν)) w' ∧ w.mapTurned w' b := by
  obtain ⟨D, ⟨xs, clock, hb, F, hs, hD⟩, _⟩ := h
  refine ⟨ChangeMaps.setBlock w b (.map #[] clock), ?_, mq_empty (ChangeMaps.heap_setBlock_same hb _), ⟨xs, clock, #[], clock, hb, rfl⟩⟩
  simp [Builtin.clear_, run_underlying Try.underlying93, MapKept.run_getObj_map hb, MapKept.run_setObj_map _ hb, Result.andThen]
  rfl
theorem run_len {b : Nat} {es : List (E ν)} (h : Mq b es w) (ty : TypeId) : (Builtin.len_ #[93] ty #[.map (some b)]).run Try.prog w = .ok (.int .i64 (es.length : Nat)) w := by
  obtain ⟨D, h1, h2, h3⟩ := h
  rw [h1.len Try.underlying93 ty, h2]
theorem run_delete {b c : Nat} {es : List (E ν)} (h : Mq b es w) {k : K} (hk : okK k) (hw : where1 k es = some c) (hl : (rmE k es).length + 1 = es.length) (ty : TypeId) : ∃ w', (Builtin.delete_ #[93, 3] ty #[.map (some b), kv k]).run Try.prog w = .ok (.tuple #[]) w' ∧ Mq b (rmE k es) w' ∧ w.mapTurned w' b := by
  obtain ⟨D, h1, h2, h3⟩ := h
  obtain ⟨w', g1, g2, g3⟩ := h1.drop law Try.underlying93 (key_is hk) ty
  exact ⟨w', g1, Mq.del hk h1 h2 h3 hw hl g2, g3⟩
end
end Go.Proofs.Ytjkkijeamcihiaa.ic
