import Derived.Test.YtjkkijeamcihiaaLc
import Derived.Test.YtjkkijeamcihiaaLn
import Derived.Lib.MinMax
import Derived.Deep.LoopGhost
namespace Go.Proofs.Ytjkkijeamcihiaa.ld
open Go.RowKit Go.PlainAid Go.Maps
open Go.Proofs.Ytjkkijeamcihiaa.cp Go.Proofs.Ytjkkijeamcihiaa.kp Go.Proofs.Ytjkkijeamcihiaa.ka Go.Proofs.Ytjkkijeamcihiaa.bn Go.Proofs.Ytjkkijeamcihiaa.ra Go.Proofs.Ytjkkijeamcihiaa.rb Go.Proofs.Ytjkkijeamcihiaa.rc Go.Proofs.Ytjkkijeamcihiaa.rd Go.Proofs.Ytjkkijeamcihiaa.re Go.Proofs.Ytjkkijeamcihiaa.rf Go.Proofs.Ytjkkijeamcihiaa.rg Go.Proofs.Ytjkkijeamcihiaa.rh Go.Proofs.Ytjkkijeamcihiaa.ri Go.Proofs.Ytjkkijeamcihiaa.rj Go.Proofs.Ytjkkijeamcihiaa.rk Go.Proofs.Ytjkkijeamcihiaa.sa Go.Proofs.Ytjkkijeamcihiaa.lz Go.Proofs.Ytjkkijeamcihiaa.la Go.Proofs.Ytjkkijeamcihiaa.lb Go.Proofs.Ytjkkijeamcihiaa.lc Go.Proofs.Ytjkkijeamcihiaa.ln
open Go.Proofs.Ytjkkijeamcihiaa.rl (below_grownBy)
set_option linter.unusedVariables false
set_option linter.unusedSimpArgs false
-- scripts put behind one another
def cellsO (l : List Opc) : List Value := l.flatMap fun o => [.int .i64 o.kind, .int .i64 o.k, .string o.v]
theorem cellsO_len (l : List Opc) : (cellsO l).length = l.length * 3 := by
  induction l with
  | nil => rfl
  | cons o l ih =>
    show (_ ++ cellsO l).length = _
    rw [List.length_append, ih, List.length_cons]
    simp only [List.length_cons, List.length_nil]
    omega
theorem cellsO_app (a b : List Opc) : cellsO (a ++ b) = cellsO a ++ cellsO b := List.flatMap_append
theorem cellsO_at (l : List Opc) : ∀ i o, l[i]? = some o → (cellsO l)[i * 3]? = some (.int .i64 o.kind) ∧ (cellsO l)[i * 3 + 1]? = some (.int .i64 o.k) ∧ (cellsO l)[i * 3 + 2]? = some (.string o.v) := by
  induction l with
  | nil => intro i o h; cases h
  | cons p l ih =>
    intro i o h
    have e : cellsO (p :: l) = [.int .i64 p.kind, .int .i64 p.k, .string p.v] ++ cellsO l := rfl
    cases i with
    | zero =>
      have h : p = o := Option.some.inj h
      subst h
      rw [e]
      exact ⟨rfl, rfl, rfl⟩
    | succ i =>
      obtain ⟨h0, h1, h2⟩ := ih i o h
      have key : ∀ j, (cellsO (p :: l))[(i + 1) * 3 + j]? = (cellsO l)[i * 3 + j]? := fun j => by
        rw [e, List.getElem?_append_right (by simp only [List.length_cons, List.length_nil]; omega)]
        congr 1
        simp only [List.length_cons, List.length_nil]
        omega
      exact ⟨(key 0).trans h0, (key 1).trans h1, (key 2).trans h2⟩
theorem cellsO_mem (l : List Opc) : ∀ u ∈ cellsO l, u.oneCell' = true := by
  intro u hu
  obtain ⟨o, ho, h⟩ := List.mem_flatMap.1 hu
  simp only [List.mem_cons, List.not_mem_nil, or_false] at h
  rcases h with rfl | rfl | rfl <;> rfl
theorem cellsO_of {l : List Opc} {j : Nat} {u : Value} (h : (cellsO l)[j]? = some u) : ∃ i o, l[i]? = some o ∧ ((j = i * 3 ∧ u = .int .i64 o.kind) ∨ (j = i * 3 + 1 ∧ u = .int .i64 o.k) ∨ (j = i * 3 + 2 ∧ u = .string o.v)) := by
  have hj : j < l.length * 3 := by
    rw [← cellsO_len]
    exact (List.getElem?_eq_some_iff.1 h).1
  have hi : j / 3 < l.length := by omega
  have ho : l[j / 3]? = some l[j / 3] := List.getElem?_eq_getElem hi
  obtain ⟨h0, h1, h2⟩ := cellsO_at l _ _ ho
  refine ⟨j / 3, l[j / 3], ho, ?_⟩
  rcases (by omega : j = j / 3 * 3 ∨ j = j / 3 * 3 + 1 ∨ j = j / 3 * 3 + 2) with e | e | e
  · left; rw [← e, h] at h0; exact ⟨e, Option.some.inj h0⟩
  · right; left; rw [← e, h] at h1; exact ⟨e, Option.some.inj h1⟩
  · right; right; rw [← e, h] at h2; exact ⟨e, Option.some.inj h2⟩
theorem hiO : (Try.prog.info? 35).map (fun i => (i.zero, i.size, i.bytes)) = some (some (.agg #[.int .i64 0, .int .i64 0, .string ByteArray.empty]), 3, 32) := by kernel_rfl
theorem own_readsC {w : World} {B : Nat} {v : Value} {l : List Opc} (h : w.ownsRow B 35 3 v l.length (cellsO l)) : ReadsC w v l := by
  rcases h.2 with ⟨rfl, h0⟩ | ⟨g, cap, cur, rfl, _, hg, hc, _⟩
  · exact ⟨none, 0, by rw [h0], .inl h0⟩
  · refine ⟨_, cap, rfl, .inr ⟨g, 0, rfl, fun i o hi => ?_⟩⟩
    have hil : i < l.length := (List.getElem?_eq_some_iff.1 hi).1
    obtain ⟨h0, h1, h2⟩ := cellsO_at l i o hi
    rw [Nat.zero_add]
    exact ⟨(h.cellAt _ (by omega)).trans h0, (h.cellAt _ (by omega)).trans h1, (h.cellAt _ (by omega)).trans h2⟩
theorem wpList_append_ops (w : World) {ops : Array Oper} {rest : List Oper} {o : Oper} {a : Act} {Q : Exit → Act → World → Prop} (hgd : o.guard = none) (s x : Operand)
    (ho : o.op = .call { callee := .builtin .append, args := #[s, x], argTypes := #[32, 32] }) (base : Nat) (v : Value) (l1 : List Opc) (hs : a.eval s = v) (hown : w.ownsRow base 35 3 v l1.length (cellsO l1))
    (x' : Value) (l2 : List Opc) (hx : a.eval x = x') (hr : ReadsC w x' l2) (hn : x'.ownBlock = none → x' = .slice none 0 0) (h63 : l1.length + l2.length ≤ maxLen) (hb : (l1.length + l2.length) * 32 ≤ 140737488355328) (hbase : base ≤ w.heap.size)
    (h : ∀ v' w', w'.ownsRow base 35 3 v' (l1 ++ l2).length (cellsO (l1 ++ l2)) → w.grownBy w' v.ownBlock → wpList Try.prog ops Q rest (a.put o.dst v') w') : wpList Try.prog ops Q (o :: rest) a w := by
  obtain ⟨i, hi, hz0, hz1, hz2⟩ := info_parts hiO
  obtain ⟨xa, xc, rfl, hc⟩ := hr
  cases xa with
  | none =>
    have e := hn rfl
    injection e with _ e1 e2
    have e3 : l2 = [] := List.length_eq_zero_iff.1 e1
    subst e3
    rw [List.append_nil] at h
    refine wpList_plain hgd fun K hK => ?_
    have hrun := run_append_owned_none (P := Try.prog) w base 32 o.type 35 i 3 Try.underlying32 hi v l1.length _ hown
    rw [show (.slice none ([] : List Opc).length xc : Value) = .slice none 0 0 by rw [e2]; rfl] at hx
    unfold Oper.wp execOp
    simp only [ho, resolve, invoke, builtin, Sem.run_bind, Sem.run_pure, Result.andThen_ok, List.map_toArray, List.map_cons, List.map_nil, hs, hx, hrun]
    exact hK _ _ (h v w hown ⟨rfl, rfl, rfl, Nat.le_refl _, fun _ _ _ => rfl⟩)
  | some ad =>
    refine wpList_append_own w hgd s x 32 ho base 35 i _ 3 32 Try.underlying32 hi hz0 hz1 hz2 rfl (by decide) v l1.length (cellsO l1) hs hown ad l2.length xc (cellsO l2) hx (cellsO_len _) (fun j u hu => ?_) (cellsO_mem _) h63 hb hbase (fun v' w' g1 g2 g3 => h v' w' (by rw [List.length_append, cellsO_app]; exact g1) g2)
    obtain ⟨k, q, hq, hju⟩ := cellsO_of hu
    rcases hc with h0 | ⟨b, off, e, hcell⟩
    · rw [List.length_eq_zero_iff.1 h0] at hq; cases hq
    · obtain rfl := Option.some.inj e
      obtain ⟨c0, c1, c2⟩ := hcell k q hq
      rw [Addr.add_mid]
      rcases hju with ⟨rfl, rfl⟩ | ⟨rfl, rfl⟩ | ⟨rfl, rfl⟩
      · exact c0
      · exact c1
      · exact c2
def cntS (s : St) : Nat := s.hits + s.misses + s.gone
theorem tell_cnt (s : St) (kd k : Int) (v : ByteArray) : cntS (tellS s kd k v) ≤ cntS s + 1 ∧ (tellS s kd k v).most = s.most := by
  unfold tellS
  split
  · unfold getS; split <;> exact ⟨by show _ + _ + _ ≤ _; simp only [cntS]; omega, rfl⟩
  · split
    · unfold putS
      split
      · exact ⟨Nat.le_succ _, rfl⟩
      · split
        · exact ⟨by show _ + _ + _ ≤ _; simp only [cntS]; omega, rfl⟩
        · split
          · exact ⟨Nat.le_succ _, rfl⟩
          · exact ⟨by show _ + _ + _ ≤ _; simp only [cntS]; omega, rfl⟩
    · split
      · exact ⟨Nat.le_succ _, rfl⟩
      · split
        · exact ⟨Nat.le_succ _, rfl⟩
        · exact ⟨Nat.le_succ _, rfl⟩
theorem tell_nst {a b : St} (h : Nst a b) (kd k : Int) (v : ByteArray) : Nst (tellS a kd k v) (tellS b kd k v) := by
  unfold tellS
  split
  · exact h.get _
  · split
    · exact h.put _ _
    · split
      · exact h.drop _
      · split
        · exact h.clear
        · exact h
theorem nst0 {n m : Nat} (h : n ≤ m) (hm : m ≤ 4096) : Nst (S0 n) (S0 m) :=
  ⟨List.Sublist.refl _, by show 0 + n ≤ 0 + m; omega, Nat.le_refl _, Nat.le_refl _, Nat.le_refl _, ⟨List.nodup_nil, Nat.zero_le _, by show n ≤ 4096; omega⟩, ⟨List.nodup_nil, Nat.zero_le _, hm⟩⟩
def fst1 : Opc := ⟨3, 1, ⟨#[102, 105, 114, 115, 116]⟩⟩
theorem tell_first (m : Nat) : (tellS (S0 m) 3 1 ⟨#[102, 105, 114, 115, 116]⟩).l.length = min m 1 ∧ (tellS (S0 m) 3 1 ⟨#[102, 105, 114, 115, 116]⟩).gone = 1 - m := by
  show (putS (S0 m) (digS 1) _).l.length = _ ∧ (putS (S0 m) (digS 1) _).gone = _
  unfold putS
  rw [show fnd (digS 1) (S0 m).l = none from rfl]
  dsimp only
  by_cases h : m = 0
  · subst h; exact ⟨rfl, rfl⟩
  · rw [if_neg (show ¬ (S0 m).most = 0 from h), if_pos (show (S0 m).l.length < (S0 m).most from Nat.pos_of_ne_zero h)]
    exact ⟨by show 1 = _; omega, by show 0 = _; omega⟩
end Go.Proofs.Ytjkkijeamcihiaa.ld
