import Derived.Test.YtmldkecaghokeaaGreatDoorMo
import Derived.Laws.AppendOwn
namespace Go.Proofs.YtmldkecaghokeaaGreatDoor.na
open Go.RowKit Go.PlainAid
open Go.Proofs.YtmldkecaghokeaaGreatDoor.pl Go.Proofs.YtmldkecaghokeaaGreatDoor.pb Go.Proofs.YtmldkecaghokeaaGreatDoor.pc Go.Proofs.YtmldkecaghokeaaGreatDoor.pd Go.Proofs.YtmldkecaghokeaaGreatDoor.pf Go.Proofs.YtmldkecaghokeaaGreatDoor.pg Go.Proofs.YtmldkecaghokeaaGreatDoor.ph Go.Proofs.YtmldkecaghokeaaGreatDoor.pi Go.Proofs.YtmldkecaghokeaaGreatDoor.ft Go.Proofs.YtmldkecaghokeaaGreatDoor.pj Go.Proofs.YtmldkecaghokeaaGreatDoor.mo
set_option linter.unusedVariables false
set_option maxRecDepth 4000

-- the bytes of a text, as cells
def cellsS (q : ByteArray) : List Value := (btL q q.size).map (Value.int .u8)
theorem cellsS_length (q : ByteArray) : (cellsS q).length = q.size := by rw [cellsS, List.length_map, btL_length]
theorem cellsS_first (q : ByteArray) : ((q.extract 0 q.size).data.map fun b => Value.int .u8 b.toNat) = (cellsS q).toArray := by
  apply Array.ext'
  rw [first_cells q q.size (Nat.le_refl _)]
  rfl
theorem cellsS_one (q : ByteArray) : ∀ u ∈ cellsS q, u.oneCell' = true := by
  intro u hu
  obtain ⟨x, _, rfl⟩ := List.mem_map.1 hu
  rfl

theorem first_str (q : ByteArray) (W : World) : (Builtin.firstCells 1 q.size (.string q)).run Tryz.prog W = .ok (cellsS q).toArray W := by
  simp only [Builtin.firstCells, cellsS_first q, Sem.run_pure]

theorem append_str_room (w : World) (ty : TypeId) (g sLen sCap : Nat) (cur : Array Value) (hg : w.heap[g]? = some (.cells cur 5 (0, 0))) (q : ByteArray) (hroom : sLen + q.size ≤ sCap) (hfit : sLen + q.size ≤ cur.size) :
    (Builtin.append_ #[75, 9] ty #[.slice (some ⟨g, 0, none⟩) sLen sCap, .string q]).run Tryz.prog w =
      .ok (.slice (some ⟨g, 0, none⟩) (sLen + q.size) sCap) (w.setRow g (cur.toList.take sLen ++ cellsS q ++ cur.toList.drop (sLen + q.size)).toArray) := by
  have hst := run_storeCells_at Tryz.prog g sLen 5 (cellsS q) 0 cur w hg (by rw [cellsS_length]; simpa using hfit) (cellsS_one q)
  simp only [Nat.add_zero, cellsS_length] at hst
  have hf := first_str q
  simp only [Builtin.append_, Builtin.lenOf, List.getElem?_toArray, List.getElem?_cons_zero, List.getElem?_cons_succ, Sem.run_bind, Sem.run_pure, run_underlying Tryz.underlying75, run_underlying Tryz.underlying9, Result.andThen_ok, si8]
  simp [hroom, Addr.add_lit, hf, hst]

theorem append_str_grow (w : World) (ty : TypeId) (i : TypeInfo) (hi : Tryz.prog.info? 5 = some i) (hz : i.zero = some (.int .u8 0)) (hb : i.bytes = 1) (b : Addr) (sLen sCap : Nat) (olds : List Value) (hlo : olds.length = sLen) (holds : ∀ j u, olds[j]? = some u → w.cell? (b.add j) = some u) (q : ByteArray)
    (hg : sCap < sLen + q.size) (h63 : sLen + q.size ≤ 140737488355328) :
    (Builtin.append_ #[75, 9] ty #[.slice (some b) sLen sCap, .string q]).run Tryz.prog w =
      .ok (.slice (some ⟨w.heap.size, 0, none⟩) (sLen + q.size) (grownCap w (sLen + q.size) sCap 5))
        (w.drew.alloc (.cells (olds.toArray ++ (cellsS q).toArray ++ Builtin.zeroCells (Value.int .u8 0).cells (grownCap w (sLen + q.size) sCap 5 - (sLen + q.size))) 5)) := by
  have hn : ¬ (sLen + q.size ≤ sCap) := by omega
  have h63' : ¬ (9223372036854775807 < ((sLen : Int) + (q.size : Int))) := by omega
  have h48' : ¬ (281474976710656 < Builtin.nextslicecap (sLen + q.size) sCap) := by
    have := growslice_fits (need := sLen + q.size) (old := sCap) (bytes := 1) (by omega) (by omega)
    omega
  have hfo := run_firstCells_some (P := Tryz.prog) w.drew 1 sLen b sLen sCap olds (by rw [hlo, Nat.mul_one]) (by simpa using holds)
  have hf := first_str q
  simp only [Builtin.append_, Builtin.lenOf, List.getElem?_toArray, List.getElem?_cons_zero, List.getElem?_cons_succ, Sem.run_bind, Sem.run_pure, run_underlying Tryz.underlying75, run_underlying Tryz.underlying9, Result.andThen_ok, si8]
  simp [typeInfo, zeroValue, hi, hz, hb, hn, h63', h48', Question.forced, hf, hfo, newRow, grownCap]
  congr 2
  apply Array.ext'
  simp [List.append_assoc]

-- append(out, text...) where out is a row of the call's own
theorem run_append_str (w : World) (base : Nat) (ty : TypeId) (v : Value) (n : Nat) (xs : List Value) (hown : w.ownsRow base 5 1 v n xs) (q : ByteArray) (h63 : n + q.size ≤ 140737488355328) (hbase : base ≤ w.heap.size) :
    ∃ v' w', (Builtin.append_ #[75, 9] ty #[v, .string q]).run Tryz.prog w = .ok v' w' ∧ w'.ownsRow base 5 1 v' (n + q.size) (xs ++ cellsS q) ∧ w.grownBy w' v.ownBlock := by
  obtain ⟨i, hi, hz0, hz1, hz2⟩ := info_parts info5
  have hlx : xs.length = n := by rw [hown.1, Nat.mul_one]
  have hlen : (xs ++ cellsS q).length = (n + q.size) * 1 := by rw [List.length_append, cellsS_length, hlx, Nat.mul_one]
  have hm : n + q.size ≤ maxLen := by unfold maxLen; omega
  have grown : ∀ (old : Nat), old < n + q.size → ∀ (row : Option Nat),
      (w.drew.alloc (.cells (xs.toArray ++ (cellsS q).toArray ++ Builtin.zeroCells (Value.int .u8 0).cells (grownCap w (n + q.size) old 5 - (n + q.size))) 5)).ownsRow base 5 1
        (.slice (some ⟨w.heap.size, 0, none⟩) (n + q.size) (grownCap w (n + q.size) old 5)) (n + q.size) (xs ++ cellsS q) ∧
      w.grownBy (w.drew.alloc (.cells (xs.toArray ++ (cellsS q).toArray ++ Builtin.zeroCells (Value.int .u8 0).cells (grownCap w (n + q.size) old 5 - (n + q.size))) 5)) row := by
    intro old ho row
    have hge := grownCap_ge w (n + q.size) old 5
    have hcm : grownCap w (n + q.size) old 5 ≤ maxLen := grownCap_le_maxLen w (n + q.size) old 5 hm
    refine ⟨⟨hlen, .inr ⟨w.heap.size, _, _, rfl, hbase, heap_alloc_new w.drew _, hge, hcm, ?_, ?_⟩⟩, ⟨rfl, rfl, rfl, by simp, fun k hk _ => heap_alloc_old w.drew _ hk⟩⟩
    · have hz : (Value.int .u8 0).cells.size = 1 := rfl
      simp only [Array.size_append, List.size_toArray, size_zeroCells, hz, hlx, cellsS_length]
      omega
    · simp only [Array.toList_append, List.append_assoc]
      rw [← List.append_assoc, ← hlen]
      exact List.take_left
  rcases hown.2 with ⟨rfl, rfl⟩ | ⟨g, cap, cur, rfl, hbg, hg, hnc, hcm, hcs, htake⟩
  · have hx : xs = [] := List.eq_nil_of_length_eq_zero (by simpa using hown.1)
    subst hx
    by_cases hq : q.size = 0
    · have hn : cellsS q = [] := List.eq_nil_of_length_eq_zero (by rw [cellsS_length]; exact hq)
      refine ⟨.slice none 0 0, w, ?_, ?_, ⟨rfl, rfl, rfl, Nat.le_refl _, fun _ _ _ => rfl⟩⟩
      · have hf := first_str q
        rw [hq, hn] at hf
        simp only [Builtin.append_, Builtin.lenOf, List.getElem?_toArray, List.getElem?_cons_zero, List.getElem?_cons_succ, Sem.run_bind, Sem.run_pure, run_underlying Tryz.underlying75, run_underlying Tryz.underlying9, Result.andThen_ok, si8]
        simp [hq, hf]
      · rw [hq, hn]; exact World.ownsRow_nil w base 5 1
    · have hr := run_append_nil_string (P := Tryz.prog) w 75 9 ty 5 i (.int .u8 0) Tryz.underlying75 Tryz.underlying9 hi hz0 q (by omega) (by omega) (by rw [hz2]; omega)
      have hgr := grown 0 (by omega) (Value.ownBlock (.slice none 0 0))
      simp only [Nat.zero_add, List.nil_append, Array.empty_append] at hgr ⊢
      have e : (q.data.map fun b => Value.int .u8 (b.toNat : Int)) = (cellsS q).toArray := by
        rw [← cellsS_first q]
        congr 2
        exact (ByteArray.extract_zero_size (b := q)).symm ▸ rfl
      rw [e] at hr
      exact ⟨_, _, hr, hgr.1, hgr.2⟩
  · by_cases hroom : n + q.size ≤ cap
    · have hr := append_str_room w ty g n cap cur hg q hroom (by omega)
      refine ⟨_, _, hr, ⟨hlen, .inr ⟨g, cap, _, rfl, hbg, setRow_heap w g cur _ 5 _ hg, hroom, hcm, ?_, ?_⟩⟩, ⟨rfl, rfl, rfl, by simp, fun k _ hk => setRow_other w g k _ (fun e => hk (by simp [Value.ownBlock, e]))⟩⟩
      · simp only [List.size_toArray, List.length_append, List.length_take, List.length_drop, Array.length_toList, cellsS_length]
        omega
      · rw [show n = n * 1 by omega, htake, show (n * 1 + q.size) * 1 = (n + q.size) * 1 by omega, ← hlen]
        exact List.take_left
    · have holds : ∀ j u, xs[j]? = some u → w.cell? ((⟨g, 0, none⟩ : Addr).add j) = some u := hown.cells (g := g) rfl
      have hr := append_str_grow w ty i hi hz0 hz2 ⟨g, 0, none⟩ n cap xs hlx holds q (by omega) h63
      have hgr := grown cap (by omega) (Value.ownBlock (.slice (some ⟨g, 0, none⟩) n cap))
      exact ⟨_, _, hr, hgr.1, hgr.2⟩

theorem wpList_append_str {ops : Array Oper} {rest : List Oper} {o : Oper} {a : Act} {w : World} {Q : Exit → Act → World → Prop} (hgd : o.guard = none) (s x : Operand)
    (ho : o.op = .call { callee := .builtin .append, args := #[s, x], argTypes := #[75, 9] }) (base : Nat) (v : Value) (n : Nat) (xs : List Value) (hs : a.eval s = v) (hown : w.ownsRow base 5 1 v n xs)
    (q : ByteArray) (hx : a.eval x = .string q) (h63 : n + q.size ≤ 140737488355328) (hbase : base ≤ w.heap.size)
    (h : ∀ v' w', w'.ownsRow base 5 1 v' (n + q.size) (xs ++ cellsS q) → w.grownBy w' v.ownBlock → wpList Tryz.prog ops Q rest (a.put o.dst v') w') : wpList Tryz.prog ops Q (o :: rest) a w := by
  obtain ⟨v', w', hr, h2, h3⟩ := run_append_str w base o.type v n xs hown q h63 hbase
  refine wpList_plain hgd fun K hK => ?_
  unfold Oper.wp execOp
  simp only [ho, resolve, invoke, builtin, Sem.run_bind, Sem.run_pure, Result.andThen_ok, List.map_toArray, List.map_cons, List.map_nil, hs, hx, hr]
  exact hK _ _ (h v' w' h2 h3)
end Go.Proofs.YtmldkecaghokeaaGreatDoor.na
