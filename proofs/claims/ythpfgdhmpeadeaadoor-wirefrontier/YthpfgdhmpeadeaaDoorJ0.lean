import Derived.Test.YthpfgdhmpeadeaaDoorG4
import Derived.RowKit3
import Derived.WalkLawsBesides
import Derived.Test.YthpfgdhmpeadeaaDoorG1
import Derived.Laws.AppendOwn
import Derived.Lib.UnsafeStr
import Derived.Lib.BufferWrite
namespace Go.Proofs.YthpfgdhmpeadeaaDoor.nh
open Go.RowKit Go.PlainAid
open Go.Proofs.YthpfgdhmpeadeaaDoor.na Go.Proofs.YthpfgdhmpeadeaaDoor.nb Go.Proofs.YthpfgdhmpeadeaaDoor.nc
set_option linter.unusedVariables false

theorem str_app (xs ys : List Int) : str xs ++ str ys = str (xs ++ ys) := by
  apply ByteArray.ext
  rw [ByteArray.data_append, str_data, str_data, str_data]
  simp

theorem conv_one (W : World) (c : Int) :
    (convert 45 9 (.slice (some ⟨W.heap.size, 0, none⟩) 1 1)).run Tryd.prog (W.alloc (.cells #[.int .u8 c] 5)) = .ok (.string (str [c])) (W.alloc (.cells #[.int .u8 c] 5)) :=
  conv_row [c] W 1 rfl

theorem quo128 (v : Int) (k : Nat) : v / 128 ^ k / 128 = v / 128 ^ (k + 1) := by
  have hc : (0 : Int) ≤ 128 ^ k := Int.pow_nonneg (by omega)
  rw [Int.pow_succ, Int.ediv_ediv_of_nonneg hc]

theorem wants_ge (v : Int) (m k : Nat) (hw : Wants v m) (h : k + 1 < m) : 128 ≤ v / 128 ^ k := by
  have hc : (0 : Int) < 128 ^ k := Int.pow_pos (by omega)
  have h1 := hw.2.2.2 (by omega)
  have h2 : (128 : Int) ^ (k + 1) ≤ 128 ^ (m - 1) := ipow_le 128 (by omega) (show k + 1 ≤ m - 1 by omega)
  rw [Int.pow_succ] at h2
  exact (Int.le_ediv_iff_mul_le hc).2 (by omega)

theorem wants_lt (v : Int) (m : Nat) (hw : Wants v m) : v / 128 ^ (m - 1) < 128 := by
  have hc : (0 : Int) < 128 ^ (m - 1) := Int.pow_pos (by omega)
  apply Int.ediv_lt_of_lt_mul hc
  have e : (128 : Int) * 128 ^ (m - 1) = 128 ^ m := by
    have := hw.1
    rw [Int.mul_comm, ← Int.pow_succ]; congr 1; omega
  rw [e]; exact hw.2.2.1

def gs (v : Int) (k : Nat) : List Int := (List.range k).map (gB v)
theorem gs_length (v : Int) (k : Nat) : (gs v k).length = k := by simp [gs]
theorem gs_next (v : Int) (k : Nat) : gs v k ++ [v / 128 ^ k % 128 + 128] = gs v (k + 1) := by simp [gs, List.range_succ, gB]
theorem gs_last (v : Int) (m : Nat) (h0 : 0 ≤ v) (hw : Wants v m) : gs v (m - 1) ++ [v / 128 ^ (m - 1)] = putL v m := by
  have h1 := wants_lt v m hw
  have h2 : 0 ≤ v / 128 ^ (m - 1) := Int.ediv_nonneg h0 (Int.pow_nonneg (by omega))
  have e : v / 128 ^ (m - 1) % 128 = v / 128 ^ (m - 1) := Int.emod_eq_of_lt h2 h1
  simp [gs, putL, e]

theorem ret_s (s t : ByteArray) (h : s = t) : Ending.returned (.string s) = .returned (.string t) := by rw [h]

set_option maxHeartbeats 800000 in
theorem rpv_any (v : Int) (m : Nat) (w : World) (v0 : 0 ≤ v) (v1 : v ≤ 18446744073709551615) (m1 : 1 ≤ m) (m2 : m ≤ 10) (HW : Hid (Wants v m)) :
    Calls Tryd.prog 61 #[.int .u64 v] w fun e w' => e = .returned (.string (str (putL v m))) ∧ Below w.heap.size w w' := by
  have hcv := conv_one
  have hst : ∀ c : Int, (str [c]).size = 1 := fun c => str_size [c]
  go_enter Tryd.func61, Tryd.ntmps61
  go_wp2
  go_loopw [0, 3] (fun x t wr => ∃ k : Nat, k + 1 ≤ m ∧ x = .int .u64 (v / 128 ^ k) ∧ t = .string (str (gs v k)) ∧ Below w.heap.size w wr) (fun x _ _ => (intOf x).toNat)
  case atStart => exact ⟨0, by omega, by simp, rfl, Below.refl _ _⟩
  case round =>
    obtain ⟨k, hk, rfl, rfl, hg⟩ := hrel
    have G : Hid (Below w.heap.size w wr) := hg
    clear hg
    have hlen : (str (gs v k)).size = k := by rw [str_size, gs_length]
    have q0 : 0 ≤ v / 128 ^ k := Int.ediv_nonneg v0 (Int.pow_nonneg (by omega))
    have q1 : v / 128 ^ k ≤ 18446744073709551615 := Int.le_trans (Int.ediv_le_self _ v0) v1
    by_cases hlt : k + 1 < m
    · have hq := wants_ge v m k HW.out hlt
      go_wp2
      go_roundw
      case rel => exact ⟨k + 1, by omega, by rw [quo128], by rw [str_app, gs_next], G.out.alloc G.out.size _⟩
      case measure => simp [intOf]; omega
    · obtain rfl : k = m - 1 := by omega
      have hq := wants_lt v m HW.out
      have HL : Hid _ := gs_last v m v0 HW.out
      go_wp2
      go_ret
      exact ⟨ret_s _ _ (by rw [str_app, HL.out]), G.out.alloc G.out.size _⟩
end Go.Proofs.YthpfgdhmpeadeaaDoor.nh

namespace Go.Proofs.YthpfgdhmpeadeaaDoor.nj
open Go.RowKit Go.PlainAid
open Go.Proofs.YthpfgdhmpeadeaaDoor.na Go.Proofs.YthpfgdhmpeadeaaDoor.nb Go.Proofs.YthpfgdhmpeadeaaDoor.nc Go.Proofs.YthpfgdhmpeadeaaDoor.nh Go.Proofs.YthpfgdhmpeadeaaDoor.ea
set_option linter.unusedVariables false

set_option maxRecDepth 100000 in
theorem si8 (W : World) : (sizeOf 5).run Tryd.prog W = .ok 1 W := by
  have h : (Tryd.prog.info? 5).map (·.size) = some 1 := by kernel_rfl
  cases hq : Tryd.prog.info? 5 with
  | none => simp [hq] at h
  | some i =>
    rw [hq] at h
    simp only [Option.map_some] at h
    injection h with h
    simp [Go.sizeOf, typeInfo, hq, h]
-- the bytes of a text, as cells
def cellsS (q : ByteArray) : List Value := Lib.byteCells q.data.toList
theorem cellsS_length (q : ByteArray) : (cellsS q).length = q.size := by rw [cellsS, Lib.byteCells_length]; exact Array.length_toList
theorem cellsS_first (q : ByteArray) : ((q.extract 0 q.size).data.map fun b => Value.int .u8 b.toNat) = (cellsS q).toArray := by
  rw [ByteArray.extract_zero_size]
  apply Array.ext'
  simp [cellsS, Lib.byteCells]
theorem cellsS_one (q : ByteArray) : ∀ u ∈ cellsS q, u.oneCell' = true := Lib.byteCells_one _

theorem first_str (q : ByteArray) (W : World) : (Builtin.firstCells 1 q.size (.string q)).run Tryd.prog W = .ok (cellsS q).toArray W := by
  simp only [Builtin.firstCells, cellsS_first q, Sem.run_pure]
set_option maxRecDepth 100000 in
theorem append_str_room (w : World) (ty : TypeId) (g sLen sCap : Nat) (cur : Array Value) (hg : w.heap[g]? = some (.cells cur 5 (0, 0))) (q : ByteArray) (hroom : sLen + q.size ≤ sCap) (hfit : sLen + q.size ≤ cur.size) :
    (Builtin.append_ #[45, 9] ty #[.slice (some ⟨g, 0, none⟩) sLen sCap, .string q]).run Tryd.prog w =
      .ok (.slice (some ⟨g, 0, none⟩) (sLen + q.size) sCap) (w.setRow g (cur.toList.take sLen ++ cellsS q ++ cur.toList.drop (sLen + q.size)).toArray) := by
  have hst := run_storeCells_at Tryd.prog g sLen 5 (cellsS q) 0 cur w hg (by rw [cellsS_length]; simpa using hfit) (cellsS_one q)
  simp only [Nat.add_zero, cellsS_length] at hst
  have hf := first_str q
  simp only [Builtin.append_, Builtin.lenOf, List.getElem?_toArray, List.getElem?_cons_zero, List.getElem?_cons_succ, Sem.run_bind, Sem.run_pure, run_underlying Tryd.underlying45, run_underlying Tryd.underlying9, Result.andThen_ok, si8]
  simp [hroom, Addr.add_lit, hf, hst]

set_option maxRecDepth 100000 in
theorem append_str_grow (w : World) (ty : TypeId) (i : TypeInfo) (hi : Tryd.prog.info? 5 = some i) (hz : i.zero = some (.int .u8 0)) (hb : i.bytes = 1) (b : Addr) (sLen sCap : Nat) (olds : List Value) (hlo : olds.length = sLen) (holds : ∀ j u, olds[j]? = some u → w.cell? (b.add j) = some u) (q : ByteArray)
    (hg : sCap < sLen + q.size) (h63 : sLen + q.size ≤ 140737488355328) :
    (Builtin.append_ #[45, 9] ty #[.slice (some b) sLen sCap, .string q]).run Tryd.prog w =
      .ok (.slice (some ⟨w.heap.size, 0, none⟩) (sLen + q.size) (grownCap w (sLen + q.size) sCap 5))
        (w.drew.alloc (.cells (olds.toArray ++ (cellsS q).toArray ++ Builtin.zeroCells (Value.int .u8 0).cells (grownCap w (sLen + q.size) sCap 5 - (sLen + q.size))) 5)) := by
  have hn : ¬ (sLen + q.size ≤ sCap) := by omega
  have h63' : ¬ (9223372036854775807 < ((sLen : Int) + (q.size : Int))) := by omega
  have h48' : ¬ (281474976710656 < Builtin.nextslicecap (sLen + q.size) sCap) := by
    have := growslice_fits (need := sLen + q.size) (old := sCap) (bytes := 1) (by omega) (by omega)
    omega
  have hfo := run_firstCells_some (P := Tryd.prog) w.drew 1 sLen b sLen sCap olds (by rw [hlo, Nat.mul_one]) (by simpa using holds)
  have hf := first_str q
  simp only [Builtin.append_, Builtin.lenOf, List.getElem?_toArray, List.getElem?_cons_zero, List.getElem?_cons_succ, Sem.run_bind, Sem.run_pure, run_underlying Tryd.underlying45, run_underlying Tryd.underlying9, Result.andThen_ok, si8]
  simp [typeInfo, zeroValue, hi, hz, hb, hn, h63', h48', Question.forced, hf, hfo, newRow, grownCap]
  congr 2
  apply Array.ext'
  simp [List.append_assoc]

-- append(out, text...) where out is a row of the call's own
set_option maxRecDepth 100000 in
theorem run_append_str (w : World) (base : Nat) (ty : TypeId) (v : Value) (n : Nat) (xs : List Value) (hown : w.ownsRow base 5 1 v n xs) (q : ByteArray) (h63 : n + q.size ≤ 140737488355328) (hbase : base ≤ w.heap.size) :
    ∃ v' w', (Builtin.append_ #[45, 9] ty #[v, .string q]).run Tryd.prog w = .ok v' w' ∧ w'.ownsRow base 5 1 v' (n + q.size) (xs ++ cellsS q) ∧ w.grownBy w' v.ownBlock := by
  obtain ⟨i, hi, hz0, hz1, hz2⟩ := info_parts info5
  have hlx : xs.length = n := by rw [hown.1, Nat.mul_one]
  have hlen : (xs ++ cellsS q).length = (n + q.size) * 1 := by rw [List.length_append, cellsS_length, hlx, Nat.mul_one]
  have hm : n + q.size ≤ maxLen := by unfold maxLen; omega
  have grown : ∀ (old : Nat), old < n + q.size → ∀ (row : Option Nat),
      (w.drew.alloc (.cells (xs.toArray ++ (cellsS q).toArray ++ Builtin.zeroCells (Value.int .u8 0).cells (grownCap w (n + q.size) old 5 - (n + q.size))) 5)).ownsRow base 5 1
        (.slice (some ⟨w.heap.size, 0, none⟩) (n + q.size) (grownCap w (n + q.size) old 5)) (n + q.size) (xs ++ cellsS q) ∧
      w.grownBy (w.drew.alloc (.cells (xs.toArray ++ (cellsS q).toArray ++ Builtin.zeroCells (Value.int .u8 0).cells (grownCap w (n + q.size) old 5 - (n + q.size))) 5)) row := by
    intro old ho row
    have hge := grownCap_ge w (n + q.size) old 5
    have hcm : grownCap w (n + q.size) old 5 ≤ maxLen := grownCap_le_maxLen w (n + q.size) old 5 hm
    refine ⟨⟨hlen, .inr ⟨w.heap.size, _, _, rfl, hbase, heap_alloc_new w.drew _, hge, hcm, ?_, ?_⟩⟩, ⟨rfl, rfl, rfl, by simp, fun k hk _ => heap_alloc_old w.drew _ hk⟩⟩
    · have hz : (Value.int .u8 0).cells.size = 1 := rfl
      simp only [Array.size_append, List.size_toArray, size_zeroCells, hz, hlx, cellsS_length]
      omega
    · simp only [Array.toList_append, List.append_assoc]
      rw [← List.append_assoc, ← hlen]
      exact List.take_left
  rcases hown.2 with ⟨rfl, rfl⟩ | ⟨g, cap, cur, rfl, hbg, hg, hnc, hcm, hcs, htake⟩
  · have hx : xs = [] := List.eq_nil_of_length_eq_zero (by simpa using hown.1)
    subst hx
    by_cases hq : q.size = 0
    · have hn : cellsS q = [] := List.eq_nil_of_length_eq_zero (by rw [cellsS_length]; exact hq)
      refine ⟨.slice none 0 0, w, ?_, ?_, ⟨rfl, rfl, rfl, Nat.le_refl _, fun _ _ _ => rfl⟩⟩
      · have hf := first_str q
        rw [hq, hn] at hf
        simp only [Builtin.append_, Builtin.lenOf, List.getElem?_toArray, List.getElem?_cons_zero, List.getElem?_cons_succ, Sem.run_bind, Sem.run_pure, run_underlying Tryd.underlying45, run_underlying Tryd.underlying9, Result.andThen_ok, si8]
        simp [hq, hf]
      · rw [hq, hn]; exact World.ownsRow_nil w base 5 1
    · have hr := run_append_nil_string (P := Tryd.prog) w 45 9 ty 5 i (.int .u8 0) Tryd.underlying45 Tryd.underlying9 hi hz0 q (by omega) (by omega) (by rw [hz2]; omega)
      have hgr := grown 0 (by omega) (Value.ownBlock (.slice none 0 0))
      simp only [Nat.zero_add, List.nil_append, Array.empty_append] at hgr ⊢
      have e : (q.data.map fun b => Value.int .u8 (b.toNat : Int)) = (cellsS q).toArray := by
        rw [← cellsS_first q]
        congr 2
        exact (ByteArray.extract_zero_size (b := q)).symm ▸ rfl
      rw [e] at hr
      exact ⟨_, _, hr, hgr.1, hgr.2⟩
  · by_cases hroom : n + q.size ≤ cap
    · have hr := append_str_room w ty g n cap cur hg q hroom (by omega)
      refine ⟨_, _, hr, ⟨hlen, .inr ⟨g, cap, _, rfl, hbg, setRow_heap w g cur _ 5 _ hg, hroom, hcm, ?_, ?_⟩⟩, ⟨rfl, rfl, rfl, by simp, fun k _ hk => setRow_other w g k _ (fun e => hk (by simp [Value.ownBlock, e]))⟩⟩
      · simp only [List.size_toArray, List.length_append, List.length_take, List.length_drop, Array.length_toList, cellsS_length]
        omega
      · rw [show n = n * 1 by omega, htake, show (n * 1 + q.size) * 1 = (n + q.size) * 1 by omega, ← hlen]
        exact List.take_left
    · have holds : ∀ j u, xs[j]? = some u → w.cell? ((⟨g, 0, none⟩ : Addr).add j) = some u := hown.cells (g := g) rfl
      have hr := append_str_grow w ty i hi hz0 hz2 ⟨g, 0, none⟩ n cap xs hlx holds q (by omega) h63
      have hgr := grown cap (by omega) (Value.ownBlock (.slice (some ⟨g, 0, none⟩) n cap))
      exact ⟨_, _, hr, hgr.1, hgr.2⟩

theorem wpList_append_str {ops : Array Oper} {rest : List Oper} {o : Oper} {a : Act} {w : World} {Q : Exit → Act → World → Prop} (hgd : o.guard = none) (s x : Operand)
    (ho : o.op = .call { callee := .builtin .append, args := #[s, x], argTypes := #[45, 9] }) (base : Nat) (v : Value) (n : Nat) (xs : List Value) (hs : a.eval s = v) (hown : w.ownsRow base 5 1 v n xs)
    (q : ByteArray) (hx : a.eval x = .string q) (h63 : n + q.size ≤ 140737488355328) (hbase : base ≤ w.heap.size)
    (h : ∀ v' w', w'.ownsRow base 5 1 v' (n + q.size) (xs ++ cellsS q) → w.grownBy w' v.ownBlock → wpList Tryd.prog ops Q rest (a.put o.dst v') w') : wpList Tryd.prog ops Q (o :: rest) a w := by
  obtain ⟨v', w', hr, h2, h3⟩ := run_append_str w base o.type v n xs hown q h63 hbase
  refine wpList_plain hgd fun K hK => ?_
  unfold Oper.wp execOp
  simp only [ho, resolve, invoke, builtin, Sem.run_bind, Sem.run_pure, Result.andThen_ok, List.map_toArray, List.map_cons, List.map_nil, hs, hx, hr]
  exact hK _ _ (h v' w' h2 h3)

theorem conv_own (W : World) (B : Nat) (v : Value) (l : List UInt8) (n : Nat) (hn : n = l.length) (h0 : 0 < n) (ho : W.ownsRow B 5 1 v n (Lib.byteCells l)) :
    (convert 45 9 v).run Tryd.prog W = .ok (.string ⟨l.toArray⟩) W := by
  obtain ⟨hl, h | ⟨g, cap, cur, rfl, hg, hh, h1, h2, h3, h4⟩⟩ := ho
  · omega
  · have e : Lib.byteCells l = (l.map fun b => (b.toNat : Int)).map (Value.int .u8) := by simp [Lib.byteCells]
    have es : (l.map fun b => (b.toNat : Int)).foldl (fun r n => r.push (UInt8.ofNat n.toNat)) ByteArray.empty = ⟨l.toArray⟩ := by
      have := str_data (l.map fun b => (b.toNat : Int))
      apply ByteArray.ext
      show (str (l.map fun b => (b.toNat : Int))).data = _
      rw [this, List.map_map]
      have e2 : l.map ((fun n : Int => UInt8.ofNat n.toNat) ∘ fun b : UInt8 => (b.toNat : Int)) = l := by
        conv => rhs; rw [← List.map_id l]
        apply List.map_congr_left
        intro a _
        show UInt8.ofNat (((a.toNat : Nat) : Int).toNat) = a
        rw [Int.toNat_natCast]
        exact UInt8.ofNat_toNat
      rw [e2]
    rw [run_convert_bytes_string _ 45 9 5 _ _ _ Tryd.underlying45 Tryd.underlying5 Tryd.underlying9, ← es]
    refine run_bytesToString _ _ _ _ (l.map fun b => (b.toNat : Int)) ?_
    have h := run_loadCells_list (P := Tryd.prog) (w := W) ⟨g, 0, none⟩ (Lib.byteCells l) ?_
    · rw [Lib.byteCells_length, ← hn, e] at h; exact h
    · intro j u hj
      have hjl : j < n := by rw [hn]; have := (List.getElem?_eq_some_iff.1 hj).1; rwa [Lib.byteCells_length] at this
      rw [show (Addr.add ⟨g, 0, none⟩ j) = ⟨g, j, none⟩ by cases j <;> simp [Addr.add]]
      have hc : W.cell? ⟨g, j, none⟩ = cur[j]? := by unfold World.cell?; simp [hh]
      rw [hc, ← hj, ← h4, List.getElem?_take, if_pos (by omega), Array.getElem?_toList]
end Go.Proofs.YthpfgdhmpeadeaaDoor.nj
