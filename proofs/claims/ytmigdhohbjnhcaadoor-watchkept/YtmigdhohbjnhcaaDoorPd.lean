import Derived.Test.YtmigdhohbjnhcaaDoorPc
namespace Go.Proofs.YtmigdhohbjnhcaaDoor.pd
open Go.RowKit Go.PlainAid
open Go.Proofs.YtmigdhohbjnhcaaDoor.pl Go.Proofs.YtmigdhohbjnhcaaDoor.pa Go.Proofs.YtmigdhohbjnhcaaDoor.pb Go.Proofs.YtmigdhohbjnhcaaDoor.pc
set_option linter.unusedVariables false

-- the cells of a Hash
def hcells (s : St) (L : List Int) (sz : Int) : Array Value := hc s.list (L.map (Value.int .u8) ++ [.int .i64 sz])
theorem St.len (s : St) : s.list.length = 8 := rfl

theorem hcells_at (s : St) (L : List Int) (sz : Int) (j : Nat) (h : j < L.length) : (hcells s L sz)[8 + j]? = some (.int .u8 (L.getD j 0)) := by
  rw [hcells, hc, List.getElem?_toArray, List.getElem?_append_right (by simp [St.list]), List.length_map, St.len, Nat.add_sub_cancel_left, List.getElem?_append_left (by simpa using h)]
  simp [List.getD, h]

def btL (q : ByteArray) (n : Nat) : List Int := (List.range n).map (bt q)
theorem btL_length (q : ByteArray) (n : Nat) : (btL q n).length = n := by simp [btL]
theorem btL_get (q : ByteArray) (n j : Nat) (h : j < n) : (btL q n).getD j 0 = bt q j := by simp [btL, List.getD, h]

theorem first_cells (q : ByteArray) (n : Nat) (h : n ≤ q.size) : ((q.extract 0 n).data.map fun b => Value.int .u8 b.toNat).toList = (btL q n).map (Value.int .u8) := by
  have hs : (q.extract 0 n).size = n := by rw [ByteArray.size_extract]; omega
  apply List.ext_getElem
  · simp only [Array.toList_map, List.length_map, btL_length, Array.length_toList]; exact hs
  · intro i h1 h2
    have hi : i < n := by simpa [btL_length] using h2
    have e := get_bt (q.extract 0 n) i (by omega)
    rw [bt_extract q 0 n i (by omega) h, Nat.zero_add] at e
    simp only [Array.toList_map, List.getElem_map, btL, List.getElem_range, Array.getElem_toList]
    rw [← e]
    rfl

def laidL (L : List Int) (o : Nat) (cs : List Int) : List Int := L.take o ++ cs ++ L.drop (o + cs.length)
theorem laidL_length (L : List Int) (o : Nat) (cs : List Int) (h : o + cs.length ≤ L.length) : (laidL L o cs).length = L.length := by simp [laidL]; omega
theorem laidL_old (L : List Int) (o : Nat) (cs : List Int) (h : o + cs.length ≤ L.length) (j : Nat) (hj : j < o) : (laidL L o cs).getD j 0 = L.getD j 0 := by
  rw [laidL, List.append_assoc, List.getD, List.getD, List.getElem?_append_left (by simp; omega), List.getElem?_take, if_pos hj]
theorem laidL_new (L : List Int) (o : Nat) (cs : List Int) (h : o + cs.length ≤ L.length) (j : Nat) (hj : j < cs.length) : (laidL L o cs).getD (o + j) 0 = cs.getD j 0 := by
  rw [laidL, List.getD, List.getD, List.getElem?_append_left (by simp; omega), List.getElem?_append_right (by simp; omega), List.length_take, show o + j - min o L.length = j by omega]
theorem laidL_past (L : List Int) (o : Nat) (cs : List Int) (h : o + cs.length ≤ L.length) (j : Nat) (hj : o + cs.length ≤ j) : (laidL L o cs).getD j 0 = L.getD j 0 := by
  rw [laidL, List.getD, List.getD, List.getElem?_append_right (by simp; omega), List.getElem?_drop]
  congr 2
  simp; omega

theorem hcells_copy (s : St) (L : List Int) (sz : Int) (o : Nat) (cs : List Int) (h : o + cs.length ≤ L.length) :
    ((hcells s L sz).toList.take (8 + o) ++ cs.map (Value.int .u8) ++ (hcells s L sz).toList.drop (8 + o + cs.length)).toArray = hcells s (laidL L o cs) sz := by
  have e : (hcells s L sz).toList = s.list.map (Value.int .u32) ++ (L.map (Value.int .u8) ++ [Value.int .i64 sz]) := rfl
  have l8 : (s.list.map (Value.int .u32)).length = 8 := by rw [List.length_map]; rfl
  have e2 : hcells s (laidL L o cs) sz = (s.list.map (Value.int .u32) ++ ((laidL L o cs).map (Value.int .u8) ++ [Value.int .i64 sz])).toArray := rfl
  rw [e, e2]
  congr 1
  rw [List.take_append, l8, List.take_of_length_le (by omega), Nat.add_sub_cancel_left, List.drop_append, l8, List.drop_of_length_le (by omega), List.nil_append, show 8 + o + cs.length - 8 = o + cs.length by omega, List.append_assoc, List.append_assoc]
  congr 1
  rw [List.take_append, List.length_map, show o - L.length = 0 by omega, List.take_zero, List.append_nil, List.drop_append, List.length_map, show o + cs.length - L.length = 0 by omega, List.drop_zero, laidL, List.map_append, List.map_append, List.map_take, List.map_drop]
  simp only [List.append_assoc]

theorem run_copy_str (w : World) (ty : TypeId) (g o dLen dCap n : Nat) (q : ByteArray) (cur : Array Value) (t : TypeId) (hn : n = Nat.min q.size dLen)
    (hg : w.heap[g]? = some (.cells cur t (0, 0))) (hfit : o + n ≤ cur.size) :
    (Builtin.copy_ #[48, 9] ty #[.slice (some ⟨g, o, none⟩) dLen dCap, .string q]).run Tryd.prog w =
      .ok (goInt n) (w.setRow g (cur.toList.take o ++ (btL q n).map (Value.int .u8) ++ cur.toList.drop (o + n)).toArray) := by
  have hle : n ≤ q.size := by rw [hn]; exact Nat.min_le_left _ _
  have hst := run_storeCells_at Tryd.prog g o t ((btL q n).map (Value.int .u8)) 0 cur w hg (by simpa [btL_length] using hfit) (by intro v hv; simp only [List.mem_map] at hv; obtain ⟨x, _, rfl⟩ := hv; rfl)
  simp only [Nat.add_zero, List.length_map, btL_length] at hst
  have hf := first_cells q n hle
  simp only [Builtin.copy_, Builtin.lenOf, Builtin.firstCells, List.getElem?_toArray, List.getElem?_cons_zero, List.getElem?_cons_succ, Sem.run_bind, Sem.run_pure, run_underlying Tryd.underlying48, Result.andThen_ok, si8, ← hn, hf, hst]
end Go.Proofs.YtmigdhohbjnhcaaDoor.pd
