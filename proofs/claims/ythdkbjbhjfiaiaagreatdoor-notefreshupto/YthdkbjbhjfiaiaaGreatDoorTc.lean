import Derived.Test.YthdkbjbhjfiaiaaGreatDoorTb
import Derived.Test.YthdkbjbhjfiaiaaGreatDoorChecked
import Derived.Below
import Derived.BigRegion
import Derived.RegionTactic
import Derived.Deep.QuietTactic
import Derived.Laws.Rows
import Derived.Laws.Tables
import Derived.Laws.CopyOwn
import Derived.Laws.BytesString
import Derived.Laws.BytesArg
import Derived.Laws.MakeOwn
import Derived.OwnWalk
import Derived.Laws.AppendOwn
import Derived.Deep.AppendLies
import Derived.Deep.MidRow
import Derived.Deep.RegionHeld3
import Derived.Deep.RegionLaw
import Derived.WalkSmall
import Derived.BigQuiet
import Derived.ArgAppend
import Derived.Laws.IdiomStrings
import Derived.RangeFuncBox
import Derived.Laws.EntriesVeiled
namespace Go.Proofs.YthdkbjbhjfiaiaaGreatDoor.tc
open Go.RowKit Go.PlainAid
open Go.Proofs.YthdkbjbhjfiaiaaGreatDoor.ta Go.Proofs.YthdkbjbhjfiaiaaGreatDoor.tb
set_option linter.unusedVariables false
set_option maxRecDepth 4000

-- bytes of texts
def row (ns : List Int) : Array Value := (ns.map (Value.int .u8)).toArray
def str (ns : List Int) : ByteArray := ns.foldl (fun r n => r.push (UInt8.ofNat n.toNat)) ByteArray.empty
theorem row_size (ns : List Int) : (row ns).size = ns.length := by simp [row]
theorem row_set (ns : List Int) (i : Nat) (x : Int) : (row ns).setIfInBounds i (.int .u8 x) = row (ns.set i x) := by
  simp [row]
theorem row_get (ns : List Int) (i : Nat) : (row ns)[i]? = (ns[i]?).map (Value.int .u8) := by simp [row]

theorem foldl_data (ns : List Int) : ∀ r : ByteArray, (ns.foldl (fun r n => r.push (UInt8.ofNat n.toNat)) r).data = r.data ++ (ns.map fun n => UInt8.ofNat n.toNat).toArray := by
  induction ns with
  | nil => intro r; simp
  | cons x ns ih =>
    intro r
    rw [List.foldl_cons, ih]
    show r.data.push _ ++ _ = _
    simp

theorem str_data (ns : List Int) : (str ns).data = (ns.map fun n => UInt8.ofNat n.toNat).toArray := by
  have h := foldl_data ns ByteArray.empty
  simpa [str] using h

theorem str_size (ns : List Int) : (str ns).size = ns.length := by
  show (str ns).data.size = _
  rw [str_data]; simp

theorem str_bt (ns : List Int) (k : Nat) (hk : k < ns.length) (h0 : 0 ≤ ns[k]) (h1 : ns[k] ≤ 255) : bt (str ns) k = ns[k] := by
  unfold bt
  rw [dif_pos (by rw [str_size]; exact hk)]
  have e : (str ns)[k]'(by rw [str_size]; exact hk) = UInt8.ofNat (ns[k]).toNat := by
    show (str ns).data[k]'_ = _
    simp [str_data]
  rw [e]
  have : (UInt8.ofNat (ns[k]).toNat).toNat = (ns[k]).toNat := by simp; omega
  omega
theorem str_two (a b : List Int) : str (a ++ b) = str a ++ str b := by
  apply ByteArray.ext
  rw [ByteArray.data_append, str_data, str_data, str_data, List.map_append]
  simp

def btL (q : ByteArray) (n : Nat) : List Int := (List.range n).map (bt q)
def bs (q : ByteArray) : List Int := btL q q.size
theorem btL_length (q : ByteArray) (n : Nat) : (btL q n).length = n := by simp [btL]
theorem bs_length (q : ByteArray) : (bs q).length = q.size := btL_length q _
theorem btL_succ (q : ByteArray) (n : Nat) : btL q (n + 1) = btL q n ++ [bt q n] := by simp [btL, List.range_succ]
theorem btL_take (q : ByteArray) (n m : Nat) (h : n ≤ m) : (btL q m).take n = btL q n := by
  unfold btL
  rw [← List.map_take, List.take_range, Nat.min_eq_left h]
theorem bs_get (q : ByteArray) (j : Nat) (h : j < q.size) : (bs q)[j]'(by rw [bs_length]; exact h) = bt q j := by simp [bs, btL]
theorem btL_in (q : ByteArray) (n : Nat) : In 256 (btL q n) := by
  intro x hx
  obtain ⟨k, _, rfl⟩ := List.mem_map.1 hx
  have := bt_nonneg q k
  have := bt_le q k
  omega
theorem bs_in (q : ByteArray) : In 256 (bs q) := btL_in q _
theorem str_bs (q : ByteArray) : str (bs q) = q := by
  apply ByteArray.ext
  rw [str_data]
  apply Array.ext_getElem?
  intro j
  by_cases h : j < q.size
  · have h' : j < q.data.size := h
    have e := get_bt q j h
    rw [List.getElem?_toArray, Array.getElem?_eq_getElem h']
    simp only [bs, btL, List.map_map, List.getElem?_map, List.getElem?_range h, Option.map_some, Function.comp]
    rw [← e]
    simp
    rfl
  · have h' : ¬ j < q.data.size := h
    rw [Array.getElem?_eq_none (by simp [bs, btL]; omega), Array.getElem?_eq_none (by omega)]
theorem bs_str (l : List Int) (h : In 256 l) : bs (str l) = l := by
  apply List.ext_getElem
  · rw [bs_length, str_size]
  · intro j h1 h2
    rw [bs_get _ _ (by rw [str_size]; exact h2), str_bt l j h2 (h _ (List.getElem_mem _)).1 (by have := (h _ (List.getElem_mem h2)).2; omega)]
theorem bs_two (a b : ByteArray) : bs (a ++ b) = bs a ++ bs b := by
  have h : In 256 (bs a ++ bs b) := (bs_in a).app (bs_in b)
  rw [← bs_str _ h, str_two, str_bs, str_bs]
theorem str_inj {a b : List Int} (ha : In 256 a) (hb : In 256 b) (h : str a = str b) : a = b := by rw [← bs_str a ha, h, bs_str b hb]
theorem bs_inj {a b : ByteArray} (h : bs a = bs b) : a = b := by rw [← str_bs a, h, str_bs]
theorem bt_extract (a : ByteArray) (i j k : Nat) (h : i + k < j) (hj : j ≤ a.size) : bt (a.extract i j) k = bt a (i + k) := by
  have hs : (a.extract i j).size = min j a.size - i := ByteArray.size_extract
  unfold bt
  rw [dif_pos (by omega), dif_pos (by omega)]
  rw [ByteArray.getElem_extract]
theorem bs_extract (q : ByteArray) (i j : Nat) (hij : i ≤ j) (hj : j ≤ q.size) : bs (q.extract i j) = ((bs q).take j).drop i := by
  have hz : (q.extract i j).size = j - i := by rw [ByteArray.size_extract]; omega
  apply List.ext_getElem
  · rw [bs_length, hz, List.length_drop, List.length_take, bs_length]; omega
  · intro k h1 h2
    rw [bs_length, hz] at h1
    rw [bs_get _ _ (by rw [hz]; exact h1), List.getElem_drop, List.getElem_take, bs_get _ _ (by omega), bt_extract q i j k (by omega) (by omega)]

theorem info5 : (Tryz.prog.info? 5).map (fun i => (i.zero, i.size, i.bytes)) = some (some (.int .u8 0), 1, 1) := by kernel_rfl
theorem info_parts {t : TypeId} {z : Value} {n b : Nat} (h : (Tryz.prog.info? t).map (fun i => (i.zero, i.size, i.bytes)) = some (some z, n, b)) : ∃ i, Tryz.prog.info? t = some i ∧ i.zero = some z ∧ i.size = n ∧ i.bytes = b := by
  cases h0 : Tryz.prog.info? t with
  | none => rw [h0] at h; cases h
  | some i => rw [h0] at h; simp at h; exact ⟨i, rfl, h.1, h.2.1, h.2.2⟩

-- string(b) where b's cells are known
theorem conv_at (ns : List Int) (W : World) (g o n cap : Nat) (hn : n = ns.length) (hc : ∀ j v, (ns.map (Value.int .u8))[j]? = some v → W.cell? ((⟨g, o, none⟩ : Addr).add j) = some v) :
    (convert 77 9 (.slice (some ⟨g, o, none⟩) n cap)).run Tryz.prog W = .ok (.string (str ns)) W := by
  subst hn
  rw [run_convert_bytes_string _ 77 9 5 _ _ _ Tryz.underlying77 Tryz.underlying5 Tryz.underlying9]
  refine run_bytesToString _ _ _ _ ns ?_
  have h := run_loadCells_list (P := Tryz.prog) (w := W) ⟨g, o, none⟩ (ns.map (Value.int .u8)) hc
  simpa using h
theorem own_conv (W : World) (B : Nat) (v : Value) (ns : List Int) (n : Nat) (hn : n = ns.length) (ho : W.ownsRow B 5 1 v n (ns.map (Value.int .u8))) :
    (convert 77 9 v).run Tryz.prog W = .ok (.string (str ns)) W := by
  obtain ⟨hl, ⟨rfl, h⟩ | ⟨g, cap, cur, rfl, hg, hh, h1, h2, h3, h4⟩⟩ := ho
  · have e : ns = [] := List.length_eq_zero_iff.1 (by omega)
    subst e
    exact run_convert_bytes_nil W 77 5 Tryz.underlying77 Tryz.underlying5 0 0 9 Tryz.underlying9
  · refine conv_at ns W g 0 n cap hn (fun j u hj => ?_)
    have hjl : j < n := by rw [hn]; simpa using (List.getElem?_eq_some_iff.1 hj).1
    rw [Addr.add_mid, Nat.zero_add, cell_of_row _ _ _ _ _ _ hh, ← hj, ← h4, List.getElem?_take, if_pos (by omega), Array.getElem?_toList]
theorem made_row (n : Nat) : madeCells (Value.int .u8 0).cells n = row (List.replicate n 0) := by
  apply Array.ext
  · simp [size_madeCells, row_size]
  · intro i h1 h2
    simp [madeCells, row, Value.cells, Nat.mod_one]
theorem make_wide (w : World) (c : Nat) (hc : c ≤ 281474976710656) :
    (Instr.makeSlice 77 (.int .i64 0) (.int .i64 c)).run Tryz.prog w = .ok (.slice (some ⟨w.heap.size, 0, none⟩) 0 c) (w.alloc (.cells (row (List.replicate c 0)) 5)) := by
  obtain ⟨i, hi, hz0, hz1, hz2⟩ := info_parts info5
  have h := run_make (P := Tryz.prog) w 77 5 i (.int .u8 0) Tryz.underlying77 hi hz0 .i64 .i64 0 (c : Int) (by omega) (by omega) (by rw [hz2]; omega) (by omega)
  rw [hz1] at h
  simp only [Int.toNat_natCast, Nat.mul_one, Int.toNat_zero] at h
  rw [made_row] at h
  exact h

-- append of one byte to a row of the call's own: where there is room, however long
theorem run_append_c (w : World) (ty : TypeId) (B g n cap : Nat) (xs : List Value) (hown : w.ownsRow B 5 1 (.slice (some ⟨g, 0, none⟩) n cap) n xs) (x : Value) (hx : x.oneCell' = true) (ad : Addr) (c : Nat) (hc : w.cell? (ad.add 0) = some x)
    (hroom : n < cap ∨ n + 1 ≤ 140737488355328) (hB : B ≤ w.heap.size) :
    ∃ g' cap' w', (Builtin.append_ #[77, 77] ty #[.slice (some ⟨g, 0, none⟩) n cap, .slice (some ad) 1 c]).run Tryz.prog w = .ok (.slice (some ⟨g', 0, none⟩) (n + 1) cap') w' ∧
      w'.ownsRow B 5 1 (.slice (some ⟨g', 0, none⟩) (n + 1) cap') (n + 1) (xs ++ [x]) ∧ w.grownBy w' (some g) ∧ cap ≤ cap' := by
  obtain ⟨i, hi, hz0, hz1, hz2⟩ := info_parts info5
  have hnews : ∀ (j : Nat) u, [x][j]? = some u → w.cell? (ad.add j) = some u := fun j u hj => by
    cases j with
    | zero => simp at hj; rw [hc, hj]
    | succ j => simp at hj
  have h1 : ∀ u ∈ [x], u.oneCell' = true := fun u hu => by simp at hu; rw [hu]; exact hx
  by_cases hr : n + 1 ≤ cap
  · rcases hown.2 with ⟨h, _⟩ | ⟨g2, cap2, cur, he, hbg, hg, hnc, hcm, hcs, htake⟩
    · cases h
    · obtain ⟨rfl, rfl⟩ : g = g2 ∧ cap = cap2 := by simpa using he
      have hlen : (xs ++ [x]).length = (n + 1) * 1 := by rw [List.length_append, hown.1]; simp
      have hrun := run_append_room (P := Tryz.prog) w 77 ty 5 i Tryz.underlying77 hi g n cap cur hg ad 1 c [x] (by rw [hz1]; rfl) hnews h1 hr (by rw [hz1]; simp; omega)
      rw [hz1] at hrun
      refine ⟨g, cap, _, hrun, ⟨hlen, .inr ⟨g, cap, _, rfl, hbg, setRow_heap w g cur _ 5 _ hg, hr, hcm, ?_, ?_⟩⟩, ⟨rfl, rfl, rfl, by simp, fun k _ hk => setRow_other w g k _ (fun e => hk (by rw [e]))⟩, Nat.le_refl _⟩
      · simp only [List.size_toArray, List.length_append, List.length_take, List.length_drop, Array.length_toList]
        simp
        omega
      · rw [htake, ← hlen]
        exact List.take_left
  · have hsm : n + 1 ≤ 140737488355328 := by omega
    obtain ⟨g', cap', w', e, h2, h3, h4, h5⟩ := run_append_lies (P := Tryz.prog) w 77 ty B 5 i (.int .u8 0) 1 1 Tryz.underlying77 hi hz0 hz1 hz2 rfl (by decide) _ n xs hown ad 1 c [x] rfl hnews h1 (by omega) (by unfold maxLen; omega) (by omega) hB _ rfl
    refine ⟨g', cap', w', e, h2, h3, ?_⟩
    rcases h2.2 with ⟨h, _⟩ | ⟨g2, cap2, cur, he, hbg, hg, hnc, _⟩
    · cases h
    · obtain ⟨rfl, rfl⟩ : g' = g2 ∧ cap' = cap2 := by simpa using he
      omega

theorem wp_append_c {o : Oper} {a : Act} {w : World} {K : Act → World → Prop} {Q : Exit → Act → World → Prop} (s x : Operand)
    (ho : o.op = .call { callee := .builtin .append, args := #[s, x], argTypes := #[77, 77] })
    (B g n cap : Nat) (xs : List Value) (hs : a.eval s = .slice (some ⟨g, 0, none⟩) n cap) (hown : w.ownsRow B 5 1 (.slice (some ⟨g, 0, none⟩) n cap) n xs) (y : Value) (hy : y.oneCell' = true) (ad : Addr) (c : Nat) (hx : a.eval x = .slice (some ad) 1 c) (hc : w.cell? (ad.add 0) = some y)
    (hroom : n < cap ∨ n + 1 ≤ 140737488355328) (hB : B ≤ w.heap.size)
    (h : ∀ g' cap' w', w'.ownsRow B 5 1 (.slice (some ⟨g', 0, none⟩) (n + 1) cap') (n + 1) (xs ++ [y]) → w.grownBy w' (some g) → cap ≤ cap' → K (a.put o.dst (.slice (some ⟨g', 0, none⟩) (n + 1) cap')) w') : o.wp Tryz.prog a w K Q := by
  obtain ⟨g', cap', w', hr, h2, h3, h4⟩ := run_append_c w o.type B g n cap xs hown y hy ad c hc hroom hB
  unfold Oper.wp execOp
  simp only [ho, resolve, invoke, builtin, Sem.run_bind, Sem.run_pure, Result.andThen_ok, List.map_toArray, List.map_cons, List.map_nil, hs, hx, hr]
  exact h g' cap' w' h2 h3 h4
theorem wpList_append_c {ops : Array Oper} {rest : List Oper} {o : Oper} {a : Act} {w : World} {Q : Exit → Act → World → Prop} (hgd : o.guard = none) (s x : Operand)
    (ho : o.op = .call { callee := .builtin .append, args := #[s, x], argTypes := #[77, 77] })
    (B g n cap : Nat) (xs : List Value) (hs : a.eval s = .slice (some ⟨g, 0, none⟩) n cap) (hown : w.ownsRow B 5 1 (.slice (some ⟨g, 0, none⟩) n cap) n xs) (y : Value) (hy : y.oneCell' = true) (ad : Addr) (c : Nat) (hx : a.eval x = .slice (some ad) 1 c) (hc : w.cell? (ad.add 0) = some y)
    (hroom : n < cap ∨ n + 1 ≤ 140737488355328) (hB : B ≤ w.heap.size)
    (h : ∀ g' cap' w', w'.ownsRow B 5 1 (.slice (some ⟨g', 0, none⟩) (n + 1) cap') (n + 1) (xs ++ [y]) → w.grownBy w' (some g) → cap ≤ cap' → wpList Tryz.prog ops Q rest (a.put o.dst (.slice (some ⟨g', 0, none⟩) (n + 1) cap')) w') : wpList Tryz.prog ops Q (o :: rest) a w :=
  wpList_plain hgd fun _ hK => wp_append_c s x ho B g n cap xs hs hown y hy ad c hx hc hroom hB fun g' cap' w' h2 h3 h4 => hK _ _ (h g' cap' w' h2 h3 h4)
theorem step_append_c {ops : Array Oper} {o : Oper} {a : Act} {w : World} {K : Act → World → Prop} {Q : Exit → Act → World → Prop} {E : Prop} (hgd : o.guard = none) (s x : Operand)
    (ho : o.op = .call { callee := .builtin .append, args := #[s, x], argTypes := #[77, 77] })
    (B g n cap : Nat) (xs : List Value) (hs : a.eval s = .slice (some ⟨g, 0, none⟩) n cap) (hown : w.ownsRow B 5 1 (.slice (some ⟨g, 0, none⟩) n cap) n xs) (y : Value) (hy : y.oneCell' = true) (ad : Addr) (c : Nat) (hx : a.eval x = .slice (some ad) 1 c) (hc : w.cell? (ad.add 0) = some y)
    (hroom : n < cap ∨ n + 1 ≤ 140737488355328) (hB : B ≤ w.heap.size)
    (h : ∀ g' cap' w', w'.ownsRow B 5 1 (.slice (some ⟨g', 0, none⟩) (n + 1) cap') (n + 1) (xs ++ [y]) → w.grownBy w' (some g) → cap ≤ cap' → K (a.put o.dst (.slice (some ⟨g', 0, none⟩) (n + 1) cap')) w') :
    if Region.wanted o (yielded ops a.tmps) = true then Oper.wp Tryz.prog o a w K Q else E := by
  have hw : Region.wanted o (yielded ops a.tmps) = true := by simp [Region.wanted, hgd]
  rw [if_pos hw]
  exact wp_append_c s x ho B g n cap xs hs hown y hy ad c hx hc hroom hB h

-- the state of a call that writes bytes: its boxes, its row
def bx (t : TypeId) (v : Value) : Obj := .cells #[v] t (0, 0)
structure St (w0 : World) (B bo C bh bc : Nat) (cs : List (Nat × Obj)) (l : List Int) (h c : Int) (w : World) : Prop where
  below : Below B w0 w
  base : B ≤ w.heap.size
  boxes : ∀ x ∈ cs, w.heap[x.1]? = some x.2 ∧ (∀ a fz, x.2 ≠ .cells a 5 fz) ∧ x.1 ≠ bo ∧ x.1 ≠ bh ∧ x.1 ≠ bc
  held : Boxed w bh 3 (.int .i64 h)
  cnt : Boxed w bc 3 (.int .i64 c)
  lo : B ≤ bo ∧ B ≤ bh ∧ B ≤ bc
  ne : bo ≠ bh ∧ bo ≠ bc ∧ bh ≠ bc
  out : ∃ g cap, Boxed w bo 77 (.slice (some ⟨g, 0, none⟩) l.length cap) ∧ C ≤ cap ∧ w.ownsRow B 5 1 (.slice (some ⟨g, 0, none⟩) l.length cap) l.length (l.map (Value.int .u8))

theorem box_cell {w : World} {b : Nat} {t : TypeId} {v : Value} (h : w.heap[b]? = some (bx t v)) : w.cell? ⟨b, 0, none⟩ = some v := Boxed.cell (t := t) h
theorem St.at {w0 : World} {B bo C bh bc : Nat} {cs : List (Nat × Obj)} {l : List Int} {h c : Int} {w : World} (s : St w0 B bo C bh bc cs l h c w) {b : Nat} {t : TypeId} {v : Value} (hm : (b, bx t v) ∈ cs) : w.cell? ⟨b, 0, none⟩ = some v := box_cell (s.boxes _ hm).1
theorem St.drew {w0 : World} {B bo C bh bc : Nat} {cs : List (Nat × Obj)} {l : List Int} {h c : Int} {w : World} (s : St w0 B bo C bh bc cs l h c w) : St w0 B bo C bh bc cs l h c w.drew :=
  ⟨s.below.drew, s.base, s.boxes, s.held, s.cnt, s.lo, s.ne, s.out⟩
theorem heap_set_ne (w : World) (b k : Nat) (v : Value) (h : k ≠ b) : (w.setCell ⟨b, 0, none⟩ v).heap[k]? = w.heap[k]? := Below.heap_setCell _ _ _ _ h
theorem boxed_set_ne {w : World} {b k : Nat} {t : TypeId} {u : Value} (hb : Boxed w k t u) (v : Value) (h : k ≠ b) : Boxed (w.setCell ⟨b, 0, none⟩ v) k t u := (heap_set_ne w b k v h).trans hb
theorem own_set {w : World} {B : Nat} {v : Value} {n : Nat} {xs : List Value} {b : Nat} {t : TypeId} {u : Value} (hb : Boxed w b t u) (ht : t ≠ 5) (ho : w.ownsRow B 5 1 v n xs) (u' : Value) : (w.setCell ⟨b, 0, none⟩ u').ownsRow B 5 1 v n xs :=
  ho.kept (grownBy_setCell' w b u') (.inr (hb.not_row ht ho).symm)
theorem int_ne : 3 ≠ 5 := by decide
theorem bytes_ne : 77 ≠ 5 := by decide

theorem St.setHeld {w0 : World} {B bo C bh bc : Nat} {cs : List (Nat × Obj)} {l : List Int} {h c : Int} {w : World} (s : St w0 B bo C bh bc cs l h c w) (h' : Int) : St w0 B bo C bh bc cs l h' c (w.setCell ⟨bh, 0, none⟩ (.int .i64 h')) := by
  obtain ⟨g, cap, h1, h2, h3⟩ := s.out
  exact ⟨s.below.setCell (p := ⟨bh, 0, none⟩) s.lo.2.1 _, by have := s.base; simpa using this, fun x hx => ⟨(heap_set_ne w bh x.1 _ (s.boxes x hx).2.2.2.1).trans (s.boxes x hx).1, (s.boxes x hx).2⟩, s.held.set _, boxed_set_ne s.cnt _ s.ne.2.2.symm, s.lo, s.ne, g, cap, boxed_set_ne h1 _ s.ne.1, h2, own_set s.held int_ne h3 _⟩
theorem St.setCnt {w0 : World} {B bo C bh bc : Nat} {cs : List (Nat × Obj)} {l : List Int} {h c : Int} {w : World} (s : St w0 B bo C bh bc cs l h c w) (c' : Int) : St w0 B bo C bh bc cs l h c' (w.setCell ⟨bc, 0, none⟩ (.int .i64 c')) := by
  obtain ⟨g, cap, h1, h2, h3⟩ := s.out
  exact ⟨s.below.setCell (p := ⟨bc, 0, none⟩) s.lo.2.2 _, by have := s.base; simpa using this, fun x hx => ⟨(heap_set_ne w bc x.1 _ (s.boxes x hx).2.2.2.2).trans (s.boxes x hx).1, (s.boxes x hx).2⟩, boxed_set_ne s.held _ s.ne.2.2, s.cnt.set _, s.lo, s.ne, g, cap, boxed_set_ne h1 _ s.ne.2.1, h2, own_set s.cnt int_ne h3 _⟩
theorem St.setHead {w0 : World} {B bo C bh bc : Nat} {cs : List (Nat × Obj)} {l : List Int} {h c : Int} {w : World} {b : Nat} {v : Value} (s : St w0 B bo C bh bc ((b, bx 3 v) :: cs) l h c w) (hlo : B ≤ b) (hb : ∀ x ∈ cs, x.1 ≠ b) (v' : Value) : St w0 B bo C bh bc ((b, bx 3 v') :: cs) l h c (w.setCell ⟨b, 0, none⟩ v') := by
  obtain ⟨g, cap, h1, h2, h3⟩ := s.out
  have hh := s.boxes _ List.mem_cons_self
  have hbx : Boxed w b 3 v := hh.1
  refine ⟨s.below.setCell (p := ⟨b, 0, none⟩) hlo _, by have := s.base; simpa using this, fun x hx => ?_, boxed_set_ne s.held _ hh.2.2.2.1.symm, boxed_set_ne s.cnt _ hh.2.2.2.2.symm, s.lo, s.ne, g, cap, boxed_set_ne h1 _ hh.2.2.1.symm, h2, own_set hbx int_ne h3 _⟩
  rcases List.mem_cons.1 hx with rfl | hx
  · exact ⟨hbx.set v', fun a fz e => by unfold bx at e; injection e with _ e2; exact int_ne e2, hh.2.2⟩
  · exact ⟨(heap_set_ne w b x.1 _ (hb x hx)).trans (s.boxes x (List.mem_cons_of_mem _ hx)).1, (s.boxes x (List.mem_cons_of_mem _ hx)).2⟩

theorem grown_box {w w' : World} {g k : Nat} {o : Obj} (hk : w.heap[k]? = some o) (hno : ∀ a fz, o ≠ .cells a 5 fz) (hg : w.grownBy w' (some g)) (hrow : ∃ a fz, w.heap[g]? = some (.cells a 5 fz)) : w'.heap[k]? = some o := by
  rw [hg.block k (Array.getElem?_eq_some_iff.1 hk).1 ?_, hk]
  intro e
  obtain ⟨a, fz, hr⟩ := hrow
  have : k = g := by simpa using e
  subst this
  rw [hk] at hr
  exact hno a fz (Option.some.inj hr)

-- behind 'out = append(out, x)'
theorem St.appended {w0 : World} {B bo C bh bc : Nat} {cs : List (Nat × Obj)} {l : List Int} {h c : Int} {w w1 : World} (s : St w0 B bo C bh bc cs l h c w) (g cap g' cap' : Nat) (tmp : Obj) (x : Int)
    (hbox : Boxed w bo 77 (.slice (some ⟨g, 0, none⟩) l.length cap)) (hC : C ≤ cap) (how : w.ownsRow B 5 1 (.slice (some ⟨g, 0, none⟩) l.length cap) l.length (l.map (Value.int .u8)))
    (hown' : w1.ownsRow B 5 1 (.slice (some ⟨g', 0, none⟩) (l.length + 1) cap') (l.length + 1) (l.map (Value.int .u8) ++ [.int .u8 x])) (hgr : (w.alloc tmp).grownBy w1 (some g)) (hcap : cap ≤ cap') :
    Boxed w1 bo 77 (.slice (some ⟨g, 0, none⟩) l.length cap) ∧ St w0 B bo C bh bc cs (l ++ [x]) h c (w1.setCell ⟨bo, 0, none⟩ (.slice (some ⟨g', 0, none⟩) (l.length + 1) cap')) := by
  have hrow : ∃ a fz, (w.alloc tmp).heap[g]? = some (.cells a 5 fz) := by
    rcases (how.alloc tmp).2 with ⟨h, _⟩ | ⟨g2, cap2, cur, he, _, hg, _⟩
    · cases h
    · obtain ⟨rfl, rfl⟩ : g = g2 ∧ cap = cap2 := by simpa using he
      exact ⟨cur, _, hg⟩
  have up : ∀ {k : Nat} {o : Obj}, w.heap[k]? = some o → (∀ a fz, o ≠ .cells a 5 fz) → w1.heap[k]? = some o := fun {k o} hk hno =>
    grown_box ((heap_alloc_old w tmp (Array.getElem?_eq_some_iff.1 hk).1).trans hk) hno hgr hrow
  have hb1 : Boxed w1 bo 77 (.slice (some ⟨g, 0, none⟩) l.length cap) := up hbox (fun a fz e => by injection e with _ e2; exact bytes_ne e2)
  have hh1 : Boxed w1 bh 3 (.int .i64 h) := up s.held (fun a fz e => by injection e with _ e2; exact int_ne e2)
  have hc1 : Boxed w1 bc 3 (.int .i64 c) := up s.cnt (fun a fz e => by injection e with _ e2; exact int_ne e2)
  have hBg : B ≤ g := by
    rcases how.2 with ⟨h, _⟩ | ⟨g2, cap2, cur, he, hbg, _⟩
    · cases h
    · obtain ⟨rfl, rfl⟩ : g = g2 ∧ cap = cap2 := by simpa using he
      exact hbg
  have hrg : ∀ j, some g = some j → B ≤ j := fun j hj => by
    have : g = j := by simpa using hj
    omega
  have hlb : B ≤ w1.heap.size := by have := s.base; have := hgr.size; simp at this; omega
  refine ⟨hb1, ?_⟩
  refine ⟨Below.setCell (p := ⟨bo, 0, none⟩) (Below.grown (s.below.alloc s.base tmp) hgr (by have := s.base; simp; omega) (fun j hj => hrg j hj)) s.lo.1 _, by simpa using hlb, fun x hx => ?_, boxed_set_ne hh1 _ s.ne.1.symm, boxed_set_ne hc1 _ s.ne.2.1.symm, s.lo, s.ne, g', cap', ?_, by omega, ?_⟩
  · have hx' := s.boxes x hx
    exact ⟨(heap_set_ne w1 bo x.1 _ hx'.2.2.1).trans (up hx'.1 hx'.2.1), hx'.2⟩
  · rw [List.length_append, List.length_singleton]; exact hb1.set _
  · rw [List.length_append, List.length_singleton, List.map_append]; exact own_set hb1 bytes_ne hown' _
end Go.Proofs.YthdkbjbhjfiaiaaGreatDoor.tc
