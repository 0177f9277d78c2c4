import Derived.Test.YtlkekgifkhipgaaXh
import Derived.Test.YtlkekgifkhipgaaNb
import Derived.Lib.AppendStr
namespace Go.Proofs.Ytlkekgifkhipgaa.xi
open Go.RowKit Go.PlainAid Go.Maps Go.Shelf
open Go.Proofs.Ytlkekgifkhipgaa.ca Go.Proofs.Ytlkekgifkhipgaa.cb Go.Proofs.Ytlkekgifkhipgaa.cp Go.Proofs.Ytlkekgifkhipgaa.kp Go.Proofs.Ytlkekgifkhipgaa.ka Go.Proofs.Ytlkekgifkhipgaa.ya Go.Proofs.Ytlkekgifkhipgaa.yb Go.Proofs.Ytlkekgifkhipgaa.yc Go.Proofs.Ytlkekgifkhipgaa.yd Go.Proofs.Ytlkekgifkhipgaa.ye Go.Proofs.Ytlkekgifkhipgaa.yf Go.Proofs.Ytlkekgifkhipgaa.yi Go.Proofs.Ytlkekgifkhipgaa.yo Go.Proofs.Ytlkekgifkhipgaa.yp Go.Proofs.Ytlkekgifkhipgaa.zf Go.Proofs.Ytlkekgifkhipgaa.zg Go.Proofs.Ytlkekgifkhipgaa.xa Go.Proofs.Ytlkekgifkhipgaa.xb Go.Proofs.Ytlkekgifkhipgaa.xc
set_option linter.unusedVariables false
set_option linter.unusedSimpArgs false
abbrev bc := Lib.byteCells
theorem bc_str (s : ByteArray) : Lib.strCells s = bc (bs s) := by
  simp [Lib.strCells, Lib.byteCells, bs]
theorem bc_app (l l' : List UInt8) : bc (l ++ l') = bc l ++ bc l' := by simp [bc, Lib.byteCells]
theorem bc_len (l : List UInt8) : (bc l).length = l.length := by simp [bc, Lib.byteCells]
theorem info_u8 : (Try.prog.info? 5).map (fun i => (i.zero, i.size, i.bytes)) = some (some (.int .u8 0), 1, 1) := by kernel_rfl
-- a row of bytes of the call's own, read as a text
theorem conv_own {B : Nat} {v : Value} {l : List UInt8} {w : World} (h : w.ownsRow B 5 1 v l.length (bc l)) (hp : 0 < l.length) : (convert 75 9 v).run Try.prog w = .ok (.string (tx l)) w := by
  rcases h.2 with ⟨_, h0⟩ | ⟨g, cap, cur, rfl, _, h3, h4, h5, h6, h7⟩
  · omega
  · rw [run_convert_bytes_string _ 75 9 5 _ _ _ Try.underlying75 Try.underlying5 Try.underlying9]
    have e1 : tx l = (l.map fun b => (b.toNat : Int)).foldl (fun r n => r.push (UInt8.ofNat n.toNat)) ByteArray.empty := by
      apply bs_inj
      rw [bs_tx]
      have := nb.foldl_data (l.map fun b => (b.toNat : Int)) ByteArray.empty
      unfold bs
      rw [this]
      have hid : ((fun n : Int => UInt8.ofNat n.toNat) ∘ fun b : UInt8 => (b.toNat : Int)) = id := by funext b; simp
      simp [hid]
    rw [e1]
    refine run_bytesToString _ _ _ _ (l.map fun b => (b.toNat : Int)) ?_
    have h8 := run_loadCells_list (P := Try.prog) (w := w) ⟨g, 0, none⟩ ((l.map fun b => (b.toNat : Int)).map (Value.int .u8)) ?_
    · simpa using h8
    · intro j x hj
      have e : (Addr.add ⟨g, 0, none⟩ j) = ⟨g, j, none⟩ := by simp [Addr.add]; omega
      have hjl : j < l.length := by
        have := (List.getElem?_eq_some_iff.1 hj).1
        simpa using this
      rw [e, cell_of_row _ _ _ _ _ _ h3]
      have h9 : (cur.toList.take (l.length * 1))[j]? = (bc l)[j]? := by rw [h7]
      rw [List.getElem?_take_of_lt (by omega)] at h9
      have h10 : (bc l)[j]? = some x := by
        rw [← hj]; simp only [bc, Lib.byteCells, List.getElem?_map, Option.map_map]; rfl
      rw [h10] at h9
      simpa using h9
theorem tr1 : (5 : Nat) ≠ 86 := by decide
structure Im (w : World) (bv : Value) (l : List UInt8) (pk pd : ByteArray) (pb : Nat) (wx : World) : Prop where
  own : wx.ownsRow w.heap.size 5 1 bv l.length (bc l)
  bl : Below w.heap.size w wx
  box : wx.heap[pb]? = some (.cells #[.string pk, .string pd] 86 (0, 0))
theorem Im.later {w w1 w2 : World} {bv : Value} {l : List UInt8} {pk pd : ByteArray} {pb : Nat} (h : Im w bv l pk pd pb w1) (b : Below w1.heap.size w1 w2) : Im w bv l pk pd pb w2 :=
  ⟨own_kp h.own (Kp.of_below (A := fun _ => False) b) (fun _ _ e => e), over h.bl b, (b.block _ (Array.getElem?_eq_some_iff.1 h.box).1).trans h.box⟩
theorem Im.grown {w w1 w2 : World} {bv bv' : Value} {l l' : List UInt8} {pk pd : ByteArray} {pb : Nat} (h : Im w bv l pk pd pb w1) (o : w2.ownsRow w.heap.size 5 1 bv' (l.length + l'.length) (bc l ++ bc l')) (hg : w1.grownBy w2 bv.ownBlock) : Im w bv' (l ++ l') pk pd pb w2 := by
  refine ⟨?_, below_grownBy h.bl hg (Nat.le_refl _) (fun i hi => (h.own.lt _ hi).1), (hg.block _ (Array.getElem?_eq_some_iff.1 h.box).1 (own_tag h.own h.box tr1)).trans h.box⟩
  rw [List.length_append, bc_app]
  exact o
theorem Im.cells {w w1 : World} {bv : Value} {l : List UInt8} {pk pd : ByteArray} {pb : Nat} (h : Im w bv l pk pd pb w1) : w1.cell? ⟨pb, 0, none⟩ = some (.string pk) ∧ w1.cell? ⟨pb, 1, none⟩ = some (.string pd) :=
  ⟨cell_of_row _ _ 0 _ _ _ h.box, cell_of_row _ _ 1 _ _ _ h.box⟩
theorem new_four (W : World) (u v x y : Value) (t : TypeId) : ∀ (j : Nat) (z : Value), [u, v, x, y][j]? = some z → (W.alloc (.cells #[u, v, x, y] t)).cell? (Addr.add ⟨W.heap.size, 0, none⟩ j) = some z := by
  intro j z h
  have hb : (W.alloc (.cells #[u, v, x, y] t)).heap[W.heap.size]? = some (.cells #[u, v, x, y] t (0, 0)) := (MapKept.heap_alloc W _).1
  have e : (Addr.add ⟨W.heap.size, 0, none⟩ j) = ⟨W.heap.size, j, none⟩ := by simp [Addr.add]; omega
  rw [e, cell_of_row _ _ j _ _ _ hb]
  simpa using h
theorem bytes1 (n : Nat) (h : n < 256) : bc (beN 1 n 1) = [.int .u8 n] := by
  simp [bc, Lib.byteCells, beN]
  omega
theorem bytes4 (n : Nat) (h : n < 16777216) : bc (beN 4 n 4) = [.int .u8 0, .int .u8 ((n / 65536 % 256 : Nat) : Int), .int .u8 ((n / 256 % 256 : Nat) : Int), .int .u8 ((n % 256 : Nat) : Int)] := by
  simp [bc, Lib.byteCells, beN]
  omega
end Go.Proofs.Ytlkekgifkhipgaa.xi
