import Derived.Test.YtmindflfjocjlaaGreatQ00
import Derived.Deep.MidRow
import Derived.PlainAid
import Derived.Laws.BitsAllLaws
import Derived.WalkKit
import Derived.Test.YtmindflfjocjlaaGreatProg
import Derived.WalkSpells
import Derived.Laws.BytesString
import Derived.Laws.MakeOwn
import Derived.OwnWalk
import Derived.Shelf.Strings.Builder1
import Derived.Shelf.Strings.BuilderF
import Derived.Shelf.Strings.BuilderK
import Derived.Shelf.Pu.Clone
import Derived.Maps.RangeWalk
import Derived.Maps.OwnSet
import Derived.Sort.KeysCollected
import Derived.WideShapes
namespace Go.Proofs.YtmindflfjocjlaaGreat.ka
open Go.RowKit Go.PlainAid
open Go.Proofs.YtmindflfjocjlaaGreat.ca Go.Proofs.YtmindflfjocjlaaGreat.cp
set_option linter.unusedVariables false

-- a list of texts, wherever it lies
def ReadsT (w : World) (v : Value) (xs : List ByteArray) : Prop :=
  ∃ a cap, v = .slice a xs.length cap ∧ xs.length ≤ cap ∧ (xs.length = 0 ∨ ∃ b off, a = some ⟨b, off, none⟩ ∧ ∀ i, i < xs.length → w.cell? ⟨b, off + i, none⟩ = some (.string (xs.getD i ByteArray.empty)))
theorem ReadsT.later {w w' : World} {v : Value} {xs : List ByteArray} (h : ReadsT w v xs) (hb : Below w.heap.size w w') : ReadsT w' v xs := by
  obtain ⟨a, cap, rfl, hc, h0 | ⟨b, off, rfl, hh⟩⟩ := h
  · exact ⟨a, cap, rfl, hc, .inl h0⟩
  · refine ⟨_, cap, rfl, hc, .inr ⟨b, off, rfl, fun i hi => ?_⟩⟩
    have := hh i hi
    exact (hb.cell (p := ⟨b, off + i, none⟩) (World.block_lt_of_cell? _ _ this)).trans this
theorem ReadsT.front {w : World} {b off n cap k : Nat} {xs : List ByteArray} (h : ReadsT w (.slice (some ⟨b, off, none⟩) n cap) xs) (hk : k ≤ xs.length) : ReadsT w (.slice (some ⟨b, off, none⟩) k cap) (xs.take k) := by
  obtain ⟨a, cap', e, hc, hh⟩ := h
  injection e with e1 e2 e3
  subst e1 e3
  have hl : (xs.take k).length = k := by rw [List.length_take]; omega
  refine ⟨_, cap, by rw [hl], by omega, ?_⟩
  rcases hh with h0 | ⟨b', off', e4, hh⟩
  · left; omega
  · injection e4 with e4
    injection e4 with e5 e6
    subst e5 e6
    refine .inr ⟨b, off, rfl, fun i hi => ?_⟩
    rw [hl] at hi
    rw [hh i (by omega), List.getD_eq_getElem?_getD, List.getD_eq_getElem?_getD, List.getElem?_take, if_pos hi]
theorem ReadsT.back {w : World} {b off n cap k : Nat} {xs : List ByteArray} (h : ReadsT w (.slice (some ⟨b, off, none⟩) n cap) xs) (hk : k ≤ xs.length) : ReadsT w (.slice (some ⟨b, off + k, none⟩) (n - k) (cap - k)) (xs.drop k) := by
  obtain ⟨a, cap', e, hc, hh⟩ := h
  injection e with e1 e2 e3
  subst e1 e2 e3
  have hl : (xs.drop k).length = xs.length - k := List.length_drop
  refine ⟨_, cap - k, by rw [hl], by omega, ?_⟩
  rcases hh with h0 | ⟨b', off', e4, hh⟩
  · left; omega
  · injection e4 with e4
    injection e4 with e5 e6
    subst e5 e6
    refine .inr ⟨b, off + k, rfl, fun i hi => ?_⟩
    rw [hl] at hi
    rw [Nat.add_assoc, hh (k + i) (by omega), List.getD_eq_getElem?_getD, List.getD_eq_getElem?_getD, List.getElem?_drop]
theorem ReadsT.mid {w : World} {b off n cap f k : Nat} {xs : List ByteArray} (h : ReadsT w (.slice (some ⟨b, off, none⟩) n cap) xs) (hk : f + k ≤ xs.length) : ReadsT w (.slice (some ⟨b, off + f, none⟩) k (cap - f)) ((xs.drop f).take k) := by
  have h1 := h.back (k := f) (by omega)
  exact ReadsT.front (n := n - f) h1 (by rw [List.length_drop]; omega)
theorem own_readsT {w : World} {B n : Nat} {v : Value} {xs : List ByteArray} (h : w.ownsRow B 9 1 v n (xs.map Value.string)) : ReadsT w v xs := by
  have hn : xs.length = n := by have := h.1; simpa using this
  subst hn
  rcases h.2 with ⟨rfl, h0⟩ | ⟨g, cap, cur, rfl, _, hg, hc, _⟩
  · exact ⟨none, 0, by rw [h0], by omega, .inl h0⟩
  · refine ⟨_, cap, rfl, hc, .inr ⟨g, 0, rfl, fun i hi => ?_⟩⟩
    rw [Nat.zero_add, h.cellAt i (by omega), List.getElem?_map, List.getElem?_eq_getElem hi, List.getD_eq_getElem?_getD, List.getElem?_eq_getElem hi]
    rfl
theorem hi9 : (Tryz.prog.info? 9).map (fun i => (i.zero, i.size, i.bytes)) = some (some (.string ByteArray.empty), 1, 16) := by kernel_rfl
theorem info_parts {t : TypeId} {z : Value} {n b : Nat} (h : (Tryz.prog.info? t).map (fun i => (i.zero, i.size, i.bytes)) = some (some z, n, b)) : ∃ i, Tryz.prog.info? t = some i ∧ i.zero = some z ∧ i.size = n ∧ i.bytes = b := by
  obtain ⟨i, hi, he⟩ := Option.map_eq_some_iff.1 h
  injection he with e1 e2
  injection e2 with e2 e3
  exact ⟨i, hi, e1, e2, e3⟩
theorem own_formS {w : World} {B e size n : Nat} {v : Value} {xs : List Value} (h : w.ownsRow B e size v n xs) : ∃ a c, v = .slice a n c := by
  rcases h.2 with ⟨rfl, rfl⟩ | ⟨g, cap, cur, rfl, _⟩
  · exact ⟨_, _, rfl⟩
  · exact ⟨_, _, rfl⟩
theorem new_text (W : World) (u : Value) (t : TypeId) : ∀ (j : Nat) (x : Value), [u][j]? = some x → (W.alloc (.cells #[u] t)).cell? (Addr.add ⟨W.heap.size, 0, none⟩ j) = some x := by
  intro j x hx
  rw [show (Addr.add ⟨W.heap.size, 0, none⟩ j) = ⟨W.heap.size, j, none⟩ by cases j <;> simp [Addr.add], World.cell?_alloc_at _ _ _ _ rfl]
  simpa using hx
theorem one_text (x : ByteArray) : ∀ u ∈ [Value.string x], u.oneCell' = true := by
  intro u hu
  simp only [List.mem_cons, List.not_mem_nil, or_false] at hu
  subst hu
  rfl
theorem own_first {w : World} {B g n cap : Nat} {ys : List ByteArray} {z : Value} (h : w.ownsRow B 9 1 (.slice (some ⟨g, 0, none⟩) (n + 1) cap) (n + 1) (ys.map Value.string ++ [z])) (hn : ys.length = n) : ReadsT w (.slice (some ⟨g, 0, none⟩) n cap) ys := by
  have hc : n + 1 ≤ cap := by
    rcases h.2 with ⟨e, _⟩ | ⟨g', cap', cur, e, _, _, hc, _⟩
    · cases e
    · injection e with _ _ e3; omega
  refine ⟨_, cap, by rw [hn], by omega, .inr ⟨g, 0, rfl, fun i hi => ?_⟩⟩
  rw [Nat.zero_add, h.cellAt i (by omega), List.getElem?_append_left (by rw [List.length_map]; exact hi), List.getElem?_map, List.getElem?_eq_getElem hi, List.getD_eq_getElem?_getD, List.getElem?_eq_getElem hi]
  rfl
theorem own_behind {w : World} {B g n cap : Nat} {ys : List ByteArray} {z : Value} (h : w.ownsRow B 9 1 (.slice (some ⟨g, 0, none⟩) (n + 1) cap) (n + 1) (ys.map Value.string ++ [z])) (hn : ys.length = n) : w.cell? ⟨g, n, none⟩ = some z := by
  rw [h.cellAt n (by omega), List.getElem?_append_right (by rw [List.length_map]; omega), List.length_map, hn, Nat.sub_self]
  rfl
theorem reads_news {w : World} {ad : Addr} {n cap : Nat} {xs : List ByteArray} (h : ReadsT w (.slice (some ad) n cap) xs) : ∀ (j : Nat) (u : Value), (xs.map Value.string)[j]? = some u → w.cell? (ad.add j) = some u := by
  intro j u hu
  have hj : j < xs.length := by have := (List.getElem?_eq_some_iff.1 hu).1; simpa using this
  obtain ⟨a', cap', e, _, h0 | ⟨b, off, e4, hc⟩⟩ := h
  · omega
  · injection e with e1 e2 e3
    rw [← e1] at e4
    obtain rfl := Option.some.inj e4
    rw [Addr.add_mid, hc j hj, ← hu, List.getElem?_map, List.getElem?_eq_getElem hj, List.getD_eq_getElem?_getD, List.getElem?_eq_getElem hj]
    rfl
end Go.Proofs.YtmindflfjocjlaaGreat.ka

namespace Go.Proofs.YtmindflfjocjlaaGreat.na
open Go.PlainAid

theorem and127 (c : Int) (h0 : 0 ≤ c) (h1 : c ≤ 255) : bits .and .u8 c 127 = c % 128 := by
  rw [u8_and c 127 h0 (by omega) (by omega) (by omega)]
  have h : c.toNat &&& (127 : Int).toNat = c.toNat % 128 := Nat.and_two_pow_sub_one_eq_mod c.toNat 7
  rw [h]; omega

theorem or128 (c : Int) (h0 : 0 ≤ c) (h1 : c ≤ 255) : bits .or .u8 128 c = c % 128 + 128 := by
  rw [u8_or 128 c (by omega) (by omega) h0 (by omega)]
  have key : ∀ x : Fin 256, 128 ||| x.val = x.val % 128 + 128 := by decide +kernel
  have h : (128 : Int).toNat ||| c.toNat = c.toNat % 128 + 128 := key ⟨c.toNat, by omega⟩
  rw [h]; omega

theorem or_low (v c : Int) (h0 : 0 ≤ v) (h1 : v < 72057594037927936) (c0 : 0 ≤ c) (c1 : c ≤ 255) : bits .or .u64 (v * 256) c = v * 256 + c := by
  rw [u64_or (v * 256) c (by omega) (by omega) c0 (by omega)]
  have h : (v * 256).toNat ||| c.toNat = 2 ^ 8 * v.toNat + c.toNat := by
    rw [Nat.two_pow_add_eq_or_of_lt (by omega)]
    congr 1
    omega
  rw [h]; omega

theorem pow128 (k : Nat) : (2 : Int) ^ (7 * k) = 128 ^ k := by rw [Int.pow_mul]; rfl

theorem pow_pos (k : Nat) : (1 : Int) ≤ 128 ^ k := by
  have : (0 : Int) < 128 ^ k := Int.pow_pos (by omega)
  omega

theorem ipow_le (a : Nat) (ha : 0 < a) {m n : Nat} (h : m ≤ n) : (a : Int) ^ m ≤ (a : Int) ^ n := by
  exact_mod_cast Nat.pow_le_pow_right ha h

theorem pow_nine (k : Nat) (h : k ≤ 9) : (128 : Int) ^ k ≤ 9223372036854775808 := by
  have h1 := ipow_le 128 (by omega) h
  have h2 : ((128 : Nat) : Int) ^ 9 = 9223372036854775808 := by decide
  rw [h2] at h1
  exact h1

theorem pow_eight (k : Nat) (h : k ≤ 8) : (128 : Int) ^ k ≤ 72057594037927936 := by
  have h1 := ipow_le 128 (by omega) h
  have h2 : ((128 : Nat) : Int) ^ 8 = 72057594037927936 := by decide
  rw [h2] at h1
  exact h1

theorem group_lt (v c : Int) (k : Nat) (hv : v < 128 ^ k) : v + c % 128 * 128 ^ k < 128 ^ (k + 1) := by
  have h1 := pow_pos k
  have h2 : c % 128 * 128 ^ k ≤ 127 * 128 ^ k := Int.mul_le_mul_of_nonneg_right (by omega) (by omega)
  rw [Int.pow_succ]; omega

theorem group_nonneg (c : Int) (k : Nat) : 0 ≤ c % 128 * 128 ^ k := by
  have h1 := pow_pos k
  exact Int.mul_nonneg (by omega) (by omega)

theorem group_max (v c : Int) (k : Nat) (hk : k ≤ 9) (hv : v < 128 ^ k) (h9 : k = 9 → c ≤ 1) (hc : 0 ≤ c) : v + c % 128 * 128 ^ k ≤ 18446744073709551615 := by
  by_cases e : k = 9
  · subst e
    have h := h9 rfl
    have h9' : (128 : Int) ^ 9 = 9223372036854775808 := by decide
    rw [h9'] at hv ⊢
    omega
  · have h := group_lt v c k hv
    have h' := pow_nine (k + 1) (by omega)
    omega

def varR (b : ByteArray) (p : Nat) : Nat → Nat → Int → Int × Int × Int
  | 0, _, _ => (0, 0, 11)
  | f + 1, k, x =>
    if b.size ≤ p + k then (0, 0, 12)
    else if k = 9 ∧ 1 < bt b (p + k) then (0, 0, 11)
    else if 0 < k ∧ bt b (p + k) = 0 then (0, 0, 13)
    else if bt b (p + k) < 128 then (x + bt b (p + k) % 128 * 128 ^ k, (p : Int) + k + 1, 0)
    else varR b p f (k + 1) (x + bt b (p + k) % 128 * 128 ^ k)

theorem varR_end (b : ByteArray) (p k : Nat) (x : Int) : varR b p 0 k x = (0, 0, 11) := rfl
theorem varR_short (b : ByteArray) (p f k : Nat) (x : Int) (h : b.size ≤ p + k) : varR b p (f + 1) k x = (0, 0, 12) := by
  rw [varR, if_pos h]
theorem varR_over (b : ByteArray) (p f k : Nat) (x : Int) (h : ¬ b.size ≤ p + k) (h1 : k = 9 ∧ 1 < bt b (p + k)) : varR b p (f + 1) k x = (0, 0, 11) := by
  rw [varR, if_neg h, if_pos h1]
theorem varR_form (b : ByteArray) (p f k : Nat) (x : Int) (h : ¬ b.size ≤ p + k) (h1 : ¬ (k = 9 ∧ 1 < bt b (p + k))) (h2 : 0 < k ∧ bt b (p + k) = 0) : varR b p (f + 1) k x = (0, 0, 13) := by
  rw [varR, if_neg h, if_neg h1, if_pos h2]
theorem varR_last (b : ByteArray) (p f k : Nat) (x : Int) (h : ¬ b.size ≤ p + k) (h1 : ¬ (k = 9 ∧ 1 < bt b (p + k))) (h2 : ¬ (0 < k ∧ bt b (p + k) = 0)) (h3 : bt b (p + k) < 128) :
    varR b p (f + 1) k x = (x + bt b (p + k) % 128 * 128 ^ k, (p : Int) + k + 1, 0) := by
  rw [varR, if_neg h, if_neg h1, if_neg h2, if_pos h3]
theorem varR_next (b : ByteArray) (p f k : Nat) (x : Int) (h : ¬ b.size ≤ p + k) (h1 : ¬ (k = 9 ∧ 1 < bt b (p + k))) (h2 : ¬ (0 < k ∧ bt b (p + k) = 0)) (h3 : ¬ bt b (p + k) < 128) :
    varR b p (f + 1) k x = varR b p f (k + 1) (x + bt b (p + k) % 128 * 128 ^ k) := by
  rw [varR, if_neg h, if_neg h1, if_neg h2, if_neg h3]

def beR (b : ByteArray) (p : Nat) : Nat → Int
  | 0 => 0
  | k + 1 => beR b p k * 256 + bt b (p + k)

theorem beR_nonneg (b : ByteArray) (p k : Nat) : 0 ≤ beR b p k := by
  induction k with
  | zero => exact Int.le_refl 0
  | succ k ih => have := bt_nonneg b (p + k); rw [beR]; omega

theorem beR_lt (b : ByteArray) (p k : Nat) : beR b p k < 256 ^ k := by
  induction k with
  | zero => show (0 : Int) < 1; omega
  | succ k ih => have := bt_le b (p + k); rw [beR, Int.pow_succ]; omega

theorem beR_seven (b : ByteArray) (p k : Nat) (h : k ≤ 7) : beR b p k < 72057594037927936 := by
  have h1 := beR_lt b p k
  have h2 := ipow_le 256 (by omega) h
  have h3 : ((256 : Nat) : Int) ^ 7 = 72057594037927936 := by decide
  rw [h3] at h2
  exact Int.lt_of_lt_of_le h1 h2

end Go.Proofs.YtmindflfjocjlaaGreat.na

namespace Go.Proofs.YtmindflfjocjlaaGreat.nb
open Go.RowKit Go.PlainAid
open Go.Proofs.YtmindflfjocjlaaGreat.na
set_option linter.unusedVariables false

def row (ns : List Int) : Array Value := (ns.map (Value.int .u8)).toArray
def str (ns : List Int) : ByteArray := ns.foldl (fun r n => r.push (UInt8.ofNat n.toNat)) ByteArray.empty

theorem row_size (ns : List Int) : (row ns).size = ns.length := by simp [row]
theorem row_set (ns : List Int) (i : Nat) (x : Int) : (row ns).setIfInBounds i (.int .u8 x) = row (ns.set i x) := by
  simp [row]
theorem row_get (ns : List Int) (i : Nat) : (row ns)[i]? = (ns[i]?).map (Value.int .u8) := by simp [row]

theorem info5 : (Tryz.prog.info? 5).map (fun i => (i.zero, i.size, i.bytes)) = some (some (.int .u8 0), 1, 1) := by kernel_rfl

theorem made_row (n : Nat) : madeCells (Value.int .u8 0).cells n = row (List.replicate n 0) := by
  apply Array.ext
  · simp [size_madeCells, row_size]
  · intro i h1 h2
    simp [madeCells, row, Value.cells, Nat.mod_one]

theorem make_row (n : Nat) (hn : n ≤ 1048576) (w : World) :
    (Instr.makeSlice 108 (.int .i64 n) (.int .i64 n)).run Tryz.prog w = .ok (.slice (some ⟨w.heap.size, 0, none⟩) n n) (w.alloc (.cells (row (List.replicate n 0)) 5)) := by
  obtain ⟨i, hi, hz0, hz1, hz2⟩ := info_parts info5
  have h := run_make (P := Tryz.prog) w 108 5 i (.int .u8 0) Tryz.underlying108 hi hz0 .i64 .i64 (n : Int) (n : Int) (by omega) (by omega) (by rw [hz2]; omega) (by omega)
  rw [hz1] at h
  simp only [Int.toNat_natCast, Nat.mul_one] at h
  rw [made_row] at h
  exact h

theorem conv_row (ns : List Int) (w : World) (n : Nat) (hn : n = ns.length) :
    (convert 108 9 (.slice (some ⟨w.heap.size, 0, none⟩) n n)).run Tryz.prog (w.alloc (.cells (row ns) 5)) = .ok (.string (str ns)) (w.alloc (.cells (row ns) 5)) := by
  subst hn
  rw [run_convert_bytes_string _ 108 9 5 _ _ _ Tryz.underlying108 Tryz.underlying5 Tryz.underlying9]
  refine run_bytesToString _ _ _ _ ns ?_
  have h := run_loadCells_list (P := Tryz.prog) (w := w.alloc (.cells (row ns) 5)) ⟨w.heap.size, 0, none⟩ (ns.map (Value.int .u8)) ?_
  · simpa using h
  · intro j v hj
    have e : (Addr.add ⟨w.heap.size, 0, none⟩ j) = ⟨w.heap.size, j, none⟩ := by cases j <;> simp [Addr.add]
    rw [e, World.cell?_alloc_at _ _ _ _ rfl, row, List.getElem?_toArray]
    exact hj

theorem str_snoc (ns : List Int) (x : Int) : str (ns ++ [x]) = (str ns).push (UInt8.ofNat x.toNat) := by simp [str]

theorem foldl_data (ns : List Int) : ∀ r : ByteArray, (ns.foldl (fun r n => r.push (UInt8.ofNat n.toNat)) r).data = r.data ++ (ns.map fun n => UInt8.ofNat n.toNat).toArray := by
  induction ns with
  | nil => intro r; simp
  | cons x ns ih =>
    intro r
    rw [List.foldl_cons, ih]
    show r.data.push _ ++ _ = _
    simp

theorem str_data (ns : List Int) : (str ns).data = (ns.map fun n => UInt8.ofNat n.toNat).toArray := by
  have h := foldl_data ns ByteArray.empty
  simpa [str] using h

theorem str_size (ns : List Int) : (str ns).size = ns.length := by
  show (str ns).data.size = _
  rw [str_data]; simp

theorem str_bt (ns : List Int) (k : Nat) (hk : k < ns.length) (h0 : 0 ≤ ns[k]) (h1 : ns[k] ≤ 255) : bt (str ns) k = ns[k] := by
  unfold bt
  rw [dif_pos (by rw [str_size]; exact hk)]
  have e : (str ns)[k]'(by rw [str_size]; exact hk) = UInt8.ofNat (ns[k]).toNat := by
    show (str ns).data[k]'_ = _
    simp [str_data]
  rw [e]
  have : (UInt8.ofNat (ns[k]).toNat).toNat = (ns[k]).toNat := by simp; omega
  omega

theorem ext_bt (a b : ByteArray) (hs : a.size = b.size) (h : ∀ k, k < a.size → bt a k = bt b k) : a = b := by
  apply ByteArray.ext
  apply Array.ext
  · exact hs
  · intro i h1 h2
    have e := h i h1
    unfold bt at e
    rw [dif_pos (show i < a.size from h1), dif_pos (show i < b.size from h2)] at e
    have e2 : (a[i]'h1).toNat = (b[i]'h2).toNat := by omega
    exact UInt8.toNat_inj.1 e2

theorem bt_append_left (a b : ByteArray) (k : Nat) (h : k < a.size) : bt (a ++ b) k = bt a k := by
  have hs : (a ++ b).size = a.size + b.size := ByteArray.size_append
  unfold bt
  rw [dif_pos h, dif_pos (by omega)]
  rw [ByteArray.getElem_append_left h]

theorem bt_append_right (a b : ByteArray) (k : Nat) : bt (a ++ b) (a.size + k) = bt b k := by
  have hs : (a ++ b).size = a.size + b.size := ByteArray.size_append
  unfold bt
  by_cases h : k < b.size
  · rw [dif_pos h, dif_pos (by omega)]
    rw [ByteArray.getElem_append_right (by omega)]
    simp
  · rw [dif_neg h, dif_neg (by omega)]

theorem bt_extract (a : ByteArray) (i j k : Nat) (h : i + k < j) (hj : j ≤ a.size) : bt (a.extract i j) k = bt a (i + k) := by
  have hs : (a.extract i j).size = min j a.size - i := ByteArray.size_extract
  unfold bt
  rw [dif_pos (by omega), dif_pos (by omega)]
  rw [ByteArray.getElem_extract]
end Go.Proofs.YtmindflfjocjlaaGreat.nb

namespace Go.Proofs.YtmindflfjocjlaaGreat.sb
open Go.Shelf
set_option linter.unusedVariables false
def renC : Go.Shelf.Ren := ⟨fun | 25 => 87 | n => n, fun | 0 => 0 | 3 => 3 | 4 => 4 | 5 => 5 | 9 => 9 | 37 => 108 | 47 => 145 | n => n, fun | n => n⟩
theorem laysC : Go.Proofs.LaysPu.n25 Tryz.prog renC := {
  mixed := by kernel_rfl
  f25 := Tryz.func87.trans (congrArg some (by kernel_rfl))
  t0 := Tryz.underlying0
  a0 := Tryz.isAgg0
  z0 := Tryz.sizeOf0
  v0 := Tryz.zeroValue0
  i0 := by kernel_rfl
  t3 := Tryz.underlying3
  a3 := Tryz.isAgg3
  z3 := Tryz.sizeOf3
  v3 := Tryz.zeroValue3
  i3 := by kernel_rfl
  t4 := Tryz.underlying4
  a4 := Tryz.isAgg4
  z4 := Tryz.sizeOf4
  v4 := Tryz.zeroValue4
  i4 := by kernel_rfl
  t5 := Tryz.underlying5
  a5 := Tryz.isAgg5
  z5 := Tryz.sizeOf5
  v5 := Tryz.zeroValue5
  i5 := by kernel_rfl
  t9 := Tryz.underlying9
  a9 := Tryz.isAgg9
  z9 := Tryz.sizeOf9
  v9 := Tryz.zeroValue9
  i9 := by kernel_rfl
  t37 := Tryz.underlying108
  a37 := Tryz.isAgg108
  z37 := Tryz.sizeOf108
  v37 := Tryz.zeroValue108
  i37 := by kernel_rfl
  t47 := Tryz.underlying145
  a47 := Tryz.isAgg145
  z47 := Tryz.sizeOf145
  v47 := Tryz.zeroValue145
  i47 := by kernel_rfl }
end Go.Proofs.YtmindflfjocjlaaGreat.sb

namespace Go.Proofs.YtmindflfjocjlaaGreat.ya
open Go.Maps
set_option linter.unusedVariables false
set_option linter.unusedSimpArgs false

abbrev Rec := ByteArray × ByteArray
def bs (s : ByteArray) : List UInt8 := s.data.toList
theorem bs_inj {a b : ByteArray} (h : bs a = bs b) : a = b := by
  cases a; cases b
  simp only [bs] at h
  rw [Array.toList_inj] at h
  rw [h]
theorem bs_eq (a b : ByteArray) : (bs a == bs b) = decide (a = b) := by
  by_cases h : a = b
  · subst h; simp
  · rw [decide_eq_false h, beq_eq_false_iff_ne]
    exact fun e => h (bs_inj e)
theorem bs_len (a : ByteArray) : (bs a).length = a.size := Array.length_toList
def lt (a b : ByteArray) : Bool := bytesBefore (bs a) (bs b)
theorem lt_irr (a : ByteArray) : lt a a = false := WideAt.bytes_irrefl _
theorem lt_tr {a b c : ByteArray} (h1 : lt a b = true) (h2 : lt b c = true) : lt a c = true := WideShapes.bytes_trans _ _ _ h1 h2
theorem lt_tot (a b : ByteArray) (h : a ≠ b) : lt a b = true ∨ lt b a = true := WideAt.bytes_total _ _ (fun e => h (bs_inj e))
theorem lt_ne {a b : ByteArray} (h : lt a b = true) : a ≠ b := by rintro rfl; rw [lt_irr] at h; cases h
theorem lt_asym {a b : ByteArray} (h : lt a b = true) : lt b a = false := by
  cases h2 : lt b a with
  | false => rfl
  | true => have := lt_tr h h2; rw [lt_irr] at this; cases this
theorem lt_iff (a b : ByteArray) : lt a b = decide (bs a < bs b) := by
  unfold lt
  generalize bs a = x
  generalize bs b = y
  induction x generalizing y with
  | nil => cases y <;> simp [bytesBefore]
  | cons u x ih =>
    cases y with
    | nil => simp [bytesBefore]
    | cons v y =>
      simp only [bytesBefore, ih y]
      by_cases h1 : u < v
      · simp [h1, List.cons_lt_cons_iff]
      · by_cases h2 : u = v
        · subst h2; simp [List.cons_lt_cons_iff]
        · simp [h1, h2, List.cons_lt_cons_iff]

-- records, rising by their keys
def ins (x : Rec) : List Rec → List Rec
  | [] => [x]
  | y :: r => if lt x.1 y.1 then x :: y :: r else y :: ins x r
def del (k : ByteArray) (r : List Rec) : List Rec := r.filter fun p => !decide (p.1 = k)
def put (k d : ByteArray) (r : List Rec) : List Rec := ins (k, d) (del k r)
def rget (k : ByteArray) (r : List Rec) : Option ByteArray := (r.find? fun p => decide (p.1 = k)).map (·.2)
def Srt (r : List Rec) : Prop := r.Pairwise fun p q => lt p.1 q.1 = true
def cnt (p : Rec) : Nat := p.1.size + p.2.size + 16
def tot : List Rec → Nat
  | [] => 0
  | p :: r => cnt p + tot r
def at0 (k : ByteArray) (r : List Rec) : Nat := match rget k r with | some d => cnt (k, d) | none => 0
theorem mem_ins {x y : Rec} {r : List Rec} : y ∈ ins x r ↔ y = x ∨ y ∈ r := by
  induction r with
  | nil => simp [ins]
  | cons z r ih =>
    unfold ins
    split
    · simp
    · simp only [List.mem_cons, ih]
      constructor
      · rintro (h | h | h)
        · exact .inr (.inl h)
        · exact .inl h
        · exact .inr (.inr h)
      · rintro (h | h | h)
        · exact .inr (.inl h)
        · exact .inl h
        · exact .inr (.inr h)
theorem mem_del {k : ByteArray} {y : Rec} {r : List Rec} : y ∈ del k r ↔ y ∈ r ∧ y.1 ≠ k := by simp [del]
theorem mem_put {k d : ByteArray} {y : Rec} {r : List Rec} : y ∈ put k d r ↔ y = (k, d) ∨ (y ∈ r ∧ y.1 ≠ k) := by rw [put, mem_ins, mem_del]
theorem srt_del {k : ByteArray} {r : List Rec} (h : Srt r) : Srt (del k r) := List.Pairwise.filter _ h
theorem srt_ins {x : Rec} {r : List Rec} (h : Srt r) (hn : ∀ y ∈ r, y.1 ≠ x.1) : Srt (ins x r) := by
  induction r with
  | nil => simp [ins, Srt]
  | cons y r ih =>
    obtain ⟨h1, h2⟩ := List.pairwise_cons.1 h
    unfold ins
    split
    · rename_i hl
      refine List.pairwise_cons.2 ⟨fun z hz => ?_, h⟩
      rcases List.mem_cons.1 hz with rfl | hz
      · exact hl
      · exact lt_tr hl (h1 z hz)
    · rename_i hl
      refine List.pairwise_cons.2 ⟨fun z hz => ?_, ih h2 (fun z hz => hn z (by simp [hz]))⟩
      rcases mem_ins.1 hz with rfl | hz
      · rcases lt_tot y.1 z.1 (hn y (by simp)) with h3 | h3
        · exact h3
        · exact absurd h3 (by simpa using hl)
      · exact h1 z hz
theorem srt_put {k d : ByteArray} {r : List Rec} (h : Srt r) : Srt (put k d r) := srt_ins (srt_del h) (fun y hy => (mem_del.1 hy).2)
theorem get_some {k d : ByteArray} {r : List Rec} (h : Srt r) : rget k r = some d ↔ (k, d) ∈ r := by
  induction r with
  | nil => simp [rget]
  | cons y r ih =>
    obtain ⟨h1, h2⟩ := List.pairwise_cons.1 h
    have ih := ih h2
    unfold rget at ih ⊢
    rw [List.find?_cons]
    by_cases e : y.1 = k
    · rw [decide_eq_true e]
      simp only [Option.map_some, Option.some.injEq, List.mem_cons]
      constructor
      · rintro rfl; left; rw [← e]
      · rintro (h3 | h3)
        · rw [← h3]
        · exact absurd e (by have := lt_ne (h1 _ h3); exact this)
    · rw [decide_eq_false e]
      simp only [List.mem_cons]
      rw [ih]
      constructor
      · exact .inr
      · rintro (h3 | h3)
        · exact absurd (by rw [← h3]) e
        · exact h3
theorem get_none {k : ByteArray} {r : List Rec} : rget k r = none ↔ ∀ y ∈ r, y.1 ≠ k := by simp [rget]
theorem get_put_same {k d : ByteArray} {r : List Rec} (h : Srt r) : rget k (put k d r) = some d := (get_some (srt_put h)).2 (mem_put.2 (.inl rfl))
theorem get_put_other {k d k' : ByteArray} {r : List Rec} (h : Srt r) (hn : k' ≠ k) : rget k' (put k d r) = rget k' r := by
  cases h1 : rget k' r with
  | none =>
    refine get_none.2 fun y hy => ?_
    rcases mem_put.1 hy with rfl | ⟨h2, _⟩
    · exact hn.symm
    · exact get_none.1 h1 y h2
  | some x => exact (get_some (srt_put h)).2 (mem_put.2 (.inr ⟨(get_some h).1 h1, hn⟩))
theorem get_del_same {k : ByteArray} {r : List Rec} : rget k (del k r) = none := get_none.2 fun y hy => (mem_del.1 hy).2
theorem get_del_other {k k' : ByteArray} {r : List Rec} (h : Srt r) (hn : k' ≠ k) : rget k' (del k r) = rget k' r := by
  cases h1 : rget k' r with
  | none => exact get_none.2 fun y hy => get_none.1 h1 y (mem_del.1 hy).1
  | some x => exact (get_some (srt_del h)).2 (mem_del.2 ⟨(get_some h).1 h1, hn⟩)
-- two lists with the same answers are one
theorem ext_get {a b : List Rec} (ha : Srt a) (hb : Srt b) (h : ∀ k, rget k a = rget k b) : a = b := by
  have hm : ∀ x, x ∈ a ↔ x ∈ b := fun x => by
    rw [← show (x.1, x.2) = x from rfl, ← get_some ha, ← get_some hb, h]
  have na : a.Nodup := List.Pairwise.imp (fun {p q} h e => by subst e; rw [lt_irr] at h; cases h) ha
  have nb : b.Nodup := List.Pairwise.imp (fun {p q} h e => by subst e; rw [lt_irr] at h; cases h) hb
  refine List.Perm.eq_of_pairwise (le := fun (p q : Rec) => lt p.1 q.1 = true) (fun p q _ _ h1 h2 => ?_) ha hb ((List.perm_ext_iff_of_nodup na nb).2 hm)
  have := lt_tr h1 h2
  rw [lt_irr] at this
  cases this
theorem tot_ins (x : Rec) (r : List Rec) : tot (ins x r) = cnt x + tot r := by
  induction r with
  | nil => simp [ins, tot]
  | cons y r ih =>
    unfold ins
    split
    · simp [tot]
    · simp [tot, ih]; omega
theorem del_none {k : ByteArray} {r : List Rec} (h : rget k r = none) : del k r = r := by
  unfold del
  rw [List.filter_eq_self]
  intro y hy
  simpa using get_none.1 h y hy
theorem tot_del (k : ByteArray) (r : List Rec) (h : Srt r) : tot r = tot (del k r) + at0 k r := by
  induction r with
  | nil => rfl
  | cons y r ih =>
    obtain ⟨h1, h2⟩ := List.pairwise_cons.1 h
    by_cases e : y.1 = k
    · have hn : rget k r = none := get_none.2 fun z hz => by
        rw [← e]; exact (lt_ne (h1 z hz)).symm
      have hd : del k (y :: r) = r := by
        have h3 := del_none hn
        unfold del at h3 ⊢
        rw [List.filter_cons, decide_eq_true e]
        exact h3
      have hg : rget k (y :: r) = some y.2 := (get_some h).2 (by rw [← e]; exact List.mem_cons_self)
      rw [hd]
      unfold at0
      rw [hg]
      simp only [tot]
      rw [← e]
      show cnt y + _ = _ + cnt y
      omega
    · have hd : del k (y :: r) = y :: del k r := by
        unfold del; rw [List.filter_cons, decide_eq_false e]; rfl
      have hg : rget k (y :: r) = rget k r := by
        unfold rget; rw [List.find?_cons, decide_eq_false e]
      rw [hd]
      unfold at0
      rw [hg]
      simp only [tot]
      have := ih h2
      unfold at0 at this
      omega
theorem tot_put (k d : ByteArray) (r : List Rec) (h : Srt r) : tot (put k d r) + at0 k r = tot r + cnt (k, d) := by
  rw [put, tot_ins, tot_del k r h]; omega
theorem len_del (k : ByteArray) (r : List Rec) : (del k r).length ≤ r.length := List.length_filter_le _ _
theorem len_ins (x : Rec) (r : List Rec) : (ins x r).length = r.length + 1 := by
  induction r with
  | nil => rfl
  | cons y r ih => unfold ins; split <;> simp [ih]
theorem len_put (k d : ByteArray) (r : List Rec) : (put k d r).length ≤ r.length + 1 := by
  rw [put, len_ins]; have := len_del k r; omega

-- as a map's datum
def ent (p : Rec) : Lit × DataW Unit := (.string (bs p.1), .lit (.string (bs p.2)))
def dat (r : List Rec) : DataW Unit := .map (r.map ent)
theorem same_key (p : Rec) (k : ByteArray) : (ent p).1.sameKey (.string (bs k)) = decide (p.1 = k) := by
  show (bs p.1 == bs k) = _
  exact bs_eq _ _
theorem dat_del (k : ByteArray) (r : List Rec) : (dat r).del (.string (bs k)) = dat (del k r) := by
  unfold dat DataW.del del
  simp only [List.filter_map, DataW.map.injEq]
  congr 1
  apply List.filter_congr
  intro x _
  simp only [Function.comp_def]
  rw [same_key]
theorem dat_ins (x : Rec) (r : List Rec) : DataW.insert (ent x) (r.map ent) = (ins x r).map ent := by
  induction r with
  | nil => rfl
  | cons y r ih =>
    simp only [List.map_cons]
    unfold DataW.insert ins
    have : (ent x).1.before (ent y).1 = lt x.1 y.1 := rfl
    rw [this]
    split
    · rfl
    · simp [ih]
theorem dat_put (k d : ByteArray) (r : List Rec) : (dat r).put (.string (bs k)) (.lit (.string (bs d))) = dat (put k d r) := by
  have h := dat_del k r
  unfold dat DataW.del at h
  simp only [DataW.map.injEq] at h
  unfold dat DataW.put put
  rw [← dat_ins]
  simp only [DataW.map.injEq]
  rw [h]
  rfl
theorem dat_has (k : ByteArray) (r : List Rec) : Maps.has (dat r) (.string (bs k)) = (rget k r).isSome := by
  unfold dat rget
  rw [Maps.has_eq, Option.isSome_map]
  induction r with
  | nil => rfl
  | cons y r ih =>
    rw [List.map_cons, List.any_cons, same_key, ih, List.find?_cons]
    by_cases e : y.1 = k
    · simp [decide_eq_true e]
    · simp [decide_eq_false e]
theorem dat_at (k : ByteArray) (r : List Rec) (z : DataW Unit) : (dat r).atKey (.string (bs k)) z = match rget k r with | some d => .lit (.string (bs d)) | none => z := by
  unfold dat rget DataW.atKey
  simp only
  induction r with
  | nil => rfl
  | cons y r ih =>
    rw [List.map_cons, List.find?_cons, same_key, List.find?_cons]
    by_cases e : y.1 = k
    · simp [decide_eq_true e, ent]
    · simp only [decide_eq_false e]
      exact ih
theorem dat_size (r : List Rec) : Maps.size (dat r) = r.length := by simp [dat, Maps.size]
theorem dat_keys (r : List Rec) : strKeys (dat r) = r.map fun p => bs p.1 := by
  simp [dat, strKeys, ent, strOf, Function.comp_def]
end Go.Proofs.YtmindflfjocjlaaGreat.ya
