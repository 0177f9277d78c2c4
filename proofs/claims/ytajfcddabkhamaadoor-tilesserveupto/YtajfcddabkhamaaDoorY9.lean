import Derived.Test.YtajfcddabkhamaaDoorY5
import Derived.Test.YtajfcddabkhamaaDoorY1
import Derived.PlainAid
import Derived.Laws.BitsAllLaws
import Derived.WalkKit
import Derived.Test.YtajfcddabkhamaaDoorProg
import Derived.WalkSpells
import Derived.Laws.BytesString
import Derived.Laws.MakeOwn
import Derived.OwnWalk
import Derived.Lib.BitFns
import Derived.ProofKit
import Derived.Below
namespace Go.Proofs.YtajfcddabkhamaaDoor.kp
open Go.RowKit Go.PlainAid
open Go.Proofs.YtajfcddabkhamaaDoor.ca Go.Proofs.YtajfcddabkhamaaDoor.cb Go.Proofs.YtajfcddabkhamaaDoor.cp Go.Proofs.YtajfcddabkhamaaDoor.ga
set_option linter.unusedVariables false

-- but for the blocks of A the world is as it was
structure Kp (A : Nat → Prop) (w w' : World) : Prop where
  os : w'.os = w.os
  tape : w'.tape = w.tape
  output : w'.output = w.output
  size : w.heap.size ≤ w'.heap.size
  block : ∀ k, k < w.heap.size → ¬ A k → w'.heap[k]? = w.heap[k]?
theorem Kp.refl (A : Nat → Prop) (w : World) : Kp A w w := ⟨rfl, rfl, rfl, Nat.le_refl _, fun _ _ _ => rfl⟩
theorem Kp.trans {A : Nat → Prop} {a b c : World} (x : Kp A a b) (y : Kp A b c) : Kp A a c :=
  ⟨y.os.trans x.os, y.tape.trans x.tape, y.output.trans x.output, Nat.le_trans x.size y.size, fun k hk hn => (y.block k (Nat.lt_of_lt_of_le hk x.size) hn).trans (x.block k hk hn)⟩
theorem Kp.mono {A B : Nat → Prop} {w w' : World} (x : Kp A w w') (h : ∀ k, A k → B k) : Kp B w w' := ⟨x.os, x.tape, x.output, x.size, fun k hk hn => x.block k hk (fun a => hn (h k a))⟩
theorem Kp.of_below {A : Nat → Prop} {w w' : World} (x : Below w.heap.size w w') : Kp A w w' := ⟨x.os, x.tape, x.output, x.size, fun k hk _ => x.block k hk⟩
theorem Kp.setCell {A : Nat → Prop} (w : World) (b o : Nat) (v : Value) (hb : A b) : Kp A w (w.setCell ⟨b, o, none⟩ v) :=
  ⟨rfl, rfl, rfl, by simp [World.setCell], fun k hk hn => Below.heap_setCell _ _ _ _ (fun e => hn (e ▸ hb))⟩
theorem Kp.below {A : Nat → Prop} {B : Nat} {w w' : World} (x : Kp A w w') (hA : ∀ k, A k → B ≤ k) (hB : B ≤ w.heap.size) : Below B w w' :=
  ⟨x.os, x.tape, x.output, x.size, fun k hk => x.block k (by omega) (fun a => by have := hA k a; omega)⟩
theorem Kp.cell {A : Nat → Prop} {w w' : World} (x : Kp A w w') {b o : Nat} {v : Value} (h : w.cell? ⟨b, o, none⟩ = some v) (hn : ¬ A b) : w'.cell? ⟨b, o, none⟩ = some v := by
  have hlt := World.block_lt_of_cell? _ _ h
  have := x.block b hlt hn
  rw [← h]
  unfold World.cell?
  rw [show (⟨b, o, none⟩ : Addr).block = b from rfl, this]
-- a walk down the parts that keeps something in mind: what it does at a part, what stands there, how two halves are joined
structure Wy (X V : Type) where
  lk : X → Nat → Nat → Nat × X
  hv : X → Nat → Nat → Nat → V × X
  jn : V → V → V
def go {X V : Type} (W : Wy X V) (x : X) (a b : Nat) : V × X :=
  if (W.lk x a b).1 < 2 then W.hv (W.lk x a b).2 a b (W.lk x a b).1
  else if h : 2 ≤ b - a then
    if (W.lk x a b).1 = 2 then
      (W.jn (go W (W.lk x a b).2 a (a + half (b - a))).1 (go W (go W (W.lk x a b).2 a (a + half (b - a))).2 (a + half (b - a)) b).1, (go W (go W (W.lk x a b).2 a (a + half (b - a))).2 (a + half (b - a)) b).2)
    else
      (W.jn (go W (go W (W.lk x a b).2 (a + half (b - a)) b).2 a (a + half (b - a))).1 (go W (W.lk x a b).2 (a + half (b - a)) b).1, (go W (go W (W.lk x a b).2 (a + half (b - a)) b).2 a (a + half (b - a))).2)
  else W.hv (W.lk x a b).2 a b 0
termination_by b - a
decreasing_by all_goals (have := half_lt h; omega)
theorem go_stop {X V : Type} {W : Wy X V} {x : X} {a b : Nat} (h : (W.lk x a b).1 < 2) : go W x a b = W.hv (W.lk x a b).2 a b (W.lk x a b).1 := by rw [go, if_pos h]
theorem go_left {X V : Type} {W : Wy X V} {x : X} {a b : Nat} (h : (W.lk x a b).1 = 2) (h2 : 2 ≤ b - a) : go W x a b = (W.jn (go W (W.lk x a b).2 a (a + half (b - a))).1 (go W (go W (W.lk x a b).2 a (a + half (b - a))).2 (a + half (b - a)) b).1, (go W (go W (W.lk x a b).2 a (a + half (b - a))).2 (a + half (b - a)) b).2) := by rw [go, if_neg (by omega), dif_pos h2, if_pos h]
theorem go_right {X V : Type} {W : Wy X V} {x : X} {a b : Nat} (h : 3 ≤ (W.lk x a b).1) (h2 : 2 ≤ b - a) : go W x a b = (W.jn (go W (go W (W.lk x a b).2 (a + half (b - a)) b).2 a (a + half (b - a))).1 (go W (W.lk x a b).2 (a + half (b - a)) b).1, (go W (go W (W.lk x a b).2 (a + half (b - a)) b).2 a (a + half (b - a))).2) := by rw [go, if_neg (by omega), dif_pos h2, if_neg (by omega)]
-- F: the blocks that are written; P: what is asked of a part ahead of its walk; Q: what holds of what is made
structure Wk {X V : Type} (F : Nat → Prop) (St : X → World → Prop) (enc : V → Value) (W : Wy X V) (P : X → Nat → Nat → Prop) (Q : V → Prop) (lg hg jg : Nat) (lv hv jv : Array Value) : Prop where
  lent : ∀ args w, (callFunc lg args).run Tryd.prog w = .ok (.enter lg args) w
  hent : ∀ args w, (callFunc hg args).run Tryd.prog w = .ok (.enter hg args) w
  jent : ∀ args w, (callFunc jg args).run Tryd.prog w = .ok (.enter jg args) w
  later : ∀ {x w w'}, St x w → Below w.heap.size w w' → St x w'
  fl : ∀ {x w}, St x w → ∀ b, F b → b < w.heap.size
  look : ∀ x (a b : Nat) w, a < b → b ≤ 4611686018427387904 → P x a b → St x w → Calls Tryd.prog lg (#[.agg #[.int .i64 a, .int .i64 b]] ++ lv) w fun e w' => e = .returned (.int .i64 ((W.lk x a b).1 : Nat)) ∧ St (W.lk x a b).2 w' ∧ Kp F w w'
  have' : ∀ x (a b : Nat) w, a < b → b ≤ 4611686018427387904 → P x a b → (W.lk x a b).1 < 2 → St (W.lk x a b).2 w → Calls Tryd.prog hg (#[.agg #[.int .i64 a, .int .i64 b], .int .i64 ((W.lk x a b).1 : Nat)] ++ hv) w fun e w' => e = .returned (enc (W.hv (W.lk x a b).2 a b (W.lk x a b).1).1) ∧ St (W.hv (W.lk x a b).2 a b (W.lk x a b).1).2 w' ∧ Kp F w w'
  join : ∀ l r x w, Q l → Q r → St x w → Calls Tryd.prog jg (#[enc l, enc r] ++ jv) w fun e w' => e = .returned (enc (W.jn l r)) ∧ Below w.heap.size w w'
  qh : ∀ {x a b}, a < b → P x a b → (W.lk x a b).1 < 2 → Q (W.hv (W.lk x a b).2 a b (W.lk x a b).1).1
  qj : ∀ {l r}, Q l → Q r → Q (W.jn l r)
  wide : ∀ {x a b}, a < b → P x a b → 2 ≤ (W.lk x a b).1 → 2 ≤ b - a
  four : ∀ {x a b}, a < b → P x a b → (W.lk x a b).1 ≤ 3
  left : ∀ {x a b}, a < b → P x a b → (W.lk x a b).1 = 2 → P (W.lk x a b).2 a (a + half (b - a)) ∧ P (go W (W.lk x a b).2 a (a + half (b - a))).2 (a + half (b - a)) b
  right : ∀ {x a b}, a < b → P x a b → (W.lk x a b).1 = 3 → P (W.lk x a b).2 (a + half (b - a)) b ∧ P (go W (W.lk x a b).2 (a + half (b - a)) b).2 a (a + half (b - a))
end Go.Proofs.YtajfcddabkhamaaDoor.kp

namespace Go.Proofs.YtajfcddabkhamaaDoor.tna
open Go.PlainAid

theorem and127 (c : Int) (h0 : 0 ≤ c) (h1 : c ≤ 255) : bits .and .u8 c 127 = c % 128 := by
  rw [u8_and c 127 h0 (by omega) (by omega) (by omega)]
  have h : c.toNat &&& (127 : Int).toNat = c.toNat % 128 := Nat.and_two_pow_sub_one_eq_mod c.toNat 7
  rw [h]; omega

theorem or128 (c : Int) (h0 : 0 ≤ c) (h1 : c ≤ 255) : bits .or .u8 128 c = c % 128 + 128 := by
  rw [u8_or 128 c (by omega) (by omega) h0 (by omega)]
  have key : ∀ x : Fin 256, 128 ||| x.val = x.val % 128 + 128 := by decide +kernel
  have h : (128 : Int).toNat ||| c.toNat = c.toNat % 128 + 128 := key ⟨c.toNat, by omega⟩
  rw [h]; omega

theorem or_low (v c : Int) (h0 : 0 ≤ v) (h1 : v < 72057594037927936) (c0 : 0 ≤ c) (c1 : c ≤ 255) : bits .or .u64 (v * 256) c = v * 256 + c := by
  rw [u64_or (v * 256) c (by omega) (by omega) c0 (by omega)]
  have h : (v * 256).toNat ||| c.toNat = 2 ^ 8 * v.toNat + c.toNat := by
    rw [Nat.two_pow_add_eq_or_of_lt (by omega)]
    congr 1
    omega
  rw [h]; omega

theorem pow128 (k : Nat) : (2 : Int) ^ (7 * k) = 128 ^ k := by rw [Int.pow_mul]; rfl

theorem pow_pos (k : Nat) : (1 : Int) ≤ 128 ^ k := by
  have : (0 : Int) < 128 ^ k := Int.pow_pos (by omega)
  omega

theorem ipow_le (a : Nat) (ha : 0 < a) {m n : Nat} (h : m ≤ n) : (a : Int) ^ m ≤ (a : Int) ^ n := by
  exact_mod_cast Nat.pow_le_pow_right ha h

theorem pow_nine (k : Nat) (h : k ≤ 9) : (128 : Int) ^ k ≤ 9223372036854775808 := by
  have h1 := ipow_le 128 (by omega) h
  have h2 : ((128 : Nat) : Int) ^ 9 = 9223372036854775808 := by decide
  rw [h2] at h1
  exact h1

theorem pow_eight (k : Nat) (h : k ≤ 8) : (128 : Int) ^ k ≤ 72057594037927936 := by
  have h1 := ipow_le 128 (by omega) h
  have h2 : ((128 : Nat) : Int) ^ 8 = 72057594037927936 := by decide
  rw [h2] at h1
  exact h1

theorem group_lt (v c : Int) (k : Nat) (hv : v < 128 ^ k) : v + c % 128 * 128 ^ k < 128 ^ (k + 1) := by
  have h1 := pow_pos k
  have h2 : c % 128 * 128 ^ k ≤ 127 * 128 ^ k := Int.mul_le_mul_of_nonneg_right (by omega) (by omega)
  rw [Int.pow_succ]; omega

theorem group_nonneg (c : Int) (k : Nat) : 0 ≤ c % 128 * 128 ^ k := by
  have h1 := pow_pos k
  exact Int.mul_nonneg (by omega) (by omega)

theorem group_max (v c : Int) (k : Nat) (hk : k ≤ 9) (hv : v < 128 ^ k) (h9 : k = 9 → c ≤ 1) (hc : 0 ≤ c) : v + c % 128 * 128 ^ k ≤ 18446744073709551615 := by
  by_cases e : k = 9
  · subst e
    have h := h9 rfl
    have h9' : (128 : Int) ^ 9 = 9223372036854775808 := by decide
    rw [h9'] at hv ⊢
    omega
  · have h := group_lt v c k hv
    have h' := pow_nine (k + 1) (by omega)
    omega

def varR (b : ByteArray) (p : Nat) : Nat → Nat → Int → Int × Int × Int
  | 0, _, _ => (0, 0, 11)
  | f + 1, k, x =>
    if b.size ≤ p + k then (0, 0, 12)
    else if k = 9 ∧ 1 < bt b (p + k) then (0, 0, 11)
    else if 0 < k ∧ bt b (p + k) = 0 then (0, 0, 13)
    else if bt b (p + k) < 128 then (x + bt b (p + k) % 128 * 128 ^ k, (p : Int) + k + 1, 0)
    else varR b p f (k + 1) (x + bt b (p + k) % 128 * 128 ^ k)

theorem varR_end (b : ByteArray) (p k : Nat) (x : Int) : varR b p 0 k x = (0, 0, 11) := rfl
theorem varR_short (b : ByteArray) (p f k : Nat) (x : Int) (h : b.size ≤ p + k) : varR b p (f + 1) k x = (0, 0, 12) := by
  rw [varR, if_pos h]
theorem varR_over (b : ByteArray) (p f k : Nat) (x : Int) (h : ¬ b.size ≤ p + k) (h1 : k = 9 ∧ 1 < bt b (p + k)) : varR b p (f + 1) k x = (0, 0, 11) := by
  rw [varR, if_neg h, if_pos h1]
theorem varR_form (b : ByteArray) (p f k : Nat) (x : Int) (h : ¬ b.size ≤ p + k) (h1 : ¬ (k = 9 ∧ 1 < bt b (p + k))) (h2 : 0 < k ∧ bt b (p + k) = 0) : varR b p (f + 1) k x = (0, 0, 13) := by
  rw [varR, if_neg h, if_neg h1, if_pos h2]
theorem varR_last (b : ByteArray) (p f k : Nat) (x : Int) (h : ¬ b.size ≤ p + k) (h1 : ¬ (k = 9 ∧ 1 < bt b (p + k))) (h2 : ¬ (0 < k ∧ bt b (p + k) = 0)) (h3 : bt b (p + k) < 128) :
    varR b p (f + 1) k x = (x + bt b (p + k) % 128 * 128 ^ k, (p : Int) + k + 1, 0) := by
  rw [varR, if_neg h, if_neg h1, if_neg h2, if_pos h3]
theorem varR_next (b : ByteArray) (p f k : Nat) (x : Int) (h : ¬ b.size ≤ p + k) (h1 : ¬ (k = 9 ∧ 1 < bt b (p + k))) (h2 : ¬ (0 < k ∧ bt b (p + k) = 0)) (h3 : ¬ bt b (p + k) < 128) :
    varR b p (f + 1) k x = varR b p f (k + 1) (x + bt b (p + k) % 128 * 128 ^ k) := by
  rw [varR, if_neg h, if_neg h1, if_neg h2, if_neg h3]

def beR (b : ByteArray) (p : Nat) : Nat → Int
  | 0 => 0
  | k + 1 => beR b p k * 256 + bt b (p + k)

theorem beR_nonneg (b : ByteArray) (p k : Nat) : 0 ≤ beR b p k := by
  induction k with
  | zero => exact Int.le_refl 0
  | succ k ih => have := bt_nonneg b (p + k); rw [beR]; omega

theorem beR_lt (b : ByteArray) (p k : Nat) : beR b p k < 256 ^ k := by
  induction k with
  | zero => show (0 : Int) < 1; omega
  | succ k ih => have := bt_le b (p + k); rw [beR, Int.pow_succ]; omega

theorem beR_seven (b : ByteArray) (p k : Nat) (h : k ≤ 7) : beR b p k < 72057594037927936 := by
  have h1 := beR_lt b p k
  have h2 := ipow_le 256 (by omega) h
  have h3 : ((256 : Nat) : Int) ^ 7 = 72057594037927936 := by decide
  rw [h3] at h2
  exact Int.lt_of_lt_of_le h1 h2

end Go.Proofs.YtajfcddabkhamaaDoor.tna

namespace Go.Proofs.YtajfcddabkhamaaDoor.tnb
open Go.RowKit Go.PlainAid
open Go.Proofs.YtajfcddabkhamaaDoor.tna
set_option linter.unusedVariables false

def row (ns : List Int) : Array Value := (ns.map (Value.int .u8)).toArray
def str (ns : List Int) : ByteArray := ns.foldl (fun r n => r.push (UInt8.ofNat n.toNat)) ByteArray.empty

theorem row_size (ns : List Int) : (row ns).size = ns.length := by simp [row]
theorem row_set (ns : List Int) (i : Nat) (x : Int) : (row ns).setIfInBounds i (.int .u8 x) = row (ns.set i x) := by
  simp [row]
theorem row_get (ns : List Int) (i : Nat) : (row ns)[i]? = (ns[i]?).map (Value.int .u8) := by simp [row]

theorem info5 : (Tryd.prog.info? 5).map (fun i => (i.zero, i.size, i.bytes)) = some (some (.int .u8 0), 1, 1) := by kernel_rfl

theorem made_row (n : Nat) : madeCells (Value.int .u8 0).cells n = row (List.replicate n 0) := by
  apply Array.ext
  · simp [size_madeCells, row_size]
  · intro i h1 h2
    simp [madeCells, row, Value.cells, Nat.mod_one]

theorem make_row (n : Nat) (hn : n ≤ 1048576) (w : World) :
    (Instr.makeSlice 65 (.int .i64 n) (.int .i64 n)).run Tryd.prog w = .ok (.slice (some ⟨w.heap.size, 0, none⟩) n n) (w.alloc (.cells (row (List.replicate n 0)) 5)) := by
  obtain ⟨i, hi, hz0, hz1, hz2⟩ := info_parts info5
  have h := run_make (P := Tryd.prog) w 65 5 i (.int .u8 0) Tryd.underlying65 hi hz0 .i64 .i64 (n : Int) (n : Int) (by omega) (by omega) (by rw [hz2]; omega) (by omega)
  rw [hz1] at h
  simp only [Int.toNat_natCast, Nat.mul_one] at h
  rw [made_row] at h
  exact h

theorem conv_row (ns : List Int) (w : World) (n : Nat) (hn : n = ns.length) :
    (convert 65 9 (.slice (some ⟨w.heap.size, 0, none⟩) n n)).run Tryd.prog (w.alloc (.cells (row ns) 5)) = .ok (.string (str ns)) (w.alloc (.cells (row ns) 5)) := by
  subst hn
  rw [run_convert_bytes_string _ 65 9 5 _ _ _ Tryd.underlying65 Tryd.underlying5 Tryd.underlying9]
  refine run_bytesToString _ _ _ _ ns ?_
  have h := run_loadCells_list (P := Tryd.prog) (w := w.alloc (.cells (row ns) 5)) ⟨w.heap.size, 0, none⟩ (ns.map (Value.int .u8)) ?_
  · simpa using h
  · intro j v hj
    have e : (Addr.add ⟨w.heap.size, 0, none⟩ j) = ⟨w.heap.size, j, none⟩ := by cases j <;> simp [Addr.add]
    rw [e, World.cell?_alloc_at _ _ _ _ rfl, row, List.getElem?_toArray]
    exact hj

theorem str_snoc (ns : List Int) (x : Int) : str (ns ++ [x]) = (str ns).push (UInt8.ofNat x.toNat) := by simp [str]

theorem foldl_data (ns : List Int) : ∀ r : ByteArray, (ns.foldl (fun r n => r.push (UInt8.ofNat n.toNat)) r).data = r.data ++ (ns.map fun n => UInt8.ofNat n.toNat).toArray := by
  induction ns with
  | nil => intro r; simp
  | cons x ns ih =>
    intro r
    rw [List.foldl_cons, ih]
    show r.data.push _ ++ _ = _
    simp

theorem str_data (ns : List Int) : (str ns).data = (ns.map fun n => UInt8.ofNat n.toNat).toArray := by
  have h := foldl_data ns ByteArray.empty
  simpa [str] using h

theorem str_size (ns : List Int) : (str ns).size = ns.length := by
  show (str ns).data.size = _
  rw [str_data]; simp

theorem str_bt (ns : List Int) (k : Nat) (hk : k < ns.length) (h0 : 0 ≤ ns[k]) (h1 : ns[k] ≤ 255) : bt (str ns) k = ns[k] := by
  unfold bt
  rw [dif_pos (by rw [str_size]; exact hk)]
  have e : (str ns)[k]'(by rw [str_size]; exact hk) = UInt8.ofNat (ns[k]).toNat := by
    show (str ns).data[k]'_ = _
    simp [str_data]
  rw [e]
  have : (UInt8.ofNat (ns[k]).toNat).toNat = (ns[k]).toNat := by simp; omega
  omega

theorem ext_bt (a b : ByteArray) (hs : a.size = b.size) (h : ∀ k, k < a.size → bt a k = bt b k) : a = b := by
  apply ByteArray.ext
  apply Array.ext
  · exact hs
  · intro i h1 h2
    have e := h i h1
    unfold bt at e
    rw [dif_pos (show i < a.size from h1), dif_pos (show i < b.size from h2)] at e
    have e2 : (a[i]'h1).toNat = (b[i]'h2).toNat := by omega
    exact UInt8.toNat_inj.1 e2

theorem bt_append_left (a b : ByteArray) (k : Nat) (h : k < a.size) : bt (a ++ b) k = bt a k := by
  have hs : (a ++ b).size = a.size + b.size := ByteArray.size_append
  unfold bt
  rw [dif_pos h, dif_pos (by omega)]
  rw [ByteArray.getElem_append_left h]

theorem bt_append_right (a b : ByteArray) (k : Nat) : bt (a ++ b) (a.size + k) = bt b k := by
  have hs : (a ++ b).size = a.size + b.size := ByteArray.size_append
  unfold bt
  by_cases h : k < b.size
  · rw [dif_pos h, dif_pos (by omega)]
    rw [ByteArray.getElem_append_right (by omega)]
    simp
  · rw [dif_neg h, dif_neg (by omega)]

theorem bt_extract (a : ByteArray) (i j k : Nat) (h : i + k < j) (hj : j ≤ a.size) : bt (a.extract i j) k = bt a (i + k) := by
  have hs : (a.extract i j).size = min j a.size - i := ByteArray.size_extract
  unfold bt
  rw [dif_pos (by omega), dif_pos (by omega)]
  rw [ByteArray.getElem_extract]
end Go.Proofs.YtajfcddabkhamaaDoor.tnb

namespace Go.Proofs.YtajfcddabkhamaaDoor.tnc
open Go.RowKit Go.PlainAid
open Go.Proofs.YtajfcddabkhamaaDoor.tna Go.Proofs.YtajfcddabkhamaaDoor.tnb
set_option linter.unusedVariables false

theorem bitLen_zero : Lib.bitLen 0 = 0 := by decide

theorem bitLen_lt : ∀ (f x : Nat), x < 2 ^ f → f ≤ 64 → x < 2 ^ Lib.bitLen x ∧ (x ≠ 0 → 2 ^ (Lib.bitLen x - 1) ≤ x ∧ 1 ≤ Lib.bitLen x)
  | 0, x, h, _ => by
    have : x = 0 := by simpa using h
    subst this
    rw [bitLen_zero]; exact ⟨by decide, fun h => absurd rfl h⟩
  | f + 1, x, h, hf => by
    by_cases hx : x = 0
    · subst hx; rw [bitLen_zero]; exact ⟨by decide, fun h => absurd rfl h⟩
    · have hp := Nat.pow_le_pow_right (n := 2) (by omega) hf
      have e := Lib.bitLen_half x hx (Nat.lt_of_lt_of_le h hp)
      have ih := bitLen_lt f (x / 2) (by rw [Nat.pow_succ] at h; omega) (by omega)
      rw [e]
      refine ⟨?_, fun _ => ⟨?_, by omega⟩⟩
      · rw [Nat.add_comm, Nat.pow_succ]; omega
      · by_cases h2 : x / 2 = 0
        · rw [h2, bitLen_zero]; simp; omega
        · obtain ⟨h3, h4⟩ := ih.2 h2
          obtain ⟨l, hl⟩ : ∃ l, Lib.bitLen (x / 2) = l + 1 := ⟨Lib.bitLen (x / 2) - 1, by omega⟩
          rw [hl] at h3 ⊢
          rw [show 1 + (l + 1) - 1 = l + 1 by omega, Nat.pow_succ]
          rw [show l + 1 - 1 = l by omega] at h3
          omega

theorem bitLen_spec (x : Nat) (h : x < 18446744073709551616) : x < 2 ^ Lib.bitLen x ∧ (x ≠ 0 → 2 ^ (Lib.bitLen x - 1) ≤ x ∧ 1 ≤ Lib.bitLen x) :=
  bitLen_lt 64 x h (by omega)

def Wants (v : Int) (m : Nat) : Prop := 1 ≤ m ∧ m ≤ 10 ∧ v < 128 ^ m ∧ (m ≠ 1 → 128 ^ (m - 1) ≤ v)

theorem cast_pow (k : Nat) : ((2 ^ k : Nat) : Int) = 2 ^ k := by simp

theorem wants_len (v : Int) (h0 : 0 ≤ v) (h1 : v ≤ 18446744073709551615) : Wants v ((Lib.bitLen v.toNat + 6) / 7 + (if v = 0 then 1 else 0)) := by
  obtain ⟨hs1, hs2⟩ := bitLen_spec v.toNat (by omega)
  by_cases hv : v = 0
  · subst hv
    have e : Lib.bitLen (0 : Int).toNat = 0 := bitLen_zero
    rw [e]
    exact ⟨by decide, by decide, by decide, fun h => absurd rfl h⟩
  · rw [if_neg hv, Nat.add_zero]
    obtain ⟨hs3, hs4⟩ := hs2 (by omega)
    generalize hl : Lib.bitLen v.toNat = l at *
    have hl64 : l ≤ 64 := by
      apply Nat.le_of_not_lt
      intro h
      have := Nat.pow_le_pow_right (n := 2) (by omega) (show 64 ≤ l - 1 by omega)
      have e64 : (2 : Nat) ^ 64 = 18446744073709551616 := by decide
      omega
    refine ⟨by omega, by omega, ?_, ?_⟩
    · have h2 : v < 2 ^ l := by have := cast_pow l; omega
      have h3 := ipow_le 2 (by omega) (show l ≤ 7 * ((l + 6) / 7) by omega)
      rw [← pow128]
      exact Int.lt_of_lt_of_le h2 h3
    · intro hm
      have h2 : 2 ^ (l - 1) ≤ v := by have := cast_pow (l - 1); omega
      have h3 := ipow_le 2 (by omega) (show 7 * ((l + 6) / 7 - 1) ≤ l - 1 by omega)
      rw [← pow128]
      exact Int.le_trans h3 h2

theorem wants_one (v : Int) (m n : Nat) (h : Wants v m) (g : Wants v n) : m = n := by
  obtain ⟨m1, m2, m3, m4⟩ := h
  obtain ⟨n1, n2, n3, n4⟩ := g
  rcases Nat.lt_trichotomy m n with hl | hl | hl
  · have := ipow_le 128 (by omega) (show m ≤ n - 1 by omega)
    have h5 : (128 : Int) ^ m ≤ 128 ^ (n - 1) := this
    have := n4 (by omega)
    omega
  · exact hl
  · have := ipow_le 128 (by omega) (show n ≤ m - 1 by omega)
    have h5 : (128 : Int) ^ n ≤ 128 ^ (m - 1) := this
    have := m4 (by omega)
    omega

def gB (v : Int) (i : Nat) : Int := v / 128 ^ i % 128 + 128
def varL (v : Int) (m k : Nat) : List Int := (List.range k).map (gB v) ++ List.replicate (m - k) 0
def putL (v : Int) (m : Nat) : List Int := (List.range (m - 1)).map (gB v) ++ [v / 128 ^ (m - 1) % 128]

theorem gB_byte (v : Int) (i : Nat) : 128 ≤ gB v i ∧ gB v i ≤ 255 := by unfold gB; omega

theorem varL_zero (v : Int) (m : Nat) : varL v m 0 = List.replicate m 0 := by simp [varL]
theorem varL_length (v : Int) (m k : Nat) (h : k ≤ m) : (varL v m k).length = m := by simp [varL]; omega
theorem varL_set (v : Int) (m k : Nat) (h : k < m) : (varL v m k).set k (gB v k) = varL v m (k + 1) := by
  obtain ⟨j, rfl⟩ : ∃ j, m = k + 1 + j := ⟨m - (k + 1), by omega⟩
  rw [varL, varL, show k + 1 + j - k = j + 1 by omega, show k + 1 + j - (k + 1) = j by omega, List.set_append_right _ _ (by simp), List.range_succ]
  simp [List.replicate_succ]

theorem varL_last (v : Int) (m : Nat) (h : 1 ≤ m) : (varL v m m)[m - 1]? = some (gB v (m - 1)) := by
  rw [varL, List.getElem?_append_left (by simp; omega), List.getElem?_map, List.getElem?_range (by omega)]
  rfl

theorem varL_put (v : Int) (m : Nat) (h : 1 ≤ m) : (varL v m m).set (m - 1) (v / 128 ^ (m - 1) % 128) = putL v m := by
  obtain ⟨j, rfl⟩ : ∃ j, m = j + 1 := ⟨m - 1, by omega⟩
  simp [varL, putL, List.range_succ, List.set_append_right]

theorem putL_length (v : Int) (m : Nat) (h : 1 ≤ m) : (putL v m).length = m := by simp [putL]; omega

theorem putL_get (v : Int) (m i : Nat) (h : i + 1 < m) : (putL v m)[i]? = some (gB v i) := by
  rw [putL, List.getElem?_append_left (by simp; omega), List.getElem?_map, List.getElem?_range (by omega)]
  rfl

theorem putL_get_last (v : Int) (m : Nat) (h : 1 ≤ m) : (putL v m)[m - 1]? = some (v / 128 ^ (m - 1) % 128) := by
  simp [putL]

theorem str_get (ns : List Int) (i : Nat) (x : Int) (h : ns[i]? = some x) (h0 : 0 ≤ x) (h1 : x ≤ 255) : bt (str ns) i = x := by
  obtain ⟨hi, he⟩ := List.getElem?_eq_some_iff.1 h
  rw [str_bt ns i hi (by rw [he]; exact h0) (by rw [he]; exact h1), he]

theorem put_bt (v : Int) (m i : Nat) (h : i + 1 < m) : bt (str (putL v m)) i = gB v i := by
  have := gB_byte v i
  exact str_get _ _ _ (putL_get v m i h) (by omega) (by omega)

theorem put_bt_last (v : Int) (m : Nat) (h : 1 ≤ m) : bt (str (putL v m)) (m - 1) = v / 128 ^ (m - 1) % 128 :=
  str_get _ _ _ (putL_get_last v m h) (by omega) (by omega)

theorem split128 (v : Int) (n : Nat) : v % 128 ^ (n + 1) = v % 128 ^ n + v / 128 ^ n % 128 * 128 ^ n := by
  have hc : (0 : Int) < 128 ^ n := Int.pow_pos (by omega)
  have e : (128 : Int) ^ (n + 1) = 128 ^ n * 128 := Int.pow_succ ..
  rw [e]
  generalize (128 : Int) ^ n = c at *
  have h1 := Int.emod_add_mul_ediv v c
  have h2 := Int.emod_nonneg v (Int.ne_of_gt hc)
  have h3 := Int.emod_lt_of_pos v hc
  have h4 := Int.emod_add_mul_ediv (v / c) 128
  have key : v = (v % c + v / c % 128 * c) + c * 128 * (v / c / 128) := by
    have : c * (v / c) = v / c % 128 * c + c * 128 * (v / c / 128) := by
      conv => lhs; rw [← h4]
      rw [Int.mul_add, Int.mul_comm c (v / c % 128), Int.mul_assoc]
    omega
  have hb0 : 0 ≤ v % c + v / c % 128 * c := by
    have : 0 ≤ v / c % 128 * c := Int.mul_nonneg (by omega) (by omega)
    omega
  have hb1 : v % c + v / c % 128 * c < c * 128 := by
    have : v / c % 128 * c ≤ 127 * c := Int.mul_le_mul_of_nonneg_right (by omega) (by omega)
    omega
  conv => lhs; rw [key]
  rw [Int.add_mul_emod_self_left]
  exact Int.emod_eq_of_lt hb0 hb1

theorem varR_upto (b : ByteArray) (p : Nat) (v : Int) (n : Nat) (hn : n ≤ 9) (hs : p + n ≤ b.size) (hb : ∀ i, i < n → bt b (p + i) % 128 = v / 128 ^ i % 128 ∧ 128 ≤ bt b (p + i)) :
    ∀ k, k ≤ n → varR b p 10 0 0 = varR b p (10 - k) k (v % 128 ^ k) := by
  intro k
  induction k with
  | zero => intro _; simp [Int.emod_one]
  | succ k ih =>
    intro hk
    obtain ⟨h1, h2⟩ := hb k (by omega)
    rw [ih (by omega), show 10 - k = (10 - (k + 1)) + 1 by omega, varR_next b p _ k _ (by omega) (by omega) (by omega) (by omega), h1, ← split128]

theorem varR_back (b : ByteArray) (p m : Nat) (v : Int) (h0 : 0 ≤ v) (h1 : v ≤ 18446744073709551615) (hw : Wants v m) (hs : p + m ≤ b.size)
    (hb : ∀ i, i + 1 < m → bt b (p + i) = gB v i) (hl : bt b (p + (m - 1)) = v / 128 ^ (m - 1) % 128) : varR b p 10 0 0 = (v, (p : Int) + m, 0) := by
  obtain ⟨m1, m2, m3, m4⟩ := hw
  have hup := varR_upto b p v (m - 1) (by omega) (by omega) (fun i hi => by rw [hb i (by omega)]; unfold gB; omega) (m - 1) (Nat.le_refl _)
  have hsplit := split128 v (m - 1)
  rw [show m - 1 + 1 = m by omega, Int.emod_eq_of_lt h0 m3] at hsplit
  have hc : (0 : Int) < 128 ^ (m - 1) := Int.pow_pos (by omega)
  have hpos : m ≠ 1 → 1 ≤ v / 128 ^ (m - 1) := fun h => by
    have := m4 h
    exact (Int.le_ediv_iff_mul_le hc).2 (by omega)
  have hlt : v / 128 ^ (m - 1) < 128 := by
    apply Int.ediv_lt_of_lt_mul hc
    have e : (128 : Int) * 128 ^ (m - 1) = 128 ^ m := by
      rw [Int.mul_comm, ← Int.pow_succ]; congr 1; omega
    rw [e]; exact m3
  have hnn : 0 ≤ v / 128 ^ (m - 1) := Int.ediv_nonneg h0 (by omega)
  have h9 : m = 10 → v / 128 ^ (m - 1) ≤ 1 := fun h => by
    subst h
    have e : (128 : Int) ^ (10 - 1) = 9223372036854775808 := by decide
    rw [e]; omega
  rw [hup, show 10 - (m - 1) = (10 - m) + 1 by omega, varR_last b p _ (m - 1) _ (by omega) ?_ ?_ (by rw [hl]; omega), hl]
  · rw [show v / 128 ^ (m - 1) % 128 % 128 = v / 128 ^ (m - 1) % 128 by omega, ← hsplit]
    congr 2; omega
  · rintro ⟨e, h⟩
    have := h9 (by omega)
    rw [hl] at h; omega
  · rintro ⟨e, h⟩
    have := hpos (by omega)
    rw [hl] at h; omega

theorem varR_cut (b : ByteArray) (p n : Nat) (hn : n ≤ 9) (hs : p + n = b.size) (hb : ∀ i, i < n → 128 ≤ bt b (p + i)) : varR b p 10 0 0 = (0, 0, 12) := by
  have key : ∀ k (x : Int), k ≤ n → ∃ y, varR b p 10 0 0 = varR b p (10 - k) k y := by
    intro k
    induction k with
    | zero => intro x _; exact ⟨0, rfl⟩
    | succ k ih =>
      intro x hk
      obtain ⟨y, hy⟩ := ih x (by omega)
      have h2 := hb k (by omega)
      refine ⟨y + bt b (p + k) % 128 * 128 ^ k, ?_⟩
      rw [hy, show 10 - k = (10 - (k + 1)) + 1 by omega, varR_next b p _ k _ (by omega) (by omega) (by omega) (by omega)]
  obtain ⟨y, hy⟩ := key n 0 (Nat.le_refl _)
  rw [hy, show 10 - n = (9 - n) + 1 by omega, varR_short b p _ n _ (by omega)]

theorem varR_zero (b : ByteArray) (p n : Nat) (hn : n ≤ 9) (hn1 : 1 ≤ n) (hs : p + n < b.size) (hb : ∀ i, i < n → 128 ≤ bt b (p + i)) (hz : bt b (p + n) = 0) : varR b p 10 0 0 = (0, 0, 13) := by
  have key : ∀ k (x : Int), k ≤ n → ∃ y, varR b p 10 0 0 = varR b p (10 - k) k y := by
    intro k
    induction k with
    | zero => intro x _; exact ⟨0, rfl⟩
    | succ k ih =>
      intro x hk
      obtain ⟨y, hy⟩ := ih x (by omega)
      have h2 := hb k (by omega)
      refine ⟨y + bt b (p + k) % 128 * 128 ^ k, ?_⟩
      rw [hy, show 10 - k = (10 - (k + 1)) + 1 by omega, varR_next b p _ k _ (by omega) (by omega) (by omega) (by omega)]
  obtain ⟨y, hy⟩ := key n 0 (Nat.le_refl _)
  rw [hy, show 10 - n = (9 - n) + 1 by omega, varR_form b p _ n _ (by omega) (by omega) ⟨by omega, hz⟩]
end Go.Proofs.YtajfcddabkhamaaDoor.tnc

namespace Go.Proofs.YtajfcddabkhamaaDoor.tea
open Go.RowKit Go.PlainAid
open Go.Proofs.YtajfcddabkhamaaDoor.tna Go.Proofs.YtajfcddabkhamaaDoor.tnb Go.Proofs.YtajfcddabkhamaaDoor.tnc
set_option linter.unusedVariables false

-- what a reader of bytes does: p its place, e its first refusal
def refu (e f : Int) : Int := if e = 0 then f else e
theorem refu_zero (f : Int) : refu 0 f = f := rfl
theorem refu_not (e f : Int) (h : e ≠ 0) : refu e f = e := if_neg h
def takeS (b : ByteArray) (c p : Nat) (e : Int) : ByteArray × Nat × Int :=
  if e ≠ 0 then (ByteArray.empty, p, e) else if b.size < p + c then (ByteArray.empty, p, 12) else (b.extract p (p + c), p + c, 0)
theorem takeS_not (b : ByteArray) (c p : Nat) (e : Int) (h : e ≠ 0) : takeS b c p e = (ByteArray.empty, p, e) := if_pos h
theorem takeS_short (b : ByteArray) (c p : Nat) (h : b.size < p + c) : takeS b c p 0 = (ByteArray.empty, p, 12) := by
  rw [takeS, if_neg (by omega), if_pos h]
theorem takeS_yes (b : ByteArray) (c p : Nat) (h : p + c ≤ b.size) : takeS b c p 0 = (b.extract p (p + c), p + c, 0) := by
  rw [takeS, if_neg (by omega), if_neg (by omega)]
def numS (b : ByteArray) (p : Nat) (e : Int) : Int × Nat × Int :=
  if e ≠ 0 then (0, p, e) else if (varR b p 10 0 0).2.2 ≠ 0 then (0, p, (varR b p 10 0 0).2.2) else ((varR b p 10 0 0).1, (varR b p 10 0 0).2.1.toNat, 0)
theorem numS_not (b : ByteArray) (p : Nat) (e : Int) (h : e ≠ 0) : numS b p e = (0, p, e) := if_pos h
theorem numS_bad (b : ByteArray) (p : Nat) (h : (varR b p 10 0 0).2.2 ≠ 0) : numS b p 0 = (0, p, (varR b p 10 0 0).2.2) := by
  rw [numS, if_neg (by omega), if_pos h]
theorem numS_yes (b : ByteArray) (p : Nat) (h : (varR b p 10 0 0).2.2 = 0) : numS b p 0 = ((varR b p 10 0 0).1, (varR b p 10 0 0).2.1.toNat, 0) := by
  rw [numS, if_neg (by omega), if_neg (by omega)]
def mostS (b : ByteArray) (m f : Int) (p : Nat) (e : Int) : Int × Nat × Int :=
  if m < 0 ∨ m < (numS b p e).1 then (0, (numS b p e).2.1, refu (numS b p e).2.2 f) else numS b p e
theorem mostS_out (b : ByteArray) (m f : Int) (p : Nat) (e : Int) (h : m < 0 ∨ m < (numS b p e).1) : mostS b m f p e = (0, (numS b p e).2.1, refu (numS b p e).2.2 f) := if_pos h
theorem mostS_in (b : ByteArray) (m f : Int) (p : Nat) (e : Int) (h : ¬ (m < 0 ∨ m < (numS b p e).1)) : mostS b m f p e = numS b p e := if_neg h
theorem mostS_not (b : ByteArray) (m f : Int) (p : Nat) (e : Int) (h : e ≠ 0) : mostS b m f p e = (0, p, e) := by
  by_cases hm : m < 0 ∨ m < (numS b p e).1
  · rw [mostS_out b m f p e hm, numS_not b p e h]
    show (0, p, refu e f) = _
    rw [refu_not e f h]
  · rw [mostS_in b m f p e hm, numS_not b p e h]
-- the mark, the width
def markS (b : ByteArray) (c : Int) (p : Nat) (e : Int) : Nat × Int :=
  ((takeS b 1 p e).2.1, if (takeS b 1 p e).1 = str [c] then (takeS b 1 p e).2.2 else refu (takeS b 1 p e).2.2 110)
def byteS (b : ByteArray) (p : Nat) (e : Int) : Int := if (takeS b 1 p e).1.size = 1 then bt (takeS b 1 p e).1 0 else 0
def widthS (b : ByteArray) (p : Nat) (e : Int) : Int × Nat × Int :=
  (byteS b p e, (takeS b 1 p e).2.1, if 1 ≤ byteS b p e ∧ byteS b p e ≤ 32 then (takeS b 1 p e).2.2 else refu (takeS b 1 p e).2.2 10)
-- hashes side by side
def hashesS (b : ByteArray) (w : Nat) : Nat → Nat → Int → List ByteArray × Nat × Int
  | 0, p, e => ([], p, e)
  | n + 1, p, e => if e ≠ 0 then ([], p, e) else ((takeS b w p e).1 :: (hashesS b w n (takeS b w p e).2.1 (takeS b w p e).2.2).1, (hashesS b w n (takeS b w p e).2.1 (takeS b w p e).2.2).2)
def endS (b : ByteArray) (p : Nat) (e : Int) : Int := if p < b.size then refu e 111 else e
-- leaves
def leavesS (b : ByteArray) : Nat → Nat → Int → List ByteArray × Nat × Int
  | 0, p, e => ([], p, e)
  | n + 1, p, e => ((takeS b (mostS b 4096 121 p e).1.toNat (mostS b 4096 121 p e).2.1 (mostS b 4096 121 p e).2.2).1 ::
      (leavesS b n (takeS b (mostS b 4096 121 p e).1.toNat (mostS b 4096 121 p e).2.1 (mostS b 4096 121 p e).2.2).2.1 (takeS b (mostS b 4096 121 p e).1.toNat (mostS b 4096 121 p e).2.1 (mostS b 4096 121 p e).2.2).2.2).1,
      (leavesS b n (takeS b (mostS b 4096 121 p e).1.toNat (mostS b 4096 121 p e).2.1 (mostS b 4096 121 p e).2.2).2.1 (takeS b (mostS b 4096 121 p e).1.toNat (mostS b 4096 121 p e).2.1 (mostS b 4096 121 p e).2.2).2.2).2)
theorem leavesS_not (b : ByteArray) (n p : Nat) (e : Int) (h : e ≠ 0) : (leavesS b n p e).2 = (p, e) := by
  induction n with
  | zero => rfl
  | succ n ih =>
    rw [leavesS]
    show (leavesS b n _ _).2 = _
    rw [mostS_not b _ _ p e h]
    show (leavesS b n (takeS b (0 : Int).toNat p e).2.1 (takeS b (0 : Int).toNat p e).2.2).2 = _
    rw [takeS_not b _ p e h]
    exact ih
theorem hashesS_not (b : ByteArray) (w n p : Nat) (e : Int) (h : e ≠ 0) : hashesS b w n p e = ([], p, e) := by
  cases n with
  | zero => rfl
  | succ n => rw [hashesS, if_pos h]
-- the place stays within the bytes, errors are not below 0
theorem varR_in (b : ByteArray) (p : Nat) : ∀ (f k : Nat) (x : Int), p + k ≤ b.size → 0 ≤ x → x < 128 ^ k → k ≤ 10 → f = 10 - k →
    (varR b p f k x).2.2 = 0 ∧ (∃ q : Nat, (varR b p f k x).2.1 = q ∧ q ≤ b.size ∧ p < q) ∧ 0 ≤ (varR b p f k x).1 ∧ (varR b p f k x).1 ≤ 18446744073709551615 ∨
    (varR b p f k x).2.2 ≠ 0 ∧ 11 ≤ (varR b p f k x).2.2 ∧ (varR b p f k x).2.2 ≤ 13 ∧ (varR b p f k x).1 = 0 := by
  intro f
  induction f with
  | zero => intro k x _ _ _ _ _; right; rw [varR_end]; exact ⟨by decide, by decide, by decide, rfl⟩
  | succ f ih =>
    intro k x hk hx0 hx1 hk10 hf
    by_cases hs : b.size ≤ p + k
    · right; rw [varR_short b p f k x hs]; exact ⟨by decide, by decide, by decide, rfl⟩
    by_cases ho : k = 9 ∧ 1 < bt b (p + k)
    · right; rw [varR_over b p f k x hs ho]; exact ⟨by decide, by decide, by decide, rfl⟩
    by_cases hz : 0 < k ∧ bt b (p + k) = 0
    · right; rw [varR_form b p f k x hs ho hz]; exact ⟨by decide, by decide, by decide, rfl⟩
    have h9 : k = 9 → bt b (p + k) ≤ 1 := fun e => Int.not_lt.mp fun h => ho ⟨e, h⟩
    have hmax := group_max x (bt b (p + k)) k (by omega) hx1 h9 (bt_nonneg b (p + k))
    have hnn := group_nonneg (bt b (p + k)) k
    by_cases hl : bt b (p + k) < 128
    · left; rw [varR_last b p f k x hs ho hz hl]
      exact ⟨rfl, ⟨p + k + 1, by simp, by omega, by omega⟩, by show 0 ≤ x + _; omega, hmax⟩
    · rw [varR_next b p f k x hs ho hz hl]
      exact ih (k + 1) _ (by omega) (by omega) (group_lt x (bt b (p + k)) k hx1) (by omega) (by omega)
theorem var_in (b : ByteArray) (p : Nat) (hp : p ≤ b.size) : (varR b p 10 0 0).2.2 = 0 ∧ (∃ q : Nat, (varR b p 10 0 0).2.1 = q ∧ q ≤ b.size ∧ p < q) ∧ 0 ≤ (varR b p 10 0 0).1 ∧ (varR b p 10 0 0).1 ≤ 18446744073709551615 ∨
    (varR b p 10 0 0).2.2 ≠ 0 ∧ 11 ≤ (varR b p 10 0 0).2.2 ∧ (varR b p 10 0 0).2.2 ≤ 13 ∧ (varR b p 10 0 0).1 = 0 :=
  varR_in b p 10 0 0 (by omega) (by omega) (by decide) (by omega) rfl
-- a state that may be
def Ok (b : ByteArray) (p : Nat) (e : Int) : Prop := p ≤ b.size ∧ 0 ≤ e ∧ e ≤ 1000
theorem refu_ok (e f : Int) (h0 : 0 ≤ e ∧ e ≤ 1000) (h1 : 0 ≤ f ∧ f ≤ 1000) : 0 ≤ refu e f ∧ refu e f ≤ 1000 := by
  unfold refu; split <;> omega
theorem take_ok (b : ByteArray) (c p : Nat) (e : Int) (h : Ok b p e) : Ok b (takeS b c p e).2.1 (takeS b c p e).2.2 := by
  unfold takeS
  obtain ⟨h1, h2, h3⟩ := h
  split
  · exact ⟨h1, h2, h3⟩
  · split
    · exact ⟨h1, by simp, by simp⟩
    · exact ⟨by show p + c ≤ b.size; omega, by simp, by simp⟩
theorem num_ok (b : ByteArray) (p : Nat) (e : Int) (h : Ok b p e) : Ok b (numS b p e).2.1 (numS b p e).2.2 ∧ 0 ≤ (numS b p e).1 ∧ (numS b p e).1 ≤ 18446744073709551615 := by
  obtain ⟨h1, h2, h3⟩ := h
  by_cases he : e = 0
  · subst he
    rcases var_in b p h1 with ⟨v1, ⟨q, v2, v3, v5⟩, v4, v6⟩ | ⟨v1, v2, v3, v4⟩
    · rw [numS_yes b p v1]
      exact ⟨⟨by show Int.toNat _ ≤ _; omega, by simp, by simp⟩, v4, v6⟩
    · rw [numS_bad b p v1]
      exact ⟨⟨h1, by show 0 ≤ (varR b p 10 0 0).2.2; omega, by show (varR b p 10 0 0).2.2 ≤ 1000; omega⟩, by simp, by simp⟩
  · rw [numS_not b p e he]
    exact ⟨⟨h1, h2, h3⟩, by simp, by simp⟩
theorem most_ok (b : ByteArray) (m f : Int) (p : Nat) (e : Int) (h : Ok b p e) (hf : 0 ≤ f ∧ f ≤ 1000) : Ok b (mostS b m f p e).2.1 (mostS b m f p e).2.2 ∧ 0 ≤ (mostS b m f p e).1 ∧ ((mostS b m f p e).1 = 0 ∨ (mostS b m f p e).1 ≤ m) := by
  obtain ⟨h1, h2, h3⟩ := num_ok b p e h
  by_cases hm : m < 0 ∨ m < (numS b p e).1
  · rw [mostS_out b m f p e hm]
    have := refu_ok (numS b p e).2.2 f ⟨h1.2.1, h1.2.2⟩ hf
    exact ⟨⟨h1.1, this.1, this.2⟩, by simp, .inl rfl⟩
  · rw [mostS_in b m f p e hm]
    exact ⟨h1, h2, .inr (by omega)⟩
theorem mark_ok (b : ByteArray) (c : Int) (p : Nat) (e : Int) (h : Ok b p e) : Ok b (markS b c p e).1 (markS b c p e).2 := by
  have h1 := take_ok b 1 p e h
  unfold markS
  refine ⟨h1.1, ?_⟩
  show 0 ≤ ite _ _ _ ∧ ite _ _ _ ≤ (1000 : Int)
  split
  · exact ⟨h1.2.1, h1.2.2⟩
  · exact refu_ok _ _ ⟨h1.2.1, h1.2.2⟩ (by decide)
theorem byte_in (b : ByteArray) (p : Nat) (e : Int) : 0 ≤ byteS b p e ∧ byteS b p e ≤ 255 := by
  unfold byteS
  split
  · exact ⟨bt_nonneg _ _, bt_le _ _⟩
  · exact ⟨by decide, by decide⟩
theorem width_ok (b : ByteArray) (p : Nat) (e : Int) (h : Ok b p e) : Ok b (widthS b p e).2.1 (widthS b p e).2.2 := by
  have h1 := take_ok b 1 p e h
  unfold widthS
  refine ⟨h1.1, ?_⟩
  show 0 ≤ ite _ _ _ ∧ ite _ _ _ ≤ (1000 : Int)
  split
  · exact ⟨h1.2.1, h1.2.2⟩
  · exact refu_ok _ _ ⟨h1.2.1, h1.2.2⟩ (by decide)
theorem hashes_ok (b : ByteArray) (w n : Nat) : ∀ (p : Nat) (e : Int), Ok b p e → Ok b (hashesS b w n p e).2.1 (hashesS b w n p e).2.2 ∧ (hashesS b w n p e).1.length ≤ n := by
  induction n with
  | zero => intro p e h; exact ⟨h, Nat.le_refl _⟩
  | succ n ih =>
    intro p e h
    rw [hashesS]
    split
    · exact ⟨h, by simp⟩
    · have := ih _ _ (take_ok b w p e h)
      exact ⟨this.1, by show (_ :: _).length ≤ _; rw [List.length_cons]; omega⟩
theorem leaves_ok (b : ByteArray) (n : Nat) : ∀ (p : Nat) (e : Int), Ok b p e → Ok b (leavesS b n p e).2.1 (leavesS b n p e).2.2 ∧ (leavesS b n p e).1.length = n := by
  induction n with
  | zero => intro p e h; exact ⟨h, rfl⟩
  | succ n ih =>
    intro p e h
    rw [leavesS]
    have h1 := (most_ok b 4096 121 p e h (by decide)).1
    have := ih _ _ (take_ok b (mostS b 4096 121 p e).1.toNat _ _ h1)
    exact ⟨this.1, by show (_ :: _).length = _; rw [List.length_cons, this.2]⟩
-- what the readers of leaves and of a tile's hashes read
def unLeavesS (b : ByteArray) : List ByteArray × Nat × Int :=
  leavesS b (mostS b 1024 83 (markS b 76 0 0).1 (markS b 76 0 0).2).1.toNat (mostS b 1024 83 (markS b 76 0 0).1 (markS b 76 0 0).2).2.1 (mostS b 1024 83 (markS b 76 0 0).1 (markS b 76 0 0).2).2.2
def unLeavesE (b : ByteArray) : Int := endS b (unLeavesS b).2.1 (unLeavesS b).2.2
def unLeavesL (b : ByteArray) : List ByteArray := if unLeavesE b = 0 then (unLeavesS b).1 else []
-- numbers, as they are written
def mOf (v : Int) : Nat := (Lib.bitLen v.toNat + 6) / 7 + (if v = 0 then 1 else 0)
def putB (v : Int) : ByteArray := str (putL v (mOf v))
theorem putB_of (v : Int) (m : Nat) (h0 : 0 ≤ v) (h1 : v ≤ 18446744073709551615) (hw : Wants v m) : str (putL v m) = putB v := by
  rw [putB, wants_one v m _ hw (wants_len v h0 h1)]
  rfl
theorem putB_size (v : Int) (h0 : 0 ≤ v) (h1 : v ≤ 18446744073709551615) : 1 ≤ (putB v).size ∧ (putB v).size ≤ 10 := by
  have hw : Wants v (mOf v) := wants_len v h0 h1
  rw [putB, str_size, putL_length v _ hw.1]
  exact ⟨hw.1, hw.2.1⟩
def cat (l : List ByteArray) : List UInt8 := l.flatMap fun x => x.data.toList
def numsB (l : List Int) : List UInt8 := l.flatMap fun v => (putB v).data.toList
def leafB (x : ByteArray) : List UInt8 := (putB x.size).data.toList ++ x.data.toList
def leavesB (l : List ByteArray) : List UInt8 := 76 :: (putB l.length).data.toList ++ l.flatMap leafB
def hashesB (w : Nat) (l : List ByteArray) : List UInt8 := 72 :: UInt8.ofNat w :: (putB l.length).data.toList ++ cat l
end Go.Proofs.YtajfcddabkhamaaDoor.tea

namespace Go.Proofs.YtajfcddabkhamaaDoor.tnf
open Go.RowKit Go.PlainAid
open Go.Proofs.YtajfcddabkhamaaDoor.tna
set_option linter.unusedVariables false

theorem shifted (c : Int) (k : Nat) (hk : k ≤ 9) (h0 : 0 ≤ c) (h1 : c ≤ 255) (h9 : k = 9 → c ≤ 1) :
    IntKind.u64.wrap (IntKind.u64.wrap (bits BinOp.and IntKind.u8 c 127) * 2 ^ (7 * k)) = c % 128 * 128 ^ k := by
  have h := group_max 0 c k hk (by have := pow_pos k; omega) h9 h0
  have h' := group_nonneg c k
  rw [and127 c h0 h1, pow128, u64_nonneg (n := c % 128) (by omega) (by omega), u64_nonneg h' (by omega)]

theorem fin3 (r : Int × Int × Int) (x y z : Int) (h : r = (x, y, z)) :
    Ending.returned (.tuple #[.int .u64 x, .int .i64 y, .int .i64 z]) = .returned (.tuple #[.int .u64 r.1, .int .i64 r.2.1, .int .i64 r.2.2]) := by
  subst h; rfl

end Go.Proofs.YtajfcddabkhamaaDoor.tnf

namespace Go.Proofs.YtajfcddabkhamaaDoor.tng
open Go.RowKit Go.PlainAid
open Go.Proofs.YtajfcddabkhamaaDoor.tna Go.Proofs.YtajfcddabkhamaaDoor.tnf
set_option linter.unusedVariables false

theorem sum_over (a b m : Int) (w : World) (ha : 0 ≤ a) (hm : 0 ≤ m) (hm' : m ≤ 9223372036854775807) (h : m - a < b) :
    Calls Tryd.prog 34 #[.int .i64 a, .int .i64 b, .int .i64 m] w fun e w' => e = .returned (.tuple #[.int .i64 0, .int .i64 11]) ∧ w' = w := by
  by_cases h1 : m < a
  · go_enter Tryd.func34, Tryd.ntmps34
    go_wp2
    go_ret2
    exact ⟨rfl, rfl⟩
  · go_enter Tryd.func34, Tryd.ntmps34
    go_wp2
    go_ret2
    exact ⟨rfl, rfl⟩

theorem sum_ok (a b m : Int) (w : World) (ha : 0 ≤ a) (hb : 0 ≤ b) (hm : a ≤ m) (hm' : m ≤ 9223372036854775807) (h : ¬ m - a < b) :
    Calls Tryd.prog 34 #[.int .i64 a, .int .i64 b, .int .i64 m] w fun e w' => e = .returned (.tuple #[.int .i64 (a + b), .int .i64 0]) ∧ w' = w := by
  have h1 : ¬ m < a := by omega
  go_enter Tryd.func34, Tryd.ntmps34
  go_wp2
  go_ret2
  exact ⟨rfl, rfl⟩

theorem ret2_u (x y z : Int) (h : x = y) : Ending.returned (.tuple #[.int .u64 x, .int .i64 z]) = .returned (.tuple #[.int .u64 y, .int .i64 z]) := by
  subst h; rfl

end Go.Proofs.YtajfcddabkhamaaDoor.tng
