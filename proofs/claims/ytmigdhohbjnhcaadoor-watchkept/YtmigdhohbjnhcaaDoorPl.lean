import Derived.PlainAid
import Derived.Laws.BitsAllLaws
import Derived.WalkKit
namespace Go.Proofs.YtmigdhohbjnhcaaDoor.pl
open Go.PlainAid
set_option linter.unusedVariables false

theorem bits_u32 (op : BinOp) (a b : Int) : 0 ≤ bits op .u32 a b ∧ bits op .u32 a b < 4294967296 := by
  unfold bits
  rw [IntKind.wrap_u32]
  omega

theorem or_comm (a b : Int) (h1 : 0 ≤ a) (h2 : a < 4294967296) (h3 : 0 ≤ b) (h4 : b < 4294967296) : bits .or .u32 a b = bits .or .u32 b a := by
  rw [u32_or a b h1 h2 h3 h4, u32_or b a h3 h4 h1 h2, Nat.or_comm]

def ROT (x : Int) (n : Nat) : Int := bits .or .u32 (x / 2 ^ n) (x * 2 ^ (32 - n) % 4294967296)
def WORD (c0 c1 c2 c3 : Int) : Int := bits .or .u32 (bits .or .u32 (bits .or .u32 (c0 * 16777216) (c1 * 65536)) (c2 * 256)) c3
def S0 (x : Int) : Int := bits .xor .u32 (bits .xor .u32 (ROT x 7) (ROT x 18)) (x / 8)
def S1 (x : Int) : Int := bits .xor .u32 (bits .xor .u32 (ROT x 17) (ROT x 19)) (x / 1024)
def nextW (l : List Int) (t : Nat) : Int := (S1 (l.getD (t - 2) 0) + l.getD (t - 7) 0 + S0 (l.getD (t - 15) 0) + l.getD (t - 16) 0) % 4294967296
def wL (g : Nat → Int) (p : Nat) : Nat → List Int
  | 0 => []
  | t + 1 => if t < 16 then wL g p t ++ [WORD (g (p + 4 * t)) (g (p + 4 * t + 1)) (g (p + 4 * t + 2)) (g (p + 4 * t + 3))] else wL g p t ++ [nextW (wL g p t) t]

theorem wL_length (g : Nat → Int) (p t : Nat) : (wL g p t).length = t := by
  induction t with
  | zero => rfl
  | succ t ih => unfold wL; split <;> simp [ih]

theorem wL_low (g : Nat → Int) (p t : Nat) (h : t < 16) : wL g p (t + 1) = wL g p t ++ [WORD (g (p + 4 * t)) (g (p + 4 * t + 1)) (g (p + 4 * t + 2)) (g (p + 4 * t + 3))] := by
  rw [wL, if_pos h]
theorem wL_high (g : Nat → Int) (p t : Nat) (h : ¬ t < 16) : wL g p (t + 1) = wL g p t ++ [nextW (wL g p t) t] := by
  rw [wL, if_neg h]

theorem wL_congr (g g' : Nat → Int) (p p' : Nat) (h : ∀ j, j < 64 → g (p + j) = g' (p' + j)) : ∀ t, wL g p t = wL g' p' t
  | 0 => rfl
  | t + 1 => by
    by_cases ht : t < 16
    · rw [wL_low _ _ _ ht, wL_low _ _ _ ht, wL_congr g g' p p' h t]
      simp only [Nat.add_assoc]
      rw [h (4 * t) (by omega), h (4 * t + 1) (by omega), h (4 * t + 2) (by omega), h (4 * t + 3) (by omega)]
    · rw [wL_high _ _ _ ht, wL_high _ _ _ ht, wL_congr g g' p p' h t]

def row32 (ns : List Int) : Array Value := (ns.map (Value.int .u32)).toArray
theorem row32_size (ns : List Int) : (row32 ns).size = ns.length := by simp [row32]
theorem row32_set (ns : List Int) (i : Nat) (x : Int) : (row32 ns).setIfInBounds i (.int .u32 x) = row32 (ns.set i x) := by simp [row32]

def fillW (g : Nat → Int) (p t : Nat) : List Int := wL g p t ++ List.replicate (64 - t) 0
theorem fillW_length (g : Nat → Int) (p t : Nat) (h : t ≤ 64) : (fillW g p t).length = 64 := by simp [fillW, wL_length]; omega

def z64 : Array Value := row32 (List.replicate 64 0)

theorem fillW_set (g : Nat → Int) (p t : Nat) (x : Int) (h : t < 64) (hx : wL g p (t + 1) = wL g p t ++ [x]) : (fillW g p t).set t x = fillW g p (t + 1) := by
  obtain ⟨m, hm⟩ : ∃ m, 64 - t = m + 1 := ⟨63 - t, by omega⟩
  rw [fillW, fillW, hx, hm, show 64 - (t + 1) = m by omega, List.set_append_right _ _ (by rw [wL_length]; omega), wL_length]
  simp [List.replicate_succ]

theorem fillW_get (g : Nat → Int) (p t j : Nat) (h : j < t) : (fillW g p t)[j]? = some ((wL g p t).getD j 0) := by
  have hl := wL_length g p t
  rw [fillW, List.getElem?_append_left (by omega), List.getD, List.getElem?_eq_getElem (by omega)]
  rfl

theorem row32_get (ns : List Int) (i : Nat) : (row32 ns)[i]? = (ns[i]?).map (Value.int .u32) := by simp [row32]

theorem wL_range (g : Nat → Int) (p t : Nat) : ∀ j, 0 ≤ (wL g p t).getD j 0 ∧ (wL g p t).getD j 0 < 4294967296 := by
  induction t with
  | zero => intro j; simp [wL]
  | succ t ih =>
    intro j
    have key : ∀ x : Int, 0 ≤ x → x < 4294967296 → 0 ≤ (wL g p t ++ [x]).getD j 0 ∧ (wL g p t ++ [x]).getD j 0 < 4294967296 := by
      intro x h0 h1
      have hl := wL_length g p t
      rcases Nat.lt_trichotomy j t with h | h | h
      · have := ih j
        rw [List.getD, List.getElem?_append_left (by omega)]
        exact this
      · rw [List.getD, List.getElem?_append_right (by omega), h, hl]
        simp; omega
      · rw [List.getD, List.getElem?_eq_none (by simp; omega)]
        simp
    by_cases h : t < 16
    · rw [wL_low g p t h]
      have := bits_u32 .or (bits .or .u32 (bits .or .u32 (g (p + 4 * t) * 16777216) (g (p + 4 * t + 1) * 65536)) (g (p + 4 * t + 2) * 256)) (g (p + 4 * t + 3))
      exact key _ this.1 this.2
    · rw [wL_high g p t h]
      exact key _ (by unfold nextW; omega) (by unfold nextW; omega)

structure St where
  a : Int
  b : Int
  c : Int
  d : Int
  e : Int
  f : Int
  g : Int
  h : Int

def St.ok (s : St) : Prop := (0 ≤ s.a ∧ s.a < 4294967296) ∧ (0 ≤ s.b ∧ s.b < 4294967296) ∧ (0 ≤ s.c ∧ s.c < 4294967296) ∧ (0 ≤ s.d ∧ s.d < 4294967296) ∧ (0 ≤ s.e ∧ s.e < 4294967296) ∧ (0 ≤ s.f ∧ s.f < 4294967296) ∧ (0 ≤ s.g ∧ s.g < 4294967296) ∧ (0 ≤ s.h ∧ s.h < 4294967296)
def St.cells (s : St) : Array Value := #[.int .u32 s.a, .int .u32 s.b, .int .u32 s.c, .int .u32 s.d, .int .u32 s.e, .int .u32 s.f, .int .u32 s.g, .int .u32 s.h]

def BS1 (e : Int) : Int := bits .xor .u32 (bits .xor .u32 (ROT e 6) (ROT e 11)) (ROT e 25)
def BS0 (a : Int) : Int := bits .xor .u32 (bits .xor .u32 (ROT a 2) (ROT a 13)) (ROT a 22)
def CH (e f g : Int) : Int := bits .xor .u32 (bits .and .u32 e f) (bits .and .u32 (bits .xor .u32 IntKind.u32.max e) g)
def MAJ (a b c : Int) : Int := bits .xor .u32 (bits .xor .u32 (bits .and .u32 a b) (bits .and .u32 a c)) (bits .and .u32 b c)
def rnd (s : St) (k w : Int) : St :=
  ⟨(s.h + BS1 s.e + CH s.e s.f s.g + k + w + (BS0 s.a + MAJ s.a s.b s.c) % 4294967296) % 4294967296, s.a, s.b, s.c, (s.d + (s.h + BS1 s.e + CH s.e s.f s.g + k + w)) % 4294967296, s.e, s.f, s.g⟩
def rnds (kk x : Nat → Int) (v : St) : Nat → St
  | 0 => v
  | t + 1 => rnd (rnds kk x v t) (kk t) (x t)

theorem rnd_ok (s : St) (k w : Int) (h : s.ok) : (rnd s k w).ok := by
  obtain ⟨h1, h2, h3, h4, h5, h6, h7, h8⟩ := h
  refine ⟨⟨?_, ?_⟩, h1, h2, h3, ⟨?_, ?_⟩, h5, h6, h7⟩ <;> (unfold rnd; simp only; omega)

theorem rnds_ok (kk x : Nat → Int) (v : St) (h : v.ok) : ∀ t, (rnds kk x v t).ok
  | 0 => h
  | t + 1 => rnd_ok _ _ _ (rnds_ok kk x v h t)

theorem rnds_congr (kk x y : Nat → Int) (v : St) : ∀ t, (∀ j, j < t → x j = y j) → rnds kk x v t = rnds kk y v t
  | 0, _ => rfl
  | t + 1, h => by
    show rnd _ _ _ = rnd _ _ _
    rw [rnds_congr kk x y v t (fun j hj => h j (by omega)), h t (by omega)]

def St.list (s : St) : List Int := [s.a, s.b, s.c, s.d, s.e, s.f, s.g, s.h]
theorem St.cells_list (s : St) : s.cells = row32 s.list := rfl

def addL (v x : List Int) (i : Nat) : List Int := (List.zipWith (fun a b => (a + b) % 4294967296) v x).take i ++ v.drop i

theorem addL_zero (v x : List Int) : addL v x 0 = v := by simp [addL]
theorem addL_length (v x : St) (i : Nat) (h : i ≤ 8) : (addL v.list x.list i).length = 8 := by simp [addL, St.list]; omega
theorem addL_get (v x : St) (i : Nat) (h : i < 8) : (addL v.list x.list i)[i]? = some (v.list.getD i 0) := by
  have hl : v.list.length = 8 := rfl
  have hx : x.list.length = 8 := rfl
  rw [addL, List.getElem?_append_right (by simp; omega), List.length_take, List.length_zipWith, hl, hx, List.getElem?_drop, show i + (i - min i (min 8 8)) = i by omega, List.getD, List.getElem?_eq_getElem (by omega)]
  rfl
theorem addL_set (v x : St) (i : Nat) (h : i < 8) : (addL v.list x.list i).set i ((v.list.getD i 0 + x.list.getD i 0) % 4294967296) = addL v.list x.list (i + 1) := by
  obtain ⟨a, b, c, d, e, f, g, hh⟩ := v
  obtain ⟨a', b', c', d', e', f', g', hh'⟩ := x
  match i, h with
  | 0, _ => rfl
  | 1, _ => rfl
  | 2, _ => rfl
  | 3, _ => rfl
  | 4, _ => rfl
  | 5, _ => rfl
  | 6, _ => rfl
  | 7, _ => rfl

def St.add (v x : St) : St := ⟨(v.a + x.a) % 4294967296, (v.b + x.b) % 4294967296, (v.c + x.c) % 4294967296, (v.d + x.d) % 4294967296, (v.e + x.e) % 4294967296, (v.f + x.f) % 4294967296, (v.g + x.g) % 4294967296, (v.h + x.h) % 4294967296⟩
theorem addL_full (v x : St) : addL v.list x.list 8 = (v.add x).list := rfl
theorem St.add_ok (v x : St) : (v.add x).ok := by
  refine ⟨⟨?_, ?_⟩, ⟨?_, ?_⟩, ⟨?_, ?_⟩, ⟨?_, ?_⟩, ⟨?_, ?_⟩, ⟨?_, ?_⟩, ⟨?_, ?_⟩, ⟨?_, ?_⟩⟩ <;> (unfold St.add; simp only; omega)
theorem St.get (s : St) (i : Nat) (h : i < 8) : s.cells[i]? = some (.int .u32 (s.list.getD i 0)) := by
  obtain ⟨a, b, c, d, e, f, g, hh⟩ := s
  match i, h with
  | 0, _ => rfl
  | 1, _ => rfl
  | 2, _ => rfl
  | 3, _ => rfl
  | 4, _ => rfl
  | 5, _ => rfl
  | 6, _ => rfl
  | 7, _ => rfl

def blockF (kk g : Nat → Int) (p : Nat) (v : St) : St := v.add (rnds kk (fun j => (wL g p 64).getD j 0) v 64)
theorem blockF_ok (kk g : Nat → Int) (p : Nat) (v : St) : (blockF kk g p v).ok := St.add_ok _ _
theorem blockF_congr (kk g g' : Nat → Int) (p p' : Nat) (v : St) (h : ∀ j, j < 64 → g (p + j) = g' (p' + j)) : blockF kk g p v = blockF kk g' p' v := by
  unfold blockF
  rw [wL_congr g g' p p' h 64]

-- the words behind k blocks
def hs (kk g : Nat → Int) (v : St) : Nat → St
  | 0 => v
  | k + 1 => blockF kk g (64 * k) (hs kk g v k)
theorem hs_ok (kk g : Nat → Int) (v : St) (h : v.ok) : ∀ k, (hs kk g v k).ok
  | 0 => h
  | k + 1 => blockF_ok _ _ _ _
theorem hs_congr (kk g g' : Nat → Int) (v : St) : ∀ k, (∀ j, j < 64 * k → g j = g' j) → hs kk g v k = hs kk g' v k
  | 0, _ => rfl
  | k + 1, h => by
    show blockF _ _ _ _ = blockF _ _ _ _
    rw [hs_congr kk g g' v k (fun j hj => h j (by omega))]
    exact blockF_congr _ _ _ _ _ _ (fun j hj => h _ (by omega))

-- bytes of texts
def row (ns : List Int) : Array Value := (ns.map (Value.int .u8)).toArray
def str (ns : List Int) : ByteArray := ns.foldl (fun r n => r.push (UInt8.ofNat n.toNat)) ByteArray.empty
theorem row_size (ns : List Int) : (row ns).size = ns.length := by simp [row]
theorem row_set (ns : List Int) (i : Nat) (x : Int) : (row ns).setIfInBounds i (.int .u8 x) = row (ns.set i x) := by
  simp [row]
theorem row_get (ns : List Int) (i : Nat) : (row ns)[i]? = (ns[i]?).map (Value.int .u8) := by simp [row]
theorem str_snoc (ns : List Int) (x : Int) : str (ns ++ [x]) = (str ns).push (UInt8.ofNat x.toNat) := by simp [str]

theorem foldl_data (ns : List Int) : ∀ r : ByteArray, (ns.foldl (fun r n => r.push (UInt8.ofNat n.toNat)) r).data = r.data ++ (ns.map fun n => UInt8.ofNat n.toNat).toArray := by
  induction ns with
  | nil => intro r; simp
  | cons x ns ih =>
    intro r
    rw [List.foldl_cons, ih]
    show r.data.push _ ++ _ = _
    simp

theorem str_data (ns : List Int) : (str ns).data = (ns.map fun n => UInt8.ofNat n.toNat).toArray := by
  have h := foldl_data ns ByteArray.empty
  simpa [str] using h

theorem str_size (ns : List Int) : (str ns).size = ns.length := by
  show (str ns).data.size = _
  rw [str_data]; simp

theorem str_bt (ns : List Int) (k : Nat) (hk : k < ns.length) (h0 : 0 ≤ ns[k]) (h1 : ns[k] ≤ 255) : bt (str ns) k = ns[k] := by
  unfold bt
  rw [dif_pos (by rw [str_size]; exact hk)]
  have e : (str ns)[k]'(by rw [str_size]; exact hk) = UInt8.ofNat (ns[k]).toNat := by
    show (str ns).data[k]'_ = _
    simp [str_data]
  rw [e]
  have : (UInt8.ofNat (ns[k]).toNat).toNat = (ns[k]).toNat := by simp; omega
  omega

theorem ext_bt (a b : ByteArray) (hs : a.size = b.size) (h : ∀ k, k < a.size → bt a k = bt b k) : a = b := by
  apply ByteArray.ext
  apply Array.ext
  · exact hs
  · intro i h1 h2
    have e := h i h1
    unfold bt at e
    rw [dif_pos (show i < a.size from h1), dif_pos (show i < b.size from h2)] at e
    have e2 : (a[i]'h1).toNat = (b[i]'h2).toNat := by omega
    exact UInt8.toNat_inj.1 e2

theorem bt_append_left (a b : ByteArray) (k : Nat) (h : k < a.size) : bt (a ++ b) k = bt a k := by
  have hs : (a ++ b).size = a.size + b.size := ByteArray.size_append
  unfold bt
  rw [dif_pos h, dif_pos (by omega)]
  rw [ByteArray.getElem_append_left h]

theorem bt_append_right (a b : ByteArray) (k : Nat) : bt (a ++ b) (a.size + k) = bt b k := by
  have hs : (a ++ b).size = a.size + b.size := ByteArray.size_append
  unfold bt
  by_cases h : k < b.size
  · rw [dif_pos h, dif_pos (by omega)]
    rw [ByteArray.getElem_append_right (by omega)]
    simp
  · rw [dif_neg h, dif_neg (by omega)]

theorem bt_extract (a : ByteArray) (i j k : Nat) (h : i + k < j) (hj : j ≤ a.size) : bt (a.extract i j) k = bt a (i + k) := by
  have hs : (a.extract i j).size = min j a.size - i := ByteArray.size_extract
  unfold bt
  rw [dif_pos (by omega), dif_pos (by omega)]
  rw [ByteArray.getElem_extract]

-- the number's last k bytes, the highest first
def lowB (v : Int) : Nat → List Int
  | 0 => []
  | k + 1 => (v / 256 ^ k % 256) :: lowB v k
theorem lowB_length (v : Int) (k : Nat) : (lowB v k).length = k := by
  induction k with
  | zero => rfl
  | succ k ih => simp [lowB, ih]

-- the padding
def zerosF (n : Nat) : Nat := (119 - n % 64) % 64
def bitsF (n : Nat) : Int := (n : Int) * 8 % 18446744073709551616
def padL (n : Nat) : List Int := 128 :: (List.replicate (zerosF n) 0 ++ lowB (bitsF n) 8)
theorem padL_length (n : Nat) : (padL n).length = 9 + zerosF n := by simp [padL, lowB_length]; omega
def padN (n : Nat) : Nat := (n + (9 + zerosF n)) / 64
theorem padN_mul (n : Nat) : 64 * padN n = n + (9 + zerosF n) := by unfold padN zerosF; omega
def padB (s : ByteArray) : ByteArray := s ++ str (padL s.size)
theorem padB_size (s : ByteArray) : (padB s).size = 64 * padN s.size := by
  rw [padN_mul, padB, ByteArray.size_append, str_size, padL_length]

-- the words as bytes
def wordB (x : Int) : List Int := [x / 16777216 % 256, x / 65536 % 256, x / 256 % 256, x % 256]
def bytesL : List Int → List Int
  | [] => []
  | x :: l => wordB x ++ bytesL l
theorem bytesL_snoc (l : List Int) (x : Int) : bytesL (l ++ [x]) = bytesL l ++ wordB x := by
  induction l with
  | nil => simp [bytesL]
  | cons y l ih => simp [bytesL, ih]
theorem bytesL_length (l : List Int) : (bytesL l).length = 4 * l.length := by
  induction l with
  | nil => rfl
  | cons y l ih => simp [bytesL, wordB, ih]; omega

def textF (s : St) : ByteArray := str (bytesL s.list)
theorem textF_size (s : St) : (textF s).size = 32 := by rw [textF, str_size, bytesL_length]; rfl

-- the hash
def shaF (kk : Nat → Int) (v : St) (s : ByteArray) : ByteArray := textF (hs kk (bt (padB s)) v (padN s.size))
theorem shaF_size (kk : Nat → Int) (v : St) (s : ByteArray) : (shaF kk v s).size = 32 := textF_size _
end Go.Proofs.YtmigdhohbjnhcaaDoor.pl
