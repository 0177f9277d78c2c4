import Derived.PlainAid
import Derived.Laws.BitsAllLaws
import Derived.WalkKit
import Derived.Test.YthdkbjbhjfiaiaaGreatDoorRows
import Derived.WalkSpells
import Derived.Below
import Derived.Deep.QuietTactic
import Derived.BigQuiet
import Derived.RowKit3
import Derived.Laws.ResultCell
import Derived.Laws.Rows
import Derived.Laws.Tables
import Derived.Laws.CopyOwn
import Derived.WalkSmall
import Derived.BigRegion
import Derived.RegionTactic
import Derived.Deep.WholeRow
import Derived.Deep.RegionHeld3
import Derived.Deep.MidRow
import Derived.Laws.BytesString
import Derived.Laws.MakeOwn
import Derived.OwnWalk
import Derived.Laws.AppendOwn
import Derived.Deep.AppendLies
import Derived.ArgAppend
import Derived.Laws.IdiomStrings
import Derived.ProofKit
import Derived.LaidMore
import Derived.OpenShut
import Derived.Stop.Joined
import Derived.Lib.LaidTab
namespace Go.Proofs.YthdkbjbhjfiaiaaGreatDoor.pl
open Go.PlainAid
set_option linter.unusedVariables false
set_option maxRecDepth 4000

theorem bits_u32 (op : BinOp) (a b : Int) : 0 ≤ bits op .u32 a b ∧ bits op .u32 a b < 4294967296 := by
  unfold bits
  rw [IntKind.wrap_u32]
  omega

theorem or_comm (a b : Int) (h1 : 0 ≤ a) (h2 : a < 4294967296) (h3 : 0 ≤ b) (h4 : b < 4294967296) : bits .or .u32 a b = bits .or .u32 b a := by
  rw [u32_or a b h1 h2 h3 h4, u32_or b a h3 h4 h1 h2, Nat.or_comm]

def ROT (x : Int) (n : Nat) : Int := bits .or .u32 (x / 2 ^ n) (x * 2 ^ (32 - n) % 4294967296)
def WORD (c0 c1 c2 c3 : Int) : Int := bits .or .u32 (bits .or .u32 (bits .or .u32 (c0 * 16777216) (c1 * 65536)) (c2 * 256)) c3
def S0 (x : Int) : Int := bits .xor .u32 (bits .xor .u32 (ROT x 7) (ROT x 18)) (x / 8)
def S1 (x : Int) : Int := bits .xor .u32 (bits .xor .u32 (ROT x 17) (ROT x 19)) (x / 1024)
def nextW (l : List Int) (t : Nat) : Int := (S1 (l.getD (t - 2) 0) + l.getD (t - 7) 0 + S0 (l.getD (t - 15) 0) + l.getD (t - 16) 0) % 4294967296
def wL (g : Nat → Int) (p : Nat) : Nat → List Int
  | 0 => []
  | t + 1 => if t < 16 then wL g p t ++ [WORD (g (p + 4 * t)) (g (p + 4 * t + 1)) (g (p + 4 * t + 2)) (g (p + 4 * t + 3))] else wL g p t ++ [nextW (wL g p t) t]

theorem wL_length (g : Nat → Int) (p t : Nat) : (wL g p t).length = t := by
  induction t with
  | zero => rfl
  | succ t ih => unfold wL; split <;> simp [ih]

theorem wL_low (g : Nat → Int) (p t : Nat) (h : t < 16) : wL g p (t + 1) = wL g p t ++ [WORD (g (p + 4 * t)) (g (p + 4 * t + 1)) (g (p + 4 * t + 2)) (g (p + 4 * t + 3))] := by
  rw [wL, if_pos h]
theorem wL_high (g : Nat → Int) (p t : Nat) (h : ¬ t < 16) : wL g p (t + 1) = wL g p t ++ [nextW (wL g p t) t] := by
  rw [wL, if_neg h]

theorem wL_congr (g g' : Nat → Int) (p p' : Nat) (h : ∀ j, j < 64 → g (p + j) = g' (p' + j)) : ∀ t, wL g p t = wL g' p' t
  | 0 => rfl
  | t + 1 => by
    by_cases ht : t < 16
    · rw [wL_low _ _ _ ht, wL_low _ _ _ ht, wL_congr g g' p p' h t]
      simp only [Nat.add_assoc]
      rw [h (4 * t) (by omega), h (4 * t + 1) (by omega), h (4 * t + 2) (by omega), h (4 * t + 3) (by omega)]
    · rw [wL_high _ _ _ ht, wL_high _ _ _ ht, wL_congr g g' p p' h t]

def row32 (ns : List Int) : Array Value := (ns.map (Value.int .u32)).toArray
theorem row32_size (ns : List Int) : (row32 ns).size = ns.length := by simp [row32]
theorem row32_set (ns : List Int) (i : Nat) (x : Int) : (row32 ns).setIfInBounds i (.int .u32 x) = row32 (ns.set i x) := by simp [row32]

def fillW (g : Nat → Int) (p t : Nat) : List Int := wL g p t ++ List.replicate (64 - t) 0
theorem fillW_length (g : Nat → Int) (p t : Nat) (h : t ≤ 64) : (fillW g p t).length = 64 := by simp [fillW, wL_length]; omega

def z64 : Array Value := row32 (List.replicate 64 0)

theorem fillW_set (g : Nat → Int) (p t : Nat) (x : Int) (h : t < 64) (hx : wL g p (t + 1) = wL g p t ++ [x]) : (fillW g p t).set t x = fillW g p (t + 1) := by
  obtain ⟨m, hm⟩ : ∃ m, 64 - t = m + 1 := ⟨63 - t, by omega⟩
  rw [fillW, fillW, hx, hm, show 64 - (t + 1) = m by omega, List.set_append_right _ _ (by rw [wL_length]; omega), wL_length]
  simp [List.replicate_succ]

theorem fillW_get (g : Nat → Int) (p t j : Nat) (h : j < t) : (fillW g p t)[j]? = some ((wL g p t).getD j 0) := by
  have hl := wL_length g p t
  rw [fillW, List.getElem?_append_left (by omega), List.getD, List.getElem?_eq_getElem (by omega)]
  rfl

theorem row32_get (ns : List Int) (i : Nat) : (row32 ns)[i]? = (ns[i]?).map (Value.int .u32) := by simp [row32]

theorem wL_range (g : Nat → Int) (p t : Nat) : ∀ j, 0 ≤ (wL g p t).getD j 0 ∧ (wL g p t).getD j 0 < 4294967296 := by
  induction t with
  | zero => intro j; simp [wL]
  | succ t ih =>
    intro j
    have key : ∀ x : Int, 0 ≤ x → x < 4294967296 → 0 ≤ (wL g p t ++ [x]).getD j 0 ∧ (wL g p t ++ [x]).getD j 0 < 4294967296 := by
      intro x h0 h1
      have hl := wL_length g p t
      rcases Nat.lt_trichotomy j t with h | h | h
      · have := ih j
        rw [List.getD, List.getElem?_append_left (by omega)]
        exact this
      · rw [List.getD, List.getElem?_append_right (by omega), h, hl]
        simp; omega
      · rw [List.getD, List.getElem?_eq_none (by simp; omega)]
        simp
    by_cases h : t < 16
    · rw [wL_low g p t h]
      have := bits_u32 .or (bits .or .u32 (bits .or .u32 (g (p + 4 * t) * 16777216) (g (p + 4 * t + 1) * 65536)) (g (p + 4 * t + 2) * 256)) (g (p + 4 * t + 3))
      exact key _ this.1 this.2
    · rw [wL_high g p t h]
      exact key _ (by unfold nextW; omega) (by unfold nextW; omega)

structure St where
  a : Int
  b : Int
  c : Int
  d : Int
  e : Int
  f : Int
  g : Int
  h : Int

def St.ok (s : St) : Prop := (0 ≤ s.a ∧ s.a < 4294967296) ∧ (0 ≤ s.b ∧ s.b < 4294967296) ∧ (0 ≤ s.c ∧ s.c < 4294967296) ∧ (0 ≤ s.d ∧ s.d < 4294967296) ∧ (0 ≤ s.e ∧ s.e < 4294967296) ∧ (0 ≤ s.f ∧ s.f < 4294967296) ∧ (0 ≤ s.g ∧ s.g < 4294967296) ∧ (0 ≤ s.h ∧ s.h < 4294967296)
def St.cells (s : St) : Array Value := #[.int .u32 s.a, .int .u32 s.b, .int .u32 s.c, .int .u32 s.d, .int .u32 s.e, .int .u32 s.f, .int .u32 s.g, .int .u32 s.h]

def BS1 (e : Int) : Int := bits .xor .u32 (bits .xor .u32 (ROT e 6) (ROT e 11)) (ROT e 25)
def BS0 (a : Int) : Int := bits .xor .u32 (bits .xor .u32 (ROT a 2) (ROT a 13)) (ROT a 22)
def CH (e f g : Int) : Int := bits .xor .u32 (bits .and .u32 e f) (bits .and .u32 (bits .xor .u32 IntKind.u32.max e) g)
def MAJ (a b c : Int) : Int := bits .xor .u32 (bits .xor .u32 (bits .and .u32 a b) (bits .and .u32 a c)) (bits .and .u32 b c)
def rnd (s : St) (k w : Int) : St :=
  ⟨(s.h + BS1 s.e + CH s.e s.f s.g + k + w + (BS0 s.a + MAJ s.a s.b s.c) % 4294967296) % 4294967296, s.a, s.b, s.c, (s.d + (s.h + BS1 s.e + CH s.e s.f s.g + k + w)) % 4294967296, s.e, s.f, s.g⟩
def rnds (kk x : Nat → Int) (v : St) : Nat → St
  | 0 => v
  | t + 1 => rnd (rnds kk x v t) (kk t) (x t)

theorem rnd_ok (s : St) (k w : Int) (h : s.ok) : (rnd s k w).ok := by
  obtain ⟨h1, h2, h3, h4, h5, h6, h7, h8⟩ := h
  refine ⟨⟨?_, ?_⟩, h1, h2, h3, ⟨?_, ?_⟩, h5, h6, h7⟩ <;> (unfold rnd; simp only; omega)

theorem rnds_ok (kk x : Nat → Int) (v : St) (h : v.ok) : ∀ t, (rnds kk x v t).ok
  | 0 => h
  | t + 1 => rnd_ok _ _ _ (rnds_ok kk x v h t)

theorem rnds_congr (kk x y : Nat → Int) (v : St) : ∀ t, (∀ j, j < t → x j = y j) → rnds kk x v t = rnds kk y v t
  | 0, _ => rfl
  | t + 1, h => by
    show rnd _ _ _ = rnd _ _ _
    rw [rnds_congr kk x y v t (fun j hj => h j (by omega)), h t (by omega)]

def St.list (s : St) : List Int := [s.a, s.b, s.c, s.d, s.e, s.f, s.g, s.h]
theorem St.cells_list (s : St) : s.cells = row32 s.list := rfl

def addL (v x : List Int) (i : Nat) : List Int := (List.zipWith (fun a b => (a + b) % 4294967296) v x).take i ++ v.drop i

theorem addL_zero (v x : List Int) : addL v x 0 = v := by simp [addL]
theorem addL_length (v x : St) (i : Nat) (h : i ≤ 8) : (addL v.list x.list i).length = 8 := by simp [addL, St.list]; omega
theorem addL_get (v x : St) (i : Nat) (h : i < 8) : (addL v.list x.list i)[i]? = some (v.list.getD i 0) := by
  have hl : v.list.length = 8 := rfl
  have hx : x.list.length = 8 := rfl
  rw [addL, List.getElem?_append_right (by simp; omega), List.length_take, List.length_zipWith, hl, hx, List.getElem?_drop, show i + (i - min i (min 8 8)) = i by omega, List.getD, List.getElem?_eq_getElem (by omega)]
  rfl
theorem addL_set (v x : St) (i : Nat) (h : i < 8) : (addL v.list x.list i).set i ((v.list.getD i 0 + x.list.getD i 0) % 4294967296) = addL v.list x.list (i + 1) := by
  obtain ⟨a, b, c, d, e, f, g, hh⟩ := v
  obtain ⟨a', b', c', d', e', f', g', hh'⟩ := x
  match i, h with
  | 0, _ => rfl
  | 1, _ => rfl
  | 2, _ => rfl
  | 3, _ => rfl
  | 4, _ => rfl
  | 5, _ => rfl
  | 6, _ => rfl
  | 7, _ => rfl

def St.add (v x : St) : St := ⟨(v.a + x.a) % 4294967296, (v.b + x.b) % 4294967296, (v.c + x.c) % 4294967296, (v.d + x.d) % 4294967296, (v.e + x.e) % 4294967296, (v.f + x.f) % 4294967296, (v.g + x.g) % 4294967296, (v.h + x.h) % 4294967296⟩
theorem addL_full (v x : St) : addL v.list x.list 8 = (v.add x).list := rfl
theorem St.add_ok (v x : St) : (v.add x).ok := by
  refine ⟨⟨?_, ?_⟩, ⟨?_, ?_⟩, ⟨?_, ?_⟩, ⟨?_, ?_⟩, ⟨?_, ?_⟩, ⟨?_, ?_⟩, ⟨?_, ?_⟩, ⟨?_, ?_⟩⟩ <;> (unfold St.add; simp only; omega)
theorem St.get (s : St) (i : Nat) (h : i < 8) : s.cells[i]? = some (.int .u32 (s.list.getD i 0)) := by
  obtain ⟨a, b, c, d, e, f, g, hh⟩ := s
  match i, h with
  | 0, _ => rfl
  | 1, _ => rfl
  | 2, _ => rfl
  | 3, _ => rfl
  | 4, _ => rfl
  | 5, _ => rfl
  | 6, _ => rfl
  | 7, _ => rfl

def blockF (kk g : Nat → Int) (p : Nat) (v : St) : St := v.add (rnds kk (fun j => (wL g p 64).getD j 0) v 64)
theorem blockF_ok (kk g : Nat → Int) (p : Nat) (v : St) : (blockF kk g p v).ok := St.add_ok _ _
theorem blockF_congr (kk g g' : Nat → Int) (p p' : Nat) (v : St) (h : ∀ j, j < 64 → g (p + j) = g' (p' + j)) : blockF kk g p v = blockF kk g' p' v := by
  unfold blockF
  rw [wL_congr g g' p p' h 64]

-- the words behind k blocks
def hs (kk g : Nat → Int) (v : St) : Nat → St
  | 0 => v
  | k + 1 => blockF kk g (64 * k) (hs kk g v k)
theorem hs_ok (kk g : Nat → Int) (v : St) (h : v.ok) : ∀ k, (hs kk g v k).ok
  | 0 => h
  | k + 1 => blockF_ok _ _ _ _
theorem hs_congr (kk g g' : Nat → Int) (v : St) : ∀ k, (∀ j, j < 64 * k → g j = g' j) → hs kk g v k = hs kk g' v k
  | 0, _ => rfl
  | k + 1, h => by
    show blockF _ _ _ _ = blockF _ _ _ _
    rw [hs_congr kk g g' v k (fun j hj => h j (by omega))]
    exact blockF_congr _ _ _ _ _ _ (fun j hj => h _ (by omega))

-- bytes of texts
def row (ns : List Int) : Array Value := (ns.map (Value.int .u8)).toArray
def str (ns : List Int) : ByteArray := ns.foldl (fun r n => r.push (UInt8.ofNat n.toNat)) ByteArray.empty
theorem row_size (ns : List Int) : (row ns).size = ns.length := by simp [row]
theorem row_set (ns : List Int) (i : Nat) (x : Int) : (row ns).setIfInBounds i (.int .u8 x) = row (ns.set i x) := by
  simp [row]
theorem row_get (ns : List Int) (i : Nat) : (row ns)[i]? = (ns[i]?).map (Value.int .u8) := by simp [row]
theorem str_snoc (ns : List Int) (x : Int) : str (ns ++ [x]) = (str ns).push (UInt8.ofNat x.toNat) := by simp [str]

theorem foldl_data (ns : List Int) : ∀ r : ByteArray, (ns.foldl (fun r n => r.push (UInt8.ofNat n.toNat)) r).data = r.data ++ (ns.map fun n => UInt8.ofNat n.toNat).toArray := by
  induction ns with
  | nil => intro r; simp
  | cons x ns ih =>
    intro r
    rw [List.foldl_cons, ih]
    show r.data.push _ ++ _ = _
    simp

theorem str_data (ns : List Int) : (str ns).data = (ns.map fun n => UInt8.ofNat n.toNat).toArray := by
  have h := foldl_data ns ByteArray.empty
  simpa [str] using h

theorem str_size (ns : List Int) : (str ns).size = ns.length := by
  show (str ns).data.size = _
  rw [str_data]; simp

theorem str_bt (ns : List Int) (k : Nat) (hk : k < ns.length) (h0 : 0 ≤ ns[k]) (h1 : ns[k] ≤ 255) : bt (str ns) k = ns[k] := by
  unfold bt
  rw [dif_pos (by rw [str_size]; exact hk)]
  have e : (str ns)[k]'(by rw [str_size]; exact hk) = UInt8.ofNat (ns[k]).toNat := by
    show (str ns).data[k]'_ = _
    simp [str_data]
  rw [e]
  have : (UInt8.ofNat (ns[k]).toNat).toNat = (ns[k]).toNat := by simp; omega
  omega

theorem ext_bt (a b : ByteArray) (hs : a.size = b.size) (h : ∀ k, k < a.size → bt a k = bt b k) : a = b := by
  apply ByteArray.ext
  apply Array.ext
  · exact hs
  · intro i h1 h2
    have e := h i h1
    unfold bt at e
    rw [dif_pos (show i < a.size from h1), dif_pos (show i < b.size from h2)] at e
    have e2 : (a[i]'h1).toNat = (b[i]'h2).toNat := by omega
    exact UInt8.toNat_inj.1 e2

theorem bt_append_left (a b : ByteArray) (k : Nat) (h : k < a.size) : bt (a ++ b) k = bt a k := by
  have hs : (a ++ b).size = a.size + b.size := ByteArray.size_append
  unfold bt
  rw [dif_pos h, dif_pos (by omega)]
  rw [ByteArray.getElem_append_left h]

theorem bt_append_right (a b : ByteArray) (k : Nat) : bt (a ++ b) (a.size + k) = bt b k := by
  have hs : (a ++ b).size = a.size + b.size := ByteArray.size_append
  unfold bt
  by_cases h : k < b.size
  · rw [dif_pos h, dif_pos (by omega)]
    rw [ByteArray.getElem_append_right (by omega)]
    simp
  · rw [dif_neg h, dif_neg (by omega)]

theorem bt_extract (a : ByteArray) (i j k : Nat) (h : i + k < j) (hj : j ≤ a.size) : bt (a.extract i j) k = bt a (i + k) := by
  have hs : (a.extract i j).size = min j a.size - i := ByteArray.size_extract
  unfold bt
  rw [dif_pos (by omega), dif_pos (by omega)]
  rw [ByteArray.getElem_extract]

-- the number's last k bytes, the highest first
def lowB (v : Int) : Nat → List Int
  | 0 => []
  | k + 1 => (v / 256 ^ k % 256) :: lowB v k
theorem lowB_length (v : Int) (k : Nat) : (lowB v k).length = k := by
  induction k with
  | zero => rfl
  | succ k ih => simp [lowB, ih]

-- the padding
def zerosF (n : Nat) : Nat := (119 - n % 64) % 64
def bitsF (n : Nat) : Int := (n : Int) * 8 % 18446744073709551616
def padL (n : Nat) : List Int := 128 :: (List.replicate (zerosF n) 0 ++ lowB (bitsF n) 8)
theorem padL_length (n : Nat) : (padL n).length = 9 + zerosF n := by simp [padL, lowB_length]; omega
def padN (n : Nat) : Nat := (n + (9 + zerosF n)) / 64
theorem padN_mul (n : Nat) : 64 * padN n = n + (9 + zerosF n) := by unfold padN zerosF; omega
def padB (s : ByteArray) : ByteArray := s ++ str (padL s.size)
theorem padB_size (s : ByteArray) : (padB s).size = 64 * padN s.size := by
  rw [padN_mul, padB, ByteArray.size_append, str_size, padL_length]

-- the words as bytes
def wordB (x : Int) : List Int := [x / 16777216 % 256, x / 65536 % 256, x / 256 % 256, x % 256]
def bytesL : List Int → List Int
  | [] => []
  | x :: l => wordB x ++ bytesL l
theorem bytesL_snoc (l : List Int) (x : Int) : bytesL (l ++ [x]) = bytesL l ++ wordB x := by
  induction l with
  | nil => simp [bytesL]
  | cons y l ih => simp [bytesL, ih]
theorem bytesL_length (l : List Int) : (bytesL l).length = 4 * l.length := by
  induction l with
  | nil => rfl
  | cons y l ih => simp [bytesL, wordB, ih]; omega

def textF (s : St) : ByteArray := str (bytesL s.list)
theorem textF_size (s : St) : (textF s).size = 32 := by rw [textF, str_size, bytesL_length]; rfl

-- the hash
def shaF (kk : Nat → Int) (v : St) (s : ByteArray) : ByteArray := textF (hs kk (bt (padB s)) v (padN s.size))
theorem shaF_size (kk : Nat → Int) (v : St) (s : ByteArray) : (shaF kk v s).size = 32 := textF_size _
end Go.Proofs.YthdkbjbhjfiaiaaGreatDoor.pl

namespace Go.Proofs.YthdkbjbhjfiaiaaGreatDoor.ra
open Go.RowKit Go.PlainAid
open Go.Proofs.YthdkbjbhjfiaiaaGreatDoor.pl
set_option linter.unusedVariables false
set_option maxRecDepth 4000

theorem rotr (x : Int) (n : Nat) (w : World) (h0 : 0 ≤ x) (h1 : x < 4294967296) (hn : 1 ≤ n) (hn' : n ≤ 31) :
    Calls Tryz.prog 98 #[.int .u32 x, .int .u64 n] w fun e w' => e = .returned (.int .u32 (ROT x n)) ∧ w' = w := by
  go_enter Tryz.func98, Tryz.ntmps98
  go_wp2
  go_ret
  exact ⟨rfl, rfl⟩

set_option maxHeartbeats 800000 in
theorem word (B off len cap p : Nat) (c0 c1 c2 c3 : Int) (w : World) (hp : p + 3 < len) (hl : len ≤ 140737488355328)
    (b0 : 0 ≤ c0 ∧ c0 ≤ 255) (b1 : 0 ≤ c1 ∧ c1 ≤ 255) (b2 : 0 ≤ c2 ∧ c2 ≤ 255) (b3 : 0 ≤ c3 ∧ c3 ≤ 255)
    (e0 : w.cell? ⟨B, off + p, none⟩ = some (.int .u8 c0)) (e1 : w.cell? ⟨B, off + (p + 1), none⟩ = some (.int .u8 c1)) (e2 : w.cell? ⟨B, off + (p + 2), none⟩ = some (.int .u8 c2)) (e3 : w.cell? ⟨B, off + (p + 3), none⟩ = some (.int .u8 c3)) :
    Calls Tryz.prog 125 #[.slice (some ⟨B, off, none⟩) len cap, .int .i64 p] w fun e w' => e = .returned (.int .u32 (WORD c0 c1 c2 c3)) ∧ ∃ n, w' = w.drewN n := by
  have g0 : (p : Int) < len := by omega
  have g1 : (p : Int) + 1 < len := by omega
  have g2 : (p : Int) + 2 < len := by omega
  have g3 : (p : Int) + 3 < len := by omega
  go_enter Tryz.func125, Tryz.ntmps125
  go_wp2_with fail
  go_quiet (fail)
  go_wp2
  go_ret
  exact ⟨rfl, nq, rfl⟩

theorem setCell_drewN (w : World) (n : Nat) (a : Addr) (v : Value) : (w.drewN n).setCell a v = (w.setCell a v).drewN n := rfl

theorem rotr' (x : Int) (n : Nat) (N : Int) (hN : N = n) (w : World) (h0 : 0 ≤ x) (h1 : x < 4294967296) (hn : 1 ≤ n) (hn' : n ≤ 31) :
    Calls Tryz.prog 98 #[.int .u32 x, .int .u64 N] w fun e w' => e = .returned (.int .u32 (ROT x n)) ∧ w' = w := by
  subst hN
  exact rotr x n w h0 h1 hn hn'

def Bytes (w : World) (B off len : Nat) (g : Nat → Int) : Prop := B < w.heap.size ∧ ∀ j, j < len → w.cell? ⟨B, off + j, none⟩ = some (.int .u8 (g j)) ∧ 0 ≤ g j ∧ g j ≤ 255

theorem store_next (W : World) (m N : Nat) (l l' : List Int) (t : Nat) (v x : Int) (hN : N = W.heap.size) (hv : v = x) (hset : l.set t x = l') :
    ((W.alloc (.cells (row32 l) 135)).drewN m).setCell ⟨N, t, none⟩ (.int .u32 v) = (W.alloc (.cells (row32 l') 135)).drewN m := by
  rw [setCell_drewN, World.setCell_alloc_at _ _ _ _ _ hN, hv, row32_set, hset]

set_option maxHeartbeats 1600000 in
theorem schedule (B off len cap p : Nat) (g : Nat → Int) (w : World) (hp : p + 63 < len) (hl : len ≤ 140737488355328) (HB : Hid (Bytes w B off len g)) :
    Calls Tryz.prog 97 #[.slice (some ⟨B, off, none⟩) len cap, .int .i64 p] w fun e w' => e = .returned (.agg (row32 (wL g p 64))) ∧ Below w.heap.size w w' := by
  obtain ⟨hBw, hcells⟩ := HB.out
  have HC : Hid _ := hcells
  clear hcells
  go_enter Tryz.func97, Tryz.ntmps97
  go_wp2_with fail
  go_loopw [6] (fun i wr => ∃ k n : Nat, k ≤ 16 ∧ i = .int .i64 k ∧ wr = ((w.alloc (.cells z64 135)).alloc (.cells (row32 (fillW g p k)) 135)).drewN n) (fun i _ => (16 - intOf i).toNat)
  case atStart => exact ⟨0, 0, by omega, rfl, rfl⟩
  case round =>
    obtain ⟨k, n, hk, rfl, rfl⟩ := hrel
    by_cases hlt : k < 16
    · have hlt' : (k : Int) < 16 := by omega
      have hsz : k < (row32 (fillW g p k)).size := by rw [row32_size, fillW_length g p k (by omega)]; omega
      have hcr : ∀ j, j < len → (((w.alloc (.cells z64 135)).alloc (.cells (row32 (fillW g p k)) 135)).drewN n).cell? ⟨B, off + j, none⟩ = some (.int .u8 (g j)) := by
        intro j hj
        rw [World.cell?_drewN, World.cell?_alloc_lt _ _ _ (by simp; omega), World.cell?_alloc_lt _ _ _ hBw]
        exact (HC.out j hj).1
      have HCR : Hid _ := hcr
      clear hcr
      have HX : Hid _ := fillW_set g p k _ (by omega) (wL_low g p k hlt)
      go_wp2_with fail
      rw [show (p : Int) + 4 * (k : Int) = ((p + 4 * k : Nat) : Int) by omega]
      refine (word B off len cap (p + 4 * k) (g (p + 4 * k)) (g (p + 4 * k + 1)) (g (p + 4 * k + 2)) (g (p + 4 * k + 3)) _ (by omega) hl (HC.out _ (by omega)).2 (HC.out _ (by omega)).2 (HC.out _ (by omega)).2 (HC.out _ (by omega)).2 (HCR.out _ (by omega)) (HCR.out _ (by omega)) (HCR.out _ (by omega)) (HCR.out _ (by omega))).mono ?_
      rintro e w' ⟨rfl, m, rfl⟩
      go_wp2
      go_roundw
      case rel => exact ⟨k + 1, n + m, by omega, by go_num, by rw [setCell_drewN, World.setCell_alloc_at _ _ _ _ _ (by simp), row32_set, HX.out]⟩
      case measure => simp [intOf]; omega
    · have hlt' : ¬ (k : Int) < 16 := by omega
      obtain rfl : k = 16 := by omega
      go_wp2_with fail
      go_loopw [7] (fun i wr => ∃ t m : Nat, 16 ≤ t ∧ t ≤ 64 ∧ i = .int .i64 t ∧ wr = ((w.alloc (.cells z64 135)).alloc (.cells (row32 (fillW g p t)) 135)).drewN m) (fun i _ => (64 - intOf i).toNat)
      case atStart => exact ⟨16, n, by omega, by omega, rfl, rfl⟩
      case round =>
        obtain ⟨t, m, ht1, ht2, rfl, rfl⟩ := hrel
        by_cases hlt : t < 64
        · have hlt' : (t : Int) < 64 := by omega
          have HX : Hid _ := fillW_set g p t _ hlt (wL_high g p t (by omega))
          have hsz : t < (row32 (fillW g p t)).size := by rw [row32_size, fillW_length g p t (by omega)]; omega
          have get : ∀ d, 1 ≤ d → d ≤ 16 → (row32 (fillW g p t))[t - d]? = some (.int .u32 ((wL g p t).getD (t - d) 0)) := by
            intro d h1 h2
            rw [row32_get, fillW_get g p t (t - d) (by omega)]; rfl
          have g15 := get 15 (by omega) (by omega)
          have g2 := get 2 (by omega) (by omega)
          have g7 := get 7 (by omega) (by omega)
          have g16 := get 16 (by omega) (by omega)
          have r15 := wL_range g p t (t - 15)
          have r2 := wL_range g p t (t - 2)
          clear get
          have HN : Hid (nextW (wL g p t) t = (S1 ((wL g p t).getD (t - 2) 0) + (wL g p t).getD (t - 7) 0 + S0 ((wL g p t).getD (t - 15) 0) + (wL g p t).getD (t - 16) 0) % 4294967296) := rfl
          revert HN g15 g2 g7 g16 r15 r2
          generalize (wL g p t).getD (t - 15) 0 = x15
          generalize (wL g p t).getD (t - 2) 0 = x2
          generalize (wL g p t).getD (t - 7) 0 = x7
          generalize (wL g p t).getD (t - 16) 0 = x16
          intro g15 g2 g7 g16 r15 r2 HN
          obtain ⟨r15a, r15b⟩ := r15
          obtain ⟨r2a, r2b⟩ := r2
          go_wp2_with fail
          refine (rotr' x15 7 7 rfl _ r15a r15b (by omega) (by omega)).mono ?_
          rintro e w' ⟨rfl, rfl⟩
          go_wp2_with fail
          refine (rotr' x15 18 18 rfl _ r15a r15b (by omega) (by omega)).mono ?_
          rintro e w' ⟨rfl, rfl⟩
          go_wp2_with fail
          refine (rotr' x2 17 17 rfl _ r2a r2b (by omega) (by omega)).mono ?_
          rintro e w' ⟨rfl, rfl⟩
          go_wp2_with fail
          refine (rotr' x2 19 19 rfl _ r2a r2b (by omega) (by omega)).mono ?_
          rintro e w' ⟨rfl, rfl⟩
          go_wp2_with fail
          go_region
          go_wp2
          go_roundw
          case rel => exact ⟨t + 1, m + 1, by omega, by omega, by go_num, store_next _ _ _ _ _ _ _ _ (by simp) HN.out.symm HX.out⟩
          case measure => simp [intOf]; omega
        · have hlt' : ¬ (t : Int) < 64 := by omega
          obtain rfl : t = 64 := by omega
          have hf : fillW g p 64 = wL g p 64 := by simp [fillW]
          rw [hf]
          have hlen : (row32 (wL g p 64)).size = 64 := by rw [row32_size, wL_length]
          have hi : (Tryz.prog.info? 135).map (·.size) = some (row32 (wL g p 64)).size := by rw [hlen]; kernel_rfl
          have h1 : ((((w.alloc (.cells z64 135)).alloc (.cells (row32 (wL g p 64)) 135)).drewN m).heap)[w.heap.size + 1]? = some (.cells (row32 (wL g p 64)) 135 (0, 0)) := heap_alloc2_new w _ _
          have h2 : ((((w.alloc (.cells z64 135)).alloc (.cells (row32 (wL g p 64)) 135)).drewN m).heap)[w.heap.size]? = some (.cells z64 135 (0, 0)) := heap_alloc2_old w _ _
          have h3 : (row32 (wL g p 64)).all (·.oneCell') = true := by simp [row32, Value.oneCell']
          have h4 : z64.size = (row32 (wL g p 64)).size := by rw [hlen]; rfl
          have HI : Hid _ := hi; have H1 : Hid _ := h1; have H2 : Hid _ := h2; have H3 : Hid _ := h3; have H4 : Hid _ := h4
          clear hf hlen hi h1 h2 h3 h4
          go_wp2_with (first | (refine wpList_load_row rfl 135 (.tmp 5) rfl (w.heap.size + 1) rfl 135 (row32 (wL g p 64)) (0, 0) _ H1.out Tryz.underlying135 rfl HI.out ?_) | (refine wpList_store_row rfl 135 (.tmp 4) (.tmp 67) rfl w.heap.size (row32 (wL g p 64)) rfl rfl 135 z64 H2.out HI.out H4.out H3.out ?_))
          exact bodyPost_ret (v := .agg (row32 (wL g p 64))) (results_cell_row Tryz.results97 _ _ w.heap.size 135 _ (0, 0) _ rfl (setRow_heap _ _ _ _ _ _ H2.out) Tryz.underlying135 rfl HI.out) rfl ⟨rfl, below_setRow (below_drewN (((Below.refl _ _).alloc (Nat.le_refl _) _).alloc (by simp) _) m) (Nat.le_refl _) _⟩
end Go.Proofs.YthdkbjbhjfiaiaaGreatDoor.ra

namespace Go.Proofs.YthdkbjbhjfiaiaaGreatDoor.rb
open Go.RowKit Go.PlainAid
open Go.Proofs.YthdkbjbhjfiaiaaGreatDoor.ra Go.Proofs.YthdkbjbhjfiaiaaGreatDoor.pl
set_option linter.unusedVariables false

theorem rotrZ (x N : Int) (w : World) (h0 : 0 ≤ x) (h1 : x < 4294967296) (hn : 1 ≤ N) (hn' : N ≤ 31) :
    Calls Tryz.prog 98 #[.int .u32 x, .int .u64 N] w fun e w' => e = .returned (.int .u32 (ROT x N.toNat)) ∧ w' = w := by
  obtain ⟨n, rfl⟩ := Int.eq_ofNat_of_zero_le (show 0 ≤ N by omega)
  exact rotr x n w h0 h1 (by omega) (by omega)

theorem size40 (s : St) : (Tryz.prog.info? 103).map (·.size) = some s.cells.size := by
  have h : (Tryz.prog.info? 103).map (·.size) = some 8 := by kernel_rfl
  exact h

theorem store8 {ops : Array Oper} {rest : List Oper} {o : Oper} {a : Act} {w : World} {Q : Exit → Act → World → Prop} (hgd : o.guard = none) (ho : o.op = .store 103 (.tmp 8) (.tmp 98)) (g : Nat) (Y X : St)
    (hx : a.eval (.tmp 8) = .pointer (some ⟨g, 0, none⟩)) (hy : a.eval (.tmp 98) = .agg Y.cells) (hg : w.heap[g]? = some (.cells X.cells 103 (0, 0)))
    (h : wpList Tryz.prog ops Q rest (a.put o.dst undef) (w.setRow g Y.cells)) : wpList Tryz.prog ops Q (o :: rest) a w :=
  wpList_store_row hgd 103 _ _ ho g Y.cells hx hy 103 X.cells hg (size40 Y) rfl (by simp [St.cells, Value.oneCell']) h

structure Lay (w w1 : World) (WL V X : Array Value) (wr : World) : Prop where
  lx : wr.heap[w1.heap.size + 1]? = some (.cells X 103 (0, 0))
  lw : wr.heap[w1.heap.size]? = some (.cells WL 135 (0, 0))
  lv : wr.heap[w.heap.size]? = some (.cells V 103 (0, 0))
  lr : wr.heap[w.heap.size + 1]? = some (.cells #[.int .u32 0, .int .u32 0, .int .u32 0, .int .u32 0, .int .u32 0, .int .u32 0, .int .u32 0, .int .u32 0] 103 (0, 0))
  lb : Below w.heap.size w wr

set_option maxHeartbeats 800000 in
set_option maxRecDepth 100000 in
theorem block (v : St) (B off len cap p : Nat) (g kk : Nat → Int) (w : World) (hp : p + 63 < len) (hl : len ≤ 140737488355328) (hv : v.ok) (HB : Hid (Bytes w B off len g)) (HK : Hid (∀ j, j < 64 → w.cell? ⟨1, j, none⟩ = some (.int .u32 (kk j)))) :
    Calls Tryz.prog 65 #[.agg v.cells, .slice (some ⟨B, off, none⟩) len cap, .int .i64 p] w fun e w' => e = .returned (.agg (blockF kk g p v).cells) ∧ Below w.heap.size w w' := by
  obtain ⟨v0, v1, v2, v3, v4, v5, v6, v7⟩ := v
  show Calls Tryz.prog 65 #[.agg #[.int .u32 v0, .int .u32 v1, .int .u32 v2, .int .u32 v3, .int .u32 v4, .int .u32 v5, .int .u32 v6, .int .u32 v7], .slice (some ⟨B, off, none⟩) len cap, .int .i64 p] w _
  go_enter Tryz.func65, Tryz.ntmps65
  go_wp2_with fail
  refine (schedule B off len cap p g _ hp hl ?_).mono ?_
  · obtain ⟨h1, h2⟩ := HB.out
    refine ⟨by simp; omega, fun j hj => ⟨?_, (h2 j hj).2⟩⟩
    rw [World.cell?_alloc_lt _ _ _ (by simp; omega), World.cell?_alloc_lt _ _ _ h1]
    exact (h2 j hj).1
  rintro e w1 ⟨rfl, hb⟩
  have hV1 := (hb.block w.heap.size (by simp; omega)).trans (heap_alloc2_old w _ _)
  have hR1 := (hb.block (w.heap.size + 1) (by simp)).trans (heap_alloc2_new w _ _)
  have hs1 : w.heap.size + 2 ≤ w1.heap.size := by have := hb.size; simp at this; omega
  have hbel : Below w.heap.size w w1 := (((Below.refl _ _).alloc (Nat.le_refl _) _).alloc (by simp) _).trans (hb.mono (by simp; omega))
  have HV1 : Hid _ := hV1
  have HR1 : Hid _ := hR1
  have HL : Hid (Below w.heap.size w w1) := hbel
  clear hV1 hR1 hb hbel
  have hlen : (row32 (wL g p 64)).size = 64 := by rw [row32_size, wL_length]
  have HI : Hid ((Tryz.prog.info? 135).map (·.size) = some (row32 (wL g p 64)).size) := by show _ = _; rw [hlen]; kernel_rfl
  have H3 : Hid ((row32 (wL g p 64)).all (·.oneCell') = true) := by show _ = _; simp [row32, Value.oneCell']
  have H4 : Hid (64 = (row32 (wL g p 64)).size) := by show _ = _; rw [hlen]
  clear hlen
  obtain ⟨x, HWX⟩ : ∃ x : Nat → Int, Hid (∀ j, j < 64 → x j = (wL g p 64).getD j 0) := ⟨fun j => (wL g p 64).getD j 0, fun _ _ => rfl⟩
  have HWL : Hid (∀ j, j < 64 → (row32 (wL g p 64))[j]? = some (.int .u32 (x j))) := fun j hj => by
    rw [row32_get, List.getElem?_eq_getElem (by rw [wL_length]; exact hj), HWX.out j hj, List.getD, List.getElem?_eq_getElem (by rw [wL_length]; exact hj)]
    rfl
  generalize row32 (wL g p 64) = WL at *
  have HW : Hid ((w1.alloc (.cells WL 135)).heap[w.heap.size]? = some (.cells #[.int .u32 v0, .int .u32 v1, .int .u32 v2, .int .u32 v3, .int .u32 v4, .int .u32 v5, .int .u32 v6, .int .u32 v7] 103 (0, 0))) := (heap_alloc_old w1 _ (by omega)).trans HV1.out
  have H40 : Hid ((Tryz.prog.info? 103).map (·.size) = some 8) := by show _ = _; kernel_rfl
  go_wp2_with (first | (refine wpList_store_row rfl 135 (.tmp 7) (.tmp 17) rfl w1.heap.size WL rfl rfl 135 _ (heap_alloc_new w1 _) HI.out H4.out H3.out ?_; rw [World.setRow_alloc_new]) | (refine wpList_load_row rfl 103 (.tmp 3) rfl w.heap.size rfl 103 #[.int .u32 v0, .int .u32 v1, .int .u32 v2, .int .u32 v3, .int .u32 v4, .int .u32 v5, .int .u32 v6, .int .u32 v7] (0, 0) _ HW.out Tryz.underlying103 rfl H40.out ?_))
  clear HW
  go_loopw [9] (fun i wr => ∃ (t : Nat) (s : St), t ≤ 64 ∧ i = .int .i64 t ∧ s = rnds kk x ⟨v0, v1, v2, v3, v4, v5, v6, v7⟩ t ∧ Lay w w1 WL #[.int .u32 v0, .int .u32 v1, .int .u32 v2, .int .u32 v3, .int .u32 v4, .int .u32 v5, .int .u32 v6, .int .u32 v7] s.cells wr ∧ s.ok) (fun i _ => (64 - intOf i).toNat)
  case atStart =>
    refine ⟨0, ⟨v0, v1, v2, v3, v4, v5, v6, v7⟩, by omega, rfl, rfl, ⟨?_, ?_, ?_, ?_, ?_⟩, hv⟩
    · exact heap_alloc2_new w1 _ _
    · exact heap_alloc2_old w1 _ _
    · rw [heap_alloc_old _ _ (by simp; omega), heap_alloc_old _ _ (by omega)]; exact HV1.out
    · rw [heap_alloc_old _ _ (by simp; omega), heap_alloc_old _ _ (by omega)]; exact HR1.out
    · exact ((HL.out.alloc (by omega) _).alloc (by simp; omega) _)
  case round =>
    obtain ⟨t, ⟨a, b, c, d, e, f, g', h'⟩, ht, rfl, hS, lay, ok⟩ := hrel
    have HS : Hid _ := hS
    have OK : Hid (St.ok _) := ok
    clear hS
    obtain ⟨lx, lw, lv, lr, lb⟩ := lay
    obtain ⟨⟨ha0, ha1⟩, ⟨hb0, hb1⟩, ⟨hc0, hc1⟩, ⟨hd0, hd1⟩, ⟨he0, he1⟩, ⟨hf0, hf1⟩, ⟨hg0, hg1⟩, ⟨hh0, hh1⟩⟩ := ok
    simp only at ha0 ha1 hb0 hb1 hc0 hc1 hd0 hd1 he0 he1 hf0 hf1 hg0 hg1 hh0 hh1
    have LX : Hid _ := lx; have LW : Hid _ := lw; have LV : Hid _ := lv; have LR : Hid _ := lr; have LB : Hid (Below _ _ _) := lb
    clear lx lw lv lr lb
    have X0 : wr.cell? ⟨w1.heap.size + 1, 0, none⟩ = some (.int .u32 a) := cell_of_row _ _ _ _ _ _ LX.out
    have X1 : wr.cell? ⟨w1.heap.size + 1, 1, none⟩ = some (.int .u32 b) := cell_of_row _ _ _ _ _ _ LX.out
    have X2 : wr.cell? ⟨w1.heap.size + 1, 2, none⟩ = some (.int .u32 c) := cell_of_row _ _ _ _ _ _ LX.out
    have X3 : wr.cell? ⟨w1.heap.size + 1, 3, none⟩ = some (.int .u32 d) := cell_of_row _ _ _ _ _ _ LX.out
    have X4 : wr.cell? ⟨w1.heap.size + 1, 4, none⟩ = some (.int .u32 e) := cell_of_row _ _ _ _ _ _ LX.out
    have X5 : wr.cell? ⟨w1.heap.size + 1, 5, none⟩ = some (.int .u32 f) := cell_of_row _ _ _ _ _ _ LX.out
    have X6 : wr.cell? ⟨w1.heap.size + 1, 6, none⟩ = some (.int .u32 g') := cell_of_row _ _ _ _ _ _ LX.out
    have X7 : wr.cell? ⟨w1.heap.size + 1, 7, none⟩ = some (.int .u32 h') := cell_of_row _ _ _ _ _ _ LX.out
    have hsg : IntKind.u32.signed = false := rfl
    by_cases hlt : t < 64
    · have hlt' : (t : Int) < 64 := by omega
      have hkt : wr.cell? ⟨1, t, none⟩ = some (.int .u32 (kk t)) := by
        have h1 := HK.out t hlt
        rw [← h1]
        exact LB.out.cell (block_lt_of_cell h1)
      have hwt : wr.cell? ⟨w1.heap.size, t, none⟩ = some (.int .u32 (x t)) := by
        rw [cell_of_row _ _ _ _ _ _ LW.out]; exact HWL.out t hlt
      go_wp2_with fail
      go_quiet ((go_at_call 98; exact Calls.quiet_of_same (rotrZ _ _ _ (by assumption) (by assumption) (by omega) (by omega))))
      generalize hW2 : wr.drewN nq = wr2
      have hc2 : ∀ a, wr2.cell? a = wr.cell? a := fun a => by subst hW2; rfl
      have HH2 : Hid (wr2.heap = wr.heap) := show _ = _ by subst hW2; rfl
      have HB2 : Hid (Below w.heap.size w wr2) := show Below _ _ _ from by subst hW2; exact below_drewN LB.out nq
      clear hW2
      go_wp2_with fail
      go_quiet ((go_at_call 98; exact Calls.quiet_of_same (rotrZ _ _ _ (by assumption) (by assumption) (by omega) (by omega))))
      generalize hW3 : wr2.drewN nq = wr3
      have hc3 : ∀ a, wr3.cell? a = wr.cell? a := fun a => by subst hW3; exact hc2 a
      have HH3 : Hid (wr3.heap = wr.heap) := show _ = _ by subst hW3; exact HH2.out
      have HB3 : Hid (Below w.heap.size w wr3) := show Below _ _ _ from by subst hW3; exact below_drewN HB2.out nq
      clear hW3 hc2 HH2 HB2
      have LX3 : Hid (wr3.heap[w1.heap.size + 1]? = some (.cells (St.mk a b c d e f g' h').cells 103 (0, 0))) := by show _ = _; rw [HH3.out]; exact LX.out
      generalize hT2 : (bits .xor .u32 (bits .xor .u32 (ROT a 2) (ROT a 13)) (ROT a 22) + bits .xor .u32 (bits .xor .u32 (bits .and .u32 a b) (bits .and .u32 a c)) (bits .and .u32 b c)) % 4294967296 = T2
      have HT2 : Hid _ := hT2
      clear hT2
      go_wp2_with (refine store8 rfl rfl (w1.heap.size + 1) ⟨_, a, b, c, _, e, f, g'⟩ ⟨a, b, c, d, e, f, g', h'⟩ rfl rfl LX3.out ?_)
      go_roundw
      case rel =>
        have hT2 := HT2.out
        subst hT2
        have e1 : rnds kk x ⟨v0, v1, v2, v3, v4, v5, v6, v7⟩ (t + 1) = rnd ⟨a, b, c, d, e, f, g', h'⟩ (kk t) (x t) := by
          show rnd _ _ _ = _
          rw [← HS.out]
        refine ⟨t + 1, rnd ⟨a, b, c, d, e, f, g', h'⟩ (kk t) (x t), by omega, by go_num, e1.symm, ⟨?_, ?_, ?_, ?_, ?_⟩, rnd_ok _ _ _ OK.out⟩
        · exact setRow_heap _ _ _ _ _ _ LX3.out
        · rw [setRow_other _ _ _ _ (by omega), HH3.out]; exact LW.out
        · rw [setRow_other _ _ _ _ (by omega), HH3.out]; exact LV.out
        · rw [setRow_other _ _ _ _ (by omega), HH3.out]; exact LR.out
        · exact below_setRow HB3.out (by omega) _
      case measure => simp [intOf]; omega
    · have hlt' : ¬ (t : Int) < 64 := by omega
      obtain rfl : t = 64 := by omega
      clear X0 X1 X2 X3 X4 X5 X6 X7
      have HV : Hid (wr.heap[w.heap.size]? = some (.cells (row32 (addL (St.mk v0 v1 v2 v3 v4 v5 v6 v7).list (St.mk a b c d e f g' h').list 0)) 103 (0, 0))) := LV.out
      generalize hVV : St.mk v0 v1 v2 v3 v4 v5 v6 v7 = VV at *
      generalize hXX : St.mk a b c d e f g' h' = XX at *
      go_wp2_with fail
      go_loopw [14] (fun i wq => ∃ k : Nat, k ≤ 8 ∧ i = .int .i64 k ∧ Lay w w1 WL (row32 (addL VV.list XX.list k)) XX.cells wq) (fun i _ => (8 - intOf i).toNat)
      case atStart => exact ⟨0, by omega, rfl, ⟨LX.out, LW.out, HV.out, LR.out, LB.out⟩⟩
      case round =>
        obtain ⟨k, hk, rfl, lay⟩ := hrel
        have LAY : Hid (Lay _ _ _ _ _ _) := lay
        clear lay
        by_cases hk8 : k < 8
        · have hk8' : (k : Int) < 8 := by omega
          have C1 : wr.cell? ⟨w.heap.size, k, none⟩ = some (.int .u32 (VV.list.getD k 0)) := by
            rw [cell_of_row _ _ _ _ _ _ LAY.out.lv, row32_get, addL_get VV XX k hk8]; rfl
          have C2 : wr.cell? ⟨w1.heap.size + 1, k, none⟩ = some (.int .u32 (XX.list.getD k 0)) := by
            rw [cell_of_row _ _ _ _ _ _ LAY.out.lx, St.get XX k hk8]
          have F1 : wr.frozen? ⟨w.heap.size, k, none⟩ = false := frozen_of_row _ _ _ _ _ LAY.out.lv
          have HA : Hid _ := addL_set VV XX k hk8
          revert HA C1 C2
          generalize VV.list.getD k 0 = vk
          generalize XX.list.getD k 0 = xk
          intro C1 C2 HA
          go_wp2_with fail
          go_region
          go_wp2
          go_roundw
          case rel =>
            refine ⟨k + 1, by omega, by go_num, ⟨?_, ?_, ?_, ?_, ?_⟩⟩
            · rw [heap_drew, heap_setCell_other _ _ _ _ (by simp; omega)]; exact LAY.out.lx
            · rw [heap_drew, heap_setCell_other _ _ _ _ (by simp; omega)]; exact LAY.out.lw
            · rw [heap_drew, heap_setCell_same _ _ _ _ _ _ LAY.out.lv, row32_set, HA.out]
            · rw [heap_drew, heap_setCell_other _ _ _ _ (by simp)]; exact LAY.out.lr
            · exact (LAY.out.lb.setCell (by simp) _).drew
          case measure => simp [intOf]; omega
        · have hk8' : ¬ (k : Int) < 8 := by omega
          obtain rfl : k = 8 := by omega
          have hlen : (row32 (addL VV.list XX.list 8)).size = 8 := by rw [row32_size, addL_length VV XX 8 (by omega)]
          have HI8 : Hid ((Tryz.prog.info? 103).map (·.size) = some (row32 (addL VV.list XX.list 8)).size) := by show _ = _; rw [hlen]; exact H40.out
          have HO8 : Hid ((row32 (addL VV.list XX.list 8)).all (·.oneCell') = true) := by show _ = _; simp [row32, Value.oneCell']
          have HS8 : Hid (8 = (row32 (addL VV.list XX.list 8)).size) := by show _ = _; rw [hlen]
          clear hlen
          go_wp2_with (first | (refine wpList_load_row rfl 103 (.tmp 3) rfl w.heap.size rfl 103 (row32 (addL VV.list XX.list 8)) (0, 0) _ LAY.out.lv Tryz.underlying103 rfl HI8.out ?_) | (refine wpList_store_row rfl 103 (.tmp 6) (.tmp 112) rfl (w.heap.size + 1) (row32 (addL VV.list XX.list 8)) rfl rfl 103 _ LAY.out.lr HI8.out HS8.out HO8.out ?_))
          refine bodyPost_ret (v := .agg (row32 (addL VV.list XX.list 8))) (results_cell_row Tryz.results65 _ _ (w.heap.size + 1) 103 _ (0, 0) _ rfl (setRow_heap _ _ _ _ _ _ LAY.out.lr) Tryz.underlying103 rfl HI8.out) rfl ⟨?_, below_setRow LAY.out.lb (by omega) _⟩
          rw [addL_full, ← St.cells_list]
          have hq : XX = rnds kk (fun j => (wL g p 64).getD j 0) VV 64 := by
            rw [HS.out]
            exact rnds_congr kk _ _ VV 64 (fun j hj => HWX.out j hj)
          subst hVV
          rw [hq]
          rfl
end Go.Proofs.YthdkbjbhjfiaiaaGreatDoor.rb

namespace Go.Proofs.YthdkbjbhjfiaiaaGreatDoor.pa
open Go.RowKit Go.PlainAid
open Go.Proofs.YthdkbjbhjfiaiaaGreatDoor.pl
set_option linter.unusedVariables false
set_option maxRecDepth 4000

theorem and31 (n m : Nat) (h1 : 1 ≤ n) (h2 : n + m = 32) (h3 : 1 ≤ m) : bits .and .u64 (IntKind.u64.wrap (-(n : Int))) 31 = (m : Int) := by
  have e : IntKind.u64.wrap (-(n : Int)) = 18446744073709551616 - (n : Int) := by
    rw [IntKind.wrap_u64]; omega
  rw [e, u64_and _ 31 (by omega) (by omega) (by omega) (by omega)]
  have h : (18446744073709551616 - (n : Int)).toNat &&& (31 : Int).toNat = (18446744073709551616 - (n : Int)).toNat % 32 := Nat.and_two_pow_sub_one_eq_mod _ 5
  rw [h]
  omega

theorem rot_flip (x : Int) (n m : Nat) (h0 : 0 ≤ x) (h1 : x < 4294967296) (h : n + m = 32) : bits .or .u32 (x * 2 ^ m % 4294967296) (x / 2 ^ n) = ROT x n := by
  have hm : 32 - n = m := by omega
  have hp : (0 : Int) < 2 ^ n := Int.pow_pos (by omega)
  have h2 : 0 ≤ x / 2 ^ n := Int.ediv_nonneg h0 (by omega)
  have h3 : x / 2 ^ n ≤ x := Int.ediv_le_self _ h0
  unfold ROT
  rw [hm, or_comm _ _ (by omega) (by omega) h2 (by omega)]

theorem rot32 (x : Int) (n : Nat) (w : World) (h0 : 0 ≤ x) (h1 : x < 4294967296) (hn : 1 ≤ n) (hn' : n ≤ 31) :
    Calls Tryz.prog 146 #[.int .u32 x, .int .i64 (-(n : Int))] w fun e w' => e = .returned (.int .u32 (ROT x n)) ∧ w' = w := by
  obtain ⟨m, hm⟩ : ∃ m, n + m = 32 := ⟨32 - n, by omega⟩
  have h31 := and31 n m hn hm (by omega)
  have HR : Hid _ := rot_flip x n m h0 h1 hm
  have HM : Hid _ := hm
  have e2 : 32 - (m : Int) = n := by omega
  have m1 : m ≤ 31 := by omega
  clear hm
  go_enter Tryz.func146, Tryz.ntmps146
  go_wp2
  go_ret
  rw [← HR.out]
  exact ⟨rfl, rfl⟩

def TRN (x : Int) (i j k : Nat) : Int := bits .xor .u32 (bits .xor .u32 (ROT x i) (ROT x j)) (ROT x k)
def SPR (x : Int) (i j k : Nat) : Int := bits .xor .u32 (bits .xor .u32 (ROT x i) (ROT x j)) (x / 2 ^ k)

theorem turns (x : Int) (i j k : Nat) (w : World) (h0 : 0 ≤ x) (h1 : x < 4294967296) (i1 : 1 ≤ i) (i2 : i ≤ 31) (j1 : 1 ≤ j) (j2 : j ≤ 31) (k1 : 1 ≤ k) (k2 : k ≤ 31) :
    Calls Tryz.prog 129 #[.int .u32 x, .int .i64 i, .int .i64 j, .int .i64 k] w fun e w' => e = .returned (.int .u32 (TRN x i j k)) ∧ w' = w := by
  go_enter Tryz.func129, Tryz.ntmps129
  go_wp2_with fail
  refine (rot32 x i _ h0 h1 i1 i2).mono ?_
  rintro e w' ⟨rfl, rfl⟩
  go_wp2_with fail
  refine (rot32 x j _ h0 h1 j1 j2).mono ?_
  rintro e w' ⟨rfl, rfl⟩
  go_wp2_with fail
  refine (rot32 x k _ h0 h1 k1 k2).mono ?_
  rintro e w' ⟨rfl, rfl⟩
  go_wp2
  go_ret
  exact ⟨rfl, rfl⟩

theorem spread (x : Int) (i j k : Nat) (w : World) (h0 : 0 ≤ x) (h1 : x < 4294967296) (i1 : 1 ≤ i) (i2 : i ≤ 31) (j1 : 1 ≤ j) (j2 : j ≤ 31) (k1 : 1 ≤ k) (k2 : k ≤ 31) :
    Calls Tryz.prog 145 #[.int .u32 x, .int .i64 i, .int .i64 j, .int .i64 k] w fun e w' => e = .returned (.int .u32 (SPR x i j k)) ∧ ∃ n, w' = w.drewN n := by
  go_enter Tryz.func145, Tryz.ntmps145
  go_wp2_with fail
  go_quiet ((go_at_call 146; exact Calls.quiet_of_same (rot32 _ _ _ (by assumption) (by assumption) (by omega) (by omega))))
  go_wp2
  go_ret
  exact ⟨rfl, nq, rfl⟩
end Go.Proofs.YthdkbjbhjfiaiaaGreatDoor.pa

namespace Go.Proofs.YthdkbjbhjfiaiaaGreatDoor.pb
open Go.RowKit Go.PlainAid
open Go.Proofs.YthdkbjbhjfiaiaaGreatDoor.pl Go.Proofs.YthdkbjbhjfiaiaaGreatDoor.pa
set_option linter.unusedVariables false
set_option maxRecDepth 4000

theorem setCell_drewN (w : World) (n : Nat) (a : Addr) (v : Value) : (w.drewN n).setCell a v = (w.setCell a v).drewN n := rfl

theorem store_next (W : World) (m N : Nat) (l l' : List Int) (t : Nat) (v x : Int) (hN : N = W.heap.size) (hv : v = x) (hset : l.set t x = l') :
    ((W.alloc (.cells (row32 l) 135)).drewN m).setCell ⟨N, t, none⟩ (.int .u32 v) = (W.alloc (.cells (row32 l') 135)).drewN m := by
  rw [setCell_drewN, World.setCell_alloc_at _ _ _ _ _ hN, hv, row32_set, hset]

theorem al64 : Tryz.prog.arrayLen 90 = 64 := by kernel_rfl
theorem el64 : Tryz.prog.elem 90 = 5 := by kernel_rfl
theorem si8 (W : World) : (sizeOf 5).run Tryz.prog W = .ok 1 W := by
  have h : (Tryz.prog.info? 5).map (·.size) = some 1 := by kernel_rfl
  cases hq : Tryz.prog.info? 5 with
  | none => simp [hq] at h
  | some i => simp [hq] at h; simp [sizeOf, typeInfo, hq, h]
theorem un64 : Tryz.prog.underlying 90 = some (.array (Tryz.prog.arrayLen 90) (Tryz.prog.elem 90)) := by rw [al64, el64]; exact Tryz.underlying90

theorem sliceAt_lh (b o l h : Nat) (L H : Int) (hL : L = l) (hH : H = h) (h1 : l ≤ h) (h2 : h ≤ 64) (hl : l < 64) (W : World) :
    (Instr.sliceAt 90 (.pointer (some ⟨b, o, none⟩)) (some (.int .i64 L)) (some (.int .i64 H)) none).run Tryz.prog W = .ok (.slice (some ⟨b, o + l, none⟩) (h - l) (64 - l)) W := by
  subst hL hH
  rw [run_sliceAt_array_lh W 90 _ un64 .i64 .i64 l h (by omega) (by omega) (by rw [al64]; omega), el64, si8, al64]
  simp only [Result.andThen_ok, slicedAt, Int.toNat_natCast, Nat.mul_one]
  rw [if_neg (by omega), Addr.add_mid]
theorem sliceAt_l (b o l : Nat) (L : Int) (hL : L = l) (hl : l < 64) (W : World) :
    (Instr.sliceAt 90 (.pointer (some ⟨b, o, none⟩)) (some (.int .i64 L)) none none).run Tryz.prog W = .ok (.slice (some ⟨b, o + l, none⟩) (64 - l) (64 - l)) W := by
  subst hL
  rw [run_sliceAt_array_l W 90 _ un64 .i64 l (by omega) (by rw [al64]; omega), el64, si8, al64]
  simp only [Result.andThen_ok, slicedAt, Int.toNat_natCast, Nat.mul_one]
  rw [if_neg (by omega), Addr.add_mid]

theorem spreadZ (x I J K : Int) (w : World) (h0 : 0 ≤ x) (h1 : x < 4294967296) (i1 : 1 ≤ I) (i2 : I ≤ 31) (j1 : 1 ≤ J) (j2 : J ≤ 31) (k1 : 1 ≤ K) (k2 : K ≤ 31) :
    Calls Tryz.prog 145 #[.int .u32 x, .int .i64 I, .int .i64 J, .int .i64 K] w fun e w' => e = .returned (.int .u32 (SPR x I.toNat J.toNat K.toNat)) ∧ ∃ n, w' = w.drewN n := by
  obtain ⟨i, rfl⟩ := Int.eq_ofNat_of_zero_le (show 0 ≤ I by omega)
  obtain ⟨j, rfl⟩ := Int.eq_ofNat_of_zero_le (show 0 ≤ J by omega)
  obtain ⟨k, rfl⟩ := Int.eq_ofNat_of_zero_le (show 0 ≤ K by omega)
  exact spread x i j k w h0 h1 (by omega) (by omega) (by omega) (by omega) (by omega) (by omega)
theorem turnsZ (x I J K : Int) (w : World) (h0 : 0 ≤ x) (h1 : x < 4294967296) (i1 : 1 ≤ I) (i2 : I ≤ 31) (j1 : 1 ≤ J) (j2 : J ≤ 31) (k1 : 1 ≤ K) (k2 : K ≤ 31) :
    Calls Tryz.prog 129 #[.int .u32 x, .int .i64 I, .int .i64 J, .int .i64 K] w fun e w' => e = .returned (.int .u32 (TRN x I.toNat J.toNat K.toNat)) ∧ w' = w := by
  obtain ⟨i, rfl⟩ := Int.eq_ofNat_of_zero_le (show 0 ≤ I by omega)
  obtain ⟨j, rfl⟩ := Int.eq_ofNat_of_zero_le (show 0 ≤ J by omega)
  obtain ⟨k, rfl⟩ := Int.eq_ofNat_of_zero_le (show 0 ≤ K by omega)
  exact turns x i j k w h0 h1 (by omega) (by omega) (by omega) (by omega) (by omega) (by omega)
theorem spread1 (x : Int) (w : World) (h0 : 0 ≤ x) (h1 : x < 4294967296) : Calls Tryz.prog 145 #[.int .u32 x, .int .i64 17, .int .i64 19, .int .i64 10] w fun e w' => e = .returned (.int .u32 (S1 x)) ∧ ∃ n, w' = w.drewN n :=
  spread x 17 19 10 w h0 h1 (by omega) (by omega) (by omega) (by omega) (by omega) (by omega)
theorem spread0 (x : Int) (w : World) (h0 : 0 ≤ x) (h1 : x < 4294967296) : Calls Tryz.prog 145 #[.int .u32 x, .int .i64 7, .int .i64 18, .int .i64 3] w fun e w' => e = .returned (.int .u32 (S0 x)) ∧ ∃ n, w' = w.drewN n :=
  spread x 7 18 3 w h0 h1 (by omega) (by omega) (by omega) (by omega) (by omega) (by omega)
theorem turns1 (x : Int) (w : World) (h0 : 0 ≤ x) (h1 : x < 4294967296) : Calls Tryz.prog 129 #[.int .u32 x, .int .i64 6, .int .i64 11, .int .i64 25] w fun e w' => e = .returned (.int .u32 (BS1 x)) ∧ w' = w :=
  turns x 6 11 25 w h0 h1 (by omega) (by omega) (by omega) (by omega) (by omega) (by omega)
theorem turns0 (x : Int) (w : World) (h0 : 0 ≤ x) (h1 : x < 4294967296) : Calls Tryz.prog 129 #[.int .u32 x, .int .i64 2, .int .i64 13, .int .i64 22] w fun e w' => e = .returned (.int .u32 (BS0 x)) ∧ w' = w :=
  turns x 2 13 22 w h0 h1 (by omega) (by omega) (by omega) (by omega) (by omega) (by omega)

theorem info64 : (Tryz.prog.info? 135).map (·.size) = some 64 := by kernel_rfl

theorem keep4 (wr : World) (B t : Nat) (v : Value) (n : Nat) (x2 x7 x15 x16 : Value) (g2 : wr.cell? ⟨B, t - 2, none⟩ = some x2) (g7 : wr.cell? ⟨B, t - 7, none⟩ = some x7) (g15 : wr.cell? ⟨B, t - 15, none⟩ = some x15) (g16 : wr.cell? ⟨B, t - 16, none⟩ = some x16) (h : 16 ≤ (t : Int)) :
    ((wr.drewN n).setCell ⟨B, t, none⟩ v).cell? ⟨B, t - 2, none⟩ = some x2 ∧ ((wr.drewN n).setCell ⟨B, t, none⟩ v).cell? ⟨B, t - 7, none⟩ = some x7 ∧ ((wr.drewN n).setCell ⟨B, t, none⟩ v).cell? ⟨B, t - 15, none⟩ = some x15 ∧ ((wr.drewN n).setCell ⟨B, t, none⟩ v).cell? ⟨B, t - 16, none⟩ = some x16 := by
  have e : ∀ d, 1 ≤ d → d ≤ 16 → ((wr.drewN n).setCell ⟨B, t, none⟩ v).cell? ⟨B, t - d, none⟩ = wr.cell? ⟨B, t - d, none⟩ := fun d h1 h2 => World.cell?_setCell_other _ _ _ _ (by intro hh; injection hh with _ h2 _; omega)
  exact ⟨(e 2 (by omega) (by omega)).trans g2, (e 7 (by omega) (by omega)).trans g7, (e 15 (by omega) (by omega)).trans g15, (e 16 (by omega) (by omega)).trans g16⟩

theorem wrap_sum (a b c d : Int) : IntKind.u32.wrap (IntKind.u32.wrap (IntKind.u32.wrap (a + b) + c) + d) = (a + b + c + d) % 4294967296 := by
  simp only [IntKind.wrap_u32]; omega

structure Lay (w : World) (R V X : Array Value) (wr : World) : Prop where
  lr : wr.heap[w.heap.size]? = some (.cells R 90 (0, 0))
  lv : wr.heap[w.heap.size + 1]? = some (.cells V 135 (0, 0))
  lx : wr.heap[w.heap.size + 1 + 1]? = some (.cells X 135 (0, 0))
  lb : Below w.heap.size w wr

theorem wrap_small (x : Int) (h0 : 0 ≤ x) (h1 : x < 4294967296) : IntKind.u32.wrap x = x := by
  rw [IntKind.wrap_u32]; omega

theorem fillW_at (g : Nat → Int) (p t : Nat) (h : t < 64) : (fillW g p t)[t]? = some 0 := by
  rw [fillW, List.getElem?_append_right (by rw [wL_length]; omega), wL_length, List.getElem?_replicate]
  rw [if_pos (by omega)]

theorem Lay.set {w : World} {R V : Array Value} {l l' : List Int} {wr : World} (h : Lay w R V (row32 l) wr) (t : Nat) (v : Int) (hs : l.set t v = l') (n : Nat) : Lay w R V (row32 l') ((wr.setCell ⟨w.heap.size + 1 + 1, t, none⟩ (.int .u32 v)).drewN n) := by
  refine ⟨?_, ?_, ?_, ?_⟩
  · show (wr.setCell _ _).heap[_]? = _
    rw [heap_setCell_other _ _ _ _ (by simp; omega)]; exact h.lr
  · show (wr.setCell _ _).heap[_]? = _
    rw [heap_setCell_other _ _ _ _ (by simp)]; exact h.lv
  · show (wr.setCell _ _).heap[_]? = _
    rw [heap_setCell_same _ _ _ _ _ _ h.lx, row32_set, hs]
  · exact below_drewN (h.lb.setCell (by simp; omega) _) n

set_option maxHeartbeats 400000 in
theorem schedule (R : Array Value) (g : Nat → Int) (w : World) (HRs : Hid (R.size = 64)) (HR : Hid (∀ j, j < 64 → R[j]? = some (.int .u8 (g j)) ∧ 0 ≤ g j ∧ g j ≤ 255)) :
    Calls Tryz.prog 128 #[.agg R] w fun e w' => e = .returned (.agg (row32 (wL g 0 64))) ∧ Below w.heap.size w w' := by
  go_enter Tryz.func128, Tryz.ntmps128
  go_wp2_with fail
  go_loopw [7] (fun i wr => ∃ k : Nat, k ≤ 16 ∧ i = .int .i64 k ∧ Lay w R z64 (row32 (fillW g 0 k)) wr) (fun i _ => (16 - intOf i).toNat)
  case atStart =>
    refine ⟨0, by omega, rfl, ⟨?_, ?_, ?_, ?_⟩⟩
    · rw [heap_alloc_old _ _ (by simp; omega), heap_alloc_old _ _ (by simp)]; exact heap_alloc_new w _
    · rw [heap_alloc_old _ _ (by simp)]; exact heap_alloc2_new w _ _
    · have h := heap_alloc2_new (w.alloc (.cells R 90)) (.cells z64 135) (.cells z64 135)
      rw [show (w.alloc (.cells R 90)).heap.size = w.heap.size + 1 by simp] at h
      exact h
    · exact (((Below.refl _ _).alloc (Nat.le_refl _) _).alloc (by simp) _).alloc (by simp; omega) _
  case round =>
    obtain ⟨k, hk, rfl, lay⟩ := hrel
    have LAY : Hid (Lay _ _ _ _ _) := lay
    clear lay
    by_cases hlt : k < 16
    · have hlt' : (k : Int) < 16 := by omega
      have hk64 : (k : Int) < 64 := by omega
      have hk0 : (0 : Int) ≤ (k : Int) := by omega
      have hcr : ∀ j, j < 64 → wr.cell? ⟨w.heap.size, j, none⟩ = some (.int .u8 (g j)) := by
        intro j hj
        rw [cell_of_row _ _ _ _ _ _ LAY.out.lr]
        exact (HR.out j hj).1
      have c0 := hcr (4 * k) (by omega)
      have c1 := hcr (4 * k + 1) (by omega)
      have c2 := hcr (4 * k + 2) (by omega)
      have c3 := hcr (4 * k + 3) (by omega)
      clear hcr
      obtain ⟨b0, b0'⟩ := (HR.out (4 * k) (by omega)).2
      obtain ⟨b1, b1'⟩ := (HR.out (4 * k + 1) (by omega)).2
      obtain ⟨b2, b2'⟩ := (HR.out (4 * k + 2) (by omega)).2
      obtain ⟨b3, b3'⟩ := (HR.out (4 * k + 3) (by omega)).2
      have w0 := wrap_small (g (4 * k)) (by omega) (by omega)
      have w0' := wrap_small (g (4 * k) * 16777216) (by omega) (by omega)
      have w1 := wrap_small (g (4 * k + 1)) (by omega) (by omega)
      have w1' := wrap_small (g (4 * k + 1) * 65536) (by omega) (by omega)
      have w2 := wrap_small (g (4 * k + 2)) (by omega) (by omega)
      have w2' := wrap_small (g (4 * k + 2) * 256) (by omega) (by omega)
      have w3 := wrap_small (g (4 * k + 3)) (by omega) (by omega)
      have hne : w.heap.size + 1 + 1 ≠ w.heap.size := by omega
      have HX : Hid _ := fillW_set g 0 k _ (by omega) (wL_low g 0 k hlt)
      rw [Nat.zero_add] at HX
      have X1 : wr.cell? ⟨w.heap.size + 1 + 1, k, none⟩ = some (.int .u32 0) := by
        rw [cell_of_row _ _ _ _ _ _ LAY.out.lx, row32_get, fillW_at g 0 k (by omega)]; rfl
      have F1 : wr.frozen? ⟨w.heap.size + 1 + 1, k, none⟩ = false := frozen_of_row _ _ _ _ _ LAY.out.lx
      have hsl := fun W => sliceAt_lh w.heap.size 0 (4 * k) (4 * k + 4) (4 * (k : Int)) (4 * (k : Int) + 4) (by omega) (by omega) (by omega) (by omega) (by omega) W
      simp only [Nat.zero_add, show 4 * k + 4 - 4 * k = 4 by omega] at hsl
      go_wp2_with fail
      go_region_held3 (fun w' => w'.cell? ⟨w.heap.size, 4 * k, none⟩ = some (.int .u8 (g (4 * k))) ∧ w'.cell? ⟨w.heap.size, 4 * k + 1, none⟩ = some (.int .u8 (g (4 * k + 1))) ∧ w'.cell? ⟨w.heap.size, 4 * k + 2, none⟩ = some (.int .u8 (g (4 * k + 2))) ∧ w'.cell? ⟨w.heap.size, 4 * k + 3, none⟩ = some (.int .u8 (g (4 * k + 3)))) (go_keep) (fail)
      go_wp2
      go_roundw
      case rel => exact ⟨k + 1, by omega, by go_num, LAY.out.set k _ HX.out 1⟩
      case measure => simp [intOf]; omega
    · have hlt' : ¬ (k : Int) < 16 := by omega
      obtain rfl : k = 16 := by omega
      go_wp2_with fail
      go_loopw [6] (fun i wr => ∃ t : Nat, 16 ≤ t ∧ t ≤ 64 ∧ i = .int .i64 t ∧ Lay w R z64 (row32 (fillW g 0 t)) wr) (fun i _ => (64 - intOf i).toNat)
      case atStart => exact ⟨16, by omega, by omega, rfl, LAY.out⟩
      case round =>
        obtain ⟨t, ht1, ht2, rfl, lay⟩ := hrel
        clear LAY
        have LAY : Hid (Lay _ _ _ _ _) := lay
        clear lay
        by_cases hlt : t < 64
        · have hlt' : (t : Int) < 64 := by omega
          have ht0 : (0 : Int) ≤ (t : Int) := by omega
          have ht16 : (16 : Int) ≤ (t : Int) := by omega
          have HX : Hid _ := fillW_set g 0 t _ hlt (wL_high g 0 t (by omega))
          have get : ∀ d, 1 ≤ d → d ≤ 16 → wr.cell? ⟨w.heap.size + 1 + 1, t - d, none⟩ = some (.int .u32 ((wL g 0 t).getD (t - d) 0)) := by
            intro d h1 h2
            rw [cell_of_row _ _ _ _ _ _ LAY.out.lx, row32_get, fillW_get g 0 t (t - d) (by omega)]; rfl
          have g15 := get 15 (by omega) (by omega)
          have g2 := get 2 (by omega) (by omega)
          have g7 := get 7 (by omega) (by omega)
          have g16 := get 16 (by omega) (by omega)
          have r15 := wL_range g 0 t (t - 15)
          have r2 := wL_range g 0 t (t - 2)
          clear get
          have HN : Hid (nextW (wL g 0 t) t = (S1 ((wL g 0 t).getD (t - 2) 0) + (wL g 0 t).getD (t - 7) 0 + S0 ((wL g 0 t).getD (t - 15) 0) + (wL g 0 t).getD (t - 16) 0) % 4294967296) := rfl
          revert HN g15 g2 g7 g16 r15 r2
          generalize (wL g 0 t).getD (t - 15) 0 = x15
          generalize (wL g 0 t).getD (t - 2) 0 = x2
          generalize (wL g 0 t).getD (t - 7) 0 = x7
          generalize (wL g 0 t).getD (t - 16) 0 = x16
          intro g15 g2 g7 g16 r15 r2 HN
          obtain ⟨r15a, r15b⟩ := r15
          obtain ⟨r2a, r2b⟩ := r2
          have X1 : wr.cell? ⟨w.heap.size + 1 + 1, t, none⟩ = some (.int .u32 0) := by
            rw [cell_of_row _ _ _ _ _ _ LAY.out.lx, row32_get, fillW_at g 0 t (by omega)]; rfl
          have F1 : wr.frozen? ⟨w.heap.size + 1 + 1, t, none⟩ = false := frozen_of_row _ _ _ _ _ LAY.out.lx
          have i2 : IntKind.i64.wrap ((t : Int) - 2) = (t : Int) - 2 := by rw [IntKind.wrap_i64]; omega
          have j2 : (0 : Int) ≤ (t : Int) - 2 := by omega
          have m2 : (2 : Int) ≤ (t : Int) := by omega
          have k2 : (t : Int) - 2 < 64 := by omega
          have l2 : ((t : Int) - 2).toNat = t - 2 := by omega
          have i7 : IntKind.i64.wrap ((t : Int) - 7) = (t : Int) - 7 := by rw [IntKind.wrap_i64]; omega
          have j7 : (0 : Int) ≤ (t : Int) - 7 := by omega
          have m7 : (7 : Int) ≤ (t : Int) := by omega
          have k7 : (t : Int) - 7 < 64 := by omega
          have l7 : ((t : Int) - 7).toNat = t - 7 := by omega
          have i15 : IntKind.i64.wrap ((t : Int) - 15) = (t : Int) - 15 := by rw [IntKind.wrap_i64]; omega
          have j15 : (0 : Int) ≤ (t : Int) - 15 := by omega
          have m15 : (15 : Int) ≤ (t : Int) := by omega
          have k15 : (t : Int) - 15 < 64 := by omega
          have l15 : ((t : Int) - 15).toNat = t - 15 := by omega
          have i16 : IntKind.i64.wrap ((t : Int) - 16) = (t : Int) - 16 := by rw [IntKind.wrap_i64]; omega
          have j16 : (0 : Int) ≤ (t : Int) - 16 := by omega
          have k16 : (t : Int) - 16 < 64 := by omega
          have l16 : ((t : Int) - 16).toNat = t - 16 := by omega
          go_wp2_with fail
          go_region_held3 (fun w' => w'.cell? ⟨w.heap.size + 1 + 1, t - 2, none⟩ = some (.int .u32 x2) ∧ w'.cell? ⟨w.heap.size + 1 + 1, t - 7, none⟩ = some (.int .u32 x7) ∧ w'.cell? ⟨w.heap.size + 1 + 1, t - 15, none⟩ = some (.int .u32 x15) ∧ w'.cell? ⟨w.heap.size + 1 + 1, t - 16, none⟩ = some (.int .u32 x16)) (first | exact ⟨g2, g7, g15, g16⟩ | exact keep4 _ _ _ _ _ _ _ _ _ g2 g7 g15 g16 ht16) ((go_at_call 145; refine (spreadZ _ _ _ _ _ (by assumption) (by assumption) (by omega) (by omega) (by omega) (by omega) (by omega) (by omega)).mono ?_; rintro e w' ⟨rfl, n1, rfl⟩))
          go_wp2
          go_roundw
          case rel => exact ⟨t + 1, by omega, by omega, by go_num, LAY.out.set t _ ((congrArg _ ((wrap_sum _ _ _ _).trans HN.out.symm)).trans HX.out) _⟩
          case measure => simp [intOf]; omega
        · have hlt' : ¬ (t : Int) < 64 := by omega
          obtain rfl : t = 64 := by omega
          have hf : fillW g 0 64 = wL g 0 64 := by simp [fillW]
          rw [hf] at LAY
          have hlen : (row32 (wL g 0 64)).size = 64 := by rw [row32_size, wL_length]
          have hi : (Tryz.prog.info? 135).map (·.size) = some (row32 (wL g 0 64)).size := by rw [hlen]; kernel_rfl
          have h3 : (row32 (wL g 0 64)).all (·.oneCell') = true := by simp [row32, Value.oneCell']
          have h4 : z64.size = (row32 (wL g 0 64)).size := by rw [hlen]; rfl
          have HI : Hid _ := hi; have H3 : Hid _ := h3; have H4 : Hid _ := h4
          clear hf hlen hi h3 h4
          go_wp2_with (first | (refine wpList_load_row rfl 135 (.tmp 3) rfl (w.heap.size + 1 + 1) rfl 135 (row32 (wL g 0 64)) (0, 0) _ LAY.out.lx Tryz.underlying135 rfl HI.out ?_) | (refine wpList_store_row rfl 135 (.tmp 2) (.tmp 68) rfl (w.heap.size + 1) (row32 (wL g 0 64)) rfl rfl 135 z64 LAY.out.lv HI.out H4.out H3.out ?_))
          exact bodyPost_ret (v := .agg (row32 (wL g 0 64))) (results_cell_row Tryz.results128 _ _ (w.heap.size + 1) 135 _ (0, 0) _ rfl (setRow_heap _ _ _ _ _ _ LAY.out.lv) Tryz.underlying135 rfl HI.out) rfl ⟨rfl, below_setRow LAY.out.lb (by omega) _⟩
end Go.Proofs.YthdkbjbhjfiaiaaGreatDoor.pb

namespace Go.Proofs.YthdkbjbhjfiaiaaGreatDoor.pc
open Go.RowKit Go.PlainAid
open Go.Proofs.YthdkbjbhjfiaiaaGreatDoor.pl Go.Proofs.YthdkbjbhjfiaiaaGreatDoor.pa Go.Proofs.YthdkbjbhjfiaiaaGreatDoor.pb
set_option linter.unusedVariables false

-- but for block h the world is as it was
structure Keeps (h : Nat) (w w' : World) : Prop where
  os : w'.os = w.os
  tape : w'.tape = w.tape
  output : w'.output = w.output
  size : w.heap.size ≤ w'.heap.size
  block : ∀ k, k < w.heap.size → k ≠ h → w'.heap[k]? = w.heap[k]?

theorem Keeps.refl (h : Nat) (w : World) : Keeps h w w := ⟨rfl, rfl, rfl, Nat.le_refl _, fun _ _ _ => rfl⟩
theorem Keeps.trans {h : Nat} {a b c : World} (x : Keeps h a b) (y : Keeps h b c) : Keeps h a c :=
  ⟨y.os.trans x.os, y.tape.trans x.tape, y.output.trans x.output, Nat.le_trans x.size y.size, fun k hk hn => (y.block k (Nat.lt_of_lt_of_le hk x.size) hn).trans (x.block k hk hn)⟩
theorem Keeps.of_below {h : Nat} {w w' : World} (b : Below w.heap.size w w') : Keeps h w w' := ⟨b.os, b.tape, b.output, b.size, fun k hk _ => b.block k hk⟩
theorem Keeps.setCell {h : Nat} {w w' : World} (x : Keeps h w w') (o : Nat) (v : Value) : Keeps h w (w'.setCell ⟨h, o, none⟩ v) :=
  ⟨x.os, x.tape, x.output, by simpa [World.setCell] using x.size, fun k hk hn => (Below.heap_setCell _ _ _ _ hn).trans (x.block k hk hn)⟩
theorem Keeps.drewN {h : Nat} {w w' : World} (x : Keeps h w w') (n : Nat) : Keeps h w (w'.drewN n) := ⟨x.os, x.tape, x.output, x.size, x.block⟩
theorem Keeps.alloc {h : Nat} {w w' : World} (x : Keeps h w w') (o : Obj) : Keeps h w (w'.alloc o) :=
  x.trans ⟨rfl, rfl, rfl, by simp, fun k hk _ => Below.heap_alloc _ _ _ hk⟩
theorem Keeps.setRow {h : Nat} {w w' : World} (x : Keeps h w w') (cs : Array Value) : Keeps h w (w'.setRow h cs) :=
  x.trans ⟨rfl, rfl, rfl, by simp [World.setRow], fun k hk hn => setRow_other _ _ _ _ hn⟩
theorem Keeps.setRow_new {h : Nat} {w w' : World} (x : Keeps h w w') (g : Nat) (hg : w.heap.size ≤ g) (cs : Array Value) : Keeps h w (w'.setRow g cs) :=
  ⟨x.os, x.tape, x.output, by simpa [World.setRow] using x.size, fun k hk hn => (setRow_other _ _ _ _ (by omega)).trans (x.block k hk hn)⟩
theorem Keeps.below {h B : Nat} {w w' : World} (x : Keeps h w w') (hB : B ≤ h) (hw : B ≤ w.heap.size) : Below B w w' := ⟨x.os, x.tape, x.output, x.size, fun k hk => x.block k (by omega) (by omega)⟩
theorem Keeps.cell {h : Nat} {w w' : World} (x : Keeps h w w') {p : Addr} (h1 : p.block < w.heap.size) (h2 : p.block ≠ h) : w'.cell? p = w.cell? p := World.cell?_of_block (w := w) (x.block p.block h1 h2)

-- a block that opens with words
def hc (V : List Int) (rest : List Value) : Array Value := (V.map (Value.int .u32) ++ rest).toArray
theorem hc_get (V : List Int) (rest : List Value) (i : Nat) (h : i < V.length) : (hc V rest)[i]? = some (.int .u32 (V.getD i 0)) := by
  rw [hc, List.getElem?_toArray, List.getElem?_append_left (by simpa using h)]
  simp [List.getD, h]
theorem hc_set (V : List Int) (rest : List Value) (i : Nat) (x : Int) (h : i < V.length) : (hc V rest).setIfInBounds i (.int .u32 x) = hc (V.set i x) rest := by
  simp only [hc, List.setIfInBounds_toArray]
  rw [List.set_append_left _ _ (by simpa using h), List.map_set]

def KT (w : World) (kk : Nat → Int) : Prop := ∀ j, j < 64 → w.cell? ⟨4, j, none⟩ = some (.int .u32 (kk j))
theorem KT.lt {w : World} {kk : Nat → Int} (h : KT w kk) : 4 < w.heap.size := World.block_lt_of_cell? w ⟨4, 0, none⟩ (h 0 (by omega))
theorem KT.keep {w w' : World} {kk : Nat → Int} {h : Nat} (x : KT w kk) (k : Keeps h w w') (hh : 5 ≤ h) : KT w' kk := fun j hj => (k.cell x.lt (show 4 ≠ h by omega)).trans (x j hj)

theorem val_a (T U : Int) : Value.int .u32 ((T % 4294967296 + U) % 4294967296) = .int .u32 ((T + U) % 4294967296) := by congr 1; omega
theorem val_e (d T : Int) : Value.int .u32 ((d + T % 4294967296) % 4294967296) = .int .u32 ((d + T) % 4294967296) := by congr 1; omega

theorem index8 (X : St) (W : World) : ∀ k : Nat, k < 8 → (Instr.index 103 (.agg #[.int .u32 X.a, .int .u32 X.b, .int .u32 X.c, .int .u32 X.d, .int .u32 X.e, .int .u32 X.f, .int .u32 X.g, .int .u32 X.h]) (.int .i64 k)).run Tryz.prog W = .ok (.int .u32 (X.list.getD k 0)) W
  | 0, _ => by kernel_rfl
  | 1, _ => by kernel_rfl
  | 2, _ => by kernel_rfl
  | 3, _ => by kernel_rfl
  | 4, _ => by kernel_rfl
  | 5, _ => by kernel_rfl
  | 6, _ => by kernel_rfl
  | 7, _ => by kernel_rfl

structure LayT (w w1 : World) (h : Nat) (T : TypeId) (V : List Int) (rest : List Value) (WL : Array Value) (wr : World) : Prop where
  lh : wr.heap[h]? = some (.cells (hc V rest) T (0, 0))
  lw : wr.heap[w1.heap.size]? = some (.cells WL 135 (0, 0))
  lk : Keeps h w wr

set_option maxHeartbeats 800000 in
set_option maxRecDepth 100000 in
theorem take (h : Nat) (v : St) (rest : List Value) (T : TypeId) (R : Array Value) (g kk : Nat → Int) (w : World) (h4 : 5 ≤ h) (hv : v.ok)
    (HH : Hid (w.heap[h]? = some (.cells (hc v.list rest) T (0, 0)))) (HRs : Hid (R.size = 64)) (HR : Hid (∀ j, j < 64 → R[j]? = some (.int .u8 (g j)) ∧ 0 ≤ g j ∧ g j ≤ 255)) (HK : Hid (KT w kk)) :
    Calls Tryz.prog 106 #[.pointer (some ⟨h, 0, none⟩), .agg R] w fun e w' => e = .returned (.tuple #[]) ∧ Keeps h w w' ∧ w'.heap[h]? = some (.cells (hc (blockF kk g 0 v).list rest) T (0, 0)) := by
  obtain ⟨v0, v1, v2, v3, v4, v5, v6, v7⟩ := v
  have hlt : h < w.heap.size := (Array.getElem?_eq_some_iff.1 HH.out).1
  have HIR : Hid ((Tryz.prog.info? 90).map (·.size) = some R.size) := by show _ = _; rw [HRs.out]; kernel_rfl
  go_enter Tryz.func106, Tryz.ntmps106
  go_wp2_with (refine wpList_load_row rfl 90 (.tmp 3) rfl w.heap.size rfl 90 R (0, 0) _ (heap_alloc_new w _) Tryz.underlying90 rfl HIR.out ?_)
  refine (schedule R g _ HRs HR).mono ?_
  rintro e w1 ⟨rfl, hb⟩
  have hs1 : w.heap.size + 1 ≤ w1.heap.size := by have := hb.size; simp at this; omega
  have hbel : Below w.heap.size w w1 := ((Below.refl _ _).alloc (Nat.le_refl _) _).trans (hb.mono (by simp))
  have HV1 : Hid _ := (hbel.block h hlt).trans HH.out
  have HL : Hid (Below w.heap.size w w1) := hbel
  clear hb hbel
  have hlen : (row32 (wL g 0 64)).size = 64 := by rw [row32_size, wL_length]
  have HI : Hid ((Tryz.prog.info? 135).map (·.size) = some (row32 (wL g 0 64)).size) := by show _ = _; rw [hlen]; kernel_rfl
  have H3 : Hid ((row32 (wL g 0 64)).all (·.oneCell') = true) := by show _ = _; simp [row32, Value.oneCell']
  have H4 : Hid (64 = (row32 (wL g 0 64)).size) := by show _ = _; rw [hlen]
  clear hlen
  obtain ⟨x, HWX⟩ : ∃ x : Nat → Int, Hid (∀ j, j < 64 → x j = (wL g 0 64).getD j 0) := ⟨fun j => (wL g 0 64).getD j 0, fun _ _ => rfl⟩
  have HWL : Hid (∀ j, j < 64 → (row32 (wL g 0 64))[j]? = some (.int .u32 (x j))) := fun j hj => by
    rw [row32_get, List.getElem?_eq_getElem (by rw [wL_length]; exact hj), HWX.out j hj, List.getD, List.getElem?_eq_getElem (by rw [wL_length]; exact hj)]
    rfl
  generalize row32 (wL g 0 64) = WL at *
  go_wp2_with (refine wpList_store_row rfl 135 (.tmp 4) (.tmp 19) rfl w1.heap.size WL rfl rfl 135 _ (heap_alloc_new w1 _) HI.out H4.out H3.out ?_; rw [World.setRow_alloc_new])
  have lay0 : LayT w w1 h T [v0, v1, v2, v3, v4, v5, v6, v7] rest WL (w1.alloc (.cells WL 135)) := ⟨(heap_alloc_old w1 _ (by omega)).trans HV1.out, heap_alloc_new w1 _, (Keeps.of_below HL.out).alloc _⟩
  generalize hw2 : w1.alloc (.cells WL 135) = w2 at *
  clear hw2
  have LAY0 : Hid (LayT _ _ _ _ _ _ _ _) := lay0
  clear lay0
  have hh : ∀ i, i < 8 → w2.cell? ⟨h, i, none⟩ = some (.int .u32 ([v0, v1, v2, v3, v4, v5, v6, v7].getD i 0)) := fun i hi => by
    rw [cell_of_row _ _ _ _ _ _ LAY0.out.lh]; exact hc_get _ _ _ hi
  have X0 : w2.cell? ⟨h, 0, none⟩ = some (.int .u32 v0) := hh 0 (by omega)
  have X1 : w2.cell? ⟨h, 1, none⟩ = some (.int .u32 v1) := hh 1 (by omega)
  have X2 : w2.cell? ⟨h, 2, none⟩ = some (.int .u32 v2) := hh 2 (by omega)
  have X3 : w2.cell? ⟨h, 3, none⟩ = some (.int .u32 v3) := hh 3 (by omega)
  have X4 : w2.cell? ⟨h, 4, none⟩ = some (.int .u32 v4) := hh 4 (by omega)
  have X5 : w2.cell? ⟨h, 5, none⟩ = some (.int .u32 v5) := hh 5 (by omega)
  have X6 : w2.cell? ⟨h, 6, none⟩ = some (.int .u32 v6) := hh 6 (by omega)
  have X7 : w2.cell? ⟨h, 7, none⟩ = some (.int .u32 v7) := hh 7 (by omega)
  clear hh
  go_wp2_with fail
  go_quiet (fail)
  go_wp2_with fail
  clear X0 X1 X2 X3 X4 X5 X6 X7
  have lay1 : LayT w w1 h T [v0, v1, v2, v3, v4, v5, v6, v7] rest WL (w2.drewN nq) := ⟨LAY0.out.lh, LAY0.out.lw, LAY0.out.lk.drewN nq⟩
  go_loopw [5, 6, 7, 8, 9, 10, 11, 12, 52] (fun A B C D E F G H i wr => ∃ (t : Nat) (s : St), t ≤ 64 ∧ i = .int .i64 t ∧ A = .int .u32 s.a ∧ B = .int .u32 s.b ∧ C = .int .u32 s.c ∧ D = .int .u32 s.d ∧ E = .int .u32 s.e ∧ F = .int .u32 s.f ∧ G = .int .u32 s.g ∧ H = .int .u32 s.h ∧ s = rnds kk x ⟨v0, v1, v2, v3, v4, v5, v6, v7⟩ t ∧ LayT w w1 h T [v0, v1, v2, v3, v4, v5, v6, v7] rest WL wr ∧ s.ok) (fun _ _ _ _ _ _ _ _ i _ => (64 - intOf i).toNat)
  case atStart => exact ⟨0, ⟨v0, v1, v2, v3, v4, v5, v6, v7⟩, by omega, rfl, rfl, rfl, rfl, rfl, rfl, rfl, rfl, rfl, rfl, lay1, hv⟩
  case round =>
    obtain ⟨t, ⟨a, b, c, d, e, f, g', h'⟩, ht, rfl, rfl, rfl, rfl, rfl, rfl, rfl, rfl, rfl, hS, lay, ok⟩ := hrel
    clear lay1 LAY0
    have HS : Hid _ := hS
    have OK : Hid (St.ok _) := ok
    have LAY : Hid (LayT _ _ _ _ _ _ _ _) := lay
    clear hS lay
    obtain ⟨⟨ha0, ha1⟩, ⟨hb0, hb1⟩, ⟨hc0, hc1⟩, ⟨hd0, hd1⟩, ⟨he0, he1⟩, ⟨hf0, hf1⟩, ⟨hg0, hg1⟩, ⟨hh0, hh1⟩⟩ := ok
    simp only at ha0 ha1 hb0 hb1 hc0 hc1 hd0 hd1 he0 he1 hf0 hf1 hg0 hg1 hh0 hh1
    have hsg : IntKind.u32.signed = false := rfl
    by_cases hlt : t < 64
    · have hlt' : (t : Int) < 64 := by omega
      have hkt : wr.cell? ⟨4, t, none⟩ = some (.int .u32 (kk t)) := HK.out.keep LAY.out.lk h4 t hlt
      have hwt : wr.cell? ⟨w1.heap.size, t, none⟩ = some (.int .u32 (x t)) := by
        rw [cell_of_row _ _ _ _ _ _ LAY.out.lw]; exact HWL.out t hlt
      go_wp2_with fail
      go_quiet ((go_at_call 129; exact Calls.quiet_of_same (turnsZ _ _ _ _ _ (by assumption) (by assumption) (by omega) (by omega) (by omega) (by omega) (by omega) (by omega))))
      generalize hW2 : wr.drewN nq = wr2
      have HL2 : Hid (LayT w w1 h T [v0, v1, v2, v3, v4, v5, v6, v7] rest WL wr2) := show LayT _ _ _ _ _ _ _ _ from by subst hW2; exact ⟨LAY.out.lh, LAY.out.lw, LAY.out.lk.drewN nq⟩
      clear hW2
      go_wp2_with fail
      refine (turnsZ a 2 13 22 _ ha0 ha1 (by omega) (by omega) (by omega) (by omega) (by omega) (by omega)).mono ?_
      rintro e w' ⟨rfl, rfl⟩
      go_wp2
      go_roundw
      case rel =>
        have e1 : rnds kk x ⟨v0, v1, v2, v3, v4, v5, v6, v7⟩ (t + 1) = rnd ⟨a, b, c, d, e, f, g', h'⟩ (kk t) (x t) := by
          show rnd _ _ _ = _
          rw [← HS.out]
        exact ⟨t + 1, rnd ⟨a, b, c, d, e, f, g', h'⟩ (kk t) (x t), by omega, by go_num, val_a _ _, rfl, rfl, rfl, val_e _ _, rfl, rfl, rfl, e1.symm, HL2.out, rnd_ok _ _ _ OK.out⟩
      case measure => simp [intOf]; omega
    · have hlt' : ¬ (t : Int) < 64 := by omega
      obtain rfl : t = 64 := by omega
      have HV : Hid (LayT w w1 h T (addL (St.mk v0 v1 v2 v3 v4 v5 v6 v7).list (St.mk a b c d e f g' h').list 0) rest WL wr) := LAY.out
      generalize hVV : St.mk v0 v1 v2 v3 v4 v5 v6 v7 = VV at *
      generalize hXX : St.mk a b c d e f g' h' = XX at *
      go_wp2_with fail
      go_loopw [112] (fun i wq => ∃ k : Nat, k ≤ 8 ∧ i = .int .i64 k ∧ LayT w w1 h T (addL VV.list XX.list k) rest WL wq) (fun i _ => (8 - intOf i).toNat)
      case atStart => exact ⟨0, by omega, rfl, HV.out⟩
      case round =>
        obtain ⟨k, hk, rfl, lay⟩ := hrel
        clear LAY HV
        have LAY : Hid (LayT _ _ _ _ _ _ _ _) := lay
        clear lay
        by_cases hk8 : k < 8
        · have hk8' : (k : Int) < 8 := by omega
          have hk0 : (0 : Int) ≤ (k : Int) := by omega
          have hal : k < (addL VV.list XX.list k).length := by rw [addL_length VV XX k (by omega)]; exact hk8
          have C1 : wr.cell? ⟨h, k, none⟩ = some (.int .u32 (VV.list.getD k 0)) := by
            rw [cell_of_row _ _ _ _ _ _ LAY.out.lh, hc_get _ _ _ hal, List.getD, addL_get VV XX k hk8]; rfl
          have F1 : wr.frozen? ⟨h, k, none⟩ = false := frozen_of_row _ _ _ _ _ LAY.out.lh
          have HA : Hid _ := addL_set VV XX k hk8
          have hi8 := fun W => index8 XX W k hk8
          revert HA C1 hi8
          generalize VV.list.getD k 0 = vk
          generalize XX.list.getD k 0 = xk
          intro C1 HA hi8
          go_wp2_with fail
          go_region
          go_wp2
          go_roundw
          case rel =>
            refine ⟨k + 1, by omega, by go_num, ⟨?_, ?_, ?_⟩⟩
            · rw [heap_drew, heap_setCell_same _ _ _ _ _ _ LAY.out.lh, hc_set _ _ _ _ hal, HA.out]
            · rw [heap_drew, heap_setCell_other _ _ _ _ (by simp; omega)]; exact LAY.out.lw
            · exact (LAY.out.lk.setCell _ _).drewN 1
          case measure => simp [intOf]; omega
        · have hk8' : ¬ (k : Int) < 8 := by omega
          obtain rfl : k = 8 := by omega
          go_wp2
          go_end0
          refine ⟨rfl, LAY.out.lk, ?_⟩
          rw [LAY.out.lh, addL_full]
          have hq : XX = rnds kk (fun j => (wL g 0 64).getD j 0) VV 64 := by
            rw [HS.out]
            exact rnds_congr kk _ _ VV 64 (fun j hj => HWX.out j hj)
          subst hVV
          rw [hq]
          rfl
end Go.Proofs.YthdkbjbhjfiaiaaGreatDoor.pc

namespace Go.Proofs.YthdkbjbhjfiaiaaGreatDoor.pd
open Go.RowKit Go.PlainAid
open Go.Proofs.YthdkbjbhjfiaiaaGreatDoor.pl Go.Proofs.YthdkbjbhjfiaiaaGreatDoor.pa Go.Proofs.YthdkbjbhjfiaiaaGreatDoor.pb Go.Proofs.YthdkbjbhjfiaiaaGreatDoor.pc
set_option linter.unusedVariables false
set_option maxRecDepth 4000

-- the cells of a Hash
def hcells (s : St) (L : List Int) (sz : Int) : Array Value := hc s.list (L.map (Value.int .u8) ++ [.int .i64 sz])
theorem St.len (s : St) : s.list.length = 8 := rfl

theorem hcells_at (s : St) (L : List Int) (sz : Int) (j : Nat) (h : j < L.length) : (hcells s L sz)[8 + j]? = some (.int .u8 (L.getD j 0)) := by
  rw [hcells, hc, List.getElem?_toArray, List.getElem?_append_right (by simp [St.list]), List.length_map, St.len, Nat.add_sub_cancel_left, List.getElem?_append_left (by simpa using h)]
  simp [List.getD, h]

def btL (q : ByteArray) (n : Nat) : List Int := (List.range n).map (bt q)
theorem btL_length (q : ByteArray) (n : Nat) : (btL q n).length = n := by simp [btL]
theorem btL_get (q : ByteArray) (n j : Nat) (h : j < n) : (btL q n).getD j 0 = bt q j := by simp [btL, List.getD, h]

theorem first_cells (q : ByteArray) (n : Nat) (h : n ≤ q.size) : ((q.extract 0 n).data.map fun b => Value.int .u8 b.toNat).toList = (btL q n).map (Value.int .u8) := by
  have hs : (q.extract 0 n).size = n := by rw [ByteArray.size_extract]; omega
  apply List.ext_getElem
  · simp only [Array.toList_map, List.length_map, btL_length, Array.length_toList]; exact hs
  · intro i h1 h2
    have hi : i < n := by simpa [btL_length] using h2
    have e := get_bt (q.extract 0 n) i (by omega)
    rw [bt_extract q 0 n i (by omega) h, Nat.zero_add] at e
    simp only [Array.toList_map, List.getElem_map, btL, List.getElem_range, Array.getElem_toList]
    rw [← e]
    rfl

def laidL (L : List Int) (o : Nat) (cs : List Int) : List Int := L.take o ++ cs ++ L.drop (o + cs.length)
theorem laidL_length (L : List Int) (o : Nat) (cs : List Int) (h : o + cs.length ≤ L.length) : (laidL L o cs).length = L.length := by simp [laidL]; omega
theorem laidL_old (L : List Int) (o : Nat) (cs : List Int) (h : o + cs.length ≤ L.length) (j : Nat) (hj : j < o) : (laidL L o cs).getD j 0 = L.getD j 0 := by
  rw [laidL, List.append_assoc, List.getD, List.getD, List.getElem?_append_left (by simp; omega), List.getElem?_take, if_pos hj]
theorem laidL_new (L : List Int) (o : Nat) (cs : List Int) (h : o + cs.length ≤ L.length) (j : Nat) (hj : j < cs.length) : (laidL L o cs).getD (o + j) 0 = cs.getD j 0 := by
  rw [laidL, List.getD, List.getD, List.getElem?_append_left (by simp; omega), List.getElem?_append_right (by simp; omega), List.length_take, show o + j - min o L.length = j by omega]
theorem laidL_past (L : List Int) (o : Nat) (cs : List Int) (h : o + cs.length ≤ L.length) (j : Nat) (hj : o + cs.length ≤ j) : (laidL L o cs).getD j 0 = L.getD j 0 := by
  rw [laidL, List.getD, List.getD, List.getElem?_append_right (by simp; omega), List.getElem?_drop]
  congr 2
  simp; omega

theorem hcells_copy (s : St) (L : List Int) (sz : Int) (o : Nat) (cs : List Int) (h : o + cs.length ≤ L.length) :
    ((hcells s L sz).toList.take (8 + o) ++ cs.map (Value.int .u8) ++ (hcells s L sz).toList.drop (8 + o + cs.length)).toArray = hcells s (laidL L o cs) sz := by
  have e : (hcells s L sz).toList = s.list.map (Value.int .u32) ++ (L.map (Value.int .u8) ++ [Value.int .i64 sz]) := rfl
  have l8 : (s.list.map (Value.int .u32)).length = 8 := by rw [List.length_map]; rfl
  have e2 : hcells s (laidL L o cs) sz = (s.list.map (Value.int .u32) ++ ((laidL L o cs).map (Value.int .u8) ++ [Value.int .i64 sz])).toArray := rfl
  rw [e, e2]
  congr 1
  rw [List.take_append, l8, List.take_of_length_le (by omega), Nat.add_sub_cancel_left, List.drop_append, l8, List.drop_of_length_le (by omega), List.nil_append, show 8 + o + cs.length - 8 = o + cs.length by omega, List.append_assoc, List.append_assoc]
  congr 1
  rw [List.take_append, List.length_map, show o - L.length = 0 by omega, List.take_zero, List.append_nil, List.drop_append, List.length_map, show o + cs.length - L.length = 0 by omega, List.drop_zero, laidL, List.map_append, List.map_append, List.map_take, List.map_drop]
  simp only [List.append_assoc]

theorem run_copy_str (w : World) (ty : TypeId) (g o dLen dCap n : Nat) (q : ByteArray) (cur : Array Value) (t : TypeId) (hn : n = Nat.min q.size dLen)
    (hg : w.heap[g]? = some (.cells cur t (0, 0))) (hfit : o + n ≤ cur.size) :
    (Builtin.copy_ #[77, 9] ty #[.slice (some ⟨g, o, none⟩) dLen dCap, .string q]).run Tryz.prog w =
      .ok (goInt n) (w.setRow g (cur.toList.take o ++ (btL q n).map (Value.int .u8) ++ cur.toList.drop (o + n)).toArray) := by
  have hle : n ≤ q.size := by rw [hn]; exact Nat.min_le_left _ _
  have hst := run_storeCells_at Tryz.prog g o t ((btL q n).map (Value.int .u8)) 0 cur w hg (by simpa [btL_length] using hfit) (by intro v hv; simp only [List.mem_map] at hv; obtain ⟨x, _, rfl⟩ := hv; rfl)
  simp only [Nat.add_zero, List.length_map, btL_length] at hst
  have hf := first_cells q n hle
  simp only [Builtin.copy_, Builtin.lenOf, Builtin.firstCells, List.getElem?_toArray, List.getElem?_cons_zero, List.getElem?_cons_succ, Sem.run_bind, Sem.run_pure, run_underlying Tryz.underlying77, Result.andThen_ok, si8, ← hn, hf, hst]
end Go.Proofs.YthdkbjbhjfiaiaaGreatDoor.pd

namespace Go.Proofs.YthdkbjbhjfiaiaaGreatDoor.pe
open Go.RowKit Go.PlainAid
open Go.Proofs.YthdkbjbhjfiaiaaGreatDoor.pl Go.Proofs.YthdkbjbhjfiaiaaGreatDoor.pa Go.Proofs.YthdkbjbhjfiaiaaGreatDoor.pb Go.Proofs.YthdkbjbhjfiaiaaGreatDoor.pc Go.Proofs.YthdkbjbhjfiaiaaGreatDoor.pd
set_option linter.unusedVariables false

structure Inv (g : Nat → Int) (N : Nat) (L : List Int) : Prop where
  len : L.length = 64
  rng : ∀ j, j < 64 → 0 ≤ L.getD j 0 ∧ L.getD j 0 ≤ 255
  eq : ∀ j, j < N % 64 → L.getD j 0 = g (64 * (N / 64) + j)

def szOf : Value → Nat | .string s => s.size | _ => 0

-- behind a copy that does not fill the block
theorem Inv.some {g : Nat → Int} {N : Nat} {L : List Int} (x : Inv g N L) (r : ByteArray) (n : Nat) (hr : ∀ j, j < r.size → bt r j = g (N + j)) (hn : n ≤ r.size) (h : N % 64 + n < 64) : Inv g (N + n) (laidL L (N % 64) (btL r n)) := by
  have hl : N % 64 + (btL r n).length ≤ L.length := by rw [btL_length, x.len]; omega
  have e1 : (N + n) % 64 = N % 64 + n := by omega
  have e2 : (N + n) / 64 = N / 64 := by omega
  refine ⟨by rw [laidL_length _ _ _ hl, x.len], fun j hj => ?_, fun j hj => ?_⟩
  · rcases Nat.lt_or_ge j (N % 64) with h1 | h1
    · rw [laidL_old _ _ _ hl _ h1]; exact x.rng j hj
    · rcases Nat.lt_or_ge j (N % 64 + n) with h2 | h2
      · obtain ⟨i, rfl⟩ : ∃ i, j = N % 64 + i := ⟨j - N % 64, by omega⟩
        rw [laidL_new _ _ _ hl _ (by rw [btL_length]; omega), btL_get _ _ _ (by omega)]
        exact ⟨bt_nonneg _ _, bt_le _ _⟩
      · rw [laidL_past _ _ _ hl _ (by rw [btL_length]; omega)]; exact x.rng j hj
  · rw [e1] at hj
    rw [e2]
    rcases Nat.lt_or_ge j (N % 64) with h1 | h1
    · rw [laidL_old _ _ _ hl _ h1]; exact x.eq j h1
    · obtain ⟨i, rfl⟩ : ∃ i, j = N % 64 + i := ⟨j - N % 64, by omega⟩
      rw [laidL_new _ _ _ hl _ (by rw [btL_length]; omega), btL_get _ _ _ (by omega), hr i (by omega)]
      congr 1; omega

-- behind a copy that fills it
theorem Inv.full {g : Nat → Int} {N : Nat} {L : List Int} (x : Inv g N L) (r : ByteArray) (n : Nat) (hr : ∀ j, j < r.size → bt r j = g (N + j)) (hn : n ≤ r.size) (h : N % 64 + n = 64) :
    Inv g (N + n) (laidL L (N % 64) (btL r n)) ∧ ∀ j, j < 64 → (laidL L (N % 64) (btL r n)).getD j 0 = g (64 * (N / 64) + j) := by
  have hl : N % 64 + (btL r n).length ≤ L.length := by rw [btL_length, x.len]; omega
  have key : ∀ j, j < 64 → (laidL L (N % 64) (btL r n)).getD j 0 = g (64 * (N / 64) + j) ∧ 0 ≤ (laidL L (N % 64) (btL r n)).getD j 0 ∧ (laidL L (N % 64) (btL r n)).getD j 0 ≤ 255 := fun j hj => by
    rcases Nat.lt_or_ge j (N % 64) with h1 | h1
    · rw [laidL_old _ _ _ hl _ h1]; exact ⟨x.eq j h1, x.rng j hj⟩
    · obtain ⟨i, rfl⟩ : ∃ i, j = N % 64 + i := ⟨j - N % 64, by omega⟩
      rw [laidL_new _ _ _ hl _ (by rw [btL_length]; omega), btL_get _ _ _ (by omega)]
      refine ⟨?_, bt_nonneg _ _, bt_le _ _⟩
      rw [hr i (by omega)]; congr 1; omega
  exact ⟨⟨by rw [laidL_length _ _ _ hl, x.len], fun j hj => (key j hj).2, fun j hj => by omega⟩, fun j hj => (key j hj).1⟩

theorem rest_size (r : ByteArray) (n : Nat) (h : n ≤ r.size) : (r.extract n r.size).size = r.size - n := by rw [ByteArray.size_extract]; omega
theorem rest_bt (r : ByteArray) (n M : Nat) (g : Nat → Int) (h : n ≤ r.size) (hr : ∀ j, j < r.size → bt r j = g (M + j)) : ∀ j, j < (r.extract n r.size).size → bt (r.extract n r.size) j = g (M + n + j) := fun j hj => by
  rw [rest_size r n h] at hj
  rw [bt_extract r n r.size j (by omega) (Nat.le_refl _), hr _ (by omega)]
  congr 1; omega

theorem size64b : (Tryz.prog.info? 90).map (·.size) = some 64 := by kernel_rfl

set_option maxHeartbeats 800000 in
set_option maxRecDepth 100000 in
theorem fill (h : Nat) (kk g : Nat → Int) (v0 : St) (N d : Nat) (L : List Int) (sz : Int) (q : ByteArray) (w : World) (h4 : 5 ≤ h) (HO : Hid v0.ok) (HD : Hid (d = N % 64)) (hqs : q.size ≤ 1152921504606846976)
    (HI : Hid (Inv g N L)) (HQ : Hid (∀ j, j < q.size → bt q j = g (N + j))) (HH : Hid (w.heap[h]? = some (.cells (hcells (hs kk g v0 (N / 64)) L sz) 144 (0, 0)))) (HK : Hid (KT w kk)) :
    Calls Tryz.prog 105 #[.pointer (some ⟨h, 8, none⟩), .int .i64 d, .string q, .func (.func 106) #[.pointer (some ⟨h, 0, none⟩)] #[]] w fun e w' => e = .returned (.tuple #[]) ∧ Keeps h w w' ∧ ∃ L', Inv g (N + q.size) L' ∧ w'.heap[h]? = some (.cells (hcells (hs kk g v0 ((N + q.size) / 64)) L' sz) 144 (0, 0)) := by
  go_enter Tryz.func105, Tryz.ntmps105
  go_wp2_with fail
  go_loopw [1, 2] (fun hd tx wr => ∃ (M d : Nat) (r : ByteArray) (L : List Int), r.size ≤ q.size ∧ Hid (M + r.size = N + q.size) ∧ Hid (d = M % 64) ∧ hd = .int .i64 d ∧ tx = .string r ∧ Hid (∀ j, j < r.size → bt r j = g (M + j)) ∧ Hid (Inv g M L) ∧ Hid (wr.heap[h]? = some (.cells (hcells (hs kk g v0 (M / 64)) L sz) 144 (0, 0))) ∧ Hid (Keeps h w wr)) (fun _ tx _ => szOf tx)
  case atStart => exact ⟨N, d, q, L, Nat.le_refl _, rfl, HD, rfl, rfl, HQ, HI, HH, Keeps.refl _ _⟩
  case round =>
    obtain ⟨M, d, r, L, hrq, HM, HD, rfl, rfl, HR, HI, HH, HKp⟩ := hrel
    by_cases hr : r.size = 0
    · have hr0 : decide (0 < r.size) = false := by simp [hr]
      have hr1 : decide (0 < (r.size : Int)) = false := by simp [hr]
      have HR0 : Hid _ := hr
      clear hr
      go_wp2
      go_end0
      have e : M = N + q.size := by have := HM.out; have := HR0.out; omega
      subst e
      exact ⟨rfl, HKp.out, L, HI.out, HH.out⟩
    · have hr0 : (0 : Int) < (r.size : Int) := by omega
      obtain ⟨n, hn⟩ : ∃ n, n = Nat.min r.size (64 - d) := ⟨_, rfl⟩
      have hd64 : d < 64 := by have := HD.out; omega
      have hn1 : n ≤ r.size := by rw [hn]; exact Nat.min_le_left _ _
      have hn2 : n ≤ 64 - d := by rw [hn]; exact Nat.min_le_right _ _
      have hn3 : n = r.size ∨ n = 64 - d := by rw [hn]; rcases Nat.le_total r.size (64 - d) with a | a; exact .inl (Nat.min_eq_left a); exact .inr (Nat.min_eq_right a)
      have hn0 : 1 ≤ n := by omega
      have hlen : (hcells (hs kk g v0 (M / 64)) L sz).size = 73 := by simp [hcells, hc, HI.out.len, St.list]
      have hcp := run_copy_str wr 3 h (8 + d) (64 - d) (64 - d) n r _ _ hn HH.out (by rw [hlen]; omega)
      have hbl : (btL r n).length = n := btL_length r n
      have hcc := hcells_copy (hs kk g v0 (M / 64)) L sz d (btL r n) (by rw [hbl, HI.out.len]; omega)
      rw [hbl] at hcc
      rw [hcc] at hcp
      have HH2 : Hid ((wr.setRow h (hcells (hs kk g v0 (M / 64)) (laidL L d (btL r n)) sz)).heap[h]? = some (.cells (hcells (hs kk g v0 (M / 64)) (laidL L d (btL r n)) sz) 144 (0, 0))) := setRow_heap _ _ _ _ _ _ HH.out
      have HK2 : Hid (Keeps h w (wr.setRow h (hcells (hs kk g v0 (M / 64)) (laidL L d (btL r n)) sz))) := HKp.out.setRow _
      generalize wr.setRow h (hcells (hs kk g v0 (M / 64)) (laidL L d (btL r n)) sz) = wr2 at *
      have hsl := fun W => sliceAt_l h 8 d d rfl hd64 W
      have HN3 : Hid _ := hn3
      have HN : Hid _ := hn
      clear hn hn3 hcc hbl hlen
      have hi1 : (0 : Int) ≤ (n : Int) := by omega
      have hi2 : (n : Int) ≤ (r.size : Int) := by omega
      by_cases hf : d + n = 64
      · have hf' : ((d : Int) + (n : Int) == 64) = true := by rw [beq_iff_eq]; omega
        have HF : Hid _ := hf
        clear hf
        have HX : Hid _ := (HD.out ▸ HI.out.full r n HR.out hn1 (by have := HD.out; have := HF.out; omega) : Inv g (M + n) (laidL L d (btL r n)) ∧ ∀ j, j < 64 → (laidL L d (btL r n)).getD j 0 = g (64 * (M / 64) + j))
        have HL2 : Hid ((laidL L d (btL r n)).length = 64) := HX.out.1.len
        generalize laidL L d (btL r n) = L2 at *
        have HRG : Hid (wr2.rangeAt h 8 (L2.map (Value.int .u8))) := fun j v hj => by
          have hjl : j < L2.length := by simpa using (List.getElem?_eq_some_iff.1 hj).1
          rw [cell_of_row _ _ _ _ _ _ HH2.out, hcells_at _ _ _ _ hjl, ← hj]
          simp [List.getD, hjl]
        have HI64 : Hid ((Tryz.prog.info? 90).map (·.size) = some (L2.map (Value.int .u8)).length) := by show _ = _; rw [List.length_map, HL2.out]; exact size64b
        go_wp2_with (refine wpList_load_mid rfl 90 (.tmp 28) rfl h 8 rfl (L2.map (Value.int .u8)) _ HRG.out Tryz.underlying90 rfl HI64.out ?_)
        refine (take h (hs kk g v0 (M / 64)) (L2.map (Value.int .u8) ++ [Value.int .i64 sz]) 144 (L2.map (Value.int .u8)).toArray (fun j => L2.getD j 0) kk wr2 h4 (hs_ok _ _ _ HO.out _) HH2 (show _ = _ by simp [HL2.out]) ?_ (HK.out.keep HK2.out h4)).mono ?_
        · intro j hj
          refine ⟨?_, HX.out.1.rng j hj⟩
          rw [List.getElem?_toArray]
          have hjl : j < L2.length := by rw [HL2.out]; exact hj
          simp [List.getD, hjl]
        rintro e w' ⟨rfl, hk, hh⟩
        have HK3 : Hid (Keeps h w w') := HK2.out.trans hk
        have HH3 : Hid _ := hh
        clear hk hh
        go_wp2
        go_roundw
        case rel =>
          have hs1 := rest_size r n hn1
          have hD := HD.out; have hF := HF.out; have hM := HM.out
          have e1 : (M + n) / 64 = M / 64 + 1 := by omega
          refine ⟨M + n, 0, r.extract n r.size, L2, by omega, (show _ = _ by omega), (show _ = _ by omega), rfl, rfl, rest_bt r n M g hn1 HR.out, HX.out.1, ?_, HK3⟩
          rw [e1]
          show _ = some (Obj.cells (hc (blockF kk g (64 * (M / 64)) (hs kk g v0 (M / 64))).list _) _ _)
          rw [← blockF_congr kk (fun j => L2.getD j 0) g 0 (64 * (M / 64)) _ (fun j hj => by rw [Nat.zero_add]; exact HX.out.2 j hj)]
          exact HH3.out
        case measure =>
          have hs1 := rest_size r n hn1
          simp only [szOf]; omega
      · have hf' : ((d : Int) + (n : Int) == 64) = false := by rw [beq_eq_false_iff_ne]; omega
        have HF : Hid (d + n < 64) := (show d + n < 64 by omega)
        clear hf
        have HX : Hid (Inv g (M + n) (laidL L d (btL r n))) := (HD.out ▸ HI.out.some r n HR.out hn1 (by have := HD.out; have := HF.out; omega) : Inv g (M + n) (laidL L d (btL r n)))
        generalize laidL L d (btL r n) = L2 at *
        go_wp2
        go_roundw
        case rel =>
          have hs1 := rest_size r n hn1
          have hD := HD.out; have hF := HF.out; have hM := HM.out
          have e1 : (M + n) / 64 = M / 64 := by omega
          refine ⟨M + n, d + n, r.extract n r.size, L2, by omega, (show _ = _ by omega), (show _ = _ by omega), by go_num, rfl, rest_bt r n M g hn1 HR.out, HX.out, ?_, HK2⟩
          rw [e1]
          exact HH2.out
        case measure =>
          have hs1 := rest_size r n hn1
          simp only [szOf]; omega
end Go.Proofs.YthdkbjbhjfiaiaaGreatDoor.pe

namespace Go.Proofs.YthdkbjbhjfiaiaaGreatDoor.pf
open Go.RowKit Go.PlainAid
open Go.Proofs.YthdkbjbhjfiaiaaGreatDoor.pl Go.Proofs.YthdkbjbhjfiaiaaGreatDoor.pa Go.Proofs.YthdkbjbhjfiaiaaGreatDoor.pb Go.Proofs.YthdkbjbhjfiaiaaGreatDoor.pc Go.Proofs.YthdkbjbhjfiaiaaGreatDoor.pd Go.Proofs.YthdkbjbhjfiaiaaGreatDoor.pe
set_option linter.unusedVariables false
set_option maxRecDepth 4000

theorem info5 : (Tryz.prog.info? 5).map (fun i => (i.zero, i.size, i.bytes)) = some (some (.int .u8 0), 1, 1) := by kernel_rfl

theorem made_row (n : Nat) : madeCells (Value.int .u8 0).cells n = row (List.replicate n 0) := by
  apply Array.ext
  · simp [size_madeCells, row_size]
  · intro i h1 h2
    simp [madeCells, row, Value.cells, Nat.mod_one]

theorem make_row (n : Nat) (hn : n ≤ 1048576) (w : World) :
    (Instr.makeSlice 77 (.int .i64 n) (.int .i64 n)).run Tryz.prog w = .ok (.slice (some ⟨w.heap.size, 0, none⟩) n n) (w.alloc (.cells (row (List.replicate n 0)) 5)) := by
  obtain ⟨i, hi, hz0, hz1, hz2⟩ := info_parts info5
  have h := run_make (P := Tryz.prog) w 77 5 i (.int .u8 0) Tryz.underlying77 hi hz0 .i64 .i64 (n : Int) (n : Int) (by omega) (by omega) (by rw [hz2]; omega) (by omega)
  rw [hz1] at h
  simp only [Int.toNat_natCast, Nat.mul_one] at h
  rw [made_row] at h
  exact h

-- string(b) where b's cells are known
theorem conv_at (ns : List Int) (W : World) (g o n cap : Nat) (hn : n = ns.length) (hc : ∀ j v, (ns.map (Value.int .u8))[j]? = some v → W.cell? ((⟨g, o, none⟩ : Addr).add j) = some v) :
    (convert 77 9 (.slice (some ⟨g, o, none⟩) n cap)).run Tryz.prog W = .ok (.string (str ns)) W := by
  subst hn
  rw [run_convert_bytes_string _ 77 9 5 _ _ _ Tryz.underlying77 Tryz.underlying5 Tryz.underlying9]
  refine run_bytesToString _ _ _ _ ns ?_
  have h := run_loadCells_list (P := Tryz.prog) (w := W) ⟨g, o, none⟩ (ns.map (Value.int .u8)) hc
  simpa using h

theorem conv_row (ns : List Int) (w : World) (n : Nat) (hn : n = ns.length) :
    (convert 77 9 (.slice (some ⟨w.heap.size, 0, none⟩) n n)).run Tryz.prog (w.alloc (.cells (row ns) 5)) = .ok (.string (str ns)) (w.alloc (.cells (row ns) 5)) :=
  conv_at ns _ _ _ _ _ hn (fun j v hj => by
    have e : (Addr.add ⟨w.heap.size, 0, none⟩ j) = ⟨w.heap.size, j, none⟩ := by cases j <;> simp [Addr.add]
    rw [e, World.cell?_alloc_at _ _ _ _ rfl, row, List.getElem?_toArray]
    exact hj)

def beL (v : Int) (n k : Nat) : List Int := List.replicate (n - k) 0 ++ lowB v k
theorem beL_full (v : Int) (n : Nat) : beL v n n = lowB v n := by simp [beL]
theorem beL_length (v : Int) (n k : Nat) (h : k ≤ n) : (beL v n k).length = n := by simp [beL, lowB_length]; omega
theorem beL_set (v : Int) (n k : Nat) (h : k < n) : (beL v n k).set (n - 1 - k) (v / 256 ^ k % 256) = beL v n (k + 1) := by
  obtain ⟨m, rfl⟩ : ∃ m, n = k + 1 + m := ⟨n - (k + 1), by omega⟩
  have e1 : k + 1 + m - 1 - k = m := by omega
  have e2 : k + 1 + m - k = m + 1 := by omega
  have e3 : k + 1 + m - (k + 1) = m := by omega
  rw [beL, beL, e1, e2, e3, List.replicate_succ', List.append_assoc, List.set_append_right _ _ (by simp)]
  simp [lowB]
theorem pow256 (k : Nat) : (2 : Int) ^ (8 * k) = 256 ^ k := by rw [Int.pow_mul]; rfl

def padK (z : Nat) (c : Int) (k : Nat) : List Int := 128 :: (List.replicate z 0 ++ beL c 8 k)
theorem padK_zero (z : Nat) (c : Int) : (List.replicate (9 + z) (0 : Int)).set 0 128 = padK z c 0 := by
  rw [padK, beL, show 9 + z = (z + 8) + 1 by omega, List.replicate_succ, List.set_cons_zero]
  simp [lowB, ← List.replicate_append_replicate]
theorem padK_length (z : Nat) (c : Int) (k : Nat) (h : k ≤ 8) : (padK z c k).length = 9 + z := by simp [padK, beL_length c 8 k h]; omega
theorem padK_set (z : Nat) (c : Int) (k : Nat) (h : k < 8) : (padK z c k).set (8 + z - k) (c / 256 ^ k % 256) = padK z c (k + 1) := by
  rw [padK, padK, show 8 + z - k = (z + (8 - 1 - k)) + 1 by omega, List.set_cons_succ, List.set_append_right _ _ (by simp), List.length_replicate, Nat.add_sub_cancel_left, beL_set c 8 k h]

set_option maxHeartbeats 800000 in
theorem padding (n : Nat) (w : World) (hn : n ≤ 1152921504606846976) :
    Calls Tryz.prog 108 #[.int .i64 n] w fun e w' => e = .returned (.string (str (padL n))) ∧ w' = w.alloc (.cells (row (padL n)) 5) := by
  obtain ⟨z, hz⟩ : ∃ z, z = zerosF n := ⟨_, rfl⟩
  have hz64 : z < 64 := by rw [hz]; unfold zerosF; omega
  have HZ : Hid _ := hz
  have HB : Hid (bitsF n = (n : Int) * 8) := by show _ = _; unfold bitsF; omega
  have hmk := make_row (9 + z) (by omega)
  rw [show ((9 + z : Nat) : Int) = 1 + (z : Int) + 8 by omega] at hmk
  have hz1 : (119 - (n : Int) % 64) % 64 = (z : Int) := by rw [hz]; unfold zerosF; omega
  have hz2 : (119 - (n : Int)) % 64 = (z : Int) := by rw [hz]; unfold zerosF; omega
  have hr0 : 0 < (row (List.replicate (9 + z) 0)).size := by rw [row_size, List.length_replicate]; omega
  clear hz
  go_enter Tryz.func108, Tryz.ntmps108
  go_wp2
  go_loopw [20] (fun i wr => ∃ k : Nat, k ≤ 8 ∧ i = .int .i64 k ∧ wr = w.alloc (.cells (row (padK z ((n : Int) * 8) k)) 5)) (fun i _ => (8 - intOf i).toNat)
  case atStart => exact ⟨0, by omega, rfl, by rw [row_set, padK_zero z ((n : Int) * 8)]⟩
  case round =>
    obtain ⟨k, hk, rfl, rfl⟩ := hrel
    clear hz1 hz2 hmk hr0
    have HL : Hid _ := padK_length z ((n : Int) * 8) k hk
    by_cases hlt : k < 8
    · have hlt' : (k : Int) < 8 := by omega
      have hsz : 8 + z - k < (row (padK z ((n : Int) * 8) k)).size := by rw [row_size, HL.out]; omega
      go_wp2
      go_roundw
      case rel => exact ⟨k + 1, by omega, by go_num, by rw [pow256, row_set, padK_set z _ k hlt]⟩
      case measure => simp [intOf]; omega
    · have hlt' : ¬ (k : Int) < 8 := by omega
      have e : k = 8 := by omega
      subst e
      have hp : padK z ((n : Int) * 8) 8 = padL n := by rw [padK, beL_full, padL, HB.out, ← HZ.out]
      rw [hp]
      have hcv := conv_row (padL n) w (9 + z) (by rw [padL_length, ← HZ.out])
      go_wp2
      go_ret
      exact ⟨rfl, rfl⟩
end Go.Proofs.YthdkbjbhjfiaiaaGreatDoor.pf

namespace Go.Proofs.YthdkbjbhjfiaiaaGreatDoor.pg
open Go.RowKit Go.PlainAid
open Go.Proofs.YthdkbjbhjfiaiaaGreatDoor.pl Go.Proofs.YthdkbjbhjfiaiaaGreatDoor.pa Go.Proofs.YthdkbjbhjfiaiaaGreatDoor.pb Go.Proofs.YthdkbjbhjfiaiaaGreatDoor.pc Go.Proofs.YthdkbjbhjfiaiaaGreatDoor.pd Go.Proofs.YthdkbjbhjfiaiaaGreatDoor.pe Go.Proofs.YthdkbjbhjfiaiaaGreatDoor.pf
set_option linter.unusedVariables false
set_option maxRecDepth 4000

theorem own_conv (W : World) (B : Nat) (v : Value) (ns : List Int) (n : Nat) (hn : n = ns.length) (h0 : 0 < n) (ho : W.ownsRow B 5 1 v n (ns.map (Value.int .u8))) :
    (convert 77 9 v).run Tryz.prog W = .ok (.string (str ns)) W := by
  obtain ⟨hl, h | ⟨g, cap, cur, rfl, hg, hh, h1, h2, h3, h4⟩⟩ := ho
  · omega
  · refine conv_at ns W g 0 n cap hn (fun j u hj => ?_)
    have hjl : j < n := by rw [hn]; simpa using (List.getElem?_eq_some_iff.1 hj).1
    rw [Addr.add_mid, Nat.zero_add, cell_of_row _ _ _ _ _ _ hh, ← hj, ← h4, List.getElem?_take, if_pos (by omega), Array.getElem?_toList]

theorem make_room (w : World) (c : Nat) (hc : c ≤ 1048576) :
    (Instr.makeSlice 77 (.int .i64 0) (.int .i64 c)).run Tryz.prog w = .ok (.slice (some ⟨w.heap.size, 0, none⟩) 0 c) (w.alloc (.cells (row (List.replicate c 0)) 5)) := by
  obtain ⟨i, hi, hz0, hz1, hz2⟩ := info_parts info5
  have h := run_make (P := Tryz.prog) w 77 5 i (.int .u8 0) Tryz.underlying77 hi hz0 .i64 .i64 0 (c : Int) (by omega) (by omega) (by rw [hz2]; omega) (by omega)
  rw [hz1] at h
  simp only [Int.toNat_natCast, Nat.mul_one, Int.toNat_zero] at h
  rw [made_row] at h
  exact h

theorem four_new (W : World) (a b c d : Value) (t : TypeId) : ∀ j u, [a, b, c, d][j]? = some u → (W.alloc (.cells #[a, b, c, d] t)).cell? ((⟨W.heap.size, 0, none⟩ : Addr).add j) = some u := by
  intro j u hj
  rw [Addr.add_mid, Nat.zero_add, World.cell?_alloc_at _ _ _ _ rfl]
  simpa using hj

theorem bytes_next (v : St) (k : Nat) (h : k < 8) : bytesL (v.list.take (k + 1)) = bytesL (v.list.take k) ++ wordB (v.list.getD k 0) := by
  have hk : k < v.list.length := h
  rw [← bytesL_snoc]
  congr 1
  rw [List.take_add_one, List.getElem?_eq_getElem hk]
  simp [List.getD, hk]

theorem St.rng (v : St) (hv : v.ok) : ∀ k, k < 8 → 0 ≤ v.list.getD k 0 ∧ v.list.getD k 0 < 4294967296
  | 0, _ => hv.1
  | 1, _ => hv.2.1
  | 2, _ => hv.2.2.1
  | 3, _ => hv.2.2.2.1
  | 4, _ => hv.2.2.2.2.1
  | 5, _ => hv.2.2.2.2.2.1
  | 6, _ => hv.2.2.2.2.2.2.1
  | 7, _ => hv.2.2.2.2.2.2.2

set_option maxHeartbeats 800000 in
theorem text (h : Nat) (v : St) (rest : List Value) (T : TypeId) (w : World) (hv : v.ok) (HH : Hid (w.heap[h]? = some (.cells (hc v.list rest) T (0, 0)))) :
    Calls Tryz.prog 109 #[.pointer (some ⟨h, 0, none⟩)] w fun e w' => e = .returned (.string (textF v)) ∧ Below w.heap.size w w' := by
  have hlt : h < w.heap.size := (Array.getElem?_eq_some_iff.1 HH.out).1
  obtain ⟨i5, hi, hz0, hz1, hz2⟩ := info_parts info5
  have HIN : Hid (_ ∧ _ ∧ _ ∧ _) := ⟨hi, hz0, hz1, hz2⟩
  clear hi hz0 hz1 hz2
  have hmk : (Instr.makeSlice 77 (.int .i64 0) (.int .i64 32)).run Tryz.prog w = .ok (.slice (some ⟨w.heap.size, 0, none⟩) 0 32) (w.alloc (.cells (row (List.replicate 32 0)) 5)) := make_room w 32 (by omega)
  have HO0 : Hid ((w.alloc (.cells (row (List.replicate 32 0)) 5)).ownsRow w.heap.size 5 1 (.slice (some ⟨w.heap.size, 0, none⟩) 0 32) 0 []) := World.ownsRow_made w _ 32 (Nat.le_refl _) (by unfold maxLen; omega) (by rw [row_size]; rfl)
  have HB0 : Hid (Below w.heap.size w (w.alloc (.cells (row (List.replicate 32 0)) 5))) := (Below.refl _ _).alloc (Nat.le_refl _) _
  generalize w.alloc (.cells (row (List.replicate 32 0)) 5) = w1 at *
  go_enter Tryz.func109, Tryz.ntmps109
  go_wp2
  go_loopw [3, 8] (fun out i wr => ∃ k : Nat, k ≤ 8 ∧ i = .int .i64 k ∧ wr.ownsRow w.heap.size 5 1 out (4 * k) ((bytesL (v.list.take k)).map (Value.int .u8)) ∧ Below w.heap.size w wr) (fun _ i _ => (8 - intOf i).toNat)
  case atStart => exact ⟨0, by omega, rfl, HO0.out, HB0.out⟩
  case round =>
    clear hmk HO0 HB0
    obtain ⟨k, hk, rfl, hown, hbel⟩ := hrel
    have HOWN : Hid (World.ownsRow _ _ _ _ _ _ _) := hown
    have HBEL : Hid (Below _ _ _) := hbel
    clear hown hbel
    by_cases hlt8 : k < 8
    · have hlt' : (k : Int) < 8 := by omega
      have C1 : wr.cell? ⟨h, k, none⟩ = some (.int .u32 (v.list.getD k 0)) := by
        rw [HBEL.out.cell (show h < w.heap.size from hlt), cell_of_row _ _ _ _ _ _ HH.out]; exact hc_get _ _ _ hlt8
      obtain ⟨r1, r2⟩ := St.rng v hv k hlt8
      have HX : Hid _ := bytes_next v k hlt8
      revert HX C1 r1 r2
      generalize v.list.getD k 0 = x
      intro C1 r1 r2 HX
      have HW : Hid (wordB x = [x / 16777216, x / 65536 % 256, x / 256 % 256, x % 256]) := by
        show _ = _
        unfold wordB
        rw [show x / 16777216 % 256 = x / 16777216 by omega]
      go_wp2_with (at_builtin; refine wpList_append_own _ rfl _ _ 77 rfl w.heap.size 5 i5 (.int .u8 0) 1 1 Tryz.underlying77 HIN.out.1 HIN.out.2.1 HIN.out.2.2.1 HIN.out.2.2.2 rfl (by decide) _ _ _ rfl (HOWN.out.alloc _) ⟨wr.heap.size, 0, none⟩ 4 4 [.int .u8 (x / 16777216), .int .u8 (x / 65536 % 256), .int .u8 (x / 256 % 256), .int .u8 (x % 256)] rfl rfl (four_new _ _ _ _ _ _) (fun u hu => by simp at hu; rcases hu with rfl | rfl | rfl | rfl <;> rfl) (by unfold maxLen; omega) (by omega) (by have := HBEL.out.size; simp; omega) ?_; intro v' w3 hown' hgrow3 hnil3; have HOWN3 : Hid (World.ownsRow _ _ _ _ _ _ _) := hown'; have HBEL3 : Hid (Below w.heap.size w w3) := Below.grown (HBEL.out.alloc HBEL.out.size _) hgrow3 (by have := HBEL.out.size; simp; omega) (fun j hj => (HOWN.out.lt _ hj).1); clear hown' hgrow3 hnil3)
      go_roundw
      case rel =>
        refine ⟨k + 1, by omega, by go_num, ?_, HBEL3.out⟩
        rw [HX.out, HW.out, List.map_append]
        exact HOWN3.out
      case measure => simp [intOf]; omega
    · have hlt' : ¬ (k : Int) < 8 := by omega
      have e : k = 8 := by omega
      subst e
      have hcv := own_conv wr w.heap.size _ (bytesL (v.list.take 8)) 32 (by rw [bytesL_length]; rfl) (by omega) HOWN.out
      have ht : str (bytesL (v.list.take 8)) = textF v := rfl
      rw [ht] at hcv
      clear ht
      go_wp2
      go_ret
      exact ⟨rfl, HBEL.out⟩
end Go.Proofs.YthdkbjbhjfiaiaaGreatDoor.pg

namespace Go.Proofs.YthdkbjbhjfiaiaaGreatDoor.rc
open Go.RowKit Go.PlainAid
open Go.Proofs.YthdkbjbhjfiaiaaGreatDoor.pl Go.Proofs.YthdkbjbhjfiaiaaGreatDoor.pd Go.Proofs.YthdkbjbhjfiaiaaGreatDoor.pf Go.Proofs.YthdkbjbhjfiaiaaGreatDoor.ra Go.Proofs.YthdkbjbhjfiaiaaGreatDoor.rb
set_option linter.unusedVariables false
set_option maxRecDepth 4000

-- a slice of bytes of our own, by its cells
structure OwnM (w : World) (base : Nat) (v : Value) (n : Nat) (ns : List Int) : Prop where
  len : ns.length = n
  ex : ∃ g cap, v = .slice (some ⟨g, 0, none⟩) n cap ∧ base ≤ g ∧ g < w.heap.size ∧ (∀ j, j < n → w.cell? ⟨g, j, none⟩ = some (.int .u8 (ns.getD j 0))) ∧ (∀ j, n ≤ j → j < cap → (w.cell? ⟨g, j, none⟩).isSome = true ∧ w.frozen? ⟨g, j, none⟩ = false)

theorem OwnM.alloc {w : World} {base : Nat} {v : Value} {n : Nat} {ns : List Int} (h : OwnM w base v n ns) (o : Obj) : OwnM (w.alloc o) base v n ns := by
  obtain ⟨hl, g, cap, rfl, hb, hg, h1, h2⟩ := h
  refine ⟨hl, g, cap, rfl, hb, by simp; omega, fun j hj => ?_, fun j ha hc => ?_⟩
  · rw [World.cell?_alloc_lt _ _ _ hg]; exact h1 j hj
  · rw [World.cell?_alloc_lt _ _ _ hg, World.frozen?_alloc_past _ _ _ hg]; exact h2 j ha hc

theorem append_mark {ops : Array Oper} {rest : List Oper} {o : Oper} {a : Act} {w : World} {Q : Exit → Act → World → Prop} (hgd : o.guard = none) (s x : Operand)
    (ho : o.op = .call { callee := .builtin .append, args := #[s, x], argTypes := #[77, 77] }) (base : Nat) (v : Value) (n : Nat) (ns : List Int) (hs : a.eval s = v) (hown : OwnM w base v n ns)
    (ad : Addr) (c : Nat) (u : Int) (hx : a.eval x = .slice (some ad) 1 c) (hu : w.cell? ad = some (.int .u8 u)) (hn : n + 1 ≤ 140737488355328) (hbase : base ≤ w.heap.size)
    (h : ∀ v' w', OwnM w' base v' (n + 1) (ns ++ [u]) → Below base w w' → wpList Tryz.prog ops Q rest (a.put o.dst v') w') : wpList Tryz.prog ops Q (o :: rest) a w := by
  obtain ⟨hl, g, cap, rfl, hb, hg, h1, h2⟩ := hown
  obtain ⟨i5, hi, hz0, hz1, hz2⟩ := info_parts info5
  refine wpList_append_arg w hgd s x 77 ho 5 i5 (.int .u8 0) 1 1 Tryz.underlying77 hi hz0 hz1 hz2 rfl (by decide) g 0 n cap (ns.map (Value.int .u8)) hs (by simp [hl]) ?_ ad 1 c [.int .u8 u] hx rfl ?_ ?_ ?_ (by unfold maxLen; omega) (by omega) ?_ ?_
  · intro j z hj
    have hjl : j < ns.length := by simpa using (List.getElem?_eq_some_iff.1 hj).1
    rw [Nat.zero_add, h1 j (by omega), ← hj]
    simp [List.getD, hjl]
  · intro j z hj
    match j, hj with
    | 0, hj =>
      have e : ad.add 0 = ad := by simp [Addr.add]
      rw [e, hu]; exact hj
  · intro z hz
    simp at hz
    subst hz; rfl
  · intro hr j hj
    have : j = 0 := by simpa using hj
    subst this
    have := h2 n (Nat.le_refl _) (by omega)
    simpa using this
  · intro hr
    have e : w.setCells g (0 + n * 1) [.int .u8 u] = w.setCell ⟨g, n, none⟩ (.int .u8 u) := by simp [World.setCells]
    rw [e]
    refine h _ _ ⟨by simp [hl], g, cap, rfl, hb, by simpa [World.setCell] using hg, fun j hj => ?_, fun j ha hc => ?_⟩ ((Below.refl _ _).setCell hb _)
    · rcases Nat.lt_or_ge j n with hj1 | hj1
      · rw [World.cell?_setCell_other _ _ _ _ (by intro hh; injection hh with _ hh2 _; omega), h1 j hj1, List.getD, List.getD, List.getElem?_append_left (by omega)]
      · have hj2 : j = n := by omega
        subst hj2
        obtain ⟨y, hy⟩ := Option.isSome_iff_exists.1 (h2 j (Nat.le_refl _) (by omega)).1
        rw [World.cell?_setCell_same _ _ _ hy, List.getD, List.getElem?_append_right (by omega), hl]
        simp
    · have := h2 j (by omega) hc
      refine ⟨?_, ?_⟩
      · rw [World.cell?_setCell_other _ _ _ _ (by intro hh; injection hh with _ hh2 _; omega)]; exact this.1
      · rw [World.frozen?_setCell]; exact this.2
  · intro hc v' w' hown' hgrow
    obtain ⟨hl2, hh | ⟨g2, cap2, cur, rfl, hb2, hh2, k1, k2, k3, k4⟩⟩ := hown'
    · omega
    · refine h _ _ ⟨by simp [hl], g2, cap2, rfl, by omega, (Array.getElem?_eq_some_iff.1 hh2).1, fun j hj => ?_, fun j ha hcj => ?_⟩ ((Below.refl _ _).grown hgrow hbase (fun k hk => by cases hk))
      · rw [cell_of_row _ _ _ _ _ _ hh2, ← Array.getElem?_toList]
        have e1 : cur.toList[j]? = (cur.toList.take ((n + 1) * 1))[j]? := by rw [List.getElem?_take, if_pos (by omega)]
        rw [e1, k4]
        have e2 : ns.map (Value.int .u8) ++ [Value.int .u8 u] = (ns ++ [u]).map (Value.int .u8) := by simp
        rw [e2, List.getElem?_map]
        have hjl : j < (ns ++ [u]).length := by simp; omega
        simp [List.getD, List.getElem?_eq_getElem hjl]
      · refine ⟨?_, frozen_of_row _ _ _ _ _ hh2⟩
        rw [cell_of_row _ _ _ _ _ _ hh2, Array.getElem?_eq_getElem (by omega)]
        rfl

-- []byte(s)
theorem of_string (w : World) (s : ByteArray) (hs : s.size ≤ 140737488352256) : ∃ v w', (convert 9 77 (.string s)).run Tryz.prog w = .ok v w' ∧ OwnM w' w.heap.size v s.size (btL s s.size) ∧ Below w.heap.size w w' := by
  refine ⟨_, _, run_bytes_of_string w 9 77 5 s Tryz.underlying9 Tryz.underlying77 Tryz.underlying5, ⟨btL_length _ _, _, _, rfl, Nat.le_refl _, by simp, fun j hj => ?_, fun j ha hc => ?_⟩, ((Below.refl _ _).drew).alloc (Nat.le_refl _) _⟩
  · have hh : (w.drew.alloc (.cells (bytesRow s (grownCap w s.size 0 5)) 5 ((bytesRow s (grownCap w s.size 0 5)).size, (bytesRow s (grownCap w s.size 0 5)).size + 1))).heap[w.heap.size]? = some (.cells (bytesRow s (grownCap w s.size 0 5)) 5 ((bytesRow s (grownCap w s.size 0 5)).size, (bytesRow s (grownCap w s.size 0 5)).size + 1)) := heap_alloc_new w.drew _
    rw [cell_of_row _ _ _ _ _ _ hh, bytesRow, Array.getElem?_append_left (by simpa using hj), btL_get _ _ _ hj]
    have hj' : j < s.data.size := hj
    rw [Array.getElem?_map, Array.getElem?_eq_getElem hj']
    simp only [Option.map_some]
    rw [← get_bt s j hj]
    rfl
  · have hh : (w.drew.alloc (.cells (bytesRow s (grownCap w s.size 0 5)) 5 ((bytesRow s (grownCap w s.size 0 5)).size, (bytesRow s (grownCap w s.size 0 5)).size + 1))).heap[w.heap.size]? = some (.cells (bytesRow s (grownCap w s.size 0 5)) 5 ((bytesRow s (grownCap w s.size 0 5)).size, (bytesRow s (grownCap w s.size 0 5)).size + 1)) := heap_alloc_new w.drew _
    have hsz : (bytesRow s (grownCap w s.size 0 5)).size = grownCap w s.size 0 5 := by
      have := grownCap_ge w s.size 0 5
      have e : s.data.size = s.size := rfl
      simp [bytesRow, e]; omega
    refine ⟨?_, ?_⟩
    · rw [cell_of_row _ _ _ _ _ _ hh, Array.getElem?_eq_getElem (by omega)]; rfl
    · unfold World.frozen?
      rw [hh]
      simp only [hsz]
      simp; omega
end Go.Proofs.YthdkbjbhjfiaiaaGreatDoor.rc

namespace Go.Proofs.YthdkbjbhjfiaiaaGreatDoor.rd
open Go.RowKit Go.PlainAid
open Go.Proofs.YthdkbjbhjfiaiaaGreatDoor.pl Go.Proofs.YthdkbjbhjfiaiaaGreatDoor.pd Go.Proofs.YthdkbjbhjfiaiaaGreatDoor.pf Go.Proofs.YthdkbjbhjfiaiaaGreatDoor.ra Go.Proofs.YthdkbjbhjfiaiaaGreatDoor.rb Go.Proofs.YthdkbjbhjfiaiaaGreatDoor.rc
set_option linter.unusedVariables false
set_option maxRecDepth 4000

theorem one_new (W : World) (u : Value) (t : TypeId) : (W.alloc (.cells #[u] t)).cell? ⟨W.heap.size, 0, none⟩ = some u := by
  rw [World.cell?_alloc_at _ _ _ _ rfl]; rfl

def lenV : Value → Nat | .slice _ n _ => n | _ => 0

def upL (s : ByteArray) (k : Nat) : List Int := btL s s.size ++ (128 :: List.replicate k 0)
theorem upL_next (s : ByteArray) (k : Nat) : upL s k ++ [0] = upL s (k + 1) := by simp [upL, List.replicate_succ']
def fullL (s : ByteArray) (z : Nat) (c : Int) (i : Nat) : List Int := upL s z ++ (lowB c 8).take i
theorem lowB_at (c : Int) : ∀ i, i < 8 → (lowB c 8)[i]? = some (c / 256 ^ (7 - i) % 256)
  | 0, _ => rfl
  | 1, _ => rfl
  | 2, _ => rfl
  | 3, _ => rfl
  | 4, _ => rfl
  | 5, _ => rfl
  | 6, _ => rfl
  | 7, _ => rfl
theorem fullL_next (s : ByteArray) (z : Nat) (c u : Int) (i : Nat) (hi : i < 8) (hu : u = c / 256 ^ (7 - i) % 256) : fullL s z c i ++ [u] = fullL s z c (i + 1) := by
  rw [fullL, fullL, List.append_assoc, List.take_add_one, lowB_at c i hi, hu]
  rfl
theorem pow_back (i : Nat) (h : i < 8) : (2 : Int) ^ (56 - 8 * i) = 256 ^ (7 - i) := by
  rw [show 56 - 8 * i = 8 * (7 - i) by omega, pow256]

theorem lowB_rng (c : Int) (k : Nat) : ∀ x ∈ lowB c k, 0 ≤ x ∧ x ≤ 255 := by
  induction k with
  | zero => intro x hx; cases hx
  | succ k ih =>
    intro x hx
    rcases List.mem_cons.1 hx with rfl | h
    · omega
    · exact ih x h
theorem padL_rng (n : Nat) : ∀ x ∈ padL n, 0 ≤ x ∧ x ≤ 255 := by
  intro x hx
  rcases List.mem_cons.1 hx with rfl | h
  · omega
  · rcases List.mem_append.1 h with h | h
    · have := (List.mem_replicate.1 h).2; omega
    · exact lowB_rng _ _ x h
theorem pad_at (s : ByteArray) (i : Nat) (hi : i < (padB s).size) : (btL s s.size ++ padL s.size).getD i 0 = bt (padB s) i := by
  rcases Nat.lt_or_ge i s.size with h | h
  · rw [padB, bt_append_left _ _ _ h, List.getD, List.getElem?_append_left (by rw [btL_length]; exact h)]
    exact btL_get s s.size i h
  · obtain ⟨j, rfl⟩ : ∃ j, i = s.size + j := ⟨i - s.size, by omega⟩
    have hj : j < (padL s.size).length := by
      rw [padB, ByteArray.size_append, str_size] at hi; omega
    have hr := padL_rng s.size _ (List.getElem_mem hj)
    rw [padB, bt_append_right, str_bt _ _ hj hr.1 hr.2, List.getD, List.getElem?_append_right (by rw [btL_length]; omega), btL_length, Nat.add_sub_cancel_left, List.getElem?_eq_getElem hj]
    rfl

set_option maxHeartbeats 1600000 in
theorem padded (s : ByteArray) (w : World) (hs : s.size ≤ 140737488352256) :
    Calls Tryz.prog 64 #[.string s] w fun e w' => ∃ g cap, e = .returned (.slice (some ⟨g, 0, none⟩) (64 * padN s.size) cap) ∧ Below w.heap.size w w' ∧ Bytes w' g 0 (64 * padN s.size) (bt (padB s)) := by
  obtain ⟨v, w1, hcv, ho1, hb1⟩ := of_string w s hs
  have HO1 : Hid (OwnM _ _ _ _ _) := ho1
  have HB1 : Hid (Below _ _ _) := hb1
  clear ho1 hb1
  obtain ⟨z, HZ⟩ : ∃ z, Hid (z = zerosF s.size) := ⟨_, rfl⟩
  have hz : z < 64 := by have := HZ.out; rw [this]; unfold zerosF; omega
  have HZ2 : Hid (∀ k, k < z → (s.size + 1 + k) % 64 ≠ 56) := fun k hk => by have h1 := HZ.out; unfold zerosF at h1; omega
  have HZ3 : Hid ((s.size + 1 + z) % 64 = 56) := by show _ = _; have h1 := HZ.out; unfold zerosF at h1; omega
  go_enter Tryz.func64, Tryz.ntmps64
  go_wp2_with (at_builtin; refine append_mark rfl (.tmp 8) (.tmp 9) rfl w.heap.size v s.size _ rfl (HO1.out.alloc _) ⟨w1.heap.size, 0, none⟩ 1 128 rfl (one_new _ _ _) (by omega) (by have := HB1.out.size; simp; omega) ?_; intro v' w2 ho2 hb2; have HO2 : Hid (OwnM _ _ _ _ _) := ho2; have HB2 : Hid (Below w.heap.size w w2) := (HB1.out.alloc HB1.out.size _).trans hb2; clear ho2 hb2)
  go_loopw [3] (fun b wr => ∃ k : Nat, k ≤ z ∧ OwnM wr w.heap.size b (s.size + 1 + k) (upL s k) ∧ Below w.heap.size w wr) (fun b _ => s.size + 1 + z - lenV b)
  case atStart => exact ⟨0, by omega, HO2.out, HB2.out⟩
  case round =>
    clear hcv HO1 HB1 HO2 HB2
    obtain ⟨k, hk, hown, hbel⟩ := hrel
    have HOWN : Hid (OwnM _ _ _ _ _) := hown
    have HBEL : Hid (Below _ _ _) := hbel
    obtain ⟨m, HM⟩ : ∃ m, Hid (m = s.size + 1 + k) := ⟨_, rfl⟩
    rw [← HM.out] at HOWN
    clear hown hbel
    obtain ⟨hl, g, cap, rfl, hbg, hg, h1, h2⟩ := HOWN.out
    clear hl h1 h2
    have hmb : m ≤ 140737488352256 + 100 := by have := HM.out; omega
    by_cases hlt : k < z
    · have hq : m % 64 ≠ 56 := by have := HM.out; have := HZ2.out k hlt; rw [‹m = s.size + 1 + k›]; exact this
      have q1 : ((m : Int) % 64 != 56) = true := by rw [bne_iff_ne]; omega
      have q2 : ((m : Int).tmod 64 != 56) = true := by rw [Int.tmod_eq_emod_of_nonneg (by omega)]; exact q1
      have HQ : Hid _ := hq
      clear hq
      go_wp2_with (at_builtin; refine append_mark rfl (.tmp 15) (.tmp 16) rfl w.heap.size _ m _ rfl (HOWN.out.alloc _) ⟨wr.heap.size, 0, none⟩ 1 0 rfl (one_new _ _ _) (by omega) (by have := HBEL.out.size; simp; omega) ?_; intro v' w2 ho2 hb2; have HO2 : Hid (OwnM _ _ _ _ _) := ho2; have HB2 : Hid (Below w.heap.size w w2) := (HBEL.out.alloc HBEL.out.size _).trans hb2; clear ho2 hb2)
      go_roundw
      case rel =>
        refine ⟨k + 1, by omega, ?_, HB2.out⟩
        rw [← upL_next, show s.size + 1 + (k + 1) = m + 1 by have := HM.out; omega]
        exact HO2.out
      case measure =>
        obtain ⟨_, g2, cap2, e2, _⟩ := HO2.out
        rw [e2]
        have := HM.out
        simp only [lenV]; omega
    · have e : k = z := by omega
      subst e
      have hq : m % 64 = 56 := by have h1 := HM.out; have h2 := HZ3.out; rw [h1]; exact h2
      have q1 : ((m : Int) % 64 != 56) = false := by rw [bne_eq_false_iff_eq]; omega
      have q2 : ((m : Int).tmod 64 != 56) = false := by rw [Int.tmod_eq_emod_of_nonneg (by omega)]; exact q1
      have HQ : Hid _ := hq
      clear hq hlt
      have HF0 : Hid (fullL s k ((s.size : Int) * 8) 0 = upL s k) := by show _ = _; simp [fullL]
      go_wp2_with fail
      go_loopw [3, 5] (fun b i wr => ∃ j : Nat, j ≤ 8 ∧ i = .int .i64 j ∧ OwnM wr w.heap.size b (m + j) (fullL s k ((s.size : Int) * 8) j) ∧ Below w.heap.size w wr) (fun _ i _ => (8 - intOf i).toNat)
      case atStart => exact ⟨0, by omega, rfl, by rw [HF0.out]; exact HOWN.out, HBEL.out⟩
      case round =>
        clear HOWN HBEL q1 q2 hbg hg
        obtain ⟨j, hj, rfl, hown, hbel⟩ := hrel
        have HOWN : Hid (OwnM _ _ _ _ _) := hown
        have HBEL : Hid (Below _ _ _) := hbel
        obtain ⟨m2, HM2⟩ : ∃ m2, Hid (m2 = m + j) := ⟨_, rfl⟩
        rw [← HM2.out] at HOWN
        clear hown hbel
        obtain ⟨hl, g, cap, rfl, hbg, hg, h1, h2⟩ := HOWN.out
        clear hl h1 h2
        have hmb2 : m2 ≤ 140737488352256 + 200 := by have := HM2.out; omega
        by_cases hlt : j < 8
        · have hlt' : (j : Int) < 8 := by omega
          have hj56 : (0 : Int) ≤ 56 - 8 * (j : Int) := by omega
          go_wp2_with (at_builtin; refine append_mark rfl (.tmp 26) (.tmp 34) rfl w.heap.size _ m2 _ rfl (HOWN.out.alloc _) ⟨wr.heap.size, 0, none⟩ 1 _ rfl (one_new _ _ _) (by omega) (by have := HBEL.out.size; simp; omega) ?_; intro v' w2 ho2 hb2; have HO2 : Hid (OwnM _ _ _ _ _) := ho2; have HB2 : Hid (Below w.heap.size w w2) := (HBEL.out.alloc HBEL.out.size _).trans hb2; clear ho2 hb2)
          go_roundw
          case rel =>
            refine ⟨j + 1, by omega, by go_num, ?_, HB2.out⟩
            rw [← fullL_next s k _ _ j hlt rfl, show m + (j + 1) = m2 + 1 by have := HM2.out; omega, ← pow_back j hlt]
            exact HO2.out
          case measure => simp [intOf]; omega
        · have e : j = 8 := by omega
          subst e
          have hlt' : ¬ ((8 : Nat) : Int) < 8 := by omega
          go_wp2
          go_ret
          have hm : m2 = 64 * padN s.size := by
            have h1 := HM2.out; have h2 := HM.out; have h3 := HZ.out
            rw [padN_mul]; omega
          obtain ⟨hl, g', cap', e', _, hg', h1, _⟩ := HOWN.out
          obtain ⟨rfl, rfl⟩ : g = g' ∧ cap = cap' := by
            injection e' with e1 e2 e3
            injection e1 with e4
            injection e4 with e5
            exact ⟨e5, e3⟩
          rw [← hm]
          refine ⟨g, ⟨cap, rfl⟩, HBEL.out, hg', fun i hi => ?_⟩
          have hb := (show fullL s k ((s.size : Int) * 8) 8 = btL s s.size ++ padL s.size by
            have e8 : (lowB ((s.size : Int) * 8) 8).take 8 = lowB ((s.size : Int) * 8) 8 := List.take_of_length_le (by rw [lowB_length]; omega)
            have e9 : bitsF s.size = (s.size : Int) * 8 := by unfold bitsF; omega
            rw [fullL, upL, e8, padL, e9, ← HZ.out]
            simp)
          rw [Nat.zero_add, h1 i hi, hb]
          have key := pad_at s i (by rw [padB_size, ← hm]; exact hi)
          rw [key]
          exact ⟨rfl, bt_nonneg _ _, bt_le _ _⟩
end Go.Proofs.YthdkbjbhjfiaiaaGreatDoor.rd

namespace Go.Proofs.YthdkbjbhjfiaiaaGreatDoor.re
open Go.RowKit Go.PlainAid
open Go.Proofs.YthdkbjbhjfiaiaaGreatDoor.pl Go.Proofs.YthdkbjbhjfiaiaaGreatDoor.pd Go.Proofs.YthdkbjbhjfiaiaaGreatDoor.pf Go.Proofs.YthdkbjbhjfiaiaaGreatDoor.pg Go.Proofs.YthdkbjbhjfiaiaaGreatDoor.ra Go.Proofs.YthdkbjbhjfiaiaaGreatDoor.rb Go.Proofs.YthdkbjbhjfiaiaaGreatDoor.rc Go.Proofs.YthdkbjbhjfiaiaaGreatDoor.rd
set_option linter.unusedVariables false
set_option maxRecDepth 4000

def TT (w : World) (kk : Nat → Int) : Prop := ∀ j, j < 64 → w.cell? ⟨1, j, none⟩ = some (.int .u32 (kk j))
def FT (w : World) (v : St) : Prop := ∀ j, j < 8 → w.cell? ⟨0, j, none⟩ = some (.int .u32 (v.list.getD j 0))
theorem tt_lt {w : World} {kk : Nat → Int} (h : TT w kk) : 1 < w.heap.size := World.block_lt_of_cell? w ⟨1, 0, none⟩ (h 0 (by omega))
theorem tt_below {w w' : World} {kk : Nat → Int} {B : Nat} (x : TT w kk) (b : Below B w w') (hB : 1 < B) : TT w' kk := fun j hj => (b.cell hB).trans (x j hj)
theorem ft_below {w w' : World} {v : St} {B : Nat} (x : FT w v) (b : Below B w w') (hB : 0 < B) : FT w' v := fun j hj => (b.cell hB).trans (x j hj)
theorem bytes_below {w w' : World} {B off len : Nat} {g : Nat → Int} {b : Nat} (x : Bytes w B off len g) (h : Below b w w') (hB : B < b) : Bytes w' B off len g :=
  ⟨Nat.lt_of_lt_of_le x.1 h.size, fun j hj => ⟨(h.cell hB).trans (x.2 j hj).1, (x.2 j hj).2⟩⟩
theorem bytes_setRow {w : World} {B off len : Nat} {g : Nat → Int} (x : Bytes w B off len g) (b : Nat) (cs : Array Value) (hne : B ≠ b) : Bytes (w.setRow b cs) B off len g :=
  ⟨by have := x.1; simpa [World.setRow] using this, fun j hj => ⟨(World.cell?_of_block (w := w) (setRow_other w b B cs hne)).trans (x.2 j hj).1, (x.2 j hj).2⟩⟩
theorem cell_grow {w w' : World} {row : Option Nat} (h : w.grownBy w' row) (b i : Nat) (hb : b < w.heap.size) (hne : some b ≠ row) : w'.cell? ⟨b, i, none⟩ = w.cell? ⟨b, i, none⟩ := World.cell?_of_block (w := w) (h.block b hb hne)

structure LayR (kk : Nat → Int) (w : World) (vB g L : Nat) (G : Nat → Int) (V : St) (wr : World) : Prop where
  lv : wr.heap[vB]? = some (.cells V.cells 103 (0, 0))
  lb : Bytes wr g 0 L G
  lt : TT wr kk
  bl : Below w.heap.size w wr

set_option maxHeartbeats 1600000 in
theorem rsum (kk : Nat → Int) (v0 : St) (s : ByteArray) (w : World) (hv : v0.ok) (hsz : s.size ≤ 140737488352256) (HF : Hid (FT w v0)) (HT : Hid (TT w kk)) :
    Calls Tryz.prog 32 #[.string s] w fun e w' => e = .returned (.string (shaF kk v0 s)) ∧ Below w.heap.size w w' := by
  have h3 : 1 < w.heap.size := tt_lt HT.out
  obtain ⟨L, HL⟩ : ∃ L, Hid (L = 64 * padN s.size) := ⟨_, rfl⟩
  have hL : L ≤ 140737488352256 + 200 := by have h1 := HL.out; rw [padN_mul] at h1; unfold zerosF at h1; omega
  have HP : Hid (Calls _ _ _ _ _) := padded s w hsz
  rw [← HL.out] at HP
  obtain ⟨i5, hi, hz0, hz1, hz2⟩ := info_parts info5
  have HIN : Hid (_ ∧ _ ∧ _ ∧ _) := ⟨hi, hz0, hz1, hz2⟩
  clear hi hz0 hz1 hz2
  have H40 : Hid ((Tryz.prog.info? 103).map (·.size) = some 8) := by show _ = _; kernel_rfl
  go_enter Tryz.func32, Tryz.ntmps32
  go_wp2_with fail
  refine HP.out.mono ?_
  rintro e w1 ⟨g, cap, rfl, hb1, hby⟩
  have HB1 : Hid (Below w.heap.size w w1) := hb1
  have HBY : Hid (Bytes w1 g 0 L (bt (padB s))) := hby
  have hg1 : g < w1.heap.size := hby.1
  have hs1 : w.heap.size ≤ w1.heap.size := hb1.size
  clear hb1 hby HP
  obtain ⟨a, b, c, d, e, f, g', h'⟩ := v0
  have hft := ft_below HF.out HB1.out (by omega)
  have X0 : w1.cell? ⟨0, 0, none⟩ = some (.int .u32 a) := hft 0 (by omega)
  have X1 : w1.cell? ⟨0, 1, none⟩ = some (.int .u32 b) := hft 1 (by omega)
  have X2 : w1.cell? ⟨0, 2, none⟩ = some (.int .u32 c) := hft 2 (by omega)
  have X3 : w1.cell? ⟨0, 3, none⟩ = some (.int .u32 d) := hft 3 (by omega)
  have X4 : w1.cell? ⟨0, 4, none⟩ = some (.int .u32 e) := hft 4 (by omega)
  have X5 : w1.cell? ⟨0, 5, none⟩ = some (.int .u32 f) := hft 5 (by omega)
  have X6 : w1.cell? ⟨0, 6, none⟩ = some (.int .u32 g') := hft 6 (by omega)
  have X7 : w1.cell? ⟨0, 7, none⟩ = some (.int .u32 h') := hft 7 (by omega)
  clear hft
  go_wp2_with fail
  clear X0 X1 X2 X3 X4 X5 X6 X7
  obtain ⟨v0, hv0⟩ : ∃ v0 : St, v0 = ⟨a, b, c, d, e, f, g', h'⟩ := ⟨_, rfl⟩
  have lay0 : LayR kk w w1.heap.size g L (bt (padB s)) v0 (w1.alloc (.cells #[.int .u32 a, .int .u32 b, .int .u32 c, .int .u32 d, .int .u32 e, .int .u32 f, .int .u32 g', .int .u32 h'] 103)) := by
    subst hv0
    exact ⟨heap_alloc_new w1 _, bytes_below HBY.out ((Below.refl w1.heap.size w1).alloc (Nat.le_refl _) _) hg1, tt_below (tt_below HT.out HB1.out h3) ((Below.refl w1.heap.size w1).alloc (Nat.le_refl _) _) (by omega), HB1.out.alloc hs1 _⟩
  have LAY0 : Hid (LayR _ _ _ _ _ _ _ _) := lay0
  have HV0 : Hid v0.ok := by show v0.ok; rw [hv0]; exact hv
  have HVE : Hid _ := hv0
  generalize w1.alloc (.cells #[.int .u32 a, .int .u32 b, .int .u32 c, .int .u32 d, .int .u32 e, .int .u32 f, .int .u32 g', .int .u32 h'] 103) = w2 at *
  clear lay0 hv0 hv HBY
  go_loopw [5] (fun i wr => ∃ k P : Nat, Hid (P = 64 * k) ∧ P ≤ L ∧ i = .int .i64 P ∧ Hid (LayR kk w w1.heap.size g L (bt (padB s)) (hs kk (bt (padB s)) v0 k) wr)) (fun i _ => (L - intOf i).toNat)
  case atStart => exact ⟨0, 0, rfl, by omega, rfl, LAY0⟩
  case round =>
    clear LAY0
    obtain ⟨k, P, HPk, hPL, rfl, LAY⟩ := hrel
    have hLm : L % 64 = 0 := by have := HL.out; omega
    have hPm : P % 64 = 0 := by have := HPk.out; omega
    have HLM : Hid _ := hLm
    have HPM : Hid _ := hPm
    clear hLm hPm
    have okk := hs_ok kk (bt (padB s)) v0 HV0.out k
    have HOK : Hid (St.ok _) := okk
    clear okk
    have HE1 : Hid (hs kk (bt (padB s)) v0 (k + 1) = blockF kk (bt (padB s)) P (hs kk (bt (padB s)) v0 k)) := by show _ = _; rw [HPk.out]; rfl
    have HFIN : Hid (k = padN s.size → textF (hs kk (bt (padB s)) v0 k) = shaF kk v0 s) := fun e => by rw [e]; rfl
    by_cases hlt : P < L
    · have hlt' : (P : Int) < L := by omega
      have h63 : P + 63 < L := by have := HLM.out; have := HPM.out; omega
      revert HE1 HOK LAY
      generalize hs kk (bt (padB s)) v0 k = V
      intro LAY HOK HE1
      have hsz8 : V.cells.size = 8 := rfl
      have HZ8 : Hid ((Tryz.prog.info? 103).map (·.size) = some V.cells.size) := by show _ = _; rw [hsz8]; exact H40.out
      clear hsz8
      go_wp2_with (refine wpList_load_row rfl 103 (.tmp 4) rfl w1.heap.size rfl 103 V.cells (0, 0) _ LAY.out.lv Tryz.underlying103 rfl HZ8.out ?_)
      refine (block V g 0 L cap P (bt (padB s)) kk _ h63 (by omega) HOK.out LAY.out.lb LAY.out.lt).mono ?_
      rintro e w3 ⟨rfl, hb3⟩
      have hvlt : w1.heap.size < wr.heap.size := (Array.getElem?_eq_some_iff.1 LAY.out.lv).1
      have HV3 : Hid (w3.heap[w1.heap.size]? = some (.cells V.cells 103 (0, 0))) := (hb3.block _ hvlt).trans LAY.out.lv
      have HB3 : Hid (Below wr.heap.size wr w3) := hb3
      clear hb3
      go_wp2_with (refine wpList_store_row rfl 103 (.tmp 4) (.tmp 20) rfl w1.heap.size (blockF kk (bt (padB s)) P V).cells rfl rfl 103 V.cells HV3.out (show _ = some (blockF kk (bt (padB s)) P V).cells.size from H40.out) rfl (by simp [St.cells, Value.oneCell']) ?_)
      go_roundw
      case rel =>
        refine ⟨k + 1, P + 64, (show _ = _ by have := HPk.out; omega), by have := HLM.out; have := HPM.out; omega, by go_num, ?_⟩
        rw [HE1.out]
        exact ⟨setRow_heap _ _ _ _ _ _ HV3.out, bytes_setRow (bytes_below LAY.out.lb HB3.out (by omega)) _ _ (by omega), tt_below (tt_below LAY.out.lt HB3.out (by omega)) (below_setRow (B := w1.heap.size) (Below.refl _ _) (Nat.le_refl _) _) (by omega), below_setRow (LAY.out.bl.trans (HB3.out.mono (by omega))) hs1 _⟩
      case measure => simp [intOf]; omega
    · have hlt' : ¬ (P : Int) < L := by omega
      have ek : k = padN s.size := by have h1 := HPk.out; have h2 := HL.out; omega
      have HT2 : Hid _ := HFIN.out ek
      clear HE1 HFIN
      revert HOK LAY HT2
      generalize hs kk (bt (padB s)) v0 k = V
      intro LAY HOK HT2
      have hvlt : w1.heap.size < wr.heap.size := (Array.getElem?_eq_some_iff.1 LAY.out.lv).1
      go_wp2_with fail
      go_loopw [6, 7] (fun out i wq => ∃ j : Nat, j ≤ 8 ∧ i = .int .i64 j ∧ wq.ownsRow (w1.heap.size + 1) 5 1 out (4 * j) ((bytesL (V.list.take j)).map (Value.int .u8)) ∧ wq.heap[w1.heap.size]? = some (.cells V.cells 103 (0, 0)) ∧ Below w.heap.size w wq) (fun _ i _ => (8 - intOf i).toNat)
      case atStart => exact ⟨0, by omega, rfl, World.ownsRow_nil _ _ _ _, LAY.out.lv, LAY.out.bl⟩
      case round =>
        clear LAY hvlt
        obtain ⟨j, hj, rfl, hown, hlv, hbel⟩ := hrel
        have HOWN : Hid (World.ownsRow _ _ _ _ _ _ _) := hown
        have HLV : Hid _ := hlv
        have HBEL : Hid (Below _ _ _) := hbel
        clear hown hlv hbel
        have hvlt : w1.heap.size < wr.heap.size := (Array.getElem?_eq_some_iff.1 HLV.out).1
        by_cases hlt8 : j < 8
        · have hlt8' : (j : Int) < 8 := by omega
          have hj0 : (0 : Int) ≤ (j : Int) := by omega
          have C1 : wr.cell? ⟨w1.heap.size, j, none⟩ = some (.int .u32 (V.list.getD j 0)) := by
            rw [cell_of_row _ _ _ _ _ _ HLV.out, St.get V j hlt8]
          obtain ⟨r1, r2⟩ := St.rng V HOK.out j hlt8
          have HX : Hid _ := bytes_next V j hlt8
          revert HX C1 r1 r2
          generalize V.list.getD j 0 = x
          intro C1 r1 r2 HX
          have HW : Hid (wordB x = [IntKind.u8.wrap (x / 16777216), IntKind.u8.wrap (x / 65536), IntKind.u8.wrap (x / 256), IntKind.u8.wrap x]) := by
            show _ = _
            simp only [wordB, IntKind.wrap_u8]
          go_wp2_with fail
          go_region_held3 (fun w' => w'.cell? ⟨w1.heap.size, j, none⟩ = some (.int .u32 x)) (first | go_keep | (rw [cell_grow hgrow3 _ _ (by simp; omega) (fun e => by have := (HOWN.out.lt _ e.symm).1; omega)]; go_keep)) ((refine step_append_lies _ (by rfl) _ _ 77 (by rfl) (w1.heap.size + 1) 5 i5 (.int .u8 0) 1 1 Tryz.underlying77 HIN.out.1 HIN.out.2.1 HIN.out.2.2.1 HIN.out.2.2.2 rfl (by decide) _ _ _ (by rfl) (World.ownsRow.drew (HOWN.out.alloc _)) ⟨wr.heap.size, 0, none⟩ 4 4 [.int .u8 (IntKind.u8.wrap (x / 16777216)), .int .u8 (IntKind.u8.wrap (x / 65536)), .int .u8 (IntKind.u8.wrap (x / 256)), .int .u8 (IntKind.u8.wrap x)] (by rfl) rfl (four_new _ _ _ _ _ _) (fun u hu => by simp at hu; rcases hu with rfl | rfl | rfl | rfl <;> rfl) (by omega) (by unfold maxLen; omega) (by omega) (by simp; omega) _ rfl ?_; intro g3 cap3 w3 hown' hgrow3 hlies hglt))
          all_goals (
            have HO3 : Hid (World.ownsRow _ _ _ _ _ _ _) := hown'
            have HB3 : Hid (Below w.heap.size w w3) := Below.grown ((HBEL.out.alloc HBEL.out.size _).drew) hgrow3 (by have := HBEL.out.size; simp; omega) (fun j hj => by have := (HOWN.out.lt _ hj).1; omega)
            have HV3 : Hid (w3.heap[w1.heap.size]? = some (.cells V.cells 103 (0, 0))) := ((hgrow3.block _ (by simp; omega) (fun e => by have := (HOWN.out.lt _ e.symm).1; omega)).trans (Below.heap_alloc _ _ _ hvlt)).trans HLV.out
            clear hown' hgrow3 hlies hglt C1
            go_wp2
            go_roundw
            case rel =>
              refine ⟨j + 1, by omega, by go_num, ?_, HV3.out, HB3.out⟩
              rw [HX.out, HW.out, List.map_append]
              exact HO3.out
            case measure => simp [intOf]; omega)
        · have hlt8' : ¬ (j : Int) < 8 := by omega
          have e8 : j = 8 := by omega
          subst e8
          have hcv := own_conv wr (w1.heap.size + 1) _ (bytesL (V.list.take 8)) 32 (by rw [bytesL_length]; rfl) (by omega) HOWN.out
          have ht : str (bytesL (V.list.take 8)) = textF V := rfl
          have hve := HVE.out
          subst hve
          rw [ht, HT2.out] at hcv
          clear ht HT2
          go_wp2
          go_ret
          exact ⟨rfl, HBEL.out⟩
end Go.Proofs.YthdkbjbhjfiaiaaGreatDoor.re

namespace Go.Proofs.YthdkbjbhjfiaiaaGreatDoor.ph
open Go.RowKit Go.PlainAid
open Go.Proofs.YthdkbjbhjfiaiaaGreatDoor.pl Go.Proofs.YthdkbjbhjfiaiaaGreatDoor.pa Go.Proofs.YthdkbjbhjfiaiaaGreatDoor.pb Go.Proofs.YthdkbjbhjfiaiaaGreatDoor.pc Go.Proofs.YthdkbjbhjfiaiaaGreatDoor.pd Go.Proofs.YthdkbjbhjfiaiaaGreatDoor.pe Go.Proofs.YthdkbjbhjfiaiaaGreatDoor.pf Go.Proofs.YthdkbjbhjfiaiaaGreatDoor.pg
set_option linter.unusedVariables false

-- the words ahead of the first block, as the variable holds them
def ST (w : World) (v : St) : Prop := ∀ j, j < 8 → w.cell? ⟨2, j, none⟩ = some (.int .u32 (v.list.getD j 0))
theorem ST.lt {w : World} {v : St} (h : ST w v) : 2 < w.heap.size := World.block_lt_of_cell? w ⟨2, 0, none⟩ (h 0 (by omega))

-- a Hash at block h that has taken the text t
structure HashAt (kk : Nat → Int) (v0 : St) (w : World) (h : Nat) (t : ByteArray) : Prop where
  big : 5 ≤ h
  ex : ∃ L, Inv (bt t) t.size L ∧ w.heap[h]? = some (.cells (hcells (hs kk (bt t) v0 (t.size / 64)) L t.size) 144 (0, 0))

theorem HashAt.lt {kk : Nat → Int} {v0 : St} {w : World} {h : Nat} {t : ByteArray} (x : HashAt kk v0 w h t) : h < w.heap.size := by
  obtain ⟨L, _, hh⟩ := x.ex
  exact (Array.getElem?_eq_some_iff.1 hh).1
theorem HashAt.keep {kk : Nat → Int} {v0 : St} {w w' : World} {h : Nat} {t : ByteArray} (x : HashAt kk v0 w h t) (e : w'.heap[h]? = w.heap[h]?) : HashAt kk v0 w' h t := by
  obtain ⟨L, hi, hh⟩ := x.ex
  exact ⟨x.big, L, hi, e.trans hh⟩
theorem HashAt.below {kk : Nat → Int} {v0 : St} {w w' : World} {h B : Nat} {t : ByteArray} (x : HashAt kk v0 w h t) (b : Below B w w') (hB : h < B) : HashAt kk v0 w' h t := x.keep (b.block h hB)
theorem HashAt.keeps {kk : Nat → Int} {v0 : St} {w w' : World} {h k : Nat} {t : ByteArray} (x : HashAt kk v0 w h t) (b : Keeps k w w') (hne : h ≠ k) : HashAt kk v0 w' h t := x.keep (b.block h x.lt hne)

def zL : List Int := List.replicate 64 0
theorem inv_empty (g : Nat → Int) (L : List Int) (hl : L = zL) : Inv g 0 L := by
  subst hl
  refine ⟨rfl, fun j hj => ?_, fun j hj => by omega⟩
  have : zL.getD j 0 = 0 := by rw [zL, List.getD, List.getElem?_replicate, if_pos hj]; rfl
  rw [this]; omega

theorem hcells_sz (s : St) (L : List Int) (sz : Int) (h : L.length = 64) : (hcells s L sz)[72]? = some (.int .i64 sz) := by
  rw [hcells, hc, List.getElem?_toArray, List.getElem?_append_right (by simp [St.list]), List.length_map, St.len, List.getElem?_append_right (by simp [h])]
  simp [h]
theorem hcells_setsz (s : St) (L : List Int) (sz x : Int) (h : L.length = 64) : (hcells s L sz).setIfInBounds 72 (.int .i64 x) = hcells s L x := by
  simp only [hcells, hc, List.setIfInBounds_toArray]
  rw [List.set_append_right _ _ (by simp [St.list]), List.length_map, St.len, List.set_append_right _ _ (by simp [h])]
  simp [h]
theorem hcells_size (s : St) (L : List Int) (sz : Int) (h : L.length = 64) : (hcells s L sz).size = 73 := by simp [hcells, hc, h, St.list]
theorem hcells_one (s : St) (L : List Int) (sz : Int) : (hcells s L sz).all (·.oneCell') = true := by simp [hcells, hc, St.list, Value.oneCell']

theorem infoH : (Tryz.prog.info? 144).map (·.size) = some 73 := by kernel_rfl

theorem wpList_build {P : Program} {ops : Array Oper} {rest : List Oper} {o : Oper} {a : Act} {w : World} {Q : Exit → Act → World → Prop} (hgd : o.guard = none) (t : TypeId) (ps : Array (Nat × Operand)) (ho : o.op = .build t ps) (v : Value)
    (hrun : (Instr.build t (ps.map fun (i, x) => (i, a.eval x))).run P w = .ok v w) (h : wpList P ops Q rest (a.put o.dst v) w) : wpList P ops Q (o :: rest) a w := by
  refine wpList_plain hgd fun K hK => ?_
  unfold Oper.wp execOp
  simp only [ho, Sem.run_bind, hrun, Result.andThen_ok, Sem.run_pure]
  exact hK _ _ h
theorem wpList_alloc {P : Program} {ops : Array Oper} {rest : List Oper} {o : Oper} {a : Act} {w : World} {Q : Exit → Act → World → Prop} (hgd : o.guard = none) (t : TypeId) (ho : o.op = .alloc t) (v : Value) (w' : World)
    (hrun : (Instr.alloc t true (.tuple #[])).run P w = .ok v w') (h : wpList P ops Q rest (a.put o.dst v) w') : wpList P ops Q (o :: rest) a w := by
  refine wpList_plain hgd fun K hK => ?_
  unfold Oper.wp execOp
  simp only [ho, Sem.run_bind, hrun, Result.andThen_ok, Sem.run_pure]
  exact hK _ _ h

def zSt : St := ⟨0, 0, 0, 0, 0, 0, 0, 0⟩
theorem build73 (s : St) (W : World) : (Instr.build 144 #[(0, .agg s.cells)]).run Tryz.prog W = .ok (.agg (hcells s zL 0)) W := by kernel_rfl
theorem alloc73 (W : World) : (Instr.alloc 144 true (.tuple #[])).run Tryz.prog W = .ok (.pointer (some ⟨W.heap.size, 0, none⟩)) (W.alloc (.cells (hcells zSt zL 0) 144)) := by kernel_rfl

theorem wpList_build73 {ops : Array Oper} {rest : List Oper} {o : Oper} {a : Act} {w : World} {Q : Exit → Act → World → Prop} (hgd : o.guard = none) (x : Operand) (ho : o.op = .build 144 #[(0, x)]) (s : St)
    (hx : a.eval x = .agg s.cells) (h : wpList Tryz.prog ops Q rest (a.put o.dst (.agg (hcells s zL 0))) w) : wpList Tryz.prog ops Q (o :: rest) a w := by
  refine wpList_build hgd 144 #[(0, x)] ho (.agg (hcells s zL 0)) ?_ h
  have e : (#[(0, x)].map fun ((i, x) : Nat × Operand) => (i, a.eval x)) = #[(0, .agg s.cells)] := by simp [hx]
  exact (congrArg (fun z => Sem.run Tryz.prog (Instr.build 144 z) w) e).trans (build73 s w)

set_option maxRecDepth 100000 in
theorem new (kk : Nat → Int) (v0 : St) (w : World) (HS : Hid (ST w v0)) (h4 : 5 ≤ w.heap.size) :
    Calls Tryz.prog 77 #[] w fun e w' => e = .returned (.pointer (some ⟨w.heap.size, 0, none⟩)) ∧ Below w.heap.size w w' ∧ HashAt kk v0 w' w.heap.size ByteArray.empty := by
  obtain ⟨a, b, c, d, e, f, g, h⟩ := v0
  have X0 : w.cell? ⟨2, 0, none⟩ = some (.int .u32 a) := HS.out 0 (by omega)
  have X1 : w.cell? ⟨2, 1, none⟩ = some (.int .u32 b) := HS.out 1 (by omega)
  have X2 : w.cell? ⟨2, 2, none⟩ = some (.int .u32 c) := HS.out 2 (by omega)
  have X3 : w.cell? ⟨2, 3, none⟩ = some (.int .u32 d) := HS.out 3 (by omega)
  have X4 : w.cell? ⟨2, 4, none⟩ = some (.int .u32 e) := HS.out 4 (by omega)
  have X5 : w.cell? ⟨2, 5, none⟩ = some (.int .u32 f) := HS.out 5 (by omega)
  have X6 : w.cell? ⟨2, 6, none⟩ = some (.int .u32 g) := HS.out 6 (by omega)
  have X7 : w.cell? ⟨2, 7, none⟩ = some (.int .u32 h) := HS.out 7 (by omega)
  go_enter Tryz.func77, Tryz.ntmps77
  go_wp2_with (refine wpList_build73 rfl (.tmp 1) rfl ⟨a, b, c, d, e, f, g, h⟩ rfl ?_)
  go_ret
  refine ⟨rfl, (Below.refl _ _).alloc (Nat.le_refl _) _, ⟨h4, zL, inv_empty _ _ rfl, ?_⟩⟩
  exact heap_alloc_new w _

set_option maxRecDepth 100000 in

set_option maxRecDepth 100000 in
theorem copy (kk : Nat → Int) (v0 : St) (h : Nat) (t : ByteArray) (w : World) (HH : Hid (HashAt kk v0 w h t)) :
    Calls Tryz.prog 107 #[.pointer (some ⟨h, 0, none⟩)] w fun e w' => e = .returned (.pointer (some ⟨w.heap.size, 0, none⟩)) ∧ Below w.heap.size w w' ∧ HashAt kk v0 w' w.heap.size t := by
  obtain ⟨h4, L, hi, hh⟩ := HH.out
  have hlt := HH.out.lt
  have HL : Hid (L.length = 64) := hi.len
  have HC : Hid _ := hh
  have HI : Hid (Inv _ _ _) := hi
  have HZ : Hid ((Tryz.prog.info? 144).map (·.size) = some (hcells (hs kk (bt t) v0 (t.size / 64)) L t.size).size) := by show _ = _; rw [hcells_size _ _ _ HL.out]; exact infoH
  clear hi hh HH
  go_enter Tryz.func107, Tryz.ntmps107
  go_wp2_with (first | (refine wpList_load_row rfl 144 (.tmp 5) rfl h rfl 144 _ (0, 0) _ HC.out Tryz.underlying144 rfl HZ.out ?_) | (refine wpList_alloc rfl 144 rfl _ _ (alloc73 _) ?_) | (refine wpList_store_row rfl 144 (.tmp 3) (.tmp 6) rfl w.heap.size (hcells (hs kk (bt t) v0 (t.size / 64)) L t.size) rfl rfl 144 (hcells zSt zL 0) (heap_alloc_new w _) HZ.out (by rw [hcells_size _ _ _ HL.out, hcells_size _ _ _ rfl]) (hcells_one _ _ _) ?_; rw [World.setRow_alloc_new]))
  go_ret
  refine ⟨rfl, (Below.refl _ _).alloc (Nat.le_refl _) _, ⟨by omega, L, HI.out, ?_⟩⟩
  exact heap_alloc_new w _


end Go.Proofs.YthdkbjbhjfiaiaaGreatDoor.ph

namespace Go.Proofs.YthdkbjbhjfiaiaaGreatDoor.pi
open Go.RowKit Go.PlainAid
open Go.Proofs.YthdkbjbhjfiaiaaGreatDoor.pl Go.Proofs.YthdkbjbhjfiaiaaGreatDoor.pa Go.Proofs.YthdkbjbhjfiaiaaGreatDoor.pb Go.Proofs.YthdkbjbhjfiaiaaGreatDoor.pc Go.Proofs.YthdkbjbhjfiaiaaGreatDoor.pd Go.Proofs.YthdkbjbhjfiaiaaGreatDoor.pe Go.Proofs.YthdkbjbhjfiaiaaGreatDoor.pf Go.Proofs.YthdkbjbhjfiaiaaGreatDoor.pg Go.Proofs.YthdkbjbhjfiaiaaGreatDoor.ph
set_option linter.unusedVariables false
set_option maxRecDepth 4000

theorem inv_congr {g g' : Nat → Int} {N : Nat} {L : List Int} (x : Inv g N L) (h : ∀ j, j < N → g j = g' j) : Inv g' N L :=
  ⟨x.len, x.rng, fun j hj => (x.eq j hj).trans (h _ (by omega))⟩

set_option maxHeartbeats 800000 in
theorem write (kk : Nat → Int) (v0 : St) (h n : Nat) (t p : ByteArray) (w : World) (HO : Hid v0.ok) (hp : p.size ≤ 1125899906842624) (hn : n ≤ 1125899906842624) (HN : Hid (n = t.size)) (HH : Hid (HashAt kk v0 w h t)) (HK : Hid (KT w kk)) :
    Calls Tryz.prog 78 #[.pointer (some ⟨h, 0, none⟩), .string p] w fun e w' => e = .returned (.int .i64 p.size) ∧ Keeps h w w' ∧ HashAt kk v0 w' h (t ++ p) := by
  obtain ⟨h4, L, hi, hh⟩ := HH.out
  rw [← HN.out] at hi hh
  have e1 : hs kk (bt t) v0 (n / 64) = hs kk (bt (t ++ p)) v0 (n / 64) := hs_congr kk _ _ v0 _ (fun j hj => (bt_append_left t p j (by have := HN.out; omega)).symm)
  rw [e1] at hh
  have HI : Hid (Inv (bt (t ++ p)) n L) := inv_congr hi (fun j hj => (bt_append_left t p j (by have := HN.out; omega)).symm)
  have HQ : Hid (∀ j, j < p.size → bt p j = bt (t ++ p) (n + j)) := fun j hj => by rw [HN.out]; exact (bt_append_right t p j).symm
  have HC : Hid _ := hh
  have c : w.cell? ⟨h, 72, none⟩ = some (.int .i64 n) := by rw [cell_of_row _ _ _ _ _ _ hh]; exact hcells_sz _ _ _ hi.len
  clear hi hh e1 HH
  obtain ⟨d, HD⟩ : ∃ d, Hid (d = n % 64) := ⟨_, rfl⟩
  have hd : (n : Int) % 64 = (d : Int) := by have := HD.out; omega
  have hd2 : (n : Int).tmod 64 = (d : Int) := by rw [Int.tmod_eq_emod_of_nonneg (by omega)]; exact hd
  have hmf : ∀ (fn : Fn) (first cap : Array Value) (w : World), (Instr.makeFunc fn first cap).run Tryz.prog w = .ok (.func fn first cap) w := fun _ _ _ _ => rfl
  go_enter Tryz.func78, Tryz.ntmps78
  go_wp2_with fail
  go_region_held3 (fun w' => w'.cell? ⟨h, 72, none⟩ = some (.int .i64 n)) (first | go_keep | (rw [cell_of_row _ _ _ _ _ _ (Hid.out HH2)]; exact hcells_sz _ _ _ (Hid.out HI2).len)) ((go_at_call 105; refine (fill h kk (bt (t ++ p)) v0 n d L n p _ h4 HO HD (by omega) HI HQ (by exact HC) (by exact HK)).mono ?_; rintro e w' ⟨rfl, hk2, L2, hi2, hh2⟩; have HK2 : Hid (Keeps _ _ _) := hk2; have HI2 : Hid (Inv _ _ _) := hi2; have HH2 : Hid _ := hh2; clear hk2 hi2 hh2))
  have F : w'.frozen? ⟨h, 72, none⟩ = false := frozen_of_row _ _ _ _ _ HH2.out
  have c2 : w'.cell? ⟨h, 72, none⟩ = some (.int .i64 n) := by rw [cell_of_row _ _ _ _ _ _ HH2.out]; exact hcells_sz _ _ _ HI2.out.len
  clear c hd hd2
  go_wp2
  go_ret
  have hsz : (t ++ p).size = n + p.size := by rw [ByteArray.size_append, HN.out]
  refine ⟨rfl, (Keeps.trans (⟨rfl, rfl, rfl, Nat.le_refl _, fun _ _ _ => rfl⟩ : Keeps h w w.drew) HK2.out).setCell _ _, ⟨h4, L2, ?_, ?_⟩⟩
  · rw [hsz]; exact HI2.out
  · rw [hsz, heap_setCell_same _ _ _ _ _ _ HH2.out, hcells_setsz _ _ _ _ HI2.out.len]
    rfl

theorem kt_below {w w' : World} {kk : Nat → Int} {B : Nat} (x : KT w kk) (b : Below B w w') (hB : 4 < B) : KT w' kk := fun j hj => (b.cell hB).trans (x j hj)
theorem st_below {w w' : World} {v : St} {B : Nat} (x : ST w v) (b : Below B w w') (hB : 2 < B) : ST w' v := fun j hj => (b.cell hB).trans (x j hj)
theorem st_keep {w w' : World} {v : St} {h : Nat} (x : ST w v) (k : Keeps h w w') (hh : 5 ≤ h) : ST w' v := fun j hj => (k.cell x.lt (show 2 ≠ h by omega)).trans (x j hj)

theorem hsum (kk : Nat → Int) (v0 : St) (h n : Nat) (t : ByteArray) (w : World) (HO : Hid v0.ok) (hn : n ≤ 1125899906842624) (HN : Hid (n = t.size)) (HH : Hid (HashAt kk v0 w h t)) (HK : Hid (KT w kk)) :
    Calls Tryz.prog 79 #[.pointer (some ⟨h, 0, none⟩)] w fun e w' => e = .returned (.string (shaF kk v0 t)) ∧ Below w.heap.size w w' := by
  have hlt := HH.out.lt
  have h4 := HH.out.big
  go_enter Tryz.func79, Tryz.ntmps79
  go_wp2_with fail
  refine (copy kk v0 h t _ HH).mono ?_
  rintro e w1 ⟨rfl, hb1, hk1⟩
  have hs1 : w.heap.size < w1.heap.size := hk1.lt
  have c : w1.cell? ⟨w.heap.size, 72, none⟩ = some (.int .i64 n) := by
    obtain ⟨_, L, hi, hh⟩ := hk1
    rw [cell_of_row _ _ _ _ _ _ hh, HN.out]; exact hcells_sz _ _ _ hi.len
  have HB1 : Hid (Below w.heap.size w w1) := hb1
  have HK1 : Hid (HashAt kk v0 w1 w.heap.size t) := hk1
  clear hb1 hk1
  go_wp2_with fail
  refine (padding n _ (by omega)).mono ?_
  rintro e w2 ⟨rfl, rfl⟩
  have HB2 : Hid (Below w1.heap.size w1 (w1.alloc (.cells (row (padL n)) 5))) := (Below.refl _ _).alloc (Nat.le_refl _) _
  generalize w1.alloc (.cells (row (padL n)) 5) = w2 at *
  clear c
  go_wp2_with fail
  refine (write kk v0 w.heap.size n t (str (padL n)) _ HO (by rw [str_size, padL_length]; unfold zerosF; omega) hn HN (HK1.out.below HB2.out hs1) (kt_below (kt_below HK.out HB1.out HK.out.lt) HB2.out (by omega))).mono ?_
  rintro e w3 ⟨rfl, hk3, hh3⟩
  have HB3 : Hid (Below w.heap.size w w3) := (HB1.out.trans (HB2.out.mono (by omega))).trans (hk3.below (Nat.le_refl _) (by have := HB2.out.size; omega))
  obtain ⟨h4', L, hi, hh⟩ := hh3
  have HH3 : Hid (w3.heap[w.heap.size]? = some (.cells (hc (hs kk (bt (t ++ str (padL n))) v0 ((t ++ str (padL n)).size / 64)).list (L.map (Value.int .u8) ++ [.int .i64 (t ++ str (padL n)).size])) 144 (0, 0))) := hh
  clear hk3 hi hh
  go_wp2_with fail
  refine (text w.heap.size _ _ _ _ (hs_ok kk _ v0 HO.out _) HH3).mono ?_
  rintro e w4 ⟨rfl, hb4⟩
  have HB4 : Hid (Below w.heap.size w w4) := HB3.out.trans (hb4.mono HB3.out.size)
  have HE : Hid (textF (hs kk (bt (t ++ str (padL n))) v0 ((t ++ str (padL n)).size / 64)) = shaF kk v0 t) := by
    show _ = _
    have e1 : t ++ str (padL n) = padB t := by rw [HN.out]; rfl
    rw [e1, padB_size, Nat.mul_div_cancel_left _ (by omega)]
    rfl
  rw [HE.out]
  clear hb4
  go_wp2
  go_ret
  exact ⟨rfl, HB4.out⟩

theorem empty_append (s : ByteArray) : ByteArray.empty ++ s = s := by
  apply ext_bt
  · rw [ByteArray.size_append]; simp
  · intro k hk
    simp

theorem sum (kk : Nat → Int) (v0 : St) (n : Nat) (s : ByteArray) (w : World) (HO : Hid v0.ok) (hn : n ≤ 1125899906842624) (HN : Hid (n = s.size)) (HS : Hid (ST w v0)) (HK : Hid (KT w kk)) (h4 : 5 ≤ w.heap.size) :
    Calls Tryz.prog 52 #[.string s] w fun e w' => e = .returned (.string (shaF kk v0 s)) ∧ Below w.heap.size w w' := by
  go_enter Tryz.func52, Tryz.ntmps52
  go_wp2_with fail
  refine (new kk v0 _ HS h4).mono ?_
  rintro e w1 ⟨rfl, hb1, hk1⟩
  have hs1 : w.heap.size < w1.heap.size := hk1.lt
  have HB1 : Hid (Below w.heap.size w w1) := hb1
  have HK1 : Hid (HashAt kk v0 w1 w.heap.size ByteArray.empty) := hk1
  clear hb1 hk1
  go_wp2_with fail
  refine (write kk v0 w.heap.size 0 ByteArray.empty s _ HO (by have := HN.out; omega) (by omega) rfl HK1 (kt_below HK.out HB1.out HK.out.lt)).mono ?_
  rintro e w2 ⟨rfl, hk2, hh2⟩
  rw [empty_append] at hh2
  have HB2 : Hid (Below w.heap.size w w2) := HB1.out.trans (hk2.below (Nat.le_refl _) (by omega))
  have HH2 : Hid (HashAt kk v0 w2 w.heap.size s) := hh2
  clear hk2 hh2
  go_wp2_with fail
  refine (hsum kk v0 w.heap.size n s _ HO hn HN HH2 (kt_below HK.out HB2.out HK.out.lt)).mono ?_
  rintro e w3 ⟨rfl, hb3⟩
  have HB3 : Hid (Below w.heap.size w w3) := HB2.out.trans (hb3.mono HB2.out.size)
  clear hb3
  go_wp2
  go_ret
  exact ⟨rfl, HB3.out⟩

def wid (w : Int) : Nat := if w < 1 ∨ 32 < w then 32 else w.toNat
theorem wid_le (w : Int) : wid w ≤ 32 := by unfold wid; split <;> omega
theorem wid_pos (w : Int) : 1 ≤ wid w := by unfold wid; split <;> omega



end Go.Proofs.YthdkbjbhjfiaiaaGreatDoor.pi

namespace Go.Proofs.YthdkbjbhjfiaiaaGreatDoor.ft
open Go.ChangeShapes Go.WideShapes Go.ChangeAt Go.WideMaps Go.WideElems Go.RowKit
open Go.Proofs.YthdkbjbhjfiaiaaGreatDoor.pl

def kL : List Int := [1116352408, 1899447441, 3049323471, 3921009573, 961987163, 1508970993, 2453635748, 2870763221, 3624381080, 310598401, 607225278, 1426881987, 1925078388, 2162078206, 2614888103, 3248222580, 3835390401, 4022224774, 264347078, 604807628, 770255983, 1249150122, 1555081692, 1996064986, 2554220882, 2821834349, 2952996808, 3210313671, 3336571891, 3584528711, 113926993, 338241895, 666307205, 773529912, 1294757372, 1396182291, 1695183700, 1986661051, 2177026350, 2456956037, 2730485921, 2820302411, 3259730800, 3345764771, 3516065817, 3600352804, 4094571909, 275423344, 430227734, 506948616, 659060556, 883997877, 958139571, 1322822218, 1537002063, 1747873779, 1955562222, 2024104815, 2227730452, 2361852424, 2428436474, 2756734187, 3204031479, 3329325298]
def kF (j : Nat) : Int := kL.getD j 0
def v0 : St := ⟨1779033703, 3144134277, 1013904242, 2773480762, 1359893119, 2600822924, 528734635, 1541459225⟩


theorem own : ownKnob Tryz.prog.godebug = none := by kernel_rfl
theorem gS : Tryz.prog.globalNamed "annals/sha.starts" = some 2 := by kernel_rfl
theorem gR : Tryz.prog.globalNamed "annals/sha.rounds" = some 4 := by kernel_rfl
theorem tS : (Tryz.prog.globals[2]?).map (·.type) = some 142 := by kernel_rfl
theorem tR : (Tryz.prog.globals[4]?).map (·.type) = some 135 := by kernel_rfl
theorem cW : Tryz.prog.cellsOf 142 = 8 := by kernel_rfl
theorem c64 : Tryz.prog.cellsOf 135 = 64 := by kernel_rfl
theorem c1 : Tryz.prog.cellsOf 102 = 1 := by kernel_rfl

theorem v0_ok : v0.ok := by unfold St.ok v0; decide

def laid2 : List (String × DataW Unit) := [("annals/sha.starts", Rows.laid_annals_sha_starts), ("annals/sha.rounds", Rows.laid_annals_sha_rounds)]

theorem sData : (Rows.laid_annals_sha_starts : DataW Unit) = Lib.tabData .u32 v0.list := by kernel_rfl
theorem rData : (Rows.laid_annals_sha_rounds : DataW Unit) = Lib.tabData .u32 kL := by kernel_rfl

def St8 (W : World) (b : Nat) : Prop := ∀ j, j < 8 → W.cell? ⟨b, j, none⟩ = some (.int .u32 (v0.list.getD j 0))
def K64 (W : World) (b : Nat) : Prop := ∀ j, j < 64 → W.cell? ⟨b, j, none⟩ = some (.int .u32 (kF j))

theorem at8 {W : World} {b : Nat} {cs : Array Value} (e : cs.toList = v0.list.map (Value.int .u32)) (hc : ∀ j, W.cell? ⟨b, j, none⟩ = cs[j]?) : St8 W b := fun j hj => by
  have hl : v0.list.length = 8 := rfl
  rw [hc j, ← Array.getElem?_toList, e]
  simp [List.getD, List.getElem?_eq_getElem (show j < v0.list.length by omega)]
theorem at64 {W : World} {b : Nat} {cs : Array Value} (e : cs.toList = kL.map (Value.int .u32)) (hc : ∀ j, W.cell? ⟨b, j, none⟩ = cs[j]?) : K64 W b := fun j hj => by
  have hl : kL.length = 64 := rfl
  rw [hc j, ← Array.getElem?_toList, e]
  simp [kF, List.getD, List.getElem?_eq_getElem (show j < kL.length by omega)]

theorem of_laid2 {W : World} (h : laidMetH Tryz.prog laid2 W) : St8 W 2 ∧ K64 W 4 := by
  rw [MakeChecks.laidMetH_plain _ _ _ (by kernel_rfl)] at h
  obtain ⟨ps, ⟨g1, t1, cs1, f1, p1, q1, hg1, ht1, hv1, hd1, ⟨g0, t0, cs0, f0, p0, q0, hg0, ht0, hv0, hd0, _, _⟩, _⟩, _, _⟩ := h
  obtain rfl := Option.some.inj (gS.symm.trans hg1)
  obtain rfl := Option.some.inj (gR.symm.trans hg0)
  obtain rfl := Option.some.inj (tS.symm.trans ht1)
  obtain rfl := Option.some.inj (tR.symm.trans ht0)
  rw [sData] at hd1
  rw [rData] at hd0
  have e1 := Lib.cells_of_tab Tryz.underlying142 Tryz.underlying102 c1 cW hd1
  have e0 := Lib.cells_of_tab Tryz.underlying135 Tryz.underlying102 c1 c64 hd0
  exact ⟨at8 e1 (World.var?_cell hg1 hv1), at64 e0 (World.var?_cell hg0 hv0)⟩

theorem door_met2 (os : Os) (args : Array Value) : laidMetH Tryz.prog laid2 ((World.doorLaid Tryz.prog 400 os).forCall (fun _ _ => 0) ⟨#[], args, []⟩).memory :=
  laidMetH_of_parts3 (fuel := 8) (laidMet_of_run' 8 (by kernel_rfl) (by kernel_rfl)) (by kernel_rfl) (by kernel_rfl)

end Go.Proofs.YthdkbjbhjfiaiaaGreatDoor.ft

namespace Go.Proofs.YthdkbjbhjfiaiaaGreatDoor.fu
open Go.ChangeShapes Go.WideShapes Go.ChangeAt Go.WideMaps Go.WideElems Go.RowKit
open Go.Proofs.YthdkbjbhjfiaiaaGreatDoor.pl Go.Proofs.YthdkbjbhjfiaiaaGreatDoor.ft

theorem gF : Tryz.prog.globalNamed "annals/annalsref2.first" = some 0 := by kernel_rfl
theorem gT : Tryz.prog.globalNamed "annals/annalsref2.table" = some 1 := by kernel_rfl
theorem tF : (Tryz.prog.globals[0]?).map (·.type) = some 103 := by kernel_rfl
theorem tT : (Tryz.prog.globals[1]?).map (·.type) = some 135 := by kernel_rfl
theorem c8 : Tryz.prog.cellsOf 103 = 8 := by kernel_rfl

def laid4 : List (String × DataW Unit) := [("annals/annalsref2.first", Rows.laid_annals_annalsref2_first), ("annals/annalsref2.table", Rows.laid_annals_annalsref2_table), ("annals/sha.starts", Rows.laid_annals_sha_starts), ("annals/sha.rounds", Rows.laid_annals_sha_rounds)]

theorem fData : (Rows.laid_annals_annalsref2_first : DataW Unit) = Lib.tabData .u32 v0.list := by kernel_rfl
theorem tData : (Rows.laid_annals_annalsref2_table : DataW Unit) = Lib.tabData .u32 kL := by kernel_rfl

theorem of_laid4 {W : World} (h : laidMetH Tryz.prog laid4 W) : St8 W 2 ∧ K64 W 4 ∧ St8 W 0 ∧ K64 W 1 := by
  rw [MakeChecks.laidMetH_plain _ _ _ (by kernel_rfl)] at h
  obtain ⟨ps, ⟨g3, t3, cs3, f3, p3, q3, hg3, ht3, hv3, hd3, ⟨g2, t2, cs2, f2, p2, q2, hg2, ht2, hv2, hd2, ⟨g1, t1, cs1, f1, p1, q1, hg1, ht1, hv1, hd1, ⟨g0, t0, cs0, f0, p0, q0, hg0, ht0, hv0, hd0, _, _⟩, _⟩, _⟩, _⟩, _, _⟩ := h
  obtain rfl := Option.some.inj (gF.symm.trans hg3)
  obtain rfl := Option.some.inj (gT.symm.trans hg2)
  obtain rfl := Option.some.inj (gS.symm.trans hg1)
  obtain rfl := Option.some.inj (gR.symm.trans hg0)
  obtain rfl := Option.some.inj (tF.symm.trans ht3)
  obtain rfl := Option.some.inj (tT.symm.trans ht2)
  obtain rfl := Option.some.inj (tS.symm.trans ht1)
  obtain rfl := Option.some.inj (tR.symm.trans ht0)
  rw [fData] at hd3
  rw [tData] at hd2
  rw [sData] at hd1
  rw [rData] at hd0
  have e3 := Lib.cells_of_tab Tryz.underlying103 Tryz.underlying102 c1 c8 hd3
  have e2 := Lib.cells_of_tab Tryz.underlying135 Tryz.underlying102 c1 c64 hd2
  have e1 := Lib.cells_of_tab Tryz.underlying142 Tryz.underlying102 c1 cW hd1
  have e0 := Lib.cells_of_tab Tryz.underlying135 Tryz.underlying102 c1 c64 hd0
  exact ⟨at8 e1 (World.var?_cell hg1 hv1), at64 e0 (World.var?_cell hg0 hv0), at8 e3 (World.var?_cell hg3 hv3), at64 e2 (World.var?_cell hg2 hv2)⟩

theorem door_met4 (os : Os) (args : Array Value) : laidMetH Tryz.prog laid4 ((World.doorLaid Tryz.prog 400 os).forCall (fun _ _ => 0) ⟨#[], args, []⟩).memory :=
  laidMetH_of_parts3 (fuel := 8) (laidMet_of_run' 8 (by kernel_rfl) (by kernel_rfl)) (by kernel_rfl) (by kernel_rfl)
end Go.Proofs.YthdkbjbhjfiaiaaGreatDoor.fu

namespace Go.Proofs.YthdkbjbhjfiaiaaGreatDoor.pj
open Go.RowKit Go.PlainAid
open Go.Proofs.YthdkbjbhjfiaiaaGreatDoor.pl Go.Proofs.YthdkbjbhjfiaiaaGreatDoor.pa Go.Proofs.YthdkbjbhjfiaiaaGreatDoor.pb Go.Proofs.YthdkbjbhjfiaiaaGreatDoor.pc Go.Proofs.YthdkbjbhjfiaiaaGreatDoor.pd Go.Proofs.YthdkbjbhjfiaiaaGreatDoor.pe Go.Proofs.YthdkbjbhjfiaiaaGreatDoor.pf Go.Proofs.YthdkbjbhjfiaiaaGreatDoor.pg Go.Proofs.YthdkbjbhjfiaiaaGreatDoor.ph Go.Proofs.YthdkbjbhjfiaiaaGreatDoor.pi Go.Proofs.YthdkbjbhjfiaiaaGreatDoor.ft
set_option linter.unusedVariables false
set_option maxRecDepth 4000

def sha (s : ByteArray) : ByteArray := shaF kF v0 s
theorem sha_size (s : ByteArray) : (sha s).size = 32 := shaF_size _ _ _

-- the two tables of package sha
structure Tab (w : World) : Prop where
  st : ST w v0
  kt : KT w kF
theorem Tab.of {w : World} (h : St8 w 2 ∧ K64 w 4) : Tab w := ⟨h.1, h.2⟩
theorem Tab.big {w : World} (h : Tab w) : 5 ≤ w.heap.size := h.kt.lt
theorem Tab.below {w w' : World} {B : Nat} (h : Tab w) (b : Below B w w') (hB : 5 ≤ B) : Tab w' := ⟨st_below h.st b (by omega), kt_below h.kt b (by omega)⟩
theorem Tab.down {w w' : World} (h : Tab w) (b : Below w.heap.size w w') : Tab w' := h.below b h.big
theorem Tab.keeps {w w' : World} {k : Nat} (h : Tab w) (b : Keeps k w w') (hk : 5 ≤ k) : Tab w' := ⟨st_keep h.st b hk, h.kt.keep b hk⟩
abbrev HA (w : World) (h : Nat) (t : ByteArray) : Prop := HashAt kF v0 w h t

theorem ok0 : Hid v0.ok := v0_ok
theorem Sum (s : ByteArray) (w : World) (hs : s.size ≤ 1125899906842624) (T : Hid (Tab w)) :
    Calls Tryz.prog 52 #[.string s] w fun e w' => e = .returned (.string (sha s)) ∧ Below w.heap.size w w' := sum kF v0 s.size s w ok0 hs rfl T.out.st T.out.kt T.out.big


end Go.Proofs.YthdkbjbhjfiaiaaGreatDoor.pj

namespace Go.Proofs.YthdkbjbhjfiaiaaGreatDoor.rf
open Go.RowKit Go.PlainAid
open Go.Proofs.YthdkbjbhjfiaiaaGreatDoor.pl Go.Proofs.YthdkbjbhjfiaiaaGreatDoor.pc Go.Proofs.YthdkbjbhjfiaiaaGreatDoor.ph Go.Proofs.YthdkbjbhjfiaiaaGreatDoor.pi Go.Proofs.YthdkbjbhjfiaiaaGreatDoor.ft Go.Proofs.YthdkbjbhjfiaiaaGreatDoor.pj Go.Proofs.YthdkbjbhjfiaiaaGreatDoor.re
set_option linter.unusedVariables false
set_option maxRecDepth 4000

structure Tab4 (w : World) : Prop where
  t : Tab w
  ft : FT w v0
  tt : TT w kF
theorem Tab4.of {w : World} (h : St8 w 2 ∧ K64 w 4 ∧ St8 w 0 ∧ K64 w 1) : Tab4 w := ⟨⟨h.1, h.2.1⟩, h.2.2.1, h.2.2.2⟩
theorem Tab4.big {w : World} (h : Tab4 w) : 5 ≤ w.heap.size := by have h1 := tt_lt h.tt; have h2 := h.t.big; omega
theorem Tab4.below {w w' : World} {B : Nat} (h : Tab4 w) (b : Below B w w') (hB : 5 ≤ B) : Tab4 w' := ⟨h.t.below b (by omega), ft_below h.ft b (by omega), tt_below h.tt b (by omega)⟩
theorem Tab4.down {w w' : World} (h : Tab4 w) (b : Below w.heap.size w w') : Tab4 w' := h.below b h.big

theorem RSum (s : ByteArray) (w : World) (hs : s.size ≤ 140737488352256) (T : Tab4 w) :
    Calls Tryz.prog 32 #[.string s] w fun e w' => e = .returned (.string (sha s)) ∧ Below w.heap.size w w' := rsum kF v0 s w v0_ok hs T.ft T.tt

end Go.Proofs.YthdkbjbhjfiaiaaGreatDoor.rf
