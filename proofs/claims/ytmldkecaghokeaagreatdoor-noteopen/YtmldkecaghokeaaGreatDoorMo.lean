import Derived.Test.YtmldkecaghokeaaGreatDoorPj
namespace Go.Proofs.YtmldkecaghokeaaGreatDoor.mo
open Go.RowKit Go.PlainAid
open Go.Proofs.YtmldkecaghokeaaGreatDoor.pl Go.Proofs.YtmldkecaghokeaaGreatDoor.pc Go.Proofs.YtmldkecaghokeaaGreatDoor.pf Go.Proofs.YtmldkecaghokeaaGreatDoor.pg Go.Proofs.YtmldkecaghokeaaGreatDoor.ph Go.Proofs.YtmldkecaghokeaaGreatDoor.pi Go.Proofs.YtmldkecaghokeaaGreatDoor.ft Go.Proofs.YtmldkecaghokeaaGreatDoor.pj
set_option linter.unusedVariables false
set_option maxRecDepth 4000

def lenV : Value → Nat | .slice _ n _ => n | _ => 0
-- the key as a block, each byte xored
def keyS (key : ByteArray) : ByteArray := if 64 < key.size then sha key else key
theorem keyS_size (key : ByteArray) : (keyS key).size ≤ 64 := by
  unfold keyS
  split
  · rw [sha_size]; omega
  · omega
def kbt (k : ByteArray) (j : Nat) : Int := if j < k.size then bt k j else 0
def keyL (k : ByteArray) (x : Int) (n : Nat) : List Int := (List.range n).map fun j => bits .xor .u8 (kbt k j) x
theorem keyL_length (k : ByteArray) (x : Int) (n : Nat) : (keyL k x n).length = n := by simp [keyL]
theorem keyL_succ (k : ByteArray) (x : Int) (n : Nat) : keyL k x (n + 1) = keyL k x n ++ [bits .xor .u8 (kbt k n) x] := by
  unfold keyL; rw [List.range_succ, List.map_append]; rfl
def keyedF (key : ByteArray) (x : Int) : ByteArray := str (keyL (keyS key) x 64)
theorem keyedF_size (key : ByteArray) (x : Int) : (keyedF key x).size = 64 := by rw [keyedF, str_size, keyL_length]
-- the code
def macF (key msg : ByteArray) : ByteArray := sha (keyedF key 92 ++ sha (keyedF key 54 ++ msg))
theorem macF_size (key msg : ByteArray) : (macF key msg).size = 32 := sha_size _
-- the chain
def lastF (key label : ByteArray) : Nat → ByteArray
  | 0 => ⟨#[]⟩
  | i + 1 => macF key (lastF key label i ++ label ++ str [((i + 1 : Nat) : Int)])
def outF (key label : ByteArray) : Nat → ByteArray
  | 0 => ⟨#[]⟩
  | i + 1 => outF key label i ++ lastF key label (i + 1)
theorem lastF_size (key label : ByteArray) (i : Nat) : (lastF key label i).size ≤ 32 := by
  cases i with
  | zero => show 0 ≤ 32; omega
  | succ i => rw [lastF, macF_size]; omega
theorem lastF_size' (key label : ByteArray) (i : Nat) : (lastF key label (i + 1)).size = 32 := by rw [lastF, macF_size]
theorem outF_size (key label : ByteArray) (i : Nat) : (outF key label i).size = 32 * i := by
  induction i with
  | zero => rfl
  | succ i ih => rw [outF, ByteArray.size_append, ih, lastF_size']; omega

theorem one_new (W : World) (u : Value) (t : TypeId) : (W.alloc (.cells #[u] t)).cell? ⟨W.heap.size, 0, none⟩ = some u := by
  rw [World.cell?_alloc_at _ _ _ _ rfl]; rfl
theorem one_new' (W : World) (a : Value) (t : TypeId) : ∀ j u, [a][j]? = some u → (W.alloc (.cells #[a] t)).cell? ((⟨W.heap.size, 0, none⟩ : Addr).add j) = some u := by
  intro j u hj
  rw [Addr.add_mid, Nat.zero_add, World.cell?_alloc_at _ _ _ _ rfl]
  simpa using hj

def derF (key label : ByteArray) (N : Nat) : ByteArray := (outF key label ((N + 31) / 32)).extract 0 N
theorem derF_size (key label : ByteArray) (N : Nat) : (derF key label N).size = N := by
  rw [derF, ByteArray.size_extract, outF_size]; omega
theorem derF_bt (key label : ByteArray) (N j : Nat) (h : j < N) : bt (derF key label N) j = bt (outF key label ((N + 31) / 32)) j := by
  rw [derF, bt_extract _ _ _ _ (by omega) (by rw [outF_size]; omega), Nat.zero_add]
end Go.Proofs.YtmldkecaghokeaaGreatDoor.mo
