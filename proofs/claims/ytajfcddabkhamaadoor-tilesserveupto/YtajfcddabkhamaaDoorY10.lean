import Derived.Test.YtajfcddabkhamaaDoorY9
import Derived.BigQuiet
import Derived.Deep.DeepCutAuto
import Derived.Deep.RegionHeld3
import Derived.Shelf.Strings.Builder1
import Derived.Shelf.Strings.BuilderF
import Derived.Shelf.Strings.BuilderK
import Derived.Shelf.Pu.Clone
import Derived.Test.YtajfcddabkhamaaDoorProg
import Derived.Laws.AppendOwnNone
import Derived.Lib.SliceRun
import Derived.Handy
import Derived.Test.YtajfcddabkhamaaDoorY5
import Derived.Deep.AppendLies
import Derived.RowKit3
import Derived.Test.YtajfcddabkhamaaDoorY4
import Derived.Lib.MinMax
import Derived.WalkLawsBesides
namespace Go.Proofs.YtajfcddabkhamaaDoor.teb
open Go.RowKit Go.PlainAid
open Go.Proofs.YtajfcddabkhamaaDoor.ca Go.Proofs.YtajfcddabkhamaaDoor.cb Go.Proofs.YtajfcddabkhamaaDoor.cp Go.Proofs.YtajfcddabkhamaaDoor.ga Go.Proofs.YtajfcddabkhamaaDoor.kp Go.Proofs.YtajfcddabkhamaaDoor.tna Go.Proofs.YtajfcddabkhamaaDoor.tnb Go.Proofs.YtajfcddabkhamaaDoor.tnc Go.Proofs.YtajfcddabkhamaaDoor.tnf Go.Proofs.YtajfcddabkhamaaDoor.tng Go.Proofs.YtajfcddabkhamaaDoor.tea
set_option linter.unusedVariables false

-- a reader's state in memory; behind it stands what the reader makes
def rdL (b : ByteArray) (p : Nat) (e : Int) (rest : List Value) : List Value := .string b :: .int .i64 p :: .int .i64 e :: rest
def Rd (T g : Nat) (b : ByteArray) (p : Nat) (e : Int) (rest : List Value) (w : World) : Prop := w.heap[g]? = some (.cells (rdL b p e rest).toArray T (0, 0))
theorem Rd.lt {T g : Nat} {b : ByteArray} {p : Nat} {e : Int} {rest : List Value} {w : World} (h : Rd T g b p e rest w) : g < w.heap.size := (Array.getElem?_eq_some_iff.1 h).1
theorem Rd.keep {T g : Nat} {b : ByteArray} {p : Nat} {e : Int} {rest : List Value} {w w' : World} {A : Nat → Prop} (h : Rd T g b p e rest w) (k : Kp A w w') (hn : ¬ A g) : Rd T g b p e rest w' := (k.block _ h.lt hn).trans h
theorem Rd.b {T g : Nat} {b : ByteArray} {p : Nat} {e : Int} {rest : List Value} {w : World} (h : Rd T g b p e rest w) : w.cell? ⟨g, 0, none⟩ = some (.string b) := cell_of_row _ _ 0 _ _ _ h
theorem Rd.p {T g : Nat} {b : ByteArray} {p : Nat} {e : Int} {rest : List Value} {w : World} (h : Rd T g b p e rest w) : w.cell? ⟨g, 1, none⟩ = some (.int .i64 p) := cell_of_row _ _ 1 _ _ _ h
theorem Rd.e {T g : Nat} {b : ByteArray} {p : Nat} {e : Int} {rest : List Value} {w : World} (h : Rd T g b p e rest w) : w.cell? ⟨g, 2, none⟩ = some (.int .i64 e) := cell_of_row _ _ 2 _ _ _ h
theorem Rd.setp {T g : Nat} {b : ByteArray} {p : Nat} {e : Int} {rest : List Value} {w : World} (h : Rd T g b p e rest w) (q : Nat) : Rd T g b q e rest (w.setCell ⟨g, 1, none⟩ (.int .i64 q)) := heap_setCell_same _ _ 1 _ _ _ h
theorem Rd.sete {T g : Nat} {b : ByteArray} {p : Nat} {e : Int} {rest : List Value} {w : World} (h : Rd T g b p e rest w) (f : Int) : Rd T g b p f rest (w.setCell ⟨g, 2, none⟩ (.int .i64 f)) := heap_setCell_same _ _ 2 _ _ _ h

theorem ret_v {a b : Value} (h : a = b) : Ending.returned a = .returned b := by rw [h]

theorem Rd.dN {T g : Nat} {b : ByteArray} {p : Nat} {e : Int} {rest : List Value} {w : World} (h : Rd T g b p e rest w) (n : Nat) : Rd T g b p e rest (w.drewN n) := h.keep (A := fun _ => False) (Kp.of_below (below_dN (Below.refl _ _) n)) (fun e => e)
theorem Kp.dN {A : Nat → Prop} (w : World) (n : Nat) : Kp A w (w.drewN n) := Kp.of_below (below_dN (Below.refl _ _) n)
end Go.Proofs.YtajfcddabkhamaaDoor.teb

namespace Go.Proofs.YtajfcddabkhamaaDoor.tsb
open Go.Shelf
set_option linter.unusedVariables false
def ren : Go.Shelf.Ren := ⟨fun | 166 => 36 | 240 => 45 | 276 => 52 | 169 => 38 | n => n, fun | 0 => 0 | 3 => 3 | 4 => 4 | 5 => 5 | 9 => 9 | 20 => 20 | 37 => 65 | 70 => 69 | 72 => 71 | 75 => 73 | 76 => 74 | 80 => 78 | 164 => 89 | 127 => 84 | n => n, fun | n => n⟩
theorem lays166 : Go.Proofs.Lays.n166 Tryd.prog ren := {
  mixed := by kernel_rfl
  f166 := Tryd.func36.trans (congrArg some (by kernel_rfl))
  f240 := Tryd.func45.trans (congrArg some (by kernel_rfl))
  f276 := Tryd.func52.trans (congrArg some (by kernel_rfl))
  t0 := Tryd.underlying0
  a0 := Tryd.isAgg0
  z0 := Tryd.sizeOf0
  v0 := Tryd.zeroValue0
  t3 := Tryd.underlying3
  a3 := Tryd.isAgg3
  z3 := Tryd.sizeOf3
  v3 := Tryd.zeroValue3
  t4 := Tryd.underlying4
  a4 := Tryd.isAgg4
  z4 := Tryd.sizeOf4
  v4 := Tryd.zeroValue4
  t9 := Tryd.underlying9
  a9 := Tryd.isAgg9
  z9 := Tryd.sizeOf9
  v9 := Tryd.zeroValue9
  t20 := Tryd.underlying20
  a20 := Tryd.isAgg20
  z20 := Tryd.sizeOf20
  v20 := Tryd.zeroValue20
  t37 := Tryd.underlying65
  a37 := Tryd.isAgg65
  z37 := Tryd.sizeOf65
  v37 := Tryd.zeroValue65
  t70 := Tryd.underlying69
  a70 := Tryd.isAgg69
  z70 := Tryd.sizeOf69
  v70 := Tryd.zeroValue69
  t72 := Tryd.underlying71
  a72 := Tryd.isAgg71
  z72 := Tryd.sizeOf71
  v72 := Tryd.zeroValue71
  t75 := Tryd.underlying73
  a75 := Tryd.isAgg73
  z75 := Tryd.sizeOf73
  v75 := Tryd.zeroValue73
  t164 := Tryd.underlying89
  a164 := Tryd.isAgg89
  z164 := Tryd.sizeOf89
  v164 := Tryd.zeroValue89 }
theorem lays169 : Go.Proofs.Lays.n169 Tryd.prog ren := {
  mixed := by kernel_rfl
  f169 := Tryd.func38.trans (congrArg some (by kernel_rfl))
  t0 := Tryd.underlying0
  a0 := Tryd.isAgg0
  z0 := Tryd.sizeOf0
  v0 := Tryd.zeroValue0
  t3 := Tryd.underlying3
  a3 := Tryd.isAgg3
  z3 := Tryd.sizeOf3
  v3 := Tryd.zeroValue3
  t9 := Tryd.underlying9
  a9 := Tryd.isAgg9
  z9 := Tryd.sizeOf9
  v9 := Tryd.zeroValue9
  t37 := Tryd.underlying65
  a37 := Tryd.isAgg65
  z37 := Tryd.sizeOf65
  v37 := Tryd.zeroValue65
  t70 := Tryd.underlying69
  a70 := Tryd.isAgg69
  z70 := Tryd.sizeOf69
  v70 := Tryd.zeroValue69
  t72 := Tryd.underlying71
  a72 := Tryd.isAgg71
  z72 := Tryd.sizeOf71
  v72 := Tryd.zeroValue71
  t127 := Tryd.underlying84
  a127 := Tryd.isAgg84
  z127 := Tryd.sizeOf84
  v127 := Tryd.zeroValue84 }
theorem extra : Builder.Extra Tryd.prog ren := {
  sizeBuilder := by kernel_rfl
  liesBuilder := by kernel_rfl
  t5 := Tryd.underlying5
  a5 := Tryd.isAgg5
  z5 := Tryd.sizeOf5
  v5 := Tryd.zeroValue5
  infoByte := by kernel_rfl
  cellsByte := by kernel_rfl
  sizeByte := by kernel_rfl
  neB5 := by decide }
end Go.Proofs.YtajfcddabkhamaaDoor.tsb

namespace Go.Proofs.YtajfcddabkhamaaDoor.tec
open Go.RowKit Go.PlainAid Go.Shelf
open Go.Proofs.YtajfcddabkhamaaDoor.ca Go.Proofs.YtajfcddabkhamaaDoor.cb Go.Proofs.YtajfcddabkhamaaDoor.cp Go.Proofs.YtajfcddabkhamaaDoor.ga Go.Proofs.YtajfcddabkhamaaDoor.kp Go.Proofs.YtajfcddabkhamaaDoor.tna Go.Proofs.YtajfcddabkhamaaDoor.tnb Go.Proofs.YtajfcddabkhamaaDoor.tnc Go.Proofs.YtajfcddabkhamaaDoor.tnf Go.Proofs.YtajfcddabkhamaaDoor.tng Go.Proofs.YtajfcddabkhamaaDoor.tea Go.Proofs.YtajfcddabkhamaaDoor.teb Go.Proofs.YtajfcddabkhamaaDoor.tsb
set_option linter.unusedVariables false

theorem below_dr {B : Nat} {w w' : World} (h : Below B w w') : Below B w w'.drew := below_dN h 1
end Go.Proofs.YtajfcddabkhamaaDoor.tec

namespace Go.Proofs.YtajfcddabkhamaaDoor.tbn
open Go.RowKit Go.PlainAid
open Go.Proofs.YtajfcddabkhamaaDoor.ca Go.Proofs.YtajfcddabkhamaaDoor.cp Go.Proofs.YtajfcddabkhamaaDoor.ka
set_option linter.unusedVariables false

theorem getD_at (xs : List ByteArray) (k : Nat) (h : k < xs.length) : xs.getD k ByteArray.empty = xs[k] := by
  rw [List.getD_eq_getElem?_getD, List.getElem?_eq_getElem h]; rfl
theorem lists_eq {xs ys : List ByteArray} (hl : xs.length = ys.length) (h : ∀ j, j < xs.length → xs.getD j ByteArray.empty = ys.getD j ByteArray.empty) : xs = ys := by
  apply List.ext_getElem hl
  intro j h1 h2
  have := h j h1
  rwa [getD_at _ _ h1, getD_at _ _ h2] at this
theorem beqL (a b : ByteArray) : (a.toList == b.toList) = decide (a = b) := by
  by_cases h : a = b
  · subst h; simp
  · rw [decide_eq_false h, beq_eq_false_iff_ne, ByteArray.toList_eq, ByteArray.toList_eq]
    intro e
    exact h (ByteArray.ext (Array.ext' e))
theorem beqLit (a : ByteArray) (l : List UInt8) : (a.toList == l) = decide (a = ⟨l.toArray⟩) := by
  rw [← beqL, ByteArray.toList_eq, ByteArray.toList_eq]
end Go.Proofs.YtajfcddabkhamaaDoor.tbn

namespace Go.Proofs.YtajfcddabkhamaaDoor.ted
open Go.RowKit Go.PlainAid Go.Shelf
open Go.Proofs.YtajfcddabkhamaaDoor.ca Go.Proofs.YtajfcddabkhamaaDoor.cb Go.Proofs.YtajfcddabkhamaaDoor.cp Go.Proofs.YtajfcddabkhamaaDoor.ga Go.Proofs.YtajfcddabkhamaaDoor.kp Go.Proofs.YtajfcddabkhamaaDoor.tna Go.Proofs.YtajfcddabkhamaaDoor.tnb Go.Proofs.YtajfcddabkhamaaDoor.tnc Go.Proofs.YtajfcddabkhamaaDoor.tnf Go.Proofs.YtajfcddabkhamaaDoor.tng Go.Proofs.YtajfcddabkhamaaDoor.tea Go.Proofs.YtajfcddabkhamaaDoor.teb Go.Proofs.YtajfcddabkhamaaDoor.tec Go.Proofs.YtajfcddabkhamaaDoor.ka Go.Proofs.YtajfcddabkhamaaDoor.tbn
set_option linter.unusedVariables false

theorem isWidthC (x : Int) (w : World) : Calls Tryd.prog 35 #[.int .i64 x] w fun e w' => e = .returned (.bool (decide (1 ≤ x ∧ x ≤ 32))) ∧ w' = w := by
  by_cases h1 : 1 ≤ x
  · by_cases h2 : x ≤ 32
    · rw [decide_eq_true (show 1 ≤ x ∧ x ≤ 32 from ⟨h1, h2⟩)]
      go_enter Tryd.func35, Tryd.ntmps35
      go_wp2
      go_ret
      exact ⟨rfl, rfl⟩
    · rw [decide_eq_false (show ¬ (1 ≤ x ∧ x ≤ 32) from fun h => h2 h.2)]
      go_enter Tryd.func35, Tryd.ntmps35
      go_wp2
      go_ret
      exact ⟨rfl, rfl⟩
  · rw [decide_eq_false (show ¬ (1 ≤ x ∧ x ≤ 32) from fun h => h1 h.1)]
    go_enter Tryd.func35, Tryd.ntmps35
    go_wp2
    go_ret
    exact ⟨rfl, rfl⟩

end Go.Proofs.YtajfcddabkhamaaDoor.ted

namespace Go.Proofs.YtajfcddabkhamaaDoor.tee
open Go.RowKit Go.PlainAid Go.Shelf
open Go.Proofs.YtajfcddabkhamaaDoor.ca Go.Proofs.YtajfcddabkhamaaDoor.cb Go.Proofs.YtajfcddabkhamaaDoor.cp Go.Proofs.YtajfcddabkhamaaDoor.ga Go.Proofs.YtajfcddabkhamaaDoor.kp Go.Proofs.YtajfcddabkhamaaDoor.tna Go.Proofs.YtajfcddabkhamaaDoor.tnb Go.Proofs.YtajfcddabkhamaaDoor.tnc Go.Proofs.YtajfcddabkhamaaDoor.tnf Go.Proofs.YtajfcddabkhamaaDoor.tng Go.Proofs.YtajfcddabkhamaaDoor.tea Go.Proofs.YtajfcddabkhamaaDoor.teb Go.Proofs.YtajfcddabkhamaaDoor.tec Go.Proofs.YtajfcddabkhamaaDoor.ted Go.Proofs.YtajfcddabkhamaaDoor.ka Go.Proofs.YtajfcddabkhamaaDoor.tbn
set_option linter.unusedVariables false

theorem own_kp {A : Nat → Prop} {w w' : World} {B t s n : Nat} {v : Value} {xs : List Value} (h : w.ownsRow B t s v n xs) (k : Kp A w w') (hA : ∀ j, A j → j < B) : w'.ownsRow B t s v n xs := by
  refine ⟨h.1, ?_⟩
  rcases h.2 with h2 | ⟨g, cap, cur, h1, h2, h3, h4⟩
  · exact .inl h2
  · exact .inr ⟨g, cap, cur, h1, h2, (k.block g (Array.getElem?_eq_some_iff.1 h3).1 (fun a => by have := hA g a; omega)).trans h3, h4⟩
theorem kp_below {A : Nat → Prop} {w w1 w2 : World} (k : Kp A w w1) (b : Below w.heap.size w1 w2) : Kp A w w2 :=
  ⟨b.os.trans k.os, b.tape.trans k.tape, b.output.trans k.output, Nat.le_trans k.size b.size, fun j hj hn => (b.block j hj).trans (k.block j hj hn)⟩
theorem Rd.below {T g B : Nat} {b : ByteArray} {p : Nat} {e : Int} {rest : List Value} {w w' : World} (h : Rd T g b p e rest w) (k : Below B w w') (hg : g < B) : Rd T g b p e rest w' := (k.block _ hg).trans h
def lenV : Value → Nat
  | .slice _ n _ => n
  | _ => 0
theorem own_len {w : World} {B t s n : Nat} {v : Value} {xs : List Value} (h : w.ownsRow B t s v n xs) : lenV v = n := by
  rcases h.2 with ⟨rfl, rfl⟩ | ⟨g, cap, cur, rfl, _⟩
  · rfl
  · rfl
theorem hashesS_next (b : ByteArray) (w n p : Nat) : hashesS b w (n + 1) p 0 = ((takeS b w p 0).1 :: (hashesS b w n (takeS b w p 0).2.1 (takeS b w p 0).2.2).1, (hashesS b w n (takeS b w p 0).2.1 (takeS b w p 0).2.2).2) := by
  rw [hashesS, if_neg (by omega)]
-- what the reader of hashes has made so far
structure HI (T g : Nat) (b : ByteArray) (wd n p : Nat) (e : Int) (rest : List Value) (w : World) (v : Value) (xs : List ByteArray) (q : Nat) (z : Int) (wr : World) : Prop where
  rd : Rd T g b q z rest wr
  ok : Ok b q z
  kp : Kp (fun k => k = g) w wr
  own : wr.ownsRow w.heap.size 9 1 v xs.length (xs.map Value.string)
  len : xs.length ≤ n
  eq : hashesS b wd n p e = (xs ++ (hashesS b wd (n - xs.length) q z).1, (hashesS b wd (n - xs.length) q z).2)
theorem HI.step {T g : Nat} {b : ByteArray} {wd n p : Nat} {e : Int} {rest : List Value} {w wr w1 w3 : World} {v v' : Value} {xs : List ByteArray} {q : Nat}
    (h : HI T g b wd n p e rest w v xs q 0 wr) (hg : g < w.heap.size) (hlt : xs.length < n) (k1 : Kp (fun k => k = g) wr w1) (r1 : Rd T g b (takeS b wd q 0).2.1 (takeS b wd q 0).2.2 rest w1) (b3 : Below w.heap.size w1 w3)
    (o3 : w3.ownsRow w.heap.size 9 1 v' (xs.length + 1) (xs.map Value.string ++ [.string (takeS b wd q 0).1])) : HI T g b wd n p e rest w v' (xs ++ [(takeS b wd q 0).1]) (takeS b wd q 0).2.1 (takeS b wd q 0).2.2 w3 := by
  refine ⟨Rd.below r1 b3 hg, take_ok b wd q 0 h.ok, kp_below (h.kp.trans k1) b3, ?_, by rw [List.length_append]; simp; omega, ?_⟩
  · rw [List.length_append, List.map_append]; exact o3
  · rw [h.eq, List.length_append, show n - xs.length = (n - (xs.length + 1)) + 1 by omega, hashesS_next]
    simp
end Go.Proofs.YtajfcddabkhamaaDoor.tee

namespace Go.Proofs.YtajfcddabkhamaaDoor.tne
open Go.RowKit Go.PlainAid
open Go.Proofs.YtajfcddabkhamaaDoor.tna Go.Proofs.YtajfcddabkhamaaDoor.tnb Go.Proofs.YtajfcddabkhamaaDoor.xb Go.Proofs.YtajfcddabkhamaaDoor.tnc
set_option linter.unusedVariables false

set_option maxHeartbeats 800000 in
theorem pv_core (v : Int) (m l : Nat) (w : World) (h0 : 0 ≤ v) (h1 : v ≤ 18446744073709551615) (m1 : 1 ≤ m) (m2 : m ≤ 10) (hl : l ≤ 64)
    (HM : Hid (max 1 (((l : Int) + 6) / 7) = (m : Int)))
    (HC : Hid (∀ w, Calls Tryd.prog 46 #[.int .u64 v] w fun e w' => e = .returned (.int .i64 l) ∧ w' = w)) :
    Calls Tryd.prog 37 #[.int .u64 v] w fun e w' => e = .returned (.string (str (putL v m))) ∧ w' = w.alloc (.cells (row (putL v m)) 5) := by
  go_enter Tryd.func37, Tryd.ntmps37
  go_wp2_with fail
  refine (HC.out _).mono ?_
  rintro e w' ⟨rfl, rfl⟩
  have hmk := make_row m (by omega)
  have hm := HM.out
  go_wp2
  clear hm
  go_loopw [14] (fun i wr => ∃ k : Nat, k ≤ m ∧ i = .int .i64 k ∧ wr = w'.alloc (.cells (row (varL v m k)) 5)) (fun i _ => (m - intOf i).toNat)
  case atStart => exact ⟨0, by omega, rfl, by rw [varL_zero]⟩
  case round =>
    obtain ⟨k, hk, rfl, rfl⟩ := hrel
    have HL : Hid _ := varL_length v m k hk
    by_cases hlt : k < m
    · have hlt' : (k : Int) < m := by omega
      have hsz : k < (row (varL v m k)).size := by rw [row_size, HL.out]; omega
      have HB : Hid _ := or128 (v / 2 ^ (7 * k) % 256) (by omega) (by omega)
      have HG : Hid (v / 2 ^ (7 * k) % 256 % 128 + 128 = gB v k) := by show _ = _; rw [pow128, gB]; omega
      go_wp2
      go_roundw
      case rel => exact ⟨k + 1, by omega, by go_num, by rw [HB.out, HG.out, row_set, varL_set v m k hlt]⟩
      case measure => simp [intOf]; omega
    · have hlt' : ¬ (k : Int) < m := by omega
      have e : k = m := by omega
      subst e
      have hsz : k - 1 < (row (varL v k k)).size := by rw [row_size, HL.out]; omega
      have hix : ((k : Int) - 1).toNat = k - 1 := by omega
      have hget : (row (varL v k k))[k - 1]'hsz = .int .u8 (gB v (k - 1)) := by
        have h : (row (varL v k k))[k - 1]? = some (.int .u8 (gB v (k - 1))) := by rw [row_get, varL_last v k m1]; rfl
        exact (Array.getElem?_eq_some_iff.1 h).2
      have hg := gB_byte v (k - 1)
      have HA : Hid (bits .and .u8 (gB v (k - 1)) 127 = v / 128 ^ (k - 1) % 128) := by show _ = _; rw [and127 _ (by omega) (by omega), gB]; omega
      have HE : Hid ((row (varL v k k)).setIfInBounds (k - 1) (.int .u8 (bits .and .u8 (gB v (k - 1)) 127)) = row (putL v k)) := by
        show _ = _
        rw [HA.out, row_set, varL_put v k m1]
      have hcv := conv_row (putL v k) w' k (putL_length v k m1).symm
      rw [← HE.out] at hcv
      go_wp2
      go_ret
      exact ⟨rfl, by rw [HE.out]⟩

theorem pv_any (v : Int) (h0 : 0 ≤ v) (h1 : v ≤ 18446744073709551615) : ∃ m, Wants v m ∧
    ∀ w, Calls Tryd.prog 37 #[.int .u64 v] w fun e w' => e = .returned (.string (str (putL v m))) ∧ w' = w.alloc (.cells (row (putL v m)) 5) := by
  have hw := wants_len v h0 h1
  refine ⟨_, hw, fun w => ?_⟩
  have hl : Lib.bitLen v.toNat ≤ 64 := Lib.bitLenAux_le 64 v.toNat 64 (by omega)
  refine pv_core v _ (Lib.bitLen v.toNat) w h0 h1 hw.1 hw.2.1 hl ?_ (fun w => len_any v w h0 h1)
  show _ = _
  by_cases hv : v = 0
  · subst hv
    have e : Lib.bitLen (0 : Int).toNat = 0 := bitLen_zero
    rw [e]; decide
  · have h2 := (Go.Proofs.YtajfcddabkhamaaDoor.tnc.bitLen_spec v.toNat (by omega)).2 (by omega)
    rw [if_neg hv]
    omega
end Go.Proofs.YtajfcddabkhamaaDoor.tne

namespace Go.Proofs.YtajfcddabkhamaaDoor.mi
open Go.RowKit Go.PlainAid
open Go.Proofs.YtajfcddabkhamaaDoor.ca Go.Proofs.YtajfcddabkhamaaDoor.cp
set_option linter.unusedVariables false

-- a list of numbers in memory
def ReadsI (w : World) (v : Value) (xs : List Int) : Prop :=
  ∃ a cap, v = .slice a xs.length cap ∧ xs.length ≤ cap ∧ (xs.length = 0 ∨ ∃ b off, a = some ⟨b, off, none⟩ ∧ ∀ i, i < xs.length → w.cell? ⟨b, off + i, none⟩ = some (.int .i64 (xs.getD i 0)))
theorem ReadsI.keep {w w' : World} {v : Value} {xs : List Int} (h : ReadsI w v xs) (hb : ∀ p u, w.cell? p = some u → w'.cell? p = some u) : ReadsI w' v xs := by
  obtain ⟨a, cap, rfl, hc, h0 | ⟨b, off, rfl, hh⟩⟩ := h
  · exact ⟨a, cap, rfl, hc, .inl h0⟩
  · exact ⟨_, cap, rfl, hc, .inr ⟨b, off, rfl, fun i hi => hb _ _ (hh i hi)⟩⟩
theorem ReadsI.later {w w' : World} {v : Value} {xs : List Int} (h : ReadsI w v xs) (hb : Below w.heap.size w w') : ReadsI w' v xs :=
  h.keep fun p u hu => (hb.cell (World.block_lt_of_cell? _ _ hu)).trans hu
-- what is said of the places
def bad (xs : List Int) (n : Int) (k : Nat) : Int :=
  if xs.getD k 0 < 0 then 81 else if n ≤ xs.getD k 0 then 81 else if 0 < k ∧ xs.getD k 0 ≤ xs.getD (k - 1) 0 then 84 else 0
def scan (f : Nat → Int) : Nat → Nat → Int
  | 0, _ => 0
  | m + 1, k => if f k = 0 then scan f m (k + 1) else f k
def places (xs : List Int) (n : Int) : Int := if xs.length = 0 then 82 else if 1024 < xs.length then 83 else scan (bad xs n) xs.length 0
theorem scan_ok (f : Nat → Int) (m : Nat) : ∀ k, scan f m k = 0 → ∀ j, k ≤ j → j < k + m → f j = 0 := by
  induction m with
  | zero => intro k h j h1 h2; omega
  | succ m ih =>
    intro k h j h1 h2
    unfold scan at h
    split at h
    · rename_i h0
      rcases Nat.eq_or_lt_of_le h1 with e | e
      · rw [← e]; exact h0
      · exact ih (k + 1) h j (by omega) (by omega)
    · contradiction
theorem places_ok {xs : List Int} {n : Int} (h : places xs n = 0) : 1 ≤ xs.length ∧ xs.length ≤ 1024 ∧ (∀ j, j < xs.length → 0 ≤ xs.getD j 0 ∧ xs.getD j 0 < n) ∧ (∀ j, j + 1 < xs.length → xs.getD j 0 < xs.getD (j + 1) 0) := by
  unfold places at h
  split at h
  · omega
  · split at h
    · omega
    · have hs := scan_ok (bad xs n) xs.length 0 h
      refine ⟨by omega, by omega, fun j hj => ?_, fun j hj => ?_⟩
      · have := hs j (Nat.zero_le _) (by omega)
        unfold bad at this
        split at this
        · omega
        · split at this
          · omega
          · omega
      · have := hs (j + 1) (Nat.zero_le _) (by omega)
        unfold bad at this
        split at this
        · omega
        · split at this
          · omega
          · split at this
            · omega
            · rename_i g
              rw [Nat.add_sub_cancel] at g
              omega
theorem rise_lt {xs : List Int} (h : ∀ j, j + 1 < xs.length → xs.getD j 0 < xs.getD (j + 1) 0) (i d : Nat) (hd : i + d + 1 < xs.length) : xs.getD i 0 < xs.getD (i + d + 1) 0 := by
  induction d with
  | zero => exact h i hd
  | succ d ih =>
    have h1 := ih (by omega)
    have h2 := h (i + d + 1) hd
    exact Int.lt_trans h1 h2
end Go.Proofs.YtajfcddabkhamaaDoor.mi

namespace Go.Proofs.YtajfcddabkhamaaDoor.tef
open Go.RowKit Go.PlainAid Go.Shelf
open Go.Proofs.YtajfcddabkhamaaDoor.ca Go.Proofs.YtajfcddabkhamaaDoor.cb Go.Proofs.YtajfcddabkhamaaDoor.cp Go.Proofs.YtajfcddabkhamaaDoor.ga Go.Proofs.YtajfcddabkhamaaDoor.kp Go.Proofs.YtajfcddabkhamaaDoor.tna Go.Proofs.YtajfcddabkhamaaDoor.tnb Go.Proofs.YtajfcddabkhamaaDoor.tnc Go.Proofs.YtajfcddabkhamaaDoor.tne Go.Proofs.YtajfcddabkhamaaDoor.tea Go.Proofs.YtajfcddabkhamaaDoor.teb Go.Proofs.YtajfcddabkhamaaDoor.tec Go.Proofs.YtajfcddabkhamaaDoor.ted Go.Proofs.YtajfcddabkhamaaDoor.tee Go.Proofs.YtajfcddabkhamaaDoor.ka Go.Proofs.YtajfcddabkhamaaDoor.tbn Go.Proofs.YtajfcddabkhamaaDoor.mi Go.Proofs.YtajfcddabkhamaaDoor.tsb
set_option linter.unusedVariables false

theorem putVarC (v : Int) (w : World) (h0 : 0 ≤ v) (h1 : v ≤ 18446744073709551615) : Calls Tryd.prog 37 #[.int .u64 v] w fun e w' => e = .returned (.string (putB v)) ∧ Below w.heap.size w w' := by
  obtain ⟨m, hm, hc⟩ := pv_any v h0 h1
  refine (hc w).mono ?_
  rintro e w' ⟨rfl, rfl⟩
  rw [putB_of v m h0 h1 hm]
  exact ⟨rfl, (Below.refl _ _).alloc (Nat.le_refl _) _⟩
theorem bWS (B b : Nat) (l : List UInt8) (s : ByteArray) (w : World) (h : Lib.IsBuilder 71 5 B b (Lib.byteCells l) w) (hlen : l.length + s.size ≤ 140737488355328) (hB : B ≤ w.heap.size) :
    Calls Tryd.prog 36 #[.pointer (some ⟨b, 0, none⟩), .string s] w fun e w' => e = .returned (.tuple #[.int .i64 s.size, .nilIface]) ∧ Lib.IsBuilder 71 5 B b (Lib.byteCells (l ++ s.data.toList)) w' ∧ Below B w w' := by
  refine (Any.Builder_WriteString lays166 extra B b (Lib.byteCells l) s w h (by rw [Lib.byteCells_length]; exact hlen) hB).mono ?_
  rintro e w' ⟨rfl, h1, h2⟩
  refine ⟨rfl, ?_, h2⟩
  rw [Lib.byteCells_append]
  exact .inr h1
theorem bS (B b : Nat) (l : List UInt8) (w : World) (h : Lib.IsBuilder 71 5 B b (Lib.byteCells l) w) (hB : B ≤ w.heap.size) :
    Calls Tryd.prog 38 #[.pointer (some ⟨b, 0, none⟩)] w fun e w' => e = .returned (.string ⟨l.toArray⟩) ∧ Below B w w' :=
  Any.Builder_String_any lays169 extra B b l w h hB
theorem isB_later {T u B b : Nat} {l : List Value} {w w' : World} (h : Lib.IsBuilder T u B b l w) (k : Below w.heap.size w w') : Lib.IsBuilder T u B b l w' := by
  have key : ∀ p, Lib.BuilderAt T u B b p l w → Lib.BuilderAt T u B b p l w' := by
    rintro p ⟨h1, v, h2, h3, h4⟩
    exact ⟨h1, v, (k.block _ (Array.getElem?_eq_some_iff.1 h2).1).trans h2, own_kp h3 (A := fun _ => False) (Kp.of_below k) (fun _ e => e.elim), h4⟩
  exact h.imp (key _) (key _)
theorem numsB_next (l : List Int) (k : Nat) (h : k < l.length) : numsB (l.take (k + 1)) = numsB (l.take k) ++ (putB (l.getD k 0)).data.toList := by
  have e : l.take (k + 1) = l.take k ++ [l.getD k 0] := by
    rw [List.take_add_one, List.getElem?_eq_getElem h, List.getD_eq_getElem?_getD, List.getElem?_eq_getElem h]
    rfl
  unfold numsB
  rw [e, List.flatMap_append, List.flatMap_cons, List.flatMap_nil, List.append_nil]
theorem size_data (x : ByteArray) : x.data.toList.length = x.size := Array.length_toList
theorem numsB_length (l : List Int) (hl : ∀ x ∈ l, 0 ≤ x ∧ x ≤ 9223372036854775807) : ∀ k, k ≤ l.length → (numsB (l.take k)).length ≤ 10 * k := by
  intro k
  induction k with
  | zero => intro _; simp [numsB]
  | succ k ih =>
    intro h
    have hk : k < l.length := by omega
    have hm := hl (l.getD k 0) (by rw [List.getD_eq_getElem?_getD, List.getElem?_eq_getElem hk]; exact List.getElem_mem _)
    have := (putB_size (l.getD k 0) hm.1 (by omega)).2
    rw [numsB_next l k hk, List.length_append, size_data]
    have := ih (by omega)
    omega
set_option maxHeartbeats 1600000 in
theorem numbersC (v : Value) (l : List Int) (w : World) (hR : ReadsI w v l) (hl : ∀ x ∈ l, 0 ≤ x ∧ x ≤ 9223372036854775807) (hn : l.length ≤ 1000000) :
    Calls Tryd.prog 28 #[v] w fun e w' => e = .returned (.string ⟨(numsB l).toArray⟩) ∧ Below w.heap.size w w' := by
  obtain ⟨a, cap, rfl, hcap, hcl⟩ := hR
  have HCL : Hid (l.length = 0 ∨ ∃ b off, a = some ⟨b, off, none⟩ ∧ ∀ i, i < l.length → w.cell? ⟨b, off + i, none⟩ = some (.int .i64 (l.getD i 0))) := hcl
  have HLN : Hid (∀ k, k ≤ l.length → (numsB (l.take k)).length ≤ 10 * k) := numsB_length l hl
  have HX : Hid (∀ k, k < l.length → 0 ≤ l.getD k 0 ∧ l.getD k 0 ≤ 9223372036854775807) := fun k hk => hl _ (by rw [List.getD_eq_getElem?_getD, List.getElem?_eq_getElem hk]; exact List.getElem_mem _)
  have HT : Hid (numsB (l.take l.length) = numsB l) := by show _ = _; rw [List.take_length]
  have HJ : Hid (∀ k, k < l.length → numsB (l.take (k + 1)) = numsB (l.take k) ++ (putB (l.getD k 0)).data.toList) := fun k hk => numsB_next l k hk
  obtain ⟨n, HN⟩ : ∃ n, Hid (l.length = n) := ⟨_, rfl⟩
  rw [HN.out] at HCL HLN HX HT HJ hn hcap ⊢
  rw [← HT.out]
  have FB : Hid (Lib.IsBuilder 71 5 w.heap.size w.heap.size (Lib.byteCells []) (w.alloc (.cells #[.pointer none, .slice none 0 0] 71))) := Lib.fresh_isBuilder 71 5 w
  clear hcl hl
  go_enter Tryd.func28, Tryd.ntmps28
  go_wp2
  go_loopw [8] (fun i wr => ∃ (k : Nat), k ≤ n ∧ i = .int .i64 k ∧ Hid (Lib.IsBuilder 71 5 w.heap.size w.heap.size (Lib.byteCells (numsB (l.take k))) wr ∧ Below w.heap.size w wr)) (fun i _ => (n - intOf i).toNat)
  case atStart => exact ⟨0, by omega, rfl, FB.out, (Below.refl _ _).alloc (Nat.le_refl _) _⟩
  case round =>
    clear FB
    obtain ⟨k, hk, rfl, HL⟩ := hrel
    have hbs := HL.out.2.size
    by_cases hlt : k < n
    · have hlt' : (k : Int) < n := by omega
      obtain ⟨b, off, rfl, hc⟩ : ∃ b off, a = some ⟨b, off, none⟩ ∧ ∀ i, i < n → w.cell? ⟨b, off + i, none⟩ = some (.int .i64 (l.getD i 0)) := by
        rcases HCL.out with h | h
        · omega
        · exact h
      have c1 : wr.cell? ⟨b, off + k, none⟩ = some (.int .i64 (l.getD k 0)) := (HL.out.2.cell (p := ⟨b, off + k, none⟩) (World.block_lt_of_cell? _ _ (hc k hlt))).trans (hc k hlt)
      have hx := HX.out k hlt
      have hl1 := HLN.out k (by omega)
      have HJK := HJ.out k hlt
      have HJ2 : Hid (_ = _) := HJK
      clear hc HJK
      obtain ⟨X, HXX⟩ : ∃ X, Hid (l.getD k 0 = X) := ⟨_, rfl⟩
      rw [HXX.out] at c1 hx HJ2
      have PV : Hid (∀ w, Calls _ _ _ _ _) := fun w => putVarC X w hx.1 (by omega)
      have hps := (putB_size X hx.1 (by omega)).2
      have hxu : IntKind.u64.wrap X = X := u64_nonneg hx.1 (by omega)
      have BL : Hid (∀ w2, Below wr.heap.size wr w2 → Lib.IsBuilder 71 5 w.heap.size w.heap.size (Lib.byteCells (numsB (l.take k))) w2 ∧ Below w.heap.size w w2 ∧ w.heap.size ≤ w2.heap.size) := fun w2 h2 => ⟨isB_later HL.out.1 h2, ⟨h2.os.trans HL.out.2.os, h2.tape.trans HL.out.2.tape, h2.output.trans HL.out.2.output, Nat.le_trans hbs h2.size, fun j hj => (h2.block j (Nat.lt_of_lt_of_le hj hbs)).trans (HL.out.2.block j hj)⟩, Nat.le_trans hbs h2.size⟩
      have WS : Hid (∀ w2, _ → _ → Calls _ _ _ _ _) := fun w2 h hB => bWS w.heap.size w.heap.size (numsB (l.take k)) (putB X) w2 h (by omega) hB
      obtain ⟨Y, HY⟩ : ∃ Y, Hid (putB X = Y) := ⟨_, rfl⟩
      rw [HY.out] at PV WS HJ2
      go_wp2_with (first | (go_at_call 37; refine (PV.out _).mono ?_; rintro _ w1 ⟨rfl, k1⟩; have B1 : Hid (_ ∧ _ ∧ _) := BL.out w1 k1; clear k1) | (go_at_call 36; refine (WS.out _ B1.out.1 B1.out.2.2).mono ?_; rintro _ w2 ⟨rfl, i2, k2⟩; rw [← HJ2.out] at i2; have B2 : Hid (Lib.IsBuilder 71 5 w.heap.size w.heap.size (Lib.byteCells (numsB (l.take (k + 1)))) w2 ∧ Below w.heap.size w w2) := ⟨i2, B1.out.2.1.trans k2⟩; clear i2 k2))
      go_roundw
      case rel => exact ⟨k + 1, by omega, by go_num, B2.out⟩
      case measure => simp [intOf]; omega
    · have hlt' : ¬ (k : Int) < n := by omega
      obtain rfl : k = n := by omega
      have CS : Hid (Calls _ _ _ _ _) := bS w.heap.size w.heap.size _ wr HL.out.1 hbs
      have HB : Hid (Below w.heap.size w wr) := HL.out.2
      clear HL
      go_wp2_with (go_at_call 38; refine CS.out.mono ?_; rintro _ w1 ⟨rfl, k1⟩; have B1 : Hid (Below w.heap.size w w1) := HB.out.trans k1; clear k1)
      go_ret
      exact ⟨rfl, B1.out⟩
end Go.Proofs.YtajfcddabkhamaaDoor.tef

namespace Go.Proofs.YtajfcddabkhamaaDoor.teg
open Go.RowKit Go.PlainAid Go.Shelf
open Go.Proofs.YtajfcddabkhamaaDoor.ca Go.Proofs.YtajfcddabkhamaaDoor.cb Go.Proofs.YtajfcddabkhamaaDoor.cp Go.Proofs.YtajfcddabkhamaaDoor.ga Go.Proofs.YtajfcddabkhamaaDoor.kp Go.Proofs.YtajfcddabkhamaaDoor.tna Go.Proofs.YtajfcddabkhamaaDoor.tnb Go.Proofs.YtajfcddabkhamaaDoor.tnc Go.Proofs.YtajfcddabkhamaaDoor.tne Go.Proofs.YtajfcddabkhamaaDoor.tea Go.Proofs.YtajfcddabkhamaaDoor.teb Go.Proofs.YtajfcddabkhamaaDoor.tec Go.Proofs.YtajfcddabkhamaaDoor.ted Go.Proofs.YtajfcddabkhamaaDoor.tee Go.Proofs.YtajfcddabkhamaaDoor.tef Go.Proofs.YtajfcddabkhamaaDoor.ka Go.Proofs.YtajfcddabkhamaaDoor.tbn Go.Proofs.YtajfcddabkhamaaDoor.mi Go.Proofs.YtajfcddabkhamaaDoor.tsb
set_option linter.unusedVariables false

-- what Leaves answers
def leavesE (l : List ByteArray) : Int := if 1024 < l.length then 83 else if l.all (fun x => decide (x.size ≤ 4096)) then 0 else 121
def leavesV (l : List ByteArray) : Value := .tuple #[.string (if leavesE l = 0 then ⟨(leavesB l).toArray⟩ else ByteArray.empty), .int .i64 (leavesE l)]
def leavesK (l : List ByteArray) (k : Nat) : List UInt8 := 76 :: (putB l.length).data.toList ++ (l.take k).flatMap leafB
theorem leavesK_next (l : List ByteArray) (k : Nat) (h : k < l.length) : leavesK l (k + 1) = leavesK l k ++ leafB (l.getD k ByteArray.empty) := by
  have e : l.take (k + 1) = l.take k ++ [l.getD k ByteArray.empty] := by
    rw [List.take_add_one, List.getElem?_eq_getElem h, List.getD_eq_getElem?_getD, List.getElem?_eq_getElem h]
    rfl
  unfold leavesK
  rw [e, List.flatMap_append, List.flatMap_cons, List.flatMap_nil, List.append_nil]
  simp
theorem leavesK_all (l : List ByteArray) : leavesK l l.length = leavesB l := by unfold leavesK leavesB; rw [List.take_length]
theorem leafB_length (x : ByteArray) (h : x.size ≤ 4096) : (leafB x).length ≤ 4106 := by
  have := (putB_size (x.size : Int) (by omega) (by omega)).2
  unfold leafB
  rw [List.length_append, size_data, size_data]; omega
theorem leavesK_length (l : List ByteArray) (hn : l.length ≤ 1024) : ∀ k, k ≤ l.length → (∀ j, j < k → (l.getD j ByteArray.empty).size ≤ 4096) → (leavesK l k).length ≤ 11 + 4106 * k := by
  intro k
  induction k with
  | zero =>
    intro _ _
    have := (putB_size (l.length : Int) (by omega) (by omega)).2
    simp [leavesK]
    omega
  | succ k ih =>
    intro h hs
    rw [leavesK_next l k h, List.length_append]
    have := ih (by omega) (fun j hj => hs j (by omega))
    have := leafB_length _ (hs k (by omega))
    omega
theorem str_append (a b : ByteArray) : (a ++ b).data.toList = a.data.toList ++ b.data.toList := by rw [ByteArray.data_append, Array.toList_append]
theorem numsB_one (v : Int) : (⟨(numsB [v]).toArray⟩ : ByteArray) = putB v := by
  unfold numsB
  apply ByteArray.ext
  simp
theorem one_int (W : World) (n : Int) (t : TypeId) : ReadsI (W.alloc (.cells #[.int .i64 n] t)) (.slice (some ⟨W.heap.size, 0, none⟩) 1 1) [n] := by
  refine ⟨_, 1, rfl, Nat.le_refl _, .inr ⟨W.heap.size, 0, rfl, fun i hi => ?_⟩⟩
  have h0 : i = 0 := by simp at hi; omega
  subst h0
  rw [World.cell?_alloc_at _ _ _ _ rfl]
  rfl
-- numbers(n), in a world in which its list was made
theorem numberC1 (n : Int) (W : World) (h0 : 0 ≤ n) (h1 : n ≤ 9223372036854775807) :
    Calls Tryd.prog 28 #[.slice (some ⟨W.heap.size, 0, none⟩) 1 1] (W.alloc (.cells #[.int .i64 n] 3)) fun e w' => e = .returned (.string (putB n)) ∧ Below W.heap.size W w' := by
  refine (numbersC _ [n] _ (one_int W n _) (fun x hx => by simp at hx; subst hx; exact ⟨h0, h1⟩) (by simp)).mono ?_
  rintro e w' ⟨rfl, hb⟩
  rw [numsB_one]
  have ha : Below W.heap.size W (W.alloc (.cells #[.int .i64 n] 3)) := (Below.refl _ _).alloc (Nat.le_refl _) _
  exact ⟨rfl, ⟨hb.os.trans ha.os, hb.tape.trans ha.tape, hb.output.trans ha.output, Nat.le_trans ha.size hb.size, fun j hj => (hb.block j (Nat.lt_of_lt_of_le hj ha.size)).trans (ha.block j hj)⟩⟩
theorem below2 {B : Nat} {w w1 w2 : World} (h : Below B w w1) (k : Below w1.heap.size w1 w2) (hB : B ≤ w.heap.size) : Below B w w2 :=
  ⟨k.os.trans h.os, k.tape.trans h.tape, k.output.trans h.output, Nat.le_trans h.size k.size, fun j hj => (k.block j (by have := h.size; omega)).trans (h.block j hj)⟩
theorem not_all {l : List ByteArray} {k : Nat} (hk : k < l.length) (h : 4096 < (l.getD k ByteArray.empty).size) : l.all (fun x => decide (x.size ≤ 4096)) = false := by
  rw [List.all_eq_false]
  refine ⟨l.getD k ByteArray.empty, ?_, by rw [decide_eq_false (show ¬ (l.getD k ByteArray.empty).size ≤ 4096 by omega)]; exact Bool.false_ne_true⟩
  rw [List.getD_eq_getElem?_getD, List.getElem?_eq_getElem hk]
  exact List.getElem_mem _
theorem all_of {l : List ByteArray} (h : ∀ j, j < l.length → (l.getD j ByteArray.empty).size ≤ 4096) : l.all (fun x => decide (x.size ≤ 4096)) = true := by
  rw [List.all_eq_true]
  intro x hx
  obtain ⟨j, hj, rfl⟩ := List.getElem_of_mem hx
  have := h j hj
  rw [List.getD_eq_getElem?_getD, List.getElem?_eq_getElem hj] at this
  simpa using this
end Go.Proofs.YtajfcddabkhamaaDoor.teg

namespace Go.Proofs.YtajfcddabkhamaaDoor.tnh
open Go.RowKit Go.PlainAid
open Go.Proofs.YtajfcddabkhamaaDoor.tna Go.Proofs.YtajfcddabkhamaaDoor.tnb Go.Proofs.YtajfcddabkhamaaDoor.tnc
set_option linter.unusedVariables false

theorem str_app (xs ys : List Int) : str xs ++ str ys = str (xs ++ ys) := by
  apply ByteArray.ext
  rw [ByteArray.data_append, str_data, str_data, str_data]
  simp

theorem conv_one (W : World) (c : Int) :
    (convert 65 9 (.slice (some ⟨W.heap.size, 0, none⟩) 1 1)).run Tryd.prog (W.alloc (.cells #[.int .u8 c] 5)) = .ok (.string (str [c])) (W.alloc (.cells #[.int .u8 c] 5)) :=
  conv_row [c] W 1 rfl

theorem quo128 (v : Int) (k : Nat) : v / 128 ^ k / 128 = v / 128 ^ (k + 1) := by
  have hc : (0 : Int) ≤ 128 ^ k := Int.pow_nonneg (by omega)
  rw [Int.pow_succ, Int.ediv_ediv_of_nonneg hc]

theorem wants_ge (v : Int) (m k : Nat) (hw : Wants v m) (h : k + 1 < m) : 128 ≤ v / 128 ^ k := by
  have hc : (0 : Int) < 128 ^ k := Int.pow_pos (by omega)
  have h1 := hw.2.2.2 (by omega)
  have h2 : (128 : Int) ^ (k + 1) ≤ 128 ^ (m - 1) := ipow_le 128 (by omega) (show k + 1 ≤ m - 1 by omega)
  rw [Int.pow_succ] at h2
  exact (Int.le_ediv_iff_mul_le hc).2 (by omega)

theorem wants_lt (v : Int) (m : Nat) (hw : Wants v m) : v / 128 ^ (m - 1) < 128 := by
  have hc : (0 : Int) < 128 ^ (m - 1) := Int.pow_pos (by omega)
  apply Int.ediv_lt_of_lt_mul hc
  have e : (128 : Int) * 128 ^ (m - 1) = 128 ^ m := by
    have := hw.1
    rw [Int.mul_comm, ← Int.pow_succ]; congr 1; omega
  rw [e]; exact hw.2.2.1

def gs (v : Int) (k : Nat) : List Int := (List.range k).map (gB v)
theorem gs_length (v : Int) (k : Nat) : (gs v k).length = k := by simp [gs]
theorem gs_next (v : Int) (k : Nat) : gs v k ++ [v / 128 ^ k % 128 + 128] = gs v (k + 1) := by simp [gs, List.range_succ, gB]
theorem gs_last (v : Int) (m : Nat) (h0 : 0 ≤ v) (hw : Wants v m) : gs v (m - 1) ++ [v / 128 ^ (m - 1)] = putL v m := by
  have h1 := wants_lt v m hw
  have h2 : 0 ≤ v / 128 ^ (m - 1) := Int.ediv_nonneg h0 (Int.pow_nonneg (by omega))
  have e : v / 128 ^ (m - 1) % 128 = v / 128 ^ (m - 1) := Int.emod_eq_of_lt h2 h1
  simp [gs, putL, e]

theorem ret_s (s t : ByteArray) (h : s = t) : Ending.returned (.string s) = .returned (.string t) := by rw [h]

set_option maxHeartbeats 800000 in
theorem rpv_any (v : Int) (m : Nat) (w : World) (v0 : 0 ≤ v) (v1 : v ≤ 18446744073709551615) (m1 : 1 ≤ m) (m2 : m ≤ 10) (HW : Hid (Wants v m)) :
    Calls Tryd.prog 44 #[.int .u64 v] w fun e w' => e = .returned (.string (str (putL v m))) ∧ Below w.heap.size w w' := by
  have hcv := conv_one
  have hst : ∀ c : Int, (str [c]).size = 1 := fun c => str_size [c]
  go_enter Tryd.func44, Tryd.ntmps44
  go_wp2
  go_loopw [0, 3] (fun x t wr => ∃ k : Nat, k + 1 ≤ m ∧ x = .int .u64 (v / 128 ^ k) ∧ t = .string (str (gs v k)) ∧ Below w.heap.size w wr) (fun x _ _ => (intOf x).toNat)
  case atStart => exact ⟨0, by omega, by simp, rfl, Below.refl _ _⟩
  case round =>
    obtain ⟨k, hk, rfl, rfl, hg⟩ := hrel
    have G : Hid (Below w.heap.size w wr) := hg
    clear hg
    have hlen : (str (gs v k)).size = k := by rw [str_size, gs_length]
    have q0 : 0 ≤ v / 128 ^ k := Int.ediv_nonneg v0 (Int.pow_nonneg (by omega))
    have q1 : v / 128 ^ k ≤ 18446744073709551615 := Int.le_trans (Int.ediv_le_self _ v0) v1
    by_cases hlt : k + 1 < m
    · have hq := wants_ge v m k HW.out hlt
      go_wp2
      go_roundw
      case rel => exact ⟨k + 1, by omega, by rw [quo128], by rw [str_app, gs_next], G.out.alloc G.out.size _⟩
      case measure => simp [intOf]; omega
    · obtain rfl : k = m - 1 := by omega
      have hq := wants_lt v m HW.out
      have HL : Hid _ := gs_last v m v0 HW.out
      go_wp2
      go_ret
      exact ⟨ret_s _ _ (by rw [str_app, HL.out]), G.out.alloc G.out.size _⟩
end Go.Proofs.YtajfcddabkhamaaDoor.tnh
