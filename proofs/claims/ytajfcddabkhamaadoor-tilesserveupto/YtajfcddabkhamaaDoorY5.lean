import Derived.Test.YtajfcddabkhamaaDoorY1
import Derived.WalkKit
import Derived.Tactics
import Derived.Below
import Derived.BigQuiet
import Derived.Laws.AppendOwn
import Derived.Laws.OwnMore
import Derived.Test.YtajfcddabkhamaaDoorProg
import Derived.Test.YtajfcddabkhamaaDoorY4
import Derived.Shelf.Spec.TrailingZeros
import Derived.Deep.MidRow
import Derived.Test.YtajfcddabkhamaaDoorY2
import Derived.Deep.RegionHeld3
import Derived.Handy
import Derived.Laws.BitsAllLaws
import Derived.Shelf.LaysM
import Derived.Shelf.Strconv.Itoa3
namespace Go.Proofs.YtajfcddabkhamaaDoor.cp
open Go.RowKit Go.PlainAid
open Go.Proofs.YtajfcddabkhamaaDoor.ca
set_option linter.unusedVariables false

theorem cast_pow (k : Nat) : ((2 : Int) ^ k) = ((2 ^ k : Nat) : Int) := by rw [Int.natCast_pow]; rfl
theorem p62 : (2 : Nat) ^ 62 = 4611686018427387904 := by decide
theorem p63 : (2 : Nat) ^ 63 = 9223372036854775808 := by decide
theorem wrap_is (n : Nat) (h : n < 9223372036854775808) : IntKind.i64.wrap (n : Int) = n := by
  rw [IntKind.wrap_i64]
  omega
theorem u64_is (k : Nat) (h : k ≤ 64) : IntKind.u64.wrap (k : Int) = k := by
  rw [IntKind.wrap_u64]
  omega
-- 2 to the k as the walk has it
theorem pow_int {k : Nat} (h : k ≤ 62) : IntKind.i64.wrap (1 * 2 ^ min (k : Int).toNat 64) = ((2 ^ k : Nat) : Int) := by
  rw [Int.toNat_natCast, Nat.min_eq_left (by omega), Int.one_mul, cast_pow, wrap_is]
  have := p2le h
  rw [p62] at this
  omega
def i64 (x : Int) : Prop := -9223372036854775808 ≤ x ∧ x ≤ 9223372036854775807
-- may there be such a node?
def okA (L I : Int) : Prop := 0 ≤ L ∧ L ≤ 62 ∧ 0 ≤ I ∧ I < 4611686018427387904 / 2 ^ L.toNat
instance (L I : Int) : Decidable (okA L I) := by unfold okA; infer_instance
theorem okA_nat (k i : Nat) : okA k i ↔ k ≤ 62 ∧ (i + 1) * 2 ^ k ≤ 4611686018427387904 := by
  have e : (4611686018427387904 : Int) / 2 ^ (k : Int).toNat = ((4611686018427387904 / 2 ^ k : Nat) : Int) := by
    rw [Int.toNat_natCast, cast_pow, Int.natCast_ediv]
    rfl
  have key : i < 4611686018427387904 / 2 ^ k ↔ (i + 1) * 2 ^ k ≤ 4611686018427387904 := Nat.le_div_iff_mul_le (p2 k)
  unfold okA
  rw [e, ← key]
  omega
theorem okA_form {L I : Int} (h : okA L I) : ∃ k i : Nat, L = k ∧ I = i ∧ k ≤ 62 ∧ (i + 1) * 2 ^ k ≤ 4611686018427387904 := by
  obtain ⟨k, rfl⟩ : ∃ k : Nat, L = k := ⟨L.toNat, by have := h.1; omega⟩
  obtain ⟨i, rfl⟩ : ∃ i : Nat, I = i := ⟨I.toNat, by have := h.2.2.1; omega⟩
  exact ⟨k, i, rfl, rfl, ((okA_nat k i).1 h).1, ((okA_nat k i).1 h).2⟩
def av (L I : Int) : Value := .agg #[.int .i64 L, .int .i64 I]
def spV (L I : Int) : Value := if okA L I then .tuple #[.int .i64 (I * 2 ^ L.toNat), .int .i64 ((I + 1) * 2 ^ L.toNat), .int .i64 0] else .tuple #[.int .i64 0, .int .i64 0, .int .i64 50]
def kinV (L I L' I' : Int) : Value := if okA L I ∧ okA L' I' then .tuple #[.agg #[.int .i64 L', .int .i64 I'], .int .i64 0] else .tuple #[.agg #[.int .i64 0, .int .i64 0], .int .i64 50]
def sib (I : Int) : Int := if I % 2 = 0 then I + 1 else I - 1
theorem spV_nat {k i : Nat} (h : okA k i) : spV k i = .tuple #[.int .i64 ((i * 2 ^ k : Nat) : Int), .int .i64 (((i + 1) * 2 ^ k : Nat) : Int), .int .i64 0] := by
  unfold spV
  rw [if_pos h, Int.toNat_natCast, cast_pow]
  simp
theorem up_fits {k i : Nat} (hk : k < 62) (h : (i + 1) * 2 ^ k ≤ 4611686018427387904) : (i / 2 + 1) * 2 ^ (k + 1) ≤ 4611686018427387904 := by
  obtain ⟨z, hz⟩ : ∃ z, 4611686018427387904 = 2 * z * 2 ^ k := by
    refine ⟨2 ^ (61 - k), ?_⟩
    rw [← p2s, ← Nat.pow_add, show 61 - k + 1 + k = 62 by omega]
  rw [hz] at h ⊢
  have h1 : i + 1 ≤ 2 * z := Nat.le_of_mul_le_mul_right h (p2 k)
  rw [p2s, ← Nat.mul_assoc]
  exact Nat.mul_le_mul_right _ (by omega)
theorem i64_nat {n : Nat} (h : n ≤ 4611686018427387904) : i64 (n : Int) := ⟨by omega, by omega⟩
theorem below_dN {B : Nat} {a w : World} (h : Below B a w) (n : Nat) : Below B a (w.drewN n) := ⟨h.os, h.tape, h.output, h.size, h.block⟩
theorem over {w w1 w2 : World} (h : Below w.heap.size w w1) (b : Below w1.heap.size w1 w2) : Below w.heap.size w w2 := h.trans (b.mono h.size)
theorem own_later {w w' : World} {B e size n : Nat} {v : Value} {xs : List Value} (h : w.ownsRow B e size v n xs) (hb : Below w.heap.size w w') : w'.ownsRow B e size v n xs := by
  refine ⟨h.1, ?_⟩
  rcases h.2 with hn | ⟨g, cap, cur, rfl, hg, hgg, rest⟩
  · exact .inl hn
  · exact .inr ⟨g, cap, cur, rfl, hg, by rw [hb.block g (Array.getElem?_eq_some_iff.1 hgg).1]; exact hgg, rest⟩
theorem own_down {w : World} {B B' e size n : Nat} {v : Value} {xs : List Value} (h : w.ownsRow B' e size v n xs) (hB : B ≤ B') : w.ownsRow B e size v n xs :=
  ⟨h.1, h.2.imp id fun ⟨g, cap, cur, h1, h2, h3⟩ => ⟨g, cap, cur, h1, Nat.le_trans hB h2, h3⟩⟩
-- an address in a block of its own
structure Bx (w : World) (b : Nat) (L I : Int) : Prop where
  one : w.cell? ⟨b, 0, none⟩ = some (.int .i64 L)
  two : w.cell? ⟨b, 1, none⟩ = some (.int .i64 I)
theorem Bx.later {w w' : World} {b : Nat} {L I : Int} (h : Bx w b L I) (hb : Below w.heap.size w w') : Bx w' b L I :=
  ⟨(hb.cell (p := ⟨b, 0, none⟩) (World.block_lt_of_cell? _ _ h.one)).trans h.one, (hb.cell (p := ⟨b, 1, none⟩) (World.block_lt_of_cell? _ _ h.two)).trans h.two⟩
theorem bx_new (w : World) (L I : Int) : Bx (w.alloc (.cells #[.int .i64 L, .int .i64 I] 57)) w.heap.size L I :=
  ⟨by rw [World.cell?_alloc_at _ _ _ _ rfl]; rfl, by rw [World.cell?_alloc_at _ _ _ _ rfl]; rfl⟩
theorem kin_no {L I L' I' : Int} (h : ¬ (okA L I ∧ okA L' I')) : kinV L I L' I' = .tuple #[.agg #[.int .i64 0, .int .i64 0], .int .i64 50] := by unfold kinV; rw [if_neg h]
theorem kin_yes {L I L' I' : Int} (h1 : okA L I) (h2 : okA L' I') : kinV L I L' I' = .tuple #[.agg #[.int .i64 L', .int .i64 I'], .int .i64 0] := by unfold kinV; rw [if_pos ⟨h1, h2⟩]
end Go.Proofs.YtajfcddabkhamaaDoor.cp

namespace Go.Proofs.YtajfcddabkhamaaDoor.xc
open Go.RowKit Go.PlainAid
open Go.Proofs.YtajfcddabkhamaaDoor.ca Go.Proofs.YtajfcddabkhamaaDoor.cp Go.Proofs.YtajfcddabkhamaaDoor.xa Go.Proofs.YtajfcddabkhamaaDoor.xb
set_option linter.unusedVariables false

def TabB (w : World) : Prop := ∀ j, j < 64 → w.cell? ⟨5, j, none⟩ = some (.int .u8 (Lib.deBruijn64tab.getD j 0))

set_option maxHeartbeats 1000000 in
theorem tz_core (x k idx : Nat) (w : World) (hx : x < 18446744073709551616) (hx0 : ((x : Int) == 0) = false)
    (key : IntKind.u64.wrap (bits BinOp.and IntKind.u64 (x : Int) (IntKind.u64.wrap (-(x : Int))) * 285870213051353865) / 288230376151711744 = (idx : Int))
    (hi : idx < 64) (hk : k < 64) (hcell : w.cell? ⟨5, idx, none⟩ = some (.int .u8 k)) :
    Calls Tryd.prog 70 #[.int .u64 x] w fun e w' => e = .returned (.int .i64 k) ∧ w' = w := by
  go_enter Tryd.func70, Tryd.ntmps70
  go_wp2_with (simp only [key])
  go_ret
  exact ⟨rfl, rfl⟩

theorem tz (x : Nat) (w : World) (hx : x < 18446744073709551616) (hx0 : x ≠ 0) (hT : TabB w) :
    Calls Tryd.prog 70 #[.int .u64 x] w fun e w' => e = .returned (.int .i64 (Lib.ctz 64 x)) ∧ w' = w := by
  obtain ⟨hlow, hk⟩ := Lib.lowest_bit 64 x hx0 hx
  obtain ⟨hi, htab⟩ := Lib.deBruijn64_at _ hk
  have hcell := hT _ hi
  rw [htab] at hcell
  exact tz_core x _ _ w hx (by simp; omega) (Go.Proofs.tz64_key x _ hx hx0 hlow) hi hk hcell
theorem TabB.later {w w' : World} (h : TabB w) (hb : Below w.heap.size w w') : TabB w' := fun j hj => by
  have := h j hj
  exact (hb.cell (p := ⟨5, j, none⟩) (World.block_lt_of_cell? _ _ this)).trans this
end Go.Proofs.YtajfcddabkhamaaDoor.xc

namespace Go.Proofs.YtajfcddabkhamaaDoor.cv
open Go.RowKit Go.PlainAid
open Go.Proofs.YtajfcddabkhamaaDoor.cp
theorem fits64 (a : Int) (h : (Lit.int .i64 a).wf = true) : -9223372036854775808 ≤ a ∧ a ≤ 9223372036854775807 := by
  simp only [Lit.wf, Bool.and_eq_true, decide_eq_true_eq] at h
  obtain ⟨h1, h2⟩ := h
  have e1 : IntKind.i64.min = -9223372036854775808 := by decide
  have e2 : IntKind.i64.max = 9223372036854775807 := by decide
  omega
set_option maxRecDepth 100000 in
theorem i64_of {a : Int} (h : (Lit.int .i64 a).wf = true) : i64 a := fits64 a h
end Go.Proofs.YtajfcddabkhamaaDoor.cv

namespace Go.Proofs.YtajfcddabkhamaaDoor.tb
open Go.RowKit Go.PlainAid
open Go.Proofs.YtajfcddabkhamaaDoor.pl Go.Proofs.YtajfcddabkhamaaDoor.ft Go.Proofs.YtajfcddabkhamaaDoor.pj Go.Proofs.YtajfcddabkhamaaDoor.rf Go.Proofs.YtajfcddabkhamaaDoor.cp Go.Proofs.YtajfcddabkhamaaDoor.cv Go.Proofs.YtajfcddabkhamaaDoor.xc
set_option linter.unusedVariables false

-- the tables that layer 7 asks for: sha's two and bits' one; the document's two besides
structure TB (w : World) : Prop where
  t : Tab w
  d : TabB w
theorem TB.down {w w' : World} (h : TB w) (b : Below w.heap.size w w') : TB w' := ⟨h.t.down b, h.d.later b⟩
structure TB4 (w : World) : Prop where
  t : Tab4 w
  d : TabB w
theorem TB4.down {w w' : World} (h : TB4 w) (b : Below w.heap.size w w') : TB4 w' := ⟨h.t.down b, h.d.later b⟩
theorem TB4.tb {w : World} (h : TB4 w) : TB w := ⟨h.t.t, h.d⟩
end Go.Proofs.YtajfcddabkhamaaDoor.tb

namespace Go.Proofs.YtajfcddabkhamaaDoor.cs
open Go.RowKit Go.PlainAid
open Go.Proofs.YtajfcddabkhamaaDoor.ca Go.Proofs.YtajfcddabkhamaaDoor.cb Go.Proofs.YtajfcddabkhamaaDoor.cp
set_option linter.unusedVariables false

-- an address; a list of them in memory
def ad (a : Nat × Nat) : Value := .agg #[.int .i64 (a.1 : Nat), .int .i64 (a.2 : Nat)]
def cl (a : Nat × Nat) : List Value := [.int .i64 (a.1 : Nat), .int .i64 (a.2 : Nat)]
def cls (L : List (Nat × Nat)) : List Value := L.flatMap cl
theorem cls_len (L : List (Nat × Nat)) : (cls L).length = L.length * 2 := by
  induction L with
  | nil => rfl
  | cons a L ih =>
    show (cl a ++ cls L).length = _
    rw [List.length_append, ih, List.length_cons]
    show 2 + _ = _
    omega
theorem cls_app (L M : List (Nat × Nat)) : cls (L ++ M) = cls L ++ cls M := by unfold cls; exact List.flatMap_append
theorem cls_get (L : List (Nat × Nat)) (i : Nat) (a : Nat × Nat) (h : L[i]? = some a) : (cls L)[i * 2]? = some (.int .i64 (a.1 : Nat)) ∧ (cls L)[i * 2 + 1]? = some (.int .i64 (a.2 : Nat)) := by
  induction L generalizing i with
  | nil => simp at h
  | cons b L ih =>
    cases i with
    | zero =>
      obtain rfl : b = a := by simpa using h
      exact ⟨rfl, rfl⟩
    | succ i =>
      have := ih i (by simpa using h)
      show (cl b ++ cls L)[(i + 1) * 2]? = _ ∧ (cl b ++ cls L)[(i + 1) * 2 + 1]? = _
      have hl : (cl b).length = 2 := rfl
      rw [List.getElem?_append_right (by omega), List.getElem?_append_right (by omega), hl, show (i + 1) * 2 - 2 = i * 2 by omega, show (i + 1) * 2 + 1 - 2 = i * 2 + 1 by omega]
      exact this
theorem hiA : (Tryd.prog.info? 57).map (fun i => (i.zero, i.size, i.bytes)) = some (some (.agg #[.int .i64 0, .int .i64 0]), 2, 16) := by kernel_rfl
theorem info_parts {t : TypeId} {z : Value} {n b : Nat} (h : (Tryd.prog.info? t).map (fun i => (i.zero, i.size, i.bytes)) = some (some z, n, b)) : ∃ i, Tryd.prog.info? t = some i ∧ i.zero = some z ∧ i.size = n ∧ i.bytes = b := by
  obtain ⟨i, hi, he⟩ := Option.map_eq_some_iff.1 h
  injection he with e1 e2
  injection e2 with e2 e3
  exact ⟨i, hi, e1, e2, e3⟩
-- what Cover answers
def okR (lo hi : Int) : Prop := 0 ≤ lo ∧ lo ≤ hi ∧ hi ≤ 4611686018427387904
instance (lo hi : Int) : Decidable (okR lo hi) := by unfold okR; infer_instance
def covI (lo hi : Int) : List (Nat × Nat) := if okR lo hi then cov lo.toNat hi.toNat else []
def covE (lo hi : Int) : Int := if okR lo hi then 0 else 10
theorem covI_len (lo hi : Int) : (covI lo hi).length ≤ 122 := by
  unfold covI
  split
  · rename_i h
    exact cov_len _ _ (by have := h.2.1; have := h.1; omega) (by rw [p62]; have := h.2.2; omega)
  · simp
def Rowed (w w' : World) (e : Ending) (lo hi : Int) : Prop := ∃ v, e = .returned (.tuple #[v, .int .i64 (covE lo hi)]) ∧ w'.ownsRow w.heap.size 57 2 v (covI lo hi).length (cls (covI lo hi))
theorem two_cells (W : World) (x y : Value) (t : TypeId) : ∀ (j : Nat) (u : Value), [x, y][j]? = some u → (W.alloc (.cells #[x, y] t)).cell? (Addr.add ⟨W.heap.size, 0, none⟩ j) = some u := by
  intro j u hu
  rw [show (Addr.add ⟨W.heap.size, 0, none⟩ j) = ⟨W.heap.size, j, none⟩ by cases j <;> simp [Addr.add], World.cell?_alloc_at _ _ _ _ rfl]
  simpa using hu
-- a list of addresses, wherever it lies
def ReadsA (w : World) (v : Value) (L : List (Nat × Nat)) : Prop :=
  ∃ a cap, v = .slice a L.length cap ∧ (L.length = 0 ∨ ∃ b, a = some ⟨b, 0, none⟩ ∧ ∀ (i : Nat) (x : Nat × Nat), L[i]? = some x → w.cell? ⟨b, i * 2, none⟩ = some (.int .i64 (x.1 : Nat)) ∧ w.cell? ⟨b, i * 2 + 1, none⟩ = some (.int .i64 (x.2 : Nat)))
theorem ReadsA.later {w w' : World} {v : Value} {L : List (Nat × Nat)} (h : ReadsA w v L) (hb : Below w.heap.size w w') : ReadsA w' v L := by
  obtain ⟨a, cap, rfl, h0 | ⟨b, rfl, hc⟩⟩ := h
  · exact ⟨a, cap, rfl, .inl h0⟩
  · refine ⟨_, cap, rfl, .inr ⟨b, rfl, fun i x hx => ?_⟩⟩
    obtain ⟨c1, c2⟩ := hc i x hx
    exact ⟨(hb.cell (p := ⟨b, i * 2, none⟩) (World.block_lt_of_cell? _ _ c1)).trans c1, (hb.cell (p := ⟨b, i * 2 + 1, none⟩) (World.block_lt_of_cell? _ _ c2)).trans c2⟩
theorem own_readsA {w : World} {B n : Nat} {v : Value} {L : List (Nat × Nat)} (h : w.ownsRow B 57 2 v n (cls L)) : ReadsA w v L := by
  have hn : L.length = n := by have := h.1; rw [cls_len] at this; omega
  subst hn
  rcases h.2 with ⟨rfl, h0⟩ | ⟨g, cap, cur, rfl, _, hg, _⟩
  · refine ⟨none, 0, by rw [h0], .inl h0⟩
  · refine ⟨_, cap, rfl, .inr ⟨g, rfl, fun i x hx => ?_⟩⟩
    have hi := (List.getElem?_eq_some_iff.1 hx).1
    obtain ⟨c1, c2⟩ := cls_get L i x hx
    exact ⟨(h.cellAt (i * 2) (by omega)).trans c1, (h.cellAt (i * 2 + 1) (by omega)).trans c2⟩
theorem formA {w : World} {v : Value} {L : List (Nat × Nat)} (h : ReadsA w v L) : ∃ a cap, v = .slice a L.length cap := by
  obtain ⟨a, cap, h, _⟩ := h
  exact ⟨a, cap, h⟩
theorem row_at {L : List (Nat × Nat)} {w : World} {a : Option Addr} {cap n : Nat} {k i : Nat} {j : Nat} (h : ReadsA w (.slice a n cap) L) (hx : L[j]? = some (k, i)) : ∃ b, a = some ⟨b, 0, none⟩ ∧ w.cell? ⟨b, j * 2, none⟩ = some (.int .i64 (k : Nat)) ∧ w.cell? ⟨b, j * 2 + 1, none⟩ = some (.int .i64 (i : Nat)) := by
  obtain ⟨a', cap', e1, hc⟩ := h
  injection e1 with e1 e2 e3
  subst e1
  have := (List.getElem?_eq_some_iff.1 hx).1
  rcases hc with h0 | ⟨b, e4, hc⟩
  · omega
  · exact ⟨b, e4, hc j _ hx⟩
end Go.Proofs.YtajfcddabkhamaaDoor.cs

namespace Go.Proofs.YtajfcddabkhamaaDoor.ka
open Go.RowKit Go.PlainAid
open Go.Proofs.YtajfcddabkhamaaDoor.ca Go.Proofs.YtajfcddabkhamaaDoor.cp
set_option linter.unusedVariables false

-- a list of texts, wherever it lies
def ReadsT (w : World) (v : Value) (xs : List ByteArray) : Prop :=
  ∃ a cap, v = .slice a xs.length cap ∧ xs.length ≤ cap ∧ (xs.length = 0 ∨ ∃ b off, a = some ⟨b, off, none⟩ ∧ ∀ i, i < xs.length → w.cell? ⟨b, off + i, none⟩ = some (.string (xs.getD i ByteArray.empty)))
theorem ReadsT.later {w w' : World} {v : Value} {xs : List ByteArray} (h : ReadsT w v xs) (hb : Below w.heap.size w w') : ReadsT w' v xs := by
  obtain ⟨a, cap, rfl, hc, h0 | ⟨b, off, rfl, hh⟩⟩ := h
  · exact ⟨a, cap, rfl, hc, .inl h0⟩
  · refine ⟨_, cap, rfl, hc, .inr ⟨b, off, rfl, fun i hi => ?_⟩⟩
    have := hh i hi
    exact (hb.cell (p := ⟨b, off + i, none⟩) (World.block_lt_of_cell? _ _ this)).trans this
theorem ReadsT.front {w : World} {b off n cap k : Nat} {xs : List ByteArray} (h : ReadsT w (.slice (some ⟨b, off, none⟩) n cap) xs) (hk : k ≤ xs.length) : ReadsT w (.slice (some ⟨b, off, none⟩) k cap) (xs.take k) := by
  obtain ⟨a, cap', e, hc, hh⟩ := h
  injection e with e1 e2 e3
  subst e1 e3
  have hl : (xs.take k).length = k := by rw [List.length_take]; omega
  refine ⟨_, cap, by rw [hl], by omega, ?_⟩
  rcases hh with h0 | ⟨b', off', e4, hh⟩
  · left; omega
  · injection e4 with e4
    injection e4 with e5 e6
    subst e5 e6
    refine .inr ⟨b, off, rfl, fun i hi => ?_⟩
    rw [hl] at hi
    rw [hh i (by omega), List.getD_eq_getElem?_getD, List.getD_eq_getElem?_getD, List.getElem?_take, if_pos hi]
theorem ReadsT.back {w : World} {b off n cap k : Nat} {xs : List ByteArray} (h : ReadsT w (.slice (some ⟨b, off, none⟩) n cap) xs) (hk : k ≤ xs.length) : ReadsT w (.slice (some ⟨b, off + k, none⟩) (n - k) (cap - k)) (xs.drop k) := by
  obtain ⟨a, cap', e, hc, hh⟩ := h
  injection e with e1 e2 e3
  subst e1 e2 e3
  have hl : (xs.drop k).length = xs.length - k := List.length_drop
  refine ⟨_, cap - k, by rw [hl], by omega, ?_⟩
  rcases hh with h0 | ⟨b', off', e4, hh⟩
  · left; omega
  · injection e4 with e4
    injection e4 with e5 e6
    subst e5 e6
    refine .inr ⟨b, off + k, rfl, fun i hi => ?_⟩
    rw [hl] at hi
    rw [Nat.add_assoc, hh (k + i) (by omega), List.getD_eq_getElem?_getD, List.getD_eq_getElem?_getD, List.getElem?_drop]
theorem ReadsT.mid {w : World} {b off n cap f k : Nat} {xs : List ByteArray} (h : ReadsT w (.slice (some ⟨b, off, none⟩) n cap) xs) (hk : f + k ≤ xs.length) : ReadsT w (.slice (some ⟨b, off + f, none⟩) k (cap - f)) ((xs.drop f).take k) := by
  have h1 := h.back (k := f) (by omega)
  exact ReadsT.front (n := n - f) h1 (by rw [List.length_drop]; omega)
theorem own_readsT {w : World} {B n : Nat} {v : Value} {xs : List ByteArray} (h : w.ownsRow B 9 1 v n (xs.map Value.string)) : ReadsT w v xs := by
  have hn : xs.length = n := by have := h.1; simpa using this
  subst hn
  rcases h.2 with ⟨rfl, h0⟩ | ⟨g, cap, cur, rfl, _, hg, hc, _⟩
  · exact ⟨none, 0, by rw [h0], by omega, .inl h0⟩
  · refine ⟨_, cap, rfl, hc, .inr ⟨g, 0, rfl, fun i hi => ?_⟩⟩
    rw [Nat.zero_add, h.cellAt i (by omega), List.getElem?_map, List.getElem?_eq_getElem hi, List.getD_eq_getElem?_getD, List.getElem?_eq_getElem hi]
    rfl
theorem hi9 : (Tryd.prog.info? 9).map (fun i => (i.zero, i.size, i.bytes)) = some (some (.string ByteArray.empty), 1, 16) := by kernel_rfl
theorem info_parts {t : TypeId} {z : Value} {n b : Nat} (h : (Tryd.prog.info? t).map (fun i => (i.zero, i.size, i.bytes)) = some (some z, n, b)) : ∃ i, Tryd.prog.info? t = some i ∧ i.zero = some z ∧ i.size = n ∧ i.bytes = b := by
  obtain ⟨i, hi, he⟩ := Option.map_eq_some_iff.1 h
  injection he with e1 e2
  injection e2 with e2 e3
  exact ⟨i, hi, e1, e2, e3⟩
theorem own_formS {w : World} {B e size n : Nat} {v : Value} {xs : List Value} (h : w.ownsRow B e size v n xs) : ∃ a c, v = .slice a n c := by
  rcases h.2 with ⟨rfl, rfl⟩ | ⟨g, cap, cur, rfl, _⟩
  · exact ⟨_, _, rfl⟩
  · exact ⟨_, _, rfl⟩
theorem new_text (W : World) (u : Value) (t : TypeId) : ∀ (j : Nat) (x : Value), [u][j]? = some x → (W.alloc (.cells #[u] t)).cell? (Addr.add ⟨W.heap.size, 0, none⟩ j) = some x := by
  intro j x hx
  rw [show (Addr.add ⟨W.heap.size, 0, none⟩ j) = ⟨W.heap.size, j, none⟩ by cases j <;> simp [Addr.add], World.cell?_alloc_at _ _ _ _ rfl]
  simpa using hx
theorem one_text (x : ByteArray) : ∀ u ∈ [Value.string x], u.oneCell' = true := by
  intro u hu
  simp only [List.mem_cons, List.not_mem_nil, or_false] at hu
  subst hu
  rfl
theorem own_first {w : World} {B g n cap : Nat} {ys : List ByteArray} {z : Value} (h : w.ownsRow B 9 1 (.slice (some ⟨g, 0, none⟩) (n + 1) cap) (n + 1) (ys.map Value.string ++ [z])) (hn : ys.length = n) : ReadsT w (.slice (some ⟨g, 0, none⟩) n cap) ys := by
  have hc : n + 1 ≤ cap := by
    rcases h.2 with ⟨e, _⟩ | ⟨g', cap', cur, e, _, _, hc, _⟩
    · cases e
    · injection e with _ _ e3; omega
  refine ⟨_, cap, by rw [hn], by omega, .inr ⟨g, 0, rfl, fun i hi => ?_⟩⟩
  rw [Nat.zero_add, h.cellAt i (by omega), List.getElem?_append_left (by rw [List.length_map]; exact hi), List.getElem?_map, List.getElem?_eq_getElem hi, List.getD_eq_getElem?_getD, List.getElem?_eq_getElem hi]
  rfl
theorem own_behind {w : World} {B g n cap : Nat} {ys : List ByteArray} {z : Value} (h : w.ownsRow B 9 1 (.slice (some ⟨g, 0, none⟩) (n + 1) cap) (n + 1) (ys.map Value.string ++ [z])) (hn : ys.length = n) : w.cell? ⟨g, n, none⟩ = some z := by
  rw [h.cellAt n (by omega), List.getElem?_append_right (by rw [List.length_map]; omega), List.length_map, hn, Nat.sub_self]
  rfl
theorem reads_news {w : World} {ad : Addr} {n cap : Nat} {xs : List ByteArray} (h : ReadsT w (.slice (some ad) n cap) xs) : ∀ (j : Nat) (u : Value), (xs.map Value.string)[j]? = some u → w.cell? (ad.add j) = some u := by
  intro j u hu
  have hj : j < xs.length := by have := (List.getElem?_eq_some_iff.1 hu).1; simpa using this
  obtain ⟨a', cap', e, _, h0 | ⟨b, off, e4, hc⟩⟩ := h
  · omega
  · injection e with e1 e2 e3
    rw [← e1] at e4
    obtain rfl := Option.some.inj e4
    rw [Addr.add_mid, hc j hj, ← hu, List.getElem?_map, List.getElem?_eq_getElem hj, List.getD_eq_getElem?_getD, List.getElem?_eq_getElem hj]
    rfl
end Go.Proofs.YtajfcddabkhamaaDoor.ka

namespace Go.Proofs.YtajfcddabkhamaaDoor.ac
open Go.RowKit Go.PlainAid
open Go.Proofs.YtajfcddabkhamaaDoor.ca Go.Proofs.YtajfcddabkhamaaDoor.cp Go.Proofs.YtajfcddabkhamaaDoor.cs Go.Proofs.YtajfcddabkhamaaDoor.ka Go.Proofs.YtajfcddabkhamaaDoor.tb
set_option linter.unusedVariables false

-- but for the blocks of A the world is as it was
structure Kp (A : Nat → Prop) (w w' : World) : Prop where
  os : w'.os = w.os
  tape : w'.tape = w.tape
  output : w'.output = w.output
  size : w.heap.size ≤ w'.heap.size
  block : ∀ k, k < w.heap.size → ¬ A k → w'.heap[k]? = w.heap[k]?
theorem Kp.refl (A : Nat → Prop) (w : World) : Kp A w w := ⟨rfl, rfl, rfl, Nat.le_refl _, fun _ _ _ => rfl⟩
theorem Kp.trans {A : Nat → Prop} {a b c : World} (x : Kp A a b) (y : Kp A b c) : Kp A a c :=
  ⟨y.os.trans x.os, y.tape.trans x.tape, y.output.trans x.output, Nat.le_trans x.size y.size, fun k hk hn => (y.block k (Nat.lt_of_lt_of_le hk x.size) hn).trans (x.block k hk hn)⟩
theorem Kp.mono {A B : Nat → Prop} {w w' : World} (x : Kp A w w') (h : ∀ k, A k → B k) : Kp B w w' := ⟨x.os, x.tape, x.output, x.size, fun k hk hn => x.block k hk (fun a => hn (h k a))⟩
theorem Kp.of_below {A : Nat → Prop} {w w' : World} (x : Below w.heap.size w w') : Kp A w w' := ⟨x.os, x.tape, x.output, x.size, fun k hk _ => x.block k hk⟩
theorem Kp.setCell {A : Nat → Prop} (w : World) (b o : Nat) (v : Value) (hb : A b) : Kp A w (w.setCell ⟨b, o, none⟩ v) :=
  ⟨rfl, rfl, rfl, by simp [World.setCell], fun k hk hn => Below.heap_setCell _ _ _ _ (fun e => hn (e ▸ hb))⟩
theorem Kp.below {A : Nat → Prop} {B : Nat} {w w' : World} (x : Kp A w w') (hA : ∀ k, A k → B ≤ k) (hB : B ≤ w.heap.size) : Below B w w' :=
  ⟨x.os, x.tape, x.output, x.size, fun k hk => x.block k (by omega) (fun a => by have := hA k a; omega)⟩
theorem Kp.cell {A : Nat → Prop} {w w' : World} (x : Kp A w w') {b o : Nat} {v : Value} (h : w.cell? ⟨b, o, none⟩ = some v) (hn : ¬ A b) : w'.cell? ⟨b, o, none⟩ = some v := by
  have hlt := World.block_lt_of_cell? _ _ h
  have := x.block b hlt hn
  rw [← h]
  unfold World.cell?
  rw [show (⟨b, o, none⟩ : Addr).block = b from rfl, this]
-- from A at w to A' at w': new blocks only are added
def Goes (A : Nat → Prop) (w : World) (A' : Nat → Prop) (w' : World) : Prop := Kp A w w' ∧ ∀ b, A' b → A b ∨ w.heap.size ≤ b
theorem Goes.refl (A : Nat → Prop) (w : World) : Goes A w A w := ⟨Kp.refl _ _, fun b h => .inl h⟩
theorem Goes.trans {A B C : Nat → Prop} {u v w : World} (x : Goes A u B v) (y : Goes B v C w) : Goes A u C w := by
  refine ⟨⟨y.1.os.trans x.1.os, y.1.tape.trans x.1.tape, y.1.output.trans x.1.output, Nat.le_trans x.1.size y.1.size, fun k hk hn => ?_⟩, fun b hb => ?_⟩
  · refine (y.1.block k (Nat.lt_of_lt_of_le hk x.1.size) fun hB => ?_).trans (x.1.block k hk hn)
    rcases x.2 k hB with h | h
    · exact hn h
    · omega
  · rcases y.2 b hb with h | h
    · exact x.2 b h
    · exact .inr (Nat.le_trans x.1.size h)
theorem Goes.of_below {A : Nat → Prop} {w w' : World} (x : Below w.heap.size w w') : Goes A w A w' := ⟨Kp.of_below x, fun b h => .inl h⟩
-- a row that lies beside A stays
theorem Goes.out {A A' : Nat → Prop} {w w' : World} (x : Goes A w A' w') {b : Nat} (hb : b < w.heap.size) (hn : ¬ A b) : ¬ A' b := fun h => (x.2 b h).elim hn (by omega)
theorem owns_keep {w w' : World} {base : Nat} {e : TypeId} {size : Nat} {v : Value} {n : Nat} {xs : List Value} (h : w.ownsRow base e size v n xs) (hk : ∀ g, v.ownBlock = some g → w'.heap[g]? = w.heap[g]?) : w'.ownsRow base e size v n xs := by
  obtain ⟨hl, h | ⟨g, cap, cur, rfl, hb, hh, r⟩⟩ := h
  · exact ⟨hl, .inl h⟩
  · exact ⟨hl, .inr ⟨g, cap, cur, rfl, hb, (hk g rfl).trans hh, r⟩⟩
theorem owns_lt {w : World} {base : Nat} {e : TypeId} {size : Nat} {v : Value} {n : Nat} {xs : List Value} (h : w.ownsRow base e size v n xs) {g : Nat} (hg : v.ownBlock = some g) : g < w.heap.size ∧ base ≤ g := by
  obtain ⟨hl, ⟨rfl, _⟩ | ⟨g', cap, cur, rfl, hb, hh, r⟩⟩ := h
  · cases hg
  · obtain rfl : g' = g := by simpa [Value.ownBlock] using hg
    exact ⟨(Array.getElem?_eq_some_iff.1 hh).1, hb⟩
-- a row of one's own beside A
def Beside (A : Nat → Prop) (v : Value) : Prop := ∀ g, v.ownBlock = some g → ¬ A g
theorem Goes.owns {A A' : Nat → Prop} {w w' : World} (x : Goes A w A' w') {base : Nat} {e : TypeId} {size : Nat} {v : Value} {n : Nat} {xs : List Value} (h : w.ownsRow base e size v n xs) (hb : Beside A v) : w'.ownsRow base e size v n xs ∧ Beside A' v :=
  ⟨owns_keep h fun g hg => x.1.block g (owns_lt h hg).1 (hb g hg), fun g hg => x.out (owns_lt h hg).1 (hb g hg)⟩
theorem Goes.cell {A A' : Nat → Prop} {w w' : World} (x : Goes A w A' w') {b o : Nat} {v : Value} (h : w.cell? ⟨b, o, none⟩ = some v) (hn : ¬ A b) : w'.cell? ⟨b, o, none⟩ = some v := x.1.cell h hn
-- a list of addresses beside A
def ReadsAB (A : Nat → Prop) (w : World) (v : Value) (L : List (Nat × Nat)) : Prop := ReadsA w v L ∧ Beside A v
theorem Goes.readsA {A A' : Nat → Prop} {w w' : World} (x : Goes A w A' w') {v : Value} {L : List (Nat × Nat)} (h : ReadsA w v L) (hb : ∀ b off n cap, v = .slice (some ⟨b, off, none⟩) n cap → ¬ A b) : ReadsA w' v L := by
  obtain ⟨a, cap, rfl, h0 | ⟨b, rfl, hc⟩⟩ := h
  · exact ⟨a, cap, rfl, .inl h0⟩
  · have hn := hb b 0 _ _ rfl
    exact ⟨_, cap, rfl, .inr ⟨b, rfl, fun i y hy => ⟨x.cell (hc i y hy).1 hn, x.cell (hc i y hy).2 hn⟩⟩⟩
-- a reader's Node: F: the blocks that it reads and writes, l: what was asked
structure Rd (g : Nat) (fb lb : Array Value) (ask : Nat → Nat × Nat → ByteArray × Int) (J : (Nat → Prop) → List (Nat × Nat) → World → Prop) (N : Nat) (D : Nat → Prop) : Prop where
  enter : ∀ args w, (callFunc g args).run Tryd.prog w = .ok (.enter g args) w
  call : ∀ F l (a : Nat × Nat) w, l.length < N → okA a.1 a.2 → J F l w → Calls Tryd.prog g (fb ++ #[.agg #[.int .i64 a.1, .int .i64 a.2]] ++ lb) w fun e w' =>
    e = .returned (.tuple #[.string (ask (l.length + 1) a).1, .int .i64 (ask (l.length + 1) a).2]) ∧ ∃ F', J F' (l ++ [a]) w' ∧ Goes F w F' w'
  keep : ∀ {F G : Nat → Prop} {l w w'}, J F l w → Kp G w w' → (∀ b, G b → ¬ F b ∧ ¬ D b) → J F l w'
  big : ∀ {F : Nat → Prop} {l w}, J F l w → ∀ b, D b → b < w.heap.size
  within : ∀ {F : Nat → Prop} {l w}, J F l w → ∀ b, F b → b < w.heap.size
  tab : ∀ {F : Nat → Prop} {l w}, J F l w → TB w
  fits : ∀ k a, -9223372036854775808 ≤ (ask k a).2 ∧ (ask k a).2 ≤ 9223372036854775807
theorem Rd.later {g : Nat} {fb lb : Array Value} {ask : Nat → Nat × Nat → ByteArray × Int} {J : (Nat → Prop) → List (Nat × Nat) → World → Prop} {N : Nat} {D : Nat → Prop} (h : Rd g fb lb ask J N D) {F : Nat → Prop} {l : List (Nat × Nat)} {w w' : World} (hJ : J F l w) (hb : Below w.heap.size w w') : J F l w' :=
  h.keep (G := fun _ => False) hJ (Kp.of_below hb) (fun _ x => x.elim)
end Go.Proofs.YtajfcddabkhamaaDoor.ac

namespace Go.Proofs.YtajfcddabkhamaaDoor.kb
open Go.RowKit Go.PlainAid
open Go.Proofs.YtajfcddabkhamaaDoor.pl Go.Proofs.YtajfcddabkhamaaDoor.pi Go.Proofs.YtajfcddabkhamaaDoor.pj Go.Proofs.YtajfcddabkhamaaDoor.rf Go.Proofs.YtajfcddabkhamaaDoor.ca Go.Proofs.YtajfcddabkhamaaDoor.cp Go.Proofs.YtajfcddabkhamaaDoor.ka
set_option linter.unusedVariables false

theorem width (m : Int) (w : World) : Calls Tryd.prog 17 #[.int .i64 m] w fun e w' => e = .returned (.int .i64 (wid m)) ∧ w' = w := by
  by_cases h1 : m < 1
  · have d1 : decide (m < 1) = true := decide_eq_true h1
    rw [show wid m = 32 by unfold wid; rw [if_pos (.inl h1)]]
    clear h1
    go_enter Tryd.func17, Tryd.ntmps17
    go_wp2
    go_ret
    exact ⟨rfl, rfl⟩
  · have d1 : decide (m < 1) = false := decide_eq_false h1
    by_cases h2 : 32 < m
    · have d2 : decide (32 < m) = true := decide_eq_true h2
      rw [show wid m = 32 by unfold wid; rw [if_pos (.inr h2)]]
      clear h1 h2
      go_enter Tryd.func17, Tryd.ntmps17
      go_wp2
      go_ret
      exact ⟨rfl, rfl⟩
    · have d2 : decide (32 < m) = false := decide_eq_false h2
      obtain ⟨k, rfl⟩ := Int.eq_ofNat_of_zero_le (show 0 ≤ m by omega)
      rw [show wid (k : Int) = k by unfold wid; rw [if_neg (fun h => h.elim h1 h2)]; omega]
      clear h1 h2
      go_enter Tryd.func17, Tryd.ntmps17
      go_wp2
      go_ret
      exact ⟨rfl, rfl⟩
theorem rcut_of (x s : ByteArray) (m : Int) (w : World) (hx : x.size = 32) (hsum : Calls Tryd.prog 49 #[.string s] w fun e w' => e = .returned (.string x) ∧ Below w.heap.size w w') :
    Calls Tryd.prog 41 #[.string s, .int .i64 m] w fun e w' => e = .returned (.string (x.extract 0 (wid m))) ∧ Below w.heap.size w w' := by
  have HSUM : Hid (Calls _ _ _ _ _) := hsum
  have hw := wid_le m
  have W : Hid (∀ w', Calls _ _ _ _ _) := width m
  clear hsum
  generalize wid m = k at *
  have hk : (k : Int) ≤ 32 := by omega
  go_enter Tryd.func41, Tryd.ntmps41
  go_wp2_with fail
  refine HSUM.out.mono ?_
  rintro e w1 ⟨rfl, hb1⟩
  have HB1 : Hid (Below _ _ _) := hb1
  clear hb1
  go_wp2_with fail
  refine (W.out _).mono ?_
  rintro e w2 ⟨rfl, rfl⟩
  go_wp2
  go_ret
  exact ⟨rfl, HB1.out⟩
theorem rCut (s : ByteArray) (m : Int) (w : World) (hs : s.size ≤ 140737488352256) (T : Tab4 w) :
    Calls Tryd.prog 41 #[.string s, .int .i64 m] w fun e w' => e = .returned (.string ((sha s).extract 0 (wid m))) ∧ Below w.heap.size w w' :=
  rcut_of (sha s) s m w (sha_size s) (RSum s w hs T)
def cutS (s : ByteArray) (m : Int) : ByteArray := (sha s).extract 0 (wid m)
def EF (m : Int) : ByteArray := cutS ByteArray.empty m
def LF (m : Int) (d : ByteArray) : ByteArray := cutS ((⟨#[0]⟩ : ByteArray) ++ d) m
def NF (m : Int) (l r : ByteArray) : ByteArray := cutS ((⟨#[1]⟩ : ByteArray) ++ l ++ r) m
theorem cutS_size (s : ByteArray) (m : Int) : (cutS s m).size = wid m := by
  unfold cutS
  rw [ByteArray.size_extract, sha_size]
  have := wid_le m
  omega
theorem sz0 : (⟨#[0]⟩ : ByteArray).size = 1 := rfl
theorem sz1 : (⟨#[1]⟩ : ByteArray).size = 1 := rfl
theorem rNode (m : Int) (l r : ByteArray) (hd : l.size + r.size ≤ 140737488351232) (w : World) (T : Tab4 w) : Calls Tryd.prog 51 #[.int .i64 m, .string l, .string r] w fun e w' => e = .returned (.string (NF m l r)) ∧ Below w.heap.size w w' := by
  have hz : ((⟨#[1]⟩ : ByteArray) ++ l).size = 1 + l.size := by rw [ByteArray.size_append, sz1]
  have C : Hid (Calls _ _ _ _ _) := rCut ((⟨#[1]⟩ : ByteArray) ++ l ++ r) m w (by rw [ByteArray.size_append, hz]; omega) T
  have HE : Hid ((sha ((⟨#[1]⟩ : ByteArray) ++ l ++ r)).extract 0 (wid m) = NF m l r) := rfl
  rw [HE.out] at C
  have h0 := sz1
  clear T HE
  go_enter Tryd.func51, Tryd.ntmps51
  go_wp2_with fail
  refine C.out.mono ?_
  rintro e w1 ⟨rfl, hb⟩
  have B1 : Hid (Below w.heap.size w w1) := hb
  clear hb
  go_wp2
  go_ret
  exact ⟨rfl, B1.out⟩
end Go.Proofs.YtajfcddabkhamaaDoor.kb

namespace Go.Proofs.YtajfcddabkhamaaDoor.kd
open Go.RowKit Go.PlainAid
open Go.Proofs.YtajfcddabkhamaaDoor.ca Go.Proofs.YtajfcddabkhamaaDoor.cp
set_option linter.unusedVariables false

set_option maxHeartbeats 800000 in
theorem rValid (L I : Int) (w : World) :
    Calls Tryd.prog 48 #[.agg #[.int .i64 L, .int .i64 I]] w fun e w' => e = .returned (.bool (decide (okA L I))) ∧ Below w.heap.size w w' := by
  obtain ⟨r, HR⟩ : ∃ r, Hid (decide (okA L I) = r) := ⟨_, rfl⟩
  rw [HR.out]
  have B0 : Hid (Below w.heap.size w (w.alloc (.cells #[.int .i64 L, .int .i64 I] 57))) := (Below.refl _ _).alloc (Nat.le_refl _) _
  have HF : ¬ okA L I → Hid (r = false) := fun h => by show _ = _; rw [← HR.out]; exact decide_eq_false h
  by_cases a1 : L < 0
  · have HV : Hid (r = false) := HF (fun h => by have := h.1; omega)
    clear HF
    go_enter Tryd.func48, Tryd.ntmps48
    go_wp2
    go_ret
    exact ⟨by rw [HV.out]; rfl, B0.out⟩
  · by_cases a2 : L > 62
    · have HV : Hid (r = false) := HF (fun h => by have := h.2.1; omega)
      clear HF
      go_enter Tryd.func48, Tryd.ntmps48
      go_wp2
      go_ret
      exact ⟨by rw [HV.out]; rfl, B0.out⟩
    · by_cases a3 : I < 0
      · have HV : Hid (r = false) := HF (fun h => by have := h.2.2.1; omega)
        clear HF
        go_enter Tryd.func48, Tryd.ntmps48
        go_wp2
        go_ret
        exact ⟨by rw [HV.out]; rfl, B0.out⟩
      · obtain ⟨k, rfl⟩ : ∃ k : Nat, L = k := ⟨L.toNat, by omega⟩
        have hk : k ≤ 62 := by omega
        obtain ⟨t, HT⟩ : ∃ t : Nat, Hid (2 ^ k = t) := ⟨_, rfl⟩
        have hT : (2 : Int) ^ k = (t : Int) := by rw [cast_pow, HT.out]
        have HV : Hid (r = decide (I < 4611686018427387904 / (t : Int))) := by
          show _ = _
          rw [← HR.out]
          refine decide_eq_decide.2 ?_
          unfold okA
          rw [Int.toNat_natCast, hT]
          omega
        clear HF
        go_enter Tryd.func48, Tryd.ntmps48
        go_wp2
        go_ret
        exact ⟨by rw [HV.out]; rfl, B0.out⟩
set_option maxHeartbeats 800000 in
theorem rSpan (L I : Int) (w : World) :
    Calls Tryd.prog 40 #[.agg #[.int .i64 L, .int .i64 I]] w fun e w' => e = .returned (spV L I) ∧ Below w.heap.size w w' := by
  have V1 : Hid (∀ w, Calls _ _ _ _ _) := fun w => rValid L I w
  by_cases hok : okA L I
  · obtain ⟨k, i, rfl, rfl, hk, hf⟩ := okA_form hok
    rw [decide_eq_true hok] at V1
    rw [spV_nat hok]
    have HX : Hid (Bx (w.alloc (.cells #[.int .i64 (k : Int), .int .i64 (i : Int)] 57)) w.heap.size k i) := bx_new _ _ _
    obtain ⟨f, HF⟩ : ∃ f, Hid (i * 2 ^ k = f) := ⟨_, rfl⟩
    obtain ⟨g, HG⟩ : ∃ g, Hid ((i + 1) * 2 ^ k = g) := ⟨_, rfl⟩
    rw [HF.out, HG.out]
    rw [HG.out] at hf
    clear hok
    go_enter Tryd.func40, Tryd.ntmps40
    go_wp2_with fail
    refine (V1.out _).mono ?_
    rintro e w1 ⟨rfl, hb⟩
    have B1 : Hid (Below w.heap.size w w1) := over ((Below.refl _ _).alloc (Nat.le_refl _) _) hb
    obtain ⟨c1, c2⟩ := HX.out.later hb
    have him : i ≤ 4611686018427387904 := by
      have := Nat.le_mul_of_pos_right (i + 1) (p2 k)
      rw [HG.out] at this
      omega
    have hfg : f ≤ g := by rw [← HF.out, ← HG.out]; exact Nat.mul_le_mul_right _ (by omega)
    have hw2 : IntKind.u64.wrap (k : Int) = k := u64_is k (by omega)
    have hw3 : min (k : Int).toNat 64 = k := by omega
    have hw4 : min k 64 = k := by omega
    have hw5 : IntKind.i64.wrap ((i : Int) * 2 ^ k) = f := by rw [cast_pow, ← Int.natCast_mul, HF.out]; exact wrap_is f (by omega)
    have hw6 : IntKind.i64.wrap ((i : Int) + 1) = (i : Int) + 1 := by rw [IntKind.wrap_i64]; omega
    have hw7 : IntKind.i64.wrap (((i : Int) + 1) * 2 ^ k) = g := by rw [cast_pow, show (i : Int) + 1 = ((i + 1 : Nat) : Int) by omega, ← Int.natCast_mul, HG.out]; exact wrap_is g (by omega)
    clear hb
    go_wp2_with fail
    go_quiet (fail)
    go_wp2
    go_returns
    exact ⟨rfl, below_dN B1.out _⟩
  · rw [decide_eq_false hok] at V1
    rw [show spV L I = .tuple #[.int .i64 0, .int .i64 0, .int .i64 50] by unfold spV; rw [if_neg hok]]
    clear hok
    go_enter Tryd.func40, Tryd.ntmps40
    go_wp2_with fail
    refine (V1.out _).mono ?_
    rintro e w1 ⟨rfl, hb⟩
    have B1 : Hid (Below w.heap.size w w1) := over ((Below.refl _ _).alloc (Nat.le_refl _) _) hb
    clear hb
    go_wp2
    go_returns
    exact ⟨rfl, B1.out⟩
end Go.Proofs.YtajfcddabkhamaaDoor.kd

namespace Go.Proofs.YtajfcddabkhamaaDoor.si
open Go.Shelf
set_option linter.unusedVariables false
def laysM171_ren : Go.Shelf.Ren := ⟨fun | 171 => 42 | 243 => 50 | 246 => 56 | 283 => 60 | 284 => 61 | 285 => 62 | 286 => 63 | 129 => 46 | 317 => 65 | 318 => 66 | 319 => 67 | 320 => 68 | 337 => 69 | 338 => 70 | n => n, fun | 3 => 3 | 9 => 9 | 2 => 2 | 4 => 4 | 171 => 100 | 0 => 0 | 53 => 77 | 37 => 65 | 5 => 5 | 173 => 102 | 212 => 106 | 51 => 92 | 20 => 20 | 213 => 107 | 46 => 55 | 232 => 110 | 233 => 111 | n => n, fun | 17 => 3 | 18 => 4 | 19 => 5 | n => n⟩
theorem laysM171 : Go.Proofs.LaysM.n171 Tryd.prog laysM171_ren := {
  mixed := by kernel_rfl
  f129 := Tryd.func46.trans (congrArg some (by kernel_rfl))
  f171 := Tryd.func42.trans (congrArg some (by kernel_rfl))
  f243 := Tryd.func50.trans (congrArg some (by kernel_rfl))
  f246 := Tryd.func56.trans (congrArg some (by kernel_rfl))
  f283 := Tryd.func60.trans (congrArg some (by kernel_rfl))
  f284 := Tryd.func61.trans (congrArg some (by kernel_rfl))
  f285 := Tryd.func62.trans (congrArg some (by kernel_rfl))
  f286 := Tryd.func63.trans (congrArg some (by kernel_rfl))
  f317 := Tryd.func65.trans (congrArg some (by kernel_rfl))
  f318 := Tryd.func66.trans (congrArg some (by kernel_rfl))
  f319 := Tryd.func67.trans (congrArg some (by kernel_rfl))
  f320 := Tryd.func68.trans (congrArg some (by kernel_rfl))
  f337 := Tryd.func69.trans (congrArg some (by kernel_rfl))
  f338 := Tryd.func70.trans (congrArg some (by kernel_rfl))
  t0 := Tryd.underlying0
  a0 := Tryd.isAgg0
  z0 := Tryd.sizeOf0
  v0 := Tryd.zeroValue0
  t2 := Tryd.underlying2
  a2 := Tryd.isAgg2
  z2 := Tryd.sizeOf2
  v2 := Tryd.zeroValue2
  t3 := Tryd.underlying3
  a3 := Tryd.isAgg3
  z3 := Tryd.sizeOf3
  v3 := Tryd.zeroValue3
  t4 := Tryd.underlying4
  a4 := Tryd.isAgg4
  z4 := Tryd.sizeOf4
  v4 := Tryd.zeroValue4
  t5 := Tryd.underlying5
  a5 := Tryd.isAgg5
  z5 := Tryd.sizeOf5
  v5 := Tryd.zeroValue5
  t9 := Tryd.underlying9
  a9 := Tryd.isAgg9
  z9 := Tryd.sizeOf9
  v9 := Tryd.zeroValue9
  t20 := Tryd.underlying20
  a20 := Tryd.isAgg20
  z20 := Tryd.sizeOf20
  v20 := Tryd.zeroValue20
  t37 := Tryd.underlying65
  a37 := Tryd.isAgg65
  z37 := Tryd.sizeOf65
  v37 := Tryd.zeroValue65
  t46 := Tryd.underlying55
  a46 := Tryd.isAgg55
  z46 := Tryd.sizeOf55
  v46 := Tryd.zeroValue55
  t51 := Tryd.underlying92
  a51 := Tryd.isAgg92
  z51 := Tryd.sizeOf92
  v51 := Tryd.zeroValue92
  t53 := Tryd.underlying77
  a53 := Tryd.isAgg77
  z53 := Tryd.sizeOf77
  v53 := Tryd.zeroValue77
  t171 := Tryd.underlying100
  a171 := Tryd.isAgg100
  z171 := Tryd.sizeOf100
  v171 := Tryd.zeroValue100
  t173 := Tryd.underlying102
  a173 := Tryd.isAgg102
  z173 := Tryd.sizeOf102
  v173 := Tryd.zeroValue102
  t212 := Tryd.underlying106
  a212 := Tryd.isAgg106
  z212 := Tryd.sizeOf106
  v212 := Tryd.zeroValue106
  t213 := Tryd.underlying107
  a213 := Tryd.isAgg107
  z213 := Tryd.sizeOf107
  t232 := Tryd.underlying110
  a232 := Tryd.isAgg110
  z232 := Tryd.sizeOf110
  v232 := Tryd.zeroValue110
  t233 := Tryd.underlying111
  a233 := Tryd.isAgg111
  z233 := Tryd.sizeOf111
  v233 := Tryd.zeroValue111
  g17 := by kernel_rfl
  g18 := by kernel_rfl
  g19 := by kernel_rfl
  i0 := by kernel_rfl
  i2 := by kernel_rfl
  i3 := by kernel_rfl
  i4 := by kernel_rfl
  i5 := by kernel_rfl
  i9 := by kernel_rfl
  i20 := by kernel_rfl
  i37 := by kernel_rfl
  i46 := by kernel_rfl
  i51 := by kernel_rfl
  i53 := by kernel_rfl
  i171 := by kernel_rfl
  i173 := by kernel_rfl
  i212 := by kernel_rfl
  i232 := by kernel_rfl
  i233 := by kernel_rfl
  m17 := by kernel_rfl
  m18 := by kernel_rfl
  m19 := by kernel_rfl }
end Go.Proofs.YtajfcddabkhamaaDoor.si

namespace Go.Proofs.YtajfcddabkhamaaDoor.mh
open Go.RowKit Go.PlainAid
open Go.Proofs.YtajfcddabkhamaaDoor.ca Go.Proofs.YtajfcddabkhamaaDoor.cb Go.Proofs.YtajfcddabkhamaaDoor.cp Go.Proofs.YtajfcddabkhamaaDoor.ga Go.Proofs.YtajfcddabkhamaaDoor.xa Go.Proofs.YtajfcddabkhamaaDoor.xb
set_option linter.unusedVariables false

theorem half_len {n : Nat} (h : 2 ≤ n) (hn : n ≤ 4611686018427387904) : ∃ l, Lib.bitLen (n - 1) = l + 1 ∧ half n = 2 ^ l ∧ l ≤ 62 := by
  obtain ⟨g1, g2⟩ := len_spec (n - 1) (by omega)
  obtain ⟨g3, g4⟩ := g2 (by omega)
  have g5 := len_le63 (n - 1) (by omega)
  obtain ⟨l, hl⟩ : ∃ l, Lib.bitLen (n - 1) = l + 1 := ⟨Lib.bitLen (n - 1) - 1, by omega⟩
  rw [hl] at g1 g3 g5
  rw [Nat.add_sub_cancel] at g3
  exact ⟨l, hl, half_eq (by omega) (by omega), by omega⟩
end Go.Proofs.YtajfcddabkhamaaDoor.mh

namespace Go.Proofs.YtajfcddabkhamaaDoor.ba
open Go.RowKit Go.PlainAid
open Go.Proofs.YtajfcddabkhamaaDoor.pl Go.Proofs.YtajfcddabkhamaaDoor.pi Go.Proofs.YtajfcddabkhamaaDoor.pj Go.Proofs.YtajfcddabkhamaaDoor.rf Go.Proofs.YtajfcddabkhamaaDoor.ca Go.Proofs.YtajfcddabkhamaaDoor.cb Go.Proofs.YtajfcddabkhamaaDoor.cp Go.Proofs.YtajfcddabkhamaaDoor.ga Go.Proofs.YtajfcddabkhamaaDoor.aa Go.Proofs.YtajfcddabkhamaaDoor.xc Go.Proofs.YtajfcddabkhamaaDoor.kb Go.Proofs.YtajfcddabkhamaaDoor.mh
set_option linter.unusedVariables false

def pv (a b : Nat) : Value := .agg #[.int .i64 a, .int .i64 b]
end Go.Proofs.YtajfcddabkhamaaDoor.ba
