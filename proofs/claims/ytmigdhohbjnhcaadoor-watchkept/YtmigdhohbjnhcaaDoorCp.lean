import Derived.Test.YtmigdhohbjnhcaaDoorCa
import Derived.WalkKit
import Derived.Tactics
import Derived.Below
import Derived.BigQuiet
import Derived.Laws.AppendOwn
import Derived.Laws.OwnMore
import Derived.Test.YtmigdhohbjnhcaaDoorProg
namespace Go.Proofs.YtmigdhohbjnhcaaDoor.cp
open Go.RowKit Go.PlainAid
open Go.Proofs.YtmigdhohbjnhcaaDoor.ca
set_option linter.unusedVariables false

theorem cast_pow (k : Nat) : ((2 : Int) ^ k) = ((2 ^ k : Nat) : Int) := by rw [Int.natCast_pow]; rfl
theorem p62 : (2 : Nat) ^ 62 = 4611686018427387904 := by decide
theorem p63 : (2 : Nat) ^ 63 = 9223372036854775808 := by decide
theorem wrap_is (n : Nat) (h : n < 9223372036854775808) : IntKind.i64.wrap (n : Int) = n := by
  rw [IntKind.wrap_i64]
  omega
theorem u64_is (k : Nat) (h : k ≤ 64) : IntKind.u64.wrap (k : Int) = k := by
  rw [IntKind.wrap_u64]
  omega
-- 2 to the k as the walk has it
theorem pow_int {k : Nat} (h : k ≤ 62) : IntKind.i64.wrap (1 * 2 ^ min (k : Int).toNat 64) = ((2 ^ k : Nat) : Int) := by
  rw [Int.toNat_natCast, Nat.min_eq_left (by omega), Int.one_mul, cast_pow, wrap_is]
  have := p2le h
  rw [p62] at this
  omega
def i64 (x : Int) : Prop := -9223372036854775808 ≤ x ∧ x ≤ 9223372036854775807
-- may there be such a node?
def okA (L I : Int) : Prop := 0 ≤ L ∧ L ≤ 62 ∧ 0 ≤ I ∧ I < 4611686018427387904 / 2 ^ L.toNat
instance (L I : Int) : Decidable (okA L I) := by unfold okA; infer_instance
theorem okA_nat (k i : Nat) : okA k i ↔ k ≤ 62 ∧ (i + 1) * 2 ^ k ≤ 4611686018427387904 := by
  have e : (4611686018427387904 : Int) / 2 ^ (k : Int).toNat = ((4611686018427387904 / 2 ^ k : Nat) : Int) := by
    rw [Int.toNat_natCast, cast_pow, Int.natCast_ediv]
    rfl
  have key : i < 4611686018427387904 / 2 ^ k ↔ (i + 1) * 2 ^ k ≤ 4611686018427387904 := Nat.le_div_iff_mul_le (p2 k)
  unfold okA
  rw [e, ← key]
  omega
theorem okA_form {L I : Int} (h : okA L I) : ∃ k i : Nat, L = k ∧ I = i ∧ k ≤ 62 ∧ (i + 1) * 2 ^ k ≤ 4611686018427387904 := by
  obtain ⟨k, rfl⟩ : ∃ k : Nat, L = k := ⟨L.toNat, by have := h.1; omega⟩
  obtain ⟨i, rfl⟩ : ∃ i : Nat, I = i := ⟨I.toNat, by have := h.2.2.1; omega⟩
  exact ⟨k, i, rfl, rfl, ((okA_nat k i).1 h).1, ((okA_nat k i).1 h).2⟩
def av (L I : Int) : Value := .agg #[.int .i64 L, .int .i64 I]
def spV (L I : Int) : Value := if okA L I then .tuple #[.int .i64 (I * 2 ^ L.toNat), .int .i64 ((I + 1) * 2 ^ L.toNat), .int .i64 0] else .tuple #[.int .i64 0, .int .i64 0, .int .i64 50]
def kinV (L I L' I' : Int) : Value := if okA L I ∧ okA L' I' then .tuple #[.agg #[.int .i64 L', .int .i64 I'], .int .i64 0] else .tuple #[.agg #[.int .i64 0, .int .i64 0], .int .i64 50]
def sib (I : Int) : Int := if I % 2 = 0 then I + 1 else I - 1
theorem spV_nat {k i : Nat} (h : okA k i) : spV k i = .tuple #[.int .i64 ((i * 2 ^ k : Nat) : Int), .int .i64 (((i + 1) * 2 ^ k : Nat) : Int), .int .i64 0] := by
  unfold spV
  rw [if_pos h, Int.toNat_natCast, cast_pow]
  simp
theorem up_fits {k i : Nat} (hk : k < 62) (h : (i + 1) * 2 ^ k ≤ 4611686018427387904) : (i / 2 + 1) * 2 ^ (k + 1) ≤ 4611686018427387904 := by
  obtain ⟨z, hz⟩ : ∃ z, 4611686018427387904 = 2 * z * 2 ^ k := by
    refine ⟨2 ^ (61 - k), ?_⟩
    rw [← p2s, ← Nat.pow_add, show 61 - k + 1 + k = 62 by omega]
  rw [hz] at h ⊢
  have h1 : i + 1 ≤ 2 * z := Nat.le_of_mul_le_mul_right h (p2 k)
  rw [p2s, ← Nat.mul_assoc]
  exact Nat.mul_le_mul_right _ (by omega)
theorem i64_nat {n : Nat} (h : n ≤ 4611686018427387904) : i64 (n : Int) := ⟨by omega, by omega⟩
theorem below_dN {B : Nat} {a w : World} (h : Below B a w) (n : Nat) : Below B a (w.drewN n) := ⟨h.os, h.tape, h.output, h.size, h.block⟩
theorem over {w w1 w2 : World} (h : Below w.heap.size w w1) (b : Below w1.heap.size w1 w2) : Below w.heap.size w w2 := h.trans (b.mono h.size)
theorem own_later {w w' : World} {B e size n : Nat} {v : Value} {xs : List Value} (h : w.ownsRow B e size v n xs) (hb : Below w.heap.size w w') : w'.ownsRow B e size v n xs := by
  refine ⟨h.1, ?_⟩
  rcases h.2 with hn | ⟨g, cap, cur, rfl, hg, hgg, rest⟩
  · exact .inl hn
  · exact .inr ⟨g, cap, cur, rfl, hg, by rw [hb.block g (Array.getElem?_eq_some_iff.1 hgg).1]; exact hgg, rest⟩
theorem own_down {w : World} {B B' e size n : Nat} {v : Value} {xs : List Value} (h : w.ownsRow B' e size v n xs) (hB : B ≤ B') : w.ownsRow B e size v n xs :=
  ⟨h.1, h.2.imp id fun ⟨g, cap, cur, h1, h2, h3⟩ => ⟨g, cap, cur, h1, Nat.le_trans hB h2, h3⟩⟩
-- an address in a block of its own
structure Bx (w : World) (b : Nat) (L I : Int) : Prop where
  one : w.cell? ⟨b, 0, none⟩ = some (.int .i64 L)
  two : w.cell? ⟨b, 1, none⟩ = some (.int .i64 I)
theorem Bx.later {w w' : World} {b : Nat} {L I : Int} (h : Bx w b L I) (hb : Below w.heap.size w w') : Bx w' b L I :=
  ⟨(hb.cell (p := ⟨b, 0, none⟩) (World.block_lt_of_cell? _ _ h.one)).trans h.one, (hb.cell (p := ⟨b, 1, none⟩) (World.block_lt_of_cell? _ _ h.two)).trans h.two⟩
theorem kin_no {L I L' I' : Int} (h : ¬ (okA L I ∧ okA L' I')) : kinV L I L' I' = .tuple #[.agg #[.int .i64 0, .int .i64 0], .int .i64 50] := by unfold kinV; rw [if_neg h]
theorem kin_yes {L I L' I' : Int} (h1 : okA L I) (h2 : okA L' I') : kinV L I L' I' = .tuple #[.agg #[.int .i64 L', .int .i64 I'], .int .i64 0] := by unfold kinV; rw [if_pos ⟨h1, h2⟩]
end Go.Proofs.YtmigdhohbjnhcaaDoor.cp
