import Derived.Test.YthdkbjbhjfiaiaaGreatDoorK4
import Derived.Test.YthdkbjbhjfiaiaaGreatDoorH1
import Derived.Shelf.SlicesQ.Reverse
import Derived.Lib.OwnBridge
namespace Go.Proofs.YthdkbjbhjfiaiaaGreatDoor.q4
open Go.RowKit Go.PlainAid Go.Shelf Go.Sort
open Go.Proofs.YthdkbjbhjfiaiaaGreatDoor.tb Go.Proofs.YthdkbjbhjfiaiaaGreatDoor.tc Go.Proofs.YthdkbjbhjfiaiaaGreatDoor.tj Go.Proofs.YthdkbjbhjfiaiaaGreatDoor.o1 Go.Proofs.YthdkbjbhjfiaiaaGreatDoor.o3 Go.Proofs.YthdkbjbhjfiaiaaGreatDoor.o4 Go.Proofs.YthdkbjbhjfiaiaaGreatDoor.o5 Go.Proofs.YthdkbjbhjfiaiaaGreatDoor.o6 Go.Proofs.YthdkbjbhjfiaiaaGreatDoor.q1 Go.Proofs.YthdkbjbhjfiaiaaGreatDoor.kp
set_option linter.unusedVariables false
set_option maxRecDepth 4000

def renR : Ren := ⟨fun | 35 => 41 | n => n, fun | 0 => 0 | 3 => 3 | 4 => 4 | 22 => 23 | 23 => 43 | n => n, fun | n => n⟩
theorem laysR : Go.Proofs.SlLaysE0.n35 Tryz.prog renR := {
  mixed := by kernel_rfl
  f35 := ⟨Tryz.f41.name, by decide, Tryz.func41.trans (congrArg some (by kernel_rfl))⟩
  t0 := Tryz.underlying0
  a0 := Tryz.isAgg0
  z0 := Tryz.sizeOf0
  v0 := Tryz.zeroValue0
  t3 := Tryz.underlying3
  a3 := Tryz.isAgg3
  z3 := Tryz.sizeOf3
  v3 := Tryz.zeroValue3
  t4 := Tryz.underlying4
  a4 := Tryz.isAgg4
  z4 := Tryz.sizeOf4
  v4 := Tryz.zeroValue4
  t22 := Tryz.underlying23
  a22 := Tryz.isAgg23
  z22 := Tryz.sizeOf23
  v22 := Tryz.zeroValue23 }
theorem put_other {α : Type} [Inhabited α] (enc : α → Value) (w : World) (g off : Nat) (d : Array α) (k : Nat) (h : k ≠ g) : (putRow enc w g off d).heap[k]? = w.heap[k]? := by
  unfold putRow mapBlock
  simp [Array.getElem?_modify, Ne.symm h]
theorem put_size {α : Type} [Inhabited α] (enc : α → Value) (w : World) (g off : Nat) (d : Array α) : (putRow enc w g off d).heap.size = w.heap.size := by
  unfold putRow mapBlock
  simp
theorem gc_len (g : Sg) : (gc g).length = 3 := rfl
theorem gc_one (g : Sg) : ∀ v ∈ gc g, v.oneCell' = true := one_three _ _ _
theorem ahead_heap (w : World) (n : Nat) : (Sort.ahead w n).heap = w.heap := rfl
theorem holds_of {w : World} {g : Nat} {l : List Sg} (hf : ∀ j, w.frozen? ⟨g, j, none⟩ = false) (hc : ∀ i x, l[i]? = some x → w.cell? ⟨g, i * 3, none⟩ = some (.string x.name) ∧ w.cell? ⟨g, i * 3 + 1, none⟩ = some (.string x.id) ∧ w.cell? ⟨g, i * 3 + 2, none⟩ = some (.string x.mac)) : HoldsK gc 3 w g 0 l.toArray := by
  intro j hj
  rw [size_flatK] at hj
  rw [get_flatK _ _ _ _ hj, Nat.zero_add]
  refine ⟨?_, hf j⟩
  have hi : j / 3 < l.length := by simp at hj; omega
  obtain ⟨h1, h2, h3⟩ := hc (j / 3) l[j / 3] (List.getElem?_eq_getElem hi)
  have e0 : l.toArray[j / 3]! = l[j / 3] := by rw [getElem!_pos l.toArray (j / 3) (by simpa using hi)]; simp
  rw [e0]
  have hj3 : j = j / 3 * 3 + j % 3 := by omega
  have hr : j % 3 = 0 ∨ j % 3 = 1 ∨ j % 3 = 2 := by omega
  rcases hr with hr | hr | hr
  · rw [hr]
    rw [hr, Nat.add_zero] at hj3
    conv => lhs; rw [hj3]
    exact h1
  · rw [hr]
    rw [hr] at hj3
    conv => lhs; rw [hj3]
    exact h2
  · rw [hr]
    rw [hr] at hj3
    conv => lhs; rw [hj3]
    exact h3
theorem of_holds {w : World} {g cap : Nat} {l : List Sg} (hg : g < w.heap.size) (h : HoldsK gc 3 w g 0 l.toArray) : ReadsG w (.slice (some ⟨g, 0, none⟩) l.length cap) l := by
  refine ⟨_, cap, rfl, .inr ⟨g, 0, rfl, hg, fun i x hi => ?_⟩⟩
  have hl := (List.getElem?_eq_some_iff.1 hi).1
  have hx := (List.getElem?_eq_some_iff.1 hi).2
  have e0 : l.toArray[i]! = x := by rw [getElem!_pos l.toArray i (by simpa using hl)]; simpa using hx
  have k : ∀ r, r < 3 → w.cell? ⟨g, i * 3 + r, none⟩ = some ((gc x)[r]!) := by
    intro r hr
    have h1 := (h (i * 3 + r) (by rw [size_flatK]; simp; omega)).1
    rw [get_flatK _ _ _ _ (by simp; omega), Nat.zero_add, show (i * 3 + r) / 3 = i by omega, show (i * 3 + r) % 3 = r by omega, e0] at h1
    exact h1
  rw [Nat.zero_add]
  exact ⟨k 0 (by omega), k 1 (by omega), k 2 (by omega)⟩
theorem reverseC {B g cap : Nat} (l : List Sg) (w : World) (h : Lg B (.slice (some ⟨g, 0, none⟩) l.length cap) l w) (hz : l.length ≤ 1000000) :
    Calls Tryz.prog 41 #[.slice (some ⟨g, 0, none⟩) l.length cap] w fun e w' => e = .returned (.tuple #[]) ∧ ReadsG w' (.slice (some ⟨g, 0, none⟩) l.length cap) l.reverse ∧ Kp (fun b => b = g) w w' := by
  have hr := h.reads
  have hH : HoldsK gc 3 w g 0 l.toArray ∧ g < w.heap.size := by
    rcases h.2 with ⟨e, _⟩ | ⟨g', cap', cur, e, h2, h3, h4, h5, h6, h7⟩
    · cases e
    · injection e with e1 e2 e3
      injection e1 with e4
      injection e4 with e5
      subst e5 e3
      refine ⟨holds_of (fun j => frozen_of_row _ _ _ _ _ h3) (fun i x hi => ?_), (Array.getElem?_eq_some_iff.1 h3).1⟩
      have hl := (List.getElem?_eq_some_iff.1 hi).1
      obtain ⟨s1, s2, s3⟩ := gcs_at l i x hi
      rw [← h7, List.getElem?_take_of_lt (by omega)] at s1 s2 s3
      refine ⟨?_, ?_, ?_⟩
      · rw [cell_of_row _ _ _ _ _ _ h3]; simpa using s1
      · rw [cell_of_row _ _ _ _ _ _ h3]; simpa using s2
      · rw [cell_of_row _ _ _ _ _ _ h3]; simpa using s3
  have C := AnyQ.slices_Reverse laysR 3 Tryz.isAgg43 Tryz.sizeOf43 gc gc_len gc_one g 0 cap l.toArray w hH.1 (by simp; omega)
  simp only [List.size_toArray] at C
  refine C.mono ?_
  rintro e w' ⟨rfl, n, rfl⟩
  have hb := Lib.below_putRow (enc := (id : Value → Value)) (q := n) (g := g) (d := flatK gc 3 l.toArray.reverse) (Below.refl 0 w) (Nat.zero_le _)
  have hH2 : HoldsK gc 3 (Sort.ahead w n) g 0 l.toArray := hH.1
  have hH3 := holdsK_putRowK (enc := gc) (k := 3) (Sort.ahead w n) g 0 l.toArray l.toArray.reverse hH2 (by simp)
  have e1 : l.toArray.reverse = l.reverse.toArray := by simp
  rw [e1] at hH3 hb ⊢
  refine ⟨rfl, ?_, ⟨hb.os, hb.tape, hb.output, hb.size, fun k hk hn => put_other _ _ _ _ _ _ hn⟩⟩
  have := of_holds (cap := cap) (l := l.reverse) (Nat.lt_of_lt_of_le hH.2 hb.size) hH3
  rw [List.length_reverse] at this
  exact this
theorem reverse0 (w : World) (a : Option Addr) (cap : Nat) : Calls Tryz.prog 41 #[.slice a 0 cap] w fun e w' => e = .returned (.tuple #[]) ∧ w' = w := AnyQ.slices_Reverse_empty laysR a cap w
set_option maxHeartbeats 800000 in
theorem wholeC (body : ByteArray) (a : Option Addr) (n c : Nat) (hb : body.size ≤ 1000000) (w : World) :
    Calls Tryz.prog 42 #[.string body, .slice a n c] w fun e w' => e = .returned (if n ≠ 0 ∧ goesB body = true then .tuple #[.string body, .slice a n c, .int .i64 0] else .tuple #[.string ByteArray.empty, .slice none 0 0, .int .i64 200]) ∧ Below w.heap.size w w' := by
  have C : Hid (Calls _ _ _ _ _) := goesC body (by omega) w
  by_cases h0 : n = 0
  · have HE : Hid ((if n ≠ 0 ∧ goesB body = true then Value.tuple #[.string body, .slice a n c, .int .i64 0] else .tuple #[.string ByteArray.empty, .slice none 0 0, .int .i64 200]) = .tuple #[.string ByteArray.empty, .slice none 0 0, .int .i64 200]) := if_neg (fun h => h.1 h0)
    rw [HE.out]
    subst h0
    clear HE
    go_enter Tryz.func42, Tryz.ntmps42
    go_wp2
    go_ret3
    exact ⟨rfl, Below.refl _ _⟩
  · have g0 : ((n : Int) == 0) = false := beq_eq_false_iff_ne.2 (by omega)
    have g1 : ¬ (n : Int) = 0 := by omega
    cases hg : goesB body
    · have HE : Hid ((if n ≠ 0 ∧ false = true then Value.tuple #[.string body, .slice a n c, .int .i64 0] else .tuple #[.string ByteArray.empty, .slice none 0 0, .int .i64 200]) = .tuple #[.string ByteArray.empty, .slice none 0 0, .int .i64 200]) := if_neg (fun h => by cases h.2)
      rw [HE.out]
      rw [hg] at C
      clear HE hg h0
      go_enter Tryz.func42, Tryz.ntmps42
      go_wp2_with fail
      refine C.out.mono ?_
      rintro e w1 ⟨rfl, hb1⟩
      have B1 : Hid (Below _ _ _) := hb1
      clear hb1
      go_wp2
      go_ret3
      exact ⟨rfl, B1.out⟩
    · have HE : Hid ((if n ≠ 0 ∧ true = true then Value.tuple #[.string body, .slice a n c, .int .i64 0] else .tuple #[.string ByteArray.empty, .slice none 0 0, .int .i64 200]) = .tuple #[.string body, .slice a n c, .int .i64 0]) := if_pos ⟨h0, rfl⟩
      rw [HE.out]
      rw [hg] at C
      clear HE hg h0
      go_enter Tryz.func42, Tryz.ntmps42
      go_wp2_with fail
      refine C.out.mono ?_
      rintro e w1 ⟨rfl, hb1⟩
      have B1 : Hid (Below _ _ _) := hb1
      clear hb1
      go_wp2
      go_ret3
      exact ⟨rfl, B1.out⟩
end Go.Proofs.YthdkbjbhjfiaiaaGreatDoor.q4
