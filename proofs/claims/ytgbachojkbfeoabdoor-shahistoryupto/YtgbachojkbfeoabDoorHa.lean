import Derived.Test.YtgbachojkbfeoabDoorRf
import Derived.Test.YtgbachojkbfeoabDoorPn
namespace Go.Proofs.YtgbachojkbfeoabDoor.ha
open Go.RowKit Go.PlainAid
open Go.Proofs.YtgbachojkbfeoabDoor.pl Go.Proofs.YtgbachojkbfeoabDoor.pc Go.Proofs.YtgbachojkbfeoabDoor.pd Go.Proofs.YtgbachojkbfeoabDoor.ph Go.Proofs.YtgbachojkbfeoabDoor.pi Go.Proofs.YtgbachojkbfeoabDoor.ft Go.Proofs.YtgbachojkbfeoabDoor.pj Go.Proofs.YtgbachojkbfeoabDoor.pn Go.Proofs.YtgbachojkbfeoabDoor.re Go.Proofs.YtgbachojkbfeoabDoor.rf
set_option linter.unusedVariables false

-- but for the blocks of A the world is as it was
structure Kp (A : Nat → Prop) (w w' : World) : Prop where
  os : w'.os = w.os
  tape : w'.tape = w.tape
  output : w'.output = w.output
  size : w.heap.size ≤ w'.heap.size
  block : ∀ k, k < w.heap.size → ¬ A k → w'.heap[k]? = w.heap[k]?

theorem Kp.refl (A : Nat → Prop) (w : World) : Kp A w w := ⟨rfl, rfl, rfl, Nat.le_refl _, fun _ _ _ => rfl⟩
theorem Kp.trans {A : Nat → Prop} {a b c : World} (x : Kp A a b) (y : Kp A b c) : Kp A a c :=
  ⟨y.os.trans x.os, y.tape.trans x.tape, y.output.trans x.output, Nat.le_trans x.size y.size, fun k hk hn => (y.block k (Nat.lt_of_lt_of_le hk x.size) hn).trans (x.block k hk hn)⟩
theorem Kp.mono {A B : Nat → Prop} {w w' : World} (x : Kp A w w') (h : ∀ k, A k → B k) : Kp B w w' := ⟨x.os, x.tape, x.output, x.size, fun k hk hn => x.block k hk (fun a => hn (h k a))⟩
theorem Kp.of_keeps {A : Nat → Prop} {h : Nat} {w w' : World} (x : Keeps h w w') (ha : A h) : Kp A w w' := ⟨x.os, x.tape, x.output, x.size, fun k hk hn => x.block k hk (fun e => hn (e ▸ ha))⟩
theorem Kp.of_below {A : Nat → Prop} {w w' : World} (x : Below w.heap.size w w') : Kp A w w' := ⟨x.os, x.tape, x.output, x.size, fun k hk _ => x.block k hk⟩
theorem Kp.setCell (A : Nat → Prop) (w : World) (b o : Nat) (v : Value) (hb : A b) : Kp A w (w.setCell ⟨b, o, none⟩ v) :=
  ⟨rfl, rfl, rfl, by simp [World.setCell], fun k hk hn => Below.heap_setCell _ _ _ _ (fun e => hn (e ▸ hb))⟩
theorem Kp.alloc (A : Nat → Prop) (w : World) (o : Obj) : Kp A w (w.alloc o) := ⟨rfl, rfl, rfl, by simp, fun k hk _ => Below.heap_alloc _ _ _ hk⟩
theorem Kp.drew (A : Nat → Prop) (w : World) : Kp A w w.drew := ⟨rfl, rfl, rfl, Nat.le_refl _, fun _ _ _ => rfl⟩
theorem Kp.grown {A : Nat → Prop} {w w' : World} {row : Option Nat} (hg : w.grownBy w' row) (hr : ∀ k, row = some k → A k) : Kp A w w' :=
  ⟨hg.os, hg.tape, hg.output, hg.size, fun k hk hn => hg.block k hk (fun e => hn (hr k e.symm))⟩
theorem Kp.below {A : Nat → Prop} {B : Nat} {w w' : World} (x : Kp A w w') (hA : ∀ k, A k → B ≤ k) (hB : B ≤ w.heap.size) : Below B w w' :=
  ⟨x.os, x.tape, x.output, x.size, fun k hk => x.block k (by omega) (fun a => by have := hA k a; omega)⟩

theorem owns_keep {w w' : World} {base : Nat} {e : TypeId} {size : Nat} {v : Value} {n : Nat} {xs : List Value} (h : w.ownsRow base e size v n xs) (hk : ∀ g, v.ownBlock = some g → w'.heap[g]? = w.heap[g]?) : w'.ownsRow base e size v n xs := by
  obtain ⟨hl, h | ⟨g, cap, cur, rfl, hb, hh, r⟩⟩ := h
  · exact ⟨hl, .inl h⟩
  · exact ⟨hl, .inr ⟨g, cap, cur, rfl, hb, (hk g rfl).trans hh, r⟩⟩
theorem owns_tag {w : World} {base : Nat} {e : TypeId} {size : Nat} {v : Value} {n : Nat} {xs : List Value} (h : w.ownsRow base e size v n xs) {g : Nat} (hg : v.ownBlock = some g) : ∃ cur, w.heap[g]? = some (.cells cur e (0, 0)) := by
  obtain ⟨hl, ⟨rfl, _⟩ | ⟨g', cap, cur, rfl, hb, hh, r⟩⟩ := h
  · cases hg
  · obtain rfl : g' = g := by simpa [Value.ownBlock] using hg
    exact ⟨cur, hh⟩

-- the document's Hash
def RA (w : World) (h : Nat) (t : ByteArray) : Prop := w.heap[h]? = some (.cells #[.string t] 51 (0, 0))
theorem RA.lt {w : World} {h : Nat} {t : ByteArray} (x : RA w h t) : h < w.heap.size := (Array.getElem?_eq_some_iff.1 x).1
theorem RA.cell {w : World} {h : Nat} {t : ByteArray} (x : RA w h t) : w.cell? ⟨h, 0, none⟩ = some (.string t) := (cell_of_row _ _ _ _ _ _ x).trans rfl
theorem RA.set {w : World} {h : Nat} {t : ByteArray} (x : RA w h t) (t' : ByteArray) : RA (w.setCell ⟨h, 0, none⟩ (.string t')) h t' := (heap_setCell_same _ _ _ _ _ _ x).trans rfl

theorem rNew (w : World) : Calls Tryd.prog 11 #[] w fun e w' => e = .returned (.pointer (some ⟨w.heap.size, 0, none⟩)) ∧ w' = w.alloc (.cells #[.string ⟨#[]⟩] 51) := by
  go_enter Tryd.func11, Tryd.ntmps11
  go_wp2
  go_ret
  exact ⟨rfl, rfl⟩
theorem rWrite (h : Nat) (t p : ByteArray) (w : World) (ht : t.size ≤ 1048576) (hp : p.size ≤ 1048576) (HR : Hid (RA w h t)) :
    Calls Tryd.prog 14 #[.pointer (some ⟨h, 0, none⟩), .string p] w fun e w' => e = .returned (.int .i64 p.size) ∧ w' = w.setCell ⟨h, 0, none⟩ (.string (t ++ p)) := by
  have c := HR.out.cell
  have f : w.frozen? ⟨h, 0, none⟩ = false := frozen_of_row _ _ _ _ _ HR.out
  go_enter Tryd.func14, Tryd.ntmps14
  go_wp2
  go_ret
  exact ⟨rfl, rfl⟩
theorem rHSum (h : Nat) (t : ByteArray) (w : World) (ht : t.size ≤ 1048576) (HR : Hid (RA w h t)) (T : Hid (Tab4 w)) :
    Calls Tryd.prog 7 #[.pointer (some ⟨h, 0, none⟩)] w fun e w' => e = .returned (.string (sha t)) ∧ Below w.heap.size w w' := by
  have c := HR.out.cell
  have C : Hid (Calls _ _ _ _ _) := RSum t w (by omega) T.out
  go_enter Tryd.func7, Tryd.ntmps7
  go_wp2_with fail
  refine C.out.mono ?_
  rintro e w1 ⟨rfl, hb⟩
  have HB : Hid (Below _ _ _) := hb
  clear hb c
  go_wp2
  go_ret
  exact ⟨rfl, HB.out⟩
theorem rCopy (h : Nat) (t : ByteArray) (w : World) (HR : Hid (RA w h t)) :
    Calls Tryd.prog 16 #[.pointer (some ⟨h, 0, none⟩)] w fun e w' => e = .returned (.pointer (some ⟨w.heap.size, 0, none⟩)) ∧ w' = w.alloc (.cells #[.string t] 51) := by
  have c := HR.out.cell
  go_enter Tryd.func16, Tryd.ntmps16
  go_wp2
  go_ret
  exact ⟨rfl, rfl⟩
theorem rReset (h : Nat) (t : ByteArray) (w : World) (HR : Hid (RA w h t)) :
    Calls Tryd.prog 18 #[.pointer (some ⟨h, 0, none⟩)] w fun e w' => e = .returned (.tuple #[]) ∧ w' = w.setCell ⟨h, 0, none⟩ (.string ⟨#[]⟩) := by
  have c := HR.out.cell
  have f : w.frozen? ⟨h, 0, none⟩ = false := frozen_of_row _ _ _ _ _ HR.out
  go_enter Tryd.func18, Tryd.ntmps18
  go_wp2
  go_end0
  exact ⟨rfl, rfl⟩
theorem rLen (h : Nat) (t : ByteArray) (w : World) (ht : t.size ≤ 1048576) (HR : Hid (RA w h t)) :
    Calls Tryd.prog 9 #[.pointer (some ⟨h, 0, none⟩)] w fun e w' => e = .returned (.int .i64 t.size) ∧ w' = w := by
  have c := HR.out.cell
  go_enter Tryd.func9, Tryd.ntmps9
  go_wp2
  go_ret
  exact ⟨rfl, rfl⟩
end Go.Proofs.YtgbachojkbfeoabDoor.ha
