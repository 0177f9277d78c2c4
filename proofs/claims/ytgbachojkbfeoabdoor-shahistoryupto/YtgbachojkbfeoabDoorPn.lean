import Derived.Test.YtgbachojkbfeoabDoorPj
namespace Go.Proofs.YtgbachojkbfeoabDoor.pn
open Go.RowKit Go.PlainAid
open Go.Proofs.YtgbachojkbfeoabDoor.pl Go.Proofs.YtgbachojkbfeoabDoor.pc Go.Proofs.YtgbachojkbfeoabDoor.ph Go.Proofs.YtgbachojkbfeoabDoor.pi Go.Proofs.YtgbachojkbfeoabDoor.ft Go.Proofs.YtgbachojkbfeoabDoor.pj
set_option linter.unusedVariables false

theorem New (w : World) (T : Tab w) : Calls Tryd.prog 10 #[] w fun e w' => e = .returned (.pointer (some ⟨w.heap.size, 0, none⟩)) ∧ Below w.heap.size w w' ∧ HA w' w.heap.size ByteArray.empty := new kF v0 w T.st T.big
theorem Write (h : Nat) (t p : ByteArray) (w : World) (hp : p.size ≤ 1125899906842624) (ht : t.size ≤ 1125899906842624) (HH : HA w h t) (T : Tab w) :
    Calls Tryd.prog 13 #[.pointer (some ⟨h, 0, none⟩), .string p] w fun e w' => e = .returned (.int .i64 p.size) ∧ Keeps h w w' ∧ HA w' h (t ++ p) := write kF v0 h t.size t p w ok0 hp ht rfl HH T.kt
theorem HSum (h : Nat) (t : ByteArray) (w : World) (ht : t.size ≤ 1125899906842624) (HH : HA w h t) (T : Tab w) :
    Calls Tryd.prog 6 #[.pointer (some ⟨h, 0, none⟩)] w fun e w' => e = .returned (.string (sha t)) ∧ Below w.heap.size w w' := hsum kF v0 h t.size t w ok0 ht rfl HH T.kt
theorem Copy (h : Nat) (t : ByteArray) (w : World) (HH : HA w h t) :
    Calls Tryd.prog 15 #[.pointer (some ⟨h, 0, none⟩)] w fun e w' => e = .returned (.pointer (some ⟨w.heap.size, 0, none⟩)) ∧ Below w.heap.size w w' ∧ HA w' w.heap.size t := copy kF v0 h t w HH
theorem Reset (h : Nat) (t : ByteArray) (w : World) (HH : HA w h t) (T : Tab w) :
    Calls Tryd.prog 17 #[.pointer (some ⟨h, 0, none⟩)] w fun e w' => e = .returned (.tuple #[]) ∧ Keeps h w w' ∧ HA w' h ByteArray.empty := reset kF v0 h t w T.st HH
theorem Len (h : Nat) (t : ByteArray) (w : World) (HH : HA w h t) :
    Calls Tryd.prog 8 #[.pointer (some ⟨h, 0, none⟩)] w fun e w' => e = .returned (.int .i64 t.size) ∧ w' = w := len kF v0 h t w HH
end Go.Proofs.YtgbachojkbfeoabDoor.pn
