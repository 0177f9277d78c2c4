import Derived.Test.YtkanjkofdfmhhabDoorJc
import Derived.Test.YtkanjkofdfmhhabDoorPg
namespace Go.Proofs.YtkanjkofdfmhhabDoor.jd
open Go.RowKit Go.PlainAid
open Go.Proofs.YtkanjkofdfmhhabDoor.pl Go.Proofs.YtkanjkofdfmhhabDoor.pg Go.Proofs.YtkanjkofdfmhhabDoor.ca Go.Proofs.YtkanjkofdfmhhabDoor.cp Go.Proofs.YtkanjkofdfmhhabDoor.ka Go.Proofs.YtkanjkofdfmhhabDoor.jc
set_option linter.unusedVariables false

theorem mark_str (k : Nat) (hk : k ≤ 9) : str [((97 + k : Nat) : Int)] = mrk k := by
  have : ∀ n : Fin 10, str [((97 + n.val : Nat) : Int)] = mrk n.val := by decide
  exact this ⟨k, by omega⟩
set_option maxHeartbeats 800000 in
theorem ownMark (k : Nat) (hk : k ≤ 9) (w : World) :
    Calls Tryd.prog 15 #[.int .i64 k] w fun e w' => e = .returned (.string (mrk k)) ∧ Below w.heap.size w w' := by
  have hcv := own_conv (w.alloc (.cells #[.int .u8 ((97 + k : Nat) : Int)] 5)) w.heap.size (.slice (some ⟨w.heap.size, 0, none⟩) 1 1) [((97 + k : Nat) : Int)] 1 rfl (by omega) (World.ownsRow_lit w #[.int .u8 ((97 + k : Nat) : Int)] 1 (Nat.le_refl _) (by unfold maxLen; omega) rfl)
  rw [mark_str k hk] at hcv
  have B0 : Hid (Below w.heap.size w (w.alloc (.cells #[.int .u8 ((97 + k : Nat) : Int)] 5))) := (Below.refl _ _).alloc (Nat.le_refl _) _
  obtain ⟨c, HC⟩ : ∃ c : Nat, Hid (97 + k = c) := ⟨_, rfl⟩
  have h1 : (k : Int) % 26 = k := by omega
  have h2 : (97 : Int) + (k : Int) = (c : Int) := by have := HC.out; omega
  have h3 : IntKind.u8.wrap (c : Int) = c := by rw [IntKind.wrap_u8']; have := HC.out; omega
  have hk0 : (0 : Int) ≤ k := by omega
  rw [HC.out] at hcv B0
  go_enter Tryd.func15, Tryd.ntmps15
  go_wp2
  go_ret
  exact ⟨rfl, B0.out⟩
end Go.Proofs.YtkanjkofdfmhhabDoor.jd
