import Derived.Test.YtmldkecaghokeaaGreatDoorNe
import Derived.Test.YtmldkecaghokeaaGreatDoorMq
import Derived.Laws.BitsAllLaws
namespace Go.Proofs.YtmldkecaghokeaaGreatDoor.ng
open Go.RowKit Go.PlainAid
open Go.Proofs.YtmldkecaghokeaaGreatDoor.pl Go.Proofs.YtmldkecaghokeaaGreatDoor.pc Go.Proofs.YtmldkecaghokeaaGreatDoor.pf Go.Proofs.YtmldkecaghokeaaGreatDoor.pg Go.Proofs.YtmldkecaghokeaaGreatDoor.ph Go.Proofs.YtmldkecaghokeaaGreatDoor.pi Go.Proofs.YtmldkecaghokeaaGreatDoor.ft Go.Proofs.YtmldkecaghokeaaGreatDoor.pj Go.Proofs.YtmldkecaghokeaaGreatDoor.re Go.Proofs.YtmldkecaghokeaaGreatDoor.rf Go.Proofs.YtmldkecaghokeaaGreatDoor.mo Go.Proofs.YtmldkecaghokeaaGreatDoor.mp Go.Proofs.YtmldkecaghokeaaGreatDoor.mq Go.Proofs.YtmldkecaghokeaaGreatDoor.nd Go.Proofs.YtmldkecaghokeaaGreatDoor.ne
set_option linter.unusedVariables false
set_option maxRecDepth 4000

-- are two texts the same, byte by byte
theorem or_zero (a b : Nat) : a ||| b = 0 ↔ a = 0 ∧ b = 0 := by
  constructor
  · intro h
    have h1 := Nat.left_le_or (n := a) (m := b)
    have h2 := Nat.right_le_or (n := a) (m := b)
    omega
  · rintro ⟨rfl, rfl⟩; rfl
theorem xor_zero (a b : Nat) : a ^^^ b = 0 ↔ a = b := by
  constructor
  · intro h
    have e : (a ^^^ b) ^^^ b = a := by rw [Nat.xor_assoc, Nat.xor_self, Nat.xor_zero]
    rw [h, Nat.zero_xor] at e
    exact e.symm
  · rintro rfl; exact Nat.xor_self a
def nt (q : ByteArray) (k : Nat) : Nat := (bt q k).toNat
theorem nt_bt (q : ByteArray) (k : Nat) : bt q k = (nt q k : Int) := by
  have := bt_nonneg q k
  unfold nt; omega
theorem nt_lt (q : ByteArray) (k : Nat) : nt q k < 256 := by
  have := bt_le q k
  unfold nt; omega

set_option maxHeartbeats 800000 in
theorem same_no (a b : ByteArray) (w : World) (ha : a.size ≤ 140737488355328) (hb : b.size ≤ 140737488355328) (h : a.size ≠ b.size) :
    Calls Tryz.prog 15 #[.string a, .string b] w fun e w' => e = .returned (.bool false) ∧ Below w.heap.size w w' := by
  have h' : ((a.size : Int) != (b.size : Int)) = true := by rw [bne_iff_ne]; omega
  go_enter Tryz.func15, Tryz.ntmps15
  go_wp2
  go_ret
  exact ⟨rfl, Below.refl _ _⟩

set_option maxHeartbeats 800000 in
theorem same_len (a b : ByteArray) (w : World) (ha : a.size ≤ 140737488355328) (h : a.size = b.size) (r : Bool) (hr : Hid (r = true ↔ ∀ j, j < a.size → nt a j = nt b j)) :
    Calls Tryz.prog 15 #[.string a, .string b] w fun e w' => e = .returned (.bool r) ∧ Below w.heap.size w w' := by
  have h' : ((a.size : Int) != (b.size : Int)) = false := by rw [h]; simp
  have h2 : (b.size : Int) = a.size := by omega
  have HH : Hid _ := h
  clear h
  go_enter Tryz.func15, Tryz.ntmps15
  go_wp2_with fail
  go_loopw [5, 14] (fun u i wr => ∃ k U : Nat, k ≤ a.size ∧ i = .int .i64 k ∧ u = .int .u8 U ∧ U < 256 ∧ Hid (U = 0 ↔ ∀ j, j < k → nt a j = nt b j) ∧ Hid (Below w.heap.size w wr)) (fun _ i _ => (a.size - intOf i).toNat)
  case atStart => exact ⟨0, 0, by omega, rfl, rfl, by omega, ⟨fun _ j hj => absurd hj (by omega), fun _ => rfl⟩, Below.refl _ _⟩
  case round =>
    obtain ⟨k, U, hk, rfl, rfl, hU, HU, HB⟩ := hrel
    by_cases hlt : k < a.size
    · have hlt' : (k : Int) < a.size := by omega
      have hlb : (k : Int) < b.size := by omega
      have hbt := get_bt a
      have hbt2 := get_bt b
      have na := nt_lt a k
      have nb := nt_lt b k
      have hx := Nat.xor_lt_two_pow (n := 8) na nb
      have hy : U ||| (nt a k ^^^ nt b k) < 256 := Nat.or_lt_two_pow (n := 8) hU hx
      have HX : Hid (bits .or .u8 (U : Int) (bits .xor .u8 (bt a k) (bt b k)) = ((U ||| (nt a k ^^^ nt b k) : Nat) : Int)) := by
        show _ = _
        rw [nt_bt a k, nt_bt b k, u8_xor_nat _ _ na nb, u8_or_nat _ _ hU hx]
      have HV : Hid (U ||| (nt a k ^^^ nt b k) = 0 ↔ ∀ j, j < k + 1 → nt a j = nt b j) := by
        show _ ↔ _
        rw [or_zero, xor_zero, HU.out]
        constructor
        · rintro ⟨h1, h2⟩ j hj
          rcases Nat.lt_or_ge j k with h | h
          · exact h1 j h
          · obtain rfl : j = k := by omega
            exact h2
        · intro h
          exact ⟨fun j hj => h j (by omega), h k (by omega)⟩
      clear na nb hx
      generalize U ||| (nt a k ^^^ nt b k) = V at *
      go_wp2_with fail
      go_quiet (fail)
      go_wp2
      go_roundw
      case rel => exact ⟨k + 1, V, by omega, by go_num, by rw [HX.out], hy, HV, below_drewN HB.out _⟩
      case measure => simp [intOf]; omega
    · have hlt' : ¬ (k : Int) < a.size := by omega
      obtain rfl : k = a.size := by omega
      have hr0 : ((U : Int) == 0) = r := by
        rw [Bool.eq_iff_iff, beq_iff_eq, hr.out, ← HU.out]
        omega
      go_wp2
      go_ret
      exact ⟨rfl, HB.out⟩

theorem ext_nt (a b : ByteArray) (h : a.size = b.size) (hj : ∀ j, j < a.size → nt a j = nt b j) : a = b := by
  apply ext_bt
  · exact h
  · intro j hlt
    rw [nt_bt, nt_bt, hj j hlt]

theorem same (a b : ByteArray) (w : World) (ha : a.size ≤ 140737488355328) (hb : b.size ≤ 140737488355328) :
    Calls Tryz.prog 15 #[.string a, .string b] w fun e w' => e = .returned (.bool (decide (a = b))) ∧ Below w.heap.size w w' := by
  by_cases h : a.size = b.size
  · refine same_len a b w ha h (decide (a = b)) ?_
    show _ ↔ _
    rw [decide_eq_true_eq]
    exact ⟨fun e j _ => by rw [e], fun e => ext_nt a b h e⟩
  · have e : decide (a = b) = false := by rw [decide_eq_false_iff_not]; intro e; exact h (by rw [e])
    rw [e]
    exact same_no a b w ha hb h
end Go.Proofs.YtmldkecaghokeaaGreatDoor.ng
