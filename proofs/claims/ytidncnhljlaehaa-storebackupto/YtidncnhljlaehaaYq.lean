import Derived.Test.YtidncnhljlaehaaYp
import Derived.Test.YtidncnhljlaehaaYk
import Derived.Test.YtidncnhljlaehaaYl
namespace Go.Proofs.Ytidncnhljlaehaa.yq
open Go.RowKit Go.PlainAid Go.Maps Go.Shelf
open Go.Proofs.Ytidncnhljlaehaa.ca Go.Proofs.Ytidncnhljlaehaa.cb Go.Proofs.Ytidncnhljlaehaa.cp Go.Proofs.Ytidncnhljlaehaa.kp Go.Proofs.Ytidncnhljlaehaa.ka Go.Proofs.Ytidncnhljlaehaa.ya Go.Proofs.Ytidncnhljlaehaa.yb Go.Proofs.Ytidncnhljlaehaa.yc Go.Proofs.Ytidncnhljlaehaa.yd Go.Proofs.Ytidncnhljlaehaa.ye Go.Proofs.Ytidncnhljlaehaa.yf Go.Proofs.Ytidncnhljlaehaa.yg Go.Proofs.Ytidncnhljlaehaa.yi Go.Proofs.Ytidncnhljlaehaa.yk Go.Proofs.Ytidncnhljlaehaa.yl Go.Proofs.Ytidncnhljlaehaa.yo Go.Proofs.Ytidncnhljlaehaa.yp Go.Proofs.Ytidncnhljlaehaa.sb Go.Proofs.Ytidncnhljlaehaa.mc
set_option linter.unusedVariables false
set_option linter.unusedSimpArgs false
def kK : ByteArray := ⟨#[107]⟩
def vV : ByteArray := ⟨#[118]⟩
def s0 : S := ⟨100, [], [], 0, false, 0⟩
def s1 : S := ⟨100, [], [⟨false, kK, vV⟩], 0, false, 0⟩
def s2 : S := ⟨100, [(kK, vV)], [], 0, false, 0⟩
theorem put_is : putS s0 kK vV = (0, s1) := by kernel_rfl
theorem sync_is : syncS s1 = (0, s2) := by kernel_rfl
theorem get_is : getS s2 kK = (vV, 0) := by kernel_rfl
theorem tot_is : tot (now s2) = 18 := by kernel_rfl
theorem img_is : imageT s2.dur = ⟨#[83, 1, 107, 0, 0, 0, 1, 118]⟩ := by kernel_rfl
set_option maxRecDepth 20000 in
set_option maxHeartbeats 6400000 in
theorem begunC (w : World) : Calls Try.prog 9 #[] w fun e w' => e = .returned (.bool true) ∧ Below w.heap.size w w' := by
  have C0 : Hid (Calls _ _ _ _ _) := newC 100 w (by decide)
  have C1 : Hid (∀ g bn bd pv w1, Sr w.heap.size g bn bd pv s0 w1 → w.heap.size ≤ w1.heap.size → Calls Try.prog 33 #[.pointer (some ⟨g, 0, none⟩), .string ⟨#[107]⟩, .string ⟨#[118]⟩] w1 fun e w' => e = .returned (.int .i64 0) ∧ Rn w.heap.size g bn bd pv s1 w1 w') := fun g bn bd pv w1 h hB => by
    have := putC kK vV h (by decide) (by decide) (by decide) hB
    rw [put_is] at this
    exact this
  have C2 : Hid (∀ g bn bd pv w1, Sr w.heap.size g bn bd pv s1 w1 → w.heap.size ≤ w1.heap.size → Calls Try.prog 34 #[.pointer (some ⟨g, 0, none⟩)] w1 fun e w' => e = .returned (.int .i64 0) ∧ Rn w.heap.size g bn bd pv s2 w1 w') := fun g bn bd pv w1 h hB => by
    have := syncC h hB
    rw [sync_is] at this
    exact this
  have C3 : Hid (∀ g bn bd pv w1, Sr w.heap.size g bn bd pv s2 w1 → Calls Try.prog 14 #[.pointer (some ⟨g, 0, none⟩), .string ⟨#[107]⟩] w1 fun e w' => e = .returned (.tuple #[.string ⟨#[118]⟩, .int .i64 0]) ∧ Below w1.heap.size w1 w') := fun g bn bd pv w1 h => by
    have := getC kK h (by decide)
    rw [get_is] at this
    exact this
  have C4 : Hid (∀ g bn bd pv w1, Sr w.heap.size g bn bd pv s2 w1 → Calls Try.prog 11 #[.pointer (some ⟨g, 0, none⟩)] w1 fun e w' => e = .returned (.int .i64 18) ∧ w' = w1) := fun g bn bd pv w1 h => by
    have := usedC h.row
    rw [tot_is] at this
    exact this
  have C5 : Hid (∀ g bn bd pv w1, Sr w.heap.size g bn bd pv s2 w1 → Calls Try.prog 23 #[.pointer (some ⟨g, 0, none⟩)] w1 fun e w' => e = .returned (.string ⟨#[83, 1, 107, 0, 0, 0, 1, 118]⟩) ∧ Below w1.heap.size w1 w') := fun g bn bd pv w1 h => by
    have := imageC h (by decide)
    rw [img_is] at this
    exact this
  go_enter Try.func9, Try.ntmps9
  go_wp2_with (first
    | (go_at_call 10; refine C0.out.mono ?_; rintro _ w1 ⟨g, bn, bd, rfl, h1, b1⟩; have H1 : Hid (Sr w.heap.size g bn bd (.slice none 0 0) s0 w1) := h1; have B1 : Hid (Below w.heap.size w w1) := b1; clear h1 b1 C0)
    | (go_at_call 33; refine (C1.out g bn bd _ w1 H1.out B1.out.size).mono ?_; rintro _ w2 ⟨rfl, r2⟩; have B2 : Hid (Below w.heap.size w w2) := B1.out.trans (Rn.below H1.out r2 B1.out.size); obtain ⟨pv2, h2, _, _⟩ := r2; have H2 : Hid (Sr w.heap.size g bn bd pv2 s1 w2) := h2; clear h2 C1)
    | (go_at_call 34; refine (C2.out g bn bd _ w2 H2.out B2.out.size).mono ?_; rintro _ w3 ⟨rfl, r3⟩; have B3 : Hid (Below w.heap.size w w3) := B2.out.trans (Rn.below H2.out r3 B2.out.size); obtain ⟨pv3, h3, _, _⟩ := r3; have H3 : Hid (Sr w.heap.size g bn bd pv3 s2 w3) := h3; clear h3 C2)
    | (go_at_call 14; refine (C3.out g bn bd _ w3 H3.out).mono ?_; rintro _ w4 ⟨rfl, b4⟩; have H4 : Hid (Sr w.heap.size g bn bd pv3 s2 w4) := sr_later H3.out b4; have B4 : Hid (Below w.heap.size w w4) := B3.out.trans (b4.mono B3.out.size); clear b4 C3)
    | (go_at_call 11; refine (C4.out g bn bd _ w4 H4.out).mono ?_; rintro _ _ ⟨rfl, hw⟩; rw [hw]; clear hw C4)
    | (go_at_call 23; refine (C5.out g bn bd _ w4 H4.out).mono ?_; rintro _ w5 ⟨rfl, b5⟩; have B5 : Hid (Below w.heap.size w w5) := B4.out.trans (b5.mono B4.out.size); clear b5 C5)
    | go_in)
  go_ret
  exact ⟨rfl, B5.out⟩
end Go.Proofs.Ytidncnhljlaehaa.yq
