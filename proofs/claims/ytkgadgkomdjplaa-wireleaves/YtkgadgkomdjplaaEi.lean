import Derived.Test.YtkgadgkomdjplaaEh
namespace Go.Proofs.Ytkgadgkomdjplaa.ei
open Go.RowKit Go.PlainAid Go.Shelf
open Go.Proofs.Ytkgadgkomdjplaa.ca Go.Proofs.Ytkgadgkomdjplaa.cb Go.Proofs.Ytkgadgkomdjplaa.cp Go.Proofs.Ytkgadgkomdjplaa.ga Go.Proofs.Ytkgadgkomdjplaa.kp Go.Proofs.Ytkgadgkomdjplaa.na Go.Proofs.Ytkgadgkomdjplaa.nb Go.Proofs.Ytkgadgkomdjplaa.nc Go.Proofs.Ytkgadgkomdjplaa.ea Go.Proofs.Ytkgadgkomdjplaa.eb Go.Proofs.Ytkgadgkomdjplaa.ec Go.Proofs.Ytkgadgkomdjplaa.ed Go.Proofs.Ytkgadgkomdjplaa.ee Go.Proofs.Ytkgadgkomdjplaa.ef Go.Proofs.Ytkgadgkomdjplaa.eg Go.Proofs.Ytkgadgkomdjplaa.eh Go.Proofs.Ytkgadgkomdjplaa.ka Go.Proofs.Ytkgadgkomdjplaa.bn
set_option linter.unusedVariables false

theorem un_ok (b : ByteArray) : Ok b (unLeavesS b).2.1 (unLeavesS b).2.2 := by
  have hk0 : Ok b 0 0 := ⟨Nat.zero_le _, by decide, by decide⟩
  exact (leaves_ok b _ _ _ (most_ok b 1024 83 _ _ (mark_ok b 76 0 0 hk0) (by decide)).1).1
set_option maxHeartbeats 1600000 in
theorem unLeavesC (b : ByteArray) (w : World) (hb : b.size ≤ 140737488355328) :
    Calls Try.prog 14 #[.string b] w fun e w' => (∃ v, e = .returned (.tuple #[v, .int .i64 (unLeavesE b)]) ∧ w'.ownsRow w.heap.size 9 1 v (unLeavesL b).length ((unLeavesL b).map Value.string)) ∧ Below w.heap.size w w' := by
  have LR : Hid (∀ W, Rd 77 w.heap.size b 0 0 [.slice none 0 0] W → Calls _ _ _ _ _) := fun W h => lreadC w.heap.size b w.heap.size W h hb (Nat.le_refl _)
  have EC : Hid (∀ v W, _ → Calls _ _ _ _ _) := fun v W h => endC 77 w.heap.size b (unLeavesS b).2.1 (unLeavesS b).2.2 [v] W h hb (un_ok b)
  have HE : Hid (endS b (unLeavesS b).2.1 (unLeavesS b).2.2 = unLeavesE b) := rfl
  have HL : Hid (unLeavesL b = if unLeavesE b = 0 then (unLeavesS b).1 else []) := rfl
  rw [HL.out]
  rw [HE.out] at EC
  obtain ⟨z, HZ⟩ : ∃ z, Hid (unLeavesE b = z) := ⟨_, rfl⟩
  obtain ⟨xs, q, z0, HX⟩ : ∃ xs q z0, Hid (unLeavesS b = (xs, q, z0)) := ⟨_, _, _, rfl⟩
  rw [HZ.out] at EC ⊢
  rw [HX.out] at LR EC ⊢
  have R0 : Hid (Rd 77 w.heap.size b 0 0 [.slice none 0 0] (w.alloc (.cells #[.string b, .int .i64 0, .int .i64 0, .slice none 0 0] 77))) := heap_alloc_new w _
  have B0 : Hid (Below w.heap.size w (w.alloc (.cells #[.string b, .int .i64 0, .int .i64 0, .slice none 0 0] 77))) := (Below.refl _ _).alloc (Nat.le_refl _) _
  have KB : Hid (∀ w1 w2 : World, w.heap.size ≤ w1.heap.size → Kp (fun k => k = w.heap.size) w1 w2 → Below w.heap.size w1 w2) := fun w1 w2 hs k => k.below (fun j hj => by omega) hs
  obtain ⟨W, HW⟩ : ∃ W, W = w.alloc (.cells #[.string b, .int .i64 0, .int .i64 0, .slice none 0 0] 77) := ⟨_, rfl⟩
  rw [← HW] at R0 B0
  by_cases hz : z = 0
  · subst hz
    rw [if_pos rfl]
    go_enter Try.func14, Try.ntmps14
    go_upto_region 2 with fail
    rw [← HW]
    clear HW
    go_wp2_with (first | (go_at_call 36; refine (LR.out _ R0.out).mono ?_; rintro _ w1 ⟨rfl, ⟨v, r1, o1⟩, k1⟩; have R1 : Hid (Rd 77 w.heap.size b q z0 [v] w1) := r1; have O1 : Hid (w1.ownsRow w.heap.size 9 1 v xs.length (xs.map Value.string)) := o1; have K1 : Hid (Below w.heap.size w w1) := B0.out.trans k1; clear r1 o1 k1) | (go_at_call 37; refine (EC.out v _ R1.out).mono ?_; rintro _ w2 ⟨rfl, r2, k2⟩; have d2 := rd1 r2; have O2 : Hid (w2.ownsRow w.heap.size 9 1 v xs.length (xs.map Value.string)) := own_tag O1.out R1.out (by decide) k2; have K2 : Hid (Below w.heap.size w w2) := K1.out.trans (KB.out _ _ K1.out.size k2); clear r2 k2))
    go_ret2
    exact ⟨⟨_, rfl, O2.out⟩, K2.out⟩
  · have hz' : (z != 0) = true := by rw [bne_iff_ne]; exact hz
    rw [if_neg hz]
    clear hz
    go_enter Try.func14, Try.ntmps14
    go_upto_region 2 with fail
    rw [← HW]
    clear HW
    go_wp2_with (first | (go_at_call 36; refine (LR.out _ R0.out).mono ?_; rintro _ w1 ⟨rfl, ⟨v, r1, o1⟩, k1⟩; have R1 : Hid (Rd 77 w.heap.size b q z0 [v] w1) := r1; have K1 : Hid (Below w.heap.size w w1) := B0.out.trans k1; clear r1 o1 k1) | (go_at_call 37; refine (EC.out v _ R1.out).mono ?_; rintro _ w2 ⟨rfl, r2, k2⟩; have K2 : Hid (Below w.heap.size w w2) := K1.out.trans (KB.out _ _ K1.out.size k2); clear r2 k2))
    go_ret2
    exact ⟨⟨_, rfl, World.ownsRow_nil _ _ _ _⟩, K2.out⟩
end Go.Proofs.Ytkgadgkomdjplaa.ei
