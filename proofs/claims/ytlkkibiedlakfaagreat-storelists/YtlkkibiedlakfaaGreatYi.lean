import Derived.Test.YtlkkibiedlakfaaGreatYh
namespace Go.Proofs.YtlkkibiedlakfaaGreat.yi
open Go.RowKit Go.PlainAid Go.Maps Go.Shelf
open Go.Proofs.YtlkkibiedlakfaaGreat.ca Go.Proofs.YtlkkibiedlakfaaGreat.cb Go.Proofs.YtlkkibiedlakfaaGreat.cp Go.Proofs.YtlkkibiedlakfaaGreat.kp Go.Proofs.YtlkkibiedlakfaaGreat.ka Go.Proofs.YtlkkibiedlakfaaGreat.ya Go.Proofs.YtlkkibiedlakfaaGreat.yb Go.Proofs.YtlkkibiedlakfaaGreat.yc Go.Proofs.YtlkkibiedlakfaaGreat.yd Go.Proofs.YtlkkibiedlakfaaGreat.ye Go.Proofs.YtlkkibiedlakfaaGreat.yf Go.Proofs.YtlkkibiedlakfaaGreat.yg Go.Proofs.YtlkkibiedlakfaaGreat.yh Go.Proofs.YtlkkibiedlakfaaGreat.sb Go.Proofs.YtlkkibiedlakfaaGreat.mc
set_option linter.unusedVariables false
set_option linter.unusedSimpArgs false
theorem cloneC (s : ByteArray) (w : World) (h : s.size ≤ 140737488355328) :
    Calls Tryz.prog 92 #[.string s] w fun e w' => e = .returned (.string s) ∧ Below w.heap.size w w' := by
  have CC : Hid (∀ w, Calls Tryz.prog 123 #[.string s] w fun e w' => e = .returned (.string s) ∧ Below w.heap.size w w') := fun w => AnyPu.stringslite_Clone laysC s w (by omega)
  go_enter Tryz.func92, Tryz.ntmps92
  go_wp2_with (go_at_call 123; refine (CC.out _).mono ?_; rintro _ w1 ⟨rfl, k1⟩; have K1 : Hid (Below w.heap.size w w1) := k1; clear k1)
  go_ret
  exact ⟨rfl, K1.out⟩
def addW (s : S) (x : W) : S := { s with pend := s.pend ++ [x] }
theorem now_add (s : S) (x : W) : now (addW s x) = doW (now s) x := by unfold now addW; rw [List.foldl_append]; rfl
theorem now_spend (s : S) : now (spendS s).2 = now s := by unfold spendS; split; rfl; split <;> rfl
theorem dur_spend (s : S) : (spendS s).2.dur = s.dur := by unfold spendS; split; rfl; split <;> rfl
theorem pend_spend (s : S) : (spendS s).2.pend = s.pend := by unfold spendS; split; rfl; split <;> rfl
theorem cap_spend (s : S) : (spendS s).2.cap = s.cap := by unfold spendS; split; rfl; split <;> rfl
theorem age_spend (s : S) : (spendS s).2.age = s.age := by unfold spendS; split; rfl; split <;> rfl
theorem arm_spend (s : S) : (spendS s).2.armed ≤ s.armed := by unfold spendS; split; exact Nat.le_refl _; split <;> simp
theorem ok_spend {s : S} (h : OkS s) : OkS (spendS s).2 := ⟨by rw [dur_spend]; exact h.dur, by rw [dur_spend]; exact h.srt, by rw [pend_spend]; exact h.pend, by rw [cap_spend]; exact h.cap0, by rw [cap_spend]; exact h.cap1, Nat.le_trans (arm_spend s) h.arm, by rw [age_spend]; exact h.age, by rw [dur_spend, pend_spend]; exact h.len⟩
theorem ok_add {s : S} {x : W} (h : OkS s) (hx : OkW x) (hl : s.dur.length + s.pend.length + 1 < 3518437208883) : OkS (addW s x) :=
  ⟨h.dur, h.srt, fun y hy => by rcases List.mem_append.1 hy with hy | hy; exact h.pend y hy; rw [List.mem_singleton.1 hy]; exact hx, h.cap0, h.cap1, h.arm, h.age, by show s.dur.length + (s.pend ++ [x]).length < _; simp; omega⟩
theorem sr_st {B g bn bd : Nat} {pv : Value} {s : S} {w w' : World} (h : Sr B g bn bd pv s w) (m : St g bn bd pv (tot (now s)) (spendS s).2 w') (k : Kp (fun k => k = g) w w') : Sr B g bn bd pv (spendS s).2 w' := by
  refine sr_of ?_ (ok_spend h.ok)
  have h1 := (sq_of h).st m k
  rw [now_spend, dur_spend, pend_spend]
  exact h1
-- a pending write laid down, its row grown
theorem add_row {B g bn bd : Nat} {pv : Value} {s : S} {x : W} {rn : List Rec} {w w' : World} {g5 c5 : Nat} {o : Obj} (h : Sq B g bn bd pv (tot rn) rn s.dur s.pend.length (wcs bd s.pend) s w) (hrn : rn = doW (now s) x) (ok : OkS s) (hx : OkW x) (hl : s.dur.length + s.pend.length + 1 < 3518437208883)
    (ho : w'.ownsRow B 105 3 (.slice (some ⟨g5, 0, none⟩) (s.pend.length + 1) c5) (s.pend.length + 1) (wcs bd s.pend ++ wc bd x)) (hg : (w.alloc o).grownBy w' pv.ownBlock) (hlies : pv.ownBlock = some g5 ∨ g5 = w.heap.size + 1) :
    St g bn bd pv (tot rn) s w' ∧ Kp (Fr g bn bd pv) w w' ∧ Sr B g bn bd (.slice (some ⟨g5, 0, none⟩) (s.pend.length + 1) c5) (addW s x) (w'.setCell ⟨g, 2, none⟩ (.slice (some ⟨g5, 0, none⟩) (s.pend.length + 1) c5)) ∧ ∀ k, some k = Value.ownBlock (.slice (some ⟨g5, 0, none⟩) (s.pend.length + 1) c5) → some k = pv.ownBlock ∨ w.heap.size ≤ k := by
  have b1 : Below w.heap.size w (w.alloc o) := (Below.refl _ w).alloc (Nat.le_refl _) _
  have h1 := h.later b1
  have k2 : Kp (fun k => some k = pv.ownBlock) (w.alloc o) w' := ⟨hg.os, hg.tape, hg.output, hg.size, fun k hk hn => hg.block k hk hn⟩
  have hrow : St g bn bd pv (tot rn) s w' := h1.row.keep k2 (own_tag h1.pr h1.row (by decide))
  have hmn : Mp bn rn w' := h1.mn.keep k2 (own_map h1.pr h1.mn)
  have hmd : Mp bd s.dur w' := h1.md.keep k2 (own_map h1.pr h1.md)
  have kk : Kp (Fr g bn bd pv) w w' := (Kp.of_below b1).trans (k2.mono fun k hk => .inr (.inr (.inr hk)))
  refine ⟨hrow, kk, ?_, ?_⟩
  · have hk : Kp (fun k => k = g) w' (w'.setCell ⟨g, 2, none⟩ (.slice (some ⟨g5, 0, none⟩) (s.pend.length + 1) c5)) := Kp.setCell _ _ _ _ rfl
    refine ⟨?_, ?_, hmd.keep hk (hmd.ne hrow), h.ne, ?_, h.low, ok_add ok hx hl⟩
    · have := hrow.set2 (.slice (some ⟨g5, 0, none⟩) (s.pend.length + 1) c5)
      rw [now_add, ← hrn]
      exact this
    · rw [now_add, ← hrn]
      exact hmn.keep hk (hmn.ne hrow)
    · have e1 : (addW s x).pend.length = s.pend.length + 1 := by simp [addW]
      have e2 : wcs bd (addW s x).pend = wcs bd s.pend ++ wc bd x := by simp [wcs, addW]
      rw [e1, e2]
      exact own_kp ho hk (fun j hj e => by subst e; exact own_tag ho hrow (by decide) hj)
  · intro k hk
    have hk : k = g5 := Option.some.inj hk
    subst hk
    rcases hlies with e | e
    · exact .inl e.symm
    · exact .inr (by omega)
theorem new_three (W : World) (u v x : Value) (t : TypeId) : ∀ (j : Nat) (y : Value), [u, v, x][j]? = some y → (W.alloc (.cells #[u, v, x] t)).cell? (Addr.add ⟨W.heap.size, 0, none⟩ j) = some y := by
  intro j y h
  have hb : (W.alloc (.cells #[u, v, x] t)).heap[W.heap.size]? = some (.cells #[u, v, x] t (0, 0)) := (MapKept.heap_alloc W _).1
  have e : (Addr.add ⟨W.heap.size, 0, none⟩ j) = ⟨W.heap.size, j, none⟩ := by simp [Addr.add]; omega
  rw [e, cell_of_row _ _ j _ _ _ hb]
  simpa using h
def cutS (s : S) (k : ByteArray) : Int × S := if refS s k ≠ 0 then (refS s k, s) else if (rget k (now s)).isSome then spendS (addW s ⟨true, k, ByteArray.empty⟩) else (123, s)
end Go.Proofs.YtlkkibiedlakfaaGreat.yi
