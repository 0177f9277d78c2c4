import Derived.Test.YtmldkecaghokeaaGreatDoorNd
namespace Go.Proofs.YtmldkecaghokeaaGreatDoor.ne
open Go.RowKit Go.PlainAid
open Go.Proofs.YtmldkecaghokeaaGreatDoor.pl Go.Proofs.YtmldkecaghokeaaGreatDoor.pb Go.Proofs.YtmldkecaghokeaaGreatDoor.pc Go.Proofs.YtmldkecaghokeaaGreatDoor.pd Go.Proofs.YtmldkecaghokeaaGreatDoor.pe Go.Proofs.YtmldkecaghokeaaGreatDoor.pf Go.Proofs.YtmldkecaghokeaaGreatDoor.pg Go.Proofs.YtmldkecaghokeaaGreatDoor.ph Go.Proofs.YtmldkecaghokeaaGreatDoor.pi Go.Proofs.YtmldkecaghokeaaGreatDoor.ft Go.Proofs.YtmldkecaghokeaaGreatDoor.pj Go.Proofs.YtmldkecaghokeaaGreatDoor.mo Go.Proofs.YtmldkecaghokeaaGreatDoor.na Go.Proofs.YtmldkecaghokeaaGreatDoor.nb Go.Proofs.YtmldkecaghokeaaGreatDoor.nc Go.Proofs.YtmldkecaghokeaaGreatDoor.nd
set_option linter.unusedVariables false
set_option maxRecDepth 4000

theorem btL_two (a b : ByteArray) : btL (a ++ b) (a.size + b.size) = btL a a.size ++ btL b b.size := by
  apply List.ext_getElem
  · simp [btL]
  · intro j h1 h2
    have hj : j < a.size + b.size := by simpa [btL] using h1
    rcases Nat.lt_or_ge j a.size with h | h
    · rw [List.getElem_append_left (by simpa [btL] using h)]
      simp only [btL, List.getElem_map, List.getElem_range]
      exact bt_append_left _ _ _ h
    · rw [List.getElem_append_right (by simpa [btL] using h)]
      simp only [btL, List.getElem_map, List.getElem_range, List.length_map, List.length_range]
      have e : j = a.size + (j - a.size) := by omega
      rw [e, bt_append_right, Nat.add_sub_cancel_left]

theorem own_slice {w : World} {base : Nat} {v : Value} {n : Nat} {xs : List Value} (h : w.ownsRow base 5 1 v n xs) : ∃ b cap, v = .slice b n cap ∧ n ≤ cap := by
  rcases h.2 with ⟨rfl, rfl⟩ | ⟨g, cap, cur, rfl, _, _, hnc, _⟩
  · exact ⟨none, 0, rfl, Nat.le_refl _⟩
  · exact ⟨_, _, rfl, hnc⟩

theorem own_below {w w' : World} {base : Nat} {v : Value} {n : Nat} {xs : List Value} (h : w.ownsRow base 5 1 v n xs) (b : Below w.heap.size w w') : w'.ownsRow base 5 1 v n xs := by
  refine h.kept (row := none) ⟨b.os, b.tape, b.output, b.size, fun k hk _ => b.block k hk⟩ ?_
  cases v.ownBlock with
  | none => exact .inl rfl
  | some k => exact .inr (by simp)

-- string(out[:N])
theorem elB : Tryz.prog.elem 75 = 5 := by kernel_rfl
theorem unB : Tryz.prog.underlying 75 = some (.slice (Tryz.prog.elem 75)) := by rw [elB]; exact Tryz.underlying75
theorem slice_h (W : World) (b : Option Addr) (n cap N : Nat) (h : N ≤ cap) : (Instr.sliceAt 75 (.slice b n cap) none (some (.int .i64 N)) none).run Tryz.prog W = .ok (.slice (if cap = 0 then b else b.map (·.add 0)) N cap) W := by
  rw [run_sliceAt_slice _ _ _ _ _ _ unB, run_slice_h W 75 b n cap unB .i64 (N : Int) (by omega) (by omega), elB, si8]
  simp only [Result.andThen_ok, sliced, Int.toNat_natCast, Nat.zero_mul, Nat.sub_zero]
theorem cut_conv (W : World) (base : Nat) (b : Option Addr) (n cap N : Nat) (o d : ByteArray) (ho : W.ownsRow base 5 1 (.slice b n cap) n ((btL o n).map (Value.int .u8))) (hN : N ≤ n) (hd : d.size = N) (hb : ∀ j, j < N → bt d j = bt o j) :
    ∃ v, (Instr.sliceAt 75 (.slice b n cap) none (some (.int .i64 N)) none).run Tryz.prog W = .ok v W ∧ (convert 75 9 v).run Tryz.prog W = .ok (.string d) W := by
  have hs : str (btL d N) = d := by rw [← hd]; exact str_btL d
  rcases ho.2 with ⟨e1, e2⟩ | ⟨g, cap', cur, e1, _, hh, hnc, _, h2, h3⟩
  · injection e1 with e3 e4 e5
    subst e3 e5
    obtain rfl : N = 0 := by omega
    refine ⟨_, slice_h W none n 0 0 (Nat.le_refl _), ?_⟩
    rw [← hs]
    rw [run_convert_bytes_string _ 75 9 5 _ _ _ Tryz.underlying75 Tryz.underlying5 Tryz.underlying9]
    rfl
  · injection e1 with e3 e4 e5
    subst e3 e5
    refine ⟨_, slice_h W _ n cap N (by omega), ?_⟩
    have e : (if cap = 0 then some (⟨g, 0, none⟩ : Addr) else (some (⟨g, 0, none⟩ : Addr)).map (·.add 0)) = some ⟨g, 0, none⟩ := by
      split
      · rfl
      · simp [Addr.add]
    rw [e, ← hs]
    refine conv_at (btL d N) W g 0 N cap (by rw [btL_length]) (fun j u hj => ?_)
    have hjN : j < N := by simpa [btL] using (List.getElem?_eq_some_iff.1 hj).1
    refine ho.cells (g := g) rfl j u ?_
    rw [← hj]
    simp [btL, hjN, show j < n by omega, hb j hjN]

end Go.Proofs.YtmldkecaghokeaaGreatDoor.ne
