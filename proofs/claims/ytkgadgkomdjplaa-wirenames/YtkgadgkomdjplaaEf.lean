import Derived.Test.YtkgadgkomdjplaaEe
import Derived.Test.YtkgadgkomdjplaaNe
import Derived.Test.YtkgadgkomdjplaaMi
namespace Go.Proofs.Ytkgadgkomdjplaa.ef
open Go.RowKit Go.PlainAid Go.Shelf
open Go.Proofs.Ytkgadgkomdjplaa.ca Go.Proofs.Ytkgadgkomdjplaa.cb Go.Proofs.Ytkgadgkomdjplaa.cp Go.Proofs.Ytkgadgkomdjplaa.ga Go.Proofs.Ytkgadgkomdjplaa.kp Go.Proofs.Ytkgadgkomdjplaa.na Go.Proofs.Ytkgadgkomdjplaa.nb Go.Proofs.Ytkgadgkomdjplaa.nc Go.Proofs.Ytkgadgkomdjplaa.ne Go.Proofs.Ytkgadgkomdjplaa.ea Go.Proofs.Ytkgadgkomdjplaa.eb Go.Proofs.Ytkgadgkomdjplaa.ec Go.Proofs.Ytkgadgkomdjplaa.ed Go.Proofs.Ytkgadgkomdjplaa.ee Go.Proofs.Ytkgadgkomdjplaa.ka Go.Proofs.Ytkgadgkomdjplaa.bn Go.Proofs.Ytkgadgkomdjplaa.mi Go.Proofs.Ytkgadgkomdjplaa.sb
set_option linter.unusedVariables false

theorem putVarC (v : Int) (w : World) (h0 : 0 ≤ v) (h1 : v ≤ 18446744073709551615) : Calls Try.prog 64 #[.int .u64 v] w fun e w' => e = .returned (.string (putB v)) ∧ Below w.heap.size w w' := by
  obtain ⟨m, hm, hc⟩ := pv_any v h0 h1
  refine (hc w).mono ?_
  rintro e w' ⟨rfl, rfl⟩
  rw [putB_of v m h0 h1 hm]
  exact ⟨rfl, (Below.refl _ _).alloc (Nat.le_refl _) _⟩
theorem bWS (B b : Nat) (l : List UInt8) (s : ByteArray) (w : World) (h : Lib.IsBuilder 66 5 B b (Lib.byteCells l) w) (hlen : l.length + s.size ≤ 140737488355328) (hB : B ≤ w.heap.size) :
    Calls Try.prog 32 #[.pointer (some ⟨b, 0, none⟩), .string s] w fun e w' => e = .returned (.tuple #[.int .i64 s.size, .nilIface]) ∧ Lib.IsBuilder 66 5 B b (Lib.byteCells (l ++ s.data.toList)) w' ∧ Below B w w' := by
  refine (Any.Builder_WriteString lays166 extra B b (Lib.byteCells l) s w h (by rw [Lib.byteCells_length]; exact hlen) hB).mono ?_
  rintro e w' ⟨rfl, h1, h2⟩
  refine ⟨rfl, ?_, h2⟩
  rw [Lib.byteCells_append]
  exact .inr h1
theorem bS (B b : Nat) (l : List UInt8) (w : World) (h : Lib.IsBuilder 66 5 B b (Lib.byteCells l) w) (hB : B ≤ w.heap.size) :
    Calls Try.prog 34 #[.pointer (some ⟨b, 0, none⟩)] w fun e w' => e = .returned (.string ⟨l.toArray⟩) ∧ Below B w w' :=
  Any.Builder_String_any lays169 extra B b l w h hB
theorem isB_later {T u B b : Nat} {l : List Value} {w w' : World} (h : Lib.IsBuilder T u B b l w) (k : Below w.heap.size w w') : Lib.IsBuilder T u B b l w' := by
  have key : ∀ p, Lib.BuilderAt T u B b p l w → Lib.BuilderAt T u B b p l w' := by
    rintro p ⟨h1, v, h2, h3, h4⟩
    exact ⟨h1, v, (k.block _ (Array.getElem?_eq_some_iff.1 h2).1).trans h2, own_kp h3 (A := fun _ => False) (Kp.of_below k) (fun _ e => e.elim), h4⟩
  exact h.imp (key _) (key _)
theorem numsB_next (l : List Int) (k : Nat) (h : k < l.length) : numsB (l.take (k + 1)) = numsB (l.take k) ++ (putB (l.getD k 0)).data.toList := by
  have e : l.take (k + 1) = l.take k ++ [l.getD k 0] := by
    rw [List.take_add_one, List.getElem?_eq_getElem h, List.getD_eq_getElem?_getD, List.getElem?_eq_getElem h]
    rfl
  unfold numsB
  rw [e, List.flatMap_append, List.flatMap_cons, List.flatMap_nil, List.append_nil]
theorem size_data (x : ByteArray) : x.data.toList.length = x.size := Array.length_toList
theorem numsB_length (l : List Int) (hl : ∀ x ∈ l, 0 ≤ x ∧ x ≤ 9223372036854775807) : ∀ k, k ≤ l.length → (numsB (l.take k)).length ≤ 10 * k := by
  intro k
  induction k with
  | zero => intro _; simp [numsB]
  | succ k ih =>
    intro h
    have hk : k < l.length := by omega
    have hm := hl (l.getD k 0) (by rw [List.getD_eq_getElem?_getD, List.getElem?_eq_getElem hk]; exact List.getElem_mem _)
    have := (putB_size (l.getD k 0) hm.1 (by omega)).2
    rw [numsB_next l k hk, List.length_append, size_data]
    have := ih (by omega)
    omega
set_option maxHeartbeats 1600000 in
theorem numbersC (v : Value) (l : List Int) (w : World) (hR : ReadsI w v l) (hl : ∀ x ∈ l, 0 ≤ x ∧ x ≤ 9223372036854775807) (hn : l.length ≤ 1000000) :
    Calls Try.prog 33 #[v] w fun e w' => e = .returned (.string ⟨(numsB l).toArray⟩) ∧ Below w.heap.size w w' := by
  obtain ⟨a, cap, rfl, hcap, hcl⟩ := hR
  have HCL : Hid (l.length = 0 ∨ ∃ b off, a = some ⟨b, off, none⟩ ∧ ∀ i, i < l.length → w.cell? ⟨b, off + i, none⟩ = some (.int .i64 (l.getD i 0))) := hcl
  have HLN : Hid (∀ k, k ≤ l.length → (numsB (l.take k)).length ≤ 10 * k) := numsB_length l hl
  have HX : Hid (∀ k, k < l.length → 0 ≤ l.getD k 0 ∧ l.getD k 0 ≤ 9223372036854775807) := fun k hk => hl _ (by rw [List.getD_eq_getElem?_getD, List.getElem?_eq_getElem hk]; exact List.getElem_mem _)
  have HT : Hid (numsB (l.take l.length) = numsB l) := by show _ = _; rw [List.take_length]
  have HJ : Hid (∀ k, k < l.length → numsB (l.take (k + 1)) = numsB (l.take k) ++ (putB (l.getD k 0)).data.toList) := fun k hk => numsB_next l k hk
  obtain ⟨n, HN⟩ : ∃ n, Hid (l.length = n) := ⟨_, rfl⟩
  rw [HN.out] at HCL HLN HX HT HJ hn hcap ⊢
  rw [← HT.out]
  have FB : Hid (Lib.IsBuilder 66 5 w.heap.size w.heap.size (Lib.byteCells []) (w.alloc (.cells #[.pointer none, .slice none 0 0] 66))) := Lib.fresh_isBuilder 66 5 w
  clear hcl hl
  go_enter Try.func33, Try.ntmps33
  go_wp2
  go_loopw [8] (fun i wr => ∃ (k : Nat), k ≤ n ∧ i = .int .i64 k ∧ Hid (Lib.IsBuilder 66 5 w.heap.size w.heap.size (Lib.byteCells (numsB (l.take k))) wr ∧ Below w.heap.size w wr)) (fun i _ => (n - intOf i).toNat)
  case atStart => exact ⟨0, by omega, rfl, FB.out, (Below.refl _ _).alloc (Nat.le_refl _) _⟩
  case round =>
    clear FB
    obtain ⟨k, hk, rfl, HL⟩ := hrel
    have hbs := HL.out.2.size
    by_cases hlt : k < n
    · have hlt' : (k : Int) < n := by omega
      obtain ⟨b, off, rfl, hc⟩ : ∃ b off, a = some ⟨b, off, none⟩ ∧ ∀ i, i < n → w.cell? ⟨b, off + i, none⟩ = some (.int .i64 (l.getD i 0)) := by
        rcases HCL.out with h | h
        · omega
        · exact h
      have c1 : wr.cell? ⟨b, off + k, none⟩ = some (.int .i64 (l.getD k 0)) := (HL.out.2.cell (p := ⟨b, off + k, none⟩) (World.block_lt_of_cell? _ _ (hc k hlt))).trans (hc k hlt)
      have hx := HX.out k hlt
      have hl1 := HLN.out k (by omega)
      have HJK := HJ.out k hlt
      have HJ2 : Hid (_ = _) := HJK
      clear hc HJK
      obtain ⟨X, HXX⟩ : ∃ X, Hid (l.getD k 0 = X) := ⟨_, rfl⟩
      rw [HXX.out] at c1 hx HJ2
      have PV : Hid (∀ w, Calls _ _ _ _ _) := fun w => putVarC X w hx.1 (by omega)
      have hps := (putB_size X hx.1 (by omega)).2
      have hxu : IntKind.u64.wrap X = X := u64_nonneg hx.1 (by omega)
      have BL : Hid (∀ w2, Below wr.heap.size wr w2 → Lib.IsBuilder 66 5 w.heap.size w.heap.size (Lib.byteCells (numsB (l.take k))) w2 ∧ Below w.heap.size w w2 ∧ w.heap.size ≤ w2.heap.size) := fun w2 h2 => ⟨isB_later HL.out.1 h2, ⟨h2.os.trans HL.out.2.os, h2.tape.trans HL.out.2.tape, h2.output.trans HL.out.2.output, Nat.le_trans hbs h2.size, fun j hj => (h2.block j (Nat.lt_of_lt_of_le hj hbs)).trans (HL.out.2.block j hj)⟩, Nat.le_trans hbs h2.size⟩
      have WS : Hid (∀ w2, _ → _ → Calls _ _ _ _ _) := fun w2 h hB => bWS w.heap.size w.heap.size (numsB (l.take k)) (putB X) w2 h (by omega) hB
      obtain ⟨Y, HY⟩ : ∃ Y, Hid (putB X = Y) := ⟨_, rfl⟩
      rw [HY.out] at PV WS HJ2
      go_wp2_with (first | (go_at_call 64; refine (PV.out _).mono ?_; rintro _ w1 ⟨rfl, k1⟩; have B1 : Hid (_ ∧ _ ∧ _) := BL.out w1 k1; clear k1) | (go_at_call 32; refine (WS.out _ B1.out.1 B1.out.2.2).mono ?_; rintro _ w2 ⟨rfl, i2, k2⟩; rw [← HJ2.out] at i2; have B2 : Hid (Lib.IsBuilder 66 5 w.heap.size w.heap.size (Lib.byteCells (numsB (l.take (k + 1)))) w2 ∧ Below w.heap.size w w2) := ⟨i2, B1.out.2.1.trans k2⟩; clear i2 k2))
      go_roundw
      case rel => exact ⟨k + 1, by omega, by go_num, B2.out⟩
      case measure => simp [intOf]; omega
    · have hlt' : ¬ (k : Int) < n := by omega
      obtain rfl : k = n := by omega
      have CS : Hid (Calls _ _ _ _ _) := bS w.heap.size w.heap.size _ wr HL.out.1 hbs
      have HB : Hid (Below w.heap.size w wr) := HL.out.2
      clear HL
      go_wp2_with (go_at_call 34; refine CS.out.mono ?_; rintro _ w1 ⟨rfl, k1⟩; have B1 : Hid (Below w.heap.size w w1) := HB.out.trans k1; clear k1)
      go_ret
      exact ⟨rfl, B1.out⟩
end Go.Proofs.Ytkgadgkomdjplaa.ef
