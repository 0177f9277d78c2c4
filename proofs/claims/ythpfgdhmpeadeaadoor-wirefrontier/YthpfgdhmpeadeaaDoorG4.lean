import Derived.Test.YthpfgdhmpeadeaaDoorG1
import Derived.Test.YthpfgdhmpeadeaaDoorG2
import Derived.Test.YthpfgdhmpeadeaaDoorG3
import Derived.Lib.MinMax
import Derived.RowKit3
namespace Go.Proofs.YthpfgdhmpeadeaaDoor.ne
open Go.RowKit Go.PlainAid
open Go.Proofs.YthpfgdhmpeadeaaDoor.na Go.Proofs.YthpfgdhmpeadeaaDoor.nb Go.Proofs.YthpfgdhmpeadeaaDoor.xb Go.Proofs.YthpfgdhmpeadeaaDoor.nc
set_option linter.unusedVariables false

set_option maxHeartbeats 800000 in
theorem pv_core (v : Int) (m l : Nat) (w : World) (h0 : 0 ≤ v) (h1 : v ≤ 18446744073709551615) (m1 : 1 ≤ m) (m2 : m ≤ 10) (hl : l ≤ 64)
    (HM : Hid (max 1 (((l : Int) + 6) / 7) = (m : Int)))
    (HC : Hid (∀ w, Calls Tryd.prog 85 #[.int .u64 v] w fun e w' => e = .returned (.int .i64 l) ∧ w' = w)) :
    Calls Tryd.prog 58 #[.int .u64 v] w fun e w' => e = .returned (.string (str (putL v m))) ∧ w' = w.alloc (.cells (row (putL v m)) 5) := by
  go_enter Tryd.func58, Tryd.ntmps58
  go_wp2_with fail
  refine (HC.out _).mono ?_
  rintro e w' ⟨rfl, rfl⟩
  have hmk := make_row m (by omega)
  have hm := HM.out
  go_wp2
  clear hm
  go_loopw [14] (fun i wr => ∃ k : Nat, k ≤ m ∧ i = .int .i64 k ∧ wr = w'.alloc (.cells (row (varL v m k)) 5)) (fun i _ => (m - intOf i).toNat)
  case atStart => exact ⟨0, by omega, rfl, by rw [varL_zero]⟩
  case round =>
    obtain ⟨k, hk, rfl, rfl⟩ := hrel
    have HL : Hid _ := varL_length v m k hk
    by_cases hlt : k < m
    · have hlt' : (k : Int) < m := by omega
      have hsz : k < (row (varL v m k)).size := by rw [row_size, HL.out]; omega
      have HB : Hid _ := or128 (v / 2 ^ (7 * k) % 256) (by omega) (by omega)
      have HG : Hid (v / 2 ^ (7 * k) % 256 % 128 + 128 = gB v k) := by show _ = _; rw [pow128, gB]; omega
      go_wp2
      go_roundw
      case rel => exact ⟨k + 1, by omega, by go_num, by rw [HB.out, HG.out, row_set, varL_set v m k hlt]⟩
      case measure => simp [intOf]; omega
    · have hlt' : ¬ (k : Int) < m := by omega
      have e : k = m := by omega
      subst e
      have hsz : k - 1 < (row (varL v k k)).size := by rw [row_size, HL.out]; omega
      have hix : ((k : Int) - 1).toNat = k - 1 := by omega
      have hget : (row (varL v k k))[k - 1]'hsz = .int .u8 (gB v (k - 1)) := by
        have h : (row (varL v k k))[k - 1]? = some (.int .u8 (gB v (k - 1))) := by rw [row_get, varL_last v k m1]; rfl
        exact (Array.getElem?_eq_some_iff.1 h).2
      have hg := gB_byte v (k - 1)
      have HA : Hid (bits .and .u8 (gB v (k - 1)) 127 = v / 128 ^ (k - 1) % 128) := by show _ = _; rw [and127 _ (by omega) (by omega), gB]; omega
      have HE : Hid ((row (varL v k k)).setIfInBounds (k - 1) (.int .u8 (bits .and .u8 (gB v (k - 1)) 127)) = row (putL v k)) := by
        show _ = _
        rw [HA.out, row_set, varL_put v k m1]
      have hcv := conv_row (putL v k) w' k (putL_length v k m1).symm
      rw [← HE.out] at hcv
      go_wp2
      go_ret
      exact ⟨rfl, by rw [HE.out]⟩

theorem pv_any (v : Int) (h0 : 0 ≤ v) (h1 : v ≤ 18446744073709551615) : ∃ m, Wants v m ∧
    ∀ w, Calls Tryd.prog 58 #[.int .u64 v] w fun e w' => e = .returned (.string (str (putL v m))) ∧ w' = w.alloc (.cells (row (putL v m)) 5) := by
  have hw := wants_len v h0 h1
  refine ⟨_, hw, fun w => ?_⟩
  have hl : Lib.bitLen v.toNat ≤ 64 := Lib.bitLenAux_le 64 v.toNat 64 (by omega)
  refine pv_core v _ (Lib.bitLen v.toNat) w h0 h1 hw.1 hw.2.1 hl ?_ (fun w => len_any v w h0 h1)
  show _ = _
  by_cases hv : v = 0
  · subst hv
    have e : Lib.bitLen (0 : Int).toNat = 0 := bitLen_zero
    rw [e]; decide
  · have h2 := (Go.Proofs.YthpfgdhmpeadeaaDoor.nc.bitLen_spec v.toNat (by omega)).2 (by omega)
    rw [if_neg hv]
    omega
end Go.Proofs.YthpfgdhmpeadeaaDoor.ne

namespace Go.Proofs.YthpfgdhmpeadeaaDoor.ef
open Go.RowKit Go.PlainAid Go.Shelf
open Go.Proofs.YthpfgdhmpeadeaaDoor.ca Go.Proofs.YthpfgdhmpeadeaaDoor.cb Go.Proofs.YthpfgdhmpeadeaaDoor.cp Go.Proofs.YthpfgdhmpeadeaaDoor.ga Go.Proofs.YthpfgdhmpeadeaaDoor.kp Go.Proofs.YthpfgdhmpeadeaaDoor.na Go.Proofs.YthpfgdhmpeadeaaDoor.nb Go.Proofs.YthpfgdhmpeadeaaDoor.nc Go.Proofs.YthpfgdhmpeadeaaDoor.ne Go.Proofs.YthpfgdhmpeadeaaDoor.ea Go.Proofs.YthpfgdhmpeadeaaDoor.eb Go.Proofs.YthpfgdhmpeadeaaDoor.ec Go.Proofs.YthpfgdhmpeadeaaDoor.ed Go.Proofs.YthpfgdhmpeadeaaDoor.ee Go.Proofs.YthpfgdhmpeadeaaDoor.ka Go.Proofs.YthpfgdhmpeadeaaDoor.bn Go.Proofs.YthpfgdhmpeadeaaDoor.mi Go.Proofs.YthpfgdhmpeadeaaDoor.sb
set_option linter.unusedVariables false

theorem putVarC (v : Int) (w : World) (h0 : 0 ≤ v) (h1 : v ≤ 18446744073709551615) : Calls Tryd.prog 58 #[.int .u64 v] w fun e w' => e = .returned (.string (putB v)) ∧ Below w.heap.size w w' := by
  obtain ⟨m, hm, hc⟩ := pv_any v h0 h1
  refine (hc w).mono ?_
  rintro e w' ⟨rfl, rfl⟩
  rw [putB_of v m h0 h1 hm]
  exact ⟨rfl, (Below.refl _ _).alloc (Nat.le_refl _) _⟩
theorem bWS (B b : Nat) (l : List UInt8) (s : ByteArray) (w : World) (h : Lib.IsBuilder 103 5 B b (Lib.byteCells l) w) (hlen : l.length + s.size ≤ 140737488355328) (hB : B ≤ w.heap.size) :
    Calls Tryd.prog 55 #[.pointer (some ⟨b, 0, none⟩), .string s] w fun e w' => e = .returned (.tuple #[.int .i64 s.size, .nilIface]) ∧ Lib.IsBuilder 103 5 B b (Lib.byteCells (l ++ s.data.toList)) w' ∧ Below B w w' := by
  refine (Any.Builder_WriteString lays166 extra B b (Lib.byteCells l) s w h (by rw [Lib.byteCells_length]; exact hlen) hB).mono ?_
  rintro e w' ⟨rfl, h1, h2⟩
  refine ⟨rfl, ?_, h2⟩
  rw [Lib.byteCells_append]
  exact .inr h1
theorem bS (B b : Nat) (l : List UInt8) (w : World) (h : Lib.IsBuilder 103 5 B b (Lib.byteCells l) w) (hB : B ≤ w.heap.size) :
    Calls Tryd.prog 56 #[.pointer (some ⟨b, 0, none⟩)] w fun e w' => e = .returned (.string ⟨l.toArray⟩) ∧ Below B w w' :=
  Any.Builder_String_any lays169 extra B b l w h hB
theorem isB_later {T u B b : Nat} {l : List Value} {w w' : World} (h : Lib.IsBuilder T u B b l w) (k : Below w.heap.size w w') : Lib.IsBuilder T u B b l w' := by
  have key : ∀ p, Lib.BuilderAt T u B b p l w → Lib.BuilderAt T u B b p l w' := by
    rintro p ⟨h1, v, h2, h3, h4⟩
    exact ⟨h1, v, (k.block _ (Array.getElem?_eq_some_iff.1 h2).1).trans h2, own_kp h3 (A := fun _ => False) (Kp.of_below k) (fun _ e => e.elim), h4⟩
  exact h.imp (key _) (key _)
theorem numsB_next (l : List Int) (k : Nat) (h : k < l.length) : numsB (l.take (k + 1)) = numsB (l.take k) ++ (putB (l.getD k 0)).data.toList := by
  have e : l.take (k + 1) = l.take k ++ [l.getD k 0] := by
    rw [List.take_add_one, List.getElem?_eq_getElem h, List.getD_eq_getElem?_getD, List.getElem?_eq_getElem h]
    rfl
  unfold numsB
  rw [e, List.flatMap_append, List.flatMap_cons, List.flatMap_nil, List.append_nil]
theorem size_data (x : ByteArray) : x.data.toList.length = x.size := Array.length_toList
theorem numsB_length (l : List Int) (hl : ∀ x ∈ l, 0 ≤ x ∧ x ≤ 9223372036854775807) : ∀ k, k ≤ l.length → (numsB (l.take k)).length ≤ 10 * k := by
  intro k
  induction k with
  | zero => intro _; simp [numsB]
  | succ k ih =>
    intro h
    have hk : k < l.length := by omega
    have hm := hl (l.getD k 0) (by rw [List.getD_eq_getElem?_getD, List.getElem?_eq_getElem hk]; exact List.getElem_mem _)
    have := (putB_size (l.getD k 0) hm.1 (by omega)).2
    rw [numsB_next l k hk, List.length_append, size_data]
    have := ih (by omega)
    omega
set_option maxHeartbeats 1600000 in
theorem numbersC (v : Value) (l : List Int) (w : World) (hR : ReadsI w v l) (hl : ∀ x ∈ l, 0 ≤ x ∧ x ≤ 9223372036854775807) (hn : l.length ≤ 1000000) :
    Calls Tryd.prog 32 #[v] w fun e w' => e = .returned (.string ⟨(numsB l).toArray⟩) ∧ Below w.heap.size w w' := by
  obtain ⟨a, cap, rfl, hcap, hcl⟩ := hR
  have HCL : Hid (l.length = 0 ∨ ∃ b off, a = some ⟨b, off, none⟩ ∧ ∀ i, i < l.length → w.cell? ⟨b, off + i, none⟩ = some (.int .i64 (l.getD i 0))) := hcl
  have HLN : Hid (∀ k, k ≤ l.length → (numsB (l.take k)).length ≤ 10 * k) := numsB_length l hl
  have HX : Hid (∀ k, k < l.length → 0 ≤ l.getD k 0 ∧ l.getD k 0 ≤ 9223372036854775807) := fun k hk => hl _ (by rw [List.getD_eq_getElem?_getD, List.getElem?_eq_getElem hk]; exact List.getElem_mem _)
  have HT : Hid (numsB (l.take l.length) = numsB l) := by show _ = _; rw [List.take_length]
  have HJ : Hid (∀ k, k < l.length → numsB (l.take (k + 1)) = numsB (l.take k) ++ (putB (l.getD k 0)).data.toList) := fun k hk => numsB_next l k hk
  obtain ⟨n, HN⟩ : ∃ n, Hid (l.length = n) := ⟨_, rfl⟩
  rw [HN.out] at HCL HLN HX HT HJ hn hcap ⊢
  rw [← HT.out]
  have FB : Hid (Lib.IsBuilder 103 5 w.heap.size w.heap.size (Lib.byteCells []) (w.alloc (.cells #[.pointer none, .slice none 0 0] 103))) := Lib.fresh_isBuilder 103 5 w
  clear hcl hl
  go_enter Tryd.func32, Tryd.ntmps32
  go_wp2
  go_loopw [8] (fun i wr => ∃ (k : Nat), k ≤ n ∧ i = .int .i64 k ∧ Hid (Lib.IsBuilder 103 5 w.heap.size w.heap.size (Lib.byteCells (numsB (l.take k))) wr ∧ Below w.heap.size w wr)) (fun i _ => (n - intOf i).toNat)
  case atStart => exact ⟨0, by omega, rfl, FB.out, (Below.refl _ _).alloc (Nat.le_refl _) _⟩
  case round =>
    clear FB
    obtain ⟨k, hk, rfl, HL⟩ := hrel
    have hbs := HL.out.2.size
    by_cases hlt : k < n
    · have hlt' : (k : Int) < n := by omega
      obtain ⟨b, off, rfl, hc⟩ : ∃ b off, a = some ⟨b, off, none⟩ ∧ ∀ i, i < n → w.cell? ⟨b, off + i, none⟩ = some (.int .i64 (l.getD i 0)) := by
        rcases HCL.out with h | h
        · omega
        · exact h
      have c1 : wr.cell? ⟨b, off + k, none⟩ = some (.int .i64 (l.getD k 0)) := (HL.out.2.cell (p := ⟨b, off + k, none⟩) (World.block_lt_of_cell? _ _ (hc k hlt))).trans (hc k hlt)
      have hx := HX.out k hlt
      have hl1 := HLN.out k (by omega)
      have HJK := HJ.out k hlt
      have HJ2 : Hid (_ = _) := HJK
      clear hc HJK
      obtain ⟨X, HXX⟩ : ∃ X, Hid (l.getD k 0 = X) := ⟨_, rfl⟩
      rw [HXX.out] at c1 hx HJ2
      have PV : Hid (∀ w, Calls _ _ _ _ _) := fun w => putVarC X w hx.1 (by omega)
      have hps := (putB_size X hx.1 (by omega)).2
      have hxu : IntKind.u64.wrap X = X := u64_nonneg hx.1 (by omega)
      have BL : Hid (∀ w2, Below wr.heap.size wr w2 → Lib.IsBuilder 103 5 w.heap.size w.heap.size (Lib.byteCells (numsB (l.take k))) w2 ∧ Below w.heap.size w w2 ∧ w.heap.size ≤ w2.heap.size) := fun w2 h2 => ⟨isB_later HL.out.1 h2, ⟨h2.os.trans HL.out.2.os, h2.tape.trans HL.out.2.tape, h2.output.trans HL.out.2.output, Nat.le_trans hbs h2.size, fun j hj => (h2.block j (Nat.lt_of_lt_of_le hj hbs)).trans (HL.out.2.block j hj)⟩, Nat.le_trans hbs h2.size⟩
      have WS : Hid (∀ w2, _ → _ → Calls _ _ _ _ _) := fun w2 h hB => bWS w.heap.size w.heap.size (numsB (l.take k)) (putB X) w2 h (by omega) hB
      obtain ⟨Y, HY⟩ : ∃ Y, Hid (putB X = Y) := ⟨_, rfl⟩
      rw [HY.out] at PV WS HJ2
      go_wp2_with (first | (go_at_call 58; refine (PV.out _).mono ?_; rintro _ w1 ⟨rfl, k1⟩; have B1 : Hid (_ ∧ _ ∧ _) := BL.out w1 k1; clear k1) | (go_at_call 55; refine (WS.out _ B1.out.1 B1.out.2.2).mono ?_; rintro _ w2 ⟨rfl, i2, k2⟩; rw [← HJ2.out] at i2; have B2 : Hid (Lib.IsBuilder 103 5 w.heap.size w.heap.size (Lib.byteCells (numsB (l.take (k + 1)))) w2 ∧ Below w.heap.size w w2) := ⟨i2, B1.out.2.1.trans k2⟩; clear i2 k2))
      go_roundw
      case rel => exact ⟨k + 1, by omega, by go_num, B2.out⟩
      case measure => simp [intOf]; omega
    · have hlt' : ¬ (k : Int) < n := by omega
      obtain rfl : k = n := by omega
      have CS : Hid (Calls _ _ _ _ _) := bS w.heap.size w.heap.size _ wr HL.out.1 hbs
      have HB : Hid (Below w.heap.size w wr) := HL.out.2
      clear HL
      go_wp2_with (go_at_call 56; refine CS.out.mono ?_; rintro _ w1 ⟨rfl, k1⟩; have B1 : Hid (Below w.heap.size w w1) := HB.out.trans k1; clear k1)
      go_ret
      exact ⟨rfl, B1.out⟩
end Go.Proofs.YthpfgdhmpeadeaaDoor.ef

namespace Go.Proofs.YthpfgdhmpeadeaaDoor.eg
open Go.RowKit Go.PlainAid Go.Shelf
open Go.Proofs.YthpfgdhmpeadeaaDoor.ca Go.Proofs.YthpfgdhmpeadeaaDoor.cb Go.Proofs.YthpfgdhmpeadeaaDoor.cp Go.Proofs.YthpfgdhmpeadeaaDoor.ga Go.Proofs.YthpfgdhmpeadeaaDoor.kp Go.Proofs.YthpfgdhmpeadeaaDoor.na Go.Proofs.YthpfgdhmpeadeaaDoor.nb Go.Proofs.YthpfgdhmpeadeaaDoor.nc Go.Proofs.YthpfgdhmpeadeaaDoor.ne Go.Proofs.YthpfgdhmpeadeaaDoor.ea Go.Proofs.YthpfgdhmpeadeaaDoor.eb Go.Proofs.YthpfgdhmpeadeaaDoor.ec Go.Proofs.YthpfgdhmpeadeaaDoor.ed Go.Proofs.YthpfgdhmpeadeaaDoor.ee Go.Proofs.YthpfgdhmpeadeaaDoor.ef Go.Proofs.YthpfgdhmpeadeaaDoor.ka Go.Proofs.YthpfgdhmpeadeaaDoor.bn Go.Proofs.YthpfgdhmpeadeaaDoor.mi Go.Proofs.YthpfgdhmpeadeaaDoor.sb
set_option linter.unusedVariables false

-- what Leaves answers
def leavesE (l : List ByteArray) : Int := if 1024 < l.length then 83 else if l.all (fun x => decide (x.size ≤ 4096)) then 0 else 121
def leavesV (l : List ByteArray) : Value := .tuple #[.string (if leavesE l = 0 then ⟨(leavesB l).toArray⟩ else ByteArray.empty), .int .i64 (leavesE l)]
def leavesK (l : List ByteArray) (k : Nat) : List UInt8 := 76 :: (putB l.length).data.toList ++ (l.take k).flatMap leafB
theorem leavesK_next (l : List ByteArray) (k : Nat) (h : k < l.length) : leavesK l (k + 1) = leavesK l k ++ leafB (l.getD k ByteArray.empty) := by
  have e : l.take (k + 1) = l.take k ++ [l.getD k ByteArray.empty] := by
    rw [List.take_add_one, List.getElem?_eq_getElem h, List.getD_eq_getElem?_getD, List.getElem?_eq_getElem h]
    rfl
  unfold leavesK
  rw [e, List.flatMap_append, List.flatMap_cons, List.flatMap_nil, List.append_nil]
  simp
theorem leavesK_all (l : List ByteArray) : leavesK l l.length = leavesB l := by unfold leavesK leavesB; rw [List.take_length]
theorem leafB_length (x : ByteArray) (h : x.size ≤ 4096) : (leafB x).length ≤ 4106 := by
  have := (putB_size (x.size : Int) (by omega) (by omega)).2
  unfold leafB
  rw [List.length_append, size_data, size_data]; omega
theorem leavesK_length (l : List ByteArray) (hn : l.length ≤ 1024) : ∀ k, k ≤ l.length → (∀ j, j < k → (l.getD j ByteArray.empty).size ≤ 4096) → (leavesK l k).length ≤ 11 + 4106 * k := by
  intro k
  induction k with
  | zero =>
    intro _ _
    have := (putB_size (l.length : Int) (by omega) (by omega)).2
    simp [leavesK]
    omega
  | succ k ih =>
    intro h hs
    rw [leavesK_next l k h, List.length_append]
    have := ih (by omega) (fun j hj => hs j (by omega))
    have := leafB_length _ (hs k (by omega))
    omega
theorem str_append (a b : ByteArray) : (a ++ b).data.toList = a.data.toList ++ b.data.toList := by rw [ByteArray.data_append, Array.toList_append]
theorem numsB_one (v : Int) : (⟨(numsB [v]).toArray⟩ : ByteArray) = putB v := by
  unfold numsB
  apply ByteArray.ext
  simp
theorem one_int (W : World) (n : Int) (t : TypeId) : ReadsI (W.alloc (.cells #[.int .i64 n] t)) (.slice (some ⟨W.heap.size, 0, none⟩) 1 1) [n] := by
  refine ⟨_, 1, rfl, Nat.le_refl _, .inr ⟨W.heap.size, 0, rfl, fun i hi => ?_⟩⟩
  have h0 : i = 0 := by simp at hi; omega
  subst h0
  rw [World.cell?_alloc_at _ _ _ _ rfl]
  rfl
-- numbers(n), in a world in which its list was made
theorem numberC1 (n : Int) (W : World) (h0 : 0 ≤ n) (h1 : n ≤ 9223372036854775807) :
    Calls Tryd.prog 32 #[.slice (some ⟨W.heap.size, 0, none⟩) 1 1] (W.alloc (.cells #[.int .i64 n] 3)) fun e w' => e = .returned (.string (putB n)) ∧ Below W.heap.size W w' := by
  refine (numbersC _ [n] _ (one_int W n _) (fun x hx => by simp at hx; subst hx; exact ⟨h0, h1⟩) (by simp)).mono ?_
  rintro e w' ⟨rfl, hb⟩
  rw [numsB_one]
  have ha : Below W.heap.size W (W.alloc (.cells #[.int .i64 n] 3)) := (Below.refl _ _).alloc (Nat.le_refl _) _
  exact ⟨rfl, ⟨hb.os.trans ha.os, hb.tape.trans ha.tape, hb.output.trans ha.output, Nat.le_trans ha.size hb.size, fun j hj => (hb.block j (Nat.lt_of_lt_of_le hj ha.size)).trans (ha.block j hj)⟩⟩
theorem below2 {B : Nat} {w w1 w2 : World} (h : Below B w w1) (k : Below w1.heap.size w1 w2) (hB : B ≤ w.heap.size) : Below B w w2 :=
  ⟨k.os.trans h.os, k.tape.trans h.tape, k.output.trans h.output, Nat.le_trans h.size k.size, fun j hj => (k.block j (by have := h.size; omega)).trans (h.block j hj)⟩
theorem not_all {l : List ByteArray} {k : Nat} (hk : k < l.length) (h : 4096 < (l.getD k ByteArray.empty).size) : l.all (fun x => decide (x.size ≤ 4096)) = false := by
  rw [List.all_eq_false]
  refine ⟨l.getD k ByteArray.empty, ?_, by rw [decide_eq_false (show ¬ (l.getD k ByteArray.empty).size ≤ 4096 by omega)]; exact Bool.false_ne_true⟩
  rw [List.getD_eq_getElem?_getD, List.getElem?_eq_getElem hk]
  exact List.getElem_mem _
theorem all_of {l : List ByteArray} (h : ∀ j, j < l.length → (l.getD j ByteArray.empty).size ≤ 4096) : l.all (fun x => decide (x.size ≤ 4096)) = true := by
  rw [List.all_eq_true]
  intro x hx
  obtain ⟨j, hj, rfl⟩ := List.getElem_of_mem hx
  have := h j hj
  rw [List.getD_eq_getElem?_getD, List.getElem?_eq_getElem hj] at this
  simpa using this
set_option maxHeartbeats 1600000 in
theorem leavesC (v : Value) (l : List ByteArray) (w : World) (hR : ReadsT w v l) (hn : l.length ≤ 140737488355328) :
    Calls Tryd.prog 28 #[v] w fun e w' => e = .returned (leavesV l) ∧ Below w.heap.size w w' := by
  obtain ⟨a, cap, rfl, hcap, hcl⟩ := hR
  by_cases hm : 1024 < l.length
  · have HV : Hid (leavesV l = .tuple #[.string ByteArray.empty, .int .i64 83]) := by
      have e : leavesE l = 83 := if_pos hm
      show _ = _
      unfold leavesV
      rw [e]; rfl
    rw [HV.out]
    have hm' : (1024 : Int) < l.length := by omega
    clear hcl
    go_enter Tryd.func28, Tryd.ntmps28
    go_wp2
    go_ret2
    exact ⟨rfl, Below.refl _ _⟩
  have HCL : Hid (l.length = 0 ∨ ∃ b off, a = some ⟨b, off, none⟩ ∧ ∀ i, i < l.length → w.cell? ⟨b, off + i, none⟩ = some (.string (l.getD i ByteArray.empty))) := hcl
  have HK0 : Hid ((76 :: (putB l.length).data.toList) = leavesK l 0) := by show _ = _; simp [leavesK]
  have HJ : Hid (∀ k, k < l.length → leavesK l (k + 1) = leavesK l k ++ leafB (l.getD k ByteArray.empty)) := fun k hk => leavesK_next l k hk
  have HLN : Hid (∀ k, k ≤ l.length → (∀ j, j < k → (l.getD j ByteArray.empty).size ≤ 4096) → (leavesK l k).length ≤ 11 + 4106 * k) := leavesK_length l (by omega)
  have HBAD : Hid (∀ k, k < l.length → 4096 < (l.getD k ByteArray.empty).size → leavesV l = .tuple #[.string ByteArray.empty, .int .i64 121]) := fun k hk h => by
    have e : leavesE l = 121 := by unfold leavesE; rw [if_neg hm, not_all hk h]; rfl
    unfold leavesV
    rw [e]; rfl
  have HGOOD : Hid ((∀ j, j < l.length → (l.getD j ByteArray.empty).size ≤ 4096) → leavesV l = .tuple #[.string ⟨(leavesK l l.length).toArray⟩, .int .i64 0]) := fun h => by
    have e : leavesE l = 0 := by unfold leavesE; rw [if_neg hm, all_of h]; rfl
    unfold leavesV
    rw [e, leavesK_all]; rfl
  obtain ⟨R, HRR⟩ : ∃ R, Hid (leavesV l = R) := ⟨_, rfl⟩
  obtain ⟨n, HN⟩ : ∃ n, Hid (l.length = n) := ⟨_, rfl⟩
  rw [HRR.out] at HBAD HGOOD ⊢
  rw [HN.out] at HCL HK0 HJ HLN HBAD HGOOD hm hcap ⊢
  have hm' : ¬ (1024 : Int) < n := by omega
  have FB : Hid (Lib.IsBuilder 103 5 w.heap.size w.heap.size (Lib.byteCells []) (w.alloc (.cells #[.pointer none, .slice none 0 0] 103))) := Lib.fresh_isBuilder 103 5 w
  have FW : Hid (Below w.heap.size w (w.alloc (.cells #[.pointer none, .slice none 0 0] 103))) := (Below.refl _ _).alloc (Nat.le_refl _) _
  have N1 : Hid (∀ W, Calls _ _ _ _ _) := fun W => numberC1 (n : Int) W (by omega) (by omega)
  have hps := (putB_size (n : Int) (by omega) (by omega)).2
  obtain ⟨Y, HY⟩ : ∃ Y, Hid (putB (n : Int) = Y) := ⟨_, rfl⟩
  rw [HY.out] at N1 HK0 hps
  have hsa : ((⟨#[76]⟩ : ByteArray) ++ Y).size ≤ 11 := by rw [ByteArray.size_append]; show 1 + Y.size ≤ 11; omega
  have HSA : Hid (((⟨#[76]⟩ : ByteArray) ++ Y).data.toList = leavesK l 0) := by show _ = _; rw [str_append, ← HK0.out]; rfl
  clear hcl
  obtain ⟨W, HW⟩ : ∃ W, W = w.alloc (.cells #[.pointer none, .slice none 0 0] 103) := ⟨_, rfl⟩
  rw [← HW] at FB FW
  go_enter Tryd.func28, Tryd.ntmps28
  go_upto_region 4 with fail
  rw [← HW]
  clear HW
  go_wp2_with (first | (go_at_call 32; refine (N1.out _).mono ?_; rintro _ w1 ⟨rfl, k1⟩; have I1 : Hid (Lib.IsBuilder 103 5 w.heap.size w.heap.size (Lib.byteCells []) w1) := isB_later FB.out k1; have D1 : Hid (Below w.heap.size w w1) := below2 FW.out k1 (Nat.le_refl _); clear k1) | (go_at_call 55; refine (bWS w.heap.size w.heap.size [] _ _ I1.out (by rw [List.length_nil, Nat.zero_add]; exact Nat.le_trans hsa (by omega)) D1.out.size).mono ?_; rintro _ w2 ⟨rfl, i2, k2⟩; rw [List.nil_append, HSA.out] at i2; have B2 : Hid (Lib.IsBuilder 103 5 w.heap.size w.heap.size (Lib.byteCells (leavesK l 0)) w2 ∧ Below w.heap.size w w2) := ⟨i2, D1.out.trans k2⟩; clear i2 k2))
  go_loopw [18] (fun i wr => ∃ (k : Nat), k ≤ n ∧ i = .int .i64 k ∧ Hid ((∀ j, j < k → (l.getD j ByteArray.empty).size ≤ 4096) ∧ Lib.IsBuilder 103 5 w.heap.size w.heap.size (Lib.byteCells (leavesK l k)) wr ∧ Below w.heap.size w wr)) (fun i _ => (n - intOf i).toNat)
  case atStart => exact ⟨0, by omega, rfl, fun j h => by omega, B2.out⟩
  case round =>
    clear FB FW I1 D1 B2 N1 HK0 HSA hsa hps
    obtain ⟨k, hk, rfl, HL⟩ := hrel
    have hbs := HL.out.2.2.size
    by_cases hlt : k < n
    · have hlt' : (k : Int) < n := by omega
      obtain ⟨b, off, rfl, hc⟩ : ∃ b off, a = some ⟨b, off, none⟩ ∧ ∀ i, i < n → w.cell? ⟨b, off + i, none⟩ = some (.string (l.getD i ByteArray.empty)) := by
        rcases HCL.out with h | h
        · omega
        · exact h
      have c1 : wr.cell? ⟨b, off + k, none⟩ = some (.string (l.getD k ByteArray.empty)) := (HL.out.2.2.cell (p := ⟨b, off + k, none⟩) (World.block_lt_of_cell? _ _ (hc k hlt))).trans (hc k hlt)
      have hl1 := HLN.out k (by omega) HL.out.1
      have HJ2 : Hid (_ = _) := HJ.out k hlt
      have HBD : Hid (_ → _) := HBAD.out k hlt
      clear hc
      obtain ⟨X, HXX⟩ : ∃ X, Hid (l.getD k ByteArray.empty = X) := ⟨_, rfl⟩
      rw [HXX.out] at c1 HJ2 HBD
      by_cases hbig : 4096 < X.size
      · have hbig' : (4096 : Int) < X.size := by omega
        have HE : Hid (R = _) := HBD.out hbig
        have HB : Hid (Below w.heap.size w wr) := HL.out.2.2
        clear HL
        go_wp2
        go_ret2
        exact ⟨ret_v HE.out.symm, HB.out⟩
      · have hbig' : ¬ (4096 : Int) < X.size := by omega
        have PV : Hid (∀ W, Calls _ _ _ _ _) := fun W => numberC1 (X.size : Int) W (by omega) (by omega)
        have hps := (putB_size (X.size : Int) (by omega) (by omega)).2
        have HF : Hid (leafB X = (putB X.size).data.toList ++ X.data.toList) := rfl
        have HX4 : Hid (∀ j, j < k + 1 → (l.getD j ByteArray.empty).size ≤ 4096) := fun j hj => by
          rcases Nat.lt_or_ge j k with h | h
          · exact HL.out.1 j h
          · obtain rfl : j = k := by omega
            rw [HXX.out]; omega
        have BL : Hid (∀ w2, Below wr.heap.size wr w2 → Lib.IsBuilder 103 5 w.heap.size w.heap.size (Lib.byteCells (leavesK l k)) w2 ∧ Below w.heap.size w w2 ∧ w.heap.size ≤ w2.heap.size) := fun w2 h2 => ⟨isB_later HL.out.2.1 h2, below2 HL.out.2.2 h2 (Nat.le_refl _), Nat.le_trans hbs h2.size⟩
        obtain ⟨Z, HZ⟩ : ∃ Z, Hid (putB (X.size : Int) = Z) := ⟨_, rfl⟩
        rw [HZ.out] at PV HF hps
        have hsz : (Z ++ X).size ≤ 4106 := by rw [ByteArray.size_append]; omega
        have hsl : Z.size + X.size ≤ 4106 := by omega
        have HSL : Hid ((Z ++ X).data.toList = leafB X) := by show _ = _; rw [str_append, HF.out]
        have WS : Hid (∀ w2, _ → _ → Calls _ _ _ _ _) := fun w2 h hB => bWS w.heap.size w.heap.size (leavesK l k) (Z ++ X) w2 h (by omega) hB
        rw [HSL.out, ← HJ2.out] at WS
        go_wp2_with (first | (go_at_call 32; refine (PV.out _).mono ?_; rintro _ w1 ⟨rfl, k1⟩; have B1 : Hid (_ ∧ _ ∧ _) := BL.out w1 k1; clear k1) | (go_at_call 55; refine (WS.out _ B1.out.1 B1.out.2.2).mono ?_; rintro _ w2 ⟨rfl, i2, k2⟩; have B2 : Hid (Lib.IsBuilder 103 5 w.heap.size w.heap.size (Lib.byteCells (leavesK l (k + 1))) w2 ∧ Below w.heap.size w w2) := ⟨i2, B1.out.2.1.trans k2⟩; clear i2 k2))
        go_roundw
        case rel => exact ⟨k + 1, by omega, by go_num, HX4.out, B2.out⟩
        case measure => simp [intOf]; omega
    · have hlt' : ¬ (k : Int) < n := by omega
      obtain rfl : k = n := by omega
      have CS : Hid (Calls _ _ _ _ _) := bS w.heap.size w.heap.size _ wr HL.out.2.1 hbs
      have HB : Hid (Below w.heap.size w wr) := HL.out.2.2
      have HE : Hid (R = _) := HGOOD.out HL.out.1
      clear HL
      go_wp2_with (go_at_call 56; refine CS.out.mono ?_; rintro _ w1 ⟨rfl, k1⟩; have B1 : Hid (Below w.heap.size w w1) := HB.out.trans k1; clear k1)
      go_ret2
      exact ⟨ret_v HE.out.symm, B1.out⟩
end Go.Proofs.YthpfgdhmpeadeaaDoor.eg

namespace Go.Proofs.YthpfgdhmpeadeaaDoor.eh
open Go.RowKit Go.PlainAid Go.Shelf
open Go.Proofs.YthpfgdhmpeadeaaDoor.ca Go.Proofs.YthpfgdhmpeadeaaDoor.cb Go.Proofs.YthpfgdhmpeadeaaDoor.cp Go.Proofs.YthpfgdhmpeadeaaDoor.ga Go.Proofs.YthpfgdhmpeadeaaDoor.kp Go.Proofs.YthpfgdhmpeadeaaDoor.na Go.Proofs.YthpfgdhmpeadeaaDoor.nb Go.Proofs.YthpfgdhmpeadeaaDoor.nc Go.Proofs.YthpfgdhmpeadeaaDoor.ea Go.Proofs.YthpfgdhmpeadeaaDoor.eb Go.Proofs.YthpfgdhmpeadeaaDoor.ec Go.Proofs.YthpfgdhmpeadeaaDoor.ed Go.Proofs.YthpfgdhmpeadeaaDoor.ee Go.Proofs.YthpfgdhmpeadeaaDoor.ef Go.Proofs.YthpfgdhmpeadeaaDoor.eg Go.Proofs.YthpfgdhmpeadeaaDoor.ka Go.Proofs.YthpfgdhmpeadeaaDoor.bn
set_option linter.unusedVariables false

theorem rd1 {T g : Nat} {b : ByteArray} {p : Nat} {e : Int} {v : Value} {w : World} (h : Rd T g b p e [v] w) : w.cell? ⟨g, 3, none⟩ = some v := cell_of_row _ _ 3 _ _ _ h
theorem rd1set {T g : Nat} {b : ByteArray} {p : Nat} {e : Int} {v : Value} {w : World} (h : Rd T g b p e [v] w) (u : Value) : Rd T g b p e [u] (w.setCell ⟨g, 3, none⟩ u) := heap_setCell_same _ _ 3 _ _ _ h
theorem ne_of_own {w : World} {B t s n g h : Nat} {c : Nat} {xs : List Value} {cur : Array Value} {T : Nat} {f : Nat × Nat} (o : w.ownsRow B t s (.slice (some ⟨g, 0, none⟩) n c) n xs) (hh : w.heap[h]? = some (.cells cur T f)) (ht : t ≠ T) : g ≠ h := by
  rintro rfl
  rcases o.2 with ⟨e, _⟩ | ⟨g', cap, cur', e, _, h3, _⟩
  · cases e
  · injection e with e1 _ _
    injection e1 with e1
    injection e1 with e1
    subst e1
    rw [hh] at h3
    injection h3 with h3
    injection h3 with _ h3 _
    exact ht h3.symm
theorem step_take {ops : Array Oper} {o : Oper} {a : Act} {w : World} {K : Act → World → Prop} {Q : Exit → Act → World → Prop} {E : Prop} (hg : o.guard = none) (k l d : Nat)
    (hop : o.op = .call { callee := .value (.func 72), args := #[.tmp k, .tmp l], argTypes := #[74, 3] }) (hd : o.dst = some d) (T g : Nat) (b : ByteArray) (p : Nat) (e : Int) (rest : List Value) (c : Nat) (x : ByteArray) (q : Nat) (z : Int)
    (hy : a.tmps[k]?.getD undef = .pointer (some ⟨g, 0, none⟩)) (hy2 : a.tmps[l]?.getD undef = .int .i64 c) (HT : Hid (takeS b c p e = (x, q, z))) (HR : Hid (Rd T g b p e rest w ∧ b.size ≤ 140737488355328 ∧ Ok b p e ∧ c ≤ 140737488355328))
    (hK : ∀ w', Rd T g b q z rest w' → Kp (fun k => k = g) w w' → K { tmps := a.tmps.setIfInBounds d (.string x), defers := a.defers } w') :
    if Region.wanted o (yielded ops a.tmps) = true then Oper.wp Tryd.prog o a w K Q else E := by
  have hw : Region.wanted o (yielded ops a.tmps) = true := by simp [Region.wanted, hg]
  rw [if_pos hw]
  have C := takeC T g b p e rest c w HR.out.1 HR.out.2.1 HR.out.2.2.1 HR.out.2.2.2
  rw [HT.out] at C
  have HKK : Hid _ := hK
  clear hK HR HT
  unfold Oper.wp execOp
  simp only [hop]
  go_simp
  refine C.mono ?_
  rintro e w' ⟨rfl, h1, h2⟩
  exact HKK.out _ h1 h2
theorem own_ne {w : World} {B t s n g : Nat} {v : Value} {xs : List Value} {cur : Array Value} {T : Nat} {f : Nat × Nat} (o : w.ownsRow B t s v n xs) (hh : w.heap[g]? = some (.cells cur T f)) (ht : t ≠ T) : some g ≠ v.ownBlock := by
  rcases o.2 with ⟨rfl, _⟩ | ⟨g', cap, cur', rfl, _, h3, _⟩
  · intro e; cases e
  · intro e
    have e : g = g' := Option.some.inj e
    subst e
    rw [hh] at h3
    injection h3 with h3
    injection h3 with _ h3 _
    exact ht h3.symm
theorem own_tag {w w' : World} {B t s n g : Nat} {v : Value} {xs : List Value} {cur : Array Value} {T : Nat} {f : Nat × Nat} (o : w.ownsRow B t s v n xs) (hh : w.heap[g]? = some (.cells cur T f)) (ht : t ≠ T) (k : Kp (fun k => k = g) w w') : w'.ownsRow B t s v n xs := by
  have hne := own_ne o hh ht
  refine ⟨o.1, ?_⟩
  rcases o.2 with h2 | ⟨g', cap, cur', rfl, h2, h3, h4⟩
  · exact .inl h2
  · exact .inr ⟨g', cap, cur', rfl, h2, (k.block g' (Array.getElem?_eq_some_iff.1 h3).1 (fun e => hne (by rw [e]; rfl))).trans h3, h4⟩
-- the state of the reader of leaves: B the beginning of the call's own memory
structure LI (g : Nat) (b : ByteArray) (n p : Nat) (e : Int) (B : Nat) (w : World) (v : Value) (xs : List ByteArray) (q : Nat) (z : Int) (wr : World) : Prop where
  rd : Rd 86 g b q z [v] wr
  ok : Ok b q z
  bl : Below B w wr
  own : wr.ownsRow B 9 1 v xs.length (xs.map Value.string)
  len : xs.length ≤ n
  eq : leavesS b n p e = (xs ++ (leavesS b (n - xs.length) q z).1, (leavesS b (n - xs.length) q z).2)
theorem leavesS_next (b : ByteArray) (n p : Nat) (e : Int) (k : Int) (q : Nat) (z : Int) (h : mostS b 4096 121 p e = (k, q, z)) : leavesS b (n + 1) p e = ((takeS b k.toNat q z).1 :: (leavesS b n (takeS b k.toNat q z).2.1 (takeS b k.toNat q z).2.2).1, (leavesS b n (takeS b k.toNat q z).2.1 (takeS b k.toNat q z).2.2).2) := by
  rw [leavesS, h]
set_option maxRecDepth 20000 in
set_option maxHeartbeats 12800000 in
theorem lreadC (g : Nat) (b : ByteArray) (B : Nat) (w : World) (h : Rd 86 g b 0 0 [.slice none 0 0] w) (hb : b.size ≤ 140737488355328) (hB : B ≤ g) :
    Calls Tryd.prog 47 #[.pointer (some ⟨g, 0, none⟩)] w fun x w' => x = .returned (.tuple #[]) ∧ (∃ v, Rd 86 g b (unLeavesS b).2.1 (unLeavesS b).2.2 [v] w' ∧ w'.ownsRow B 9 1 v (unLeavesS b).1.length ((unLeavesS b).1.map Value.string)) ∧ Below B w w' := by
  obtain ⟨i9, hi, hz0, hz1, hz2⟩ := info_parts hi9
  have HIN : Hid (_ ∧ _ ∧ _ ∧ _) := ⟨hi, hz0, hz1, hz2⟩
  clear hi hz0 hz1 hz2
  have hg := h.lt
  have hk0 : Ok b 0 0 := ⟨Nat.zero_le _, by decide, by decide⟩
  have CM : Hid (Calls _ _ _ _ _) := markC 86 g b 0 0 76 ⟨#[76]⟩ [.slice none 0 0] w h hb hk0 rfl
  have hk1 := mark_ok b 76 0 0 hk0
  have HU : Hid (unLeavesS b = leavesS b (mostS b 1024 83 (markS b 76 0 0).1 (markS b 76 0 0).2).1.toNat (mostS b 1024 83 (markS b 76 0 0).1 (markS b 76 0 0).2).2.1 (mostS b 1024 83 (markS b 76 0 0).1 (markS b 76 0 0).2).2.2) := rfl
  obtain ⟨p1, e1, HM⟩ : ∃ p1 e1, Hid (markS b 76 0 0 = (p1, e1)) := ⟨_, _, rfl⟩
  rw [HM.out] at CM HU hk1
  have CN : Hid (∀ w, _ → Calls _ _ _ _ _) := fun w h => atMostC 86 g b p1 e1 1024 83 [.slice none 0 0] w h hb hk1 (by decide) (by decide)
  obtain ⟨hk2, hm0, hm1⟩ := most_ok b 1024 83 p1 e1 hk1 (by decide)
  obtain ⟨m, p2, e2, HN⟩ : ∃ m p2 e2, Hid (mostS b 1024 83 p1 e1 = (m, p2, e2)) := ⟨_, _, _, rfl⟩
  have HU2 : Hid (unLeavesS b = leavesS b (mostS b 1024 83 p1 e1).1.toNat (mostS b 1024 83 p1 e1).2.1 (mostS b 1024 83 p1 e1).2.2) := HU.out
  rw [HN.out] at CN HU2 hk2 hm0 hm1
  obtain ⟨n, hn⟩ : ∃ n : Nat, m = n := ⟨m.toNat, by simp at hm0; omega⟩
  subst hn
  have hn1 : n ≤ 1024 := by simp at hm1; omega
  have HU3 : Hid (unLeavesS b = leavesS b n p2 e2) := HU2.out
  obtain ⟨R, HR⟩ : ∃ R, Hid (leavesS b n p2 e2 = R) := ⟨_, rfl⟩
  rw [HU3.out, HR.out]
  have KB : Hid (∀ w1 w2 : World, w.heap.size ≤ w1.heap.size → Kp (fun k => k = g) w1 w2 → Below B w1 w2) := fun w1 w2 hs k => k.below (fun j hj => by omega) (by omega)
  clear h hk1 HU HU2 HU3 hm0 hm1
  go_enter Tryd.func47, Tryd.ntmps47
  go_wp2_with (first | (go_at_call 62; refine CM.out.mono ?_; rintro _ w1 ⟨rfl, r1, k1⟩; have R1 : Hid (Rd 86 g b p1 e1 [.slice none 0 0] w1) := r1; have K1 : Hid (Below B w w1) := KB.out _ _ (Nat.le_refl _) k1; clear r1 k1) | (go_at_call 71; refine (CN.out _ R1.out).mono ?_; rintro _ w2 ⟨rfl, r2, k2⟩; have R2 : Hid (Rd 86 g b p2 e2 [.slice none 0 0] w2) := r2; have K2 : Hid (Below B w w2) := K1.out.trans (KB.out _ _ K1.out.size k2); clear r2 k2))
  go_loopw [11] (fun i wr => ∃ (k : Nat) (v : Value) (xs : List ByteArray) (q : Nat) (z : Int), k ≤ n ∧ i = .int .i64 k ∧ Hid (xs.length = k ∧ LI g b n p2 e2 B w v xs q z wr)) (fun i _ => (n - intOf i).toNat)
  case atStart => exact ⟨0, _, [], p2, e2, by omega, rfl, rfl, R2.out, hk2, K2.out, World.ownsRow_nil _ _ _ _, by simp, by simp⟩
  case round =>
    clear CM CN R1 K1 R2 K2 hk2
    obtain ⟨k, v, xs, q, z, hk, rfl, HH⟩ := hrel
    by_cases hlt : k < n
    · have hlt' : (k : Int) < n := by omega
      have CL : Hid (Calls _ _ _ _ _) := atMostC 86 g b q z 4096 121 [v] wr HH.out.2.rd hb HH.out.2.ok (by decide) (by decide)
      obtain ⟨hk3, hl0, hl1⟩ := most_ok b 4096 121 q z HH.out.2.ok (by decide)
      obtain ⟨l, q3, z3, HL⟩ : ∃ l q3 z3, Hid (mostS b 4096 121 q z = (l, q3, z3)) := ⟨_, _, _, rfl⟩
      rw [HL.out] at CL hk3 hl0 hl1
      obtain ⟨c, hc⟩ : ∃ c : Nat, l = c := ⟨l.toNat, by simp at hl0; omega⟩
      subst hc
      have hc4 : c ≤ 4096 := by simp at hl1; omega
      have OK3 : Hid (Ok b q3 z3) := hk3
      clear hk3 hl0 hl1
      go_upto_region 4 with (go_at_call 71; refine CL.out.mono ?_; rintro _ w3 ⟨rfl, r3, k3⟩; have R3 : Hid (Rd 86 g b q3 z3 [v] w3) := r3; have K3 : Hid (Kp (fun k => k = g) wr w3) := k3; clear r3 k3)
      have d3 := rd1 R3.out
      have f3 := frozen_of_row _ _ 3 _ _ R3.out
      obtain ⟨x, q4, z4, HX⟩ : ∃ x q4 z4, Hid (takeS b c q3 z3 = (x, q4, z4)) := ⟨_, _, _, rfl⟩
      have O3 : Hid (w3.ownsRow B 9 1 v k (xs.map Value.string)) := by
        have h1 := own_tag HH.out.2.own HH.out.2.rd (by decide) K3.out
        rw [HH.out.1] at h1
        exact h1
      have hwr := HH.out.2.bl.size
      have HTK : Hid (Rd 86 g b q3 z3 [v] w3.drew ∧ b.size ≤ 140737488355328 ∧ Ok b q3 z3 ∧ c ≤ 140737488355328) := ⟨R3.out, hb, OK3.out, by omega⟩
      have FK : Hid (∀ w4, Rd 86 g b q4 z4 [v] w4 → Kp (fun k => k = g) w3.drew w4 → w4.ownsRow B 9 1 v k (xs.map Value.string) ∧ B ≤ w4.heap.size ∧ Below B w w4) := fun w4 r4 k4 => by
        have k34 : Kp (fun k => k = g) w3 w4 := ⟨k4.os, k4.tape, k4.output, k4.size, k4.block⟩
        have h3 := own_tag O3.out R3.out (by decide) k34
        have hsz := Nat.le_trans K3.out.size k34.size
        exact ⟨h3, by omega, HH.out.2.bl.trans (KB.out _ _ hwr (K3.out.trans k34))⟩
      go_region_law ((first | (have zz := HTK.out; refine step_take (by rfl) 24 25 26 (by rfl) (by rfl) 86 g b q3 z3 [v] c x q4 z4 (by simp [Act.put]) (by simp [Act.put]) HX HTK ?_; intro w4 r4 k4; have F4 : Hid _ := FK.out w4 r4 k4; have R4 : Hid (Rd 86 g b q4 z4 [v] w4) := r4; have d4 := rd1 r4; have f4 := frozen_of_row _ _ 3 _ _ r4; have d5 : (w4.alloc (.cells #[.string x] 9)).cell? ⟨g, 3, none⟩ = some v := (World.cell?_alloc_lt _ _ _ (Rd.lt r4)).trans d4; clear r4 k4 zz HTK) | (have oo := F4.out.1; refine step_append_lies _ (by rfl) (.tmp 21) (.tmp 27) 22 (by rfl) B 9 i9 (.string ByteArray.empty) 1 16 Tryd.underlying22 HIN.out.1 HIN.out.2.1 HIN.out.2.2.1 HIN.out.2.2.2 rfl (by decide) v k _ (by simp [Act.eval]) (oo.alloc _) ⟨w4.heap.size, 0, none⟩ 1 1 [.string x] (by simp [Act.eval]) rfl (new_text _ _ _) (one_text _) (by omega) (by unfold maxLen; omega) (by omega) (by have := F4.out.2.1; simp; omega) _ rfl ?_; intro g5 c5 w5 ho5 hg5 hl5 hlt5; have O5 : Hid (World.ownsRow _ _ _ _ _ _ _) := ho5; have R5 : Hid (Rd 86 g b q4 z4 [v] w5) := (hg5.block g (by have := Rd.lt R4.out; simp; omega) (own_ne oo R4.out (by decide))).trans ((Below.heap_alloc _ _ _ (Rd.lt R4.out)).trans R4.out); have B5 : Hid (Below B w w5) := F4.out.2.2.trans (Below.grown ((Below.refl _ _).alloc F4.out.2.1 _) hg5 (by have := F4.out.2.1; simp; omega) (fun j hj => (oo.lt _ hj).1)); have d6 := rd1 R5.out; have f6 := frozen_of_row _ _ 3 _ _ R5.out; clear ho5 hg5 hl5)))
      all_goals (
        have H6 : Hid (LI g b n p2 e2 B w (.slice (some ⟨g5, 0, none⟩) (k + 1) c5) (xs ++ [x]) q4 z4 (w5.setCell ⟨g, 3, none⟩ (.slice (some ⟨g5, 0, none⟩) (k + 1) c5))) := by
          refine ⟨rd1set R5.out _, ?_, B5.out.setCell (p := ⟨g, 3, none⟩) hB _, ?_, by rw [List.length_append, HH.out.1]; simp; omega, ?_⟩
          · have := take_ok b c q3 z3 OK3.out
            rw [HX.out] at this
            exact this
          · rw [List.length_append, HH.out.1, List.map_append]
            exact own_tag O5.out R5.out (by decide) (Kp.setCell _ _ _ _ rfl)
          · have h1 := HH.out.2.eq
            rw [HH.out.1, show n - k = (n - (k + 1)) + 1 by omega, leavesS_next b (n - (k + 1)) q z c q3 z3 HL.out] at h1
            have ec : ((c : Int)).toNat = c := by omega
            rw [ec, HX.out] at h1
            rw [h1, List.length_append, HH.out.1]
            simp
        have HL6 : Hid ((xs ++ [x]).length = k + 1) := by show _ = _; rw [List.length_append, HH.out.1]; rfl
        obtain ⟨w6, HW6⟩ : ∃ w6, w6 = w5.setCell ⟨g, 3, none⟩ (.slice (some ⟨g5, 0, none⟩) (k + 1) c5) := ⟨_, rfl⟩
        rw [← HW6] at H6 ⊢
        clear HW6 R5 B5 O5 d6 f6 d5 d4 f4 R4 F4 HH FK R3 K3 d3 f3
        go_wp2
        go_roundw
        case rel => exact ⟨k + 1, _, _, _, _, by omega, by go_num, HL6.out, H6.out⟩
        case measure => simp [intOf]; omega)
    · have hlt' : ¬ (k : Int) < n := by omega
      have HE : Hid (R = (xs, q, z)) := by
        have h1 := HH.out.2.eq
        rw [HH.out.1, show n - k = 0 by omega] at h1
        show _ = _
        rw [← HR.out, h1]
        simp [leavesS]
      have HO : Hid ((∃ v, Rd 86 g b q z [v] wr ∧ wr.ownsRow B 9 1 v xs.length (xs.map Value.string)) ∧ Below B w wr) := ⟨⟨v, HH.out.2.rd, HH.out.2.own⟩, HH.out.2.bl⟩
      clear HH
      go_wp2
      go_end0
      rw [HE.out]
      exact ⟨rfl, HO.out⟩
end Go.Proofs.YthpfgdhmpeadeaaDoor.eh
