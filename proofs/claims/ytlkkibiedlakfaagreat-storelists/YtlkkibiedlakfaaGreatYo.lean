import Derived.Test.YtlkkibiedlakfaaGreatYf
namespace Go.Proofs.YtlkkibiedlakfaaGreat.yo
open Go.RowKit Go.PlainAid Go.Maps Go.Shelf
open Go.Proofs.YtlkkibiedlakfaaGreat.ca Go.Proofs.YtlkkibiedlakfaaGreat.cb Go.Proofs.YtlkkibiedlakfaaGreat.cp Go.Proofs.YtlkkibiedlakfaaGreat.kp Go.Proofs.YtlkkibiedlakfaaGreat.ka Go.Proofs.YtlkkibiedlakfaaGreat.ya Go.Proofs.YtlkkibiedlakfaaGreat.yb Go.Proofs.YtlkkibiedlakfaaGreat.yc Go.Proofs.YtlkkibiedlakfaaGreat.yd Go.Proofs.YtlkkibiedlakfaaGreat.ye Go.Proofs.YtlkkibiedlakfaaGreat.yf Go.Proofs.YtlkkibiedlakfaaGreat.sb Go.Proofs.YtlkkibiedlakfaaGreat.mc Go.Proofs.YtlkkibiedlakfaaGreat.na Go.Proofs.YtlkkibiedlakfaaGreat.nb
set_option linter.unusedVariables false
set_option linter.unusedSimpArgs false
-- the bytes of a number, the highest first
def beN (n m : Nat) : Nat → List UInt8
  | 0 => []
  | i + 1 => beN n m i ++ [UInt8.ofNat (m / 2 ^ (8 * (n - 1 - i)))]
theorem beN_len (n m i : Nat) : (beN n m i).length = i := by
  induction i with
  | zero => rfl
  | succ i ih => simp [beN, ih]
abbrev Bu (B b : Nat) (l : List UInt8) (w : World) : Prop := Lib.IsBuilderF 127 5 B b (Lib.byteCells l) w
theorem cells_app (l l' : List UInt8) : Lib.byteCells l ++ Lib.byteCells l' = Lib.byteCells (l ++ l') := by simp [Lib.byteCells]
theorem writeByteC (B b : Nat) (l : List UInt8) (u : UInt8) (w : World) (h : Bu B b l w) (hl : l.length + 1 ≤ 140737488355328) (hB : B ≤ w.heap.size) : Calls Tryz.prog 111 #[.pointer (some ⟨b, 0, none⟩), .int .u8 (u.toNat : Int)] w fun e w' => e = .returned .nilIface ∧ Bu B b (l ++ [u]) w' ∧ Below B w w' ∧ Lib.OthersKept 5 (some b) w w' := by
  have C := Any.Builder_WriteByte_k lays167 extra B b (Lib.byteCells l) u.toNat w h (by rw [Lib.byteCells_length]; exact hl) hB
  refine C.mono ?_
  rintro e w' ⟨rfl, h1, h2, h3⟩
  refine ⟨rfl, .inr ?_, h2, h3⟩
  rw [← cells_app]
  exact h1
theorem writeStringC (B b : Nat) (l : List UInt8) (s : ByteArray) (w : World) (h : Bu B b l w) (hl : l.length + s.size ≤ 140737488355328) (hB : B ≤ w.heap.size) : Calls Tryz.prog 76 #[.pointer (some ⟨b, 0, none⟩), .string s] w fun e w' => e = .returned (.tuple #[.int .i64 s.size, .nilIface]) ∧ Bu B b (l ++ bs s) w' ∧ Below B w w' ∧ Lib.OthersKept 5 (some b) w w' := by
  have C := Any.Builder_WriteString_k lays166 extra B b (Lib.byteCells l) s w h (by rw [Lib.byteCells_length]; exact hl) hB
  refine C.mono ?_
  rintro e w' ⟨rfl, h1, h2, h3⟩
  refine ⟨rfl, .inr ?_, h2, h3⟩
  rw [← cells_app]
  exact h1
set_option maxRecDepth 20000 in
set_option maxHeartbeats 3200000 in
theorem writePieceC (B b : Nat) (l : List UInt8) (s : ByteArray) (n : Nat) (w : World) (h : Bu B b l w) (hn : n ≤ 4) (hs : s.size ≤ 140737488355000) (hl : l.length + n + s.size ≤ 140737488355328) (hB : B ≤ w.heap.size) :
    Calls Tryz.prog 77 #[.pointer (some ⟨b, 0, none⟩), .string s, .int .i64 n] w fun e w' => e = .returned (.tuple #[]) ∧ Bu B b (l ++ beN n s.size n ++ bs s) w' ∧ Below B w w' ∧ Lib.OthersKept 5 (some b) w w' := by
  obtain ⟨m, hm⟩ : ∃ m, s.size = m := ⟨_, rfl⟩
  have H : Hid (Bu B b l w) := h
  have HM : Hid (s.size = m) := hm
  rw [hm] at hs hl ⊢
  clear h
  go_enter Tryz.func77, Tryz.ntmps77
  go_wp2_with fail
  go_loopw [8] (fun i wr => ∃ j : Nat, i = .int .i64 j ∧ j ≤ n ∧ Hid (Bu B b (l ++ beN n m j) wr ∧ Below B w wr ∧ Lib.OthersKept 5 (some b) w wr)) (fun i _ => (n - intOf i).toNat)
  case atStart => exact ⟨0, rfl, Nat.zero_le _, by simpa [beN] using H.out, Below.refl _ _, Lib.OthersKept.refl _ _ _⟩
  case round =>
    obtain ⟨j, rfl, hj, HH⟩ := hrel
    by_cases hlt : j < n
    · have hlt' : (j : Int) < n := by omega
      have HV : (m : Int) / 2 ^ (8 * (n - 1 - j)) % 256 = ((UInt8.ofNat (m / 2 ^ (8 * (n - 1 - j)))).toNat : Int) := by
        rw [UInt8.toNat_ofNat', cast_pow]
        rfl
      have CW : Hid (Calls _ _ _ _ _) := writeByteC B b (l ++ beN n m j) (UInt8.ofNat (m / 2 ^ (8 * (n - 1 - j)))) wr HH.out.1 (by rw [List.length_append, beN_len]; omega) (Nat.le_trans hB HH.out.2.1.size)
      rw [← HV] at CW
      have FN : Hid (∀ w2, Bu B b (l ++ beN n m j ++ [UInt8.ofNat (m / 2 ^ (8 * (n - 1 - j)))]) w2 → Below B wr w2 → Lib.OthersKept 5 (some b) wr w2 → Bu B b (l ++ beN n m (j + 1)) w2 ∧ Below B w w2 ∧ Lib.OthersKept 5 (some b) w w2) := fun w2 h1 h2 h3 => ⟨by rw [beN, ← List.append_assoc]; exact h1, HH.out.2.1.trans h2, HH.out.2.2.trans h3⟩
      clear HH HV
      go_wp2_with (go_at_call 111; refine CW.out.mono ?_; rintro _ w2 ⟨rfl, h1, h2, h3⟩; have F2 : Hid _ := FN.out w2 h1 h2 h3; clear h1 h2 h3)
      go_roundw
      case rel => exact ⟨j + 1, by go_num, by omega, F2.out⟩
      case measure => simp [intOf]; omega
    · have hlt' : ¬ (j : Int) < n := by omega
      have hjn : j = n := by omega
      subst hjn
      have CW : Hid (Calls _ _ _ _ _) := writeStringC B b (l ++ beN j m j) s wr HH.out.1 (by rw [List.length_append, beN_len, HM.out]; omega) (Nat.le_trans hB HH.out.2.1.size)
      have HL : Hid (Below B w wr ∧ Lib.OthersKept 5 (some b) w wr) := HH.out.2
      clear HH
      go_wp2_with (go_at_call 76; refine CW.out.mono ?_; rintro _ w2 ⟨rfl, h1, h2, h3⟩; have F2 : Hid (Bu B b _ w2) := h1; have F3 : Hid (Below B wr w2 ∧ Lib.OthersKept 5 (some b) wr w2) := ⟨h2, h3⟩; clear h1 h2 h3)
      go_end0
      exact ⟨rfl, F2.out, HL.out.1.trans F3.out.1, HL.out.2.trans F3.out.2⟩
-- the image of records
def recB (p : Rec) : List UInt8 := beN 1 p.1.size 1 ++ bs p.1 ++ (beN 4 p.2.size 4 ++ bs p.2)
def imgB (r : List Rec) : List UInt8 := 83 :: r.flatMap recB
theorem recB_len (p : Rec) : (recB p).length = p.1.size + p.2.size + 5 := by
  simp only [recB, List.length_append, beN_len, bs_len]; omega
def isz : List Rec → Nat
  | [] => 1
  | p :: r => p.1.size + p.2.size + 5 + isz r
theorem imgB_len (r : List Rec) : (imgB r).length = isz r := by
  unfold imgB
  induction r with
  | nil => rfl
  | cons p r ih => simp only [List.flatMap_cons, List.length_cons, List.length_append, recB_len, isz] at ih ⊢; omega
theorem isz_take (r : List Rec) (j : Nat) : isz (r.take j) ≤ isz r := by
  induction r generalizing j with
  | nil => simp
  | cons p r ih =>
    cases j with
    | zero => simp [isz]; have : 1 ≤ isz r := by have := ih 0; simpa [isz] using this
              omega
    | succ j => simp only [List.take_succ_cons, isz]; have := ih j; omega
theorem isz_at (r : List Rec) (j : Nat) (p : Rec) (h : r[j]? = some p) : isz (r.take (j + 1)) = isz (r.take j) + (p.1.size + p.2.size + 5) := by
  induction r generalizing j with
  | nil => simp at h
  | cons q r ih =>
    cases j with
    | zero => simp at h; subst h; simp [isz]; omega
    | succ j => simp only [List.take_succ_cons, isz]; have := ih j (by simpa using h); omega
theorem img_next (r : List Rec) (j : Nat) (p : Rec) (h : r[j]? = some p) : imgB (r.take (j + 1)) = imgB (r.take j) ++ recB p := by
  unfold imgB
  rw [List.take_add_one, h]
  simp
theorem keysL_all (r : List Rec) : keysL ⟨#[]⟩ r = r.map (·.1) := by
  unfold keysL
  congr 1
  rw [List.filter_eq_self]
  intro p _
  simp [bs, Lib.hasPrefix]
section
variable (w : World) {ops : Array Oper} {rest : List Oper} {o : Oper} {a : Act} {Q : Exit → Act → World → Prop}
theorem wpList_look1 (hg : o.guard = none) (m x : Operand) (hop : o.op = Op.lookup 59 m x false) (b : Nat) (r : List Rec) (hm : a.eval m = .map (some b)) (hown : Mp b r w) (k d : ByteArray) (hx : a.eval x = .string k) (hk : k.size ≤ maxLen) (hd : rget k r = some d)
    (hK : wpList Tryz.prog ops Q rest (a.put o.dst (.agg #[.string d])) w) : wpList Tryz.prog ops Q (o :: rest) a w := by
  refine wpList_plain hg fun K' hK' => ?_
  obtain ⟨v, ps, hrun, hv⟩ := World.ownsMap.lookup hown law Tryz.underlying59 (zeroR w) (recE_mk (s := ByteArray.empty) (by decide)) (key_is hk)
  rw [dat_at, hd] at hv
  obtain ⟨s, rfl, hy, _⟩ := recE_inv hv
  have h1 : (DataW.lit (Lit.string (bs d)) : DataW Unit) = .lit (.string (bs s)) := congrArg Prod.fst hy
  have h2 := bs_inj (Lit.string.inj (DataW.lit.inj h1))
  subst h2
  unfold Oper.wp
  simp [execOp, hop, hm, hx, hrun, Result.andThen]
  exact hK' _ _ hK
end
end Go.Proofs.YtlkkibiedlakfaaGreat.yo
