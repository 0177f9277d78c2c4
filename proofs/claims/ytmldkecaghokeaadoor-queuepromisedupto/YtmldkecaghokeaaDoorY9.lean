import Derived.Test.YtmldkecaghokeaaDoorG1
import Derived.Test.YtmldkecaghokeaaDoorSb
import Derived.Lib.IndexAny
namespace Go.Proofs.YtmldkecaghokeaaDoor.yc
open Go.RowKit Go.PlainAid Go.Shelf
open Go.Proofs.YtmldkecaghokeaaDoor.ta Go.Proofs.YtmldkecaghokeaaDoor.tb Go.Proofs.YtmldkecaghokeaaDoor.tc Go.Proofs.YtmldkecaghokeaaDoor.tj Go.Proofs.YtmldkecaghokeaaDoor.va Go.Proofs.YtmldkecaghokeaaDoor.vb Go.Proofs.YtmldkecaghokeaaDoor.vc Go.Proofs.YtmldkecaghokeaaDoor.vd Go.Proofs.YtmldkecaghokeaaDoor.ya Go.Proofs.YtmldkecaghokeaaDoor.yb Go.Proofs.YtmldkecaghokeaaDoor.sb Go.Proofs.YtmldkecaghokeaaDoor.sh
set_option linter.unusedVariables false
set_option maxRecDepth 4000

theorem bs_data (x : ByteArray) : bs x = x.data.toList.map (fun b => (b.toNat : Int)) := by
  apply List.ext_getElem
  · rw [bs_length, List.length_map, Array.length_toList]; rfl
  · intro i h1 h2
    rw [bs_length] at h1
    rw [bs_get _ i h1, ← get_bt _ i h1, List.getElem_map]
    rfl
-- is there a newline?
def nl (x : ByteArray) : Bool := decide (0 ≤ Lib.indexByte x.data.toList 10)
theorem nl_iff (x : ByteArray) : nl x = true ↔ (10 : Int) ∈ bs x := by
  unfold nl
  rw [← Lib.contains_iff_indexByte, List.contains_iff_mem, bs_data, List.mem_map]
  constructor
  · intro h
    exact ⟨10, h, rfl⟩
  · rintro ⟨b, hb, e⟩
    have : b = 10 := by
      have e' : b.toNat = 10 := by omega
      exact UInt8.toNat_inj.1 e'
    rwa [← this]
def joinL (xs : List ByteArray) : List UInt8 := xs.flatMap fun x => x.data.toList ++ [10]
def joinV (xs : List ByteArray) : Value := if xs.all (fun x => !nl x) then .tuple #[.string ⟨(joinL xs).toArray⟩, .int .i64 0] else .tuple #[.string ByteArray.empty, .int .i64 43]
theorem joinL_snoc (xs : List ByteArray) (k : Nat) (h : k < xs.length) : joinL (xs.take (k + 1)) = joinL (xs.take k) ++ (xs.getD k ByteArray.empty).data.toList ++ [10] := by
  have e : xs.take (k + 1) = xs.take k ++ [xs.getD k ByteArray.empty] := by
    rw [List.take_add_one, List.getElem?_eq_getElem h, List.getD_eq_getElem?_getD, List.getElem?_eq_getElem h]
    rfl
  unfold joinL
  rw [e, List.flatMap_append, List.flatMap_cons, List.flatMap_nil, List.append_nil, List.append_assoc]
theorem joinL_length (xs : List ByteArray) (k : Nat) (h : k ≤ xs.length) : (joinL (xs.take k)).length = tk xs k + k := by
  induction k with
  | zero => rfl
  | succ k ih =>
    rw [joinL_snoc xs k h, List.length_append, List.length_append, ih (by omega)]
    have : tk xs (k + 1) = tk xs k + (xs.getD k ByteArray.empty).size := rfl
    have e : (xs.getD k ByteArray.empty).data.toList.length = (xs.getD k ByteArray.empty).size := Array.length_toList
    rw [this, e]
    simp
    omega

theorem bWS (B b : Nat) (l : List UInt8) (s : ByteArray) (w : World) (h : Lib.IsBuilder 55 5 B b (Lib.byteCells l) w) (hlen : l.length + s.size ≤ 140737488355328) (hB : B ≤ w.heap.size) :
    Calls Tryd.prog 31 #[.pointer (some ⟨b, 0, none⟩), .string s] w fun e w' => e = .returned (.tuple #[.int .i64 s.size, .nilIface]) ∧ Lib.IsBuilder 55 5 B b (Lib.byteCells (l ++ s.data.toList)) w' ∧ Below B w w' := by
  refine (Any.Builder_WriteString lays166 extra B b (Lib.byteCells l) s w h (by rw [Lib.byteCells_length]; exact hlen) hB).mono ?_
  rintro e w' ⟨rfl, h1, h2⟩
  refine ⟨rfl, ?_, h2⟩
  rw [Lib.byteCells_append]
  exact .inr h1
theorem bWB (B b : Nat) (l : List UInt8) (w : World) (h : Lib.IsBuilder 55 5 B b (Lib.byteCells l) w) (hlen : l.length + 1 ≤ 140737488355328) (hB : B ≤ w.heap.size) :
    Calls Tryd.prog 32 #[.pointer (some ⟨b, 0, none⟩), .int .u8 10] w fun e w' => e = .returned .nilIface ∧ Lib.IsBuilder 55 5 B b (Lib.byteCells (l ++ [10])) w' ∧ Below B w w' := by
  refine (Any.Builder_WriteByte lays167 extra B b (Lib.byteCells l) 10 w h (by rw [Lib.byteCells_length]; exact hlen) hB).mono ?_
  rintro e w' ⟨rfl, h1, h2⟩
  refine ⟨rfl, ?_, h2⟩
  rw [Lib.byteCells_append]
  exact .inr h1
theorem bS (B b : Nat) (l : List UInt8) (w : World) (h : Lib.IsBuilder 55 5 B b (Lib.byteCells l) w) (hB : B ≤ w.heap.size) :
    Calls Tryd.prog 33 #[.pointer (some ⟨b, 0, none⟩)] w fun e w' => e = .returned (.string ⟨l.toArray⟩) ∧ Below B w w' :=
  Any.Builder_String_any lays169 extra B b l w h hB

set_option maxHeartbeats 1600000 in
theorem join (v : Value) (xs : List ByteArray) (w : World) (hr : Reads w v xs) (hz : tk xs xs.length + xs.length ≤ 1073741824) :
    Calls Tryd.prog 17 #[v] w fun e w' => e = .returned (joinV xs) ∧ Below w.heap.size w w' := by
  obtain ⟨a, cap, rfl, hcl⟩ := hr
  have HCL : Hid (xs.length = 0 ∨ ∃ b off, a = some ⟨b, off, none⟩ ∧ ∀ i, i < xs.length → w.cell? ⟨b, off + i, none⟩ = some (.string (xs.getD i ByteArray.empty))) := hcl
  obtain ⟨R, HR⟩ : ∃ R, Hid (joinV xs = R) := ⟨_, rfl⟩
  rw [HR.out]
  have HLN : Hid (∀ k, k ≤ xs.length → (joinL (xs.take k)).length ≤ 1073741824) := by
    intro k hk
    rw [joinL_length xs k hk]
    have := tk_mono xs hk
    omega
  obtain ⟨n, HN⟩ : ∃ n, Hid (xs.length = n) := ⟨_, rfl⟩
  have hzn : n ≤ 1073741824 := by rw [← HN.out]; omega
  rw [HN.out] at HCL HLN ⊢
  have HTK : Hid (tk xs xs.length + xs.length ≤ 1073741824) := by exact hz
  clear hcl hz
  have FB : Hid (Lib.IsBuilder 55 5 w.heap.size w.heap.size (Lib.byteCells []) (w.alloc (.cells #[.pointer none, .slice none 0 0] 55))) := Lib.fresh_isBuilder 55 5 w
  go_enter Tryd.func17, Tryd.ntmps17
  go_wp2
  go_loopw [9] (fun i wr => ∃ (k : Nat), k ≤ n ∧ i = .int .i64 k ∧ Hid ((∀ j, j < k → nl (xs.getD j ByteArray.empty) = false) ∧ Lib.IsBuilder 55 5 w.heap.size w.heap.size (Lib.byteCells (joinL (xs.take k))) wr ∧ Below w.heap.size w wr)) (fun i _ => (n - intOf i).toNat)
  case atStart => exact ⟨0, by omega, rfl, fun j h => by omega, FB.out, (Below.refl _ _).alloc (Nat.le_refl _) _⟩
  case round =>
    clear FB
    obtain ⟨k, hk, rfl, HL⟩ := hrel
    have hbs := HL.out.2.2.size
    by_cases hlt : k < n
    · have hlt' : (k : Int) < n := by omega
      have hkx : k < xs.length := by rw [HN.out]; exact hlt
      obtain ⟨b, off, rfl, hc⟩ : ∃ b off, a = some ⟨b, off, none⟩ ∧ ∀ i, i < n → w.cell? ⟨b, off + i, none⟩ = some (.string (xs.getD i ByteArray.empty)) := by
        rcases HCL.out with h | h
        · omega
        · exact h
      have c1 : wr.cell? ⟨b, off + k, none⟩ = some (.string (xs.getD k ByteArray.empty)) := (HL.out.2.2.cell (p := ⟨b, off + k, none⟩) (World.block_lt_of_cell? _ _ (hc k hlt))).trans (hc k hlt)
      have CN : Hid (∀ w, Calls _ _ _ _ _) := fun w => Any.strings_Contains_one lays144 (xs.getD k ByteArray.empty) 10 w
      have hjs := joinL_snoc xs k hkx
      have hl1 := HLN.out (k + 1) (by omega)
      rw [hjs, List.length_append, List.length_append] at hl1
      have ez : (xs.getD k ByteArray.empty).data.toList.length = (xs.getD k ByteArray.empty).size := Array.length_toList
      rw [ez] at hl1
      have WS : Hid (∀ w, _ → _ → Calls _ _ _ _ _) := fun w' h hB => bWS w.heap.size w.heap.size (joinL (xs.take k)) (xs.getD k ByteArray.empty) w' h (by omega) hB
      have WB : Hid (∀ w, _ → _ → Calls _ _ _ _ _) := fun w' h hB => bWB w.heap.size w.heap.size (joinL (xs.take k) ++ (xs.getD k ByteArray.empty).data.toList) w' h (by rw [List.length_append, ez]; have h1 : ([10] : List UInt8).length = 1 := rfl; omega) hB
      have HJS : Hid (joinL (xs.take (k + 1)) = joinL (xs.take k) ++ (xs.getD k ByteArray.empty).data.toList ++ [10]) := hjs
      have HNL : Hid (nl (xs.getD k ByteArray.empty) = decide (0 ≤ Lib.indexByte (xs.getD k ByteArray.empty).data.toList 10)) := rfl
      clear hc hjs hl1 ez
      obtain ⟨X, HX⟩ : ∃ X, Hid (xs.getD k ByteArray.empty = X) := ⟨_, rfl⟩
      rw [HX.out] at c1 CN WS WB HJS HNL
      rw [← HNL.out] at CN
      by_cases hnl : nl X = true
      · rw [hnl] at CN
        have HE : Hid (R = .tuple #[.string ByteArray.empty, .int .i64 43]) := by
          show _ = _
          rw [← HR.out]
          unfold joinV
          rw [if_neg]
          intro h
          have := List.all_eq_true.1 h (xs.getD k ByteArray.empty) (by rw [List.getD_eq_getElem?_getD, List.getElem?_eq_getElem hkx]; exact List.getElem_mem hkx)
          rw [HX.out, hnl] at this
          exact absurd this (by decide)
        have HB : Hid (Below w.heap.size w wr) := HL.out.2.2
        clear hnl HNL
        go_wp2_with fail
        refine (CN.out _).mono ?_
        rintro e w1 ⟨rfl, rfl⟩
        clear c1
        go_wp2
        go_ret2
        exact ⟨by rw [HE.out]; rfl, HB.out⟩
      · have hnf : nl X = false := by simpa using hnl
        rw [hnf] at CN
        have HF : Hid (nl X = false) := hnf
        clear hnl hnf HNL
        go_wp2_with fail
        refine (CN.out _).mono ?_
        rintro e w1 ⟨rfl, rfl⟩
        clear c1
        go_wp2_with fail
        refine (WS.out _ HL.out.2.1 hbs).mono ?_
        rintro e w1 ⟨rfl, h1, hb1⟩
        have H1 : Hid (Lib.IsBuilder _ _ _ _ _ w1) := h1
        have HB1 : Hid (Below w.heap.size w w1) := HL.out.2.2.trans hb1
        clear h1 hb1
        have hbs1 := HB1.out.size
        go_wp2_with fail
        refine (WB.out _ H1.out hbs1).mono ?_
        rintro e w2 ⟨rfl, h2, hb2⟩
        have H2 : Hid (Lib.IsBuilder _ _ _ _ _ w2) := h2
        have HB2 : Hid (Below w.heap.size w w2) := HB1.out.trans hb2
        clear h2 hb2
        go_wp2
        go_roundw
        case rel =>
          refine ⟨k + 1, by omega, by go_num, ?_, ?_, HB2.out⟩
          · intro j hj
            rcases Nat.lt_or_ge j k with g | g
            · exact HL.out.1 j g
            · obtain rfl : j = k := by omega
              rw [HX.out]; exact HF.out
          · rw [HJS.out]; exact H2.out
        case measure => simp [intOf]; omega
    · have hlt' : ¬ (k : Int) < n := by omega
      obtain rfl : k = n := by omega
      have BS : Hid (Calls _ _ _ _ _) := bS w.heap.size w.heap.size (joinL (xs.take k)) wr HL.out.2.1 hbs
      rw [List.take_of_length_le (by rw [HN.out]; exact Nat.le_refl _)] at BS
      have HE : Hid (R = .tuple #[.string ⟨(joinL xs).toArray⟩, .int .i64 0]) := by
        show _ = _
        rw [← HR.out]
        unfold joinV
        rw [if_pos]
        rw [List.all_eq_true]
        intro x hx
        obtain ⟨i, hi, rfl⟩ := List.getElem_of_mem hx
        have := HL.out.1 i (by rw [← HN.out]; exact hi)
        rw [List.getD_eq_getElem?_getD, List.getElem?_eq_getElem hi] at this
        simp at this
        simp [this]
      have HB : Hid (Below w.heap.size w wr) := HL.out.2.2
      generalize (⟨(joinL xs).toArray⟩ : ByteArray) = J at *
      go_wp2_with fail
      refine BS.out.mono ?_
      rintro e w1 ⟨rfl, hb1⟩
      have HB1 : Hid (Below w.heap.size w w1) := HB.out.trans hb1
      clear hb1
      go_wp2
      go_ret2
      exact ⟨by rw [HE.out]; rfl, HB1.out⟩
end Go.Proofs.YtmldkecaghokeaaDoor.yc
