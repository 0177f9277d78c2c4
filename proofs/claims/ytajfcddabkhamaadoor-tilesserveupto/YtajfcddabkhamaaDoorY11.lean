import Derived.Test.YtajfcddabkhamaaDoorY10
import Derived.Test.YtajfcddabkhamaaDoorY6
import Derived.Test.YtajfcddabkhamaaDoorY9
import Derived.Laws.AppendOwn
import Derived.Lib.UnsafeStr
import Derived.Lib.BufferWrite
import Derived.Deep.RegionWith
namespace Go.Proofs.YtajfcddabkhamaaDoor.tej
open Go.RowKit Go.PlainAid Go.Shelf
open Go.Proofs.YtajfcddabkhamaaDoor.ca Go.Proofs.YtajfcddabkhamaaDoor.cb Go.Proofs.YtajfcddabkhamaaDoor.cp Go.Proofs.YtajfcddabkhamaaDoor.ga Go.Proofs.YtajfcddabkhamaaDoor.kp Go.Proofs.YtajfcddabkhamaaDoor.tna Go.Proofs.YtajfcddabkhamaaDoor.tnb Go.Proofs.YtajfcddabkhamaaDoor.tnc Go.Proofs.YtajfcddabkhamaaDoor.tnh Go.Proofs.YtajfcddabkhamaaDoor.tea Go.Proofs.YtajfcddabkhamaaDoor.teb Go.Proofs.YtajfcddabkhamaaDoor.tec Go.Proofs.YtajfcddabkhamaaDoor.ted Go.Proofs.YtajfcddabkhamaaDoor.tee Go.Proofs.YtajfcddabkhamaaDoor.tef Go.Proofs.YtajfcddabkhamaaDoor.teg Go.Proofs.YtajfcddabkhamaaDoor.ka Go.Proofs.YtajfcddabkhamaaDoor.tbn Go.Proofs.YtajfcddabkhamaaDoor.mi
set_option linter.unusedVariables false

-- the width that counts
def widI (w : Int) : Int := if 1 ≤ w ∧ w ≤ 32 then w else 32
theorem widI_in (w : Int) : 1 ≤ widI w ∧ widI w ≤ 32 := by unfold widI; split <;> omega
theorem widthOfC (x : Int) (w : World) : Calls Tryd.prog 25 #[.int .i64 x] w fun e w' => e = .returned (.int .i64 (widI x)) ∧ w' = w := by
  have CW : Hid (∀ w, Calls _ _ _ (w : World) _) := fun w => isWidthC x w
  by_cases h : 1 ≤ x ∧ x ≤ 32
  · have HI : Hid (widI x = x) := if_pos h
    rw [HI.out]
    rw [decide_eq_true h] at CW
    clear h
    go_enter Tryd.func25, Tryd.ntmps25
    go_wp2_with (go_at_call 35; refine (CW.out _).mono ?_; rintro _ wz ⟨rfl, hz⟩; rw [hz]; clear hz)
    go_ret
    exact ⟨rfl, rfl⟩
  · have HI : Hid (widI x = 32) := if_neg h
    rw [HI.out]
    rw [decide_eq_false h] at CW
    clear h
    go_enter Tryd.func25, Tryd.ntmps25
    go_wp2_with (go_at_call 35; refine (CW.out _).mono ?_; rintro _ wz ⟨rfl, hz⟩; rw [hz]; clear hz)
    go_ret
    exact ⟨rfl, rfl⟩
-- has each text so many bytes?
def allW (wd : Int) (xs : List ByteArray) : Bool := xs.all (fun x => decide ((x.size : Int) = wd))
theorem allW_no {wd : Int} {xs : List ByteArray} {k : Nat} (hk : k < xs.length) (h : ((xs.getD k ByteArray.empty).size : Int) ≠ wd) : allW wd xs = false := by
  unfold allW
  rw [List.all_eq_false]
  refine ⟨xs.getD k ByteArray.empty, ?_, by rw [decide_eq_false h]; exact Bool.false_ne_true⟩
  rw [List.getD_eq_getElem?_getD, List.getElem?_eq_getElem hk]
  exact List.getElem_mem _
theorem allW_yes {wd : Int} {xs : List ByteArray} (h : ∀ j, j < xs.length → ((xs.getD j ByteArray.empty).size : Int) = wd) : allW wd xs = true := by
  unfold allW
  rw [List.all_eq_true]
  intro x hx
  obtain ⟨j, hj, rfl⟩ := List.getElem_of_mem hx
  have := h j hj
  rw [List.getD_eq_getElem?_getD, List.getElem?_eq_getElem hj] at this
  simpa using this
set_option maxHeartbeats 1600000 in
theorem areHashesC (wd : Int) (v : Value) (xs : List ByteArray) (w : World) (hR : ReadsT w v xs) (hz : xs.length ≤ 140737488355328) :
    Calls Tryd.prog 26 #[.int .i64 wd, v] w fun e w' => e = .returned (.bool (allW wd xs)) ∧ w' = w := by
  obtain ⟨a, cap, rfl, hcap, hcl⟩ := hR
  have HCL : Hid (xs.length = 0 ∨ ∃ b off, a = some ⟨b, off, none⟩ ∧ ∀ i, i < xs.length → w.cell? ⟨b, off + i, none⟩ = some (.string (xs.getD i ByteArray.empty))) := hcl
  have HNO : Hid (∀ k, k < xs.length → ((xs.getD k ByteArray.empty).size : Int) ≠ wd → allW wd xs = false) := fun k hk h => allW_no hk h
  have HYES : Hid ((∀ j, j < xs.length → ((xs.getD j ByteArray.empty).size : Int) = wd) → allW wd xs = true) := fun h => allW_yes h
  obtain ⟨R, HR⟩ : ∃ R, Hid (allW wd xs = R) := ⟨_, rfl⟩
  obtain ⟨n, HN⟩ : ∃ n, Hid (xs.length = n) := ⟨_, rfl⟩
  rw [HR.out] at HNO HYES ⊢
  rw [HN.out] at HCL HNO HYES hz hcap ⊢
  clear hcl
  go_enter Tryd.func26, Tryd.ntmps26
  go_wp2
  go_loopw [9] (fun i wr => ∃ k : Nat, k ≤ n ∧ i = .int .i64 k ∧ Hid (∀ j, j < k → ((xs.getD j ByteArray.empty).size : Int) = wd) ∧ wr = w) (fun i _ => (n - intOf i).toNat)
  case atStart => exact ⟨0, by omega, rfl, fun j h => by omega, rfl⟩
  case round =>
    obtain ⟨k, hk, rfl, HS, hwr⟩ := hrel
    rw [hwr]
    clear hwr
    by_cases hlt : k < n
    · have hlt' : (k : Int) < n := by omega
      obtain ⟨b, off, rfl, hc⟩ : ∃ b off, a = some ⟨b, off, none⟩ ∧ ∀ i, i < n → w.cell? ⟨b, off + i, none⟩ = some (.string (xs.getD i ByteArray.empty)) := by
        rcases HCL.out with h | h
        · omega
        · exact h
      have c1 := hc k hlt
      have HN1 : Hid (_ → _) := HNO.out k hlt
      obtain ⟨X, HX⟩ : ∃ X, Hid (xs.getD k ByteArray.empty = X) := ⟨_, rfl⟩
      rw [HX.out] at c1 HN1
      clear hc
      by_cases he : (X.size : Int) = wd
      · have he' : ((X.size : Int) != wd) = false := by simp [he]
        have HS2 : Hid (∀ j, j < k + 1 → ((xs.getD j ByteArray.empty).size : Int) = wd) := fun j hj => by
          rcases Nat.lt_or_ge j k with h | h
          · exact HS.out j h
          · obtain rfl : j = k := by omega
            rw [HX.out]; exact he
        clear he
        go_wp2
        go_roundw
        case rel => exact ⟨k + 1, by omega, by go_num, HS2.out, by first | rfl | trivial⟩
        case measure => simp [intOf]; omega
      · have he' : ((X.size : Int) != wd) = true := by rw [bne_iff_ne]; exact he
        have HE : Hid (R = false) := HN1.out he
        clear he
        go_wp2
        go_ret
        exact ⟨by rw [HE.out]; rfl, rfl⟩
    · have hlt' : ¬ (k : Int) < n := by omega
      obtain rfl : k = n := by omega
      have HE : Hid (R = true) := HYES.out HS.out
      go_wp2
      go_ret
      exact ⟨by rw [HE.out]; rfl, rfl⟩
theorem headC (m : ByteArray) (wd : Int) (w : World) (hm : m.size ≤ 10) (h0 : 0 ≤ wd) (h1 : wd ≤ 255) : Calls Tryd.prog 27 #[.string m, .int .i64 wd] w fun e w' => e = .returned (.string (m ++ str [wd])) ∧ Below w.heap.size w w' := by
  have hcv := conv_one w wd
  have hst : (str [wd]).size = 1 := str_size [wd]
  have hu : IntKind.u8.wrap wd = wd := by
    have : wd % 256 = wd := by omega
    first | exact this | (simp [IntKind.wrap]; omega) | (unfold IntKind.wrap; simp; omega)
  have BW : Hid (Below w.heap.size w (w.alloc (.cells #[.int .u8 wd] 5))) := (Below.refl _ _).alloc (Nat.le_refl _) _
  go_enter Tryd.func27, Tryd.ntmps27
  go_wp2
  go_ret
  exact ⟨rfl, BW.out⟩
theorem inter_nil : ∀ l : List (List UInt8), List.intercalate [] l = l.flatten
  | [] => rfl
  | [x] => by simp [List.intercalate]
  | x :: y :: l => by
    have ih := inter_nil (y :: l)
    simp only [List.intercalate, List.intersperse, List.flatten_cons, List.nil_append] at ih ⊢
    rw [ih]
theorem join_cat (xs : List ByteArray) : Lib.join (xs.map (·.data.toList)) (ByteArray.mk #[]).data.toList = cat xs := by
  unfold Lib.join cat
  rw [show (ByteArray.mk #[]).data.toList = ([] : List UInt8) from rfl, inter_nil, List.flatMap_def]
theorem sideC (v : Value) (xs : List ByteArray) (w : World) (hR : ReadsT w v xs) (hn : xs.length ≤ 140737488355328) (hl : (cat xs).length ≤ 140737488355328) :
    Calls Tryd.prog 29 #[v] w fun e w' => e = .returned (.string ⟨(cat xs).toArray⟩) ∧ Below w.heap.size w w' := by
  obtain ⟨a, cap, rfl, hcap, hcl⟩ := hR
  have JC : Hid (Calls Tryd.prog 39 #[.slice a xs.length cap, .string ⟨#[]⟩] w fun e w' => e = .returned (.string ⟨(cat xs).toArray⟩) ∧ Below w.heap.size w w') := by
    by_cases h0 : xs.length = 0
    · have hx : xs = [] := List.length_eq_zero_iff.1 h0
      subst hx
      refine (Any.strings_Join_none Go.Proofs.YtajfcddabkhamaaDoor.sj.lays156 Go.Proofs.YtajfcddabkhamaaDoor.sj.extra156 a cap ⟨#[]⟩ w).mono ?_
      rintro e w' ⟨rfl, hz⟩
      rw [hz]
      exact ⟨rfl, Below.refl _ _⟩
    · obtain ⟨b, off, rfl, hc⟩ := hcl.resolve_left h0
      have hlt : b < w.heap.size := World.block_lt_of_cell? _ _ (hc 0 (by omega))
      have h1 := Any.strings_Join Go.Proofs.YtajfcddabkhamaaDoor.sj.lays156 Go.Proofs.YtajfcddabkhamaaDoor.sj.extra156 b off cap xs ⟨#[]⟩ w (fun j x hx => by
        obtain ⟨hj, he⟩ := List.getElem?_eq_some_iff.1 hx
        have := hc j hj
        rw [List.getD_eq_getElem?_getD, hx] at this
        exact this) hlt hn hcap (by rw [join_cat]; exact hl)
      rw [join_cat] at h1
      exact h1
  clear hcl
  go_enter Tryd.func29, Tryd.ntmps29
  go_wp2_with (go_at_call 39; refine JC.out.mono ?_; rintro _ w1 ⟨rfl, k1⟩; have B1 : Hid (Below w.heap.size w w1) := k1; clear k1)
  go_ret
  exact ⟨rfl, B1.out⟩
end Go.Proofs.YtajfcddabkhamaaDoor.tej

namespace Go.Proofs.YtajfcddabkhamaaDoor.hs
open Go.RowKit Go.PlainAid Go.Shelf
open Go.Proofs.YtajfcddabkhamaaDoor.ca Go.Proofs.YtajfcddabkhamaaDoor.cb Go.Proofs.YtajfcddabkhamaaDoor.cp Go.Proofs.YtajfcddabkhamaaDoor.ga Go.Proofs.YtajfcddabkhamaaDoor.kp Go.Proofs.YtajfcddabkhamaaDoor.tna Go.Proofs.YtajfcddabkhamaaDoor.tnb Go.Proofs.YtajfcddabkhamaaDoor.tnc Go.Proofs.YtajfcddabkhamaaDoor.tnh Go.Proofs.YtajfcddabkhamaaDoor.tea Go.Proofs.YtajfcddabkhamaaDoor.teb Go.Proofs.YtajfcddabkhamaaDoor.tec Go.Proofs.YtajfcddabkhamaaDoor.ted Go.Proofs.YtajfcddabkhamaaDoor.tee Go.Proofs.YtajfcddabkhamaaDoor.tef Go.Proofs.YtajfcddabkhamaaDoor.teg Go.Proofs.YtajfcddabkhamaaDoor.tej Go.Proofs.YtajfcddabkhamaaDoor.ka Go.Proofs.YtajfcddabkhamaaDoor.tbn Go.Proofs.YtajfcddabkhamaaDoor.mi
set_option linter.unusedVariables false

-- what Hashes answers
def hashE (w : Int) (xs : List ByteArray) : Int := if 256 < xs.length then 83 else if allW (widI w) xs then 0 else 72
def hashT (w : Int) (xs : List ByteArray) : ByteArray := (((⟨#[72]⟩ : ByteArray) ++ str [widI w]) ++ putB xs.length) ++ ⟨(cat xs).toArray⟩
def hashV (w : Int) (xs : List ByteArray) : Value := .tuple #[.string (if hashE w xs = 0 then hashT w xs else ByteArray.empty), .int .i64 (hashE w xs)]
theorem cat_len (wd : Int) (xs : List ByteArray) (h : allW wd xs = true) (hw : wd ≤ 32) (hn : xs.length ≤ 1000000) : (cat xs).length ≤ 32000000 := by
  have key : ∀ l : List ByteArray, allW wd l = true → (cat l).length ≤ 32 * l.length := by
    intro l
    induction l with
    | nil => intro _; simp [cat]
    | cons x l ih =>
      intro h
      unfold allW at h ih
      rw [List.all_cons, Bool.and_eq_true] at h
      have h1 : (x.size : Int) = wd := by simpa using h.1
      have h2 := ih h.2
      have e : cat (x :: l) = x.data.toList ++ cat l := by simp [cat]
      rw [e, List.length_append, size_data, List.length_cons]
      omega
  have := key xs h
  omega
set_option maxHeartbeats 1600000 in
theorem hashesWC (wd : Int) (v : Value) (xs : List ByteArray) (w : World) (hR : ReadsT w v xs) (hn : xs.length ≤ 140737488355328) :
    Calls Tryd.prog 13 #[.int .i64 wd, v] w fun e w' => e = .returned (hashV wd xs) ∧ Below w.heap.size w w' := by
  have HRD : Hid (ReadsT w v xs) := hR
  have CW : Hid (∀ w, Calls _ _ _ (w : World) _) := fun w => widthOfC wd w
  have hwi := widI_in wd
  obtain ⟨a, cap, rfl, hcap, hcl⟩ := hR
  clear hcl
  by_cases hm : 256 < xs.length
  · have HV : Hid (hashV wd xs = .tuple #[.string ByteArray.empty, .int .i64 83]) := by
      have e : hashE wd xs = 83 := if_pos hm
      show _ = _
      unfold hashV
      rw [e]; rfl
    rw [HV.out]
    have hm' : (256 : Int) < xs.length := by omega
    go_enter Tryd.func13, Tryd.ntmps13
    go_wp2_with (go_at_call 25; refine (CW.out _).mono ?_; rintro _ wz ⟨rfl, hz⟩; rw [hz]; clear hz)
    go_ret2
    exact ⟨rfl, Below.refl _ _⟩
  have AH : Hid (Calls _ _ _ _ _) := areHashesC (widI wd) _ xs w HRD.out hn
  have hm' : ¬ (256 : Int) < xs.length := by omega
  by_cases hal : allW (widI wd) xs = true
  · have HV : Hid (hashV wd xs = .tuple #[.string (hashT wd xs), .int .i64 0]) := by
      have e : hashE wd xs = 0 := by unfold hashE; rw [if_neg hm, if_pos hal]
      show _ = _
      unfold hashV
      rw [e]; rfl
    rw [HV.out]
    have hcl := cat_len (widI wd) xs hal hwi.2 (by omega)
    rw [hal] at AH
    have HT : Hid (hashT wd xs = (((⟨#[72]⟩ : ByteArray) ++ str [widI wd]) ++ putB xs.length) ++ ⟨(cat xs).toArray⟩) := rfl
    rw [HT.out]
    have SC : Hid (∀ W, ReadsT W (.slice a xs.length cap) xs → Calls _ _ _ (W : World) _) := fun W h => sideC _ xs W h (by omega) (by omega)
    have N1 : Hid (∀ W : World, Calls _ _ _ _ _) := fun W => numberC1 (xs.length : Int) W (by omega) (by omega)
    have hps := (putB_size (xs.length : Int) (by omega) (by omega)).2
    have hca : (⟨(cat xs).toArray⟩ : ByteArray).size ≤ 32000000 := by show (cat xs).toArray.size ≤ _; rw [List.size_toArray]; exact hcl
    obtain ⟨C, HC⟩ : ∃ C : ByteArray, Hid ((⟨(cat xs).toArray⟩ : ByteArray) = C) := ⟨_, rfl⟩
    obtain ⟨Y, HY⟩ : ∃ Y, Hid (putB (xs.length : Int) = Y) := ⟨_, rfl⟩
    rw [HC.out] at SC hca ⊢
    rw [HY.out] at N1 hps ⊢
    obtain ⟨wi, HWI⟩ : ∃ x, Hid (widI wd = x) := ⟨_, rfl⟩
    rw [HWI.out] at CW AH hwi ⊢
    have HC1 : Hid (∀ W, Calls _ _ _ (W : World) _) := fun W => headC ⟨#[72]⟩ wi W (by decide) (by omega) (by omega)
    have hsh : ((⟨#[72]⟩ : ByteArray) ++ str [wi]).size = 2 := by rw [ByteArray.size_append, str_size]; rfl
    obtain ⟨Hd, HHd⟩ : ∃ C : ByteArray, Hid ((⟨#[72]⟩ : ByteArray) ++ str [wi] = C) := ⟨_, rfl⟩
    rw [HHd.out] at HC1 hsh ⊢
    obtain ⟨n, HN⟩ : ∃ n, Hid (xs.length = n) := ⟨_, rfl⟩
    rw [HN.out] at SC N1 AH HRD hm' hm hcap hn ⊢
    clear hal hcl
    go_enter Tryd.func13, Tryd.ntmps13
    go_wp2_with (first
      | (go_at_call 25; refine (CW.out _).mono ?_; rintro _ wz ⟨rfl, hz⟩; rw [hz]; clear hz)
      | (go_at_call 26; refine AH.out.mono ?_; rintro _ wz ⟨rfl, hz⟩; rw [hz]; clear hz)
      | (go_at_call 27; refine (HC1.out _).mono ?_; rintro _ w1 ⟨rfl, k1⟩; have B1 : Hid (Below w.heap.size w w1) := k1; clear k1)
      | (go_at_call 28; refine (N1.out _).mono ?_; rintro _ w2 ⟨rfl, k2⟩; have B2 : Hid (Below w.heap.size w w2) := below2 B1.out k2 (Nat.le_refl _); clear k2)
      | (go_at_call 29; refine (SC.out _ (HRD.out.later B2.out)).mono ?_; rintro _ w3 ⟨rfl, k3⟩; have B3 : Hid (Below w.heap.size w w3) := below2 B2.out k3 (Nat.le_refl _); clear k3))
    go_ret2
    exact ⟨rfl, B3.out⟩
  · have hal' : allW (widI wd) xs = false := by simpa using hal
    have HV : Hid (hashV wd xs = .tuple #[.string ByteArray.empty, .int .i64 72]) := by
      have e : hashE wd xs = 72 := by unfold hashE; rw [if_neg hm, if_neg hal]
      show _ = _
      unfold hashV
      rw [e]; rfl
    rw [HV.out]
    rw [hal'] at AH
    clear hal hal'
    go_enter Tryd.func13, Tryd.ntmps13
    go_wp2_with (first
      | (go_at_call 25; refine (CW.out _).mono ?_; rintro _ wz ⟨rfl, hz⟩; rw [hz]; clear hz)
      | (go_at_call 26; refine AH.out.mono ?_; rintro _ wz ⟨rfl, hz⟩; rw [hz]; clear hz))
    go_ret2
    exact ⟨rfl, Below.refl _ _⟩
end Go.Proofs.YtajfcddabkhamaaDoor.hs

namespace Go.Proofs.YtajfcddabkhamaaDoor.tnj
open Go.RowKit Go.PlainAid
open Go.Proofs.YtajfcddabkhamaaDoor.tna Go.Proofs.YtajfcddabkhamaaDoor.tnb Go.Proofs.YtajfcddabkhamaaDoor.tnc Go.Proofs.YtajfcddabkhamaaDoor.tnh Go.Proofs.YtajfcddabkhamaaDoor.tea
set_option linter.unusedVariables false

set_option maxRecDepth 100000 in
theorem si8 (W : World) : (sizeOf 5).run Tryd.prog W = .ok 1 W := by
  have h : (Tryd.prog.info? 5).map (·.size) = some 1 := by kernel_rfl
  cases hq : Tryd.prog.info? 5 with
  | none => simp [hq] at h
  | some i =>
    rw [hq] at h
    simp only [Option.map_some] at h
    injection h with h
    simp [Go.sizeOf, typeInfo, hq, h]
-- the bytes of a text, as cells
def cellsS (q : ByteArray) : List Value := Lib.byteCells q.data.toList
theorem cellsS_length (q : ByteArray) : (cellsS q).length = q.size := by rw [cellsS, Lib.byteCells_length]; exact Array.length_toList
theorem cellsS_first (q : ByteArray) : ((q.extract 0 q.size).data.map fun b => Value.int .u8 b.toNat) = (cellsS q).toArray := by
  rw [ByteArray.extract_zero_size]
  apply Array.ext'
  simp [cellsS, Lib.byteCells]
theorem cellsS_one (q : ByteArray) : ∀ u ∈ cellsS q, u.oneCell' = true := Lib.byteCells_one _

theorem first_str (q : ByteArray) (W : World) : (Builtin.firstCells 1 q.size (.string q)).run Tryd.prog W = .ok (cellsS q).toArray W := by
  simp only [Builtin.firstCells, cellsS_first q, Sem.run_pure]
set_option maxRecDepth 100000 in
theorem append_str_room (w : World) (ty : TypeId) (g sLen sCap : Nat) (cur : Array Value) (hg : w.heap[g]? = some (.cells cur 5 (0, 0))) (q : ByteArray) (hroom : sLen + q.size ≤ sCap) (hfit : sLen + q.size ≤ cur.size) :
    (Builtin.append_ #[65, 9] ty #[.slice (some ⟨g, 0, none⟩) sLen sCap, .string q]).run Tryd.prog w =
      .ok (.slice (some ⟨g, 0, none⟩) (sLen + q.size) sCap) (w.setRow g (cur.toList.take sLen ++ cellsS q ++ cur.toList.drop (sLen + q.size)).toArray) := by
  have hst := run_storeCells_at Tryd.prog g sLen 5 (cellsS q) 0 cur w hg (by rw [cellsS_length]; simpa using hfit) (cellsS_one q)
  simp only [Nat.add_zero, cellsS_length] at hst
  have hf := first_str q
  simp only [Builtin.append_, Builtin.lenOf, List.getElem?_toArray, List.getElem?_cons_zero, List.getElem?_cons_succ, Sem.run_bind, Sem.run_pure, run_underlying Tryd.underlying65, run_underlying Tryd.underlying9, Result.andThen_ok, si8]
  simp [hroom, Addr.add_lit, hf, hst]

set_option maxRecDepth 100000 in
theorem append_str_grow (w : World) (ty : TypeId) (i : TypeInfo) (hi : Tryd.prog.info? 5 = some i) (hz : i.zero = some (.int .u8 0)) (hb : i.bytes = 1) (b : Addr) (sLen sCap : Nat) (olds : List Value) (hlo : olds.length = sLen) (holds : ∀ j u, olds[j]? = some u → w.cell? (b.add j) = some u) (q : ByteArray)
    (hg : sCap < sLen + q.size) (h63 : sLen + q.size ≤ 140737488355328) :
    (Builtin.append_ #[65, 9] ty #[.slice (some b) sLen sCap, .string q]).run Tryd.prog w =
      .ok (.slice (some ⟨w.heap.size, 0, none⟩) (sLen + q.size) (grownCap w (sLen + q.size) sCap 5))
        (w.drew.alloc (.cells (olds.toArray ++ (cellsS q).toArray ++ Builtin.zeroCells (Value.int .u8 0).cells (grownCap w (sLen + q.size) sCap 5 - (sLen + q.size))) 5)) := by
  have hn : ¬ (sLen + q.size ≤ sCap) := by omega
  have h63' : ¬ (9223372036854775807 < ((sLen : Int) + (q.size : Int))) := by omega
  have h48' : ¬ (281474976710656 < Builtin.nextslicecap (sLen + q.size) sCap) := by
    have := growslice_fits (need := sLen + q.size) (old := sCap) (bytes := 1) (by omega) (by omega)
    omega
  have hfo := run_firstCells_some (P := Tryd.prog) w.drew 1 sLen b sLen sCap olds (by rw [hlo, Nat.mul_one]) (by simpa using holds)
  have hf := first_str q
  simp only [Builtin.append_, Builtin.lenOf, List.getElem?_toArray, List.getElem?_cons_zero, List.getElem?_cons_succ, Sem.run_bind, Sem.run_pure, run_underlying Tryd.underlying65, run_underlying Tryd.underlying9, Result.andThen_ok, si8]
  simp [typeInfo, zeroValue, hi, hz, hb, hn, h63', h48', Question.forced, hf, hfo, newRow, grownCap]
  congr 2
  apply Array.ext'
  simp [List.append_assoc]

-- append(out, text...) where out is a row of the call's own
set_option maxRecDepth 100000 in
theorem run_append_str (w : World) (base : Nat) (ty : TypeId) (v : Value) (n : Nat) (xs : List Value) (hown : w.ownsRow base 5 1 v n xs) (q : ByteArray) (h63 : n + q.size ≤ 140737488355328) (hbase : base ≤ w.heap.size) :
    ∃ v' w', (Builtin.append_ #[65, 9] ty #[v, .string q]).run Tryd.prog w = .ok v' w' ∧ w'.ownsRow base 5 1 v' (n + q.size) (xs ++ cellsS q) ∧ w.grownBy w' v.ownBlock := by
  obtain ⟨i, hi, hz0, hz1, hz2⟩ := info_parts info5
  have hlx : xs.length = n := by rw [hown.1, Nat.mul_one]
  have hlen : (xs ++ cellsS q).length = (n + q.size) * 1 := by rw [List.length_append, cellsS_length, hlx, Nat.mul_one]
  have hm : n + q.size ≤ maxLen := by unfold maxLen; omega
  have grown : ∀ (old : Nat), old < n + q.size → ∀ (row : Option Nat),
      (w.drew.alloc (.cells (xs.toArray ++ (cellsS q).toArray ++ Builtin.zeroCells (Value.int .u8 0).cells (grownCap w (n + q.size) old 5 - (n + q.size))) 5)).ownsRow base 5 1
        (.slice (some ⟨w.heap.size, 0, none⟩) (n + q.size) (grownCap w (n + q.size) old 5)) (n + q.size) (xs ++ cellsS q) ∧
      w.grownBy (w.drew.alloc (.cells (xs.toArray ++ (cellsS q).toArray ++ Builtin.zeroCells (Value.int .u8 0).cells (grownCap w (n + q.size) old 5 - (n + q.size))) 5)) row := by
    intro old ho row
    have hge := grownCap_ge w (n + q.size) old 5
    have hcm : grownCap w (n + q.size) old 5 ≤ maxLen := grownCap_le_maxLen w (n + q.size) old 5 hm
    refine ⟨⟨hlen, .inr ⟨w.heap.size, _, _, rfl, hbase, heap_alloc_new w.drew _, hge, hcm, ?_, ?_⟩⟩, ⟨rfl, rfl, rfl, by simp, fun k hk _ => heap_alloc_old w.drew _ hk⟩⟩
    · have hz : (Value.int .u8 0).cells.size = 1 := rfl
      simp only [Array.size_append, List.size_toArray, size_zeroCells, hz, hlx, cellsS_length]
      omega
    · simp only [Array.toList_append, List.append_assoc]
      rw [← List.append_assoc, ← hlen]
      exact List.take_left
  rcases hown.2 with ⟨rfl, rfl⟩ | ⟨g, cap, cur, rfl, hbg, hg, hnc, hcm, hcs, htake⟩
  · have hx : xs = [] := List.eq_nil_of_length_eq_zero (by simpa using hown.1)
    subst hx
    by_cases hq : q.size = 0
    · have hn : cellsS q = [] := List.eq_nil_of_length_eq_zero (by rw [cellsS_length]; exact hq)
      refine ⟨.slice none 0 0, w, ?_, ?_, ⟨rfl, rfl, rfl, Nat.le_refl _, fun _ _ _ => rfl⟩⟩
      · have hf := first_str q
        rw [hq, hn] at hf
        simp only [Builtin.append_, Builtin.lenOf, List.getElem?_toArray, List.getElem?_cons_zero, List.getElem?_cons_succ, Sem.run_bind, Sem.run_pure, run_underlying Tryd.underlying65, run_underlying Tryd.underlying9, Result.andThen_ok, si8]
        simp [hq, hf]
      · rw [hq, hn]; exact World.ownsRow_nil w base 5 1
    · have hr := run_append_nil_string (P := Tryd.prog) w 65 9 ty 5 i (.int .u8 0) Tryd.underlying65 Tryd.underlying9 hi hz0 q (by omega) (by omega) (by rw [hz2]; omega)
      have hgr := grown 0 (by omega) (Value.ownBlock (.slice none 0 0))
      simp only [Nat.zero_add, List.nil_append, Array.empty_append] at hgr ⊢
      have e : (q.data.map fun b => Value.int .u8 (b.toNat : Int)) = (cellsS q).toArray := by
        rw [← cellsS_first q]
        congr 2
        exact (ByteArray.extract_zero_size (b := q)).symm ▸ rfl
      rw [e] at hr
      exact ⟨_, _, hr, hgr.1, hgr.2⟩
  · by_cases hroom : n + q.size ≤ cap
    · have hr := append_str_room w ty g n cap cur hg q hroom (by omega)
      refine ⟨_, _, hr, ⟨hlen, .inr ⟨g, cap, _, rfl, hbg, setRow_heap w g cur _ 5 _ hg, hroom, hcm, ?_, ?_⟩⟩, ⟨rfl, rfl, rfl, by simp, fun k _ hk => setRow_other w g k _ (fun e => hk (by simp [Value.ownBlock, e]))⟩⟩
      · simp only [List.size_toArray, List.length_append, List.length_take, List.length_drop, Array.length_toList, cellsS_length]
        omega
      · rw [show n = n * 1 by omega, htake, show (n * 1 + q.size) * 1 = (n + q.size) * 1 by omega, ← hlen]
        exact List.take_left
    · have holds : ∀ j u, xs[j]? = some u → w.cell? ((⟨g, 0, none⟩ : Addr).add j) = some u := hown.cells (g := g) rfl
      have hr := append_str_grow w ty i hi hz0 hz2 ⟨g, 0, none⟩ n cap xs hlx holds q (by omega) h63
      have hgr := grown cap (by omega) (Value.ownBlock (.slice (some ⟨g, 0, none⟩) n cap))
      exact ⟨_, _, hr, hgr.1, hgr.2⟩

theorem wpList_append_str {ops : Array Oper} {rest : List Oper} {o : Oper} {a : Act} {w : World} {Q : Exit → Act → World → Prop} (hgd : o.guard = none) (s x : Operand)
    (ho : o.op = .call { callee := .builtin .append, args := #[s, x], argTypes := #[65, 9] }) (base : Nat) (v : Value) (n : Nat) (xs : List Value) (hs : a.eval s = v) (hown : w.ownsRow base 5 1 v n xs)
    (q : ByteArray) (hx : a.eval x = .string q) (h63 : n + q.size ≤ 140737488355328) (hbase : base ≤ w.heap.size)
    (h : ∀ v' w', w'.ownsRow base 5 1 v' (n + q.size) (xs ++ cellsS q) → w.grownBy w' v.ownBlock → wpList Tryd.prog ops Q rest (a.put o.dst v') w') : wpList Tryd.prog ops Q (o :: rest) a w := by
  obtain ⟨v', w', hr, h2, h3⟩ := run_append_str w base o.type v n xs hown q h63 hbase
  refine wpList_plain hgd fun K hK => ?_
  unfold Oper.wp execOp
  simp only [ho, resolve, invoke, builtin, Sem.run_bind, Sem.run_pure, Result.andThen_ok, List.map_toArray, List.map_cons, List.map_nil, hs, hx, hr]
  exact hK _ _ (h v' w' h2 h3)

theorem conv_own (W : World) (B : Nat) (v : Value) (l : List UInt8) (n : Nat) (hn : n = l.length) (h0 : 0 < n) (ho : W.ownsRow B 5 1 v n (Lib.byteCells l)) :
    (convert 65 9 v).run Tryd.prog W = .ok (.string ⟨l.toArray⟩) W := by
  obtain ⟨hl, h | ⟨g, cap, cur, rfl, hg, hh, h1, h2, h3, h4⟩⟩ := ho
  · omega
  · have e : Lib.byteCells l = (l.map fun b => (b.toNat : Int)).map (Value.int .u8) := by simp [Lib.byteCells]
    have es : (l.map fun b => (b.toNat : Int)).foldl (fun r n => r.push (UInt8.ofNat n.toNat)) ByteArray.empty = ⟨l.toArray⟩ := by
      have := str_data (l.map fun b => (b.toNat : Int))
      apply ByteArray.ext
      show (str (l.map fun b => (b.toNat : Int))).data = _
      rw [this, List.map_map]
      have e2 : l.map ((fun n : Int => UInt8.ofNat n.toNat) ∘ fun b : UInt8 => (b.toNat : Int)) = l := by
        conv => rhs; rw [← List.map_id l]
        apply List.map_congr_left
        intro a _
        show UInt8.ofNat (((a.toNat : Nat) : Int).toNat) = a
        rw [Int.toNat_natCast]
        exact UInt8.ofNat_toNat
      rw [e2]
    rw [run_convert_bytes_string _ 65 9 5 _ _ _ Tryd.underlying65 Tryd.underlying5 Tryd.underlying9, ← es]
    refine run_bytesToString _ _ _ _ (l.map fun b => (b.toNat : Int)) ?_
    have h := run_loadCells_list (P := Tryd.prog) (w := W) ⟨g, 0, none⟩ (Lib.byteCells l) ?_
    · rw [Lib.byteCells_length, ← hn, e] at h; exact h
    · intro j u hj
      have hjl : j < n := by rw [hn]; have := (List.getElem?_eq_some_iff.1 hj).1; rwa [Lib.byteCells_length] at this
      rw [show (Addr.add ⟨g, 0, none⟩ j) = ⟨g, j, none⟩ by cases j <;> simp [Addr.add]]
      have hc : W.cell? ⟨g, j, none⟩ = cur[j]? := by unfold World.cell?; simp [hh]
      rw [hc, ← hj, ← h4, List.getElem?_take, if_pos (by omega), Array.getElem?_toList]
end Go.Proofs.YtajfcddabkhamaaDoor.tnj

namespace Go.Proofs.YtajfcddabkhamaaDoor.hd
open Go.RowKit Go.PlainAid Go.Shelf
open Go.Proofs.YtajfcddabkhamaaDoor.ca Go.Proofs.YtajfcddabkhamaaDoor.cb Go.Proofs.YtajfcddabkhamaaDoor.cp Go.Proofs.YtajfcddabkhamaaDoor.ga Go.Proofs.YtajfcddabkhamaaDoor.kp Go.Proofs.YtajfcddabkhamaaDoor.tna Go.Proofs.YtajfcddabkhamaaDoor.tnb Go.Proofs.YtajfcddabkhamaaDoor.tnc Go.Proofs.YtajfcddabkhamaaDoor.tnh Go.Proofs.YtajfcddabkhamaaDoor.tnj Go.Proofs.YtajfcddabkhamaaDoor.tea Go.Proofs.YtajfcddabkhamaaDoor.teb Go.Proofs.YtajfcddabkhamaaDoor.tec Go.Proofs.YtajfcddabkhamaaDoor.ted Go.Proofs.YtajfcddabkhamaaDoor.tee Go.Proofs.YtajfcddabkhamaaDoor.tef Go.Proofs.YtajfcddabkhamaaDoor.teg Go.Proofs.YtajfcddabkhamaaDoor.tej Go.Proofs.YtajfcddabkhamaaDoor.ka Go.Proofs.YtajfcddabkhamaaDoor.tbn Go.Proofs.YtajfcddabkhamaaDoor.mi Go.Proofs.YtajfcddabkhamaaDoor.hs
set_option linter.unusedVariables false

theorem rNumberC (n : Int) (w : World) (h0 : 0 ≤ n) (h1 : n ≤ 9223372036854775807) : Calls Tryd.prog 32 #[.int .i64 n] w fun e w' => e = .returned (.string (putB n)) ∧ Below w.heap.size w w' := by
  have hw : Wants n (mOf n) := wants_len n h0 (by omega)
  have CP : Hid (Calls _ _ _ _ _) := rpv_any n (mOf n) w h0 (by omega) hw.1 hw.2.1 hw
  have HP : Hid (putB n = str (putL n (mOf n))) := rfl
  rw [← HP.out] at CP
  have hu : IntKind.u64.wrap n = n := u64_nonneg h0 (by omega)
  clear hw
  go_enter Tryd.func32, Tryd.ntmps32
  go_wp2_with (go_at_call 44; refine CP.out.mono ?_; rintro _ w1 ⟨rfl, k1⟩; have K1 : Hid (Below w.heap.size w w1) := k1; clear k1)
  go_ret
  exact ⟨rfl, K1.out⟩
-- bytes of the call's own
def OB (w : World) (B : Nat) (v : Value) (l : List UInt8) : Prop := w.ownsRow B 5 1 v l.length (Lib.byteCells l)
theorem OB.later {w w' : World} {B : Nat} {v : Value} {l : List UInt8} (h : OB w B v l) (k : Below w.heap.size w w') : OB w' B v l := own_kp h (A := fun _ => False) (Kp.of_below k) (fun _ e => e.elim)
theorem OB.str {B : Nat} {l : List UInt8} {q : ByteArray} {v' : Value} {w' : World} (h : w'.ownsRow B 5 1 v' (l.length + q.size) (Lib.byteCells l ++ cellsS q)) : OB w' B v' (l ++ q.data.toList) := by
  unfold OB
  rw [Lib.byteCells_append, List.length_append, size_data]
  exact h
theorem rWidth (x : Int) (w : World) : Calls Tryd.prog 17 #[.int .i64 x] w fun e w' => e = .returned (.int .i64 (widI x)) ∧ w' = w := by
  by_cases h1 : x < 1
  · have HI : Hid (widI x = 32) := if_neg (by omega)
    rw [HI.out]
    go_enter Tryd.func17, Tryd.ntmps17
    go_wp2
    go_ret
    exact ⟨rfl, rfl⟩
  · by_cases h2 : 32 < x
    · have HI : Hid (widI x = 32) := if_neg (by omega)
      rw [HI.out]
      go_enter Tryd.func17, Tryd.ntmps17
      go_wp2
      go_ret
      exact ⟨rfl, rfl⟩
    · have HI : Hid (widI x = x) := if_pos (by omega)
      rw [HI.out]
      go_enter Tryd.func17, Tryd.ntmps17
      go_wp2
      go_ret
      exact ⟨rfl, rfl⟩
set_option maxHeartbeats 1600000 in
theorem rSized (wd : Int) (v : Value) (xs : List ByteArray) (w : World) (hR : ReadsT w v xs) (hz : xs.length ≤ 140737488355328) :
    Calls Tryd.prog 31 #[.int .i64 wd, v] w fun e w' => e = .returned (.bool (allW wd xs)) ∧ w' = w := by
  obtain ⟨a, cap, rfl, hcap, hcl⟩ := hR
  have HCL : Hid (xs.length = 0 ∨ ∃ b off, a = some ⟨b, off, none⟩ ∧ ∀ i, i < xs.length → w.cell? ⟨b, off + i, none⟩ = some (.string (xs.getD i ByteArray.empty))) := hcl
  have HNO : Hid (∀ k, k < xs.length → ((xs.getD k ByteArray.empty).size : Int) ≠ wd → allW wd xs = false) := fun k hk h => allW_no hk h
  have HYES : Hid ((∀ j, j < xs.length → ((xs.getD j ByteArray.empty).size : Int) = wd) → allW wd xs = true) := fun h => allW_yes h
  obtain ⟨R, HR⟩ : ∃ R, Hid (allW wd xs = R) := ⟨_, rfl⟩
  obtain ⟨n, HN⟩ : ∃ n, Hid (xs.length = n) := ⟨_, rfl⟩
  rw [HR.out] at HNO HYES ⊢
  rw [HN.out] at HCL HNO HYES hz hcap ⊢
  clear hcl
  go_enter Tryd.func31, Tryd.ntmps31
  go_wp2
  go_loopw [5] (fun i wr => ∃ k : Nat, k ≤ n ∧ i = .int .i64 k ∧ Hid (∀ j, j < k → ((xs.getD j ByteArray.empty).size : Int) = wd) ∧ wr = w) (fun i _ => (n - intOf i).toNat)
  case atStart => exact ⟨0, by omega, rfl, fun j h => by omega, rfl⟩
  case round =>
    obtain ⟨k, hk, rfl, HS, hwr⟩ := hrel
    rw [hwr]
    clear hwr
    by_cases hlt : k < n
    · have hlt' : (k : Int) < n := by omega
      obtain ⟨b, off, rfl, hc⟩ : ∃ b off, a = some ⟨b, off, none⟩ ∧ ∀ i, i < n → w.cell? ⟨b, off + i, none⟩ = some (.string (xs.getD i ByteArray.empty)) := by
        rcases HCL.out with h | h
        · omega
        · exact h
      have c1 := hc k hlt
      have HN1 : Hid (_ → _) := HNO.out k hlt
      obtain ⟨X, HX⟩ : ∃ X, Hid (xs.getD k ByteArray.empty = X) := ⟨_, rfl⟩
      rw [HX.out] at c1 HN1
      clear hc
      by_cases he : (X.size : Int) = wd
      · have he' : ((X.size : Int) != wd) = false := by simp [he]
        have HS2 : Hid (∀ j, j < k + 1 → ((xs.getD j ByteArray.empty).size : Int) = wd) := fun j hj => by
          rcases Nat.lt_or_ge j k with h | h
          · exact HS.out j h
          · obtain rfl : j = k := by omega
            rw [HX.out]; exact he
        clear he
        go_wp2
        go_roundw
        case rel => exact ⟨k + 1, by omega, by go_num, HS2.out, by first | rfl | trivial⟩
        case measure => simp [intOf]; omega
      · have he' : ((X.size : Int) != wd) = true := by rw [bne_iff_ne]; exact he
        have HE : Hid (R = false) := HN1.out he
        clear he
        go_wp2
        go_ret
        exact ⟨by rw [HE.out]; rfl, rfl⟩
    · have hlt' : ¬ (k : Int) < n := by omega
      obtain rfl : k = n := by omega
      have HE : Hid (R = true) := HYES.out HS.out
      go_wp2
      go_ret
      exact ⟨by rw [HE.out]; rfl, rfl⟩
theorem cat_next (l : List ByteArray) (k : Nat) (h : k < l.length) : cat (l.take (k + 1)) = cat (l.take k) ++ (l.getD k ByteArray.empty).data.toList := by
  have e : l.take (k + 1) = l.take k ++ [l.getD k ByteArray.empty] := by
    rw [List.take_add_one, List.getElem?_eq_getElem h, List.getD_eq_getElem?_getD, List.getElem?_eq_getElem h]
    rfl
  unfold cat
  rw [e, List.flatMap_append, List.flatMap_cons, List.flatMap_nil, List.append_nil]
theorem cat_take (l : List ByteArray) (k : Nat) : (cat (l.take k)).length ≤ (cat l).length := by
  conv => rhs; rw [← List.take_append_drop k l]
  unfold cat
  rw [List.flatMap_append, List.length_append]
  omega
theorem conv_nil (W : World) (v : Value) (B : Nat) (ho : OB W B v []) : (convert 65 9 v).run Tryd.prog W = .ok (.string ⟨#[]⟩) W := by
  rcases ho.2 with ⟨rfl, _⟩ | ⟨g, cap, cur, rfl, hg, hh, _⟩
  · rw [run_convert_bytes_string _ 65 9 5 _ _ _ Tryd.underlying65 Tryd.underlying5 Tryd.underlying9]
    first | rfl | kernel_rfl | (simp [Conv.bytesToString])
  · rw [run_convert_bytes_string _ 65 9 5 _ _ _ Tryd.underlying65 Tryd.underlying5 Tryd.underlying9]
    have h := run_loadCells_list (P := Tryd.prog) (w := W) ⟨g, 0, none⟩ [] (fun j u hj => by simp at hj)
    exact run_bytesToString W ⟨g, 0, none⟩ 0 cap [] h
theorem conv_any (W : World) (B : Nat) (v : Value) (l : List UInt8) (ho : OB W B v l) : (convert 65 9 v).run Tryd.prog W = .ok (.string ⟨l.toArray⟩) W := by
  by_cases h0 : l.length = 0
  · have e0 : l = [] := List.length_eq_zero_iff.1 h0
    subst e0
    exact conv_nil W v B ho
  · exact conv_own W B v l _ rfl (by omega) ho
set_option maxHeartbeats 1600000 in
theorem rJoined (v : Value) (xs : List ByteArray) (w : World) (hR : ReadsT w v xs) (hn : xs.length ≤ 140737488355328) (hl : (cat xs).length ≤ 140737488000000) :
    Calls Tryd.prog 33 #[v] w fun e w' => e = .returned (.string ⟨(cat xs).toArray⟩) ∧ Below w.heap.size w w' := by
  obtain ⟨a, cap, rfl, hcap, hcl⟩ := hR
  have HCL : Hid (xs.length = 0 ∨ ∃ b off, a = some ⟨b, off, none⟩ ∧ ∀ i, i < xs.length → w.cell? ⟨b, off + i, none⟩ = some (.string (xs.getD i ByteArray.empty))) := hcl
  have HJ : Hid (∀ k, k < xs.length → cat (xs.take (k + 1)) = cat (xs.take k) ++ (xs.getD k ByteArray.empty).data.toList) := fun k hk => cat_next xs k hk
  have HLN : Hid (∀ k, (cat (xs.take k)).length ≤ 140737488000000) := fun k => Nat.le_trans (cat_take xs k) hl
  have HT : Hid (cat (xs.take xs.length) = cat xs) := by show _ = _; rw [List.take_length]
  obtain ⟨n, HN⟩ : ∃ n, Hid (xs.length = n) := ⟨_, rfl⟩
  rw [HN.out] at HCL HJ HT hn hcap ⊢
  rw [← HT.out]
  clear hcl hl
  go_enter Tryd.func33, Tryd.ntmps33
  go_wp2
  go_loopw [3, 4] (fun v i wr => ∃ (k : Nat), k ≤ n ∧ i = .int .i64 k ∧ Hid (OB wr w.heap.size v (cat (xs.take k)) ∧ Below w.heap.size w wr)) (fun _ i _ => (n - intOf i).toNat)
  case atStart => exact ⟨0, by omega, rfl, World.ownsRow_nil _ _ _ _, Below.refl _ _⟩
  case round =>
    obtain ⟨k, hk, rfl, HL⟩ := hrel
    have hbs := HL.out.2.size
    by_cases hlt : k < n
    · have hlt' : (k : Int) < n := by omega
      obtain ⟨b, off, rfl, hc⟩ : ∃ b off, a = some ⟨b, off, none⟩ ∧ ∀ i, i < n → w.cell? ⟨b, off + i, none⟩ = some (.string (xs.getD i ByteArray.empty)) := by
        rcases HCL.out with h | h
        · omega
        · exact h
      have c1 : wr.cell? ⟨b, off + k, none⟩ = some (.string (xs.getD k ByteArray.empty)) := (HL.out.2.cell (p := ⟨b, off + k, none⟩) (World.block_lt_of_cell? _ _ (hc k hlt))).trans (hc k hlt)
      have HJ2 : Hid (_ = _) := HJ.out k hlt
      have hl1 := HLN.out (k + 1)
      rw [HJ2.out, List.length_append, size_data] at hl1
      clear hc
      obtain ⟨X, HXX⟩ : ∃ X, Hid (xs.getD k ByteArray.empty = X) := ⟨_, rfl⟩
      rw [HXX.out] at c1 HJ2 hl1
      have O0 : Hid (OB wr w.heap.size _ (cat (xs.take k))) := HL.out.1
      have B0 : Hid (Below w.heap.size w wr) := HL.out.2
      clear HL
      obtain ⟨K, HK⟩ : ∃ K, Hid (cat (xs.take k) = K) := ⟨_, rfl⟩
      rw [HK.out] at O0 HJ2 hl1
      obtain ⟨va, vc, hv⟩ := own_formS O0.out
      subst hv
      go_wp2_with (at_builtin; refine wpList_append_str rfl _ _ rfl w.heap.size (.slice va K.length vc) K.length (Lib.byteCells K) rfl O0.out X rfl (by omega) B0.out.size ?_; intro v3 w3 ho3 hg3; have O3 : Hid (OB w3 w.heap.size v3 (cat (xs.take (k + 1)))) := (by rw [HJ2.out]; exact OB.str ho3); have B3 : Hid (Below w.heap.size w w3) := B0.out.trans (Below.grown (Below.refl _ _) hg3 B0.out.size (fun j hj => (O0.out.lt _ hj).1)); clear ho3 hg3)
      go_roundw
      case rel => exact ⟨k + 1, by omega, by go_num, O3.out, B3.out⟩
      case measure => simp [intOf]; omega
    · have hlt' : ¬ (k : Int) < n := by omega
      obtain rfl : k = n := by omega
      have hcv := conv_any wr w.heap.size _ (cat (xs.take k)) HL.out.1
      have HB : Hid (Below w.heap.size w wr) := HL.out.2
      clear HL
      go_wp2
      go_ret
      exact ⟨rfl, HB.out⟩
theorem conv_at (W : World) (b : Nat) (c : Int) (hc : W.cell? ⟨b, 0, none⟩ = some (.int .u8 c)) :
    (convert 65 9 (.slice (some ⟨b, 0, none⟩) 1 1)).run Tryd.prog W = .ok (.string (str [c])) W := by
  rw [run_convert_bytes_string _ 65 9 5 _ _ _ Tryd.underlying65 Tryd.underlying5 Tryd.underlying9]
  refine run_bytesToString _ _ _ _ [c] ?_
  have h := run_loadCells_list (P := Tryd.prog) (w := W) ⟨b, 0, none⟩ ([c].map (Value.int .u8)) ?_
  · simpa using h
  · intro j v hj
    cases j with
    | zero => simp at hj; subst hj; simpa [Addr.add] using hc
    | succ j => simp at hj
theorem cell_one (w w2 : World) (c : Int) (k : Below (w.alloc (.cells #[.int .u8 c] 5)).heap.size (w.alloc (.cells #[.int .u8 c] 5)) w2) : w2.cell? ⟨w.heap.size, 0, none⟩ = some (.int .u8 c) := by
  have h : (w.alloc (.cells #[.int .u8 c] 5)).cell? ⟨w.heap.size, 0, none⟩ = some (.int .u8 c) := by
    rw [World.cell?_alloc_at _ _ _ _ rfl]; rfl
  exact (k.cell (World.block_lt_of_cell? _ _ h)).trans h
theorem cell_kept (w2 w3 : World) (b : Nat) (c : Int) (k : Below w2.heap.size w2 w3) (h : w2.cell? ⟨b, 0, none⟩ = some (.int .u8 c)) : w3.cell? ⟨b, 0, none⟩ = some (.int .u8 c) :=
  (k.cell (World.block_lt_of_cell? _ _ h)).trans h
set_option maxRecDepth 100000 in
set_option maxHeartbeats 1600000 in
theorem rHashes (wd : Int) (v : Value) (xs : List ByteArray) (w : World) (hR : ReadsT w v xs) (hn : xs.length ≤ 140737488355328) :
    Calls Tryd.prog 19 #[.int .i64 wd, v] w fun e w' => e = .returned (hashV wd xs) ∧ Below w.heap.size w w' := by
  have HRD : Hid (ReadsT w v xs) := hR
  have CW : Hid (∀ w, Calls _ _ _ (w : World) _) := fun w => rWidth wd w
  have hwi := widI_in wd
  obtain ⟨a, cap, rfl, hcap, hcl⟩ := hR
  clear hcl
  by_cases hm : 256 < xs.length
  · have HV : Hid (hashV wd xs = .tuple #[.string ByteArray.empty, .int .i64 83]) := by
      have e : hashE wd xs = 83 := if_pos hm
      show _ = _
      unfold hashV
      rw [e]; rfl
    rw [HV.out]
    have hm' : (256 : Int) < xs.length := by omega
    go_enter Tryd.func19, Tryd.ntmps19
    go_wp2_with (go_at_call 17; refine (CW.out _).mono ?_; rintro _ wz ⟨rfl, hz⟩; rw [hz]; clear hz)
    go_ret2
    exact ⟨rfl, Below.refl _ _⟩
  have AH : Hid (Calls _ _ _ _ _) := rSized (widI wd) _ xs w HRD.out hn
  have hm' : ¬ (256 : Int) < xs.length := by omega
  by_cases hal : allW (widI wd) xs = true
  · have HV : Hid (hashV wd xs = .tuple #[.string (hashT wd xs), .int .i64 0]) := by
      have e : hashE wd xs = 0 := by unfold hashE; rw [if_neg hm, if_pos hal]
      show _ = _
      unfold hashV
      rw [e]; rfl
    rw [HV.out]
    have hcl := cat_len (widI wd) xs hal hwi.2 (by omega)
    rw [hal] at AH
    have HT : Hid (hashT wd xs = (((⟨#[72]⟩ : ByteArray) ++ str [widI wd]) ++ putB xs.length) ++ ⟨(cat xs).toArray⟩) := rfl
    rw [HT.out]
    have SC : Hid (∀ W, ReadsT W (.slice a xs.length cap) xs → Calls _ _ _ (W : World) _) := fun W h => rJoined _ xs W h (by omega) (by omega)
    have N1 : Hid (∀ W : World, Calls _ _ _ _ _) := fun W => rNumberC (xs.length : Int) W (by omega) (by omega)
    have hps := (putB_size (xs.length : Int) (by omega) (by omega)).2
    have hca : (⟨(cat xs).toArray⟩ : ByteArray).size ≤ 32000000 := by show (cat xs).toArray.size ≤ _; rw [List.size_toArray]; exact hcl
    obtain ⟨C, HC⟩ : ∃ C : ByteArray, Hid ((⟨(cat xs).toArray⟩ : ByteArray) = C) := ⟨_, rfl⟩
    obtain ⟨Y, HY⟩ : ∃ Y, Hid (putB (xs.length : Int) = Y) := ⟨_, rfl⟩
    rw [HC.out] at SC hca ⊢
    rw [HY.out] at N1 hps ⊢
    obtain ⟨wi, HWI⟩ : ∃ x, Hid (widI wd = x) := ⟨_, rfl⟩
    rw [HWI.out] at CW AH hwi ⊢
    have hst : (str [wi]).size = 1 := str_size [wi]
    have hsh : ((⟨#[72]⟩ : ByteArray) ++ str [wi]).size = 2 := by rw [ByteArray.size_append, str_size]; rfl
    have hu : IntKind.u8.wrap wi = wi := by
      have : wi % 256 = wi := by omega
      first | exact this | (simp [IntKind.wrap]; omega) | (unfold IntKind.wrap; simp; omega)
    obtain ⟨n, HN⟩ : ∃ n, Hid (xs.length = n) := ⟨_, rfl⟩
    rw [HN.out] at SC N1 AH HRD hm' hm hcap hn ⊢
    clear hal hcl
    have hcv := conv_one
    have hcv1 : (convert 65 9 (.slice (some ⟨w.heap.size, 0, none⟩) 1 1)).run Tryd.prog ((w.alloc (.cells #[.int .u8 wi] 5)).drew) = .ok (.string (str [wi])) ((w.alloc (.cells #[.int .u8 wi] 5)).drew) := conv_one w.drew wi
    have KA : Hid (∀ w2, Below w.drew.heap.size w.drew w2 → Below w.heap.size w w2) := fun w2 h => below2 (below_dr (Below.refl _ _)) h (Nat.le_refl _)
    have KB : Hid (∀ w2, Below ((w.alloc (.cells #[.int .u8 wi] 5)).drew).heap.size ((w.alloc (.cells #[.int .u8 wi] 5)).drew) w2 → Below w.heap.size w w2) := fun w2 h => below2 (below_dr ((Below.refl _ _).alloc (Nat.le_refl _) _)) h (Nat.le_refl _)
    go_enter Tryd.func19, Tryd.ntmps19
    go_upto_region 6 with (first
      | (go_at_call 17; refine (CW.out _).mono ?_; rintro _ wz ⟨rfl, hz⟩; rw [hz]; clear hz)
      | (go_at_call 31; refine AH.out.mono ?_; rintro _ wz ⟨rfl, hz⟩; rw [hz]; clear hz))
    go_region_with (first
      | (go_at_call 32; refine (N1.out _).mono ?_; rintro _ w2 ⟨rfl, k2⟩; first
          | (have B2 : Hid (Below w.heap.size w w2) := KA.out _ k2; have hcv2 := conv_one w2 wi; clear k2)
          | (have B2 : Hid (Below w.heap.size w w2) := KB.out _ k2; have c2 : Hid (w2.cell? ⟨w.heap.size, 0, none⟩ = some (.int .u8 wi)) := cell_one w.drew w2 wi k2; have hcv2 := conv_at w2 _ wi c2.out; clear k2))
      | (go_at_call 33; first
          | (refine (SC.out _ (HRD.out.later B2.out)).mono ?_; rintro _ w3 ⟨rfl, k3⟩; have B3 : Hid (Below w.heap.size w w3) := below2 B2.out k3 (Nat.le_refl _); first
              | (have c3 : Hid (w3.cell? ⟨w.heap.size, 0, none⟩ = some (.int .u8 wi)) := cell_kept _ w3 _ wi k3 c2.out; have hcv3 := conv_at w3 _ wi c3.out; clear k3)
              | (have hcv3 := conv_one w3 wi; clear k3))
          | (refine (SC.out _ (HRD.out.later (B2.out.alloc B2.out.size _))).mono ?_; rintro _ w3 ⟨rfl, k3⟩; have B3 : Hid (Below w.heap.size w w3) := below2 (B2.out.alloc B2.out.size _) k3 (Nat.le_refl _); have hcv3 := conv_at w3 _ wi (cell_one w2 w3 wi k3); clear k3)))
    all_goals (
      go_wp2
      go_ret2
      exact ⟨rfl, by first | exact B3.out | exact B3.out.alloc B3.out.size _⟩)
  · have hal' : allW (widI wd) xs = false := by simpa using hal
    have HV : Hid (hashV wd xs = .tuple #[.string ByteArray.empty, .int .i64 72]) := by
      have e : hashE wd xs = 72 := by unfold hashE; rw [if_neg hm, if_neg hal]
      show _ = _
      unfold hashV
      rw [e]; rfl
    rw [HV.out]
    rw [hal'] at AH
    clear hal hal'
    go_enter Tryd.func19, Tryd.ntmps19
    go_wp2_with (first
      | (go_at_call 17; refine (CW.out _).mono ?_; rintro _ wz ⟨rfl, hz⟩; rw [hz]; clear hz)
      | (go_at_call 31; refine AH.out.mono ?_; rintro _ wz ⟨rfl, hz⟩; rw [hz]; clear hz))
    go_ret2
    exact ⟨rfl, Below.refl _ _⟩
end Go.Proofs.YtajfcddabkhamaaDoor.hd
