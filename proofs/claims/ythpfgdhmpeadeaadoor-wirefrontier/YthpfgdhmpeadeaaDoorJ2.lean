import Derived.Shelf.Strings.OnBuilder
import Derived.Test.YthpfgdhmpeadeaaDoorProg
import Derived.Test.YthpfgdhmpeadeaaDoorG4
import Derived.Test.YthpfgdhmpeadeaaDoorJ0
import Derived.Test.YthpfgdhmpeadeaaDoorG6
import Derived.Test.YthpfgdhmpeadeaaDoorJ1
import Derived.Deep.RegionWith
namespace Go.Proofs.YthpfgdhmpeadeaaDoor.sj
open Go.Shelf
set_option linter.unusedVariables false
def lays156_ren : Go.Shelf.Ren := ⟨fun | 156 => 59 | 165 => 86 | 166 => 55 | 169 => 56 | 240 => 84 | 241 => 101 | 276 => 100 | 277 => 114 | n => n, fun | 31 => 22 | 9 => 9 | 3 => 3 | 4 => 4 | 0 => 0 | 20 => 20 | 72 => 103 | 76 => 106 | 70 => 101 | 37 => 45 | 75 => 105 | 127 => 132 | 164 => 148 | 5 => 5 | 80 => 108 | n => n, fun | n => n⟩
theorem lays156 : Go.Proofs.Lays.n156 Tryd.prog lays156_ren := {
  mixed := by kernel_rfl
  f156 := Tryd.func59.trans (congrArg some (by kernel_rfl))
  f165 := Tryd.func86.trans (congrArg some (by kernel_rfl))
  f166 := Tryd.func55.trans (congrArg some (by kernel_rfl))
  f169 := Tryd.func56.trans (congrArg some (by kernel_rfl))
  f240 := Tryd.func84.trans (congrArg some (by kernel_rfl))
  f241 := Tryd.func101.trans (congrArg some (by kernel_rfl))
  f276 := Tryd.func100.trans (congrArg some (by kernel_rfl))
  f277 := Tryd.func114.trans (congrArg some (by kernel_rfl))
  t0 := Tryd.underlying0
  a0 := Tryd.isAgg0
  z0 := Tryd.sizeOf0
  v0 := Tryd.zeroValue0
  t3 := Tryd.underlying3
  a3 := Tryd.isAgg3
  z3 := Tryd.sizeOf3
  v3 := Tryd.zeroValue3
  t4 := Tryd.underlying4
  a4 := Tryd.isAgg4
  z4 := Tryd.sizeOf4
  v4 := Tryd.zeroValue4
  t9 := Tryd.underlying9
  a9 := Tryd.isAgg9
  z9 := Tryd.sizeOf9
  v9 := Tryd.zeroValue9
  t20 := Tryd.underlying20
  a20 := Tryd.isAgg20
  z20 := Tryd.sizeOf20
  v20 := Tryd.zeroValue20
  t31 := Tryd.underlying22
  a31 := Tryd.isAgg22
  z31 := Tryd.sizeOf22
  v31 := Tryd.zeroValue22
  t37 := Tryd.underlying45
  a37 := Tryd.isAgg45
  z37 := Tryd.sizeOf45
  v37 := Tryd.zeroValue45
  t70 := Tryd.underlying101
  a70 := Tryd.isAgg101
  z70 := Tryd.sizeOf101
  v70 := Tryd.zeroValue101
  t72 := Tryd.underlying103
  a72 := Tryd.isAgg103
  z72 := Tryd.sizeOf103
  v72 := Tryd.zeroValue103
  t75 := Tryd.underlying105
  a75 := Tryd.isAgg105
  z75 := Tryd.sizeOf105
  v75 := Tryd.zeroValue105
  t76 := Tryd.underlying106
  a76 := Tryd.isAgg106
  z76 := Tryd.sizeOf106
  v76 := Tryd.zeroValue106
  t127 := Tryd.underlying132
  a127 := Tryd.isAgg132
  z127 := Tryd.sizeOf132
  v127 := Tryd.zeroValue132
  t164 := Tryd.underlying148
  a164 := Tryd.isAgg148
  z164 := Tryd.sizeOf148
  v164 := Tryd.zeroValue148 }
theorem extra156 : Builder.Extra Tryd.prog lays156_ren := {
  sizeBuilder := by kernel_rfl
  liesBuilder := by kernel_rfl
  t5 := Tryd.underlying5
  a5 := Tryd.isAgg5
  z5 := Tryd.sizeOf5
  v5 := Tryd.zeroValue5
  infoByte := by kernel_rfl
  cellsByte := by kernel_rfl
  sizeByte := by kernel_rfl
  neB5 := by decide }
end Go.Proofs.YthpfgdhmpeadeaaDoor.sj

namespace Go.Proofs.YthpfgdhmpeadeaaDoor.ej
open Go.RowKit Go.PlainAid Go.Shelf
open Go.Proofs.YthpfgdhmpeadeaaDoor.ca Go.Proofs.YthpfgdhmpeadeaaDoor.cb Go.Proofs.YthpfgdhmpeadeaaDoor.cp Go.Proofs.YthpfgdhmpeadeaaDoor.ga Go.Proofs.YthpfgdhmpeadeaaDoor.kp Go.Proofs.YthpfgdhmpeadeaaDoor.na Go.Proofs.YthpfgdhmpeadeaaDoor.nb Go.Proofs.YthpfgdhmpeadeaaDoor.nc Go.Proofs.YthpfgdhmpeadeaaDoor.nh Go.Proofs.YthpfgdhmpeadeaaDoor.ea Go.Proofs.YthpfgdhmpeadeaaDoor.eb Go.Proofs.YthpfgdhmpeadeaaDoor.ec Go.Proofs.YthpfgdhmpeadeaaDoor.ed Go.Proofs.YthpfgdhmpeadeaaDoor.ee Go.Proofs.YthpfgdhmpeadeaaDoor.ef Go.Proofs.YthpfgdhmpeadeaaDoor.eg Go.Proofs.YthpfgdhmpeadeaaDoor.ka Go.Proofs.YthpfgdhmpeadeaaDoor.bn Go.Proofs.YthpfgdhmpeadeaaDoor.mi
set_option linter.unusedVariables false

-- the width that counts
def widI (w : Int) : Int := if 1 ≤ w ∧ w ≤ 32 then w else 32
theorem widI_in (w : Int) : 1 ≤ widI w ∧ widI w ≤ 32 := by unfold widI; split <;> omega
theorem widthOfC (x : Int) (w : World) : Calls Tryd.prog 29 #[.int .i64 x] w fun e w' => e = .returned (.int .i64 (widI x)) ∧ w' = w := by
  have CW : Hid (∀ w, Calls _ _ _ (w : World) _) := fun w => isWidthC x w
  by_cases h : 1 ≤ x ∧ x ≤ 32
  · have HI : Hid (widI x = x) := if_pos h
    rw [HI.out]
    rw [decide_eq_true h] at CW
    clear h
    go_enter Tryd.func29, Tryd.ntmps29
    go_wp2_with (go_at_call 57; refine (CW.out _).mono ?_; rintro _ wz ⟨rfl, hz⟩; rw [hz]; clear hz)
    go_ret
    exact ⟨rfl, rfl⟩
  · have HI : Hid (widI x = 32) := if_neg h
    rw [HI.out]
    rw [decide_eq_false h] at CW
    clear h
    go_enter Tryd.func29, Tryd.ntmps29
    go_wp2_with (go_at_call 57; refine (CW.out _).mono ?_; rintro _ wz ⟨rfl, hz⟩; rw [hz]; clear hz)
    go_ret
    exact ⟨rfl, rfl⟩
-- has each text so many bytes?
def allW (wd : Int) (xs : List ByteArray) : Bool := xs.all (fun x => decide ((x.size : Int) = wd))
theorem allW_no {wd : Int} {xs : List ByteArray} {k : Nat} (hk : k < xs.length) (h : ((xs.getD k ByteArray.empty).size : Int) ≠ wd) : allW wd xs = false := by
  unfold allW
  rw [List.all_eq_false]
  refine ⟨xs.getD k ByteArray.empty, ?_, by rw [decide_eq_false h]; exact Bool.false_ne_true⟩
  rw [List.getD_eq_getElem?_getD, List.getElem?_eq_getElem hk]
  exact List.getElem_mem _
theorem allW_yes {wd : Int} {xs : List ByteArray} (h : ∀ j, j < xs.length → ((xs.getD j ByteArray.empty).size : Int) = wd) : allW wd xs = true := by
  unfold allW
  rw [List.all_eq_true]
  intro x hx
  obtain ⟨j, hj, rfl⟩ := List.getElem_of_mem hx
  have := h j hj
  rw [List.getD_eq_getElem?_getD, List.getElem?_eq_getElem hj] at this
  simpa using this
set_option maxHeartbeats 1600000 in
theorem areHashesC (wd : Int) (v : Value) (xs : List ByteArray) (w : World) (hR : ReadsT w v xs) (hz : xs.length ≤ 140737488355328) :
    Calls Tryd.prog 30 #[.int .i64 wd, v] w fun e w' => e = .returned (.bool (allW wd xs)) ∧ w' = w := by
  obtain ⟨a, cap, rfl, hcap, hcl⟩ := hR
  have HCL : Hid (xs.length = 0 ∨ ∃ b off, a = some ⟨b, off, none⟩ ∧ ∀ i, i < xs.length → w.cell? ⟨b, off + i, none⟩ = some (.string (xs.getD i ByteArray.empty))) := hcl
  have HNO : Hid (∀ k, k < xs.length → ((xs.getD k ByteArray.empty).size : Int) ≠ wd → allW wd xs = false) := fun k hk h => allW_no hk h
  have HYES : Hid ((∀ j, j < xs.length → ((xs.getD j ByteArray.empty).size : Int) = wd) → allW wd xs = true) := fun h => allW_yes h
  obtain ⟨R, HR⟩ : ∃ R, Hid (allW wd xs = R) := ⟨_, rfl⟩
  obtain ⟨n, HN⟩ : ∃ n, Hid (xs.length = n) := ⟨_, rfl⟩
  rw [HR.out] at HNO HYES ⊢
  rw [HN.out] at HCL HNO HYES hz hcap ⊢
  clear hcl
  go_enter Tryd.func30, Tryd.ntmps30
  go_wp2
  go_loopw [9] (fun i wr => ∃ k : Nat, k ≤ n ∧ i = .int .i64 k ∧ Hid (∀ j, j < k → ((xs.getD j ByteArray.empty).size : Int) = wd) ∧ wr = w) (fun i _ => (n - intOf i).toNat)
  case atStart => exact ⟨0, by omega, rfl, fun j h => by omega, rfl⟩
  case round =>
    obtain ⟨k, hk, rfl, HS, hwr⟩ := hrel
    rw [hwr]
    clear hwr
    by_cases hlt : k < n
    · have hlt' : (k : Int) < n := by omega
      obtain ⟨b, off, rfl, hc⟩ : ∃ b off, a = some ⟨b, off, none⟩ ∧ ∀ i, i < n → w.cell? ⟨b, off + i, none⟩ = some (.string (xs.getD i ByteArray.empty)) := by
        rcases HCL.out with h | h
        · omega
        · exact h
      have c1 := hc k hlt
      have HN1 : Hid (_ → _) := HNO.out k hlt
      obtain ⟨X, HX⟩ : ∃ X, Hid (xs.getD k ByteArray.empty = X) := ⟨_, rfl⟩
      rw [HX.out] at c1 HN1
      clear hc
      by_cases he : (X.size : Int) = wd
      · have he' : ((X.size : Int) != wd) = false := by simp [he]
        have HS2 : Hid (∀ j, j < k + 1 → ((xs.getD j ByteArray.empty).size : Int) = wd) := fun j hj => by
          rcases Nat.lt_or_ge j k with h | h
          · exact HS.out j h
          · obtain rfl : j = k := by omega
            rw [HX.out]; exact he
        clear he
        go_wp2
        go_roundw
        case rel => exact ⟨k + 1, by omega, by go_num, HS2.out, by first | rfl | trivial⟩
        case measure => simp [intOf]; omega
      · have he' : ((X.size : Int) != wd) = true := by rw [bne_iff_ne]; exact he
        have HE : Hid (R = false) := HN1.out he
        clear he
        go_wp2
        go_ret
        exact ⟨by rw [HE.out]; rfl, rfl⟩
    · have hlt' : ¬ (k : Int) < n := by omega
      obtain rfl : k = n := by omega
      have HE : Hid (R = true) := HYES.out HS.out
      go_wp2
      go_ret
      exact ⟨by rw [HE.out]; rfl, rfl⟩
theorem headC (m : ByteArray) (wd : Int) (w : World) (hm : m.size ≤ 10) (h0 : 0 ≤ wd) (h1 : wd ≤ 255) : Calls Tryd.prog 31 #[.string m, .int .i64 wd] w fun e w' => e = .returned (.string (m ++ str [wd])) ∧ Below w.heap.size w w' := by
  have hcv := conv_one w wd
  have hst : (str [wd]).size = 1 := str_size [wd]
  have hu : IntKind.u8.wrap wd = wd := by
    have : wd % 256 = wd := by omega
    first | exact this | (simp [IntKind.wrap]; omega) | (unfold IntKind.wrap; simp; omega)
  have BW : Hid (Below w.heap.size w (w.alloc (.cells #[.int .u8 wd] 5))) := (Below.refl _ _).alloc (Nat.le_refl _) _
  go_enter Tryd.func31, Tryd.ntmps31
  go_wp2
  go_ret
  exact ⟨rfl, BW.out⟩
theorem inter_nil : ∀ l : List (List UInt8), List.intercalate [] l = l.flatten
  | [] => rfl
  | [x] => by simp [List.intercalate]
  | x :: y :: l => by
    have ih := inter_nil (y :: l)
    simp only [List.intercalate, List.intersperse, List.flatten_cons, List.nil_append] at ih ⊢
    rw [ih]
theorem join_cat (xs : List ByteArray) : Lib.join (xs.map (·.data.toList)) (ByteArray.mk #[]).data.toList = cat xs := by
  unfold Lib.join cat
  rw [show (ByteArray.mk #[]).data.toList = ([] : List UInt8) from rfl, inter_nil, List.flatMap_def]
theorem sideC (v : Value) (xs : List ByteArray) (w : World) (hR : ReadsT w v xs) (hn : xs.length ≤ 140737488355328) (hl : (cat xs).length ≤ 140737488355328) :
    Calls Tryd.prog 33 #[v] w fun e w' => e = .returned (.string ⟨(cat xs).toArray⟩) ∧ Below w.heap.size w w' := by
  obtain ⟨a, cap, rfl, hcap, hcl⟩ := hR
  have JC : Hid (Calls Tryd.prog 59 #[.slice a xs.length cap, .string ⟨#[]⟩] w fun e w' => e = .returned (.string ⟨(cat xs).toArray⟩) ∧ Below w.heap.size w w') := by
    by_cases h0 : xs.length = 0
    · have hx : xs = [] := List.length_eq_zero_iff.1 h0
      subst hx
      refine (Any.strings_Join_none Go.Proofs.YthpfgdhmpeadeaaDoor.sj.lays156 Go.Proofs.YthpfgdhmpeadeaaDoor.sj.extra156 a cap ⟨#[]⟩ w).mono ?_
      rintro e w' ⟨rfl, hz⟩
      rw [hz]
      exact ⟨rfl, Below.refl _ _⟩
    · obtain ⟨b, off, rfl, hc⟩ := hcl.resolve_left h0
      have hlt : b < w.heap.size := World.block_lt_of_cell? _ _ (hc 0 (by omega))
      have h1 := Any.strings_Join Go.Proofs.YthpfgdhmpeadeaaDoor.sj.lays156 Go.Proofs.YthpfgdhmpeadeaaDoor.sj.extra156 b off cap xs ⟨#[]⟩ w (fun j x hx => by
        obtain ⟨hj, he⟩ := List.getElem?_eq_some_iff.1 hx
        have := hc j hj
        rw [List.getD_eq_getElem?_getD, hx] at this
        exact this) hlt hn hcap (by rw [join_cat]; exact hl)
      rw [join_cat] at h1
      exact h1
  clear hcl
  go_enter Tryd.func33, Tryd.ntmps33
  go_wp2_with (go_at_call 59; refine JC.out.mono ?_; rintro _ w1 ⟨rfl, k1⟩; have B1 : Hid (Below w.heap.size w w1) := k1; clear k1)
  go_ret
  exact ⟨rfl, B1.out⟩
end Go.Proofs.YthpfgdhmpeadeaaDoor.ej

namespace Go.Proofs.YthpfgdhmpeadeaaDoor.ek
open Go.RowKit Go.PlainAid Go.Shelf
open Go.Proofs.YthpfgdhmpeadeaaDoor.ca Go.Proofs.YthpfgdhmpeadeaaDoor.cb Go.Proofs.YthpfgdhmpeadeaaDoor.cp Go.Proofs.YthpfgdhmpeadeaaDoor.ga Go.Proofs.YthpfgdhmpeadeaaDoor.kp Go.Proofs.YthpfgdhmpeadeaaDoor.na Go.Proofs.YthpfgdhmpeadeaaDoor.nb Go.Proofs.YthpfgdhmpeadeaaDoor.nc Go.Proofs.YthpfgdhmpeadeaaDoor.nh Go.Proofs.YthpfgdhmpeadeaaDoor.ea Go.Proofs.YthpfgdhmpeadeaaDoor.eb Go.Proofs.YthpfgdhmpeadeaaDoor.ec Go.Proofs.YthpfgdhmpeadeaaDoor.ed Go.Proofs.YthpfgdhmpeadeaaDoor.ee Go.Proofs.YthpfgdhmpeadeaaDoor.ef Go.Proofs.YthpfgdhmpeadeaaDoor.eg Go.Proofs.YthpfgdhmpeadeaaDoor.eh Go.Proofs.YthpfgdhmpeadeaaDoor.ej Go.Proofs.YthpfgdhmpeadeaaDoor.eq Go.Proofs.YthpfgdhmpeadeaaDoor.er Go.Proofs.YthpfgdhmpeadeaaDoor.eo Go.Proofs.YthpfgdhmpeadeaaDoor.ka Go.Proofs.YthpfgdhmpeadeaaDoor.bn Go.Proofs.YthpfgdhmpeadeaaDoor.mi
set_option linter.unusedVariables false

-- what Hashes answers
def hashE (w : Int) (xs : List ByteArray) : Int := if 256 < xs.length then 83 else if allW (widI w) xs then 0 else 72
def hashT (w : Int) (xs : List ByteArray) : ByteArray := (((⟨#[72]⟩ : ByteArray) ++ str [widI w]) ++ putB xs.length) ++ ⟨(cat xs).toArray⟩
def hashV (w : Int) (xs : List ByteArray) : Value := .tuple #[.string (if hashE w xs = 0 then hashT w xs else ByteArray.empty), .int .i64 (hashE w xs)]
theorem cat_len (wd : Int) (xs : List ByteArray) (h : allW wd xs = true) (hw : wd ≤ 32) (hn : xs.length ≤ 1000000) : (cat xs).length ≤ 32000000 := by
  have key : ∀ l : List ByteArray, allW wd l = true → (cat l).length ≤ 32 * l.length := by
    intro l
    induction l with
    | nil => intro _; simp [cat]
    | cons x l ih =>
      intro h
      unfold allW at h ih
      rw [List.all_cons, Bool.and_eq_true] at h
      have h1 : (x.size : Int) = wd := by simpa using h.1
      have h2 := ih h.2
      have e : cat (x :: l) = x.data.toList ++ cat l := by simp [cat]
      rw [e, List.length_append, size_data, List.length_cons]
      omega
  have := key xs h
  omega
set_option maxHeartbeats 1600000 in
theorem hashesWC (wd : Int) (v : Value) (xs : List ByteArray) (w : World) (hR : ReadsT w v xs) (hn : xs.length ≤ 140737488355328) :
    Calls Tryd.prog 26 #[.int .i64 wd, v] w fun e w' => e = .returned (hashV wd xs) ∧ Below w.heap.size w w' := by
  have HRD : Hid (ReadsT w v xs) := hR
  have CW : Hid (∀ w, Calls _ _ _ (w : World) _) := fun w => widthOfC wd w
  have hwi := widI_in wd
  obtain ⟨a, cap, rfl, hcap, hcl⟩ := hR
  clear hcl
  by_cases hm : 256 < xs.length
  · have HV : Hid (hashV wd xs = .tuple #[.string ByteArray.empty, .int .i64 83]) := by
      have e : hashE wd xs = 83 := if_pos hm
      show _ = _
      unfold hashV
      rw [e]; rfl
    rw [HV.out]
    have hm' : (256 : Int) < xs.length := by omega
    go_enter Tryd.func26, Tryd.ntmps26
    go_wp2_with (go_at_call 29; refine (CW.out _).mono ?_; rintro _ wz ⟨rfl, hz⟩; rw [hz]; clear hz)
    go_ret2
    exact ⟨rfl, Below.refl _ _⟩
  have AH : Hid (Calls _ _ _ _ _) := areHashesC (widI wd) _ xs w HRD.out hn
  have hm' : ¬ (256 : Int) < xs.length := by omega
  by_cases hal : allW (widI wd) xs = true
  · have HV : Hid (hashV wd xs = .tuple #[.string (hashT wd xs), .int .i64 0]) := by
      have e : hashE wd xs = 0 := by unfold hashE; rw [if_neg hm, if_pos hal]
      show _ = _
      unfold hashV
      rw [e]; rfl
    rw [HV.out]
    have hcl := cat_len (widI wd) xs hal hwi.2 (by omega)
    rw [hal] at AH
    have HT : Hid (hashT wd xs = (((⟨#[72]⟩ : ByteArray) ++ str [widI wd]) ++ putB xs.length) ++ ⟨(cat xs).toArray⟩) := rfl
    rw [HT.out]
    have SC : Hid (∀ W, ReadsT W (.slice a xs.length cap) xs → Calls _ _ _ (W : World) _) := fun W h => sideC _ xs W h (by omega) (by omega)
    have N1 : Hid (∀ W : World, Calls _ _ _ _ _) := fun W => numberC1 (xs.length : Int) W (by omega) (by omega)
    have hps := (putB_size (xs.length : Int) (by omega) (by omega)).2
    have hca : (⟨(cat xs).toArray⟩ : ByteArray).size ≤ 32000000 := by show (cat xs).toArray.size ≤ _; rw [List.size_toArray]; exact hcl
    obtain ⟨C, HC⟩ : ∃ C : ByteArray, Hid ((⟨(cat xs).toArray⟩ : ByteArray) = C) := ⟨_, rfl⟩
    obtain ⟨Y, HY⟩ : ∃ Y, Hid (putB (xs.length : Int) = Y) := ⟨_, rfl⟩
    rw [HC.out] at SC hca ⊢
    rw [HY.out] at N1 hps ⊢
    obtain ⟨wi, HWI⟩ : ∃ x, Hid (widI wd = x) := ⟨_, rfl⟩
    rw [HWI.out] at CW AH hwi ⊢
    have HC1 : Hid (∀ W, Calls _ _ _ (W : World) _) := fun W => headC ⟨#[72]⟩ wi W (by decide) (by omega) (by omega)
    have hsh : ((⟨#[72]⟩ : ByteArray) ++ str [wi]).size = 2 := by rw [ByteArray.size_append, str_size]; rfl
    obtain ⟨Hd, HHd⟩ : ∃ C : ByteArray, Hid ((⟨#[72]⟩ : ByteArray) ++ str [wi] = C) := ⟨_, rfl⟩
    rw [HHd.out] at HC1 hsh ⊢
    obtain ⟨n, HN⟩ : ∃ n, Hid (xs.length = n) := ⟨_, rfl⟩
    rw [HN.out] at SC N1 AH HRD hm' hm hcap hn ⊢
    clear hal hcl
    go_enter Tryd.func26, Tryd.ntmps26
    go_wp2_with (first
      | (go_at_call 29; refine (CW.out _).mono ?_; rintro _ wz ⟨rfl, hz⟩; rw [hz]; clear hz)
      | (go_at_call 30; refine AH.out.mono ?_; rintro _ wz ⟨rfl, hz⟩; rw [hz]; clear hz)
      | (go_at_call 31; refine (HC1.out _).mono ?_; rintro _ w1 ⟨rfl, k1⟩; have B1 : Hid (Below w.heap.size w w1) := k1; clear k1)
      | (go_at_call 32; refine (N1.out _).mono ?_; rintro _ w2 ⟨rfl, k2⟩; have B2 : Hid (Below w.heap.size w w2) := below2 B1.out k2 (Nat.le_refl _); clear k2)
      | (go_at_call 33; refine (SC.out _ (HRD.out.later B2.out)).mono ?_; rintro _ w3 ⟨rfl, k3⟩; have B3 : Hid (Below w.heap.size w w3) := below2 B2.out k3 (Nat.le_refl _); clear k3))
    go_ret2
    exact ⟨rfl, B3.out⟩
  · have hal' : allW (widI wd) xs = false := by simpa using hal
    have HV : Hid (hashV wd xs = .tuple #[.string ByteArray.empty, .int .i64 72]) := by
      have e : hashE wd xs = 72 := by unfold hashE; rw [if_neg hm, if_neg hal]
      show _ = _
      unfold hashV
      rw [e]; rfl
    rw [HV.out]
    rw [hal'] at AH
    clear hal hal'
    go_enter Tryd.func26, Tryd.ntmps26
    go_wp2_with (first
      | (go_at_call 29; refine (CW.out _).mono ?_; rintro _ wz ⟨rfl, hz⟩; rw [hz]; clear hz)
      | (go_at_call 30; refine AH.out.mono ?_; rintro _ wz ⟨rfl, hz⟩; rw [hz]; clear hz))
    go_ret2
    exact ⟨rfl, Below.refl _ _⟩

-- a tile's hashes, read
def hW (b : ByteArray) : Int × Nat × Int := widthS b (markS b 72 0 0).1 (markS b 72 0 0).2
def hN (b : ByteArray) : Int × Nat × Int := mostS b 256 83 (hW b).2.1 (hW b).2.2
def hS (b : ByteArray) : List ByteArray × Nat × Int := hashesS b (hW b).1.toNat (hN b).1.toNat (hN b).2.1 (hN b).2.2
def hE (b : ByteArray) : Int := endS b (hS b).2.1 (hS b).2.2
def hL (b : ByteArray) : List ByteArray := if hE b = 0 then (hS b).1 else []
def hWd (b : ByteArray) : Int := if hE b = 0 then (hW b).1 else 0
theorem hW_ok (b : ByteArray) : Ok b (hW b).2.1 (hW b).2.2 := width_ok b _ _ (mark_ok b 72 0 0 (ok0 b))
theorem hW_in (b : ByteArray) : 0 ≤ (hW b).1 ∧ (hW b).1 ≤ 255 := byte_in b _ _
theorem hN_ok (b : ByteArray) : Ok b (hN b).2.1 (hN b).2.2 ∧ 0 ≤ (hN b).1 ∧ (hN b).1 ≤ 256 := by
  obtain ⟨h1, h2, h3⟩ := most_ok b 256 83 _ _ (hW_ok b) (by decide)
  exact ⟨h1, h2, by show (mostS b 256 83 (hW b).2.1 (hW b).2.2).1 ≤ 256; omega⟩
theorem hS_ok (b : ByteArray) : Ok b (hS b).2.1 (hS b).2.2 ∧ (hS b).1.length ≤ 256 := by
  have h := hashes_ok b (hW b).1.toNat (hN b).1.toNat _ _ (hN_ok b).1
  exact ⟨h.1, by have := h.2; have := (hN_ok b).2; show (hashesS b _ _ _ _).1.length ≤ 256; omega⟩
abbrev RH (g : Nat) (b : ByteArray) (p : Nat) (e wd : Int) (hv : Value) (w : World) : Prop := Rd 100 g b p e [.int .i64 wd, hv] w
set_option maxHeartbeats 1600000 in
theorem hreadC (g : Nat) (b : ByteArray) (B : Nat) (w : World) (h : RH g b 0 0 0 (.slice none 0 0) w) (hb : b.size ≤ 140737488355328) (hB : B ≤ g) :
    Calls Tryd.prog 54 #[.pointer (some ⟨g, 0, none⟩)] w fun x w' => x = .returned (.tuple #[]) ∧ (∃ ha hl hc, RH g b (hS b).2.1 (hS b).2.2 (hW b).1 (.slice ha hl hc) w' ∧ w'.ownsRow B 9 1 (.slice ha hl hc) (hS b).1.length ((hS b).1.map Value.string)) ∧ Below B w w' := by
  have hg := h.lt
  have CM : Hid (Calls _ _ _ _ _) := markC 100 g b 0 0 72 ⟨#[72]⟩ _ w h hb (ok0 b) rfl
  have CW : Hid (∀ rest w, _ → Calls _ _ _ (w : World) _) := fun rest w h => widthC 100 g b (markS b 72 0 0).1 (markS b 72 0 0).2 rest w h hb (mark_ok b 72 0 0 (ok0 b))
  have CN : Hid (∀ rest w, _ → Calls _ _ _ (w : World) _) := fun rest w h => atMostC 100 g b (hW b).2.1 (hW b).2.2 256 83 rest w h hb (hW_ok b) (by decide) (by decide)
  have hwd := hW_in b
  have hnn := hN_ok b
  have CH : Hid (∀ rest w, _ → Calls _ _ _ (w : World) _) := fun rest w h => hashesC 100 g b (hN b).2.1 (hN b).2.2 rest (hW b).1.toNat (hN b).1.toNat w h hb hnn.1 (by omega) (by omega)
  have HPH : Hid (hS b = hashesS b (hW b).1.toNat (hN b).1.toNat (hN b).2.1 (hN b).2.2) := rfl
  rw [← HPH.out] at CH
  have HPW : Hid (hW b = widthS b (markS b 72 0 0).1 (markS b 72 0 0).2) := rfl
  rw [← HPW.out] at CW
  have HPN : Hid (hN b = mostS b 256 83 (hW b).2.1 (hW b).2.2) := rfl
  rw [← HPN.out] at CN
  have KB : Hid (∀ w1 w2 : World, w.heap.size ≤ w1.heap.size → Kp (fun k => k = g) w1 w2 → Below B w1 w2) := fun w1 w2 hs k => k.below (fun j hj => by omega) (by omega)
  obtain ⟨p0, e0, HM⟩ : ∃ p0 e0, Hid (markS b 72 0 0 = (p0, e0)) := ⟨_, _, rfl⟩
  rw [HM.out] at CM CW
  clear HPH HPW HPN HM
  obtain ⟨wd, p1, e1, H1⟩ : ∃ x y z, Hid (hW b = (x, y, z)) := ⟨_, _, _, rfl⟩
  rw [H1.out] at CW CN CH hwd ⊢
  obtain ⟨nn, p2, e2, H2⟩ : ∃ x y z, Hid (hN b = (x, y, z)) := ⟨_, _, _, rfl⟩
  rw [H2.out] at CN CH hnn
  obtain ⟨hs, p4, e4, H5⟩ : ∃ x y z, Hid (hS b = (x, y, z)) := ⟨_, _, _, rfl⟩
  rw [H5.out] at CH ⊢
  have hwd1 : 0 ≤ wd ∧ wd ≤ 255 := hwd
  have hnn1 : 0 ≤ nn ∧ nn ≤ 256 := hnn.2
  obtain ⟨wn, hwn⟩ : ∃ wn : Nat, wd = wn := ⟨wd.toNat, by omega⟩
  subst hwn
  obtain ⟨cn, hcn⟩ : ∃ cn : Nat, nn = cn := ⟨nn.toNat, by omega⟩
  subst hcn
  clear hwd hnn h H1 H2 H5
  simp only [Int.toNat_natCast] at CH
  go_enter Tryd.func54, Tryd.ntmps54
  go_upto_region 2 with (first
    | (go_at_call 62; refine CM.out.mono ?_; rintro _ w1 ⟨rfl, r1, k1⟩; have R1 : Hid (RH g b p0 e0 0 (.slice none 0 0) w1) := r1; have K1 : Hid (Kp (fun k => k = g) w w1) := k1; clear r1 k1)
    | (go_at_call 63; refine (CW.out _ _ R1.out).mono ?_; rintro _ w2 ⟨rfl, r2, k2⟩; have R2 : Hid (RH g b p1 e1 0 (.slice none 0 0) w2) := r2; have K2 : Hid (Kp (fun k => k = g) w w2) := K1.out.trans k2; have d3 : w2.cell? ⟨g, 3, none⟩ = some (.int .i64 0) := cell_of_row _ _ 3 _ _ _ r2; have f3 := frozen_of_row _ _ 3 _ _ r2; clear r2 k2))
  have R3 : Hid (RH g b p1 e1 wn (.slice none 0 0) (w2.setCell ⟨g, 3, none⟩ (.int .i64 wn))) := heap_setCell_same _ _ 3 _ _ _ R2.out
  have K3 : Hid (Kp (fun k => k = g) w (w2.setCell ⟨g, 3, none⟩ (.int .i64 wn))) := K2.out.trans (kset _ _ _ _)
  obtain ⟨w3, HW⟩ : ∃ w3, w3 = w2.setCell ⟨g, 3, none⟩ (.int .i64 wn) := ⟨_, rfl⟩
  rw [← HW] at R3 K3 ⊢
  clear HW d3 f3
  have R6d : Hid (RH g b p1 e1 wn (.slice none 0 0) w3.drew) := R3.out
  have K6d : Hid (Kp (fun k => k = g) w w3.drew) := K3.out.trans (Kp.of_below (below_dr (Below.refl _ _)))
  have SX : Hid (∀ w' (p : Nat) (e : Int) (hv : Value), RH g b p e wn hv w' → w'.cell? ⟨g, 3, none⟩ = some (.int .i64 wn)) := fun w' p e hv r => cell_of_row _ _ 3 _ _ _ r
  go_region_held3 (fun w' => w'.cell? ⟨g, 3, none⟩ = some (.int .i64 wn)) (first | exact SX.out _ _ _ _ R6d.out | exact SX.out _ _ _ _ R7.out | exact SX.out _ _ _ _ R8.out | exact SX.out _ _ _ _ R9.out) (first
    | (go_at_call 71; refine (CN.out _ _ R6d.out).mono ?_; rintro _ w7 ⟨rfl, r7, k7⟩; have R7 : Hid (RH g b p2 e2 wn (.slice none 0 0) w7) := r7; have K7 : Hid (Kp (fun k => k = g) w w7) := K6d.out.trans k7; clear r7 k7)
    | (go_at_call 65; refine (CH.out _ _ R7.out).mono ?_; rintro _ w8 ⟨⟨hv, rfl, o8⟩, r8, k8⟩; obtain ⟨ha, hc, hhv⟩ := own_formS o8; subst hhv; have R8 : Hid (RH g b p4 e4 wn (.slice none 0 0) w8) := r8; have K8 : Hid (Kp (fun k => k = g) w w8) := K7.out.trans k8; have H8 : Hid (w8.ownsRow w7.heap.size 9 1 (.slice ha hs.length hc) hs.length (hs.map Value.string)) := o8; have d4 : w8.cell? ⟨g, 4, none⟩ = some (.slice none 0 0) := cell_of_row _ _ 4 _ _ _ r8; have f4 := frozen_of_row _ _ 4 _ _ r8; have hs7 := K7.out.size; have R9 : Hid (RH g b p4 e4 wn (.slice ha hs.length hc) (w8.setCell ⟨g, 4, none⟩ (.slice ha hs.length hc))) := heap_setCell_same _ _ 4 _ _ _ r8; have K9 : Hid (Kp (fun k => k = g) w (w8.setCell ⟨g, 4, none⟩ (.slice ha hs.length hc))) := K8.out.trans (kset _ _ _ _); clear r8 k8 o8))
  go_wp2
  go_end0
  exact ⟨rfl, ⟨ha, _, hc, R9.out, own_base (own_kp H8.out (kset _ _ _ _) (fun j hj => by omega)) (by omega)⟩, KB.out _ _ (Nat.le_refl _) K9.out⟩
-- what a reader of hashes answers
def ReadH (w : World) (l : List ByteArray) (wd x : Int) (e : Ending) (w' : World) : Prop :=
  (∃ ha hl hc, e = .returned (.tuple #[.slice ha hl hc, .int .i64 wd, .int .i64 x]) ∧ w'.ownsRow w.heap.size 9 1 (.slice ha hl hc) l.length (l.map Value.string)) ∧ Below w.heap.size w w'
set_option maxHeartbeats 1600000 in
theorem unHashesC (b : ByteArray) (w : World) (hb : b.size ≤ 140737488355328) : Calls Tryd.prog 27 #[.string b] w (ReadH w (hL b) (hWd b) (hE b)) := by
  have LR : Hid (∀ W, RH w.heap.size b 0 0 0 (.slice none 0 0) W → Calls _ _ _ (W : World) _) := fun W h => hreadC w.heap.size b w.heap.size W h hb (Nat.le_refl _)
  have EC : Hid (∀ rest W, _ → Calls _ _ _ (W : World) _) := fun rest W h => endC 100 w.heap.size b (hS b).2.1 (hS b).2.2 rest W h hb (hS_ok b).1
  have HE : Hid (endS b (hS b).2.1 (hS b).2.2 = hE b) := rfl
  have HL : Hid (hL b = if hE b = 0 then (hS b).1 else []) := rfl
  have HWD : Hid (hWd b = if hE b = 0 then (hW b).1 else 0) := rfl
  rw [HL.out, HWD.out]
  rw [HE.out] at EC
  obtain ⟨z, HZ⟩ : ∃ z, Hid (hE b = z) := ⟨_, rfl⟩
  obtain ⟨xs, q, z0, HX⟩ : ∃ xs q z0, Hid (hS b = (xs, q, z0)) := ⟨_, _, _, rfl⟩
  obtain ⟨wd, HW1⟩ : ∃ z, Hid ((hW b).1 = z) := ⟨_, rfl⟩
  rw [HZ.out] at EC ⊢
  rw [HX.out] at LR EC ⊢
  rw [HW1.out] at LR ⊢
  have R0 : Hid (RH w.heap.size b 0 0 0 (.slice none 0 0) (w.alloc (.cells #[.string b, .int .i64 0, .int .i64 0, .int .i64 0, .slice none 0 0] 100))) := heap_alloc_new w _
  have B0 : Hid (Below w.heap.size w (w.alloc (.cells #[.string b, .int .i64 0, .int .i64 0, .int .i64 0, .slice none 0 0] 100))) := (Below.refl _ _).alloc (Nat.le_refl _) _
  have KB : Hid (∀ w1 w2 : World, w.heap.size ≤ w1.heap.size → Kp (fun k => k = w.heap.size) w1 w2 → Below w.heap.size w1 w2) := fun w1 w2 hs k => k.below (fun j hj => by omega) hs
  obtain ⟨W, HW⟩ : ∃ W, W = w.alloc (.cells #[.string b, .int .i64 0, .int .i64 0, .int .i64 0, .slice none 0 0] 100) := ⟨_, rfl⟩
  rw [← HW] at R0 B0
  by_cases hz : z = 0
  · subst hz
    rw [if_pos rfl, if_pos rfl]
    go_enter Tryd.func27, Tryd.ntmps27
    go_upto_region 2 with fail
    rw [← HW]
    clear HW
    go_upto_region 6 with (first | (go_at_call 54; refine (LR.out _ R0.out).mono ?_; rintro _ w1 ⟨rfl, ⟨ha, hl, hc, r1, o1⟩, k1⟩; have R1 : Hid (RH w.heap.size b q z0 wd (.slice ha hl hc) w1) := r1; have O1 : Hid (w1.ownsRow w.heap.size 9 1 (.slice ha hl hc) xs.length (xs.map Value.string)) := o1; have K1 : Hid (Below w.heap.size w w1) := B0.out.trans k1; clear r1 o1 k1) | (go_at_call 40; refine (EC.out _ _ R1.out).mono ?_; rintro _ w2 ⟨rfl, r2, k2⟩; have d3 : w2.cell? ⟨w.heap.size, 3, none⟩ = some (.int .i64 wd) := cell_of_row _ _ 3 _ _ _ r2; have d4 : w2.cell? ⟨w.heap.size, 4, none⟩ = some (.slice ha hl hc) := cell_of_row _ _ 4 _ _ _ r2; have O2 : Hid (w2.ownsRow w.heap.size 9 1 (.slice ha hl hc) xs.length (xs.map Value.string)) := own_tag O1.out R1.out (by decide) k2; have K2 : Hid (Below w.heap.size w w2) := K1.out.trans (KB.out _ _ K1.out.size k2); clear r2 k2))
    go_quiet (fail)
    go_wp2
    go_ret3
    exact ⟨⟨ha, hl, hc, rfl, own_kp O2.out (A := fun _ => False) (Kp.dN _ _) (fun _ e => e.elim)⟩, below_dN K2.out _⟩
  · have hz' : (z != 0) = true := by rw [bne_iff_ne]; exact hz
    rw [if_neg hz, if_neg hz]
    clear hz
    go_enter Tryd.func27, Tryd.ntmps27
    go_upto_region 2 with fail
    rw [← HW]
    clear HW
    go_wp2_with (first | (go_at_call 54; refine (LR.out _ R0.out).mono ?_; rintro _ w1 ⟨rfl, ⟨ha, hl, hc, r1, o1⟩, k1⟩; have R1 : Hid (RH w.heap.size b q z0 wd (.slice ha hl hc) w1) := r1; have K1 : Hid (Below w.heap.size w w1) := B0.out.trans k1; clear r1 o1 k1) | (go_at_call 40; refine (EC.out _ _ R1.out).mono ?_; rintro _ w2 ⟨rfl, r2, k2⟩; have K2 : Hid (Below w.heap.size w w2) := K1.out.trans (KB.out _ _ K1.out.size k2); clear r2 k2))
    go_ret3
    exact ⟨⟨none, 0, 0, rfl, World.ownsRow_nil _ _ _ _⟩, K2.out⟩
end Go.Proofs.YthpfgdhmpeadeaaDoor.ek

namespace Go.Proofs.YthpfgdhmpeadeaaDoor.ff
open Go.RowKit Go.PlainAid Go.Shelf
open Go.Proofs.YthpfgdhmpeadeaaDoor.ca Go.Proofs.YthpfgdhmpeadeaaDoor.cb Go.Proofs.YthpfgdhmpeadeaaDoor.cp Go.Proofs.YthpfgdhmpeadeaaDoor.ga Go.Proofs.YthpfgdhmpeadeaaDoor.kp Go.Proofs.YthpfgdhmpeadeaaDoor.na Go.Proofs.YthpfgdhmpeadeaaDoor.nb Go.Proofs.YthpfgdhmpeadeaaDoor.nc Go.Proofs.YthpfgdhmpeadeaaDoor.nh Go.Proofs.YthpfgdhmpeadeaaDoor.nj Go.Proofs.YthpfgdhmpeadeaaDoor.ea Go.Proofs.YthpfgdhmpeadeaaDoor.eb Go.Proofs.YthpfgdhmpeadeaaDoor.ec Go.Proofs.YthpfgdhmpeadeaaDoor.ed Go.Proofs.YthpfgdhmpeadeaaDoor.ee Go.Proofs.YthpfgdhmpeadeaaDoor.ef Go.Proofs.YthpfgdhmpeadeaaDoor.eg Go.Proofs.YthpfgdhmpeadeaaDoor.eh Go.Proofs.YthpfgdhmpeadeaaDoor.ej Go.Proofs.YthpfgdhmpeadeaaDoor.ek Go.Proofs.YthpfgdhmpeadeaaDoor.eo Go.Proofs.YthpfgdhmpeadeaaDoor.er Go.Proofs.YthpfgdhmpeadeaaDoor.fa Go.Proofs.YthpfgdhmpeadeaaDoor.fb Go.Proofs.YthpfgdhmpeadeaaDoor.fc Go.Proofs.YthpfgdhmpeadeaaDoor.fe Go.Proofs.YthpfgdhmpeadeaaDoor.ka Go.Proofs.YthpfgdhmpeadeaaDoor.bn Go.Proofs.YthpfgdhmpeadeaaDoor.mi
set_option linter.unusedVariables false

theorem rWidth (x : Int) (w : World) : Calls Tryd.prog 34 #[.int .i64 x] w fun e w' => e = .returned (.int .i64 (widI x)) ∧ w' = w := by
  by_cases h1 : x < 1
  · have HI : Hid (widI x = 32) := if_neg (by omega)
    rw [HI.out]
    go_enter Tryd.func34, Tryd.ntmps34
    go_wp2
    go_ret
    exact ⟨rfl, rfl⟩
  · by_cases h2 : 32 < x
    · have HI : Hid (widI x = 32) := if_neg (by omega)
      rw [HI.out]
      go_enter Tryd.func34, Tryd.ntmps34
      go_wp2
      go_ret
      exact ⟨rfl, rfl⟩
    · have HI : Hid (widI x = x) := if_pos (by omega)
      rw [HI.out]
      go_enter Tryd.func34, Tryd.ntmps34
      go_wp2
      go_ret
      exact ⟨rfl, rfl⟩
set_option maxHeartbeats 1600000 in
theorem rSized (wd : Int) (v : Value) (xs : List ByteArray) (w : World) (hR : ReadsT w v xs) (hz : xs.length ≤ 140737488355328) :
    Calls Tryd.prog 36 #[.int .i64 wd, v] w fun e w' => e = .returned (.bool (allW wd xs)) ∧ w' = w := by
  obtain ⟨a, cap, rfl, hcap, hcl⟩ := hR
  have HCL : Hid (xs.length = 0 ∨ ∃ b off, a = some ⟨b, off, none⟩ ∧ ∀ i, i < xs.length → w.cell? ⟨b, off + i, none⟩ = some (.string (xs.getD i ByteArray.empty))) := hcl
  have HNO : Hid (∀ k, k < xs.length → ((xs.getD k ByteArray.empty).size : Int) ≠ wd → allW wd xs = false) := fun k hk h => allW_no hk h
  have HYES : Hid ((∀ j, j < xs.length → ((xs.getD j ByteArray.empty).size : Int) = wd) → allW wd xs = true) := fun h => allW_yes h
  obtain ⟨R, HR⟩ : ∃ R, Hid (allW wd xs = R) := ⟨_, rfl⟩
  obtain ⟨n, HN⟩ : ∃ n, Hid (xs.length = n) := ⟨_, rfl⟩
  rw [HR.out] at HNO HYES ⊢
  rw [HN.out] at HCL HNO HYES hz hcap ⊢
  clear hcl
  go_enter Tryd.func36, Tryd.ntmps36
  go_wp2
  go_loopw [5] (fun i wr => ∃ k : Nat, k ≤ n ∧ i = .int .i64 k ∧ Hid (∀ j, j < k → ((xs.getD j ByteArray.empty).size : Int) = wd) ∧ wr = w) (fun i _ => (n - intOf i).toNat)
  case atStart => exact ⟨0, by omega, rfl, fun j h => by omega, rfl⟩
  case round =>
    obtain ⟨k, hk, rfl, HS, hwr⟩ := hrel
    rw [hwr]
    clear hwr
    by_cases hlt : k < n
    · have hlt' : (k : Int) < n := by omega
      obtain ⟨b, off, rfl, hc⟩ : ∃ b off, a = some ⟨b, off, none⟩ ∧ ∀ i, i < n → w.cell? ⟨b, off + i, none⟩ = some (.string (xs.getD i ByteArray.empty)) := by
        rcases HCL.out with h | h
        · omega
        · exact h
      have c1 := hc k hlt
      have HN1 : Hid (_ → _) := HNO.out k hlt
      obtain ⟨X, HX⟩ : ∃ X, Hid (xs.getD k ByteArray.empty = X) := ⟨_, rfl⟩
      rw [HX.out] at c1 HN1
      clear hc
      by_cases he : (X.size : Int) = wd
      · have he' : ((X.size : Int) != wd) = false := by simp [he]
        have HS2 : Hid (∀ j, j < k + 1 → ((xs.getD j ByteArray.empty).size : Int) = wd) := fun j hj => by
          rcases Nat.lt_or_ge j k with h | h
          · exact HS.out j h
          · obtain rfl : j = k := by omega
            rw [HX.out]; exact he
        clear he
        go_wp2
        go_roundw
        case rel => exact ⟨k + 1, by omega, by go_num, HS2.out, by first | rfl | trivial⟩
        case measure => simp [intOf]; omega
      · have he' : ((X.size : Int) != wd) = true := by rw [bne_iff_ne]; exact he
        have HE : Hid (R = false) := HN1.out he
        clear he
        go_wp2
        go_ret
        exact ⟨by rw [HE.out]; rfl, rfl⟩
    · have hlt' : ¬ (k : Int) < n := by omega
      obtain rfl : k = n := by omega
      have HE : Hid (R = true) := HYES.out HS.out
      go_wp2
      go_ret
      exact ⟨by rw [HE.out]; rfl, rfl⟩
theorem cat_next (l : List ByteArray) (k : Nat) (h : k < l.length) : cat (l.take (k + 1)) = cat (l.take k) ++ (l.getD k ByteArray.empty).data.toList := by
  have e : l.take (k + 1) = l.take k ++ [l.getD k ByteArray.empty] := by
    rw [List.take_add_one, List.getElem?_eq_getElem h, List.getD_eq_getElem?_getD, List.getElem?_eq_getElem h]
    rfl
  unfold cat
  rw [e, List.flatMap_append, List.flatMap_cons, List.flatMap_nil, List.append_nil]
theorem cat_take (l : List ByteArray) (k : Nat) : (cat (l.take k)).length ≤ (cat l).length := by
  conv => rhs; rw [← List.take_append_drop k l]
  unfold cat
  rw [List.flatMap_append, List.length_append]
  omega
theorem conv_nil (W : World) (v : Value) (B : Nat) (ho : OB W B v []) : (convert 45 9 v).run Tryd.prog W = .ok (.string ⟨#[]⟩) W := by
  rcases ho.2 with ⟨rfl, _⟩ | ⟨g, cap, cur, rfl, hg, hh, _⟩
  · rw [run_convert_bytes_string _ 45 9 5 _ _ _ Tryd.underlying45 Tryd.underlying5 Tryd.underlying9]
    first | rfl | kernel_rfl | (simp [Conv.bytesToString])
  · rw [run_convert_bytes_string _ 45 9 5 _ _ _ Tryd.underlying45 Tryd.underlying5 Tryd.underlying9]
    have h := run_loadCells_list (P := Tryd.prog) (w := W) ⟨g, 0, none⟩ [] (fun j u hj => by simp at hj)
    exact run_bytesToString W ⟨g, 0, none⟩ 0 cap [] h
theorem conv_any (W : World) (B : Nat) (v : Value) (l : List UInt8) (ho : OB W B v l) : (convert 45 9 v).run Tryd.prog W = .ok (.string ⟨l.toArray⟩) W := by
  by_cases h0 : l.length = 0
  · have e0 : l = [] := List.length_eq_zero_iff.1 h0
    subst e0
    exact conv_nil W v B ho
  · exact conv_own W B v l _ rfl (by omega) ho
set_option maxHeartbeats 1600000 in
theorem rJoined (v : Value) (xs : List ByteArray) (w : World) (hR : ReadsT w v xs) (hn : xs.length ≤ 140737488355328) (hl : (cat xs).length ≤ 140737488000000) :
    Calls Tryd.prog 38 #[v] w fun e w' => e = .returned (.string ⟨(cat xs).toArray⟩) ∧ Below w.heap.size w w' := by
  obtain ⟨a, cap, rfl, hcap, hcl⟩ := hR
  have HCL : Hid (xs.length = 0 ∨ ∃ b off, a = some ⟨b, off, none⟩ ∧ ∀ i, i < xs.length → w.cell? ⟨b, off + i, none⟩ = some (.string (xs.getD i ByteArray.empty))) := hcl
  have HJ : Hid (∀ k, k < xs.length → cat (xs.take (k + 1)) = cat (xs.take k) ++ (xs.getD k ByteArray.empty).data.toList) := fun k hk => cat_next xs k hk
  have HLN : Hid (∀ k, (cat (xs.take k)).length ≤ 140737488000000) := fun k => Nat.le_trans (cat_take xs k) hl
  have HT : Hid (cat (xs.take xs.length) = cat xs) := by show _ = _; rw [List.take_length]
  obtain ⟨n, HN⟩ : ∃ n, Hid (xs.length = n) := ⟨_, rfl⟩
  rw [HN.out] at HCL HJ HT hn hcap ⊢
  rw [← HT.out]
  clear hcl hl
  go_enter Tryd.func38, Tryd.ntmps38
  go_wp2
  go_loopw [3, 4] (fun v i wr => ∃ (k : Nat), k ≤ n ∧ i = .int .i64 k ∧ Hid (OB wr w.heap.size v (cat (xs.take k)) ∧ Below w.heap.size w wr)) (fun _ i _ => (n - intOf i).toNat)
  case atStart => exact ⟨0, by omega, rfl, World.ownsRow_nil _ _ _ _, Below.refl _ _⟩
  case round =>
    obtain ⟨k, hk, rfl, HL⟩ := hrel
    have hbs := HL.out.2.size
    by_cases hlt : k < n
    · have hlt' : (k : Int) < n := by omega
      obtain ⟨b, off, rfl, hc⟩ : ∃ b off, a = some ⟨b, off, none⟩ ∧ ∀ i, i < n → w.cell? ⟨b, off + i, none⟩ = some (.string (xs.getD i ByteArray.empty)) := by
        rcases HCL.out with h | h
        · omega
        · exact h
      have c1 : wr.cell? ⟨b, off + k, none⟩ = some (.string (xs.getD k ByteArray.empty)) := (HL.out.2.cell (p := ⟨b, off + k, none⟩) (World.block_lt_of_cell? _ _ (hc k hlt))).trans (hc k hlt)
      have HJ2 : Hid (_ = _) := HJ.out k hlt
      have hl1 := HLN.out (k + 1)
      rw [HJ2.out, List.length_append, size_data] at hl1
      clear hc
      obtain ⟨X, HXX⟩ : ∃ X, Hid (xs.getD k ByteArray.empty = X) := ⟨_, rfl⟩
      rw [HXX.out] at c1 HJ2 hl1
      have O0 : Hid (OB wr w.heap.size _ (cat (xs.take k))) := HL.out.1
      have B0 : Hid (Below w.heap.size w wr) := HL.out.2
      clear HL
      obtain ⟨K, HK⟩ : ∃ K, Hid (cat (xs.take k) = K) := ⟨_, rfl⟩
      rw [HK.out] at O0 HJ2 hl1
      obtain ⟨va, vc, hv⟩ := own_formS O0.out
      subst hv
      go_wp2_with (at_builtin; refine wpList_append_str rfl _ _ rfl w.heap.size (.slice va K.length vc) K.length (Lib.byteCells K) rfl O0.out X rfl (by omega) B0.out.size ?_; intro v3 w3 ho3 hg3; have O3 : Hid (OB w3 w.heap.size v3 (cat (xs.take (k + 1)))) := (by rw [HJ2.out]; exact OB.str ho3); have B3 : Hid (Below w.heap.size w w3) := B0.out.trans (Below.grown (Below.refl _ _) hg3 B0.out.size (fun j hj => (O0.out.lt _ hj).1)); clear ho3 hg3)
      go_roundw
      case rel => exact ⟨k + 1, by omega, by go_num, O3.out, B3.out⟩
      case measure => simp [intOf]; omega
    · have hlt' : ¬ (k : Int) < n := by omega
      obtain rfl : k = n := by omega
      have hcv := conv_any wr w.heap.size _ (cat (xs.take k)) HL.out.1
      have HB : Hid (Below w.heap.size w wr) := HL.out.2
      clear HL
      go_wp2
      go_ret
      exact ⟨rfl, HB.out⟩
theorem conv_at (W : World) (b : Nat) (c : Int) (hc : W.cell? ⟨b, 0, none⟩ = some (.int .u8 c)) :
    (convert 45 9 (.slice (some ⟨b, 0, none⟩) 1 1)).run Tryd.prog W = .ok (.string (str [c])) W := by
  rw [run_convert_bytes_string _ 45 9 5 _ _ _ Tryd.underlying45 Tryd.underlying5 Tryd.underlying9]
  refine run_bytesToString _ _ _ _ [c] ?_
  have h := run_loadCells_list (P := Tryd.prog) (w := W) ⟨b, 0, none⟩ ([c].map (Value.int .u8)) ?_
  · simpa using h
  · intro j v hj
    cases j with
    | zero => simp at hj; subst hj; simpa [Addr.add] using hc
    | succ j => simp at hj
theorem cell_one (w w2 : World) (c : Int) (k : Below (w.alloc (.cells #[.int .u8 c] 5)).heap.size (w.alloc (.cells #[.int .u8 c] 5)) w2) : w2.cell? ⟨w.heap.size, 0, none⟩ = some (.int .u8 c) := by
  have h : (w.alloc (.cells #[.int .u8 c] 5)).cell? ⟨w.heap.size, 0, none⟩ = some (.int .u8 c) := by
    rw [World.cell?_alloc_at _ _ _ _ rfl]; rfl
  exact (k.cell (World.block_lt_of_cell? _ _ h)).trans h
theorem cell_kept (w2 w3 : World) (b : Nat) (c : Int) (k : Below w2.heap.size w2 w3) (h : w2.cell? ⟨b, 0, none⟩ = some (.int .u8 c)) : w3.cell? ⟨b, 0, none⟩ = some (.int .u8 c) :=
  (k.cell (World.block_lt_of_cell? _ _ h)).trans h
end Go.Proofs.YthpfgdhmpeadeaaDoor.ff
