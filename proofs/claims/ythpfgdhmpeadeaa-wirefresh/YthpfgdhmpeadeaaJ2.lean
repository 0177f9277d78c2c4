import Derived.Shelf.Strings.OnBuilder
import Derived.Test.YthpfgdhmpeadeaaProg
import Derived.Test.YthpfgdhmpeadeaaG4
import Derived.Test.YthpfgdhmpeadeaaJ0
import Derived.Test.YthpfgdhmpeadeaaG6
import Derived.Test.YthpfgdhmpeadeaaJ1
import Derived.Deep.RegionWith
namespace Go.Proofs.Ythpfgdhmpeadeaa.sj
open Go.Shelf
set_option linter.unusedVariables false
def lays156_ren : Go.Shelf.Ren := ⟨fun | 156 => 56 | 165 => 79 | 166 => 38 | 169 => 39 | 240 => 66 | 241 => 97 | 276 => 91 | 277 => 110 | n => n, fun | 31 => 23 | 9 => 9 | 3 => 3 | 4 => 4 | 0 => 0 | 20 => 20 | 72 => 70 | 76 => 73 | 70 => 68 | 37 => 61 | 75 => 72 | 127 => 104 | 164 => 126 | 5 => 5 | 80 => 75 | n => n, fun | n => n⟩
theorem lays156 : Go.Proofs.Lays.n156 Try.prog lays156_ren := {
  mixed := by kernel_rfl
  f156 := Try.func56.trans (congrArg some (by kernel_rfl))
  f165 := Try.func79.trans (congrArg some (by kernel_rfl))
  f166 := Try.func38.trans (congrArg some (by kernel_rfl))
  f169 := Try.func39.trans (congrArg some (by kernel_rfl))
  f240 := Try.func66.trans (congrArg some (by kernel_rfl))
  f241 := Try.func97.trans (congrArg some (by kernel_rfl))
  f276 := Try.func91.trans (congrArg some (by kernel_rfl))
  f277 := Try.func110.trans (congrArg some (by kernel_rfl))
  t0 := Try.underlying0
  a0 := Try.isAgg0
  z0 := Try.sizeOf0
  v0 := Try.zeroValue0
  t3 := Try.underlying3
  a3 := Try.isAgg3
  z3 := Try.sizeOf3
  v3 := Try.zeroValue3
  t4 := Try.underlying4
  a4 := Try.isAgg4
  z4 := Try.sizeOf4
  v4 := Try.zeroValue4
  t9 := Try.underlying9
  a9 := Try.isAgg9
  z9 := Try.sizeOf9
  v9 := Try.zeroValue9
  t20 := Try.underlying20
  a20 := Try.isAgg20
  z20 := Try.sizeOf20
  v20 := Try.zeroValue20
  t31 := Try.underlying23
  a31 := Try.isAgg23
  z31 := Try.sizeOf23
  v31 := Try.zeroValue23
  t37 := Try.underlying61
  a37 := Try.isAgg61
  z37 := Try.sizeOf61
  v37 := Try.zeroValue61
  t70 := Try.underlying68
  a70 := Try.isAgg68
  z70 := Try.sizeOf68
  v70 := Try.zeroValue68
  t72 := Try.underlying70
  a72 := Try.isAgg70
  z72 := Try.sizeOf70
  v72 := Try.zeroValue70
  t75 := Try.underlying72
  a75 := Try.isAgg72
  z75 := Try.sizeOf72
  v75 := Try.zeroValue72
  t76 := Try.underlying73
  a76 := Try.isAgg73
  z76 := Try.sizeOf73
  v76 := Try.zeroValue73
  t127 := Try.underlying104
  a127 := Try.isAgg104
  z127 := Try.sizeOf104
  v127 := Try.zeroValue104
  t164 := Try.underlying126
  a164 := Try.isAgg126
  z164 := Try.sizeOf126
  v164 := Try.zeroValue126 }
theorem extra156 : Builder.Extra Try.prog lays156_ren := {
  sizeBuilder := by kernel_rfl
  liesBuilder := by kernel_rfl
  t5 := Try.underlying5
  a5 := Try.isAgg5
  z5 := Try.sizeOf5
  v5 := Try.zeroValue5
  infoByte := by kernel_rfl
  cellsByte := by kernel_rfl
  sizeByte := by kernel_rfl
  neB5 := by decide }
end Go.Proofs.Ythpfgdhmpeadeaa.sj

namespace Go.Proofs.Ythpfgdhmpeadeaa.ej
open Go.RowKit Go.PlainAid Go.Shelf
open Go.Proofs.Ythpfgdhmpeadeaa.ca Go.Proofs.Ythpfgdhmpeadeaa.cb Go.Proofs.Ythpfgdhmpeadeaa.cp Go.Proofs.Ythpfgdhmpeadeaa.ga Go.Proofs.Ythpfgdhmpeadeaa.kp Go.Proofs.Ythpfgdhmpeadeaa.na Go.Proofs.Ythpfgdhmpeadeaa.nb Go.Proofs.Ythpfgdhmpeadeaa.nc Go.Proofs.Ythpfgdhmpeadeaa.nh Go.Proofs.Ythpfgdhmpeadeaa.ea Go.Proofs.Ythpfgdhmpeadeaa.eb Go.Proofs.Ythpfgdhmpeadeaa.ec Go.Proofs.Ythpfgdhmpeadeaa.ed Go.Proofs.Ythpfgdhmpeadeaa.ee Go.Proofs.Ythpfgdhmpeadeaa.ef Go.Proofs.Ythpfgdhmpeadeaa.eg Go.Proofs.Ythpfgdhmpeadeaa.ka Go.Proofs.Ythpfgdhmpeadeaa.bn Go.Proofs.Ythpfgdhmpeadeaa.mi
set_option linter.unusedVariables false

-- the width that counts
def widI (w : Int) : Int := if 1 ≤ w ∧ w ≤ 32 then w else 32
theorem widI_in (w : Int) : 1 ≤ widI w ∧ widI w ≤ 32 := by unfold widI; split <;> omega
-- has each text so many bytes?
def allW (wd : Int) (xs : List ByteArray) : Bool := xs.all (fun x => decide ((x.size : Int) = wd))
theorem allW_no {wd : Int} {xs : List ByteArray} {k : Nat} (hk : k < xs.length) (h : ((xs.getD k ByteArray.empty).size : Int) ≠ wd) : allW wd xs = false := by
  unfold allW
  rw [List.all_eq_false]
  refine ⟨xs.getD k ByteArray.empty, ?_, by rw [decide_eq_false h]; exact Bool.false_ne_true⟩
  rw [List.getD_eq_getElem?_getD, List.getElem?_eq_getElem hk]
  exact List.getElem_mem _
theorem allW_yes {wd : Int} {xs : List ByteArray} (h : ∀ j, j < xs.length → ((xs.getD j ByteArray.empty).size : Int) = wd) : allW wd xs = true := by
  unfold allW
  rw [List.all_eq_true]
  intro x hx
  obtain ⟨j, hj, rfl⟩ := List.getElem_of_mem hx
  have := h j hj
  rw [List.getD_eq_getElem?_getD, List.getElem?_eq_getElem hj] at this
  simpa using this
set_option maxHeartbeats 1600000 in
theorem areHashesC (wd : Int) (v : Value) (xs : List ByteArray) (w : World) (hR : ReadsT w v xs) (hz : xs.length ≤ 140737488355328) :
    Calls Try.prog 53 #[.int .i64 wd, v] w fun e w' => e = .returned (.bool (allW wd xs)) ∧ w' = w := by
  obtain ⟨a, cap, rfl, hcap, hcl⟩ := hR
  have HCL : Hid (xs.length = 0 ∨ ∃ b off, a = some ⟨b, off, none⟩ ∧ ∀ i, i < xs.length → w.cell? ⟨b, off + i, none⟩ = some (.string (xs.getD i ByteArray.empty))) := hcl
  have HNO : Hid (∀ k, k < xs.length → ((xs.getD k ByteArray.empty).size : Int) ≠ wd → allW wd xs = false) := fun k hk h => allW_no hk h
  have HYES : Hid ((∀ j, j < xs.length → ((xs.getD j ByteArray.empty).size : Int) = wd) → allW wd xs = true) := fun h => allW_yes h
  obtain ⟨R, HR⟩ : ∃ R, Hid (allW wd xs = R) := ⟨_, rfl⟩
  obtain ⟨n, HN⟩ : ∃ n, Hid (xs.length = n) := ⟨_, rfl⟩
  rw [HR.out] at HNO HYES ⊢
  rw [HN.out] at HCL HNO HYES hz hcap ⊢
  clear hcl
  go_enter Try.func53, Try.ntmps53
  go_wp2
  go_loopw [9] (fun i wr => ∃ k : Nat, k ≤ n ∧ i = .int .i64 k ∧ Hid (∀ j, j < k → ((xs.getD j ByteArray.empty).size : Int) = wd) ∧ wr = w) (fun i _ => (n - intOf i).toNat)
  case atStart => exact ⟨0, by omega, rfl, fun j h => by omega, rfl⟩
  case round =>
    obtain ⟨k, hk, rfl, HS, hwr⟩ := hrel
    rw [hwr]
    clear hwr
    by_cases hlt : k < n
    · have hlt' : (k : Int) < n := by omega
      obtain ⟨b, off, rfl, hc⟩ : ∃ b off, a = some ⟨b, off, none⟩ ∧ ∀ i, i < n → w.cell? ⟨b, off + i, none⟩ = some (.string (xs.getD i ByteArray.empty)) := by
        rcases HCL.out with h | h
        · omega
        · exact h
      have c1 := hc k hlt
      have HN1 : Hid (_ → _) := HNO.out k hlt
      obtain ⟨X, HX⟩ : ∃ X, Hid (xs.getD k ByteArray.empty = X) := ⟨_, rfl⟩
      rw [HX.out] at c1 HN1
      clear hc
      by_cases he : (X.size : Int) = wd
      · have he' : ((X.size : Int) != wd) = false := by simp [he]
        have HS2 : Hid (∀ j, j < k + 1 → ((xs.getD j ByteArray.empty).size : Int) = wd) := fun j hj => by
          rcases Nat.lt_or_ge j k with h | h
          · exact HS.out j h
          · obtain rfl : j = k := by omega
            rw [HX.out]; exact he
        clear he
        go_wp2
        go_roundw
        case rel => exact ⟨k + 1, by omega, by go_num, HS2.out, by first | rfl | trivial⟩
        case measure => simp [intOf]; omega
      · have he' : ((X.size : Int) != wd) = true := by rw [bne_iff_ne]; exact he
        have HE : Hid (R = false) := HN1.out he
        clear he
        go_wp2
        go_ret
        exact ⟨by rw [HE.out]; rfl, rfl⟩
    · have hlt' : ¬ (k : Int) < n := by omega
      obtain rfl : k = n := by omega
      have HE : Hid (R = true) := HYES.out HS.out
      go_wp2
      go_ret
      exact ⟨by rw [HE.out]; rfl, rfl⟩
theorem headC (m : ByteArray) (wd : Int) (w : World) (hm : m.size ≤ 10) (h0 : 0 ≤ wd) (h1 : wd ≤ 255) : Calls Try.prog 25 #[.string m, .int .i64 wd] w fun e w' => e = .returned (.string (m ++ str [wd])) ∧ Below w.heap.size w w' := by
  have hcv := conv_one w wd
  have hst : (str [wd]).size = 1 := str_size [wd]
  have hu : IntKind.u8.wrap wd = wd := by
    have : wd % 256 = wd := by omega
    first | exact this | (simp [IntKind.wrap]; omega) | (unfold IntKind.wrap; simp; omega)
  have BW : Hid (Below w.heap.size w (w.alloc (.cells #[.int .u8 wd] 5))) := (Below.refl _ _).alloc (Nat.le_refl _) _
  go_enter Try.func25, Try.ntmps25
  go_wp2
  go_ret
  exact ⟨rfl, BW.out⟩
theorem inter_nil : ∀ l : List (List UInt8), List.intercalate [] l = l.flatten
  | [] => rfl
  | [x] => by simp [List.intercalate]
  | x :: y :: l => by
    have ih := inter_nil (y :: l)
    simp only [List.intercalate, List.intersperse, List.flatten_cons, List.nil_append] at ih ⊢
    rw [ih]
theorem join_cat (xs : List ByteArray) : Lib.join (xs.map (·.data.toList)) (ByteArray.mk #[]).data.toList = cat xs := by
  unfold Lib.join cat
  rw [show (ByteArray.mk #[]).data.toList = ([] : List UInt8) from rfl, inter_nil, List.flatMap_def]
theorem sideC (v : Value) (xs : List ByteArray) (w : World) (hR : ReadsT w v xs) (hn : xs.length ≤ 140737488355328) (hl : (cat xs).length ≤ 140737488355328) :
    Calls Try.prog 28 #[v] w fun e w' => e = .returned (.string ⟨(cat xs).toArray⟩) ∧ Below w.heap.size w w' := by
  obtain ⟨a, cap, rfl, hcap, hcl⟩ := hR
  have JC : Hid (Calls Try.prog 56 #[.slice a xs.length cap, .string ⟨#[]⟩] w fun e w' => e = .returned (.string ⟨(cat xs).toArray⟩) ∧ Below w.heap.size w w') := by
    by_cases h0 : xs.length = 0
    · have hx : xs = [] := List.length_eq_zero_iff.1 h0
      subst hx
      refine (Any.strings_Join_none Go.Proofs.Ythpfgdhmpeadeaa.sj.lays156 Go.Proofs.Ythpfgdhmpeadeaa.sj.extra156 a cap ⟨#[]⟩ w).mono ?_
      rintro e w' ⟨rfl, hz⟩
      rw [hz]
      exact ⟨rfl, Below.refl _ _⟩
    · obtain ⟨b, off, rfl, hc⟩ := hcl.resolve_left h0
      have hlt : b < w.heap.size := World.block_lt_of_cell? _ _ (hc 0 (by omega))
      have h1 := Any.strings_Join Go.Proofs.Ythpfgdhmpeadeaa.sj.lays156 Go.Proofs.Ythpfgdhmpeadeaa.sj.extra156 b off cap xs ⟨#[]⟩ w (fun j x hx => by
        obtain ⟨hj, he⟩ := List.getElem?_eq_some_iff.1 hx
        have := hc j hj
        rw [List.getD_eq_getElem?_getD, hx] at this
        exact this) hlt hn hcap (by rw [join_cat]; exact hl)
      rw [join_cat] at h1
      exact h1
  clear hcl
  go_enter Try.func28, Try.ntmps28
  go_wp2_with (go_at_call 56; refine JC.out.mono ?_; rintro _ w1 ⟨rfl, k1⟩; have B1 : Hid (Below w.heap.size w w1) := k1; clear k1)
  go_ret
  exact ⟨rfl, B1.out⟩
end Go.Proofs.Ythpfgdhmpeadeaa.ej

namespace Go.Proofs.Ythpfgdhmpeadeaa.ek
open Go.RowKit Go.PlainAid Go.Shelf
open Go.Proofs.Ythpfgdhmpeadeaa.ca Go.Proofs.Ythpfgdhmpeadeaa.cb Go.Proofs.Ythpfgdhmpeadeaa.cp Go.Proofs.Ythpfgdhmpeadeaa.ga Go.Proofs.Ythpfgdhmpeadeaa.kp Go.Proofs.Ythpfgdhmpeadeaa.na Go.Proofs.Ythpfgdhmpeadeaa.nb Go.Proofs.Ythpfgdhmpeadeaa.nc Go.Proofs.Ythpfgdhmpeadeaa.nh Go.Proofs.Ythpfgdhmpeadeaa.ea Go.Proofs.Ythpfgdhmpeadeaa.eb Go.Proofs.Ythpfgdhmpeadeaa.ec Go.Proofs.Ythpfgdhmpeadeaa.ed Go.Proofs.Ythpfgdhmpeadeaa.ee Go.Proofs.Ythpfgdhmpeadeaa.ef Go.Proofs.Ythpfgdhmpeadeaa.eg Go.Proofs.Ythpfgdhmpeadeaa.eh Go.Proofs.Ythpfgdhmpeadeaa.ej Go.Proofs.Ythpfgdhmpeadeaa.eq Go.Proofs.Ythpfgdhmpeadeaa.er Go.Proofs.Ythpfgdhmpeadeaa.eo Go.Proofs.Ythpfgdhmpeadeaa.ka Go.Proofs.Ythpfgdhmpeadeaa.bn Go.Proofs.Ythpfgdhmpeadeaa.mi
set_option linter.unusedVariables false

-- what Hashes answers
def hashE (w : Int) (xs : List ByteArray) : Int := if 256 < xs.length then 83 else if allW (widI w) xs then 0 else 72
def hashT (w : Int) (xs : List ByteArray) : ByteArray := (((⟨#[72]⟩ : ByteArray) ++ str [widI w]) ++ putB xs.length) ++ ⟨(cat xs).toArray⟩
def hashV (w : Int) (xs : List ByteArray) : Value := .tuple #[.string (if hashE w xs = 0 then hashT w xs else ByteArray.empty), .int .i64 (hashE w xs)]
theorem cat_len (wd : Int) (xs : List ByteArray) (h : allW wd xs = true) (hw : wd ≤ 32) (hn : xs.length ≤ 1000000) : (cat xs).length ≤ 32000000 := by
  have key : ∀ l : List ByteArray, allW wd l = true → (cat l).length ≤ 32 * l.length := by
    intro l
    induction l with
    | nil => intro _; simp [cat]
    | cons x l ih =>
      intro h
      unfold allW at h ih
      rw [List.all_cons, Bool.and_eq_true] at h
      have h1 : (x.size : Int) = wd := by simpa using h.1
      have h2 := ih h.2
      have e : cat (x :: l) = x.data.toList ++ cat l := by simp [cat]
      rw [e, List.length_append, size_data, List.length_cons]
      omega
  have := key xs h
  omega
-- a tile's hashes, read
def hW (b : ByteArray) : Int × Nat × Int := widthS b (markS b 72 0 0).1 (markS b 72 0 0).2
def hN (b : ByteArray) : Int × Nat × Int := mostS b 256 83 (hW b).2.1 (hW b).2.2
def hS (b : ByteArray) : List ByteArray × Nat × Int := hashesS b (hW b).1.toNat (hN b).1.toNat (hN b).2.1 (hN b).2.2
def hE (b : ByteArray) : Int := endS b (hS b).2.1 (hS b).2.2
def hL (b : ByteArray) : List ByteArray := if hE b = 0 then (hS b).1 else []
def hWd (b : ByteArray) : Int := if hE b = 0 then (hW b).1 else 0
theorem hW_ok (b : ByteArray) : Ok b (hW b).2.1 (hW b).2.2 := width_ok b _ _ (mark_ok b 72 0 0 (ok0 b))
theorem hW_in (b : ByteArray) : 0 ≤ (hW b).1 ∧ (hW b).1 ≤ 255 := byte_in b _ _
theorem hN_ok (b : ByteArray) : Ok b (hN b).2.1 (hN b).2.2 ∧ 0 ≤ (hN b).1 ∧ (hN b).1 ≤ 256 := by
  obtain ⟨h1, h2, h3⟩ := most_ok b 256 83 _ _ (hW_ok b) (by decide)
  exact ⟨h1, h2, by show (mostS b 256 83 (hW b).2.1 (hW b).2.2).1 ≤ 256; omega⟩
theorem hS_ok (b : ByteArray) : Ok b (hS b).2.1 (hS b).2.2 ∧ (hS b).1.length ≤ 256 := by
  have h := hashes_ok b (hW b).1.toNat (hN b).1.toNat _ _ (hN_ok b).1
  exact ⟨h.1, by have := h.2; have := (hN_ok b).2; show (hashesS b _ _ _ _).1.length ≤ 256; omega⟩
-- what a reader of hashes answers
def ReadH (w : World) (l : List ByteArray) (wd x : Int) (e : Ending) (w' : World) : Prop :=
  (∃ ha hl hc, e = .returned (.tuple #[.slice ha hl hc, .int .i64 wd, .int .i64 x]) ∧ w'.ownsRow w.heap.size 9 1 (.slice ha hl hc) l.length (l.map Value.string)) ∧ Below w.heap.size w w'
end Go.Proofs.Ythpfgdhmpeadeaa.ek

namespace Go.Proofs.Ythpfgdhmpeadeaa.ff
open Go.RowKit Go.PlainAid Go.Shelf
open Go.Proofs.Ythpfgdhmpeadeaa.ca Go.Proofs.Ythpfgdhmpeadeaa.cb Go.Proofs.Ythpfgdhmpeadeaa.cp Go.Proofs.Ythpfgdhmpeadeaa.ga Go.Proofs.Ythpfgdhmpeadeaa.kp Go.Proofs.Ythpfgdhmpeadeaa.na Go.Proofs.Ythpfgdhmpeadeaa.nb Go.Proofs.Ythpfgdhmpeadeaa.nc Go.Proofs.Ythpfgdhmpeadeaa.nh Go.Proofs.Ythpfgdhmpeadeaa.nj Go.Proofs.Ythpfgdhmpeadeaa.ea Go.Proofs.Ythpfgdhmpeadeaa.eb Go.Proofs.Ythpfgdhmpeadeaa.ec Go.Proofs.Ythpfgdhmpeadeaa.ed Go.Proofs.Ythpfgdhmpeadeaa.ee Go.Proofs.Ythpfgdhmpeadeaa.ef Go.Proofs.Ythpfgdhmpeadeaa.eg Go.Proofs.Ythpfgdhmpeadeaa.eh Go.Proofs.Ythpfgdhmpeadeaa.ej Go.Proofs.Ythpfgdhmpeadeaa.ek Go.Proofs.Ythpfgdhmpeadeaa.eo Go.Proofs.Ythpfgdhmpeadeaa.er Go.Proofs.Ythpfgdhmpeadeaa.fa Go.Proofs.Ythpfgdhmpeadeaa.fb Go.Proofs.Ythpfgdhmpeadeaa.fc Go.Proofs.Ythpfgdhmpeadeaa.fe Go.Proofs.Ythpfgdhmpeadeaa.ka Go.Proofs.Ythpfgdhmpeadeaa.bn Go.Proofs.Ythpfgdhmpeadeaa.mi
set_option linter.unusedVariables false

set_option maxHeartbeats 1600000 in
theorem rSized (wd : Int) (v : Value) (xs : List ByteArray) (w : World) (hR : ReadsT w v xs) (hz : xs.length ≤ 140737488355328) :
    Calls Try.prog 31 #[.int .i64 wd, v] w fun e w' => e = .returned (.bool (allW wd xs)) ∧ w' = w := by
  obtain ⟨a, cap, rfl, hcap, hcl⟩ := hR
  have HCL : Hid (xs.length = 0 ∨ ∃ b off, a = some ⟨b, off, none⟩ ∧ ∀ i, i < xs.length → w.cell? ⟨b, off + i, none⟩ = some (.string (xs.getD i ByteArray.empty))) := hcl
  have HNO : Hid (∀ k, k < xs.length → ((xs.getD k ByteArray.empty).size : Int) ≠ wd → allW wd xs = false) := fun k hk h => allW_no hk h
  have HYES : Hid ((∀ j, j < xs.length → ((xs.getD j ByteArray.empty).size : Int) = wd) → allW wd xs = true) := fun h => allW_yes h
  obtain ⟨R, HR⟩ : ∃ R, Hid (allW wd xs = R) := ⟨_, rfl⟩
  obtain ⟨n, HN⟩ : ∃ n, Hid (xs.length = n) := ⟨_, rfl⟩
  rw [HR.out] at HNO HYES ⊢
  rw [HN.out] at HCL HNO HYES hz hcap ⊢
  clear hcl
  go_enter Try.func31, Try.ntmps31
  go_wp2
  go_loopw [5] (fun i wr => ∃ k : Nat, k ≤ n ∧ i = .int .i64 k ∧ Hid (∀ j, j < k → ((xs.getD j ByteArray.empty).size : Int) = wd) ∧ wr = w) (fun i _ => (n - intOf i).toNat)
  case atStart => exact ⟨0, by omega, rfl, fun j h => by omega, rfl⟩
  case round =>
    obtain ⟨k, hk, rfl, HS, hwr⟩ := hrel
    rw [hwr]
    clear hwr
    by_cases hlt : k < n
    · have hlt' : (k : Int) < n := by omega
      obtain ⟨b, off, rfl, hc⟩ : ∃ b off, a = some ⟨b, off, none⟩ ∧ ∀ i, i < n → w.cell? ⟨b, off + i, none⟩ = some (.string (xs.getD i ByteArray.empty)) := by
        rcases HCL.out with h | h
        · omega
        · exact h
      have c1 := hc k hlt
      have HN1 : Hid (_ → _) := HNO.out k hlt
      obtain ⟨X, HX⟩ : ∃ X, Hid (xs.getD k ByteArray.empty = X) := ⟨_, rfl⟩
      rw [HX.out] at c1 HN1
      clear hc
      by_cases he : (X.size : Int) = wd
      · have he' : ((X.size : Int) != wd) = false := by simp [he]
        have HS2 : Hid (∀ j, j < k + 1 → ((xs.getD j ByteArray.empty).size : Int) = wd) := fun j hj => by
          rcases Nat.lt_or_ge j k with h | h
          · exact HS.out j h
          · obtain rfl : j = k := by omega
            rw [HX.out]; exact he
        clear he
        go_wp2
        go_roundw
        case rel => exact ⟨k + 1, by omega, by go_num, HS2.out, by first | rfl | trivial⟩
        case measure => simp [intOf]; omega
      · have he' : ((X.size : Int) != wd) = true := by rw [bne_iff_ne]; exact he
        have HE : Hid (R = false) := HN1.out he
        clear he
        go_wp2
        go_ret
        exact ⟨by rw [HE.out]; rfl, rfl⟩
    · have hlt' : ¬ (k : Int) < n := by omega
      obtain rfl : k = n := by omega
      have HE : Hid (R = true) := HYES.out HS.out
      go_wp2
      go_ret
      exact ⟨by rw [HE.out]; rfl, rfl⟩
theorem cat_next (l : List ByteArray) (k : Nat) (h : k < l.length) : cat (l.take (k + 1)) = cat (l.take k) ++ (l.getD k ByteArray.empty).data.toList := by
  have e : l.take (k + 1) = l.take k ++ [l.getD k ByteArray.empty] := by
    rw [List.take_add_one, List.getElem?_eq_getElem h, List.getD_eq_getElem?_getD, List.getElem?_eq_getElem h]
    rfl
  unfold cat
  rw [e, List.flatMap_append, List.flatMap_cons, List.flatMap_nil, List.append_nil]
theorem cat_take (l : List ByteArray) (k : Nat) : (cat (l.take k)).length ≤ (cat l).length := by
  conv => rhs; rw [← List.take_append_drop k l]
  unfold cat
  rw [List.flatMap_append, List.length_append]
  omega
theorem conv_nil (W : World) (v : Value) (B : Nat) (ho : OB W B v []) : (convert 61 9 v).run Try.prog W = .ok (.string ⟨#[]⟩) W := by
  rcases ho.2 with ⟨rfl, _⟩ | ⟨g, cap, cur, rfl, hg, hh, _⟩
  · rw [run_convert_bytes_string _ 61 9 5 _ _ _ Try.underlying61 Try.underlying5 Try.underlying9]
    first | rfl | kernel_rfl | (simp [Conv.bytesToString])
  · rw [run_convert_bytes_string _ 61 9 5 _ _ _ Try.underlying61 Try.underlying5 Try.underlying9]
    have h := run_loadCells_list (P := Try.prog) (w := W) ⟨g, 0, none⟩ [] (fun j u hj => by simp at hj)
    exact run_bytesToString W ⟨g, 0, none⟩ 0 cap [] h
theorem conv_any (W : World) (B : Nat) (v : Value) (l : List UInt8) (ho : OB W B v l) : (convert 61 9 v).run Try.prog W = .ok (.string ⟨l.toArray⟩) W := by
  by_cases h0 : l.length = 0
  · have e0 : l = [] := List.length_eq_zero_iff.1 h0
    subst e0
    exact conv_nil W v B ho
  · exact conv_own W B v l _ rfl (by omega) ho
set_option maxHeartbeats 1600000 in
theorem rJoined (v : Value) (xs : List ByteArray) (w : World) (hR : ReadsT w v xs) (hn : xs.length ≤ 140737488355328) (hl : (cat xs).length ≤ 140737488000000) :
    Calls Try.prog 34 #[v] w fun e w' => e = .returned (.string ⟨(cat xs).toArray⟩) ∧ Below w.heap.size w w' := by
  obtain ⟨a, cap, rfl, hcap, hcl⟩ := hR
  have HCL : Hid (xs.length = 0 ∨ ∃ b off, a = some ⟨b, off, none⟩ ∧ ∀ i, i < xs.length → w.cell? ⟨b, off + i, none⟩ = some (.string (xs.getD i ByteArray.empty))) := hcl
  have HJ : Hid (∀ k, k < xs.length → cat (xs.take (k + 1)) = cat (xs.take k) ++ (xs.getD k ByteArray.empty).data.toList) := fun k hk => cat_next xs k hk
  have HLN : Hid (∀ k, (cat (xs.take k)).length ≤ 140737488000000) := fun k => Nat.le_trans (cat_take xs k) hl
  have HT : Hid (cat (xs.take xs.length) = cat xs) := by show _ = _; rw [List.take_length]
  obtain ⟨n, HN⟩ : ∃ n, Hid (xs.length = n) := ⟨_, rfl⟩
  rw [HN.out] at HCL HJ HT hn hcap ⊢
  rw [← HT.out]
  clear hcl hl
  go_enter Try.func34, Try.ntmps34
  go_wp2
  go_loopw [3, 4] (fun v i wr => ∃ (k : Nat), k ≤ n ∧ i = .int .i64 k ∧ Hid (OB wr w.heap.size v (cat (xs.take k)) ∧ Below w.heap.size w wr)) (fun _ i _ => (n - intOf i).toNat)
  case atStart => exact ⟨0, by omega, rfl, World.ownsRow_nil _ _ _ _, Below.refl _ _⟩
  case round =>
    obtain ⟨k, hk, rfl, HL⟩ := hrel
    have hbs := HL.out.2.size
    by_cases hlt : k < n
    · have hlt' : (k : Int) < n := by omega
      obtain ⟨b, off, rfl, hc⟩ : ∃ b off, a = some ⟨b, off, none⟩ ∧ ∀ i, i < n → w.cell? ⟨b, off + i, none⟩ = some (.string (xs.getD i ByteArray.empty)) := by
        rcases HCL.out with h | h
        · omega
        · exact h
      have c1 : wr.cell? ⟨b, off + k, none⟩ = some (.string (xs.getD k ByteArray.empty)) := (HL.out.2.cell (p := ⟨b, off + k, none⟩) (World.block_lt_of_cell? _ _ (hc k hlt))).trans (hc k hlt)
      have HJ2 : Hid (_ = _) := HJ.out k hlt
      have hl1 := HLN.out (k + 1)
      rw [HJ2.out, List.length_append, size_data] at hl1
      clear hc
      obtain ⟨X, HXX⟩ : ∃ X, Hid (xs.getD k ByteArray.empty = X) := ⟨_, rfl⟩
      rw [HXX.out] at c1 HJ2 hl1
      have O0 : Hid (OB wr w.heap.size _ (cat (xs.take k))) := HL.out.1
      have B0 : Hid (Below w.heap.size w wr) := HL.out.2
      clear HL
      obtain ⟨K, HK⟩ : ∃ K, Hid (cat (xs.take k) = K) := ⟨_, rfl⟩
      rw [HK.out] at O0 HJ2 hl1
      obtain ⟨va, vc, hv⟩ := own_formS O0.out
      subst hv
      go_wp2_with (at_builtin; refine wpList_append_str rfl _ _ rfl w.heap.size (.slice va K.length vc) K.length (Lib.byteCells K) rfl O0.out X rfl (by omega) B0.out.size ?_; intro v3 w3 ho3 hg3; have O3 : Hid (OB w3 w.heap.size v3 (cat (xs.take (k + 1)))) := (by rw [HJ2.out]; exact OB.str ho3); have B3 : Hid (Below w.heap.size w w3) := B0.out.trans (Below.grown (Below.refl _ _) hg3 B0.out.size (fun j hj => (O0.out.lt _ hj).1)); clear ho3 hg3)
      go_roundw
      case rel => exact ⟨k + 1, by omega, by go_num, O3.out, B3.out⟩
      case measure => simp [intOf]; omega
    · have hlt' : ¬ (k : Int) < n := by omega
      obtain rfl : k = n := by omega
      have hcv := conv_any wr w.heap.size _ (cat (xs.take k)) HL.out.1
      have HB : Hid (Below w.heap.size w wr) := HL.out.2
      clear HL
      go_wp2
      go_ret
      exact ⟨rfl, HB.out⟩
theorem conv_at (W : World) (b : Nat) (c : Int) (hc : W.cell? ⟨b, 0, none⟩ = some (.int .u8 c)) :
    (convert 61 9 (.slice (some ⟨b, 0, none⟩) 1 1)).run Try.prog W = .ok (.string (str [c])) W := by
  rw [run_convert_bytes_string _ 61 9 5 _ _ _ Try.underlying61 Try.underlying5 Try.underlying9]
  refine run_bytesToString _ _ _ _ [c] ?_
  have h := run_loadCells_list (P := Try.prog) (w := W) ⟨b, 0, none⟩ ([c].map (Value.int .u8)) ?_
  · simpa using h
  · intro j v hj
    cases j with
    | zero => simp at hj; subst hj; simpa [Addr.add] using hc
    | succ j => simp at hj
theorem cell_one (w w2 : World) (c : Int) (k : Below (w.alloc (.cells #[.int .u8 c] 5)).heap.size (w.alloc (.cells #[.int .u8 c] 5)) w2) : w2.cell? ⟨w.heap.size, 0, none⟩ = some (.int .u8 c) := by
  have h : (w.alloc (.cells #[.int .u8 c] 5)).cell? ⟨w.heap.size, 0, none⟩ = some (.int .u8 c) := by
    rw [World.cell?_alloc_at _ _ _ _ rfl]; rfl
  exact (k.cell (World.block_lt_of_cell? _ _ h)).trans h
theorem cell_kept (w2 w3 : World) (b : Nat) (c : Int) (k : Below w2.heap.size w2 w3) (h : w2.cell? ⟨b, 0, none⟩ = some (.int .u8 c)) : w3.cell? ⟨b, 0, none⟩ = some (.int .u8 c) :=
  (k.cell (World.block_lt_of_cell? _ _ h)).trans h
end Go.Proofs.Ythpfgdhmpeadeaa.ff
