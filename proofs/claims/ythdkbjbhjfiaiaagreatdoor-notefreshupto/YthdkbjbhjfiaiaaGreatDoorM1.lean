import Derived.Shelf.LaysM
import Derived.Shelf.LaysC
import Derived.Shelf.Strconv.Itoa3
import Derived.Shelf.Strconv.AtoiAll
import Derived.Shelf.Strconv.ErrVarAll
import Derived.Test.YthdkbjbhjfiaiaaGreatDoorProg
import Derived.Test.YthdkbjbhjfiaiaaGreatDoorJ1
import Derived.Test.YthdkbjbhjfiaiaaGreatDoorH2
import Derived.Lib.IndexAny
import Derived.Test.YthdkbjbhjfiaiaaGreatDoorTj
import Derived.Lib.AtoiAllCases
import Derived.Lib.ItoaMem
import Derived.Lib.ItoaLen
import Derived.Laws.Strings2
import Derived.Lib.AtoiErrMem
import Derived.Lib.AppendIntMem
import Derived.Test.YthdkbjbhjfiaiaaGreatDoorXB
import Derived.Test.YthdkbjbhjfiaiaaGreatDoorK3
import Derived.Deep.RegionHeldLaw
import Derived.Deep.RegionHeld3
import Derived.Deep.RegionWith
import Derived.Deep.QuietTactic
import Derived.BigQuiet
namespace Go.Proofs.YthdkbjbhjfiaiaaGreatDoor.si
open Go.Shelf
set_option linter.unusedVariables false
def laysM171_ren : Go.Shelf.Ren := ⟨fun | 171 => 91 | 243 => 120 | 246 => 138 | 283 => 153 | 284 => 154 | 285 => 155 | 286 => 156 | 129 => 163 | 317 => 162 | 318 => 164 | 319 => 165 | 320 => 166 | 337 => 167 | 338 => 168 | n => n, fun | 3 => 3 | 9 => 9 | 2 => 2 | 4 => 4 | 171 => 180 | 0 => 0 | 53 => 134 | 37 => 77 | 5 => 5 | 173 => 183 | 212 => 191 | 51 => 102 | 20 => 20 | 213 => 192 | 46 => 105 | 232 => 199 | 233 => 90 | n => n, fun | 17 => 7 | 18 => 10 | 19 => 11 | n => n⟩
theorem laysM171 : Go.Proofs.LaysM.n171 Tryz.prog laysM171_ren := {
  mixed := by kernel_rfl
  f129 := Tryz.func163.trans (congrArg some (by kernel_rfl))
  f171 := Tryz.func91.trans (congrArg some (by kernel_rfl))
  f243 := Tryz.func120.trans (congrArg some (by kernel_rfl))
  f246 := Tryz.func138.trans (congrArg some (by kernel_rfl))
  f283 := Tryz.func153.trans (congrArg some (by kernel_rfl))
  f284 := Tryz.func154.trans (congrArg some (by kernel_rfl))
  f285 := Tryz.func155.trans (congrArg some (by kernel_rfl))
  f286 := Tryz.func156.trans (congrArg some (by kernel_rfl))
  f317 := Tryz.func162.trans (congrArg some (by kernel_rfl))
  f318 := Tryz.func164.trans (congrArg some (by kernel_rfl))
  f319 := Tryz.func165.trans (congrArg some (by kernel_rfl))
  f320 := Tryz.func166.trans (congrArg some (by kernel_rfl))
  f337 := Tryz.func167.trans (congrArg some (by kernel_rfl))
  f338 := Tryz.func168.trans (congrArg some (by kernel_rfl))
  t0 := Tryz.underlying0
  a0 := Tryz.isAgg0
  z0 := Tryz.sizeOf0
  v0 := Tryz.zeroValue0
  t2 := Tryz.underlying2
  a2 := Tryz.isAgg2
  z2 := Tryz.sizeOf2
  v2 := Tryz.zeroValue2
  t3 := Tryz.underlying3
  a3 := Tryz.isAgg3
  z3 := Tryz.sizeOf3
  v3 := Tryz.zeroValue3
  t4 := Tryz.underlying4
  a4 := Tryz.isAgg4
  z4 := Tryz.sizeOf4
  v4 := Tryz.zeroValue4
  t5 := Tryz.underlying5
  a5 := Tryz.isAgg5
  z5 := Tryz.sizeOf5
  v5 := Tryz.zeroValue5
  t9 := Tryz.underlying9
  a9 := Tryz.isAgg9
  z9 := Tryz.sizeOf9
  v9 := Tryz.zeroValue9
  t20 := Tryz.underlying20
  a20 := Tryz.isAgg20
  z20 := Tryz.sizeOf20
  v20 := Tryz.zeroValue20
  t37 := Tryz.underlying77
  a37 := Tryz.isAgg77
  z37 := Tryz.sizeOf77
  v37 := Tryz.zeroValue77
  t46 := Tryz.underlying105
  a46 := Tryz.isAgg105
  z46 := Tryz.sizeOf105
  v46 := Tryz.zeroValue105
  t51 := Tryz.underlying102
  a51 := Tryz.isAgg102
  z51 := Tryz.sizeOf102
  v51 := Tryz.zeroValue102
  t53 := Tryz.underlying134
  a53 := Tryz.isAgg134
  z53 := Tryz.sizeOf134
  v53 := Tryz.zeroValue134
  t171 := Tryz.underlying180
  a171 := Tryz.isAgg180
  z171 := Tryz.sizeOf180
  v171 := Tryz.zeroValue180
  t173 := Tryz.underlying183
  a173 := Tryz.isAgg183
  z173 := Tryz.sizeOf183
  v173 := Tryz.zeroValue183
  t212 := Tryz.underlying191
  a212 := Tryz.isAgg191
  z212 := Tryz.sizeOf191
  v212 := Tryz.zeroValue191
  t213 := Tryz.underlying192
  a213 := Tryz.isAgg192
  z213 := Tryz.sizeOf192
  t232 := Tryz.underlying199
  a232 := Tryz.isAgg199
  z232 := Tryz.sizeOf199
  v232 := Tryz.zeroValue199
  t233 := Tryz.underlying90
  a233 := Tryz.isAgg90
  z233 := Tryz.sizeOf90
  v233 := Tryz.zeroValue90
  g17 := by kernel_rfl
  g18 := by kernel_rfl
  g19 := by kernel_rfl
  i0 := by kernel_rfl
  i2 := by kernel_rfl
  i3 := by kernel_rfl
  i4 := by kernel_rfl
  i5 := by kernel_rfl
  i9 := by kernel_rfl
  i20 := by kernel_rfl
  i37 := by kernel_rfl
  i46 := by kernel_rfl
  i51 := by kernel_rfl
  i53 := by kernel_rfl
  i171 := by kernel_rfl
  i173 := by kernel_rfl
  i212 := by kernel_rfl
  i232 := by kernel_rfl
  i233 := by kernel_rfl
  m17 := by kernel_rfl
  m18 := by kernel_rfl
  m19 := by kernel_rfl }
def laysC172_ren : Go.Shelf.Ren := ⟨fun | 172 => 82 | 244 => 112 | 245 => 113 | 247 => 132 | 279 => 133 | 280 => 134 | 281 => 135 | 282 => 136 | 287 => 150 | 316 => 151 | 171 => 91 | 205 => 152 | 321 => 160 | 322 => 161 | 243 => 120 | 246 => 138 | 283 => 153 | 284 => 154 | 285 => 155 | 286 => 156 | 129 => 163 | 317 => 162 | 318 => 164 | 319 => 165 | 320 => 166 | 337 => 167 | 338 => 168 | n => n, fun | 9 => 9 | 3 => 3 | 75 => 120 | 76 => 121 | 4 => 4 | 5 => 5 | 167 => 162 | 37 => 77 | 0 => 0 | 85 => 163 | 2 => 2 | 168 => 165 | 53 => 134 | 175 => 175 | 46 => 105 | 210 => 178 | 127 => 156 | 145 => 189 | 143 => 187 | 21 => 21 | 171 => 180 | 173 => 183 | 212 => 191 | 51 => 102 | 20 => 20 | 213 => 192 | 232 => 199 | 233 => 90 | 80 => 117 | n => n, fun | 15 => 5 | 16 => 6 | 17 => 7 | 18 => 10 | 19 => 11 | n => n⟩
theorem laysC172 : Go.Proofs.LaysC.n172 Tryz.prog laysC172_ren := {
  mixed := by kernel_rfl
  f129 := Tryz.func163.trans (congrArg some (by kernel_rfl))
  f171 := Tryz.func91.trans (congrArg some (by kernel_rfl))
  f172 := Tryz.func82.trans (congrArg some (by kernel_rfl))
  f205 := Tryz.func152.trans (congrArg some (by kernel_rfl))
  f243 := Tryz.func120.trans (congrArg some (by kernel_rfl))
  f244 := Tryz.func112.trans (congrArg some (by kernel_rfl))
  f245 := Tryz.func113.trans (congrArg some (by kernel_rfl))
  f246 := Tryz.func138.trans (congrArg some (by kernel_rfl))
  f247 := Tryz.func132.trans (congrArg some (by kernel_rfl))
  f279 := Tryz.func133.trans (congrArg some (by kernel_rfl))
  f280 := Tryz.func134.trans (congrArg some (by kernel_rfl))
  f281 := Tryz.func135.trans (congrArg some (by kernel_rfl))
  f282 := Tryz.func136.trans (congrArg some (by kernel_rfl))
  f283 := Tryz.func153.trans (congrArg some (by kernel_rfl))
  f284 := Tryz.func154.trans (congrArg some (by kernel_rfl))
  f285 := Tryz.func155.trans (congrArg some (by kernel_rfl))
  f286 := Tryz.func156.trans (congrArg some (by kernel_rfl))
  f287 := Tryz.func150.trans (congrArg some (by kernel_rfl))
  f316 := Tryz.func151.trans (congrArg some (by kernel_rfl))
  f317 := Tryz.func162.trans (congrArg some (by kernel_rfl))
  f318 := Tryz.func164.trans (congrArg some (by kernel_rfl))
  f319 := Tryz.func165.trans (congrArg some (by kernel_rfl))
  f320 := Tryz.func166.trans (congrArg some (by kernel_rfl))
  f321 := Tryz.func160.trans (congrArg some (by kernel_rfl))
  f322 := Tryz.func161.trans (congrArg some (by kernel_rfl))
  f337 := Tryz.func167.trans (congrArg some (by kernel_rfl))
  f338 := Tryz.func168.trans (congrArg some (by kernel_rfl))
  t0 := Tryz.underlying0
  a0 := Tryz.isAgg0
  z0 := Tryz.sizeOf0
  v0 := Tryz.zeroValue0
  t2 := Tryz.underlying2
  a2 := Tryz.isAgg2
  z2 := Tryz.sizeOf2
  v2 := Tryz.zeroValue2
  t3 := Tryz.underlying3
  a3 := Tryz.isAgg3
  z3 := Tryz.sizeOf3
  v3 := Tryz.zeroValue3
  t4 := Tryz.underlying4
  a4 := Tryz.isAgg4
  z4 := Tryz.sizeOf4
  v4 := Tryz.zeroValue4
  t5 := Tryz.underlying5
  a5 := Tryz.isAgg5
  z5 := Tryz.sizeOf5
  v5 := Tryz.zeroValue5
  t9 := Tryz.underlying9
  a9 := Tryz.isAgg9
  z9 := Tryz.sizeOf9
  v9 := Tryz.zeroValue9
  t20 := Tryz.underlying20
  a20 := Tryz.isAgg20
  z20 := Tryz.sizeOf20
  v20 := Tryz.zeroValue20
  t21 := Tryz.underlying21
  a21 := Tryz.isAgg21
  z21 := Tryz.sizeOf21
  v21 := Tryz.zeroValue21
  t37 := Tryz.underlying77
  a37 := Tryz.isAgg77
  z37 := Tryz.sizeOf77
  v37 := Tryz.zeroValue77
  t46 := Tryz.underlying105
  a46 := Tryz.isAgg105
  z46 := Tryz.sizeOf105
  v46 := Tryz.zeroValue105
  t51 := Tryz.underlying102
  a51 := Tryz.isAgg102
  z51 := Tryz.sizeOf102
  v51 := Tryz.zeroValue102
  t53 := Tryz.underlying134
  a53 := Tryz.isAgg134
  z53 := Tryz.sizeOf134
  v53 := Tryz.zeroValue134
  t75 := Tryz.underlying120
  a75 := Tryz.isAgg120
  z75 := Tryz.sizeOf120
  v75 := Tryz.zeroValue120
  t76 := Tryz.underlying121
  a76 := Tryz.isAgg121
  z76 := Tryz.sizeOf121
  v76 := Tryz.zeroValue121
  t85 := Tryz.underlying163
  a85 := Tryz.isAgg163
  z85 := Tryz.sizeOf163
  v85 := Tryz.zeroValue163
  t127 := Tryz.underlying156
  a127 := Tryz.isAgg156
  z127 := Tryz.sizeOf156
  v127 := Tryz.zeroValue156
  t143 := Tryz.underlying187
  a143 := Tryz.isAgg187
  z143 := Tryz.sizeOf187
  v143 := Tryz.zeroValue187
  t145 := Tryz.underlying189
  a145 := Tryz.isAgg189
  z145 := Tryz.sizeOf189
  v145 := Tryz.zeroValue189
  t167 := Tryz.underlying162
  a167 := Tryz.isAgg162
  z167 := Tryz.sizeOf162
  v167 := Tryz.zeroValue162
  t168 := Tryz.underlying165
  a168 := Tryz.isAgg165
  z168 := Tryz.sizeOf165
  v168 := Tryz.zeroValue165
  t171 := Tryz.underlying180
  a171 := Tryz.isAgg180
  z171 := Tryz.sizeOf180
  v171 := Tryz.zeroValue180
  t173 := Tryz.underlying183
  a173 := Tryz.isAgg183
  z173 := Tryz.sizeOf183
  v173 := Tryz.zeroValue183
  t175 := Tryz.underlying175
  a175 := Tryz.isAgg175
  z175 := Tryz.sizeOf175
  v175 := Tryz.zeroValue175
  t210 := Tryz.underlying178
  a210 := Tryz.isAgg178
  z210 := Tryz.sizeOf178
  v210 := Tryz.zeroValue178
  t212 := Tryz.underlying191
  a212 := Tryz.isAgg191
  z212 := Tryz.sizeOf191
  v212 := Tryz.zeroValue191
  t213 := Tryz.underlying192
  a213 := Tryz.isAgg192
  z213 := Tryz.sizeOf192
  t232 := Tryz.underlying199
  a232 := Tryz.isAgg199
  z232 := Tryz.sizeOf199
  v232 := Tryz.zeroValue199
  t233 := Tryz.underlying90
  a233 := Tryz.isAgg90
  z233 := Tryz.sizeOf90
  v233 := Tryz.zeroValue90
  g15 := by kernel_rfl
  g16 := by kernel_rfl
  g17 := by kernel_rfl
  g18 := by kernel_rfl
  g19 := by kernel_rfl
  t80 := Tryz.underlying117
  a80 := Tryz.isAgg117
  z80 := Tryz.sizeOf117
  v80 := Tryz.zeroValue117
  i0 := by kernel_rfl
  i2 := by kernel_rfl
  i3 := by kernel_rfl
  i4 := by kernel_rfl
  i5 := by kernel_rfl
  i9 := by kernel_rfl
  i20 := by kernel_rfl
  i21 := by kernel_rfl
  i37 := by kernel_rfl
  i46 := by kernel_rfl
  i51 := by kernel_rfl
  i53 := by kernel_rfl
  i75 := by kernel_rfl
  i76 := by kernel_rfl
  i80 := by kernel_rfl
  i85 := by kernel_rfl
  i127 := by kernel_rfl
  i143 := by kernel_rfl
  i145 := by kernel_rfl
  i167 := by kernel_rfl
  i168 := by kernel_rfl
  i171 := by kernel_rfl
  i173 := by kernel_rfl
  i175 := by kernel_rfl
  i210 := by kernel_rfl
  i212 := by kernel_rfl
  i232 := by kernel_rfl
  i233 := by kernel_rfl
  m15 := by kernel_rfl
  m16 := by kernel_rfl
  m17 := by kernel_rfl
  m18 := by kernel_rfl
  m19 := by kernel_rfl
  c0 := by kernel_rfl
  c2 := by kernel_rfl
  c3 := by kernel_rfl
  c4 := by kernel_rfl
  c5 := by kernel_rfl
  c9 := by kernel_rfl
  c20 := by kernel_rfl
  c21 := by kernel_rfl
  c37 := by kernel_rfl
  c46 := by kernel_rfl
  c51 := by kernel_rfl
  c53 := by kernel_rfl
  c75 := by kernel_rfl
  c76 := by kernel_rfl
  c80 := by kernel_rfl
  c85 := by kernel_rfl
  c127 := by kernel_rfl
  c143 := by kernel_rfl
  c145 := by kernel_rfl
  c167 := by kernel_rfl
  c168 := by kernel_rfl
  c171 := by kernel_rfl
  c173 := by kernel_rfl
  c175 := by kernel_rfl
  c210 := by kernel_rfl
  c212 := by kernel_rfl
  c213 := by kernel_rfl
  c232 := by kernel_rfl
  c233 := by kernel_rfl }
end Go.Proofs.YthdkbjbhjfiaiaaGreatDoor.si

namespace Go.Proofs.YthdkbjbhjfiaiaaGreatDoor.vd
open Go.RowKit Go.PlainAid
open Go.Proofs.YthdkbjbhjfiaiaaGreatDoor.ta Go.Proofs.YthdkbjbhjfiaiaaGreatDoor.tb Go.Proofs.YthdkbjbhjfiaiaaGreatDoor.tc Go.Proofs.YthdkbjbhjfiaiaaGreatDoor.tj Go.Proofs.YthdkbjbhjfiaiaaGreatDoor.tk Go.Proofs.YthdkbjbhjfiaiaaGreatDoor.ub Go.Proofs.YthdkbjbhjfiaiaaGreatDoor.uc Go.Proofs.YthdkbjbhjfiaiaaGreatDoor.va Go.Proofs.YthdkbjbhjfiaiaaGreatDoor.vb Go.Proofs.YthdkbjbhjfiaiaaGreatDoor.vc
set_option linter.unusedVariables false
set_option maxRecDepth 4000

theorem parts_sep (c : Int) (a b : List Int) : parts c (a ++ c :: b) = parts c a ++ parts c b := by
  induction a with
  | nil => simp [parts]
  | cons x a ih =>
    rw [List.cons_append, parts, parts, ih]
    by_cases h : x = c
    · rw [if_pos h, if_pos h]; rfl
    · rw [if_neg h, if_neg h]
      cases hp : parts c a with
      | nil => exact absurd hp (parts_ne c a)
      | cons p ps => rfl
-- with one blank between each two
def joinK (xs : List ByteArray) : Nat → List Int
  | 0 => []
  | k + 1 => (if k = 0 then [] else joinK xs k ++ [32]) ++ escL (bs (xs.getD k ByteArray.empty))
theorem esc_no32 (l : List Int) (h : In 256 l) : parts 32 (escL l) = [escL l] := parts_none 32 _ (fun x hx e => by have := escL_pr l h x hx; omega)
theorem join_parts (xs : List ByteArray) (k : Nat) : parts 32 (joinK xs (k + 1)) = (List.range (k + 1)).map fun i => escL (bs (xs.getD i ByteArray.empty)) := by
  induction k with
  | zero => rw [joinK, if_pos rfl, List.nil_append, esc_no32 _ (bs_in _)]; rfl
  | succ k ih =>
    rw [joinK, if_neg (by omega), List.append_assoc]
    rw [show [32] ++ escL (bs (xs.getD (k + 1) ByteArray.empty)) = 32 :: escL (bs (xs.getD (k + 1) ByteArray.empty)) from rfl, parts_sep, ih, esc_no32 _ (bs_in _), List.range_succ (n := k + 1), List.map_append]
    rfl
theorem join_ne (xs : List ByteArray) (k : Nat) : joinK xs (k + 1) ≠ [] := by
  rw [joinK]
  intro e
  exact escL_ne _ (List.append_eq_nil_iff.1 e).2
theorem range_bs (xs : List ByteArray) : (List.range xs.length).map (fun i => bs (xs.getD i ByteArray.empty)) = xs.map bs := by
  apply List.ext_getElem
  · simp
  · intro i h1 h2
    simp at h1
    simp [h1]
theorem allP_esc (ws : List (List Int)) (h : ∀ x ∈ ws, In 256 x) : allP (ws.map escL) = some ws := by
  induction ws with
  | nil => rfl
  | cons x ws ih => rw [List.map_cons, allP, unP_there x (h x List.mem_cons_self), ih (fun y hy => h y (List.mem_cons_of_mem _ hy))]
theorem all_bs (xs : List ByteArray) : ∀ x ∈ xs.map bs, In 256 x := by
  intro x hx
  obtain ⟨q, _, rfl⟩ := List.mem_map.1 hx
  exact bs_in q
theorem join_esc (xs : List ByteArray) (n : Nat) (hn : xs.length = n + 1) : parts 32 (joinK xs (n + 1)) = (xs.map bs).map escL := by
  rw [join_parts, ← range_bs xs, hn, List.map_map]
  rfl
theorem join_words (xs : List ByteArray) : wordsP (joinK xs xs.length) = some (xs.map bs) := by
  cases hn : xs.length with
  | zero => rw [List.length_eq_zero_iff.1 hn]; rfl
  | succ n =>
    unfold wordsP
    rw [if_neg (join_ne xs n), join_esc xs n hn, allP_esc _ (all_bs xs)]
theorem unP_nil : unP [] = none := by decide +kernel
theorem join_behind (xs : List ByteArray) : wordsP (joinK xs xs.length ++ [32]) = none := by
  unfold wordsP
  rw [if_neg (by simp), parts_sep]
  cases hn : xs.length with
  | zero => exact allP_bad [] [[]] [] [] rfl unP_nil
  | succ n =>
    rw [join_esc xs n hn]
    exact allP_bad _ [] [] _ (allP_esc _ (all_bs xs)) unP_nil
theorem join_ahead (xs : List ByteArray) : wordsP ([32] ++ joinK xs xs.length) = none := by
  unfold wordsP
  rw [if_neg (by simp)]
  have : [32] ++ joinK xs xs.length = [] ++ 32 :: joinK xs xs.length := rfl
  rw [this, parts_sep]
  exact allP_bad [] _ [] [] rfl unP_nil
-- how long
def tk (xs : List ByteArray) : Nat → Nat
  | 0 => 0
  | k + 1 => tk xs k + (xs.getD k ByteArray.empty).size
theorem tk_mono (xs : List ByteArray) {j k : Nat} (h : j ≤ k) : tk xs j ≤ tk xs k := by
  induction k with
  | zero => obtain rfl : j = 0 := by omega
            exact Nat.le_refl _
  | succ k ih =>
    rcases Nat.lt_or_ge j (k + 1) with h1 | h1
    · exact Nat.le_trans (ih (by omega)) (Nat.le_add_right _ _)
    · obtain rfl : j = k + 1 := by omega
      exact Nat.le_refl _
theorem tk_at (xs : List ByteArray) (k n : Nat) (h : k < n) : (xs.getD k ByteArray.empty).size ≤ tk xs n := by
  have h1 := tk_mono xs (show k + 1 ≤ n from h)
  have e : tk xs (k + 1) = tk xs k + (xs.getD k ByteArray.empty).size := rfl
  rw [e] at h1
  omega
theorem ub_len (l : List Int) : (escL l).length ≤ 3 * l.length + 1 := by
  unfold escL
  split
  · simp
  · have := (escR_length l).2
    omega
theorem join_length (xs : List ByteArray) (k : Nat) : (joinK xs k).length ≤ 3 * tk xs k + 2 * k := by
  induction k with
  | zero => simp [joinK]
  | succ k ih =>
    have h := ub_len (bs (xs.getD k ByteArray.empty))
    rw [bs_length] at h
    have e : tk xs (k + 1) = tk xs k + (xs.getD k ByteArray.empty).size := rfl
    rw [joinK, e, List.length_append]
    generalize (xs.getD k ByteArray.empty).size = z at *
    generalize (escL (bs (xs.getD k ByteArray.empty))).length = y at *
    split
    · rw [List.length_nil]; omega
    · rw [List.length_append, List.length_singleton]; omega
theorem joinK_in (xs : List ByteArray) (k : Nat) : In 256 (joinK xs k) := by
  induction k with
  | zero => intro x hx; simp [joinK] at hx
  | succ k ih =>
    rw [joinK]
    refine In.app ?_ (escL_in _ (bs_in _))
    split
    · intro x hx; simp at hx
    · exact ih.app (fun x hx => by rw [List.mem_singleton.1 hx]; omega)
theorem sz32 : (⟨#[32]⟩ : ByteArray).size = 1 := rfl
theorem bs_32 : bs (⟨#[32]⟩ : ByteArray) = [32] := by decide +kernel

end Go.Proofs.YthdkbjbhjfiaiaaGreatDoor.vd

namespace Go.Proofs.YthdkbjbhjfiaiaaGreatDoor.ya
open Go.RowKit Go.PlainAid
open Go.Proofs.YthdkbjbhjfiaiaaGreatDoor.ta Go.Proofs.YthdkbjbhjfiaiaaGreatDoor.tb Go.Proofs.YthdkbjbhjfiaiaaGreatDoor.tc Go.Proofs.YthdkbjbhjfiaiaaGreatDoor.tj Go.Proofs.YthdkbjbhjfiaiaaGreatDoor.va Go.Proofs.YthdkbjbhjfiaiaaGreatDoor.vb Go.Proofs.YthdkbjbhjfiaiaaGreatDoor.vc
set_option linter.unusedVariables false
set_option maxRecDepth 4000

-- a text's lines
def linesP (l : List Int) : Option (List (List Int)) := if l = [] then some [] else if l.drop (l.length - 1) = [10] then some (parts 10 (l.take (l.length - 1))) else none
def linesR (w w' : World) (o : Option (List (List Int))) (e : Ending) : Prop :=
  match o with
  | some xs => ∃ v, e = .returned (.tuple #[v, .int .i64 0]) ∧ Texts w' w.heap.size v (xs.map str)
  | none => e = .returned (.tuple #[.slice none 0 0, .int .i64 43])
theorem bs_10 : bs (⟨#[10]⟩ : ByteArray) = [10] := by decide +kernel
theorem has_lines (s : ByteArray) : (s.size ≠ 0 ∧ s.extract (s.size - 1) s.size = ⟨#[10]⟩) ↔ (bs s).drop ((bs s).length - 1) = [10] := by
  have hb := bs_extract s (s.size - 1) s.size (by omega) (Nat.le_refl _)
  rw [List.take_of_length_le (by rw [bs_length]; exact Nat.le_refl _)] at hb
  rw [bs_length, ← hb]
  constructor
  · rintro ⟨_, h⟩
    rw [h, bs_10]
  · intro h
    refine ⟨fun h0 => ?_, bs_inj (h.trans bs_10.symm)⟩
    have := congrArg List.length h
    rw [bs_length, ByteArray.size_extract] at this
    simp at this
    omega
theorem lHas' (s : ByteArray) (c : UInt8) (hs : s.size ≤ 281474976710656) (w : World) :
    Calls Tryz.prog 99 #[.string s, .string ⟨#[c]⟩] w fun e w' => e = .returned (.bool (decide (s.size ≠ 0 ∧ s.extract (s.size - 1) s.size = ⟨#[c]⟩))) ∧ w' = w := by
  have hone : (⟨#[c]⟩ : ByteArray).size = 1 := rfl
  by_cases h0 : s.size = 0
  · have hge : ¬ ((s.size : Int) ≥ 1) := by omega
    have hge2 : ¬ ((1 : Int) ≤ (s.size : Int)) := by omega
    have HD : Hid (decide (s.size ≠ 0 ∧ s.extract (s.size - 1) s.size = ⟨#[c]⟩) = false) := decide_eq_false (fun h => h.1 h0)
    rw [HD.out]
    go_enter Tryz.func99, Tryz.ntmps99
    go_wp2
    go_ret
    exact ⟨rfl, rfl⟩
  · have hge : ((s.size : Int) ≥ 1) := by omega
    have HD : Hid (decide (s.size ≠ 0 ∧ s.extract (s.size - 1) s.size = ⟨#[c]⟩) = decide (s.extract (s.size - 1) s.size = ⟨#[c]⟩)) := by show _ = _; simp [h0]
    rw [HD.out]
    have hk : ((s.size : Int) - 1).toNat = s.size - 1 := by omega
    have hk0 : (0 : Int) ≤ (s.size : Int) - 1 := by omega
    go_enter Tryz.func99, Tryz.ntmps99
    go_wp2
    go_ret
    exact ⟨congrArg (fun b => Ending.returned (.bool b)) (toList_lit _ [c]), rfl⟩
set_option maxHeartbeats 800000 in
theorem lCut (s : ByteArray) (c : UInt8) (hs : s.size ≤ 281474976710656) (b : Bool) (hb : decide (s.size ≠ 0 ∧ s.extract (s.size - 1) s.size = ⟨#[c]⟩) = b) (w : World) :
    Calls Tryz.prog 110 #[.string s, .string ⟨#[c]⟩] w fun e w' => e = .returned (.tuple #[.string (if b then s.extract 0 (s.size - 1) else s), .bool b]) ∧ w' = w := by
  have HH : Hid (Calls _ _ _ _ _) := lHas' s c hs w
  rw [hb] at HH
  have hone : (⟨#[c]⟩ : ByteArray).size = 1 := rfl
  cases b with
  | true =>
    have h0 : s.size ≠ 0 := (of_decide_eq_true hb).1
    have hk : ((s.size : Int) - 1).toNat = s.size - 1 := by omega
    have hk0 : (0 : Int) ≤ (s.size : Int) - 1 := by omega
    clear hb
    go_enter Tryz.func110, Tryz.ntmps110
    go_wp2_with fail
    refine HH.out.mono ?_
    rintro e w1 ⟨rfl, rfl⟩
    go_wp2
    go_ret2
    exact ⟨rfl, rfl⟩
  | false =>
    clear hb
    go_enter Tryz.func110, Tryz.ntmps110
    go_wp2_with fail
    refine HH.out.mono ?_
    rintro e w1 ⟨rfl, rfl⟩
    go_wp2
    go_ret2
    exact ⟨rfl, rfl⟩
theorem cutSuffix (s : ByteArray) (c : UInt8) (hs : s.size ≤ 281474976710656) (b : Bool) (hb : decide (s.size ≠ 0 ∧ s.extract (s.size - 1) s.size = ⟨#[c]⟩) = b) (w : World) :
    Calls Tryz.prog 80 #[.string s, .string ⟨#[c]⟩] w fun e w' => e = .returned (.tuple #[.string (if b then s.extract 0 (s.size - 1) else s), .bool b]) ∧ w' = w := by
  have H : Hid (Calls _ _ _ _ _) := lCut s c hs b hb w
  clear hb
  generalize (if b then s.extract 0 (s.size - 1) else s) = T at *
  go_enter Tryz.func80, Tryz.ntmps80
  go_wp2_with fail
  refine H.out.mono ?_
  rintro e w1 ⟨rfl, rfl⟩
  go_wp2
  go_ret2
  exact ⟨rfl, rfl⟩

set_option maxHeartbeats 1600000 in
theorem lines (s : ByteArray) (hs : s.size < 4294967281) (w : World) :
    Calls Tryz.prog 53 #[.string s] w fun e w' => linesR w w' (linesP (bs s)) e ∧ Below w.heap.size w w' := by
  by_cases h0 : s.size = 0
  · have hb0 : bs s = [] := List.length_eq_zero_iff.1 (by rw [bs_length]; exact h0)
    have he : s = ByteArray.empty := bs_inj (by rw [hb0]; rfl)
    have HW : Hid (linesP (bs s) = some []) := by show _ = _; unfold linesP; rw [if_pos hb0]
    rw [HW.out]
    clear hb0 HW
    subst he
    go_enter Tryz.func53, Tryz.ntmps53
    go_wp2
    go_ret2
    exact ⟨⟨_, rfl, .inl ⟨rfl, rfl⟩⟩, Below.refl _ _⟩
  · have hne2 : (s.toList == []) = false := by rw [toList_lit]; exact decide_eq_false (fun h => h0 (by rw [h]; rfl))
    have hne3 : s.toList.isEmpty = false := by cases hl : s.toList with
      | nil => rw [hl] at hne2; cases hne2
      | cons => rfl
    have hnn : bs s ≠ [] := fun h => h0 (by rw [← bs_length, h]; rfl)
    obtain ⟨R, HR⟩ : ∃ R, Hid (linesP (bs s) = R) := ⟨_, rfl⟩
    rw [HR.out]
    by_cases hh : s.size ≠ 0 ∧ s.extract (s.size - 1) s.size = ⟨#[10]⟩
    · have C : Hid (∀ w, Calls _ _ _ _ _) := fun w => cutSuffix s 10 (by omega) true (decide_eq_true hh) w
      simp only [if_true] at C
      have hz : (s.extract 0 (s.size - 1)).size < 4294967281 := by rw [ByteArray.size_extract]; omega
      have SP : Hid (∀ w, Calls _ _ _ _ _) := fun w => split1 (s.extract 0 (s.size - 1)) 10 w hz
      have HE : Hid (R = some (parts 10 (bs (s.extract 0 (s.size - 1))))) := by
        show _ = _
        rw [← HR.out]
        unfold linesP
        rw [if_neg hnn, if_pos ((has_lines s).1 hh), bs_extract s 0 (s.size - 1) (by omega) (by omega), bs_length, List.drop_zero]
      have hpc : pcs 10 (s.extract 0 (s.size - 1)) = (parts 10 (bs (s.extract 0 (s.size - 1)))).map str := rfl
      rw [hpc] at SP
      clear hh hnn hpc hz
      generalize s.extract 0 (s.size - 1) = T at *
      generalize parts 10 (bs T) = P at *
      obtain ⟨Q, HQ⟩ : ∃ Q, Hid (P.map str = Q) := ⟨_, rfl⟩
      rw [HQ.out] at SP
      go_enter Tryz.func53, Tryz.ntmps53
      go_wp2_with fail
      refine (C.out _).mono ?_
      rintro e w1 ⟨rfl, rfl⟩
      go_wp2_with fail
      refine (SP.out _).mono ?_
      rintro e w2 ⟨rfl, hw2⟩
      have HW2 : Hid (w2 = _) := hw2
      clear hw2
      go_wp2
      go_ret2
      rw [HE.out]
      refine ⟨⟨_, rfl, ?_⟩, ?_⟩
      · rw [HQ.out, HW2.out]
        exact .inr ⟨_, rfl, Nat.le_refl _, heap_alloc_new _ _⟩
      · rw [HW2.out]
        exact (Below.refl _ _).alloc (Nat.le_refl _) _
    · have C : Hid (∀ w, Calls _ _ _ _ _) := fun w => cutSuffix s 10 (by omega) false (decide_eq_false hh) w
      have HE : Hid (R = none) := by
        show _ = _
        rw [← HR.out]
        unfold linesP
        rw [if_neg hnn, if_neg (fun h => hh ((has_lines s).2 h))]
      clear hh hnn
      generalize (if false = true then s.extract 0 (s.size - 1) else s) = T at *
      go_enter Tryz.func53, Tryz.ntmps53
      go_wp2_with fail
      refine (C.out _).mono ?_
      rintro e w1 ⟨rfl, rfl⟩
      go_wp2
      go_ret2
      refine ⟨?_, Below.refl _ _⟩
      rw [HE.out]
      exact rfl
end Go.Proofs.YthdkbjbhjfiaiaaGreatDoor.ya

namespace Go.Proofs.YthdkbjbhjfiaiaaGreatDoor.yb
open Go.RowKit Go.PlainAid
open Go.Proofs.YthdkbjbhjfiaiaaGreatDoor.ta Go.Proofs.YthdkbjbhjfiaiaaGreatDoor.tb Go.Proofs.YthdkbjbhjfiaiaaGreatDoor.tc Go.Proofs.YthdkbjbhjfiaiaaGreatDoor.td Go.Proofs.YthdkbjbhjfiaiaaGreatDoor.te Go.Proofs.YthdkbjbhjfiaiaaGreatDoor.tg Go.Proofs.YthdkbjbhjfiaiaaGreatDoor.tj Go.Proofs.YthdkbjbhjfiaiaaGreatDoor.ub Go.Proofs.YthdkbjbhjfiaiaaGreatDoor.uc Go.Proofs.YthdkbjbhjfiaiaaGreatDoor.ud Go.Proofs.YthdkbjbhjfiaiaaGreatDoor.va Go.Proofs.YthdkbjbhjfiaiaaGreatDoor.vb Go.Proofs.YthdkbjbhjfiaiaaGreatDoor.vc Go.Proofs.YthdkbjbhjfiaiaaGreatDoor.ya
set_option linter.unusedVariables false
set_option maxRecDepth 4000

theorem parts_snoc (x : List Int) : parts 10 (x ++ [10]) = parts 10 x ++ [[]] := by
  induction x with
  | nil => rfl
  | cons b r ih =>
    rw [List.cons_append]
    unfold parts
    split
    · rw [ih]; rfl
    · rw [ih]
      cases h : parts 10 r with
      | nil => exact absurd h (parts_ne 10 r)
      | cons p ps => rfl
theorem parts_snoc_ne (c : Int) (hc : c ≠ 10) (x : List Int) : ∃ ps p, parts 10 (x ++ [c]) = ps ++ [p ++ [c]] := by
  induction x with
  | nil => exact ⟨[], [], by simp [parts, hc]⟩
  | cons b r ih =>
    obtain ⟨ps, p, e⟩ := ih
    rw [List.cons_append]
    unfold parts
    split
    · exact ⟨[] :: ps, p, by rw [e]; rfl⟩
    · rw [e]
      cases ps with
      | nil => exact ⟨[], b :: p, rfl⟩
      | cons q qs => exact ⟨(b :: q) :: qs, p, rfl⟩
theorem lines_parts (l : List Int) (done : List (List Int)) (r : List Int) (h : parts 10 l = done ++ [r]) : linesP l = if r = [] then some done else none := by
  rcases List.eq_nil_or_concat l with rfl | ⟨x, c, rfl⟩
  · have h' : ([] : List (List Int)) ++ [[]] = done ++ [r] := h
    obtain ⟨h1, h2⟩ := List.append_inj' h' rfl
    have : r = [] := by simpa using h2.symm
    rw [if_pos this, ← h1]
    rfl
  · rw [List.concat_eq_append] at *
    have hne : x ++ [c] ≠ [] := by simp
    by_cases hc : c = 10
    · subst hc
      rw [parts_snoc] at h
      obtain ⟨h1, h2⟩ := List.append_inj' h rfl
      have : r = [] := by simpa using h2.symm
      rw [if_pos this, ← h1]
      unfold linesP
      rw [if_neg hne, if_pos (by simp)]
      simp
    · obtain ⟨ps, p, e⟩ := parts_snoc_ne c hc x
      rw [e] at h
      obtain ⟨h1, h2⟩ := List.append_inj' h rfl
      have hr : r = p ++ [c] := by simpa using h2.symm
      rw [if_neg (by rw [hr]; simp)]
      unfold linesP
      rw [if_neg hne, if_neg (by simp [hc])]
theorem own_reads' {w : World} {B : Nat} {v : Value} {xs : List ByteArray} (h : w.ownsRow B 9 1 v xs.length (xs.map Value.string)) : Reads w v xs ∧ v.oneCell' = true := by
  rcases h.2 with ⟨rfl, h0⟩ | ⟨g, cap, cur, rfl, _, hg, _, _, _, _⟩
  · have : xs = [] := List.length_eq_zero_iff.1 h0
    subst this
    exact ⟨⟨none, 0, rfl, .inl rfl⟩, rfl⟩
  · refine ⟨⟨_, cap, rfl, .inr ⟨g, 0, rfl, fun i hi => ?_⟩⟩, rfl⟩
    have := h.cells (g := g) rfl i (.string (xs.getD i ByteArray.empty)) (by rw [List.getElem?_map, List.getElem?_eq_getElem hi, List.getD_eq_getElem?_getD, List.getElem?_eq_getElem hi]; rfl)
    rwa [Addr.add_mid] at this
theorem drop_cons10 (s : ByteArray) (j : Nat) (h : j < s.size) : (bs s).drop j = bt s j :: (bs s).drop (j + 1) := by
  rw [List.drop_eq_getElem_cons (by rw [bs_length]; exact h), bs_get s j h]
theorem drop_mid (l : List Int) (f i : Nat) (h : f ≤ i) : l.drop f = (l.take i).drop f ++ l.drop i := by
  conv => lhs; rw [← List.take_append_drop i l]
  rw [List.drop_append]
  by_cases hl : i ≤ l.length
  · rw [List.length_take, Nat.min_eq_left hl, show f - i = 0 by omega, List.drop_zero]
  · have : l.drop i = [] := List.drop_of_length_le (by omega)
    rw [this, List.drop_nil]
theorem cut10 (s : ByteArray) (f i : Nat) (hf : f ≤ i) (hi : i < s.size) (hb : bt s i = 10) : (bs s).drop f = bs (s.extract f i) ++ 10 :: (bs s).drop (i + 1) := by
  rw [bs_extract s f i hf (by omega), ← hb, ← drop_cons10 s i hi, ← drop_mid (bs s) f i hf]
theorem no10 (s : ByteArray) (f i : Nat) (hf : f ≤ i) (hi : i ≤ s.size) (h : ∀ j, f ≤ j → j < i → bt s j ≠ 10) : ∀ x ∈ bs (s.extract f i), x ≠ 10 := by
  intro x hx
  obtain ⟨k, hk, rfl⟩ := List.getElem_of_mem hx
  have hz : (s.extract f i).size = i - f := by rw [ByteArray.size_extract]; omega
  rw [bs_length, hz] at hk
  rw [bs_get _ k (by rw [hz]; exact hk), bt_extract s f i k (by omega) hi]
  exact h (f + k) (by omega) (by omega)
def linesQ (w' : World) (o : Option (List (List Int))) (e : Ending) : Prop :=
  match o with
  | some xs => ∃ v, e = .returned (.tuple #[v, .int .i64 0]) ∧ Reads w' v (xs.map str) ∧ v.oneCell' = true
  | none => e = .returned (.tuple #[.slice none 0 0, .int .i64 43])
structure LInv (s : ByteArray) (f i : Nat) (done : List (List Int)) : Prop where
  le : f ≤ i
  no : ∀ j, f ≤ j → j < i → bt s j ≠ 10
  ps : parts 10 (bs s) = done ++ parts 10 ((bs s).drop f)
  len : done.length ≤ i
set_option maxHeartbeats 3200000 in
theorem rLines (s : ByteArray) (hs : s.size ≤ 1048577) (w : World) :
    Calls Tryz.prog 15 #[.string s] w fun e w' => linesQ w' (linesP (bs s)) e ∧ Below w.heap.size w w' := by
  obtain ⟨i9, hi, hz0, hz1, hz2⟩ := info_parts hi9
  have HIN : Hid (_ ∧ _ ∧ _ ∧ _) := ⟨hi, hz0, hz1, hz2⟩
  clear hi hz0 hz1 hz2
  have hgb := get_bt s
  obtain ⟨R, HR⟩ : ∃ R, Hid (linesP (bs s) = R) := ⟨_, rfl⟩
  rw [HR.out]
  go_enter Tryz.func15, Tryz.ntmps15
  go_wp2
  go_loopw [4, 5, 6] (fun o f i wr => ∃ (k j : Nat) (done : List (List Int)), k ≤ s.size ∧ i = .int .i64 k ∧ f = .int .i64 j ∧ Hid (LInv s j k done) ∧ Hid (wr.ownsRow w.heap.size 9 1 o (done.map str).length ((done.map str).map Value.string)) ∧ Hid (Below w.heap.size w wr)) (fun _ _ i _ => (s.size + 1 - intOf i).toNat)
  case atStart => exact ⟨0, 0, [], by omega, rfl, rfl, ⟨Nat.le_refl _, fun j h1 h2 => by omega, rfl, by simp⟩, World.ownsRow_nil _ _ _ _, Below.refl _ _⟩
  case round =>
    obtain ⟨k, j, done, hk, rfl, rfl, HI, HO, HB⟩ := hrel
    have hbase := HB.out.size
    have hjk := HI.out.le
    by_cases hlt : k < s.size
    · have hlt' : (k : Int) < s.size := by omega
      by_cases hbe : bt s k = 10
      · have hga : ∀ (h : k < s.size), ((s[k]'h).toNat : Int) = 10 := fun h => (hgb k h).trans hbe
        have e1 : (j : Int) ≤ k := by omega
        have e2 : (k : Int) ≤ s.size := by omega
        have HI2 : Hid (LInv s (k + 1) (k + 1) (done ++ [bs (s.extract j k)])) := by
          refine ⟨Nat.le_refl _, fun y y1 y2 => by omega, ?_, by have := HI.out.len; simp; omega⟩
          rw [HI.out.ps, cut10 s j k hjk hlt hbe, parts_at _ _ _ (no10 s j k hjk hk HI.out.no)]
          simp
        have hdl : (done.map str).length ≤ k := by rw [List.length_map]; exact HI.out.len
        have hdl2 : (done.map str).length + 1 ≤ 1048578 := by omega
        obtain ⟨m, HM⟩ : ∃ m, Hid ((done.map str).length = m) := ⟨_, rfl⟩
        rw [HM.out] at HO hdl2 hdl
        obtain ⟨Z, HZ⟩ : ∃ Z, Hid (s.extract j k = Z) := ⟨_, rfl⟩
        have hxe := HZ.out
        have HX2 : Hid ((done ++ [bs (s.extract j k)]).map str = done.map str ++ [Z]) := by show _ = _; rw [HZ.out]; simp [str_bs]
        clear hgb hbe
        have hbase1 := hbase
        go_wp2_with (at_builtin; refine wpList_append_own _ rfl _ _ 28 rfl w.heap.size 9 i9 (.string ByteArray.empty) 1 16 Tryz.underlying28 HIN.out.1 HIN.out.2.1 HIN.out.2.2.1 HIN.out.2.2.2 rfl (by decide) _ m _ rfl (HO.out.alloc _) ⟨wr.heap.size, 0, none⟩ 1 1 [.string Z] rfl rfl (fun i u hu => by cases i with | zero => (simp at hu; rw [← hu]; exact new_cell _ _ _) | succ i => simp at hu) (fun u hu => by simp at hu; subst hu; rfl) (by unfold maxLen; omega) (by omega) (by simp; omega) ?_; intro v' w3 hown' hgrow3 hnil3; have HO3 : Hid (World.ownsRow _ _ _ _ _ _ _) := hown'; have HB3 : Hid (Below w.heap.size w w3) := Below.grown (HB.out.alloc HB.out.size _) hgrow3 (by simp; omega) (fun j hj => (HO.out.lt _ hj).1); clear hown' hgrow3 hnil3)
        go_roundw
        case rel =>
          refine ⟨k + 1, k + 1, done ++ [bs (s.extract j k)], by omega, by go_num, by go_num, HI2.out, ?_, HB3.out⟩
          rw [HX2.out, List.length_append, HM.out, List.map_append]
          exact HO3.out
        case measure => simp [intOf]; omega
      · obtain ⟨a, HA⟩ : ∃ a, Hid (bt s k = a) := ⟨_, rfl⟩
        have hga : ∀ (h : k < s.size), ((s[k]'h).toNat : Int) = a := fun h => (hgb k h).trans HA.out
        have hab : (a == 10) = false := beq_eq_false_iff_ne.2 (by rw [← HA.out]; exact hbe)
        have HI2 : Hid (LInv s j (k + 1) done) := by
          refine ⟨by omega, fun x x1 x2 => ?_, HI.out.ps, by have := HI.out.len; omega⟩
          rcases Nat.lt_or_ge x k with g | g
          · exact HI.out.no x x1 g
          · obtain rfl : x = k := by omega
            exact hbe
        clear hgb hbe
        go_wp2
        go_roundw
        case rel => exact ⟨k + 1, j, done, by omega, by go_num, rfl, HI2.out, HO.out, HB.out⟩
        case measure => simp [intOf]; omega
    · have hlt' : ¬ (k : Int) < s.size := by omega
      have hke : k = s.size := by omega
      have hrest : (bs s).drop j = bs (s.extract j k) := by
        rw [bs_extract s j k hjk hk, List.take_of_length_le (by rw [bs_length]; omega)]
      have hl := lines_parts (bs s) done ((bs s).drop j) (by rw [HI.out.ps, hrest, parts_none _ _ (no10 s j k hjk hk HI.out.no)])
      rw [HR.out] at hl
      have HL : Hid (R = if (bs s).drop j = [] then some done else none) := hl
      obtain ⟨hrd, hone⟩ := own_reads' HO.out
      have HRD : Hid (Reads wr u4 (done.map str)) := hrd
      clear hl hrest hrd hgb
      by_cases hj : j < s.size
      · have hj' : (j : Int) < s.size := by omega
        have HE : Hid (R = none) := by
          show _ = _
          rw [HL.out, if_neg]
          intro h
          have := congrArg List.length h
          rw [List.length_drop, bs_length] at this
          simp at this
          omega
        clear hke
        go_wp2
        go_ret2
        refine ⟨?_, HB.out⟩
        rw [HE.out]
        exact rfl
      · have hj' : ¬ (j : Int) < s.size := by omega
        have HE : Hid (R = some done) := by
          show _ = _
          rw [HL.out, if_pos (List.drop_of_length_le (by rw [bs_length]; omega))]
        clear hke
        go_wp2
        go_ret2
        refine ⟨?_, HB.out⟩
        rw [HE.out]
        exact ⟨_, rfl, HRD.out, hone⟩
end Go.Proofs.YthdkbjbhjfiaiaaGreatDoor.yb

namespace Go.Proofs.YthdkbjbhjfiaiaaGreatDoor.yc
open Go.RowKit Go.PlainAid Go.Shelf
open Go.Proofs.YthdkbjbhjfiaiaaGreatDoor.ta Go.Proofs.YthdkbjbhjfiaiaaGreatDoor.tb Go.Proofs.YthdkbjbhjfiaiaaGreatDoor.tc Go.Proofs.YthdkbjbhjfiaiaaGreatDoor.tj Go.Proofs.YthdkbjbhjfiaiaaGreatDoor.va Go.Proofs.YthdkbjbhjfiaiaaGreatDoor.vb Go.Proofs.YthdkbjbhjfiaiaaGreatDoor.vc Go.Proofs.YthdkbjbhjfiaiaaGreatDoor.vd Go.Proofs.YthdkbjbhjfiaiaaGreatDoor.ya Go.Proofs.YthdkbjbhjfiaiaaGreatDoor.yb Go.Proofs.YthdkbjbhjfiaiaaGreatDoor.sb Go.Proofs.YthdkbjbhjfiaiaaGreatDoor.sh
set_option linter.unusedVariables false
set_option maxRecDepth 4000

theorem bs_data (x : ByteArray) : bs x = x.data.toList.map (fun b => (b.toNat : Int)) := by
  apply List.ext_getElem
  · rw [bs_length, List.length_map, Array.length_toList]; rfl
  · intro i h1 h2
    rw [bs_length] at h1
    rw [bs_get _ i h1, ← get_bt _ i h1, List.getElem_map]
    rfl
-- is there a newline?
def nl (x : ByteArray) : Bool := decide (0 ≤ Lib.indexByte x.data.toList 10)
theorem nl_iff (x : ByteArray) : nl x = true ↔ (10 : Int) ∈ bs x := by
  unfold nl
  rw [← Lib.contains_iff_indexByte, List.contains_iff_mem, bs_data, List.mem_map]
  constructor
  · intro h
    exact ⟨10, h, rfl⟩
  · rintro ⟨b, hb, e⟩
    have : b = 10 := by
      have e' : b.toNat = 10 := by omega
      exact UInt8.toNat_inj.1 e'
    rwa [← this]
def joinL (xs : List ByteArray) : List UInt8 := xs.flatMap fun x => x.data.toList ++ [10]
def joinV (xs : List ByteArray) : Value := if xs.all (fun x => !nl x) then .tuple #[.string ⟨(joinL xs).toArray⟩, .int .i64 0] else .tuple #[.string ByteArray.empty, .int .i64 43]
theorem joinL_snoc (xs : List ByteArray) (k : Nat) (h : k < xs.length) : joinL (xs.take (k + 1)) = joinL (xs.take k) ++ (xs.getD k ByteArray.empty).data.toList ++ [10] := by
  have e : xs.take (k + 1) = xs.take k ++ [xs.getD k ByteArray.empty] := by
    rw [List.take_add_one, List.getElem?_eq_getElem h, List.getD_eq_getElem?_getD, List.getElem?_eq_getElem h]
    rfl
  unfold joinL
  rw [e, List.flatMap_append, List.flatMap_cons, List.flatMap_nil, List.append_nil, List.append_assoc]
theorem joinL_length (xs : List ByteArray) (k : Nat) (h : k ≤ xs.length) : (joinL (xs.take k)).length = tk xs k + k := by
  induction k with
  | zero => rfl
  | succ k ih =>
    rw [joinL_snoc xs k h, List.length_append, List.length_append, ih (by omega)]
    have : tk xs (k + 1) = tk xs k + (xs.getD k ByteArray.empty).size := rfl
    have e : (xs.getD k ByteArray.empty).data.toList.length = (xs.getD k ByteArray.empty).size := Array.length_toList
    rw [this, e]
    simp
    omega

theorem bWS (B b : Nat) (l : List UInt8) (s : ByteArray) (w : World) (h : Lib.IsBuilder 130 5 B b (Lib.byteCells l) w) (hlen : l.length + s.size ≤ 140737488355328) (hB : B ≤ w.heap.size) :
    Calls Tryz.prog 93 #[.pointer (some ⟨b, 0, none⟩), .string s] w fun e w' => e = .returned (.tuple #[.int .i64 s.size, .nilIface]) ∧ Lib.IsBuilder 130 5 B b (Lib.byteCells (l ++ s.data.toList)) w' ∧ Below B w w' := by
  refine (Any.Builder_WriteString lays166 extra B b (Lib.byteCells l) s w h (by rw [Lib.byteCells_length]; exact hlen) hB).mono ?_
  rintro e w' ⟨rfl, h1, h2⟩
  refine ⟨rfl, ?_, h2⟩
  rw [Lib.byteCells_append]
  exact .inr h1
theorem bWB (B b : Nat) (l : List UInt8) (w : World) (h : Lib.IsBuilder 130 5 B b (Lib.byteCells l) w) (hlen : l.length + 1 ≤ 140737488355328) (hB : B ≤ w.heap.size) :
    Calls Tryz.prog 94 #[.pointer (some ⟨b, 0, none⟩), .int .u8 10] w fun e w' => e = .returned .nilIface ∧ Lib.IsBuilder 130 5 B b (Lib.byteCells (l ++ [10])) w' ∧ Below B w w' := by
  refine (Any.Builder_WriteByte lays167 extra B b (Lib.byteCells l) 10 w h (by rw [Lib.byteCells_length]; exact hlen) hB).mono ?_
  rintro e w' ⟨rfl, h1, h2⟩
  refine ⟨rfl, ?_, h2⟩
  rw [Lib.byteCells_append]
  exact .inr h1
theorem bS (B b : Nat) (l : List UInt8) (w : World) (h : Lib.IsBuilder 130 5 B b (Lib.byteCells l) w) (hB : B ≤ w.heap.size) :
    Calls Tryz.prog 95 #[.pointer (some ⟨b, 0, none⟩)] w fun e w' => e = .returned (.string ⟨l.toArray⟩) ∧ Below B w w' :=
  Any.Builder_String_any lays169 extra B b l w h hB

set_option maxHeartbeats 1600000 in
theorem join (v : Value) (xs : List ByteArray) (w : World) (hr : Reads w v xs) (hz : tk xs xs.length + xs.length ≤ 1073741824) :
    Calls Tryz.prog 61 #[v] w fun e w' => e = .returned (joinV xs) ∧ Below w.heap.size w w' := by
  obtain ⟨a, cap, rfl, hcl⟩ := hr
  have HCL : Hid (xs.length = 0 ∨ ∃ b off, a = some ⟨b, off, none⟩ ∧ ∀ i, i < xs.length → w.cell? ⟨b, off + i, none⟩ = some (.string (xs.getD i ByteArray.empty))) := hcl
  obtain ⟨R, HR⟩ : ∃ R, Hid (joinV xs = R) := ⟨_, rfl⟩
  rw [HR.out]
  have HLN : Hid (∀ k, k ≤ xs.length → (joinL (xs.take k)).length ≤ 1073741824) := by
    intro k hk
    rw [joinL_length xs k hk]
    have := tk_mono xs hk
    omega
  obtain ⟨n, HN⟩ : ∃ n, Hid (xs.length = n) := ⟨_, rfl⟩
  have hzn : n ≤ 1073741824 := by rw [← HN.out]; omega
  rw [HN.out] at HCL HLN ⊢
  have HTK : Hid (tk xs xs.length + xs.length ≤ 1073741824) := by exact hz
  clear hcl hz
  have FB : Hid (Lib.IsBuilder 130 5 w.heap.size w.heap.size (Lib.byteCells []) (w.alloc (.cells #[.pointer none, .slice none 0 0] 130))) := Lib.fresh_isBuilder 130 5 w
  go_enter Tryz.func61, Tryz.ntmps61
  go_wp2
  go_loopw [9] (fun i wr => ∃ (k : Nat), k ≤ n ∧ i = .int .i64 k ∧ Hid ((∀ j, j < k → nl (xs.getD j ByteArray.empty) = false) ∧ Lib.IsBuilder 130 5 w.heap.size w.heap.size (Lib.byteCells (joinL (xs.take k))) wr ∧ Below w.heap.size w wr)) (fun i _ => (n - intOf i).toNat)
  case atStart => exact ⟨0, by omega, rfl, fun j h => by omega, FB.out, (Below.refl _ _).alloc (Nat.le_refl _) _⟩
  case round =>
    clear FB
    obtain ⟨k, hk, rfl, HL⟩ := hrel
    have hbs := HL.out.2.2.size
    by_cases hlt : k < n
    · have hlt' : (k : Int) < n := by omega
      have hkx : k < xs.length := by rw [HN.out]; exact hlt
      obtain ⟨b, off, rfl, hc⟩ : ∃ b off, a = some ⟨b, off, none⟩ ∧ ∀ i, i < n → w.cell? ⟨b, off + i, none⟩ = some (.string (xs.getD i ByteArray.empty)) := by
        rcases HCL.out with h | h
        · omega
        · exact h
      have c1 : wr.cell? ⟨b, off + k, none⟩ = some (.string (xs.getD k ByteArray.empty)) := (HL.out.2.2.cell (p := ⟨b, off + k, none⟩) (World.block_lt_of_cell? _ _ (hc k hlt))).trans (hc k hlt)
      have CN : Hid (∀ w, Calls _ _ _ _ _) := fun w => Any.strings_Contains_one lays144 (xs.getD k ByteArray.empty) 10 w
      have hjs := joinL_snoc xs k hkx
      have hl1 := HLN.out (k + 1) (by omega)
      rw [hjs, List.length_append, List.length_append] at hl1
      have ez : (xs.getD k ByteArray.empty).data.toList.length = (xs.getD k ByteArray.empty).size := Array.length_toList
      rw [ez] at hl1
      have WS : Hid (∀ w, _ → _ → Calls _ _ _ _ _) := fun w' h hB => bWS w.heap.size w.heap.size (joinL (xs.take k)) (xs.getD k ByteArray.empty) w' h (by omega) hB
      have WB : Hid (∀ w, _ → _ → Calls _ _ _ _ _) := fun w' h hB => bWB w.heap.size w.heap.size (joinL (xs.take k) ++ (xs.getD k ByteArray.empty).data.toList) w' h (by rw [List.length_append, ez]; have h1 : ([10] : List UInt8).length = 1 := rfl; omega) hB
      have HJS : Hid (joinL (xs.take (k + 1)) = joinL (xs.take k) ++ (xs.getD k ByteArray.empty).data.toList ++ [10]) := hjs
      have HNL : Hid (nl (xs.getD k ByteArray.empty) = decide (0 ≤ Lib.indexByte (xs.getD k ByteArray.empty).data.toList 10)) := rfl
      clear hc hjs hl1 ez
      obtain ⟨X, HX⟩ : ∃ X, Hid (xs.getD k ByteArray.empty = X) := ⟨_, rfl⟩
      rw [HX.out] at c1 CN WS WB HJS HNL
      rw [← HNL.out] at CN
      by_cases hnl : nl X = true
      · rw [hnl] at CN
        have HE : Hid (R = .tuple #[.string ByteArray.empty, .int .i64 43]) := by
          show _ = _
          rw [← HR.out]
          unfold joinV
          rw [if_neg]
          intro h
          have := List.all_eq_true.1 h (xs.getD k ByteArray.empty) (by rw [List.getD_eq_getElem?_getD, List.getElem?_eq_getElem hkx]; exact List.getElem_mem hkx)
          rw [HX.out, hnl] at this
          exact absurd this (by decide)
        have HB : Hid (Below w.heap.size w wr) := HL.out.2.2
        clear hnl HNL
        go_wp2_with fail
        refine (CN.out _).mono ?_
        rintro e w1 ⟨rfl, rfl⟩
        clear c1
        go_wp2
        go_ret2
        exact ⟨by rw [HE.out]; rfl, HB.out⟩
      · have hnf : nl X = false := by simpa using hnl
        rw [hnf] at CN
        have HF : Hid (nl X = false) := hnf
        clear hnl hnf HNL
        go_wp2_with fail
        refine (CN.out _).mono ?_
        rintro e w1 ⟨rfl, rfl⟩
        clear c1
        go_wp2_with fail
        refine (WS.out _ HL.out.2.1 hbs).mono ?_
        rintro e w1 ⟨rfl, h1, hb1⟩
        have H1 : Hid (Lib.IsBuilder _ _ _ _ _ w1) := h1
        have HB1 : Hid (Below w.heap.size w w1) := HL.out.2.2.trans hb1
        clear h1 hb1
        have hbs1 := HB1.out.size
        go_wp2_with fail
        refine (WB.out _ H1.out hbs1).mono ?_
        rintro e w2 ⟨rfl, h2, hb2⟩
        have H2 : Hid (Lib.IsBuilder _ _ _ _ _ w2) := h2
        have HB2 : Hid (Below w.heap.size w w2) := HB1.out.trans hb2
        clear h2 hb2
        go_wp2
        go_roundw
        case rel =>
          refine ⟨k + 1, by omega, by go_num, ?_, ?_, HB2.out⟩
          · intro j hj
            rcases Nat.lt_or_ge j k with g | g
            · exact HL.out.1 j g
            · obtain rfl : j = k := by omega
              rw [HX.out]; exact HF.out
          · rw [HJS.out]; exact H2.out
        case measure => simp [intOf]; omega
    · have hlt' : ¬ (k : Int) < n := by omega
      obtain rfl : k = n := by omega
      have BS : Hid (Calls _ _ _ _ _) := bS w.heap.size w.heap.size (joinL (xs.take k)) wr HL.out.2.1 hbs
      rw [List.take_of_length_le (by rw [HN.out]; exact Nat.le_refl _)] at BS
      have HE : Hid (R = .tuple #[.string ⟨(joinL xs).toArray⟩, .int .i64 0]) := by
        show _ = _
        rw [← HR.out]
        unfold joinV
        rw [if_pos]
        rw [List.all_eq_true]
        intro x hx
        obtain ⟨i, hi, rfl⟩ := List.getElem_of_mem hx
        have := HL.out.1 i (by rw [← HN.out]; exact hi)
        rw [List.getD_eq_getElem?_getD, List.getElem?_eq_getElem hi] at this
        simp at this
        simp [this]
      have HB : Hid (Below w.heap.size w wr) := HL.out.2.2
      generalize (⟨(joinL xs).toArray⟩ : ByteArray) = J at *
      go_wp2_with fail
      refine BS.out.mono ?_
      rintro e w1 ⟨rfl, hb1⟩
      have HB1 : Hid (Below w.heap.size w w1) := HB.out.trans hb1
      clear hb1
      go_wp2
      go_ret2
      exact ⟨by rw [HE.out]; rfl, HB1.out⟩
end Go.Proofs.YthdkbjbhjfiaiaaGreatDoor.yc

namespace Go.Proofs.YthdkbjbhjfiaiaaGreatDoor.wa
open Go.RowKit Go.PlainAid
open Go.Proofs.YthdkbjbhjfiaiaaGreatDoor.ta Go.Proofs.YthdkbjbhjfiaiaaGreatDoor.tb Go.Proofs.YthdkbjbhjfiaiaaGreatDoor.tc Go.Proofs.YthdkbjbhjfiaiaaGreatDoor.tj
set_option linter.unusedVariables false
set_option maxRecDepth 4000

-- a number's digits
def dgN (u : Nat) : List Int := if h : u < 10 then [48 + (u : Int)] else dgN (u / 10) ++ [48 + ((u % 10 : Nat) : Int)]
termination_by u
decreasing_by omega
def decI (n : Int) : List Int := if n < 0 then 45 :: dgN n.natAbs else dgN n.toNat
def decS (n : Int) : ByteArray := str (decI n)
def I64 (n : Int) : Prop := -9223372036854775808 ≤ n ∧ n ≤ 9223372036854775807
theorem dgN_small {u : Nat} (h : u < 10) : dgN u = [48 + (u : Int)] := by rw [dgN, dif_pos h]
theorem dgN_big {u : Nat} (h : ¬ u < 10) : dgN u = dgN (u / 10) ++ [48 + ((u % 10 : Nat) : Int)] := by rw [dgN, dif_neg h]
theorem of48 (d : Nat) (h : d < 10) : (UInt8.ofNat (48 + d)).toNat = 48 + d := by
  rw [UInt8.toNat_ofNat']; omega
theorem dgN_dec (u : Nat) : (Lib.decDigits u).map (fun b => (b.toNat : Int)) = dgN u := by
  induction u using Nat.strongRecOn with
  | ind u ih =>
    by_cases h : u < 10
    · rw [dgN_small h, Lib.decDigits, dif_pos h]
      simp only [List.map_cons, List.map_nil, of48 u h]
      simp
    · rw [dgN_big h, Lib.decDigits, dif_neg h, List.map_append, ih (u / 10) (by omega)]
      simp only [List.map_cons, List.map_nil, of48 (u % 10) (by omega)]
      simp
theorem bs_mk (l : List UInt8) : bs ⟨l.toArray⟩ = l.map (fun b => (b.toNat : Int)) := by
  apply List.ext_getElem
  · rw [bs_length, List.length_map]; rfl
  · intro i h1 h2
    rw [bs_length] at h1
    rw [bs_get _ i h1, ← get_bt _ i h1, List.getElem_map]
    rfl
theorem dg_in (u : Nat) : ∀ x ∈ dgN u, 48 ≤ x ∧ x ≤ 57 := by
  induction u using Nat.strongRecOn with
  | ind u ih =>
    intro x hx
    by_cases h : u < 10
    · rw [dgN_small h] at hx
      have := List.mem_singleton.1 hx
      omega
    · rw [dgN_big h] at hx
      rcases List.mem_append.1 hx with hx | hx
      · exact ih _ (by omega) x hx
      · have := List.mem_singleton.1 hx
        omega
theorem dec_in (n : Int) : In 256 (decI n) := by
  intro x hx
  unfold decI at hx
  split at hx
  · rcases List.mem_cons.1 hx with rfl | hx
    · omega
    · have := dg_in _ x hx; omega
  · have := dg_in _ x hx; omega
theorem bs_dec (n : Int) : bs (decS n) = decI n := bs_str _ (dec_in n)
theorem itoa_dec (n : Int) : (⟨(Lib.itoa n).toArray⟩ : ByteArray) = decS n := by
  apply bs_inj
  rw [bs_dec, bs_mk]
  unfold Lib.itoa decI
  by_cases h : n < 0
  · rw [if_pos h, if_pos h, List.map_cons, dgN_dec]; rfl
  · rw [if_neg h, if_neg h, dgN_dec]
theorem data_dec (n : Int) : (decS n).data.toList = Lib.itoa n := by rw [← itoa_dec]
-- how long
theorem dg_len (k : Nat) : ∀ u : Nat, u < 10 ^ (k + 1) → (dgN u).length ≤ k + 1 := by
  induction k with
  | zero => intro u h; rw [dgN_small (by simpa using h)]; simp
  | succ k ih =>
    intro u h
    by_cases h10 : u < 10
    · rw [dgN_small h10]; simp
    · rw [dgN_big h10, List.length_append]
      have := ih (u / 10) (by rw [Nat.pow_succ] at h; omega)
      simp; omega
theorem dec_len (n : Int) (h : I64 n) : (decI n).length ≤ 20 := by
  obtain ⟨h0, h1⟩ := h
  unfold decI
  split
  · have := dg_len 18 n.natAbs (by omega)
    rw [List.length_cons]; omega
  · have := dg_len 18 n.toNat (by omega)
    omega
theorem dec_size (n : Int) (h : I64 n) : (decS n).size ≤ 20 := by rw [← bs_length, bs_dec]; exact dec_len n h
theorem dg_ne (u : Nat) : dgN u ≠ [] := by
  by_cases h : u < 10
  · rw [dgN_small h]; simp
  · rw [dgN_big h]; simp
theorem dec_pos (n : Int) : (decS n).size ≠ 0 := by
  rw [← bs_length, bs_dec]
  unfold decI
  split
  · simp
  · intro h; exact dg_ne _ (List.length_eq_zero_iff.1 h)
-- what the library reads of them
theorem parse_snoc (d : UInt8) (hd : 48 ≤ d.toNat ∧ d.toNat ≤ 57) : ∀ (l : List UInt8) (acc v : Nat), Lib.parseUint10 acc l = .ok v → v < 1844674407370955162 → v * 10 + (d.toNat - 48) < 18446744073709551616 → Lib.parseUint10 acc (l ++ [d]) = .ok (v * 10 + (d.toNat - 48))
  | [], acc, v, h, h1, h2 => by
    simp only [Lib.parseUint10] at h
    injection h with h
    subst h
    simp only [List.nil_append, Lib.parseUint10]
    rw [if_pos hd, if_neg (by omega), if_neg (by omega)]
  | c :: r, acc, v, h, h1, h2 => by
    simp only [Lib.parseUint10] at h
    simp only [List.cons_append, Lib.parseUint10]
    split at h
    · rename_i hc
      rw [if_pos hc]
      split at h
      · cases h
      · rename_i h3
        rw [if_neg h3]
        split at h
        · cases h
        · rename_i h4
          rw [if_neg h4]
          exact parse_snoc d hd r _ v h h1 h2
    · cases h
theorem parse_dec (u : Nat) (hu : u < 18446744073709551616) : Lib.parseUint10 0 (Lib.decDigits u) = .ok u := by
  induction u using Nat.strongRecOn with
  | ind u ih =>
    by_cases h : u < 10
    · rw [Lib.decDigits, dif_pos h]
      simp only [Lib.parseUint10, of48 u h]
      rw [if_pos (by omega), if_neg (by omega), if_neg (by omega)]
      congr 1
      omega
    · rw [Lib.decDigits, dif_neg h]
      have := parse_snoc (UInt8.ofNat (48 + u % 10)) (by rw [of48 _ (by omega)]; omega) (Lib.decDigits (u / 10)) 0 (u / 10) (ih _ (by omega) (by omega)) (by omega) (by rw [of48 _ (by omega)]; omega)
      rw [this, of48 _ (by omega)]
      congr 1
      omega
theorem dec_head (u : Nat) : ∃ c r, Lib.decDigits u = c :: r ∧ 48 ≤ c.toNat ∧ c.toNat ≤ 57 := by
  induction u using Nat.strongRecOn with
  | ind u ih =>
    by_cases h : u < 10
    · exact ⟨_, _, by rw [Lib.decDigits, dif_pos h], by rw [of48 u h]; omega, by rw [of48 u h]; omega⟩
    · obtain ⟨c, r, e, h1, h2⟩ := ih (u / 10) (by omega)
      exact ⟨c, r ++ [UInt8.ofNat (48 + u % 10)], by rw [Lib.decDigits, dif_neg h, e]; rfl, h1, h2⟩
theorem mag_dec (u : Nat) (hu : u < 18446744073709551616) : Lib.parseMag (Lib.decDigits u) = .ok u := by
  obtain ⟨c, r, e, _⟩ := dec_head u
  unfold Lib.parseMag
  rw [if_neg (by rw [e]; simp), parse_dec u hu]
theorem atoi_itoa (n : Int) (h : I64 n) : Lib.atoiAll (Lib.itoa n) = .ok n := by
  obtain ⟨h0, h1⟩ := h
  unfold Lib.itoa
  by_cases hn : n < 0
  · rw [if_pos hn, Lib.atoiAll_minus, mag_dec _ (by omega)]
    unfold Lib.signed
    simp only
    rw [if_neg (by omega)]
    congr 1
    omega
  · rw [if_neg hn]
    obtain ⟨c, r, e, c1, c2⟩ := dec_head n.toNat
    rw [e, Lib.atoiAll_plain c r (by omega) (by omega), ← e, mag_dec _ (by omega)]
    unfold Lib.signless
    simp only
    rw [if_neg (by omega)]
    congr 1
    omega
-- what the document reads of them
def stpD (a c : Int) : Int := if 48 ≤ c ∧ c ≤ 57 then IntKind.i64.wrap (IntKind.i64.wrap (10 * a) - (c - 48)) else a
def unD (l : List Int) : Int := l.foldl stpD 0
theorem wrap_in (x : Int) : I64 (IntKind.i64.wrap x) := by rw [IntKind.wrap_i64]; constructor <;> omega
theorem wrap_id {x : Int} (h : I64 x) : IntKind.i64.wrap x = x := by obtain ⟨h0, h1⟩ := h; rw [IntKind.wrap_i64]; omega
theorem stp_in (a c : Int) (h : I64 a) : I64 (stpD a c) := by
  unfold stpD
  split
  · exact wrap_in _
  · exact h
theorem fold_in (l : List Int) : ∀ a, I64 a → I64 (l.foldl stpD a) := by
  induction l with
  | nil => intro a h; exact h
  | cons c r ih => intro a h; exact ih _ (stp_in a c h)
theorem unD_in (l : List Int) : I64 (unD l) := fold_in l 0 ⟨by omega, by omega⟩
theorem fold_dg (u : Nat) (hu : u ≤ 9223372036854775808) : unD (dgN u) = -(u : Int) := by
  induction u using Nat.strongRecOn with
  | ind u ih =>
    by_cases h : u < 10
    · rw [dgN_small h]
      show stpD 0 (48 + (u : Int)) = _
      unfold stpD
      rw [if_pos (by omega), wrap_id (x := 10 * 0) ⟨by omega, by omega⟩, wrap_id ⟨by omega, by omega⟩]
      omega
    · rw [dgN_big h]
      have e := ih (u / 10) (by omega) (by omega)
      unfold unD at e ⊢
      rw [List.foldl_append, e]
      show stpD _ _ = _
      unfold stpD
      rw [if_pos (by omega), wrap_id (x := 10 * _) ⟨by omega, by omega⟩, wrap_id ⟨by omega, by omega⟩]
      omega
def unN (s : ByteArray) : Int := if s.size = 0 ∨ bt s 0 ≠ 45 then IntKind.i64.wrap (-(unD (bs s))) else unD (bs s)
theorem unN_in (s : ByteArray) : I64 (unN s) := by
  unfold unN
  split
  · exact wrap_in _
  · exact unD_in _
theorem unN_dec (n : Int) (h : I64 n) : unN (decS n) = n := by
  obtain ⟨h0, h1⟩ := h
  have hz := dec_pos n
  have hb : bt (decS n) 0 = (decI n).getD 0 0 := by rw [bt_getD, bs_dec]
  unfold unN
  rw [bs_dec, hb]
  unfold decI
  by_cases hn : n < 0
  · rw [if_pos hn, if_neg (by simp [hz])]
    have e : unD (45 :: dgN n.natAbs) = unD (dgN n.natAbs) := by
      show (dgN n.natAbs).foldl stpD (stpD 0 45) = _
      rfl
    rw [e, fold_dg _ (by omega)]
    omega
  · rw [if_neg hn]
    have h45 : (dgN n.toNat).getD 0 0 ≠ 45 := by
      cases hd : dgN n.toNat with
      | nil => exact absurd hd (dg_ne _)
      | cons c r =>
        have := dg_in n.toNat c (by rw [hd]; simp)
        simp; omega
    rw [if_pos (.inr h45), fold_dg _ (by omega), wrap_id ⟨by omega, by omega⟩]
    omega
theorem dec_inj (n m : Int) (h : I64 n) (hm : I64 m) (e : decS n = decS m) : n = m := by rw [← unN_dec n h, e, unN_dec m hm]
-- one digit more
theorem dec_up (n : Int) (h : 9 < n) : decS n = decS (n.tdiv 10) ++ str [48 + n.tmod 10] := by
  unfold decS
  rw [← str_two]
  congr 1
  unfold decI
  have e1 : n.tdiv 10 = n / 10 := Int.tdiv_eq_ediv_of_nonneg (by omega)
  have e2 : n.tmod 10 = n % 10 := Int.tmod_eq_emod_of_nonneg (by omega)
  rw [e1, e2, if_neg (by omega), if_neg (by omega), dgN_big (by omega)]
  have a1 : (n / 10).toNat = n.toNat / 10 := by omega
  have a2 : ((n.toNat % 10 : Nat) : Int) = n % 10 := by omega
  rw [a1, a2]
theorem dec_down (n : Int) (h : n < -9) : decS n = decS (n.tdiv 10) ++ str [48 + -(n.tmod 10)] := by
  unfold decS
  rw [← str_two]
  congr 1
  unfold decI
  obtain ⟨m, rfl⟩ : ∃ m : Int, n = -m := ⟨-n, by omega⟩
  have e1 : (-m).tdiv 10 = -(m / 10) := by rw [Int.neg_tdiv, Int.tdiv_eq_ediv_of_nonneg (by omega)]
  have e2 : (-m).tmod 10 = -(m % 10) := by rw [Int.neg_tmod, Int.tmod_eq_emod_of_nonneg (by omega)]
  rw [e1, e2, if_pos (by omega), if_pos (by omega), dgN_big (by omega), List.cons_append]
  have a1 : (-(m / 10)).natAbs = (-m).natAbs / 10 := by omega
  have a2 : (((-m).natAbs % 10 : Nat) : Int) = - -(m % 10) := by omega
  rw [a1, a2]
theorem dec_one (n : Int) (h0 : 0 ≤ n) (h1 : n ≤ 9) : decS n = str [48 + n] := by
  unfold decS decI
  rw [if_neg (by omega), dgN_small (by omega)]
  congr 2
  omega
theorem dec_neg1 (n : Int) (h0 : n < 0) (h1 : -10 < n) : decS n = (⟨#[45]⟩ : ByteArray) ++ str [48 + -n] := by
  have e : (⟨#[45]⟩ : ByteArray) = str [45] := by apply bs_inj; decide +kernel
  rw [e, ← str_two]
  unfold decS decI
  rw [if_pos h0, dgN_small (by omega)]
  show str (45 :: _) = _
  congr 3
  omega
end Go.Proofs.YthdkbjbhjfiaiaaGreatDoor.wa

namespace Go.Proofs.YthdkbjbhjfiaiaaGreatDoor.wb
open Go.RowKit Go.PlainAid Go.Shelf
open Go.Proofs.YthdkbjbhjfiaiaaGreatDoor.ta Go.Proofs.YthdkbjbhjfiaiaaGreatDoor.tb Go.Proofs.YthdkbjbhjfiaiaaGreatDoor.tc Go.Proofs.YthdkbjbhjfiaiaaGreatDoor.tj Go.Proofs.YthdkbjbhjfiaiaaGreatDoor.wa Go.Proofs.YthdkbjbhjfiaiaaGreatDoor.si
set_option linter.unusedVariables false
set_option maxRecDepth 4000

theorem over {w w1 w2 : World} (h : Below w.heap.size w w1) (b : Below w1.heap.size w1 w2) : Below w.heap.size w w2 := h.trans (b.mono h.size)
theorem below_grow (w : World) (k : Nat) (os : Array Obj) : Below w.heap.size w (Sort.grow (w.drewN k) os) :=
  ⟨rfl, rfl, rfl, by show w.heap.size ≤ (w.heap ++ os).size; rw [Array.size_append]; omega, fun i hi => by show (w.heap ++ os)[i]? = w.heap[i]?; rw [Array.getElem?_append_left hi]⟩
theorem var_below {P : Program} {w w' : World} {name : String} {cs : Array Value} (h : w.var? P name = some cs) (hb : Below w.heap.size w w') : w'.var? P name = some cs := by
  unfold World.var? at *
  cases hg : P.globalNamed name with
  | none => simp [hg] at h
  | some g =>
    simp only [hg, Option.bind_some] at h ⊢
    have hlt : g < w.heap.size := by
      rcases Nat.lt_or_ge g w.heap.size with hl | hl
      · exact hl
      · rw [Array.getElem?_eq_none hl] at h; simp at h
    rw [hb.block g hlt]
    exact h
-- the library's table and its two errors
structure NumW (w : World) : Prop where
  tab : Lib.TabIs Tryz.prog w "internal/strconv.uint64pow10" .u64 Lib.pow10Tab
  syn : ∃ tp p, w.var? Tryz.prog "strconv.ErrSyntax" = some #[.iface tp p]
  ran : ∃ tp p, w.var? Tryz.prog "strconv.ErrRange" = some #[.iface tp p]
theorem NumW.down {w w' : World} (h : NumW w) (hb : Below w.heap.size w w') : NumW w' := by
  obtain ⟨a, b, c⟩ := h.syn
  obtain ⟨a', b', c'⟩ := h.ran
  exact ⟨Lib.TabBelow.here ((Lib.tabBelow_of_tabIs h.tab).on hb), ⟨a, b, var_below c hb⟩, ⟨a', b', var_below c' hb⟩⟩

-- the program's numbers
theorem dec (n : Int) (h : I64 n) (w : World) (hw : NumW w) : Calls Tryz.prog 59 #[.int .i64 n] w fun e w' => e = .returned (.string (decS n)) ∧ Below w.heap.size w w' := by
  have H : Hid (Calls Tryz.prog 91 #[.int .i64 n] w fun e w' => e = .returned (.string (decS n)) ∧ Below w.heap.size w w') := by
    have := Any.strconv_Itoa laysM171 n h.1 h.2 w hw.tab
    refine this.mono ?_
    rintro e w' ⟨rfl, k, os, rfl⟩
    exact ⟨by rw [itoa_dec], below_grow w k os⟩
  go_enter Tryz.func59, Tryz.ntmps59
  go_wp2_with fail
  refine H.out.mono ?_
  rintro e w1 ⟨rfl, hb⟩
  have B : Hid (Below w.heap.size w w1) := hb
  clear hb
  go_wp2
  go_ret
  exact ⟨rfl, B.out⟩
theorem atoi (s : ByteArray) (hs : s.size ≤ 281474976710656) (w : World) (hw : NumW w) : Calls Tryz.prog 82 #[.string s] w fun e w' => ((∃ n, I64 n ∧ Lib.atoiAll s.data.toList = .ok n ∧ e = .returned (.tuple #[.int .i64 n, .nilIface])) ∨ (∃ n T p, I64 n ∧ (∀ m, Lib.atoiAll s.data.toList ≠ .ok m) ∧ e = .returned (.tuple #[.int .i64 n, .iface T (.pointer (some p))]))) ∧ Below w.heap.size w w' := by
  cases h : Lib.atoiAll s.data.toList with
  | ok v =>
    refine (Any.strconv_Atoi_ok laysC172 s (by omega) v h w).mono ?_
    rintro e w' ⟨rfl, hw'⟩
    refine ⟨.inl ⟨v, Lib.atoiAll_bounds h, rfl, rfl⟩, ?_⟩
    rcases hw' with rfl | ⟨t, rfl⟩
    · exact Below.refl _ _
    · exact Lib.bytesWorld_below _ _ _
  | «syntax» =>
    obtain ⟨tp, p, hv⟩ := hw.syn
    refine (Any.strconv_Atoi_syntax_var laysC172 s hs h tp p w hv).mono ?_
    rintro e w' ⟨N, rfl, _, _, hb⟩
    exact ⟨.inr ⟨0, _, _, ⟨by omega, by omega⟩, (fun m hm => by cases hm), rfl⟩, hb⟩
  | range =>
    obtain ⟨tp, p, hv⟩ := hw.ran
    refine (Any.strconv_Atoi_range_var laysC172 s hs h tp p w hv).mono ?_
    rintro e w' ⟨N, rfl, _, _, hb⟩
    exact ⟨.inr ⟨_, _, _, Lib.atoiSat_bounds _, (fun m hm => by cases hm), rfl⟩, hb⟩

open Classical in
noncomputable def unDecV (s : ByteArray) : Value := if ∃ n, I64 n ∧ decS n = s then .tuple #[.int .i64 (unN s), .int .i64 0] else .tuple #[.int .i64 0, .int .i64 42]

set_option maxHeartbeats 800000 in
theorem unDec (s : ByteArray) (hs : s.size ≤ 281474976710656) (w : World) (hw : NumW w) : Calls Tryz.prog 54 #[.string s] w fun e w' => e = .returned (unDecV s) ∧ Below w.heap.size w w' := by
  have A : Hid (Calls _ _ _ _ _) := atoi s hs w hw
  have HW : Hid (NumW w) := hw
  obtain ⟨R, HR⟩ : ∃ R, Hid (unDecV s = R) := ⟨_, rfl⟩
  rw [HR.out]
  clear hw
  go_enter Tryz.func54, Tryz.ntmps54
  go_wp2_with fail
  refine A.out.mono ?_
  rintro e w1 ⟨h | h, hb⟩
  · obtain ⟨n, hn, ha, rfl⟩ := h
    have B : Hid (Below w.heap.size w w1) := hb
    have HN : Hid (I64 n) := hn
    have HA : Hid (Lib.atoiAll s.data.toList = .ok n) := ha
    have D : Hid (Calls _ _ _ _ _) := dec n hn w1 (HW.out.down hb)
    clear hb hn ha A
    by_cases hd : decS n = s
    · have HE : Hid (R = .tuple #[.int .i64 n, .int .i64 0]) := by
        show _ = _
        rw [← HR.out]
        unfold unDecV
        rw [if_pos ⟨n, HN.out, hd⟩, ← hd, unN_dec n HN.out]
      have hq : ((decS n).toList == s.toList) = true := by rw [toList_bs]; exact decide_eq_true hd
      generalize decS n = X at *
      clear hd
      go_wp2_with fail
      refine D.out.mono ?_
      rintro e w2 ⟨rfl, hb⟩
      have B2 : Hid (Below w.heap.size w w2) := over B.out hb
      clear hb
      go_wp2
      go_ret2
      exact ⟨by rw [HE.out]; rfl, B2.out⟩
    · have HE : Hid (R = .tuple #[.int .i64 0, .int .i64 42]) := by
        show _ = _
        rw [← HR.out]
        unfold unDecV
        rw [if_neg]
        rintro ⟨m, hm, rfl⟩
        have := HA.out
        rw [data_dec, atoi_itoa m hm] at this
        injection this with this
        exact hd (by rw [this])
      have hq : ((decS n).toList == s.toList) = false := by rw [toList_bs]; exact decide_eq_false hd
      generalize decS n = X at *
      clear hd
      go_wp2_with fail
      refine D.out.mono ?_
      rintro e w2 ⟨rfl, hb⟩
      have B2 : Hid (Below w.heap.size w w2) := over B.out hb
      clear hb
      go_wp2
      go_ret2
      exact ⟨by rw [HE.out]; rfl, B2.out⟩
  · obtain ⟨n, T, p, hn, ha, rfl⟩ := h
    have B : Hid (Below w.heap.size w w1) := hb
    have HE : Hid (R = .tuple #[.int .i64 0, .int .i64 42]) := by
      show _ = _
      rw [← HR.out]
      unfold unDecV
      rw [if_neg]
      rintro ⟨m, hm, rfl⟩
      exact ha m (by rw [data_dec, atoi_itoa m hm])
    clear hb hn ha A
    go_wp2
    go_ret2
    exact ⟨by rw [HE.out]; rfl, B.out⟩
end Go.Proofs.YthdkbjbhjfiaiaaGreatDoor.wb

namespace Go.Proofs.YthdkbjbhjfiaiaaGreatDoor.wc
open Go.RowKit Go.PlainAid Go.Shelf
open Go.Proofs.YthdkbjbhjfiaiaaGreatDoor.ta Go.Proofs.YthdkbjbhjfiaiaaGreatDoor.tb Go.Proofs.YthdkbjbhjfiaiaaGreatDoor.tc Go.Proofs.YthdkbjbhjfiaiaaGreatDoor.tj Go.Proofs.YthdkbjbhjfiaiaaGreatDoor.wa Go.Proofs.YthdkbjbhjfiaiaaGreatDoor.wb
set_option linter.unusedVariables false
set_option maxRecDepth 4000

theorem one_str (q : ByteArray) (k : Nat) (h : k < q.size) : q.extract k (k + 1) = str [bt q k] := by
  apply bs_inj
  have h0 := bt_nonneg q k; have h1 := bt_le q k
  rw [bs_str _ (fun x hx => by rw [List.mem_singleton.1 hx]; omega), bs_extract q k (k + 1) (by omega) (by omega)]
  apply List.ext_getElem
  · rw [List.length_drop, List.length_take, bs_length]; simp; omega
  · intro i h2 h3
    have : i = 0 := by simpa using h3
    subst this
    rw [List.getElem_drop, List.getElem_take, bs_get q _ (by omega)]
    simp

set_option maxHeartbeats 400000 in
theorem sign (al : ByteArray) (v : Int) (h0 : 0 ≤ v) (h1 : v < al.size) (hz : al.size ≤ 64) (w : World) :
    Calls Tryz.prog 66 #[.string al, .int .i64 v] w fun e w' => e = .returned (.string (str [bt al v.toNat])) ∧ w' = w := by
  obtain ⟨n, rfl⟩ := Int.eq_ofNat_of_zero_le h0
  have hn : n < al.size := by omega
  have HE : Hid (al.extract n (n + 1) = str [bt al n]) := one_str al n hn
  have hk : ((n : Int) + 1).toNat = n + 1 := by omega
  have hk1 : (n : Int) + 1 ≤ al.size := by omega
  have hk2 : (n : Int) ≤ (n : Int) + 1 := by omega
  have hk3 : (n : Int) < al.size := by omega
  go_enter Tryz.func66, Tryz.ntmps66
  go_wp2
  go_ret
  exact ⟨by rw [show ((n : Int).toNat) = n from rfl, ← HE.out]; rfl, rfl⟩
theorem small_at : ∀ i : Fin 10, bt (⟨#[48, 49, 50, 51, 52, 53, 54, 55, 56, 57, 97, 98, 99, 100, 101, 102]⟩ : ByteArray) i.val = 48 + (i.val : Int) := by decide +kernel
theorem digit (v : Int) (h0 : 0 ≤ v) (h1 : v ≤ 9) (w : World) :
    Calls Tryz.prog 66 #[.string ⟨#[48, 49, 50, 51, 52, 53, 54, 55, 56, 57, 97, 98, 99, 100, 101, 102]⟩, .int .i64 v] w fun e w' => e = .returned (.string (str [48 + v])) ∧ w' = w := by
  have h := sign ⟨#[48, 49, 50, 51, 52, 53, 54, 55, 56, 57, 97, 98, 99, 100, 101, 102]⟩ v h0 (by show v < 16; omega) (by decide) w
  have e := small_at ⟨v.toNat, by omega⟩
  simp only at e
  rw [e, show ((v.toNat : Nat) : Int) = v by omega] at h
  exact h

set_option maxHeartbeats 1600000 in
theorem rDec (k : Nat) : ∀ (n : Int), I64 n → n.natAbs < k → ∀ w, Calls Tryz.prog 34 #[.int .i64 n] w fun e w' => e = .returned (.string (decS n)) ∧ w' = w := by
  induction k with
  | zero => intro n _ h; omega
  | succ k ih =>
    intro n hn hk w
    obtain ⟨h0, h1⟩ := hn
    by_cases a : 0 ≤ n ∧ n ≤ 9
    · obtain ⟨a0, a1⟩ := a
      have D : Hid (Calls _ _ _ _ _) := digit n a0 a1 w
      rw [← dec_one n a0 a1] at D
      clear ih hk
      generalize decS n = X at *
      go_enter Tryz.func34, Tryz.ntmps34
      go_wp2_with fail
      refine D.out.mono ?_
      rintro e w1 ⟨rfl, rfl⟩
      go_wp2
      go_ret
      exact ⟨rfl, rfl⟩
    · by_cases b : 0 < n
      · have b' : n > 0 := b
        have b9 : ¬ n ≤ 9 := by omega
        have b0 : 0 ≤ n := by omega
        have e1 : n.tdiv 10 = n / 10 := Int.tdiv_eq_ediv_of_nonneg (by omega)
        have e2 : n.tmod 10 = n % 10 := Int.tmod_eq_emod_of_nonneg (by omega)
        have R : Hid (Calls _ _ _ _ _) := ih (n.tdiv 10) (by rw [e1]; constructor <;> omega) (by rw [e1]; omega) w
        have D : Hid (Calls _ _ _ _ _) := digit (n.tmod 10) (by rw [e2]; omega) (by rw [e2]; omega) w
        have HE : Hid (decS n = decS (n.tdiv 10) ++ str [48 + n.tmod 10]) := dec_up n (by omega)
        have w1 : IntKind.i64.wrap (n.tdiv 10) = n.tdiv 10 := wrap_id (by rw [e1]; constructor <;> omega)
        have w2 : IntKind.i64.wrap (n.tmod 10) = n.tmod 10 := wrap_id (by rw [e2]; constructor <;> omega)
        have hX : (decS (n.tdiv 10)).size ≤ 20 := dec_size _ (by rw [e1]; constructor <;> omega)
        have hY : (str [48 + n % 10]).size ≤ 1 := by rw [str_size]; simp
        rw [e2] at D HE w2
        clear ih hk e1 e2 a
        generalize decS (n.tdiv 10) = X at *
        generalize str [48 + n % 10] = Y at *
        obtain ⟨Z, HZ⟩ : ∃ Z, Hid (decS n = Z) := ⟨_, rfl⟩
        rw [HZ.out] at HE ⊢
        go_enter Tryz.func34, Tryz.ntmps34
        go_wp2_with fail
        refine R.out.mono ?_
        rintro e w1 ⟨rfl, rfl⟩
        go_wp2_with fail
        refine D.out.mono ?_
        rintro e w1 ⟨rfl, rfl⟩
        go_wp2
        go_ret
        exact ⟨by rw [HE.out]; rfl, rfl⟩
      · have b' : ¬ n > 0 := b
        have b0 : ¬ 0 ≤ n := fun h => a ⟨h, by omega⟩
        by_cases c : -10 < n
        · have c' : n > -10 := c
          have D : Hid (Calls _ _ _ _ _) := digit (-n) (by omega) (by omega) w
          have HE : Hid (decS n = (⟨#[45]⟩ : ByteArray) ++ str [48 + -n]) := dec_neg1 n (by omega) c
          have w1 : IntKind.i64.wrap (-n) = -n := wrap_id (by constructor <;> omega)
          have hY : (str [48 + -n]).size ≤ 1 := by rw [str_size]; simp
          have h45 : (⟨#[45]⟩ : ByteArray).size = 1 := rfl
          clear ih hk a
          generalize str [48 + -n] = Y at *
          obtain ⟨Z, HZ⟩ : ∃ Z, Hid (decS n = Z) := ⟨_, rfl⟩
          rw [HZ.out] at HE ⊢
          go_enter Tryz.func34, Tryz.ntmps34
          go_wp2_with fail
          refine D.out.mono ?_
          rintro e w1 ⟨rfl, rfl⟩
          go_wp2
          go_ret
          exact ⟨by rw [HE.out]; rfl, rfl⟩
        · have c' : ¬ n > -10 := c
          obtain ⟨m, hm⟩ : ∃ m : Int, n = -m := ⟨-n, by omega⟩
          have e1 : n.tdiv 10 = -(m / 10) := by rw [hm, Int.neg_tdiv, Int.tdiv_eq_ediv_of_nonneg (by omega)]
          have e2 : n.tmod 10 = -(m % 10) := by rw [hm, Int.neg_tmod, Int.tmod_eq_emod_of_nonneg (by omega)]
          have R : Hid (Calls _ _ _ _ _) := ih (n.tdiv 10) (by rw [e1]; constructor <;> omega) (by rw [e1]; omega) w
          have D : Hid (Calls _ _ _ _ _) := digit (-(n.tmod 10)) (by rw [e2]; omega) (by rw [e2]; omega) w
          have HE : Hid (decS n = decS (n.tdiv 10) ++ str [48 + -(n.tmod 10)]) := dec_down n (by omega)
          have w1 : IntKind.i64.wrap (n.tdiv 10) = n.tdiv 10 := wrap_id (by rw [e1]; constructor <;> omega)
          have w2 : IntKind.i64.wrap (n.tmod 10) = n.tmod 10 := wrap_id (by rw [e2]; constructor <;> omega)
          have w3 : IntKind.i64.wrap (-(n.tmod 10)) = -(n.tmod 10) := wrap_id (by rw [e2]; constructor <;> omega)
          have hX : (decS (n.tdiv 10)).size ≤ 20 := dec_size _ (by rw [e1]; constructor <;> omega)
          have hY : (str [48 + -(n.tmod 10)]).size ≤ 1 := by rw [str_size]; simp
          clear ih hk e1 e2 a hm
          generalize decS (n.tdiv 10) = X at *
          generalize str [48 + -(n.tmod 10)] = Y at *
          obtain ⟨Z, HZ⟩ : ∃ Z, Hid (decS n = Z) := ⟨_, rfl⟩
          rw [HZ.out] at HE ⊢
          go_enter Tryz.func34, Tryz.ntmps34
          go_wp2_with fail
          refine R.out.mono ?_
          rintro e w1 ⟨rfl, rfl⟩
          go_wp2_with fail
          refine D.out.mono ?_
          rintro e w1 ⟨rfl, rfl⟩
          go_wp2
          go_ret
          exact ⟨by rw [HE.out]; rfl, rfl⟩

theorem take_step (s : ByteArray) (k : Nat) (h : k < s.size) : unD ((bs s).take (k + 1)) = stpD (unD ((bs s).take k)) (bt s k) := by
  unfold unD
  rw [List.take_add_one, List.getElem?_eq_getElem (by rw [bs_length]; exact h), bs_get s k h]
  simp [List.foldl_append]

set_option maxHeartbeats 3200000 in
theorem rUnDec (s : ByteArray) (hs : s.size ≤ 281474976710656) (w : World) : Calls Tryz.prog 16 #[.string s] w fun e w' => e = .returned (unDecV s) ∧ w' = w := by
  have hgb := get_bt s
  obtain ⟨R, HR⟩ : ∃ R, Hid (unDecV s = R) := ⟨_, rfl⟩
  rw [HR.out]
  by_cases h20 : s.size ≤ 20
  · have h20' : (s.size : Int) ≤ 20 := by omega
    have HE1 : Hid (decS (unN s) = s → R = .tuple #[.int .i64 (unN s), .int .i64 0]) := by
      intro h
      rw [← HR.out]
      unfold unDecV
      rw [if_pos ⟨unN s, unN_in s, h⟩]
    have HE2 : Hid (decS (unN s) ≠ s → R = .tuple #[.int .i64 0, .int .i64 42]) := by
      intro h
      rw [← HR.out]
      unfold unDecV
      rw [if_neg]
      rintro ⟨m, hm, rfl⟩
      exact h (by rw [unN_dec m hm])
    have D : Hid (∀ w, Calls _ _ _ _ _) := fun w => rDec ((unN s).natAbs + 1) (unN s) (unN_in s) (by omega) w
    obtain ⟨F, HF⟩ : ∃ F, Hid (unD (bs s) = F) := ⟨_, rfl⟩
    obtain ⟨U, HU⟩ : ∃ U, Hid (unN s = U) := ⟨_, rfl⟩
    rw [HU.out] at HE1 HE2 D
    obtain ⟨X, HX⟩ : ∃ X, Hid (decS U = X) := ⟨_, rfl⟩
    rw [HX.out] at HE1 HE2 D
    go_enter Tryz.func16, Tryz.ntmps16
    go_wp2
    go_loopw [4, 5] (fun a i wr => ∃ (k : Nat) (A : Int), k ≤ s.size ∧ i = .int .i64 k ∧ a = .int .i64 A ∧ Hid (A = unD ((bs s).take k)) ∧ wr = w) (fun _ i _ => (s.size - intOf i).toNat)
    case atStart => exact ⟨0, 0, by omega, rfl, rfl, rfl, rfl⟩
    case round =>
      obtain ⟨k, A, hk, rfl, rfl, HA, rfl⟩ := hrel
      by_cases hlt : k < s.size
      · have hlt' : (k : Int) < s.size := by omega
        have c0 := bt_nonneg s k; have c1 := bt_le s k
        have HST := take_step s k hlt
        obtain ⟨c, HC⟩ : ∃ c, Hid (bt s k = c) := ⟨_, rfl⟩
        have hga : ∀ (h : k < s.size), ((s[k]'h).toNat : Int) = c := fun h => (hgb k h).trans HC.out
        rw [HC.out] at c0 c1 HST
        rw [← HA.out] at HST
        have HS : Hid (unD ((bs s).take (k + 1)) = stpD A c) := HST
        clear HST hgb
        by_cases hd : 48 ≤ c ∧ c ≤ 57
        · obtain ⟨d0, d1⟩ := hd
          have HN : Hid (stpD A c = IntKind.i64.wrap (IntKind.i64.wrap (10 * A) - (c - 48))) := by show _ = _; unfold stpD; rw [if_pos ⟨d0, d1⟩]
          have wc : IntKind.u8.wrap (c - 48) = c - 48 := by rw [IntKind.wrap_u8]; omega
          have wd : IntKind.i64.wrap (c - 48) = c - 48 := by rw [IntKind.wrap_i64]; omega
          have g1 : c ≥ 48 := d0
          go_wp2
          go_roundw
          case rel => exact ⟨k + 1, _, by omega, by go_num, rfl, by show _ = _; rw [HS.out, HN.out]; simp only [IntWalk.i64_left], by first | rfl | trivial⟩
          case measure => simp [intOf]; omega
        · have HN : Hid (stpD A c = A) := by show _ = _; unfold stpD; rw [if_neg hd]
          rcases Int.lt_or_le c 48 with d | d
          · have g1 : ¬ c ≥ 48 := by omega
            clear hd
            go_wp2
            go_roundw
            case rel => exact ⟨k + 1, _, by omega, by go_num, rfl, by show _ = _; rw [HS.out, HN.out], by first | rfl | trivial⟩
            case measure => simp [intOf]; omega
          · have g1 : c ≥ 48 := by omega
            have g2 : ¬ c ≤ 57 := fun h => hd ⟨d, h⟩
            clear hd
            go_wp2
            go_roundw
            case rel => exact ⟨k + 1, _, by omega, by go_num, rfl, by show _ = _; rw [HS.out, HN.out], by first | rfl | trivial⟩
            case measure => simp [intOf]; omega
      · have hlt' : ¬ (k : Int) < s.size := by omega
        have hA : A = F := by rw [HA.out, List.take_of_length_le (by rw [bs_length]; omega), HF.out]
        subst hA
        have HUN : Hid (U = if s.size = 0 ∨ bt s 0 ≠ 45 then IntKind.i64.wrap (-A) else A) := by
          show _ = _
          rw [← HU.out]
          unfold unN
          rw [HF.out]
        clear HA
        by_cases h0 : s.size = 0
        · have HV : Hid (U = IntKind.i64.wrap (-A)) := by show _ = _; rw [HUN.out, if_pos (.inl h0)]
          rw [IntWalk.i64_left] at HV
          rw [HV.out] at D
          clear HUN
          have h0' : ((s.size : Int) == 0) = true := by rw [h0]; rfl
          clear h0
          go_wp2_with fail
          refine (D.out _).mono ?_
          rintro e w1 ⟨rfl, rfl⟩
          by_cases hX : X = s
          · have hE := HE1.out hX
            rw [HV.out] at hE
            have HE : Hid (R = _) := hE
            have hq : (X.toList == s.toList) = true := by rw [toList_bs]; exact decide_eq_true hX
            clear hE hX
            go_wp2
            go_ret2
            exact ⟨by rw [HE.out]; rfl, rfl⟩
          · have HE : Hid (R = _) := HE2.out hX
            have hq : (X.toList == s.toList) = false := by rw [toList_bs]; exact decide_eq_false hX
            clear hX
            go_wp2
            go_ret2
            exact ⟨by rw [HE.out]; rfl, rfl⟩
        · have h0' : ((s.size : Int) == 0) = false := beq_eq_false_iff_ne.2 (by omega)
          have hpos : 0 < s.size := by omega
          have hpos' : (0 : Int) < s.size := by omega
          obtain ⟨c, HC⟩ : ∃ c, Hid (bt s 0 = c) := ⟨_, rfl⟩
          have hga : ∀ (h : 0 < s.size), ((s[0]'h).toNat : Int) = c := fun h => (hgb 0 h).trans HC.out
          clear hgb
          by_cases h45 : c = 45
          · have HV : Hid (U = A) := by show _ = _; rw [HUN.out, if_neg (by rw [HC.out]; simp [h0, h45])]
            rw [HV.out] at D
            clear HUN h0
            have h45' : (c == 45) = true := beq_iff_eq.2 h45
            clear h45
            go_wp2_with fail
            refine (D.out _).mono ?_
            rintro e w1 ⟨rfl, rfl⟩
            by_cases hX : X = s
            · have hE := HE1.out hX
              rw [HV.out] at hE
              have HE : Hid (R = _) := hE
              have hq : (X.toList == s.toList) = true := by rw [toList_bs]; exact decide_eq_true hX
              clear hE hX
              go_wp2
              go_ret2
              exact ⟨by rw [HE.out]; rfl, rfl⟩
            · have HE : Hid (R = _) := HE2.out hX
              have hq : (X.toList == s.toList) = false := by rw [toList_bs]; exact decide_eq_false hX
              clear hX
              go_wp2
              go_ret2
              exact ⟨by rw [HE.out]; rfl, rfl⟩
          · have HV : Hid (U = IntKind.i64.wrap (-A)) := by show _ = _; rw [HUN.out, if_pos (.inr (by rw [HC.out]; exact h45))]
            rw [IntWalk.i64_left] at HV
            rw [HV.out] at D
            clear HUN h0
            have h45' : (c == 45) = false := beq_eq_false_iff_ne.2 h45
            clear h45
            go_wp2_with fail
            refine (D.out _).mono ?_
            rintro e w1 ⟨rfl, rfl⟩
            by_cases hX : X = s
            · have hE := HE1.out hX
              rw [HV.out] at hE
              have HE : Hid (R = _) := hE
              have hq : (X.toList == s.toList) = true := by rw [toList_bs]; exact decide_eq_true hX
              clear hE hX
              go_wp2
              go_ret2
              exact ⟨by rw [HE.out]; rfl, rfl⟩
            · have HE : Hid (R = _) := HE2.out hX
              have hq : (X.toList == s.toList) = false := by rw [toList_bs]; exact decide_eq_false hX
              clear hX
              go_wp2
              go_ret2
              exact ⟨by rw [HE.out]; rfl, rfl⟩
  · have h20' : ¬ (s.size : Int) ≤ 20 := by omega
    have HE : Hid (R = .tuple #[.int .i64 0, .int .i64 42]) := by
      show _ = _
      rw [← HR.out]
      unfold unDecV
      rw [if_neg]
      rintro ⟨m, hm, rfl⟩
      exact h20 (dec_size m hm)
    clear hgb
    go_enter Tryz.func16, Tryz.ntmps16
    go_wp2
    go_ret2
    exact ⟨by rw [HE.out]; rfl, rfl⟩
end Go.Proofs.YthdkbjbhjfiaiaaGreatDoor.wc

namespace Go.Proofs.YthdkbjbhjfiaiaaGreatDoor.u1
open Go.RowKit Go.PlainAid Go.Shelf
open Go.Proofs.YthdkbjbhjfiaiaaGreatDoor.pj Go.Proofs.YthdkbjbhjfiaiaaGreatDoor.rf Go.Proofs.YthdkbjbhjfiaiaaGreatDoor.mo Go.Proofs.YthdkbjbhjfiaiaaGreatDoor.ta Go.Proofs.YthdkbjbhjfiaiaaGreatDoor.tb Go.Proofs.YthdkbjbhjfiaiaaGreatDoor.tc Go.Proofs.YthdkbjbhjfiaiaaGreatDoor.tj Go.Proofs.YthdkbjbhjfiaiaaGreatDoor.wa Go.Proofs.YthdkbjbhjfiaiaaGreatDoor.vc Go.Proofs.YthdkbjbhjfiaiaaGreatDoor.vd Go.Proofs.YthdkbjbhjfiaiaaGreatDoor.yc Go.Proofs.YthdkbjbhjfiaiaaGreatDoor.si
set_option linter.unusedVariables false
set_option maxRecDepth 4000

theorem below_dr {B : Nat} {a w : World} (h : Below B a w) : Below B a w.drew := ⟨h.os, h.tape, h.output, h.size, h.block⟩
abbrev PowT (w : World) : Prop := Lib.TabIs Tryz.prog w "internal/strconv.uint64pow10" .u64 Lib.pow10Tab
theorem PowT.down {w w' : World} (h : PowT w) (hb : Below w.heap.size w w') : PowT w' := Lib.TabBelow.here ((Lib.tabBelow_of_tabIs h).on hb)
theorem dec1 (n : Int) (h : I64 n) (w : World) (hw : PowT w) : Calls Tryz.prog 59 #[.int .i64 n] w fun e w' => e = .returned (.string (decS n)) ∧ Below w.heap.size w w' := by
  have H : Hid (Calls Tryz.prog 91 #[.int .i64 n] w fun e w' => e = .returned (.string (decS n)) ∧ Below w.heap.size w w') := by
    have := Any.strconv_Itoa laysM171 n h.1 h.2 w hw
    refine this.mono ?_
    rintro e w' ⟨rfl, k, os, rfl⟩
    exact ⟨by rw [itoa_dec], wb.below_grow w k os⟩
  go_enter Tryz.func59, Tryz.ntmps59
  go_wp2_with fail
  refine H.out.mono ?_
  rintro e w1 ⟨rfl, hb⟩
  have B : Hid (Below w.heap.size w w1) := hb
  clear hb
  go_wp2
  go_ret
  exact ⟨rfl, B.out⟩
-- the text of a promise
def prB : ByteArray := ⟨#[112, 114, 111, 109, 105, 115, 101]⟩
def prN : ByteArray := ⟨#[112, 114, 111, 109, 105, 115, 101, 10]⟩
def n1B : ByteArray := ⟨#[10]⟩
def tX (h : ByteArray) (t d : Int) : ByteArray := prN ++ str (hexL (bs h)) ++ n1B ++ decS t ++ n1B ++ decS d ++ n1B
theorem sg16 : ∀ i : Fin 16, sg A16 (i.val : Int) ≠ 10 := by decide +kernel
theorem nl_hex (h : ByteArray) : nl (str (hexL (bs h))) = false := by
  cases e : nl (str (hexL (bs h)))
  · rfl
  · rw [nl_iff, bs_str _ (hexL_in _ (bs_in h))] at e
    unfold hexL at e
    obtain ⟨v, hv, hs⟩ := List.mem_map.1 e
    have hi := nibs_in (bs h) (bs_in h) v hv
    have := sg16 ⟨v.toNat, by omega⟩
    rw [show ((v.toNat : Nat) : Int) = v by omega] at this
    exact absurd hs this
theorem nl_dec (n : Int) : nl (decS n) = false := by
  cases e : nl (decS n)
  · rfl
  · rw [nl_iff, bs_dec] at e
    unfold decI at e
    split at e
    · rcases List.mem_cons.1 e with e | e
      · omega
      · have := dg_in _ _ e; omega
    · have := dg_in _ _ e; omega
theorem nl_pr : nl prB = false := by decide +kernel
theorem join4 (a b c d : ByteArray) (ha : nl a = false) (hb : nl b = false) (hc : nl c = false) (hd : nl d = false) :
    joinV [a, b, c, d] = .tuple #[.string (a ++ n1B ++ b ++ n1B ++ c ++ n1B ++ d ++ n1B), .int .i64 0] := by
  unfold joinV
  rw [if_pos (by simp [ha, hb, hc, hd])]
  congr 4
  apply ByteArray.ext
  simp only [ByteArray.data_append, n1B]
  apply Array.ext'
  simp [joinL]
theorem join_pr (h : ByteArray) (t d : Int) : joinV [prB, str (hexL (bs h)), decS t, decS d] = .tuple #[.string (tX h t d), .int .i64 0] := by
  rw [join4 _ _ _ _ nl_pr (nl_hex h) (nl_dec t) (nl_dec d)]
  have e : prB ++ n1B = prN := by apply bs_inj; decide +kernel
  rw [e]
  rfl
theorem tX_size (h : ByteArray) (t d : Int) (ht : I64 t) (hd : I64 d) : (tX h t d).size ≤ 2 * h.size + 60 := by
  have e1 := dec_size t ht
  have e2 := dec_size d hd
  have e3 : prN.size = 8 := rfl
  have e4 : n1B.size = 1 := rfl
  unfold tX
  simp only [ByteArray.size_append]
  rw [str_size, hexL_length, bs_length]
  omega
theorem box4 (w w' : World) (a b c d : Value) (t : TypeId) (h : Below (w.heap.size + 1) (w.alloc (.cells #[a, b, c, d] t)) w') : w'.cell? ⟨w.heap.size, 0, none⟩ = some a ∧ w'.cell? ⟨w.heap.size, 1, none⟩ = some b ∧ w'.cell? ⟨w.heap.size, 2, none⟩ = some c ∧ w'.cell? ⟨w.heap.size, 3, none⟩ = some d := by
  refine ⟨?_, ?_, ?_, ?_⟩
  · rw [h.cell (p := ⟨w.heap.size, 0, none⟩) (Nat.lt_succ_self _), World.cell?_alloc_at _ _ _ _ rfl]; rfl
  · rw [h.cell (p := ⟨w.heap.size, 1, none⟩) (Nat.lt_succ_self _), World.cell?_alloc_at _ _ _ _ rfl]; rfl
  · rw [h.cell (p := ⟨w.heap.size, 2, none⟩) (Nat.lt_succ_self _), World.cell?_alloc_at _ _ _ _ rfl]; rfl
  · rw [h.cell (p := ⟨w.heap.size, 3, none⟩) (Nat.lt_succ_self _), World.cell?_alloc_at _ _ _ _ rfl]; rfl
theorem reads4 (w : World) (a b c d : ByteArray) (t : TypeId) : Reads (w.alloc (.cells #[.string a, .string b, .string c, .string d] t)) (.slice (some ⟨w.heap.size, 0, none⟩) 4 4) [a, b, c, d] := by
  refine ⟨_, 4, rfl, .inr ⟨w.heap.size, 0, rfl, fun i hi => ?_⟩⟩
  rw [Nat.zero_add, World.cell?_alloc_at _ _ _ _ rfl]
  match i, hi with
  | 0, _ => rfl
  | 1, _ => rfl
  | 2, _ => rfl
  | 3, _ => rfl
theorem tk4 (a b c d : ByteArray) : tk [a, b, c, d] 4 = a.size + b.size + c.size + d.size := by
  show 0 + a.size + b.size + c.size + d.size = _
  omega
end Go.Proofs.YthdkbjbhjfiaiaaGreatDoor.u1
