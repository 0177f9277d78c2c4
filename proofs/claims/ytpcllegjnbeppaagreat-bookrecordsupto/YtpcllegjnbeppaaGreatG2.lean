import Derived.Shelf.Strings.Builder1
import Derived.Shelf.Strings.BuilderF
import Derived.Shelf.Strings.BuilderK
import Derived.Shelf.Small.Wraps
import Derived.Shelf.LaysM
import Derived.Shelf.Strconv.Clone
import Derived.Shelf.Sort.Plain
import Derived.Shelf.Strings.Prefix
import Derived.Shelf.Slices.In.SortNone
import Derived.Test.YtpcllegjnbeppaaGreatProg
import Derived.Shelf.Pu.Clone
import Derived.Maps.RangeWalk
import Derived.Maps.OwnSet
import Derived.Sort.KeysCollected
import Derived.WideShapes
import Derived.Test.YtpcllegjnbeppaaGreatG1
import Derived.Maps.OwnOps
import Derived.StringKeys
import Derived.Deep.RegionHeld3
import Derived.Deep.DeepCutAuto
import Derived.BigQuiet
import Derived.Shelf.SlMaps.Clone
import Derived.Sort.OwnSorted
import Derived.OwnWalk
namespace Go.Proofs.YtpcllegjnbeppaaGreat.sh
open Go.Shelf
set_option linter.unusedVariables false
def lays169_ren : Go.Shelf.Ren := ⟨fun | 169 => 48 | n => n, fun | 70 => 83 | 9 => 9 | 0 => 0 | 72 => 86 | 37 => 84 | 127 => 134 | 3 => 3 | 5 => 5 | n => n, fun | n => n⟩
theorem lays169 : Go.Proofs.Lays.n169 Tryz.prog lays169_ren := {
  mixed := by kernel_rfl
  f169 := Tryz.func48.trans (congrArg some (by kernel_rfl))
  t0 := Tryz.underlying0
  a0 := Tryz.isAgg0
  z0 := Tryz.sizeOf0
  v0 := Tryz.zeroValue0
  t3 := Tryz.underlying3
  a3 := Tryz.isAgg3
  z3 := Tryz.sizeOf3
  v3 := Tryz.zeroValue3
  t9 := Tryz.underlying9
  a9 := Tryz.isAgg9
  z9 := Tryz.sizeOf9
  v9 := Tryz.zeroValue9
  t37 := Tryz.underlying84
  a37 := Tryz.isAgg84
  z37 := Tryz.sizeOf84
  v37 := Tryz.zeroValue84
  t70 := Tryz.underlying83
  a70 := Tryz.isAgg83
  z70 := Tryz.sizeOf83
  v70 := Tryz.zeroValue83
  t72 := Tryz.underlying86
  a72 := Tryz.isAgg86
  z72 := Tryz.sizeOf86
  v72 := Tryz.zeroValue86
  t127 := Tryz.underlying134
  a127 := Tryz.isAgg134
  z127 := Tryz.sizeOf134
  v127 := Tryz.zeroValue134 }
def laysM316_ren : Go.Shelf.Ren := ⟨fun | 316 => 115 | n => n, fun | 9 => 9 | 3 => 3 | 4 => 4 | 37 => 84 | 0 => 0 | 127 => 134 | 5 => 5 | n => n, fun | n => n⟩
theorem laysM316 : Go.Proofs.LaysM.n316 Tryz.prog laysM316_ren := {
  mixed := by kernel_rfl
  f316 := Tryz.func115.trans (congrArg some (by kernel_rfl))
  t0 := Tryz.underlying0
  a0 := Tryz.isAgg0
  z0 := Tryz.sizeOf0
  v0 := Tryz.zeroValue0
  t3 := Tryz.underlying3
  a3 := Tryz.isAgg3
  z3 := Tryz.sizeOf3
  v3 := Tryz.zeroValue3
  t4 := Tryz.underlying4
  a4 := Tryz.isAgg4
  z4 := Tryz.sizeOf4
  v4 := Tryz.zeroValue4
  t9 := Tryz.underlying9
  a9 := Tryz.isAgg9
  z9 := Tryz.sizeOf9
  v9 := Tryz.zeroValue9
  t37 := Tryz.underlying84
  a37 := Tryz.isAgg84
  z37 := Tryz.sizeOf84
  v37 := Tryz.zeroValue84
  t127 := Tryz.underlying134
  a127 := Tryz.isAgg134
  z127 := Tryz.sizeOf134
  v127 := Tryz.zeroValue134
  t5 := Tryz.underlying5
  a5 := Tryz.isAgg5
  z5 := Tryz.sizeOf5
  v5 := Tryz.zeroValue5
  i0 := by kernel_rfl
  i3 := by kernel_rfl
  i4 := by kernel_rfl
  i5 := by kernel_rfl
  i9 := by kernel_rfl
  i37 := by kernel_rfl
  i127 := by kernel_rfl }
def lays190_ren : Go.Shelf.Ren := ⟨fun | 190 => 88 | 125 => 120 | 258 => 119 | 128 => 151 | 129 => 139 | 302 => 142 | 303 => 143 | 304 => 144 | 305 => 145 | 306 => 146 | 307 => 147 | 308 => 148 | 309 => 149 | 310 => 150 | 333 => 156 | 329 => 157 | 330 => 158 | 334 => 159 | 335 => 160 | 336 => 161 | 344 => 163 | n => n, fun | 31 => 91 | 9 => 9 | 3 => 3 | 46 => 182 | 0 => 0 | 51 => 154 | 53 => 157 | 4 => 4 | 183 => 195 | 182 => 194 | 131 => 199 | 5 => 5 | 218 => 206 | 222 => 210 | 228 => 213 | 229 => 71 | n => n, fun | n => n⟩
theorem lays190 : Go.Proofs.Lays.n190 Tryz.prog lays190_ren := {
  mixed := by kernel_rfl
  f125 := Tryz.func120.trans (congrArg some (by kernel_rfl))
  f128 := Tryz.func151.trans (congrArg some (by kernel_rfl))
  f129 := Tryz.func139.trans (congrArg some (by kernel_rfl))
  f190 := Tryz.func88.trans (congrArg some (by kernel_rfl))
  f258 := Tryz.func119.trans (congrArg some (by kernel_rfl))
  f302 := Tryz.func142.trans (congrArg some (by kernel_rfl))
  f303 := Tryz.func143.trans (congrArg some (by kernel_rfl))
  f304 := Tryz.func144.trans (congrArg some (by kernel_rfl))
  f305 := Tryz.func145.trans (congrArg some (by kernel_rfl))
  f306 := Tryz.func146.trans (congrArg some (by kernel_rfl))
  f307 := Tryz.func147.trans (congrArg some (by kernel_rfl))
  f308 := Tryz.func148.trans (congrArg some (by kernel_rfl))
  f309 := Tryz.func149.trans (congrArg some (by kernel_rfl))
  f310 := Tryz.func150.trans (congrArg some (by kernel_rfl))
  f329 := Tryz.func157.trans (congrArg some (by kernel_rfl))
  f330 := Tryz.func158.trans (congrArg some (by kernel_rfl))
  f333 := Tryz.func156.trans (congrArg some (by kernel_rfl))
  f334 := Tryz.func159.trans (congrArg some (by kernel_rfl))
  f335 := Tryz.func160.trans (congrArg some (by kernel_rfl))
  f336 := Tryz.func161.trans (congrArg some (by kernel_rfl))
  f344 := Tryz.func163.trans (congrArg some (by kernel_rfl))
  t0 := Tryz.underlying0
  a0 := Tryz.isAgg0
  z0 := Tryz.sizeOf0
  v0 := Tryz.zeroValue0
  t3 := Tryz.underlying3
  a3 := Tryz.isAgg3
  z3 := Tryz.sizeOf3
  v3 := Tryz.zeroValue3
  t4 := Tryz.underlying4
  a4 := Tryz.isAgg4
  z4 := Tryz.sizeOf4
  v4 := Tryz.zeroValue4
  t5 := Tryz.underlying5
  a5 := Tryz.isAgg5
  z5 := Tryz.sizeOf5
  v5 := Tryz.zeroValue5
  t9 := Tryz.underlying9
  a9 := Tryz.isAgg9
  z9 := Tryz.sizeOf9
  v9 := Tryz.zeroValue9
  t31 := Tryz.underlying91
  a31 := Tryz.isAgg91
  z31 := Tryz.sizeOf91
  v31 := Tryz.zeroValue91
  t46 := Tryz.underlying182
  a46 := Tryz.isAgg182
  z46 := Tryz.sizeOf182
  v46 := Tryz.zeroValue182
  t51 := Tryz.underlying154
  a51 := Tryz.isAgg154
  z51 := Tryz.sizeOf154
  v51 := Tryz.zeroValue154
  t53 := Tryz.underlying157
  a53 := Tryz.isAgg157
  z53 := Tryz.sizeOf157
  v53 := Tryz.zeroValue157
  t131 := Tryz.underlying199
  a131 := Tryz.isAgg199
  z131 := Tryz.sizeOf199
  v131 := Tryz.zeroValue199
  t182 := Tryz.underlying194
  a182 := Tryz.isAgg194
  z182 := Tryz.sizeOf194
  v182 := Tryz.zeroValue194
  t183 := Tryz.underlying195
  a183 := Tryz.isAgg195
  z183 := Tryz.sizeOf195
  v183 := Tryz.zeroValue195
  t218 := Tryz.underlying206
  a218 := Tryz.isAgg206
  z218 := Tryz.sizeOf206
  v218 := Tryz.zeroValue206
  t222 := Tryz.underlying210
  a222 := Tryz.isAgg210
  z222 := Tryz.sizeOf210
  v222 := Tryz.zeroValue210
  t228 := Tryz.underlying213
  a228 := Tryz.isAgg213
  z228 := Tryz.sizeOf213
  v228 := Tryz.zeroValue213
  t229 := Tryz.underlying71
  a229 := Tryz.isAgg71
  z229 := Tryz.sizeOf71
  v229 := Tryz.zeroValue71 }
def lays99_ren : Go.Shelf.Ren := ⟨fun | 99 => 87 | 206 => 118 | n => n, fun | 9 => 9 | 4 => 4 | 3 => 3 | n => n, fun | n => n⟩
theorem lays99 : Go.Proofs.Lays.n99 Tryz.prog lays99_ren := {
  mixed := by kernel_rfl
  f99 := Tryz.func87.trans (congrArg some (by kernel_rfl))
  f206 := Tryz.func118.trans (congrArg some (by kernel_rfl))
  t3 := Tryz.underlying3
  a3 := Tryz.isAgg3
  z3 := Tryz.sizeOf3
  v3 := Tryz.zeroValue3
  t4 := Tryz.underlying4
  a4 := Tryz.isAgg4
  z4 := Tryz.sizeOf4
  v4 := Tryz.zeroValue4
  t9 := Tryz.underlying9
  a9 := Tryz.isAgg9
  z9 := Tryz.sizeOf9
  v9 := Tryz.zeroValue9 }
theorem extra169 : Builder.Extra Tryz.prog lays169_ren := {
  sizeBuilder := by kernel_rfl
  liesBuilder := by kernel_rfl
  t5 := Tryz.underlying5
  a5 := Tryz.isAgg5
  z5 := Tryz.sizeOf5
  v5 := Tryz.zeroValue5
  infoByte := by kernel_rfl
  cellsByte := by kernel_rfl
  sizeByte := by kernel_rfl
  neB5 := by decide }
end Go.Proofs.YtpcllegjnbeppaaGreat.sh

namespace Go.Proofs.YtpcllegjnbeppaaGreat.sb
open Go.Shelf
set_option linter.unusedVariables false
def ren : Go.Shelf.Ren := ⟨fun | 166 => 45 | 240 => 86 | 276 => 117 | 169 => 48 | 167 => 89 | n => n, fun | 0 => 0 | 3 => 3 | 4 => 4 | 5 => 5 | 9 => 9 | 20 => 20 | 37 => 84 | 70 => 83 | 72 => 86 | 75 => 88 | 76 => 89 | 80 => 33 | 164 => 178 | 127 => 134 | n => n, fun | n => n⟩
theorem lays166 : Go.Proofs.Lays.n166 Tryz.prog ren := {
  mixed := by kernel_rfl
  f166 := Tryz.func45.trans (congrArg some (by kernel_rfl))
  f240 := Tryz.func86.trans (congrArg some (by kernel_rfl))
  f276 := Tryz.func117.trans (congrArg some (by kernel_rfl))
  t0 := Tryz.underlying0
  a0 := Tryz.isAgg0
  z0 := Tryz.sizeOf0
  v0 := Tryz.zeroValue0
  t3 := Tryz.underlying3
  a3 := Tryz.isAgg3
  z3 := Tryz.sizeOf3
  v3 := Tryz.zeroValue3
  t4 := Tryz.underlying4
  a4 := Tryz.isAgg4
  z4 := Tryz.sizeOf4
  v4 := Tryz.zeroValue4
  t9 := Tryz.underlying9
  a9 := Tryz.isAgg9
  z9 := Tryz.sizeOf9
  v9 := Tryz.zeroValue9
  t20 := Tryz.underlying20
  a20 := Tryz.isAgg20
  z20 := Tryz.sizeOf20
  v20 := Tryz.zeroValue20
  t37 := Tryz.underlying84
  a37 := Tryz.isAgg84
  z37 := Tryz.sizeOf84
  v37 := Tryz.zeroValue84
  t70 := Tryz.underlying83
  a70 := Tryz.isAgg83
  z70 := Tryz.sizeOf83
  v70 := Tryz.zeroValue83
  t72 := Tryz.underlying86
  a72 := Tryz.isAgg86
  z72 := Tryz.sizeOf86
  v72 := Tryz.zeroValue86
  t75 := Tryz.underlying88
  a75 := Tryz.isAgg88
  z75 := Tryz.sizeOf88
  v75 := Tryz.zeroValue88
  t164 := Tryz.underlying178
  a164 := Tryz.isAgg178
  z164 := Tryz.sizeOf178
  v164 := Tryz.zeroValue178 }
theorem lays167 : Go.Proofs.Lays.n167 Tryz.prog ren := {
  mixed := by kernel_rfl
  f167 := Tryz.func89.trans (congrArg some (by kernel_rfl))
  f240 := Tryz.func86.trans (congrArg some (by kernel_rfl))
  f276 := Tryz.func117.trans (congrArg some (by kernel_rfl))
  t0 := Tryz.underlying0
  a0 := Tryz.isAgg0
  z0 := Tryz.sizeOf0
  v0 := Tryz.zeroValue0
  t4 := Tryz.underlying4
  a4 := Tryz.isAgg4
  z4 := Tryz.sizeOf4
  v4 := Tryz.zeroValue4
  t5 := Tryz.underlying5
  a5 := Tryz.isAgg5
  z5 := Tryz.sizeOf5
  v5 := Tryz.zeroValue5
  t9 := Tryz.underlying9
  a9 := Tryz.isAgg9
  z9 := Tryz.sizeOf9
  v9 := Tryz.zeroValue9
  t20 := Tryz.underlying20
  a20 := Tryz.isAgg20
  z20 := Tryz.sizeOf20
  v20 := Tryz.zeroValue20
  t37 := Tryz.underlying84
  a37 := Tryz.isAgg84
  z37 := Tryz.sizeOf84
  v37 := Tryz.zeroValue84
  t70 := Tryz.underlying83
  a70 := Tryz.isAgg83
  z70 := Tryz.sizeOf83
  v70 := Tryz.zeroValue83
  t72 := Tryz.underlying86
  a72 := Tryz.isAgg86
  z72 := Tryz.sizeOf86
  v72 := Tryz.zeroValue86
  t75 := Tryz.underlying88
  a75 := Tryz.isAgg88
  z75 := Tryz.sizeOf88
  v75 := Tryz.zeroValue88
  t164 := Tryz.underlying178
  a164 := Tryz.isAgg178
  z164 := Tryz.sizeOf178
  v164 := Tryz.zeroValue178 }
theorem lays169 : Go.Proofs.Lays.n169 Tryz.prog ren := {
  mixed := by kernel_rfl
  f169 := Tryz.func48.trans (congrArg some (by kernel_rfl))
  t0 := Tryz.underlying0
  a0 := Tryz.isAgg0
  z0 := Tryz.sizeOf0
  v0 := Tryz.zeroValue0
  t3 := Tryz.underlying3
  a3 := Tryz.isAgg3
  z3 := Tryz.sizeOf3
  v3 := Tryz.zeroValue3
  t9 := Tryz.underlying9
  a9 := Tryz.isAgg9
  z9 := Tryz.sizeOf9
  v9 := Tryz.zeroValue9
  t37 := Tryz.underlying84
  a37 := Tryz.isAgg84
  z37 := Tryz.sizeOf84
  v37 := Tryz.zeroValue84
  t70 := Tryz.underlying83
  a70 := Tryz.isAgg83
  z70 := Tryz.sizeOf83
  v70 := Tryz.zeroValue83
  t72 := Tryz.underlying86
  a72 := Tryz.isAgg86
  z72 := Tryz.sizeOf86
  v72 := Tryz.zeroValue86
  t127 := Tryz.underlying134
  a127 := Tryz.isAgg134
  z127 := Tryz.sizeOf134
  v127 := Tryz.zeroValue134 }
theorem extra : Builder.Extra Tryz.prog ren := {
  sizeBuilder := by kernel_rfl
  liesBuilder := by kernel_rfl
  t5 := Tryz.underlying5
  a5 := Tryz.isAgg5
  z5 := Tryz.sizeOf5
  v5 := Tryz.zeroValue5
  infoByte := by kernel_rfl
  cellsByte := by kernel_rfl
  sizeByte := by kernel_rfl
  neB5 := by decide }
def renC : Go.Shelf.Ren := ⟨fun | 25 => 115 | n => n, fun | 0 => 0 | 3 => 3 | 4 => 4 | 5 => 5 | 9 => 9 | 37 => 84 | 47 => 134 | n => n, fun | n => n⟩
theorem laysC : Go.Proofs.LaysPu.n25 Tryz.prog renC := {
  mixed := by kernel_rfl
  f25 := Tryz.func115.trans (congrArg some (by kernel_rfl))
  t0 := Tryz.underlying0
  a0 := Tryz.isAgg0
  z0 := Tryz.sizeOf0
  v0 := Tryz.zeroValue0
  i0 := by kernel_rfl
  t3 := Tryz.underlying3
  a3 := Tryz.isAgg3
  z3 := Tryz.sizeOf3
  v3 := Tryz.zeroValue3
  i3 := by kernel_rfl
  t4 := Tryz.underlying4
  a4 := Tryz.isAgg4
  z4 := Tryz.sizeOf4
  v4 := Tryz.zeroValue4
  i4 := by kernel_rfl
  t5 := Tryz.underlying5
  a5 := Tryz.isAgg5
  z5 := Tryz.sizeOf5
  v5 := Tryz.zeroValue5
  i5 := by kernel_rfl
  t9 := Tryz.underlying9
  a9 := Tryz.isAgg9
  z9 := Tryz.sizeOf9
  v9 := Tryz.zeroValue9
  i9 := by kernel_rfl
  t37 := Tryz.underlying84
  a37 := Tryz.isAgg84
  z37 := Tryz.sizeOf84
  v37 := Tryz.zeroValue84
  i37 := by kernel_rfl
  t47 := Tryz.underlying134
  a47 := Tryz.isAgg134
  z47 := Tryz.sizeOf134
  v47 := Tryz.zeroValue134
  i47 := by kernel_rfl }
end Go.Proofs.YtpcllegjnbeppaaGreat.sb

namespace Go.Proofs.YtpcllegjnbeppaaGreat.ya
open Go.Maps
set_option linter.unusedVariables false
set_option linter.unusedSimpArgs false

abbrev Rec := ByteArray × ByteArray
def bs (s : ByteArray) : List UInt8 := s.data.toList
theorem bs_inj {a b : ByteArray} (h : bs a = bs b) : a = b := by
  cases a; cases b
  simp only [bs] at h
  rw [Array.toList_inj] at h
  rw [h]
theorem bs_eq (a b : ByteArray) : (bs a == bs b) = decide (a = b) := by
  by_cases h : a = b
  · subst h; simp
  · rw [decide_eq_false h, beq_eq_false_iff_ne]
    exact fun e => h (bs_inj e)
theorem bs_len (a : ByteArray) : (bs a).length = a.size := Array.length_toList
def lt (a b : ByteArray) : Bool := bytesBefore (bs a) (bs b)
theorem lt_irr (a : ByteArray) : lt a a = false := WideAt.bytes_irrefl _
theorem lt_tr {a b c : ByteArray} (h1 : lt a b = true) (h2 : lt b c = true) : lt a c = true := WideShapes.bytes_trans _ _ _ h1 h2
theorem lt_tot (a b : ByteArray) (h : a ≠ b) : lt a b = true ∨ lt b a = true := WideAt.bytes_total _ _ (fun e => h (bs_inj e))
theorem lt_ne {a b : ByteArray} (h : lt a b = true) : a ≠ b := by rintro rfl; rw [lt_irr] at h; cases h
theorem lt_asym {a b : ByteArray} (h : lt a b = true) : lt b a = false := by
  cases h2 : lt b a with
  | false => rfl
  | true => have := lt_tr h h2; rw [lt_irr] at this; cases this
theorem lt_iff (a b : ByteArray) : lt a b = decide (bs a < bs b) := by
  unfold lt
  generalize bs a = x
  generalize bs b = y
  induction x generalizing y with
  | nil => cases y <;> simp [bytesBefore]
  | cons u x ih =>
    cases y with
    | nil => simp [bytesBefore]
    | cons v y =>
      simp only [bytesBefore, ih y]
      by_cases h1 : u < v
      · simp [h1, List.cons_lt_cons_iff]
      · by_cases h2 : u = v
        · subst h2; simp [List.cons_lt_cons_iff]
        · simp [h1, h2, List.cons_lt_cons_iff]

-- records, rising by their keys
def ins (x : Rec) : List Rec → List Rec
  | [] => [x]
  | y :: r => if lt x.1 y.1 then x :: y :: r else y :: ins x r
def del (k : ByteArray) (r : List Rec) : List Rec := r.filter fun p => !decide (p.1 = k)
def put (k d : ByteArray) (r : List Rec) : List Rec := ins (k, d) (del k r)
def rget (k : ByteArray) (r : List Rec) : Option ByteArray := (r.find? fun p => decide (p.1 = k)).map (·.2)
def Srt (r : List Rec) : Prop := r.Pairwise fun p q => lt p.1 q.1 = true
def cnt (p : Rec) : Nat := p.1.size + p.2.size + 16
def tot : List Rec → Nat
  | [] => 0
  | p :: r => cnt p + tot r
def at0 (k : ByteArray) (r : List Rec) : Nat := match rget k r with | some d => cnt (k, d) | none => 0
theorem mem_ins {x y : Rec} {r : List Rec} : y ∈ ins x r ↔ y = x ∨ y ∈ r := by
  induction r with
  | nil => simp [ins]
  | cons z r ih =>
    unfold ins
    split
    · simp
    · simp only [List.mem_cons, ih]
      constructor
      · rintro (h | h | h)
        · exact .inr (.inl h)
        · exact .inl h
        · exact .inr (.inr h)
      · rintro (h | h | h)
        · exact .inr (.inl h)
        · exact .inl h
        · exact .inr (.inr h)
theorem mem_del {k : ByteArray} {y : Rec} {r : List Rec} : y ∈ del k r ↔ y ∈ r ∧ y.1 ≠ k := by simp [del]
theorem mem_put {k d : ByteArray} {y : Rec} {r : List Rec} : y ∈ put k d r ↔ y = (k, d) ∨ (y ∈ r ∧ y.1 ≠ k) := by rw [put, mem_ins, mem_del]
theorem srt_del {k : ByteArray} {r : List Rec} (h : Srt r) : Srt (del k r) := List.Pairwise.filter _ h
theorem srt_ins {x : Rec} {r : List Rec} (h : Srt r) (hn : ∀ y ∈ r, y.1 ≠ x.1) : Srt (ins x r) := by
  induction r with
  | nil => simp [ins, Srt]
  | cons y r ih =>
    obtain ⟨h1, h2⟩ := List.pairwise_cons.1 h
    unfold ins
    split
    · rename_i hl
      refine List.pairwise_cons.2 ⟨fun z hz => ?_, h⟩
      rcases List.mem_cons.1 hz with rfl | hz
      · exact hl
      · exact lt_tr hl (h1 z hz)
    · rename_i hl
      refine List.pairwise_cons.2 ⟨fun z hz => ?_, ih h2 (fun z hz => hn z (by simp [hz]))⟩
      rcases mem_ins.1 hz with rfl | hz
      · rcases lt_tot y.1 z.1 (hn y (by simp)) with h3 | h3
        · exact h3
        · exact absurd h3 (by simpa using hl)
      · exact h1 z hz
theorem srt_put {k d : ByteArray} {r : List Rec} (h : Srt r) : Srt (put k d r) := srt_ins (srt_del h) (fun y hy => (mem_del.1 hy).2)
theorem get_some {k d : ByteArray} {r : List Rec} (h : Srt r) : rget k r = some d ↔ (k, d) ∈ r := by
  induction r with
  | nil => simp [rget]
  | cons y r ih =>
    obtain ⟨h1, h2⟩ := List.pairwise_cons.1 h
    have ih := ih h2
    unfold rget at ih ⊢
    rw [List.find?_cons]
    by_cases e : y.1 = k
    · rw [decide_eq_true e]
      simp only [Option.map_some, Option.some.injEq, List.mem_cons]
      constructor
      · rintro rfl; left; rw [← e]
      · rintro (h3 | h3)
        · rw [← h3]
        · exact absurd e (by have := lt_ne (h1 _ h3); exact this)
    · rw [decide_eq_false e]
      simp only [List.mem_cons]
      rw [ih]
      constructor
      · exact .inr
      · rintro (h3 | h3)
        · exact absurd (by rw [← h3]) e
        · exact h3
theorem get_none {k : ByteArray} {r : List Rec} : rget k r = none ↔ ∀ y ∈ r, y.1 ≠ k := by simp [rget]
theorem get_put_same {k d : ByteArray} {r : List Rec} (h : Srt r) : rget k (put k d r) = some d := (get_some (srt_put h)).2 (mem_put.2 (.inl rfl))
theorem get_put_other {k d k' : ByteArray} {r : List Rec} (h : Srt r) (hn : k' ≠ k) : rget k' (put k d r) = rget k' r := by
  cases h1 : rget k' r with
  | none =>
    refine get_none.2 fun y hy => ?_
    rcases mem_put.1 hy with rfl | ⟨h2, _⟩
    · exact hn.symm
    · exact get_none.1 h1 y h2
  | some x => exact (get_some (srt_put h)).2 (mem_put.2 (.inr ⟨(get_some h).1 h1, hn⟩))
theorem get_del_same {k : ByteArray} {r : List Rec} : rget k (del k r) = none := get_none.2 fun y hy => (mem_del.1 hy).2
theorem get_del_other {k k' : ByteArray} {r : List Rec} (h : Srt r) (hn : k' ≠ k) : rget k' (del k r) = rget k' r := by
  cases h1 : rget k' r with
  | none => exact get_none.2 fun y hy => get_none.1 h1 y (mem_del.1 hy).1
  | some x => exact (get_some (srt_del h)).2 (mem_del.2 ⟨(get_some h).1 h1, hn⟩)
-- two lists with the same answers are one
theorem ext_get {a b : List Rec} (ha : Srt a) (hb : Srt b) (h : ∀ k, rget k a = rget k b) : a = b := by
  have hm : ∀ x, x ∈ a ↔ x ∈ b := fun x => by
    rw [← show (x.1, x.2) = x from rfl, ← get_some ha, ← get_some hb, h]
  have na : a.Nodup := List.Pairwise.imp (fun {p q} h e => by subst e; rw [lt_irr] at h; cases h) ha
  have nb : b.Nodup := List.Pairwise.imp (fun {p q} h e => by subst e; rw [lt_irr] at h; cases h) hb
  refine List.Perm.eq_of_pairwise (le := fun (p q : Rec) => lt p.1 q.1 = true) (fun p q _ _ h1 h2 => ?_) ha hb ((List.perm_ext_iff_of_nodup na nb).2 hm)
  have := lt_tr h1 h2
  rw [lt_irr] at this
  cases this
theorem tot_ins (x : Rec) (r : List Rec) : tot (ins x r) = cnt x + tot r := by
  induction r with
  | nil => simp [ins, tot]
  | cons y r ih =>
    unfold ins
    split
    · simp [tot]
    · simp [tot, ih]; omega
theorem del_none {k : ByteArray} {r : List Rec} (h : rget k r = none) : del k r = r := by
  unfold del
  rw [List.filter_eq_self]
  intro y hy
  simpa using get_none.1 h y hy
theorem tot_del (k : ByteArray) (r : List Rec) (h : Srt r) : tot r = tot (del k r) + at0 k r := by
  induction r with
  | nil => rfl
  | cons y r ih =>
    obtain ⟨h1, h2⟩ := List.pairwise_cons.1 h
    by_cases e : y.1 = k
    · have hn : rget k r = none := get_none.2 fun z hz => by
        rw [← e]; exact (lt_ne (h1 z hz)).symm
      have hd : del k (y :: r) = r := by
        have h3 := del_none hn
        unfold del at h3 ⊢
        rw [List.filter_cons, decide_eq_true e]
        exact h3
      have hg : rget k (y :: r) = some y.2 := (get_some h).2 (by rw [← e]; exact List.mem_cons_self)
      rw [hd]
      unfold at0
      rw [hg]
      simp only [tot]
      rw [← e]
      show cnt y + _ = _ + cnt y
      omega
    · have hd : del k (y :: r) = y :: del k r := by
        unfold del; rw [List.filter_cons, decide_eq_false e]; rfl
      have hg : rget k (y :: r) = rget k r := by
        unfold rget; rw [List.find?_cons, decide_eq_false e]
      rw [hd]
      unfold at0
      rw [hg]
      simp only [tot]
      have := ih h2
      unfold at0 at this
      omega
theorem tot_put (k d : ByteArray) (r : List Rec) (h : Srt r) : tot (put k d r) + at0 k r = tot r + cnt (k, d) := by
  rw [put, tot_ins, tot_del k r h]; omega
theorem len_del (k : ByteArray) (r : List Rec) : (del k r).length ≤ r.length := List.length_filter_le _ _
theorem len_ins (x : Rec) (r : List Rec) : (ins x r).length = r.length + 1 := by
  induction r with
  | nil => rfl
  | cons y r ih => unfold ins; split <;> simp [ih]
theorem len_put (k d : ByteArray) (r : List Rec) : (put k d r).length ≤ r.length + 1 := by
  rw [put, len_ins]; have := len_del k r; omega

-- as a map's datum
def ent (p : Rec) : Lit × DataW Unit := (.string (bs p.1), .lit (.string (bs p.2)))
def dat (r : List Rec) : DataW Unit := .map (r.map ent)
theorem same_key (p : Rec) (k : ByteArray) : (ent p).1.sameKey (.string (bs k)) = decide (p.1 = k) := by
  show (bs p.1 == bs k) = _
  exact bs_eq _ _
theorem dat_del (k : ByteArray) (r : List Rec) : (dat r).del (.string (bs k)) = dat (del k r) := by
  unfold dat DataW.del del
  simp only [List.filter_map, DataW.map.injEq]
  congr 1
  apply List.filter_congr
  intro x _
  simp only [Function.comp_def]
  rw [same_key]
theorem dat_ins (x : Rec) (r : List Rec) : DataW.insert (ent x) (r.map ent) = (ins x r).map ent := by
  induction r with
  | nil => rfl
  | cons y r ih =>
    simp only [List.map_cons]
    unfold DataW.insert ins
    have : (ent x).1.before (ent y).1 = lt x.1 y.1 := rfl
    rw [this]
    split
    · rfl
    · simp [ih]
theorem dat_put (k d : ByteArray) (r : List Rec) : (dat r).put (.string (bs k)) (.lit (.string (bs d))) = dat (put k d r) := by
  have h := dat_del k r
  unfold dat DataW.del at h
  simp only [DataW.map.injEq] at h
  unfold dat DataW.put put
  rw [← dat_ins]
  simp only [DataW.map.injEq]
  rw [h]
  rfl
theorem dat_has (k : ByteArray) (r : List Rec) : Maps.has (dat r) (.string (bs k)) = (rget k r).isSome := by
  unfold dat rget
  rw [Maps.has_eq, Option.isSome_map]
  induction r with
  | nil => rfl
  | cons y r ih =>
    rw [List.map_cons, List.any_cons, same_key, ih, List.find?_cons]
    by_cases e : y.1 = k
    · simp [decide_eq_true e]
    · simp [decide_eq_false e]
theorem dat_at (k : ByteArray) (r : List Rec) (z : DataW Unit) : (dat r).atKey (.string (bs k)) z = match rget k r with | some d => .lit (.string (bs d)) | none => z := by
  unfold dat rget DataW.atKey
  simp only
  induction r with
  | nil => rfl
  | cons y r ih =>
    rw [List.map_cons, List.find?_cons, same_key, List.find?_cons]
    by_cases e : y.1 = k
    · simp [decide_eq_true e, ent]
    · simp only [decide_eq_false e]
      exact ih
theorem dat_size (r : List Rec) : Maps.size (dat r) = r.length := by simp [dat, Maps.size]
theorem dat_keys (r : List Rec) : strKeys (dat r) = r.map fun p => bs p.1 := by
  simp [dat, strKeys, ent, strOf, Function.comp_def]
end Go.Proofs.YtpcllegjnbeppaaGreat.ya

namespace Go.Proofs.YtpcllegjnbeppaaGreat.yb
open Go.RowKit Go.PlainAid Go.Maps
open Go.Proofs.YtpcllegjnbeppaaGreat.ca Go.Proofs.YtpcllegjnbeppaaGreat.cb Go.Proofs.YtpcllegjnbeppaaGreat.cp Go.Proofs.YtpcllegjnbeppaaGreat.kp Go.Proofs.YtpcllegjnbeppaaGreat.ka Go.Proofs.YtpcllegjnbeppaaGreat.ya
set_option linter.unusedVariables false
set_option linter.unusedSimpArgs false

def recE (v : Value) : Option (DataW Unit × List MemPlace) :=
  match v with
  | .agg cs => (match cs.toList with
    | [.string s] => if s.size ≤ maxLen then some (.lit (.string (bs s)), []) else none
    | _ => none)
  | _ => none
theorem recE_mk {s : ByteArray} (h : s.size ≤ maxLen) : recE (.agg #[.string s]) = some (.lit (.string (bs s)), []) := by simp [recE, h]
theorem recE_inv {v : Value} {y : DataW Unit × List MemPlace} (h : recE v = some y) : ∃ s, v = .agg #[.string s] ∧ y = (.lit (.string (bs s)), []) ∧ s.size ≤ maxLen := by
  unfold recE at h
  split at h
  · rename_i cs
    split at h
    · rename_i s hs
      split at h
      · rename_i hl
        refine ⟨s, ?_, (Option.some.inj h).symm, hl⟩
        congr
        rw [← Array.toList_inj, hs]
      · cases h
    · cases h
  · cases h
theorem law : Keyed Tryz.prog 9 := string_keyed Tryz.underlying9
theorem zeroR (w : World) : (zeroValue 95).run Tryz.prog w = .ok (.agg #[.string ByteArray.empty]) w := by kernel_rfl
theorem key_is {s : ByteArray} (h : s.size ≤ maxLen) : keyOf Tryz.prog 9 (.string s) = some (.string (bs s)) := WideMaps.keyOf_string_mk Tryz.underlying9 h
def Mp (b : Nat) (r : List Rec) (w : World) : Prop := w.ownsMap Tryz.prog 9 recE b r.length (dat r)
theorem own_exact {w : World} {b n : Nat} {r : List Rec} (h : w.ownsMap Tryz.prog 9 recE b n (dat r)) : Mp b r w := by
  obtain ⟨es, clock, hb, F, hs, hD⟩ := h
  refine ⟨es, clock, hb, F, ?_, hD⟩
  have h1 := congrArg Maps.size hD
  rw [dat_size] at h1
  rw [h1]
  simp [Maps.size, length_sorted]
theorem Mp.lt {b : Nat} {r : List Rec} {w : World} (h : Mp b r w) : b < w.heap.size := World.ownsMap.lt h
theorem Mp.keep {b : Nat} {r : List Rec} {w w' : World} {A : Nat → Prop} (h : Mp b r w) (k : Kp A w w') (hn : ¬ A b) : Mp b r w' := by
  have hl := h.lt
  obtain ⟨es, clock, hb, F, hs, hD⟩ := h
  exact ⟨es, clock, (k.block b hl hn).trans hb, F, hs, hD⟩
theorem Mp.ne {b g : Nat} {r : List Rec} {w : World} {cur : Array Value} {T : Nat} {f : Nat × Nat} (h : Mp b r w) (hg : w.heap[g]? = some (.cells cur T f)) : b ≠ g := by
  rintro rfl
  obtain ⟨es, clock, hb, _⟩ := h
  rw [hb] at hg
  cases hg
theorem kp_turn {w w' : World} {b : Nat} (h : w.mapTurned w' b) : Kp (fun k => k = b) w w' := by
  have g := h.grown
  exact ⟨g.os, g.tape, g.output, g.size, fun k hk hn => g.block k hk (fun e => hn (Option.some.inj e))⟩
theorem Mp.srt {b : Nat} {r : List Rec} {w : World} (h : Mp b r w) : Srt r := by
  obtain ⟨es, clock, hb, F, hs, hD⟩ := h
  have hr := sorted_sorted law.one _ (fit_keys F) (fit_apart law F)
  unfold dat at hD
  rw [DataW.map.injEq] at hD
  rw [← hD] at hr
  unfold Srt
  rw [List.pairwise_map] at hr
  exact hr
section
variable (w : World) {ops : Array Oper} {rest : List Oper} {o : Oper} {a : Act} {Q : Exit → Act → World → Prop}
theorem wpList_look (hg : o.guard = none) (m x : Operand) (hop : o.op = Op.lookup 50 m x true) (b : Nat) (r : List Rec) (hm : a.eval m = .map (some b)) (hown : Mp b r w) (k : ByteArray) (hx : a.eval x = .string k) (hk : k.size ≤ maxLen)
    (hK : wpList Tryz.prog ops Q rest (a.put o.dst (.tuple #[.agg #[.string ((rget k r).getD ByteArray.empty)], .bool (rget k r).isSome])) w) : wpList Tryz.prog ops Q (o :: rest) a w :=
  wpList_lookup_own_ok w hg m x 50 hop 9 95 law Tryz.underlying50 recE (zeroR _) (.lit (.string (bs ByteArray.empty))) [] (recE_mk (by decide)) b r.length (dat r) hm hown (.string k) (.string (bs k)) hx (key_is hk) (fun v ps hv => by
    obtain ⟨s, rfl, hy, _⟩ := recE_inv hv
    have h1 := congrArg Prod.fst hy
    simp only at h1
    rw [dat_at] at h1
    have h2 : s = (rget k r).getD ByteArray.empty := by
      cases hg : rget k r with
      | none => rw [hg] at h1; simp only at h1; injection h1 with h1; injection h1 with h1; exact (bs_inj h1).symm
      | some d => rw [hg] at h1; simp only at h1; injection h1 with h1; injection h1 with h1; exact (bs_inj h1).symm
    rw [dat_has, h2]
    exact hK)
theorem wpList_set (hg : o.guard = none) (m x v : Operand) (hop : o.op = Op.mapUpdate 50 m x v) (b : Nat) (r : List Rec) (hm : a.eval m = .map (some b)) (hown : Mp b r w) (hn : r.length < maxLen) (k d : ByteArray) (hx : a.eval x = .string k) (hv : a.eval v = .agg #[.string d]) (hk : k.size ≤ maxLen) (hd : d.size ≤ maxLen)
    (hK : ∀ w', Mp b (put k d r) w' → Kp (fun k => k = b) w w' → wpList Tryz.prog ops Q rest (a.put o.dst undef) w') : wpList Tryz.prog ops Q (o :: rest) a w :=
  wpList_mapUpdate_in w hg m x v 50 hop 9 95 law Tryz.underlying50 recE b r.length (dat r) hm hown hn (.string k) (.agg #[.string d]) (.string (bs k)) hx hv (key_is hk) (.lit (.string (bs d))) [] (recE_mk hd) (fun w' h1 h2 => by
    rw [dat_put] at h1
    exact hK w' (own_exact h1) (kp_turn h2))
theorem wpList_cut (hg : o.guard = none) (m x : Operand) (hop : o.op = Op.call { callee := Callee.builtin Builtin.delete, args := #[m, x], argTypes := #[50, 9] }) (b : Nat) (r : List Rec) (hm : a.eval m = .map (some b)) (hown : Mp b r w) (k : ByteArray) (hx : a.eval x = .string k) (hk : k.size ≤ maxLen)
    (hK : ∀ w', Mp b (del k r) w' → Kp (fun k => k = b) w w' → wpList Tryz.prog ops Q rest (a.put o.dst (.tuple #[])) w') : wpList Tryz.prog ops Q (o :: rest) a w :=
  wpList_delete_own w hg m x 50 9 hop 95 law Tryz.underlying50 recE b r.length (dat r) hm hown (.string k) (.string (bs k)) hx (key_is hk) (fun w' h1 h2 => by
    rw [dat_del] at h1
    exact hK w' (own_exact h1) (kp_turn h2))
end

theorem putM (b : Nat) (r : List Rec) (k d : ByteArray) (w : World) (h : Mp b r w) (hk : k.size ≤ maxLen) (hd : d.size ≤ maxLen) (hl : r.length < maxLen) :
    Calls Tryz.prog 79 #[.map (some b), .string k, .string d] w fun e w' => e = .returned (.tuple #[]) ∧ Mp b (put k d r) w' ∧ Kp (fun k => k = b) w w' := by
  have H : Hid (Mp b r w) := h
  clear h
  go_enter Tryz.func79, Tryz.ntmps79
  go_wp2_with (first | (at_mapUpdate; refine wpList_set _ rfl _ _ _ rfl b r rfl H.out hl k d rfl rfl hk hd ?_; intro w1 h1 h2) | go_in)
  go_end0
  exact ⟨rfl, h1, h2⟩
theorem cutM (b : Nat) (r : List Rec) (k d : ByteArray) (w : World) (h : Mp b r w) (hk : k.size ≤ maxLen) :
    Calls Tryz.prog 109 #[.map (some b), .string k, .string d] w fun e w' => e = .returned (.tuple #[]) ∧ Mp b (del k r) w' ∧ Kp (fun k => k = b) w w' := by
  have H : Hid (Mp b r w) := h
  clear h
  go_enter Tryz.func109, Tryz.ntmps109
  go_wp2_with (first | (at_delete; refine wpList_cut _ rfl _ _ rfl b r rfl H.out k rfl hk ?_; intro w1 h1 h2) | go_in)
  go_end0
  exact ⟨rfl, h1, h2⟩
theorem countC (k d : ByteArray) (w : World) (hk : k.size ≤ 140737488355328) (hd : d.size ≤ 140737488355328) :
    Calls Tryz.prog 77 #[.string k, .string d] w fun e w' => e = .returned (.int .i64 (cnt (k, d) : Nat)) ∧ w' = w := by
  go_enter Tryz.func77, Tryz.ntmps77
  go_wp2
  go_ret
  exact ⟨by simp only [cnt]; congr 2, rfl⟩
theorem keyGoesC (k : ByteArray) (w : World) : Calls Tryz.prog 114 #[.string k] w fun e w' => e = .returned (.bool (decide (1 ≤ k.size ∧ k.size ≤ 64))) ∧ w' = w := by
  by_cases h1 : 1 ≤ k.size
  · have h1' : decide ((1 : Int) ≤ k.size) = true := by simp; omega
    by_cases h2 : k.size ≤ 64
    · have h2' : decide ((k.size : Int) ≤ 64) = true := by simp; omega
      go_enter Tryz.func114, Tryz.ntmps114
      go_wp2
      go_ret
      exact ⟨by simp [h1, h2], rfl⟩
    · have h2' : decide ((k.size : Int) ≤ 64) = false := by simp; omega
      go_enter Tryz.func114, Tryz.ntmps114
      go_wp2
      go_ret
      exact ⟨by simp [h1, h2], rfl⟩
  · have h1' : decide ((1 : Int) ≤ k.size) = false := by simp; omega
    go_enter Tryz.func114, Tryz.ntmps114
    go_wp2
    go_ret
    exact ⟨by simp [h1], rfl⟩
theorem dataGoC (d : ByteArray) (w : World) : Calls Tryz.prog 75 #[.string d] w fun e w' => e = .returned (.bool (decide (d.size ≤ 1048576))) ∧ w' = w := by
  go_enter Tryz.func75, Tryz.ntmps75
  go_wp2
  go_ret
  exact ⟨by congr 3; simp; omega, rfl⟩
theorem capC (c : Int) (w : World) : Calls Tryz.prog 22 #[.int .i64 c] w fun e w' => e = .returned (.bool (decide (0 ≤ c ∧ c ≤ 1073741824))) ∧ w' = w := by
  by_cases h1 : 0 ≤ c
  · have h1' : decide ((0 : Int) ≤ c) = true := by simp; omega
    by_cases h2 : c ≤ 1073741824
    · have h2' : decide (c ≤ 1073741824) = true := by simp; omega
      go_enter Tryz.func22, Tryz.ntmps22
      go_wp2
      go_ret
      exact ⟨by simp [h1, h2], rfl⟩
    · have h2' : decide (c ≤ 1073741824) = false := by simp; omega
      go_enter Tryz.func22, Tryz.ntmps22
      go_wp2
      go_ret
      exact ⟨by simp [h1, h2], rfl⟩
  · have h1' : decide ((0 : Int) ≤ c) = false := by simp; omega
    go_enter Tryz.func22, Tryz.ntmps22
    go_wp2
    go_ret
    exact ⟨by simp [h1], rfl⟩
end Go.Proofs.YtpcllegjnbeppaaGreat.yb

namespace Go.Proofs.YtpcllegjnbeppaaGreat.mc
open Go.Shelf Go.RowKit Go.Maps
open Go.Proofs.YtpcllegjnbeppaaGreat.ya Go.Proofs.YtpcllegjnbeppaaGreat.yb
set_option linter.unusedVariables false
def ren : Go.Shelf.Ren := ⟨fun | 5 => 56 | 7 => 100 | n => n, fun | 4 => 4 | 20 => 20 | 23 => 50 | 25 => 9 | 3 => 95 | n => n, fun | n => n⟩
theorem lays : Go.Proofs.SlLaysW.n5 Tryz.prog ren := {
  mixed := by kernel_rfl
  f5 := ⟨Tryz.f56.name, by kernel_rfl, Tryz.func56.trans (congrArg some (by kernel_rfl))⟩
  f7 := Tryz.func100.trans (congrArg some (by kernel_rfl))
  t4 := Tryz.underlying4
  a4 := Tryz.isAgg4
  z4 := Tryz.sizeOf4
  v4 := Tryz.zeroValue4
  t20 := Tryz.underlying20
  a20 := Tryz.isAgg20
  z20 := Tryz.sizeOf20
  v20 := Tryz.zeroValue20
  t23 := Tryz.underlying50
  a23 := Tryz.isAgg50
  z23 := Tryz.sizeOf50
  v23 := Tryz.zeroValue50 }
theorem cloneM (b : Nat) (r : List Rec) (w : World) (h : Mp b r w) :
    Calls Tryz.prog 56 #[.map (some b)] w fun e w' => e = .returned (.map (some w.heap.size)) ∧ Mp w.heap.size r w' ∧ Below w.heap.size w w' := by
  have C := AnyW.maps_Clone_owns lays 9 recE b r.length (dat r) w h
  exact C.mono fun e w' ⟨h1, h2, _, h3⟩ => ⟨h1, h2, h3⟩
end Go.Proofs.YtpcllegjnbeppaaGreat.mc

namespace Go.Proofs.YtpcllegjnbeppaaGreat.yc
open Go.RowKit Go.PlainAid Go.Maps
open Go.Proofs.YtpcllegjnbeppaaGreat.ca Go.Proofs.YtpcllegjnbeppaaGreat.cb Go.Proofs.YtpcllegjnbeppaaGreat.cp Go.Proofs.YtpcllegjnbeppaaGreat.kp Go.Proofs.YtpcllegjnbeppaaGreat.ka Go.Proofs.YtpcllegjnbeppaaGreat.ya Go.Proofs.YtpcllegjnbeppaaGreat.yb Go.Proofs.YtpcllegjnbeppaaGreat.mc
set_option linter.unusedVariables false
set_option linter.unusedSimpArgs false
-- records that a store can hold
def OkR (r : List Rec) : Prop := ∀ p ∈ r, 1 ≤ p.1.size ∧ p.1.size ≤ 64 ∧ p.2.size ≤ 1048576
theorem get_mem {k d : ByteArray} {r : List Rec} (h : rget k r = some d) : (k, d) ∈ r := by
  unfold rget at h
  rw [Option.map_eq_some_iff] at h
  obtain ⟨p, h1, rfl⟩ := h
  have h2 := List.find?_some h1
  have h3 := List.mem_of_find?_eq_some h1
  rw [show k = p.1 from (by simpa using h2 : p.1 = k).symm]
  exact h3
theorem OkR.get {k d : ByteArray} {r : List Rec} (h : OkR r) (hg : rget k r = some d) : 1 ≤ k.size ∧ k.size ≤ 64 ∧ d.size ≤ 1048576 := h _ (get_mem hg)
theorem OkR.getD {k : ByteArray} {r : List Rec} (h : OkR r) : ((rget k r).getD ByteArray.empty).size ≤ 1048576 := by
  cases hg : rget k r with
  | none => exact Nat.zero_le _
  | some d => exact (h.get hg).2.2
theorem OkR.del {k : ByteArray} {r : List Rec} (h : OkR r) : OkR (del k r) := fun p hp => h p (mem_del.1 hp).1
theorem OkR.put {k d : ByteArray} {r : List Rec} (h : OkR r) (h1 : 1 ≤ k.size) (h2 : k.size ≤ 64) (h3 : d.size ≤ 1048576) : OkR (put k d r) := fun p hp => by
  rcases mem_put.1 hp with rfl | ⟨h4, _⟩
  · exact ⟨h1, h2, h3⟩
  · exact h p h4
theorem OkR.tot {r : List Rec} (h : OkR r) : ya.tot r ≤ r.length * 1048656 := by
  induction r with
  | nil => simp [ya.tot]
  | cons p r ih =>
    have h1 := h p (by simp)
    have h2 := ih (fun q hq => h q (by simp [hq]))
    simp only [ya.tot, cnt, List.length_cons]
    omega
theorem at0_le {k : ByteArray} {r : List Rec} (h : OkR r) : at0 k r ≤ 1048656 := by
  unfold at0
  split
  · rename_i d hg
    have := h.get hg
    simp only [cnt]; omega
  · omega

set_option maxHeartbeats 1600000 in
theorem countsM (b : Nat) (r : List Rec) (k : ByteArray) (w : World) (h : Mp b r w) (hk : k.size ≤ 140737488355328) (hr : OkR r) :
    Calls Tryz.prog 76 #[.map (some b), .string k] w fun e w' => e = .returned (.int .i64 (at0 k r : Nat)) ∧ Below w.heap.size w w' := by
  have H : Hid (Mp b r w) := h
  have hkm : k.size ≤ maxLen := by unfold maxLen; omega
  have hd := hr.getD (k := k)
  have HA : Hid (at0 k r = if (rget k r).isSome then cnt (k, (rget k r).getD ByteArray.empty) else 0) := by
    show _ = _
    unfold at0
    cases rget k r <;> rfl
  have CC : Hid (∀ (w : World) (d : ByteArray), d.size ≤ 140737488355328 → Calls _ _ _ _ _) := fun w d hd => countC k d w hk hd
  have HB : Hid (∀ o, Below w.heap.size w (w.alloc o)) := fun o => (Below.refl _ w).alloc (Nat.le_refl _) _
  rw [HA.out]
  clear h hr HA
  cases hg : (rget k r).isSome with
  | false =>
    go_enter Tryz.func76, Tryz.ntmps76
    go_wp2_with (first | (at_lookup; refine wpList_look _ rfl _ _ rfl b r rfl H.out k rfl hkm ?_; rw [hg]) | go_in)
    go_ret
    exact ⟨rfl, by first | exact HB.out _ | exact (HB.out _).setCell (Nat.le_refl _) _⟩
  | true =>
    go_enter Tryz.func76, Tryz.ntmps76
    go_wp2_with (first | (at_lookup; refine wpList_look _ rfl _ _ rfl b r rfl H.out k rfl hkm ?_; rw [hg]) | (go_at_call 77; refine (CC.out _ _ (by omega)).mono ?_; rintro _ w1 ⟨rfl, rfl⟩) | go_in)
    go_ret
    exact ⟨rfl, by first | exact HB.out _ | exact (HB.out _).setCell (Nat.le_refl _) _⟩

-- the step of a range over records
section
variable (w : World) {ops : Array Oper} {rest : List Oper} {o : Oper} {a : Act} {Q : Exit → Act → World → Prop}
theorem wpList_nextR (hg : o.guard = none) (it : Operand) (hop : o.op = Op.next it false) (b g n : Nat) (r : List Rec) (left : Lit → Bool) (c : Nat) (hit : a.eval it = .pointer (some ⟨g, 0, none⟩)) (h : w.ranges Tryz.prog 9 recE b g n (dat r) left c)
    (hDone : (∀ k, left k = false) → wpList Tryz.prog ops Q rest (a.put o.dst (.tuple #[.bool false])) w)
    (hMore : ∀ (x d : ByteArray) (w' : World) (c' : Nat), left (.string (bs x)) = true → rget x r = some d → w'.ranges Tryz.prog 9 recE b g n (dat r) (fun z => left z && !z.sameKey (.string (bs x))) c' → c' < c → w.grownBy w' (some g) → w'.heap.size = w.heap.size →
      (Instr.entry (.pointer (some ⟨g, 0, none⟩))).run Tryz.prog w' = .ok (.tuple #[.string x, .agg #[.string d]]) w' → wpList Tryz.prog ops Q rest (a.put o.dst (.tuple #[.bool true, .string x, .agg #[.string d]])) w') :
    wpList Tryz.prog ops Q (o :: rest) a w :=
  wpList_next_ranges w hg it hop 9 law recE Value.string (fun s => Value.agg #[.string s]) (fun key kl hk => by obtain ⟨s, h1, _⟩ := WideMaps.string_of_keyOf Tryz.underlying9 hk; exact ⟨s, h1⟩) (fun v y hv => by obtain ⟨s, h1, _⟩ := recE_inv hv; exact ⟨s, h1⟩)
    b g n (dat r) left c hit h (fun _ h0 => hDone h0) (fun x d kl y w' c' hkey hlk hv hat hrg hlt hgr hsz hen => by
      obtain ⟨s, h1, h2, h3⟩ := WideMaps.string_of_keyOf Tryz.underlying9 hkey
      injection h1 with h1
      subst h1 h2
      obtain ⟨t, h4, h5, h6⟩ := recE_inv hv
      have h4' : Value.agg #[Value.string d] = Value.agg #[Value.string t] := h4
      injection h4' with h4'
      have h4a := congrArg Array.toList h4'
      injection h4a with h4a _
      injection h4a with h4a
      subst h4a
      refine hMore x d w' c' hlk ?_ hrg hlt hgr hsz hen
      have h7 := hat .nil
      rw [h5] at h7
      have h8 := dat_at x r .nil
      have h9 : (dat r).atKey (.string (bs x)) .nil = .lit (.string (bs d)) := h7
      rw [h8] at h9
      cases hq : rget x r with
      | none => rw [hq] at h9; cases h9
      | some e => rw [hq] at h9; have h9 : (DataW.lit (Lit.string (bs e)) : DataW Unit) = .lit (.string (bs d)) := h9; exact congrArg some (bs_inj (Lit.string.inj (DataW.lit.inj h9))))
end
def Fl (left : Lit → Bool) (r : List Rec) : List Rec := r.filter fun p => left (.string (bs p.1))
theorem fl_all (r : List Rec) : Fl (Maps.has (dat r)) r = r := by
  unfold Fl
  rw [List.filter_eq_self]
  intro p hp
  rw [dat_has, Option.isSome_iff_ne_none]
  intro h
  exact get_none.1 h p hp rfl
theorem fl_none (left : Lit → Bool) (r : List Rec) (h : ∀ k, left k = false) : Fl left r = [] := by
  unfold Fl
  rw [List.filter_eq_nil_iff]
  intro p _
  rw [h]; decide
theorem fl_next (left : Lit → Bool) (r : List Rec) (x : ByteArray) : Fl (fun z => left z && !z.sameKey (.string (bs x))) r = del x (Fl left r) := by
  unfold Fl del
  rw [List.filter_filter]
  apply List.filter_congr
  intro p _
  rw [← same_key p x, Bool.and_comm]
  rfl
theorem fl_get {left : Lit → Bool} {r : List Rec} {x d : ByteArray} (hs : Srt r) (h1 : left (.string (bs x)) = true) (h2 : rget x r = some d) : rget x (Fl left r) = some d :=
  (get_some (List.Pairwise.filter _ hs)).2 (List.mem_filter.2 ⟨get_mem h2, h1⟩)
theorem fl_tot {left : Lit → Bool} {r : List Rec} {x d : ByteArray} (hs : Srt r) (h1 : left (.string (bs x)) = true) (h2 : rget x r = some d) : tot (Fl left r) = tot (Fl (fun z => left z && !z.sameKey (.string (bs x))) r) + cnt (x, d) := by
  rw [fl_next]
  have h3 : Srt (Fl left r) := List.Pairwise.filter _ hs
  rw [tot_del x _ h3]
  unfold at0
  rw [fl_get hs h1 h2]
set_option maxHeartbeats 3200000 in
theorem totalM (b : Nat) (r : List Rec) (w : World) (h : Mp b r w) (hr : OkR r) (hl : r.length ≤ 4398046511104) :
    Calls Tryz.prog 57 #[.map (some b)] w fun e w' => e = .returned (.int .i64 (tot r : Nat)) ∧ Below w.heap.size w w' := by
  have H : Hid (Mp b r w) := h
  have hs := h.srt
  have ht : tot r ≤ 4612037862148276224 := Nat.le_trans hr.tot (by omega)
  have CC : Hid (∀ (w : World) (k d : ByteArray), k.size ≤ 140737488355328 → d.size ≤ 140737488355328 → Calls _ _ _ _ _) := fun w k d hk hd => countC k d w hk hd
  have HS : Hid (Srt r ∧ OkR r) := ⟨hs, hr⟩
  obtain ⟨T, HT⟩ : ∃ T, Hid (tot r = T) := ⟨_, rfl⟩
  rw [HT.out] at ht ⊢
  obtain ⟨B, HB⟩ : ∃ B, B = w.heap.size := ⟨_, rfl⟩
  have HB0 : Hid (B = w.heap.size) := HB
  rw [← HB]
  have hbB : b < B := by rw [HB]; exact h.lt
  clear h hr hs HB
  go_enter Tryz.func57, Tryz.ntmps57
  go_wp2_with (first | (at_range; refine wpList_range_own _ rfl _ 50 rfl 9 95 law Tryz.underlying50 recE b r.length (dat r) rfl H.out ?_; rw [← HB0.out]; intro w0 hrg0 hg0 hs0) | go_in)
  go_frame
  go_loopw [3] (fun s wr => ∃ (left : Lit → Bool) (c m : Nat), s = .int .i64 m ∧ m ≤ T ∧ Hid (m + tot (Fl left r) = T ∧ wr.ranges Tryz.prog 9 recE b B r.length (dat r) left c ∧ Below B w wr)) (fun _ wr => wr.rangeLeft b B)
  case atStart =>
    refine ⟨_, _, 0, rfl, Nat.zero_le _, ?_, hrg0, ?_⟩
    · rw [fl_all, HT.out]; omega
    · exact (Below.refl B w).grown hg0 (by rw [HB0.out]; exact Nat.le_refl _) (by intro j hj; cases hj)
  case round =>
    clear hrg0 hg0 hs0
    obtain ⟨left, c, m, rfl, hm, HH⟩ := hrel
    go_wp2_with (first | (at_next; refine wpList_nextR _ rfl _ rfl b B r.length r left c rfl HH.out.2.1 ?_ ?_) | go_in)
    · intro h0
      have HE : Hid (m = T) := by
        show _ = _
        have := HH.out.1
        rw [fl_none left r h0] at this
        simpa [tot] using this
      have HO : Hid (Below B w wr) := HH.out.2.2
      clear HH
      go_wp2
      go_ret
      exact ⟨by rw [HE.out]; rfl, HO.out⟩
    · intro x d w1 c1 hlx hgx hrg1 hlt hgr hsz hen
      have h4 := HS.out.2.get hgx
      have hft := fl_tot HS.out.1 hlx hgx
      have hmT := HH.out.1
      have hc : cnt (x, d) = x.size + d.size + 16 := rfl
      have HB1 : Hid (Below B w w1) := HH.out.2.2.grown hgr (by have := HH.out.2.2.size; rw [HB0.out]; exact this) (by intro j hj; injection hj with hj; omega)
      have HR1 : Hid (w1.ranges Tryz.prog 9 recE b B r.length (dat r) (fun z => left z && !z.sameKey (.string (bs x))) c1) := hrg1
      have HN : Hid (m + cnt (x, d) + tot (Fl (fun z => left z && !z.sameKey (.string (bs x))) r) = T) := by show _ = _; omega
      have HM : Hid (c1 < c ∧ wr.rangeLeft b B = c) := ⟨hlt, HH.out.2.1.left_eq⟩
      have hx : x.size ≤ 140737488355328 := by omega
      have hd : d.size ≤ 140737488355328 := by omega
      have hmc : m + cnt (x, d) ≤ T := by omega
      have hsz1 : B ≤ w1.heap.size := by have := HB1.out.size; rw [HB0.out]; exact this
      obtain ⟨q, HQ⟩ : ∃ q, Hid (cnt (x, d) = q) := ⟨_, rfl⟩
      have HC2 : Hid (∀ w, Calls _ _ _ _ _) := fun w => CC.out w x d hx hd
      rw [HQ.out] at hmc HN HC2
      clear hrg1 hlx hgx hft hmT hc HH h4 hgr hlt
      go_wp2_with (first | (go_at_call 77; refine (HC2.out _).mono ?_; rintro _ w2 ⟨rfl, rfl⟩) | go_in)
      go_roundw
      case rel => exact ⟨_, c1, m + q, by go_num, hmc, HN.out, by first | exact (HR1.out.alloc _) | exact (HR1.out.alloc _).kept (World.grownBy_setCell _ _ _) (by simp) (by simp), by first | exact HB1.out.alloc hsz1 _ | exact (HB1.out.alloc hsz1 _).setCell hsz1 _⟩
      case measure => rw [HM.out.2]; first | (rw [(HR1.out.alloc _).left_eq]; exact HM.out.1)
end Go.Proofs.YtpcllegjnbeppaaGreat.yc

namespace Go.Proofs.YtpcllegjnbeppaaGreat.yd
open Go.RowKit Go.PlainAid Go.Maps Go.Shelf Go.Sort
open Go.Proofs.YtpcllegjnbeppaaGreat.ca Go.Proofs.YtpcllegjnbeppaaGreat.cb Go.Proofs.YtpcllegjnbeppaaGreat.cp Go.Proofs.YtpcllegjnbeppaaGreat.kp Go.Proofs.YtpcllegjnbeppaaGreat.ka Go.Proofs.YtpcllegjnbeppaaGreat.ya Go.Proofs.YtpcllegjnbeppaaGreat.yb Go.Proofs.YtpcllegjnbeppaaGreat.yc Go.Proofs.YtpcllegjnbeppaaGreat.sh
set_option linter.unusedVariables false
set_option linter.unusedSimpArgs false
def keysL (pre : ByteArray) (r : List Rec) : List ByteArray := (r.filter fun p => Lib.hasPrefix (bs p.1) (bs pre)).map (·.1)
theorem mem_keysL {pre x : ByteArray} {r : List Rec} : x ∈ keysL pre r ↔ (rget x r).isSome = true ∧ Lib.hasPrefix (bs x) (bs pre) = true := by
  unfold keysL
  rw [List.mem_map]
  constructor
  · rintro ⟨p, h1, rfl⟩
    obtain ⟨h2, h3⟩ := List.mem_filter.1 h1
    refine ⟨?_, h3⟩
    rw [Option.isSome_iff_ne_none]
    exact fun e => get_none.1 e p h2 rfl
  · rintro ⟨h1, h2⟩
    obtain ⟨d, hd⟩ := Option.isSome_iff_exists.1 h1
    exact ⟨(x, d), List.mem_filter.2 ⟨get_mem hd, h2⟩, rfl⟩
theorem keysL_srt {pre : ByteArray} {r : List Rec} (h : Srt r) : (keysL pre r).Pairwise fun a b => lt a b = true := by
  unfold keysL
  rw [List.pairwise_map]
  exact List.Pairwise.filter _ h
theorem keysL_nodup {pre : ByteArray} {r : List Rec} (h : Srt r) : (keysL pre r).Nodup := (keysL_srt h).imp (fun {a b} h => lt_ne h)
def Coll (pre : ByteArray) (r : List Rec) (left : Lit → Bool) (xs : List ByteArray) : Prop := xs.Nodup ∧ ∀ x, x ∈ xs ↔ ((rget x r).isSome = true ∧ left (.string (bs x)) = false) ∧ Lib.hasPrefix (bs x) (bs pre) = true
theorem Coll.start (pre : ByteArray) (r : List Rec) : Coll pre r (Maps.has (dat r)) [] := ⟨List.nodup_nil, fun x => by rw [dat_has]; cases (rget x r).isSome <;> simp⟩
theorem skey (x y : ByteArray) : Lit.sameKey (.string (bs x)) (.string (bs y)) = decide (x = y) := bs_eq x y
theorem Coll.step {pre x d : ByteArray} {r : List Rec} {left : Lit → Bool} {xs : List ByteArray} (h : Coll pre r left xs) (hl : left (.string (bs x)) = true) (hg : rget x r = some d) : Coll pre r (fun z => left z && !z.sameKey (.string (bs x))) (if Lib.hasPrefix (bs x) (bs pre) then xs ++ [x] else xs) := by
  have hn : x ∉ xs := fun hx => by have := ((h.2 x).1 hx).1.2; rw [hl] at this; cases this
  split
  · rename_i hp
    refine ⟨List.nodup_append.2 ⟨h.1, by simp, fun a ha b hb => by simp at hb; subst hb; exact fun e => hn (e ▸ ha)⟩, fun y => ?_⟩
    by_cases e : y = x
    · subst e; simp [skey, hg, hp]
    · simp [h.2 y, e, skey]
  · rename_i hp
    refine ⟨h.1, fun y => ?_⟩
    by_cases e : y = x
    · subst e; simp [hn, hp]
    · simp [h.2 y, e, skey]
theorem Coll.done {pre : ByteArray} {r : List Rec} {left : Lit → Bool} {xs : List ByteArray} (h : Coll pre r left xs) (hs : Srt r) (hl : ∀ k, left k = false) : ((xs.map bs).mergeSort fun x y => decide (x ≤ y)) = (keysL pre r).map bs := by
  have hp : xs.Perm (keysL pre r) := (List.perm_ext_iff_of_nodup h.1 (keysL_nodup hs)).2 fun x => by rw [h.2 x, mem_keysL, hl]; simp
  rw [mergeSort_of_perm (hp.map bs)]
  apply List.mergeSort_of_pairwise
  rw [List.pairwise_map]
  refine (keysL_srt hs).imp fun {a b} h => ?_
  rw [lt_iff] at h
  simp only [decide_eq_true_eq] at h ⊢
  exact List.le_of_lt h
theorem enc_map (xs : List ByteArray) : xs.map Value.string = (xs.map bs).map encStr := by
  rw [List.map_map]
  apply List.map_congr_left
  intro x _
  simp [encStr, bs]
theorem below_grownBy {B : Nat} {a w w' : World} {row : Option Nat} (h : Below B a w) (hg : w.grownBy w' row) (hB : B ≤ a.heap.size) (hr : ∀ j, row = some j → B ≤ j) : Below B a w' := h.grown hg (Nat.le_trans hB h.size) (fun j hj => hr j hj)
theorem sortC (B : Nat) (v : Value) (xs : List ByteArray) (w : World) (h : w.ownsRow B 9 1 v xs.length (xs.map Value.string)) (hl : xs.length < 4611686018427387904) :
    Calls Tryz.prog 88 #[v] w fun e w' => e = .returned (.tuple #[]) ∧ (∃ ts : List ByteArray, ts.map bs = ((xs.map bs).mergeSort fun x y => decide (x ≤ y)) ∧ w'.ownsRow B 9 1 v xs.length (ts.map Value.string)) ∧ w.grownBy w' v.ownBlock := by
  rcases h.2 with ⟨rfl, h0⟩ | ⟨g, cap, cur, rfl, hbase, hb, h1, h2, h3, h4⟩
  · have hx : xs = [] := by
      cases xs with
      | nil => rfl
      | cons x r => simp at h0
    subst hx
    refine (Any.slices_Sort_string_none lays190 none 0 w).mono ?_
    rintro e w' ⟨rfl, rfl⟩
    exact ⟨rfl, ⟨[], by simp, h⟩, ⟨rfl, rfl, rfl, Nat.le_refl _, fun _ _ _ => rfl⟩⟩
  · have hH : Holds encStr w g 0 (xs.map bs).toArray := holds_of_block hb (by rw [List.length_map, ← enc_map]; simpa using h4)
    have hlen : (xs.map bs).length = xs.length := by simp
    have C := Any.slices_Sort_string lays190 g 0 cap (xs.map bs) w hH (Array.getElem?_eq_some_iff.1 hb).1 (by rw [hlen]; exact hl)
    rw [hlen] at C
    refine C.mono ?_
    rintro e w' ⟨rfl, n, os, rfl⟩
    have hts : ∀ l : List (List UInt8), ∃ ts : List ByteArray, ts.map bs = l := fun l => ⟨l.map fun x => ⟨x.toArray⟩, by rw [List.map_map]; apply List.ext_getElem <;> simp [bs]⟩
    obtain ⟨ts, hts⟩ := hts ((xs.map bs).mergeSort fun x y => decide (x ≤ y))
    refine ⟨rfl, ⟨ts, hts, ?_⟩, grownBy_sorted _⟩
    rw [enc_map, hts]
    have := ownsRow_sorted (n := n) (os := os) (ss := xs.map bs) (ts := (xs.map bs).mergeSort fun x y => decide (x ≤ y)) (by simp) hbase hb (by rw [hlen]; exact h1) h2 h3
    rw [hlen] at this
    exact this
theorem map_bs_inj {xs ys : List ByteArray} (h : xs.map bs = ys.map bs) : xs = ys := by
  induction xs generalizing ys with
  | nil => cases ys with
    | nil => rfl
    | cons y ys => simp at h
  | cons x xs ih => cases ys with
    | nil => simp at h
    | cons y ys =>
      simp only [List.map_cons, List.cons.injEq] at h
      rw [bs_inj h.1, ih h.2]
set_option maxHeartbeats 3200000 in
theorem keysM (b : Nat) (r : List Rec) (pre : ByteArray) (w : World) (h : Mp b r w) (hl : r.length ≤ 4398046511104) :
    Calls Tryz.prog 46 #[.map (some b), .string pre] w fun e w' => ∃ v, e = .returned v ∧ w'.ownsRow w.heap.size 9 1 v (keysL pre r).length ((keysL pre r).map Value.string) ∧ Below w.heap.size w w' := by
  obtain ⟨i9, hi, hz0, hz1, hz2⟩ := info_parts hi9
  have HIN : Hid (_ ∧ _ ∧ _ ∧ _) := ⟨hi, hz0, hz1, hz2⟩
  clear hi hz0 hz1 hz2
  have H : Hid (Mp b r w) := h
  have HS : Hid (Srt r) := h.srt
  have CP : Hid (∀ (w : World) (x : ByteArray), Calls Tryz.prog 87 #[.string x, .string pre] w fun e w' => e = .returned (.bool (Lib.hasPrefix (bs x) (bs pre))) ∧ w' = w) := fun w x => Any.strings_HasPrefix lays99 x pre w
  obtain ⟨B, HB⟩ : ∃ B, B = w.heap.size := ⟨_, rfl⟩
  have HB0 : Hid (B = w.heap.size) := HB
  have HBr : Hid (Below B w w) := Below.refl _ _
  rw [← HB]
  have hbB : b < B := by rw [HB]; exact h.lt
  clear h HB
  go_enter Tryz.func46, Tryz.ntmps46
  go_wp2_with (first | (at_range; refine wpList_range_own _ rfl _ 50 rfl 9 95 law Tryz.underlying50 recE b r.length (dat r) rfl H.out ?_; rw [← HB0.out]; intro w0 hrg0 hg0 hs0) | go_in)
  go_frame
  go_loopw [5] (fun v wr => ∃ (left : Lit → Bool) (c : Nat) (xs : List ByteArray), xs.length + c ≤ r.length ∧ Hid (Coll pre r left xs ∧ wr.ranges Tryz.prog 9 recE b B r.length (dat r) left c ∧ wr.ownsRow B 9 1 v xs.length (xs.map Value.string) ∧ Below B w wr)) (fun _ wr => wr.rangeLeft b B)
  case atStart =>
    refine ⟨_, _, [], by rw [dat_size]; simp, Coll.start pre r, hrg0, World.ownsRow_nil _ _ _ _, ?_⟩
    exact below_grownBy HBr.out hg0 (by rw [HB0.out]; exact Nat.le_refl _) (by intro j hj; cases hj)
  case round =>
    clear hrg0 hg0 hs0
    obtain ⟨left, c, xs, hxc, HH⟩ := hrel
    have hfm : ∃ a k, u5 = .slice a xs.length k := own_formS HH.out.2.2.1
    go_wp2_with (first | (at_next; refine wpList_nextR _ rfl _ rfl b B r.length r left c rfl HH.out.2.1 ?_ ?_) | go_in)
    · intro h0
      have HD : Hid (((xs.map bs).mergeSort fun x y => decide (x ≤ y)) = (keysL pre r).map bs) := HH.out.1.done HS.out h0
      have HO : Hid (wr.ownsRow B 9 1 u5 xs.length (xs.map Value.string)) := HH.out.2.2.1
      have HL : Hid (Below B w wr) := HH.out.2.2.2
      have CS : Hid (Calls _ _ _ _ _) := sortC B u5 xs wr HO.out (by omega)
      clear HH hfm
      go_wp2_with (go_at_call 88; refine CS.out.mono ?_; rintro _ w1 ⟨rfl, ⟨ts, h1, h2⟩, h3⟩; have H1 : Hid (ts.map bs = ((xs.map bs).mergeSort fun x y => decide (x ≤ y))) := h1; have H2 : Hid (World.ownsRow _ _ _ _ _ _ _) := h2; have H3 : Hid (World.grownBy _ _ _) := h3; clear h1 h2 h3)
      go_ret
      have he : ts = keysL pre r := map_bs_inj (H1.out.trans HD.out)
      subst he
      have hn : xs.length = (keysL pre r).length := by
        have := congrArg List.length H1.out
        simpa using this.symm
      refine ⟨_, rfl, ?_, ?_⟩
      · rw [← hn]; exact H2.out
      · exact below_grownBy HL.out H3.out (by rw [HB0.out]; exact Nat.le_refl _) (fun j hj => (HO.out.lt _ hj).1)
    · intro x d w1 c1 hlx hgx hrg1 hlt hgr hsz hen
      have HC : Hid (Coll pre r (fun z => left z && !z.sameKey (.string (bs x))) (if Lib.hasPrefix (bs x) (bs pre) then xs ++ [x] else xs)) := HH.out.1.step hlx hgx
      have HB1 : Hid (Below B w w1) := below_grownBy HH.out.2.2.2 hgr (by rw [HB0.out]; exact Nat.le_refl _) (by intro j hj; injection hj with hj; omega)
      have HR1 : Hid (w1.ranges Tryz.prog 9 recE b B r.length (dat r) (fun z => left z && !z.sameKey (.string (bs x))) c1) := hrg1
      have HM : Hid (c1 < c ∧ wr.rangeLeft b B = c) := ⟨hlt, HH.out.2.1.left_eq⟩
      have HO1 : Hid (w1.ownsRow B 9 1 u5 xs.length (xs.map Value.string)) := HH.out.2.2.1.kept hgr (.inr fun e => row_ne_iter HH.out.2.2.1 HH.out.2.1 e.symm)
      have hsz1 : B ≤ w1.heap.size := by have := HB1.out.size; rw [HB0.out]; exact this
      have CX : Hid (∀ w : World, Calls _ _ _ _ _) := fun w => CP.out w x
      clear hrg1 hlx hgx HH hgr hfm hsz
      cases hp : Lib.hasPrefix (bs x) (bs pre) with
      | false =>
        rw [hp] at CX
        have HC' : Hid (Coll pre r (fun z => left z && !z.sameKey (.string (bs x))) xs) := by have := HC.out; rw [hp] at this; exact this
        clear HC hp
        go_wp2_with (first | (go_at_call 87; refine (CX.out _).mono ?_; rintro _ w2 ⟨rfl, hw2⟩; rw [hw2]; clear hw2) | go_in)
        go_roundw
        case rel => exact ⟨_, c1, xs, by omega, HC'.out, HR1.out, HO1.out, HB1.out⟩
        case measure => rw [HM.out.2, HR1.out.left_eq]; exact HM.out.1
      | true =>
        rw [hp] at CX
        have HC' : Hid (Coll pre r (fun z => left z && !z.sameKey (.string (bs x))) (xs ++ [x])) := by have := HC.out; rw [hp] at this; exact this
        have HR2 : Hid ((w1.alloc (.cells #[.string x] 9)).ranges Tryz.prog 9 recE b B r.length (dat r) (fun z => left z && !z.sameKey (.string (bs x))) c1) := HR1.out.alloc _
        have HO2 : Hid ((w1.alloc (.cells #[.string x] 9)).ownsRow B 9 1 u5 xs.length (xs.map Value.string)) := HO1.out.alloc _
        have HB2 : Hid (Below B w (w1.alloc (.cells #[.string x] 9))) := HB1.out.alloc hsz1 _
        clear HC hp
        go_wp2_with (first | (go_at_call 87; refine (CX.out _).mono ?_; rintro _ w2 ⟨rfl, hw2⟩; rw [hw2]; clear hw2) | (at_builtin; (refine wpList_append_own _ rfl _ _ 91 rfl B 9 i9 (.string ByteArray.empty) 1 16 Tryz.underlying91 HIN.out.1 HIN.out.2.1 HIN.out.2.2.1 HIN.out.2.2.2 rfl (by decide) _ xs.length _ rfl HO2.out ⟨w1.heap.size, 0, none⟩ 1 1 [.string x] rfl rfl (new_text _ _ _) (one_text _) (by unfold maxLen; omega) (by omega) (by simp; omega) ?_; intro v' w3 ho hg hnn; have HO3 : Hid (World.ownsRow _ _ _ _ _ _ _) := ho; have HG3 : Hid (World.grownBy _ _ _) := hg; clear ho hg hnn)) | go_in)
        have HR3 : Hid (w3.ranges Tryz.prog 9 recE b B r.length (dat r) (fun z => left z && !z.sameKey (.string (bs x))) c1) := HR2.out.kept HG3.out (row_ne_low HO2.out hbB) (row_ne_iter HO2.out HR2.out)
        have HB3 : Hid (Below B w w3) := below_grownBy HB2.out HG3.out (by rw [HB0.out]; exact Nat.le_refl _) (fun j hj => (HO2.out.lt _ hj).1)
        go_roundw
        case rel => exact ⟨_, c1, xs ++ [x], by simp; omega, HC'.out, HR3.out, by rw [List.length_append, List.map_append]; exact HO3.out, HB3.out⟩
        case measure => rw [HM.out.2, HR3.out.left_eq]; exact HM.out.1
end Go.Proofs.YtpcllegjnbeppaaGreat.yd

namespace Go.Proofs.YtpcllegjnbeppaaGreat.ye
open Go.RowKit Go.PlainAid Go.Maps
open Go.Proofs.YtpcllegjnbeppaaGreat.ca Go.Proofs.YtpcllegjnbeppaaGreat.cb Go.Proofs.YtpcllegjnbeppaaGreat.cp Go.Proofs.YtpcllegjnbeppaaGreat.kp Go.Proofs.YtpcllegjnbeppaaGreat.ka Go.Proofs.YtpcllegjnbeppaaGreat.ya Go.Proofs.YtpcllegjnbeppaaGreat.yb Go.Proofs.YtpcllegjnbeppaaGreat.yc Go.Proofs.YtpcllegjnbeppaaGreat.yd Go.Proofs.YtpcllegjnbeppaaGreat.sb
set_option linter.unusedVariables false
set_option linter.unusedSimpArgs false
structure W where
  cut : Bool
  key : ByteArray
  data : ByteArray
def doW (r : List Rec) (x : W) : List Rec := if x.cut then del x.key r else put x.key x.data r
structure S where
  cap : Int
  dur : List Rec
  pend : List W
  armed : Nat
  off : Bool
  age : Nat
def now (s : S) : List Rec := s.pend.foldl doW s.dur
def OkW (x : W) : Prop := 1 ≤ x.key.size ∧ x.key.size ≤ 64 ∧ x.data.size ≤ 1048576
structure OkS (s : S) : Prop where
  dur : OkR s.dur
  srt : Srt s.dur
  pend : ∀ x ∈ s.pend, OkW x
  cap0 : 0 ≤ s.cap
  cap1 : s.cap ≤ 1073741824
  arm : s.armed ≤ 9223372036854775807
  age : s.age ≤ 4398046511104
  len : s.dur.length + s.pend.length < 3518437208883
theorem ok_doW {r : List Rec} {x : W} (h : OkR r) (hx : OkW x) : OkR (doW r x) := by
  unfold doW
  split
  · exact h.del
  · exact h.put hx.1 hx.2.1 hx.2.2
theorem srt_doW {r : List Rec} {x : W} (h : Srt r) : Srt (doW r x) := by
  unfold doW
  split
  · exact srt_del h
  · exact srt_put h
theorem len_doW (r : List Rec) (x : W) : (doW r x).length ≤ r.length + 1 := by
  unfold doW
  split
  · have := len_del x.key r; omega
  · exact len_put _ _ _
theorem ok_do {r : List Rec} {l : List W} (h : OkR r) (hl : ∀ x ∈ l, OkW x) : OkR (l.foldl doW r) := by
  induction l generalizing r with
  | nil => exact h
  | cons x l ih => exact ih (ok_doW h (hl x (by simp))) (fun y hy => hl y (by simp [hy]))
theorem srt_do {r : List Rec} {l : List W} (h : Srt r) : Srt (l.foldl doW r) := by
  induction l generalizing r with
  | nil => exact h
  | cons x l ih => exact ih (srt_doW h)
theorem len_do (r : List Rec) (l : List W) : (l.foldl doW r).length ≤ r.length + l.length := by
  induction l generalizing r with
  | nil => simp
  | cons x l ih => have := ih (doW r x); have := len_doW r x; simp only [List.foldl_cons, List.length_cons]; omega
theorem OkS.now {s : S} (h : OkS s) : OkR (now s) := ok_do h.dur h.pend
theorem OkS.snow {s : S} (h : OkS s) : Srt (ye.now s) := srt_do h.srt
theorem OkS.lnow {s : S} (h : OkS s) : (ye.now s).length < 3518437208883 := Nat.lt_of_le_of_lt (len_do _ _) h.len
theorem OkS.tot {s : S} (h : OkS s) : tot (ye.now s) < 4000000000000000000 := by have := h.now.tot; have := h.lnow; omega
-- the store in memory
def fnV (bd : Nat) (c : Bool) : Value := .func (.func (if c then 109 else 79)) #[.map (some bd)] #[]
def wc (bd : Nat) (x : W) : List Value := [fnV bd x.cut, .string x.key, .string x.data]
def wcs (bd : Nat) (l : List W) : List Value := l.flatMap (wc bd)
def cells (bn bd : Nat) (pv : Value) (u : Nat) (s : S) : List Value := [.map (some bn), .map (some bd), pv, .int .i64 u, .int .i64 s.cap, .int .i64 s.armed, .bool s.off, .int .i64 s.age]
def St (g bn bd : Nat) (pv : Value) (u : Nat) (s : S) (w : World) : Prop := w.heap[g]? = some (.cells (cells bn bd pv u s).toArray 80 (0, 0))
structure Sr (B g bn bd : Nat) (pv : Value) (s : S) (w : World) : Prop where
  row : St g bn bd pv (tot (now s)) s w
  mn : Mp bn (now s) w
  md : Mp bd s.dur w
  ne : bn ≠ bd
  pr : w.ownsRow B 100 3 pv s.pend.length (wcs bd s.pend)
  low : B ≤ g ∧ B ≤ bn ∧ B ≤ bd
  ok : OkS s
theorem St.lt {g bn bd u : Nat} {pv : Value} {s : S} {w : World} (h : St g bn bd pv u s w) : g < w.heap.size := (Array.getElem?_eq_some_iff.1 h).1
theorem St.keep {g bn bd u : Nat} {pv : Value} {s : S} {w w' : World} {A : Nat → Prop} (h : St g bn bd pv u s w) (k : Kp A w w') (hn : ¬ A g) : St g bn bd pv u s w' := (k.block _ h.lt hn).trans h
theorem St.c0 {g bn bd u : Nat} {pv : Value} {s : S} {w : World} (h : St g bn bd pv u s w) : w.cell? ⟨g, 0, none⟩ = some (.map (some bn)) := cell_of_row _ _ 0 _ _ _ h
theorem St.c1 {g bn bd u : Nat} {pv : Value} {s : S} {w : World} (h : St g bn bd pv u s w) : w.cell? ⟨g, 1, none⟩ = some (.map (some bd)) := cell_of_row _ _ 1 _ _ _ h
theorem St.c2 {g bn bd u : Nat} {pv : Value} {s : S} {w : World} (h : St g bn bd pv u s w) : w.cell? ⟨g, 2, none⟩ = some pv := cell_of_row _ _ 2 _ _ _ h
theorem St.c3 {g bn bd u : Nat} {pv : Value} {s : S} {w : World} (h : St g bn bd pv u s w) : w.cell? ⟨g, 3, none⟩ = some (.int .i64 u) := cell_of_row _ _ 3 _ _ _ h
theorem St.c4 {g bn bd u : Nat} {pv : Value} {s : S} {w : World} (h : St g bn bd pv u s w) : w.cell? ⟨g, 4, none⟩ = some (.int .i64 s.cap) := cell_of_row _ _ 4 _ _ _ h
theorem St.c5 {g bn bd u : Nat} {pv : Value} {s : S} {w : World} (h : St g bn bd pv u s w) : w.cell? ⟨g, 5, none⟩ = some (.int .i64 s.armed) := cell_of_row _ _ 5 _ _ _ h
theorem St.c6 {g bn bd u : Nat} {pv : Value} {s : S} {w : World} (h : St g bn bd pv u s w) : w.cell? ⟨g, 6, none⟩ = some (.bool s.off) := cell_of_row _ _ 6 _ _ _ h
theorem St.c7 {g bn bd u : Nat} {pv : Value} {s : S} {w : World} (h : St g bn bd pv u s w) : w.cell? ⟨g, 7, none⟩ = some (.int .i64 s.age) := cell_of_row _ _ 7 _ _ _ h
theorem St.fz {g bn bd u : Nat} {pv : Value} {s : S} {w : World} (h : St g bn bd pv u s w) (i : Nat) : w.frozen? ⟨g, i, none⟩ = false := frozen_of_row _ _ i _ _ h
theorem St.set2 {g bn bd u : Nat} {pv : Value} {s : S} {w : World} (h : St g bn bd pv u s w) (v : Value) : St g bn bd v u s (w.setCell ⟨g, 2, none⟩ v) := heap_setCell_same _ _ 2 _ _ _ h
theorem St.set3 {g bn bd u : Nat} {pv : Value} {s : S} {w : World} (h : St g bn bd pv u s w) (v : Nat) : St g bn bd pv v s (w.setCell ⟨g, 3, none⟩ (.int .i64 v)) := heap_setCell_same _ _ 3 _ _ _ h
theorem St.set5 {g bn bd u : Nat} {pv : Value} {s : S} {w : World} (h : St g bn bd pv u s w) (v : Nat) : St g bn bd pv u { s with armed := v } (w.setCell ⟨g, 5, none⟩ (.int .i64 v)) := heap_setCell_same _ _ 5 _ _ _ h
theorem St.set6 {g bn bd u : Nat} {pv : Value} {s : S} {w : World} (h : St g bn bd pv u s w) (v : Bool) : St g bn bd pv u { s with off := v } (w.setCell ⟨g, 6, none⟩ (.bool v)) := heap_setCell_same _ _ 6 _ _ _ h
theorem St.set7 {g bn bd u : Nat} {pv : Value} {s : S} {w : World} (h : St g bn bd pv u s w) (v : Nat) : St g bn bd pv u { s with age := v } (w.setCell ⟨g, 7, none⟩ (.int .i64 v)) := heap_setCell_same _ _ 7 _ _ _ h
theorem orNoneC (g : Nat) (w : World) : Calls Tryz.prog 43 #[.pointer (some ⟨g, 0, none⟩)] w fun e w' => e = .returned (.pointer (some ⟨g, 0, none⟩)) ∧ w' = w := by
  go_enter Tryz.func43, Tryz.ntmps43
  go_wp2
  go_ret
  exact ⟨rfl, rfl⟩
theorem usedC {g bn bd u : Nat} {pv : Value} {s : S} {w : World} (h : St g bn bd pv u s w) : Calls Tryz.prog 9 #[.pointer (some ⟨g, 0, none⟩)] w fun e w' => e = .returned (.int .i64 u) ∧ w' = w := by
  have c := h.c3
  clear h
  go_enter Tryz.func9, Tryz.ntmps9
  go_wp2_with (go_at_call 43; refine (orNoneC g _).mono ?_; rintro _ _ ⟨rfl, hw⟩; rw [hw]; clear hw)
  go_ret
  exact ⟨rfl, rfl⟩
theorem ageC {g bn bd u : Nat} {pv : Value} {s : S} {w : World} (h : St g bn bd pv u s w) : Calls Tryz.prog 121 #[.pointer (some ⟨g, 0, none⟩)] w fun e w' => e = .returned (.int .i64 s.age) ∧ w' = w := by
  have c := h.c7
  clear h
  go_enter Tryz.func121, Tryz.ntmps121
  go_wp2_with (go_at_call 43; refine (orNoneC g _).mono ?_; rintro _ _ ⟨rfl, hw⟩; rw [hw]; clear hw)
  go_ret
  exact ⟨rfl, rfl⟩
theorem downC {g bn bd u : Nat} {pv : Value} {s : S} {w : World} (h : St g bn bd pv u s w) : Calls Tryz.prog 13 #[.pointer (some ⟨g, 0, none⟩)] w fun e w' => e = .returned (.bool s.off) ∧ w' = w := by
  have c := h.c6
  clear h
  go_enter Tryz.func13, Tryz.ntmps13
  go_wp2_with (go_at_call 43; refine (orNoneC g _).mono ?_; rintro _ _ ⟨rfl, hw⟩; rw [hw]; clear hw)
  go_ret
  exact ⟨rfl, rfl⟩
theorem pendingC {B g bn bd u n : Nat} {pv : Value} {s : S} {w : World} {xs : List Value} (h : St g bn bd pv u s w) (ho : w.ownsRow B 100 3 pv n xs) : Calls Tryz.prog 11 #[.pointer (some ⟨g, 0, none⟩)] w fun e w' => e = .returned (.int .i64 n) ∧ w' = w := by
  have c := h.c2
  obtain ⟨a, k, rfl⟩ := own_formS ho
  clear h ho
  go_enter Tryz.func11, Tryz.ntmps11
  go_wp2_with (go_at_call 43; refine (orNoneC g _).mono ?_; rintro _ _ ⟨rfl, hw⟩; rw [hw]; clear hw)
  go_ret
  exact ⟨rfl, rfl⟩
def refS (s : S) (k : ByteArray) : Int := if s.off then 124 else if 1 ≤ k.size ∧ k.size ≤ 64 then 0 else 120
theorem refusalC {g bn bd u : Nat} {pv : Value} {s : S} {w : World} (k : ByteArray) (h : St g bn bd pv u s w) : Calls Tryz.prog 74 #[.pointer (some ⟨g, 0, none⟩), .string k] w fun e w' => e = .returned (.int .i64 (refS s k)) ∧ w' = w := by
  have CD : Hid (Calls _ _ _ _ _) := downC h
  have CK : Hid (∀ w, Calls _ _ _ _ _) := fun w => keyGoesC k w
  unfold refS
  clear h
  cases ho : s.off with
  | true =>
    rw [ho] at CD
    go_enter Tryz.func74, Tryz.ntmps74
    go_wp2_with (go_at_call 13; refine CD.out.mono ?_; rintro _ _ ⟨rfl, hw⟩; rw [hw]; clear hw)
    go_ret
    exact ⟨rfl, rfl⟩
  | false =>
    rw [ho] at CD
    by_cases hk : 1 ≤ k.size ∧ k.size ≤ 64
    · rw [decide_eq_true hk] at CK
      rw [if_pos hk]
      clear hk
      go_enter Tryz.func74, Tryz.ntmps74
      go_wp2_with (first | (go_at_call 13; refine CD.out.mono ?_; rintro _ _ ⟨rfl, hw⟩; rw [hw]; clear hw) | (go_at_call 114; refine (CK.out _).mono ?_; rintro _ _ ⟨rfl, hw⟩; rw [hw]; clear hw))
      go_ret
      exact ⟨rfl, rfl⟩
    · rw [decide_eq_false hk] at CK
      rw [if_neg hk]
      clear hk
      go_enter Tryz.func74, Tryz.ntmps74
      go_wp2_with (first | (go_at_call 13; refine CD.out.mono ?_; rintro _ _ ⟨rfl, hw⟩; rw [hw]; clear hw) | (go_at_call 114; refine (CK.out _).mono ?_; rintro _ _ ⟨rfl, hw⟩; rw [hw]; clear hw))
      go_ret
      exact ⟨rfl, rfl⟩
def spendS (s : S) : Int × S := if s.armed = 0 then (0, s) else if s.armed = 1 then (124, { s with armed := 0, off := true }) else (0, { s with armed := s.armed - 1 })
theorem spendC {g bn bd u : Nat} {pv : Value} {s : S} {w : World} (h : St g bn bd pv u s w) (ha : s.armed ≤ 9223372036854775807) : Calls Tryz.prog 49 #[.pointer (some ⟨g, 0, none⟩)] w fun e w' => e = .returned (.int .i64 (spendS s).1) ∧ St g bn bd pv u (spendS s).2 w' ∧ Kp (fun k => k = g) w w' := by
  have c := h.c5
  have f5 := h.fz 5
  have f6 := h.fz 6
  unfold spendS
  by_cases h0 : s.armed = 0
  · rw [if_pos h0]
    have H : Hid (St g bn bd pv u s w) := h
    have h0' : ((s.armed : Int) == 0) = true := by rw [h0]; rfl
    clear h h0
    go_enter Tryz.func49, Tryz.ntmps49
    go_wp2
    go_ret
    exact ⟨rfl, H.out, Kp.refl _ _⟩
  · rw [if_neg h0]
    have h0' : ((s.armed : Int) == 0) = false := by rw [beq_eq_false_iff_ne]; omega
    obtain ⟨q, hq⟩ : ∃ q : Nat, s.armed - 1 = q := ⟨_, rfl⟩
    have HS : Hid (St g bn bd pv u { s with armed := q } (w.setCell ⟨g, 5, none⟩ (.int .i64 (q : Int)))) := h.set5 q
    have hw1 : IntKind.i64.wrap ((s.armed : Int) - 1) = (q : Int) := by
      rw [show (s.armed : Int) - 1 = (q : Int) by omega]
      exact wrap_is _ (by omega)
    have K1 : Hid (Kp (fun k => k = g) w (w.setCell ⟨g, 5, none⟩ (.int .i64 (q : Int)))) := Kp.setCell _ _ _ _ rfl
    rw [hq]
    by_cases h1 : s.armed = 1
    · rw [if_pos h1]
      have hd : q = 0 := by omega
      subst hd
      have f6' := HS.out.fz 6
      have H2 : Hid (St g bn bd pv u { s with armed := 0, off := true } ((w.setCell ⟨g, 5, none⟩ (.int .i64 (0 : Int))).setCell ⟨g, 6, none⟩ (.bool true))) := HS.out.set6 true
      have c6 : (w.setCell ⟨g, 5, none⟩ (.int .i64 (0 : Int))).cell? ⟨g, 6, none⟩ = some (.bool s.off) := HS.out.c6
      clear h h0 h1 hq
      go_enter Tryz.func49, Tryz.ntmps49
      go_wp2
      go_ret
      exact ⟨rfl, H2.out, K1.out.trans (Kp.setCell _ _ _ _ rfl)⟩
    · rw [if_neg h1]
      have hd : 0 < q := by omega
      have hd' : (0 : Int) < (q : Int) := by omega
      clear h h0 h1 hq
      go_enter Tryz.func49, Tryz.ntmps49
      go_wp2
      go_ret
      exact ⟨rfl, HS.out, K1.out⟩
end Go.Proofs.YtpcllegjnbeppaaGreat.ye

namespace Go.Proofs.YtpcllegjnbeppaaGreat.yf
open Go.RowKit Go.PlainAid Go.Maps
open Go.Proofs.YtpcllegjnbeppaaGreat.ca Go.Proofs.YtpcllegjnbeppaaGreat.cb Go.Proofs.YtpcllegjnbeppaaGreat.cp Go.Proofs.YtpcllegjnbeppaaGreat.kp Go.Proofs.YtpcllegjnbeppaaGreat.ka Go.Proofs.YtpcllegjnbeppaaGreat.ya Go.Proofs.YtpcllegjnbeppaaGreat.yb Go.Proofs.YtpcllegjnbeppaaGreat.yc Go.Proofs.YtpcllegjnbeppaaGreat.yd Go.Proofs.YtpcllegjnbeppaaGreat.ye Go.Proofs.YtpcllegjnbeppaaGreat.sb Go.Proofs.YtpcllegjnbeppaaGreat.mc
set_option linter.unusedVariables false
set_option linter.unusedSimpArgs false
def Fr (g bn bd : Nat) (pv : Value) (k : Nat) : Prop := k = g ∨ k = bn ∨ k = bd ∨ some k = pv.ownBlock
-- the store as it is behind a call
def Rn (B g bn bd : Nat) (pv : Value) (s : S) (w w' : World) : Prop := ∃ pv', Sr B g bn bd pv' s w' ∧ Kp (Fr g bn bd pv) w w' ∧ ∀ k, some k = pv'.ownBlock → some k = pv.ownBlock ∨ w.heap.size ≤ k
theorem own_kp {A : Nat → Prop} {w w' : World} {B t z n : Nat} {v : Value} {xs : List Value} (o : w.ownsRow B t z v n xs) (k : Kp A w w') (hn : ∀ j, some j = v.ownBlock → ¬ A j) : w'.ownsRow B t z v n xs := by
  refine ⟨o.1, ?_⟩
  rcases o.2 with h2 | ⟨g', cap, cur', rfl, h2, h3, h4⟩
  · exact .inl h2
  · exact .inr ⟨g', cap, cur', rfl, h2, (k.block g' (Array.getElem?_eq_some_iff.1 h3).1 (hn g' rfl)).trans h3, h4⟩
theorem own_tag {w : World} {B t z n g : Nat} {v : Value} {xs : List Value} {cur : Array Value} {T : Nat} {f : Nat × Nat} (o : w.ownsRow B t z v n xs) (hh : w.heap[g]? = some (.cells cur T f)) (ht : t ≠ T) : some g ≠ v.ownBlock := by
  rcases o.2 with ⟨rfl, _⟩ | ⟨g', cap, cur', rfl, _, h3, _⟩
  · intro e; cases e
  · intro e
    have e : g = g' := Option.some.inj e
    subst e
    rw [hh] at h3
    injection h3 with h3
    injection h3 with _ h3 _
    exact ht h3.symm
theorem own_map {w : World} {B t z n b : Nat} {v : Value} {xs : List Value} {r : List Rec} (o : w.ownsRow B t z v n xs) (hm : Mp b r w) : some b ≠ v.ownBlock := by
  rcases o.2 with ⟨rfl, _⟩ | ⟨g', cap, cur', rfl, _, h3, _⟩
  · intro e; cases e
  · intro e
    exact hm.ne h3 (Option.some.inj e)
theorem sr_keep {A : Nat → Prop} {B g bn bd : Nat} {pv : Value} {s : S} {w w' : World} (h : Sr B g bn bd pv s w) (k : Kp A w w') (hn : ∀ j, Fr g bn bd pv j → ¬ A j) : Sr B g bn bd pv s w' :=
  ⟨h.row.keep k (hn g (.inl rfl)), h.mn.keep k (hn bn (.inr (.inl rfl))), h.md.keep k (hn bd (.inr (.inr (.inl rfl)))), h.ne, own_kp h.pr k (fun j hj => hn j (.inr (.inr (.inr hj)))), h.low, h.ok⟩
theorem sr_later {B g bn bd : Nat} {pv : Value} {s : S} {w w' : World} (h : Sr B g bn bd pv s w) (hb : Below w.heap.size w w') : Sr B g bn bd pv s w' := sr_keep h (Kp.of_below (A := fun _ => False) hb) (fun _ _ e => e)
theorem sr_in {B g bn bd : Nat} {pv : Value} {s : S} {w : World} (h : Sr B g bn bd pv s w) : ∀ j, Fr g bn bd pv j → j < w.heap.size ∧ B ≤ j := by
  rintro j (rfl | rfl | rfl | hj)
  · exact ⟨h.row.lt, h.low.1⟩
  · exact ⟨h.mn.lt, h.low.2.1⟩
  · exact ⟨h.md.lt, h.low.2.2⟩
  · exact ⟨(h.pr.lt _ hj.symm).2, (h.pr.lt _ hj.symm).1⟩
theorem Rn.refl {B g bn bd : Nat} {pv : Value} {s : S} {w : World} (h : Sr B g bn bd pv s w) : Rn B g bn bd pv s w w := ⟨pv, h, Kp.refl _ _, fun k hk => .inl hk⟩
theorem Rn.of {B g bn bd : Nat} {pv : Value} {s : S} {w w' : World} (h : Sr B g bn bd pv s w') (k : Kp (Fr g bn bd pv) w w') : Rn B g bn bd pv s w w' := ⟨pv, h, k, fun k hk => .inl hk⟩
theorem Rn.below {B g bn bd : Nat} {pv : Value} {s s' : S} {w w' : World} (h : Sr B g bn bd pv s w) (r : Rn B g bn bd pv s' w w') (hB : B ≤ w.heap.size) : Below B w w' := by
  obtain ⟨pv', _, k, _⟩ := r
  exact k.below (fun j hj => (sr_in h j hj).2) hB
theorem Rn.trans {B g bn bd : Nat} {pv : Value} {s s' : S} {w w1 w2 : World} (r : Rn B g bn bd pv s w w1) (q : ∀ pv', Sr B g bn bd pv' s w1 → Rn B g bn bd pv' s' w1 w2) : Rn B g bn bd pv s' w w2 := by
  obtain ⟨p1, h1, k1, n1⟩ := r
  obtain ⟨p2, h2, k2, n2⟩ := q p1 h1
  refine ⟨p2, h2, ⟨k2.os.trans k1.os, k2.tape.trans k1.tape, k2.output.trans k1.output, Nat.le_trans k1.size k2.size, fun j hj hn => ?_⟩, fun j hj => ?_⟩
  · refine (k2.block j (Nat.lt_of_lt_of_le hj k1.size) ?_).trans (k1.block j hj hn)
    rintro (e | e | e | e)
    · exact hn (.inl e)
    · exact hn (.inr (.inl e))
    · exact hn (.inr (.inr (.inl e)))
    · rcases n1 j e with e | e
      · exact hn (.inr (.inr (.inr e)))
      · omega
  · rcases n2 j hj with e | e
    · exact n1 j e
    · exact .inr (Nat.le_trans k1.size e)
def getS (s : S) (k : ByteArray) : ByteArray × Int := if refS s k ≠ 0 then (ByteArray.empty, refS s k) else ((rget k (now s)).getD ByteArray.empty, if (rget k (now s)).isSome then 0 else 123)
set_option maxHeartbeats 1600000 in
theorem getC {B g bn bd : Nat} {pv : Value} {s : S} {w : World} (k : ByteArray) (h : Sr B g bn bd pv s w) (hk : k.size ≤ 140737488355328) : Calls Tryz.prog 60 #[.pointer (some ⟨g, 0, none⟩), .string k] w fun e w' => e = .returned (.tuple #[.string (getS s k).1, .int .i64 (getS s k).2]) ∧ Below w.heap.size w w' := by
  have CR : Hid (Calls _ _ _ _ _) := refusalC k h.row
  have c0 := h.row.c0
  have HM : Hid (Mp bn (now s) w) := h.mn
  have hkm : k.size ≤ maxLen := by unfold maxLen; omega
  have HB : Hid (∀ o, Below w.heap.size w (w.alloc o)) := fun o => (Below.refl _ w).alloc (Nat.le_refl _) _
  have HB0 : Hid (Below w.heap.size w w) := Below.refl _ w
  obtain ⟨x, HX⟩ : ∃ x, Hid (refS s k = x) := ⟨_, rfl⟩
  obtain ⟨o, HO⟩ : ∃ o, Hid (rget k (now s) = o) := ⟨_, rfl⟩
  unfold getS
  rw [HX.out] at CR ⊢
  rw [HO.out]
  clear h
  by_cases hx : x = 0
  · subst hx
    rw [if_neg (by simp)]
    cases o with
    | none =>
      go_enter Tryz.func60, Tryz.ntmps60
      go_wp2_with (first | (go_at_call 74; refine CR.out.mono ?_; rintro _ _ ⟨rfl, hw⟩; rw [hw]; clear hw) | (at_lookup; refine wpList_look _ rfl _ _ rfl bn (now s) rfl HM.out k rfl hkm ?_; rw [HO.out]) | go_in)
      go_ret2
      exact ⟨rfl, by first | exact HB.out _ | exact (HB.out _).setCell (Nat.le_refl _) _⟩
    | some d =>
      go_enter Tryz.func60, Tryz.ntmps60
      go_wp2_with (first | (go_at_call 74; refine CR.out.mono ?_; rintro _ _ ⟨rfl, hw⟩; rw [hw]; clear hw) | (at_lookup; refine wpList_look _ rfl _ _ rfl bn (now s) rfl HM.out k rfl hkm ?_; rw [HO.out]) | go_in)
      go_ret2
      exact ⟨rfl, by first | exact HB.out _ | exact (HB.out _).setCell (Nat.le_refl _) _⟩
  · rw [if_pos hx]
    have hx' : (x != 0) = true := by rw [bne_iff_ne]; exact hx
    clear hx
    go_enter Tryz.func60, Tryz.ntmps60
    go_wp2_with (first | (go_at_call 74; refine CR.out.mono ?_; rintro _ _ ⟨rfl, hw⟩; rw [hw]; clear hw) | go_in)
    go_ret2
    exact ⟨rfl, HB0.out⟩
def keysS (s : S) (pre : ByteArray) : List ByteArray := if s.off then [] else keysL pre (now s)
theorem keysC {B g bn bd : Nat} {pv : Value} {s : S} {w : World} (k : ByteArray) (h : Sr B g bn bd pv s w) : Calls Tryz.prog 67 #[.pointer (some ⟨g, 0, none⟩), .string k] w fun e w' => ∃ v, e = .returned v ∧ w'.ownsRow w.heap.size 9 1 v (keysS s k).length ((keysS s k).map Value.string) ∧ Below w.heap.size w w' := by
  have CD : Hid (Calls _ _ _ _ _) := downC h.row
  have c0 := h.row.c0
  have CK : Hid (Calls _ _ _ _ _) := keysM bn (now s) k w h.mn (by have := h.ok.lnow; omega)
  have HB0 : Hid (Below w.heap.size w w) := Below.refl _ w
  unfold keysS
  clear h
  cases ho : s.off with
  | true =>
    rw [ho] at CD
    go_enter Tryz.func67, Tryz.ntmps67
    go_wp2_with (first | (go_at_call 13; refine CD.out.mono ?_; rintro _ _ ⟨rfl, hw⟩; rw [hw]; clear hw) | go_in)
    go_ret
    exact ⟨_, rfl, World.ownsRow_nil _ _ _ _, HB0.out⟩
  | false =>
    rw [ho] at CD
    go_enter Tryz.func67, Tryz.ntmps67
    go_wp2_with (first | (go_at_call 13; refine CD.out.mono ?_; rintro _ _ ⟨rfl, hw⟩; rw [hw]; clear hw) | (go_at_call 46; refine CK.out.mono ?_; rintro _ w1 ⟨v, rfl, h1, h2⟩; have H1 : Hid (World.ownsRow _ _ _ _ _ _ _) := h1; have H2 : Hid (Below _ _ _) := h2; clear h1 h2) | go_in)
    go_ret
    exact ⟨v, rfl, H1.out, H2.out⟩
def armS (s : S) (n : Int) : S := if s.off then s else { s with armed := n.toNat }
theorem now_armS (s : S) (n : Int) : now (armS s n) = now s := by unfold armS; split <;> rfl
theorem armC {B g bn bd : Nat} {pv : Value} {s : S} {w : World} (n : Int) (h : Sr B g bn bd pv s w) (hn : n ≤ 9223372036854775807) : Calls Tryz.prog 17 #[.pointer (some ⟨g, 0, none⟩), .int .i64 n] w fun e w' => e = .returned (.tuple #[]) ∧ Rn B g bn bd pv (armS s n) w w' := by
  have CD : Hid (Calls _ _ _ _ _) := downC h.row
  have f5 := h.row.fz 5
  have c5 := h.row.c5
  have H : Hid (Sr B g bn bd pv s w) := h
  unfold armS
  clear h
  cases ho : s.off with
  | true =>
    rw [ho] at CD
    go_enter Tryz.func17, Tryz.ntmps17
    go_wp2_with (first | (go_at_call 13; refine CD.out.mono ?_; rintro _ _ ⟨rfl, hw⟩; rw [hw]; clear hw) | go_in)
    (try simp only [Exit.inBlock, Exit.then]); refine bodyPost_ret (results_none rfl _ _ _) rfl ?_
    exact ⟨rfl, Rn.refl H.out⟩
  | false =>
    rw [ho] at CD
    obtain ⟨m, hm⟩ : ∃ m : Nat, n.toNat = m := ⟨_, rfl⟩
    rw [hm]
    have K : Hid (Kp (fun k => k = g) w (w.setCell ⟨g, 5, none⟩ (.int .i64 (m : Int)))) := Kp.setCell _ _ _ _ rfl
    have HS : Hid (Rn B g bn bd pv { s with armed := m } w (w.setCell ⟨g, 5, none⟩ (.int .i64 (m : Int)))) := by
      refine Rn.of ?_ (K.out.mono fun k hk => .inl hk)
      exact ⟨H.out.row.set5 _, H.out.mn.keep K.out (H.out.mn.ne H.out.row), H.out.md.keep K.out (H.out.md.ne H.out.row), H.out.ne, own_kp H.out.pr K.out (fun j hj e => by subst e; exact own_tag H.out.pr H.out.row (by decide) hj), H.out.low, ⟨H.out.ok.dur, H.out.ok.srt, H.out.ok.pend, H.out.ok.cap0, H.out.ok.cap1, by show m ≤ _; omega, H.out.ok.age, H.out.ok.len⟩⟩
    clear K
    rw [ho] at HS
    by_cases hn0 : n < 0
    · have hm0 : m = 0 := by omega
      subst hm0
      have hn1 : (0 : Int) > n := by omega
      have HX : Hid (max n 0 = ((0 : Nat) : Int)) := by show _ = _; omega
      go_enter Tryz.func17, Tryz.ntmps17
      go_wp2_with (first | (go_at_call 13; refine CD.out.mono ?_; rintro _ _ ⟨rfl, hw⟩; rw [hw]; clear hw) | go_in)
      go_end0
      exact ⟨rfl, by rw [HX.out]; exact HS.out⟩
    · have hm0 : n = m := by omega
      subst hm0
      clear hm hn0
      go_enter Tryz.func17, Tryz.ntmps17
      go_wp2_with (first | (go_at_call 13; refine CD.out.mono ?_; rintro _ _ ⟨rfl, hw⟩; rw [hw]; clear hw) | go_in)
      go_end0
      exact ⟨rfl, HS.out⟩
theorem landC (bd : Nat) (r : List Rec) (x : W) (w : World) (h : Mp bd r w) (hx : OkW x) (hl : r.length < maxLen) : Calls Tryz.prog 50 #[.agg #[fnV bd x.cut, .string x.key, .string x.data]] w fun e w' => e = .returned (.tuple #[]) ∧ Mp bd (doW r x) w' ∧ Kp (fun k => k = bd) w w' := by
  obtain ⟨c, k, d⟩ := x
  have hk : k.size ≤ maxLen := Nat.le_trans hx.2.1 (by unfold maxLen; omega)
  have hd : d.size ≤ maxLen := Nat.le_trans hx.2.2 (by unfold maxLen; omega)
  have hlt := h.lt
  have KB : Hid (∀ o, Kp (fun k => k = bd) w (w.alloc o)) := fun o => Kp.of_below ((Below.refl _ w).alloc (Nat.le_refl _) _)
  have HM : Hid (∀ o, Mp bd r (w.alloc o)) := fun o => h.keep (Kp.of_below (A := fun _ => False) ((Below.refl _ w).alloc (Nat.le_refl _) o)) (fun e => e)
  unfold doW
  clear h hx
  cases c with
  | true =>
    have ef : fnV bd true = .func (.func 109) #[.map (some bd)] #[] := rfl
    rw [ef]
    go_enter Tryz.func50, Tryz.ntmps50
    go_wp2_with (first | (go_at_call 109; refine (cutM bd r k d _ (HM.out _) hk).mono ?_; rintro _ w1 ⟨rfl, h1, k1⟩) | go_in)
    go_end0
    exact ⟨rfl, h1, (KB.out _).trans k1⟩
  | false =>
    have ef : fnV bd false = .func (.func 79) #[.map (some bd)] #[] := rfl
    rw [ef]
    go_enter Tryz.func50, Tryz.ntmps50
    go_wp2_with (first | (go_at_call 79; refine (putM bd r k d _ (HM.out _) hk hd hl).mono ?_; rintro _ w1 ⟨rfl, h1, k1⟩) | go_in)
    go_end0
    exact ⟨rfl, h1, (KB.out _).trans k1⟩
end Go.Proofs.YtpcllegjnbeppaaGreat.yf
