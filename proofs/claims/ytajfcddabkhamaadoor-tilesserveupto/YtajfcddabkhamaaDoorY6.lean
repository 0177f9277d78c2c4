import Derived.Shelf.Strings.OnBuilder
import Derived.Test.YtajfcddabkhamaaDoorProg
import Derived.Room.Shelf.Join48
import Derived.Test.YtajfcddabkhamaaDoorY5
import Derived.Test.YtajfcddabkhamaaDoorY1
import Derived.Deep.AppendLies
import Derived.Laws.AppendOwnNone
import Derived.Lib.SliceRun
import Derived.RangeFuncNested
import Derived.RangeFuncBound
import Derived.RangeFuncCalls
import Derived.RangeFuncLeaves
import Derived.RangeFuncBox
import Derived.Shelf.Abstract
import Derived.Shelf.RegionOpen
import Derived.WalkKit
import Derived.OwnWalkIn
import Derived.TacticsInMore
import Derived.LoopNIn
import Derived.LoopIn
import Derived.Sort.QuietIn
import Derived.Maps.AppendAt
import Derived.Laws.MakeOwn
import Derived.Lib.AppendIntMem
import Derived.Laws.Strings2
import Derived.Lib.ItoaLen
import Derived.Deep.RegionHeld3
import Derived.Deep.DeepCutAuto
import Derived.BigQuiet
namespace Go.Proofs.YtajfcddabkhamaaDoor.sj
open Go.Shelf
set_option linter.unusedVariables false
def lays156_ren : Go.Shelf.Ren := ⟨fun | 156 => 39 | 165 => 47 | 166 => 36 | 169 => 38 | 240 => 45 | 241 => 53 | 276 => 52 | 277 => 57 | n => n, fun | 31 => 22 | 9 => 9 | 3 => 3 | 4 => 4 | 0 => 0 | 20 => 20 | 72 => 71 | 76 => 74 | 70 => 69 | 37 => 65 | 75 => 73 | 127 => 84 | 164 => 89 | 5 => 5 | 80 => 78 | n => n, fun | n => n⟩
theorem lays156 : Go.Proofs.Lays.n156 Tryd.prog lays156_ren := {
  mixed := by kernel_rfl
  f156 := Tryd.func39.trans (congrArg some (by kernel_rfl))
  f165 := Tryd.func47.trans (congrArg some (by kernel_rfl))
  f166 := Tryd.func36.trans (congrArg some (by kernel_rfl))
  f169 := Tryd.func38.trans (congrArg some (by kernel_rfl))
  f240 := Tryd.func45.trans (congrArg some (by kernel_rfl))
  f241 := Tryd.func53.trans (congrArg some (by kernel_rfl))
  f276 := Tryd.func52.trans (congrArg some (by kernel_rfl))
  f277 := Tryd.func57.trans (congrArg some (by kernel_rfl))
  t0 := Tryd.underlying0
  a0 := Tryd.isAgg0
  z0 := Tryd.sizeOf0
  v0 := Tryd.zeroValue0
  t3 := Tryd.underlying3
  a3 := Tryd.isAgg3
  z3 := Tryd.sizeOf3
  v3 := Tryd.zeroValue3
  t4 := Tryd.underlying4
  a4 := Tryd.isAgg4
  z4 := Tryd.sizeOf4
  v4 := Tryd.zeroValue4
  t9 := Tryd.underlying9
  a9 := Tryd.isAgg9
  z9 := Tryd.sizeOf9
  v9 := Tryd.zeroValue9
  t20 := Tryd.underlying20
  a20 := Tryd.isAgg20
  z20 := Tryd.sizeOf20
  v20 := Tryd.zeroValue20
  t31 := Tryd.underlying22
  a31 := Tryd.isAgg22
  z31 := Tryd.sizeOf22
  v31 := Tryd.zeroValue22
  t37 := Tryd.underlying65
  a37 := Tryd.isAgg65
  z37 := Tryd.sizeOf65
  v37 := Tryd.zeroValue65
  t70 := Tryd.underlying69
  a70 := Tryd.isAgg69
  z70 := Tryd.sizeOf69
  v70 := Tryd.zeroValue69
  t72 := Tryd.underlying71
  a72 := Tryd.isAgg71
  z72 := Tryd.sizeOf71
  v72 := Tryd.zeroValue71
  t75 := Tryd.underlying73
  a75 := Tryd.isAgg73
  z75 := Tryd.sizeOf73
  v75 := Tryd.zeroValue73
  t76 := Tryd.underlying74
  a76 := Tryd.isAgg74
  z76 := Tryd.sizeOf74
  v76 := Tryd.zeroValue74
  t127 := Tryd.underlying84
  a127 := Tryd.isAgg84
  z127 := Tryd.sizeOf84
  v127 := Tryd.zeroValue84
  t164 := Tryd.underlying89
  a164 := Tryd.isAgg89
  z164 := Tryd.sizeOf89
  v164 := Tryd.zeroValue89 }
theorem extra156 : Builder.Extra Tryd.prog lays156_ren := {
  sizeBuilder := by kernel_rfl
  liesBuilder := by kernel_rfl
  t5 := Tryd.underlying5
  a5 := Tryd.isAgg5
  z5 := Tryd.sizeOf5
  v5 := Tryd.zeroValue5
  infoByte := by kernel_rfl
  cellsByte := by kernel_rfl
  sizeByte := by kernel_rfl
  neB5 := by decide }
end Go.Proofs.YtajfcddabkhamaaDoor.sj

namespace Go.Proofs.YtajfcddabkhamaaDoor.kc
open Go.RowKit Go.PlainAid
open Go.Proofs.YtajfcddabkhamaaDoor.pl Go.Proofs.YtajfcddabkhamaaDoor.pi Go.Proofs.YtajfcddabkhamaaDoor.pj Go.Proofs.YtajfcddabkhamaaDoor.rf Go.Proofs.YtajfcddabkhamaaDoor.ca Go.Proofs.YtajfcddabkhamaaDoor.cp Go.Proofs.YtajfcddabkhamaaDoor.ka Go.Proofs.YtajfcddabkhamaaDoor.kb Go.Proofs.YtajfcddabkhamaaDoor.sj
set_option linter.unusedVariables false

-- the parts, one behind the other
def cat (xs : List ByteArray) : ByteArray := ⟨(Lib.join (xs.map (·.data.toList)) (⟨#[]⟩ : ByteArray).data.toList).toArray⟩
theorem cat_size (xs : List ByteArray) : (Lib.join (xs.map (·.data.toList)) (⟨#[]⟩ : ByteArray).data.toList).length = (cat xs).size := by
  unfold cat
  simp [ByteArray.size]
theorem cat_two (a b : ByteArray) : cat [a, b] = a ++ b := by
  apply ByteArray.ext
  rw [ByteArray.data_append]
  simp [cat, Lib.join, List.intercalate]
theorem cat_three (a b c : ByteArray) : cat [a, b, c] = a ++ b ++ c := by
  apply ByteArray.ext
  rw [ByteArray.data_append, ByteArray.data_append]
  simp [cat, Lib.join, List.intercalate]
theorem joins (xs : List ByteArray) (n b c : Nat) (hn : xs.length = n) (w : World) (hc : ∀ (j : Nat) x, xs[j]? = some x → w.cell? ⟨b, 0 + j, none⟩ = some (.string x)) (hb : b < w.heap.size) (h3 : n ≤ 3) (hcap : n ≤ c) (hs : (cat xs).size ≤ 281474976710656) :
    Calls Tryd.prog 39 #[.slice (some ⟨b, 0, none⟩) n c, .string ⟨#[]⟩] w fun e w' => e = .returned (.string (cat xs)) ∧ Below w.heap.size w w' := by
  subst hn
  exact Any.strings_Join_48 lays156 extra156 b 0 c xs ⟨#[]⟩ w hc hb (by omega) hcap (by rw [cat_size]; omega)
theorem new_cells (w : World) (vs : Array Value) (t : TypeId) (xs : List ByteArray) (h : vs = (xs.map Value.string).toArray) : ∀ (j : Nat) x, xs[j]? = some x → (w.alloc (.cells vs t)).cell? ⟨w.heap.size, 0 + j, none⟩ = some (.string x) := by
  intro j x hx
  subst h
  rw [World.cell?_alloc_at _ _ _ _ rfl, Nat.zero_add]
  simp [hx]
end Go.Proofs.YtajfcddabkhamaaDoor.kc

namespace Go.Proofs.YtajfcddabkhamaaDoor.bf
open Go.RowKit Go.PlainAid
open Go.Proofs.YtajfcddabkhamaaDoor.pl Go.Proofs.YtajfcddabkhamaaDoor.pi Go.Proofs.YtajfcddabkhamaaDoor.pj Go.Proofs.YtajfcddabkhamaaDoor.rf Go.Proofs.YtajfcddabkhamaaDoor.ca Go.Proofs.YtajfcddabkhamaaDoor.cb Go.Proofs.YtajfcddabkhamaaDoor.cp Go.Proofs.YtajfcddabkhamaaDoor.ka Go.Proofs.YtajfcddabkhamaaDoor.kb Go.Proofs.YtajfcddabkhamaaDoor.kc
set_option linter.unusedVariables false

theorem foldP_on {α : Type} (E : α) (N : α → α → α) (xs : List α) (k : Nat) (hk : k + 1 < xs.length) : foldP E N (xs.drop k) = N (xs[k]'(by omega)) (foldP E N (xs.drop (k + 1))) := by
  rw [List.drop_eq_getElem_cons (show k < xs.length by omega), List.drop_eq_getElem_cons hk]
  rfl
theorem foldP_end {α : Type} (E : α) (N : α → α → α) (xs : List α) (k : Nat) (hk : k + 1 = xs.length) : foldP E N (xs.drop k) = xs[k]'(by omega) := by
  rw [List.drop_eq_getElem_cons (show k < xs.length by omega), List.drop_of_length_le (by omega)]
  rfl
end Go.Proofs.YtajfcddabkhamaaDoor.bf

namespace Go.Proofs.YtajfcddabkhamaaDoor.ct
open Go.RowKit Go.PlainAid
open Go.Proofs.YtajfcddabkhamaaDoor.cp Go.Proofs.YtajfcddabkhamaaDoor.cs
set_option linter.unusedVariables false

end Go.Proofs.YtajfcddabkhamaaDoor.ct

namespace Go.Proofs.YtajfcddabkhamaaDoor.xe
open Go.RowKit Go.Shelf Go.PlainAid
open Go.Proofs.YtajfcddabkhamaaDoor.ca Go.Proofs.YtajfcddabkhamaaDoor.cb Go.Proofs.YtajfcddabkhamaaDoor.cp Go.Proofs.YtajfcddabkhamaaDoor.cs Go.Proofs.YtajfcddabkhamaaDoor.ct Go.Proofs.YtajfcddabkhamaaDoor.xa Go.Proofs.YtajfcddabkhamaaDoor.xc
set_option linter.unusedVariables false
theorem wide_fn (f : FuncId) : Fence.wide.fn f = True := rfl
theorem asked_wide (o : Oper) (P : Program) (a : Act) (C : World → Prop) : o.askedIn Fence.wide P a C = True := eq_true (fun _ _ _ _ => trivial)
attribute [local go_sem] Oper.semAt_some wide_fn asked_wide

-- what a round keeps: what lay below n, and the box b
def Kq (n b : Nat) (A B : World) : Prop := Below n A B ∧ B.cell? ⟨b, 0, none⟩ = A.cell? ⟨b, 0, none⟩
theorem Kq.trans {n b : Nat} {A B C : World} (h : Kq n b A B) (k : Kq n b B C) : Kq n b A C := ⟨h.1.trans k.1, k.2.trans h.2⟩
theorem tabB_below {n : Nat} {A B : World} (h : TabB A) (hb : Below n A B) (hd : 5 < n) : TabB B := fun j hj => (hb.cell (p := ⟨5, j, none⟩) hd).trans (h j hj)
end Go.Proofs.YtajfcddabkhamaaDoor.xe

namespace Go.Proofs.YtajfcddabkhamaaDoor.xf
open Go.RowKit Go.Shelf Go.PlainAid
open Go.Proofs.YtajfcddabkhamaaDoor.ca Go.Proofs.YtajfcddabkhamaaDoor.cb Go.Proofs.YtajfcddabkhamaaDoor.cp Go.Proofs.YtajfcddabkhamaaDoor.cs Go.Proofs.YtajfcddabkhamaaDoor.ct Go.Proofs.YtajfcddabkhamaaDoor.xa Go.Proofs.YtajfcddabkhamaaDoor.xc Go.Proofs.YtajfcddabkhamaaDoor.xe
set_option linter.unusedVariables false
attribute [local go_sem] Oper.semAt_some

-- the loop's own variable
def Pair (W : World) (b : Nat) (x : Nat × Nat) : Prop := W.heap[b]? = some (.cells #[.int .i64 (x.1 : Nat), .int .i64 (x.2 : Nat)] 57 (0, 0))
theorem Pair.new (W : World) (x : Nat × Nat) : Pair (W.alloc (.cells #[.int .i64 (x.1 : Nat), .int .i64 (x.2 : Nat)] 57)) W.heap.size x := World.alloc_heap_new W _
theorem Pair.kept {X Y : World} {row : Option Nat} {b : Nat} {x : Nat × Nat} (h : Pair X b x) (hg : X.grownBy Y row) (hr : ∀ r, row = some r → ∃ o : Obj, X.heap[r]? = some o ∧ o.isCells = false) : Pair Y b x :=
  (hg.block b (Array.getElem?_eq_some_iff.1 h).1 (fun e => by obtain ⟨o, ho, hc⟩ := hr b e.symm; rw [show X.heap[b]? = _ from h] at ho; cases ho; cases hc)).trans h
end Go.Proofs.YtajfcddabkhamaaDoor.xf

namespace Go.Proofs.YtajfcddabkhamaaDoor.bc
open Go.RowKit Go.PlainAid
open Go.Proofs.YtajfcddabkhamaaDoor.pl Go.Proofs.YtajfcddabkhamaaDoor.pi Go.Proofs.YtajfcddabkhamaaDoor.rf Go.Proofs.YtajfcddabkhamaaDoor.pj Go.Proofs.YtajfcddabkhamaaDoor.ca Go.Proofs.YtajfcddabkhamaaDoor.cb Go.Proofs.YtajfcddabkhamaaDoor.cp Go.Proofs.YtajfcddabkhamaaDoor.cs Go.Proofs.YtajfcddabkhamaaDoor.ct Go.Proofs.YtajfcddabkhamaaDoor.xc Go.Proofs.YtajfcddabkhamaaDoor.xf Go.Proofs.YtajfcddabkhamaaDoor.ka Go.Proofs.YtajfcddabkhamaaDoor.kb Go.Proofs.YtajfcddabkhamaaDoor.kc Go.Proofs.YtajfcddabkhamaaDoor.ga Go.Proofs.YtajfcddabkhamaaDoor.aa Go.Proofs.YtajfcddabkhamaaDoor.ab Go.Proofs.YtajfcddabkhamaaDoor.tb Go.Proofs.YtajfcddabkhamaaDoor.ac Go.Proofs.YtajfcddabkhamaaDoor.ba Go.Proofs.YtajfcddabkhamaaDoor.bf
set_option linter.unusedVariables false

def okw (wd : Int) (h : ByteArray) : Bool := decide (h.size = wid wd)
def fow (wd : Int) (xs : List ByteArray) : ByteArray := foldP (EF wd) (NF wd) xs
def rv (wd sz : Int) (g : Nat) (fb lb : Array Value) : Value := .agg #[.int .i64 wd, .int .i64 sz, .func (.func g) fb lb]
-- behind an append to a row beside F
theorem grow_beside {g : Nat} {fb lb : Array Value} {ask : Nat → Nat × Nat → ByteArray × Int} {J : (Nat → Prop) → List (Nat × Nat) → World → Prop} {N : Nat} {D : Nat → Prop} (R : Rd g fb lb ask J N D)
    {F0 F : Nat → Prop} {w0 wr w5 : World} {l : List (Nat × Nat)} {base : Nat} {e : TypeId} {size : Nat} {u p' : Value} {n : Nat} {xs : List Value} (hJ : J F l wr) (hG : Goes F0 w0 F wr) (hB : w0.heap.size ≤ base) (hX : ∀ b, D b → b < w0.heap.size)
    (hown : wr.ownsRow base e size u n xs) (hbes : Beside F u) (hg : wr.grownBy w5 u.ownBlock) (hat : p'.ownBlock = u.ownBlock ∨ p'.ownBlock = some wr.heap.size) : J F l w5 ∧ Goes F0 w0 F w5 ∧ Beside F p' := by
  have hk : Kp (fun b => u.ownBlock = some b) wr w5 := ⟨hg.os, hg.tape, hg.output, hg.size, fun k hk hn => hg.block k hk (fun e => hn e.symm)⟩
  refine ⟨R.keep hJ hk (fun b he => ⟨hbes b he, fun hD => by have := (owns_lt hown he).2; have := hX b hD; omega⟩), ⟨⟨hg.os.trans hG.1.os, hg.tape.trans hG.1.tape, hg.output.trans hG.1.output, Nat.le_trans hG.1.size hg.size, fun k hk hn => ?_⟩, hG.2⟩, fun b hb hF => ?_⟩
  · refine (hg.block k (Nat.lt_of_lt_of_le hk hG.1.size) fun e => ?_).trans (hG.1.block k hk hn)
    have := (owns_lt hown e.symm).2
    omega
  · rcases hat with h | h
    · rw [h] at hb; exact hbes b hb hF
    · rw [h] at hb
      have := R.within hJ b hF
      obtain rfl := Option.some.inj hb
      omega
-- asking for a part's nodes: what holds ahead of each
structure Hl {g : Nat} {fb lb : Array Value} {ask : Nat → Nat × Nat → ByteArray × Int} {J : (Nat → Prop) → List (Nat × Nat) → World → Prop} {N : Nat} {D : Nat → Prop} (R : Rd g fb lb ask J N D) (wd : Int) (rvv nv : Value) (F0 : Nat → Prop) (w0 : World) (l0 L : List (Nat × Nat)) (rb base : Nat) (k : Nat) (u : Value) (wr : World) (F : Nat → Prop) (l : List (Nat × Nat)) (acc : List ByteArray) : Prop where
  j : J F l wr
  go : Goes F0 w0 F wr
  box0 : wr.cell? ⟨rb, 0, none⟩ = some (.int .i64 wd)
  box2 : wr.cell? ⟨rb, 2, none⟩ = some rvv
  out : ¬ F rb
  lt : rb < base
  nodes : ReadsA wr nv L
  nout : ∀ b off n cap, nv = .slice (some ⟨b, off, none⟩) n cap → ¬ F b ∧ b < base
  own : wr.ownsRow base 9 1 u k (acc.map Value.string)
  bes : Beside F u
  base_le : w0.heap.size ≤ base ∧ base ≤ wr.heap.size
  bx : ∀ b, D b → b < w0.heap.size
  kk : k ≤ L.length ∧ acc.length = k ∧ l.length = l0.length + k
  eq : tell (okw wd) ask l0 L = (acc ++ (tell (okw wd) ask l (L.drop k)).1, (tell (okw wd) ask l (L.drop k)).2)
  fit : ∀ x ∈ acc, x.size ≤ 1048576
theorem readsA_keep {w w' : World} {v : Value} {L : List (Nat × Nat)} (h : ReadsA w v L) (hb : ∀ b off n cap, v = .slice (some ⟨b, off, none⟩) n cap → b < w.heap.size → w'.heap[b]? = w.heap[b]?) : ReadsA w' v L := by
  obtain ⟨a, cap, rfl, h0 | ⟨b, rfl, hc⟩⟩ := h
  · exact ⟨a, cap, rfl, .inl h0⟩
  · refine ⟨_, cap, rfl, .inr ⟨b, rfl, fun i y hy => ?_⟩⟩
    obtain ⟨c1, c2⟩ := hc i y hy
    have e := hb b 0 _ _ rfl (World.block_lt_of_cell? _ _ c1)
    exact ⟨(World.cell?_of_block (a := ⟨b, i * 2, none⟩) e).trans c1, (World.cell?_of_block (a := ⟨b, i * 2 + 1, none⟩) e).trans c2⟩
end Go.Proofs.YtajfcddabkhamaaDoor.bc

namespace Go.Proofs.YtajfcddabkhamaaDoor.sa
open Go.RowKit Go.PlainAid Go.Shelf
open Go.Proofs.YtajfcddabkhamaaDoor.pl Go.Proofs.YtajfcddabkhamaaDoor.pi Go.Proofs.YtajfcddabkhamaaDoor.rf Go.Proofs.YtajfcddabkhamaaDoor.pj Go.Proofs.YtajfcddabkhamaaDoor.ca Go.Proofs.YtajfcddabkhamaaDoor.cb Go.Proofs.YtajfcddabkhamaaDoor.cp Go.Proofs.YtajfcddabkhamaaDoor.cs Go.Proofs.YtajfcddabkhamaaDoor.ka Go.Proofs.YtajfcddabkhamaaDoor.kb Go.Proofs.YtajfcddabkhamaaDoor.kd Go.Proofs.YtajfcddabkhamaaDoor.ga Go.Proofs.YtajfcddabkhamaaDoor.aa Go.Proofs.YtajfcddabkhamaaDoor.ab Go.Proofs.YtajfcddabkhamaaDoor.tb Go.Proofs.YtajfcddabkhamaaDoor.ac Go.Proofs.YtajfcddabkhamaaDoor.bc Go.Proofs.YtajfcddabkhamaaDoor.si
set_option linter.unusedVariables false

-- what answers for nodes
structure Src where
  wd : Int
  sz : Int
  ls : List ByteArray
  made : Bool
  fails : Int
  code : Int
def itoaB (n : Int) : ByteArray := ⟨(Lib.itoa n).toArray⟩
def madeB (L I : Int) : ByteArray := ((⟨#[110, 111, 100, 101, 32]⟩ : ByteArray) ++ itoaB L) ++ (⟨#[32]⟩ : ByteArray) ++ itoaB I
def lookP (s : Src) (L I : Int) : ByteArray × Int :=
  if okA L I then (if (I + 1) * 2 ^ L.toNat ≤ s.sz then ((if s.made then cutS (madeB L I) s.wd else rootP (EF s.wd) (NF s.wd) ((s.ls.drop (I * 2 ^ L.toNat).toNat).take (2 ^ L.toNat))), 0) else (ByteArray.empty, 80)) else (ByteArray.empty, 50)
def nodeP (s : Src) (k : Nat) (L I : Int) : ByteArray × Int :=
  if (lookP s L I).2 ≠ 0 ∨ (k : Int) ≠ s.fails then lookP s L I else if s.code ≠ 0 then (ByteArray.empty, s.code) else if (lookP s L I).1 = ByteArray.empty then (⟨#[120]⟩, 0) else ((lookP s L I).1.extract 1 (lookP s L I).1.size, 0)
-- the tables and strconv's
structure T7 (w : World) : Prop where
  t : TB4 w
  p : Lib.TabIs Tryd.prog w "internal/strconv.uint64pow10" .u64 Lib.pow10Tab
theorem T7.down {w w' : World} (h : T7 w) (hb : Below w.heap.size w w') : T7 w' := ⟨h.t.down hb, Lib.TabBelow.here ((Lib.tabBelow_of_tabIs h.p).on hb)⟩
theorem below_grow (w : World) (k : Nat) (os : Array Obj) : Below w.heap.size w (Sort.grow (w.drewN k) os) :=
  ⟨rfl, rfl, rfl, by show w.heap.size ≤ (w.heap ++ os).size; rw [Array.size_append]; omega, fun i hi => by show (w.heap ++ os)[i]? = w.heap[i]?; rw [Array.getElem?_append_left hi]⟩
theorem itoa (n : Int) (h : i64 n) (w : World) (hT : T7 w) : Calls Tryd.prog 42 #[.int .i64 n] w fun e w' => e = .returned (.string (itoaB n)) ∧ Below w.heap.size w w' := by
  have := Any.strconv_Itoa laysM171 n h.1 h.2 w hT.p
  refine this.mono ?_
  rintro e w' ⟨rfl, k, os, rfl⟩
  exact ⟨rfl, below_grow w k os⟩
-- a source's block
def So (w : World) (sb : Nat) (s : Src) (lv av : Value) : Prop := w.heap[sb]? = some (.cells #[.int .i64 s.wd, .int .i64 s.sz, lv, .bool s.made, .int .i64 s.fails, .int .i64 s.code, av] 25 (0, 0))
theorem So.cells {w : World} {sb : Nat} {s : Src} {lv av : Value} (h : So w sb s lv av) : w.cell? ⟨sb, 0, none⟩ = some (.int .i64 s.wd) ∧ w.cell? ⟨sb, 1, none⟩ = some (.int .i64 s.sz) ∧ w.cell? ⟨sb, 2, none⟩ = some lv ∧ w.cell? ⟨sb, 3, none⟩ = some (.bool s.made) ∧ w.cell? ⟨sb, 4, none⟩ = some (.int .i64 s.fails) ∧ w.cell? ⟨sb, 5, none⟩ = some (.int .i64 s.code) ∧ w.cell? ⟨sb, 6, none⟩ = some av := by
  refine ⟨?_, ?_, ?_, ?_, ?_, ?_, ?_⟩ <;> (rw [cell_of_row _ _ _ _ _ _ h]; rfl)
theorem So.later {w w' : World} {sb : Nat} {s : Src} {lv av : Value} (h : So w sb s lv av) (hb : Below w.heap.size w w') : So w' sb s lv av := (hb.block _ (Array.getElem?_eq_some_iff.1 h).1).trans h
theorem So.lt {w : World} {sb : Nat} {s : Src} {lv av : Value} (h : So w sb s lv av) : sb < w.heap.size := (Array.getElem?_eq_some_iff.1 h).1
-- what it answers from, whatever was asked
structure Lq (w : World) (sb : Nat) (s : Src) (lv av : Value) : Prop where
  t : T7 w
  o : So w sb s lv av
  r : ReadsT w lv s.ls
  x : ∀ x ∈ s.ls, x.size ≤ 1048576
  n : s.made = false → s.sz = s.ls.length
  c : ∀ a n c, lv = .slice a n c → c ≤ 9223372036854775807
  k : s.ls.length ≤ 1048576
theorem Lq.later {w w' : World} {sb : Nat} {s : Src} {lv av : Value} (h : Lq w sb s lv av) (hb : Below w.heap.size w w') : Lq w' sb s lv av := ⟨h.t.down hb, h.o.later hb, h.r.later hb, h.x, h.n, h.c, h.k⟩
theorem root_size {wd : Int} {xs : List ByteArray} (hx : ∀ x ∈ xs, x.size ≤ 1048576) : (rootP (EF wd) (NF wd) xs).size ≤ 1048576 := by
  rcases Nat.lt_or_ge xs.length 2 with e | e
  · match xs, e, hx with
    | [], _, _ => rw [rootP_nil]; show (cutS _ _).size ≤ _; rw [cutS_size]; have := wid_le wd; omega
    | [x], _, hx => rw [rootP_one]; exact hx x (List.mem_cons_self ..)
  · rw [rootP_half _ _ e]; show (cutS _ _).size ≤ _; rw [cutS_size]; have := wid_le wd; omega
set_option maxHeartbeats 1600000 in
theorem rooted (s : Src) (sb : Nat) (lv av : Value) (j : Nat) : ∀ (lo : Nat) (w : World), j ≤ 62 → lo + 2 ^ j ≤ s.ls.length → Lq w sb s lv av →
    Calls Tryd.prog 43 #[.pointer (some ⟨sb, 0, none⟩), .int .i64 lo, .int .i64 ((lo + 2 ^ j : Nat) : Int)] w fun e w' => e = .returned (.string (rootP (EF s.wd) (NF s.wd) ((s.ls.drop lo).take (2 ^ j)))) ∧ Below w.heap.size w w' := by
  induction j with
  | zero =>
    intro lo w _ hl hL
    obtain ⟨k0, k1, k2, k3, k4, k5, k6⟩ := hL.o.cells
    rw [Nat.pow_zero] at hl ⊢
    have hlt : lo < s.ls.length := by omega
    obtain ⟨av', cap, rfl, hcap, hh⟩ := hL.r
    obtain ⟨b, off, rfl, hc⟩ : ∃ b off, av' = some ⟨b, off, none⟩ ∧ ∀ i, i < s.ls.length → w.cell? ⟨b, off + i, none⟩ = some (.string (s.ls.getD i ByteArray.empty)) := by
      rcases hh with h | h
      · omega
      · exact h
    have c0 := hc lo hlt
    obtain ⟨x, HX⟩ : ∃ x, Hid (s.ls.getD lo ByteArray.empty = x) := ⟨_, rfl⟩
    rw [HX.out] at c0
    have HE : Hid (rootP (EF s.wd) (NF s.wd) ((s.ls.drop lo).take 1) = x) := by
      show _ = _
      rw [List.drop_eq_getElem_cons hlt, List.take_succ_cons, List.take_zero, rootP_one, ← HX.out, List.getD_eq_getElem?_getD, List.getElem?_eq_getElem hlt]
      rfl
    rw [HE.out]
    obtain ⟨n, HN⟩ : ∃ n, Hid (s.ls.length = n) := ⟨_, rfl⟩
    rw [HN.out] at k2 hlt
    have hlt' : (lo : Int) < n := by omega
    have e1 : ((lo + 1 : Nat) : Int) = (lo : Int) + 1 := by omega
    have e2 : (lo : Int) + 1 - lo = 1 := by omega
    have hb20 := hL.k
    have hw : IntKind.i64.wrap ((lo : Int) + 1 - lo) = 1 := by rw [e2]; rfl
    rw [e1]
    clear hL hh hc hl hcap e1
    go_enter Tryd.func43, Tryd.ntmps43
    go_wp2
    go_ret
    exact ⟨rfl, Below.refl _ _⟩
  | succ j ih =>
    intro lo w hj hl hL
    have hp := p2s j
    have hp0 := p2 j
    obtain ⟨t, HTT⟩ : ∃ t : Nat, Hid ((2 : Nat) ^ j = t) := ⟨2 ^ j, rfl⟩
    rw [HTT.out] at hp0 hp
    rw [hp] at hl ⊢
    have hk := hL.k
    obtain ⟨r1, HR1⟩ : ∃ r, Hid (rootP (EF s.wd) (NF s.wd) ((s.ls.drop lo).take t) = r) := ⟨_, rfl⟩
    obtain ⟨r2, HR2⟩ : ∃ r, Hid (rootP (EF s.wd) (NF s.wd) ((s.ls.drop (lo + t)).take t) = r) := ⟨_, rfl⟩
    obtain ⟨R, HRR⟩ : ∃ r, Hid (rootP (EF s.wd) (NF s.wd) ((s.ls.drop lo).take (2 * t)) = r) := ⟨_, rfl⟩
    have hll : ((s.ls.drop lo).take (2 * t)).length = 2 * t := by rw [List.length_take, List.length_drop]; omega
    have HE : Hid (NF s.wd r1 r2 = R) := by
      show _ = _
      rw [← HRR.out, rootP_two _ _ (l := (s.ls.drop lo).take (2 * t)) (j := j) (by rw [HTT.out, hll]; omega) (by rw [hll, p2s, HTT.out]; omega), HTT.out, List.take_take, Nat.min_eq_left (by omega), List.drop_take, List.drop_drop, show 2 * t - t = t by omega, HR1.out, HR2.out]
    have Z1 : r1.size ≤ 1048576 := by rw [← HR1.out]; exact root_size (fun x h => hL.x x (List.mem_of_mem_drop (List.mem_of_mem_take h)))
    have Z2 : r2.size ≤ 1048576 := by rw [← HR2.out]; exact root_size (fun x h => hL.x x (List.mem_of_mem_drop (List.mem_of_mem_take h)))
    have HL : Hid (Lq w sb s lv av) := hL
    have I1 : Hid (∀ w', Lq w' sb s lv av → Calls _ _ _ _ _) := fun w' h => ih lo w' (by omega) (by rw [HTT.out]; omega) h
    have I2 : Hid (∀ w', Lq w' sb s lv av → Calls _ _ _ _ _) := fun w' h => ih (lo + t) w' (by omega) (by rw [HTT.out]; omega) h
    rw [HTT.out, HR1.out] at I1
    rw [HTT.out, HR2.out] at I2
    have NN : Hid (∀ w', Lq w' sb s lv av → Calls _ _ _ _ _) := fun w' h => rNode s.wd r1 r2 (by omega) w' h.t.t.t
    rw [HE.out] at NN
    rw [HRR.out]
    have e1 : ((lo + 2 * t : Nat) : Int) = (lo : Int) + 2 * t := by omega
    have e2 : ((lo + t : Nat) : Int) = (lo : Int) + t := by omega
    have e3 : ((lo + t + t : Nat) : Int) = (lo : Int) + 2 * t := by omega
    rw [e1]
    rw [e2] at I1
    rw [e2, e3] at I2
    have q1 : ((lo : Int) + 2 * t - lo == 1) = false := by rw [beq_eq_false_iff_ne]; omega
    have d1 : ((lo : Int) + (lo + 2 * t)) / 2 = (lo : Int) + t := by omega
    have d2 : ((lo : Int) + (lo + 2 * t)).tdiv 2 = (lo : Int) + t := by rw [Int.tdiv_eq_ediv_of_nonneg (by omega)]; exact d1
    have hlb : (lo : Int) + 2 * t ≤ 1048576 := by omega
    clear ih hL hll Z1 Z2 hl hp e1 e2 e3 hk
    go_enter Tryd.func43, Tryd.ntmps43
    go_wp2_with fail
    refine (I1.out _ HL.out).mono ?_
    rintro e w1 ⟨rfl, hb1⟩
    have B1 : Hid (Below w.heap.size w w1) := hb1
    clear hb1
    go_wp2_with fail
    refine (I2.out _ (HL.out.later B1.out)).mono ?_
    rintro e w2 ⟨rfl, hb2⟩
    have B2 : Hid (Below w.heap.size w w2) := over B1.out hb2
    obtain ⟨k0, _, _, _, _, _, _⟩ := (HL.out.later B2.out).o.cells
    clear hb2
    go_wp2_with fail
    refine (NN.out _ (HL.out.later B2.out)).mono ?_
    rintro e w3 ⟨rfl, hb3⟩
    have B3 : Hid (Below w.heap.size w w3) := over B2.out hb3
    clear hb3
    go_wp2
    go_ret
    exact ⟨rfl, B3.out⟩
end Go.Proofs.YtajfcddabkhamaaDoor.sa

namespace Go.Proofs.YtajfcddabkhamaaDoor.sb
open Go.RowKit Go.PlainAid Go.Shelf
open Go.Proofs.YtajfcddabkhamaaDoor.pl Go.Proofs.YtajfcddabkhamaaDoor.pi Go.Proofs.YtajfcddabkhamaaDoor.rf Go.Proofs.YtajfcddabkhamaaDoor.pj Go.Proofs.YtajfcddabkhamaaDoor.ca Go.Proofs.YtajfcddabkhamaaDoor.cb Go.Proofs.YtajfcddabkhamaaDoor.cp Go.Proofs.YtajfcddabkhamaaDoor.cs Go.Proofs.YtajfcddabkhamaaDoor.ka Go.Proofs.YtajfcddabkhamaaDoor.kb Go.Proofs.YtajfcddabkhamaaDoor.kd Go.Proofs.YtajfcddabkhamaaDoor.ga Go.Proofs.YtajfcddabkhamaaDoor.aa Go.Proofs.YtajfcddabkhamaaDoor.ab Go.Proofs.YtajfcddabkhamaaDoor.tb Go.Proofs.YtajfcddabkhamaaDoor.ac Go.Proofs.YtajfcddabkhamaaDoor.bc Go.Proofs.YtajfcddabkhamaaDoor.sa
set_option linter.unusedVariables false

theorem add_text (a b : ByteArray) (h : a.size + b.size ≤ 9223372036854775807) : Op.stringOp .add a b = pure (.string (a ++ b)) := by
  unfold Op.stringOp
  rw [if_neg]
  have e : IntKind.i64.max = 9223372036854775807 := by decide
  rw [e]
  omega
theorem itoaB_size (n : Int) (h : i64 n) : (itoaB n).size ≤ 21 := by
  have := Lib.itoa_length_le n h.1 h.2
  show (Lib.itoa n).toArray.size ≤ 21
  rw [List.size_toArray]
  exact this
theorem lookP_no (s : Src) {L I : Int} (h : ¬ okA L I) : lookP s L I = (ByteArray.empty, 50) := by unfold lookP; rw [if_neg h]
theorem lookP_out (s : Src) {k i : Nat} (h : okA k i) (hl : s.sz < ((i + 1) * 2 ^ k : Nat)) : lookP s k i = (ByteArray.empty, 80) := by
  unfold lookP
  rw [if_pos h, Int.toNat_natCast, cast_pow, if_neg]
  have : ((i : Int) + 1) * ((2 ^ k : Nat) : Int) = (((i + 1) * 2 ^ k : Nat) : Int) := by rw [Int.natCast_mul]; rfl
  omega
theorem lookP_in (s : Src) {k i : Nat} (h : okA k i) (hl : ¬ s.sz < ((i + 1) * 2 ^ k : Nat)) : lookP s k i = ((if s.made then cutS (madeB k i) s.wd else rootP (EF s.wd) (NF s.wd) ((s.ls.drop (i * 2 ^ k)).take (2 ^ k))), 0) := by
  unfold lookP
  have e1 : ((i : Int) + 1) * ((2 ^ k : Nat) : Int) = (((i + 1) * 2 ^ k : Nat) : Int) := by rw [Int.natCast_mul]; rfl
  rw [if_pos h, Int.toNat_natCast, cast_pow, if_pos (by omega), show ((i : Int) * ((2 ^ k : Nat) : Int)).toNat = i * 2 ^ k by rw [← Int.natCast_mul, Int.toNat_natCast]]
set_option maxHeartbeats 3200000 in
theorem look (s : Src) (sb : Nat) (lv av : Value) (L I : Int) (h0 : i64 L) (h1 : i64 I) (w : World) (hL : Lq w sb s lv av) :
    Calls Tryd.prog 30 #[.pointer (some ⟨sb, 0, none⟩), .agg #[.int .i64 L, .int .i64 I]] w fun e w' => e = .returned (.tuple #[.string (lookP s L I).1, .int .i64 (lookP s L I).2]) ∧ Below w.heap.size w w' := by
  obtain ⟨wd, sz, ls, made, fails, code⟩ := s
  have SC : Hid (∀ w, Calls _ _ _ _ _) := fun w => rSpan L I w
  have BA : Hid (Below w.heap.size w (w.alloc (.cells #[.int .i64 L, .int .i64 I] 57))) := (Below.refl _ _).alloc (Nat.le_refl _) _
  have HX0 : Hid (Bx (w.alloc (.cells #[.int .i64 L, .int .i64 I] 57)) w.heap.size L I) := bx_new w L I
  have HL : Hid (Lq w sb ⟨wd, sz, ls, made, fails, code⟩ lv av) := hL
  obtain ⟨A, HA⟩ : ∃ A, Hid (lookP ⟨wd, sz, ls, made, fails, code⟩ L I = A) := ⟨_, rfl⟩
  rw [HA.out]
  by_cases hok : okA L I
  · obtain ⟨k, i, rfl, rfl, hk62, hki⟩ := okA_form hok
    rw [spV_nat hok] at SC
    obtain ⟨p, HP⟩ : ∃ p, Hid (i * 2 ^ k = p) := ⟨_, rfl⟩
    obtain ⟨q, HQ⟩ : ∃ q, Hid ((i + 1) * 2 ^ k = q) := ⟨_, rfl⟩
    have hpq : Hid (q = p + 2 ^ k) := by show _ = _; rw [← HP.out, ← HQ.out, Nat.add_mul, Nat.one_mul]
    rw [HP.out, HQ.out] at SC
    rw [HQ.out] at hki
    by_cases hl : sz < q
    · have HE : Hid (A = (ByteArray.empty, 80)) := by
        show _ = _
        rw [← HA.out, lookP_out ⟨wd, sz, ls, made, fails, code⟩ hok (by rw [HQ.out]; exact hl)]
      clear hok hL
      go_enter Tryd.func30, Tryd.ntmps30
      go_wp2_with fail
      refine (SC.out _).mono ?_
      rintro e w1 ⟨rfl, hb1⟩
      have B1 : Hid (Below w.heap.size w w1) := over BA.out hb1
      obtain ⟨k0, k1, k2, k3, k4, k5, k6⟩ := (HL.out.later B1.out).o.cells
      dsimp only at k0 k1 k2 k3 k4 k5 k6
      clear hb1
      go_wp2
      go_ret2
      exact ⟨by rw [HE.out]; rfl, B1.out⟩
    · have HE0 := lookP_in ⟨wd, sz, ls, made, fails, code⟩ hok (by rw [HQ.out]; exact hl)
      rw [HA.out, HP.out] at HE0
      dsimp only at HE0
      cases made with
      | false =>
        have hsl : sz = ls.length := hL.n rfl
        have RC : Hid (∀ w', Lq w' sb ⟨wd, sz, ls, false, fails, code⟩ lv av → Calls _ _ _ _ _) := fun w' h => rooted ⟨wd, sz, ls, false, fails, code⟩ sb lv av k p w' hk62 (by rw [← hpq.out]; show q ≤ ls.length; omega) h
        rw [← hpq.out] at RC
        obtain ⟨r, HR⟩ : ∃ r, Hid (rootP (EF wd) (NF wd) ((ls.drop p).take (2 ^ k)) = r) := ⟨_, rfl⟩
        rw [HR.out] at RC
        have HE : Hid (A = (r, 0)) := by rw [HR.out] at HE0; exact HE0
        clear hok hL HE0 hsl
        go_enter Tryd.func30, Tryd.ntmps30
        go_wp2_with fail
        refine (SC.out _).mono ?_
        rintro e w1 ⟨rfl, hb1⟩
        have B1 : Hid (Below w.heap.size w w1) := over BA.out hb1
        obtain ⟨k0, k1, k2, k3, k4, k5, k6⟩ := (HL.out.later B1.out).o.cells
        dsimp only at k0 k1 k2 k3 k4 k5 k6
        clear hb1
        go_wp2_with fail
        refine (RC.out _ (HL.out.later B1.out)).mono ?_
        rintro e w2 ⟨rfl, hb2⟩
        have B2 : Hid (Below w.heap.size w w2) := over B1.out hb2
        clear hb2
        go_wp2
        go_ret2
        exact ⟨by rw [HE.out]; rfl, B2.out⟩
      | true =>
        obtain ⟨t1, HT1⟩ : ∃ t, Hid (itoaB (k : Int) = t) := ⟨_, rfl⟩
        obtain ⟨t2, HT2⟩ : ∃ t, Hid (itoaB (i : Int) = t) := ⟨_, rfl⟩
        have z1 : t1.size ≤ 21 := by rw [← HT1.out]; exact itoaB_size _ h0
        have z2 : t2.size ≤ 21 := by rw [← HT2.out]; exact itoaB_size _ h1
        have za : ((⟨#[110, 111, 100, 101, 32]⟩ : ByteArray) ++ t1).size = 5 + t1.size := by rw [ByteArray.size_append]; rfl
        have zb : (((⟨#[110, 111, 100, 101, 32]⟩ : ByteArray) ++ t1) ++ (⟨#[32]⟩ : ByteArray)).size = 6 + t1.size := by rw [ByteArray.size_append, za]; show 5 + t1.size + 1 = _; omega
        have f1 := add_text (⟨#[110, 111, 100, 101, 32]⟩ : ByteArray) t1 (by show 5 + t1.size ≤ _; omega)
        have f2 := add_text ((⟨#[110, 111, 100, 101, 32]⟩ : ByteArray) ++ t1) (⟨#[32]⟩ : ByteArray) (by rw [za]; show 5 + t1.size + 1 ≤ _; omega)
        have f3 := add_text (((⟨#[110, 111, 100, 101, 32]⟩ : ByteArray) ++ t1) ++ (⟨#[32]⟩ : ByteArray)) t2 (by rw [zb]; omega)
        have CT : Hid (∀ w', Lq w' sb ⟨wd, sz, ls, true, fails, code⟩ lv av → Calls _ _ _ _ _) := fun w' h => rCut (((⟨#[110, 111, 100, 101, 32]⟩ : ByteArray) ++ t1) ++ (⟨#[32]⟩ : ByteArray) ++ t2) wd w' (by rw [ByteArray.size_append, zb]; omega) h.t.t.t
        obtain ⟨r, HR⟩ : ∃ r, Hid (cutS (madeB k i) wd = r) := ⟨_, rfl⟩
        have hcr : (sha (((⟨#[110, 111, 100, 101, 32]⟩ : ByteArray) ++ t1) ++ (⟨#[32]⟩ : ByteArray) ++ t2)).extract 0 (wid wd) = r := by
          rw [← HR.out, ← HT1.out, ← HT2.out]
          rfl
        rw [hcr] at CT
        have HE : Hid (A = (r, 0)) := by
          have := HE0
          rw [if_pos rfl, HR.out] at this
          exact this
        have IT : Hid (∀ (n : Nat) (w' : World), Lq w' sb ⟨wd, sz, ls, true, fails, code⟩ lv av → ((n = k) ∨ (n = i)) → Calls Tryd.prog 42 #[.int .i64 n] w' fun e w'' => (∃ t, e = .returned (.string t) ∧ (n = k → t = t1) ∧ (n = i → t = t2)) ∧ Below w'.heap.size w' w'') := by
          intro n w' h hn
          refine (itoa n (by rcases hn with rfl | rfl <;> assumption) w' h.t).mono ?_
          rintro e w'' ⟨rfl, hb⟩
          exact ⟨⟨_, rfl, fun e => by rw [e]; exact HT1.out, fun e => by rw [e]; exact HT2.out⟩, hb⟩
        clear hok hL HE0 hcr z1 z2 za zb
        go_enter Tryd.func30, Tryd.ntmps30
        go_wp2_with fail
        refine (SC.out _).mono ?_
        rintro e w1 ⟨rfl, hb1⟩
        have B1 : Hid (Below w.heap.size w w1) := over BA.out hb1
        obtain ⟨k0, k1, k2, k3, k4, k5, k6⟩ := (HL.out.later B1.out).o.cells
        dsimp only at k0 k1 k2 k3 k4 k5 k6
        have X1 : Hid (Bx w1 w.heap.size k i) := HX0.out.later hb1
        have S4 : Hid (∀ W, Below w1.heap.size w1 W → Below w1.heap.size w1 W ∧ W.cell? ⟨w.heap.size, 0, none⟩ = some (.int .i64 k) ∧ W.cell? ⟨w.heap.size, 1, none⟩ = some (.int .i64 i) ∧ W.cell? ⟨sb, 0, none⟩ = some (.int .i64 wd)) := fun W h => ⟨h, (X1.out.later h).one, (X1.out.later h).two, ((HL.out.later B1.out).later h).o.cells.1⟩
        have HW0 : Hid (Below w1.heap.size w1 w1) := Below.refl _ _
        clear hb1
        go_wp2_with fail
        go_region_held3 (fun W => Below w1.heap.size w1 W ∧ W.cell? ⟨w.heap.size, 0, none⟩ = some (.int .i64 k) ∧ W.cell? ⟨w.heap.size, 1, none⟩ = some (.int .i64 i) ∧ W.cell? ⟨sb, 0, none⟩ = some (.int .i64 wd)) (first | exact S4.out _ HW0.out | exact S4.out _ (below_dN HW0.out 1) | exact S4.out _ (over (And.left (by assumption)) hb') | exact S4.out _ (below_dN (And.left (by assumption)) 1)) (first | (go_at_call 42; refine (IT.out _ _ ((HL.out.later B1.out).later (by first | exact And.left (by assumption) | exact HW0.out | exact below_dN HW0.out 1)) (by first | exact .inl rfl | exact .inr rfl)).mono ?_; rintro e w' ⟨⟨t, rfl, k1', k2'⟩, hb'⟩; first | obtain rfl := k1' rfl | obtain rfl := k2' rfl) | (go_at_call 41; refine (CT.out _ ((HL.out.later B1.out).later (by first | exact And.left (by assumption) | exact HW0.out | exact below_dN HW0.out 1))).mono ?_; rintro e w' ⟨rfl, hb'⟩))
        have g9 : Below w1.heap.size w1 w' ∧ w'.cell? ⟨w.heap.size, 0, none⟩ = some (.int .i64 k) ∧ w'.cell? ⟨w.heap.size, 1, none⟩ = some (.int .i64 i) ∧ w'.cell? ⟨sb, 0, none⟩ = some (.int .i64 wd) := by assumption
        have G9 : Hid (Below w.heap.size w w') := over B1.out g9.1
        go_wp2
        go_ret2
        exact ⟨by rw [HE.out]; rfl, G9.out⟩
  · have HE : Hid (A = (ByteArray.empty, 50)) := by
      show _ = _
      rw [← HA.out, lookP_no ⟨wd, sz, ls, made, fails, code⟩ hok]
    have hs0 : spV L I = .tuple #[.int .i64 0, .int .i64 0, .int .i64 50] := by unfold spV; rw [if_neg hok]
    rw [hs0] at SC
    clear hok hs0
    go_enter Tryd.func30, Tryd.ntmps30
    go_wp2_with fail
    refine (SC.out _).mono ?_
    rintro e w1 ⟨rfl, hb1⟩
    have B1 : Hid (Below w.heap.size w w1) := over BA.out hb1
    clear hb1
    go_wp2
    go_ret2
    exact ⟨by rw [HE.out]; rfl, B1.out⟩
end Go.Proofs.YtajfcddabkhamaaDoor.sb

namespace Go.Proofs.YtajfcddabkhamaaDoor.gb
open Go.RowKit Go.PlainAid
open Go.Proofs.YtajfcddabkhamaaDoor.pl Go.Proofs.YtajfcddabkhamaaDoor.pi Go.Proofs.YtajfcddabkhamaaDoor.pj Go.Proofs.YtajfcddabkhamaaDoor.ca Go.Proofs.YtajfcddabkhamaaDoor.cb Go.Proofs.YtajfcddabkhamaaDoor.cp Go.Proofs.YtajfcddabkhamaaDoor.ka Go.Proofs.YtajfcddabkhamaaDoor.kb Go.Proofs.YtajfcddabkhamaaDoor.rf Go.Proofs.YtajfcddabkhamaaDoor.ga
set_option linter.unusedVariables false

-- the root of leaves; the proofs
def RT (wd : Int) (xs : List ByteArray) : ByteArray := rootP (EF wd) (NF wd) (xs.map (LF wd))
theorem RT_nil (wd : Int) : RT wd [] = EF wd := rootP_nil _ _
theorem RT_one (wd : Int) (x : ByteArray) : RT wd [x] = LF wd x := rootP_one _ _ _
theorem RT_half (wd : Int) {xs : List ByteArray} (h : 2 ≤ xs.length) : RT wd xs = NF wd (RT wd (xs.take (half xs.length))) (RT wd (xs.drop (half xs.length))) := by
  unfold RT
  rw [rootP_half _ _ (l := xs.map (LF wd)) (by rw [List.length_map]; exact h), List.length_map, ← List.map_take, ← List.map_drop]
theorem RT_size (wd : Int) (xs : List ByteArray) : (RT wd xs).size = wid wd := by
  rcases Nat.lt_or_ge xs.length 2 with e | e
  · match xs, e with
    | [], _ => rw [RT_nil]; exact cutS_size _ _
    | [x], _ => rw [RT_one]; exact cutS_size _ _
  · rw [RT_half wd e]; exact cutS_size _ _
theorem RT_le (wd : Int) (xs : List ByteArray) : (RT wd xs).size ≤ 32 := by rw [RT_size]; exact wid_le wd
theorem RT_pos (wd : Int) (xs : List ByteArray) : 1 ≤ (RT wd xs).size := by rw [RT_size]; unfold wid; split <;> omega
def PTn (wd : Int) (i : Nat) (xs : List ByteArray) : List ByteArray := pathP (EF wd) (NF wd) i (xs.map (LF wd))
theorem PTn_one (wd : Int) (i : Nat) {xs : List ByteArray} (h : ¬ 2 ≤ xs.length) : PTn wd i xs = [] := pathP_one _ _ (by rw [List.length_map]; exact h)
theorem PTn_low (wd : Int) {i : Nat} {xs : List ByteArray} (h : 2 ≤ xs.length) (hi : i < half xs.length) : PTn wd i xs = PTn wd i (xs.take (half xs.length)) ++ [RT wd (xs.drop (half xs.length))] := by
  unfold PTn RT
  rw [pathP_low _ _ (l := xs.map (LF wd)) (by rw [List.length_map]; exact h) (by rw [List.length_map]; exact hi), List.length_map, ← List.map_take, ← List.map_drop]
theorem PTn_high (wd : Int) {i : Nat} {xs : List ByteArray} (h : 2 ≤ xs.length) (hi : ¬ i < half xs.length) : PTn wd i xs = PTn wd (i - half xs.length) (xs.drop (half xs.length)) ++ [RT wd (xs.take (half xs.length))] := by
  unfold PTn RT
  rw [pathP_high _ _ (l := xs.map (LF wd)) (by rw [List.length_map]; exact h) (by rw [List.length_map]; exact hi), List.length_map, ← List.map_take, ← List.map_drop]
theorem PTn_len (wd : Int) (i : Nat) (xs : List ByteArray) : (PTn wd i xs).length ≤ xs.length - 1 := pathP_len _ _ _ i _ (List.length_map _)
def QTn (wd : Int) (m : Nat) (xs : List ByteArray) (b : Bool) : List ByteArray := subP (EF wd) (NF wd) m (xs.map (LF wd)) b
theorem QTn_all (wd : Int) {m : Nat} {xs : List ByteArray} (b : Bool) (h : ¬ m < xs.length) : QTn wd m xs b = if b then [] else [RT wd xs] := subP_all _ _ (by rw [List.length_map]; exact h)
theorem QTn_low (wd : Int) {m : Nat} {xs : List ByteArray} (b : Bool) (h : m < xs.length) (h2 : 2 ≤ xs.length) (hm : m ≤ half xs.length) : QTn wd m xs b = QTn wd m (xs.take (half xs.length)) b ++ [RT wd (xs.drop (half xs.length))] := by
  unfold QTn RT
  rw [subP_low _ _ (l := xs.map (LF wd)) (by rw [List.length_map]; exact h) (by rw [List.length_map]; exact h2) (by rw [List.length_map]; exact hm), List.length_map, ← List.map_take, ← List.map_drop]
theorem QTn_high (wd : Int) {m : Nat} {xs : List ByteArray} (b : Bool) (h : m < xs.length) (h2 : 2 ≤ xs.length) (hm : ¬ m ≤ half xs.length) : QTn wd m xs b = QTn wd (m - half xs.length) (xs.drop (half xs.length)) false ++ [RT wd (xs.take (half xs.length))] := by
  unfold QTn RT
  rw [subP_high _ _ (l := xs.map (LF wd)) (by rw [List.length_map]; exact h) (by rw [List.length_map]; exact h2) (by rw [List.length_map]; exact hm), List.length_map, ← List.map_take, ← List.map_drop]
theorem QTn_len (wd : Int) (m : Nat) (xs : List ByteArray) (b : Bool) (h : 1 ≤ xs.length) : (QTn wd m xs b).length ≤ xs.length := subP_len _ _ _ m _ b (List.length_map _) h
theorem RT_take (wd : Int) {xs : List ByteArray} {m : Nat} (h2 : 2 ≤ xs.length) (h : half xs.length < m) (hm : m < xs.length) : RT wd (xs.take m) = NF wd (RT wd (xs.take (half xs.length))) (RT wd ((xs.drop (half xs.length)).take (m - half xs.length))) := by
  have := root_take (EF wd) (NF wd) (l := xs.map (LF wd)) (m := m) (by rw [List.length_map]; exact h2) (by rw [List.length_map]; exact h) (by rw [List.length_map]; exact hm)
  rw [List.length_map] at this
  unfold RT
  rw [List.map_take, this, List.map_take, List.map_take, List.map_drop]
-- what the four answer
def PT (wd i : Int) (xs : List ByteArray) : List ByteArray := if 0 ≤ i ∧ i < xs.length then PTn wd i.toNat xs else []
def PE (i : Int) (xs : List ByteArray) : Int := if 0 ≤ i ∧ i < xs.length then 0 else 81
def QT (wd m : Int) (xs : List ByteArray) : List ByteArray := if 1 ≤ m ∧ m ≤ xs.length then QTn wd m.toNat xs true else []
def QE (m : Int) (xs : List ByteArray) : Int := if 0 ≤ m ∧ m ≤ xs.length then 0 else 80
theorem PT_len (wd i : Int) (xs : List ByteArray) : (PT wd i xs).length ≤ xs.length := by
  unfold PT
  split
  · have := PTn_len wd i.toNat xs; omega
  · simp
theorem QT_len (wd m : Int) (xs : List ByteArray) : (QT wd m xs).length ≤ xs.length := by
  unfold QT
  split
  · exact QTn_len wd m.toNat xs true (by omega)
  · simp
def NT (wd L I : Int) (xs : List ByteArray) : ByteArray := if okA L I ∧ (I + 1) * 2 ^ L.toNat ≤ xs.length then RT wd ((xs.drop (I * 2 ^ L.toNat).toNat).take (2 ^ L.toNat)) else ByteArray.empty
def NE (L I : Int) (xs : List ByteArray) : Int := if okA L I then (if (I + 1) * 2 ^ L.toNat ≤ xs.length then 0 else 80) else 50
-- leaves that a machine can hold
structure Fits (xs : List ByteArray) : Prop where
  each : ∀ x ∈ xs, x.size ≤ 140737488352000
  many : xs.length * 16 ≤ 140737488351232
theorem Fits.take {xs : List ByteArray} (h : Fits xs) (k : Nat) : Fits (xs.take k) := ⟨fun x hx => h.each x (List.mem_of_mem_take hx), by have := h.many; rw [List.length_take]; omega⟩
theorem Fits.drop {xs : List ByteArray} (h : Fits xs) (k : Nat) : Fits (xs.drop k) := ⟨fun x hx => h.each x (List.mem_of_mem_drop hx), by have := h.many; rw [List.length_drop]; omega⟩
-- a list of texts and an error
def Listed (w w' : World) (e : Ending) (ts : List ByteArray) (c : Int) : Prop := ∃ u, e = .returned (.tuple #[u, .int .i64 c]) ∧ w'.ownsRow w.heap.size 9 1 u ts.length (ts.map Value.string)
end Go.Proofs.YtajfcddabkhamaaDoor.gb

namespace Go.Proofs.YtajfcddabkhamaaDoor.bn
open Go.RowKit Go.PlainAid
open Go.Proofs.YtajfcddabkhamaaDoor.pj Go.Proofs.YtajfcddabkhamaaDoor.rf Go.Proofs.YtajfcddabkhamaaDoor.ca Go.Proofs.YtajfcddabkhamaaDoor.cb Go.Proofs.YtajfcddabkhamaaDoor.cp Go.Proofs.YtajfcddabkhamaaDoor.ka Go.Proofs.YtajfcddabkhamaaDoor.kb Go.Proofs.YtajfcddabkhamaaDoor.ga Go.Proofs.YtajfcddabkhamaaDoor.gb
set_option linter.unusedVariables false

theorem getD_at (xs : List ByteArray) (k : Nat) (h : k < xs.length) : xs.getD k ByteArray.empty = xs[k] := by
  rw [List.getD_eq_getElem?_getD, List.getElem?_eq_getElem h]; rfl
theorem lists_eq {xs ys : List ByteArray} (hl : xs.length = ys.length) (h : ∀ j, j < xs.length → xs.getD j ByteArray.empty = ys.getD j ByteArray.empty) : xs = ys := by
  apply List.ext_getElem hl
  intro j h1 h2
  have := h j h1
  rwa [getD_at _ _ h1, getD_at _ _ h2] at this
theorem beqL (a b : ByteArray) : (a.toList == b.toList) = decide (a = b) := by
  by_cases h : a = b
  · subst h; simp
  · rw [decide_eq_false h, beq_eq_false_iff_ne, ByteArray.toList_eq, ByteArray.toList_eq]
    intro e
    exact h (ByteArray.ext (Array.ext' e))
theorem beqLit (a : ByteArray) (l : List UInt8) : (a.toList == l) = decide (a = ⟨l.toArray⟩) := by
  rw [← beqL, ByteArray.toList_eq, ByteArray.toList_eq]
def MK : ByteArray := ⟨#[109, 97, 114, 107]⟩
end Go.Proofs.YtajfcddabkhamaaDoor.bn
