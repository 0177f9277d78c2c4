import Derived.Test.YtglffbhcnafbnaaDoorAc
import Derived.Test.YtglffbhcnafbnaaDoorBa
import Derived.Test.YtglffbhcnafbnaaDoorBf
import Derived.Test.YtglffbhcnafbnaaDoorXf
import Derived.Maps.AppendAt
import Derived.Laws.MakeOwn
namespace Go.Proofs.YtglffbhcnafbnaaDoor.bc
open Go.RowKit Go.PlainAid
open Go.Proofs.YtglffbhcnafbnaaDoor.pl Go.Proofs.YtglffbhcnafbnaaDoor.pi Go.Proofs.YtglffbhcnafbnaaDoor.rf Go.Proofs.YtglffbhcnafbnaaDoor.pj Go.Proofs.YtglffbhcnafbnaaDoor.ca Go.Proofs.YtglffbhcnafbnaaDoor.cb Go.Proofs.YtglffbhcnafbnaaDoor.cp Go.Proofs.YtglffbhcnafbnaaDoor.cs Go.Proofs.YtglffbhcnafbnaaDoor.ct Go.Proofs.YtglffbhcnafbnaaDoor.xc Go.Proofs.YtglffbhcnafbnaaDoor.xf Go.Proofs.YtglffbhcnafbnaaDoor.ka Go.Proofs.YtglffbhcnafbnaaDoor.kb Go.Proofs.YtglffbhcnafbnaaDoor.kc Go.Proofs.YtglffbhcnafbnaaDoor.ga Go.Proofs.YtglffbhcnafbnaaDoor.aa Go.Proofs.YtglffbhcnafbnaaDoor.ab Go.Proofs.YtglffbhcnafbnaaDoor.tb Go.Proofs.YtglffbhcnafbnaaDoor.ac Go.Proofs.YtglffbhcnafbnaaDoor.ba Go.Proofs.YtglffbhcnafbnaaDoor.bf
set_option linter.unusedVariables false

def okw (wd : Int) (h : ByteArray) : Bool := decide (h.size = wid wd)
def fow (wd : Int) (xs : List ByteArray) : ByteArray := foldP (EF wd) (NF wd) xs
def rv (wd sz : Int) (g : Nat) (fb lb : Array Value) : Value := .agg #[.int .i64 wd, .int .i64 sz, .func (.func g) fb lb]
-- behind an append to a row beside F
theorem grow_beside {g : Nat} {fb lb : Array Value} {ask : Nat → Nat × Nat → ByteArray × Int} {J : (Nat → Prop) → List (Nat × Nat) → World → Prop} {N : Nat} {D : Nat → Prop} (R : Rd g fb lb ask J N D)
    {F0 F : Nat → Prop} {w0 wr w5 : World} {l : List (Nat × Nat)} {base : Nat} {e : TypeId} {size : Nat} {u p' : Value} {n : Nat} {xs : List Value} (hJ : J F l wr) (hG : Goes F0 w0 F wr) (hB : w0.heap.size ≤ base) (hX : ∀ b, D b → b < w0.heap.size)
    (hown : wr.ownsRow base e size u n xs) (hbes : Beside F u) (hg : wr.grownBy w5 u.ownBlock) (hat : p'.ownBlock = u.ownBlock ∨ p'.ownBlock = some wr.heap.size) : J F l w5 ∧ Goes F0 w0 F w5 ∧ Beside F p' := by
  have hk : Kp (fun b => u.ownBlock = some b) wr w5 := ⟨hg.os, hg.tape, hg.output, hg.size, fun k hk hn => hg.block k hk (fun e => hn e.symm)⟩
  refine ⟨R.keep hJ hk (fun b he => ⟨hbes b he, fun hD => by have := (owns_lt hown he).2; have := hX b hD; omega⟩), ⟨⟨hg.os.trans hG.1.os, hg.tape.trans hG.1.tape, hg.output.trans hG.1.output, Nat.le_trans hG.1.size hg.size, fun k hk hn => ?_⟩, hG.2⟩, fun b hb hF => ?_⟩
  · refine (hg.block k (Nat.lt_of_lt_of_le hk hG.1.size) fun e => ?_).trans (hG.1.block k hk hn)
    have := (owns_lt hown e.symm).2
    omega
  · rcases hat with h | h
    · rw [h] at hb; exact hbes b hb hF
    · rw [h] at hb
      have := R.within hJ b hF
      obtain rfl := Option.some.inj hb
      omega
-- asking for a part's nodes: what holds ahead of each
structure Hl {g : Nat} {fb lb : Array Value} {ask : Nat → Nat × Nat → ByteArray × Int} {J : (Nat → Prop) → List (Nat × Nat) → World → Prop} {N : Nat} {D : Nat → Prop} (R : Rd g fb lb ask J N D) (wd : Int) (rvv nv : Value) (F0 : Nat → Prop) (w0 : World) (l0 L : List (Nat × Nat)) (rb base : Nat) (k : Nat) (u : Value) (wr : World) (F : Nat → Prop) (l : List (Nat × Nat)) (acc : List ByteArray) : Prop where
  j : J F l wr
  go : Goes F0 w0 F wr
  box0 : wr.cell? ⟨rb, 0, none⟩ = some (.int .i64 wd)
  box2 : wr.cell? ⟨rb, 2, none⟩ = some rvv
  out : ¬ F rb
  lt : rb < base
  nodes : ReadsA wr nv L
  nout : ∀ b off n cap, nv = .slice (some ⟨b, off, none⟩) n cap → ¬ F b ∧ b < base
  own : wr.ownsRow base 9 1 u k (acc.map Value.string)
  bes : Beside F u
  base_le : w0.heap.size ≤ base ∧ base ≤ wr.heap.size
  bx : ∀ b, D b → b < w0.heap.size
  kk : k ≤ L.length ∧ acc.length = k ∧ l.length = l0.length + k
  eq : tell (okw wd) ask l0 L = (acc ++ (tell (okw wd) ask l (L.drop k)).1, (tell (okw wd) ask l (L.drop k)).2)
  fit : ∀ x ∈ acc, x.size ≤ 1048576
theorem readsA_keep {w w' : World} {v : Value} {L : List (Nat × Nat)} (h : ReadsA w v L) (hb : ∀ b off n cap, v = .slice (some ⟨b, off, none⟩) n cap → b < w.heap.size → w'.heap[b]? = w.heap[b]?) : ReadsA w' v L := by
  obtain ⟨a, cap, rfl, h0 | ⟨b, rfl, hc⟩⟩ := h
  · exact ⟨a, cap, rfl, .inl h0⟩
  · refine ⟨_, cap, rfl, .inr ⟨b, rfl, fun i y hy => ?_⟩⟩
    obtain ⟨c1, c2⟩ := hc i y hy
    have e := hb b 0 _ _ rfl (World.block_lt_of_cell? _ _ c1)
    exact ⟨(World.cell?_of_block (a := ⟨b, i * 2, none⟩) e).trans c1, (World.cell?_of_block (a := ⟨b, i * 2 + 1, none⟩) e).trans c2⟩
end Go.Proofs.YtglffbhcnafbnaaDoor.bc
