import Derived.Test.YtglffbhcnafbnaaDoorAb
import Derived.Test.YtglffbhcnafbnaaDoorTb
import Derived.Test.YtglffbhcnafbnaaDoorCs
import Derived.Test.YtglffbhcnafbnaaDoorKa
namespace Go.Proofs.YtglffbhcnafbnaaDoor.ac
open Go.RowKit Go.PlainAid
open Go.Proofs.YtglffbhcnafbnaaDoor.ca Go.Proofs.YtglffbhcnafbnaaDoor.cp Go.Proofs.YtglffbhcnafbnaaDoor.cs Go.Proofs.YtglffbhcnafbnaaDoor.ka Go.Proofs.YtglffbhcnafbnaaDoor.tb
set_option linter.unusedVariables false

-- but for the blocks of A the world is as it was
structure Kp (A : Nat → Prop) (w w' : World) : Prop where
  os : w'.os = w.os
  tape : w'.tape = w.tape
  output : w'.output = w.output
  size : w.heap.size ≤ w'.heap.size
  block : ∀ k, k < w.heap.size → ¬ A k → w'.heap[k]? = w.heap[k]?
theorem Kp.refl (A : Nat → Prop) (w : World) : Kp A w w := ⟨rfl, rfl, rfl, Nat.le_refl _, fun _ _ _ => rfl⟩
theorem Kp.trans {A : Nat → Prop} {a b c : World} (x : Kp A a b) (y : Kp A b c) : Kp A a c :=
  ⟨y.os.trans x.os, y.tape.trans x.tape, y.output.trans x.output, Nat.le_trans x.size y.size, fun k hk hn => (y.block k (Nat.lt_of_lt_of_le hk x.size) hn).trans (x.block k hk hn)⟩
theorem Kp.mono {A B : Nat → Prop} {w w' : World} (x : Kp A w w') (h : ∀ k, A k → B k) : Kp B w w' := ⟨x.os, x.tape, x.output, x.size, fun k hk hn => x.block k hk (fun a => hn (h k a))⟩
theorem Kp.of_below {A : Nat → Prop} {w w' : World} (x : Below w.heap.size w w') : Kp A w w' := ⟨x.os, x.tape, x.output, x.size, fun k hk _ => x.block k hk⟩
theorem Kp.setCell {A : Nat → Prop} (w : World) (b o : Nat) (v : Value) (hb : A b) : Kp A w (w.setCell ⟨b, o, none⟩ v) :=
  ⟨rfl, rfl, rfl, by simp [World.setCell], fun k hk hn => Below.heap_setCell _ _ _ _ (fun e => hn (e ▸ hb))⟩
theorem Kp.below {A : Nat → Prop} {B : Nat} {w w' : World} (x : Kp A w w') (hA : ∀ k, A k → B ≤ k) (hB : B ≤ w.heap.size) : Below B w w' :=
  ⟨x.os, x.tape, x.output, x.size, fun k hk => x.block k (by omega) (fun a => by have := hA k a; omega)⟩
theorem Kp.cell {A : Nat → Prop} {w w' : World} (x : Kp A w w') {b o : Nat} {v : Value} (h : w.cell? ⟨b, o, none⟩ = some v) (hn : ¬ A b) : w'.cell? ⟨b, o, none⟩ = some v := by
  have hlt := World.block_lt_of_cell? _ _ h
  have := x.block b hlt hn
  rw [← h]
  unfold World.cell?
  rw [show (⟨b, o, none⟩ : Addr).block = b from rfl, this]
-- from A at w to A' at w': new blocks only are added
def Goes (A : Nat → Prop) (w : World) (A' : Nat → Prop) (w' : World) : Prop := Kp A w w' ∧ ∀ b, A' b → A b ∨ w.heap.size ≤ b
theorem Goes.refl (A : Nat → Prop) (w : World) : Goes A w A w := ⟨Kp.refl _ _, fun b h => .inl h⟩
theorem Goes.trans {A B C : Nat → Prop} {u v w : World} (x : Goes A u B v) (y : Goes B v C w) : Goes A u C w := by
  refine ⟨⟨y.1.os.trans x.1.os, y.1.tape.trans x.1.tape, y.1.output.trans x.1.output, Nat.le_trans x.1.size y.1.size, fun k hk hn => ?_⟩, fun b hb => ?_⟩
  · refine (y.1.block k (Nat.lt_of_lt_of_le hk x.1.size) fun hB => ?_).trans (x.1.block k hk hn)
    rcases x.2 k hB with h | h
    · exact hn h
    · omega
  · rcases y.2 b hb with h | h
    · exact x.2 b h
    · exact .inr (Nat.le_trans x.1.size h)
theorem Goes.of_below {A : Nat → Prop} {w w' : World} (x : Below w.heap.size w w') : Goes A w A w' := ⟨Kp.of_below x, fun b h => .inl h⟩
-- a row that lies beside A stays
theorem Goes.out {A A' : Nat → Prop} {w w' : World} (x : Goes A w A' w') {b : Nat} (hb : b < w.heap.size) (hn : ¬ A b) : ¬ A' b := fun h => (x.2 b h).elim hn (by omega)
theorem owns_keep {w w' : World} {base : Nat} {e : TypeId} {size : Nat} {v : Value} {n : Nat} {xs : List Value} (h : w.ownsRow base e size v n xs) (hk : ∀ g, v.ownBlock = some g → w'.heap[g]? = w.heap[g]?) : w'.ownsRow base e size v n xs := by
  obtain ⟨hl, h | ⟨g, cap, cur, rfl, hb, hh, r⟩⟩ := h
  · exact ⟨hl, .inl h⟩
  · exact ⟨hl, .inr ⟨g, cap, cur, rfl, hb, (hk g rfl).trans hh, r⟩⟩
theorem owns_lt {w : World} {base : Nat} {e : TypeId} {size : Nat} {v : Value} {n : Nat} {xs : List Value} (h : w.ownsRow base e size v n xs) {g : Nat} (hg : v.ownBlock = some g) : g < w.heap.size ∧ base ≤ g := by
  obtain ⟨hl, ⟨rfl, _⟩ | ⟨g', cap, cur, rfl, hb, hh, r⟩⟩ := h
  · cases hg
  · obtain rfl : g' = g := by simpa [Value.ownBlock] using hg
    exact ⟨(Array.getElem?_eq_some_iff.1 hh).1, hb⟩
-- a row of one's own beside A
def Beside (A : Nat → Prop) (v : Value) : Prop := ∀ g, v.ownBlock = some g → ¬ A g
theorem Goes.owns {A A' : Nat → Prop} {w w' : World} (x : Goes A w A' w') {base : Nat} {e : TypeId} {size : Nat} {v : Value} {n : Nat} {xs : List Value} (h : w.ownsRow base e size v n xs) (hb : Beside A v) : w'.ownsRow base e size v n xs ∧ Beside A' v :=
  ⟨owns_keep h fun g hg => x.1.block g (owns_lt h hg).1 (hb g hg), fun g hg => x.out (owns_lt h hg).1 (hb g hg)⟩
theorem Goes.cell {A A' : Nat → Prop} {w w' : World} (x : Goes A w A' w') {b o : Nat} {v : Value} (h : w.cell? ⟨b, o, none⟩ = some v) (hn : ¬ A b) : w'.cell? ⟨b, o, none⟩ = some v := x.1.cell h hn
-- a list of addresses beside A
def ReadsAB (A : Nat → Prop) (w : World) (v : Value) (L : List (Nat × Nat)) : Prop := ReadsA w v L ∧ Beside A v
theorem Goes.readsA {A A' : Nat → Prop} {w w' : World} (x : Goes A w A' w') {v : Value} {L : List (Nat × Nat)} (h : ReadsA w v L) (hb : ∀ b off n cap, v = .slice (some ⟨b, off, none⟩) n cap → ¬ A b) : ReadsA w' v L := by
  obtain ⟨a, cap, rfl, h0 | ⟨b, rfl, hc⟩⟩ := h
  · exact ⟨a, cap, rfl, .inl h0⟩
  · have hn := hb b 0 _ _ rfl
    exact ⟨_, cap, rfl, .inr ⟨b, rfl, fun i y hy => ⟨x.cell (hc i y hy).1 hn, x.cell (hc i y hy).2 hn⟩⟩⟩
-- a reader's Node: F: the blocks that it reads and writes, l: what was asked
structure Rd (g : Nat) (fb lb : Array Value) (ask : Nat → Nat × Nat → ByteArray × Int) (J : (Nat → Prop) → List (Nat × Nat) → World → Prop) (N : Nat) (D : Nat → Prop) : Prop where
  enter : ∀ args w, (callFunc g args).run Tryd.prog w = .ok (.enter g args) w
  call : ∀ F l (a : Nat × Nat) w, l.length < N → okA a.1 a.2 → J F l w → Calls Tryd.prog g (fb ++ #[.agg #[.int .i64 a.1, .int .i64 a.2]] ++ lb) w fun e w' =>
    e = .returned (.tuple #[.string (ask (l.length + 1) a).1, .int .i64 (ask (l.length + 1) a).2]) ∧ ∃ F', J F' (l ++ [a]) w' ∧ Goes F w F' w'
  keep : ∀ {F G : Nat → Prop} {l w w'}, J F l w → Kp G w w' → (∀ b, G b → ¬ F b ∧ ¬ D b) → J F l w'
  big : ∀ {F : Nat → Prop} {l w}, J F l w → ∀ b, D b → b < w.heap.size
  within : ∀ {F : Nat → Prop} {l w}, J F l w → ∀ b, F b → b < w.heap.size
  tab : ∀ {F : Nat → Prop} {l w}, J F l w → TB w
  fits : ∀ k a, -9223372036854775808 ≤ (ask k a).2 ∧ (ask k a).2 ≤ 9223372036854775807
theorem Rd.later {g : Nat} {fb lb : Array Value} {ask : Nat → Nat × Nat → ByteArray × Int} {J : (Nat → Prop) → List (Nat × Nat) → World → Prop} {N : Nat} {D : Nat → Prop} (h : Rd g fb lb ask J N D) {F : Nat → Prop} {l : List (Nat × Nat)} {w w' : World} (hJ : J F l w) (hb : Below w.heap.size w w') : J F l w' :=
  h.keep (G := fun _ => False) hJ (Kp.of_below hb) (fun _ x => x.elim)
end Go.Proofs.YtglffbhcnafbnaaDoor.ac
