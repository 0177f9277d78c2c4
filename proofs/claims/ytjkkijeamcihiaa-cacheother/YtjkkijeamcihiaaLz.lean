import Derived.Test.YtjkkijeamcihiaaRl
namespace Go.Proofs.Ytjkkijeamcihiaa.lz
open Go.RowKit Go.PlainAid Go.Maps
open Go.Proofs.Ytjkkijeamcihiaa.cp Go.Proofs.Ytjkkijeamcihiaa.kp Go.Proofs.Ytjkkijeamcihiaa.ka Go.Proofs.Ytjkkijeamcihiaa.ra Go.Proofs.Ytjkkijeamcihiaa.rb Go.Proofs.Ytjkkijeamcihiaa.rc Go.Proofs.Ytjkkijeamcihiaa.rd Go.Proofs.Ytjkkijeamcihiaa.re Go.Proofs.Ytjkkijeamcihiaa.rf Go.Proofs.Ytjkkijeamcihiaa.rg Go.Proofs.Ytjkkijeamcihiaa.rh Go.Proofs.Ytjkkijeamcihiaa.ri Go.Proofs.Ytjkkijeamcihiaa.rj Go.Proofs.Ytjkkijeamcihiaa.rk Go.Proofs.Ytjkkijeamcihiaa.rl Go.Proofs.Ytjkkijeamcihiaa.sa
set_option linter.unusedVariables false
set_option linter.unusedSimpArgs false
theorem ov {B : Nat} {a b c : World} (x : Below B a b) (y : Below B b c) : Below B a c := ⟨y.os.trans x.os, y.tape.trans x.tape, y.output.trans x.output, Nat.le_trans x.size y.size, fun k hk => (y.block k hk).trans (x.block k hk)⟩
theorem dn {B n : Nat} {a b : World} (x : Below n a b) (h : B ≤ n) : Below B a b := ⟨x.os, x.tape, x.output, x.size, fun k hk => x.block k (by omega)⟩
-- things in memory: their state, the blocks that they lie in
structure Thg (σ : Type) where
  P : σ → (Nat → Prop) → World → Prop
  keep : ∀ {s F w w' A}, P s F w → Kp A w w' → (∀ k, F k → ¬ A k) → P s F w'
  lt : ∀ {s F w}, P s F w → ∀ k, F k → k < w.heap.size
def Turn (F F' : Nat → Prop) (w w' : World) : Prop := Kp F w w' ∧ ∀ k, F' k → F k ∨ w.heap.size ≤ k
theorem Turn.refl (F : Nat → Prop) (w : World) : Turn F F w w := ⟨Kp.refl _ _, fun k h => .inl h⟩
theorem Turn.of_below {F : Nat → Prop} {w w' : World} (h : Below w.heap.size w w') : Turn F F w w' := ⟨Kp.of_below h, fun k h => .inl h⟩
theorem Turn.trans {F F' F'' : Nat → Prop} {a b c : World} (x : Turn F F' a b) (y : Turn F' F'' b c) : Turn F F'' a c := by
  refine ⟨⟨y.1.os.trans x.1.os, y.1.tape.trans x.1.tape, y.1.output.trans x.1.output, Nat.le_trans x.1.size y.1.size, fun k hk hn => ?_⟩, fun k h => ?_⟩
  · refine (y.1.block k (Nat.lt_of_lt_of_le hk x.1.size) fun h => ?_).trans (x.1.block k hk hn)
    rcases x.2 k h with h | h
    · exact hn h
    · omega
  · rcases y.2 k h with h | h
    · exact x.2 k h
    · exact .inr (Nat.le_trans x.1.size h)
-- one thing, above B
def One {σ : Type} (O : Thg σ) (B : Nat) (s : σ) (w0 w : World) : Prop := ∃ F, O.P s F w ∧ (∀ k, F k → B ≤ k) ∧ Below B w0 w ∧ B ≤ w0.heap.size
-- two things beside each other, above B
def Two {σ τ : Type} (O : Thg σ) (U : Thg τ) (B : Nat) (s : σ) (t : τ) (w0 w : World) : Prop := ∃ F G, O.P s F w ∧ U.P t G w ∧ (∀ k, F k → ¬ G k) ∧ (∀ k, F k → B ≤ k) ∧ (∀ k, G k → B ≤ k) ∧ Below B w0 w ∧ B ≤ w0.heap.size
section
variable {σ τ : Type} {O : Thg σ} {U : Thg τ} {B : Nat} {s s' : σ} {t t' : τ} {w0 w w' : World}
theorem One.turn {F F' : Nat → Prop} (hF : ∀ k, F k → B ≤ k) (hb : Below B w0 w) (hB : B ≤ w0.heap.size) (h' : O.P s' F' w') (T : Turn F F' w w') : One O B s' w0 w' := by
  have hs : B ≤ w.heap.size := Nat.le_trans hB hb.size
  refine ⟨F', h', fun k hk => ?_, ov hb (T.1.below hF hs), hB⟩
  rcases T.2 k hk with h | h
  · exact hF k h
  · omega
theorem One.step (h : One O B s w0 w) {f : Nat} {args : Array Value} {r : Ending} (C : ∀ F, O.P s F w → Calls Try.prog f args w fun e w' => e = r ∧ ∃ F', O.P s' F' w' ∧ Turn F F' w w') : Calls Try.prog f args w fun e w' => e = r ∧ One O B s' w0 w' := by
  obtain ⟨F, h1, h2, h3, h4⟩ := h
  exact (C F h1).mono fun e w' ⟨g1, F', g2, g3⟩ => ⟨g1, One.turn h2 h3 h4 g2 g3⟩
theorem One.later (h : One O B s w0 w) (hb : Below w.heap.size w w') : One O B s w0 w' := by
  obtain ⟨F, h1, h2, h3, h4⟩ := h
  exact One.turn h2 h3 h4 (O.keep h1 (Kp.of_below (A := fun _ => False) hb) (fun _ _ e => e)) (Turn.of_below hb)
theorem Two.below (h : Two O U B s t w0 w) : Below B w0 w := h.choose_spec.choose_spec.2.2.2.2.2.1
theorem Two.fst (h : Two O U B s t w0 w) : ∃ F, O.P s F w ∧ ∀ s' F' w', O.P s' F' w' → Turn F F' w w' → Two O U B s' t w0 w' := by
  obtain ⟨F, G, h1, h2, h3, h4, h5, h6, h7⟩ := h
  have hs : B ≤ w.heap.size := Nat.le_trans h7 h6.size
  refine ⟨F, h1, fun s' F' w' g1 g2 => ⟨F', G, g1, U.keep h2 g2.1 (fun k hk hf => h3 k hf hk), fun k hk hg => ?_, fun k hk => ?_, h5, ov h6 (g2.1.below h4 hs), h7⟩⟩
  · rcases g2.2 k hk with h | h
    · exact h3 k h hg
    · have := U.lt h2 k hg
      omega
  · rcases g2.2 k hk with h | h
    · exact h4 k h
    · omega
theorem Two.swap (h : Two O U B s t w0 w) : Two U O B t s w0 w := by
  obtain ⟨F, G, h1, h2, h3, h4, h5, h6, h7⟩ := h
  exact ⟨G, F, h2, h1, fun k hk hg => h3 k hg hk, h5, h4, h6, h7⟩
theorem Two.step (h : Two O U B s t w0 w) {f : Nat} {args : Array Value} {r : Ending} (C : ∀ F, O.P s F w → Calls Try.prog f args w fun e w' => e = r ∧ ∃ F', O.P s' F' w' ∧ Turn F F' w w') : Calls Try.prog f args w fun e w' => e = r ∧ Two O U B s' t w0 w' := by
  obtain ⟨F, h1, h2⟩ := h.fst
  exact (C F h1).mono fun e w' ⟨g1, F', g2, g3⟩ => ⟨g1, h2 _ _ _ g2 g3⟩
theorem Two.step2 (h : Two O U B s t w0 w) {f : Nat} {args : Array Value} {r : Ending} (C : ∀ F, U.P t F w → Calls Try.prog f args w fun e w' => e = r ∧ ∃ F', U.P t' F' w' ∧ Turn F F' w w') : Calls Try.prog f args w fun e w' => e = r ∧ Two O U B s t' w0 w' :=
  (h.swap.step C).mono fun e w' ⟨g1, g2⟩ => ⟨g1, g2.swap⟩
theorem Two.later (h : Two O U B s t w0 w) (hb : Below w.heap.size w w') : Two O U B s t w0 w' := by
  obtain ⟨F, h1, h2⟩ := h.fst
  exact h2 _ _ _ (O.keep h1 (Kp.of_below (A := fun _ => False) hb) (fun _ _ e => e)) (Turn.of_below hb)
theorem One.two (h : One O B s w0 w) {G : Nat → Prop} (hu : U.P t G w') (hb : Below w.heap.size w w') (hG : ∀ k, G k → w.heap.size ≤ k) : Two O U B s t w0 w' := by
  obtain ⟨F, h1, h2, h3, h4⟩ := h
  have hs : B ≤ w.heap.size := Nat.le_trans h4 h3.size
  exact ⟨F, G, O.keep h1 (Kp.of_below (A := fun _ => False) hb) (fun _ _ e => e), hu, fun k hk hg => by have := O.lt h1 k hk; have := hG k hg; omega, h2, fun k hk => Nat.le_trans hs (hG k hk), ov h3 (dn hb hs), h4⟩
theorem Two.one (h : Two O U B s t w0 w) : One O B s w0 w := by
  obtain ⟨F, G, h1, h2, h3, h4, h5, h6, h7⟩ := h
  exact ⟨F, h1, h4, h6, h7⟩
end
-- a cache as such a thing
def ChO (g mb : Nat) : Thg St where
  P s F w := ∃ es, Ch g mb s es w ∧ ∀ k, F k ↔ Fr g mb es k
  keep := by
    rintro s F w w' A ⟨es, h1, h2⟩ k hn
    exact ⟨es, h1.keep k (fun j hj => hn j ((h2 j).2 hj)), h2⟩
  lt := by
    rintro s F w ⟨es, h1, h2⟩ k hk
    exact h1.lt k ((h2 k).1 hk)
theorem rn_turn {g mb : Nat} {s' : St} {es : List (E V)} {F : Nat → Prop} {w w' : World} (h2 : ∀ k, F k ↔ Fr g mb es k) (h : Rn g mb s' es w w') : ∃ F', (ChO g mb).P s' F' w' ∧ Turn F F' w w' := by
  obtain ⟨fs, g1, g2, g3⟩ := h
  refine ⟨Fr g mb fs, ⟨fs, g1, fun k => Iff.rfl⟩, g2.mono (fun k hk => (h2 k).2 hk), ?_⟩
  rintro k (h | h | h)
  · exact .inl ((h2 k).2 (.inl h))
  · exact .inl ((h2 k).2 (.inr (.inl h)))
  · obtain ⟨x, hx, e⟩ := List.mem_map.1 h
    rcases g3 x hx with h | h
    · exact .inl ((h2 k).2 (.inr (.inr (e ▸ h))))
    · exact .inr (e ▸ h)
section
variable {g mb : Nat} {s : St} {F : Nat → Prop} {w : World}
theorem cGet (k : K) (h : (ChO g mb).P s F w) (hk : okK k) (hh : s.hits < 4611686018427387904) (hm : s.misses < 4611686018427387904) : Calls Try.prog 19 #[pt ⟨g, 0, none⟩, .string k] w fun e w' => e = .returned (.tuple #[.string ((fnd k s.l).getD emp), .bool (fnd k s.l).isSome]) ∧ ∃ F', (ChO g mb).P (getS s k) F' w' ∧ Turn F F' w w' := by
  obtain ⟨es, h1, h2⟩ := h
  exact (getC k h1 hk hh hm).mono fun e w' ⟨g1, g2⟩ => ⟨g1, rn_turn h2 g2⟩
theorem cPut (k : K) (v : V) (h : (ChO g mb).P s F w) (hk : okK k) (hg : s.gone < 4611686018427387904) : Calls Try.prog 16 #[pt ⟨g, 0, none⟩, .string k, .string v] w fun e w' => e = .returned (.tuple #[.string ((outS s k).getD emp), .bool (outS s k).isSome]) ∧ ∃ F', (ChO g mb).P (putS s k v) F' w' ∧ Turn F F' w w' := by
  obtain ⟨es, h1, h2⟩ := h
  exact (putC k v h1 hk hg).mono fun e w' ⟨g1, g2⟩ => ⟨g1, rn_turn h2 g2⟩
theorem cDrop (k : K) (h : (ChO g mb).P s F w) (hk : okK k) : Calls Try.prog 23 #[pt ⟨g, 0, none⟩, .string k] w fun e w' => e = .returned (.bool (fnd k s.l).isSome) ∧ ∃ F', (ChO g mb).P (dropS s k) F' w' ∧ Turn F F' w w' := by
  obtain ⟨es, h1, h2⟩ := h
  exact (dropC k h1 hk).mono fun e w' ⟨g1, g2⟩ => ⟨g1, rn_turn h2 g2⟩
theorem cClear (h : (ChO g mb).P s F w) : Calls Try.prog 25 #[pt ⟨g, 0, none⟩] w fun e w' => e = .returned (.tuple #[]) ∧ ∃ F', (ChO g mb).P (clearS s) F' w' ∧ Turn F F' w w' := by
  obtain ⟨es, h1, h2⟩ := h
  exact (clearC h1).mono fun e w' ⟨g1, g2⟩ => ⟨g1, rn_turn h2 g2⟩
theorem cOk (h : (ChO g mb).P s F w) : Ok s := h.choose_spec.1.ok
theorem cPeek (k : K) (h : (ChO g mb).P s F w) (hk : okK k) : Calls Try.prog 18 #[pt ⟨g, 0, none⟩, .string k] w fun e w' => e = .returned (.tuple #[.string ((fnd k s.l).getD emp), .bool (fnd k s.l).isSome]) ∧ Below w.heap.size w w' := by
  obtain ⟨es, h1, h2⟩ := h
  exact peekC k h1 hk
theorem cLen (h : (ChO g mb).P s F w) : Calls Try.prog 22 #[pt ⟨g, 0, none⟩] w fun e w' => e = .returned (.int .i64 (s.l.length : Nat)) ∧ w' = w := by
  obtain ⟨es, h1, h2⟩ := h
  exact lenC h1
theorem cCounts (h : (ChO g mb).P s F w) : Calls Try.prog 26 #[pt ⟨g, 0, none⟩] w fun e w' => e = .returned (.tuple #[.int .i64 (s.hits : Nat), .int .i64 (s.misses : Nat), .int .i64 (s.gone : Nat)]) ∧ Below w.heap.size w w' := by
  obtain ⟨es, h1, h2⟩ := h
  exact countsC h1
theorem cKeys (h : (ChO g mb).P s F w) : Calls Try.prog 21 #[pt ⟨g, 0, none⟩] w fun e w' => ∃ v, e = .returned v ∧ w'.ownsRow w.heap.size 9 1 v (keys s.l).length ((keys s.l).map Value.string) ∧ Below w.heap.size w w' := by
  obtain ⟨es, h1, h2⟩ := h
  exact keysC h1
theorem cKeysOk (h : (ChO g mb).P s F w) : ∀ k ∈ keys s.l, okK k := by
  obtain ⟨es, h1, h2⟩ := h
  intro k hk
  unfold keys at hk
  rw [h1.l] at hk
  obtain ⟨p, hp, e⟩ := List.mem_map.1 hk
  obtain ⟨x, hx, e2⟩ := List.mem_map.1 hp
  have := h1.big x hx
  rw [e2, e] at this
  exact this
theorem cNew (m : Nat) (hm : m ≤ 4096) (w : World) : Calls Try.prog 9 #[.int .i64 (m : Nat)] w fun e w' => e = .returned (pt ⟨w.heap.size + 1, 0, none⟩) ∧ Below w.heap.size w w' ∧ (ChO (w.heap.size + 1) w.heap.size).P (S0 m) (Fr (w.heap.size + 1) w.heap.size []) w' ∧ ∀ k, Fr (w.heap.size + 1) w.heap.size [] k → w.heap.size ≤ k :=
  (newC m hm w).mono fun e w' ⟨g1, g2, g3⟩ => ⟨g1, g3, ⟨[], g2, fun k => Iff.rfl⟩, fun k hk => by
    rcases hk with h | h | h
    · omega
    · omega
    · cases h⟩
end
end Go.Proofs.Ytjkkijeamcihiaa.lz
