import Derived.Test.YtjkkijeamcihiaaIl
import Derived.Test.YtjkkijeamcihiaaLz
namespace Go.Proofs.Ytjkkijeamcihiaa.iz
open Go.RowKit Go.PlainAid Go.Maps
open Go.Proofs.Ytjkkijeamcihiaa.rd (Fx RP rp_adr adr_form)
open Go.Proofs.Ytjkkijeamcihiaa.rf (fx_turn)
open Go.Proofs.Ytjkkijeamcihiaa.lz (Thg Turn Turn.refl Turn.of_below Turn.trans One Two ov dn)
open Go.Proofs.Ytjkkijeamcihiaa.cp Go.Proofs.Ytjkkijeamcihiaa.kp Go.Proofs.Ytjkkijeamcihiaa.ka Go.Proofs.Ytjkkijeamcihiaa.ra Go.Proofs.Ytjkkijeamcihiaa.ib Go.Proofs.Ytjkkijeamcihiaa.ic Go.Proofs.Ytjkkijeamcihiaa.id Go.Proofs.Ytjkkijeamcihiaa.ie Go.Proofs.Ytjkkijeamcihiaa.if Go.Proofs.Ytjkkijeamcihiaa.ig Go.Proofs.Ytjkkijeamcihiaa.im Go.Proofs.Ytjkkijeamcihiaa.ih Go.Proofs.Ytjkkijeamcihiaa.ii Go.Proofs.Ytjkkijeamcihiaa.ij Go.Proofs.Ytjkkijeamcihiaa.ik Go.Proofs.Ytjkkijeamcihiaa.il Go.Proofs.Ytjkkijeamcihiaa.sa
set_option linter.unusedVariables false
set_option linter.unusedSimpArgs false
-- a cache as such a thing
def ChO (g mb : Nat) : Thg St where
  P s F w := ∃ es, Ch g mb s es w ∧ ∀ k, F k ↔ Fr g mb es k
  keep := by
    rintro s F w w' A ⟨es, h1, h2⟩ k hn
    exact ⟨es, h1.keep k (fun j hj => hn j ((h2 j).2 hj)), h2⟩
  lt := by
    rintro s F w ⟨es, h1, h2⟩ k hk
    exact h1.lt k ((h2 k).1 hk)
theorem rn_turn {g mb : Nat} {s' : St} {es : List (E V)} {F : Nat → Prop} {w w' : World} (h2 : ∀ k, F k ↔ Fr g mb es k) (h : Rn g mb s' es w w') : ∃ F', (ChO g mb).P s' F' w' ∧ Turn F F' w w' := by
  obtain ⟨fs, g1, g2, g3⟩ := h
  refine ⟨Fr g mb fs, ⟨fs, g1, fun k => Iff.rfl⟩, g2.mono (fun k hk => (h2 k).2 hk), ?_⟩
  rintro k (h | h | h)
  · exact .inl ((h2 k).2 (.inl h))
  · exact .inl ((h2 k).2 (.inr (.inl h)))
  · obtain ⟨x, hx, e⟩ := List.mem_map.1 h
    rcases g3 x hx with h | h
    · exact .inl ((h2 k).2 (.inr (.inr (e ▸ h))))
    · exact .inr (e ▸ h)
section
variable {g mb : Nat} {s : St} {F : Nat → Prop} {w : World}
theorem cGet (k : K) (h : (ChO g mb).P s F w) (hk : okK k) (hh : s.hits < 4611686018427387904) (hm : s.misses < 4611686018427387904) : Calls Try.prog 50 #[pt ⟨g, 0, none⟩, .int .i64 k] w fun e w' => e = .returned (.tuple #[pr ((fnd k s.l).getD zv), .bool (fnd k s.l).isSome]) ∧ ∃ F', (ChO g mb).P (getS s k) F' w' ∧ Turn F F' w w' := by
  obtain ⟨es, h1, h2⟩ := h
  exact (getC k h1 hk hh hm).mono fun e w' ⟨g1, g2⟩ => ⟨g1, rn_turn h2 g2⟩
theorem cPut (k : K) (v : V) (h : (ChO g mb).P s F w) (hk : okK k) (hg : s.gone < 4611686018427387904) : Calls Try.prog 52 #[pt ⟨g, 0, none⟩, .int .i64 k, pr v] w fun e w' => e = .returned (.tuple #[.int .i64 ((outS s k).getD 0), .bool (outS s k).isSome]) ∧ ∃ F', (ChO g mb).P (putS s k v) F' w' ∧ Turn F F' w w' := by
  obtain ⟨es, h1, h2⟩ := h
  exact (putC k v h1 hk hg).mono fun e w' ⟨g1, g2⟩ => ⟨g1, rn_turn h2 g2⟩
theorem cDrop (k : K) (h : (ChO g mb).P s F w) (hk : okK k) : Calls Try.prog 53 #[pt ⟨g, 0, none⟩, .int .i64 k] w fun e w' => e = .returned (.bool (fnd k s.l).isSome) ∧ ∃ F', (ChO g mb).P (dropS s k) F' w' ∧ Turn F F' w w' := by
  obtain ⟨es, h1, h2⟩ := h
  exact (dropC k h1 hk).mono fun e w' ⟨g1, g2⟩ => ⟨g1, rn_turn h2 g2⟩
theorem cClear (h : (ChO g mb).P s F w) : Calls Try.prog 54 #[pt ⟨g, 0, none⟩] w fun e w' => e = .returned (.tuple #[]) ∧ ∃ F', (ChO g mb).P (clearS s) F' w' ∧ Turn F F' w w' := by
  obtain ⟨es, h1, h2⟩ := h
  exact (clearC h1).mono fun e w' ⟨g1, g2⟩ => ⟨g1, rn_turn h2 g2⟩
theorem cOk (h : (ChO g mb).P s F w) : Ok s := h.choose_spec.1.ok
theorem cPeek (k : K) (h : (ChO g mb).P s F w) (hk : okK k) : Calls Try.prog 51 #[pt ⟨g, 0, none⟩, .int .i64 k] w fun e w' => e = .returned (.tuple #[pr ((fnd k s.l).getD zv), .bool (fnd k s.l).isSome]) ∧ Below w.heap.size w w' := by
  obtain ⟨es, h1, h2⟩ := h
  exact peekC k h1 hk
theorem cLen (h : (ChO g mb).P s F w) : Calls Try.prog 55 #[pt ⟨g, 0, none⟩] w fun e w' => e = .returned (.int .i64 (s.l.length : Nat)) ∧ w' = w := by
  obtain ⟨es, h1, h2⟩ := h
  exact lenC h1
theorem cCounts (h : (ChO g mb).P s F w) : Calls Try.prog 57 #[pt ⟨g, 0, none⟩] w fun e w' => e = .returned (.tuple #[.int .i64 (s.hits : Nat), .int .i64 (s.misses : Nat), .int .i64 (s.gone : Nat)]) ∧ Below w.heap.size w w' := by
  obtain ⟨es, h1, h2⟩ := h
  exact countsC h1
theorem cKeys (h : (ChO g mb).P s F w) : Calls Try.prog 56 #[pt ⟨g, 0, none⟩] w fun e w' => ∃ v, e = .returned v ∧ w'.ownsRow w.heap.size 3 1 v (keys s.l).length ((keys s.l).map (Value.int .i64)) ∧ Below w.heap.size w w' := by
  obtain ⟨es, h1, h2⟩ := h
  exact keysC h1
theorem cKeysOk (h : (ChO g mb).P s F w) : ∀ k ∈ keys s.l, okK k := by
  obtain ⟨es, h1, h2⟩ := h
  intro k hk
  unfold keys at hk
  rw [h1.l] at hk
  obtain ⟨p, hp, e⟩ := List.mem_map.1 hk
  obtain ⟨x, hx, e2⟩ := List.mem_map.1 hp
  have := h1.big x hx
  rw [e2, e] at this
  exact this
theorem cNew (m : Nat) (hm : m ≤ 4096) (w : World) : Calls Try.prog 31 #[.int .i64 (m : Nat)] w fun e w' => e = .returned (pt ⟨w.heap.size + 1, 0, none⟩) ∧ Below w.heap.size w w' ∧ (ChO (w.heap.size + 1) w.heap.size).P (S0 m) (Fr (w.heap.size + 1) w.heap.size []) w' ∧ ∀ k, Fr (w.heap.size + 1) w.heap.size [] k → w.heap.size ≤ k :=
  (newC m hm w).mono fun e w' ⟨g1, g2, g3⟩ => ⟨g1, g3, ⟨[], g2, fun k => Iff.rfl⟩, fun k hk => by
    rcases hk with h | h | h
    · omega
    · omega
    · cases h⟩
end
end Go.Proofs.Ytjkkijeamcihiaa.iz
