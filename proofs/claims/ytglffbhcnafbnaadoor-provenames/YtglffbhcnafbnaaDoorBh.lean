import Derived.Test.YtglffbhcnafbnaaDoorBg
import Derived.Lib.SliceRun
namespace Go.Proofs.YtglffbhcnafbnaaDoor.bh
open Go.RowKit Go.PlainAid
open Go.Proofs.YtglffbhcnafbnaaDoor.pl Go.Proofs.YtglffbhcnafbnaaDoor.pi Go.Proofs.YtglffbhcnafbnaaDoor.rf Go.Proofs.YtglffbhcnafbnaaDoor.pj Go.Proofs.YtglffbhcnafbnaaDoor.ca Go.Proofs.YtglffbhcnafbnaaDoor.cb Go.Proofs.YtglffbhcnafbnaaDoor.cp Go.Proofs.YtglffbhcnafbnaaDoor.cs Go.Proofs.YtglffbhcnafbnaaDoor.ct Go.Proofs.YtglffbhcnafbnaaDoor.ka Go.Proofs.YtglffbhcnafbnaaDoor.kb Go.Proofs.YtglffbhcnafbnaaDoor.ga Go.Proofs.YtglffbhcnafbnaaDoor.aa Go.Proofs.YtglffbhcnafbnaaDoor.ab Go.Proofs.YtglffbhcnafbnaaDoor.tb Go.Proofs.YtglffbhcnafbnaaDoor.ac Go.Proofs.YtglffbhcnafbnaaDoor.ba Go.Proofs.YtglffbhcnafbnaaDoor.bb Go.Proofs.YtglffbhcnafbnaaDoor.bc Go.Proofs.YtglffbhcnafbnaaDoor.bd Go.Proofs.YtglffbhcnafbnaaDoor.be Go.Proofs.YtglffbhcnafbnaaDoor.bg
set_option linter.unusedVariables false

-- what is refused ahead of all
def chk (sz n : Int) : Int := if sz < 0 ∨ 4611686018427387904 < sz then 10 else if n < 0 ∨ sz < n then 80 else 0
theorem chk_ok {sz n : Int} (h : chk sz n = 0) : 0 ≤ sz ∧ sz ≤ 4611686018427387904 ∧ 0 ≤ n ∧ n ≤ sz := by
  unfold chk at h
  by_cases h1 : sz < 0 ∨ 4611686018427387904 < sz
  · rw [if_pos h1] at h; omega
  · rw [if_neg h1] at h
    by_cases h2 : n < 0 ∨ sz < n
    · rw [if_pos h2] at h; omega
    · omega
theorem eqF0 (d g : Nat) (fb lb : Array Value) (w : World) : (Op.equalIn (d + 1) 22 (.func (.func g) fb lb) .nilFunc).run Tryd.prog w = .ok false w := by
  simp [Op.equalIn, run_underlying Tryd.underlying22]
theorem eqF (g : Nat) (fb lb : Array Value) (w : World) : (binOp .eql 22 (.func (.func g) fb lb) .nilFunc).run Tryd.prog w = .ok (.bool false) w := by
  simp only [binOp]
  simp [Op.equal, Op.maxDepth, eqF0 9999 g fb lb w]
theorem eqF1 (d : Nat) (w : World) : (Op.equalIn (d + 1) 22 .nilFunc .nilFunc).run Tryd.prog w = .ok true w := by
  simp [Op.equalIn, run_underlying Tryd.underlying22]
theorem eqFn (w : World) : (binOp .eql 22 .nilFunc .nilFunc).run Tryd.prog w = .ok (.bool true) w := by
  simp only [binOp]
  simp [Op.equal, Op.maxDepth, eqF1 9999 w]
theorem check (wd sz n : Int) (g : Nat) (fb lb : Array Value) (w : World) :
    Calls Tryd.prog 30 #[.agg #[.int .i64 wd, .int .i64 sz, .func (.func g) fb lb], .int .i64 n] w fun e w' => e = .returned (.int .i64 (chk sz n)) ∧ Below w.heap.size w w' := by
  have B0 : Hid (Below w.heap.size w (w.alloc (.cells #[.int .i64 wd, .int .i64 sz, .func (.func g) fb lb] 24))) := (Below.refl _ _).alloc (Nat.le_refl _) _
  have qf := fun w => eqF g fb lb w
  by_cases h1 : sz < 0
  · have HE : Hid (chk sz n = 10) := by show _ = _; unfold chk; rw [if_pos (.inl h1)]
    rw [HE.out]
    go_enter Tryd.func30, Tryd.ntmps30
    go_wp2
    go_ret
    exact ⟨rfl, B0.out⟩
  · by_cases h2 : 4611686018427387904 < sz
    · have HE : Hid (chk sz n = 10) := by show _ = _; unfold chk; rw [if_pos (.inr h2)]
      rw [HE.out]
      go_enter Tryd.func30, Tryd.ntmps30
      go_wp2
      go_ret
      exact ⟨rfl, B0.out⟩
    · by_cases h3 : n < 0
      · have HE : Hid (chk sz n = 80) := by show _ = _; unfold chk; rw [if_neg (by omega), if_pos (.inl h3)]
        rw [HE.out]
        go_enter Tryd.func30, Tryd.ntmps30
        go_wp2
        go_ret
        exact ⟨rfl, B0.out⟩
      · by_cases h4 : sz < n
        · have HE : Hid (chk sz n = 80) := by show _ = _; unfold chk; rw [if_neg (by omega), if_pos (.inr h4)]
          rw [HE.out]
          go_enter Tryd.func30, Tryd.ntmps30
          go_wp2
          go_ret
          exact ⟨rfl, B0.out⟩
        · have HE : Hid (chk sz n = 0) := by show _ = _; unfold chk; rw [if_neg (by omega), if_neg (by omega)]
          rw [HE.out]
          go_enter Tryd.func30, Tryd.ntmps30
          go_wp2
          go_ret
          exact ⟨rfl, B0.out⟩
section
variable {g : Nat} {fb lb : Array Value} {ask : Nat → Nat × Nat → ByteArray × Int} {J : (Nat → Prop) → List (Nat × Nat) → World → Prop} {N : Nat} {D : Nat → Prop} {lg : Nat} {lv : Array Value} {lk : Nat → Nat → Nat} {P : World → Prop}
def ans (t : List ByteArray × Int × List (Nat × Nat)) : List ByteArray := if t.2.1 = 0 then t.1 else []
-- a proof and an error; the reader goes on
def Proved (J : (Nat → Prop) → List (Nat × Nat) → World → Prop) (F : Nat → Prop) (w : World) (t : List ByteArray × Int × List (Nat × Nat)) (e : Ending) (w' : World) : Prop :=
  ∃ u F', e = .returned (.tuple #[u, .int .i64 t.2.1]) ∧ w'.ownsRow w.heap.size 9 1 u (ans t).length ((ans t).map Value.string) ∧ J F' t.2.2 w' ∧ Goes F w F' w' ∧ Beside F' u
set_option maxHeartbeats 1600000 in
theorem gatherC (R : Rd g fb lb ask J N D) (LK : Lk lg lv lk P) (wd sz : Int) (hwd : i64 wd) (n : Nat) (h1 : 1 ≤ n) (hn : n ≤ 4611686018427387904) (F : Nat → Prop) (l : List (Nat × Nat)) (w : World) (HP : ∀ F' wr, Goes F w F' wr → P wr)
    (hN : l.length + 122 * (WL lk 0 n).length ≤ N) (hm : (WL lk 0 n).length ≤ 1000000) (hJ : J F l w) :
    Calls Tryd.prog 32 #[.agg #[.int .i64 wd, .int .i64 sz, .func (.func g) fb lb], .int .i64 n, .func (.func lg) #[] lv] w (Proved J F w (told (okw wd) (fow wd) ask l (WL lk 0 n))) := by
  have B0 : Hid (Below w.heap.size w ((w.alloc (.cells #[.int .i64 wd, .int .i64 sz, .func (.func g) fb lb] 24)).alloc (.cells #[.slice none 0 0] 28))) := ((Below.refl _ _).alloc (Nat.le_refl _) _).alloc (by simp) _
  have G0 : Hid (Gs R wd sz F w w.heap.size (w.heap.size + 1) (w.heap.size + 2) [] l F (.slice none 0 0) ((w.alloc (.cells #[.int .i64 wd, .int .i64 sz, .func (.func g) fb lb] 24)).alloc (.cells #[.slice none 0 0] 28))) := by
    have h3 := three_box w (.int .i64 wd) (.int .i64 sz) (.func (.func g) fb lb) 24
    have hb1 : Below (w.alloc (.cells #[.int .i64 wd, .int .i64 sz, .func (.func g) fb lb] 24)).heap.size (w.alloc (.cells #[.int .i64 wd, .int .i64 sz, .func (.func g) fb lb] 24)) ((w.alloc (.cells #[.int .i64 wd, .int .i64 sz, .func (.func g) fb lb] 24)).alloc (.cells #[.slice none 0 0] 28)) := (Below.refl _ _).alloc (Nat.le_refl _) _
    have s1 : (w.alloc (.cells #[.int .i64 wd, .int .i64 sz, .func (.func g) fb lb] 24)).heap.size = w.heap.size + 1 := by simp
    refine ⟨R.later hJ B0.out, Goes.of_below B0.out, (hb1.cell (World.block_lt_of_cell? _ _ h3.1)).trans h3.1, (hb1.cell (World.block_lt_of_cell? _ _ h3.2.1)).trans h3.2.1, (hb1.cell (World.block_lt_of_cell? _ _ h3.2.2)).trans h3.2.2, (fun h => Nat.lt_irrefl _ (R.within hJ _ h)), ?_, (fun h => by have := R.within hJ _ h; omega), World.ownsRow_nil _ _ _ _, (fun g h => by cases h), ⟨Nat.le_refl _, by omega, by omega, by omega, by omega, by simp⟩, R.big hJ⟩
    rw [← s1]
    exact heap_alloc_new _ _
  have WC : Hid (Calls _ _ _ _ _) := walkC R LK wd sz hwd F w w.heap.size (w.heap.size + 1) (w.heap.size + 2) HP n 0 n [] l F (.slice none 0 0) _ (by omega) (by omega) hn hN (by rw [List.length_nil]; omega) G0.out
  obtain ⟨T, HT⟩ : ∃ T, Hid (told (okw wd) (fow wd) ask l (WL lk 0 n) = T) := ⟨_, rfl⟩
  rw [HT.out] at WC ⊢
  obtain ⟨ts, c, l'⟩ := T
  have e0 : ((0 : Nat) : Int) = 0 := rfl
  rw [e0] at WC
  clear hN hm HP hJ e0
  go_enter Tryd.func32, Tryd.ntmps32
  go_wp2_with fail
  refine WC.out.mono ?_
  rintro e w1 ⟨rfl, F1, u1, acc1, hg1, ha1, hG1⟩
  have G1 : Hid (Gs R wd sz F w w.heap.size (w.heap.size + 1) (w.heap.size + 2) acc1 l' F1 u1 w1) := hg1
  have p1 : w1.cell? ⟨w.heap.size + 1, 0, none⟩ = some u1 := (cell_of_row _ _ _ _ _ _ hg1.pbox).trans rfl
  have HA1 : Hid (c = 0 → acc1 = [] ++ ts) := ha1
  clear hg1 ha1 hG1
  by_cases hc : c = 0
  · have HA : Hid (acc1 = ts) := (HA1.out hc).trans (List.nil_append _)
    subst hc
    go_wp2
    go_ret2
    refine ⟨u1, F1, rfl, ?_, G1.out.j, G1.out.go, G1.out.bes⟩
    show w1.ownsRow w.heap.size 9 1 u1 (ans (ts, 0, l')).length _
    unfold ans
    rw [if_pos rfl, ← HA.out]
    exact own_down G1.out.own (by omega)
  · have q0 : (c == 0) = false := by rw [beq_eq_false_iff_ne]; exact hc
    have HC : Hid (c ≠ 0) := hc
    clear hc
    go_wp2
    go_ret2
    refine ⟨.slice none 0 0, F1, rfl, ?_, G1.out.j, G1.out.go, fun g h => by cases h⟩
    unfold ans
    rw [if_neg HC.out]
    exact World.ownsRow_nil _ _ _ _
end
end Go.Proofs.YtglffbhcnafbnaaDoor.bh
