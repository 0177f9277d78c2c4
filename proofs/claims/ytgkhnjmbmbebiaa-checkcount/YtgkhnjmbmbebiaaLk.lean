import Derived.Test.YtgkhnjmbmbebiaaKp
import Derived.Test.YtgkhnjmbmbebiaaBb
namespace Go.Proofs.Ytgkhnjmbmbebiaa.lk
open Go.RowKit Go.PlainAid
open Go.Proofs.Ytgkhnjmbmbebiaa.ca Go.Proofs.Ytgkhnjmbmbebiaa.cb Go.Proofs.Ytgkhnjmbmbebiaa.cp Go.Proofs.Ytgkhnjmbmbebiaa.ga Go.Proofs.Ytgkhnjmbmbebiaa.aa Go.Proofs.Ytgkhnjmbmbebiaa.ba Go.Proofs.Ytgkhnjmbmbebiaa.bb Go.Proofs.Ytgkhnjmbmbebiaa.kp
set_option linter.unusedVariables false

theorem part_box (w : World) (a b : Nat) : Bx (w.alloc (.cells #[.int .i64 a, .int .i64 b] 47)) w.heap.size a b := ⟨by rw [World.cell?_alloc_at _ _ _ _ rfl]; rfl, by rw [World.cell?_alloc_at _ _ _ _ rfl]; rfl⟩
theorem lookI (ib i a b : Nat) (w : World) (hab : a < b) (hb : b ≤ 4611686018427387904) (hP : w.cell? ⟨ib, 0, none⟩ = some (.int .i64 i)) :
    Calls Try.prog 33 #[.agg #[.int .i64 a, .int .i64 b], .pointer (some ⟨ib, 0, none⟩)] w fun e w' => e = .returned (.int .i64 (lkI i a b : Nat)) ∧ Below w.heap.size w w' := by
  have BA : Hid (Below w.heap.size w (w.alloc (.cells #[.int .i64 a, .int .i64 b] 47))) := (Below.refl _ _).alloc (Nat.le_refl _) _
  have HB : Hid (Bx (w.alloc (.cells #[.int .i64 a, .int .i64 b] 47)) w.heap.size a b) := part_box w a b
  have ci : (w.alloc (.cells #[.int .i64 a, .int .i64 b] 47)).cell? ⟨ib, 0, none⟩ = some (.int .i64 i) := (BA.out.cell (World.block_lt_of_cell? _ _ hP)).trans hP
  have HC : Hid (∀ w, Calls _ _ _ _ _) := fun w => has a b i w
  have LC : Hid (∀ w, Calls _ _ _ _ _) := fun w => isLeaf a b (by omega) hb w
  have TC : Hid (2 ≤ b - a → ∀ w, Calls _ _ _ _ _) := fun h w => toward a b i h hb w
  obtain ⟨r, HR⟩ : ∃ r, Hid (lkI i a b = r) := ⟨_, rfl⟩
  rw [HR.out]
  have HCI : Hid ((w.alloc (.cells #[.int .i64 a, .int .i64 b] 47)).cell? ⟨ib, 0, none⟩ = some (.int .i64 i)) := ci
  by_cases h : a ≤ i ∧ i < b
  · rw [decide_eq_true h] at HC
    by_cases h1 : b - a = 1
    · rw [decide_eq_true h1] at LC
      obtain rfl : 0 = r := by rw [← HR.out]; unfold lkI; rw [if_pos h, if_pos h1]
      clear TC HR h h1 hP
      go_enter Try.func33, Try.ntmps33
      go_wp2_with fail
      refine (HC.out _).mono ?_
      rintro e w1 ⟨rfl, hb1⟩
      have B1 : Hid (Below w.heap.size w w1) := over BA.out hb1
      obtain ⟨c1, c2⟩ := HB.out.later hb1
      clear hb1 ci
      go_wp2_with fail
      refine (LC.out _).mono ?_
      rintro e w2 ⟨rfl, hb2⟩
      have B2 : Hid (Below w.heap.size w w2) := over B1.out hb2
      clear hb2 c1 c2
      go_wp2
      go_ret
      exact ⟨rfl, B2.out⟩
    · rw [decide_eq_false h1] at LC
      have TC2 : Hid (∀ w, Calls Try.prog 36 #[.agg #[.int .i64 a, .int .i64 b], .int .i64 i] w fun e w' => e = .returned (.int .i64 (r : Nat)) ∧ Below w.heap.size w w') := by
        have e : ((r : Nat) : Int) = if a ≤ i ∧ i < a + half (b - a) then 2 else 3 := by
          rw [← HR.out]
          unfold lkI
          rw [if_pos h, if_neg h1]
          by_cases g : i < a + half (b - a)
          · rw [if_pos g, if_pos ⟨h.1, g⟩]; rfl
          · rw [if_neg g, if_neg (fun z => g z.2)]; rfl
        show ∀ w, _
        rw [e]
        exact TC.out (by omega)
      clear TC HR h h1 hP
      go_enter Try.func33, Try.ntmps33
      go_wp2_with fail
      refine (HC.out _).mono ?_
      rintro e w1 ⟨rfl, hb1⟩
      have B1 : Hid (Below w.heap.size w w1) := over BA.out hb1
      have HX1 : Hid (Bx w1 w.heap.size a b) := HB.out.later hb1
      obtain ⟨c1, c2⟩ := HX1.out
      have HCI1 : Hid (w1.cell? ⟨ib, 0, none⟩ = some (.int .i64 i)) := (hb1.cell (World.block_lt_of_cell? _ _ HCI.out)).trans HCI.out
      clear hb1 ci
      go_wp2_with fail
      refine (LC.out _).mono ?_
      rintro e w2 ⟨rfl, hb2⟩
      have B2 : Hid (Below w.heap.size w w2) := over B1.out hb2
      obtain ⟨d1, d2⟩ := HX1.out.later hb2
      have d3 := (hb2.cell (World.block_lt_of_cell? _ _ HCI1.out)).trans HCI1.out
      clear hb2 c1 c2
      go_wp2_with fail
      refine (TC2.out _).mono ?_
      rintro e w3 ⟨rfl, hb3⟩
      have B3 : Hid (Below w.heap.size w w3) := over B2.out hb3
      clear hb3 d1 d2 d3
      go_wp2
      go_ret
      exact ⟨rfl, B3.out⟩
  · rw [decide_eq_false h] at HC
    obtain rfl : 1 = r := by rw [← HR.out]; unfold lkI; rw [if_neg h]
    clear TC HR h hP
    go_enter Try.func33, Try.ntmps33
    go_wp2_with fail
    refine (HC.out _).mono ?_
    rintro e w1 ⟨rfl, hb1⟩
    have B1 : Hid (Below w.heap.size w w1) := over BA.out hb1
    clear hb1 ci
    go_wp2
    go_ret
    exact ⟨rfl, B1.out⟩
theorem eqP (a b x y : Int) (w : World) (c : Bool) (h : (a == x && b == y) = c) : (binOp .eql 47 (.agg #[.int .i64 a, .int .i64 b]) (.agg #[.int .i64 x, .int .i64 y])).run Try.prog w = .ok (.bool c) w := by
  subst h
  by_cases h1 : a = x <;> by_cases h2 : b = y <;> simp [go_sem, h1, h2]
theorem lookC (ob mb m a b : Nat) (w : World) (hm : 1 ≤ m) (hm2 : m ≤ 4611686018427387904) (hab : a < b) (hb : b ≤ 4611686018427387904) (hO : Bx w ob 0 m) (hP : w.cell? ⟨mb, 0, none⟩ = some (.int .i64 m)) :
    Calls Try.prog 37 #[.agg #[.int .i64 a, .int .i64 b], .pointer (some ⟨mb, 0, none⟩), .pointer (some ⟨ob, 0, none⟩)] w fun e w' => e = .returned (.int .i64 (lkC m a b : Nat)) ∧ Below w.heap.size w w' := by
  have BA : Hid (Below w.heap.size w (w.alloc (.cells #[.int .i64 a, .int .i64 b] 47))) := (Below.refl _ _).alloc (Nat.le_refl _) _
  have ci : (w.alloc (.cells #[.int .i64 a, .int .i64 b] 47)).cell? ⟨mb, 0, none⟩ = some (.int .i64 m) := (BA.out.cell (World.block_lt_of_cell? _ _ hP)).trans hP
  obtain ⟨co1, co2⟩ := hO.later BA.out
  have q0 : ((m : Int) == 0) = false := by rw [beq_eq_false_iff_ne]; omega
  have TC : Hid (2 ≤ b - a → ∀ w, Calls _ _ _ _ _) := fun h w => toward a b (m - 1) h hb w
  rw [show ((m - 1 : Nat) : Int) = (m : Int) - 1 by omega] at TC
  obtain ⟨r, HR⟩ : ∃ r, Hid (lkC m a b = r) := ⟨_, rfl⟩
  rw [HR.out]
  by_cases h : a = 0 ∧ b = m
  · have qe := fun w => eqP (a : Int) (b : Int) 0 (m : Int) w true (by obtain ⟨h1, h2⟩ := h; subst h1; subst h2; simp)
    obtain rfl : 0 = r := by rw [← HR.out]; unfold lkC; rw [if_pos h]
    clear TC HR h hP hO
    go_enter Try.func37, Try.ntmps37
    go_wp2
    go_ret
    exact ⟨rfl, BA.out⟩
  · have qe := fun w => eqP (a : Int) (b : Int) 0 (m : Int) w false (by
      rw [Bool.and_eq_false_iff, beq_eq_false_iff_ne, beq_eq_false_iff_ne]
      rcases Decidable.not_and_iff_or_not.1 h with g | g
      · exact .inl (by omega)
      · exact .inr (by omega))
    by_cases h1 : b ≤ m
    · obtain rfl : 1 = r := by rw [← HR.out]; unfold lkC; rw [if_neg h, if_pos (.inl h1)]
      clear TC HR h hP hO
      go_enter Try.func37, Try.ntmps37
      go_wp2
      go_ret
      exact ⟨rfl, BA.out⟩
    · by_cases h2 : m ≤ a
      · obtain rfl : 1 = r := by rw [← HR.out]; unfold lkC; rw [if_neg h, if_pos (.inr h2)]
        clear TC HR h hP hO
        go_enter Try.func37, Try.ntmps37
        go_wp2
        go_ret
        exact ⟨rfl, BA.out⟩
      · have TC2 : Hid (∀ w, Calls Try.prog 36 #[.agg #[.int .i64 a, .int .i64 b], .int .i64 ((m : Int) - 1)] w fun e w' => e = .returned (.int .i64 (r : Nat)) ∧ Below w.heap.size w w') := by
          have e : ((r : Nat) : Int) = if a ≤ m - 1 ∧ m - 1 < a + half (b - a) then 2 else 3 := by
            rw [← HR.out]
            unfold lkC
            rw [if_neg h, if_neg (by omega)]
            split <;> rfl
          show ∀ w, _
          rw [e]
          exact TC.out (by omega)
        clear TC HR h hP hO
        go_enter Try.func37, Try.ntmps37
        go_wp2_with fail
        refine (TC2.out _).mono ?_
        rintro e w3 ⟨rfl, hb3⟩
        have B3 : Hid (Below w.heap.size w w3) := over BA.out hb3
        clear hb3
        go_wp2
        go_ret
        exact ⟨rfl, B3.out⟩
theorem lookR (lb' hb' lo hi a b : Nat) (w : World) (hab : a < b) (hb : b ≤ 4611686018427387904) (hP : w.cell? ⟨lb', 0, none⟩ = some (.int .i64 lo)) (hQ : w.cell? ⟨hb', 0, none⟩ = some (.int .i64 hi)) :
    Calls Try.prog 38 #[.agg #[.int .i64 a, .int .i64 b], .pointer (some ⟨lb', 0, none⟩), .pointer (some ⟨hb', 0, none⟩)] w fun e w' => e = .returned (.int .i64 (lkR lo hi a b : Nat)) ∧ Below w.heap.size w w' := by
  have BA : Hid (Below w.heap.size w (w.alloc (.cells #[.int .i64 a, .int .i64 b] 47))) := (Below.refl _ _).alloc (Nat.le_refl _) _
  have c1 := (BA.out.cell (World.block_lt_of_cell? _ _ hP)).trans hP
  have c2 := (BA.out.cell (World.block_lt_of_cell? _ _ hQ)).trans hQ
  obtain ⟨r, HR⟩ : ∃ r, Hid (lkR lo hi a b = r) := ⟨_, rfl⟩
  rw [HR.out]
  clear hP hQ
  by_cases h1 : b ≤ lo
  · obtain rfl : 1 = r := by rw [← HR.out]; unfold lkR; rw [if_pos (.inl h1)]
    clear HR
    go_enter Try.func38, Try.ntmps38
    go_wp2
    go_ret
    exact ⟨rfl, BA.out⟩
  · by_cases h2 : hi ≤ a
    · obtain rfl : 1 = r := by rw [← HR.out]; unfold lkR; rw [if_pos (.inr h2)]
      clear HR
      go_enter Try.func38, Try.ntmps38
      go_wp2
      go_ret
      exact ⟨rfl, BA.out⟩
    · by_cases h3 : lo ≤ a
      · by_cases h4 : b ≤ hi
        · obtain rfl : 0 = r := by rw [← HR.out]; unfold lkR; rw [if_neg (by omega), if_pos ⟨h3, h4⟩]
          clear HR
          go_enter Try.func38, Try.ntmps38
          go_wp2
          go_ret
          exact ⟨rfl, BA.out⟩
        · obtain rfl : 2 = r := by rw [← HR.out]; unfold lkR; rw [if_neg (by omega), if_neg (by omega)]
          clear HR
          go_enter Try.func38, Try.ntmps38
          go_wp2
          go_ret
          exact ⟨rfl, BA.out⟩
      · obtain rfl : 2 = r := by rw [← HR.out]; unfold lkR; rw [if_neg (by omega), if_neg (by omega)]
        clear HR
        go_enter Try.func38, Try.ntmps38
        go_wp2
        go_ret
        exact ⟨rfl, BA.out⟩
-- a shape: D the blocks that it hangs on, F those that it writes, cur what it has in mind at a place
structure Shp (D F : Nat → Prop) (SS : Nat → World → Prop) (lk : Nat → Nat → Nat) (cur : Nat → Nat) (lg : Nat) (lv : Array Value) : Prop where
  enter : ∀ args w, (callFunc lg args).run Try.prog w = .ok (.enter lg args) w
  keep : ∀ {k w w'} {G : Nat → Prop}, SS k w → Kp G w w' → (∀ b, G b → ¬ D b) → SS k w'
  fd : ∀ b, F b → D b
  fl : ∀ {k w}, SS k w → ∀ b, D b → b < w.heap.size
  call : ∀ (a b : Nat) (w : World), a < b → b ≤ 4611686018427387904 → SS (cur a) w → Calls Try.prog lg (#[.agg #[.int .i64 a, .int .i64 b]] ++ lv) w fun e w' => e = .returned (.int .i64 (lk a b : Nat)) ∧ SS (if lk a b < 2 then cur b else cur a) w' ∧ Kp F w w'
  wide : ∀ {a b}, a < b → 2 ≤ lk a b → 2 ≤ b - a
  four : ∀ a b, lk a b ≤ 3
  turn : ∀ {a b}, lk a b = 3 → ∀ p, cur p = cur 0
theorem Shp.later {D F : Nat → Prop} {SS : Nat → World → Prop} {lk : Nat → Nat → Nat} {cur : Nat → Nat} {lg : Nat} {lv : Array Value} (h : Shp D F SS lk cur lg lv) {k : Nat} {w w' : World} (hs : SS k w) (hb : Below w.heap.size w w') : SS k w' :=
  h.keep (G := fun _ => False) hs (Kp.of_below hb) (fun _ x => x.elim)
def no : Nat → Prop := fun _ => False
theorem ShI (ib i : Nat) : Shp (fun b => b = ib) no (fun _ w => w.cell? ⟨ib, 0, none⟩ = some (.int .i64 i)) (lkI i) (fun _ => 0) 33 #[.pointer (some ⟨ib, 0, none⟩)] where
  enter := fun args w => by simp [go_sem]
  keep := fun h k hg => k.cell h (fun g => hg _ g rfl)
  fd := fun b h => h.elim
  fl := fun h b hb => by subst hb; exact World.block_lt_of_cell? _ _ h
  call := fun a b w hab hb hP => (lookI ib i a b w hab hb hP).mono fun e w' h => ⟨h.1, (h.2.cell (World.block_lt_of_cell? _ _ hP)).trans hP, Kp.of_below h.2⟩
  wide := fun hab h => by
    unfold lkI at h
    split at h
    · split at h <;> omega
    · omega
  four := fun a b => by
    unfold lkI
    split
    · split
      · omega
      · split <;> omega
    · omega
  turn := fun _ _ => rfl
theorem ShC (ob mb m : Nat) (hm : 1 ≤ m) (hm2 : m ≤ 4611686018427387904) : Shp (fun b => b = ob ∨ b = mb) no (fun _ w => Bx w ob 0 m ∧ w.cell? ⟨mb, 0, none⟩ = some (.int .i64 m)) (lkC m) (fun _ => 0) 37 #[.pointer (some ⟨mb, 0, none⟩), .pointer (some ⟨ob, 0, none⟩)] where
  enter := fun args w => by simp [go_sem]
  keep := fun h k hg => ⟨⟨k.cell h.1.1 (fun g => hg _ g (.inl rfl)), k.cell h.1.2 (fun g => hg _ g (.inl rfl))⟩, k.cell h.2 (fun g => hg _ g (.inr rfl))⟩
  fd := fun b h => h.elim
  fl := fun h b hb => by
    rcases hb with rfl | rfl
    · exact World.block_lt_of_cell? _ _ h.1.1
    · exact World.block_lt_of_cell? _ _ h.2
  call := fun a b w hab hb hP => (lookC ob mb m a b w hm hm2 hab hb hP.1 hP.2).mono fun e w' h => ⟨h.1, ⟨hP.1.later h.2, (h.2.cell (World.block_lt_of_cell? _ _ hP.2)).trans hP.2⟩, Kp.of_below h.2⟩
  wide := fun hab h => by
    unfold lkC at h
    split at h
    · omega
    · split at h
      · omega
      · omega
  four := fun a b => by
    unfold lkC
    split
    · omega
    · split
      · omega
      · split <;> omega
  turn := fun _ _ => rfl
-- of no leaves nothing is to be proved
theorem lookZ (ob mb a b : Nat) (w : World) (hO : Bx w ob 0 0) (hP : w.cell? ⟨mb, 0, none⟩ = some (.int .i64 0)) :
    Calls Try.prog 37 #[.agg #[.int .i64 a, .int .i64 b], .pointer (some ⟨mb, 0, none⟩), .pointer (some ⟨ob, 0, none⟩)] w fun e w' => e = .returned (.int .i64 0) ∧ Below w.heap.size w w' := by
  have BA : Hid (Below w.heap.size w (w.alloc (.cells #[.int .i64 a, .int .i64 b] 47))) := (Below.refl _ _).alloc (Nat.le_refl _) _
  have ci : (w.alloc (.cells #[.int .i64 a, .int .i64 b] 47)).cell? ⟨mb, 0, none⟩ = some (.int .i64 0) := (BA.out.cell (World.block_lt_of_cell? _ _ hP)).trans hP
  obtain ⟨co1, co2⟩ := hO.later BA.out
  clear hO hP
  go_enter Try.func37, Try.ntmps37
  go_wp2
  go_ret
  exact ⟨rfl, BA.out⟩
theorem ShR (lb' hb' lo hi : Nat) : Shp (fun b => b = lb' ∨ b = hb') no (fun _ w => w.cell? ⟨lb', 0, none⟩ = some (.int .i64 lo) ∧ w.cell? ⟨hb', 0, none⟩ = some (.int .i64 hi)) (lkR lo hi) (fun _ => 0) 38 #[.pointer (some ⟨lb', 0, none⟩), .pointer (some ⟨hb', 0, none⟩)] where
  enter := fun args w => by simp [go_sem]
  keep := fun h k hg => ⟨k.cell h.1 (fun g => hg _ g (.inl rfl)), k.cell h.2 (fun g => hg _ g (.inr rfl))⟩
  fd := fun b h => h.elim
  fl := fun h b hb => by
    rcases hb with rfl | rfl
    · exact World.block_lt_of_cell? _ _ h.1
    · exact World.block_lt_of_cell? _ _ h.2
  call := fun a b w hab hb hP => (lookR lb' hb' lo hi a b w hab hb hP.1 hP.2).mono fun e w' h => ⟨h.1, ⟨(h.2.cell (World.block_lt_of_cell? _ _ hP.1)).trans hP.1, (h.2.cell (World.block_lt_of_cell? _ _ hP.2)).trans hP.2⟩, Kp.of_below h.2⟩
  wide := fun hab h => by
    unfold lkR at h
    split at h
    · omega
    · split at h
      · omega
      · omega
  four := fun a b => by
    unfold lkR
    split
    · omega
    · split <;> omega
  turn := fun h => by
    unfold lkR at h
    split at h
    · omega
    · split at h <;> omega
end Go.Proofs.Ytgkhnjmbmbebiaa.lk
