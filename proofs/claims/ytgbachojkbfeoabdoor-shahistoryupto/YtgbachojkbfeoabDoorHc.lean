import Derived.Test.YtgbachojkbfeoabDoorHb
namespace Go.Proofs.YtgbachojkbfeoabDoor.hc
open Go.RowKit Go.PlainAid
open Go.Proofs.YtgbachojkbfeoabDoor.pl Go.Proofs.YtgbachojkbfeoabDoor.pc Go.Proofs.YtgbachojkbfeoabDoor.pd Go.Proofs.YtgbachojkbfeoabDoor.ph Go.Proofs.YtgbachojkbfeoabDoor.pi Go.Proofs.YtgbachojkbfeoabDoor.ft Go.Proofs.YtgbachojkbfeoabDoor.pj Go.Proofs.YtgbachojkbfeoabDoor.pn Go.Proofs.YtgbachojkbfeoabDoor.re Go.Proofs.YtgbachojkbfeoabDoor.rf Go.Proofs.YtgbachojkbfeoabDoor.ha Go.Proofs.YtgbachojkbfeoabDoor.hb
set_option linter.unusedVariables false

def atI (on : Int) (n : Nat) : Int := (on.tmod n + n).tmod n
theorem at_nat (on : Int) (n : Nat) (hn : 1 ≤ n) : ∃ i : Nat, Hid (atI on n = (i : Int)) ∧ i < n := by
  have h1 : (on.tmod n).natAbs < n := by
    rw [Int.natAbs_tmod]
    exact Nat.mod_lt _ (by have : (n : Int).natAbs = n := Int.natAbs_natCast n; omega)
  have h2 : 0 ≤ on.tmod n + n := by omega
  refine ⟨(atI on n).toNat, ?_, ?_⟩
  · have : 0 ≤ atI on n := by unfold atI; rw [Int.tmod_eq_emod_of_nonneg h2]; exact Int.emod_nonneg _ (by omega)
    show _ = _; omega
  · have : atI on n < n := by unfold atI; rw [Int.tmod_eq_emod_of_nonneg h2]; exact Int.emod_lt_of_pos _ (by omega)
    omega

theorem at_ (bb n : Nat) (on : Int) (gp cp : Nat) (w : World) (hn1 : 1 ≤ n) (hn50 : n ≤ 50) (ho1 : -9223372036854775808 ≤ on) (ho2 : on ≤ 9223372036854775807) (c : w.cell? ⟨bb, 0, none⟩ = some (.slice (some ⟨gp, 0, none⟩) n cp)) :
    Calls Tryd.prog 12 #[.pointer (some ⟨bb, 0, none⟩), .int .i64 on] w fun e w' => e = .returned (.int .i64 (atI on n)) ∧ w' = w := by
  have h1 : (on.tmod n).natAbs < n := by
    rw [Int.natAbs_tmod]
    exact Nat.mod_lt _ (by have : (n : Int).natAbs = n := Int.natAbs_natCast n; omega)
  have hne : ((n : Int) == 0) = false := by rw [beq_eq_false_iff_ne]; omega
  have hne2 : ¬ (n : Int) = 0 := by omega
  have hne3 : ¬ n = 0 := by omega
  obtain ⟨r, hr⟩ : ∃ r, on.tmod n = r := ⟨_, rfl⟩
  rw [hr] at h1
  have w1 : IntKind.i64.wrap r = r := by rw [IntKind.wrap_i64]; omega
  have w2 : IntKind.i64.wrap (r + n) = r + n := by rw [IntKind.wrap_i64]; omega
  have h2 : 0 ≤ r + n := by omega
  have w3 : IntKind.i64.wrap ((r + n).tmod n) = (r + n).tmod n := by
    rw [Int.tmod_eq_emod_of_nonneg h2]
    have a1 := Int.emod_nonneg (r + n) (show (n : Int) ≠ 0 by omega)
    have a2 := Int.emod_lt_of_pos (r + n) (show (0 : Int) < n by omega)
    rw [IntKind.wrap_i64]; omega
  have HAT : Hid (atI on n = (r + n) % n) := by show _ = _; unfold atI; rw [hr, Int.tmod_eq_emod_of_nonneg h2]
  have r1 : -50 ≤ r := by omega
  have r2 : r ≤ 50 := by omega
  rw [HAT.out]
  clear h1 HAT
  go_enter Tryd.func12, Tryd.ntmps12
  go_wp2
  go_ret
  exact ⟨rfl, rfl⟩

set_option maxHeartbeats 1600000 in
theorem does_sum (w0 : World) (bb : Nat) (S : List Pr) (M : Nat) (pv rv : Value) (w : World) (kind on : Int) (text : ByteArray) (ho1 : -9223372036854775808 ≤ on) (ho2 : on ≤ 9223372036854775807) (hM : M + text.size ≤ 1048576) (BN : Hid (Bn w0 bb S M pv rv w)) (k1 : (kind == 1) = false) (k2 : (kind == 2) = true) :
    Calls Tryd.prog 5 #[.pointer (some ⟨bb, 0, none⟩), .agg #[.int .i64 kind, .int .i64 on, .string text]] w fun e w' => e = .returned (.bool true) ∧ ∃ S' pv' rv', Bn w0 bb S' (M + text.size) pv' rv' w' := by
  obtain ⟨gp, cp, gr, cr, rfl, rfl, hrow⟩ := BN.out.rows
  obtain ⟨n, HNn⟩ : ∃ n, Hid (n = S.length) := ⟨_, rfl⟩
  have hn1 : 1 ≤ n := by have := HNn.out; have := BN.out.n1; omega
  have hn50 : n ≤ 50 := by have := HNn.out; have := BN.out.n50; omega
  rw [← HNn.out] at BN
  obtain ⟨i, HIi, hin⟩ : ∃ i : Nat, Hid (atI on n = (i : Int)) ∧ i < n := at_nat on n hn1
  obtain ⟨x, HX⟩ : ∃ x, Hid (S[i]? = some x) := ⟨S[i]'(by have := HNn.out; omega), List.getElem?_eq_getElem _⟩
  have B1 : Hid (Bn w0 bb S M (.slice (some ⟨gp, 0, none⟩) n cp) (.slice (some ⟨gr, 0, none⟩) n cr) (w.alloc (.cells #[.int .i64 kind, .int .i64 on, .string text] 28))) := BN.out.same ((Below.refl _ _).alloc (Nat.le_refl _) _)
  have o0 : (w.alloc (.cells #[.int .i64 kind, .int .i64 on, .string text] 28)).cell? ⟨w.heap.size, 0, none⟩ = some (.int .i64 kind) := (World.cell?_alloc_at _ _ _ _ rfl).trans rfl
  have o1 : (w.alloc (.cells #[.int .i64 kind, .int .i64 on, .string text] 28)).cell? ⟨w.heap.size, 1, none⟩ = some (.int .i64 on) := (World.cell?_alloc_at _ _ _ _ rfl).trans rfl
  have o2 : (w.alloc (.cells #[.int .i64 kind, .int .i64 on, .string text] 28)).cell? ⟨w.heap.size, 2, none⟩ = some (.string text) := (World.cell?_alloc_at _ _ _ _ rfl).trans rfl
  have OB : Hid ((w.alloc (.cells #[.int .i64 kind, .int .i64 on, .string text] 28)).heap[w.heap.size]? = some (.cells #[.int .i64 kind, .int .i64 on, .string text] 28 (0, 0))) := heap_alloc_new w _
  have hrow2 : ∀ j y, S[j]? = some y → (w.alloc (.cells #[.int .i64 kind, .int .i64 on, .string text] 28)).cell? ⟨gp, j, none⟩ = some (P1 y) ∧ (w.alloc (.cells #[.int .i64 kind, .int .i64 on, .string text] 28)).cell? ⟨gr, j, none⟩ = some (P2 y) := fun j y hy => by
    have h1 := hrow j y hy
    exact ⟨(World.cell?_alloc_lt _ _ _ (World.block_lt_of_cell? w _ h1.1)).trans h1.1, (World.cell?_alloc_lt _ _ _ (World.block_lt_of_cell? w _ h1.2)).trans h1.2⟩
  have hsw : w.heap.size < (w.alloc (.cells #[.int .i64 kind, .int .i64 on, .string text] 28)).heap.size := by simp
  clear hrow
  generalize hww : w.alloc (.cells #[.int .i64 kind, .int .i64 on, .string text] 28) = w1 at *
  have cp1 : w1.cell? ⟨gp, i, none⟩ = some (.pointer (some ⟨x.p, 0, none⟩)) := (hrow2 i x HX.out).1
  have cr1 : w1.cell? ⟨gr, i, none⟩ = some (.pointer (some ⟨x.r, 0, none⟩)) := (hrow2 i x HX.out).2
  have cb0 : w1.cell? ⟨bb, 0, none⟩ = some (.slice (some ⟨gp, 0, none⟩) n cp) := (cell_of_row _ _ _ _ _ _ B1.out.hb).trans rfl
  have cb1 : w1.cell? ⟨bb, 1, none⟩ = some (.slice (some ⟨gr, 0, none⟩) n cr) := (cell_of_row _ _ _ _ _ _ B1.out.hb).trans rfl
  have HAx : Hid (HA w1 x.p x.t) := (B1.out.ha i x HX.out).1
  have RAx : Hid (RA w1 x.r x.t) := (B1.out.ra i x HX.out).1
  have zx : x.t.size ≤ M := B1.out.sz i x HX.out
  have T4 : Hid (Tab4 w1) := B1.out.t4
  have hi0 : (0 : Int) ≤ (i : Int) := by omega
  have hin' : (i : Int) < (n : Int) := by omega
  clear hrow2
  have HWW : Hid _ := hww
  clear hww
  have CA : Hid (∀ W, W.cell? ⟨bb, 0, none⟩ = some (.slice (some ⟨gp, 0, none⟩) n cp) → Calls Tryd.prog 12 #[.pointer (some ⟨bb, 0, none⟩), .int .i64 on] W fun e w' => e = .returned (.int .i64 i) ∧ w' = W) := fun W hc => by
    have := at_ bb n on gp cp W hn1 hn50 ho1 ho2 hc
    rw [HIi.out] at this
    exact this
  go_enter Tryd.func5, Tryd.ntmps5
  go_wp2_with fail
  rw [HWW.out]
  refine (CA.out _ cb0).mono ?_
  rintro e wq ⟨rfl, hq⟩
  rw [hq]
  clear hq
  go_wp2_with fail
  refine (HSum x.p x.t _ (by omega) HAx.out T4.out.t).mono ?_
  rintro e w2 ⟨rfl, hb⟩
  have B2 : Hid (Bn w0 bb S M (.slice (some ⟨gp, 0, none⟩) n cp) (.slice (some ⟨gr, 0, none⟩) n cr) w2) := B1.out.same hb
  have RA2 : Hid (RA w2 x.r x.t) := (B2.out.ra i x HX.out).1
  clear hb cp1 cr1 cb0 cb1 o0 o1 o2
  go_wp2_with fail
  refine (rHSum x.r x.t _ (by omega) RA2 B2.out.t4).mono ?_
  rintro e w3 ⟨rfl, hb⟩
  have B3 : Hid (Bn w0 bb S M (.slice (some ⟨gp, 0, none⟩) n cp) (.slice (some ⟨gr, 0, none⟩) n cr) w3) := B2.out.same hb
  clear hb
  go_wp2
  go_ret
  exact ⟨rfl, S, _, _, B3.out.mono (by omega)⟩

set_option maxHeartbeats 1600000 in
theorem does_len (w0 : World) (bb : Nat) (S : List Pr) (M : Nat) (pv rv : Value) (w : World) (kind on : Int) (text : ByteArray) (ho1 : -9223372036854775808 ≤ on) (ho2 : on ≤ 9223372036854775807) (hM : M + text.size ≤ 1048576) (BN : Hid (Bn w0 bb S M pv rv w)) (k1 : (kind == 1) = false) (k2 : (kind == 2) = false) (k3 : (kind == 3) = true) :
    Calls Tryd.prog 5 #[.pointer (some ⟨bb, 0, none⟩), .agg #[.int .i64 kind, .int .i64 on, .string text]] w fun e w' => e = .returned (.bool true) ∧ ∃ S' pv' rv', Bn w0 bb S' (M + text.size) pv' rv' w' := by
  obtain ⟨gp, cp, gr, cr, rfl, rfl, hrow⟩ := BN.out.rows
  obtain ⟨n, HNn⟩ : ∃ n, Hid (n = S.length) := ⟨_, rfl⟩
  have hn1 : 1 ≤ n := by have := HNn.out; have := BN.out.n1; omega
  have hn50 : n ≤ 50 := by have := HNn.out; have := BN.out.n50; omega
  rw [← HNn.out] at BN
  obtain ⟨i, HIi, hin⟩ : ∃ i : Nat, Hid (atI on n = (i : Int)) ∧ i < n := at_nat on n hn1
  obtain ⟨x, HX⟩ : ∃ x, Hid (S[i]? = some x) := ⟨S[i]'(by have := HNn.out; omega), List.getElem?_eq_getElem _⟩
  have B1 : Hid (Bn w0 bb S M (.slice (some ⟨gp, 0, none⟩) n cp) (.slice (some ⟨gr, 0, none⟩) n cr) (w.alloc (.cells #[.int .i64 kind, .int .i64 on, .string text] 28))) := BN.out.same ((Below.refl _ _).alloc (Nat.le_refl _) _)
  have o0 : (w.alloc (.cells #[.int .i64 kind, .int .i64 on, .string text] 28)).cell? ⟨w.heap.size, 0, none⟩ = some (.int .i64 kind) := (World.cell?_alloc_at _ _ _ _ rfl).trans rfl
  have o1 : (w.alloc (.cells #[.int .i64 kind, .int .i64 on, .string text] 28)).cell? ⟨w.heap.size, 1, none⟩ = some (.int .i64 on) := (World.cell?_alloc_at _ _ _ _ rfl).trans rfl
  have o2 : (w.alloc (.cells #[.int .i64 kind, .int .i64 on, .string text] 28)).cell? ⟨w.heap.size, 2, none⟩ = some (.string text) := (World.cell?_alloc_at _ _ _ _ rfl).trans rfl
  have OB : Hid ((w.alloc (.cells #[.int .i64 kind, .int .i64 on, .string text] 28)).heap[w.heap.size]? = some (.cells #[.int .i64 kind, .int .i64 on, .string text] 28 (0, 0))) := heap_alloc_new w _
  have hrow2 : ∀ j y, S[j]? = some y → (w.alloc (.cells #[.int .i64 kind, .int .i64 on, .string text] 28)).cell? ⟨gp, j, none⟩ = some (P1 y) ∧ (w.alloc (.cells #[.int .i64 kind, .int .i64 on, .string text] 28)).cell? ⟨gr, j, none⟩ = some (P2 y) := fun j y hy => by
    have h1 := hrow j y hy
    exact ⟨(World.cell?_alloc_lt _ _ _ (World.block_lt_of_cell? w _ h1.1)).trans h1.1, (World.cell?_alloc_lt _ _ _ (World.block_lt_of_cell? w _ h1.2)).trans h1.2⟩
  have hsw : w.heap.size < (w.alloc (.cells #[.int .i64 kind, .int .i64 on, .string text] 28)).heap.size := by simp
  clear hrow
  generalize hww : w.alloc (.cells #[.int .i64 kind, .int .i64 on, .string text] 28) = w1 at *
  have cp1 : w1.cell? ⟨gp, i, none⟩ = some (.pointer (some ⟨x.p, 0, none⟩)) := (hrow2 i x HX.out).1
  have cr1 : w1.cell? ⟨gr, i, none⟩ = some (.pointer (some ⟨x.r, 0, none⟩)) := (hrow2 i x HX.out).2
  have cb0 : w1.cell? ⟨bb, 0, none⟩ = some (.slice (some ⟨gp, 0, none⟩) n cp) := (cell_of_row _ _ _ _ _ _ B1.out.hb).trans rfl
  have cb1 : w1.cell? ⟨bb, 1, none⟩ = some (.slice (some ⟨gr, 0, none⟩) n cr) := (cell_of_row _ _ _ _ _ _ B1.out.hb).trans rfl
  have HAx : Hid (HA w1 x.p x.t) := (B1.out.ha i x HX.out).1
  have RAx : Hid (RA w1 x.r x.t) := (B1.out.ra i x HX.out).1
  have zx : x.t.size ≤ M := B1.out.sz i x HX.out
  have T4 : Hid (Tab4 w1) := B1.out.t4
  have hi0 : (0 : Int) ≤ (i : Int) := by omega
  have hin' : (i : Int) < (n : Int) := by omega
  clear hrow2
  have HWW : Hid _ := hww
  clear hww
  have CA : Hid (∀ W, W.cell? ⟨bb, 0, none⟩ = some (.slice (some ⟨gp, 0, none⟩) n cp) → Calls Tryd.prog 12 #[.pointer (some ⟨bb, 0, none⟩), .int .i64 on] W fun e w' => e = .returned (.int .i64 i) ∧ w' = W) := fun W hc => by
    have := at_ bb n on gp cp W hn1 hn50 ho1 ho2 hc
    rw [HIi.out] at this
    exact this
  go_enter Tryd.func5, Tryd.ntmps5
  go_wp2_with fail
  rw [HWW.out]
  refine (CA.out _ cb0).mono ?_
  rintro e wq ⟨rfl, hq⟩
  rw [hq]
  clear hq
  go_wp2_with fail
  refine (Len x.p x.t _ HAx.out).mono ?_
  rintro e w2 ⟨rfl, rfl⟩
  go_wp2_with fail
  refine (rLen x.r x.t _ (by omega) RAx).mono ?_
  rintro e w2 ⟨rfl, rfl⟩
  go_wp2
  go_ret
  exact ⟨rfl, S, _, _, B1.out.mono (by omega)⟩

set_option maxHeartbeats 1600000 in
theorem does_other (w0 : World) (bb : Nat) (S : List Pr) (M : Nat) (pv rv : Value) (w : World) (kind on : Int) (text : ByteArray) (ho1 : -9223372036854775808 ≤ on) (ho2 : on ≤ 9223372036854775807) (hM : M + text.size ≤ 1048576) (BN : Hid (Bn w0 bb S M pv rv w)) (k1 : (kind == 1) = false) (k2 : (kind == 2) = false) (k3 : (kind == 3) = false) (k4 : (kind == 4) = false) (k5 : (kind == 5) = false)  :
    Calls Tryd.prog 5 #[.pointer (some ⟨bb, 0, none⟩), .agg #[.int .i64 kind, .int .i64 on, .string text]] w fun e w' => e = .returned (.bool true) ∧ ∃ S' pv' rv', Bn w0 bb S' (M + text.size) pv' rv' w' := by
  obtain ⟨gp, cp, gr, cr, rfl, rfl, hrow⟩ := BN.out.rows
  obtain ⟨n, HNn⟩ : ∃ n, Hid (n = S.length) := ⟨_, rfl⟩
  have hn1 : 1 ≤ n := by have := HNn.out; have := BN.out.n1; omega
  have hn50 : n ≤ 50 := by have := HNn.out; have := BN.out.n50; omega
  rw [← HNn.out] at BN
  obtain ⟨i, HIi, hin⟩ : ∃ i : Nat, Hid (atI on n = (i : Int)) ∧ i < n := at_nat on n hn1
  obtain ⟨x, HX⟩ : ∃ x, Hid (S[i]? = some x) := ⟨S[i]'(by have := HNn.out; omega), List.getElem?_eq_getElem _⟩
  have B1 : Hid (Bn w0 bb S M (.slice (some ⟨gp, 0, none⟩) n cp) (.slice (some ⟨gr, 0, none⟩) n cr) (w.alloc (.cells #[.int .i64 kind, .int .i64 on, .string text] 28))) := BN.out.same ((Below.refl _ _).alloc (Nat.le_refl _) _)
  have o0 : (w.alloc (.cells #[.int .i64 kind, .int .i64 on, .string text] 28)).cell? ⟨w.heap.size, 0, none⟩ = some (.int .i64 kind) := (World.cell?_alloc_at _ _ _ _ rfl).trans rfl
  have o1 : (w.alloc (.cells #[.int .i64 kind, .int .i64 on, .string text] 28)).cell? ⟨w.heap.size, 1, none⟩ = some (.int .i64 on) := (World.cell?_alloc_at _ _ _ _ rfl).trans rfl
  have o2 : (w.alloc (.cells #[.int .i64 kind, .int .i64 on, .string text] 28)).cell? ⟨w.heap.size, 2, none⟩ = some (.string text) := (World.cell?_alloc_at _ _ _ _ rfl).trans rfl
  have OB : Hid ((w.alloc (.cells #[.int .i64 kind, .int .i64 on, .string text] 28)).heap[w.heap.size]? = some (.cells #[.int .i64 kind, .int .i64 on, .string text] 28 (0, 0))) := heap_alloc_new w _
  have hrow2 : ∀ j y, S[j]? = some y → (w.alloc (.cells #[.int .i64 kind, .int .i64 on, .string text] 28)).cell? ⟨gp, j, none⟩ = some (P1 y) ∧ (w.alloc (.cells #[.int .i64 kind, .int .i64 on, .string text] 28)).cell? ⟨gr, j, none⟩ = some (P2 y) := fun j y hy => by
    have h1 := hrow j y hy
    exact ⟨(World.cell?_alloc_lt _ _ _ (World.block_lt_of_cell? w _ h1.1)).trans h1.1, (World.cell?_alloc_lt _ _ _ (World.block_lt_of_cell? w _ h1.2)).trans h1.2⟩
  have hsw : w.heap.size < (w.alloc (.cells #[.int .i64 kind, .int .i64 on, .string text] 28)).heap.size := by simp
  clear hrow
  generalize hww : w.alloc (.cells #[.int .i64 kind, .int .i64 on, .string text] 28) = w1 at *
  have cp1 : w1.cell? ⟨gp, i, none⟩ = some (.pointer (some ⟨x.p, 0, none⟩)) := (hrow2 i x HX.out).1
  have cr1 : w1.cell? ⟨gr, i, none⟩ = some (.pointer (some ⟨x.r, 0, none⟩)) := (hrow2 i x HX.out).2
  have cb0 : w1.cell? ⟨bb, 0, none⟩ = some (.slice (some ⟨gp, 0, none⟩) n cp) := (cell_of_row _ _ _ _ _ _ B1.out.hb).trans rfl
  have cb1 : w1.cell? ⟨bb, 1, none⟩ = some (.slice (some ⟨gr, 0, none⟩) n cr) := (cell_of_row _ _ _ _ _ _ B1.out.hb).trans rfl
  have HAx : Hid (HA w1 x.p x.t) := (B1.out.ha i x HX.out).1
  have RAx : Hid (RA w1 x.r x.t) := (B1.out.ra i x HX.out).1
  have zx : x.t.size ≤ M := B1.out.sz i x HX.out
  have T4 : Hid (Tab4 w1) := B1.out.t4
  have hi0 : (0 : Int) ≤ (i : Int) := by omega
  have hin' : (i : Int) < (n : Int) := by omega
  clear hrow2
  have HWW : Hid _ := hww
  clear hww
  have CA : Hid (∀ W, W.cell? ⟨bb, 0, none⟩ = some (.slice (some ⟨gp, 0, none⟩) n cp) → Calls Tryd.prog 12 #[.pointer (some ⟨bb, 0, none⟩), .int .i64 on] W fun e w' => e = .returned (.int .i64 i) ∧ w' = W) := fun W hc => by
    have := at_ bb n on gp cp W hn1 hn50 ho1 ho2 hc
    rw [HIi.out] at this
    exact this
  go_enter Tryd.func5, Tryd.ntmps5
  go_wp2_with fail
  rw [HWW.out]
  refine (CA.out _ cb0).mono ?_
  rintro e wq ⟨rfl, hq⟩
  rw [hq]
  clear hq
  go_wp2
  go_ret
  exact ⟨rfl, S, _, _, B1.out.mono (by omega)⟩

set_option maxHeartbeats 1600000 in
theorem does_reset (w0 : World) (bb : Nat) (S : List Pr) (M : Nat) (pv rv : Value) (w : World) (kind on : Int) (text : ByteArray) (ho1 : -9223372036854775808 ≤ on) (ho2 : on ≤ 9223372036854775807) (hM : M + text.size ≤ 1048576) (BN : Hid (Bn w0 bb S M pv rv w)) (k1 : (kind == 1) = false) (k2 : (kind == 2) = false) (k3 : (kind == 3) = false) (k4 : (kind == 4) = false) (k5 : (kind == 5) = true) :
    Calls Tryd.prog 5 #[.pointer (some ⟨bb, 0, none⟩), .agg #[.int .i64 kind, .int .i64 on, .string text]] w fun e w' => e = .returned (.bool true) ∧ ∃ S' pv' rv', Bn w0 bb S' (M + text.size) pv' rv' w' := by
  obtain ⟨gp, cp, gr, cr, rfl, rfl, hrow⟩ := BN.out.rows
  obtain ⟨n, HNn⟩ : ∃ n, Hid (n = S.length) := ⟨_, rfl⟩
  have hn1 : 1 ≤ n := by have := HNn.out; have := BN.out.n1; omega
  have hn50 : n ≤ 50 := by have := HNn.out; have := BN.out.n50; omega
  rw [← HNn.out] at BN
  obtain ⟨i, HIi, hin⟩ : ∃ i : Nat, Hid (atI on n = (i : Int)) ∧ i < n := at_nat on n hn1
  obtain ⟨x, HX⟩ : ∃ x, Hid (S[i]? = some x) := ⟨S[i]'(by have := HNn.out; omega), List.getElem?_eq_getElem _⟩
  have B1 : Hid (Bn w0 bb S M (.slice (some ⟨gp, 0, none⟩) n cp) (.slice (some ⟨gr, 0, none⟩) n cr) (w.alloc (.cells #[.int .i64 kind, .int .i64 on, .string text] 28))) := BN.out.same ((Below.refl _ _).alloc (Nat.le_refl _) _)
  have o0 : (w.alloc (.cells #[.int .i64 kind, .int .i64 on, .string text] 28)).cell? ⟨w.heap.size, 0, none⟩ = some (.int .i64 kind) := (World.cell?_alloc_at _ _ _ _ rfl).trans rfl
  have o1 : (w.alloc (.cells #[.int .i64 kind, .int .i64 on, .string text] 28)).cell? ⟨w.heap.size, 1, none⟩ = some (.int .i64 on) := (World.cell?_alloc_at _ _ _ _ rfl).trans rfl
  have o2 : (w.alloc (.cells #[.int .i64 kind, .int .i64 on, .string text] 28)).cell? ⟨w.heap.size, 2, none⟩ = some (.string text) := (World.cell?_alloc_at _ _ _ _ rfl).trans rfl
  have OB : Hid ((w.alloc (.cells #[.int .i64 kind, .int .i64 on, .string text] 28)).heap[w.heap.size]? = some (.cells #[.int .i64 kind, .int .i64 on, .string text] 28 (0, 0))) := heap_alloc_new w _
  have hrow2 : ∀ j y, S[j]? = some y → (w.alloc (.cells #[.int .i64 kind, .int .i64 on, .string text] 28)).cell? ⟨gp, j, none⟩ = some (P1 y) ∧ (w.alloc (.cells #[.int .i64 kind, .int .i64 on, .string text] 28)).cell? ⟨gr, j, none⟩ = some (P2 y) := fun j y hy => by
    have h1 := hrow j y hy
    exact ⟨(World.cell?_alloc_lt _ _ _ (World.block_lt_of_cell? w _ h1.1)).trans h1.1, (World.cell?_alloc_lt _ _ _ (World.block_lt_of_cell? w _ h1.2)).trans h1.2⟩
  have hsw : w.heap.size < (w.alloc (.cells #[.int .i64 kind, .int .i64 on, .string text] 28)).heap.size := by simp
  clear hrow
  generalize hww : w.alloc (.cells #[.int .i64 kind, .int .i64 on, .string text] 28) = w1 at *
  have cp1 : w1.cell? ⟨gp, i, none⟩ = some (.pointer (some ⟨x.p, 0, none⟩)) := (hrow2 i x HX.out).1
  have cr1 : w1.cell? ⟨gr, i, none⟩ = some (.pointer (some ⟨x.r, 0, none⟩)) := (hrow2 i x HX.out).2
  have cb0 : w1.cell? ⟨bb, 0, none⟩ = some (.slice (some ⟨gp, 0, none⟩) n cp) := (cell_of_row _ _ _ _ _ _ B1.out.hb).trans rfl
  have cb1 : w1.cell? ⟨bb, 1, none⟩ = some (.slice (some ⟨gr, 0, none⟩) n cr) := (cell_of_row _ _ _ _ _ _ B1.out.hb).trans rfl
  have HAx : Hid (HA w1 x.p x.t) := (B1.out.ha i x HX.out).1
  have RAx : Hid (RA w1 x.r x.t) := (B1.out.ra i x HX.out).1
  have zx : x.t.size ≤ M := B1.out.sz i x HX.out
  have T4 : Hid (Tab4 w1) := B1.out.t4
  have hi0 : (0 : Int) ≤ (i : Int) := by omega
  have hin' : (i : Int) < (n : Int) := by omega
  clear hrow2
  have HWW : Hid _ := hww
  clear hww
  have CA : Hid (∀ W, W.cell? ⟨bb, 0, none⟩ = some (.slice (some ⟨gp, 0, none⟩) n cp) → Calls Tryd.prog 12 #[.pointer (some ⟨bb, 0, none⟩), .int .i64 on] W fun e w' => e = .returned (.int .i64 i) ∧ w' = W) := fun W hc => by
    have := at_ bb n on gp cp W hn1 hn50 ho1 ho2 hc
    rw [HIi.out] at this
    exact this
  go_enter Tryd.func5, Tryd.ntmps5
  go_wp2_with fail
  rw [HWW.out]
  refine (CA.out _ cb0).mono ?_
  rintro e wq ⟨rfl, hq⟩
  rw [hq]
  clear hq
  go_wp2_with fail
  refine (Reset x.p x.t _ HAx.out T4.out.t).mono ?_
  rintro e w2 ⟨rfl, hk, hh⟩
  have HA2 : Hid (HA w2 x.p ⟨#[]⟩) := hh
  have K2 : Hid (Keeps x.p w1 w2) := hk
  clear hk hh cp1 cr1 cb0 cb1 o0 o1 o2
  have hpr : x.r ≠ x.p := by obtain ⟨c, tg⟩ := ha_tag HAx.out; exact tag_ne RAx.out tg (by decide)
  have RA2 : Hid (RA w2 x.r x.t) := (K2.out.block x.r RAx.out.lt hpr).trans RAx.out
  go_wp2_with fail
  refine (rReset x.r x.t _ RA2).mono ?_
  rintro e w3 ⟨rfl, rfl⟩
  have B3 : Hid (Bn w0 bb (S.set i ⟨x.p, x.r, ⟨#[]⟩⟩) (M + text.size) (.slice (some ⟨gp, 0, none⟩) n cp) (.slice (some ⟨gr, 0, none⟩) n cr) (w2.setCell ⟨x.r, 0, none⟩ (.string ⟨#[]⟩))) :=
    B1.out.turn i x HX.out ⟨#[]⟩ (by omega) (Nat.zero_le _) ((Kp.of_keeps (A := fun b => b = x.p ∨ b = x.r) K2.out (Or.inl rfl)).trans (Kp.setCell (fun b => b = x.p ∨ b = x.r) _ _ _ _ (Or.inr rfl))) (HA2.out.keep (Below.heap_setCell _ _ _ _ (fun e => hpr e.symm))) (RA2.out.set _)
  generalize w2.setCell ⟨x.r, 0, none⟩ (.string ⟨#[]⟩) = w4 at *
  go_wp2
  go_ret
  exact ⟨rfl, _, _, _, B3.out⟩

end Go.Proofs.YtgbachojkbfeoabDoor.hc
