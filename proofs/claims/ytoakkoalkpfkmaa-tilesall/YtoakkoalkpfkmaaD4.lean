import Derived.Test.YtoakkoalkpfkmaaD3
namespace Go.Proofs.Ytoakkoalkpfkmaa.d4
open Go.RowKit Go.PlainAid Go.Shelf
open Go.Proofs.Ytoakkoalkpfkmaa.ca Go.Proofs.Ytoakkoalkpfkmaa.cp Go.Proofs.Ytoakkoalkpfkmaa.d1 Go.Proofs.Ytoakkoalkpfkmaa.d2 Go.Proofs.Ytoakkoalkpfkmaa.d3
set_option linter.unusedVariables false
attribute [local go_sem] Oper.semAt_some

abbrev Em (F M : Nat) := {x : Nat × Nat // x.1 < 63 ∧ x.2 ≤ 4611686018427387904 ∧ cntR F x ≤ M}
def vs {F M : Nat} (l : List (Em F M)) : List (Nat × Nat) := l.map (·.1)
theorem vs_snoc {F M : Nat} (l : List (Em F M)) (x : Em F M) : vs (l ++ [x]) = vs l ++ [x.1] := by simp [vs]
theorem cnt_mem {F : Nat} {L : List (Nat × Nat)} {x : Nat × Nat} (h : x ∈ L) : cntR F x ≤ cntL F L := by
  induction L with
  | nil => simp at h
  | cons y L ih =>
    rw [cntL_cons]
    rcases List.mem_cons.1 h with rfl | h
    · omega
    · have := ih h; omega
theorem seq_rows (n : Nat) (hn : 1 ≤ n) (bn bh n₀ k N M : Nat) (hk1 : 1 ≤ k) (hk : k ≤ 8) (hN : N ≤ 4611686018427387904) (hM : cntL (2 ^ k) (rowsL (2 ^ k) 0 N) ≤ M) (w : World) (hcn : w.cell? ⟨bn, 0, none⟩ = some (.int .i64 (N : Int))) (hch : w.cell? ⟨bh, 0, none⟩ = some (.int .i64 (k : Int))) :
    SeqStopsK Fence.wide n Try.prog 15 #[.pointer (some ⟨bn, 0, none⟩), .pointer (some ⟨bh, 0, none⟩)] (fun x : Em (2 ^ k) M => lm x.1) (Kq n₀ bh) (fun ys => vs ys = rowsL (2 ^ k) 0 N) (fun pre => vs pre <+: rowsL (2 ^ k) 0 N) (rowsL (2 ^ k) 0 N).length w := fun l J Jx W hW hJ _ hY h0 => by
  have hF : 2 ≤ 2 ^ k := by have := p2le hk1; omega
  refine (rows1 n hn l bn bh n₀ k N hk1 hk hN _ rfl (fun pre W => ∃ p : List (Em (2 ^ k) M), vs p = pre ∧ J p W) (fun pre W => ∃ p : List (Em (2 ^ k) M), vs p = pre ∧ Jx p W) ?_ (fun pre W j ⟨p, h1, h2⟩ => ⟨p, h1, hJ p W (W.drewN j) none h2 ⟨rfl, rfl, rfl, Nat.le_refl _, fun _ _ _ => rfl⟩ (fun _ e => by cases e)⟩) W ((hW.cell (p := ⟨bn, 0, none⟩) (World.block_lt_of_cell? _ _ hcn)).trans hcn) ((hW.cell (p := ⟨bh, 0, none⟩) (World.block_lt_of_cell? _ _ hch)).trans hch) ⟨[], rfl, h0⟩).mono ?_
  · rintro pre x W1 ⟨p, rfl, hJp⟩ hp
    have hmem : x ∈ rowsL (2 ^ k) 0 N := hp.subset (by simp)
    have hx : x.1 < 63 ∧ x.2 ≤ 4611686018427387904 ∧ cntR (2 ^ k) x ≤ M := by
      have h1 := rows_lev hF N 0 N (Nat.le_refl _) (by omega) x hmem
      have h2 := rowsL_le hF N 0 N (Nat.le_refl _) x hmem
      have h3 := cnt_mem (F := 2 ^ k) hmem
      omega
    have hlp : (vs p).length = p.length := by simp [vs]
    have hpl := hp.length_le
    rw [List.length_append, List.length_singleton] at hpl
    obtain ⟨fn, tmps, assign, body, hy, hR⟩ := hY p ⟨x, hx⟩ W1 hJp (by omega)
    refine ⟨fn, tmps, assign, body, hy, hR.mono ?_⟩
    rintro e W3 (⟨rfl, hJ3, hk3⟩ | ⟨rfl, hJx3⟩)
    · exact .inl ⟨rfl, ⟨_, vs_snoc p ⟨x, hx⟩, hJ3⟩, hk3⟩
    · exact .inr ⟨rfl, ⟨_, vs_snoc p ⟨x, hx⟩, hJx3⟩⟩
  · rintro e W3 ⟨hv, (⟨ys, rfl, p, hp, hJ3⟩ | ⟨pre, hpre, p, rfl, hJ3⟩)⟩
    · exact ⟨hv, .inl ⟨p, hp, hJ3⟩⟩
    · exact ⟨hv, .inr ⟨p, hpre, hJ3⟩⟩
-- how many, as it wraps
def cw (F : Nat) (L : List (Nat × Nat)) : Int := IntKind.i64.wrap (cntL F L : Int)
theorem cw_snoc (F : Nat) (L : List (Nat × Nat)) (x : Nat × Nat) : cw F (L ++ [x]) = IntKind.i64.wrap (cw F L + (cntR F x : Nat)) := by
  unfold cw
  rw [cntL_app, cntL_cons, cntL_nil]
  simp only [IntKind.wrap_i64]
  omega
theorem cw_i64 (F : Nat) (L : List (Nat × Nat)) : -9223372036854775808 ≤ cw F L ∧ cw F L ≤ 9223372036854775807 := by
  unfold cw
  simp only [IntKind.wrap_i64]
  omega
theorem boxed_later {X Y : World} {b : Nat} {t : TypeId} {v : Value} (h : Boxed X b t v) (hb : Below X.heap.size X Y) : Boxed Y b t v := (hb.block b h.lt).trans h
theorem kf_below {B : Nat} {W W' : World} (h : Below W.heap.size W W') : KeepsFrom B W W' := ⟨h.size, fun k o _ hk _ => (h.block k (Array.getElem?_eq_some_iff.1 hk).1).trans hk⟩
-- a round of howMany: its boxes
structure Bq (w : World) (k B : Nat) (Wb : World) (c : Int) (X : World) : Prop where
  h : Boxed X w.heap.size 3 (.int .i64 (k : Int))
  c : Boxed X (w.heap.size + 1) 3 (.int .i64 c)
  g : Boxed X (w.heap.size + 1 + 1) 3 (.int .i64 (k : Int))
  b : Below w.heap.size w X
  kf : KeepsFrom B Wb X
  kb : Below w.heap.size Wb X
theorem Bq.later {w : World} {k B : Nat} {Wb X Y : World} {c : Int} (h : Bq w k B Wb c X) (hb : Below X.heap.size X Y) : Bq w k B Wb c Y :=
  ⟨boxed_later h.h hb, boxed_later h.c hb, boxed_later h.g hb, h.b.trans (hb.mono h.b.size), h.kf.trans (kf_below hb), h.kb.trans (hb.mono h.b.size)⟩
theorem Bq.put {w : World} {k B : Nat} {Wb X : World} {c : Int} (h : Bq w k B Wb c X) (c' : Int) : Bq w k B Wb c' (X.setCell ⟨w.heap.size + 1, 0, none⟩ (.int .i64 c')) :=
  ⟨h.h.kept (grownBy_setCell' X (w.heap.size + 1) _) (by simp), h.c.set _, h.g.kept (grownBy_setCell' X (w.heap.size + 1) _) (by simp), h.b.setCell (p := ⟨w.heap.size + 1, 0, none⟩) (by show w.heap.size ≤ w.heap.size + 1; omega) _, h.kf.trans ((KeepsOthers.setCell _ _ _).from _), h.kb.setCell (p := ⟨w.heap.size + 1, 0, none⟩) (by show w.heap.size ≤ w.heap.size + 1; omega) _⟩
set_option maxRecDepth 100000 in
set_option maxHeartbeats 4000000 in
theorem many_in (n : Nat) (hn : 3 ≤ n) (k N : Nat) (hk1 : 1 ≤ k) (hk : k ≤ 8) (hN : N ≤ 4611686018427387904) (w : World) :
    CallsIn Fence.wide n Try.prog 10 #[.int .i64 (k : Int), .int .i64 (N : Int)] w fun e W' => e = .returned (.int .i64 (cntL (2 ^ k) (rowsL (2 ^ k) 0 N) : Nat)) ∧ Below w.heap.size w W' := by
  have h1 : 1 ≤ n := by omega
  have hF : 2 ≤ 2 ^ k := by have := p2le hk1; omega
  have HCB : Hid (cntL (2 ^ k) (rowsL (2 ^ k) 0 N) ≤ 9223372036854775807) := cnt_bound hF 0 N hN
  have PC : Hid (∀ h n w, Calls _ _ _ _ _) := fun h n w => rowsC h n w
  have FC : Hid (∀ w, Calls _ _ _ _ _) := fun w => full8 k (by omega) w
  have RC : Hid (∀ l m w, l ≤ 62 → m ≤ 4611686018427387904 → Calls _ _ _ _ _) := fun l m w hl hm => partial8 k l m hk1 hk hl hm w
  refine callsIn_of_wp_marks Try.func10 rfl trivial ?_ rfl
  simp only [Try.ntmps10, List.size_toArray, List.length_cons, List.length_nil, Nat.reduceAdd, Nat.reduceSub, Array.replicate_succ, Array.replicate_zero, List.push_toArray, List.append_toArray, List.nil_append, List.cons_append]
  gi_wp2_with ((try refine ⟨trivial, ?_⟩); gi_at_call 11; refine (callsIn_wide.2 (PC.out _ _ _)).mono ?_; rintro e w' ⟨rfl, rfl⟩)
  have b0 := (((Boxed.new w 3 (.int .i64 (k : Int))).alloc (.cells #[.int .i64 0] 3)).alloc (.cells #[.int .i64 (k : Int)] 3)).alloc (.cells #[.int .i64 (N : Int)] 3)
  have b1 := ((Boxed.new (w.alloc (.cells #[.int .i64 (k : Int)] 3)) 3 (.int .i64 0)).alloc (.cells #[.int .i64 (k : Int)] 3)).alloc (.cells #[.int .i64 (N : Int)] 3)
  have b2 := (Boxed.new ((w.alloc (.cells #[.int .i64 (k : Int)] 3)).alloc (.cells #[.int .i64 0] 3)) 3 (.int .i64 (k : Int))).alloc (.cells #[.int .i64 (N : Int)] 3)
  have b3 := Boxed.new (((w.alloc (.cells #[.int .i64 (k : Int)] 3)).alloc (.cells #[.int .i64 0] 3)).alloc (.cells #[.int .i64 (k : Int)] 3)) 3 (.int .i64 (N : Int))
  simp only [World.size_alloc] at b1 b2 b3
  have hB0 : Below w.heap.size w ((((w.alloc (.cells #[.int .i64 (k : Int)] 3)).alloc (.cells #[.int .i64 0] 3)).alloc (.cells #[.int .i64 (k : Int)] 3)).alloc (.cells #[.int .i64 (N : Int)] 3)) := ((((Below.refl _ w).alloc (Nat.le_refl _) _).alloc (by simp) _).alloc (by simp; omega) _).alloc (by simp; omega) _
  have hsz : ((((w.alloc (.cells #[.int .i64 (k : Int)] 3)).alloc (.cells #[.int .i64 0] 3)).alloc (.cells #[.int .i64 (k : Int)] 3)).alloc (.cells #[.int .i64 (N : Int)] 3)).heap.size = w.heap.size + 4 := by simp
  obtain ⟨W0, hW0⟩ : ∃ W0, (((w.alloc (.cells #[.int .i64 (k : Int)] 3)).alloc (.cells #[.int .i64 0] 3)).alloc (.cells #[.int .i64 (k : Int)] 3)).alloc (.cells #[.int .i64 (N : Int)] 3) = W0 := ⟨_, rfl⟩
  rw [hW0] at b0 b1 b2 b3 hB0 hsz ⊢
  clear hW0
  refine wpIn_rangeFunc_ownH rfl h1 (gf := 15) (lb := #[.pointer (some ⟨w.heap.size + 1 + 1 + 1, 0, none⟩), .pointer (some ⟨w.heap.size + 1 + 1, 0, none⟩)]) rfl trivial (enters_of Try.func15 (by kernel_rfl) rfl)
    (seq_rows (n - 1) (by omega) (w.heap.size + 1 + 1 + 1) (w.heap.size + 1 + 1) w.heap.size k N 9223372036854775807 hk1 hk hN HCB.out W0 b3.cell b2.cell) Kq.trans
    (fun W l o o' hl ho hc hw => ⟨belowK_b (w := W0) (by omega) W l o o' hl ho hc hw, World.cell?_of_block (World.putObj_heap_other (show w.heap.size + 1 + 1 ≠ l by omega))⟩) (Below.refl _ _) (fun _ => rfl)
    (fun pre W => (Boxed W w.heap.size 3 (.int .i64 (k : Int)) ∧ Boxed W (w.heap.size + 1) 3 (.int .i64 (cw (2 ^ k) (vs pre))) ∧ Boxed W (w.heap.size + 1 + 1) 3 (.int .i64 (k : Int))) ∧ Below w.heap.size w W)
    (fun _ _ _ => False)
    (OwnFrom.and (OwnFrom.and (Own.from (boxed_own _ _ _) _) (OwnFrom.and (Own.from (boxed_own (w.heap.size + 1) 3 (fun pre : List (Em (2 ^ k) 9223372036854775807) => .int .i64 (cw (2 ^ k) (vs pre)))) _) (Own.from (boxed_own _ _ _) _))) (ownFrom_below (Nat.le_refl _) (by omega)))
    (fun _ _ _ _ _ hs _ _ => hs)
    ⟨⟨b0, b1, b2⟩, hB0⟩
    (fun x a' _ => a' = { tmps := #[.int .i64 (k : Int), .int .i64 (N : Int), .pointer (some ⟨w.heap.size, 0, none⟩), undef, .int .i64 0, .pointer (some ⟨w.heap.size + 1, 0, none⟩), .int .i64 (x.1.1 : Nat), .int .i64 (x.1.2 : Nat), undef, undef, .int .i64 (k : Int), .int .i64 (N : Int), .func (.func 15) #[] #[.pointer (some ⟨w.heap.size + 1 + 1 + 1, 0, none⟩), .pointer (some ⟨w.heap.size + 1 + 1, 0, none⟩)], .int .i64 (x.1.1 : Nat), .int .i64 (x.1.2 : Nat), undef, undef, undef, undef, undef, undef, undef, undef, undef, undef, undef, undef, undef, undef, undef, undef, undef], defers := [] })
    (fun x a' _ X Y row hs hg hr => hs)
    ?assign ?body ?done ?stop
  case assign =>
    rintro l pre x W K hI hK
    have HK : Hid (∀ (a' : Act) (W' : World), _) := hK
    clear hK
    dsimp only [lm]
    gi_wp2
    exact HK.out _ _ ((KeepsOthers.refl _).from _) ⟨Below.refl _ _, rfl⟩ hI rfl
  case body =>
    rintro l pre ⟨⟨lv, m⟩, hx1, hx2, hx3⟩ a' W hl ⟨r, hr⟩ ⟨⟨v0, v1, v2⟩, hB1⟩ rfl hlt
    dsimp only at hx1 hx2 hx3 ⊢
    have BQ : Hid (Bq w k W0.heap.size W (cw (2 ^ k) (vs pre)) W) := ⟨v0, v1, v2, hB1, KeepsFrom.refl _ _, Below.refl _ _⟩
    obtain ⟨c1, c2⟩ := cw_i64 (2 ^ k) (vs pre)
    obtain ⟨c, HC⟩ : ∃ c, Hid (cw (2 ^ k) (vs pre) = c) := ⟨_, rfl⟩
    rw [HC.out] at BQ c1 c2
    have P : Hid (∀ w, Calls _ _ _ _ _) := fun w => RC.out lv m w (by omega) hx2
    have hq0 : m / 2 ^ k ≤ m := Nat.div_le_self _ _
    have e1 : (m : Int) / ((2 ^ k : Nat) : Int) = ((m / 2 ^ k : Nat) : Int) := (Int.natCast_ediv _ _).symm
    have FC2 : Hid (∀ w, Calls _ _ _ _ _) := FC.out
    obtain ⟨q, HQ⟩ : ∃ q, Hid (m / 2 ^ k = q) := ⟨_, rfl⟩
    obtain ⟨rr, HRR⟩ : ∃ q, Hid (m % 2 ^ k = q) := ⟨_, rfl⟩
    obtain ⟨F, HFF⟩ : ∃ F : Nat, Hid ((2 : Nat) ^ k = F) := ⟨_, rfl⟩
    rw [HQ.out, HRR.out] at P
    have HS : Hid (cw (2 ^ k) (vs (pre ++ [(⟨(lv, m), hx1, hx2, hx3⟩ : Em (2 ^ k) 9223372036854775807)])) = IntKind.i64.wrap (c + ((q + if rr = 0 then 0 else 1 : Nat) : Int))) := by
      show _ = _
      rw [vs_snoc, cw_snoc, HC.out, ← HQ.out, ← HRR.out]
      rfl
    rw [HQ.out] at e1 hq0
    rw [HFF.out] at FC2 e1 hF
    have hq9 : (q : Int) ≤ 4611686018427387904 := by omega
    have hFi : (F : Int) ≠ 0 := by omega
    have ht : IntKind.i64.wrap (Int.tdiv (m : Int) (F : Int)) = (q : Int) := by rw [Int.tdiv_eq_ediv_of_nonneg (by omega), e1, IntKind.wrap_i64]; omega
    have hb : ((F : Int) == 0) = false := beq_eq_false_iff_ne.2 hFi
    have hn : ((F : Int) != 0) = true := by rw [bne_iff_ne]; exact hFi
    obtain ⟨d, HD⟩ : ∃ d, Hid (IntKind.i64.wrap (c + (q : Int)) = d) := ⟨_, rfl⟩
    have hd := HD.out
    have d1 : -9223372036854775808 ≤ d ∧ d ≤ 9223372036854775807 := by rw [← HD.out, IntKind.wrap_i64]; omega
    have y0 := BQ.out.h.cell
    have y1 := BQ.out.c.cell
    have y1f := BQ.out.c.frozen
    clear hF
    gi_wp2
    refine wpIn_mono (Q := fun e a' W' => e = .normal ∧ a' = { tmps := #[.int .i64 (k : Int), .int .i64 (N : Int), .pointer (some ⟨w.heap.size, 0, none⟩), undef, .int .i64 0, .pointer (some ⟨w.heap.size + 1, 0, none⟩), .int .i64 (lv : Nat), .int .i64 (m : Nat), undef, undef, .int .i64 (k : Int), .int .i64 (N : Int), .func (.func 15) #[] #[.pointer (some ⟨w.heap.size + 1 + 1 + 1, 0, none⟩), .pointer (some ⟨w.heap.size + 1 + 1, 0, none⟩)], .int .i64 (lv : Nat), .int .i64 (m : Nat), .int .i64 c, .int .i64 (m : Nat), .int .i64 (k : Int), .int .i64 (F : Int), .int .i64 (q : Nat), .int .i64 d, undef, undef, undef, undef, undef, undef, undef, undef, undef, undef, undef], defers := [] } ∧ W' = (W.setCell ⟨w.heap.size + 1, 0, none⟩ (.int .i64 d)).drew) ?_ ?_
    rotate_left
    · rintro e a' X ⟨rfl, rfl, hX⟩
      have BX : Hid (Bq w k W0.heap.size W d X) := by rw [hX]; exact (BQ.out.put d).later (below_dN (Below.refl _ _) 1)
      clear hX y0 y1 y1f
      have y0 := BX.out.h.cell
      dsimp only [tl] at P
      have HE : Hid (IntKind.i64.wrap (c + ((q + if rr = 0 then 0 else 1 : Nat) : Int)) = if rr = 0 then d else IntKind.i64.wrap (d + 1)) := by
        show _ = _
        have := HD.out
        split
        · rw [← this]; rfl
        · rw [← this]; simp only [IntKind.wrap_i64]; omega
      obtain ⟨d', HD'⟩ : ∃ d', Hid (IntKind.i64.wrap (d + 1) = d') := ⟨_, rfl⟩
      have hd' := HD'.out
      rw [HD'.out] at HE
      clear hd
      by_cases g : rr = 0
      · have HZ : Hid (_ = d) := HE.out.trans (if_pos g)
        have dg : decide (0 < rr) = false := decide_eq_false (by omega)
        rw [dg] at P
        clear dg HE g
        gi_wp2_with ((try refine ⟨trivial, (fun h => by cases h), ?_⟩); gi_at_call 13; refine (CallsIn.inRound l (callsIn_wide.2 (P.out _))).mono ?_; rintro _ Y ⟨rfl, hy⟩; have BY : Hid (Bq _ _ _ _ _ _) := BX.out.later hy; clear hy)
        have BZ := BY.out.later ((Below.refl _ _).alloc (Nat.le_refl _) (.cells #[.int .i64 (k : Int), .int .i64 (lv : Nat), .int .i64 (q : Nat), .int .i64 (rr : Nat)] 31))
        exact ⟨BZ.kf, ⟨BZ.kb, BZ.g.cell.trans BQ.out.g.cell.symm⟩, ⟨BZ.h, by rw [HS.out, HZ.out]; exact BZ.c, BZ.g⟩, BZ.b⟩
      · have HZ : Hid (_ = d') := HE.out.trans (if_neg g)
        have dg : decide (0 < rr) = true := decide_eq_true (by omega)
        rw [dg] at P
        clear dg HE g
        gi_wp2_with ((try refine ⟨trivial, (fun h => by cases h), ?_⟩); gi_at_call 13; refine (CallsIn.inRound l (callsIn_wide.2 (P.out _))).mono ?_; rintro _ Y ⟨rfl, hy⟩; have BY : Hid (Bq _ _ _ _ _ _) := BX.out.later hy; clear hy; have ya : ∀ o, (Y.alloc o).cell? ⟨w.heap.size + 1, 0, none⟩ = some (.int .i64 d) := (fun o => (BY.out.c.alloc o).cell); have yf : ∀ o, (Y.alloc o).frozen? ⟨w.heap.size + 1, 0, none⟩ = false := (fun o => (BY.out.c.alloc o).frozen))
        have BZ := (BY.out.later ((Below.refl _ _).alloc (Nat.le_refl _) (.cells #[.int .i64 (k : Int), .int .i64 (lv : Nat), .int .i64 (q : Nat), .int .i64 (rr : Nat)] 31))).put d'
        exact ⟨BZ.kf, ⟨BZ.kb, BZ.g.cell.trans BQ.out.g.cell.symm⟩, ⟨BZ.h, by rw [HS.out, HZ.out]; exact BZ.c, BZ.g⟩, BZ.b⟩
    gi_region_with ((try refine ⟨trivial, (fun h => by cases h), ?_⟩); gi_at_call 12; refine (CallsIn.inRound l (callsIn_wide.2 (FC2.out _))).mono ?_; rintro _ w' ⟨rfl, hw⟩; subst hw)
    all_goals exact ⟨rfl, rfl, rfl⟩
  case done =>
    rintro D ys W hD hys ⟨⟨v0, v1, v2⟩, hB1⟩ hK
    have hc := v1.cell
    gi_wp2
    refine ⟨by simp, .inl ⟨_, _, rfl, run_takeDeferred hK, ?_⟩⟩
    refine ⟨_, results_tmp rfl _ _ _, ?_, hB1.trans (belowK_b (w := w) (Nat.le_refl _) W D _ _ (by omega) hK rfl rfl)⟩
    have : cw (2 ^ k) (rowsL (2 ^ k) 0 N) = (cntL (2 ^ k) (rowsL (2 ^ k) 0 N) : Nat) := by
      have := HCB.out
      unfold cw
      rw [IntKind.wrap_i64]; omega
    first | rw [hys, this]; rfl | simp [this]
  case stop =>
    rintro D c pre W _ _ h _
    exact h.elim
end Go.Proofs.Ytoakkoalkpfkmaa.d4
