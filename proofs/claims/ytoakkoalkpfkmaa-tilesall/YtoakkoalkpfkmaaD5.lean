import Derived.Test.YtoakkoalkpfkmaaD4
import Derived.Test.YtoakkoalkpfkmaaG1
namespace Go.Proofs.Ytoakkoalkpfkmaa.d5
open Go.RowKit Go.PlainAid Go.Shelf
open Go.Proofs.Ytoakkoalkpfkmaa.g1 Go.Proofs.Ytoakkoalkpfkmaa.ca Go.Proofs.Ytoakkoalkpfkmaa.cp Go.Proofs.Ytoakkoalkpfkmaa.d1 Go.Proofs.Ytoakkoalkpfkmaa.d2 Go.Proofs.Ytoakkoalkpfkmaa.d3 Go.Proofs.Ytoakkoalkpfkmaa.d4
set_option linter.unusedVariables false
set_option linter.unusedSimpArgs false
attribute [local go_sem] Oper.semAt_some

-- a list of tiles in memory
def cl4 (t : Tl) : List Value := [.int .i64 t.1, .int .i64 t.2.1, .int .i64 t.2.2.1, .int .i64 t.2.2.2]
def cl4s (L : List Tl) : List Value := L.flatMap cl4
theorem cl4s_app (L M : List Tl) : cl4s (L ++ M) = cl4s L ++ cl4s M := by unfold cl4s; exact List.flatMap_append
theorem cl4s_len (L : List Tl) : (cl4s L).length = L.length * 4 := by
  induction L with
  | nil => rfl
  | cons a L ih =>
    show (cl4 a ++ cl4s L).length = _
    rw [List.length_append, ih, List.length_cons]
    show 4 + _ = _
    omega
theorem cl4s_get (L : List Tl) (i : Nat) (a : Tl) (h : L[i]? = some a) : (cl4s L)[i * 4]? = some (.int .i64 a.1) ∧ (cl4s L)[i * 4 + 1]? = some (.int .i64 a.2.1) ∧ (cl4s L)[i * 4 + 2]? = some (.int .i64 a.2.2.1) ∧ (cl4s L)[i * 4 + 3]? = some (.int .i64 a.2.2.2) := by
  induction L generalizing i with
  | nil => simp at h
  | cons b L ih =>
    cases i with
    | zero =>
      obtain rfl : b = a := by simpa using h
      exact ⟨rfl, rfl, rfl, rfl⟩
    | succ i =>
      have := ih i (by simpa using h)
      show (cl4 b ++ cl4s L)[(i + 1) * 4]? = _ ∧ (cl4 b ++ cl4s L)[(i + 1) * 4 + 1]? = _ ∧ (cl4 b ++ cl4s L)[(i + 1) * 4 + 2]? = _ ∧ (cl4 b ++ cl4s L)[(i + 1) * 4 + 3]? = _
      have hl : (cl4 b).length = 4 := rfl
      rw [List.getElem?_append_right (by omega), List.getElem?_append_right (by omega), List.getElem?_append_right (by omega), List.getElem?_append_right (by omega), hl, show (i + 1) * 4 - 4 = i * 4 by omega, show (i + 1) * 4 + 1 - 4 = i * 4 + 1 by omega, show (i + 1) * 4 + 2 - 4 = i * 4 + 2 by omega, show (i + 1) * 4 + 3 - 4 = i * 4 + 3 by omega]
      exact this
theorem hi4 : (Try.prog.info? 31).map (fun i => (i.zero, i.size, i.bytes)) = some (some (.agg #[.int .i64 0, .int .i64 0, .int .i64 0, .int .i64 0]), 4, 32) := by kernel_rfl
theorem parts4 {t : TypeId} {z : Value} {n b : Nat} (h : (Try.prog.info? t).map (fun i => (i.zero, i.size, i.bytes)) = some (some z, n, b)) : ∃ i, Try.prog.info? t = some i ∧ i.zero = some z ∧ i.size = n ∧ i.bytes = b := by
  obtain ⟨i, hi, he⟩ := Option.map_eq_some_iff.1 h
  injection he with e1 e2
  injection e2 with e2 e3
  exact ⟨i, hi, e1, e2, e3⟩
theorem four_cells (W : World) (x y z v : Value) (t : TypeId) : ∀ (j : Nat) (u : Value), [x, y, z, v][j]? = some u → (W.alloc (.cells #[x, y, z, v] t)).cell? (Addr.add ⟨W.heap.size, 0, none⟩ j) = some u := by
  intro j u hu
  rw [show (Addr.add ⟨W.heap.size, 0, none⟩ j) = ⟨W.heap.size, j, none⟩ by cases j <;> simp [Addr.add], World.cell?_alloc_at _ _ _ _ rfl]
  simpa using hu
-- a round of All: its boxes
structure Bl (w : World) (bL k B : Nat) (Wb : World) (L : List Tl) (X : World) : Prop where
  h : Boxed X w.heap.size 3 (.int .i64 (k : Int))
  l : ∃ v, Boxed X bL 22 v ∧ X.ownsRow w.heap.size 31 4 v L.length (cl4s L) ∧ True
  g : Boxed X (bL + 1) 3 (.int .i64 (k : Int))
  b : Below w.heap.size w X
  kf : KeepsFrom B Wb X
  kb : Below w.heap.size Wb X
theorem Bl.later {w : World} {bL k B : Nat} {Wb X Y : World} {L : List Tl} (h : Bl w bL k B Wb L X) (hb : Below X.heap.size X Y) : Bl w bL k B Wb L Y := by
  obtain ⟨v, h1, h2, _⟩ := h.l
  exact ⟨boxed_later h.h hb, ⟨v, boxed_later h1 hb, own_later h2 hb, trivial⟩, boxed_later h.g hb, h.b.trans (hb.mono h.b.size), h.kf.trans (kf_below hb), h.kb.trans (hb.mono h.b.size)⟩
theorem Bl.app {w : World} {bL k B : Nat} {Wb X w1 : World} {L : List Tl} {v v' : Value} {x : Tl} {tmp : Obj} (h : Bl w bL k B Wb L X) (hbL : w.heap.size < bL) (hv : Boxed X bL 22 v) (hrow : X.ownsRow w.heap.size 31 4 v L.length (cl4s L))
    (hown' : w1.ownsRow w.heap.size 31 4 v' (L.length + 1) (cl4s L ++ cl4 x)) (hgrow : (X.alloc tmp).grownBy w1 v.ownBlock) : Boxed w1 bL 22 v ∧ Bl w bL k B Wb (L ++ [x]) (w1.setCell ⟨bL, 0, none⟩ v') := by
  obtain ⟨a1, a2, a3, a4, a5⟩ := hv.appended (by decide) hrow h.b.size (Nat.le_of_lt hbL) hown' hgrow
  have g1 := ((h.h.alloc tmp).kept hgrow (h.h.not_row (by decide) hrow)).kept (grownBy_setCell' w1 bL v') (by simp; omega)
  have g2 := ((h.g.alloc tmp).kept hgrow (h.g.not_row (by decide) hrow)).kept (grownBy_setCell' w1 bL v') (by simp)
  exact ⟨a1, g1, ⟨v', a2, by rw [List.length_append, cl4s_app]; exact a3, trivial⟩, g2, h.b.trans a5, h.kf.trans (a4.from _), h.kb.trans a5⟩
theorem four_one (x : Tl) : ∀ u ∈ cl4 x, u.oneCell' = true := by
  intro u hu
  simp only [cl4, List.mem_cons, List.not_mem_nil, or_false] at hu
  rcases hu with rfl | rfl | rfl | rfl <;> rfl
set_option maxRecDepth 100000 in
set_option maxHeartbeats 4000000 in
theorem all_in (n : Nat) (hn : 3 ≤ n) (k N : Nat) (hk1 : 1 ≤ k) (hk : k ≤ 8) (hN : N ≤ 4611686018427387904) (hM : cntL (2 ^ k) (rowsL (2 ^ k) 0 N) ≤ 65536) (w : World) :
    CallsIn Fence.wide n Try.prog 4 #[.int .i64 (k : Int), .int .i64 (N : Int)] w fun e W' => (∃ v, e = .returned (.tuple #[v, .int .i64 0]) ∧ W'.ownsRow w.heap.size 31 4 v (cntL (2 ^ k) (rowsL (2 ^ k) 0 N)) (cl4s (tilesL k (2 ^ k) (rowsL (2 ^ k) 0 N)))) ∧ Below w.heap.size w W' := by
  have h1 : 1 ≤ n := by omega
  obtain ⟨iA, hi', hz0, hz1, hz2⟩ := parts4 hi4
  have hF : 2 ≤ 2 ^ k := by have := p2le hk1; omega
  have HMB : Hid (cntL (2 ^ k) (rowsL (2 ^ k) 0 N) ≤ 65536) := hM
  have HLB : Hid ((rowsL (2 ^ k) 0 N).length ≤ 63) := rowsL_len hF 63 0 N (by omega)
  have dm : decide ((65536 : Int) < (cntL (2 ^ k) (rowsL (2 ^ k) 0 N) : Nat)) = false := decide_eq_false (by omega)
  have dk1 : decide ((1 : Int) ≤ (k : Int)) = true := decide_eq_true (by omega)
  have dk8 : decide ((k : Int) ≤ 8) = true := decide_eq_true (by omega)
  have dn0 : decide ((0 : Int) ≤ (N : Int)) = true := decide_eq_true (by omega)
  have dn1 : decide ((N : Int) ≤ 4611686018427387904) = true := decide_eq_true (by omega)
  have PC : Hid (∀ h n w, Calls _ _ _ _ _) := fun h n w => rowsC h n w
  have FC : Hid (∀ w, Calls _ _ _ _ _) := fun w => full8 k (by omega) w
  have HC : Hid (∀ w, Calls _ _ _ _ _) := fun w => high8 (k : Int) w
  have SC : Hid (∀ w, Calls _ _ _ _ _) := fun w => size8 (N : Int) w
  rw [dk1, dk8] at HC
  rw [dn0, dn1] at SC
  have MC : Hid (∀ w, CallsIn _ _ _ _ _ _ _) := fun w => many_in 3 (by omega) k N hk1 hk hN w
  have RC : Hid (∀ l m w, l ≤ 62 → m ≤ 4611686018427387904 → Calls _ _ _ _ _) := fun l m w hl hm => partial8 k l m hk1 hk hl hm w
  generalize hcN : cntL (2 ^ k) (rowsL (2 ^ k) 0 N) = cN at dm MC ⊢
  have HCN : Hid (_ = cN) := hcN
  clear hcN
  clear hM dk1 dk8 dn0 dn1
  refine callsIn_of_wp_marks Try.func4 rfl trivial ?_ rfl
  simp only [Try.ntmps4, List.size_toArray, List.length_cons, List.length_nil, Nat.reduceAdd, Nat.reduceSub, Array.replicate_succ, Array.replicate_zero, List.push_toArray, List.append_toArray, List.nil_append, List.cons_append]
  gi_wp2_with ((try refine ⟨trivial, ?_⟩); first | (gi_at_call 8; refine (callsIn_wide.2 (HC.out _)).mono ?_; rintro e w' ⟨rfl, rfl⟩) | (gi_at_call 9; refine (callsIn_wide.2 (SC.out _)).mono ?_; rintro e w' ⟨rfl, rfl⟩) | (gi_at_call 10; refine (callsIn_wide.2 (callsIn_wide.1 (MC.out _))).mono ?_; rintro e w2 ⟨rfl, hb2⟩; have B2 : Hid (Below _ _ _) := hb2; clear hb2; have BQ2 : Hid (Boxed w2 w.heap.size 3 (.int .i64 (k : Int))) := boxed_later (Boxed.new w 3 (.int .i64 (k : Int))) B2.out; have y2 := BQ2.out.cell; have ya : ∀ o, (w2.alloc o).cell? ⟨w.heap.size, 0, none⟩ = some (.int .i64 (k : Int)) := (fun o => (BQ2.out.alloc o).cell)) | (gi_at_call 11; refine (callsIn_wide.2 (PC.out _ _ _)).mono ?_; rintro e w' ⟨rfl, rfl⟩))
  have hq : w.heap.size < w2.heap.size := by have h9 := B2.out.size; rw [World.size_alloc] at h9; omega
  have b0 := ((BQ2.out.alloc (.cells #[.slice none 0 0] 22)).alloc (.cells #[.int .i64 (k : Int)] 3)).alloc (.cells #[.int .i64 (N : Int)] 3)
  have bL := ((Boxed.new w2 22 (.slice none 0 0)).alloc (.cells #[.int .i64 (k : Int)] 3)).alloc (.cells #[.int .i64 (N : Int)] 3)
  have bH := (Boxed.new (w2.alloc (.cells #[.slice none 0 0] 22)) 3 (.int .i64 (k : Int))).alloc (.cells #[.int .i64 (N : Int)] 3)
  have bN := Boxed.new ((w2.alloc (.cells #[.slice none 0 0] 22)).alloc (.cells #[.int .i64 (k : Int)] 3)) 3 (.int .i64 (N : Int))
  simp only [World.size_alloc] at bL bH bN
  have hB2 : Below w.heap.size w w2 := over ((Below.refl _ w).alloc (Nat.le_refl _) _) B2.out
  have hB0 : Below w.heap.size w (((w2.alloc (.cells #[.slice none 0 0] 22)).alloc (.cells #[.int .i64 (k : Int)] 3)).alloc (.cells #[.int .i64 (N : Int)] 3)) := ((hB2.alloc hB2.size _).alloc (by simp; have := hB2.size; omega) _).alloc (by simp; have := hB2.size; omega) _
  have hsz : (((w2.alloc (.cells #[.slice none 0 0] 22)).alloc (.cells #[.int .i64 (k : Int)] 3)).alloc (.cells #[.int .i64 (N : Int)] 3)).heap.size = w2.heap.size + 3 := by simp
  obtain ⟨W0, hW0⟩ : ∃ W0, ((w2.alloc (.cells #[.slice none 0 0] 22)).alloc (.cells #[.int .i64 (k : Int)] 3)).alloc (.cells #[.int .i64 (N : Int)] 3) = W0 := ⟨_, rfl⟩
  rw [hW0] at b0 bL bH bN hB0 hsz ⊢
  clear hW0 ya y2
  refine wpIn_rangeFunc_ownH rfl h1 (gf := 15) (lb := #[.pointer (some ⟨w2.heap.size + 1 + 1, 0, none⟩), .pointer (some ⟨w2.heap.size + 1, 0, none⟩)]) rfl trivial (enters_of Try.func15 (by kernel_rfl) rfl)
    (seq_rows (n - 1) (by omega) (w2.heap.size + 1 + 1) (w2.heap.size + 1) w.heap.size k N 65536 hk1 hk hN HMB.out W0 bN.cell bH.cell) Kq.trans
    (fun W l o o' hl ho hc hw => ⟨belowK_b (w := W0) (by omega) W l o o' hl ho hc hw, World.cell?_of_block (World.putObj_heap_other (show w2.heap.size + 1 ≠ l by omega))⟩) (Below.refl _ _) (fun _ => rfl)
    (fun pre W => ((∃ v, Boxed W w2.heap.size 22 v ∧ W.ownsRow w.heap.size 31 4 v (tilesL k (2 ^ k) (vs pre)).length (cl4s (tilesL k (2 ^ k) (vs pre))) ∧ True) ∧ Boxed W w.heap.size 3 (.int .i64 (k : Int)) ∧ Boxed W (w2.heap.size + 1) 3 (.int .i64 (k : Int))) ∧ Below w.heap.size w W ∧ (tilesL k (2 ^ k) (vs pre)).length ≤ pre.length * 65536)
    (fun _ _ _ => False)
    (OwnFrom.and (OwnFrom.and (Own.from (holdsRow_own w.heap.size w2.heap.size 22 31 4 (fun pre : List (Em (2 ^ k) 65536) => (tilesL k (2 ^ k) (vs pre)).length) (fun pre => cl4s (tilesL k (2 ^ k) (vs pre))) (fun _ _ => True)) _) (OwnFrom.and (Own.from (boxed_own _ _ _) _) (Own.from (boxed_own _ _ _) _))) (OwnFrom.and (ownFrom_below (Nat.le_refl _) (by omega)) (ownFrom_pure _ _)))
    (fun _ _ _ _ _ hs _ _ => hs)
    ⟨⟨⟨_, bL, World.ownsRow_nil _ _ _ _, trivial⟩, b0, bH⟩, hB0, Nat.zero_le _⟩
    (fun x a' _ => a' = { tmps := #[.int .i64 (k : Int), .int .i64 (N : Int), .pointer (some ⟨w.heap.size, 0, none⟩), undef, .slice none 0 0, .int .i64 0, .pointer (some ⟨w2.heap.size, 0, none⟩), .int .i64 (x.1.1 : Nat), .int .i64 (x.1.2 : Nat), undef, undef, undef, .int .i64 (k : Int), .bool true, .bool false, .bool false, .int .i64 (N : Int), .bool true, .bool false, .bool false, .int .i64 (k : Int), .int .i64 (N : Int), .int .i64 (cN : Int), .bool false, .int .i64 (k : Int), .int .i64 (N : Int), .func (.func 15) #[] #[.pointer (some ⟨w2.heap.size + 1 + 1, 0, none⟩), .pointer (some ⟨w2.heap.size + 1, 0, none⟩)], .int .i64 (x.1.1 : Nat), .int .i64 (x.1.2 : Nat), undef, undef, undef, undef, undef, undef, undef, undef, undef, undef, undef, undef, undef, undef, undef, undef, undef, undef, undef, undef, undef, undef, undef, undef, undef, undef, undef, undef, undef, undef], defers := [] })
    (fun x a' _ X Y row hs hg hr => hs)
    ?assign ?body ?done ?stop
  case assign =>
    rintro l pre x W K hI hK
    have HK : Hid (∀ (a' : Act) (W' : World), _) := hK
    clear hK
    dsimp only [lm]
    gi_wp2
    exact HK.out _ _ ((KeepsOthers.refl _).from _) ⟨Below.refl _ _, rfl⟩ hI rfl
  case body =>
    rintro l pre ⟨⟨lv, m⟩, hx1, hx2, hx3⟩ a' W hl ⟨r, hr⟩ ⟨⟨⟨v, hv, hrow, _⟩, bK, bH1⟩, hB1, hlen⟩ rfl hlt
    dsimp only at hx1 hx2 hx3 ⊢
    have hpl : pre.length < 63 := Nat.lt_of_lt_of_le hlt HLB.out
    have hcq : m / 2 ^ k ≤ 65536 := by have := hx3; unfold cntR at this; dsimp only at this; omega
    have hL0 : (tilesL k (2 ^ k) (vs pre)).length ≤ 4128768 := by have := Nat.mul_le_mul_right 65536 (show pre.length ≤ 63 by omega); omega
    have hL1 : (tilesL k (2 ^ k) (vs (pre ++ [(⟨(lv, m), hx1, hx2, hx3⟩ : Em (2 ^ k) 65536)]))).length ≤ (pre ++ [(⟨(lv, m), hx1, hx2, hx3⟩ : Em (2 ^ k) 65536)]).length * 65536 := by
      rw [vs_snoc, tilesL_snoc, List.length_append, tilesR_len, List.length_append, List.length_singleton]
      have h9 : cntR (2 ^ k) (lv, m) ≤ 65536 := hx3
      show _ + cntR (2 ^ k) (lv, m) ≤ _
      omega
    have HL1 : Hid (_ ≤ _) := hL1
    have BQ : Hid (Bl w w2.heap.size k W0.heap.size W (tilesL k (2 ^ k) (vs pre)) W) := ⟨bK, ⟨v, hv, hrow, trivial⟩, bH1, hB1, KeepsFrom.refl _ _, Below.refl _ _⟩
    obtain ⟨L, HL⟩ : ∃ L, Hid (tilesL k (2 ^ k) (vs pre) = L) := ⟨_, rfl⟩
    rw [HL.out] at BQ hL0
    have P : Hid (∀ w, Calls _ _ _ _ _) := fun w => RC.out lv m w (by omega) hx2
    have e1 : (m : Int) / ((2 ^ k : Nat) : Int) = ((m / 2 ^ k : Nat) : Int) := (Int.natCast_ediv _ _).symm
    have FC2 : Hid (∀ w, Calls _ _ _ _ _) := FC.out
    obtain ⟨qq, HQQ⟩ : ∃ q, Hid (m / 2 ^ k = q) := ⟨_, rfl⟩
    obtain ⟨rr, HRR⟩ : ∃ q, Hid (m % 2 ^ k = q) := ⟨_, rfl⟩
    obtain ⟨F, HFF⟩ : ∃ F : Nat, Hid ((2 : Nat) ^ k = F) := ⟨_, rfl⟩
    have HS : Hid (tilesL k (2 ^ k) (vs (pre ++ [(⟨(lv, m), hx1, hx2, hx3⟩ : Em (2 ^ k) 65536)])) = L ++ fullL k F lv qq ++ (if rr = 0 then [] else [((k : Int), (lv : Int), (qq : Int), (rr : Int))])) := by
      show _ = _
      rw [vs_snoc, tilesL_snoc, HL.out, ← HFF.out, ← HQQ.out, ← HRR.out, List.append_assoc]
      rfl
    rw [HQQ.out, HRR.out] at P
    rw [HQQ.out] at e1 hcq
    rw [HFF.out] at FC2 e1
    have hF' : 2 ≤ F := by rw [← HFF.out]; exact hF
    clear hF hL1 hlen hv hrow bK bH1
    have hFi : (F : Int) ≠ 0 := by omega
    have ht : IntKind.i64.wrap (Int.tdiv (m : Int) (F : Int)) = (qq : Int) := by rw [Int.tdiv_eq_ediv_of_nonneg (by omega), e1, IntKind.wrap_i64]; omega
    have hb : ((F : Int) == 0) = false := beq_eq_false_iff_ne.2 hFi
    have hn : ((F : Int) != 0) = true := by rw [bne_iff_ne]; exact hFi
    have y0 := BQ.out.h.cell
    gi_wp2_with ((try refine ⟨trivial, (fun h => by cases h), ?_⟩); gi_at_call 12; refine (CallsIn.inRound l (callsIn_wide.2 (FC2.out _))).mono ?_; rintro _ w' ⟨rfl, hw⟩; replace hw := hw.symm; subst hw)
    gi_loopw [33] (fun p wr => ∃ (i : Nat), i ≤ qq ∧ p = .int .i64 i ∧ Hid (Bl w w2.heap.size k W0.heap.size W (L ++ fullL k F lv i) wr)) (fun p _ => (qq - intOf p).toNat)
    case atStart => exact ⟨0, Nat.zero_le _, rfl, by rw [fullL_zero, List.append_nil]; exact BQ.out⟩
    case round =>
      obtain ⟨i, hi, rfl, HW⟩ := hrel
      by_cases hlt2 : i < qq
      · have hlt3 : (i : Int) < (qq : Int) := by omega
        have hfs := fullL_succ k F lv i
        have HFS : Hid (_ = _) := hfs
        clear hfs
        obtain ⟨v, hv, hrow, _⟩ := HW.out.l
        have y0 := HW.out.h.cell
        have yL := hv.cell
        have yLf := hv.frozen
        have HRW : Hid (_ ∧ _) := ⟨hv, hrow⟩
        have hll : (L ++ fullL k F lv i).length ≤ 4200000 := by rw [List.length_append, fullL_len]; omega
        obtain ⟨L', HL'⟩ : ∃ L', Hid (L ++ fullL k F lv i = L') := ⟨_, rfl⟩
        rw [HL'.out] at HW HRW hll
        clear hv hrow
        obtain ⟨va, vc, rfl⟩ : ∃ va vc, v = .slice va L'.length vc := by
          rcases HRW.out.2.2 with ⟨rfl, h0⟩ | ⟨g, cap, cur, rfl, _⟩
          · exact ⟨_, _, by rw [h0]⟩
          · exact ⟨_, _, rfl⟩
        gi_wp2
        have hS0 : wr.drew.cell? ⟨w.heap.size, 0, none⟩ = some (.int .i64 (k : Int)) := y0
        refine wpIn_mono (Q := fun e a' W' => e = .normal ∧ (∃ z36 z42 z43 z44, a' = { tmps := #[.int .i64 (k : Int), .int .i64 (N : Int), .pointer (some ⟨w.heap.size, 0, none⟩), undef, .slice none 0 0, .int .i64 0, .pointer (some ⟨w2.heap.size, 0, none⟩), .int .i64 (lv : Nat), .int .i64 (m : Nat), .int .i64 (i : Nat), undef, undef, .int .i64 (k : Int), .bool true, .bool false, .bool false, .int .i64 (N : Int), .bool true, .bool false, .bool false, .int .i64 (k : Int), .int .i64 (N : Int), .int .i64 (cN : Int), .bool false, .int .i64 (k : Int), .int .i64 (N : Int), .func (.func 15) #[] #[.pointer (some ⟨w2.heap.size + 1 + 1, 0, none⟩), .pointer (some ⟨w2.heap.size + 1, 0, none⟩)], .int .i64 (lv : Nat), .int .i64 (m : Nat), .int .i64 (m : Nat), .int .i64 (k : Int), .int .i64 (F : Int), .int .i64 (qq : Nat), .int .i64 (i : Nat), .bool true, .int .i64 (i : Nat), z36, .int .i64 (k : Int), .int .i64 (lv : Nat), .int .i64 (i : Nat), .int .i64 (k : Int), .int .i64 (F : Int), z42, z43, z44, u45, undef, undef, undef, undef, undef, undef, undef, undef, undef, undef, undef, undef, undef], defers := [] }) ∧ Bl w w2.heap.size k W0.heap.size W (L' ++ [((k : Int), (lv : Int), (i : Int), (F : Int))]) W') ?_ ?_
        rotate_left
        · rintro e a' W' ⟨rfl, ⟨z36, z42, z43, z44, rfl⟩, hbl⟩
          have HB2 : Hid (Bl _ _ _ _ _ _ _) := hbl
          clear hbl hS0 yL yLf y0
          gi_wp2
          go_roundw
          case rel => exact ⟨i + 1, by omega, by go_num, by rw [HFS.out, ← List.append_assoc, HL'.out]; exact HB2.out⟩
          case measure => simp [intOf]; omega
        have YK : Hid (∀ o, (wr.drew.alloc o).cell? ⟨w.heap.size, 0, none⟩ = some (.int .i64 (k : Int))) := fun o => (HW.out.h.alloc o).cell
        have HDA : Hid (∀ o, (wr.alloc o).drew = wr.drew.alloc o) := fun _ => rfl
        have HWD : Hid (Bl w w2.heap.size k W0.heap.size W L' wr.drew) := HW.out.later (below_dN (Below.refl _ _) 1)
        have HRD : Hid (Boxed wr.drew w2.heap.size 22 (.slice va L'.length vc) ∧ wr.drew.ownsRow w.heap.size 31 4 (.slice va L'.length vc) L'.length (cl4s L')) := HRW.out
        have YL : Hid (∀ o, (wr.alloc o).drew.cell? ⟨w2.heap.size, 0, none⟩ = some (.slice va L'.length vc)) := fun o => (HRW.out.1.alloc o).cell
        refine region_round (S := fun w' => w'.cell? ⟨w.heap.size, 0, none⟩ = some (.int .i64 (k : Int))) (by kernel_rfl) (by rintro ⟨_, _, h, _⟩; cases h) (by kernel_rfl) ?hgo
        case hgo =>
        refine wpAnyH_take (i := 1) (oi := { dst := some 37, op := _, type := _, pos := _, after := _, guard := _ }) (v := ?v1) rfl (by kernel_rfl) (by kernel_rfl) (by kernel_rfl) (fun _ _ _ h => by cases h.1) (Or.inl ⟨by kernel_rfl, ?hy1⟩) (by assumption) ?rest1
        case hy1 => (intro w hSw; (try dsimp only at hSw); go_simp; all_goals (try with_reducible rfl))
        case rest1 =>
        (try simp only [Act.put, List.setIfInBounds_toArray, List.set_cons_zero, List.set_cons_succ])
        refine wpAnyH_take (i := 2) (oi := { dst := some 38, op := _, type := _, pos := _, after := _, guard := _ }) (v := ?v2) rfl (by kernel_rfl) (by kernel_rfl) (by kernel_rfl) (fun _ _ _ h => by cases h.1) (Or.inl ⟨by kernel_rfl, ?hy2⟩) (by assumption) ?rest2
        case hy2 => (intro w hSw; (try dsimp only at hSw); go_simp; all_goals (try with_reducible rfl))
        case rest2 =>
        (try simp only [Act.put, List.setIfInBounds_toArray, List.set_cons_zero, List.set_cons_succ])
        refine wpAnyH_take (i := 3) (oi := { dst := some 39, op := _, type := _, pos := _, after := _, guard := _ }) (v := ?v3) rfl (by kernel_rfl) (by kernel_rfl) (by kernel_rfl) (fun _ _ _ h => by cases h.1) (Or.inl ⟨by kernel_rfl, ?hy3⟩) (by assumption) ?rest3
        case hy3 => (intro w hSw; (try dsimp only at hSw); go_simp; all_goals (try with_reducible rfl))
        case rest3 =>
        (try simp only [Act.put, List.setIfInBounds_toArray, List.set_cons_zero, List.set_cons_succ])
        refine wpAnyH_take (i := 4) (oi := { dst := some 40, op := _, type := _, pos := _, after := _, guard := _ }) (v := ?v4) rfl (by kernel_rfl) (by kernel_rfl) (by kernel_rfl) (fun _ _ _ h => by cases h.1) (Or.inl ⟨by kernel_rfl, ?hy4⟩) (by assumption) ?rest4
        case hy4 => (intro w hSw; (try dsimp only at hSw); go_simp; all_goals (try with_reducible rfl))
        case rest4 =>
        (try simp only [Act.put, List.setIfInBounds_toArray, List.set_cons_zero, List.set_cons_succ])
        refine wpAnyH_ready (rs := [0, 5]) (by kernel_rfl) (by simp) ?_
        refine AllReadyH.cons rfl (fun K hK => ?_) (AllReadyH.cons rfl (fun K hK => ?_) AllReadyH.nil)
        · go_simp
          refine hK.out _ _ (by assumption) (fun hS1 => ?_)
          clear hK K
          (try simp only [Act.put, List.setIfInBounds_toArray, List.set_cons_zero, List.set_cons_succ])
          refine wpAnyH_ready (rs := [5]) (by kernel_rfl) (by simp) ?_
          refine AllReadyH.cons rfl (fun K hK => ?_) AllReadyH.nil
          go_simp
          go_at_call 12
          refine (FC2.out _).mono ?_
          rintro _ w' ⟨rfl, hw⟩
          replace hw := hw.symm
          subst hw
          refine hK.out _ _ (by assumption) (fun hS2 => ?_)
          clear hK K
          (try simp only [Act.put, List.setIfInBounds_toArray, List.set_cons_zero, List.set_cons_succ])
          refine wpAnyH_take (i := 6) (oi := { dst := some 42, op := _, type := _, pos := _, after := _, guard := _ }) (v := ?v6) rfl (by kernel_rfl) (by kernel_rfl) (by kernel_rfl) (fun _ _ _ h => by cases h.1) (Or.inl ⟨by kernel_rfl, ?hy6⟩) (by assumption) ?rest6
          case hy6 => (intro w hSw; (try dsimp only at hSw); go_simp; all_goals (try with_reducible rfl))
          case rest6 =>
          (try simp only [Act.put, List.setIfInBounds_toArray, List.set_cons_zero, List.set_cons_succ])
          refine wpAnyH_ready (rs := [7]) (by kernel_rfl) (by simp) ?_
          refine AllReadyH.cons rfl (fun K hK => ?_) AllReadyH.nil
          go_simp
          refine hK.out _ _ (YK.out _) (fun hS3 => ?_)
          clear hK K
          (try simp only [Act.put, List.setIfInBounds_toArray, List.set_cons_zero, List.set_cons_succ])
          refine wpAnyH_ready (rs := [8]) (by kernel_rfl) (by simp) ?_
          refine AllReadyH.cons rfl (fun K hK => ?_) AllReadyH.nil
          rw [HDA.out]
          refine op_if rfl (op_append_own _ _ _ 22 rfl w.heap.size 31 iA (.agg #[.int .i64 0, .int .i64 0, .int .i64 0, .int .i64 0]) 4 32 Try.underlying22 hi' hz0 hz1 hz2 rfl (by decide) _ _ _ rfl (HRD.out.2.alloc _) ⟨wr.drew.heap.size, 0, none⟩ 1 1 [.int .i64 (k : Int), .int .i64 (lv : Int), .int .i64 (i : Int), .int .i64 (F : Int)] rfl rfl (four_cells _ _ _ _ _ _) (four_one ((k : Int), (lv : Int), (i : Int), (F : Int))) (by unfold maxLen; omega) (by omega) (by have := HWD.out.b.size; rw [World.size_alloc]; omega) ?_)
          intro v' w1 hown' hgrow _
          obtain ⟨g', cap', rfl⟩ := ownsRow_succ hown'
          have hmo := HWD.out.app (x := ((k : Int), (lv : Int), (i : Int), (F : Int))) hq HRD.out.1 HRD.out.2 hown' hgrow
          have HMO : Hid (_ ∧ _) := hmo
          have hc7 := hmo.1.cell
          have hf7 := hmo.1.frozen
          have hk7 : w1.cell? ⟨w.heap.size, 0, none⟩ = some (.int .i64 (k : Int)) := ((HWD.out.h.alloc _).kept hgrow (HWD.out.h.not_row (by decide) HRD.out.2)).cell
          have hk8 := hmo.2.h.cell
          clear hown' hgrow hmo
          refine hK.out _ _ hk7 (fun hS4 => ?_)
          clear hK K
          (try simp only [Act.put, List.setIfInBounds_toArray, List.set_cons_zero, List.set_cons_succ])
          refine wpAnyH_ready (rs := [9]) (by kernel_rfl) (by simp) ?_
          refine AllReadyH.cons rfl (fun K hK => ?_) AllReadyH.nil
          go_simp
          refine hK.out _ _ hk8 (fun hS5 => ?_)
          clear hK K
          (try simp only [Act.put, List.setIfInBounds_toArray, List.set_cons_zero, List.set_cons_succ])
          refine wpAnyH_done (by kernel_rfl) ?_ _
          exact ⟨rfl, ⟨_, _, _, _, rfl⟩, HMO.out.2⟩
        · go_simp
          go_at_call 12
          refine (FC2.out _).mono ?_
          rintro _ w' ⟨rfl, hw⟩
          replace hw := hw.symm
          subst hw
          refine hK.out _ _ (by assumption) (fun hS2 => ?_)
          clear hK K
          (try simp only [Act.put, List.setIfInBounds_toArray, List.set_cons_zero, List.set_cons_succ])
          refine wpAnyH_take (i := 6) (oi := { dst := some 42, op := _, type := _, pos := _, after := _, guard := _ }) (v := ?v6) rfl (by kernel_rfl) (by kernel_rfl) (by kernel_rfl) (fun _ _ _ h => by cases h.1) (Or.inl ⟨by kernel_rfl, ?hy6⟩) (by assumption) ?rest6
          case hy6 => (intro w hSw; (try dsimp only at hSw); go_simp; all_goals (try with_reducible rfl))
          case rest6 =>
          (try simp only [Act.put, List.setIfInBounds_toArray, List.set_cons_zero, List.set_cons_succ])
          refine wpAnyH_ready (rs := [0, 7]) (by kernel_rfl) (by simp) ?_
          refine AllReadyH.cons rfl (fun K hK => ?_) (AllReadyH.cons rfl (fun K hK => ?_) AllReadyH.nil)
          · go_simp
            refine hK.out _ _ (by assumption) (fun hS1 => ?_)
            clear hK K
            (try simp only [Act.put, List.setIfInBounds_toArray, List.set_cons_zero, List.set_cons_succ])
            refine wpAnyH_ready (rs := [7]) (by kernel_rfl) (by simp) ?_
            refine AllReadyH.cons rfl (fun K hK => ?_) AllReadyH.nil
            go_simp
            refine hK.out _ _ (YK.out _) (fun hS3 => ?_)
            clear hK K
            (try simp only [Act.put, List.setIfInBounds_toArray, List.set_cons_zero, List.set_cons_succ])
            refine wpAnyH_ready (rs := [8]) (by kernel_rfl) (by simp) ?_
            refine AllReadyH.cons rfl (fun K hK => ?_) AllReadyH.nil
            rw [HDA.out]
            refine op_if rfl (op_append_own _ _ _ 22 rfl w.heap.size 31 iA (.agg #[.int .i64 0, .int .i64 0, .int .i64 0, .int .i64 0]) 4 32 Try.underlying22 hi' hz0 hz1 hz2 rfl (by decide) _ _ _ rfl (HRD.out.2.alloc _) ⟨wr.drew.heap.size, 0, none⟩ 1 1 [.int .i64 (k : Int), .int .i64 (lv : Int), .int .i64 (i : Int), .int .i64 (F : Int)] rfl rfl (four_cells _ _ _ _ _ _) (four_one ((k : Int), (lv : Int), (i : Int), (F : Int))) (by unfold maxLen; omega) (by omega) (by have := HWD.out.b.size; rw [World.size_alloc]; omega) ?_)
            intro v' w1 hown' hgrow _
            obtain ⟨g', cap', rfl⟩ := ownsRow_succ hown'
            have hmo := HWD.out.app (x := ((k : Int), (lv : Int), (i : Int), (F : Int))) hq HRD.out.1 HRD.out.2 hown' hgrow
            have HMO : Hid (_ ∧ _) := hmo
            have hc7 := hmo.1.cell
            have hf7 := hmo.1.frozen
            have hk7 : w1.cell? ⟨w.heap.size, 0, none⟩ = some (.int .i64 (k : Int)) := ((HWD.out.h.alloc _).kept hgrow (HWD.out.h.not_row (by decide) HRD.out.2)).cell
            have hk8 := hmo.2.h.cell
            clear hown' hgrow hmo
            refine hK.out _ _ hk7 (fun hS4 => ?_)
            clear hK K
            (try simp only [Act.put, List.setIfInBounds_toArray, List.set_cons_zero, List.set_cons_succ])
            refine wpAnyH_ready (rs := [9]) (by kernel_rfl) (by simp) ?_
            refine AllReadyH.cons rfl (fun K hK => ?_) AllReadyH.nil
            go_simp
            refine hK.out _ _ hk8 (fun hS5 => ?_)
            clear hK K
            (try simp only [Act.put, List.setIfInBounds_toArray, List.set_cons_zero, List.set_cons_succ])
            refine wpAnyH_done (by kernel_rfl) ?_ _
            exact ⟨rfl, ⟨_, _, _, _, rfl⟩, HMO.out.2⟩

          · go_simp
            refine hK.out _ _ (YK.out _) (fun hS3 => ?_)
            clear hK K
            (try simp only [Act.put, List.setIfInBounds_toArray, List.set_cons_zero, List.set_cons_succ])
            refine wpAnyH_ready (rs := [0]) (by kernel_rfl) (by simp) ?_
            refine AllReadyH.cons rfl (fun K hK => ?_) AllReadyH.nil
            have yq := YL.out
            go_simp
            refine hK.out _ _ (by assumption) (fun hS1 => ?_)
            clear hK K
            (try simp only [Act.put, List.setIfInBounds_toArray, List.set_cons_zero, List.set_cons_succ])
            refine wpAnyH_ready (rs := [8]) (by kernel_rfl) (by simp) ?_
            refine AllReadyH.cons rfl (fun K hK => ?_) AllReadyH.nil
            rw [HDA.out]
            refine op_if rfl (op_append_own _ _ _ 22 rfl w.heap.size 31 iA (.agg #[.int .i64 0, .int .i64 0, .int .i64 0, .int .i64 0]) 4 32 Try.underlying22 hi' hz0 hz1 hz2 rfl (by decide) _ _ _ rfl (HRD.out.2.alloc _) ⟨wr.drew.heap.size, 0, none⟩ 1 1 [.int .i64 (k : Int), .int .i64 (lv : Int), .int .i64 (i : Int), .int .i64 (F : Int)] rfl rfl (four_cells _ _ _ _ _ _) (four_one ((k : Int), (lv : Int), (i : Int), (F : Int))) (by unfold maxLen; omega) (by omega) (by have := HWD.out.b.size; rw [World.size_alloc]; omega) ?_)
            intro v' w1 hown' hgrow _
            obtain ⟨g', cap', rfl⟩ := ownsRow_succ hown'
            have hmo := HWD.out.app (x := ((k : Int), (lv : Int), (i : Int), (F : Int))) hq HRD.out.1 HRD.out.2 hown' hgrow
            have HMO : Hid (_ ∧ _) := hmo
            have hc7 := hmo.1.cell
            have hf7 := hmo.1.frozen
            have hk7 : w1.cell? ⟨w.heap.size, 0, none⟩ = some (.int .i64 (k : Int)) := ((HWD.out.h.alloc _).kept hgrow (HWD.out.h.not_row (by decide) HRD.out.2)).cell
            have hk8 := hmo.2.h.cell
            clear hown' hgrow hmo
            refine hK.out _ _ hk7 (fun hS4 => ?_)
            clear hK K
            (try simp only [Act.put, List.setIfInBounds_toArray, List.set_cons_zero, List.set_cons_succ])
            refine wpAnyH_ready (rs := [9]) (by kernel_rfl) (by simp) ?_
            refine AllReadyH.cons rfl (fun K hK => ?_) AllReadyH.nil
            go_simp
            refine hK.out _ _ hk8 (fun hS5 => ?_)
            clear hK K
            (try simp only [Act.put, List.setIfInBounds_toArray, List.set_cons_zero, List.set_cons_succ])
            refine wpAnyH_done (by kernel_rfl) ?_ _
            exact ⟨rfl, ⟨_, _, _, _, rfl⟩, HMO.out.2⟩

      · have hlt3 : ¬ (i : Int) < (qq : Int) := by omega
        obtain rfl : i = qq := by omega
        dsimp only [tl] at P
        have y0 := HW.out.h.cell
        by_cases g : rr = 0
        · have dg : decide (0 < rr) = false := decide_eq_false (by omega)
          rw [dg] at P
          rw [if_pos g, List.append_nil] at HS
          clear dg g
          gi_wp2_with ((try refine ⟨trivial, (fun h => by cases h), ?_⟩); gi_at_call 13; refine (CallsIn.inRound l (callsIn_wide.2 (P.out _))).mono ?_; rintro _ Y ⟨rfl, hy⟩; have BY : Hid (Bl _ _ _ _ _ _ _) := HW.out.later hy; clear hy)
          have BZ := BY.out.later ((Below.refl _ _).alloc (Nat.le_refl _) (.cells #[.int .i64 (k : Int), .int .i64 (lv : Nat), .int .i64 (i : Nat), .int .i64 (rr : Nat)] 31))
          refine ⟨BZ.kf, ⟨BZ.kb, BZ.g.cell.trans BQ.out.g.cell.symm⟩, ⟨?_, BZ.h, BZ.g⟩, BZ.b, HL1.out⟩
          rw [HS.out]
          exact BZ.l
        · have dg : decide (0 < rr) = true := decide_eq_true (by omega)
          rw [dg] at P
          rw [if_neg g] at HS
          clear dg g
          have hll : (L ++ fullL k F lv i).length ≤ 4200000 := by rw [List.length_append, fullL_len]; omega
          obtain ⟨L', HL'⟩ : ∃ L', Hid (L ++ fullL k F lv i = L') := ⟨_, rfl⟩
          rw [HL'.out] at HW HS hll
          gi_wp2_with (first | ((try refine ⟨trivial, (fun h => by cases h), ?_⟩); gi_at_call 13; refine (CallsIn.inRound l (callsIn_wide.2 (P.out _))).mono ?_; rintro _ Y ⟨rfl, hy⟩; have BY : Hid (Bl _ _ _ _ _ _ _) := (HW.out.later hy).later ((Below.refl _ _).alloc (Nat.le_refl _) (.cells #[.int .i64 (k : Int), .int .i64 (lv : Nat), .int .i64 (i : Nat), .int .i64 (rr : Nat)] 31)); clear hy; obtain ⟨v, hv, hrow, _⟩ := BY.out.l; have HRW : Hid (_ ∧ _) := ⟨hv, hrow⟩; have yL := hv.cell; obtain ⟨va, vc, rfl⟩ : ∃ va vc, v = .slice va L'.length vc := (by rcases hrow.2 with ⟨rfl, h0⟩ | ⟨g, cap, cur, rfl, _⟩; exact ⟨_, _, by rw [h0]⟩; exact ⟨_, _, rfl⟩); have FC4 : Hid (∀ (j : Nat) (u : Value), [Value.int .i64 (k : Int), .int .i64 (lv : Int), .int .i64 (i : Int), .int .i64 (rr : Int)][j]? = some u → ((Y.alloc (.cells #[.int .i64 (k : Int), .int .i64 (lv : Nat), .int .i64 (i : Nat), .int .i64 (rr : Nat)] 31)).alloc (.cells #[.int .i64 (k : Int), .int .i64 (lv : Nat), .int .i64 (i : Nat), .int .i64 (rr : Nat)] 31)).cell? (Addr.add ⟨Y.heap.size + 1, 0, none⟩ j) = some u) := (by have h9 := four_cells (Y.alloc (.cells #[.int .i64 (k : Int), .int .i64 (lv : Nat), .int .i64 (i : Nat), .int .i64 (rr : Nat)] 31)) (.int .i64 (k : Int)) (.int .i64 (lv : Int)) (.int .i64 (i : Int)) (.int .i64 (rr : Int)) 31; rw [World.size_alloc] at h9; exact h9); clear hv hrow) | (gi_at_builtin; refine wpListIn_append_own _ rfl _ _ 22 rfl w.heap.size 31 iA (.agg #[.int .i64 0, .int .i64 0, .int .i64 0, .int .i64 0]) 4 32 Try.underlying22 hi' hz0 hz1 hz2 rfl (by decide) _ _ _ rfl (HRW.out.2.alloc _) ⟨Y.heap.size + 1, 0, none⟩ 1 1 [.int .i64 (k : Int), .int .i64 (lv : Int), .int .i64 (i : Int), .int .i64 (rr : Int)] rfl rfl FC4.out (four_one ((k : Int), (lv : Int), (i : Int), (rr : Int))) (by unfold maxLen; omega) (by omega) (by have := BY.out.b.size; rw [World.size_alloc]; omega) ?_; intro v' w1 hown' hgrow _; obtain ⟨g', cap', rfl⟩ := ownsRow_succ hown'; have hmo := BY.out.app (x := ((k : Int), (lv : Int), (i : Int), (rr : Int))) hq HRW.out.1 HRW.out.2 hown' hgrow; have HMO : Hid (_ ∧ _) := hmo; have hc7 := hmo.1.cell; have hf7 := hmo.1.frozen; clear hown' hgrow hmo))
          have BZ := HMO.out.2
          refine ⟨BZ.kf, ⟨BZ.kb, BZ.g.cell.trans BQ.out.g.cell.symm⟩, ⟨?_, BZ.h, BZ.g⟩, BZ.b, HL1.out⟩
          rw [HS.out]
          exact BZ.l
  case done =>
    rintro D ys W hD hys ⟨⟨⟨v, hv, hrow, _⟩, b1, b2⟩, hB1, _⟩ hK
    rw [hys] at hrow
    rw [tilesL_len, HCN.out] at hrow
    have hc := hv.cell
    gi_wp2
    refine ⟨by simp, .inl ⟨_, _, rfl, run_takeDeferred hK, ?_⟩⟩
    exact ⟨_, results_tmp2 rfl _ _ _, ⟨v, rfl, ownsRow_putObj hrow _ hK rfl⟩, hB1.trans (belowK_b (w := w) (Nat.le_refl _) W D _ _ (by omega) hK rfl rfl)⟩
  case stop =>
    rintro D c pre W _ _ h _
    exact h.elim
end Go.Proofs.Ytoakkoalkpfkmaa.d5
