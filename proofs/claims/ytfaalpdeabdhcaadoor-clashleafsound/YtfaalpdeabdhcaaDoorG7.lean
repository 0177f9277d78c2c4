import Derived.Test.YtfaalpdeabdhcaaDoorG6
import Derived.Test.YtfaalpdeabdhcaaDoorG4
import Derived.Test.YtfaalpdeabdhcaaDoorG2
import Derived.Test.YtfaalpdeabdhcaaDoorG1
namespace Go.Proofs.YtfaalpdeabdhcaaDoor.ur
open Go.RowKit Go.PlainAid
open Go.Proofs.YtfaalpdeabdhcaaDoor.pl Go.Proofs.YtfaalpdeabdhcaaDoor.pi Go.Proofs.YtfaalpdeabdhcaaDoor.pj Go.Proofs.YtfaalpdeabdhcaaDoor.ca Go.Proofs.YtfaalpdeabdhcaaDoor.cb Go.Proofs.YtfaalpdeabdhcaaDoor.cp Go.Proofs.YtfaalpdeabdhcaaDoor.ga Go.Proofs.YtfaalpdeabdhcaaDoor.gb Go.Proofs.YtfaalpdeabdhcaaDoor.aa Go.Proofs.YtfaalpdeabdhcaaDoor.ba Go.Proofs.YtfaalpdeabdhcaaDoor.bb Go.Proofs.YtfaalpdeabdhcaaDoor.ka Go.Proofs.YtfaalpdeabdhcaaDoor.kb Go.Proofs.YtfaalpdeabdhcaaDoor.kc Go.Proofs.YtfaalpdeabdhcaaDoor.kp Go.Proofs.YtfaalpdeabdhcaaDoor.lk Go.Proofs.YtfaalpdeabdhcaaDoor.dc Go.Proofs.YtfaalpdeabdhcaaDoor.qa Go.Proofs.YtfaalpdeabdhcaaDoor.qb Go.Proofs.YtfaalpdeabdhcaaDoor.qc Go.Proofs.YtfaalpdeabdhcaaDoor.qd Go.Proofs.YtfaalpdeabdhcaaDoor.ta Go.Proofs.YtfaalpdeabdhcaaDoor.tb Go.Proofs.YtfaalpdeabdhcaaDoor.td Go.Proofs.YtfaalpdeabdhcaaDoor.tc Go.Proofs.YtfaalpdeabdhcaaDoor.ua Go.Proofs.YtfaalpdeabdhcaaDoor.ub Go.Proofs.YtfaalpdeabdhcaaDoor.ma Go.Proofs.YtfaalpdeabdhcaaDoor.uh Go.Proofs.YtfaalpdeabdhcaaDoor.ui Go.Proofs.YtfaalpdeabdhcaaDoor.uj Go.Proofs.YtfaalpdeabdhcaaDoor.uk Go.Proofs.YtfaalpdeabdhcaaDoor.ul Go.Proofs.YtfaalpdeabdhcaaDoor.um Go.Proofs.YtfaalpdeabdhcaaDoor.un Go.Proofs.YtfaalpdeabdhcaaDoor.uo Go.Proofs.YtfaalpdeabdhcaaDoor.uq
set_option linter.unusedVariables false

theorem lkI_ne (i a b : Nat) : lkI i a b ≠ 1 ↔ a ≤ i ∧ i < b := by
  unfold lkI
  by_cases h : a ≤ i ∧ i < b
  · rw [if_pos h]
    refine ⟨fun _ => h, fun _ => ?_⟩
    split
    · omega
    · split <;> omega
  · rw [if_neg h]
    exact ⟨fun e => absurd rfl e, fun e => absurd e h⟩
theorem dirI (i : Nat) {a b : Nat} (h1 : lkI i a b ≠ 1) (h2 : 2 ≤ b - a) : lkI i a b = 2 ↔ ¬ (true = true ∧ lkI i (a + half (b - a)) b ≠ 1) := by
  have h := (lkI_ne i a b).1 h1
  have e : lkI i a b = if i < a + half (b - a) then 2 else 3 := by unfold lkI; rw [if_pos h, if_neg (by omega)]
  rw [e, lkI_ne]
  by_cases g : i < a + half (b - a)
  · rw [if_pos g]
    exact ⟨fun _ q => by omega, fun _ => rfl⟩
  · rw [if_neg g]
    exact ⟨fun q => by omega, fun q => absurd ⟨rfl, by omega, h.2⟩ q⟩
-- the state of a claim with one leaf
structure LS (base pb lb : Nat) (leaf : ByteArray) (x : List ByteArray) (w : World) : Prop where
  p : KPile base pb x w
  l : w.cell? ⟨lb, 0, none⟩ = some (.string leaf)
  t : Tab w
theorem leaf1 (lb : Nat) (i : Int) (leaf : ByteArray) (w : World) (h : w.cell? ⟨lb, 0, none⟩ = some (.string leaf)) : Calls Tryd.prog 23 #[.int .i64 i, .pointer (some ⟨lb, 0, none⟩)] w fun e w' => e = .returned (.string leaf) ∧ w' = w := by
  go_enter Tryd.func23, Tryd.ntmps23
  go_wp2
  go_ret
  exact ⟨rfl, rfl⟩
theorem meetsI (i a b : Nat) (w : World) : Calls Tryd.prog 22 #[.agg #[.int .i64 i, .int .i64 ((i : Int) + 1)], .agg #[.int .i64 a, .int .i64 b]] w fun e w' => e = .returned (.bool (decide (lkI i a b ≠ 1))) ∧ Below w.heap.size w w' := by
  have := meetsC i (i + 1) a b w
  rw [show decide (i < b ∧ a < i + 1) = decide (lkI i a b ≠ 1) from by
    by_cases h : lkI i a b ≠ 1
    · rw [decide_eq_true h, decide_eq_true]; have := (lkI_ne i a b).1 h; omega
    · rw [decide_eq_false h, decide_eq_false]; intro g; exact h ((lkI_ne i a b).2 (by omega))] at this
  exact this
theorem leafFl {base pb lb i N : Nat} {wd : Int} {leaf : ByteArray} (hN : N ≤ 4611686018427387904) (hB : 2 ≤ base) (hne : lb ≠ pb) (hz : leaf.size ≤ 140737488352000) :
    Fl (fun b => b = pb) (LS base pb lb leaf) wd (lkI i) true (fun _ => leaf) nx (PW wd (lkI i) N) 22 24 (.func (.func 23) #[] #[.pointer (some ⟨lb, 0, none⟩)]) #[.agg #[.int .i64 i, .int .i64 ((i : Int) + 1)]] #[] #[.pointer (some ⟨pb, 0, none⟩)] #[] where
  kent := fun args w => by simp [go_sem]
  hent := fun args w => by simp [go_sem]
  later := fun h hb => ⟨h.p.keep (Kp.of_below (A := no) hb) (fun _ e => e.elim) (fun e => e), (hb.cell (World.block_lt_of_cell? _ _ h.l)).trans h.l, h.t.down hb⟩
  fl := fun h b e => by subst e; exact h.p.lt
  tab := fun h => h.t
  bnd := fun h => Nat.le_trans h.2.2 hN
  knows := fun x a b a' b' w _ _ _ _ _ => meetsI i a b w
  leaf := fun x a b _ _ _ => ⟨_, _, _, rfl, fun args w => by simp [go_sem], fun w hS => (leaf1 lb a leaf w hS.l).mono fun e w' h => ⟨h.1, by rw [h.2]; exact Below.refl _ _⟩⟩
  lsz := fun _ _ _ => hz
  hash := fun x a b w hab hP h1 hS => by
    obtain ⟨p1, p2, p3⟩ := hP
    rw [WL_take h1] at p1
    cases x with
    | nil => simp at p1
    | cons y t => exact (knext base pb y t a b w hS.p).mono fun e w' h => ⟨h.1, ⟨h.2.1, h.2.2.cell hS.l hne, hS.t.below (h.2.2.below (fun k e => by subst e; exact hS.p.new) (Nat.le_trans hS.p.new (Nat.le_of_lt hS.p.lt))) hB⟩, h.2.2⟩
  hsz := fun {x a b} hP h1 => by
    obtain ⟨p1, p2, p3⟩ := hP
    rw [WL_take h1] at p1
    have : (x.headD ByteArray.empty).size = wid wd := p2.head p1
    show (x.headD ByteArray.empty).size ≤ 32
    rw [this]
    exact qb.wid_le wd
  dir := fun _ _ h1 h2 => dirI i h1 h2
  left := fun _ hP h3 h2 => hP.left (fun a b => lkI_zero i a b) h3 h2
  right := fun _ hP h1 h3 h2 => hP.right (fun a b => lkI_zero i a b) h1 h3 h2
-- what is answered
def leafX (wd i : Int) (xs : List ByteArray) (leaf : ByteArray) (path : List ByteArray) : Option (ByteArray × ByteArray) :=
  if incA wd i xs.length (LF wd leaf) path (RT wd xs) = 0 then (if xs.getD i.toNat ByteArray.empty = leaf then none else fst1 (gw (HH wd) (lkI i.toNat) (fun _ => leaf) nx path 0 xs.length).1 (ownT wd (lkI i.toNat) xs)) else none
theorem incA_ok {wd i n : Int} {hash root : ByteArray} {path : List ByteArray} (h : incA wd i n hash path root = 0) : ∃ I N : Nat, i = I ∧ n = N ∧ I < N ∧ N ≤ 4611686018427387904 ∧ path.length = cI I N ∧ Wide wd path ∧ ldP wd I N hash path = root := by
  unfold incA at h
  by_cases q : incR wd i n path [hash, root] = 0
  · rw [if_pos q] at h
    obtain ⟨I, N, rfl, rfl, h1, h2, h3, h4, h5⟩ := incR_ok q
    rw [Int.toNat_natCast, Int.toNat_natCast] at h
    by_cases g : ldP wd I N hash path = root
    · exact ⟨I, N, rfl, rfl, h1, h2, h3, h4, g⟩
    · rw [if_neg g] at h; omega
  · rw [if_neg q] at h; exact absurd h q
set_option maxRecDepth 100000 in
set_option maxHeartbeats 6400000 in
theorem kLeafC (wd i : Int) (hwd : i64 wd) (hi : i64 i) (vl : Value) (xs : List ByteArray) (leaf : ByteArray) (vp : Value) (path : List ByteArray) (w : World) (hl : ReadsT w vl xs) (hp : ReadsT w vp path) (hx : Fits xs) (hz : leaf.size ≤ 140737488352000) (zp : path.length ≤ 140737488355328) (hT : Tab w) :
    Calls Tryd.prog 10 #[.int .i64 wd, vl, .int .i64 i, .string leaf, vp] w fun e w' => e = .returned (clV (leafX wd i xs leaf path)) ∧ Below w.heap.size w w' := by
  have OL : Hid (Old w.heap.size w vl xs ∧ Old w.heap.size w vp path ∧ Tab w ∧ Fits xs) := ⟨Old.of hl, Old.of hp, hT, hx⟩
  have RD : Hid (ReadsT w vl xs ∧ ReadsT w vp path) := ⟨hl, hp⟩
  have HZ : Hid (leaf.size ≤ 140737488352000) := hz
  have LC : Hid (∀ w', Tab w' → Calls _ _ _ _ _) := fun w' h => pLeaf wd leaf hz w' h
  have RC : Hid (∀ w', Tab w' → ReadsT w' vl xs → Calls _ _ _ _ _) := fun w' h1 h2 => mb.rootC wd _ xs w' hwd h1 h2 hx
  have IC : Hid (∀ w', Tab w' → ReadsT w' vp path → Calls _ _ _ _ _) := fun w' h1 h2 => InclC wd i xs.length hwd (LF wd leaf) vp path (RT wd xs) w' h2 zp h1
  obtain ⟨la, lc, rfl, hlc, hlh⟩ := hl
  obtain ⟨pa, pc, rfl, _⟩ := hp
  obtain ⟨W, HW⟩ : ∃ W, Hid (W = (w.alloc (.cells #[.string leaf] 9)).alloc (.cells #[.string ⟨#[]⟩, .string ⟨#[]⟩, .bool false] 30)) := ⟨_, rfl⟩
  have hw : (w.alloc (.cells #[.string leaf] 9)).alloc (.cells #[.string ⟨#[]⟩, .string ⟨#[]⟩, .bool false] 30) = W := HW.out.symm
  have s1 : (w.alloc (.cells #[.string leaf] 9)).heap.size = w.heap.size + 1 := by simp
  have BW : Hid (Below w.heap.size w W) := by rw [HW.out]; exact ((Below.refl _ _).alloc (Nat.le_refl _) _).alloc (by simp) _
  have b2 : Below (w.alloc (.cells #[.string leaf] 9)).heap.size (w.alloc (.cells #[.string leaf] 9)) W := by rw [HW.out]; exact (Below.refl _ _).alloc (Nat.le_refl _) _
  have hr : W.heap[w.heap.size + 1]? = some (.cells #[.string ⟨#[]⟩, .string ⟨#[]⟩, .bool false] 30 (0, 0)) := by rw [← s1, HW.out]; exact heap_alloc_new _ _
  have c8 : W.cell? ⟨w.heap.size, 0, none⟩ = some (.string leaf) := by
    refine (b2.cell (p := ⟨w.heap.size, 0, none⟩) (by show w.heap.size < _; rw [s1]; omega)).trans ?_
    rw [World.cell?_alloc_at _ _ _ _ rfl]; rfl
  have HC8 : Hid (W.cell? ⟨w.heap.size, 0, none⟩ = some (.string leaf)) := c8
  have HR : Hid (W.heap[w.heap.size + 1]? = some (.cells #[.string ⟨#[]⟩, .string ⟨#[]⟩, .bool false] 30 (0, 0))) := hr
  have F4 : Hid (∀ w4, Below W.heap.size W w4 → w4.heap[w.heap.size + 1]? = some (.cells #[.string ⟨#[]⟩, .string ⟨#[]⟩, .bool false] 30 (0, 0))) := fun w4 k => (k.block _ (Array.getElem?_eq_some_iff.1 HR.out).1).trans HR.out
  unfold leafX
  obtain ⟨E, HE⟩ : ∃ E, Hid (incA wd i xs.length (LF wd leaf) path (RT wd xs) = E) := ⟨_, rfl⟩
  obtain ⟨y1, HY1⟩ : ∃ y, Hid (LF wd leaf = y) := ⟨_, rfl⟩
  obtain ⟨y2, HY2⟩ : ∃ y, Hid (RT wd xs = y) := ⟨_, rfl⟩
  rw [HE.out] at IC ⊢
  rw [HY1.out] at LC IC
  rw [HY2.out] at RC IC
  obtain ⟨n, HN⟩ : ∃ n, Hid (xs.length = n) := ⟨_, rfl⟩
  obtain ⟨m, HM⟩ : ∃ n, Hid (path.length = n) := ⟨_, rfl⟩
  rw [HN.out] at RC IC RD OL hlc hlh ⊢
  rw [HM.out] at IC RD OL ⊢
  clear hT hx hz zp b2 s1 hr
  by_cases h : E = 0
  · subst h
    rw [if_pos rfl]
    obtain ⟨I, N, rfl, hNN, i1, i2, i3, i4, i5⟩ := incA_ok HE.out
    have hnN : n = N := by have := HN.out; omega
    obtain ⟨b, off, ha, hq⟩ := hlh.resolve_left (by omega)
    subst ha
    have hin : (I : Int) < n := by omega
    obtain ⟨y, HY⟩ : ∃ y, Hid (xs.getD I ByteArray.empty = y) := ⟨_, rfl⟩
    have HC9 : Hid (w.cell? ⟨b, off + I, none⟩ = some (.string y)) := by show _ = _; rw [← HY.out]; exact hq I (by omega)
    rw [Int.toNat_natCast, HY.out]
    by_cases hyl : y = leaf
    · rw [if_pos hyl]
      have qy : (y.toList == leaf.toList) = true := by rw [beqL]; exact decide_eq_true hyl
      clear hlh hq hyl i1 i2 i3 i4 i5 hnN hNN
      go_enter Tryd.func10, Tryd.ntmps10
      go_wp2_with fail
      refine (LC.out _ (OL.out.2.2.1.down BW.out)).mono ?_
      rintro e w1 ⟨rfl, hb1⟩
      have B1 : Hid (Below W.heap.size W w1) := hb1
      clear hb1 c8
      go_wp2_with fail
      refine (RC.out _ (OL.out.2.2.1.down (over BW.out B1.out)) (RD.out.1.later (over BW.out B1.out))).mono ?_
      rintro e w2 ⟨rfl, hb2⟩
      have B2 : Hid (Below W.heap.size W w2) := over B1.out hb2
      clear hb2
      go_wp2_with fail
      refine (IC.out _ (OL.out.2.2.1.down (over BW.out B2.out)) (RD.out.2.later (over BW.out B2.out))).mono ?_
      rintro e w3 ⟨rfl, hb3⟩
      have B3 : Hid (Below W.heap.size W w3) := over B2.out hb3
      clear hb3
      have c8 : w3.cell? ⟨w.heap.size, 0, none⟩ = some (.string leaf) := (B3.out.cell (World.block_lt_of_cell? _ _ HC8.out)).trans HC8.out
      have c9 : w3.cell? ⟨b, off + I, none⟩ = some (.string y) := ((over BW.out B3.out).cell (World.block_lt_of_cell? _ _ HC9.out)).trans HC9.out
      go_wp2_with fail
      go_quiet (fail)
      obtain ⟨w4, H4⟩ : ∃ x, Hid (x = w3.drewN nq) := ⟨_, rfl⟩
      rw [← H4.out]
      have B4 : Hid (Below W.heap.size W w4) := by rw [H4.out]; exact below_dN B3.out _
      clear H4 c8 c9
      have hr2 := F4.out w4 B4.out
      have e0 : w4.cell? ⟨w.heap.size + 1, 0, none⟩ = _ := cell_of_row _ _ 0 _ _ _ hr2
      have e1 : w4.cell? ⟨w.heap.size + 1, 1, none⟩ = _ := cell_of_row _ _ 1 _ _ _ hr2
      have e2 : w4.cell? ⟨w.heap.size + 1, 2, none⟩ = _ := cell_of_row _ _ 2 _ _ _ hr2
      have f0 := frozen_of_row _ _ 0 _ _ hr2
      have f1 := frozen_of_row _ _ 1 _ _ hr2
      have f2 := frozen_of_row _ _ 2 _ _ hr2
      have FIN : Hid (∀ W', W' = _ → _) := put3 w4 (w.heap.size + 1) _ _ _ (.string ⟨#[]⟩) (.string ⟨#[]⟩) (.bool false) _ hr2
      clear hr2
      go_wp2
      obtain ⟨G, hb⟩ := FIN.out _ rfl
      refine bodyPost_ret (by simp [results, Tryd.results10, go_sem, G.1, G.2.1, G.2.2]; try rfl) rfl ?_
      exact ⟨rfl, (over BW.out B4.out).trans (hb _ (by omega))⟩
    · rw [if_neg hyl]
      have qy : (y.toList == leaf.toList) = false := by rw [beqL]; exact decide_eq_false hyl
      have qw : IntKind.i64.wrap ((I : Int) + 1) = (I : Int) + 1 := by rw [IntKind.wrap_i64]; omega
      have AC : Hid (∀ w4 V, Below W.heap.size W w4 → V = (w4.alloc (.cells #[.slice pa m pc] 46)).alloc (.cells #[.int .i64 wd, .func (.func 22) #[.agg #[.int .i64 I, .int .i64 ((I : Int) + 1)]] #[], .bool true, .func (.func 23) #[] #[.pointer (some ⟨w.heap.size, 0, none⟩)], .func (.func 24) #[.pointer (some ⟨w4.heap.size, 0, none⟩)] #[]] 52) → Calls Tryd.prog 25 #[.agg #[.int .i64 wd, .func (.func 22) #[.agg #[.int .i64 I, .int .i64 ((I : Int) + 1)]] #[], .bool true, .func (.func 23) #[] #[.pointer (some ⟨w.heap.size, 0, none⟩)], .func (.func 24) #[.pointer (some ⟨w4.heap.size, 0, none⟩)] #[]], .slice (some ⟨b, off, none⟩) n lc] V fun e w' => e = .returned (clV (fst1 (gw (HH wd) (lkI I) (fun _ => leaf) nx path 0 n).1 (ownT wd (lkI I) xs))) ∧ Below W.heap.size W w') := by
        intro w4 V hb4 hV
        obtain ⟨V1, hV1⟩ : ∃ V1, V1 = w4.alloc (.cells #[.slice pa m pc] 46) := ⟨_, rfl⟩
        rw [← hV1] at hV
        have b1 : Below w4.heap.size w4 V1 := by rw [hV1]; exact (Below.refl _ _).alloc (Nat.le_refl _) _
        have b2 : Below V1.heap.size V1 V := by rw [hV]; exact (Below.refl _ _).alloc (Nat.le_refl _) _
        have n1 : V1.heap[w4.heap.size]? = some (.cells #[.slice pa m pc] 46 (0, 0)) := by rw [hV1]; exact heap_alloc_new w4 _
        have z1 : V1.heap.size = w4.heap.size + 1 := by rw [hV1]; simp
        have bV : Below W.heap.size W V := over hb4 (over b1 b2)
        have bw := over BW.out bV
        have kk : Kp no w V := Kp.of_below bw
        have hp : KPile w.heap.size w4.heap.size path V := ⟨(over BW.out hb4).size, _, (b2.block _ (by rw [z1]; omega)).trans n1, OL.out.2.1.keep kk (fun _ e => e.elim)⟩
        have lw : w.heap.size < w4.heap.size := by have h1 := hb4.size; have h2 : w.heap.size < W.heap.size := World.block_lt_of_cell? _ _ HC8.out; omega
        have hS : LS w.heap.size w4.heap.size w.heap.size leaf path V := ⟨hp, (bV.cell (World.block_lt_of_cell? _ _ HC8.out)).trans HC8.out, OL.out.2.2.1.down bw⟩
        have z := againstC (leafFl (base := w.heap.size) (pb := w4.heap.size) (lb := w.heap.size) (i := I) (N := xs.length) (wd := wd) (leaf := leaf) (by rw [HN.out]; omega) OL.out.2.2.1.big (by omega) HZ.out) hwd (KS := fun _ => True) (fun _ => trivial) (fun _ _ => trivial) w.heap.size (fun k e => by omega) (some ⟨b, off, none⟩) lc xs (by rw [HN.out]; omega) OL.out.2.2.2 (fun a b w _ _ _ => meetsI I a b w) (fun _ _ h1 h2 => dirI I h1 h2) path V ⟨by rw [HN.out, hnN, cI_is i1, i3]; exact Nat.le_refl _, i4, Nat.le_refl _⟩ hS (by rw [HN.out]; exact OL.out.1.keep kk (fun _ e => e.elim))
        rw [HN.out] at z
        refine z.mono fun e w' h => ⟨h.1, ?_⟩
        have k2 : Below W.heap.size V w' := h.2.below (fun k e => by have := hb4.size; omega) bV.size
        exact bV.trans k2
      obtain ⟨O, HO⟩ : ∃ O, Hid (fst1 (gw (HH wd) (lkI I) (fun _ => leaf) nx path 0 n).1 (ownT wd (lkI I) xs) = O) := ⟨_, rfl⟩
      obtain ⟨g0, g1, g2, hgo⟩ := clV_of O
      rw [HO.out, hgo] at AC ⊢
      clear hlh hq hyl i1 i2 i3 i4 i5 hnN hNN hgo HO
      go_enter Tryd.func10, Tryd.ntmps10
      go_wp2_with fail
      refine (LC.out _ (OL.out.2.2.1.down BW.out)).mono ?_
      rintro e w1 ⟨rfl, hb1⟩
      have B1 : Hid (Below W.heap.size W w1) := hb1
      clear hb1 c8
      go_wp2_with fail
      refine (RC.out _ (OL.out.2.2.1.down (over BW.out B1.out)) (RD.out.1.later (over BW.out B1.out))).mono ?_
      rintro e w2 ⟨rfl, hb2⟩
      have B2 : Hid (Below W.heap.size W w2) := over B1.out hb2
      clear hb2
      go_wp2_with fail
      refine (IC.out _ (OL.out.2.2.1.down (over BW.out B2.out)) (RD.out.2.later (over BW.out B2.out))).mono ?_
      rintro e w3 ⟨rfl, hb3⟩
      have B3 : Hid (Below W.heap.size W w3) := over B2.out hb3
      clear hb3
      have c8 : w3.cell? ⟨w.heap.size, 0, none⟩ = some (.string leaf) := (B3.out.cell (World.block_lt_of_cell? _ _ HC8.out)).trans HC8.out
      have c9 : w3.cell? ⟨b, off + I, none⟩ = some (.string y) := ((over BW.out B3.out).cell (World.block_lt_of_cell? _ _ HC9.out)).trans HC9.out
      go_wp2_with fail
      go_quiet (fail)
      obtain ⟨w4, H4⟩ : ∃ x, Hid (x = w3.drewN nq) := ⟨_, rfl⟩
      rw [← H4.out]
      have B4 : Hid (Below W.heap.size W w4) := by rw [H4.out]; exact below_dN B3.out _
      clear H4 c8 c9
      go_wp2_with fail
      refine (AC.out w4 _ B4.out rfl).mono ?_
      rintro e w5 ⟨rfl, hb5⟩
      have B5 : Hid (Below W.heap.size W w5) := hb5
      clear hb5
      have hr2 := F4.out w5 B5.out
      have e0 : w5.cell? ⟨w.heap.size + 1, 0, none⟩ = _ := cell_of_row _ _ 0 _ _ _ hr2
      have e1 : w5.cell? ⟨w.heap.size + 1, 1, none⟩ = _ := cell_of_row _ _ 1 _ _ _ hr2
      have e2 : w5.cell? ⟨w.heap.size + 1, 2, none⟩ = _ := cell_of_row _ _ 2 _ _ _ hr2
      have f0 := frozen_of_row _ _ 0 _ _ hr2
      have f1 := frozen_of_row _ _ 1 _ _ hr2
      have f2 := frozen_of_row _ _ 2 _ _ hr2
      have FIN : Hid (∀ W', W' = _ → _) := put3 w5 (w.heap.size + 1) _ _ _ (.string g0) (.string g1) (.bool g2) _ hr2
      clear hr2
      go_wp2
      obtain ⟨G, hb⟩ := FIN.out _ rfl
      refine bodyPost_ret (by simp [results, Tryd.results10, go_sem, G.1, G.2.1, G.2.2]; try rfl) rfl ?_
      exact ⟨rfl, (over BW.out B5.out).trans (hb _ (by omega))⟩
  · rw [if_neg h]
    have q : (E == 0) = false := by rw [beq_eq_false_iff_ne]; exact h
    have q2 : (E != 0) = true := by rw [bne, q]; rfl
    clear h hlh
    go_enter Tryd.func10, Tryd.ntmps10
    go_wp2_with fail
    refine (LC.out _ (OL.out.2.2.1.down BW.out)).mono ?_
    rintro e w1 ⟨rfl, hb1⟩
    have B1 : Hid (Below W.heap.size W w1) := hb1
    clear hb1 c8
    go_wp2_with fail
    refine (RC.out _ (OL.out.2.2.1.down (over BW.out B1.out)) (RD.out.1.later (over BW.out B1.out))).mono ?_
    rintro e w2 ⟨rfl, hb2⟩
    have B2 : Hid (Below W.heap.size W w2) := over B1.out hb2
    clear hb2
    go_wp2_with fail
    refine (IC.out _ (OL.out.2.2.1.down (over BW.out B2.out)) (RD.out.2.later (over BW.out B2.out))).mono ?_
    rintro e w3 ⟨rfl, hb3⟩
    have B3 : Hid (Below W.heap.size W w3) := over B2.out hb3
    clear hb3
    have c8 : w3.cell? ⟨w.heap.size, 0, none⟩ = some (.string leaf) := (B3.out.cell (World.block_lt_of_cell? _ _ HC8.out)).trans HC8.out
    go_wp2_with fail
    go_quiet (fail)
    obtain ⟨w4, H4⟩ : ∃ x, Hid (x = w3.drewN nq) := ⟨_, rfl⟩
    rw [← H4.out]
    have B4 : Hid (Below W.heap.size W w4) := by rw [H4.out]; exact below_dN B3.out _
    clear H4 c8
    have hr2 := F4.out w4 B4.out
    have e0 : w4.cell? ⟨w.heap.size + 1, 0, none⟩ = _ := cell_of_row _ _ 0 _ _ _ hr2
    have e1 : w4.cell? ⟨w.heap.size + 1, 1, none⟩ = _ := cell_of_row _ _ 1 _ _ _ hr2
    have e2 : w4.cell? ⟨w.heap.size + 1, 2, none⟩ = _ := cell_of_row _ _ 2 _ _ _ hr2
    have f0 := frozen_of_row _ _ 0 _ _ hr2
    have f1 := frozen_of_row _ _ 1 _ _ hr2
    have f2 := frozen_of_row _ _ 2 _ _ hr2
    have FIN : Hid (∀ W', W' = _ → _) := put3 w4 (w.heap.size + 1) _ _ _ (.string ⟨#[]⟩) (.string ⟨#[]⟩) (.bool false) _ hr2
    clear hr2
    go_wp2
    obtain ⟨G, hb⟩ := FIN.out _ rfl
    refine bodyPost_ret (by simp [results, Tryd.results10, go_sem, G.1, G.2.1, G.2.2]; try rfl) rfl ?_
    exact ⟨rfl, (over BW.out B4.out).trans (hb _ (by omega))⟩
end Go.Proofs.YtfaalpdeabdhcaaDoor.ur

namespace Go.Proofs.YtfaalpdeabdhcaaDoor.us
open Go.RowKit Go.PlainAid
open Go.Proofs.YtfaalpdeabdhcaaDoor.pl Go.Proofs.YtfaalpdeabdhcaaDoor.pg Go.Proofs.YtfaalpdeabdhcaaDoor.pi Go.Proofs.YtfaalpdeabdhcaaDoor.pj Go.Proofs.YtfaalpdeabdhcaaDoor.ca Go.Proofs.YtfaalpdeabdhcaaDoor.cb Go.Proofs.YtfaalpdeabdhcaaDoor.cp Go.Proofs.YtfaalpdeabdhcaaDoor.ga Go.Proofs.YtfaalpdeabdhcaaDoor.gb Go.Proofs.YtfaalpdeabdhcaaDoor.aa Go.Proofs.YtfaalpdeabdhcaaDoor.ba Go.Proofs.YtfaalpdeabdhcaaDoor.bb Go.Proofs.YtfaalpdeabdhcaaDoor.ka Go.Proofs.YtfaalpdeabdhcaaDoor.kb Go.Proofs.YtfaalpdeabdhcaaDoor.kc Go.Proofs.YtfaalpdeabdhcaaDoor.kp Go.Proofs.YtfaalpdeabdhcaaDoor.lk Go.Proofs.YtfaalpdeabdhcaaDoor.dc Go.Proofs.YtfaalpdeabdhcaaDoor.qa Go.Proofs.YtfaalpdeabdhcaaDoor.qb Go.Proofs.YtfaalpdeabdhcaaDoor.qc Go.Proofs.YtfaalpdeabdhcaaDoor.qd Go.Proofs.YtfaalpdeabdhcaaDoor.ta Go.Proofs.YtfaalpdeabdhcaaDoor.tb Go.Proofs.YtfaalpdeabdhcaaDoor.td Go.Proofs.YtfaalpdeabdhcaaDoor.tc Go.Proofs.YtfaalpdeabdhcaaDoor.ua Go.Proofs.YtfaalpdeabdhcaaDoor.ub Go.Proofs.YtfaalpdeabdhcaaDoor.ma Go.Proofs.YtfaalpdeabdhcaaDoor.uh Go.Proofs.YtfaalpdeabdhcaaDoor.ui Go.Proofs.YtfaalpdeabdhcaaDoor.uj Go.Proofs.YtfaalpdeabdhcaaDoor.uk Go.Proofs.YtfaalpdeabdhcaaDoor.ul Go.Proofs.YtfaalpdeabdhcaaDoor.um Go.Proofs.YtfaalpdeabdhcaaDoor.un Go.Proofs.YtfaalpdeabdhcaaDoor.uo Go.Proofs.YtfaalpdeabdhcaaDoor.uq Go.Proofs.YtfaalpdeabdhcaaDoor.ur
set_option linter.unusedVariables false

set_option maxRecDepth 100000 in
theorem right_no (wd : Int) (w : World) : Calls Tryd.prog 9 #[.int .i64 wd, clV none, .bool false] w fun e w' => e = .returned (.bool true) ∧ Below w.heap.size w w' := by
  have B1 : Hid (Below w.heap.size w (w.alloc (.cells #[.string ⟨#[]⟩, .string ⟨#[]⟩, .bool false] 30))) := (Below.refl _ _).alloc (Nat.le_refl _) _
  rw [show clV none = .agg #[.string ⟨#[]⟩, .string ⟨#[]⟩, .bool false] from rfl]
  go_enter Tryd.func9, Tryd.ntmps9
  go_wp2
  go_ret
  exact ⟨rfl, B1.out⟩
set_option maxRecDepth 100000 in
set_option maxHeartbeats 3200000 in
theorem right_yes (wd : Int) (A B : ByteArray) (w : World) (hT : Tab w) (hA : A.size ≤ 1125899906842624) (hB : B.size ≤ 1125899906842624) (hne : A ≠ B) (he : cutS A wd = cutS B wd) : Calls Tryd.prog 9 #[.int .i64 wd, clV (some (A, B)), .bool true] w fun e w' => e = .returned (.bool true) ∧ Below w.heap.size w w' := by
  have C1 : Hid (∀ w', Tab w' → Calls _ _ _ _ _) := fun w' h => cutT A wd w' hA h
  have C2 : Hid (∀ w', Tab w' → Calls _ _ _ _ _) := fun w' h => cutT B wd w' hB h
  rw [← he] at C2
  obtain ⟨y, HY⟩ : ∃ y, Hid (cutS A wd = y) := ⟨_, rfl⟩
  rw [HY.out] at C1 C2
  obtain ⟨W, HW⟩ : ∃ W, Hid (W = w.alloc (.cells #[.string A, .string B, .bool true] 30)) := ⟨_, rfl⟩
  have hw : w.alloc (.cells #[.string A, .string B, .bool true] 30) = W := HW.out.symm
  have BW : Hid (Below w.heap.size w W) := by rw [HW.out]; exact (Below.refl _ _).alloc (Nat.le_refl _) _
  have HC : Hid (W.cell? ⟨w.heap.size, 0, none⟩ = some (.string A) ∧ W.cell? ⟨w.heap.size, 1, none⟩ = some (.string B) ∧ W.cell? ⟨w.heap.size, 2, none⟩ = some (.bool true)) := by show _ ∧ _ ∧ _; rw [HW.out]; exact cells3 w _ _ _ _
  have HCC : Hid (∀ w', Below W.heap.size W w' → w'.cell? ⟨w.heap.size, 0, none⟩ = some (.string A) ∧ w'.cell? ⟨w.heap.size, 1, none⟩ = some (.string B) ∧ w'.cell? ⟨w.heap.size, 2, none⟩ = some (.bool true)) := fun w' b => ⟨(b.cell (World.block_lt_of_cell? _ _ HC.out.1)).trans HC.out.1, (b.cell (World.block_lt_of_cell? _ _ HC.out.2.1)).trans HC.out.2.1, (b.cell (World.block_lt_of_cell? _ _ HC.out.2.2)).trans HC.out.2.2⟩
  have HT : Hid (Tab W) := hT.down BW.out
  have q : (A.toList == B.toList) = false := by rw [beqL]; exact decide_eq_false hne
  have q2 : (A.toList != B.toList) = true := by rw [bne, q]; rfl
  obtain ⟨c0, c1, c2⟩ := HC.out
  rw [show clV (some (A, B)) = .agg #[.string A, .string B, .bool true] from rfl]
  clear hne he hT hA hB
  go_enter Tryd.func9, Tryd.ntmps9
  go_wp2_with (rw [hw])
  refine (C1.out _ HT.out).mono ?_
  rintro e w1 ⟨rfl, hb1⟩
  have B1 : Hid (Below W.heap.size W w1) := hb1
  clear hb1 c0 c1 c2
  obtain ⟨c0, c1, c2⟩ := HCC.out w1 B1.out
  go_wp2_with fail
  refine (C2.out _ (HT.out.down B1.out)).mono ?_
  rintro e w2 ⟨rfl, hb2⟩
  have B2 : Hid (Below W.heap.size W w2) := over B1.out hb2
  clear hb2 c0 c1 c2
  obtain ⟨c0, c1, c2⟩ := HCC.out w2 B2.out
  have qy : (y.toList == y.toList) = true := beq_self_eq_true _
  go_wp2
  go_ret
  exact ⟨rfl, over BW.out B2.out⟩
end Go.Proofs.YtfaalpdeabdhcaaDoor.us

namespace Go.Proofs.YtfaalpdeabdhcaaDoor.ut
open Go.RowKit Go.PlainAid
open Go.Proofs.YtfaalpdeabdhcaaDoor.pl Go.Proofs.YtfaalpdeabdhcaaDoor.pg Go.Proofs.YtfaalpdeabdhcaaDoor.pi Go.Proofs.YtfaalpdeabdhcaaDoor.pj Go.Proofs.YtfaalpdeabdhcaaDoor.ca Go.Proofs.YtfaalpdeabdhcaaDoor.cb Go.Proofs.YtfaalpdeabdhcaaDoor.cp Go.Proofs.YtfaalpdeabdhcaaDoor.ga Go.Proofs.YtfaalpdeabdhcaaDoor.gb Go.Proofs.YtfaalpdeabdhcaaDoor.aa Go.Proofs.YtfaalpdeabdhcaaDoor.ba Go.Proofs.YtfaalpdeabdhcaaDoor.bb Go.Proofs.YtfaalpdeabdhcaaDoor.ka Go.Proofs.YtfaalpdeabdhcaaDoor.kb Go.Proofs.YtfaalpdeabdhcaaDoor.kc Go.Proofs.YtfaalpdeabdhcaaDoor.kp Go.Proofs.YtfaalpdeabdhcaaDoor.lk Go.Proofs.YtfaalpdeabdhcaaDoor.co Go.Proofs.YtfaalpdeabdhcaaDoor.dc Go.Proofs.YtfaalpdeabdhcaaDoor.qa Go.Proofs.YtfaalpdeabdhcaaDoor.qb Go.Proofs.YtfaalpdeabdhcaaDoor.qc Go.Proofs.YtfaalpdeabdhcaaDoor.qd Go.Proofs.YtfaalpdeabdhcaaDoor.ta Go.Proofs.YtfaalpdeabdhcaaDoor.tb Go.Proofs.YtfaalpdeabdhcaaDoor.td Go.Proofs.YtfaalpdeabdhcaaDoor.tc Go.Proofs.YtfaalpdeabdhcaaDoor.ua Go.Proofs.YtfaalpdeabdhcaaDoor.ub Go.Proofs.YtfaalpdeabdhcaaDoor.ma Go.Proofs.YtfaalpdeabdhcaaDoor.uh Go.Proofs.YtfaalpdeabdhcaaDoor.ui Go.Proofs.YtfaalpdeabdhcaaDoor.uj Go.Proofs.YtfaalpdeabdhcaaDoor.uk Go.Proofs.YtfaalpdeabdhcaaDoor.ul Go.Proofs.YtfaalpdeabdhcaaDoor.um Go.Proofs.YtfaalpdeabdhcaaDoor.un Go.Proofs.YtfaalpdeabdhcaaDoor.uo Go.Proofs.YtfaalpdeabdhcaaDoor.uq Go.Proofs.YtfaalpdeabdhcaaDoor.ur Go.Proofs.YtfaalpdeabdhcaaDoor.us
set_option linter.unusedVariables false

def lfS : ByteArray := ⟨#[108, 101, 97, 102]⟩
def twS (k : Nat) : ByteArray := str [((k / 256 : Nat) : Int), ((k % 256 : Nat) : Int)]
theorem twS_size (k : Nat) : (twS k).size = 2 := rfl
theorem twS_ne (k : Nat) : twS k ≠ lfS := fun e => by have := congrArg ByteArray.size e; rw [twS_size] at this; exact absurd this (by decide)
theorem hit : LF 1 (twS 478) = LF 1 lfS := by decide +kernel
theorem incA_one {s l : ByteArray} (h : LF 1 s = LF 1 l) : incA 1 0 1 (LF 1 s) [] (RT 1 [l]) = 0 := by
  have r : ref9 1 0 0 1 [] = 0 := by unfold ref9; rfl
  have c : cnt9 1 0 0 1 [] = (0, 0) := by
    unfold cnt9
    rw [if_pos r]
    unfold num9
    rw [if_pos rfl, show (0 : Int).toNat = 0 from rfl, show (1 : Int).toNat = 1 from rfl, cI_is (by omega), cI_one (by omega)]
    rfl
  have z : ∀ x, (LF 1 x).size = wid 1 := fun x => cutS_size _ _
  have i : incR 1 0 1 [] [LF 1 s, RT 1 [l]] = 0 := by
    unfold incR
    rw [c, if_pos rfl]
    unfold rH okH
    rw [RT_one]
    simp [z]
  unfold incA
  rw [if_pos i, if_pos]
  rw [RT_one, ← h]
  show (go (WS 1 (lkI 0) (fun _ => 0)) (0, [LF 1 s], []) 0 1).1 = _
  rw [go_stop (by show (lkI 0 0 1) < 2; unfold lkI; decide)]
  rfl
theorem leafX_one {s l : ByteArray} (h : LF 1 s = LF 1 l) (hne : s ≠ l) : leafX 1 0 [l] s [] = some (tx0 s, tx0 l) := by
  unfold leafX
  rw [if_pos (by exact incA_one h), if_neg (by intro e; exact hne e.symm)]
  have k1 : lkI (0 : Int).toNat 0 1 ≠ 1 := by decide
  unfold ownT
  rw [show ([l] : List ByteArray).length = 1 from rfl, gw_leaf k1 (by omega), gw_leaf k1 (by omega)]
  show (if tx0 s = tx0 l then _ else _) = _
  rw [if_neg (fun e => hne (tx0_inj e))]
  rfl
set_option maxRecDepth 100000 in
set_option maxHeartbeats 6400000 in
theorem begunC (w : World) (hT : Tab w) : Calls Tryd.prog 5 #[] w fun e w' => e = .returned (.bool true) ∧ Below w.heap.size w w' := by
  obtain ⟨W, HW⟩ : ∃ W, Hid (W = w.alloc (.cells #[.string lfS] 9)) := ⟨_, rfl⟩
  have hw : w.alloc (.cells #[.string ⟨#[108, 101, 97, 102]⟩] 9) = W := HW.out.symm
  have BW : Hid (Below w.heap.size w W) := by rw [HW.out]; exact (Below.refl _ _).alloc (Nat.le_refl _) _
  have HR : Hid (ReadsT W (.slice (some ⟨w.heap.size, 0, none⟩) 1 1) [lfS] ∧ Tab W) := ⟨by rw [HW.out]; exact text_reads w lfS, hT.down BW.out⟩
  have LC : Hid (∀ s : ByteArray, s.size ≤ 140737488352000 → ∀ w', Tab w' → Calls _ _ _ _ _) := fun s h w' t => pLeaf 1 s h w' t
  have L0 : Hid (Calls _ _ _ _ _) := LC.out lfS (by decide) W HR.out.2
  rw [show lfS = ⟨#[108, 101, 97, 102]⟩ from rfl] at L0
  have HH0 : Hid (LF 1 ⟨#[108, 101, 97, 102]⟩ = LF 1 lfS) := rfl
  rw [HH0.out] at L0
  obtain ⟨h0, HH1⟩ : ∃ h, Hid (LF 1 lfS = h) := ⟨_, rfl⟩
  rw [HH1.out] at L0
  have CL : Hid (∀ s : ByteArray, s.size ≤ 140737488352000 → ∀ w', Below W.heap.size W w' → Calls _ _ _ _ _) := fun s h w' b => kLeafC 1 0 (by unfold i64; omega) (by unfold i64; omega) (.slice (some ⟨w.heap.size, 0, none⟩) 1 1) [lfS] s (.slice none 0 0) [] w' (HR.out.1.later b) ⟨none, 0, rfl, Nat.le_refl _, .inl rfl⟩ ⟨fun x hx => by simp only [List.mem_cons, List.not_mem_nil, or_false] at hx; rw [hx]; decide, by decide⟩ h (by simp) (HR.out.2.down b)
  have X1 : Hid (∀ s : ByteArray, LF 1 s = h0 → s ≠ lfS → leafX 1 0 [lfS] s [] = some (tx0 s, tx0 lfS)) := fun s h1 h2 => leafX_one (h1.trans HH1.out.symm) h2
  clear hT
  go_enter Tryd.func5, Tryd.ntmps5
  go_wp2_with (rw [hw])
  refine L0.out.mono ?_
  rintro e w1 ⟨rfl, hb1⟩
  have B1 : Hid (Below W.heap.size W w1) := hb1
  clear hb1
  go_wp2
  go_loopw [3, 4] (fun s i wr => ∃ (k : Nat) (x : ByteArray), k ≤ 478 ∧ i = .int .i64 k ∧ s = .string x ∧ Hid (Below W.heap.size W wr)) (fun _ i _ => (3000 - intOf i).toNat)
  case atStart => exact ⟨0, _, by omega, rfl, rfl, B1⟩
  case round =>
    obtain ⟨k, x, hk, rfl, rfl, BR⟩ := hrel
    have d1 : decide ((k : Int) < 3000) = true := decide_eq_true (by omega)
    have d2 : (k : Int) < 3000 := by omega
    have z0 : (0 : Int) ≤ k := by omega
    obtain ⟨p, HP⟩ : ∃ p : Nat, Hid (k / 256 = p) := ⟨_, rfl⟩
    obtain ⟨r, HR2⟩ : ∃ r : Nat, Hid (k % 256 = r) := ⟨_, rfl⟩
    have hp : (k : Int) / 256 = (p : Int) := by have := HP.out; omega
    have hr : (k : Int) % 256 = (r : Int) := by have := HR2.out; omega
    have hpt : Int.tdiv (k : Int) 256 = (p : Int) := by rw [Int.tdiv_eq_ediv_of_nonneg z0]; exact hp
    have hrt : Int.tmod (k : Int) 256 = (r : Int) := by rw [Int.tmod_eq_emod_of_nonneg z0]; exact hr
    have w1' : IntKind.u8.wrap (p : Int) = p := by rw [IntKind.wrap_u8']; have := HP.out; omega
    have w2' : IntKind.u8.wrap (r : Int) = r := by rw [IntKind.wrap_u8']; have := HR2.out; omega
    have w3' : IntKind.i64.wrap (p : Int) = p := by rw [IntKind.wrap_i64]; have := HP.out; omega
    have w4' : IntKind.i64.wrap (r : Int) = r := by rw [IntKind.wrap_i64]; have := HR2.out; omega
    have w5' : IntKind.i64.wrap ((k : Int) + 1) = (k : Int) + 1 := by rw [IntKind.wrap_i64]; omega
    have hcv := own_conv (wr.alloc (.cells #[.int .u8 (p : Int), .int .u8 (r : Int)] 5)) wr.heap.size (.slice (some ⟨wr.heap.size, 0, none⟩) 2 2) [(p : Int), (r : Int)] 2 rfl (by omega) (World.ownsRow_lit wr #[.int .u8 (p : Int), .int .u8 (r : Int)] 2 (Nat.le_refl _) (by unfold maxLen; omega) rfl)
    have HT : Hid (twS k = str [(p : Int), (r : Int)]) := by show _ = _; unfold twS; rw [HP.out, HR2.out]
    rw [← HT.out] at hcv
    have BA : Hid (Below W.heap.size W (wr.alloc (.cells #[.int .u8 (p : Int), .int .u8 (r : Int)] 5))) := below_al BR.out _
    have LK : Hid (Calls _ _ _ _ _) := LC.out (twS k) (by rw [twS_size]; omega) _ (HR.out.2.down BA.out)
    have CK : Hid (∀ w', Below W.heap.size W w' → Calls _ _ _ _ _) := fun w' b => CL.out (twS k) (by rw [twS_size]; omega) w' b
    have XK : Hid (LF 1 (twS k) = h0 → leafX 1 0 [lfS] (twS k) [] = some (tx0 (twS k), tx0 lfS)) := fun h => X1.out (twS k) h (twS_ne k)
    have HK : Hid (k = 478 → LF 1 (twS k) = h0) := fun e => by rw [e, hit, HH1.out]
    have HZ : Hid ((twS k).size = 2 ∧ tx0 (twS k) = (⟨#[0]⟩ : ByteArray) ++ twS k) := ⟨twS_size k, rfl⟩
    obtain ⟨t, HTT⟩ : ∃ t, Hid (twS k = t) := ⟨_, rfl⟩
    rw [HTT.out] at hcv LK CK XK HK HZ
    obtain ⟨y, HY⟩ : ∃ y, Hid (LF 1 t = y) := ⟨_, rfl⟩
    rw [HY.out] at LK XK HK
    clear HT HTT HP HR2 hp hr
    by_cases he : y = h0
    · have q : (y.toList == h0.toList) = true := by rw [beqL]; exact decide_eq_true he
      have XX : Hid (_ = _) := XK.out he
      rw [XX.out] at CK
      have HV : Hid (clV (some (tx0 t, tx0 lfS)) = .agg #[.string (tx0 t), .string ⟨#[0, 108, 101, 97, 102]⟩, .bool true]) := rfl
      rw [HV.out, HZ.out.2] at CK
      have zt : t.size = 2 := HZ.out.1
      obtain ⟨v, HVV⟩ : ∃ v, Hid ((⟨#[0]⟩ : ByteArray) ++ t = v) := ⟨_, rfl⟩
      have hv : (⟨#[0]⟩ : ByteArray) ++ t = v := HVV.out
      rw [hv] at CK
      have z1 : (⟨#[0]⟩ : ByteArray).size = 1 := rfl
      have qv : (v.toList == v.toList) = true := beq_self_eq_true _
      clear XX HV XK HK he
      go_wp2_with fail
      refine LK.out.mono ?_
      rintro e w3 ⟨rfl, hb3⟩
      have B3 : Hid (Below W.heap.size W w3) := over BA.out hb3
      clear hb3
      go_wp2_with fail
      refine (CK.out _ B3.out).mono ?_
      rintro e w4 ⟨rfl, hb4⟩
      have B4 : Hid (Below W.heap.size W w4) := over B3.out hb4
      clear hb4
      obtain ⟨c0, c1, c2⟩ := cells3 w4 (.string v) (.string ⟨#[0, 108, 101, 97, 102]⟩) (.bool true) 30
      go_wp2
      go_ret
      exact ⟨rfl, over BW.out (below_al B4.out _)⟩
    · have q : (y.toList == h0.toList) = false := by rw [beqL]; exact decide_eq_false he
      have hk2 : k + 1 ≤ 478 := by
        by_cases g : k = 478
        · exact absurd (HK.out g) he
        · omega
      clear XK HK he
      go_wp2_with fail
      refine LK.out.mono ?_
      rintro e w3 ⟨rfl, hb3⟩
      have B3 : Hid (Below W.heap.size W w3) := over BA.out hb3
      clear hb3
      go_wp2
      go_roundw
      case rel => exact ⟨k + 1, _, hk2, by go_num, rfl, B3⟩
      case measure => simp [intOf]; omega
end Go.Proofs.YtfaalpdeabdhcaaDoor.ut

namespace Go.Proofs.YtfaalpdeabdhcaaDoor.uv
open Go.RowKit Go.PlainAid
open Go.Proofs.YtfaalpdeabdhcaaDoor.pl Go.Proofs.YtfaalpdeabdhcaaDoor.pg Go.Proofs.YtfaalpdeabdhcaaDoor.pi Go.Proofs.YtfaalpdeabdhcaaDoor.pj Go.Proofs.YtfaalpdeabdhcaaDoor.ca Go.Proofs.YtfaalpdeabdhcaaDoor.cb Go.Proofs.YtfaalpdeabdhcaaDoor.cp Go.Proofs.YtfaalpdeabdhcaaDoor.ga Go.Proofs.YtfaalpdeabdhcaaDoor.gb Go.Proofs.YtfaalpdeabdhcaaDoor.aa Go.Proofs.YtfaalpdeabdhcaaDoor.ba Go.Proofs.YtfaalpdeabdhcaaDoor.bb Go.Proofs.YtfaalpdeabdhcaaDoor.ka Go.Proofs.YtfaalpdeabdhcaaDoor.kb Go.Proofs.YtfaalpdeabdhcaaDoor.kc Go.Proofs.YtfaalpdeabdhcaaDoor.kp Go.Proofs.YtfaalpdeabdhcaaDoor.lk Go.Proofs.YtfaalpdeabdhcaaDoor.co Go.Proofs.YtfaalpdeabdhcaaDoor.dc Go.Proofs.YtfaalpdeabdhcaaDoor.qa Go.Proofs.YtfaalpdeabdhcaaDoor.qb Go.Proofs.YtfaalpdeabdhcaaDoor.qc Go.Proofs.YtfaalpdeabdhcaaDoor.qd Go.Proofs.YtfaalpdeabdhcaaDoor.qj Go.Proofs.YtfaalpdeabdhcaaDoor.ta Go.Proofs.YtfaalpdeabdhcaaDoor.tb Go.Proofs.YtfaalpdeabdhcaaDoor.td Go.Proofs.YtfaalpdeabdhcaaDoor.tc Go.Proofs.YtfaalpdeabdhcaaDoor.ua Go.Proofs.YtfaalpdeabdhcaaDoor.ub Go.Proofs.YtfaalpdeabdhcaaDoor.ma Go.Proofs.YtfaalpdeabdhcaaDoor.uh Go.Proofs.YtfaalpdeabdhcaaDoor.ui Go.Proofs.YtfaalpdeabdhcaaDoor.uj Go.Proofs.YtfaalpdeabdhcaaDoor.uk Go.Proofs.YtfaalpdeabdhcaaDoor.ul Go.Proofs.YtfaalpdeabdhcaaDoor.um Go.Proofs.YtfaalpdeabdhcaaDoor.un Go.Proofs.YtfaalpdeabdhcaaDoor.uo Go.Proofs.YtfaalpdeabdhcaaDoor.uq Go.Proofs.YtfaalpdeabdhcaaDoor.ur Go.Proofs.YtfaalpdeabdhcaaDoor.us Go.Proofs.YtfaalpdeabdhcaaDoor.ut
set_option linter.unusedVariables false

theorem text_size {t : Pt} (h : Sml t) : t.text.size ≤ 140737488352001 := by
  cases t with
  | bare _ => exact Nat.zero_le _
  | leaf s l =>
    show (tx0 l).size ≤ _
    unfold tx0
    rw [size1]
    have : l.size ≤ 140737488352000 := h
    omega
  | node s l r =>
    show (tx1 l.sum r.sum).size ≤ _
    unfold tx1
    rw [ByteArray.size_append, size1]
    have h1 : l.sum.size ≤ 32 := h.1
    have h2 : r.sum.size ≤ 32 := h.2.1
    omega
theorem fst_size : ∀ (t u : Pt) {A B : ByteArray}, Sml t → Sml u → fst1 t u = some (A, B) → A.size ≤ 140737488352001 ∧ B.size ≤ 140737488352001 := by
  intro t
  induction t with
  | bare h =>
    intro u A B _ _ e
    rw [show fst1 (.bare h) u = none by cases u <;> rfl] at e
    exact absurd e (by simp)
  | leaf s l =>
    intro u A B h1 h2 e
    have g1 := text_size h1
    have g2 := text_size h2
    have e' : (if (Pt.leaf s l).text = u.text then none else some ((Pt.leaf s l).text, u.text)) = some (A, B) := by rw [← e]; cases u <;> rfl
    split at e'
    · exact absurd e' (by simp)
    · injection e' with e'
      injection e' with e1 e2
      rw [← e1, ← e2]
      exact ⟨g1, g2⟩
  | node s l r ihl ihr =>
    intro u A B h1 h2 e
    have g1 := text_size h1
    have g2 := text_size h2
    cases u with
    | node s' l' r' =>
      rw [fst1] at e
      split at e
      · cases hl : fst1 l l' with
        | some c =>
          rw [hl] at e
          exact ihl l' h1.2.2.1 h2.2.2.1 (hl.trans e)
        | none =>
          rw [hl] at e
          exact ihr r' h1.2.2.2 h2.2.2.2 e
      · injection e with e
        injection e with e1 e2
        rw [← e1, ← e2]
        exact ⟨g1, g2⟩
    | bare h =>
      rw [show fst1 (.node s l r) (.bare h) = if (Pt.node s l r).text = (Pt.bare h).text then none else some ((Pt.node s l r).text, (Pt.bare h).text) from rfl] at e
      split at e
      · exact absurd e (by simp)
      · injection e with e
        injection e with e1 e2
        rw [← e1, ← e2]
        exact ⟨g1, g2⟩
    | leaf h h' =>
      rw [show fst1 (.node s l r) (.leaf h h') = if (Pt.node s l r).text = (Pt.leaf h h').text then none else some ((Pt.node s l r).text, (Pt.leaf h h').text) from rfl] at e
      split at e
      · exact absurd e (by simp)
      · injection e with e
        injection e with e1 e2
        rw [← e1, ← e2]
        exact ⟨g1, g2⟩
theorem own_sml (wd : Int) (lk : Nat → Nat → Nat) (xs : List ByteArray) (hx : Fits xs) (n : Nat) : ∀ a b, b - a = n → a < b → b ≤ xs.length → Sml (gw (HH wd) lk (fun p => xs.getD p ByteArray.empty) (ow (RR wd xs)) () a b).1 := by
  have sz : ∀ a b, a < b → b ≤ xs.length → (gw (HH wd) lk (fun p => xs.getD p ByteArray.empty) (ow (RR wd xs)) () a b).1.sum.size ≤ 32 := fun a b h1 h2 => by rw [own_sum wd lk xs a b h1 h2]; exact RT_le _ _
  induction n using Nat.strongRecOn with
  | ind n ih =>
    intro a b hn hab hb
    by_cases h1 : lk a b = 1
    · rw [gw_bare h1]; trivial
    by_cases h2 : 2 ≤ b - a
    · have hh := half_lt h2
      by_cases h3 : lk a b = 2
      · rw [gw_left h3 h2]
        exact ⟨sz _ _ (by omega) (by omega), sz _ _ (by omega) hb, ih (half (b - a)) (by omega) _ _ (by omega) (by omega) (by omega), ih (b - (a + half (b - a))) (by omega) _ _ rfl (by omega) hb⟩
      · rw [gw_right h1 h3 h2]
        exact ⟨sz _ _ (by omega) (by omega), sz _ _ (by omega) hb, ih (half (b - a)) (by omega) _ _ (by omega) (by omega) (by omega), ih (b - (a + half (b - a))) (by omega) _ _ rfl (by omega) hb⟩
    · rw [gw_leaf h1 h2]
      have h : a < xs.length := by omega
      show (xs.getD a ByteArray.empty).size ≤ _
      rw [List.getD_eq_getElem?_getD, List.getElem?_eq_getElem h]
      exact hx.each _ (List.getElem_mem h)
-- an accepted wrong leaf is a clash
theorem wideI {i a b : Nat} (hab : a < b) (h : 2 ≤ lkI i a b) : 2 ≤ b - a := by
  unfold lkI at h
  split at h
  · split at h
    · omega
    · omega
  · omega
theorem fourI (i a b : Nat) : lkI i a b ≤ 3 := by
  unfold lkI
  split
  · split
    · omega
    · split <;> omega
  · omega
theorem leafX_clash {wd : Int} {I : Nat} {xs : List ByteArray} {leaf : ByteArray} {path : List ByteArray} (hx : Fits xs) (hz : leaf.size ≤ 140737488352000) (hI : I < xs.length) (h : incA wd I xs.length (LF wd leaf) path (RT wd xs) = 0) (hne : xs.getD I ByteArray.empty ≠ leaf) :
    ∃ A B, leafX wd I xs leaf path = some (A, B) ∧ A ≠ B ∧ cutS A wd = cutS B wd ∧ A.size ≤ 140737488352001 ∧ B.size ≤ 140737488352001 := by
  obtain ⟨I', N, e1, e2, q1, q2, q3, q4, q5⟩ := incA_ok h
  obtain rfl : I' = I := by omega
  obtain rfl : N = xs.length := by omega
  have hg : (gp wd (lkI I') [LF wd leaf] path 0 xs.length).1 = RT wd xs := by
    rw [← (go_gp wd (lkI I') (fun _ => 0) xs.length 0 xs.length 0 [LF wd leaf] path rfl).1]
    exact q5
  have hc : ([LF wd leaf] : List ByteArray).take (WL (fl (lkI I')) 0 xs.length).length = (WL (fl (lkI I')) 0 xs.length).map (fun q => LF wd ((fun _ => leaf) q.1)) := by
    have hl := (claims I' xs.length 0 xs.length rfl (by omega)).1
    match hw : WL (fl (lkI I')) 0 xs.length, hl with
    | [], _ => rfl
    | [q], _ => rfl
    | _ :: _ :: _, hl => simp at hl
  have e : leafX wd I' xs leaf path = fst1 (gw (HH wd) (lkI I') (fun _ => leaf) nx path 0 xs.length).1 (ownT wd (lkI I') xs) := by
    unfold leafX
    rw [if_pos h, Int.toNat_natCast, if_neg hne]
  have sT : Sml (gw (HH wd) (lkI I') (fun _ => leaf) nx path 0 xs.length).1 := Fl.sml (leafFl (base := 2) (pb := 1) (lb := 0) (i := I') (N := xs.length) (wd := wd) (leaf := leaf) q2 (Nat.le_refl _) (by decide) hz) _ 0 xs.length path rfl (by omega) ⟨by rw [cI_is q1, q3]; exact Nat.le_refl _, q4, Nat.le_refl _⟩
  have sU : Sml (ownT wd (lkI I') xs) := own_sml wd (lkI I') xs hx xs.length 0 xs.length rfl (by omega) (Nat.le_refl _)
  rw [e]
  rcases sound_gen wd (lk := lkI I') (fun _ => leaf) xs [LF wd leaf] path (fun a b => lkI_zero I' a b) (fun {a b} => wideI) (fourI I') (by omega) (by rw [cI_is q1, q3]; exact Nat.le_refl _) q4 hc hg with ⟨A, B, f1, f2, f3⟩ | ⟨f1, f2⟩
  · obtain ⟨z1, z2⟩ := fst_size _ _ sT sU f1
    exact ⟨A, B, f1, f2, f3, z1, z2⟩
  · rw [LP_one I' xs.length 0 xs.length rfl (by omega), if_pos ⟨by omega, q1⟩] at f2
    simp only [List.map_cons, List.map_nil, List.cons.injEq, and_true] at f2
    exact absurd f2.symm hne
set_option maxRecDepth 100000 in
set_option maxHeartbeats 6400000 in
theorem leafSound (wd i : Int) (hwd : i64 wd) (hi : i64 i) (vl : Value) (xs : List ByteArray) (leaf : ByteArray) (vp : Value) (path : List ByteArray) (w : World) (hl : ReadsT w vl xs) (hp : ReadsT w vp path) (hx : Fits xs) (hz : leaf.size ≤ 140737488352000) (zp : path.length ≤ 140737488355328) (hT : Tab w) :
    Calls Tryd.prog 3 #[.int .i64 wd, vl, .int .i64 i, .string leaf, vp] w fun e w' => e = .returned (.bool true) ∧ Below w.heap.size w w' := by
  have GD : Hid (ReadsT w vl xs ∧ ReadsT w vp path ∧ Tab w) := ⟨hl, hp, hT⟩
  have BC : Hid (Calls _ _ _ _ _) := begunC w hT
  have RC : Hid (∀ w', Below w.heap.size w w' → Calls _ _ _ _ _) := fun w' b => mb.rootC wd vl xs w' hwd (GD.out.2.2.down b) (GD.out.1.later b) hx
  have LC : Hid (∀ w', Below w.heap.size w w' → Calls _ _ _ _ _) := fun w' b => pLeaf wd leaf hz w' (GD.out.2.2.down b)
  have IC : Hid (∀ w', Below w.heap.size w w' → Calls _ _ _ _ _) := fun w' b => InclC wd i xs.length hwd (LF wd leaf) vp path (RT wd xs) w' (GD.out.2.1.later b) zp (GD.out.2.2.down b)
  have KC : Hid (∀ w', Below w.heap.size w w' → Calls _ _ _ _ _) := fun w' b => kLeafC wd i hwd hi vl xs leaf vp path w' (GD.out.1.later b) (GD.out.2.1.later b) hx hz zp (GD.out.2.2.down b)
  have RN : Hid (∀ w', Calls _ _ _ _ _) := fun w' => right_no wd w'
  obtain ⟨la, lc, rfl, hlc, hlh⟩ := hl
  obtain ⟨pa, pc, rfl, _⟩ := hp
  have HXX : Hid (Fits xs ∧ leaf.size ≤ 140737488352000) := ⟨hx, hz⟩
  obtain ⟨E, HE⟩ : ∃ E, Hid (incA wd i xs.length (LF wd leaf) path (RT wd xs) = E) := ⟨_, rfl⟩
  obtain ⟨y1, HY1⟩ : ∃ y, Hid (LF wd leaf = y) := ⟨_, rfl⟩
  obtain ⟨y2, HY2⟩ : ∃ y, Hid (RT wd xs = y) := ⟨_, rfl⟩
  rw [HE.out] at IC
  rw [HY1.out] at LC IC
  rw [HY2.out] at RC IC
  have STEP : Hid (∀ w0 w1, Below w.heap.size w w0 → Below w0.heap.size w0 w1 → Below w.heap.size w w1) := fun _ _ a b => over a b
  by_cases h : E = 0
  · subst h
    obtain ⟨I, N, rfl, hNN, i1, i2, i3, i4, i5⟩ := incA_ok HE.out
    obtain rfl : N = xs.length := by omega
    obtain ⟨b, off, ha, hq⟩ := hlh.resolve_left (by omega)
    subst ha
    obtain ⟨y, HY⟩ : ∃ y, Hid (xs.getD I ByteArray.empty = y) := ⟨_, rfl⟩
    have HC9 : Hid (w.cell? ⟨b, off + I, none⟩ = some (.string y)) := by show _ = _; rw [← HY.out]; exact hq I i1
    by_cases hyl : y = leaf
    · have HO : Hid (leafX wd I xs leaf path = none) := by show _ = _; unfold leafX; rw [if_pos HE.out, Int.toNat_natCast, HY.out, if_pos hyl]
      rw [HO.out] at KC
      rw [show clV none = .agg #[.string ⟨#[]⟩, .string ⟨#[]⟩, .bool false] from rfl] at KC RN
      have qy : (y.toList == leaf.toList) = true := by rw [beqL]; exact decide_eq_true hyl
      have qz : (y.toList != leaf.toList) = false := by rw [bne, qy]; rfl
      obtain ⟨n, HN⟩ : ∃ n, Hid (xs.length = n) := ⟨_, rfl⟩
      obtain ⟨m, HM⟩ : ∃ n, Hid (path.length = n) := ⟨_, rfl⟩
      rw [HN.out] at RC IC KC hlc i1 GD ⊢
      rw [HM.out] at IC KC GD ⊢
      have hin : (I : Int) < n := by omega
      have hin2 : ¬ (n : Int) ≤ I := by omega
      have d1 : decide (I < n) = true := decide_eq_true i1
      have d2 : decide (n ≤ I) = false := decide_eq_false (by omega)
      clear hlh hq hyl i2 i3 i4 i5 hNN hT hx hz zp HO HE
      go_enter Tryd.func3, Tryd.ntmps3
      go_wp2_with fail
      refine BC.out.mono ?_
      rintro e w1 ⟨rfl, hb1⟩
      have B1 : Hid (Below w.heap.size w w1) := hb1
      clear hb1
      go_wp2_with fail
      refine (RC.out _ B1.out).mono ?_
      rintro e w2 ⟨rfl, hb2⟩
      have B2 : Hid (Below w.heap.size w w2) := over B1.out hb2
      clear hb2
      go_wp2_with fail
      refine (LC.out _ B2.out).mono ?_
      rintro e w3 ⟨rfl, hb3⟩
      have B3 : Hid (Below w.heap.size w w3) := over B2.out hb3
      clear hb3
      go_wp2_with fail
      refine (IC.out _ B3.out).mono ?_
      rintro e w4 ⟨rfl, hb4⟩
      have B4 : Hid (Below w.heap.size w w4) := over B3.out hb4
      clear hb4
      have c9 : w4.cell? ⟨b, off + I, none⟩ = some (.string y) := (B4.out.cell (World.block_lt_of_cell? _ _ HC9.out)).trans HC9.out
      go_wp2_with fail
      refine (KC.out _ B4.out).mono ?_
      rintro e w5 ⟨rfl, hb5⟩
      have B5 : Hid (Below w.heap.size w w5) := over B4.out hb5
      clear hb5
      go_wp2_with fail
      refine (RN.out _).mono ?_
      rintro e w6 ⟨rfl, hb6⟩
      have B6 : Hid (Below w.heap.size w w6) := over B5.out hb6
      clear hb6
      go_wp2
      go_ret
      exact ⟨rfl, B6.out⟩
    · obtain ⟨A, B, f1, f2, f3, f4, f5⟩ := leafX_clash HXX.out.1 HXX.out.2 i1 HE.out (by rw [HY.out]; exact hyl)
      rw [f1] at KC
      have RY : Hid (∀ w', Below w.heap.size w w' → Calls _ _ _ _ _) := fun w' b => right_yes wd A B w' (GD.out.2.2.down b) (by omega) (by omega) f2 f3
      rw [show clV (some (A, B)) = .agg #[.string A, .string B, .bool true] from rfl] at KC RY
      have qy : (y.toList == leaf.toList) = false := by rw [beqL]; exact decide_eq_false hyl
      have qz : (y.toList != leaf.toList) = true := by rw [bne, qy]; rfl
      obtain ⟨n, HN⟩ : ∃ n, Hid (xs.length = n) := ⟨_, rfl⟩
      obtain ⟨m, HM⟩ : ∃ n, Hid (path.length = n) := ⟨_, rfl⟩
      rw [HN.out] at RC IC KC hlc i1 GD ⊢
      rw [HM.out] at IC KC GD ⊢
      have hin : (I : Int) < n := by omega
      have hin2 : ¬ (n : Int) ≤ I := by omega
      have d1 : decide (I < n) = true := decide_eq_true i1
      have d2 : decide (n ≤ I) = false := decide_eq_false (by omega)
      clear hlh hq hyl i2 i3 i4 i5 hNN hT hx hz zp HE f1 f2 f3 f4 f5
      go_enter Tryd.func3, Tryd.ntmps3
      go_wp2_with fail
      refine BC.out.mono ?_
      rintro e w1 ⟨rfl, hb1⟩
      have B1 : Hid (Below w.heap.size w w1) := hb1
      clear hb1
      go_wp2_with fail
      refine (RC.out _ B1.out).mono ?_
      rintro e w2 ⟨rfl, hb2⟩
      have B2 : Hid (Below w.heap.size w w2) := over B1.out hb2
      clear hb2
      go_wp2_with fail
      refine (LC.out _ B2.out).mono ?_
      rintro e w3 ⟨rfl, hb3⟩
      have B3 : Hid (Below w.heap.size w w3) := over B2.out hb3
      clear hb3
      go_wp2_with fail
      refine (IC.out _ B3.out).mono ?_
      rintro e w4 ⟨rfl, hb4⟩
      have B4 : Hid (Below w.heap.size w w4) := over B3.out hb4
      clear hb4
      have c9 : w4.cell? ⟨b, off + I, none⟩ = some (.string y) := (B4.out.cell (World.block_lt_of_cell? _ _ HC9.out)).trans HC9.out
      go_wp2_with fail
      refine (KC.out _ B4.out).mono ?_
      rintro e w5 ⟨rfl, hb5⟩
      have B5 : Hid (Below w.heap.size w w5) := over B4.out hb5
      clear hb5
      go_wp2_with fail
      refine (RY.out _ B5.out).mono ?_
      rintro e w6 ⟨rfl, hb6⟩
      have B6 : Hid (Below w.heap.size w w6) := over B5.out hb6
      clear hb6
      go_wp2
      go_ret
      exact ⟨rfl, B6.out⟩
  · have HO : Hid (leafX wd i xs leaf path = none) := by show _ = _; unfold leafX; rw [if_neg (by rw [HE.out]; exact h)]
    rw [HO.out] at KC
    rw [show clV none = .agg #[.string ⟨#[]⟩, .string ⟨#[]⟩, .bool false] from rfl] at KC RN
    have q : (E == 0) = false := by rw [beq_eq_false_iff_ne]; exact h
    have q2 : (E != 0) = true := by rw [bne, q]; rfl
    obtain ⟨n, HN⟩ : ∃ n, Hid (xs.length = n) := ⟨_, rfl⟩
    obtain ⟨m, HM⟩ : ∃ n, Hid (path.length = n) := ⟨_, rfl⟩
    rw [HN.out] at RC IC KC GD ⊢
    rw [HM.out] at IC KC GD ⊢
    clear hlh h hT hx hz zp HO HE hlc
    go_enter Tryd.func3, Tryd.ntmps3
    go_wp2_with fail
    refine BC.out.mono ?_
    rintro e w1 ⟨rfl, hb1⟩
    have B1 : Hid (Below w.heap.size w w1) := hb1
    clear hb1
    go_wp2_with fail
    refine (RC.out _ B1.out).mono ?_
    rintro e w2 ⟨rfl, hb2⟩
    have B2 : Hid (Below w.heap.size w w2) := over B1.out hb2
    clear hb2
    go_wp2_with fail
    refine (LC.out _ B2.out).mono ?_
    rintro e w3 ⟨rfl, hb3⟩
    have B3 : Hid (Below w.heap.size w w3) := over B2.out hb3
    clear hb3
    go_wp2_with fail
    refine (IC.out _ B3.out).mono ?_
    rintro e w4 ⟨rfl, hb4⟩
    have B4 : Hid (Below w.heap.size w w4) := over B3.out hb4
    clear hb4
    go_wp2_with fail
    refine (KC.out _ B4.out).mono ?_
    rintro e w5 ⟨rfl, hb5⟩
    have B5 : Hid (Below w.heap.size w w5) := over B4.out hb5
    clear hb5
    go_wp2_with fail
    refine (RN.out _).mono ?_
    rintro e w6 ⟨rfl, hb6⟩
    have B6 : Hid (Below w.heap.size w w6) := over B5.out hb6
    clear hb6
    go_wp2
    go_ret
    exact ⟨rfl, B6.out⟩
end Go.Proofs.YtfaalpdeabdhcaaDoor.uv

namespace Go.Proofs.YtfaalpdeabdhcaaDoor.uw
open Go.RowKit Go.PlainAid
open Go.Proofs.YtfaalpdeabdhcaaDoor.pj Go.Proofs.YtfaalpdeabdhcaaDoor.ca Go.Proofs.YtfaalpdeabdhcaaDoor.cp Go.Proofs.YtfaalpdeabdhcaaDoor.ka Go.Proofs.YtfaalpdeabdhcaaDoor.gb Go.Proofs.YtfaalpdeabdhcaaDoor.uv Go.Proofs.YtfaalpdeabdhcaaDoor.cv
set_option linter.unusedVariables false

theorem leaf_walk (w : World) (wd : Int) (w0 : (Lit.int .i64 wd).wf = true) (v : Value) (xs : List ByteArray) (hR : ReadsT w v xs) (hno : ∀ k c, v = .slice none k c → c = 0) (hxs : ∀ x ∈ xs, x.size ≤ 140737488351232) (hz : xs.length * 16 ≤ 140737488351232) (i : Int) (w2 : (Lit.int .i64 i).wf = true) (leaf : ByteArray) (zl : leaf.size ≤ 140737488351232) (vp : Value) (ps : List ByteArray) (hP : ReadsT w vp ps) (hnp : ∀ k c, vp = .slice none k c → c = 0) (hps : ∀ x ∈ ps, x.size ≤ 140737488351232) (hzp : ps.length * 16 ≤ 140737488351232) (T : Tab w) :
    Calls Tryd.prog 3 #[.int .i64 wd, v, .int .i64 i, .string leaf, vp] w fun e w' => e = .returned (.bool true) ∧ Below w.heap.size w w' :=
  leafSound wd i (i64_of w0) (i64_of w2) v xs leaf vp ps w hR hP ⟨fun x hx => Nat.le_trans (hxs x hx) (by omega), hz⟩ (by omega) (by omega) T
end Go.Proofs.YtfaalpdeabdhcaaDoor.uw
