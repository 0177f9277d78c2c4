import Derived.Test.YtfaalpdeabdhcaaGreatDoorG6
import Derived.Test.YtfaalpdeabdhcaaGreatDoorG4
import Derived.Test.YtfaalpdeabdhcaaGreatDoorG2
import Derived.Deep.DeepCutAuto
import Derived.BigQuiet
import Derived.Deep.AppendLies
import Derived.Test.YtfaalpdeabdhcaaGreatDoorG1
namespace Go.Proofs.YtfaalpdeabdhcaaGreatDoor.ur
open Go.RowKit Go.PlainAid
open Go.Proofs.YtfaalpdeabdhcaaGreatDoor.pl Go.Proofs.YtfaalpdeabdhcaaGreatDoor.pi Go.Proofs.YtfaalpdeabdhcaaGreatDoor.pj Go.Proofs.YtfaalpdeabdhcaaGreatDoor.ca Go.Proofs.YtfaalpdeabdhcaaGreatDoor.cb Go.Proofs.YtfaalpdeabdhcaaGreatDoor.cp Go.Proofs.YtfaalpdeabdhcaaGreatDoor.ga Go.Proofs.YtfaalpdeabdhcaaGreatDoor.gb Go.Proofs.YtfaalpdeabdhcaaGreatDoor.aa Go.Proofs.YtfaalpdeabdhcaaGreatDoor.ba Go.Proofs.YtfaalpdeabdhcaaGreatDoor.bb Go.Proofs.YtfaalpdeabdhcaaGreatDoor.ka Go.Proofs.YtfaalpdeabdhcaaGreatDoor.kb Go.Proofs.YtfaalpdeabdhcaaGreatDoor.kc Go.Proofs.YtfaalpdeabdhcaaGreatDoor.kp Go.Proofs.YtfaalpdeabdhcaaGreatDoor.lk Go.Proofs.YtfaalpdeabdhcaaGreatDoor.dc Go.Proofs.YtfaalpdeabdhcaaGreatDoor.qa Go.Proofs.YtfaalpdeabdhcaaGreatDoor.qb Go.Proofs.YtfaalpdeabdhcaaGreatDoor.qc Go.Proofs.YtfaalpdeabdhcaaGreatDoor.qd Go.Proofs.YtfaalpdeabdhcaaGreatDoor.ta Go.Proofs.YtfaalpdeabdhcaaGreatDoor.tb Go.Proofs.YtfaalpdeabdhcaaGreatDoor.td Go.Proofs.YtfaalpdeabdhcaaGreatDoor.tc Go.Proofs.YtfaalpdeabdhcaaGreatDoor.ua Go.Proofs.YtfaalpdeabdhcaaGreatDoor.ub Go.Proofs.YtfaalpdeabdhcaaGreatDoor.ma Go.Proofs.YtfaalpdeabdhcaaGreatDoor.uh Go.Proofs.YtfaalpdeabdhcaaGreatDoor.ui Go.Proofs.YtfaalpdeabdhcaaGreatDoor.uj Go.Proofs.YtfaalpdeabdhcaaGreatDoor.uk Go.Proofs.YtfaalpdeabdhcaaGreatDoor.ul Go.Proofs.YtfaalpdeabdhcaaGreatDoor.um Go.Proofs.YtfaalpdeabdhcaaGreatDoor.un Go.Proofs.YtfaalpdeabdhcaaGreatDoor.uo Go.Proofs.YtfaalpdeabdhcaaGreatDoor.uq
set_option linter.unusedVariables false

theorem lkI_ne (i a b : Nat) : lkI i a b ≠ 1 ↔ a ≤ i ∧ i < b := by
  unfold lkI
  by_cases h : a ≤ i ∧ i < b
  · rw [if_pos h]
    refine ⟨fun _ => h, fun _ => ?_⟩
    split
    · omega
    · split <;> omega
  · rw [if_neg h]
    exact ⟨fun e => absurd rfl e, fun e => absurd e h⟩
theorem dirI (i : Nat) {a b : Nat} (h1 : lkI i a b ≠ 1) (h2 : 2 ≤ b - a) : lkI i a b = 2 ↔ ¬ (true = true ∧ lkI i (a + half (b - a)) b ≠ 1) := by
  have h := (lkI_ne i a b).1 h1
  have e : lkI i a b = if i < a + half (b - a) then 2 else 3 := by unfold lkI; rw [if_pos h, if_neg (by omega)]
  rw [e, lkI_ne]
  by_cases g : i < a + half (b - a)
  · rw [if_pos g]
    exact ⟨fun _ q => by omega, fun _ => rfl⟩
  · rw [if_neg g]
    exact ⟨fun q => by omega, fun q => absurd ⟨rfl, by omega, h.2⟩ q⟩
-- the state of a claim with one leaf
structure LS (base pb lb : Nat) (leaf : ByteArray) (x : List ByteArray) (w : World) : Prop where
  p : KPile base pb x w
  l : w.cell? ⟨lb, 0, none⟩ = some (.string leaf)
  t : Tab w
theorem leaf1 (lb : Nat) (i : Int) (leaf : ByteArray) (w : World) (h : w.cell? ⟨lb, 0, none⟩ = some (.string leaf)) : Calls Tryz.prog 45 #[.int .i64 i, .pointer (some ⟨lb, 0, none⟩)] w fun e w' => e = .returned (.string leaf) ∧ w' = w := by
  go_enter Tryz.func45, Tryz.ntmps45
  go_wp2
  go_ret
  exact ⟨rfl, rfl⟩
theorem meetsI (i a b : Nat) (w : World) : Calls Tryz.prog 35 #[.agg #[.int .i64 i, .int .i64 ((i : Int) + 1)], .agg #[.int .i64 a, .int .i64 b]] w fun e w' => e = .returned (.bool (decide (lkI i a b ≠ 1))) ∧ Below w.heap.size w w' := by
  have := meetsC i (i + 1) a b w
  rw [show decide (i < b ∧ a < i + 1) = decide (lkI i a b ≠ 1) from by
    by_cases h : lkI i a b ≠ 1
    · rw [decide_eq_true h, decide_eq_true]; have := (lkI_ne i a b).1 h; omega
    · rw [decide_eq_false h, decide_eq_false]; intro g; exact h ((lkI_ne i a b).2 (by omega))] at this
  exact this
theorem leafFl {base pb lb i N : Nat} {wd : Int} {leaf : ByteArray} (hN : N ≤ 4611686018427387904) (hB : 3 ≤ base) (hne : lb ≠ pb) (hz : leaf.size ≤ 140737488352000) :
    Fl (fun b => b = pb) (LS base pb lb leaf) wd (lkI i) true (fun _ => leaf) nx (PW wd (lkI i) N) 35 37 (.func (.func 45) #[] #[.pointer (some ⟨lb, 0, none⟩)]) #[.agg #[.int .i64 i, .int .i64 ((i : Int) + 1)]] #[] #[.pointer (some ⟨pb, 0, none⟩)] #[] where
  kent := fun args w => by simp [go_sem]
  hent := fun args w => by simp [go_sem]
  later := fun h hb => ⟨h.p.keep (Kp.of_below (A := no) hb) (fun _ e => e.elim) (fun e => e), (hb.cell (World.block_lt_of_cell? _ _ h.l)).trans h.l, h.t.down hb⟩
  fl := fun h b e => by subst e; exact h.p.lt
  tab := fun h => h.t
  bnd := fun h => Nat.le_trans h.2.2 hN
  knows := fun x a b a' b' w _ _ _ _ _ => meetsI i a b w
  leaf := fun x a b _ _ _ => ⟨_, _, _, rfl, fun args w => by simp [go_sem], fun w hS => (leaf1 lb a leaf w hS.l).mono fun e w' h => ⟨h.1, by rw [h.2]; exact Below.refl _ _⟩⟩
  lsz := fun _ _ _ => hz
  hash := fun x a b w hab hP h1 hS => by
    obtain ⟨p1, p2, p3⟩ := hP
    rw [WL_take h1] at p1
    cases x with
    | nil => simp at p1
    | cons y t => exact (knext base pb y t a b w hS.p).mono fun e w' h => ⟨h.1, ⟨h.2.1, h.2.2.cell hS.l hne, hS.t.below (h.2.2.below (fun k e => by subst e; exact hS.p.new) (Nat.le_trans hS.p.new (Nat.le_of_lt hS.p.lt))) hB⟩, h.2.2⟩
  hsz := fun {x a b} hP h1 => by
    obtain ⟨p1, p2, p3⟩ := hP
    rw [WL_take h1] at p1
    have : (x.headD ByteArray.empty).size = wid wd := p2.head p1
    show (x.headD ByteArray.empty).size ≤ 32
    rw [this]
    exact qb.wid_le wd
  dir := fun _ _ h1 h2 => dirI i h1 h2
  left := fun _ hP h3 h2 => hP.left (fun a b => lkI_zero i a b) h3 h2
  right := fun _ hP h1 h3 h2 => hP.right (fun a b => lkI_zero i a b) h1 h3 h2
-- what is answered
def leafX (wd i : Int) (xs : List ByteArray) (leaf : ByteArray) (path : List ByteArray) : Option (ByteArray × ByteArray) :=
  if incA wd i xs.length (LF wd leaf) path (RT wd xs) = 0 then (if xs.getD i.toNat ByteArray.empty = leaf then none else fst1 (gw (HH wd) (lkI i.toNat) (fun _ => leaf) nx path 0 xs.length).1 (ownT wd (lkI i.toNat) xs)) else none
theorem incA_ok {wd i n : Int} {hash root : ByteArray} {path : List ByteArray} (h : incA wd i n hash path root = 0) : ∃ I N : Nat, i = I ∧ n = N ∧ I < N ∧ N ≤ 4611686018427387904 ∧ path.length = cI I N ∧ Wide wd path ∧ ldP wd I N hash path = root := by
  unfold incA at h
  by_cases q : incR wd i n path [hash, root] = 0
  · rw [if_pos q] at h
    obtain ⟨I, N, rfl, rfl, h1, h2, h3, h4, h5⟩ := incR_ok q
    rw [Int.toNat_natCast, Int.toNat_natCast] at h
    by_cases g : ldP wd I N hash path = root
    · exact ⟨I, N, rfl, rfl, h1, h2, h3, h4, g⟩
    · rw [if_neg g] at h; omega
  · rw [if_neg q] at h; exact absurd h q
set_option maxRecDepth 100000 in
set_option maxHeartbeats 6400000 in
theorem kLeafC (wd i : Int) (hwd : i64 wd) (hi : i64 i) (vl : Value) (xs : List ByteArray) (leaf : ByteArray) (vp : Value) (path : List ByteArray) (w : World) (hl : ReadsT w vl xs) (hp : ReadsT w vp path) (hx : Fits xs) (hz : leaf.size ≤ 140737488352000) (zp : path.length ≤ 140737488355328) (hT : Tab w) :
    Calls Tryz.prog 17 #[.int .i64 wd, vl, .int .i64 i, .string leaf, vp] w fun e w' => e = .returned (clV (leafX wd i xs leaf path)) ∧ Below w.heap.size w w' := by
  have OL : Hid (Old w.heap.size w vl xs ∧ Old w.heap.size w vp path ∧ Tab w ∧ Fits xs) := ⟨Old.of hl, Old.of hp, hT, hx⟩
  have RD : Hid (ReadsT w vl xs ∧ ReadsT w vp path) := ⟨hl, hp⟩
  have HZ : Hid (leaf.size ≤ 140737488352000) := hz
  have LC : Hid (∀ w', Tab w' → Calls _ _ _ _ _) := fun w' h => pLeaf wd leaf hz w' h
  have RC : Hid (∀ w', Tab w' → ReadsT w' vl xs → Calls _ _ _ _ _) := fun w' h1 h2 => mb.rootC wd _ xs w' hwd h1 h2 hx
  have IC : Hid (∀ w', Tab w' → ReadsT w' vp path → Calls _ _ _ _ _) := fun w' h1 h2 => InclC wd i xs.length hwd (LF wd leaf) vp path (RT wd xs) w' h2 zp h1
  obtain ⟨la, lc, rfl, hlc, hlh⟩ := hl
  obtain ⟨pa, pc, rfl, _⟩ := hp
  obtain ⟨W, HW⟩ : ∃ W, Hid (W = (w.alloc (.cells #[.string leaf] 9)).alloc (.cells #[.string ⟨#[]⟩, .string ⟨#[]⟩, .bool false] 30)) := ⟨_, rfl⟩
  have hw : (w.alloc (.cells #[.string leaf] 9)).alloc (.cells #[.string ⟨#[]⟩, .string ⟨#[]⟩, .bool false] 30) = W := HW.out.symm
  have s1 : (w.alloc (.cells #[.string leaf] 9)).heap.size = w.heap.size + 1 := by simp
  have BW : Hid (Below w.heap.size w W) := by rw [HW.out]; exact ((Below.refl _ _).alloc (Nat.le_refl _) _).alloc (by simp) _
  have b2 : Below (w.alloc (.cells #[.string leaf] 9)).heap.size (w.alloc (.cells #[.string leaf] 9)) W := by rw [HW.out]; exact (Below.refl _ _).alloc (Nat.le_refl _) _
  have hr : W.heap[w.heap.size + 1]? = some (.cells #[.string ⟨#[]⟩, .string ⟨#[]⟩, .bool false] 30 (0, 0)) := by rw [← s1, HW.out]; exact heap_alloc_new _ _
  have c8 : W.cell? ⟨w.heap.size, 0, none⟩ = some (.string leaf) := by
    refine (b2.cell (p := ⟨w.heap.size, 0, none⟩) (by show w.heap.size < _; rw [s1]; omega)).trans ?_
    rw [World.cell?_alloc_at _ _ _ _ rfl]; rfl
  have HC8 : Hid (W.cell? ⟨w.heap.size, 0, none⟩ = some (.string leaf)) := c8
  have HR : Hid (W.heap[w.heap.size + 1]? = some (.cells #[.string ⟨#[]⟩, .string ⟨#[]⟩, .bool false] 30 (0, 0))) := hr
  have F4 : Hid (∀ w4, Below W.heap.size W w4 → w4.heap[w.heap.size + 1]? = some (.cells #[.string ⟨#[]⟩, .string ⟨#[]⟩, .bool false] 30 (0, 0))) := fun w4 k => (k.block _ (Array.getElem?_eq_some_iff.1 HR.out).1).trans HR.out
  unfold leafX
  obtain ⟨E, HE⟩ : ∃ E, Hid (incA wd i xs.length (LF wd leaf) path (RT wd xs) = E) := ⟨_, rfl⟩
  obtain ⟨y1, HY1⟩ : ∃ y, Hid (LF wd leaf = y) := ⟨_, rfl⟩
  obtain ⟨y2, HY2⟩ : ∃ y, Hid (RT wd xs = y) := ⟨_, rfl⟩
  rw [HE.out] at IC ⊢
  rw [HY1.out] at LC IC
  rw [HY2.out] at RC IC
  obtain ⟨n, HN⟩ : ∃ n, Hid (xs.length = n) := ⟨_, rfl⟩
  obtain ⟨m, HM⟩ : ∃ n, Hid (path.length = n) := ⟨_, rfl⟩
  rw [HN.out] at RC IC RD OL hlc hlh ⊢
  rw [HM.out] at IC RD OL ⊢
  clear hT hx hz zp b2 s1 hr
  by_cases h : E = 0
  · subst h
    rw [if_pos rfl]
    obtain ⟨I, N, rfl, hNN, i1, i2, i3, i4, i5⟩ := incA_ok HE.out
    have hnN : n = N := by have := HN.out; omega
    obtain ⟨b, off, ha, hq⟩ := hlh.resolve_left (by omega)
    subst ha
    have hin : (I : Int) < n := by omega
    obtain ⟨y, HY⟩ : ∃ y, Hid (xs.getD I ByteArray.empty = y) := ⟨_, rfl⟩
    have HC9 : Hid (w.cell? ⟨b, off + I, none⟩ = some (.string y)) := by show _ = _; rw [← HY.out]; exact hq I (by omega)
    rw [Int.toNat_natCast, HY.out]
    by_cases hyl : y = leaf
    · rw [if_pos hyl]
      have qy : (y.toList == leaf.toList) = true := by rw [beqL]; exact decide_eq_true hyl
      clear hlh hq hyl i1 i2 i3 i4 i5 hnN hNN
      go_enter Tryz.func17, Tryz.ntmps17
      go_wp2_with fail
      refine (LC.out _ (OL.out.2.2.1.down BW.out)).mono ?_
      rintro e w1 ⟨rfl, hb1⟩
      have B1 : Hid (Below W.heap.size W w1) := hb1
      clear hb1 c8
      go_wp2_with fail
      refine (RC.out _ (OL.out.2.2.1.down (over BW.out B1.out)) (RD.out.1.later (over BW.out B1.out))).mono ?_
      rintro e w2 ⟨rfl, hb2⟩
      have B2 : Hid (Below W.heap.size W w2) := over B1.out hb2
      clear hb2
      go_wp2_with fail
      refine (IC.out _ (OL.out.2.2.1.down (over BW.out B2.out)) (RD.out.2.later (over BW.out B2.out))).mono ?_
      rintro e w3 ⟨rfl, hb3⟩
      have B3 : Hid (Below W.heap.size W w3) := over B2.out hb3
      clear hb3
      have c8 : w3.cell? ⟨w.heap.size, 0, none⟩ = some (.string leaf) := (B3.out.cell (World.block_lt_of_cell? _ _ HC8.out)).trans HC8.out
      have c9 : w3.cell? ⟨b, off + I, none⟩ = some (.string y) := ((over BW.out B3.out).cell (World.block_lt_of_cell? _ _ HC9.out)).trans HC9.out
      go_wp2_with fail
      go_quiet (fail)
      obtain ⟨w4, H4⟩ : ∃ x, Hid (x = w3.drewN nq) := ⟨_, rfl⟩
      rw [← H4.out]
      have B4 : Hid (Below W.heap.size W w4) := by rw [H4.out]; exact below_dN B3.out _
      clear H4 c8 c9
      have hr2 := F4.out w4 B4.out
      have e0 : w4.cell? ⟨w.heap.size + 1, 0, none⟩ = _ := cell_of_row _ _ 0 _ _ _ hr2
      have e1 : w4.cell? ⟨w.heap.size + 1, 1, none⟩ = _ := cell_of_row _ _ 1 _ _ _ hr2
      have e2 : w4.cell? ⟨w.heap.size + 1, 2, none⟩ = _ := cell_of_row _ _ 2 _ _ _ hr2
      have f0 := frozen_of_row _ _ 0 _ _ hr2
      have f1 := frozen_of_row _ _ 1 _ _ hr2
      have f2 := frozen_of_row _ _ 2 _ _ hr2
      have FIN : Hid (∀ W', W' = _ → _) := put3 w4 (w.heap.size + 1) _ _ _ (.string ⟨#[]⟩) (.string ⟨#[]⟩) (.bool false) _ hr2
      clear hr2
      go_wp2
      obtain ⟨G, hb⟩ := FIN.out _ rfl
      refine bodyPost_ret (by simp [results, Tryz.results17, go_sem, G.1, G.2.1, G.2.2]; try rfl) rfl ?_
      exact ⟨rfl, (over BW.out B4.out).trans (hb _ (by omega))⟩
    · rw [if_neg hyl]
      have qy : (y.toList == leaf.toList) = false := by rw [beqL]; exact decide_eq_false hyl
      have qw : IntKind.i64.wrap ((I : Int) + 1) = (I : Int) + 1 := by rw [IntKind.wrap_i64]; omega
      have AC : Hid (∀ w4 V, Below W.heap.size W w4 → V = (w4.alloc (.cells #[.slice pa m pc] 59)).alloc (.cells #[.int .i64 wd, .func (.func 35) #[.agg #[.int .i64 I, .int .i64 ((I : Int) + 1)]] #[], .bool true, .func (.func 45) #[] #[.pointer (some ⟨w.heap.size, 0, none⟩)], .func (.func 37) #[.pointer (some ⟨w4.heap.size, 0, none⟩)] #[]] 65) → Calls Tryz.prog 38 #[.agg #[.int .i64 wd, .func (.func 35) #[.agg #[.int .i64 I, .int .i64 ((I : Int) + 1)]] #[], .bool true, .func (.func 45) #[] #[.pointer (some ⟨w.heap.size, 0, none⟩)], .func (.func 37) #[.pointer (some ⟨w4.heap.size, 0, none⟩)] #[]], .slice (some ⟨b, off, none⟩) n lc] V fun e w' => e = .returned (clV (fst1 (gw (HH wd) (lkI I) (fun _ => leaf) nx path 0 n).1 (ownT wd (lkI I) xs))) ∧ Below W.heap.size W w') := by
        intro w4 V hb4 hV
        obtain ⟨V1, hV1⟩ : ∃ V1, V1 = w4.alloc (.cells #[.slice pa m pc] 59) := ⟨_, rfl⟩
        rw [← hV1] at hV
        have b1 : Below w4.heap.size w4 V1 := by rw [hV1]; exact (Below.refl _ _).alloc (Nat.le_refl _) _
        have b2 : Below V1.heap.size V1 V := by rw [hV]; exact (Below.refl _ _).alloc (Nat.le_refl _) _
        have n1 : V1.heap[w4.heap.size]? = some (.cells #[.slice pa m pc] 59 (0, 0)) := by rw [hV1]; exact heap_alloc_new w4 _
        have z1 : V1.heap.size = w4.heap.size + 1 := by rw [hV1]; simp
        have bV : Below W.heap.size W V := over hb4 (over b1 b2)
        have bw := over BW.out bV
        have kk : Kp no w V := Kp.of_below bw
        have hp : KPile w.heap.size w4.heap.size path V := ⟨(over BW.out hb4).size, _, (b2.block _ (by rw [z1]; omega)).trans n1, OL.out.2.1.keep kk (fun _ e => e.elim)⟩
        have lw : w.heap.size < w4.heap.size := by have h1 := hb4.size; have h2 : w.heap.size < W.heap.size := World.block_lt_of_cell? _ _ HC8.out; omega
        have hS : LS w.heap.size w4.heap.size w.heap.size leaf path V := ⟨hp, (bV.cell (World.block_lt_of_cell? _ _ HC8.out)).trans HC8.out, OL.out.2.2.1.down bw⟩
        have z := againstC (leafFl (base := w.heap.size) (pb := w4.heap.size) (lb := w.heap.size) (i := I) (N := xs.length) (wd := wd) (leaf := leaf) (by rw [HN.out]; omega) OL.out.2.2.1.big (by omega) HZ.out) hwd (KS := fun _ => True) (fun _ => trivial) (fun _ _ => trivial) w.heap.size (fun k e => by omega) (some ⟨b, off, none⟩) lc xs (by rw [HN.out]; omega) OL.out.2.2.2 (fun a b w _ _ _ => meetsI I a b w) (fun _ _ h1 h2 => dirI I h1 h2) path V ⟨by rw [HN.out, hnN, cI_is i1, i3]; exact Nat.le_refl _, i4, Nat.le_refl _⟩ hS (by rw [HN.out]; exact OL.out.1.keep kk (fun _ e => e.elim))
        rw [HN.out] at z
        refine z.mono fun e w' h => ⟨h.1, ?_⟩
        have k2 : Below W.heap.size V w' := h.2.below (fun k e => by have := hb4.size; omega) bV.size
        exact bV.trans k2
      obtain ⟨O, HO⟩ : ∃ O, Hid (fst1 (gw (HH wd) (lkI I) (fun _ => leaf) nx path 0 n).1 (ownT wd (lkI I) xs) = O) := ⟨_, rfl⟩
      obtain ⟨g0, g1, g2, hgo⟩ := clV_of O
      rw [HO.out, hgo] at AC ⊢
      clear hlh hq hyl i1 i2 i3 i4 i5 hnN hNN hgo HO
      go_enter Tryz.func17, Tryz.ntmps17
      go_wp2_with fail
      refine (LC.out _ (OL.out.2.2.1.down BW.out)).mono ?_
      rintro e w1 ⟨rfl, hb1⟩
      have B1 : Hid (Below W.heap.size W w1) := hb1
      clear hb1 c8
      go_wp2_with fail
      refine (RC.out _ (OL.out.2.2.1.down (over BW.out B1.out)) (RD.out.1.later (over BW.out B1.out))).mono ?_
      rintro e w2 ⟨rfl, hb2⟩
      have B2 : Hid (Below W.heap.size W w2) := over B1.out hb2
      clear hb2
      go_wp2_with fail
      refine (IC.out _ (OL.out.2.2.1.down (over BW.out B2.out)) (RD.out.2.later (over BW.out B2.out))).mono ?_
      rintro e w3 ⟨rfl, hb3⟩
      have B3 : Hid (Below W.heap.size W w3) := over B2.out hb3
      clear hb3
      have c8 : w3.cell? ⟨w.heap.size, 0, none⟩ = some (.string leaf) := (B3.out.cell (World.block_lt_of_cell? _ _ HC8.out)).trans HC8.out
      have c9 : w3.cell? ⟨b, off + I, none⟩ = some (.string y) := ((over BW.out B3.out).cell (World.block_lt_of_cell? _ _ HC9.out)).trans HC9.out
      go_wp2_with fail
      go_quiet (fail)
      obtain ⟨w4, H4⟩ : ∃ x, Hid (x = w3.drewN nq) := ⟨_, rfl⟩
      rw [← H4.out]
      have B4 : Hid (Below W.heap.size W w4) := by rw [H4.out]; exact below_dN B3.out _
      clear H4 c8 c9
      go_wp2_with fail
      refine (AC.out w4 _ B4.out rfl).mono ?_
      rintro e w5 ⟨rfl, hb5⟩
      have B5 : Hid (Below W.heap.size W w5) := hb5
      clear hb5
      have hr2 := F4.out w5 B5.out
      have e0 : w5.cell? ⟨w.heap.size + 1, 0, none⟩ = _ := cell_of_row _ _ 0 _ _ _ hr2
      have e1 : w5.cell? ⟨w.heap.size + 1, 1, none⟩ = _ := cell_of_row _ _ 1 _ _ _ hr2
      have e2 : w5.cell? ⟨w.heap.size + 1, 2, none⟩ = _ := cell_of_row _ _ 2 _ _ _ hr2
      have f0 := frozen_of_row _ _ 0 _ _ hr2
      have f1 := frozen_of_row _ _ 1 _ _ hr2
      have f2 := frozen_of_row _ _ 2 _ _ hr2
      have FIN : Hid (∀ W', W' = _ → _) := put3 w5 (w.heap.size + 1) _ _ _ (.string g0) (.string g1) (.bool g2) _ hr2
      clear hr2
      go_wp2
      obtain ⟨G, hb⟩ := FIN.out _ rfl
      refine bodyPost_ret (by simp [results, Tryz.results17, go_sem, G.1, G.2.1, G.2.2]; try rfl) rfl ?_
      exact ⟨rfl, (over BW.out B5.out).trans (hb _ (by omega))⟩
  · rw [if_neg h]
    have q : (E == 0) = false := by rw [beq_eq_false_iff_ne]; exact h
    have q2 : (E != 0) = true := by rw [bne, q]; rfl
    clear h hlh
    go_enter Tryz.func17, Tryz.ntmps17
    go_wp2_with fail
    refine (LC.out _ (OL.out.2.2.1.down BW.out)).mono ?_
    rintro e w1 ⟨rfl, hb1⟩
    have B1 : Hid (Below W.heap.size W w1) := hb1
    clear hb1 c8
    go_wp2_with fail
    refine (RC.out _ (OL.out.2.2.1.down (over BW.out B1.out)) (RD.out.1.later (over BW.out B1.out))).mono ?_
    rintro e w2 ⟨rfl, hb2⟩
    have B2 : Hid (Below W.heap.size W w2) := over B1.out hb2
    clear hb2
    go_wp2_with fail
    refine (IC.out _ (OL.out.2.2.1.down (over BW.out B2.out)) (RD.out.2.later (over BW.out B2.out))).mono ?_
    rintro e w3 ⟨rfl, hb3⟩
    have B3 : Hid (Below W.heap.size W w3) := over B2.out hb3
    clear hb3
    have c8 : w3.cell? ⟨w.heap.size, 0, none⟩ = some (.string leaf) := (B3.out.cell (World.block_lt_of_cell? _ _ HC8.out)).trans HC8.out
    go_wp2_with fail
    go_quiet (fail)
    obtain ⟨w4, H4⟩ : ∃ x, Hid (x = w3.drewN nq) := ⟨_, rfl⟩
    rw [← H4.out]
    have B4 : Hid (Below W.heap.size W w4) := by rw [H4.out]; exact below_dN B3.out _
    clear H4 c8
    have hr2 := F4.out w4 B4.out
    have e0 : w4.cell? ⟨w.heap.size + 1, 0, none⟩ = _ := cell_of_row _ _ 0 _ _ _ hr2
    have e1 : w4.cell? ⟨w.heap.size + 1, 1, none⟩ = _ := cell_of_row _ _ 1 _ _ _ hr2
    have e2 : w4.cell? ⟨w.heap.size + 1, 2, none⟩ = _ := cell_of_row _ _ 2 _ _ _ hr2
    have f0 := frozen_of_row _ _ 0 _ _ hr2
    have f1 := frozen_of_row _ _ 1 _ _ hr2
    have f2 := frozen_of_row _ _ 2 _ _ hr2
    have FIN : Hid (∀ W', W' = _ → _) := put3 w4 (w.heap.size + 1) _ _ _ (.string ⟨#[]⟩) (.string ⟨#[]⟩) (.bool false) _ hr2
    clear hr2
    go_wp2
    obtain ⟨G, hb⟩ := FIN.out _ rfl
    refine bodyPost_ret (by simp [results, Tryz.results17, go_sem, G.1, G.2.1, G.2.2]; try rfl) rfl ?_
    exact ⟨rfl, (over BW.out B4.out).trans (hb _ (by omega))⟩
end Go.Proofs.YtfaalpdeabdhcaaGreatDoor.ur

namespace Go.Proofs.YtfaalpdeabdhcaaGreatDoor.us
open Go.RowKit Go.PlainAid
open Go.Proofs.YtfaalpdeabdhcaaGreatDoor.pl Go.Proofs.YtfaalpdeabdhcaaGreatDoor.pg Go.Proofs.YtfaalpdeabdhcaaGreatDoor.pi Go.Proofs.YtfaalpdeabdhcaaGreatDoor.pj Go.Proofs.YtfaalpdeabdhcaaGreatDoor.ca Go.Proofs.YtfaalpdeabdhcaaGreatDoor.cb Go.Proofs.YtfaalpdeabdhcaaGreatDoor.cp Go.Proofs.YtfaalpdeabdhcaaGreatDoor.ga Go.Proofs.YtfaalpdeabdhcaaGreatDoor.gb Go.Proofs.YtfaalpdeabdhcaaGreatDoor.aa Go.Proofs.YtfaalpdeabdhcaaGreatDoor.ba Go.Proofs.YtfaalpdeabdhcaaGreatDoor.bb Go.Proofs.YtfaalpdeabdhcaaGreatDoor.ka Go.Proofs.YtfaalpdeabdhcaaGreatDoor.kb Go.Proofs.YtfaalpdeabdhcaaGreatDoor.kc Go.Proofs.YtfaalpdeabdhcaaGreatDoor.kp Go.Proofs.YtfaalpdeabdhcaaGreatDoor.lk Go.Proofs.YtfaalpdeabdhcaaGreatDoor.dc Go.Proofs.YtfaalpdeabdhcaaGreatDoor.qa Go.Proofs.YtfaalpdeabdhcaaGreatDoor.qb Go.Proofs.YtfaalpdeabdhcaaGreatDoor.qc Go.Proofs.YtfaalpdeabdhcaaGreatDoor.qd Go.Proofs.YtfaalpdeabdhcaaGreatDoor.ta Go.Proofs.YtfaalpdeabdhcaaGreatDoor.tb Go.Proofs.YtfaalpdeabdhcaaGreatDoor.td Go.Proofs.YtfaalpdeabdhcaaGreatDoor.tc Go.Proofs.YtfaalpdeabdhcaaGreatDoor.ua Go.Proofs.YtfaalpdeabdhcaaGreatDoor.ub Go.Proofs.YtfaalpdeabdhcaaGreatDoor.ma Go.Proofs.YtfaalpdeabdhcaaGreatDoor.uh Go.Proofs.YtfaalpdeabdhcaaGreatDoor.ui Go.Proofs.YtfaalpdeabdhcaaGreatDoor.uj Go.Proofs.YtfaalpdeabdhcaaGreatDoor.uk Go.Proofs.YtfaalpdeabdhcaaGreatDoor.ul Go.Proofs.YtfaalpdeabdhcaaGreatDoor.um Go.Proofs.YtfaalpdeabdhcaaGreatDoor.un Go.Proofs.YtfaalpdeabdhcaaGreatDoor.uo Go.Proofs.YtfaalpdeabdhcaaGreatDoor.uq Go.Proofs.YtfaalpdeabdhcaaGreatDoor.ur
set_option linter.unusedVariables false

set_option maxRecDepth 100000 in
theorem right_no (wd : Int) (w : World) : Calls Tryz.prog 11 #[.int .i64 wd, clV none, .bool false] w fun e w' => e = .returned (.bool true) ∧ Below w.heap.size w w' := by
  have B1 : Hid (Below w.heap.size w (w.alloc (.cells #[.string ⟨#[]⟩, .string ⟨#[]⟩, .bool false] 30))) := (Below.refl _ _).alloc (Nat.le_refl _) _
  rw [show clV none = .agg #[.string ⟨#[]⟩, .string ⟨#[]⟩, .bool false] from rfl]
  go_enter Tryz.func11, Tryz.ntmps11
  go_wp2
  go_ret
  exact ⟨rfl, B1.out⟩
set_option maxRecDepth 100000 in
set_option maxHeartbeats 3200000 in
theorem right_yes (wd : Int) (A B : ByteArray) (w : World) (hT : Tab w) (hA : A.size ≤ 1125899906842624) (hB : B.size ≤ 1125899906842624) (hne : A ≠ B) (he : cutS A wd = cutS B wd) : Calls Tryz.prog 11 #[.int .i64 wd, clV (some (A, B)), .bool true] w fun e w' => e = .returned (.bool true) ∧ Below w.heap.size w w' := by
  have C1 : Hid (∀ w', Tab w' → Calls _ _ _ _ _) := fun w' h => cutT A wd w' hA h
  have C2 : Hid (∀ w', Tab w' → Calls _ _ _ _ _) := fun w' h => cutT B wd w' hB h
  rw [← he] at C2
  obtain ⟨y, HY⟩ : ∃ y, Hid (cutS A wd = y) := ⟨_, rfl⟩
  rw [HY.out] at C1 C2
  obtain ⟨W, HW⟩ : ∃ W, Hid (W = w.alloc (.cells #[.string A, .string B, .bool true] 30)) := ⟨_, rfl⟩
  have hw : w.alloc (.cells #[.string A, .string B, .bool true] 30) = W := HW.out.symm
  have BW : Hid (Below w.heap.size w W) := by rw [HW.out]; exact (Below.refl _ _).alloc (Nat.le_refl _) _
  have HC : Hid (W.cell? ⟨w.heap.size, 0, none⟩ = some (.string A) ∧ W.cell? ⟨w.heap.size, 1, none⟩ = some (.string B) ∧ W.cell? ⟨w.heap.size, 2, none⟩ = some (.bool true)) := by show _ ∧ _ ∧ _; rw [HW.out]; exact cells3 w _ _ _ _
  have HCC : Hid (∀ w', Below W.heap.size W w' → w'.cell? ⟨w.heap.size, 0, none⟩ = some (.string A) ∧ w'.cell? ⟨w.heap.size, 1, none⟩ = some (.string B) ∧ w'.cell? ⟨w.heap.size, 2, none⟩ = some (.bool true)) := fun w' b => ⟨(b.cell (World.block_lt_of_cell? _ _ HC.out.1)).trans HC.out.1, (b.cell (World.block_lt_of_cell? _ _ HC.out.2.1)).trans HC.out.2.1, (b.cell (World.block_lt_of_cell? _ _ HC.out.2.2)).trans HC.out.2.2⟩
  have HT : Hid (Tab W) := hT.down BW.out
  have q : (A.toList == B.toList) = false := by rw [beqL]; exact decide_eq_false hne
  have q2 : (A.toList != B.toList) = true := by rw [bne, q]; rfl
  obtain ⟨c0, c1, c2⟩ := HC.out
  rw [show clV (some (A, B)) = .agg #[.string A, .string B, .bool true] from rfl]
  clear hne he hT hA hB
  go_enter Tryz.func11, Tryz.ntmps11
  go_wp2_with (rw [hw])
  refine (C1.out _ HT.out).mono ?_
  rintro e w1 ⟨rfl, hb1⟩
  have B1 : Hid (Below W.heap.size W w1) := hb1
  clear hb1 c0 c1 c2
  obtain ⟨c0, c1, c2⟩ := HCC.out w1 B1.out
  go_wp2_with fail
  refine (C2.out _ (HT.out.down B1.out)).mono ?_
  rintro e w2 ⟨rfl, hb2⟩
  have B2 : Hid (Below W.heap.size W w2) := over B1.out hb2
  clear hb2 c0 c1 c2
  obtain ⟨c0, c1, c2⟩ := HCC.out w2 B2.out
  have qy : (y.toList == y.toList) = true := beq_self_eq_true _
  go_wp2
  go_ret
  exact ⟨rfl, over BW.out B2.out⟩
end Go.Proofs.YtfaalpdeabdhcaaGreatDoor.us

namespace Go.Proofs.YtfaalpdeabdhcaaGreatDoor.ut
open Go.RowKit Go.PlainAid
open Go.Proofs.YtfaalpdeabdhcaaGreatDoor.pl Go.Proofs.YtfaalpdeabdhcaaGreatDoor.pg Go.Proofs.YtfaalpdeabdhcaaGreatDoor.pi Go.Proofs.YtfaalpdeabdhcaaGreatDoor.pj Go.Proofs.YtfaalpdeabdhcaaGreatDoor.ca Go.Proofs.YtfaalpdeabdhcaaGreatDoor.cb Go.Proofs.YtfaalpdeabdhcaaGreatDoor.cp Go.Proofs.YtfaalpdeabdhcaaGreatDoor.ga Go.Proofs.YtfaalpdeabdhcaaGreatDoor.gb Go.Proofs.YtfaalpdeabdhcaaGreatDoor.aa Go.Proofs.YtfaalpdeabdhcaaGreatDoor.ba Go.Proofs.YtfaalpdeabdhcaaGreatDoor.bb Go.Proofs.YtfaalpdeabdhcaaGreatDoor.ka Go.Proofs.YtfaalpdeabdhcaaGreatDoor.kb Go.Proofs.YtfaalpdeabdhcaaGreatDoor.kc Go.Proofs.YtfaalpdeabdhcaaGreatDoor.kp Go.Proofs.YtfaalpdeabdhcaaGreatDoor.lk Go.Proofs.YtfaalpdeabdhcaaGreatDoor.co Go.Proofs.YtfaalpdeabdhcaaGreatDoor.dc Go.Proofs.YtfaalpdeabdhcaaGreatDoor.qa Go.Proofs.YtfaalpdeabdhcaaGreatDoor.qb Go.Proofs.YtfaalpdeabdhcaaGreatDoor.qc Go.Proofs.YtfaalpdeabdhcaaGreatDoor.qd Go.Proofs.YtfaalpdeabdhcaaGreatDoor.ta Go.Proofs.YtfaalpdeabdhcaaGreatDoor.tb Go.Proofs.YtfaalpdeabdhcaaGreatDoor.td Go.Proofs.YtfaalpdeabdhcaaGreatDoor.tc Go.Proofs.YtfaalpdeabdhcaaGreatDoor.ua Go.Proofs.YtfaalpdeabdhcaaGreatDoor.ub Go.Proofs.YtfaalpdeabdhcaaGreatDoor.ma Go.Proofs.YtfaalpdeabdhcaaGreatDoor.uh Go.Proofs.YtfaalpdeabdhcaaGreatDoor.ui Go.Proofs.YtfaalpdeabdhcaaGreatDoor.uj Go.Proofs.YtfaalpdeabdhcaaGreatDoor.uk Go.Proofs.YtfaalpdeabdhcaaGreatDoor.ul Go.Proofs.YtfaalpdeabdhcaaGreatDoor.um Go.Proofs.YtfaalpdeabdhcaaGreatDoor.un Go.Proofs.YtfaalpdeabdhcaaGreatDoor.uo Go.Proofs.YtfaalpdeabdhcaaGreatDoor.uq Go.Proofs.YtfaalpdeabdhcaaGreatDoor.ur Go.Proofs.YtfaalpdeabdhcaaGreatDoor.us
set_option linter.unusedVariables false

def lfS : ByteArray := ⟨#[108, 101, 97, 102]⟩
def twS (k : Nat) : ByteArray := str [((k / 256 : Nat) : Int), ((k % 256 : Nat) : Int)]
theorem twS_size (k : Nat) : (twS k).size = 2 := rfl
theorem twS_ne (k : Nat) : twS k ≠ lfS := fun e => by have := congrArg ByteArray.size e; rw [twS_size] at this; exact absurd this (by decide)
theorem hit : LF 1 (twS 478) = LF 1 lfS := by decide +kernel
theorem incA_one {s l : ByteArray} (h : LF 1 s = LF 1 l) : incA 1 0 1 (LF 1 s) [] (RT 1 [l]) = 0 := by
  have r : ref9 1 0 0 1 [] = 0 := by unfold ref9; rfl
  have c : cnt9 1 0 0 1 [] = (0, 0) := by
    unfold cnt9
    rw [if_pos r]
    unfold num9
    rw [if_pos rfl, show (0 : Int).toNat = 0 from rfl, show (1 : Int).toNat = 1 from rfl, cI_is (by omega), cI_one (by omega)]
    rfl
  have z : ∀ x, (LF 1 x).size = wid 1 := fun x => cutS_size _ _
  have i : incR 1 0 1 [] [LF 1 s, RT 1 [l]] = 0 := by
    unfold incR
    rw [c, if_pos rfl]
    unfold rH okH
    rw [RT_one]
    simp [z]
  unfold incA
  rw [if_pos i, if_pos]
  rw [RT_one, ← h]
  show (go (WS 1 (lkI 0) (fun _ => 0)) (0, [LF 1 s], []) 0 1).1 = _
  rw [go_stop (by show (lkI 0 0 1) < 2; unfold lkI; decide)]
  rfl
theorem leafX_one {s l : ByteArray} (h : LF 1 s = LF 1 l) (hne : s ≠ l) : leafX 1 0 [l] s [] = some (tx0 s, tx0 l) := by
  unfold leafX
  rw [if_pos (by exact incA_one h), if_neg (by intro e; exact hne e.symm)]
  have k1 : lkI (0 : Int).toNat 0 1 ≠ 1 := by decide
  unfold ownT
  rw [show ([l] : List ByteArray).length = 1 from rfl, gw_leaf k1 (by omega), gw_leaf k1 (by omega)]
  show (if tx0 s = tx0 l then _ else _) = _
  rw [if_neg (fun e => hne (tx0_inj e))]
  rfl
set_option maxRecDepth 100000 in
set_option maxHeartbeats 6400000 in
theorem begunC (w : World) (hT : Tab w) : Calls Tryz.prog 7 #[] w fun e w' => e = .returned (.bool true) ∧ Below w.heap.size w w' := by
  obtain ⟨W, HW⟩ : ∃ W, Hid (W = w.alloc (.cells #[.string lfS] 9)) := ⟨_, rfl⟩
  have hw : w.alloc (.cells #[.string ⟨#[108, 101, 97, 102]⟩] 9) = W := HW.out.symm
  have BW : Hid (Below w.heap.size w W) := by rw [HW.out]; exact (Below.refl _ _).alloc (Nat.le_refl _) _
  have HR : Hid (ReadsT W (.slice (some ⟨w.heap.size, 0, none⟩) 1 1) [lfS] ∧ Tab W) := ⟨by rw [HW.out]; exact text_reads w lfS, hT.down BW.out⟩
  have LC : Hid (∀ s : ByteArray, s.size ≤ 140737488352000 → ∀ w', Tab w' → Calls _ _ _ _ _) := fun s h w' t => pLeaf 1 s h w' t
  have L0 : Hid (Calls _ _ _ _ _) := LC.out lfS (by decide) W HR.out.2
  rw [show lfS = ⟨#[108, 101, 97, 102]⟩ from rfl] at L0
  have HH0 : Hid (LF 1 ⟨#[108, 101, 97, 102]⟩ = LF 1 lfS) := rfl
  rw [HH0.out] at L0
  obtain ⟨h0, HH1⟩ : ∃ h, Hid (LF 1 lfS = h) := ⟨_, rfl⟩
  rw [HH1.out] at L0
  have CL : Hid (∀ s : ByteArray, s.size ≤ 140737488352000 → ∀ w', Below W.heap.size W w' → Calls _ _ _ _ _) := fun s h w' b => kLeafC 1 0 (by unfold i64; omega) (by unfold i64; omega) (.slice (some ⟨w.heap.size, 0, none⟩) 1 1) [lfS] s (.slice none 0 0) [] w' (HR.out.1.later b) ⟨none, 0, rfl, Nat.le_refl _, .inl rfl⟩ ⟨fun x hx => by simp only [List.mem_cons, List.not_mem_nil, or_false] at hx; rw [hx]; decide, by decide⟩ h (by simp) (HR.out.2.down b)
  have X1 : Hid (∀ s : ByteArray, LF 1 s = h0 → s ≠ lfS → leafX 1 0 [lfS] s [] = some (tx0 s, tx0 lfS)) := fun s h1 h2 => leafX_one (h1.trans HH1.out.symm) h2
  clear hT
  go_enter Tryz.func7, Tryz.ntmps7
  go_wp2_with (rw [hw])
  refine L0.out.mono ?_
  rintro e w1 ⟨rfl, hb1⟩
  have B1 : Hid (Below W.heap.size W w1) := hb1
  clear hb1
  go_wp2
  go_loopw [3, 4] (fun s i wr => ∃ (k : Nat) (x : ByteArray), k ≤ 478 ∧ i = .int .i64 k ∧ s = .string x ∧ Hid (Below W.heap.size W wr)) (fun _ i _ => (3000 - intOf i).toNat)
  case atStart => exact ⟨0, _, by omega, rfl, rfl, B1⟩
  case round =>
    obtain ⟨k, x, hk, rfl, rfl, BR⟩ := hrel
    have d1 : decide ((k : Int) < 3000) = true := decide_eq_true (by omega)
    have d2 : (k : Int) < 3000 := by omega
    have z0 : (0 : Int) ≤ k := by omega
    obtain ⟨p, HP⟩ : ∃ p : Nat, Hid (k / 256 = p) := ⟨_, rfl⟩
    obtain ⟨r, HR2⟩ : ∃ r : Nat, Hid (k % 256 = r) := ⟨_, rfl⟩
    have hp : (k : Int) / 256 = (p : Int) := by have := HP.out; omega
    have hr : (k : Int) % 256 = (r : Int) := by have := HR2.out; omega
    have hpt : Int.tdiv (k : Int) 256 = (p : Int) := by rw [Int.tdiv_eq_ediv_of_nonneg z0]; exact hp
    have hrt : Int.tmod (k : Int) 256 = (r : Int) := by rw [Int.tmod_eq_emod_of_nonneg z0]; exact hr
    have w1' : IntKind.u8.wrap (p : Int) = p := by rw [IntKind.wrap_u8']; have := HP.out; omega
    have w2' : IntKind.u8.wrap (r : Int) = r := by rw [IntKind.wrap_u8']; have := HR2.out; omega
    have w3' : IntKind.i64.wrap (p : Int) = p := by rw [IntKind.wrap_i64]; have := HP.out; omega
    have w4' : IntKind.i64.wrap (r : Int) = r := by rw [IntKind.wrap_i64]; have := HR2.out; omega
    have w5' : IntKind.i64.wrap ((k : Int) + 1) = (k : Int) + 1 := by rw [IntKind.wrap_i64]; omega
    have hcv := own_conv (wr.alloc (.cells #[.int .u8 (p : Int), .int .u8 (r : Int)] 5)) wr.heap.size (.slice (some ⟨wr.heap.size, 0, none⟩) 2 2) [(p : Int), (r : Int)] 2 rfl (by omega) (World.ownsRow_lit wr #[.int .u8 (p : Int), .int .u8 (r : Int)] 2 (Nat.le_refl _) (by unfold maxLen; omega) rfl)
    have HT : Hid (twS k = str [(p : Int), (r : Int)]) := by show _ = _; unfold twS; rw [HP.out, HR2.out]
    rw [← HT.out] at hcv
    have BA : Hid (Below W.heap.size W (wr.alloc (.cells #[.int .u8 (p : Int), .int .u8 (r : Int)] 5))) := below_al BR.out _
    have LK : Hid (Calls _ _ _ _ _) := LC.out (twS k) (by rw [twS_size]; omega) _ (HR.out.2.down BA.out)
    have CK : Hid (∀ w', Below W.heap.size W w' → Calls _ _ _ _ _) := fun w' b => CL.out (twS k) (by rw [twS_size]; omega) w' b
    have XK : Hid (LF 1 (twS k) = h0 → leafX 1 0 [lfS] (twS k) [] = some (tx0 (twS k), tx0 lfS)) := fun h => X1.out (twS k) h (twS_ne k)
    have HK : Hid (k = 478 → LF 1 (twS k) = h0) := fun e => by rw [e, hit, HH1.out]
    have HZ : Hid ((twS k).size = 2 ∧ tx0 (twS k) = (⟨#[0]⟩ : ByteArray) ++ twS k) := ⟨twS_size k, rfl⟩
    obtain ⟨t, HTT⟩ : ∃ t, Hid (twS k = t) := ⟨_, rfl⟩
    rw [HTT.out] at hcv LK CK XK HK HZ
    obtain ⟨y, HY⟩ : ∃ y, Hid (LF 1 t = y) := ⟨_, rfl⟩
    rw [HY.out] at LK XK HK
    clear HT HTT HP HR2 hp hr
    by_cases he : y = h0
    · have q : (y.toList == h0.toList) = true := by rw [beqL]; exact decide_eq_true he
      have XX : Hid (_ = _) := XK.out he
      rw [XX.out] at CK
      have HV : Hid (clV (some (tx0 t, tx0 lfS)) = .agg #[.string (tx0 t), .string ⟨#[0, 108, 101, 97, 102]⟩, .bool true]) := rfl
      rw [HV.out, HZ.out.2] at CK
      have zt : t.size = 2 := HZ.out.1
      obtain ⟨v, HVV⟩ : ∃ v, Hid ((⟨#[0]⟩ : ByteArray) ++ t = v) := ⟨_, rfl⟩
      have hv : (⟨#[0]⟩ : ByteArray) ++ t = v := HVV.out
      rw [hv] at CK
      have z1 : (⟨#[0]⟩ : ByteArray).size = 1 := rfl
      have qv : (v.toList == v.toList) = true := beq_self_eq_true _
      clear XX HV XK HK he
      go_wp2_with fail
      refine LK.out.mono ?_
      rintro e w3 ⟨rfl, hb3⟩
      have B3 : Hid (Below W.heap.size W w3) := over BA.out hb3
      clear hb3
      go_wp2_with fail
      refine (CK.out _ B3.out).mono ?_
      rintro e w4 ⟨rfl, hb4⟩
      have B4 : Hid (Below W.heap.size W w4) := over B3.out hb4
      clear hb4
      obtain ⟨c0, c1, c2⟩ := cells3 w4 (.string v) (.string ⟨#[0, 108, 101, 97, 102]⟩) (.bool true) 30
      go_wp2
      go_ret
      exact ⟨rfl, over BW.out (below_al B4.out _)⟩
    · have q : (y.toList == h0.toList) = false := by rw [beqL]; exact decide_eq_false he
      have hk2 : k + 1 ≤ 478 := by
        by_cases g : k = 478
        · exact absurd (HK.out g) he
        · omega
      clear XK HK he
      go_wp2_with fail
      refine LK.out.mono ?_
      rintro e w3 ⟨rfl, hb3⟩
      have B3 : Hid (Below W.heap.size W w3) := over BA.out hb3
      clear hb3
      go_wp2
      go_roundw
      case rel => exact ⟨k + 1, _, hk2, by go_num, rfl, B3⟩
      case measure => simp [intOf]; omega
end Go.Proofs.YtfaalpdeabdhcaaGreatDoor.ut

namespace Go.Proofs.YtfaalpdeabdhcaaGreatDoor.va
open Go.RowKit Go.PlainAid
open Go.Proofs.YtfaalpdeabdhcaaGreatDoor.pl Go.Proofs.YtfaalpdeabdhcaaGreatDoor.pi Go.Proofs.YtfaalpdeabdhcaaGreatDoor.pj Go.Proofs.YtfaalpdeabdhcaaGreatDoor.rf Go.Proofs.YtfaalpdeabdhcaaGreatDoor.ca Go.Proofs.YtfaalpdeabdhcaaGreatDoor.cb Go.Proofs.YtfaalpdeabdhcaaGreatDoor.cp Go.Proofs.YtfaalpdeabdhcaaGreatDoor.ka Go.Proofs.YtfaalpdeabdhcaaGreatDoor.kb Go.Proofs.YtfaalpdeabdhcaaGreatDoor.kc Go.Proofs.YtfaalpdeabdhcaaGreatDoor.ga Go.Proofs.YtfaalpdeabdhcaaGreatDoor.gb
set_option linter.unusedVariables false

theorem getD_at (xs : List ByteArray) (k : Nat) (h : k < xs.length) : xs.getD k ByteArray.empty = xs[k] := by
  rw [List.getD_eq_getElem?_getD, List.getElem?_eq_getElem h]; rfl
def LX (wd : Int) (xs : List ByteArray) : List ByteArray := xs.map (LF wd)
theorem LX_len (wd : Int) (xs : List ByteArray) : (LX wd xs).length = xs.length := List.length_map _
-- the leaves' hashes
set_option maxHeartbeats 1600000 in
theorem leaves {T : World → Prop} (later : ∀ {w w' : World}, T w → Below w.heap.size w w' → T w') (tab : ∀ {w : World}, T w → Tab w) (wd : Int) (v : Value) (xs : List ByteArray) (w : World) (hT : T w) (hR : ReadsT w v xs) (hf : Fits xs) :
    Calls Tryz.prog 10 #[.int .i64 wd, v] w fun e w' => (∃ u, e = .returned u ∧ w'.ownsRow w.heap.size 9 1 u (LX wd xs).length ((LX wd xs).map Value.string)) ∧ Below w.heap.size w w' := by
  obtain ⟨i9, hi, hz0, hz1, hz2⟩ := info_parts hi9
  have HIN : Hid (_ ∧ _ ∧ _ ∧ _) := ⟨hi, hz0, hz1, hz2⟩
  have HRD : Hid (ReadsT w v xs) := hR
  have LT : Hid (∀ {w w' : World}, T w → Below w.heap.size w w' → T w') := later
  have LC : Hid (∀ x ∈ xs, ∀ w, T w → Calls Tryz.prog 23 #[.int .i64 wd, .string x] w fun e w' => e = .returned (.string (LF wd x)) ∧ Below w.heap.size w w') := fun x hx w hw => pLeaf wd x (hf.each x hx) w (tab hw)
  have HT : Hid (T w) := hT
  have hnm := hf.many
  obtain ⟨a, cap, rfl, hcap, hh⟩ := hR
  obtain ⟨n, HN⟩ : ∃ n, Hid (xs.length = n) := ⟨_, rfl⟩
  rw [HN.out] at HRD hcap hnm ⊢
  clear hi hz0 hz1 hz2 hh hf hT later tab
  go_enter Tryz.func10, Tryz.ntmps10
  go_wp2
  go_loopw [5, 6] (fun out i wr => ∃ (u : Value) (k : Nat), k ≤ n ∧ out = u ∧ i = .int .i64 k ∧ Hid (wr.ownsRow w.heap.size 9 1 u k (((LX wd xs).take k).map Value.string)) ∧ Hid (Below w.heap.size w wr)) (fun _ i _ => (n - intOf i).toNat)
  case atStart => exact ⟨_, 0, by omega, rfl, rfl, World.ownsRow_nil _ _ _ _, Below.refl _ _⟩
  case round =>
    obtain ⟨u, k, hk, rfl, rfl, HO, HB⟩ := hrel
    obtain ⟨ua, uc, rfl⟩ := own_formS HO.out
    by_cases hlt : k < n
    · have hlt' : (k : Int) < n := by omega
      have hkx : k < xs.length := by rw [HN.out]; exact hlt
      obtain ⟨b, off, rfl, hc⟩ : ∃ b off, a = some ⟨b, off, none⟩ ∧ wr.cell? ⟨b, off + k, none⟩ = some (.string xs[k]) := by
        obtain ⟨a', cap', e, _, h0 | ⟨b, off, e4, hh⟩⟩ := HRD.out.later HB.out
        · omega
        · injection e with e1 _ _
          exact ⟨b, off, by rw [e1]; exact e4, by rw [hh k hkx, getD_at _ _ hkx]⟩
      have C : Hid (Calls _ _ _ _ _) := LC.out xs[k] (List.getElem_mem hkx) wr (LT.out HT.out HB.out)
      obtain ⟨x, HX⟩ : ∃ x : ByteArray, Hid (xs[k] = x) := ⟨xs[k], (rfl : xs[k] = xs[k])⟩
      obtain ⟨r, HR⟩ : ∃ r, Hid (LF wd x = r) := ⟨_, rfl⟩
      rw [HX.out] at hc C
      rw [HR.out] at C
      go_wp2_with fail
      refine C.out.mono ?_
      rintro e w1 ⟨rfl, hb⟩
      have B1 : Hid (Below w.heap.size w w1) := over HB.out hb
      have OX : Hid ((w1.alloc (.cells #[.string r] 9)).ownsRow w.heap.size 9 1 (.slice ua k uc) k (((LX wd xs).take k).map Value.string)) := (own_later HO.out hb).alloc _
      have BX : Hid (Below w.heap.size w (w1.alloc (.cells #[.string r] 9))) := B1.out.alloc B1.out.size _
      clear hb
      go_wp2_with (at_builtin; refine wpList_append_own _ rfl _ _ 22 rfl w.heap.size 9 i9 (.string ByteArray.empty) 1 16 Tryz.underlying22 HIN.out.1 HIN.out.2.1 HIN.out.2.2.1 HIN.out.2.2.2 rfl (by decide) _ k _ rfl OX.out ⟨w1.heap.size, 0, none⟩ 1 1 [.string r] rfl rfl (new_text _ _ _) (one_text _) (by unfold maxLen; omega) (by omega) BX.out.size ?_; intro p' w5 ho hg hnn; have HO5 : Hid (w5.ownsRow w.heap.size 9 1 p' (k + 1) (((LX wd xs).take k).map Value.string ++ [.string r])) := ho; have HB5 : Hid (Below w.heap.size w w5) := Below.grown BX.out hg BX.out.size (fun jj hj => (OX.out.lt _ hj).1); clear ho hg hnn)
      go_roundw
      case rel =>
        refine ⟨_, k + 1, by omega, rfl, by go_num, ?_, HB5.out⟩
        have e : (LX wd xs).take (k + 1) = (LX wd xs).take k ++ [r] := by
          rw [List.take_add_one, ← HR.out, ← HX.out]
          unfold LX
          rw [List.getElem?_map, List.getElem?_eq_getElem hkx]
          rfl
        show World.ownsRow _ _ _ _ _ _ _
        rw [e, List.map_append]
        exact HO5.out
      case measure => simp [intOf]; omega
    · have hlt' : ¬ (k : Int) < n := by omega
      obtain rfl : k = n := by omega
      go_wp2
      go_ret
      refine ⟨⟨_, rfl, ?_⟩, HB.out⟩
      have := HO.out
      rw [List.take_of_length_le (by rw [LX_len, HN.out]; omega)] at this
      rw [LX_len, HN.out]
      exact this
end Go.Proofs.YtfaalpdeabdhcaaGreatDoor.va

namespace Go.Proofs.YtfaalpdeabdhcaaGreatDoor.vb
open Go.RowKit Go.PlainAid
open Go.Proofs.YtfaalpdeabdhcaaGreatDoor.pl Go.Proofs.YtfaalpdeabdhcaaGreatDoor.pi Go.Proofs.YtfaalpdeabdhcaaGreatDoor.pj Go.Proofs.YtfaalpdeabdhcaaGreatDoor.rf Go.Proofs.YtfaalpdeabdhcaaGreatDoor.ca Go.Proofs.YtfaalpdeabdhcaaGreatDoor.cb Go.Proofs.YtfaalpdeabdhcaaGreatDoor.cp Go.Proofs.YtfaalpdeabdhcaaGreatDoor.ka Go.Proofs.YtfaalpdeabdhcaaGreatDoor.kb Go.Proofs.YtfaalpdeabdhcaaGreatDoor.kc Go.Proofs.YtfaalpdeabdhcaaGreatDoor.ga Go.Proofs.YtfaalpdeabdhcaaGreatDoor.gb Go.Proofs.YtfaalpdeabdhcaaGreatDoor.va Go.Proofs.YtfaalpdeabdhcaaGreatDoor.kp
set_option linter.unusedVariables false

def rowS (l : List ByteArray) : Array Value := (l.map Value.string).toArray
theorem rowS_set (l : List ByteArray) (i : Nat) (x : ByteArray) : (rowS l).setIfInBounds i (.string x) = rowS (l.set i x) := by simp [rowS]
theorem rowS_get (l : List ByteArray) (i : Nat) : (rowS l)[i]? = (l[i]?).map Value.string := by simp [rowS]
theorem made_rowS (n : Nat) : madeCells (Value.string ByteArray.empty).cells n = rowS (List.replicate n ByteArray.empty) := by
  apply Array.ext
  · simp [size_madeCells, rowS]
  · intro i h1 h2
    simp [madeCells, rowS, Value.cells, Nat.mod_one]
theorem make_rowS (n : Nat) (hn : n * 16 ≤ 281474976710656) (w : World) :
    (Instr.makeSlice 22 (.int .i64 n) (.int .i64 n)).run Tryz.prog w = .ok (.slice (some ⟨w.heap.size, 0, none⟩) n n) (w.alloc (.cells (rowS (List.replicate n ByteArray.empty)) 9)) := by
  obtain ⟨i, hi, hz0, hz1, hz2⟩ := info_parts hi9
  have h := run_make (P := Tryz.prog) w 22 9 i (.string ByteArray.empty) Tryz.underlying22 hi hz0 .i64 .i64 (n : Int) (n : Int) (by omega) (by omega) (by rw [hz2]; omega) (by omega)
  rw [hz1] at h
  simp only [Int.toNat_natCast, Nat.mul_one] at h
  rw [made_rowS] at h
  exact h
theorem set_take (l : List ByteArray) (n k : Nat) (h : k < n) (hl : k < l.length) : (l.take k ++ List.replicate (n - k) ByteArray.empty).set k l[k] = l.take (k + 1) ++ List.replicate (n - (k + 1)) ByteArray.empty := by
  have e : n - k = (n - (k + 1)) + 1 := by omega
  rw [e, List.replicate_succ, List.set_append_right _ _ (by rw [List.length_take]; omega), List.length_take, Nat.min_eq_left (by omega), Nat.sub_self, List.set_cons_zero, List.take_succ_eq_append_getElem hl, List.append_assoc]
  rfl
set_option maxHeartbeats 1600000 in
theorem hashesC (wd : Int) (v : Value) (xs : List ByteArray) (w : World) (hT : Tab w) (hR : ReadsT w v xs) (hf : Fits xs) :
    Calls Tryz.prog 33 #[.int .i64 wd, v] w fun e w' => (∃ u, e = .returned u ∧ ReadsT w' u (LX wd xs)) ∧ Below w.heap.size w w' := by
  have HRD : Hid (ReadsT w v xs) := hR
  have LC : Hid (∀ x ∈ xs, ∀ w, Tab w → Calls Tryz.prog 23 #[.int .i64 wd, .string x] w fun e w' => e = .returned (.string (LF wd x)) ∧ Below w.heap.size w w') := fun x hx w hw => pLeaf wd x (hf.each x hx) w hw
  have HT : Hid (Tab w) := hT
  have hnm := hf.many
  obtain ⟨a, cap, rfl, hcap, hh⟩ := hR
  obtain ⟨n, HN⟩ : ∃ n, Hid (xs.length = n) := ⟨_, rfl⟩
  rw [HN.out] at HRD hcap hnm ⊢
  have hmk := make_rowS n (by omega) w
  obtain ⟨W, HW⟩ : ∃ W, Hid (W = w.alloc (.cells (rowS (List.replicate n ByteArray.empty)) 9)) := ⟨_, rfl⟩
  rw [← HW.out] at hmk
  have BW : Hid (Below w.heap.size w W) := by rw [HW.out]; exact (Below.refl _ _).alloc (Nat.le_refl _) _
  have HG : Hid (W.heap[w.heap.size]? = some (.cells (rowS (List.replicate n ByteArray.empty)) 9 (0, 0))) := by show _ = _; rw [HW.out]; exact heap_alloc_new w _
  clear hh hf hT
  go_enter Tryz.func33, Tryz.ntmps33
  go_wp2
  go_loopw [13] (fun i wr => ∃ (k : Nat), k ≤ n ∧ i = .int .i64 k ∧ Hid (wr.heap[w.heap.size]? = some (.cells (rowS ((LX wd xs).take k ++ List.replicate (n - k) ByteArray.empty)) 9 (0, 0))) ∧ Hid (Below w.heap.size w wr)) (fun i _ => (n - intOf i).toNat)
  case atStart => exact ⟨0, by omega, rfl, by simpa using HG, BW⟩
  case round =>
    obtain ⟨k, hk, rfl, HO, HB⟩ := hrel
    by_cases hlt : k < n
    · have hlt' : (k : Int) < n := by omega
      have hkx : k < xs.length := by rw [HN.out]; exact hlt
      obtain ⟨b, off, rfl, hc⟩ : ∃ b off, a = some ⟨b, off, none⟩ ∧ wr.cell? ⟨b, off + k, none⟩ = some (.string xs[k]) := by
        obtain ⟨a', cap', e, _, h0 | ⟨b, off, e4, hh⟩⟩ := HRD.out.later HB.out
        · omega
        · injection e with e1 _ _
          exact ⟨b, off, by rw [e1]; exact e4, by rw [hh k hkx, getD_at _ _ hkx]⟩
      have C : Hid (Calls _ _ _ _ _) := LC.out xs[k] (List.getElem_mem hkx) wr (HT.out.down HB.out)
      have HS : Hid ((LX wd xs).take (k + 1) ++ List.replicate (n - (k + 1)) ByteArray.empty = ((LX wd xs).take k ++ List.replicate (n - k) ByteArray.empty).set k (LF wd xs[k])) := by
        have hl : k < (LX wd xs).length := by rw [LX_len]; exact hkx
        have := set_take (LX wd xs) n k hlt hl
        rw [show (LX wd xs)[k] = LF wd xs[k] from List.getElem_map _] at this
        exact this.symm
      obtain ⟨x, HX⟩ : ∃ x : ByteArray, Hid (xs[k] = x) := ⟨xs[k], (rfl : xs[k] = xs[k])⟩
      rw [HX.out] at hc C HS
      obtain ⟨r, HR⟩ : ∃ r, Hid (LF wd x = r) := ⟨_, rfl⟩
      rw [HR.out] at C HS
      go_wp2_with fail
      refine C.out.mono ?_
      rintro e w1 ⟨rfl, hb⟩
      have B1 : Hid (Below w.heap.size w w1) := over HB.out hb
      have hr1 : w1.heap[w.heap.size]? = _ := (hb.block _ (Array.getElem?_eq_some_iff.1 HO.out).1).trans HO.out
      have c1 : w1.cell? ⟨w.heap.size, k, none⟩ = some (.string (((LX wd xs).take k ++ List.replicate (n - k) ByteArray.empty).getD k ByteArray.empty)) := by
        have hL : k < ((LX wd xs).take k ++ List.replicate (n - k) ByteArray.empty).length := by rw [List.length_append, List.length_take, LX_len, List.length_replicate]; omega
        rw [cell_of_row _ _ k _ _ _ hr1, rowS_get, List.getElem?_eq_getElem hL, getD_at _ _ hL]; rfl
      have f1 := frozen_of_row _ _ k _ _ hr1
      have HO2 : Hid ((w1.setCell ⟨w.heap.size, k, none⟩ (.string r)).heap[w.heap.size]? = some (.cells (rowS ((LX wd xs).take (k + 1) ++ List.replicate (n - (k + 1)) ByteArray.empty)) 9 (0, 0))) := by
        have := heap_setCell_same _ _ k _ _ (.string r) hr1
        rw [rowS_set, ← HS.out] at this
        exact this
      have HB2 : Hid (Below w.heap.size w (w1.setCell ⟨w.heap.size, k, none⟩ (.string r))) := B1.out.trans ((Kp.setCell (A := fun b => b = w.heap.size) w1 _ _ _ rfl).below (fun q e => by omega) B1.out.size)
      clear hb hr1
      go_wp2
      go_roundw
      case rel => exact ⟨k + 1, by omega, by go_num, HO2, HB2⟩
      case measure => simp [intOf]; omega
    · have hlt' : ¬ (k : Int) < n := by omega
      obtain rfl : k = n := by omega
      have HRR : Hid (ReadsT wr (.slice (some ⟨w.heap.size, 0, none⟩) k k) (LX wd xs)) := by
        have hl : (LX wd xs).length = k := by rw [LX_len]; exact HN.out
        refine ⟨some ⟨w.heap.size, 0, none⟩, k, by rw [hl], by rw [hl]; omega, .inr ⟨w.heap.size, 0, rfl, fun i hi => ?_⟩⟩
        have h := HO.out
        rw [Nat.sub_self, List.replicate_zero, List.append_nil, List.take_of_length_le (by omega)] at h
        rw [cell_of_row _ _ _ _ _ _ h, Nat.zero_add, rowS_get, List.getElem?_eq_getElem hi, getD_at _ _ hi]; rfl
      go_wp2
      go_ret
      exact ⟨⟨_, rfl, HRR.out⟩, HB.out⟩
end Go.Proofs.YtfaalpdeabdhcaaGreatDoor.vb

namespace Go.Proofs.YtfaalpdeabdhcaaGreatDoor.vc
open Go.RowKit Go.PlainAid
open Go.Proofs.YtfaalpdeabdhcaaGreatDoor.pj Go.Proofs.YtfaalpdeabdhcaaGreatDoor.rf Go.Proofs.YtfaalpdeabdhcaaGreatDoor.ca Go.Proofs.YtfaalpdeabdhcaaGreatDoor.cb Go.Proofs.YtfaalpdeabdhcaaGreatDoor.cp Go.Proofs.YtfaalpdeabdhcaaGreatDoor.ka Go.Proofs.YtfaalpdeabdhcaaGreatDoor.kb Go.Proofs.YtfaalpdeabdhcaaGreatDoor.ga Go.Proofs.YtfaalpdeabdhcaaGreatDoor.gb
set_option linter.unusedVariables false

theorem getD_at (xs : List ByteArray) (k : Nat) (h : k < xs.length) : xs.getD k ByteArray.empty = xs[k] := by
  rw [List.getD_eq_getElem?_getD, List.getElem?_eq_getElem h]; rfl
theorem lists_eq {xs ys : List ByteArray} (hl : xs.length = ys.length) (h : ∀ j, j < xs.length → xs.getD j ByteArray.empty = ys.getD j ByteArray.empty) : xs = ys := by
  apply List.ext_getElem hl
  intro j h1 h2
  have := h j h1
  rwa [getD_at _ _ h1, getD_at _ _ h2] at this
theorem beqL (a b : ByteArray) : (a.toList == b.toList) = decide (a = b) := by
  by_cases h : a = b
  · subst h; simp
  · rw [decide_eq_false h, beq_eq_false_iff_ne, ByteArray.toList_eq, ByteArray.toList_eq]
    intro e
    exact h (ByteArray.ext (Array.ext' e))
theorem beqLit (a : ByteArray) (l : List UInt8) : (a.toList == l) = decide (a = ⟨l.toArray⟩) := by
  rw [← beqL, ByteArray.toList_eq, ByteArray.toList_eq]
-- two lists held against each other: nothing is written
set_option maxHeartbeats 1600000 in
theorem same (va vb : Value) (xs ys : List ByteArray) (w : World) (h1 : ReadsT w va xs) (h2 : ReadsT w vb ys) (hz : xs.length ≤ 140737488355328) :
    Calls Tryz.prog 34 #[va, vb] w fun e w' => e = .returned (.bool (decide (xs = ys))) ∧ ∃ m, w' = w.drewN m := by
  obtain ⟨a, cap, rfl, _, h1⟩ := h1
  obtain ⟨a', cap', rfl, _, h2⟩ := h2
  by_cases hl : xs.length = ys.length
  · have HC : Hid (xs.length = 0 ∨ ∃ b off, a = some ⟨b, off, none⟩ ∧ ∀ i, i < xs.length → w.cell? ⟨b, off + i, none⟩ = some (.string (xs.getD i ByteArray.empty))) := h1
    rw [← hl] at h2 ⊢
    have HC' : Hid (xs.length = 0 ∨ ∃ b off, a' = some ⟨b, off, none⟩ ∧ ∀ i, i < xs.length → w.cell? ⟨b, off + i, none⟩ = some (.string (ys.getD i ByteArray.empty))) := h2
    have HL : Hid (xs.length = ys.length) := hl
    obtain ⟨n, HN⟩ : ∃ n, Hid (xs.length = n) := ⟨_, rfl⟩
    obtain ⟨r, HR⟩ : ∃ r, Hid (decide (xs = ys) = r) := ⟨_, rfl⟩
    rw [HR.out]
    rw [HN.out] at HC HC' hz ⊢
    clear h1 h2 hl
    have hl' : ((n : Int) == (n : Int)) = true := beq_self_eq_true _
    go_enter Tryz.func34, Tryz.ntmps34
    go_wp2
    go_loopw [13] (fun i wr => ∃ k m : Nat, k ≤ n ∧ i = .int .i64 k ∧ Hid (∀ j, j < k → xs.getD j ByteArray.empty = ys.getD j ByteArray.empty) ∧ wr = w.drewN m) (fun i _ => (n - intOf i).toNat)
    case atStart => exact ⟨0, 0, by omega, rfl, fun j h => by omega, rfl⟩
    case round =>
      obtain ⟨k, m, hk, rfl, HS, rfl⟩ := hrel
      by_cases hlt : k < n
      · have hlt' : (k : Int) < n := by omega
        obtain ⟨b, off, rfl, hc⟩ : ∃ b off, a = some ⟨b, off, none⟩ ∧ ∀ i, i < n → w.cell? ⟨b, off + i, none⟩ = some (.string (xs.getD i ByteArray.empty)) := by
          rcases HC.out with h | h
          · omega
          · exact h
        obtain ⟨b', off', rfl, hc'⟩ : ∃ b off, a' = some ⟨b, off, none⟩ ∧ ∀ i, i < n → w.cell? ⟨b, off + i, none⟩ = some (.string (ys.getD i ByteArray.empty)) := by
          rcases HC'.out with h | h
          · omega
          · exact h
        obtain ⟨X, HX⟩ : ∃ X, Hid (xs.getD k ByteArray.empty = X) := ⟨_, rfl⟩
        obtain ⟨Y, HY⟩ : ∃ X, Hid (ys.getD k ByteArray.empty = X) := ⟨_, rfl⟩
        have c1 := hc k hlt
        have c2 := hc' k hlt
        rw [HX.out] at c1
        rw [HY.out] at c2
        clear hc hc'
        by_cases hxy : X = Y
        · have hb : (X.toList == Y.toList) = true := by rw [beqL]; exact decide_eq_true hxy
          have HS1 : Hid (∀ j, j < k + 1 → xs.getD j ByteArray.empty = ys.getD j ByteArray.empty) := fun j hj => by
            rcases Nat.lt_or_ge j k with h | h
            · exact HS.out j h
            · obtain rfl : j = k := by omega
              rw [HX.out, HY.out, hxy]
          clear hxy
          go_wp2_with fail
          go_quiet (fail)
          go_wp2
          go_roundw
          case rel => exact ⟨k + 1, _, by omega, by go_num, HS1.out, rfl⟩
          case measure => simp [intOf]; omega
        · have hb : (X.toList == Y.toList) = false := by rw [beqL]; exact decide_eq_false hxy
          have HE : Hid (r = false) := by
            show _ = _
            rw [← HR.out]
            apply decide_eq_false
            intro e
            apply hxy
            rw [← HX.out, ← HY.out, e]
          clear hxy
          go_wp2_with fail
          go_quiet (fail)
          go_wp2
          go_ret
          exact ⟨by rw [HE.out]; rfl, m + nq, by rw [World.drewN_drewN]⟩
      · have hlt' : ¬ (k : Int) < n := by omega
        have HE : Hid (r = true) := by
          show _ = _
          rw [← HR.out]
          apply decide_eq_true
          exact lists_eq HL.out (fun j hj => HS.out j (by rw [HN.out] at hj; omega))
        go_wp2
        go_ret
        exact ⟨by rw [HE.out]; rfl, _, rfl⟩
  · rw [decide_eq_false (fun e => hl (by rw [e]))]
    have hb : ((xs.length : Int) == (ys.length : Int)) = false := by rw [beq_eq_false_iff_ne]; omega
    clear hl h1 h2
    go_enter Tryz.func34, Tryz.ntmps34
    go_wp2
    go_ret
    exact ⟨rfl, 0, rfl⟩
-- a list held against itself
end Go.Proofs.YtfaalpdeabdhcaaGreatDoor.vc

namespace Go.Proofs.YtfaalpdeabdhcaaGreatDoor.vd
open Go.RowKit Go.PlainAid
open Go.Proofs.YtfaalpdeabdhcaaGreatDoor.pl Go.Proofs.YtfaalpdeabdhcaaGreatDoor.pi Go.Proofs.YtfaalpdeabdhcaaGreatDoor.pj Go.Proofs.YtfaalpdeabdhcaaGreatDoor.ca Go.Proofs.YtfaalpdeabdhcaaGreatDoor.cb Go.Proofs.YtfaalpdeabdhcaaGreatDoor.cp Go.Proofs.YtfaalpdeabdhcaaGreatDoor.ga Go.Proofs.YtfaalpdeabdhcaaGreatDoor.gb Go.Proofs.YtfaalpdeabdhcaaGreatDoor.aa Go.Proofs.YtfaalpdeabdhcaaGreatDoor.ba Go.Proofs.YtfaalpdeabdhcaaGreatDoor.bb Go.Proofs.YtfaalpdeabdhcaaGreatDoor.ka Go.Proofs.YtfaalpdeabdhcaaGreatDoor.kb Go.Proofs.YtfaalpdeabdhcaaGreatDoor.kc Go.Proofs.YtfaalpdeabdhcaaGreatDoor.kp Go.Proofs.YtfaalpdeabdhcaaGreatDoor.lk Go.Proofs.YtfaalpdeabdhcaaGreatDoor.lm Go.Proofs.YtfaalpdeabdhcaaGreatDoor.co Go.Proofs.YtfaalpdeabdhcaaGreatDoor.dc Go.Proofs.YtfaalpdeabdhcaaGreatDoor.qa Go.Proofs.YtfaalpdeabdhcaaGreatDoor.qb Go.Proofs.YtfaalpdeabdhcaaGreatDoor.qc Go.Proofs.YtfaalpdeabdhcaaGreatDoor.qj Go.Proofs.YtfaalpdeabdhcaaGreatDoor.qk Go.Proofs.YtfaalpdeabdhcaaGreatDoor.qo Go.Proofs.YtfaalpdeabdhcaaGreatDoor.qp Go.Proofs.YtfaalpdeabdhcaaGreatDoor.ta Go.Proofs.YtfaalpdeabdhcaaGreatDoor.tb Go.Proofs.YtfaalpdeabdhcaaGreatDoor.td Go.Proofs.YtfaalpdeabdhcaaGreatDoor.tc Go.Proofs.YtfaalpdeabdhcaaGreatDoor.ua Go.Proofs.YtfaalpdeabdhcaaGreatDoor.ub Go.Proofs.YtfaalpdeabdhcaaGreatDoor.ma Go.Proofs.YtfaalpdeabdhcaaGreatDoor.uh Go.Proofs.YtfaalpdeabdhcaaGreatDoor.ui Go.Proofs.YtfaalpdeabdhcaaGreatDoor.uj Go.Proofs.YtfaalpdeabdhcaaGreatDoor.uk Go.Proofs.YtfaalpdeabdhcaaGreatDoor.ul Go.Proofs.YtfaalpdeabdhcaaGreatDoor.um Go.Proofs.YtfaalpdeabdhcaaGreatDoor.un Go.Proofs.YtfaalpdeabdhcaaGreatDoor.uo Go.Proofs.YtfaalpdeabdhcaaGreatDoor.uq Go.Proofs.YtfaalpdeabdhcaaGreatDoor.va
set_option linter.unusedVariables false

theorem lkS_ne (lo hi a b : Nat) : lkS lo hi a b ≠ 1 ↔ lo < b ∧ a < hi := by
  unfold lkS
  by_cases h : b ≤ lo ∨ hi ≤ a
  · rw [if_pos h]; exact ⟨fun e => absurd rfl e, fun e => by omega⟩
  · rw [if_neg h]
    refine ⟨fun _ => by omega, fun _ => ?_⟩
    split <;> omega
theorem lkS_zero (lo hi a b : Nat) (h : lkS lo hi a b = 0) : ¬ 2 ≤ b - a := by
  unfold lkS at h
  split at h
  · omega
  · split at h <;> omega
theorem dirS (lo hi : Nat) {a b : Nat} (h1 : lkS lo hi a b ≠ 1) (h2 : 2 ≤ b - a) (q : Prop) : lkS lo hi a b = 2 ↔ ¬ (false = true ∧ q) := by
  refine ⟨fun _ h => Bool.noConfusion h.1, fun _ => ?_⟩
  unfold lkS at h1 ⊢
  split
  · rename_i h; rw [if_pos h] at h1; exact absurd rfl h1
  · rw [if_neg (by omega)]
-- the state of a claim with a range of leaves
structure GS (base pb cb lb lo : Nat) (vc : Value) (cs : List ByteArray) (x : List ByteArray) (w : World) : Prop where
  p : KPile base pb x w
  c : w.cell? ⟨cb, 0, none⟩ = some vc
  r : Old base w vc cs
  l : w.cell? ⟨lb, 0, none⟩ = some (.int .i64 lo)
  t : Tab w
theorem range1 (lb cb lo i n cap : Nat) (a : Option Addr) (xs : List ByteArray) (w : World) (hl : w.cell? ⟨lb, 0, none⟩ = some (.int .i64 lo)) (h : w.cell? ⟨cb, 0, none⟩ = some (.slice a n cap)) (hR : ReadsT w (.slice a n cap) xs) (h1 : lo ≤ i) (hi : i - lo < xs.length) (hb : i ≤ 4611686018427387904) :
    Calls Tryz.prog 36 #[.int .i64 i, .pointer (some ⟨cb, 0, none⟩), .pointer (some ⟨lb, 0, none⟩)] w fun e w' => e = .returned (.string (xs.getD (i - lo) ByteArray.empty)) ∧ w' = w := by
  obtain ⟨a', cap', e, hc, hh⟩ := hR
  injection e with e1 e2 e3
  subst e1 e2
  obtain ⟨b, off, ha, hq⟩ := hh.resolve_left (by omega)
  subst ha
  have c := hq (i - lo) hi
  obtain ⟨d, HD⟩ : ∃ d, Hid (i - lo = d) := ⟨_, rfl⟩
  have e1 : IntKind.i64.wrap ((i : Int) - lo) = (d : Int) := by rw [IntKind.wrap_i64]; have := HD.out; omega
  have e2 : (i : Int) - lo = (d : Int) := by have := HD.out; omega
  have e3 : IntKind.i64.wrap (d : Int) = d := by rw [IntKind.wrap_i64]; have := HD.out; omega
  rw [HD.out] at c hi ⊢
  have hi2 : (d : Int) < (xs.length : Nat) := by omega
  obtain ⟨x, HX⟩ : ∃ x, Hid (xs.getD d ByteArray.empty = x) := ⟨_, rfl⟩
  rw [HX.out] at c ⊢
  obtain ⟨n, HN⟩ : ∃ n, Hid (xs.length = n) := ⟨_, rfl⟩
  rw [HN.out] at h hi2
  clear hh hq hi hc h1
  go_enter Tryz.func36, Tryz.ntmps36
  go_wp2
  go_ret
  exact ⟨rfl, rfl⟩
theorem meetsS (lo hi a b : Nat) (w : World) : Calls Tryz.prog 35 #[.agg #[.int .i64 lo, .int .i64 hi], .agg #[.int .i64 a, .int .i64 b]] w fun e w' => e = .returned (.bool (decide (lkS lo hi a b ≠ 1))) ∧ Below w.heap.size w w' := by
  have := meetsC lo hi a b w
  rw [show decide (lo < b ∧ a < hi) = decide (lkS lo hi a b ≠ 1) from by
    by_cases h : lkS lo hi a b ≠ 1
    · rw [decide_eq_true h, decide_eq_true ((lkS_ne lo hi a b).1 h)]
    · rw [decide_eq_false h, decide_eq_false (fun g => h ((lkS_ne lo hi a b).2 g))]] at this
  exact this
theorem rangeFl {base pb cb lb lo hi N n cap : Nat} {ad : Option Addr} {wd : Int} {cs : List ByteArray} (hN : N ≤ 4611686018427387904) (hB : 3 ≤ base) (hc : cb ≠ pb) (hl : lb ≠ pb) (hh : hi = lo + cs.length) (hf : Fits cs) :
    Fl (fun b => b = pb) (GS base pb cb lb lo (.slice ad n cap) cs) wd (lkS lo hi) false (fun p => cs.getD (p - lo) ByteArray.empty) nx (PW wd (lkS lo hi) N) 35 37 (.func (.func 36) #[] #[.pointer (some ⟨cb, 0, none⟩), .pointer (some ⟨lb, 0, none⟩)]) #[.agg #[.int .i64 lo, .int .i64 hi]] #[] #[.pointer (some ⟨pb, 0, none⟩)] #[] where
  kent := fun args w => by simp [go_sem]
  hent := fun args w => by simp [go_sem]
  later := fun h hb => ⟨h.p.keep (Kp.of_below (A := no) hb) (fun _ e => e.elim) (fun e => e), (hb.cell (World.block_lt_of_cell? _ _ h.c)).trans h.c, h.r.keep (Kp.of_below (A := no) hb) (fun _ e => e.elim), (hb.cell (World.block_lt_of_cell? _ _ h.l)).trans h.l, h.t.down hb⟩
  fl := fun h b e => by subst e; exact h.p.lt
  tab := fun h => h.t
  bnd := fun h => Nat.le_trans h.2.2 hN
  knows := fun x a b a' b' w _ _ _ _ _ => meetsS lo hi a b w
  leaf := fun x a b h1 hP hk => ⟨_, _, _, rfl, fun args w => by simp [go_sem], fun w hS => (range1 lb cb lo a n cap ad cs w hS.l hS.c (Old.reads hS.r) (by have := (lkS_ne lo hi a b).1 hk; omega) (by have := (lkS_ne lo hi a b).1 hk; omega) (by have := hP.2.2; omega)).mono fun e w' h => ⟨h.1, by rw [h.2]; exact Below.refl _ _⟩⟩
  lsz := fun {x a b} h1 hP hk => by
    have h : a - lo < cs.length := by have := (lkS_ne lo hi a b).1 hk; omega
    show (cs.getD (a - lo) ByteArray.empty).size ≤ _
    rw [List.getD_eq_getElem?_getD, List.getElem?_eq_getElem h]
    exact hf.each _ (List.getElem_mem h)
  hash := fun x a b w hab hP h1 hS => by
    obtain ⟨p1, p2, p3⟩ := hP
    rw [WL_take h1] at p1
    cases x with
    | nil => simp at p1
    | cons y t => exact (knext base pb y t a b w hS.p).mono fun e w' h => ⟨h.1, ⟨h.2.1, h.2.2.cell hS.c hc, hS.r.keep h.2.2 (fun k e => by subst e; exact hS.p.new), h.2.2.cell hS.l hl, hS.t.below (h.2.2.below (fun k e => by subst e; exact hS.p.new) (Nat.le_trans hS.p.new (Nat.le_of_lt hS.p.lt))) hB⟩, h.2.2⟩
  hsz := fun {x a b} hP h1 => by
    obtain ⟨p1, p2, p3⟩ := hP
    rw [WL_take h1] at p1
    have : (x.headD ByteArray.empty).size = wid wd := p2.head p1
    show (x.headD ByteArray.empty).size ≤ 32
    rw [this]
    exact qb.wid_le wd
  dir := fun _ _ h1 h2 => dirS lo hi h1 h2 _
  left := fun _ hP h3 h2 => hP.left (fun a b => lkS_zero lo hi a b) h3 h2
  right := fun _ hP h1 h3 h2 => hP.right (fun a b => lkS_zero lo hi a b) h1 h3 h2
-- what is answered
def rangeX (wd lo : Int) (xs cs proof : List ByteArray) : Option (ByteArray × ByteArray) :=
  if rngA wd lo xs.length (LX wd cs) proof (RT wd xs) = 0 then (if slc xs lo.toNat (lo.toNat + cs.length) = cs then none else fst1 (gw (HH wd) (lkS lo.toNat (lo.toNat + cs.length)) (fun p => cs.getD (p - lo.toNat) ByteArray.empty) nx proof 0 xs.length).1 (ownT wd (lkS lo.toNat (lo.toNat + cs.length)) xs)) else none
-- what an accepted range tells
theorem rngA_ok {wd lo : Int} {N : Nat} {hs proof : List ByteArray} {root : ByteArray} (h : rngA wd lo N hs proof root = 0) : ∃ L : Nat, lo = L ∧ 1 ≤ hs.length ∧ L + hs.length ≤ N ∧ N ≤ 4611686018427387904 ∧ proof.length = (WL (lkS L (L + hs.length)) 0 N).length ∧ Wide wd proof ∧ (gp wd (lkS L (L + hs.length)) hs proof 0 N).1 = root := by
  unfold rngA at h
  by_cases h0 : (cnt9 3 lo (lo + hs.length) N []).2 = 0
  · rw [if_pos h0] at h
    have hr : ref9 3 lo (lo + hs.length) N [] = 0 := by
      unfold cnt9 at h0
      by_cases g : ref9 3 lo (lo + hs.length) N [] = 0
      · exact g
      · rw [if_neg g] at h0; exact h0
    have hc : (cnt9 3 lo (lo + hs.length) N []).1 = ((num9 3 lo (lo + hs.length) N [] : Nat) : Int) := by unfold cnt9; rw [if_pos hr]
    unfold ref9 at hr
    rw [if_neg (by omega)] at hr
    by_cases k2 : (N : Int) < 0 ∨ 4611686018427387904 < (N : Int)
    · rw [if_pos k2] at hr; omega
    rw [if_neg k2, if_neg (by omega), if_neg (by omega), if_pos rfl] at hr
    by_cases g : lo < 0 ∨ lo + hs.length ≤ lo ∨ (N : Int) < lo + hs.length
    · rw [if_pos g] at hr; omega
    obtain ⟨L, rfl⟩ : ∃ A : Nat, lo = A := ⟨lo.toNat, by omega⟩
    have e1 : (((L : Int) + (hs.length : Int))).toNat = L + hs.length := by omega
    rw [hc] at h
    unfold num9 at h
    rw [if_neg (by omega), if_neg (by omega), if_pos rfl, Int.toNat_natCast, Int.toNat_natCast, e1, ← (counts L (L + hs.length) N (by omega) (by omega)).1] at h
    unfold qm.seen at h
    by_cases q : rH wd ((WL (lkS L (L + hs.length)) 0 N).length : Nat) proof (root :: hs) = 0
    · rw [if_pos q] at h
      by_cases q2 : (gp wd (lkS L (L + hs.length)) hs proof 0 N).1 = root
      · unfold rH at q
        by_cases q3 : (okH wd (root :: hs) && okH wd proof) = true
        · rw [if_pos q3] at q
          rw [Bool.and_eq_true] at q3
          by_cases q4 : (proof.length : Int) = (((WL (lkS L (L + hs.length)) 0 N).length : Nat) : Int)
          · exact ⟨L, rfl, by omega, by omega, by omega, by omega, okH_wide q3.2, q2⟩
          · rw [if_neg q4] at q; omega
        · rw [if_neg q3] at q; omega
      · rw [if_neg q2] at h; omega
    · rw [if_neg q] at h; exact absurd h q
  · rw [if_neg h0] at h; exact absurd h h0
end Go.Proofs.YtfaalpdeabdhcaaGreatDoor.vd

namespace Go.Proofs.YtfaalpdeabdhcaaGreatDoor.ve
open Go.RowKit Go.PlainAid
open Go.Proofs.YtfaalpdeabdhcaaGreatDoor.pl Go.Proofs.YtfaalpdeabdhcaaGreatDoor.pi Go.Proofs.YtfaalpdeabdhcaaGreatDoor.pj Go.Proofs.YtfaalpdeabdhcaaGreatDoor.ca Go.Proofs.YtfaalpdeabdhcaaGreatDoor.cb Go.Proofs.YtfaalpdeabdhcaaGreatDoor.cp Go.Proofs.YtfaalpdeabdhcaaGreatDoor.ga Go.Proofs.YtfaalpdeabdhcaaGreatDoor.gb Go.Proofs.YtfaalpdeabdhcaaGreatDoor.aa Go.Proofs.YtfaalpdeabdhcaaGreatDoor.ba Go.Proofs.YtfaalpdeabdhcaaGreatDoor.bb Go.Proofs.YtfaalpdeabdhcaaGreatDoor.ka Go.Proofs.YtfaalpdeabdhcaaGreatDoor.kb Go.Proofs.YtfaalpdeabdhcaaGreatDoor.kc Go.Proofs.YtfaalpdeabdhcaaGreatDoor.kp Go.Proofs.YtfaalpdeabdhcaaGreatDoor.lk Go.Proofs.YtfaalpdeabdhcaaGreatDoor.lm Go.Proofs.YtfaalpdeabdhcaaGreatDoor.co Go.Proofs.YtfaalpdeabdhcaaGreatDoor.dc Go.Proofs.YtfaalpdeabdhcaaGreatDoor.qa Go.Proofs.YtfaalpdeabdhcaaGreatDoor.qb Go.Proofs.YtfaalpdeabdhcaaGreatDoor.qc Go.Proofs.YtfaalpdeabdhcaaGreatDoor.qj Go.Proofs.YtfaalpdeabdhcaaGreatDoor.qk Go.Proofs.YtfaalpdeabdhcaaGreatDoor.qo Go.Proofs.YtfaalpdeabdhcaaGreatDoor.qp Go.Proofs.YtfaalpdeabdhcaaGreatDoor.ta Go.Proofs.YtfaalpdeabdhcaaGreatDoor.tb Go.Proofs.YtfaalpdeabdhcaaGreatDoor.td Go.Proofs.YtfaalpdeabdhcaaGreatDoor.tc Go.Proofs.YtfaalpdeabdhcaaGreatDoor.ua Go.Proofs.YtfaalpdeabdhcaaGreatDoor.ub Go.Proofs.YtfaalpdeabdhcaaGreatDoor.ma Go.Proofs.YtfaalpdeabdhcaaGreatDoor.uh Go.Proofs.YtfaalpdeabdhcaaGreatDoor.ui Go.Proofs.YtfaalpdeabdhcaaGreatDoor.uj Go.Proofs.YtfaalpdeabdhcaaGreatDoor.uk Go.Proofs.YtfaalpdeabdhcaaGreatDoor.ul Go.Proofs.YtfaalpdeabdhcaaGreatDoor.um Go.Proofs.YtfaalpdeabdhcaaGreatDoor.un Go.Proofs.YtfaalpdeabdhcaaGreatDoor.uo Go.Proofs.YtfaalpdeabdhcaaGreatDoor.uq Go.Proofs.YtfaalpdeabdhcaaGreatDoor.va Go.Proofs.YtfaalpdeabdhcaaGreatDoor.ur Go.Proofs.YtfaalpdeabdhcaaGreatDoor.vb Go.Proofs.YtfaalpdeabdhcaaGreatDoor.vd
set_option linter.unusedVariables false

theorem box113 (w : World) (x y y0 y1 y2 : Value) (t t' t'' : TypeId) : ∀ W, W = ((w.alloc (.cells #[x] t)).alloc (.cells #[y] t')).alloc (.cells #[y0, y1, y2] t'') → Below w.heap.size w W ∧ W.cell? ⟨w.heap.size, 0, none⟩ = some x ∧ W.cell? ⟨w.heap.size + 1, 0, none⟩ = some y ∧ W.heap[w.heap.size + 1 + 1]? = some (.cells #[y0, y1, y2] t'' (0, 0)) := by
  intro W hW
  obtain ⟨A, hA⟩ : ∃ A, A = w.alloc (.cells #[x] t) := ⟨_, rfl⟩
  obtain ⟨D, hD⟩ : ∃ D, D = A.alloc (.cells #[y] t') := ⟨_, rfl⟩
  rw [← hA, ← hD] at hW
  have s1 : A.heap.size = w.heap.size + 1 := by rw [hA]; simp
  have s2 : D.heap.size = w.heap.size + 1 + 1 := by rw [hD]; simp [s1]
  have b1 : Below w.heap.size w A := by rw [hA]; exact (Below.refl _ _).alloc (Nat.le_refl _) _
  have b2 : Below A.heap.size A D := by rw [hD]; exact (Below.refl _ _).alloc (Nat.le_refl _) _
  have b3 : Below D.heap.size D W := by rw [hW]; exact (Below.refl _ _).alloc (Nat.le_refl _) _
  refine ⟨over b1 (over b2 b3), ?_, ?_, ?_⟩
  · refine ((over b2 b3).cell (p := ⟨w.heap.size, 0, none⟩) (by show w.heap.size < _; rw [s1]; omega)).trans ?_
    rw [hA, World.cell?_alloc_at _ _ _ _ rfl]; rfl
  · refine (b3.cell (p := ⟨w.heap.size + 1, 0, none⟩) (by show w.heap.size + 1 < _; rw [s2]; omega)).trans ?_
    rw [← s1, hD, World.cell?_alloc_at _ _ _ _ rfl]; rfl
  · rw [← s2, hW]; exact heap_alloc_new D _
set_option maxRecDepth 100000 in
set_option maxHeartbeats 12800000 in
theorem kRangeC (wd lo : Int) (hwd : i64 wd) (hlo : i64 lo) (vl : Value) (xs : List ByteArray) (vc : Value) (cs : List ByteArray) (vp : Value) (proof : List ByteArray) (w : World) (hl : ReadsT w vl xs) (hc : ReadsT w vc cs) (hp : ReadsT w vp proof) (hx : Fits xs) (hf : Fits cs) (zp : proof.length ≤ 140737488355328) (hT : Tab w) :
    Calls Tryz.prog 12 #[.int .i64 wd, vl, .int .i64 lo, vc, vp] w fun e w' => e = .returned (clV (rangeX wd lo xs cs proof)) ∧ Below w.heap.size w w' := by
  have OL : Hid (Old w.heap.size w vl xs ∧ Old w.heap.size w vp proof ∧ Old w.heap.size w vc cs ∧ Tab w ∧ Fits xs ∧ Fits cs) := ⟨Old.of hl, Old.of hp, Old.of hc, hT, hx, hf⟩
  have RD : Hid (ReadsT w vl xs ∧ ReadsT w vp proof ∧ ReadsT w vc cs) := ⟨hl, hp, hc⟩
  have HC : Hid (∀ w', Tab w' → ReadsT w' vc cs → Calls _ _ _ _ _) := fun w' h1 h2 => hashesC wd vc cs w' h1 h2 hf
  have RC : Hid (∀ w', Tab w' → ReadsT w' vl xs → Calls _ _ _ _ _) := fun w' h1 h2 => mb.rootC wd _ xs w' hwd h1 h2 hx
  have hfm := hf.many
  have IC : Hid (∀ w' u, Tab w' → ReadsT w' vp proof → ReadsT w' u (LX wd cs) → Calls _ _ _ _ _) := fun w' u h1 h2 h3 => RangeC wd lo xs.length hwd hlo u vp (LX wd cs) proof (RT wd xs) w' h3 h2 (by rw [LX_len]; omega) zp h1
  have hxm := hx.many
  obtain ⟨la, lc, rfl, hlc, hlh⟩ := hl
  obtain ⟨pa, pc, rfl, _⟩ := hp
  obtain ⟨ca, cc, rfl, hcc, hch⟩ := hc
  unfold rangeX
  obtain ⟨E, HE⟩ : ∃ E, Hid (rngA wd lo xs.length (LX wd cs) proof (RT wd xs) = E) := ⟨_, rfl⟩
  obtain ⟨y2, HY2⟩ : ∃ y, Hid (RT wd xs = y) := ⟨_, rfl⟩
  rw [HE.out] at IC ⊢
  rw [HY2.out] at RC IC
  obtain ⟨n, HN⟩ : ∃ n, Hid (xs.length = n) := ⟨_, rfl⟩
  obtain ⟨m, HM⟩ : ∃ n, Hid (proof.length = n) := ⟨_, rfl⟩
  obtain ⟨c, HCN⟩ : ∃ n, Hid (cs.length = n) := ⟨_, rfl⟩
  rw [HN.out] at RC IC RD OL hlc hlh hxm ⊢
  rw [HM.out] at IC RD OL ⊢
  rw [HCN.out] at HC RD OL hcc hch hfm ⊢
  obtain ⟨W, HW⟩ : ∃ W, Hid (W = ((w.alloc (.cells #[.int .i64 lo] 3)).alloc (.cells #[.slice ca c cc] 22)).alloc (.cells #[.string ⟨#[]⟩, .string ⟨#[]⟩, .bool false] 30)) := ⟨_, rfl⟩
  have hw : ((w.alloc (.cells #[.int .i64 lo] 3)).alloc (.cells #[.slice ca c cc] 22)).alloc (.cells #[.string ⟨#[]⟩, .string ⟨#[]⟩, .bool false] 30) = W := HW.out.symm
  obtain ⟨bw, x7, x8, x10⟩ := box113 w (.int .i64 lo) (.slice ca c cc) (.string ⟨#[]⟩) (.string ⟨#[]⟩) (.bool false) 3 22 30 W HW.out
  have BW : Hid (Below w.heap.size w W) := bw
  have HX : Hid (W.cell? ⟨w.heap.size, 0, none⟩ = some (.int .i64 lo) ∧ W.cell? ⟨w.heap.size + 1, 0, none⟩ = some (.slice ca c cc)) := ⟨x7, x8⟩
  have HR : Hid (W.heap[w.heap.size + 1 + 1]? = some (.cells #[.string ⟨#[]⟩, .string ⟨#[]⟩, .bool false] 30 (0, 0))) := x10
  have F4 : Hid (∀ w4, Below W.heap.size W w4 → w4.heap[w.heap.size + 1 + 1]? = some (.cells #[.string ⟨#[]⟩, .string ⟨#[]⟩, .bool false] 30 (0, 0))) := fun w4 k => (k.block _ (Array.getElem?_eq_some_iff.1 HR.out).1).trans HR.out
  have SX : Hid (∀ w', Below W.heap.size W w' → Below W.heap.size W w' ∧ w'.cell? ⟨w.heap.size, 0, none⟩ = some (.int .i64 lo) ∧ w'.cell? ⟨w.heap.size + 1, 0, none⟩ = some (.slice ca c cc)) := fun w' b => ⟨b, (b.cell (World.block_lt_of_cell? _ _ HX.out.1)).trans HX.out.1, (b.cell (World.block_lt_of_cell? _ _ HX.out.2)).trans HX.out.2⟩
  have HB0 : Hid (Below W.heap.size W W.drew) := below_dr (Below.refl _ _)
  have HB1 : Hid (∀ w1, Below W.drew.heap.size W.drew w1 → Below W.heap.size W w1) := fun w1 b => over HB0.out b
  have GD : Hid (∀ w', Below W.heap.size W w' → Tab w' ∧ ReadsT w' (.slice la n lc) xs ∧ ReadsT w' (.slice pa m pc) proof ∧ ReadsT w' (.slice ca c cc) cs) := fun w' b => ⟨OL.out.2.2.2.1.down (over BW.out b), RD.out.1.later (over BW.out b), RD.out.2.1.later (over BW.out b), RD.out.2.2.later (over BW.out b)⟩
  clear hT hx hf zp x7 x8 x10 bw
  by_cases h : E = 0
  · subst h
    rw [if_pos rfl]
    obtain ⟨L, rfl, i1, i2, i3, i4, i5, i6⟩ := rngA_ok HE.out
    rw [LX_len, HCN.out] at i1 i2 i4 i6
    rw [HN.out] at i2 i3 i4 i6
    rw [Int.toNat_natCast]
    obtain ⟨b, off, ha, hq⟩ := hlh.resolve_left (by omega)
    subst ha
    have HM1 : Hid (ReadsT w (.slice (some ⟨b, off + L, none⟩) c (lc - L)) (slc xs L (L + c))) := by
      have := RD.out.1.mid (f := L) (k := c) (by rw [HN.out]; omega)
      unfold slc
      rw [Nat.add_sub_cancel_left]
      exact this
    have EQ : Hid (∀ w', Below W.heap.size W w' → Calls _ _ _ _ _) := fun w' hb => vc.same (.slice (some ⟨b, off + L, none⟩) c (lc - L)) (.slice ca c cc) (slc xs L (L + c)) cs w' (HM1.out.later (over BW.out hb)) (RD.out.2.2.later (over BW.out hb)) (by rw [slc_len (by rw [HN.out]; omega)]; omega)
    have g1 : (L : Int) ≤ (L : Int) + c := by omega
    have g2 : (L : Int) + c ≤ lc := by omega
    have g3 : (L : Int) ≤ lc := by omega
    have hca : ¬ lc = L := by omega
    have qw : IntKind.i64.wrap ((L : Int) + c) = (L : Int) + c := by rw [IntKind.wrap_i64]; omega
    have ent : (L : Int) + c - L = (c : Int) := by omega
    have ent3 : ((L : Int) + (c : Int)).toNat - L = c := by omega
    have ent2 : ((lc - L : Nat) : Int) = (lc : Int) - L := by omega
    by_cases hs : slc xs L (L + c) = cs
    · rw [if_pos hs]
      rw [decide_eq_true hs] at EQ
      clear hlh hch hq hs i1 i3 i4 i5 i6
      go_enter Tryz.func12, Tryz.ntmps12
      go_wp2_with fail
      try rw [hw]
      go_region_held3 (fun w' => Below W.heap.size W w' ∧ w'.cell? ⟨w.heap.size, 0, none⟩ = some (.int .i64 (L : Nat)) ∧ w'.cell? ⟨w.heap.size + 1, 0, none⟩ = some (.slice ca c cc)) (first | exact SX.out _ HB0.out | exact SX.out _ B1.out | exact SX.out _ B2.out | exact SX.out _ B3.out) (first | (go_at_call 33; refine (HC.out _ (GD.out _ HB0.out).1 (GD.out _ HB0.out).2.2.2).mono ?_; rintro e w1 ⟨⟨u, rfl, hu1⟩, hb1⟩; have B1 : Hid (Below W.heap.size W w1) := HB1.out w1 hb1; have U1 : Hid (ReadsT w1 u (LX wd cs)) := hu1; clear hb1 hu1) | (go_at_call 8; refine (RC.out _ (GD.out _ B1.out).1 (GD.out _ B1.out).2.1).mono ?_; rintro e w2 ⟨rfl, hb2⟩; have B2 : Hid (Below W.heap.size W w2) := over B1.out hb2; have U2 : Hid (ReadsT w2 u (LX wd cs)) := U1.out.later hb2; clear hb2) | (go_at_call 9; refine (IC.out _ _ (GD.out _ B2.out).1 (GD.out _ B2.out).2.2.1 U2.out).mono ?_; rintro e w3 ⟨rfl, hb3⟩; have B3 : Hid (Below W.heap.size W w3) := over B2.out hb3; clear hb3))
      obtain ⟨b3, c7, c8⟩ := SX.out w3 B3.out
      clear b3
      go_wp2_with fail
      have HB3 : Hid (Below W.heap.size W w3.drew) := below_dr B3.out
      go_region_held3 (fun w' => Below W.heap.size W w' ∧ w'.cell? ⟨w.heap.size, 0, none⟩ = some (.int .i64 (L : Nat)) ∧ w'.cell? ⟨w.heap.size + 1, 0, none⟩ = some (.slice ca c cc)) (first | exact SX.out _ HB3.out | exact SX.out _ B4.out) ((go_at_call 34; refine (EQ.out _ HB3.out).mono ?_; rintro e w4 ⟨rfl, m4, hw4⟩; have B4 : Hid (Below W.heap.size W w4) := (by rw [hw4]; exact below_dN HB3.out _); clear hw4))
      clear c7 c8
      have hr2 := F4.out w4 B4.out
      have e0 : w4.cell? ⟨w.heap.size + 1 + 1, 0, none⟩ = _ := cell_of_row _ _ 0 _ _ _ hr2
      have e1 : w4.cell? ⟨w.heap.size + 1 + 1, 1, none⟩ = _ := cell_of_row _ _ 1 _ _ _ hr2
      have e2 : w4.cell? ⟨w.heap.size + 1 + 1, 2, none⟩ = _ := cell_of_row _ _ 2 _ _ _ hr2
      have f0 := frozen_of_row _ _ 0 _ _ hr2
      have f1 := frozen_of_row _ _ 1 _ _ hr2
      have f2 := frozen_of_row _ _ 2 _ _ hr2
      have FIN : Hid (∀ W', W' = _ → _) := put3 w4 (w.heap.size + 1 + 1) _ _ _ (.string ⟨#[]⟩) (.string ⟨#[]⟩) (.bool false) _ hr2
      clear hr2
      go_wp2
      obtain ⟨G, hb⟩ := FIN.out _ rfl
      refine bodyPost_ret (by simp [results, Tryz.results12, go_sem, G.1, G.2.1, G.2.2]; try rfl) rfl ?_
      exact ⟨rfl, (over BW.out B4.out).trans (hb _ (by omega))⟩
    · rw [if_neg hs]
      rw [decide_eq_false hs] at EQ
      have AC : Hid (∀ w4 V, Below W.heap.size W w4 → V = (w4.alloc (.cells #[.slice pa m pc] 59)).alloc (.cells #[.int .i64 wd, .func (.func 35) #[.agg #[.int .i64 (L : Nat), .int .i64 ((L : Int) + (c : Int))]] #[], .bool false, .func (.func 36) #[] #[.pointer (some ⟨w.heap.size + 1, 0, none⟩), .pointer (some ⟨w.heap.size, 0, none⟩)], .func (.func 37) #[.pointer (some ⟨w4.heap.size, 0, none⟩)] #[]] 65) → Calls Tryz.prog 38 #[.agg #[.int .i64 wd, .func (.func 35) #[.agg #[.int .i64 (L : Nat), .int .i64 ((L : Int) + (c : Int))]] #[], .bool false, .func (.func 36) #[] #[.pointer (some ⟨w.heap.size + 1, 0, none⟩), .pointer (some ⟨w.heap.size, 0, none⟩)], .func (.func 37) #[.pointer (some ⟨w4.heap.size, 0, none⟩)] #[]], .slice (some ⟨b, off, none⟩) n lc] V fun e w' => e = .returned (clV (fst1 (gw (HH wd) (lkS L (L + c)) (fun p => cs.getD (p - L) ByteArray.empty) nx proof 0 n).1 (ownT wd (lkS L (L + c)) xs))) ∧ Below W.heap.size W w') := by
        intro w4 V hb4 hV
        obtain ⟨V1, hV1⟩ : ∃ V1, V1 = w4.alloc (.cells #[.slice pa m pc] 59) := ⟨_, rfl⟩
        rw [← hV1] at hV
        have b1 : Below w4.heap.size w4 V1 := by rw [hV1]; exact (Below.refl _ _).alloc (Nat.le_refl _) _
        have b2 : Below V1.heap.size V1 V := by rw [hV]; exact (Below.refl _ _).alloc (Nat.le_refl _) _
        have n1 : V1.heap[w4.heap.size]? = some (.cells #[.slice pa m pc] 59 (0, 0)) := by rw [hV1]; exact heap_alloc_new w4 _
        have z1 : V1.heap.size = w4.heap.size + 1 := by rw [hV1]; simp
        have bV : Below W.heap.size W V := over hb4 (over b1 b2)
        have bw := over BW.out bV
        have kk : Kp no w V := Kp.of_below bw
        have hp : KPile w.heap.size w4.heap.size proof V := ⟨(over BW.out hb4).size, _, (b2.block _ (by rw [z1]; omega)).trans n1, OL.out.2.1.keep kk (fun _ e => e.elim)⟩
        have lw : w.heap.size + 1 < w4.heap.size := by have h1 := hb4.size; have h2 : w.heap.size + 1 < W.heap.size := World.block_lt_of_cell? _ _ HX.out.2; omega
        have hS : GS w.heap.size w4.heap.size (w.heap.size + 1) w.heap.size L (.slice ca c cc) cs proof V := ⟨hp, (bV.cell (World.block_lt_of_cell? _ _ HX.out.2)).trans HX.out.2, OL.out.2.2.1.keep kk (fun _ e => e.elim), (bV.cell (World.block_lt_of_cell? _ _ HX.out.1)).trans HX.out.1, OL.out.2.2.2.1.down bw⟩
        have z := againstC (rangeFl (base := w.heap.size) (pb := w4.heap.size) (cb := w.heap.size + 1) (lb := w.heap.size) (lo := L) (hi := L + c) (N := xs.length) (n := c) (cap := cc) (ad := ca) (wd := wd) (cs := cs) (by rw [HN.out]; omega) OL.out.2.2.2.1.big (by omega) (by omega) (by rw [HCN.out]) OL.out.2.2.2.2.2) hwd (KS := fun _ => True) (fun _ => trivial) (fun _ _ => trivial) w.heap.size (fun k e => by omega) (some ⟨b, off, none⟩) lc xs (by rw [HN.out]; omega) OL.out.2.2.2.2.1 (fun a b w _ _ _ => meetsS L (L + c) a b w) (fun _ _ h1 h2 => dirS L (L + c) h1 h2 _) proof V ⟨by rw [HN.out, i4]; exact Nat.le_refl _, i5, Nat.le_refl _⟩ hS (by rw [HN.out]; exact OL.out.1.keep kk (fun _ e => e.elim))
        rw [HN.out] at z
        refine z.mono fun e w' h => ⟨h.1, ?_⟩
        have k2 : Below W.heap.size V w' := h.2.below (fun k e => by have := hb4.size; omega) bV.size
        exact bV.trans k2
      obtain ⟨O, HO⟩ : ∃ O, Hid (fst1 (gw (HH wd) (lkS L (L + c)) (fun p => cs.getD (p - L) ByteArray.empty) nx proof 0 n).1 (ownT wd (lkS L (L + c)) xs) = O) := ⟨_, rfl⟩
      obtain ⟨g0, g1', g2', hgo⟩ := clV_of O
      rw [HO.out, hgo] at AC ⊢
      clear hlh hch hq hs i1 i3 i4 i5 i6 hgo HO
      go_enter Tryz.func12, Tryz.ntmps12
      go_wp2_with fail
      try rw [hw]
      go_region_held3 (fun w' => Below W.heap.size W w' ∧ w'.cell? ⟨w.heap.size, 0, none⟩ = some (.int .i64 (L : Nat)) ∧ w'.cell? ⟨w.heap.size + 1, 0, none⟩ = some (.slice ca c cc)) (first | exact SX.out _ HB0.out | exact SX.out _ B1.out | exact SX.out _ B2.out | exact SX.out _ B3.out) (first | (go_at_call 33; refine (HC.out _ (GD.out _ HB0.out).1 (GD.out _ HB0.out).2.2.2).mono ?_; rintro e w1 ⟨⟨u, rfl, hu1⟩, hb1⟩; have B1 : Hid (Below W.heap.size W w1) := HB1.out w1 hb1; have U1 : Hid (ReadsT w1 u (LX wd cs)) := hu1; clear hb1 hu1) | (go_at_call 8; refine (RC.out _ (GD.out _ B1.out).1 (GD.out _ B1.out).2.1).mono ?_; rintro e w2 ⟨rfl, hb2⟩; have B2 : Hid (Below W.heap.size W w2) := over B1.out hb2; have U2 : Hid (ReadsT w2 u (LX wd cs)) := U1.out.later hb2; clear hb2) | (go_at_call 9; refine (IC.out _ _ (GD.out _ B2.out).1 (GD.out _ B2.out).2.2.1 U2.out).mono ?_; rintro e w3 ⟨rfl, hb3⟩; have B3 : Hid (Below W.heap.size W w3) := over B2.out hb3; clear hb3))
      obtain ⟨b3, c7, c8⟩ := SX.out w3 B3.out
      clear b3
      go_wp2_with fail
      have HB3 : Hid (Below W.heap.size W w3.drew) := below_dr B3.out
      go_region_held3 (fun w' => Below W.heap.size W w' ∧ w'.cell? ⟨w.heap.size, 0, none⟩ = some (.int .i64 (L : Nat)) ∧ w'.cell? ⟨w.heap.size + 1, 0, none⟩ = some (.slice ca c cc)) (first | exact SX.out _ HB3.out | exact SX.out _ B4.out) ((go_at_call 34; refine (EQ.out _ HB3.out).mono ?_; rintro e w4 ⟨rfl, m4, hw4⟩; have B4 : Hid (Below W.heap.size W w4) := (by rw [hw4]; exact below_dN HB3.out _); clear hw4))
      clear c7 c8
      obtain ⟨b4, c7, c8⟩ := SX.out (w4.alloc (.cells #[.slice pa m pc] 59)) (below_al B4.out _)
      clear b4
      go_wp2_with fail
      refine (AC.out w4 _ B4.out rfl).mono ?_
      rintro e w5 ⟨rfl, hb5⟩
      have B5 : Hid (Below W.heap.size W w5) := hb5
      clear hb5 c7 c8
      have hr2 := F4.out w5 B5.out
      have e0 : w5.cell? ⟨w.heap.size + 1 + 1, 0, none⟩ = _ := cell_of_row _ _ 0 _ _ _ hr2
      have e1 : w5.cell? ⟨w.heap.size + 1 + 1, 1, none⟩ = _ := cell_of_row _ _ 1 _ _ _ hr2
      have e2 : w5.cell? ⟨w.heap.size + 1 + 1, 2, none⟩ = _ := cell_of_row _ _ 2 _ _ _ hr2
      have f0 := frozen_of_row _ _ 0 _ _ hr2
      have f1 := frozen_of_row _ _ 1 _ _ hr2
      have f2 := frozen_of_row _ _ 2 _ _ hr2
      have FIN : Hid (∀ W', W' = _ → _) := put3 w5 (w.heap.size + 1 + 1) _ _ _ (.string g0) (.string g1') (.bool g2') _ hr2
      clear hr2
      go_wp2
      obtain ⟨G, hb⟩ := FIN.out _ rfl
      refine bodyPost_ret (by simp [results, Tryz.results12, go_sem, G.1, G.2.1, G.2.2]; try rfl) rfl ?_
      exact ⟨rfl, (over BW.out B5.out).trans (hb _ (by omega))⟩
  · rw [if_neg h]
    have q : (E == 0) = false := by rw [beq_eq_false_iff_ne]; exact h
    have q2 : (E != 0) = true := by rw [bne, q]; rfl
    clear h hlh hch
    go_enter Tryz.func12, Tryz.ntmps12
    go_wp2_with fail
    try rw [hw]
    go_region_held3 (fun w' => Below W.heap.size W w' ∧ w'.cell? ⟨w.heap.size, 0, none⟩ = some (.int .i64 lo) ∧ w'.cell? ⟨w.heap.size + 1, 0, none⟩ = some (.slice ca c cc)) (first | exact SX.out _ HB0.out | exact SX.out _ B1.out | exact SX.out _ B2.out | exact SX.out _ B3.out) (first | (go_at_call 33; refine (HC.out _ (GD.out _ HB0.out).1 (GD.out _ HB0.out).2.2.2).mono ?_; rintro e w1 ⟨⟨u, rfl, hu1⟩, hb1⟩; have B1 : Hid (Below W.heap.size W w1) := HB1.out w1 hb1; have U1 : Hid (ReadsT w1 u (LX wd cs)) := hu1; clear hb1 hu1) | (go_at_call 8; refine (RC.out _ (GD.out _ B1.out).1 (GD.out _ B1.out).2.1).mono ?_; rintro e w2 ⟨rfl, hb2⟩; have B2 : Hid (Below W.heap.size W w2) := over B1.out hb2; have U2 : Hid (ReadsT w2 u (LX wd cs)) := U1.out.later hb2; clear hb2) | (go_at_call 9; refine (IC.out _ _ (GD.out _ B2.out).1 (GD.out _ B2.out).2.2.1 U2.out).mono ?_; rintro e w3 ⟨rfl, hb3⟩; have B3 : Hid (Below W.heap.size W w3) := over B2.out hb3; clear hb3))
    obtain ⟨b3, c7, c8⟩ := SX.out w3 B3.out
    clear b3
    go_wp2_with fail
    go_quiet (fail)
    obtain ⟨w4, H4⟩ : ∃ x, Hid (x = w3.drewN nq) := ⟨_, rfl⟩
    rw [← H4.out]
    have B4 : Hid (Below W.heap.size W w4) := by rw [H4.out]; exact below_dN B3.out _
    clear H4 c7 c8
    have hr2 := F4.out w4 B4.out
    have e0 : w4.cell? ⟨w.heap.size + 1 + 1, 0, none⟩ = _ := cell_of_row _ _ 0 _ _ _ hr2
    have e1 : w4.cell? ⟨w.heap.size + 1 + 1, 1, none⟩ = _ := cell_of_row _ _ 1 _ _ _ hr2
    have e2 : w4.cell? ⟨w.heap.size + 1 + 1, 2, none⟩ = _ := cell_of_row _ _ 2 _ _ _ hr2
    have f0 := frozen_of_row _ _ 0 _ _ hr2
    have f1 := frozen_of_row _ _ 1 _ _ hr2
    have f2 := frozen_of_row _ _ 2 _ _ hr2
    have FIN : Hid (∀ W', W' = _ → _) := put3 w4 (w.heap.size + 1 + 1) _ _ _ (.string ⟨#[]⟩) (.string ⟨#[]⟩) (.bool false) _ hr2
    clear hr2
    go_wp2
    obtain ⟨G, hb⟩ := FIN.out _ rfl
    refine bodyPost_ret (by simp [results, Tryz.results12, go_sem, G.1, G.2.1, G.2.2]; try rfl) rfl ?_
    exact ⟨rfl, (over BW.out B4.out).trans (hb _ (by omega))⟩
end Go.Proofs.YtfaalpdeabdhcaaGreatDoor.ve
