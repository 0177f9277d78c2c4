import Derived.Test.YtglffbhcnafbnabDoorA9
import Derived.Test.YtglffbhcnafbnabDoorA8
import Derived.Test.YtglffbhcnafbnabDoorC2
import Derived.Deep.AppendLies
import Derived.Laws.AppendOwnNone
import Derived.BigQuiet
import Derived.Deep.DeepCutAuto
namespace Go.Proofs.YtglffbhcnafbnabDoor.lm
open Go.RowKit Go.PlainAid Go.Shelf
open Go.Proofs.YtglffbhcnafbnabDoor.pl Go.Proofs.YtglffbhcnafbnabDoor.pi Go.Proofs.YtglffbhcnafbnabDoor.rf Go.Proofs.YtglffbhcnafbnabDoor.pj Go.Proofs.YtglffbhcnafbnabDoor.ca Go.Proofs.YtglffbhcnafbnabDoor.cb Go.Proofs.YtglffbhcnafbnabDoor.cp Go.Proofs.YtglffbhcnafbnabDoor.cs Go.Proofs.YtglffbhcnafbnabDoor.xc Go.Proofs.YtglffbhcnafbnabDoor.ka Go.Proofs.YtglffbhcnafbnabDoor.kb Go.Proofs.YtglffbhcnafbnabDoor.ga Go.Proofs.YtglffbhcnafbnabDoor.aa Go.Proofs.YtglffbhcnafbnabDoor.ab Go.Proofs.YtglffbhcnafbnabDoor.tb Go.Proofs.YtglffbhcnafbnabDoor.ac Go.Proofs.YtglffbhcnafbnabDoor.bc Go.Proofs.YtglffbhcnafbnabDoor.bd Go.Proofs.YtglffbhcnafbnabDoor.bh Go.Proofs.YtglffbhcnafbnabDoor.bn Go.Proofs.YtglffbhcnafbnabDoor.sa Go.Proofs.YtglffbhcnafbnabDoor.sb Go.Proofs.YtglffbhcnafbnabDoor.sc Go.Proofs.YtglffbhcnafbnabDoor.sd Go.Proofs.YtglffbhcnafbnabDoor.se Go.Proofs.YtglffbhcnafbnabDoor.sf Go.Proofs.YtglffbhcnafbnabDoor.sg Go.Proofs.YtglffbhcnafbnabDoor.sh Go.Proofs.YtglffbhcnafbnabDoor.sp Go.Proofs.YtglffbhcnafbnabDoor.bi Go.Proofs.YtglffbhcnafbnabDoor.bt Go.Proofs.YtglffbhcnafbnabDoor.tg Go.Proofs.YtglffbhcnafbnabDoor.mi Go.Proofs.YtglffbhcnafbnabDoor.mo Go.Proofs.YtglffbhcnafbnabDoor.mp Go.Proofs.YtglffbhcnafbnabDoor.mq Go.Proofs.YtglffbhcnafbnabDoor.mr Go.Proofs.YtglffbhcnafbnabDoor.mt
set_option linter.unusedVariables false

theorem seven (w : World) (x0 x1 x2 x3 x4 x5 x6 : Value) (t : TypeId) : (w.alloc (.cells #[x0, x1, x2, x3, x4, x5, x6] t)).cell? ⟨w.heap.size, 0, none⟩ = some x0 ∧ (w.alloc (.cells #[x0, x1, x2, x3, x4, x5, x6] t)).cell? ⟨w.heap.size, 1, none⟩ = some x1 ∧ (w.alloc (.cells #[x0, x1, x2, x3, x4, x5, x6] t)).cell? ⟨w.heap.size, 2, none⟩ = some x2 ∧ (w.alloc (.cells #[x0, x1, x2, x3, x4, x5, x6] t)).cell? ⟨w.heap.size, 3, none⟩ = some x3 ∧ (w.alloc (.cells #[x0, x1, x2, x3, x4, x5, x6] t)).cell? ⟨w.heap.size, 4, none⟩ = some x4 ∧ (w.alloc (.cells #[x0, x1, x2, x3, x4, x5, x6] t)).cell? ⟨w.heap.size, 5, none⟩ = some x5 ∧ (w.alloc (.cells #[x0, x1, x2, x3, x4, x5, x6] t)).cell? ⟨w.heap.size, 6, none⟩ = some x6 := by
  refine ⟨?_, ?_, ?_, ?_, ?_, ?_, ?_⟩ <;> (rw [World.cell?_alloc_at _ _ _ _ rfl]; rfl)
def Row (xs : List Int) (base : Nat) (w : World) (g cp n : Nat) : Prop := w.ownsRow base 3 1 (.slice (some ⟨g, 0, none⟩) (n + 1) cp) (n + 1) (xs.map (Value.int .i64) ++ [.int .i64 (-7)])
theorem Row.cell {xs : List Int} {base g cp n : Nat} {w : World} (h : Row xs base w g cp n) (hn : xs.length = n) {i : Nat} (hi : i < n) : w.cell? ⟨g, i, none⟩ = some (.int .i64 (xs.getD i 0)) := by
  unfold Row at h
  rw [h.cellAt i (by omega), List.getElem?_append_left (by rw [List.length_map]; omega), List.getElem?_map, List.getElem?_eq_getElem (by omega), List.getD_eq_getElem?_getD, List.getElem?_eq_getElem (by omega)]
  rfl
theorem Row.last {xs : List Int} {base g cp n : Nat} {w : World} (h : Row xs base w g cp n) (hn : xs.length = n) : w.cell? ⟨g, n, none⟩ = some (.int .i64 (-7)) := by
  unfold Row at h
  rw [h.cellAt n (by omega), List.getElem?_append_right (by rw [List.length_map]; omega), List.length_map, hn, Nat.sub_self]
  rfl
theorem Row.cap {xs : List Int} {base g cp n : Nat} {w : World} (h : Row xs base w g cp n) : n + 1 ≤ cp := by
  rcases h.2 with ⟨e, _⟩ | ⟨g', cap', cur, e, _, _, hc, _⟩
  · cases e
  · injection e with _ _ e3; omega
theorem Row.reads {xs : List Int} {base g cp n : Nat} {w : World} (h : Row xs base w g cp n) (hn : xs.length = n) : ReadsI w (.slice (some ⟨g, 0, none⟩) n cp) xs :=
  ⟨_, cp, by rw [hn], by have := h.cap; omega, .inr ⟨g, 0, rfl, fun i hi => by rw [Nat.zero_add]; exact h.cell hn (by omega)⟩⟩
theorem reads_newsI {w : World} {ad : Addr} {n cap : Nat} {xs : List Int} (h : ReadsI w (.slice (some ad) n cap) xs) : ∀ (j : Nat) (u : Value), (xs.map (Value.int .i64))[j]? = some u → w.cell? (ad.add j) = some u := by
  intro j u hu
  rw [List.getElem?_map] at hu
  obtain ⟨x, hx, rfl⟩ := Option.map_eq_some_iff.1 hu
  have hj := (List.getElem?_eq_some_iff.1 hx).1
  obtain ⟨a, c, e, hc, hh⟩ := h
  injection e with e1 e2 e3
  rcases hh with h0 | ⟨b, off, e4, hh⟩
  · omega
  · rw [e4] at e1
    injection e1 with e1
    subst e1
    have c1 := hh j hj
    rw [List.getD_eq_getElem?_getD, hx] at c1
    rw [show (Addr.add ⟨b, off, none⟩ j) = ⟨b, off + j, none⟩ by cases j <;> simp [Addr.add]]
    exact c1
theorem new_int (W : World) (u : Value) (t : TypeId) : ∀ (j : Nat) (x : Value), [u][j]? = some x → (W.alloc (.cells #[u] t)).cell? (Addr.add ⟨W.heap.size, 0, none⟩ j) = some x := by
  intro j x hx
  rw [show (Addr.add ⟨W.heap.size, 0, none⟩ j) = ⟨W.heap.size, j, none⟩ by cases j <;> simp [Addr.add], World.cell?_alloc_at _ _ _ _ rfl]
  simpa using hx
theorem one_int (x : Int) : ∀ u ∈ [Value.int .i64 x], u.oneCell' = true := by
  intro u hu
  simp only [List.mem_cons, List.not_mem_nil, or_false] at hu
  subst hu; rfl
-- behind the program's answer
structure Pm (s : Src) (sb : Nat) (lv1 : Value) (b1 : Nat) (sb' : Nat) (lv2 : Value) (b2 : Nat) (F F' : Nat → Prop) (l l' : List (Nat × Nat)) (w0 : World) (xs : List Int) (base g cp n : Nat) (w : World) : Prop where
  two : Two s sb lv1 b1 sb' lv2 b2 F F' l l' w
  ov : Over w0 F F' w
  row : Row xs base w g cp n
  fa : ¬ F g
  fb : ¬ F' g
def Ans (u : Value) (base : Nat) (ts : List ByteArray) (w : World) : Prop := w.ownsRow base 9 1 u ts.length (ts.map Value.string)
theorem step4 {s : Src} {sb : Nat} {lv1 : Value} {b1 sb' : Nat} {lv2 : Value} {b2 : Nat} {F F' F4 : Nat → Prop} {l l4 l' : List (Nat × Nat)} {w0 : World} {xs : List Int} {base g cp n : Nat} {w4 w3 w5 : World} {u4 : Value} {ts : List ByteArray} (hcd : i64 s.code)
    (h : Pm s sb lv1 b1 sb' lv2 b2 F F' l l' w0 xs base g cp n w4) (hb : Below w4.heap.size w4 w3) (ho : w5.ownsRow w3.heap.size 9 1 u4 ts.length (ts.map Value.string)) (hj : SJ s sb lv1 b1 F4 l4 w5) (hg : Goes F w3 F4 w5) :
    Pm s sb lv1 b1 sb' lv2 b2 F4 F' l4 l' w0 xs base g cp n w5 ∧ Ans u4 w4.heap.size ts w5 ∧ Beside F' u4 := by
  have t3 := h.two.later hcd hb
  have r3 : Row xs base w3 g cp n := owns_keep h.row (fun x hx => hb.block x (owns_lt h.row hx).1)
  have g3 : g < w3.heap.size := (owns_lt r3 rfl).1
  have q := hg.owns r3 (fun x hx hF => by have e : g = x := Option.some.inj hx; subst e; exact h.fa hF)
  refine ⟨⟨t3.left hcd hg hj, (h.ov.later hb).left hg, q.1, fun hF => q.2 g rfl hF, h.fb⟩, own_down ho hb.size, fun x hx hF => ?_⟩
  have h1 := (owns_lt ho hx).2
  have h2 := (srcR s sb' lv2 b2 hcd).within t3.b x hF
  omega
theorem step5 {s : Src} {sb : Nat} {lv1 : Value} {b1 sb' : Nat} {lv2 : Value} {b2 : Nat} {F F' F5 : Nat → Prop} {l l5 l' : List (Nat × Nat)} {w0 : World} {xs : List Int} {base b4 g cp n : Nat} {wc w5 : World} {u4 u5 : Value} {ts : List ByteArray} (hcd : i64 s.code)
    (h : Pm s sb lv1 b1 sb' lv2 b2 F F' l l' w0 xs base g cp n wc) (hu : Ans u4 b4 ts wc) (hbe : Beside F' u4) (ho : w5.ownsRow wc.heap.size 9 1 u5 ts.length (ts.map Value.string)) (hj : SJ s sb' lv2 b2 F5 l5 w5) (hg : Goes F' wc F5 w5) :
    Pm s sb lv1 b1 sb' lv2 b2 F F5 l l5 w0 xs base g cp n w5 ∧ ReadsT w5 u4 ts ∧ ReadsT w5 u5 ts := by
  have q := hg.owns h.row (fun x hx hF => by have e : g = x := Option.some.inj hx; subst e; exact h.fb hF)
  have q2 := hg.owns hu hbe
  exact ⟨⟨h.two.right hcd hg hj, h.ov.right hg, q.1, h.fa, fun hF => q.2 g rfl hF⟩, own_readsT q2.1, own_readsT ho⟩
set_option maxHeartbeats 6400000 in
set_option maxRecDepth 100000 in
theorem prove_law (wd sz : Int) (lv : Value) (ls : List ByteArray) (made : Bool) (fails code : Int) (aa : Option Addr) (an ac : Nat) (v : Value) (xs : List Int) (n : Int) (hwd : i64 wd) (hcd : i64 code) (w : World) (hT : T7 w) (hR : ReadsT w lv ls) (hno : ∀ k c, lv = .slice none k c → c = 0) (hz : Sized ls) (hV : ReadsI w v xs) (hnv : ∀ k c, v = .slice none k c → c = 0) (hk : xs.length ≤ 1048576) :
    Calls Tryd.prog 6 #[.agg #[.int .i64 wd, .int .i64 sz, lv, .bool made, .int .i64 fails, .int .i64 code, .slice aa an ac], v, .int .i64 n] w fun e w' => e = .returned (.bool true) ∧ Below w.heap.size w w' := by
  have HT : Hid (T7 w) := hT
  have HV : Hid (ReadsI w v xs) := hV
  obtain ⟨i9, hi9', hz0, hz1, hz2⟩ := cs.info_parts hi9i
  have HIN : Hid (_ ∧ _ ∧ _ ∧ _) := ⟨hi9', hz0, hz1, hz2⟩
  obtain ⟨ia, icap, rfl, hicap, hih⟩ := hV
  have HNI : Hid (ia = none → icap = 0) := fun h => hnv xs.length icap (by rw [h])
  have HIC : Hid (xs.length = 0 ∨ ∃ b off, ia = some ⟨b, off, none⟩ ∧ ∀ i, i < xs.length → w.cell? ⟨b, off + i, none⟩ = some (.int .i64 (xs.getD i 0))) := hih
  obtain ⟨k, HK⟩ : ∃ k, Hid (xs.length = k) := ⟨_, rfl⟩
  rw [HK.out] at HV HIC hicap hk ⊢
  clear hnv hih hi9' hz0 hz1 hz2
  have HRD : Hid (ReadsT w lv ls) := hR
  have HI : Hid (i64 wd ∧ i64 (tw wd sz ls made fails code).code) := ⟨hwd, hcd⟩
  obtain ⟨s, HS⟩ : ∃ s, Hid (tw wd sz ls made fails code = s) := ⟨_, rfl⟩
  have HSW : Hid (s.wd = wd) := by show _ = _; rw [← HS.out]; rfl
  obtain ⟨la, lc, hlv⟩ : ∃ la lc, lv = .slice la ls.length lc := by obtain ⟨a, c, h, _⟩ := hR; exact ⟨a, c, h⟩
  subst hlv
  have TW : Hid (∀ w', Below w.heap.size w w' → Calls _ _ _ _ _) := fun w' hb => twinS wd sz (.slice la ls.length lc) ls made fails code aa an ac w' (HT.out.down hb) (HRD.out.later hb) hno hz
  rw [HS.out] at TW HI
  obtain ⟨ln, HLN⟩ : ∃ x, Hid (ls.length = x) := ⟨_, rfl⟩
  rw [HLN.out] at TW ⊢
  have X7 : Hid (_ ∧ _ ∧ _ ∧ _ ∧ _ ∧ _ ∧ _) := seven w (.int .i64 wd) (.int .i64 sz) (.slice la ln lc) (.bool made) (.int .i64 fails) (.int .i64 code) (.slice aa an ac) 25
  obtain ⟨W0, HW0⟩ : ∃ W0, Hid (w.alloc (.cells #[.int .i64 wd, .int .i64 sz, .slice la ln lc, .bool made, .int .i64 fails, .int .i64 code, .slice aa an ac] 25) = W0) := ⟨_, rfl⟩
  have B0 : Hid (Below w.heap.size w W0) := by show Below _ _ _; rw [← HW0.out]; exact (Below.refl _ _).alloc (Nat.le_refl _) _
  rw [HW0.out] at X7
  have NM : Hid (∀ x w, Calls _ _ _ _ _) := fun x w => num x w
  have SM : Hid (∀ (va vb : Value) (ts : List ByteArray) w', ReadsT w' va ts → ReadsT w' vb ts → ts.length ≤ 140737488355328 → Calls _ _ _ _ _) := fun va vb ts w' h1 h2 h3 => same_yes va vb ts w' h1 h2 h3
  obtain ⟨A, HA⟩ : ∃ A, Hid (mulA s.wd (askS s) s.sz xs n [] = A) := ⟨_, rfl⟩
  have HAL : Hid (A.2.2.length ≤ 4294967296 ∧ (ans A).length ≤ 140737488355328) := by
    show _ ∧ _
    rw [← HA.out]
    exact mulA_bound s xs n
  clear hT hR hno hz hwd hcd
  go_enter Tryd.func6, Tryd.ntmps6
  go_wp2_with fail
  rw [HW0.out]
  refine (TW.out W0 B0.out).mono ?_
  rintro e w1 ⟨⟨sb, lv1, rfl, hsb, hlv1, h1⟩, hb1⟩
  have H1 : Hid (Sj s sb lv1 w1.heap.size (.slice none 0 0) (fun b => b = sb) [] w1 ∧ W0.heap.size ≤ sb) := ⟨h1, hsb⟩
  have B1 : Hid (Below W0.heap.size W0 w1) := hb1
  obtain ⟨y0, y1, y2, y3, y4, y5, y6⟩ := X7.out
  have z0 := (hb1.cell (World.block_lt_of_cell? _ _ y0)).trans y0
  have z1 := (hb1.cell (World.block_lt_of_cell? _ _ y1)).trans y1
  have z2 := (hb1.cell (World.block_lt_of_cell? _ _ y2)).trans y2
  have z3 := (hb1.cell (World.block_lt_of_cell? _ _ y3)).trans y3
  have z4 := (hb1.cell (World.block_lt_of_cell? _ _ y4)).trans y4
  have z5 := (hb1.cell (World.block_lt_of_cell? _ _ y5)).trans y5
  have z6 := (hb1.cell (World.block_lt_of_cell? _ _ y6)).trans y6
  clear h1 hb1 hsb hlv1 y0 y1 y2 y3 y4 y5 y6
  go_wp2_with fail
  refine (TW.out w1 (over B0.out B1.out)).mono ?_
  rintro e w2 ⟨⟨sb', lv2, rfl, hsb, hlv2, h2⟩, hb2⟩
  have T2 : Hid (Two s sb lv1 w1.heap.size sb' lv2 w2.heap.size (fun b => b = sb) (fun b => b = sb') [] [] w2) := two_of (w := w) HI.out.2 hsb hlv2 H1.out.1 h2 hb2
  have O2 : Hid (Over w (fun b => b = sb) (fun b => b = sb') w2) := ⟨over B0.out (over B1.out hb2), fun b e => by have := H1.out.2; have := B0.out.size; omega, fun b e => by have := B1.out.size; have := B0.out.size; omega⟩
  have RDI : Hid (ReadsI w2 (.slice ia k icap) xs) := HV.out.later O2.out.1
  clear hsb hlv2 h2 hb2 z0 z1 z2 z3 z4 z5 z6 TW X7
  go_upto_region 3 with fail
  go_cut [9] (fun f wx => ∃ f', f = f' ∧ Hid (wx.ownsRow w2.heap.size 3 1 f' k (xs.map (Value.int .i64))) ∧ Hid (Below w2.heap.size w2 wx))
  case first =>
    cases ia with
    | none =>
      obtain rfl : icap = 0 := HNI.out rfl
      have hn0 : k = 0 := by omega
      have hx0 : xs = [] := List.length_eq_zero_iff.1 (HK.out.trans hn0)
      subst hn0
      have O0 : Hid (w2.ownsRow w2.heap.size 3 1 (.slice none 0 0) 0 []) := World.ownsRow_nil _ _ _ _
      have HX0 : Hid (xs = []) := hx0
      clear hx0
      go_wp2_with (at_builtin; refine wpList_append_own_none rfl _ _ 41 rfl w2.heap.size 3 i9 1 Tryd.underlying41 HIN.out.1 _ 0 _ rfl O0.out rfl ?_)
      go_meet
      refine ⟨_, rfl, ?_, Below.refl _ _⟩
      show World.ownsRow _ _ _ _ _ _ _
      rw [HX0.out]
      exact O0.out
    | some ad =>
      have HNW : Hid (∀ (j : Nat) (u : Value), (xs.map (Value.int .i64))[j]? = some u → w2.cell? (ad.add j) = some u) := reads_newsI RDI.out
      have HNL : Hid ((xs.map (Value.int .i64)).length = k * 1) := by show _ = _; rw [List.length_map, HK.out, Nat.mul_one]
      have HN1 : Hid (∀ u ∈ xs.map (Value.int .i64), u.oneCell' = true) := one_ints xs
      have O0 : Hid (w2.ownsRow w2.heap.size 3 1 (.slice none 0 0) 0 []) := World.ownsRow_nil _ _ _ _
      go_wp2_with (at_builtin; refine wpList_append_own _ rfl _ _ 41 rfl w2.heap.size 3 i9 (.int .i64 0) 1 8 Tryd.underlying41 HIN.out.1 HIN.out.2.1 HIN.out.2.2.1 HIN.out.2.2.2 rfl (by decide) _ 0 _ rfl O0.out ad k icap (xs.map (Value.int .i64)) rfl HNL.out HNW.out HN1.out (by unfold maxLen; omega) (by omega) (Nat.le_refl _) ?_; intro f' w3 ho hg hnn; have HO3 : Hid (w3.ownsRow w2.heap.size 3 1 f' k (xs.map (Value.int .i64))) := (by have := ho; rw [Nat.zero_add, List.nil_append] at this; exact this); have HB3 : Hid (Below w2.heap.size w2 w3) := Below.grown (Below.refl _ _) hg (Nat.le_refl _) (fun j hj => by cases hj); clear ho hg hnn)
      go_meet
      exact ⟨_, rfl, HO3.out, HB3.out⟩
  case rest =>
    obtain ⟨f1, hf1, O1, B3⟩ := hcut
    rw [← hf1] at O1
    clear hf1
    have O1a : Hid ((wc.alloc (.cells #[.int .i64 (-7)] 3)).ownsRow w2.heap.size 3 1 u9 k (xs.map (Value.int .i64))) := O1.out.alloc (.cells #[.int .i64 (-7)] 3)
    have B3a : Hid (Below w2.heap.size w2 (wc.alloc (.cells #[.int .i64 (-7)] 3))) := B3.out.alloc B3.out.size _
    go_upto_region 5 with (at_builtin; refine wpList_append_own _ rfl _ _ 41 rfl w2.heap.size 3 i9 (.int .i64 0) 1 8 Tryd.underlying41 HIN.out.1 HIN.out.2.1 HIN.out.2.2.1 HIN.out.2.2.2 rfl (by decide) _ k _ rfl O1a.out ⟨wc.heap.size, 0, none⟩ 1 1 [.int .i64 (-7)] rfl rfl (new_int _ _ _) (one_int _) (by unfold maxLen; omega) (by omega) B3a.out.size ?_; intro f' w4 ho hg hnn; have O2r : Hid (w4.ownsRow w2.heap.size 3 1 f' (k + 1) (xs.map (Value.int .i64) ++ [.int .i64 (-7)])) := ho; have B4 : Hid (Below w2.heap.size w2 w4) := Below.grown B3a.out hg B3a.out.size (fun j hj => (O1.out.lt _ hj).1); clear ho hg hnn)
    obtain ⟨g, cp, rfl⟩ : ∃ g cp, f' = .slice (some ⟨g, 0, none⟩) (k + 1) cp := by
      rcases O2r.out.2 with ⟨_, h⟩ | ⟨g, cp, cur, h, _⟩
      · omega
      · exact ⟨g, cp, h⟩
    have R4 : Hid (Row xs w2.heap.size w4 g cp k) := O2r.out
    have hcp := R4.out.cap
    have hcp1 : (k : Int) ≤ cp := by omega
    have hcp2 : (k : Int) < k + 1 := by omega
    have HG : Hid (w2.heap.size ≤ g ∧ g < w4.heap.size) := ⟨(owns_lt O2r.out rfl).2, (owns_lt O2r.out rfl).1⟩
    have P4 : Hid (Pm s sb lv1 w1.heap.size sb' lv2 w2.heap.size (fun b => b = sb) (fun b => b = sb') [] [] w xs w2.heap.size g cp k w4) := by
      refine ⟨T2.out.later HI.out.2 B4.out, O2.out.later B4.out, R4.out, fun e => ?_, fun e => ?_⟩
      · have := (srcR s sb lv1 w1.heap.size HI.out.2).within T2.out.a sb rfl; have := HG.out; have e' : g = sb := e; omega
      · have := (srcR s sb' lv2 w2.heap.size HI.out.2).within T2.out.b sb' rfl; have := HG.out; have e' : g = sb' := e; omega
    have RC : Hid (∀ w', Below w4.heap.size w4 w' → Calls _ _ _ _ _) := fun w' hb => readerS s sb lv1 w1.heap.size (fun b => b = sb) [] w' HI.out.2 ((srcR s sb lv1 w1.heap.size HI.out.2).later P4.out.two.a hb)
    have PC : Hid (∀ tb w', Below w4.heap.size w4 w' → TJ s sb lv1 w1.heap.size tb (fun b => b = sb) [] w' → Calls _ _ _ _ _) := fun tb w' hb htj => multiC (telR s sb lv1 w1.heap.size tb HI.out.2) wd s.sz n (.slice (some ⟨g, 0, none⟩) k cp) xs HI.out.1 (fun b => b = sb) [] w' (by decide) htj ((P4.out.row.reads HK.out).later hb) (by rw [HK.out]; omega)
    rw [← HSW.out, HA.out, HSW.out] at PC
    clear O1 O1a B3 B3a T2 O2 O2r R4
    go_upto_region 6 with fail
    go_cut [11, 12] (fun x e wx => ∃ u4 F4, x = u4 ∧ e = .int .i64 A.2.1 ∧ Hid (Pm s sb lv1 w1.heap.size sb' lv2 w2.heap.size F4 (fun b => b = sb') A.2.2 [] w xs w2.heap.size g cp k wx ∧ Ans u4 w4.heap.size (ans A) wx ∧ Beside (fun b => b = sb') u4))
    case first =>
      go_region_with (first
        | (go_at_call 9; refine (RC.out _ (by first | exact Below.refl _ _ | exact below_dN (Below.refl _ _) _)).mono ?_; rintro e w3 ⟨⟨tb, rfl, htj⟩, hb3⟩; rw [HSW.out]; have H3 : Hid (TJ s sb lv1 w1.heap.size tb (fun b => b = sb) [] w3 ∧ Below w4.heap.size w4 w3) := ⟨htj, by first | exact hb3 | exact over (below_dN (Below.refl _ _) _) hb3⟩; clear htj hb3)
        | (go_at_call 21; refine (PC.out tb _ (by first | exact H3.out.2 | exact below_dN H3.out.2 _) (by first | exact H3.out.1 | exact (telR s sb lv1 w1.heap.size tb HI.out.2).later H3.out.1 (below_dN (Below.refl _ _) _))).mono ?_; rintro e w5 ⟨u4, F4, rfl, ho4, hj4, hg4, hb4⟩; have H5 : Hid (Pm s sb lv1 w1.heap.size sb' lv2 w2.heap.size F4 (fun b => b = sb') A.2.2 [] w xs w2.heap.size g cp k w5 ∧ Ans u4 w4.heap.size (ans A) w5 ∧ Beside (fun b => b = sb') u4) := (by first | exact step4 HI.out.2 P4.out H3.out.2 ho4 hj4.j hg4 | exact step4 HI.out.2 P4.out (below_dN H3.out.2 _) ho4 hj4.j hg4); clear ho4 hj4 hg4 hb4))
      all_goals (go_wp2; go_meet; exact ⟨_, _, rfl, rfl, H5.out⟩)
    case rest =>
      obtain ⟨u4, F4, hx4, rfl, H5⟩ := hcut
      rw [← hx4] at H5
      clear hx4
      have DC : Hid (Calls _ _ _ _ _) := multiS s sb' lv2 w2.heap.size HI.out.2 (.slice ia k icap) xs n (fun b => b = sb') [] wc (by decide) H5.out.1.two.b (HV.out.later H5.out.1.ov.1) (by rw [HK.out]; omega)
      rw [HA.out] at DC
      go_wp2_with fail
      refine DC.out.mono ?_
      rintro e w5 ⟨u5, F5, rfl, ho5, hj5, hg5, hb5⟩
      have H6 : Hid (Pm s sb lv1 w1.heap.size sb' lv2 w2.heap.size F4 F5 A.2.2 A.2.2 w xs w2.heap.size g cp k w5 ∧ ReadsT w5 u11 (ans A) ∧ ReadsT w5 u5 (ans A)) := step5 HI.out.2 H5.out.1 H5.out.2.1 H5.out.2.2 ho5 hj5 hg5
      obtain ⟨ac', HAC⟩ : ∃ c, Hid (A.2.1 = c) := ⟨_, rfl⟩
      rw [HAC.out]
      have qc : (ac' == ac') = true := beq_self_eq_true _
      clear hj5 hg5 ho5 hb5 H5 P4 RC PC DC
      go_wp2
      go_loopw [15] (fun i wr => ∃ q m : Nat, q ≤ k ∧ i = .int .i64 q ∧ wr = w5.drewN m) (fun i _ => (k - intOf i).toNat)
      case atStart => exact ⟨0, 0, by omega, rfl, rfl⟩
      case round =>
        obtain ⟨q, m, hq, rfl, rfl⟩ := hrel
        by_cases hlt : q < k
        · have hlt' : (q : Int) < k := by omega
          obtain ⟨b, off, rfl, hc⟩ : ∃ b off, ia = some ⟨b, off, none⟩ ∧ ∀ i, i < k → w.cell? ⟨b, off + i, none⟩ = some (.int .i64 (xs.getD i 0)) := by
            rcases HIC.out with h | h
            · omega
            · exact h
          have c0 := hc q hlt
          have c1 := (H6.out.1.ov.1.cell (World.block_lt_of_cell? _ _ c0)).trans c0
          have c2 := H6.out.1.row.cell HK.out hlt
          obtain ⟨X, HX⟩ : ∃ X, Hid (xs.getD q 0 = X) := ⟨_, rfl⟩
          rw [HX.out] at c1 c2
          have qx : (X == X) = true := beq_self_eq_true _
          clear hc c0
          go_wp2_with fail
          go_quiet (fail)
          go_wp2
          go_roundw
          case rel => exact ⟨q + 1, _, by omega, by go_num, rfl⟩
          case measure => simp [intOf]; omega
        · have hlt' : ¬ (q : Int) < k := by omega
          have SC : Hid (Calls _ _ _ _ _) := SM.out u11 u5 (ans A) (w5.drewN m) (H6.out.2.1.later (below_dN (Below.refl _ _) m)) (H6.out.2.2.later (below_dN (Below.refl _ _) m)) HAL.out.2
          go_wp2_with fail
          refine SC.out.mono ?_
          rintro e w6 ⟨rfl, m6, hw6⟩
          have B6 : Hid (Below w5.heap.size w5 w6) := by rw [hw6]; exact below_dN (below_dN (Below.refl _ _) m) m6
          have T6 : Hid (Two s sb lv1 w1.heap.size sb' lv2 w2.heap.size F4 F5 A.2.2 A.2.2 w6) := H6.out.1.two.later HI.out.2 B6.out
          have AC : Hid (Calls _ _ _ _ _) := askedS s sb sb' lv1 lv2 _ _ F4 F5 A.2.2 w6 T6.out.a T6.out.b HAL.out.1
          clear hw6
          go_wp2_with fail
          refine (NM.out _ _).mono ?_
          rintro e w7 ⟨rfl, hw7⟩
          subst hw7
          go_wp2_with fail
          refine AC.out.mono ?_
          rintro e w8 ⟨rfl, m8, hw8⟩
          have B8 : Hid (Below w5.heap.size w5 w8) := by rw [hw8]; exact below_dN B6.out m8
          have c8 := H6.out.1.row.last HK.out
          have c9 := (B8.out.cell (World.block_lt_of_cell? _ _ c8)).trans c8
          clear hw8 c8
          go_wp2
          go_ret
          exact ⟨rfl, over H6.out.1.ov.1 B8.out⟩
end Go.Proofs.YtglffbhcnafbnabDoor.lm

namespace Go.Proofs.YtglffbhcnafbnabDoor.wp
open Go.RowKit Go.PlainAid
open Go.Proofs.YtglffbhcnafbnabDoor.cp Go.Proofs.YtglffbhcnafbnabDoor.cv Go.Proofs.YtglffbhcnafbnabDoor.ka Go.Proofs.YtglffbhcnafbnabDoor.sa Go.Proofs.YtglffbhcnafbnabDoor.sg Go.Proofs.YtglffbhcnafbnabDoor.ws Go.Proofs.YtglffbhcnafbnabDoor.mi
set_option linter.unusedVariables false

theorem law_call (W : World) (a0 a1 : Int) (v : Value) (xs : List ByteArray) (b : Bool) (a4 a5 : Int) (aa : Option Addr) (an ac : Nat) (w0 : (Lit.int .i64 a0).wf = true) (w5 : (Lit.int .i64 a5).wf = true) (hr : ReadsT W v xs) (hno : ∀ k c, v = .slice none k c → c = 0) (u : Value) (zs : List Int) (hu : ReadsI W u zs) (hnu : ∀ k c, u = .slice none k c → c = 0) (n : Int) (wn : (Lit.int .i64 n).wf = true) (hsum : ((xs.map ByteArray.size).sum + xs.length) + zs.length ≤ 1048576) (tabs : T7 W) :
    Calls Tryd.prog 6 #[.agg #[.int .i64 a0, .int .i64 a1, v, .bool b, .int .i64 a4, .int .i64 a5, .slice aa an ac], u, .int .i64 n] W fun e w' => e = .returned (.bool true) ∧ Below W.heap.size W w' :=
  Go.Proofs.YtglffbhcnafbnabDoor.lm.prove_law a0 a1 v xs b a4 a5 aa an ac u zs n (i64_of w0) (i64_of w5) W tabs hr hno (sized_of (by omega)) hu hnu (by omega)
end Go.Proofs.YtglffbhcnafbnabDoor.wp
