import Derived.Test.YtmmbkfagchaocaaDoorA2
import Derived.Handy
import Derived.Maps.AppendAt
import Derived.Test.YtmmbkfagchaocaaDoorD1
import Derived.BigQuiet
namespace Go.Proofs.YtmmbkfagchaocaaDoor.rh
open Go.RowKit Go.PlainAid
open Go.Proofs.YtmmbkfagchaocaaDoor.pl Go.Proofs.YtmmbkfagchaocaaDoor.pi Go.Proofs.YtmmbkfagchaocaaDoor.pj Go.Proofs.YtmmbkfagchaocaaDoor.rf Go.Proofs.YtmmbkfagchaocaaDoor.ca Go.Proofs.YtmmbkfagchaocaaDoor.cb Go.Proofs.YtmmbkfagchaocaaDoor.cp Go.Proofs.YtmmbkfagchaocaaDoor.cs Go.Proofs.YtmmbkfagchaocaaDoor.ka Go.Proofs.YtmmbkfagchaocaaDoor.kb Go.Proofs.YtmmbkfagchaocaaDoor.ga Go.Proofs.YtmmbkfagchaocaaDoor.gb Go.Proofs.YtmmbkfagchaocaaDoor.na Go.Proofs.YtmmbkfagchaocaaDoor.nb Go.Proofs.YtmmbkfagchaocaaDoor.nc Go.Proofs.YtmmbkfagchaocaaDoor.oa Go.Proofs.YtmmbkfagchaocaaDoor.ob Go.Proofs.YtmmbkfagchaocaaDoor.qa Go.Proofs.YtmmbkfagchaocaaDoor.qb Go.Proofs.YtmmbkfagchaocaaDoor.qc
set_option linter.unusedVariables false

def MK : ByteArray := ⟨#[109, 97, 114, 107]⟩
-- the same hashes, with two marks behind them
def Twin2 (w : World) (B g n cp : Nat) (xs : List ByteArray) : Prop := w.ownsRow B 9 1 (.slice (some ⟨g, 0, none⟩) (n + 2) cp) (n + 2) (xs.map Value.string ++ [.string MK, .string MK])
theorem fx_grow {w w' : World} {b B e s n : Nat} {lo hi : Int} {u v : Value} {xs : List Value} (h : Fx w b lo hi u) (ho : w.ownsRow B e s v n xs) (hne : e ≠ 24) (hg : w.grownBy w' v.ownBlock) : Fx w' b lo hi u := by
  refine (hg.block b h.lt ?_).trans h
  intro he
  rcases ho.2 with ⟨rfl, _⟩ | ⟨g', cap', cur', rfl, _, hgg', _⟩
  · cases he
  · have e1 : b = g' := Option.some.inj he
    subst e1
    unfold Fx at h
    rw [h] at hgg'
    simp only [Option.some.injEq, Obj.cells.injEq] at hgg'
    exact absurd hgg'.2.1.symm hne
theorem fx_cell2 {w : World} {b : Nat} {lo hi : Int} {u : Value} (h : Fx w b lo hi u) (u' : Value) : Fx (w.setCell ⟨b, 2, none⟩ u') b lo hi u' := heap_setCell_same _ _ 2 _ _ u' h
theorem own_cell {w : World} {B e size n b o : Nat} {v : Value} {xs : List Value} {lo hi : Int} {u : Value} (h : w.ownsRow B e size v n xs) (hf : Fx w b lo hi u) (hne : e ≠ 24) (x : Value) : (w.setCell ⟨b, o, none⟩ x).ownsRow B e size v n xs := by
  refine ⟨h.1, ?_⟩
  rcases h.2 with hn | ⟨g, cap, cur, rfl, hg, hgg, rest⟩
  · exact .inl hn
  · refine .inr ⟨g, cap, cur, rfl, hg, ?_, rest⟩
    rw [Below.heap_setCell _ _ _ _ ?_]
    · exact hgg
    · rintro rfl
      unfold Fx at hf
      rw [hgg] at hf
      simp only [Option.some.injEq, Obj.cells.injEq] at hf
      exact hne hf.2.1
theorem two_texts (W : World) (t : TypeId) : ∀ (j : Nat) (x : Value), [Value.string MK, .string MK][j]? = some x → (W.alloc (.cells #[.string MK, .string MK] t)).cell? (Addr.add ⟨W.heap.size, 0, none⟩ j) = some x := by
  intro j x hx
  rw [show (Addr.add ⟨W.heap.size, 0, none⟩ j) = ⟨W.heap.size, j, none⟩ by cases j <;> simp [Addr.add], World.cell?_alloc_at _ _ _ _ rfl]
  simpa using hx
structure Rm (w wr : World) (lo hi : Int) (u v : Value) (k : Nat) (hs : List ByteArray) : Prop where
  b : Below w.heap.size w wr
  f1 : Fx wr w.heap.size lo hi u
  f2 : Fx wr (w.heap.size + 1) 0 0 (.slice none 0 0)
  o : wr.ownsRow w.heap.size 9 1 v k ((hs.take k).map Value.string)
theorem twin_reads {w : World} {B g n cp : Nat} {xs : List ByteArray} (h : Twin2 w B g n cp xs) (hn : xs.length = n) : ReadsT w (.slice (some ⟨g, 0, none⟩) n cp) xs := by
  have hc : n + 2 ≤ cp := by
    rcases h.2 with ⟨e, _⟩ | ⟨g', cap', cur, e, _, _, hc, _⟩
    · cases e
    · injection e with _ _ e3; omega
  refine ⟨_, cp, by rw [hn], by omega, .inr ⟨g, 0, rfl, fun i hi => ?_⟩⟩
  rw [Nat.zero_add, World.ownsRow.cellAt h i (by omega), List.getElem?_append_left (by rw [List.length_map]; exact hi), List.getElem?_map, List.getElem?_eq_getElem hi, List.getD_eq_getElem?_getD, List.getElem?_eq_getElem hi]
  rfl
theorem twin_mark {w : World} {B g n cp : Nat} {xs : List ByteArray} (h : Twin2 w B g n cp xs) (hn : xs.length = n) : w.cell? ⟨g, n, none⟩ = some (.string MK) ∧ w.cell? ⟨g, n + 1, none⟩ = some (.string MK) := by
  refine ⟨?_, ?_⟩
  · rw [World.ownsRow.cellAt h n (by omega), List.getElem?_append_right (by rw [List.length_map]; omega), List.length_map, hn, Nat.sub_self]; rfl
  · rw [World.ownsRow.cellAt h (n + 1) (by omega), List.getElem?_append_right (by rw [List.length_map]; omega), List.length_map, hn, show n + 1 - n = 1 by omega]; rfl
theorem twin_cap {w : World} {B g n cp : Nat} {xs : List ByteArray} (h : Twin2 w B g n cp xs) : n + 2 ≤ cp := by
  rcases h.2 with ⟨e, _⟩ | ⟨g', cap', cur, e, _, _, hc, _⟩
  · cases e
  · injection e with _ _ e3; omega
theorem Twin2.later {w w' : World} {B g n cp : Nat} {xs : List ByteArray} (h : Twin2 w B g n cp xs) (hb : Below w.heap.size w w') : Twin2 w' B g n cp xs := own_later h hb
-- a hash written over
theorem twin_set {w : World} {B g n cp : Nat} {xs : List ByteArray} (h : Twin2 w B g n cp xs) (hn : xs.length = n) (k : Nat) (hk : k < n) (x : ByteArray) : Twin2 (w.setCell ⟨g, k, none⟩ (.string x)) B g n cp (xs.set k x) ∧ w.grownBy (w.setCell ⟨g, k, none⟩ (.string x)) (some g) := by
  obtain ⟨h1, h2⟩ := World.ownsRow.stored h k (.string x)
  refine ⟨?_, h2⟩
  unfold Twin2
  rw [List.set_append_left _ _ (by rw [List.length_map]; omega)] at h1
  rw [List.map_set]
  exact h1
end Go.Proofs.YtmmbkfagchaocaaDoor.rh

namespace Go.Proofs.YtmmbkfagchaocaaDoor.rm
open Go.RowKit Go.PlainAid
open Go.Proofs.YtmmbkfagchaocaaDoor.pl Go.Proofs.YtmmbkfagchaocaaDoor.pi Go.Proofs.YtmmbkfagchaocaaDoor.pj Go.Proofs.YtmmbkfagchaocaaDoor.rf Go.Proofs.YtmmbkfagchaocaaDoor.ca Go.Proofs.YtmmbkfagchaocaaDoor.cb Go.Proofs.YtmmbkfagchaocaaDoor.cp Go.Proofs.YtmmbkfagchaocaaDoor.cs Go.Proofs.YtmmbkfagchaocaaDoor.kb Go.Proofs.YtmmbkfagchaocaaDoor.ka Go.Proofs.YtmmbkfagchaocaaDoor.ga Go.Proofs.YtmmbkfagchaocaaDoor.gb Go.Proofs.YtmmbkfagchaocaaDoor.na Go.Proofs.YtmmbkfagchaocaaDoor.nb Go.Proofs.YtmmbkfagchaocaaDoor.nc Go.Proofs.YtmmbkfagchaocaaDoor.oa Go.Proofs.YtmmbkfagchaocaaDoor.ob Go.Proofs.YtmmbkfagchaocaaDoor.qa Go.Proofs.YtmmbkfagchaocaaDoor.qb Go.Proofs.YtmmbkfagchaocaaDoor.qc Go.Proofs.YtmmbkfagchaocaaDoor.qd Go.Proofs.YtmmbkfagchaocaaDoor.rg Go.Proofs.YtmmbkfagchaocaaDoor.rh Go.Proofs.YtmmbkfagchaocaaDoor.rl
set_option linter.unusedVariables false

structure Fq (w wr : World) (lo hi : Int) (v : Value) (k : Nat) (ns : List Md) : Prop where
  b : Below w.heap.size w wr
  r : Fx wr w.heap.size 0 0 (.slice none 0 0)
  f : Fx wr (w.heap.size + 1) lo hi v
  o : wr.ownsRow w.heap.size 9 1 v k (((ns.take k).map Prod.snd).map Value.string)
theorem text_new (W : World) (x : ByteArray) : ∀ (j : Nat) (u : Value), [Value.string x][j]? = some u → (W.alloc (.cells #[.string x] 9)).drew.cell? (Addr.add ⟨W.heap.size, 0, none⟩ j) = some u := fun j u hu => new_text W _ 9 j u hu
theorem Fq.next {w wr w7 : World} {lo hi : Int} {v v7 : Value} {k : Nat} {ns : List Md} {x : Md} {o : Obj} (h : Fq w wr lo hi v k ns) (hx : ns[k]? = some x) (hg : (wr.alloc o).drew.grownBy w7 v.ownBlock) (ho : w7.ownsRow w.heap.size 9 1 v7 (k + 1) (((ns.take k).map Prod.snd).map Value.string ++ [.string x.2])) :
    Fx w7 (w.heap.size + 1) lo hi v ∧ Fq w (w7.setCell ⟨w.heap.size + 1, 2, none⟩ v7) lo hi v7 (k + 1) ns := by
  have OX : (wr.alloc o).drew.ownsRow w.heap.size 9 1 v k _ := World.ownsRow.drew (h.o.alloc o)
  have BX : Below w.heap.size w (wr.alloc o).drew := below_dN (h.b.alloc h.b.size o) 1
  have X1 : Fx (wr.alloc o).drew w.heap.size 0 0 (.slice none 0 0) := h.r.on (below_dN ((Below.refl _ _).alloc (Nat.le_refl _) o) 1)
  have X2 : Fx (wr.alloc o).drew (w.heap.size + 1) lo hi v := h.f.on (below_dN ((Below.refl _ _).alloc (Nat.le_refl _) o) 1)
  have Y1 := fx_grow X1 OX (by decide) hg
  have Y2 := fx_grow X2 OX (by decide) hg
  have BY : Below w.heap.size w w7 := Below.grown BX hg BX.size (fun jj hj => (OX.lt _ hj).1)
  refine ⟨Y2, BY.setCell (p := ⟨w.heap.size + 1, 2, none⟩) (by show _ ≤ w.heap.size + 1; omega) _, (Below.heap_setCell _ _ _ _ (by simp)).trans Y1, fx_cell2 Y2 _, own_cell ?_ Y2 (by decide) _⟩
  rw [List.take_add_one, hx, List.map_append, List.map_append]
  exact ho
set_option maxHeartbeats 3200000 in
set_option maxRecDepth 100000 in
theorem rfrontier (lo hi : Int) (m : Value) (ns : List Md) (w : World) (hR : ReadsM w m ns) (hn : ns.length ≤ 244) :
    Calls Tryd.prog 33 #[.int .i64 lo, .int .i64 hi, m] w fun e w' => (∃ v, e = .returned (FV lo hi v) ∧ Texts w' w.heap.size v (ns.map Prod.snd)) ∧ Below w.heap.size w w' := by
  obtain ⟨i9, hi9', hz0, hz1, hz2⟩ := info_parts hi9
  have HIN : Hid (_ ∧ _ ∧ _ ∧ _) := ⟨hi9', hz0, hz1, hz2⟩
  have HRD : Hid (ReadsM w m ns) := hR
  have H0 : Hid (Fq w ((w.alloc (.cells #[.int .i64 0, .int .i64 0, .slice none 0 0] 24)).alloc (.cells #[.int .i64 lo, .int .i64 hi, .slice none 0 0] 24)) lo hi (.slice none 0 0) 0 ns) := by
    refine ⟨((Below.refl _ _).alloc (Nat.le_refl _) _).alloc (by simp) _, (fx_new _ _ _ _).on ((Below.refl _ _).alloc (Nat.le_refl _) _), ?_, World.ownsRow_nil _ _ _ _⟩
    have := fx_new (w.alloc (.cells #[.int .i64 0, .int .i64 0, .slice none 0 0] 24)) lo hi (.slice none 0 0)
    rw [show (w.alloc (.cells #[.int .i64 0, .int .i64 0, .slice none 0 0] 24)).heap.size = w.heap.size + 1 by simp] at this
    exact this
  obtain ⟨a, cap, rfl, hh⟩ := hR
  obtain ⟨n, HN⟩ : ∃ n, Hid (ns.length = n) := ⟨_, rfl⟩
  rw [HN.out] at HRD hn ⊢
  clear hi9' hz0 hz1 hz2 hh
  go_enter Tryd.func33, Tryd.ntmps33
  go_wp2
  go_loopw [8] (fun i wr => ∃ (v : Value) (k : Nat), k ≤ n ∧ i = .int .i64 k ∧ Hid (Fq w wr lo hi v k ns)) (fun i _ => (n - intOf i).toNat)
  case atStart => exact ⟨_, 0, by omega, rfl, H0.out⟩
  case round =>
    obtain ⟨v, k, hk, rfl, HQ⟩ := hrel
    clear H0
    obtain ⟨ua, uc, rfl⟩ := own_formS HQ.out.o
    by_cases hlt : k < n
    · have hlt' : (k : Int) < n := by omega
      have hkx : k < ns.length := by rw [HN.out]; exact hlt
      obtain ⟨x, HX⟩ : ∃ x, Hid (ns[k]? = some x) := ⟨_, List.getElem?_eq_getElem hkx⟩
      obtain ⟨b, rfl, c1, c2, c3⟩ := row_atM (HRD.out.later HQ.out.b) HX.out
      obtain ⟨y, HYX⟩ : ∃ y, Hid (x.2 = y) := ⟨_, rfl⟩
      rw [HYX.out] at c3
      have d3 := HQ.out.f.fb.z
      have OX : Hid ((wr.alloc (.cells #[.string y] 9)).drew.ownsRow w.heap.size 9 1 (.slice ua k uc) k (((ns.take k).map Prod.snd).map Value.string)) := World.ownsRow.drew (HQ.out.o.alloc _)
      have BX : Hid (Below w.heap.size w (wr.alloc (.cells #[.string y] 9)).drew) := below_dN (HQ.out.b.alloc HQ.out.b.size _) 1
      have NX : Hid _ := text_new wr y
      have dd : (wr.alloc (.cells #[.string y] 9)).cell? ⟨w.heap.size + 1, 2, none⟩ = some (.slice ua k uc) := (Below.cell ((Below.refl _ _).alloc (Nat.le_refl _) _) (World.block_lt_of_cell? _ _ d3)).trans d3
      have dc : (wr.alloc (.cells #[.string y] 9)).cell? ⟨b, k * 3 + 2, none⟩ = some (.string y) := (Below.cell ((Below.refl _ _).alloc (Nat.le_refl _) _) (World.block_lt_of_cell? _ _ c3)).trans c3
      clear c1 c2
      go_wp2_with fail
      go_region_law ((refine step_append_lies _ (by rfl) _ _ 22 (by rfl) w.heap.size 9 i9 (.string ByteArray.empty) 1 16 Tryd.underlying22 HIN.out.1 HIN.out.2.1 HIN.out.2.2.1 HIN.out.2.2.2 rfl (by decide) _ k _ (by rfl) OX.out ⟨wr.heap.size, 0, none⟩ 1 1 [.string y] (by rfl) rfl NX.out (one_text _) (by omega) (by unfold maxLen; omega) (by omega) BX.out.size _ rfl ?_; intro g7 cap7 w7 hown7 hgrow7 hlies7 hglt7; rw [← HYX.out] at hown7; have HNX : Hid (_ ∧ _) := HQ.out.next HX.out hgrow7 hown7; obtain ⟨p1, p2, p3⟩ := HNX.out.1.fb; have p4 := frozen_of_row w7 (w.heap.size + 1) 2 _ _ HNX.out.1; clear hown7 hgrow7 hlies7 hglt7))
      all_goals
        go_wp2
        go_roundw
        case rel => exact ⟨_, k + 1, by omega, by go_num, HNX.out.2⟩
        case measure => simp [intOf]; omega
    · have hlt' : ¬ (k : Int) < n := by omega
      obtain rfl : k = n := by omega
      have hO := HQ.out.o
      rw [List.take_of_length_le (by rw [HN.out]; omega)] at hO
      obtain ⟨d1, d2, d3⟩ := HQ.out.f.fb
      obtain ⟨e1, e2, e3⟩ := HQ.out.r.fb
      have f0 := frozen_of_row wr w.heap.size 0 _ _ HQ.out.r
      have f1 := frozen_of_row wr w.heap.size 1 _ _ HQ.out.r
      have f2 := frozen_of_row wr w.heap.size 2 _ _ HQ.out.r
      have O1 := fx_set HQ.out.r lo hi (.slice ua k uc)
      have O2 : Hid (World.ownsRow _ _ _ _ _ _ _) := own_set3 hO HQ.out.r (by decide) (.int .i64 lo) (.int .i64 hi) (.slice ua k uc)
      have O3 : Hid (Below w.heap.size w (set3 wr w.heap.size (.int .i64 lo) (.int .i64 hi) (.slice ua k uc))) := below_set3 HQ.out.b (Nat.le_refl _) _ _ _
      obtain ⟨g1, g2, g3⟩ := O1.fb
      clear O1 hO
      go_wp2
      unfold set3 at g1 g2 g3 O2 O3
      generalize World.setCell _ _ _ = wy at g1 g2 g3 O2 O3 ⊢
      (try simp only [Exit.inBlock, Exit.then])
      refine bodyPost_ret (by simp [results, Tryd.results33, go_sem, g1, g2, g3]; try rfl) rfl ?_
      refine ⟨⟨_, rfl, ?_⟩, O3.out⟩
      unfold Texts
      rw [List.length_map, HN.out]
      exact O2.out
end Go.Proofs.YtmmbkfagchaocaaDoor.rm

namespace Go.Proofs.YtmmbkfagchaocaaDoor.rq
open Go.RowKit Go.PlainAid
open Go.Proofs.YtmmbkfagchaocaaDoor.pl Go.Proofs.YtmmbkfagchaocaaDoor.pi Go.Proofs.YtmmbkfagchaocaaDoor.pj Go.Proofs.YtmmbkfagchaocaaDoor.rf Go.Proofs.YtmmbkfagchaocaaDoor.ca Go.Proofs.YtmmbkfagchaocaaDoor.cb Go.Proofs.YtmmbkfagchaocaaDoor.cp Go.Proofs.YtmmbkfagchaocaaDoor.cs Go.Proofs.YtmmbkfagchaocaaDoor.kb Go.Proofs.YtmmbkfagchaocaaDoor.ka Go.Proofs.YtmmbkfagchaocaaDoor.ga Go.Proofs.YtmmbkfagchaocaaDoor.gb Go.Proofs.YtmmbkfagchaocaaDoor.na Go.Proofs.YtmmbkfagchaocaaDoor.nb Go.Proofs.YtmmbkfagchaocaaDoor.nc Go.Proofs.YtmmbkfagchaocaaDoor.oa Go.Proofs.YtmmbkfagchaocaaDoor.ob Go.Proofs.YtmmbkfagchaocaaDoor.qa Go.Proofs.YtmmbkfagchaocaaDoor.qb Go.Proofs.YtmmbkfagchaocaaDoor.qc Go.Proofs.YtmmbkfagchaocaaDoor.qd Go.Proofs.YtmmbkfagchaocaaDoor.rg Go.Proofs.YtmmbkfagchaocaaDoor.rl Go.Proofs.YtmmbkfagchaocaaDoor.rm Go.Proofs.YtmmbkfagchaocaaDoor.rn Go.Proofs.YtmmbkfagchaocaaDoor.ro
set_option linter.unusedVariables false

-- one node more
theorem runD_snoc {α : Type} (N : α → α → α) (xs : List (Nd α)) (x : Nd α) : ∀ rs, runR N rs (xs ++ [x]) = ((joinR N (runR N rs xs).1 x).1, (runR N rs xs).2 ++ (joinR N (runR N rs xs).1 x).2) := by
  induction xs with
  | nil => intro rs; simp [runR]
  | cons y xs ih =>
    intro rs
    show ((runR N (joinR N rs y).1 (xs ++ [x])).1, (joinR N rs y).2 ++ (runR N (joinR N rs y).1 (xs ++ [x])).2) = _
    rw [ih]
    simp [runR, List.append_assoc]
theorem small_join {wd : Int} (rs : List Md) : ∀ x, (∀ n ∈ x :: rs, Small n) → ∀ n ∈ (joinR (NF wd) rs x).1, Small n := by
  induction rs with
  | nil => intro x h n hn; simp [joinR] at hn; subst hn; exact h _ (by simp)
  | cons a rs ih =>
    intro x h n hn
    by_cases hh : halves a.1 x.1
    · rw [joinR_yes _ rs hh] at hn
      refine ih (upN (NF wd) a x) (fun m hm => ?_) n hn
      rcases List.mem_cons.1 hm with rfl | hm
      · have ha := h a (by simp)
        refine ⟨?_, ?_, ?_⟩
        · show a.1.1 + 1 ≤ 126; have := hh.2.2.2; omega
        · show a.1.2 / 2 ≤ _; have := ha.2.1; omega
        · show (NF wd a.2 x.2).size ≤ 32; rw [show (NF wd a.2 x.2).size = wid wd from cutS_size _ _]; have := wid_in wd; omega
      · exact h m (by simp [hm])
    · rw [joinR_no _ rs hh] at hn
      exact h n hn
theorem small_run {wd : Int} (xs : List Md) : ∀ rs, (∀ n ∈ rs, Small n) → (∀ n ∈ xs, Small n) → ∀ n ∈ (runR (NF wd) rs xs).1, Small n := by
  induction xs with
  | nil => intro rs h _; exact h
  | cons x xs ih =>
    intro rs h hx
    exact ih _ (small_join rs x (fun n hn => by rcases List.mem_cons.1 hn with rfl | hn; exact hx _ (by simp); exact h n hn)) (fun n hn => hx n (by simp [hn]))
-- the run, the list behind it, and the boxes beside
structure Dm (w wr : World) (p : Nat) (vn vw vq : Value) (ns wh qs : List Md) (K : World → Prop) : Prop where
  b : Below w.heap.size w wr
  r : Rx wr p vn vw
  n : Mades wr w.heap.size vn ns
  m : Mades wr w.heap.size vw wh
  q : Mades wr w.heap.size vq qs
  ap : vn.ownBlock = none ∨ vn.ownBlock ≠ vw.ownBlock
  aq : ∀ g, vq.ownBlock = some g → some g ≠ vn.ownBlock ∧ some g ≠ vw.ownBlock
  hp : w.heap.size ≤ p
  k : K wr
theorem Dm.next {w wr w' : World} {p : Nat} {vn vw vq vn' vw' : Value} {ns wh qs ns' wh' : List Md} {K : World → Prop} (h : Dm w wr p vn vw vq ns wh qs K) (hs : Sn wr w' w.heap.size p vn.ownBlock vw.ownBlock vn' vw' ns' wh') (hK : (∀ k, k < wr.heap.size → k ≠ p → some k ≠ vn.ownBlock → some k ≠ vw.ownBlock → w'.heap[k]? = wr.heap[k]?) → K w') : Dm w w' p vn' vw' vq ns' wh' qs K := by
  have hB := hs.k.below (B := w.heap.size) h.b.size h.hp (fun g e => (World.ownsRow.lt h.n g e).1) (fun g e => (World.ownsRow.lt h.m g e).1)
  have hq : ∀ g, vq.ownBlock = some g → g < wr.heap.size := fun g e => (World.ownsRow.lt h.q g e).2
  refine ⟨h.b.trans hB, hs.r, hs.n, hs.m, ?_, hs.ap, fun g e => ?_, h.hp, hK (fun k h1 h2 h3 h4 => hs.k.block k h1 h2 h3 h4)⟩
  · refine ⟨h.q.1, ?_⟩
    rcases h.q.2 with hn | ⟨g, cap, cur, rfl, hb, hg, rest⟩
    · exact .inl hn
    · refine .inr ⟨g, cap, cur, rfl, hb, ?_, rest⟩
      rw [hs.k.block g (hq g rfl) (fun e => rx_far h.r h.q (by decide) rfl e.symm) (h.aq g rfl).1 (h.aq g rfl).2]
      exact hg
  · have h1 := hq g e
    have h2 := h.aq g e
    refine ⟨fun e2 => ?_, fun e2 => ?_⟩
    · rcases hs.fn with h3 | h3
      · exact h2.1 (by rw [← h3]; exact e2)
      · have := h3 g e2.symm; omega
    · rcases hs.fm with h3 | h3
      · exact h2.2 (by rw [← h3]; exact e2)
      · have := h3 g e2.symm; omega
-- what the document's joining promises (Rp)
def BehindC : Prop := ∀ (wd : Int) (B p : Nat) (x : Md) (vn vw : Value) (ns wh : List Md) (w : World), Tab4 w → Rx w p vn vw → Mades w B vn ns → Mades w B vw wh → (vn.ownBlock = none ∨ vn.ownBlock ≠ vw.ownBlock) → B ≤ w.heap.size → (∀ n ∈ x :: ns, Small n) → ns.length ≤ 1000 → wh.length ≤ 20000 → (∀ w', Kq w w' p vn.ownBlock vw.ownBlock → Tab4 w') →
    Calls Tryd.prog 32 #[.pointer (some ⟨p, 0, none⟩), .int .i64 wd, .agg #[.int .i64 (x.1.1 : Nat), .int .i64 (x.1.2 : Nat), .string x.2]] w fun e w' => e = .returned (.tuple #[]) ∧ ∃ vn' vw', Sn w w' B p vn.ownBlock vw.ownBlock vn' vw' (joinR (NF wd) ns.reverse x).1.reverse (wh ++ (joinR (NF wd) ns.reverse x).2)
theorem fx_farM {w : World} {b B : Nat} {lo hi : Int} {u v : Value} {L : List Md} (h : Fx w b lo hi u) (ho : Mades w B v L) : some b ≠ v.ownBlock := by
  rcases ho.2 with ⟨rfl, _⟩ | ⟨g, cap, cur, rfl, _, hg, _⟩
  · simp [Value.ownBlock]
  · intro e
    obtain rfl : b = g := by simpa [Value.ownBlock] using e
    unfold Fx at h
    rw [hg] at h
    simp at h
theorem small_open {wd lo hi : Int} {hs : List ByteArray} (g : GoodF wd lo hi hs) : ∀ n ∈ opened lo hi hs, Small n := by
  intro n hn
  have h1 := opened_fst g
  have hw := wide_open g n hn
  obtain ⟨a, b, rfl, rfl, h2, h3, _⟩ := good_form g
  rw [covI_nat h2 h3] at h1
  have hm : n.1 ∈ cov a b := by rw [← h1]; exact List.mem_map_of_mem hn
  have key : ∀ x ∈ cov a b, x.1 ≤ 62 ∧ x.2 ≤ b := by
    refine cov_fold (p := a) (hi := b) (fun p h => h = b → ∀ x ∈ cov p h, x.1 ≤ 62 ∧ x.2 ≤ b) ?_ ?_ rfl
    · intro p h _ x hx
      rw [cov_end h] at hx
      cases hx
    · intro p k hlt hl ih he x hx
      rw [cov_at hlt hl] at hx
      rcases List.mem_cons.1 hx with rfl | hx
      · refine ⟨hl.1, ?_⟩
        show p / 2 ^ k ≤ b
        have := Nat.div_le_self p (2 ^ k)
        omega
      · exact ih he x hx
  have hk := key n.1 hm
  exact ⟨by omega, by omega, by rw [hw]; have := wid_in wd; omega⟩
theorem zedA {w4 wl : World} (hb : Below (w4.alloc (.cells #[.int .i64 0, .int .i64 0, .slice none 0 0] 24)).drew.heap.size (w4.alloc (.cells #[.int .i64 0, .int .i64 0, .slice none 0 0] 24)).drew wl) : Fx wl w4.heap.size 0 0 (.slice none 0 0) := (hb.block _ (fx_new w4 0 0 (.slice none 0 0)).lt).trans (fx_new w4 0 0 (.slice none 0 0))
end Go.Proofs.YtmmbkfagchaocaaDoor.rq

namespace Go.Proofs.YtmmbkfagchaocaaDoor.rs
open Go.RowKit Go.PlainAid
open Go.Proofs.YtmmbkfagchaocaaDoor.pl Go.Proofs.YtmmbkfagchaocaaDoor.cp Go.Proofs.YtmmbkfagchaocaaDoor.ka Go.Proofs.YtmmbkfagchaocaaDoor.na Go.Proofs.YtmmbkfagchaocaaDoor.nb Go.Proofs.YtmmbkfagchaocaaDoor.oa Go.Proofs.YtmmbkfagchaocaaDoor.ob
set_option linter.unusedVariables false

-- lists of nodes alike
set_option maxHeartbeats 1600000 in
theorem sameM_yes (u v : Value) (L : List Md) (w : World) (h1 : ReadsM w u L) (h2 : ReadsM w v L) (hz : L.length ≤ 1000000) :
    Calls Tryd.prog 10 #[u, v] w fun e w' => e = .returned (.bool true) ∧ Below w.heap.size w w' := by
  have H1 : Hid (ReadsM w u L) := h1
  have H2 : Hid (ReadsM w v L) := h2
  obtain ⟨a, cap, rfl, _⟩ := h1
  obtain ⟨a', cap', rfl, _⟩ := h2
  obtain ⟨n, HN⟩ : ∃ n, Hid (L.length = n) := ⟨_, rfl⟩
  rw [HN.out] at H1 H2 hz ⊢
  have qn : ((n : Int) == (n : Int)) = true := beq_self_eq_true _
  go_enter Tryd.func10, Tryd.ntmps10
  go_wp2
  go_loopw [5] (fun i wr => ∃ k : Nat, k ≤ n ∧ i = .int .i64 k ∧ Hid (∃ m, wr = w.drewN m)) (fun i _ => (n - intOf i).toNat)
  case atStart => exact ⟨0, by omega, rfl, 0, rfl⟩
  case round =>
    obtain ⟨k, hk, rfl, HB⟩ := hrel
    by_cases hlt : k < n
    · have hlt' : (k : Int) < n := by omega
      have hkx : k < L.length := by rw [HN.out]; exact hlt
      obtain ⟨x, HX⟩ : ∃ x, Hid (L[k]? = some x) := ⟨_, List.getElem?_eq_getElem hkx⟩
      obtain ⟨b, rfl, c1, c2, c3⟩ := row_atM H1.out HX.out
      obtain ⟨b', rfl, d1, d2, d3⟩ := row_atM H2.out HX.out
      obtain ⟨m, hm⟩ := HB.out
      subst hm
      obtain ⟨⟨xL, xI⟩, xh⟩ := x
      simp only at c1 c2 c3 d1 d2 d3
      have q1 : ((xL : Int) == (xL : Int)) = true := beq_self_eq_true _
      have q2 : ((xI : Int) == (xI : Int)) = true := beq_self_eq_true _
      have q3 : (xh.toList == xh.toList) = true := beq_self_eq_true _
      clear HB
      go_wp2_with fail
      go_quiet (fail)
      go_wp2
      go_roundw
      case rel => exact ⟨k + 1, by omega, by go_num, _, rfl⟩
      case measure => simp [intOf]; omega
    · have hlt' : ¬ (k : Int) < n := by omega
      have B9 : Hid (Below w.heap.size w wr) := by obtain ⟨m, rfl⟩ := HB.out; exact below_dN (Below.refl _ _) m
      go_wp2
      go_ret
      exact ⟨rfl, B9.out⟩
end Go.Proofs.YtmmbkfagchaocaaDoor.rs
