import Derived.Test.YthppkdjekfginaaGreatDoorG4
import Derived.Test.YthppkdjekfginaaGreatDoorG1
import Derived.Test.YthppkdjekfginaaGreatDoorL4
import Derived.Test.YthppkdjekfginaaGreatDoorP1
namespace Go.Proofs.YthppkdjekfginaaGreatDoor.vb
open Go.RowKit Go.PlainAid
open Go.Proofs.YthppkdjekfginaaGreatDoor.pl Go.Proofs.YthppkdjekfginaaGreatDoor.pi Go.Proofs.YthppkdjekfginaaGreatDoor.pj Go.Proofs.YthppkdjekfginaaGreatDoor.rf Go.Proofs.YthppkdjekfginaaGreatDoor.ca Go.Proofs.YthppkdjekfginaaGreatDoor.cb Go.Proofs.YthppkdjekfginaaGreatDoor.cp Go.Proofs.YthppkdjekfginaaGreatDoor.ka Go.Proofs.YthppkdjekfginaaGreatDoor.kb Go.Proofs.YthppkdjekfginaaGreatDoor.kc Go.Proofs.YthppkdjekfginaaGreatDoor.ga Go.Proofs.YthppkdjekfginaaGreatDoor.gb Go.Proofs.YthppkdjekfginaaGreatDoor.va Go.Proofs.YthppkdjekfginaaGreatDoor.kp
set_option linter.unusedVariables false

def rowS (l : List ByteArray) : Array Value := (l.map Value.string).toArray
theorem rowS_set (l : List ByteArray) (i : Nat) (x : ByteArray) : (rowS l).setIfInBounds i (.string x) = rowS (l.set i x) := by simp [rowS]
theorem rowS_get (l : List ByteArray) (i : Nat) : (rowS l)[i]? = (l[i]?).map Value.string := by simp [rowS]
theorem made_rowS (n : Nat) : madeCells (Value.string ByteArray.empty).cells n = rowS (List.replicate n ByteArray.empty) := by
  apply Array.ext
  · simp [size_madeCells, rowS]
  · intro i h1 h2
    simp [madeCells, rowS, Value.cells, Nat.mod_one]
theorem make_rowS (n : Nat) (hn : n * 16 ≤ 281474976710656) (w : World) :
    (Instr.makeSlice 22 (.int .i64 n) (.int .i64 n)).run Tryz.prog w = .ok (.slice (some ⟨w.heap.size, 0, none⟩) n n) (w.alloc (.cells (rowS (List.replicate n ByteArray.empty)) 9)) := by
  obtain ⟨i, hi, hz0, hz1, hz2⟩ := info_parts hi9
  have h := run_make (P := Tryz.prog) w 22 9 i (.string ByteArray.empty) Tryz.underlying22 hi hz0 .i64 .i64 (n : Int) (n : Int) (by omega) (by omega) (by rw [hz2]; omega) (by omega)
  rw [hz1] at h
  simp only [Int.toNat_natCast, Nat.mul_one] at h
  rw [made_rowS] at h
  exact h
theorem set_take (l : List ByteArray) (n k : Nat) (h : k < n) (hl : k < l.length) : (l.take k ++ List.replicate (n - k) ByteArray.empty).set k l[k] = l.take (k + 1) ++ List.replicate (n - (k + 1)) ByteArray.empty := by
  have e : n - k = (n - (k + 1)) + 1 := by omega
  rw [e, List.replicate_succ, List.set_append_right _ _ (by rw [List.length_take]; omega), List.length_take, Nat.min_eq_left (by omega), Nat.sub_self, List.set_cons_zero, List.take_succ_eq_append_getElem hl, List.append_assoc]
  rfl
set_option maxHeartbeats 1600000 in
theorem hashesC (wd : Int) (v : Value) (xs : List ByteArray) (w : World) (hT : Tab w) (hR : ReadsT w v xs) (hf : Fits xs) :
    Calls Tryz.prog 30 #[.int .i64 wd, v] w fun e w' => (∃ u, e = .returned u ∧ ReadsT w' u (LX wd xs)) ∧ Below w.heap.size w w' := by
  have HRD : Hid (ReadsT w v xs) := hR
  have LC : Hid (∀ x ∈ xs, ∀ w, Tab w → Calls Tryz.prog 50 #[.int .i64 wd, .string x] w fun e w' => e = .returned (.string (LF wd x)) ∧ Below w.heap.size w w') := fun x hx w hw => pLeaf wd x (hf.each x hx) w hw
  have HT : Hid (Tab w) := hT
  have hnm := hf.many
  obtain ⟨a, cap, rfl, hcap, hh⟩ := hR
  obtain ⟨n, HN⟩ : ∃ n, Hid (xs.length = n) := ⟨_, rfl⟩
  rw [HN.out] at HRD hcap hnm ⊢
  have hmk := make_rowS n (by omega) w
  obtain ⟨W, HW⟩ : ∃ W, Hid (W = w.alloc (.cells (rowS (List.replicate n ByteArray.empty)) 9)) := ⟨_, rfl⟩
  rw [← HW.out] at hmk
  have BW : Hid (Below w.heap.size w W) := by rw [HW.out]; exact (Below.refl _ _).alloc (Nat.le_refl _) _
  have HG : Hid (W.heap[w.heap.size]? = some (.cells (rowS (List.replicate n ByteArray.empty)) 9 (0, 0))) := by show _ = _; rw [HW.out]; exact heap_alloc_new w _
  clear hh hf hT
  go_enter Tryz.func30, Tryz.ntmps30
  go_wp2
  go_loopw [13] (fun i wr => ∃ (k : Nat), k ≤ n ∧ i = .int .i64 k ∧ Hid (wr.heap[w.heap.size]? = some (.cells (rowS ((LX wd xs).take k ++ List.replicate (n - k) ByteArray.empty)) 9 (0, 0))) ∧ Hid (Below w.heap.size w wr)) (fun i _ => (n - intOf i).toNat)
  case atStart => exact ⟨0, by omega, rfl, by simpa using HG, BW⟩
  case round =>
    obtain ⟨k, hk, rfl, HO, HB⟩ := hrel
    by_cases hlt : k < n
    · have hlt' : (k : Int) < n := by omega
      have hkx : k < xs.length := by rw [HN.out]; exact hlt
      obtain ⟨b, off, rfl, hc⟩ : ∃ b off, a = some ⟨b, off, none⟩ ∧ wr.cell? ⟨b, off + k, none⟩ = some (.string xs[k]) := by
        obtain ⟨a', cap', e, _, h0 | ⟨b, off, e4, hh⟩⟩ := HRD.out.later HB.out
        · omega
        · injection e with e1 _ _
          exact ⟨b, off, by rw [e1]; exact e4, by rw [hh k hkx, getD_at _ _ hkx]⟩
      have C : Hid (Calls _ _ _ _ _) := LC.out xs[k] (List.getElem_mem hkx) wr (HT.out.down HB.out)
      have HS : Hid ((LX wd xs).take (k + 1) ++ List.replicate (n - (k + 1)) ByteArray.empty = ((LX wd xs).take k ++ List.replicate (n - k) ByteArray.empty).set k (LF wd xs[k])) := by
        have hl : k < (LX wd xs).length := by rw [LX_len]; exact hkx
        have := set_take (LX wd xs) n k hlt hl
        rw [show (LX wd xs)[k] = LF wd xs[k] from List.getElem_map _] at this
        exact this.symm
      obtain ⟨x, HX⟩ : ∃ x : ByteArray, Hid (xs[k] = x) := ⟨xs[k], (rfl : xs[k] = xs[k])⟩
      rw [HX.out] at hc C HS
      obtain ⟨r, HR⟩ : ∃ r, Hid (LF wd x = r) := ⟨_, rfl⟩
      rw [HR.out] at C HS
      go_wp2_with fail
      refine C.out.mono ?_
      rintro e w1 ⟨rfl, hb⟩
      have B1 : Hid (Below w.heap.size w w1) := over HB.out hb
      have hr1 : w1.heap[w.heap.size]? = _ := (hb.block _ (Array.getElem?_eq_some_iff.1 HO.out).1).trans HO.out
      have c1 : w1.cell? ⟨w.heap.size, k, none⟩ = some (.string (((LX wd xs).take k ++ List.replicate (n - k) ByteArray.empty).getD k ByteArray.empty)) := by
        have hL : k < ((LX wd xs).take k ++ List.replicate (n - k) ByteArray.empty).length := by rw [List.length_append, List.length_take, LX_len, List.length_replicate]; omega
        rw [cell_of_row _ _ k _ _ _ hr1, rowS_get, List.getElem?_eq_getElem hL, getD_at _ _ hL]; rfl
      have f1 := frozen_of_row _ _ k _ _ hr1
      have HO2 : Hid ((w1.setCell ⟨w.heap.size, k, none⟩ (.string r)).heap[w.heap.size]? = some (.cells (rowS ((LX wd xs).take (k + 1) ++ List.replicate (n - (k + 1)) ByteArray.empty)) 9 (0, 0))) := by
        have := heap_setCell_same _ _ k _ _ (.string r) hr1
        rw [rowS_set, ← HS.out] at this
        exact this
      have HB2 : Hid (Below w.heap.size w (w1.setCell ⟨w.heap.size, k, none⟩ (.string r))) := B1.out.trans ((Kp.setCell (A := fun b => b = w.heap.size) w1 _ _ _ rfl).below (fun q e => by omega) B1.out.size)
      clear hb hr1
      go_wp2
      go_roundw
      case rel => exact ⟨k + 1, by omega, by go_num, HO2, HB2⟩
      case measure => simp [intOf]; omega
    · have hlt' : ¬ (k : Int) < n := by omega
      obtain rfl : k = n := by omega
      have HRR : Hid (ReadsT wr (.slice (some ⟨w.heap.size, 0, none⟩) k k) (LX wd xs)) := by
        have hl : (LX wd xs).length = k := by rw [LX_len]; exact HN.out
        refine ⟨some ⟨w.heap.size, 0, none⟩, k, by rw [hl], by rw [hl]; omega, .inr ⟨w.heap.size, 0, rfl, fun i hi => ?_⟩⟩
        have h := HO.out
        rw [Nat.sub_self, List.replicate_zero, List.append_nil, List.take_of_length_le (by omega)] at h
        rw [cell_of_row _ _ _ _ _ _ h, Nat.zero_add, rowS_get, List.getElem?_eq_getElem hi, getD_at _ _ hi]; rfl
      go_wp2
      go_ret
      exact ⟨⟨_, rfl, HRR.out⟩, HB.out⟩
end Go.Proofs.YthppkdjekfginaaGreatDoor.vb

namespace Go.Proofs.YthppkdjekfginaaGreatDoor.vd
open Go.RowKit Go.PlainAid
open Go.Proofs.YthppkdjekfginaaGreatDoor.pl Go.Proofs.YthppkdjekfginaaGreatDoor.pi Go.Proofs.YthppkdjekfginaaGreatDoor.pj Go.Proofs.YthppkdjekfginaaGreatDoor.ca Go.Proofs.YthppkdjekfginaaGreatDoor.cb Go.Proofs.YthppkdjekfginaaGreatDoor.cp Go.Proofs.YthppkdjekfginaaGreatDoor.ga Go.Proofs.YthppkdjekfginaaGreatDoor.gb Go.Proofs.YthppkdjekfginaaGreatDoor.aa Go.Proofs.YthppkdjekfginaaGreatDoor.ba Go.Proofs.YthppkdjekfginaaGreatDoor.bb Go.Proofs.YthppkdjekfginaaGreatDoor.ka Go.Proofs.YthppkdjekfginaaGreatDoor.kb Go.Proofs.YthppkdjekfginaaGreatDoor.kc Go.Proofs.YthppkdjekfginaaGreatDoor.kp Go.Proofs.YthppkdjekfginaaGreatDoor.lk Go.Proofs.YthppkdjekfginaaGreatDoor.lm Go.Proofs.YthppkdjekfginaaGreatDoor.co Go.Proofs.YthppkdjekfginaaGreatDoor.dc Go.Proofs.YthppkdjekfginaaGreatDoor.qa Go.Proofs.YthppkdjekfginaaGreatDoor.qb Go.Proofs.YthppkdjekfginaaGreatDoor.qc Go.Proofs.YthppkdjekfginaaGreatDoor.qj Go.Proofs.YthppkdjekfginaaGreatDoor.qk Go.Proofs.YthppkdjekfginaaGreatDoor.qo Go.Proofs.YthppkdjekfginaaGreatDoor.qp Go.Proofs.YthppkdjekfginaaGreatDoor.ta Go.Proofs.YthppkdjekfginaaGreatDoor.tb Go.Proofs.YthppkdjekfginaaGreatDoor.td Go.Proofs.YthppkdjekfginaaGreatDoor.tc Go.Proofs.YthppkdjekfginaaGreatDoor.ua Go.Proofs.YthppkdjekfginaaGreatDoor.ub Go.Proofs.YthppkdjekfginaaGreatDoor.ma Go.Proofs.YthppkdjekfginaaGreatDoor.uh Go.Proofs.YthppkdjekfginaaGreatDoor.ui Go.Proofs.YthppkdjekfginaaGreatDoor.uj Go.Proofs.YthppkdjekfginaaGreatDoor.uk Go.Proofs.YthppkdjekfginaaGreatDoor.ul Go.Proofs.YthppkdjekfginaaGreatDoor.um Go.Proofs.YthppkdjekfginaaGreatDoor.un Go.Proofs.YthppkdjekfginaaGreatDoor.uo Go.Proofs.YthppkdjekfginaaGreatDoor.uq Go.Proofs.YthppkdjekfginaaGreatDoor.va
set_option linter.unusedVariables false

theorem lkS_ne (lo hi a b : Nat) : lkS lo hi a b ≠ 1 ↔ lo < b ∧ a < hi := by
  unfold lkS
  by_cases h : b ≤ lo ∨ hi ≤ a
  · rw [if_pos h]; exact ⟨fun e => absurd rfl e, fun e => by omega⟩
  · rw [if_neg h]
    refine ⟨fun _ => by omega, fun _ => ?_⟩
    split <;> omega
theorem lkS_zero (lo hi a b : Nat) (h : lkS lo hi a b = 0) : ¬ 2 ≤ b - a := by
  unfold lkS at h
  split at h
  · omega
  · split at h <;> omega
theorem dirS (lo hi : Nat) {a b : Nat} (h1 : lkS lo hi a b ≠ 1) (h2 : 2 ≤ b - a) (q : Prop) : lkS lo hi a b = 2 ↔ ¬ (false = true ∧ q) := by
  refine ⟨fun _ h => Bool.noConfusion h.1, fun _ => ?_⟩
  unfold lkS at h1 ⊢
  split
  · rename_i h; rw [if_pos h] at h1; exact absurd rfl h1
  · rw [if_neg (by omega)]
-- the state of a claim with a range of leaves
structure GS (base pb cb lb lo : Nat) (vc : Value) (cs : List ByteArray) (x : List ByteArray) (w : World) : Prop where
  p : KPile base pb x w
  c : w.cell? ⟨cb, 0, none⟩ = some vc
  r : Old base w vc cs
  l : w.cell? ⟨lb, 0, none⟩ = some (.int .i64 lo)
  t : Tab w
theorem range1 (lb cb lo i n cap : Nat) (a : Option Addr) (xs : List ByteArray) (w : World) (hl : w.cell? ⟨lb, 0, none⟩ = some (.int .i64 lo)) (h : w.cell? ⟨cb, 0, none⟩ = some (.slice a n cap)) (hR : ReadsT w (.slice a n cap) xs) (h1 : lo ≤ i) (hi : i - lo < xs.length) (hb : i ≤ 4611686018427387904) :
    Calls Tryz.prog 33 #[.int .i64 i, .pointer (some ⟨cb, 0, none⟩), .pointer (some ⟨lb, 0, none⟩)] w fun e w' => e = .returned (.string (xs.getD (i - lo) ByteArray.empty)) ∧ w' = w := by
  obtain ⟨a', cap', e, hc, hh⟩ := hR
  injection e with e1 e2 e3
  subst e1 e2
  obtain ⟨b, off, ha, hq⟩ := hh.resolve_left (by omega)
  subst ha
  have c := hq (i - lo) hi
  obtain ⟨d, HD⟩ : ∃ d, Hid (i - lo = d) := ⟨_, rfl⟩
  have e1 : IntKind.i64.wrap ((i : Int) - lo) = (d : Int) := by rw [IntKind.wrap_i64]; have := HD.out; omega
  have e2 : (i : Int) - lo = (d : Int) := by have := HD.out; omega
  have e3 : IntKind.i64.wrap (d : Int) = d := by rw [IntKind.wrap_i64]; have := HD.out; omega
  rw [HD.out] at c hi ⊢
  have hi2 : (d : Int) < (xs.length : Nat) := by omega
  obtain ⟨x, HX⟩ : ∃ x, Hid (xs.getD d ByteArray.empty = x) := ⟨_, rfl⟩
  rw [HX.out] at c ⊢
  obtain ⟨n, HN⟩ : ∃ n, Hid (xs.length = n) := ⟨_, rfl⟩
  rw [HN.out] at h hi2
  clear hh hq hi hc h1
  go_enter Tryz.func33, Tryz.ntmps33
  go_wp2
  go_ret
  exact ⟨rfl, rfl⟩
theorem meetsS (lo hi a b : Nat) (w : World) : Calls Tryz.prog 32 #[.agg #[.int .i64 lo, .int .i64 hi], .agg #[.int .i64 a, .int .i64 b]] w fun e w' => e = .returned (.bool (decide (lkS lo hi a b ≠ 1))) ∧ Below w.heap.size w w' := by
  have := meetsC lo hi a b w
  rw [show decide (lo < b ∧ a < hi) = decide (lkS lo hi a b ≠ 1) from by
    by_cases h : lkS lo hi a b ≠ 1
    · rw [decide_eq_true h, decide_eq_true ((lkS_ne lo hi a b).1 h)]
    · rw [decide_eq_false h, decide_eq_false (fun g => h ((lkS_ne lo hi a b).2 g))]] at this
  exact this
theorem rangeFl {base pb cb lb lo hi N n cap : Nat} {ad : Option Addr} {wd : Int} {cs : List ByteArray} (hN : N ≤ 4611686018427387904) (hB : 4 ≤ base) (hc : cb ≠ pb) (hl : lb ≠ pb) (hh : hi = lo + cs.length) (hf : Fits cs) :
    Fl (fun b => b = pb) (GS base pb cb lb lo (.slice ad n cap) cs) wd (lkS lo hi) false (fun p => cs.getD (p - lo) ByteArray.empty) nx (PW wd (lkS lo hi) N) 32 20 (.func (.func 33) #[] #[.pointer (some ⟨cb, 0, none⟩), .pointer (some ⟨lb, 0, none⟩)]) #[.agg #[.int .i64 lo, .int .i64 hi]] #[] #[.pointer (some ⟨pb, 0, none⟩)] #[] where
  kent := fun args w => by simp [go_sem]
  hent := fun args w => by simp [go_sem]
  later := fun h hb => ⟨h.p.keep (Kp.of_below (A := no) hb) (fun _ e => e.elim) (fun e => e), (hb.cell (World.block_lt_of_cell? _ _ h.c)).trans h.c, h.r.keep (Kp.of_below (A := no) hb) (fun _ e => e.elim), (hb.cell (World.block_lt_of_cell? _ _ h.l)).trans h.l, h.t.down hb⟩
  fl := fun h b e => by subst e; exact h.p.lt
  tab := fun h => h.t
  bnd := fun h => Nat.le_trans h.2.2 hN
  knows := fun x a b a' b' w _ _ _ _ _ => meetsS lo hi a b w
  leaf := fun x a b h1 hP hk => ⟨_, _, _, rfl, fun args w => by simp [go_sem], fun w hS => (range1 lb cb lo a n cap ad cs w hS.l hS.c (Old.reads hS.r) (by have := (lkS_ne lo hi a b).1 hk; omega) (by have := (lkS_ne lo hi a b).1 hk; omega) (by have := hP.2.2; omega)).mono fun e w' h => ⟨h.1, by rw [h.2]; exact Below.refl _ _⟩⟩
  lsz := fun {x a b} h1 hP hk => by
    have h : a - lo < cs.length := by have := (lkS_ne lo hi a b).1 hk; omega
    show (cs.getD (a - lo) ByteArray.empty).size ≤ _
    rw [List.getD_eq_getElem?_getD, List.getElem?_eq_getElem h]
    exact hf.each _ (List.getElem_mem h)
  hash := fun x a b w hab hP h1 hS => by
    obtain ⟨p1, p2, p3⟩ := hP
    rw [WL_take h1] at p1
    cases x with
    | nil => simp at p1
    | cons y t => exact (knext base pb y t a b w hS.p).mono fun e w' h => ⟨h.1, ⟨h.2.1, h.2.2.cell hS.c hc, hS.r.keep h.2.2 (fun k e => by subst e; exact hS.p.new), h.2.2.cell hS.l hl, hS.t.below (h.2.2.below (fun k e => by subst e; exact hS.p.new) (Nat.le_trans hS.p.new (Nat.le_of_lt hS.p.lt))) hB⟩, h.2.2⟩
  hsz := fun {x a b} hP h1 => by
    obtain ⟨p1, p2, p3⟩ := hP
    rw [WL_take h1] at p1
    have : (x.headD ByteArray.empty).size = wid wd := p2.head p1
    show (x.headD ByteArray.empty).size ≤ 32
    rw [this]
    exact qb.wid_le wd
  dir := fun _ _ h1 h2 => dirS lo hi h1 h2 _
  left := fun _ hP h3 h2 => hP.left (fun a b => lkS_zero lo hi a b) h3 h2
  right := fun _ hP h1 h3 h2 => hP.right (fun a b => lkS_zero lo hi a b) h1 h3 h2
-- what is answered
def rangeX (wd lo : Int) (xs cs proof : List ByteArray) : Option (ByteArray × ByteArray) :=
  if rngA wd lo xs.length (LX wd cs) proof (RT wd xs) = 0 then (if slc xs lo.toNat (lo.toNat + cs.length) = cs then none else fst1 (gw (HH wd) (lkS lo.toNat (lo.toNat + cs.length)) (fun p => cs.getD (p - lo.toNat) ByteArray.empty) nx proof 0 xs.length).1 (ownT wd (lkS lo.toNat (lo.toNat + cs.length)) xs)) else none
-- what an accepted range tells
theorem rngA_ok {wd lo : Int} {N : Nat} {hs proof : List ByteArray} {root : ByteArray} (h : rngA wd lo N hs proof root = 0) : ∃ L : Nat, lo = L ∧ 1 ≤ hs.length ∧ L + hs.length ≤ N ∧ N ≤ 4611686018427387904 ∧ proof.length = (WL (lkS L (L + hs.length)) 0 N).length ∧ Wide wd proof ∧ (gp wd (lkS L (L + hs.length)) hs proof 0 N).1 = root := by
  unfold rngA at h
  by_cases h0 : (cnt9 3 lo (lo + hs.length) N []).2 = 0
  · rw [if_pos h0] at h
    have hr : ref9 3 lo (lo + hs.length) N [] = 0 := by
      unfold cnt9 at h0
      by_cases g : ref9 3 lo (lo + hs.length) N [] = 0
      · exact g
      · rw [if_neg g] at h0; exact h0
    have hc : (cnt9 3 lo (lo + hs.length) N []).1 = ((num9 3 lo (lo + hs.length) N [] : Nat) : Int) := by unfold cnt9; rw [if_pos hr]
    unfold ref9 at hr
    rw [if_neg (by omega)] at hr
    by_cases k2 : (N : Int) < 0 ∨ 4611686018427387904 < (N : Int)
    · rw [if_pos k2] at hr; omega
    rw [if_neg k2, if_neg (by omega), if_neg (by omega), if_pos rfl] at hr
    by_cases g : lo < 0 ∨ lo + hs.length ≤ lo ∨ (N : Int) < lo + hs.length
    · rw [if_pos g] at hr; omega
    obtain ⟨L, rfl⟩ : ∃ A : Nat, lo = A := ⟨lo.toNat, by omega⟩
    have e1 : (((L : Int) + (hs.length : Int))).toNat = L + hs.length := by omega
    rw [hc] at h
    unfold num9 at h
    rw [if_neg (by omega), if_neg (by omega), if_pos rfl, Int.toNat_natCast, Int.toNat_natCast, e1, ← (counts L (L + hs.length) N (by omega) (by omega)).1] at h
    unfold qm.seen at h
    by_cases q : rH wd ((WL (lkS L (L + hs.length)) 0 N).length : Nat) proof (root :: hs) = 0
    · rw [if_pos q] at h
      by_cases q2 : (gp wd (lkS L (L + hs.length)) hs proof 0 N).1 = root
      · unfold rH at q
        by_cases q3 : (okH wd (root :: hs) && okH wd proof) = true
        · rw [if_pos q3] at q
          rw [Bool.and_eq_true] at q3
          by_cases q4 : (proof.length : Int) = (((WL (lkS L (L + hs.length)) 0 N).length : Nat) : Int)
          · exact ⟨L, rfl, by omega, by omega, by omega, by omega, okH_wide q3.2, q2⟩
          · rw [if_neg q4] at q; omega
        · rw [if_neg q3] at q; omega
      · rw [if_neg q2] at h; omega
    · rw [if_neg q] at h; exact absurd h q
  · rw [if_neg h0] at h; exact absurd h h0
end Go.Proofs.YthppkdjekfginaaGreatDoor.vd

namespace Go.Proofs.YthppkdjekfginaaGreatDoor.ve
open Go.RowKit Go.PlainAid
open Go.Proofs.YthppkdjekfginaaGreatDoor.pl Go.Proofs.YthppkdjekfginaaGreatDoor.pi Go.Proofs.YthppkdjekfginaaGreatDoor.pj Go.Proofs.YthppkdjekfginaaGreatDoor.ca Go.Proofs.YthppkdjekfginaaGreatDoor.cb Go.Proofs.YthppkdjekfginaaGreatDoor.cp Go.Proofs.YthppkdjekfginaaGreatDoor.ga Go.Proofs.YthppkdjekfginaaGreatDoor.gb Go.Proofs.YthppkdjekfginaaGreatDoor.aa Go.Proofs.YthppkdjekfginaaGreatDoor.ba Go.Proofs.YthppkdjekfginaaGreatDoor.bb Go.Proofs.YthppkdjekfginaaGreatDoor.ka Go.Proofs.YthppkdjekfginaaGreatDoor.kb Go.Proofs.YthppkdjekfginaaGreatDoor.kc Go.Proofs.YthppkdjekfginaaGreatDoor.kp Go.Proofs.YthppkdjekfginaaGreatDoor.lk Go.Proofs.YthppkdjekfginaaGreatDoor.lm Go.Proofs.YthppkdjekfginaaGreatDoor.co Go.Proofs.YthppkdjekfginaaGreatDoor.dc Go.Proofs.YthppkdjekfginaaGreatDoor.qa Go.Proofs.YthppkdjekfginaaGreatDoor.qb Go.Proofs.YthppkdjekfginaaGreatDoor.qc Go.Proofs.YthppkdjekfginaaGreatDoor.qj Go.Proofs.YthppkdjekfginaaGreatDoor.qk Go.Proofs.YthppkdjekfginaaGreatDoor.qo Go.Proofs.YthppkdjekfginaaGreatDoor.qp Go.Proofs.YthppkdjekfginaaGreatDoor.ta Go.Proofs.YthppkdjekfginaaGreatDoor.tb Go.Proofs.YthppkdjekfginaaGreatDoor.td Go.Proofs.YthppkdjekfginaaGreatDoor.tc Go.Proofs.YthppkdjekfginaaGreatDoor.ua Go.Proofs.YthppkdjekfginaaGreatDoor.ub Go.Proofs.YthppkdjekfginaaGreatDoor.ma Go.Proofs.YthppkdjekfginaaGreatDoor.uh Go.Proofs.YthppkdjekfginaaGreatDoor.ui Go.Proofs.YthppkdjekfginaaGreatDoor.uj Go.Proofs.YthppkdjekfginaaGreatDoor.uk Go.Proofs.YthppkdjekfginaaGreatDoor.ul Go.Proofs.YthppkdjekfginaaGreatDoor.um Go.Proofs.YthppkdjekfginaaGreatDoor.un Go.Proofs.YthppkdjekfginaaGreatDoor.uo Go.Proofs.YthppkdjekfginaaGreatDoor.uq Go.Proofs.YthppkdjekfginaaGreatDoor.va Go.Proofs.YthppkdjekfginaaGreatDoor.ur Go.Proofs.YthppkdjekfginaaGreatDoor.vb Go.Proofs.YthppkdjekfginaaGreatDoor.vd
set_option linter.unusedVariables false

theorem box113 (w : World) (x y y0 y1 y2 : Value) (t t' t'' : TypeId) : ∀ W, W = ((w.alloc (.cells #[x] t)).alloc (.cells #[y] t')).alloc (.cells #[y0, y1, y2] t'') → Below w.heap.size w W ∧ W.cell? ⟨w.heap.size, 0, none⟩ = some x ∧ W.cell? ⟨w.heap.size + 1, 0, none⟩ = some y ∧ W.heap[w.heap.size + 1 + 1]? = some (.cells #[y0, y1, y2] t'' (0, 0)) := by
  intro W hW
  obtain ⟨A, hA⟩ : ∃ A, A = w.alloc (.cells #[x] t) := ⟨_, rfl⟩
  obtain ⟨D, hD⟩ : ∃ D, D = A.alloc (.cells #[y] t') := ⟨_, rfl⟩
  rw [← hA, ← hD] at hW
  have s1 : A.heap.size = w.heap.size + 1 := by rw [hA]; simp
  have s2 : D.heap.size = w.heap.size + 1 + 1 := by rw [hD]; simp [s1]
  have b1 : Below w.heap.size w A := by rw [hA]; exact (Below.refl _ _).alloc (Nat.le_refl _) _
  have b2 : Below A.heap.size A D := by rw [hD]; exact (Below.refl _ _).alloc (Nat.le_refl _) _
  have b3 : Below D.heap.size D W := by rw [hW]; exact (Below.refl _ _).alloc (Nat.le_refl _) _
  refine ⟨over b1 (over b2 b3), ?_, ?_, ?_⟩
  · refine ((over b2 b3).cell (p := ⟨w.heap.size, 0, none⟩) (by show w.heap.size < _; rw [s1]; omega)).trans ?_
    rw [hA, World.cell?_alloc_at _ _ _ _ rfl]; rfl
  · refine (b3.cell (p := ⟨w.heap.size + 1, 0, none⟩) (by show w.heap.size + 1 < _; rw [s2]; omega)).trans ?_
    rw [← s1, hD, World.cell?_alloc_at _ _ _ _ rfl]; rfl
  · rw [← s2, hW]; exact heap_alloc_new D _
set_option maxRecDepth 100000 in
set_option maxHeartbeats 12800000 in
theorem kRangeC (wd lo : Int) (hwd : i64 wd) (hlo : i64 lo) (vl : Value) (xs : List ByteArray) (vc : Value) (cs : List ByteArray) (vp : Value) (proof : List ByteArray) (w : World) (hl : ReadsT w vl xs) (hc : ReadsT w vc cs) (hp : ReadsT w vp proof) (hx : Fits xs) (hf : Fits cs) (zp : proof.length ≤ 140737488355328) (hT : Tab w) :
    Calls Tryz.prog 12 #[.int .i64 wd, vl, .int .i64 lo, vc, vp] w fun e w' => e = .returned (clV (rangeX wd lo xs cs proof)) ∧ Below w.heap.size w w' := by
  have OL : Hid (Old w.heap.size w vl xs ∧ Old w.heap.size w vp proof ∧ Old w.heap.size w vc cs ∧ Tab w ∧ Fits xs ∧ Fits cs) := ⟨Old.of hl, Old.of hp, Old.of hc, hT, hx, hf⟩
  have RD : Hid (ReadsT w vl xs ∧ ReadsT w vp proof ∧ ReadsT w vc cs) := ⟨hl, hp, hc⟩
  have HC : Hid (∀ w', Tab w' → ReadsT w' vc cs → Calls _ _ _ _ _) := fun w' h1 h2 => hashesC wd vc cs w' h1 h2 hf
  have RC : Hid (∀ w', Tab w' → ReadsT w' vl xs → Calls _ _ _ _ _) := fun w' h1 h2 => mb.rootC wd _ xs w' hwd h1 h2 hx
  have hfm := hf.many
  have IC : Hid (∀ w' u, Tab w' → ReadsT w' vp proof → ReadsT w' u (LX wd cs) → Calls _ _ _ _ _) := fun w' u h1 h2 h3 => RangeC wd lo xs.length hwd hlo u vp (LX wd cs) proof (RT wd xs) w' h3 h2 (by rw [LX_len]; omega) zp h1
  have hxm := hx.many
  obtain ⟨la, lc, rfl, hlc, hlh⟩ := hl
  obtain ⟨pa, pc, rfl, _⟩ := hp
  obtain ⟨ca, cc, rfl, hcc, hch⟩ := hc
  unfold rangeX
  obtain ⟨E, HE⟩ : ∃ E, Hid (rngA wd lo xs.length (LX wd cs) proof (RT wd xs) = E) := ⟨_, rfl⟩
  obtain ⟨y2, HY2⟩ : ∃ y, Hid (RT wd xs = y) := ⟨_, rfl⟩
  rw [HE.out] at IC ⊢
  rw [HY2.out] at RC IC
  obtain ⟨n, HN⟩ : ∃ n, Hid (xs.length = n) := ⟨_, rfl⟩
  obtain ⟨m, HM⟩ : ∃ n, Hid (proof.length = n) := ⟨_, rfl⟩
  obtain ⟨c, HCN⟩ : ∃ n, Hid (cs.length = n) := ⟨_, rfl⟩
  rw [HN.out] at RC IC RD OL hlc hlh hxm ⊢
  rw [HM.out] at IC RD OL ⊢
  rw [HCN.out] at HC RD OL hcc hch hfm ⊢
  obtain ⟨W, HW⟩ : ∃ W, Hid (W = ((w.alloc (.cells #[.int .i64 lo] 3)).alloc (.cells #[.slice ca c cc] 22)).alloc (.cells #[.string ⟨#[]⟩, .string ⟨#[]⟩, .bool false] 26)) := ⟨_, rfl⟩
  have hw : ((w.alloc (.cells #[.int .i64 lo] 3)).alloc (.cells #[.slice ca c cc] 22)).alloc (.cells #[.string ⟨#[]⟩, .string ⟨#[]⟩, .bool false] 26) = W := HW.out.symm
  obtain ⟨bw, x7, x8, x10⟩ := box113 w (.int .i64 lo) (.slice ca c cc) (.string ⟨#[]⟩) (.string ⟨#[]⟩) (.bool false) 3 22 26 W HW.out
  have BW : Hid (Below w.heap.size w W) := bw
  have HX : Hid (W.cell? ⟨w.heap.size, 0, none⟩ = some (.int .i64 lo) ∧ W.cell? ⟨w.heap.size + 1, 0, none⟩ = some (.slice ca c cc)) := ⟨x7, x8⟩
  have HR : Hid (W.heap[w.heap.size + 1 + 1]? = some (.cells #[.string ⟨#[]⟩, .string ⟨#[]⟩, .bool false] 26 (0, 0))) := x10
  have F4 : Hid (∀ w4, Below W.heap.size W w4 → w4.heap[w.heap.size + 1 + 1]? = some (.cells #[.string ⟨#[]⟩, .string ⟨#[]⟩, .bool false] 26 (0, 0))) := fun w4 k => (k.block _ (Array.getElem?_eq_some_iff.1 HR.out).1).trans HR.out
  have SX : Hid (∀ w', Below W.heap.size W w' → Below W.heap.size W w' ∧ w'.cell? ⟨w.heap.size, 0, none⟩ = some (.int .i64 lo) ∧ w'.cell? ⟨w.heap.size + 1, 0, none⟩ = some (.slice ca c cc)) := fun w' b => ⟨b, (b.cell (World.block_lt_of_cell? _ _ HX.out.1)).trans HX.out.1, (b.cell (World.block_lt_of_cell? _ _ HX.out.2)).trans HX.out.2⟩
  have HB0 : Hid (Below W.heap.size W W.drew) := below_dr (Below.refl _ _)
  have HB1 : Hid (∀ w1, Below W.drew.heap.size W.drew w1 → Below W.heap.size W w1) := fun w1 b => over HB0.out b
  have GD : Hid (∀ w', Below W.heap.size W w' → Tab w' ∧ ReadsT w' (.slice la n lc) xs ∧ ReadsT w' (.slice pa m pc) proof ∧ ReadsT w' (.slice ca c cc) cs) := fun w' b => ⟨OL.out.2.2.2.1.down (over BW.out b), RD.out.1.later (over BW.out b), RD.out.2.1.later (over BW.out b), RD.out.2.2.later (over BW.out b)⟩
  clear hT hx hf zp x7 x8 x10 bw
  by_cases h : E = 0
  · subst h
    rw [if_pos rfl]
    obtain ⟨L, rfl, i1, i2, i3, i4, i5, i6⟩ := rngA_ok HE.out
    rw [LX_len, HCN.out] at i1 i2 i4 i6
    rw [HN.out] at i2 i3 i4 i6
    rw [Int.toNat_natCast]
    obtain ⟨b, off, ha, hq⟩ := hlh.resolve_left (by omega)
    subst ha
    have HM1 : Hid (ReadsT w (.slice (some ⟨b, off + L, none⟩) c (lc - L)) (slc xs L (L + c))) := by
      have := RD.out.1.mid (f := L) (k := c) (by rw [HN.out]; omega)
      unfold slc
      rw [Nat.add_sub_cancel_left]
      exact this
    have EQ : Hid (∀ w', Below W.heap.size W w' → Calls _ _ _ _ _) := fun w' hb => vc.same (.slice (some ⟨b, off + L, none⟩) c (lc - L)) (.slice ca c cc) (slc xs L (L + c)) cs w' (HM1.out.later (over BW.out hb)) (RD.out.2.2.later (over BW.out hb)) (by rw [slc_len (by rw [HN.out]; omega)]; omega)
    have g1 : (L : Int) ≤ (L : Int) + c := by omega
    have g2 : (L : Int) + c ≤ lc := by omega
    have g3 : (L : Int) ≤ lc := by omega
    have hca : ¬ lc = L := by omega
    have qw : IntKind.i64.wrap ((L : Int) + c) = (L : Int) + c := by rw [IntKind.wrap_i64]; omega
    have ent : (L : Int) + c - L = (c : Int) := by omega
    have ent3 : ((L : Int) + (c : Int)).toNat - L = c := by omega
    have ent2 : ((lc - L : Nat) : Int) = (lc : Int) - L := by omega
    by_cases hs : slc xs L (L + c) = cs
    · rw [if_pos hs]
      rw [decide_eq_true hs] at EQ
      clear hlh hch hq hs i1 i3 i4 i5 i6
      go_enter Tryz.func12, Tryz.ntmps12
      go_wp2_with fail
      try rw [hw]
      go_region_held3 (fun w' => Below W.heap.size W w' ∧ w'.cell? ⟨w.heap.size, 0, none⟩ = some (.int .i64 (L : Nat)) ∧ w'.cell? ⟨w.heap.size + 1, 0, none⟩ = some (.slice ca c cc)) (first | exact SX.out _ HB0.out | exact SX.out _ B1.out | exact SX.out _ B2.out | exact SX.out _ B3.out) (first | (go_at_call 30; refine (HC.out _ (GD.out _ HB0.out).1 (GD.out _ HB0.out).2.2.2).mono ?_; rintro e w1 ⟨⟨u, rfl, hu1⟩, hb1⟩; have B1 : Hid (Below W.heap.size W w1) := HB1.out w1 hb1; have U1 : Hid (ReadsT w1 u (LX wd cs)) := hu1; clear hb1 hu1) | (go_at_call 17; refine (RC.out _ (GD.out _ B1.out).1 (GD.out _ B1.out).2.1).mono ?_; rintro e w2 ⟨rfl, hb2⟩; have B2 : Hid (Below W.heap.size W w2) := over B1.out hb2; have U2 : Hid (ReadsT w2 u (LX wd cs)) := U1.out.later hb2; clear hb2) | (go_at_call 29; refine (IC.out _ _ (GD.out _ B2.out).1 (GD.out _ B2.out).2.2.1 U2.out).mono ?_; rintro e w3 ⟨rfl, hb3⟩; have B3 : Hid (Below W.heap.size W w3) := over B2.out hb3; clear hb3))
      obtain ⟨b3, c7, c8⟩ := SX.out w3 B3.out
      clear b3
      go_wp2_with fail
      have HB3 : Hid (Below W.heap.size W w3.drew) := below_dr B3.out
      go_region_held3 (fun w' => Below W.heap.size W w' ∧ w'.cell? ⟨w.heap.size, 0, none⟩ = some (.int .i64 (L : Nat)) ∧ w'.cell? ⟨w.heap.size + 1, 0, none⟩ = some (.slice ca c cc)) (first | exact SX.out _ HB3.out | exact SX.out _ B4.out) ((go_at_call 31; refine (EQ.out _ HB3.out).mono ?_; rintro e w4 ⟨rfl, m4, hw4⟩; have B4 : Hid (Below W.heap.size W w4) := (by rw [hw4]; exact below_dN HB3.out _); clear hw4))
      clear c7 c8
      have hr2 := F4.out w4 B4.out
      have e0 : w4.cell? ⟨w.heap.size + 1 + 1, 0, none⟩ = _ := cell_of_row _ _ 0 _ _ _ hr2
      have e1 : w4.cell? ⟨w.heap.size + 1 + 1, 1, none⟩ = _ := cell_of_row _ _ 1 _ _ _ hr2
      have e2 : w4.cell? ⟨w.heap.size + 1 + 1, 2, none⟩ = _ := cell_of_row _ _ 2 _ _ _ hr2
      have f0 := frozen_of_row _ _ 0 _ _ hr2
      have f1 := frozen_of_row _ _ 1 _ _ hr2
      have f2 := frozen_of_row _ _ 2 _ _ hr2
      have FIN : Hid (∀ W', W' = _ → _) := put3 w4 (w.heap.size + 1 + 1) _ _ _ (.string ⟨#[]⟩) (.string ⟨#[]⟩) (.bool false) _ hr2
      clear hr2
      go_wp2
      obtain ⟨G, hb⟩ := FIN.out _ rfl
      refine bodyPost_ret (by simp [results, Tryz.results12, go_sem, G.1, G.2.1, G.2.2]; try rfl) rfl ?_
      exact ⟨rfl, (over BW.out B4.out).trans (hb _ (by omega))⟩
    · rw [if_neg hs]
      rw [decide_eq_false hs] at EQ
      have AC : Hid (∀ w4 V, Below W.heap.size W w4 → V = (w4.alloc (.cells #[.slice pa m pc] 41)).alloc (.cells #[.int .i64 wd, .func (.func 32) #[.agg #[.int .i64 (L : Nat), .int .i64 ((L : Int) + (c : Int))]] #[], .bool false, .func (.func 33) #[] #[.pointer (some ⟨w.heap.size + 1, 0, none⟩), .pointer (some ⟨w.heap.size, 0, none⟩)], .func (.func 20) #[.pointer (some ⟨w4.heap.size, 0, none⟩)] #[]] 48) → Calls Tryz.prog 21 #[.agg #[.int .i64 wd, .func (.func 32) #[.agg #[.int .i64 (L : Nat), .int .i64 ((L : Int) + (c : Int))]] #[], .bool false, .func (.func 33) #[] #[.pointer (some ⟨w.heap.size + 1, 0, none⟩), .pointer (some ⟨w.heap.size, 0, none⟩)], .func (.func 20) #[.pointer (some ⟨w4.heap.size, 0, none⟩)] #[]], .slice (some ⟨b, off, none⟩) n lc] V fun e w' => e = .returned (clV (fst1 (gw (HH wd) (lkS L (L + c)) (fun p => cs.getD (p - L) ByteArray.empty) nx proof 0 n).1 (ownT wd (lkS L (L + c)) xs))) ∧ Below W.heap.size W w') := by
        intro w4 V hb4 hV
        obtain ⟨V1, hV1⟩ : ∃ V1, V1 = w4.alloc (.cells #[.slice pa m pc] 41) := ⟨_, rfl⟩
        rw [← hV1] at hV
        have b1 : Below w4.heap.size w4 V1 := by rw [hV1]; exact (Below.refl _ _).alloc (Nat.le_refl _) _
        have b2 : Below V1.heap.size V1 V := by rw [hV]; exact (Below.refl _ _).alloc (Nat.le_refl _) _
        have n1 : V1.heap[w4.heap.size]? = some (.cells #[.slice pa m pc] 41 (0, 0)) := by rw [hV1]; exact heap_alloc_new w4 _
        have z1 : V1.heap.size = w4.heap.size + 1 := by rw [hV1]; simp
        have bV : Below W.heap.size W V := over hb4 (over b1 b2)
        have bw := over BW.out bV
        have kk : Kp no w V := Kp.of_below bw
        have hp : KPile w.heap.size w4.heap.size proof V := ⟨(over BW.out hb4).size, _, (b2.block _ (by rw [z1]; omega)).trans n1, OL.out.2.1.keep kk (fun _ e => e.elim)⟩
        have lw : w.heap.size + 1 < w4.heap.size := by have h1 := hb4.size; have h2 : w.heap.size + 1 < W.heap.size := World.block_lt_of_cell? _ _ HX.out.2; omega
        have hS : GS w.heap.size w4.heap.size (w.heap.size + 1) w.heap.size L (.slice ca c cc) cs proof V := ⟨hp, (bV.cell (World.block_lt_of_cell? _ _ HX.out.2)).trans HX.out.2, OL.out.2.2.1.keep kk (fun _ e => e.elim), (bV.cell (World.block_lt_of_cell? _ _ HX.out.1)).trans HX.out.1, OL.out.2.2.2.1.down bw⟩
        have z := againstC (rangeFl (base := w.heap.size) (pb := w4.heap.size) (cb := w.heap.size + 1) (lb := w.heap.size) (lo := L) (hi := L + c) (N := xs.length) (n := c) (cap := cc) (ad := ca) (wd := wd) (cs := cs) (by rw [HN.out]; omega) OL.out.2.2.2.1.big (by omega) (by omega) (by rw [HCN.out]) OL.out.2.2.2.2.2) hwd (KS := fun _ => True) (fun _ => trivial) (fun _ _ => trivial) w.heap.size (fun k e => by omega) (some ⟨b, off, none⟩) lc xs (by rw [HN.out]; omega) OL.out.2.2.2.2.1 (fun a b w _ _ _ => meetsS L (L + c) a b w) (fun _ _ h1 h2 => dirS L (L + c) h1 h2 _) proof V ⟨by rw [HN.out, i4]; exact Nat.le_refl _, i5, Nat.le_refl _⟩ hS (by rw [HN.out]; exact OL.out.1.keep kk (fun _ e => e.elim))
        rw [HN.out] at z
        refine z.mono fun e w' h => ⟨h.1, ?_⟩
        have k2 : Below W.heap.size V w' := h.2.below (fun k e => by have := hb4.size; omega) bV.size
        exact bV.trans k2
      obtain ⟨O, HO⟩ : ∃ O, Hid (fst1 (gw (HH wd) (lkS L (L + c)) (fun p => cs.getD (p - L) ByteArray.empty) nx proof 0 n).1 (ownT wd (lkS L (L + c)) xs) = O) := ⟨_, rfl⟩
      obtain ⟨g0, g1', g2', hgo⟩ := clV_of O
      rw [HO.out, hgo] at AC ⊢
      clear hlh hch hq hs i1 i3 i4 i5 i6 hgo HO
      go_enter Tryz.func12, Tryz.ntmps12
      go_wp2_with fail
      try rw [hw]
      go_region_held3 (fun w' => Below W.heap.size W w' ∧ w'.cell? ⟨w.heap.size, 0, none⟩ = some (.int .i64 (L : Nat)) ∧ w'.cell? ⟨w.heap.size + 1, 0, none⟩ = some (.slice ca c cc)) (first | exact SX.out _ HB0.out | exact SX.out _ B1.out | exact SX.out _ B2.out | exact SX.out _ B3.out) (first | (go_at_call 30; refine (HC.out _ (GD.out _ HB0.out).1 (GD.out _ HB0.out).2.2.2).mono ?_; rintro e w1 ⟨⟨u, rfl, hu1⟩, hb1⟩; have B1 : Hid (Below W.heap.size W w1) := HB1.out w1 hb1; have U1 : Hid (ReadsT w1 u (LX wd cs)) := hu1; clear hb1 hu1) | (go_at_call 17; refine (RC.out _ (GD.out _ B1.out).1 (GD.out _ B1.out).2.1).mono ?_; rintro e w2 ⟨rfl, hb2⟩; have B2 : Hid (Below W.heap.size W w2) := over B1.out hb2; have U2 : Hid (ReadsT w2 u (LX wd cs)) := U1.out.later hb2; clear hb2) | (go_at_call 29; refine (IC.out _ _ (GD.out _ B2.out).1 (GD.out _ B2.out).2.2.1 U2.out).mono ?_; rintro e w3 ⟨rfl, hb3⟩; have B3 : Hid (Below W.heap.size W w3) := over B2.out hb3; clear hb3))
      obtain ⟨b3, c7, c8⟩ := SX.out w3 B3.out
      clear b3
      go_wp2_with fail
      have HB3 : Hid (Below W.heap.size W w3.drew) := below_dr B3.out
      go_region_held3 (fun w' => Below W.heap.size W w' ∧ w'.cell? ⟨w.heap.size, 0, none⟩ = some (.int .i64 (L : Nat)) ∧ w'.cell? ⟨w.heap.size + 1, 0, none⟩ = some (.slice ca c cc)) (first | exact SX.out _ HB3.out | exact SX.out _ B4.out) ((go_at_call 31; refine (EQ.out _ HB3.out).mono ?_; rintro e w4 ⟨rfl, m4, hw4⟩; have B4 : Hid (Below W.heap.size W w4) := (by rw [hw4]; exact below_dN HB3.out _); clear hw4))
      clear c7 c8
      obtain ⟨b4, c7, c8⟩ := SX.out (w4.alloc (.cells #[.slice pa m pc] 41)) (below_al B4.out _)
      clear b4
      go_wp2_with fail
      refine (AC.out w4 _ B4.out rfl).mono ?_
      rintro e w5 ⟨rfl, hb5⟩
      have B5 : Hid (Below W.heap.size W w5) := hb5
      clear hb5 c7 c8
      have hr2 := F4.out w5 B5.out
      have e0 : w5.cell? ⟨w.heap.size + 1 + 1, 0, none⟩ = _ := cell_of_row _ _ 0 _ _ _ hr2
      have e1 : w5.cell? ⟨w.heap.size + 1 + 1, 1, none⟩ = _ := cell_of_row _ _ 1 _ _ _ hr2
      have e2 : w5.cell? ⟨w.heap.size + 1 + 1, 2, none⟩ = _ := cell_of_row _ _ 2 _ _ _ hr2
      have f0 := frozen_of_row _ _ 0 _ _ hr2
      have f1 := frozen_of_row _ _ 1 _ _ hr2
      have f2 := frozen_of_row _ _ 2 _ _ hr2
      have FIN : Hid (∀ W', W' = _ → _) := put3 w5 (w.heap.size + 1 + 1) _ _ _ (.string g0) (.string g1') (.bool g2') _ hr2
      clear hr2
      go_wp2
      obtain ⟨G, hb⟩ := FIN.out _ rfl
      refine bodyPost_ret (by simp [results, Tryz.results12, go_sem, G.1, G.2.1, G.2.2]; try rfl) rfl ?_
      exact ⟨rfl, (over BW.out B5.out).trans (hb _ (by omega))⟩
  · rw [if_neg h]
    have q : (E == 0) = false := by rw [beq_eq_false_iff_ne]; exact h
    have q2 : (E != 0) = true := by rw [bne, q]; rfl
    clear h hlh hch
    go_enter Tryz.func12, Tryz.ntmps12
    go_wp2_with fail
    try rw [hw]
    go_region_held3 (fun w' => Below W.heap.size W w' ∧ w'.cell? ⟨w.heap.size, 0, none⟩ = some (.int .i64 lo) ∧ w'.cell? ⟨w.heap.size + 1, 0, none⟩ = some (.slice ca c cc)) (first | exact SX.out _ HB0.out | exact SX.out _ B1.out | exact SX.out _ B2.out | exact SX.out _ B3.out) (first | (go_at_call 30; refine (HC.out _ (GD.out _ HB0.out).1 (GD.out _ HB0.out).2.2.2).mono ?_; rintro e w1 ⟨⟨u, rfl, hu1⟩, hb1⟩; have B1 : Hid (Below W.heap.size W w1) := HB1.out w1 hb1; have U1 : Hid (ReadsT w1 u (LX wd cs)) := hu1; clear hb1 hu1) | (go_at_call 17; refine (RC.out _ (GD.out _ B1.out).1 (GD.out _ B1.out).2.1).mono ?_; rintro e w2 ⟨rfl, hb2⟩; have B2 : Hid (Below W.heap.size W w2) := over B1.out hb2; have U2 : Hid (ReadsT w2 u (LX wd cs)) := U1.out.later hb2; clear hb2) | (go_at_call 29; refine (IC.out _ _ (GD.out _ B2.out).1 (GD.out _ B2.out).2.2.1 U2.out).mono ?_; rintro e w3 ⟨rfl, hb3⟩; have B3 : Hid (Below W.heap.size W w3) := over B2.out hb3; clear hb3))
    obtain ⟨b3, c7, c8⟩ := SX.out w3 B3.out
    clear b3
    go_wp2_with fail
    go_quiet (fail)
    obtain ⟨w4, H4⟩ : ∃ x, Hid (x = w3.drewN nq) := ⟨_, rfl⟩
    rw [← H4.out]
    have B4 : Hid (Below W.heap.size W w4) := by rw [H4.out]; exact below_dN B3.out _
    clear H4 c7 c8
    have hr2 := F4.out w4 B4.out
    have e0 : w4.cell? ⟨w.heap.size + 1 + 1, 0, none⟩ = _ := cell_of_row _ _ 0 _ _ _ hr2
    have e1 : w4.cell? ⟨w.heap.size + 1 + 1, 1, none⟩ = _ := cell_of_row _ _ 1 _ _ _ hr2
    have e2 : w4.cell? ⟨w.heap.size + 1 + 1, 2, none⟩ = _ := cell_of_row _ _ 2 _ _ _ hr2
    have f0 := frozen_of_row _ _ 0 _ _ hr2
    have f1 := frozen_of_row _ _ 1 _ _ hr2
    have f2 := frozen_of_row _ _ 2 _ _ hr2
    have FIN : Hid (∀ W', W' = _ → _) := put3 w4 (w.heap.size + 1 + 1) _ _ _ (.string ⟨#[]⟩) (.string ⟨#[]⟩) (.bool false) _ hr2
    clear hr2
    go_wp2
    obtain ⟨G, hb⟩ := FIN.out _ rfl
    refine bodyPost_ret (by simp [results, Tryz.results12, go_sem, G.1, G.2.1, G.2.2]; try rfl) rfl ?_
    exact ⟨rfl, (over BW.out B4.out).trans (hb _ (by omega))⟩
end Go.Proofs.YthppkdjekfginaaGreatDoor.ve
