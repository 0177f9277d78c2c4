import Derived.Test.YthmfljjpanghgaaDoorG6
import Derived.Test.YthmfljjpanghgaaDoorG9
import Derived.Test.YthmfljjpanghgaaDoorG4
import Derived.Test.YthmfljjpanghgaaDoorG1
namespace Go.Proofs.YthmfljjpanghgaaDoor.qk
open Go.RowKit Go.PlainAid
open Go.Proofs.YthmfljjpanghgaaDoor.pl Go.Proofs.YthmfljjpanghgaaDoor.pi Go.Proofs.YthmfljjpanghgaaDoor.pj Go.Proofs.YthmfljjpanghgaaDoor.rf Go.Proofs.YthmfljjpanghgaaDoor.ca Go.Proofs.YthmfljjpanghgaaDoor.cb Go.Proofs.YthmfljjpanghgaaDoor.cp Go.Proofs.YthmfljjpanghgaaDoor.ga Go.Proofs.YthmfljjpanghgaaDoor.aa Go.Proofs.YthmfljjpanghgaaDoor.ka Go.Proofs.YthmfljjpanghgaaDoor.kb Go.Proofs.YthmfljjpanghgaaDoor.kp Go.Proofs.YthmfljjpanghgaaDoor.mi Go.Proofs.YthmfljjpanghgaaDoor.lm Go.Proofs.YthmfljjpanghgaaDoor.co Go.Proofs.YthmfljjpanghgaaDoor.dc Go.Proofs.YthmfljjpanghgaaDoor.de Go.Proofs.YthmfljjpanghgaaDoor.df Go.Proofs.YthmfljjpanghgaaDoor.dw Go.Proofs.YthmfljjpanghgaaDoor.qa Go.Proofs.YthmfljjpanghgaaDoor.qb Go.Proofs.YthmfljjpanghgaaDoor.qc Go.Proofs.YthmfljjpanghgaaDoor.qe Go.Proofs.YthmfljjpanghgaaDoor.qi Go.Proofs.YthmfljjpanghgaaDoor.qj
set_option linter.unusedVariables false

-- a list of numbers beside a block
def Bes (tb : Nat) (w : World) (v : Value) (xs : List Int) : Prop := ReadsI w v xs ∧ ∀ g off n c, v = .slice (some ⟨g, off, none⟩) n c → g ≠ tb
theorem Bes.keep {tb : Nat} {w w' : World} {v : Value} {xs : List Int} (h : Bes tb w v xs) (k : Kp (fun b => b = tb) w w') : Bes tb w' v xs := by
  obtain ⟨⟨a, cap, rfl, hc, hh⟩, hn⟩ := h
  refine ⟨⟨a, cap, rfl, hc, ?_⟩, hn⟩
  rcases hh with h0 | ⟨b, off, rfl, hh⟩
  · exact .inl h0
  · exact .inr ⟨b, off, rfl, fun i hi => k.cell (hh i hi) (hn b off _ _ rfl)⟩
def Gave (wd : Int) (base tb : Nat) (vp vh : Value) (p h : List ByteArray) (u m : Nat) (lk : Nat → Nat → Nat) (a b : Nat) (w : World) (e : Ending) (w' : World) : Prop :=
  e = .returned (.string (gp wd lk (h.drop m) (p.drop u) a b).1) ∧ (gp wd lk (h.drop m) (p.drop u) a b).1.size = wid wd ∧ Tk base tb vp vh p h (u + (WL lk a b).length) (m + (WL (fl lk) a b).length) w' ∧ Kp (fun b => b = tb) w w'
theorem size_at {wd : Int} {l : List ByteArray} (h : Wide wd l) {u : Nat} (hu : u < l.length) : (l.getD u ByteArray.empty).size = wid wd := by
  rw [List.getD_eq_getElem?_getD, List.getElem?_eq_getElem hu]
  exact h _ (List.getElem_mem hu)
-- a range's walk: what it does at a part
def lkS (lo hi a b : Nat) : Nat := if b ≤ lo ∨ hi ≤ a then 1 else if b - a = 1 then 0 else 2
theorem wideS {lo hi a b : Nat} (hab : a < b) (h : 2 ≤ lkS lo hi a b) : 2 ≤ b - a := by
  unfold lkS at h
  split at h
  · omega
  · split at h <;> omega
theorem fourS (lo hi a b : Nat) : lkS lo hi a b ≤ 3 := by
  unfold lkS
  split
  · omega
  · split <;> omega
-- what a step makes of the state
theorem gave_proof {wd : Int} {base tb : Nat} {vp vh : Value} {p h : List ByteArray} {u m : Nat} {lk : Nat → Nat → Nat} {a b : Nat} {w w' : World} {e : Ending} (hk : lk a b = 1) (hW : Wide wd p) (hu : u < p.length) (q : e = .returned (.string (p.getD u ByteArray.empty)) ∧ Tk base tb vp vh p h (u + 1) m w' ∧ Kp (fun b => b = tb) w w') : Gave wd base tb vp vh p h u m lk a b w e w' := by
  unfold Gave
  rw [gp_proof hk, WL_take hk, WL_pass (lk := fl lk) (by unfold fl; rw [if_neg (by omega), if_pos hk])]
  simp only
  rw [headD_drop]
  exact ⟨q.1, size_at hW hu, q.2.1, q.2.2⟩
theorem gave_claim {wd : Int} {base tb : Nat} {vp vh : Value} {p h : List ByteArray} {u m : Nat} {lk : Nat → Nat → Nat} {a b : Nat} {w w' : World} {e : Ending} (hk : lk a b = 0) (hW : Wide wd h) (hm : m < h.length) (q : e = .returned (.string (h.getD m ByteArray.empty)) ∧ Tk base tb vp vh p h u (m + 1) w' ∧ Kp (fun b => b = tb) w w') : Gave wd base tb vp vh p h u m lk a b w e w' := by
  unfold Gave
  rw [gp_claim hk, WL_pass hk, WL_take (lk := fl lk) (by unfold fl; rw [if_pos hk])]
  simp only
  rw [headD_drop]
  exact ⟨q.1, size_at hW hm, q.2.1, q.2.2⟩
end Go.Proofs.YthmfljjpanghgaaDoor.qk

namespace Go.Proofs.YthmfljjpanghgaaDoor.ql
open Go.RowKit Go.PlainAid
open Go.Proofs.YthmfljjpanghgaaDoor.pl Go.Proofs.YthmfljjpanghgaaDoor.pi Go.Proofs.YthmfljjpanghgaaDoor.pj Go.Proofs.YthmfljjpanghgaaDoor.rf Go.Proofs.YthmfljjpanghgaaDoor.ca Go.Proofs.YthmfljjpanghgaaDoor.cb Go.Proofs.YthmfljjpanghgaaDoor.cp Go.Proofs.YthmfljjpanghgaaDoor.ga Go.Proofs.YthmfljjpanghgaaDoor.aa Go.Proofs.YthmfljjpanghgaaDoor.ka Go.Proofs.YthmfljjpanghgaaDoor.kb Go.Proofs.YthmfljjpanghgaaDoor.kp Go.Proofs.YthmfljjpanghgaaDoor.mi Go.Proofs.YthmfljjpanghgaaDoor.lm Go.Proofs.YthmfljjpanghgaaDoor.co Go.Proofs.YthmfljjpanghgaaDoor.dc Go.Proofs.YthmfljjpanghgaaDoor.de Go.Proofs.YthmfljjpanghgaaDoor.df Go.Proofs.YthmfljjpanghgaaDoor.dw Go.Proofs.YthmfljjpanghgaaDoor.qa Go.Proofs.YthmfljjpanghgaaDoor.qb Go.Proofs.YthmfljjpanghgaaDoor.qc Go.Proofs.YthmfljjpanghgaaDoor.qe Go.Proofs.YthmfljjpanghgaaDoor.qi Go.Proofs.YthmfljjpanghgaaDoor.qj Go.Proofs.YthmfljjpanghgaaDoor.qk
set_option linter.unusedVariables false

end Go.Proofs.YthmfljjpanghgaaDoor.ql

namespace Go.Proofs.YthmfljjpanghgaaDoor.qn
open Go.RowKit Go.PlainAid
open Go.Proofs.YthmfljjpanghgaaDoor.pl Go.Proofs.YthmfljjpanghgaaDoor.pi Go.Proofs.YthmfljjpanghgaaDoor.pj Go.Proofs.YthmfljjpanghgaaDoor.rf Go.Proofs.YthmfljjpanghgaaDoor.ca Go.Proofs.YthmfljjpanghgaaDoor.cb Go.Proofs.YthmfljjpanghgaaDoor.cp Go.Proofs.YthmfljjpanghgaaDoor.ga Go.Proofs.YthmfljjpanghgaaDoor.aa Go.Proofs.YthmfljjpanghgaaDoor.ka Go.Proofs.YthmfljjpanghgaaDoor.kb Go.Proofs.YthmfljjpanghgaaDoor.kp Go.Proofs.YthmfljjpanghgaaDoor.mi Go.Proofs.YthmfljjpanghgaaDoor.lm Go.Proofs.YthmfljjpanghgaaDoor.co Go.Proofs.YthmfljjpanghgaaDoor.cn Go.Proofs.YthmfljjpanghgaaDoor.dc Go.Proofs.YthmfljjpanghgaaDoor.de Go.Proofs.YthmfljjpanghgaaDoor.df Go.Proofs.YthmfljjpanghgaaDoor.qa Go.Proofs.YthmfljjpanghgaaDoor.qb Go.Proofs.YthmfljjpanghgaaDoor.qc Go.Proofs.YthmfljjpanghgaaDoor.qe Go.Proofs.YthmfljjpanghgaaDoor.qg Go.Proofs.YthmfljjpanghgaaDoor.qi Go.Proofs.YthmfljjpanghgaaDoor.qj Go.Proofs.YthmfljjpanghgaaDoor.qk Go.Proofs.YthmfljjpanghgaaDoor.ql Go.Proofs.YthmfljjpanghgaaDoor.qm Go.Proofs.YthmfljjpanghgaaDoor.ts
set_option linter.unusedVariables false

theorem own_readsT {w : World} {B : Nat} {v : Value} {zs : List ByteArray} (h : w.ownsRow B 9 1 v zs.length (zs.map Value.string)) : ReadsT w v zs := by
  rcases h.2 with ⟨h1, h2⟩ | ⟨g, cap, cur, rfl, _, _, hc, _⟩
  · rw [h1]; exact ⟨none, 0, by rw [h2], by omega, .inl h2⟩
  · refine ⟨_, cap, rfl, by omega, .inr ⟨g, 0, rfl, fun i hi => ?_⟩⟩
    rw [Nat.zero_add, h.cellAt i (by omega), List.getElem?_map, List.getElem?_eq_getElem hi, List.getD_eq_getElem?_getD, List.getElem?_eq_getElem hi]
    rfl
theorem one_row (w : World) (base : Nat) (hb : base ≤ w.heap.size) (root : ByteArray) : (w.alloc (.cells #[.string root] 9)).ownsRow base 9 1 (.slice (some ⟨w.heap.size, 0, none⟩) 1 1) 1 [.string root] :=
  ⟨rfl, .inr ⟨w.heap.size, 1, #[.string root], rfl, hb, heap_alloc_new w _, Nat.le_refl _, by unfold maxLen; omega, rfl, by simp⟩⟩
theorem taken_new {w0 w : World} {vp vh : Value} {p h : List ByteArray} (hp : ReadsT w0 vp p) (hh : ReadsT w0 vh h) (hb : Below w0.heap.size w0 w) (hT : Tab4 w0) : Tk w0.heap.size w.heap.size vp vh p h 0 0 (w.alloc (.cells #[vp, .int .i64 0, vh, .int .i64 0] 95)) := by
  have b2 : Below w.heap.size w (w.alloc (.cells #[vp, .int .i64 0, vh, .int .i64 0] 95)) := (Below.refl _ _).alloc (Nat.le_refl _) _
  have hb2 := over hb b2
  have kk : Kp (fun _ => False) w0 (w.alloc (.cells #[vp, .int .i64 0, vh, .int .i64 0] 95)) := Kp.of_below hb2
  exact ⟨hb.size, heap_alloc_new w _, (Old.of hp).keep kk (fun _ e => e.elim), (Old.of hh).keep kk (fun _ e => e.elim), hT.down hb2, ⟨hT.big, hb2.size⟩⟩
theorem seen_ok {wd : Int} {count : Int} {hs proof : List ByteArray} {root : ByteArray} (h : rH wd count proof (root :: hs) = 0) : (proof.length : Int) = count ∧ Wide wd proof ∧ Wide wd hs := by
  unfold rH at h
  by_cases q : (okH wd (root :: hs) && okH wd proof) = true
  · rw [if_pos q] at h
    rw [Bool.and_eq_true] at q
    by_cases q2 : (proof.length : Int) = count
    · exact ⟨q2, okH_wide q.2, fun x hx => okH_wide q.1 x (List.mem_cons_of_mem _ hx)⟩
    · rw [if_neg q2] at h; omega
  · rw [if_neg q] at h; omega
end Go.Proofs.YthmfljjpanghgaaDoor.qn

namespace Go.Proofs.YthmfljjpanghgaaDoor.qo
open Go.RowKit Go.PlainAid
open Go.Proofs.YthmfljjpanghgaaDoor.pl Go.Proofs.YthmfljjpanghgaaDoor.pi Go.Proofs.YthmfljjpanghgaaDoor.pj Go.Proofs.YthmfljjpanghgaaDoor.rf Go.Proofs.YthmfljjpanghgaaDoor.ca Go.Proofs.YthmfljjpanghgaaDoor.cb Go.Proofs.YthmfljjpanghgaaDoor.cp Go.Proofs.YthmfljjpanghgaaDoor.ga Go.Proofs.YthmfljjpanghgaaDoor.aa Go.Proofs.YthmfljjpanghgaaDoor.ab Go.Proofs.YthmfljjpanghgaaDoor.ae Go.Proofs.YthmfljjpanghgaaDoor.ba Go.Proofs.YthmfljjpanghgaaDoor.bb Go.Proofs.YthmfljjpanghgaaDoor.ka Go.Proofs.YthmfljjpanghgaaDoor.kb Go.Proofs.YthmfljjpanghgaaDoor.kp Go.Proofs.YthmfljjpanghgaaDoor.lk Go.Proofs.YthmfljjpanghgaaDoor.mi Go.Proofs.YthmfljjpanghgaaDoor.lm Go.Proofs.YthmfljjpanghgaaDoor.co Go.Proofs.YthmfljjpanghgaaDoor.cn Go.Proofs.YthmfljjpanghgaaDoor.qa Go.Proofs.YthmfljjpanghgaaDoor.qb Go.Proofs.YthmfljjpanghgaaDoor.qc Go.Proofs.YthmfljjpanghgaaDoor.qg Go.Proofs.YthmfljjpanghgaaDoor.qj Go.Proofs.YthmfljjpanghgaaDoor.qk Go.Proofs.YthmfljjpanghgaaDoor.qm
set_option linter.unusedVariables false

-- a shape that goes on down to the leaves
theorem singlyC (lg : Nat) (lv : Array Value) (w : World) : Calls Tryd.prog 54 #[.func (.func lg) #[] lv] w fun e w' => e = .returned (.func (.func 85) #[] #[.pointer (some ⟨w.heap.size, 0, none⟩)]) ∧ w' = w.alloc (.cells #[.func (.func lg) #[] lv] 61) := by
  go_enter Tryd.func54, Tryd.ntmps54
  go_wp2
  go_ret
  exact ⟨rfl, rfl⟩
theorem lkS_is (lo hi a b : Nat) (hab : a < b) : lkS lo hi a b = if lkR lo hi a b = 0 then (if b - a = 1 then 0 else 2) else lkR lo hi a b := by
  unfold lkS lkR
  by_cases h1 : b ≤ lo ∨ hi ≤ a
  · rw [if_pos h1, if_pos h1, if_neg (by omega)]
  · rw [if_neg h1, if_neg h1]
    by_cases h2 : lo ≤ a ∧ b ≤ hi
    · rw [if_pos h2, if_pos rfl]
    · rw [if_neg h2, if_neg (by omega), if_neg (by omega)]
set_option maxHeartbeats 1600000 in
theorem lookSg (sb lb' hb' lo hi a b : Nat) (w : World) (hab : a < b) (hb : b ≤ 4611686018427387904) (hP : w.cell? ⟨lb', 0, none⟩ = some (.int .i64 lo)) (hQ : w.cell? ⟨hb', 0, none⟩ = some (.int .i64 hi)) (hS : w.cell? ⟨sb, 0, none⟩ = some (.func (.func 86) #[] #[.pointer (some ⟨lb', 0, none⟩), .pointer (some ⟨hb', 0, none⟩)])) :
    Calls Tryd.prog 85 #[.agg #[.int .i64 a, .int .i64 b], .pointer (some ⟨sb, 0, none⟩)] w fun e w' => e = .returned (.int .i64 (lkS lo hi a b : Nat)) ∧ Below w.heap.size w w' := by
  have BA : Hid (Below w.heap.size w (w.alloc (.cells #[.int .i64 a, .int .i64 b] 114))) := (Below.refl _ _).alloc (Nat.le_refl _) _
  have HB : Hid (Bx (w.alloc (.cells #[.int .i64 a, .int .i64 b] 114)) w.heap.size a b) := part_box w a b
  have cs := (BA.out.cell (World.block_lt_of_cell? _ _ hS)).trans hS
  have RC : Hid (Calls _ _ _ _ _) := lookR lb' hb' lo hi a b (w.alloc (.cells #[.int .i64 a, .int .i64 b] 114)) hab hb ((BA.out.cell (World.block_lt_of_cell? _ _ hP)).trans hP) ((BA.out.cell (World.block_lt_of_cell? _ _ hQ)).trans hQ)
  have LC : Hid (∀ w, Calls _ _ _ _ _) := fun w => isLeaf a b (by omega) hb w
  rw [lkS_is lo hi a b hab]
  obtain ⟨r, HR⟩ : ∃ r, Hid (lkR lo hi a b = r) := ⟨_, rfl⟩
  rw [HR.out] at RC ⊢
  obtain ⟨c1, c2⟩ := HB.out
  clear hP hQ hS
  by_cases h : r = 0
  · subst h
    rw [if_pos rfl]
    by_cases h1 : b - a = 1
    · rw [decide_eq_true h1] at LC
      rw [if_pos h1]
      clear h1 HR
      go_enter Tryd.func85, Tryd.ntmps85
      go_wp2_with fail
      refine RC.out.mono ?_
      rintro e w1 ⟨rfl, hb1⟩
      have B1 : Hid (Below w.heap.size w w1) := over BA.out hb1
      obtain ⟨d1, d2⟩ := HB.out.later hb1
      clear hb1 c1 c2 cs
      go_wp2_with fail
      refine (LC.out _).mono ?_
      rintro e w2 ⟨rfl, hb2⟩
      have B2 : Hid (Below w.heap.size w w2) := over B1.out hb2
      clear hb2 d1 d2
      go_wp2
      go_ret
      exact ⟨rfl, B2.out⟩
    · rw [decide_eq_false h1] at LC
      rw [if_neg h1]
      clear h1 HR
      go_enter Tryd.func85, Tryd.ntmps85
      go_wp2_with fail
      refine RC.out.mono ?_
      rintro e w1 ⟨rfl, hb1⟩
      have B1 : Hid (Below w.heap.size w w1) := over BA.out hb1
      obtain ⟨d1, d2⟩ := HB.out.later hb1
      clear hb1 c1 c2 cs
      go_wp2_with fail
      refine (LC.out _).mono ?_
      rintro e w2 ⟨rfl, hb2⟩
      have B2 : Hid (Below w.heap.size w w2) := over B1.out hb2
      clear hb2 d1 d2
      go_wp2
      go_ret
      exact ⟨rfl, B2.out⟩
  · rw [if_neg h]
    have q : ((r : Int) == 0) = false := by rw [beq_eq_false_iff_ne]; omega
    clear HR LC
    go_enter Tryd.func85, Tryd.ntmps85
    go_wp2_with fail
    refine RC.out.mono ?_
    rintro e w1 ⟨rfl, hb1⟩
    have B1 : Hid (Below w.heap.size w w1) := over BA.out hb1
    clear hb1 c1 c2 cs
    go_wp2
    go_ret
    exact ⟨rfl, B1.out⟩
theorem ShS (sb lb' hb' lo hi : Nat) : Shp (fun b => b = sb ∨ b = lb' ∨ b = hb') no (fun _ w => w.cell? ⟨lb', 0, none⟩ = some (.int .i64 lo) ∧ w.cell? ⟨hb', 0, none⟩ = some (.int .i64 hi) ∧ w.cell? ⟨sb, 0, none⟩ = some (.func (.func 86) #[] #[.pointer (some ⟨lb', 0, none⟩), .pointer (some ⟨hb', 0, none⟩)])) (lkS lo hi) (fun _ => 0) 85 #[.pointer (some ⟨sb, 0, none⟩)] where
  enter := fun args w => by simp [go_sem]
  keep := fun h k hg => ⟨k.cell h.1 (fun g => hg _ g (.inr (.inl rfl))), k.cell h.2.1 (fun g => hg _ g (.inr (.inr rfl))), k.cell h.2.2 (fun g => hg _ g (.inl rfl))⟩
  fd := fun b h => h.elim
  fl := fun h b hb => by
    rcases hb with rfl | rfl | rfl
    · exact World.block_lt_of_cell? _ _ h.2.2
    · exact World.block_lt_of_cell? _ _ h.1
    · exact World.block_lt_of_cell? _ _ h.2.1
  call := fun a b w hab hb hP => (lookSg sb lb' hb' lo hi a b w hab hb hP.1 hP.2.1 hP.2.2).mono fun e w' h => ⟨h.1, ⟨(h.2.cell (World.block_lt_of_cell? _ _ hP.1)).trans hP.1, (h.2.cell (World.block_lt_of_cell? _ _ hP.2.1)).trans hP.2.1, (h.2.cell (World.block_lt_of_cell? _ _ hP.2.2)).trans hP.2.2⟩, Kp.of_below h.2⟩
  wide := wideS
  four := fourS lo hi
  turn := fun _ _ => rfl
-- a range is its places
def rg (lo hi : Nat) : List Int := (List.range' lo (hi - lo)).map Int.ofNat
theorem rg_len (lo hi : Nat) : (rg lo hi).length = hi - lo := by unfold rg; simp
theorem rg_get (lo hi j : Nat) (h : j < hi - lo) : (rg lo hi).getD j 0 = ((lo + j : Nat) : Int) := by
  unfold rg
  rw [List.getD_eq_getElem?_getD, List.getElem?_map, List.getElem?_range' (by omega)]
  simp
theorem rg_ris (lo hi : Nat) : Ris (rg lo hi) := ⟨fun j hj => by rw [rg_len] at hj; rw [rg_get lo hi j hj]; omega, fun i j hij hj => by rw [rg_len] at hj; rw [rg_get lo hi i (by omega), rg_get lo hi j hj]; omega⟩
theorem rg_mem (lo hi p : Nat) : p ∈ natL (rg lo hi) ↔ lo ≤ p ∧ p < hi := by
  unfold natL rg
  rw [List.map_map, List.mem_map]
  constructor
  · rintro ⟨q, hq, rfl⟩
    rw [List.mem_range'_1] at hq
    simp only [Function.comp]
    show lo ≤ (Int.ofNat q).toNat ∧ _
    have : (Int.ofNat q).toNat = q := rfl
    rw [this]
    omega
  · rintro ⟨h1, h2⟩
    exact ⟨p, by rw [List.mem_range'_1]; omega, rfl⟩
theorem lkS_M (lo hi a b : Nat) (hlh : lo < hi) (hab : a < b) : lkS lo hi a b = lkM (natL (rg lo hi)) a b := by
  unfold lkS lkM
  by_cases h : b ≤ lo ∨ hi ≤ a
  · rw [if_pos h, if_neg]
    rintro ⟨p, hp, h1, h2⟩
    rw [rg_mem] at hp
    omega
  · rw [if_neg h, if_pos (show ∃ p ∈ natL (rg lo hi), a ≤ p ∧ p < b from ⟨max a lo, (rg_mem lo hi _).2 (by omega), by omega, by omega⟩)]
theorem counts (lo hi n : Nat) (hlh : lo < hi) (hn : hi ≤ n) : (WL (lkS lo hi) 0 n).length = (WL (lkR lo hi) 0 n).length ∧ (WL (fl (lkS lo hi)) 0 n).length = hi - lo := by
  have e1 := WL_congr (lk := lkS lo hi) (lk' := lkM (natL (rg lo hi))) n 0 n rfl (fun c d _ q _ => lkS_M lo hi c d hlh q) (by omega)
  have e2 := WL_congr (lk := fl (lkS lo hi)) (lk' := fl (lkM (natL (rg lo hi)))) n 0 n rfl (fun c d _ q _ => fl_congr (lkS_M lo hi c d hlh q)) (by omega)
  have e3 := range_multi (natL (rg lo hi)) lo hi hlh (rg_mem lo hi) n 0 n rfl (by omega)
  have e4 := claimsM (rg_ris lo hi) n 0 n rfl (by omega)
  rw [cnt_zero (rg_ris lo hi), cnt_all (rg_ris lo hi) (fun j hj => by rw [rg_len] at hj; rw [rg_get lo hi j hj]; omega), rg_len] at e4
  exact ⟨by rw [e1, e3], by rw [e2]; omega⟩
end Go.Proofs.YthmfljjpanghgaaDoor.qo

namespace Go.Proofs.YthmfljjpanghgaaDoor.qp
open Go.RowKit Go.PlainAid
open Go.Proofs.YthmfljjpanghgaaDoor.pl Go.Proofs.YthmfljjpanghgaaDoor.pi Go.Proofs.YthmfljjpanghgaaDoor.pj Go.Proofs.YthmfljjpanghgaaDoor.rf Go.Proofs.YthmfljjpanghgaaDoor.ca Go.Proofs.YthmfljjpanghgaaDoor.cb Go.Proofs.YthmfljjpanghgaaDoor.cp Go.Proofs.YthmfljjpanghgaaDoor.ga Go.Proofs.YthmfljjpanghgaaDoor.aa Go.Proofs.YthmfljjpanghgaaDoor.ka Go.Proofs.YthmfljjpanghgaaDoor.kb Go.Proofs.YthmfljjpanghgaaDoor.kp Go.Proofs.YthmfljjpanghgaaDoor.lk Go.Proofs.YthmfljjpanghgaaDoor.mi Go.Proofs.YthmfljjpanghgaaDoor.lm Go.Proofs.YthmfljjpanghgaaDoor.co Go.Proofs.YthmfljjpanghgaaDoor.cn Go.Proofs.YthmfljjpanghgaaDoor.dc Go.Proofs.YthmfljjpanghgaaDoor.df Go.Proofs.YthmfljjpanghgaaDoor.qa Go.Proofs.YthmfljjpanghgaaDoor.qb Go.Proofs.YthmfljjpanghgaaDoor.qc Go.Proofs.YthmfljjpanghgaaDoor.qe Go.Proofs.YthmfljjpanghgaaDoor.qg Go.Proofs.YthmfljjpanghgaaDoor.qi Go.Proofs.YthmfljjpanghgaaDoor.qj Go.Proofs.YthmfljjpanghgaaDoor.qk Go.Proofs.YthmfljjpanghgaaDoor.qm Go.Proofs.YthmfljjpanghgaaDoor.qn Go.Proofs.YthmfljjpanghgaaDoor.qo Go.Proofs.YthmfljjpanghgaaDoor.ts
set_option linter.unusedVariables false

def rngA (wd lo n : Int) (hs proof : List ByteArray) (root : ByteArray) : Int :=
  if (cnt9 3 lo (lo + hs.length) n []).2 = 0 then qm.seen wd (lkS lo.toNat (lo + hs.length).toNat) n.toNat (cnt9 3 lo (lo + hs.length) n []).1 hs proof root else (cnt9 3 lo (lo + hs.length) n []).2
theorem cnt_hi {lo n : Int} {L : Nat} (h : lo < 0 ∨ 4611686018427387904 < lo + L) : cnt9 3 lo lo n [] = cnt9 3 lo (lo + L) n [] := by
  have r : ∀ b : Int, (b ≤ lo ∨ lo < 0 ∨ 4611686018427387904 < b) → ref9 3 lo b n [] = if n < 0 ∨ 4611686018427387904 < n then 80 else 81 := fun b hb => by
    unfold ref9
    rw [if_neg (by omega)]
    by_cases k : n < 0 ∨ 4611686018427387904 < n
    · rw [if_pos k, if_pos k]
    · rw [if_neg k, if_neg k, if_neg (by omega), if_neg (by omega), if_pos rfl, if_pos (by omega)]
  have e1 := r lo (.inl (by omega))
  have e2 := r (lo + L) (by omega)
  have e3 : (if n < 0 ∨ 4611686018427387904 < n then (80 : Int) else 81) ≠ 0 := by split <;> omega
  unfold cnt9
  rw [e1, e2, if_neg e3, if_neg e3]
theorem rng_ok {lo n : Int} {L : Nat} (h : (cnt9 3 lo (lo + L) n []).2 = 0) : ∃ A N : Nat, lo = A ∧ n = N ∧ 1 ≤ L ∧ A + L ≤ N ∧ N ≤ 4611686018427387904 ∧ cnt9 3 lo (lo + L) n [] = ((((WL (lkR A (A + L)) 0 N).length : Nat) : Int), 0) := by
  by_cases h0 : ref9 3 lo (lo + L) n [] = 0
  · have hc : cnt9 3 lo (lo + L) n [] = (((num9 3 lo (lo + L) n [] : Nat) : Int), 0) := by unfold cnt9; rw [if_pos h0]
    unfold ref9 at h0
    rw [if_neg (by omega)] at h0
    by_cases k2 : n < 0 ∨ 4611686018427387904 < n
    · rw [if_pos k2] at h0; omega
    rw [if_neg k2, if_neg (by omega), if_neg (by omega), if_pos rfl] at h0
    by_cases g : lo < 0 ∨ lo + L ≤ lo ∨ n < lo + L
    · rw [if_pos g] at h0; omega
    obtain ⟨N, rfl⟩ : ∃ A : Nat, n = A := ⟨n.toNat, by omega⟩
    obtain ⟨A, rfl⟩ : ∃ B : Nat, lo = B := ⟨lo.toNat, by omega⟩
    refine ⟨A, N, rfl, rfl, by omega, by omega, by omega, ?_⟩
    rw [hc]
    unfold num9
    rw [if_neg (by omega), if_neg (by omega), if_pos rfl, Int.toNat_natCast, Int.toNat_natCast, show ((A : Int) + L).toNat = A + L by omega]
  · have hc : cnt9 3 lo (lo + L) n [] = (0, ref9 3 lo (lo + L) n []) := by unfold cnt9; rw [if_neg h0]
    rw [hc] at h
    exact absurd h h0
-- the sum
theorem sumC (a b : Int) (ha : 0 ≤ a ∧ a ≤ 9223372036854775807) (hb : 0 ≤ b ∧ b ≤ 9223372036854775807) (w : World) : Calls Tryd.prog 84 #[.int .i64 a, .int .i64 b, .int .i64 9223372036854775807] w fun e w' => e = .returned (.tuple (if 9223372036854775807 - a < b then #[.int .i64 0, .int .i64 11] else #[.int .i64 (a + b), .int .i64 0])) ∧ w' = w := by
  have d1 : decide (9223372036854775807 < a) = false := decide_eq_false (by omega)
  have hw : IntKind.i64.wrap (9223372036854775807 - a) = 9223372036854775807 - a := by rw [IntKind.wrap_i64]; omega
  by_cases h : 9223372036854775807 - a < b
  · rw [if_pos h]
    have d2 : decide (9223372036854775807 - a < b) = true := decide_eq_true h
    clear h
    go_enter Tryd.func84, Tryd.ntmps84
    go_wp2
    go_ret2
    exact ⟨rfl, rfl⟩
  · rw [if_neg h]
    have d2 : decide (9223372036854775807 - a < b) = false := decide_eq_false h
    have hw2 : IntKind.i64.wrap (a + b) = a + b := by rw [IntKind.wrap_i64]; omega
    clear h
    go_enter Tryd.func84, Tryd.ntmps84
    go_wp2
    go_ret2
    exact ⟨rfl, rfl⟩
def addE (lo : Int) (L : Nat) : Value := if lo < 0 then .tuple #[.int .i64 0, .int .i64 10] else .tuple (if 9223372036854775807 - lo < L then #[.int .i64 0, .int .i64 11] else #[.int .i64 (lo + L), .int .i64 0])
theorem addC (lo : Int) (hlo : i64 lo) (L : Nat) (hL : (L : Int) ≤ 9223372036854775807) (w : World) : Calls Tryd.prog 53 #[.int .i64 lo, .int .i64 L] w fun e w' => e = .returned (addE lo L) ∧ w' = w := by
  obtain ⟨l1, l2⟩ := hlo
  unfold addE
  by_cases h : lo < 0
  · rw [if_pos h]
    have d1 : decide (lo < 0) = true := decide_eq_true h
    clear h
    go_enter Tryd.func53, Tryd.ntmps53
    go_wp2
    go_ret2
    exact ⟨rfl, rfl⟩
  · rw [if_neg h]
    have d1 : decide (lo < 0) = false := decide_eq_false h
    have d2 : decide ((L : Int) < 0) = false := decide_eq_false (by omega)
    have SC : Hid (∀ w, Calls _ _ _ _ _) := fun w => sumC lo L ⟨by omega, by omega⟩ ⟨by omega, by omega⟩ w
    by_cases g : 9223372036854775807 - lo < L
    · rw [if_pos g] at SC ⊢
      clear h g
      go_enter Tryd.func53, Tryd.ntmps53
      go_wp2_with fail
      refine (SC.out _).mono ?_
      rintro e w1 ⟨rfl, hw⟩
      subst hw
      go_wp2
      go_ret2
      exact ⟨rfl, rfl⟩
    · rw [if_neg g] at SC ⊢
      clear h g
      go_enter Tryd.func53, Tryd.ntmps53
      go_wp2_with fail
      refine (SC.out _).mono ?_
      rintro e w1 ⟨rfl, hw⟩
      subst hw
      go_wp2
      go_ret2
      exact ⟨rfl, rfl⟩
theorem reads_nilI (w : World) : ReadsI w (.slice none 0 0) [] := ⟨none, 0, rfl, Nat.le_refl _, .inl rfl⟩
set_option maxHeartbeats 3200000 in
theorem RangeC (wd lo n : Int) (hwd : i64 wd) (hlo : i64 lo) (vh vp : Value) (hs proof : List ByteArray) (root : ByteArray) (w : World) (hh : ReadsT w vh hs) (hp : ReadsT w vp proof) (zh : hs.length ≤ 140737488355328) (zp : proof.length ≤ 140737488355328) (hT : Tab w) :
    Calls Tryd.prog 20 #[.int .i64 wd, .int .i64 lo, .int .i64 n, vh, vp, .string root] w fun e w' => e = .returned (.int .i64 (rngA wd lo n hs proof root)) ∧ Below w.heap.size w w' := by
  have AC : Hid (∀ w, Calls _ _ _ _ _) := fun w => addC lo hlo hs.length (by omega) w
  have OH : Hid (Old w.heap.size w vh hs ∧ Old w.heap.size w vp proof ∧ Tab w) := ⟨Old.of hh, Old.of hp, hT⟩
  obtain ⟨ha, hc, rfl, _⟩ := hh
  obtain ⟨pa, pc, rfl, _⟩ := hp
  obtain ⟨l1, l2⟩ := hlo
  -- the sum is the end, or a number that is refused alike
  obtain ⟨hi, s1, s2, ADD, hhi⟩ : ∃ (hi s1 s2 : Int), Hid (addE lo hs.length = .tuple #[.int .i64 s1, .int .i64 s2]) ∧ ((s2 = 0 ∧ s1 = hi ∧ hi = lo + hs.length) ∨ (s2 ≠ 0 ∧ hi = lo ∧ (lo < 0 ∨ 4611686018427387904 < lo + hs.length))) := by
    unfold addE
    by_cases h : lo < 0
    · rw [if_pos h]; exact ⟨lo, 0, 10, rfl, .inr ⟨by omega, rfl, .inl h⟩⟩
    · rw [if_neg h]
      by_cases g : 9223372036854775807 - lo < hs.length
      · rw [if_pos g]; exact ⟨lo, 0, 11, rfl, .inr ⟨by omega, rfl, .inr (by omega)⟩⟩
      · rw [if_neg g]; exact ⟨lo + hs.length, lo + hs.length, 0, rfl, .inl ⟨rfl, rfl, rfl⟩⟩
  rw [ADD.out] at AC
  have hcnt : cnt9 3 lo hi n [] = cnt9 3 lo (lo + hs.length) n [] := by
    rcases hhi with ⟨_, _, rfl⟩ | ⟨_, rfl, q⟩
    · rfl
    · exact cnt_hi q
  have CC : Hid (∀ w, Calls _ _ _ _ _) := fun w => countC 3 lo hi n (.slice none 0 0) [] w (reads_nilI w) (by simp)
  rw [hcnt] at CC
  unfold rngA
  by_cases h : (cnt9 3 lo (lo + hs.length) n []).2 = 0
  · obtain ⟨A, N, rfl, rfl, n0, n1, n2, n4⟩ := rng_ok h
    rw [if_pos h, Int.toNat_natCast, Int.toNat_natCast, show ((A : Int) + hs.length).toNat = A + hs.length by omega, n4]
    rw [n4] at CC
    simp only at CC ⊢
    obtain ⟨hs2, hs1, hhi2⟩ : s2 = 0 ∧ s1 = hi ∧ hi = ((A + hs.length : Nat) : Int) := by
      rcases hhi with ⟨q1, q2, q3⟩ | ⟨_, _, q⟩
      · exact ⟨q1, q2, by omega⟩
      · omega
    subst hs2 hs1 hhi2
    have RC : Hid (∀ w, Calls _ _ _ _ _) := fun w => rangedC A ((A + hs.length : Nat) : Int) w
    have SC : Hid (∀ w lv, Calls _ _ _ _ _) := fun w lv => singlyC 86 lv w
    have CNT := counts A (A + hs.length) N (by omega) n1
    have LC : Hid (∀ w1, Below w.heap.size w w1 → Calls Tryd.prog 32 #[.int .i64 wd, .int .i64 N, .int .i64 ((WL (lkR A (A + hs.length)) 0 N).length : Nat), .func (.func 85) #[] #[.pointer (some ⟨w1.heap.size + 1 + 1, 0, none⟩)], .slice ha hs.length hc, .slice pa proof.length pc, .string root] (((w1.alloc (.cells #[.int .i64 A] 3)).alloc (.cells #[.int .i64 ((A + hs.length : Nat) : Int)] 3)).alloc (.cells #[.func (.func 86) #[] #[.pointer (some ⟨w1.heap.size, 0, none⟩), .pointer (some ⟨w1.heap.size + 1, 0, none⟩)]] 61)) fun e w' => e = .returned (.int .i64 (qm.seen wd (lkS A (A + hs.length)) N ((WL (lkR A (A + hs.length)) 0 N).length : Nat) hs proof root)) ∧ Below w.heap.size w w') := by
      intro w1 hb1
      obtain ⟨x1, x2, x3⟩ := three_one w1 (.int .i64 A) (.int .i64 ((A + hs.length : Nat) : Int)) (.func (.func 86) #[] #[.pointer (some ⟨w1.heap.size, 0, none⟩), .pointer (some ⟨w1.heap.size + 1, 0, none⟩)]) 3 3 61
      have b2 : Below w1.heap.size w1 (((w1.alloc (.cells #[.int .i64 A] 3)).alloc (.cells #[.int .i64 ((A + hs.length : Nat) : Int)] 3)).alloc (.cells #[.func (.func 86) #[] #[.pointer (some ⟨w1.heap.size, 0, none⟩), .pointer (some ⟨w1.heap.size + 1, 0, none⟩)]] 61)) := (((Below.refl _ _).alloc (Nat.le_refl _) _).alloc (by simp) _).alloc (by simp; omega) _
      have hb2 := over hb1 b2
      have kk : Kp no w _ := Kp.of_below hb2
      have z := lookC (ShS (w1.heap.size + 1 + 1) w1.heap.size (w1.heap.size + 1) A (A + hs.length)) wd hwd N w.heap.size _ _ hs proof root (by omega) n2 _ ⟨x1, x2, x3⟩ (OH.out.1.keep kk (fun _ e => e.elim)) (OH.out.2.1.keep kk (fun _ e => e.elim)) zh zp (OH.out.2.2.down hb2) OH.out.2.2.big hb2.size (fun b e => e.elim) (by rw [CNT.2]; omega)
      rw [seen_is, CNT.1] at z
      exact z.mono fun e w' q => ⟨q.1, hb2.trans q.2⟩
    obtain ⟨r, HRR⟩ : ∃ r, Hid (qm.seen wd (lkS A (A + hs.length)) N ((WL (lkR A (A + hs.length)) 0 N).length : Nat) hs proof root = r) := ⟨_, rfl⟩
    rw [HRR.out] at LC ⊢
    obtain ⟨cn, HCN⟩ : ∃ c, Hid ((WL (lkR A (A + hs.length)) 0 N).length = c) := ⟨_, rfl⟩
    rw [HCN.out] at CC LC
    obtain ⟨lh, HL⟩ : ∃ l, Hid (hs.length = l) := ⟨_, rfl⟩
    obtain ⟨lp, HLP⟩ : ∃ l, Hid (proof.length = l) := ⟨_, rfl⟩
    rw [HL.out] at AC CC LC RC ⊢
    rw [HLP.out] at LC ⊢
    clear OH h n4 n0 n1 n2 zh zp hT hwd hhi hcnt CNT ADD l1 l2
    obtain ⟨E, HEE⟩ : ∃ E : Int, Hid (((A + lh : Nat) : Int) = E) := ⟨_, rfl⟩
    rw [HEE.out] at AC CC LC RC
    go_enter Tryd.func20, Tryd.ntmps20
    go_wp2_with fail
    refine (AC.out _).mono ?_
    rintro e w0 ⟨rfl, hw⟩
    subst hw
    go_wp2_with fail
    refine (CC.out _).mono ?_
    rintro e w1 ⟨rfl, hb1⟩
    have B1 : Hid (Below w0.heap.size w0 w1) := hb1
    clear hb1
    go_wp2_with fail
    refine (RC.out _).mono ?_
    rintro e w2 ⟨rfl, hw2⟩
    have s2 : w2.heap.size = w1.heap.size + 1 + 1 := by rw [hw2]; simp
    have SC1 : Hid (Calls _ _ _ _ _) := SC.out w2 #[.pointer (some ⟨w1.heap.size, 0, none⟩), .pointer (some ⟨w1.heap.size + 1, 0, none⟩)]
    rw [s2] at SC1
    have HW2 : Hid (w2 = _) := hw2
    clear hw2 s2
    go_wp2_with fail
    refine SC1.out.mono ?_
    rintro e w3 ⟨rfl, hw3⟩
    have LC1 : Hid (Calls _ _ _ _ _) := LC.out w1 B1.out
    rw [← HW2.out, ← hw3] at LC1
    clear hw3 HW2
    go_wp2_with fail
    refine LC1.out.mono ?_
    rintro e w4 ⟨rfl, hb4⟩
    have B4 : Hid (Below w0.heap.size w0 w4) := hb4
    clear hb4
    go_wp2
    go_ret
    exact ⟨rfl, B4.out⟩
  · rw [if_neg h]
    obtain ⟨c, HC⟩ : ∃ c, Hid (cnt9 3 lo (lo + hs.length) n [] = c) := ⟨_, rfl⟩
    obtain ⟨c1, c2⟩ := c
    rw [HC.out] at CC h ⊢
    simp only at CC h ⊢
    have q : (c2 == 0) = false := by rw [beq_eq_false_iff_ne]; exact h
    obtain ⟨lh, HLH⟩ : ∃ l, Hid (hs.length = l) := ⟨_, rfl⟩
    obtain ⟨lp, HLP⟩ : ∃ l, Hid (proof.length = l) := ⟨_, rfl⟩
    rw [HLH.out] at AC ⊢
    rw [HLP.out]
    have hs12 : (s2 = 0 ∧ s1 = hi) ∨ (s2 ≠ 0 ∧ hi = lo) := by
      rcases hhi with ⟨q1, q2, _⟩ | ⟨q1, q2, _⟩
      · exact .inl ⟨q1, q2⟩
      · exact .inr ⟨q1, q2⟩
    clear OH h zh zp hT hwd hhi hcnt ADD l1 l2
    rcases hs12 with ⟨rfl, rfl⟩ | ⟨g, rfl⟩
    · go_enter Tryd.func20, Tryd.ntmps20
      go_wp2_with fail
      refine (AC.out _).mono ?_
      rintro e w0 ⟨rfl, hw⟩
      subst hw
      go_wp2_with fail
      refine (CC.out _).mono ?_
      rintro e w1 ⟨rfl, hb1⟩
      have B1 : Hid (Below w0.heap.size w0 w1) := hb1
      clear hb1
      go_wp2
      go_ret
      exact ⟨rfl, B1.out⟩
    · have q2 : (s2 == 0) = false := by rw [beq_eq_false_iff_ne]; exact g
      clear g
      go_enter Tryd.func20, Tryd.ntmps20
      go_wp2_with fail
      refine (AC.out _).mono ?_
      rintro e w0 ⟨rfl, hw⟩
      subst hw
      go_wp2_with fail
      refine (CC.out _).mono ?_
      rintro e w1 ⟨rfl, hb1⟩
      have B1 : Hid (Below w0.heap.size w0 w1) := hb1
      clear hb1
      go_wp2
      go_ret
      exact ⟨rfl, B1.out⟩
end Go.Proofs.YthmfljjpanghgaaDoor.qp
