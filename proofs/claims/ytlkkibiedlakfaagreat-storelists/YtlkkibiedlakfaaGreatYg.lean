import Derived.Test.YtlkkibiedlakfaaGreatYf
import Derived.Deep.AppendLies
import Derived.Deep.RegionLaw
namespace Go.Proofs.YtlkkibiedlakfaaGreat.yg
open Go.RowKit Go.PlainAid Go.Maps Go.Shelf
open Go.Proofs.YtlkkibiedlakfaaGreat.ca Go.Proofs.YtlkkibiedlakfaaGreat.cb Go.Proofs.YtlkkibiedlakfaaGreat.cp Go.Proofs.YtlkkibiedlakfaaGreat.kp Go.Proofs.YtlkkibiedlakfaaGreat.ka Go.Proofs.YtlkkibiedlakfaaGreat.ya Go.Proofs.YtlkkibiedlakfaaGreat.yb Go.Proofs.YtlkkibiedlakfaaGreat.yc Go.Proofs.YtlkkibiedlakfaaGreat.yd Go.Proofs.YtlkkibiedlakfaaGreat.ye Go.Proofs.YtlkkibiedlakfaaGreat.yf Go.Proofs.YtlkkibiedlakfaaGreat.sb Go.Proofs.YtlkkibiedlakfaaGreat.mc
set_option linter.unusedVariables false
set_option linter.unusedSimpArgs false
structure Sq (B g bn bd : Nat) (pv : Value) (u : Nat) (rn rd : List Rec) (n : Nat) (xs : List Value) (s : S) (w : World) : Prop where
  row : St g bn bd pv u s w
  mn : Mp bn rn w
  md : Mp bd rd w
  ne : bn ≠ bd
  pr : w.ownsRow B 105 3 pv n xs
  low : B ≤ g ∧ B ≤ bn ∧ B ≤ bd
theorem sq_of {B g bn bd : Nat} {pv : Value} {s : S} {w : World} (h : Sr B g bn bd pv s w) : Sq B g bn bd pv (tot (now s)) (now s) s.dur s.pend.length (wcs bd s.pend) s w := ⟨h.row, h.mn, h.md, h.ne, h.pr, h.low⟩
theorem sr_of {B g bn bd : Nat} {pv : Value} {s : S} {w : World} (h : Sq B g bn bd pv (tot (now s)) (now s) s.dur s.pend.length (wcs bd s.pend) s w) (o : OkS s) : Sr B g bn bd pv s w := ⟨h.row, h.mn, h.md, h.ne, h.pr, h.low, o⟩
theorem Sq.keep {A : Nat → Prop} {B g bn bd u n : Nat} {pv : Value} {rn rd : List Rec} {xs : List Value} {s : S} {w w' : World} (h : Sq B g bn bd pv u rn rd n xs s w) (k : Kp A w w') (hn : ∀ j, Fr g bn bd pv j → ¬ A j) : Sq B g bn bd pv u rn rd n xs s w' :=
  ⟨h.row.keep k (hn g (.inl rfl)), h.mn.keep k (hn bn (.inr (.inl rfl))), h.md.keep k (hn bd (.inr (.inr (.inl rfl)))), h.ne, own_kp h.pr k (fun j hj => hn j (.inr (.inr (.inr hj)))), h.low⟩
theorem Sq.later {B g bn bd u n : Nat} {pv : Value} {rn rd : List Rec} {xs : List Value} {s : S} {w w' : World} (h : Sq B g bn bd pv u rn rd n xs s w) (hb : Below w.heap.size w w') : Sq B g bn bd pv u rn rd n xs s w' := h.keep (Kp.of_below (A := fun _ => False) hb) (fun _ _ e => e)
theorem Sq.nm {B g bn bd u n : Nat} {pv : Value} {rn rd rn' : List Rec} {xs : List Value} {s : S} {w w' : World} (h : Sq B g bn bd pv u rn rd n xs s w) (m : Mp bn rn' w') (k : Kp (fun k => k = bn) w w') : Sq B g bn bd pv u rn' rd n xs s w' :=
  ⟨h.row.keep k (fun e => h.mn.ne h.row e.symm), m, h.md.keep k (fun e => h.ne e.symm), h.ne, own_kp h.pr k (fun j hj e => by subst e; exact own_map h.pr h.mn hj), h.low⟩
theorem Sq.dm {B g bn bd u n : Nat} {pv : Value} {rn rd rd' : List Rec} {xs : List Value} {s : S} {w w' : World} (h : Sq B g bn bd pv u rn rd n xs s w) (m : Mp bd rd' w') (k : Kp (fun k => k = bd) w w') : Sq B g bn bd pv u rn rd' n xs s w' :=
  ⟨h.row.keep k (fun e => h.md.ne h.row e.symm), h.mn.keep k h.ne, m, h.ne, own_kp h.pr k (fun j hj e => by subst e; exact own_map h.pr h.md hj), h.low⟩
theorem Sq.st {B g bn bd u u' n : Nat} {pv : Value} {rn rd : List Rec} {xs : List Value} {s s' : S} {w w' : World} (h : Sq B g bn bd pv u rn rd n xs s w) (m : St g bn bd pv u' s' w') (k : Kp (fun k => k = g) w w') : Sq B g bn bd pv u' rn rd n xs s' w' :=
  ⟨m, h.mn.keep k (h.mn.ne h.row), h.md.keep k (h.md.ne h.row), h.ne, own_kp h.pr k (fun j hj e => by subst e; exact own_tag h.pr h.row (by decide) hj), h.low⟩
theorem Sq.u {B g bn bd u n : Nat} {pv : Value} {rn rd : List Rec} {xs : List Value} {s : S} {w : World} (h : Sq B g bn bd pv u rn rd n xs s w) (v : Nat) : Sq B g bn bd pv v rn rd n xs s (w.setCell ⟨g, 3, none⟩ (.int .i64 v)) := h.st (h.row.set3 v) (Kp.setCell _ _ _ _ rfl)
-- another pending row
theorem Sq.pv {B g bn bd u n n' : Nat} {pv pv' : Value} {rn rd : List Rec} {xs xs' : List Value} {s : S} {w : World} (h : Sq B g bn bd pv u rn rd n xs s w) (o : w.ownsRow B 105 3 pv' n' xs') : Sq B g bn bd pv' u rn rd n' xs' s (w.setCell ⟨g, 2, none⟩ pv') := by
  have k : Kp (fun k => k = g) w (w.setCell ⟨g, 2, none⟩ pv') := Kp.setCell _ _ _ _ rfl
  exact ⟨h.row.set2 pv', h.mn.keep k (h.mn.ne h.row), h.md.keep k (h.md.ne h.row), h.ne, own_kp o k (fun j hj e => by subst e; exact own_tag o h.row (by decide) hj), h.low⟩
theorem fr_g {g bn bd : Nat} {pv : Value} {w w' : World} (k : Kp (fun k => k = g) w w') : Kp (Fr g bn bd pv) w w' := k.mono fun _ e => .inl e
theorem fr_n {g bn bd : Nat} {pv : Value} {w w' : World} (k : Kp (fun k => k = bn) w w') : Kp (Fr g bn bd pv) w w' := k.mono fun _ e => .inr (.inl e)
theorem fr_d {g bn bd : Nat} {pv : Value} {w w' : World} (k : Kp (fun k => k = bd) w w') : Kp (Fr g bn bd pv) w w' := k.mono fun _ e => .inr (.inr (.inl e))
theorem info_w : (Tryz.prog.info? 105).map (fun i => (i.zero, i.size, i.bytes)) = some (some (.agg #[.nilFunc, .string ByteArray.empty, .string ByteArray.empty]), 3, 40) := by kernel_rfl
set_option maxHeartbeats 1600000 in
theorem storeOfC (B b : Nat) (r : List Rec) (c : Int) (w : World) (h : Mp b r w) (hok : OkR r) (hl : r.length < 3518437208883) (hc0 : 0 ≤ c) (hc1 : c ≤ 1073741824) (hB : B ≤ b) :
    Calls Tryz.prog 24 #[.map (some b), .int .i64 c] w fun e w' => ∃ g bn, e = .returned (.pointer (some ⟨g, 0, none⟩)) ∧ Sr B g bn b (.slice none 0 0) ⟨c, r, [], 0, false, 0⟩ w' ∧ Below w.heap.size w w' ∧ w.heap.size ≤ g ∧ w.heap.size ≤ bn := by
  have hb := h.lt
  have C1 : Hid (Calls _ _ _ _ _) := mc.cloneM b r w h
  have C2 : Hid (∀ w', Below w.heap.size w w' → Calls _ _ _ _ _) := fun w' hb' => totalM b r w' (h.keep (Kp.of_below (A := fun _ => False) hb') (fun e => e)) hok (by omega)
  have HH : Hid (∀ w1 w2 : World, Below w.heap.size w w1 → Mp w.heap.size r w1 → Below w1.heap.size w1 w2 → Sr B w2.heap.size w.heap.size b (.slice none 0 0) ⟨c, r, [], 0, false, 0⟩ (w2.alloc (.cells #[.map (some w.heap.size), .map (some b), .slice none 0 0, .int .i64 (tot r : Nat), .int .i64 c, .int .i64 0, .bool false, .int .i64 0] 80)) ∧ Below w.heap.size w (w2.alloc (.cells #[.map (some w.heap.size), .map (some b), .slice none 0 0, .int .i64 (tot r : Nat), .int .i64 c, .int .i64 0, .bool false, .int .i64 0] 80)) ∧ w.heap.size ≤ w2.heap.size) := fun w1 w2 b1 m1 b2 => by
    have hs1 := b1.size
    have hs2 := b2.size
    have b3 : Below w2.heap.size w2 (w2.alloc (.cells #[.map (some w.heap.size), .map (some b), .slice none 0 0, .int .i64 (tot r : Nat), .int .i64 c, .int .i64 0, .bool false, .int .i64 0] 80)) := (Below.refl _ w2).alloc (Nat.le_refl _) _
    have bb := over (over b1 b2) b3
    have hm1 := m1.lt
    refine ⟨⟨(MapKept.heap_alloc w2 _).1, ?_, ?_, by omega, World.ownsRow_nil _ _ _ _, by omega, ?_⟩, bb, by omega⟩
    · exact (m1.keep (Kp.of_below (A := fun _ => False) b2) (fun e => e)).keep (Kp.of_below (A := fun _ => False) b3) (fun e => e)
    · exact h.keep (Kp.of_below (A := fun _ => False) bb) (fun e => e)
    · exact ⟨hok, h.srt, (by intro x hx; cases hx), hc0, hc1, by simp, by simp, by simpa using hl⟩
  clear h hok
  go_enter Tryz.func24, Tryz.ntmps24
  go_wp2_with (first | (go_at_call 60; refine C1.out.mono ?_; rintro _ w1 ⟨rfl, m1, b1⟩; have M1 : Hid (Mp w.heap.size r w1) := m1; have B1 : Hid (Below w.heap.size w w1) := b1; clear m1 b1) | (go_at_call 61; refine (C2.out _ B1.out).mono ?_; rintro _ w2 ⟨rfl, b2⟩; have B2 : Hid (Below w1.heap.size w1 w2) := b2; clear b2) | go_in)
  go_ret
  obtain ⟨h1, h2, h3⟩ := HH.out w1 w2 B1.out M1.out B2.out
  exact ⟨_, _, rfl, h1, h2, h3, Nat.le_refl _⟩
theorem newC (c : Int) (w : World) (hc : 0 ≤ c ∧ c ≤ 1073741824) : Calls Tryz.prog 5 #[.int .i64 c] w fun e w' => ∃ g bn bd, e = .returned (.pointer (some ⟨g, 0, none⟩)) ∧ Sr w.heap.size g bn bd (.slice none 0 0) ⟨c, [], [], 0, false, 0⟩ w' ∧ Below w.heap.size w w' := by
  have CC : Hid (∀ w, Calls _ _ _ _ _) := fun w => capC c w
  have hmm := @run_makeMap Tryz.prog
  rw [decide_eq_true hc] at CC
  have hM : Mp w.heap.size [] (w.alloc (.map #[] 0)) := World.ownsMap_made _ _ _ _
  have C2 : Hid (Calls _ _ _ _ _) := storeOfC w.heap.size w.heap.size [] c (w.alloc (.map #[] 0)) hM (by intro p hp; cases hp) (by decide) hc.1 hc.2 (Nat.le_refl _)
  have HB : Hid (Below w.heap.size w (w.alloc (.map #[] 0))) := (Below.refl _ w).alloc (Nat.le_refl _) _
  clear hc hM
  go_enter Tryz.func5, Tryz.ntmps5
  go_wp2_with (first | (go_at_call 23; refine (CC.out _).mono ?_; rintro _ _ ⟨rfl, hw⟩; rw [hw]; clear hw) | (go_at_call 24; refine C2.out.mono ?_; rintro _ w2 ⟨g, bn, rfl, h2, b2, _, _⟩; have H2 : Hid (Sr _ _ _ _ _ _ _) := h2; have B2 : Hid (Below _ _ _) := b2; clear h2 b2) | go_in)
  go_ret
  exact ⟨g, bn, w.heap.size, rfl, H2.out, over HB.out B2.out⟩
theorem newNo (c : Int) (w : World) (hc : ¬ (0 ≤ c ∧ c ≤ 1073741824)) : Calls Tryz.prog 5 #[.int .i64 c] w fun e w' => e = .returned (.pointer none) ∧ w' = w := by
  have CC : Hid (∀ w, Calls _ _ _ _ _) := fun w => capC c w
  rw [decide_eq_false hc] at CC
  clear hc
  go_enter Tryz.func5, Tryz.ntmps5
  go_wp2_with (first | (go_at_call 23; refine (CC.out _).mono ?_; rintro _ _ ⟨rfl, hw⟩; rw [hw]; clear hw) | go_in)
  go_ret
  exact ⟨rfl, rfl⟩
-- a call of counts amid a region that draws its order
theorem step_counts {ops : Array Oper} {o : Oper} {a : Act} {w : World} {K : Act → World → Prop} {Q : Exit → Act → World → Prop} {E : Prop} (hg : o.guard = none) (k l d : Nat)
    (hop : o.op = .call { callee := .value (.func 90), args := #[.tmp k, .tmp l], argTypes := #[59, 9] }) (hd : o.dst = some d) (b : Nat) (r : List Rec) (x : ByteArray)
    (hy : a.tmps[k]?.getD undef = .map (some b)) (hy2 : a.tmps[l]?.getD undef = .string x) (HR : Hid (Mp b r w ∧ x.size ≤ 140737488355328 ∧ OkR r)) (n : Nat) (HN : Hid (at0 x r = n))
    (hK : ∀ w', Below w.heap.size w w' → K { tmps := a.tmps.setIfInBounds d (.int .i64 n), defers := a.defers } w') :
    if Region.wanted o (yielded ops a.tmps) = true then Oper.wp Tryz.prog o a w K Q else E := by
  have hw : Region.wanted o (yielded ops a.tmps) = true := by simp [Region.wanted, hg]
  rw [if_pos hw]
  have C := countsM b r x w HR.out.1 HR.out.2.1 HR.out.2.2
  rw [HN.out] at C
  have HKK : Hid _ := hK
  clear hK HR HN
  unfold Oper.wp execOp
  simp only [hop]
  go_simp
  refine C.mono ?_
  rintro e w' ⟨rfl, h1⟩
  exact HKK.out _ h1
end Go.Proofs.YtlkkibiedlakfaaGreat.yg
