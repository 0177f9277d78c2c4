import Derived.Test.YtidncnhljlaehaaZb
import Derived.Deep.AppendLies
namespace Go.Proofs.Ytidncnhljlaehaa.zc
open Go.RowKit Go.PlainAid Go.Maps Go.Shelf
open Go.Proofs.Ytidncnhljlaehaa.kp Go.Proofs.Ytidncnhljlaehaa.ka Go.Proofs.Ytidncnhljlaehaa.ya Go.Proofs.Ytidncnhljlaehaa.yb Go.Proofs.Ytidncnhljlaehaa.yc Go.Proofs.Ytidncnhljlaehaa.yd Go.Proofs.Ytidncnhljlaehaa.ye Go.Proofs.Ytidncnhljlaehaa.yf Go.Proofs.Ytidncnhljlaehaa.yg Go.Proofs.Ytidncnhljlaehaa.yi Go.Proofs.Ytidncnhljlaehaa.yk Go.Proofs.Ytidncnhljlaehaa.yl Go.Proofs.Ytidncnhljlaehaa.ym Go.Proofs.Ytidncnhljlaehaa.yn Go.Proofs.Ytidncnhljlaehaa.yr Go.Proofs.Ytidncnhljlaehaa.ys Go.Proofs.Ytidncnhljlaehaa.yt Go.Proofs.Ytidncnhljlaehaa.yu Go.Proofs.Ytidncnhljlaehaa.zb
set_option linter.unusedVariables false
set_option linter.unusedSimpArgs false
-- a row beside a store
theorem row_apart {T z B B' g bn bd n : Nat} {pv v : Value} {s : S} {xs : List Value} {w : World} (h1 : T ≠ 71) (h2 : T ≠ 80) (h : Sr B g bn bd pv s w) (o : w.ownsRow B' T z v n xs) : ∀ j, Fr g bn bd pv j → some j ≠ v.ownBlock := by
  rintro j (rfl | rfl | rfl | hj)
  · exact own_tag o h.row h1
  · exact own_map o h.mn
  · exact own_map o h.md
  · rcases h.pr.2 with ⟨rfl, _⟩ | ⟨g', cap, cur, rfl, _, hh, _⟩
    · cases hj
    · have : j = g' := Option.some.inj hj
      subst this
      exact own_tag o hh h2
structure Mt (T z B g bn bd : Nat) (s : S) (v : Value) (n : Nat) (xs : List Value) (w w' : World) : Prop where
  ex : ∃ pv, Sr B g bn bd pv s w'
  row : w'.ownsRow B T z v n xs
  bl : Below B w w'
theorem Mt.later {T z B g bn bd n : Nat} {s : S} {v : Value} {xs : List Value} {w w1 w2 : World} (h : Mt T z B g bn bd s v n xs w w1) (b : Below w1.heap.size w1 w2) (hB : B ≤ w.heap.size) : Mt T z B g bn bd s v n xs w w2 := by
  obtain ⟨⟨pv, h1⟩, h2, h3⟩ := h
  exact ⟨⟨pv, sr_later h1 b⟩, own_kp h2 (Kp.of_below (A := fun _ => False) b) (fun _ _ e => e), h3.trans (b.mono (Nat.le_trans hB h3.size))⟩
theorem Mt.rn {T z B g bn bd n : Nat} {pv : Value} {s s' : S} {v : Value} {xs : List Value} {w w1 w2 : World} (h1 : T ≠ 71) (h2 : T ≠ 80) (h : Mt T z B g bn bd s v n xs w w1) (hp : Sr B g bn bd pv s w1) (r : Rn B g bn bd pv s' w1 w2) (hB : B ≤ w.heap.size) : Mt T z B g bn bd s' v n xs w w2 := by
  have hb := Rn.below hp r (Nat.le_trans hB h.bl.size)
  obtain ⟨p, h7, k, _⟩ := r
  exact ⟨⟨p, h7⟩, own_kp h.row k (fun j hj hF => row_apart h1 h2 hp h.row j hF hj), h.bl.trans hb⟩
theorem Mt.grown {T z B g bn bd n n' : Nat} {s : S} {v v' : Value} {xs xs' : List Value} {w w1 w2 : World} (h1 : T ≠ 71) (h2 : T ≠ 80) (h : Mt T z B g bn bd s v n xs w w1) (o : w2.ownsRow B T z v' n' xs') (hg : w1.grownBy w2 v.ownBlock) (hB : B ≤ w.heap.size) : Mt T z B g bn bd s v' n' xs' w w2 := by
  obtain ⟨⟨pv, hp⟩, hr, hb⟩ := h
  have k : Kp (fun k => some k = v.ownBlock) w1 w2 := ⟨hg.os, hg.tape, hg.output, hg.size, fun j hj hn => hg.block j hj (fun e => hn e)⟩
  exact ⟨⟨pv, sr_keep hp k (fun j hj e => row_apart h1 h2 hp hr j hj e)⟩, o, hb.grown hg (Nat.le_trans hB hb.size) (fun j hj => (hr.lt _ hj).1)⟩
theorem Mt.nil {T z B g bn bd n : Nat} {s : S} {v : Value} {xs : List Value} {w w1 : World} (h : Mt T z B g bn bd s v n xs w w1) : Mt T z B g bn bd s (.slice none 0 0) 0 [] w w1 := ⟨h.ex, World.ownsRow_nil _ _ _ _, h.bl⟩
theorem ts1 : (39 : Nat) ≠ 71 := by decide
theorem ts2 : (39 : Nat) ≠ 80 := by decide
theorem info_s : (Try.prog.info? 39).map (fun i => (i.zero, i.size, i.bytes)) = some (some (.agg #[.bool false, .string ByteArray.empty]), 2, 24) := by kernel_rfl
-- the cells of a list of Seen
def sc (p : Sn) : List Value := [.bool p.1, .string p.2]
def scs (l : List Sn) : List Value := l.flatMap sc
theorem scs_app (l l' : List Sn) : scs (l ++ l') = scs l ++ scs l' := by simp [scs]
theorem scs_len (l : List Sn) : (scs l).length = l.length * 2 := by
  induction l with
  | nil => rfl
  | cons p l ih => simp only [scs, List.flatMap_cons, List.length_append, List.length_cons] at ih ⊢; rw [ih]; simp [sc]; omega
theorem scs_at (l : List Sn) (j : Nat) (p : Sn) (h : l[j]? = some p) : (scs l)[j * 2]? = some (.bool p.1) ∧ (scs l)[j * 2 + 1]? = some (.string p.2) := by
  induction l generalizing j with
  | nil => simp at h
  | cons q l ih =>
    cases j with
    | zero =>
      simp at h
      subst h
      exact ⟨rfl, rfl⟩
    | succ j =>
      have := ih j (by simpa using h)
      have e1 : (j + 1) * 2 = j * 2 + 2 := by omega
      rw [e1]
      exact this
theorem row_seen {B n : Nat} {v : Value} {l : List Sn} {w : World} (o : w.ownsRow B 39 2 v n (scs l)) (hl : l.length = n) (hn : 0 < n) : ∃ g c, v = .slice (some ⟨g, 0, none⟩) n c ∧ ∀ j p, l[j]? = some p → w.cell? ⟨g, j * 2, none⟩ = some (.bool p.1) ∧ w.cell? ⟨g, j * 2 + 1, none⟩ = some (.string p.2) := by
  rcases o.2 with ⟨_, h0⟩ | ⟨g, cap, cur, rfl, _, h3, h4, h5, h6, h7⟩
  · omega
  · refine ⟨g, cap, rfl, fun j p hj => ?_⟩
    have hjl := (List.getElem?_eq_some_iff.1 hj).1
    obtain ⟨s1, s2⟩ := scs_at l j p hj
    rw [← h7, List.getElem?_take_of_lt (by omega)] at s1 s2
    rw [cell_of_row _ _ _ _ _ _ h3, cell_of_row _ _ _ _ _ _ h3]
    exact ⟨by simpa using s1, by simpa using s2⟩
theorem new_two (W : World) (u v : Value) (t : TypeId) : ∀ (j : Nat) (y : Value), [u, v][j]? = some y → (W.alloc (.cells #[u, v] t)).cell? (Addr.add ⟨W.heap.size, 0, none⟩ j) = some y := by
  intro j y h
  have hb : (W.alloc (.cells #[u, v] t)).heap[W.heap.size]? = some (.cells #[u, v] t (0, 0)) := (MapKept.heap_alloc W _).1
  have e : (Addr.add ⟨W.heap.size, 0, none⟩ j) = ⟨W.heap.size, j, none⟩ := by simp [Addr.add]; omega
  rw [e, cell_of_row _ _ j _ _ _ hb]
  simpa using h
theorem one_sn (b : Bool) (d : ByteArray) : ∀ u ∈ [Value.bool b, .string d], u.oneCell' = true := by
  intro u hu; simp only [List.mem_cons, List.not_mem_nil, or_false] at hu; rcases hu with rfl | rfl <;> rfl
theorem mt_one {B g bn bd n : Nat} {s : S} {v : Value} {xs : List Value} {w w1 : World} (h : Mt 39 2 B g bn bd s v n xs w w1) (hB : B ≤ w.heap.size) (p : Sn) : Mt 39 2 B g bn bd s (.slice (some ⟨w1.heap.size, 0, none⟩) 1 1) 1 (scs [p]) w (w1.alloc (.cells #[.bool p.1, .string p.2] 39)) := by
  have h2 := h.later ((Below.refl _ w1).alloc (Nat.le_refl _) (.cells #[.bool p.1, .string p.2] 39)) hB
  refine ⟨h2.ex, ⟨rfl, .inr ⟨w1.heap.size, 1, #[.bool p.1, .string p.2], rfl, Nat.le_trans hB h.bl.size, heap_alloc_new w1 _, Nat.le_refl _, by unfold maxLen; omega, rfl, rfl⟩⟩, h2.bl⟩
-- see
theorem put2 (w : World) (p : Nat) (a0 a1 x0 x1 : Value) (t : TypeId) (h : w.heap[p]? = some (.cells #[a0, a1] t (0, 0))) :
    ∀ W, W = ((w.setCell ⟨p, 0, none⟩ x0).setCell ⟨p, 1, none⟩ x1) → W.heap[p]? = some (.cells #[x0, x1] t (0, 0)) ∧ Kp (fun q => q = p) w W := by
  intro W hW
  have h0 : (w.setCell ⟨p, 0, none⟩ x0).heap[p]? = some (.cells #[x0, a1] t (0, 0)) := heap_setCell_same _ _ 0 _ _ x0 h
  rw [hW]
  exact ⟨heap_setCell_same _ _ 1 _ _ x1 h0, (kset _ _ _ _).trans (kset _ _ _ _)⟩
theorem two {w : World} {p : Nat} {x0 x1 : Value} {t : TypeId} (h : w.heap[p]? = some (.cells #[x0, x1] t (0, 0))) : w.cell? ⟨p, 0, none⟩ = some x0 ∧ w.cell? ⟨p, 1, none⟩ = some x1 ∧ w.frozen? ⟨p, 0, none⟩ = false ∧ w.frozen? ⟨p, 1, none⟩ = false :=
  ⟨cell_of_row _ _ 0 _ _ _ h, cell_of_row _ _ 1 _ _ _ h, frozen_of_row _ _ 0 _ _ h, frozen_of_row _ _ 1 _ _ h⟩
theorem four {w : World} {p : Nat} {x0 x1 x2 x3 : Value} {t : TypeId} (h : w.heap[p]? = some (.cells #[x0, x1, x2, x3] t (0, 0))) : w.cell? ⟨p, 0, none⟩ = some x0 ∧ w.cell? ⟨p, 1, none⟩ = some x1 ∧ w.cell? ⟨p, 2, none⟩ = some x2 ∧ w.cell? ⟨p, 3, none⟩ = some x3 :=
  ⟨cell_of_row _ _ 0 _ _ _ h, cell_of_row _ _ 1 _ _ _ h, cell_of_row _ _ 2 _ _ _ h, cell_of_row _ _ 3 _ _ _ h⟩
theorem below_kset {w w2 W : World} {p : Nat} (h : Below w.heap.size w w2) (k : Kp (fun q => q = p) w2 W) (hp : w.heap.size ≤ p) : Below w.heap.size w W :=
  ⟨k.os.trans h.os, k.tape.trans h.tape, k.output.trans h.output, Nat.le_trans h.size k.size, fun j hj => (k.block j (Nat.lt_of_lt_of_le hj h.size) (by omega)).trans (h.block j hj)⟩
set_option maxRecDepth 20000 in
set_option maxHeartbeats 3200000 in
theorem seeC {B g bn bd : Nat} {pv : Value} {s : S} {w : World} (k : ByteArray) (h : Sr B g bn bd pv s w) (hk : k.size ≤ 140737488355328) (ho : s.off = false) (p : Sn) (hp : sn k (now s) = p) :
    Calls Try.prog 16 #[.pointer (some ⟨g, 0, none⟩), .string k] w fun e w' => e = .returned (.agg #[.bool p.1, .string p.2]) ∧ Below w.heap.size w w' := by
  have hp2 := get_sn h.ok ho k
  rw [hp] at hp2
  have B1 : Hid (Below w.heap.size w (w.alloc (.cells #[.bool false, .string ⟨#[]⟩] 39))) := (Below.refl _ w).alloc (Nat.le_refl _) _
  have CG : Hid (Calls _ _ _ _ _) := getC k (sr_later h B1.out) hk
  obtain ⟨x, e, hx⟩ : ∃ x e, getS s k = (x, e) := ⟨_, _, rfl⟩
  rw [hx] at hp2 CG
  obtain ⟨p1, p2⟩ := p
  simp only [Prod.mk.injEq] at hp2
  obtain ⟨h1, h2⟩ := hp2
  subst h2
  have F1 : Hid _ := heap_alloc_new w (.cells #[.bool false, .string ⟨#[]⟩] 39)
  clear hx hp h
  go_enter Try.func16, Try.ntmps16
  go_wp2_with fail
  refine CG.out.mono ?_
  rintro _ w2 ⟨rfl, b2⟩
  have F2 : Hid (w2.heap[w.heap.size]? = some (.cells #[.bool false, .string ⟨#[]⟩] 39 (0, 0))) := (b2.block _ (by simp)).trans F1.out
  have B2 : Hid (Below w.heap.size w w2) := B1.out.trans (b2.mono (by simp))
  clear b2
  obtain ⟨d0, d1, f0, f1⟩ := two F2.out
  have FIN : Hid (∀ W', W' = _ → _) := put2 w2 w.heap.size _ _ (.bool p1) (.string x) _ F2.out
  clear F2
  go_wp2_with (fail)
  obtain ⟨G, hk2⟩ := FIN.out _ rfl
  obtain ⟨e0, e1, _, _⟩ := two G
  refine bodyPost_ret (by simp [results, Try.results16, go_sem, e0, e1]; try rfl) rfl ?_
  exact ⟨rfl, below_kset B2.out hk2 (Nat.le_refl _)⟩
-- kept
def kpt (kd : Int) (dt : ByteArray) : ByteArray := if kd = 1 then dt else ByteArray.empty
set_option maxRecDepth 20000 in
theorem keptC (kd : Int) (ky dt : ByteArray) (nn : Int) (w : World) : Calls Try.prog 19 #[.agg #[.int .i64 kd, .string ky, .string dt, .int .i64 nn]] w fun e w' => e = .returned (.string (kpt kd dt)) ∧ Below w.heap.size w w' := by
  by_cases h : kd = 1
  · rw [kpt, if_pos h]
    subst h
    go_enter Try.func19, Try.ntmps19
    go_wp2
    go_ret
    exact ⟨rfl, (Below.refl _ w).alloc (Nat.le_refl _) _⟩
  · rw [kpt, if_neg h]
    have h' : (kd == 1) = false := by rw [beq_eq_false_iff_ne]; exact h
    clear h
    go_enter Try.func19, Try.ntmps19
    go_wp2
    go_ret
    exact ⟨rfl, (Below.refl _ w).alloc (Nat.le_refl _) _⟩
theorem step_kept {ops : Array Oper} {o : Oper} {a : Act} {w : World} {K : Act → World → Prop} {Q : Exit → Act → World → Prop} {E : Prop} (hg : o.guard = none) (k d : Nat)
    (hop : o.op = .call { callee := .value (.func 19), args := #[.tmp k], argTypes := #[27] }) (hd : o.dst = some d) (kd : Int) (ky dt : ByteArray) (nn : Int)
    (hy : a.tmps[k]?.getD undef = .agg #[.int .i64 kd, .string ky, .string dt, .int .i64 nn]) (x : ByteArray) (HN : Hid (kpt kd dt = x))
    (hK : ∀ w', Below w.heap.size w w' → K { tmps := a.tmps.setIfInBounds d (.string x), defers := a.defers } w') :
    if Region.wanted o (yielded ops a.tmps) = true then Oper.wp Try.prog o a w K Q else E := by
  have hw : Region.wanted o (yielded ops a.tmps) = true := by simp [Region.wanted, hg]
  rw [if_pos hw]
  have C := keptC kd ky dt nn w
  rw [HN.out] at C
  have HKK : Hid _ := hK
  clear hK HN
  unfold Oper.wp execOp
  simp only [hop]
  go_simp
  refine C.mono ?_
  rintro e w' ⟨rfl, h1⟩
  exact HKK.out _ h1
end Go.Proofs.Ytidncnhljlaehaa.zc
