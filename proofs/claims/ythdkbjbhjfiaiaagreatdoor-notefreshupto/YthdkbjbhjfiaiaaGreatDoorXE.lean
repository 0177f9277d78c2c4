import Derived.Test.YthdkbjbhjfiaiaaGreatDoorXC
import Derived.Test.YthdkbjbhjfiaiaaGreatDoorXD
import Derived.Stop.RegionWithIn
namespace Go.Proofs.YthdkbjbhjfiaiaaGreatDoor.q5
open Go.RowKit Go.Shelf Go.PlainAid
open Go.Proofs.YthdkbjbhjfiaiaaGreatDoor.tb Go.Proofs.YthdkbjbhjfiaiaaGreatDoor.tc Go.Proofs.YthdkbjbhjfiaiaaGreatDoor.tj Go.Proofs.YthdkbjbhjfiaiaaGreatDoor.o1 Go.Proofs.YthdkbjbhjfiaiaaGreatDoor.o3 Go.Proofs.YthdkbjbhjfiaiaaGreatDoor.o4 Go.Proofs.YthdkbjbhjfiaiaaGreatDoor.o5 Go.Proofs.YthdkbjbhjfiaiaaGreatDoor.o6 Go.Proofs.YthdkbjbhjfiaiaaGreatDoor.sh Go.Proofs.YthdkbjbhjfiaiaaGreatDoor.q1 Go.Proofs.YthdkbjbhjfiaiaaGreatDoor.q2 Go.Proofs.YthdkbjbhjfiaiaaGreatDoor.q3 Go.Proofs.YthdkbjbhjfiaiaaGreatDoor.q4 Go.Proofs.YthdkbjbhjfiaiaaGreatDoor.kp
set_option linter.unusedVariables false
attribute [local go_sem] Oper.semAt_some

noncomputable def rdE : List El → List Sg → Option (Nat × List Sg)
  | [], _ => none
  | x :: xs, acc => if x.2 = ByteArray.empty then some (x.1, acc) else match sigP x.2 with
    | none => none
    | some g => if acc.length = 16 ∨ amg acc g = true then none else rdE xs (acc ++ [g])
noncomputable def readB (note : ByteArray) (RL : List ByteArray) : Option (ByteArray × List Sg) := match rdE (elR RL) [] with
  | none => none
  | some (p, acc) => if acc.length ≠ 0 ∧ goesB (note.extract 0 p) = true then some (note.extract 0 p, acc.reverse) else none
theorem elR_bound : ∀ (rl : List ByteArray) (x : El), x ∈ elR rl → x.1 ≤ (flN rl.reverse).size ∧ x.2.size ≤ (flN rl.reverse).size
  | [], x, h => by cases h
  | l :: rl, x, h => by
    rw [List.reverse_cons, flN_snoc, ByteArray.size_append, ByteArray.size_append]
    rcases List.mem_cons.1 h with rfl | h2
    · exact ⟨by simp only; omega, by simp only; omega⟩
    · have := elR_bound rl x h2
      exact ⟨by omega, by omega⟩
theorem gives_bound {s : ByteArray} {RL : List ByteArray} (h : Gives s RL) (x : El) (hx : x ∈ elR RL) : x.1 ≤ s.size ∧ x.2.size ≤ s.size := by
  rcases h with ⟨rfl, _⟩ | ⟨_, rfl⟩
  · exact elR_bound RL x hx
  · cases hx
abbrev Em (N : Nat) := {x : El // x.1 ≤ N ∧ x.2.size ≤ N}
def vs {N : Nat} (l : List (Em N)) : List El := l.map (·.1)
theorem vs_snoc {N : Nat} (l : List (Em N)) (x : Em N) : vs (l ++ [x]) = vs l ++ [x.1] := by simp [vs]
theorem seq_lines (n : Nat) (hn : 1 ≤ n) (bs n₀ : Nat) (s : ByteArray) (hs : s.size ≤ 1000000) (RL : List ByteArray) (hG : Gives s RL) (w : World) (hcl : w.cell? ⟨bs, 0, none⟩ = some (.string s)) :
    SeqStopsK Fence.wide n Tryz.prog 68 #[.pointer (some ⟨bs, 0, none⟩)] (fun x : Em s.size => ad x.1) (Kq n₀ bs) (fun ys => vs ys = elR RL) (fun pre => vs pre <+: elR RL) (elR RL).length w := fun l J Jx W hW hJ _ hY h0 => by
  refine (lines1 n hn l bs n₀ s hs RL hG (fun pre W => ∃ p : List (Em s.size), vs p = pre ∧ J p W) (fun pre W => ∃ p : List (Em s.size), vs p = pre ∧ Jx p W) ?_ W ((hW.cell (p := ⟨bs, 0, none⟩) (World.block_lt_of_cell? _ _ hcl)).trans hcl) ⟨[], rfl, h0⟩).mono ?_
  · rintro pre x W1 hp ⟨p, rfl, hJp⟩ hlt
    have hx := gives_bound hG x (hp.subset (by simp))
    have hlp : (vs p).length = p.length := by simp [vs]
    obtain ⟨fn, tmps, assign, body, hy, hR⟩ := hY p ⟨x, hx⟩ W1 hJp (by omega)
    refine ⟨fn, tmps, assign, body, hy, hR.mono ?_⟩
    rintro e W3 (⟨rfl, hJ3, hk3⟩ | ⟨rfl, hJx3⟩)
    · exact .inl ⟨rfl, ⟨_, vs_snoc p ⟨x, hx⟩, hJ3⟩, hk3⟩
    · exact .inr ⟨rfl, ⟨_, vs_snoc p ⟨x, hx⟩, hJx3⟩⟩
  · rintro e W3 ⟨hv, (⟨ys, rfl, p, hp, hJ3⟩ | ⟨pre, hpre, p, rfl, hJ3⟩)⟩
    · exact ⟨hv, .inl ⟨p, hp, hJ3⟩⟩
    · exact ⟨hv, .inr ⟨p, hpre, hJ3⟩⟩
-- what was collected
noncomputable def accF (pre : List El) : List Sg := pre.filterMap (fun x => sigP x.2)
theorem acc_snoc (pre : List El) (x : El) (g : Sg) (h : sigP x.2 = some g) : accF (pre ++ [x]) = accF pre ++ [g] := by
  unfold accF
  rw [List.filterMap_append]
  simp [h]
def Rel (pre : List El) : Prop := (accF pre).length ≤ 16 ∧ ∀ rest, rdE (pre ++ rest) [] = rdE rest (accF pre)
theorem rel_nil : Rel [] := ⟨Nat.zero_le _, fun _ => rfl⟩
theorem rel_empty {pre : List El} (h : Rel pre) (x : El) (hx : x.2 = ByteArray.empty) (rest : List El) : rdE (pre ++ [x] ++ rest) [] = some (x.1, accF pre) := by
  rw [List.append_assoc, h.2, List.singleton_append, rdE, if_pos hx]
theorem rel_none {pre : List El} (h : Rel pre) (x : El) (hx : x.2 ≠ ByteArray.empty) (hs : sigP x.2 = none) (rest : List El) : rdE (pre ++ [x] ++ rest) [] = none := by
  rw [List.append_assoc, h.2, List.singleton_append, rdE, if_neg hx, hs]
theorem rel_bad {pre : List El} (h : Rel pre) (x : El) (hx : x.2 ≠ ByteArray.empty) (g : Sg) (hs : sigP x.2 = some g) (hb : (accF pre).length = 16 ∨ amg (accF pre) g = true) (rest : List El) : rdE (pre ++ [x] ++ rest) [] = none := by
  rw [List.append_assoc, h.2, List.singleton_append, rdE, if_neg hx, hs]
  simp only
  rw [if_pos hb]
theorem rel_more {pre : List El} (h : Rel pre) (x : El) (hx : x.2 ≠ ByteArray.empty) (g : Sg) (hs : sigP x.2 = some g) (hb : ¬ ((accF pre).length = 16 ∨ amg (accF pre) g = true)) : Rel (pre ++ [x]) := by
  have h1 := h.1
  refine ⟨by rw [acc_snoc pre x g hs, List.length_append]; simp only [List.length_cons, List.length_nil]; have : (accF pre).length ≠ 16 := fun e => hb (.inl e); omega, fun rest => ?_⟩
  rw [List.append_assoc, h.2, List.singleton_append, rdE, if_neg hx, hs]
  simp only
  rw [if_neg hb, acc_snoc pre x g hs]
-- worlds
theorem kf_below {B : Nat} {W W' : World} (h : Below W.heap.size W W') : KeepsFrom B W W' := ⟨h.size, fun k o _ hk _ => (h.block k (Array.getElem?_eq_some_iff.1 hk).1).trans hk⟩
theorem bx_below {W W' : World} {B : Nat} {t : TypeId} {v : Value} (b : Boxed W B t v) (h : Below W.heap.size W W') : Boxed W' B t v := (h.block B b.lt).trans b
theorem own_below {W W' : World} {B : Nat} {t : TypeId} {z n : Nat} {v : Value} {xs : List Value} (o : W.ownsRow B t z v n xs) (h : Below W.heap.size W W') : W'.ownsRow B t z v n xs := own_kp o (Kp.of_below (A := fun _ => False) h) (fun _ _ e => e)
theorem reads_kept {W W' : World} {row : Option Nat} {v : Value} {l : List Sg} (h : ReadsG W v l) (hg : W.grownBy W' row) (hr : ∀ r, row = some r → ∃ o : Obj, W.heap[r]? = some o ∧ o.isCells = false) : ReadsG W' v l := by
  obtain ⟨a, c, rfl, h0 | ⟨b, off, rfl, hb, hh⟩⟩ := h
  · exact ⟨a, c, rfl, .inl h0⟩
  · refine ⟨_, c, rfl, .inr ⟨b, off, rfl, Nat.lt_of_lt_of_le hb hg.size, fun i g hi => ?_⟩⟩
    obtain ⟨h1, h2, h3⟩ := hh i g hi
    exact ⟨cell_kept h1 hg hr, cell_kept h2 hg hr, cell_kept h3 hg hr⟩
theorem boxed_kept {W W' : World} {row : Option Nat} {B : Nat} {t : TypeId} {v : Value} (h : Boxed W B t v) (hg : W.grownBy W' row) (hr : ∀ r, row = some r → ∃ o : Obj, W.heap[r]? = some o ∧ o.isCells = false) : Boxed W' B t v :=
  h.kept hg (fun e => by obtain ⟨o, ho, hc⟩ := hr B e.symm; rw [show W.heap[B]? = _ from h] at ho; cases ho; cases hc)
-- what read has at its end
def Ans (note : ByteArray) (p : Nat) (acc : List Sg) (r0 r1 r2 : Value) (W : World) : Prop :=
  (acc.length ≠ 0 ∧ goesB (note.extract 0 p) = true ∧ r0 = .string (note.extract 0 p) ∧ r2 = .int .i64 0 ∧ ReadsG W r1 acc.reverse) ∨
  (¬ (acc.length ≠ 0 ∧ goesB (note.extract 0 p) = true) ∧ r0 = .string ByteArray.empty ∧ r1 = .slice none 0 0 ∧ r2 = .int .i64 200)
def Ix (w : World) (note : ByteArray) (q1 q2 q3 : Nat) (c : Code) (pre : List El) (W : World) : Prop :=
  Below w.heap.size w W ∧ ((c = .exit 0 ∧ (∀ rest, rdE (pre ++ rest) [] = none) ∧ Boxed W q1 9 (.string ⟨#[]⟩) ∧ Boxed W q2 23 (.slice none 0 0) ∧ Boxed W q3 33 (.int .i64 0)) ∨
    (c = .ret ∧ ∃ p acc, (∀ rest, rdE (pre ++ rest) [] = some (p, acc)) ∧ ∃ r0 r1 r2, W.cell? ⟨q1, 0, none⟩ = some r0 ∧ W.cell? ⟨q2, 0, none⟩ = some r1 ∧ W.cell? ⟨q3, 0, none⟩ = some r2 ∧ Ans note p acc r0 r1 r2 W))
theorem ix_own (w : World) (note : ByteArray) (q1 q2 q3 B : Nat) (hB : w.heap.size ≤ B) (c : Code) : OwnFrom B (Ix w note q1 q2 q3 c) := by
  intro s W W' row h hg hr
  have hr2 : ∀ r, row = some r → ∃ o : Obj, W.heap[r]? = some o ∧ o.isCells = false := fun r e => (hr r e).2
  refine ⟨ownFrom_below (β := Unit) (Nat.le_refl _) hB () W W' row h.1 hg hr, ?_⟩
  rcases h.2 with ⟨h1, h2, h3, h4, h5⟩ | ⟨h1, p, acc, h2, r0, r1, r2, h3, h4, h5, h6⟩
  · exact .inl ⟨h1, h2, boxed_kept h3 hg hr2, boxed_kept h4 hg hr2, boxed_kept h5 hg hr2⟩
  · refine .inr ⟨h1, p, acc, h2, r0, r1, r2, cell_kept h3 hg hr2, cell_kept h4 hg hr2, cell_kept h5 hg hr2, ?_⟩
    rcases h6 with ⟨a, b, c, d, e⟩ | h6
    · exact .inl ⟨a, b, c, d, reads_kept e hg hr2⟩
    · exact .inr h6
-- what a round keeps
structure Bs (w : World) (B0 : Nat) (W : World) (q1 q2 q3 q4 q5 : Nat) (note : ByteArray) (v : Value) (A : List Sg) (X : World) : Prop where
  b0 : Boxed X w.heap.size 9 (.string note)
  b1 : Boxed X q1 9 (.string ⟨#[]⟩)
  b2 : Boxed X q2 23 (.slice none 0 0)
  b3 : Boxed X q3 33 (.int .i64 0)
  b4 : Boxed X q4 23 v
  b5 : Boxed X q5 9 (.string note)
  row : Lg w.heap.size v A X
  low : Below w.heap.size w X
  lowW : Below w.heap.size W X
  kf : KeepsFrom B0 W X
theorem Bs.later {w : World} {B0 : Nat} {W : World} {q1 q2 q3 q4 q5 : Nat} {note : ByteArray} {v : Value} {A : List Sg} {X Y : World} (h : Bs w B0 W q1 q2 q3 q4 q5 note v A X) (b : Below X.heap.size X Y) : Bs w B0 W q1 q2 q3 q4 q5 note v A Y :=
  ⟨bx_below h.b0 b, bx_below h.b1 b, bx_below h.b2 b, bx_below h.b3 b, bx_below h.b4 b, bx_below h.b5 b, h.row.later b, h.low.trans (b.mono h.low.size), h.lowW.trans (b.mono h.low.size), h.kf.trans (kf_below b)⟩
theorem revAny (B : Nat) (v : Value) (l : List Sg) (w : World) (h : Lg B v l w) (hz : l.length ≤ 1000000) :
    Calls Tryz.prog 41 #[v] w fun e w' => e = .returned (.tuple #[]) ∧ ReadsG w' v l.reverse ∧ Kp (fun b => some b = v.ownBlock) w w' := by
  rcases h.2 with ⟨rfl, h0⟩ | ⟨g, cap, cur, rfl, _⟩
  · refine (reverse0 w none 0).mono ?_
    rintro e w' ⟨rfl, rfl⟩
    have hl : l = [] := List.length_eq_zero_iff.1 h0
    subst hl
    exact ⟨rfl, ⟨none, 0, rfl, .inl rfl⟩, Kp.refl _ _⟩
  · refine (reverseC l w h hz).mono ?_
    rintro e w' ⟨rfl, h1, h2⟩
    exact ⟨rfl, h1, h2.mono (fun k hk => by subst hk; rfl)⟩
theorem reads_set {W : World} {v : Value} {l : List Sg} {q : Nat} (h : ReadsG W v l) (hq : some q ≠ v.ownBlock) (u : Value) : ReadsG (W.setCell ⟨q, 0, none⟩ u) v l := by
  obtain ⟨a, c, rfl, h0 | ⟨b, off, rfl, hb, hh⟩⟩ := h
  · exact ⟨a, c, rfl, .inl h0⟩
  · have hne : b ≠ q := fun e => hq (by rw [e]; rfl)
    have k : ∀ {o : Nat} {x : Value}, W.cell? ⟨b, o, none⟩ = some x → (W.setCell ⟨q, 0, none⟩ u).cell? ⟨b, o, none⟩ = some x := fun {o x} e => (Kp.setCell (A := fun z => z = q) W q 0 u rfl).cell e hne
    refine ⟨_, c, rfl, .inr ⟨b, off, rfl, by simpa [World.setCell] using hb, fun i g hi => ?_⟩⟩
    obtain ⟨h1, h2, h3⟩ := hh i g hi
    exact ⟨k h1, k h2, k h3⟩
structure Cs (w : World) (B0 : Nat) (W : World) (q1 q2 q3 q4 : Nat) (note : ByteArray) (v : Value) (A : List Sg) (X : World) : Prop where
  b0 : Boxed X w.heap.size 9 (.string note)
  b1 : Boxed X q1 9 (.string ⟨#[]⟩)
  b2 : Boxed X q2 23 (.slice none 0 0)
  b3 : Boxed X q3 33 (.int .i64 0)
  b4 : Boxed X q4 23 v
  reads : ReadsG X v A.reverse
  low : Below w.heap.size w X
  kf : KeepsFrom B0 W X
  n1 : some q1 ≠ v.ownBlock
  n2 : some q2 ≠ v.ownBlock
  n3 : some q3 ≠ v.ownBlock
theorem Cs.later {w : World} {B0 : Nat} {W : World} {q1 q2 q3 q4 : Nat} {note : ByteArray} {v : Value} {A : List Sg} {X Y : World} (h : Cs w B0 W q1 q2 q3 q4 note v A X) (b : Below X.heap.size X Y) : Cs w B0 W q1 q2 q3 q4 note v A Y :=
  ⟨bx_below h.b0 b, bx_below h.b1 b, bx_below h.b2 b, bx_below h.b3 b, bx_below h.b4 b, h.reads.later b, h.low.trans (b.mono h.low.size), h.kf.trans (kf_below b), h.n1, h.n2, h.n3⟩
theorem Cs.drew {w : World} {B0 : Nat} {W : World} {q1 q2 q3 q4 : Nat} {note : ByteArray} {v : Value} {A : List Sg} {X : World} (h : Cs w B0 W q1 q2 q3 q4 note v A X) : Cs w B0 W q1 q2 q3 q4 note v A X.drew := h.later ((Below.refl _ _).drew)
theorem Bs.drew {w : World} {B0 : Nat} {W : World} {q1 q2 q3 q4 q5 : Nat} {note : ByteArray} {v : Value} {A : List Sg} {X : World} (h : Bs w B0 W q1 q2 q3 q4 q5 note v A X) : Bs w B0 W q1 q2 q3 q4 q5 note v A X.drew := h.later ((Below.refl _ _).drew)
theorem bx_kp {Z : Nat → Prop} {W W' : World} {B : Nat} {t : TypeId} {v : Value} (b : Boxed W B t v) (h : Kp Z W W') (hn : ¬ Z B) : Boxed W' B t v := (h.block B b.lt hn).trans b
theorem Bs.turned {w : World} {B0 : Nat} {W : World} {q1 q2 q3 q4 q5 : Nat} {note : ByteArray} {v : Value} {A : List Sg} {X Y : World} (h : Bs w B0 W q1 q2 q3 q4 q5 note v A X) (hr : ReadsG Y v A.reverse) (k : Kp (fun b => some b = v.ownBlock) X Y) : Cs w B0 W q1 q2 q3 q4 note v A Y := by
  have hrow : X.ownsRow w.heap.size 43 3 v A.length (gcs A) := h.row
  refine ⟨bx_kp h.b0 k (h.b0.not_row (by decide) hrow), bx_kp h.b1 k (h.b1.not_row (by decide) hrow), bx_kp h.b2 k (h.b2.not_row (by decide) hrow), bx_kp h.b3 k (h.b3.not_row (by decide) hrow), bx_kp h.b4 k (h.b4.not_row (by decide) hrow), hr, ?_, ?_, h.b1.not_row (by decide) hrow, h.b2.not_row (by decide) hrow, h.b3.not_row (by decide) hrow⟩
  · exact h.low.trans (k.below (fun j hj => (hrow.lt j hj.symm).1) h.low.size)
  · refine h.kf.trans ⟨k.size, fun j o _ hj ho => ?_⟩
    refine (k.block j (Array.getElem?_eq_some_iff.1 hj).1 (fun e => ?_)).trans hj
    rcases hrow.2 with ⟨rfl, _⟩ | ⟨g, cap, cur, rfl, _, hg, _⟩
    · cases e
    · have : j = g := by injection e
      subst this
      rw [hj] at hg
      cases hg
      cases ho
theorem ans_ex (note : ByteArray) (p : Nat) (A : List Sg) (va : Option Addr) (vc : Nat) : ∃ (t0 : ByteArray) (a1 : Option Addr) (n1 c1 : Nat) (k2 : Int), (if A.length ≠ 0 ∧ goesB (note.extract 0 p) = true then Value.tuple #[.string (note.extract 0 p), .slice va A.length vc, .int .i64 0] else .tuple #[.string ByteArray.empty, .slice none 0 0, .int .i64 200]) = .tuple #[.string t0, .slice a1 n1 c1, .int .i64 k2] ∧ (∀ X, ReadsG X (.slice va A.length vc) A.reverse → Ans note p A (.string t0) (.slice a1 n1 c1) (.int .i64 k2) X) := by
  by_cases h : A.length ≠ 0 ∧ goesB (note.extract 0 p) = true
  · exact ⟨_, _, _, _, _, if_pos h, fun X hX => .inl ⟨h.1, h.2, rfl, rfl, hX⟩⟩
  · exact ⟨_, _, _, _, _, if_neg h, fun X hX => .inr ⟨h, rfl, rfl, rfl⟩⟩
-- the three stores
theorem Cs.stored {w : World} {B0 : Nat} {W : World} {q1 q2 q3 q4 : Nat} {note : ByteArray} {v : Value} {A : List Sg} {X : World} (h : Cs w B0 W q1 q2 q3 q4 note v A X) (z1 : w.heap.size ≤ q1) (z2 : q1 < q2) (z3 : q2 < q3) (z4 : q3 < B0) (r0 r1 r2 : Value) :
    KeepsFrom B0 W (((X.setCell ⟨q1, 0, none⟩ r0).setCell ⟨q2, 0, none⟩ r1).setCell ⟨q3, 0, none⟩ r2) ∧ Below w.heap.size w (((X.setCell ⟨q1, 0, none⟩ r0).setCell ⟨q2, 0, none⟩ r1).setCell ⟨q3, 0, none⟩ r2) ∧
      (((X.setCell ⟨q1, 0, none⟩ r0).setCell ⟨q2, 0, none⟩ r1).setCell ⟨q3, 0, none⟩ r2).cell? ⟨q1, 0, none⟩ = some r0 ∧ (((X.setCell ⟨q1, 0, none⟩ r0).setCell ⟨q2, 0, none⟩ r1).setCell ⟨q3, 0, none⟩ r2).cell? ⟨q2, 0, none⟩ = some r1 ∧ (((X.setCell ⟨q1, 0, none⟩ r0).setCell ⟨q2, 0, none⟩ r1).setCell ⟨q3, 0, none⟩ r2).cell? ⟨q3, 0, none⟩ = some r2 ∧
      ReadsG (((X.setCell ⟨q1, 0, none⟩ r0).setCell ⟨q2, 0, none⟩ r1).setCell ⟨q3, 0, none⟩ r2) v A.reverse := by
  have a1 := h.b1.set r0
  have a2 := (h.b2.other (show q2 ≠ q1 by omega) r0).set r1
  have a3 := ((h.b3.other (show q3 ≠ q1 by omega) r0).other (show q3 ≠ q2 by omega) r1).set r2
  refine ⟨?_, ?_, ?_, ?_, a3.cell, ?_⟩
  · exact ((h.kf.trans (KeepsFrom.of_grownBy (grownBy_setCell' X q1 r0) (fun j e => by cases e; omega))).trans (KeepsFrom.of_grownBy (grownBy_setCell' _ q2 r1) (fun j e => by cases e; omega))).trans (KeepsFrom.of_grownBy (grownBy_setCell' _ q3 r2) (fun j e => by cases e; omega))
  · exact ((h.low.setCell (p := ⟨q1, 0, none⟩) z1 r0).setCell (p := ⟨q2, 0, none⟩) (by show _ ≤ q2; omega) r1).setCell (p := ⟨q3, 0, none⟩) (by show _ ≤ q3; omega) r2
  · exact ((a1.other (show q1 ≠ q2 by omega) r1).other (show q1 ≠ q3 by omega) r2).cell
  · exact (a2.other (show q2 ≠ q3 by omega) r2).cell
  · exact reads_set (reads_set (reads_set h.reads h.n1 r0) h.n2 r1) h.n3 r2
theorem Bs.more {w : World} {B0 : Nat} {W : World} {q1 q2 q3 q4 q5 : Nat} {note : ByteArray} {v v' : Value} {A : List Sg} {X w1 : World} {m : Nat} {ys : List Value} {tmp : Obj} (h : Bs w B0 W q1 q2 q3 q4 q5 note v A X) (hq : w.heap.size ≤ q1 ∧ q1 < q2 ∧ q2 < q3 ∧ q3 < q4 ∧ q4 < q5 ∧ q5 < B0) (hown' : w1.ownsRow w.heap.size 43 3 v' m ys) (hgrow : (X.alloc tmp).grownBy w1 v.ownBlock) :
    Boxed w1 q4 23 v ∧ KeepsFrom B0 W (w1.setCell ⟨q4, 0, none⟩ v') ∧ Below w.heap.size W (w1.setCell ⟨q4, 0, none⟩ v') ∧ Below w.heap.size w (w1.setCell ⟨q4, 0, none⟩ v') ∧ Boxed (w1.setCell ⟨q4, 0, none⟩ v') q4 23 v' ∧ (w1.setCell ⟨q4, 0, none⟩ v').ownsRow w.heap.size 43 3 v' m ys ∧
      Boxed (w1.setCell ⟨q4, 0, none⟩ v') w.heap.size 9 (.string note) ∧ Boxed (w1.setCell ⟨q4, 0, none⟩ v') q1 9 (.string ⟨#[]⟩) ∧ Boxed (w1.setCell ⟨q4, 0, none⟩ v') q2 23 (.slice none 0 0) ∧ Boxed (w1.setCell ⟨q4, 0, none⟩ v') q3 33 (.int .i64 0) ∧ Boxed (w1.setCell ⟨q4, 0, none⟩ v') q5 9 (.string note) := by
  have hrow : X.ownsRow w.heap.size 43 3 v A.length (gcs A) := h.row
  obtain ⟨hv1, hv2, hr2, hk2, hb2⟩ := h.b4.appended (by decide) hrow h.low.size (show w.heap.size ≤ q4 by omega) hown' hgrow
  have k : ∀ {B : Nat} {t : TypeId} {u : Value}, Boxed X B t u → t ≠ 43 → B ≠ q4 → Boxed (w1.setCell ⟨q4, 0, none⟩ v') B t u := fun {B t u} b ht hne => ((b.alloc tmp).kept hgrow (b.not_row ht hrow)).other hne v'
  exact ⟨hv1, h.kf.trans (hk2.from _), h.lowW.trans hb2, h.low.trans hb2, hv2, hr2, k h.b0 (by decide) (by omega), k h.b1 (by decide) (by omega), k h.b2 (by decide) (by omega), k h.b3 (by decide) (by omega), k h.b5 (by decide) (by omega)⟩
theorem fin3 {W : World} {D : Nat} (hK : W.heap[D]? = some (.deferred (some []))) {q : Nat} {r : Value} (k : W.cell? ⟨q, 0, none⟩ = some r) : (W.putObj D (.deferred none)).cell? ⟨q, 0, none⟩ = some r := cell_kept k (grownBy_putObj' _ D (.deferred none)) (fun r e => by cases e; exact ⟨_, hK, rfl⟩)
set_option maxRecDepth 100000 in
set_option maxHeartbeats 16000000 in
theorem read_in (n : Nat) (hn : 3 ≤ n) (note : ByteArray) (hs : note.size ≤ 65536) (RL : List ByteArray) (hG : Gives note RL) (w : World) :
    CallsIn Fence.wide n Tryz.prog 19 #[.string note] w fun e W' => ((readB note RL = none ∧ e = .returned (.tuple #[.string ByteArray.empty, .slice none 0 0, .int .i64 200])) ∨ ∃ body sigs v, readB note RL = some (body, sigs) ∧ e = .returned (.tuple #[.string body, v, .int .i64 0]) ∧ ReadsG W' v sigs) ∧ Below w.heap.size w W' := by
  have h1 : 1 ≤ n := by omega
  have t1 : ¬ (note.size : Int) > 65536 := by omega
  obtain ⟨iA, hi', hz0, hz1, hz2⟩ := info_parts infoG
  have PC : Hid (∀ w, Calls _ _ _ _ _) := fun w => linesC note w
  refine callsIn_of_wp_marks Tryz.func19 rfl trivial ?_ rfl
  simp only [Tryz.ntmps19, List.size_toArray, List.length_cons, List.length_nil, Nat.reduceAdd, Nat.reduceSub, Array.replicate_succ, Array.replicate_zero, List.push_toArray, List.append_toArray, List.nil_append, List.cons_append]
  gi_wp2_with ((try refine ⟨trivial, ?_⟩); gi_at_call 40; refine (callsIn_wide.2 (PC.out _)).mono ?_; rintro e w' ⟨rfl, hw'⟩; rw [hw']; clear hw' w')
  obtain ⟨q1, hq1⟩ : ∃ q, w.heap.size + 1 = q := ⟨_, rfl⟩
  simp only [hq1]
  obtain ⟨q2, hq2⟩ : ∃ q, q1 + 1 = q := ⟨_, rfl⟩
  simp only [hq2]
  obtain ⟨q3, hq3⟩ : ∃ q, q2 + 1 = q := ⟨_, rfl⟩
  simp only [hq3]
  obtain ⟨q4, hq4⟩ : ∃ q, q3 + 1 = q := ⟨_, rfl⟩
  simp only [hq4]
  obtain ⟨q5, hq5⟩ : ∃ q, q4 + 1 = q := ⟨_, rfl⟩
  simp only [hq5]
  have b0 : Boxed ((((((w.alloc (.cells #[.string note] 9)).alloc (.cells #[.string ⟨#[]⟩] 9)).alloc (.cells #[.slice none 0 0] 23)).alloc (.cells #[.int .i64 0] 33)).alloc (.cells #[.slice none 0 0] 23)).alloc (.cells #[.string note] 9)) w.heap.size 9 (.string note) := (((((Boxed.new w 9 (.string note)).alloc _).alloc _).alloc _).alloc _).alloc _
  have b1 : Boxed ((((((w.alloc (.cells #[.string note] 9)).alloc (.cells #[.string ⟨#[]⟩] 9)).alloc (.cells #[.slice none 0 0] 23)).alloc (.cells #[.int .i64 0] 33)).alloc (.cells #[.slice none 0 0] 23)).alloc (.cells #[.string note] 9)) q1 9 (.string ⟨#[]⟩) := by
    rw [← hq1, show w.heap.size + 1 = (w.alloc (.cells #[.string note] 9)).heap.size by simp]; exact ((((Boxed.new _ 9 (.string ⟨#[]⟩)).alloc _).alloc _).alloc _).alloc _
  have b2 : Boxed ((((((w.alloc (.cells #[.string note] 9)).alloc (.cells #[.string ⟨#[]⟩] 9)).alloc (.cells #[.slice none 0 0] 23)).alloc (.cells #[.int .i64 0] 33)).alloc (.cells #[.slice none 0 0] 23)).alloc (.cells #[.string note] 9)) q2 23 (.slice none 0 0) := by
    rw [show q2 = ((w.alloc (.cells #[.string note] 9)).alloc (.cells #[.string ⟨#[]⟩] 9)).heap.size by simp; omega]; exact (((Boxed.new _ 23 (.slice none 0 0)).alloc _).alloc _).alloc _
  have b3 : Boxed ((((((w.alloc (.cells #[.string note] 9)).alloc (.cells #[.string ⟨#[]⟩] 9)).alloc (.cells #[.slice none 0 0] 23)).alloc (.cells #[.int .i64 0] 33)).alloc (.cells #[.slice none 0 0] 23)).alloc (.cells #[.string note] 9)) q3 33 (.int .i64 0) := by
    rw [show q3 = (((w.alloc (.cells #[.string note] 9)).alloc (.cells #[.string ⟨#[]⟩] 9)).alloc (.cells #[.slice none 0 0] 23)).heap.size by simp; omega]; exact ((Boxed.new _ 33 (.int .i64 0)).alloc _).alloc _
  have b4 : Boxed ((((((w.alloc (.cells #[.string note] 9)).alloc (.cells #[.string ⟨#[]⟩] 9)).alloc (.cells #[.slice none 0 0] 23)).alloc (.cells #[.int .i64 0] 33)).alloc (.cells #[.slice none 0 0] 23)).alloc (.cells #[.string note] 9)) q4 23 (.slice none 0 0) := by
    rw [show q4 = ((((w.alloc (.cells #[.string note] 9)).alloc (.cells #[.string ⟨#[]⟩] 9)).alloc (.cells #[.slice none 0 0] 23)).alloc (.cells #[.int .i64 0] 33)).heap.size by simp; omega]; exact (Boxed.new _ 23 (.slice none 0 0)).alloc _
  have b5 : Boxed ((((((w.alloc (.cells #[.string note] 9)).alloc (.cells #[.string ⟨#[]⟩] 9)).alloc (.cells #[.slice none 0 0] 23)).alloc (.cells #[.int .i64 0] 33)).alloc (.cells #[.slice none 0 0] 23)).alloc (.cells #[.string note] 9)) q5 9 (.string note) := by
    rw [show q5 = (((((w.alloc (.cells #[.string note] 9)).alloc (.cells #[.string ⟨#[]⟩] 9)).alloc (.cells #[.slice none 0 0] 23)).alloc (.cells #[.int .i64 0] 33)).alloc (.cells #[.slice none 0 0] 23)).heap.size by simp; omega]; exact Boxed.new _ 9 (.string note)
  have hB0 : Below w.heap.size w ((((((w.alloc (.cells #[.string note] 9)).alloc (.cells #[.string ⟨#[]⟩] 9)).alloc (.cells #[.slice none 0 0] 23)).alloc (.cells #[.int .i64 0] 33)).alloc (.cells #[.slice none 0 0] 23)).alloc (.cells #[.string note] 9)) := ((((((Below.refl _ w).alloc (Nat.le_refl _) _).alloc (by simp) _).alloc (by simp; omega) _).alloc (by simp; omega) _).alloc (by simp; omega) _).alloc (by simp; omega) _
  have hsz : ((((((w.alloc (.cells #[.string note] 9)).alloc (.cells #[.string ⟨#[]⟩] 9)).alloc (.cells #[.slice none 0 0] 23)).alloc (.cells #[.int .i64 0] 33)).alloc (.cells #[.slice none 0 0] 23)).alloc (.cells #[.string note] 9)).heap.size = q5 + 1 := by simp; omega
  obtain ⟨W0, hW0⟩ : ∃ W0, (((((w.alloc (.cells #[.string note] 9)).alloc (.cells #[.string ⟨#[]⟩] 9)).alloc (.cells #[.slice none 0 0] 23)).alloc (.cells #[.int .i64 0] 33)).alloc (.cells #[.slice none 0 0] 23)).alloc (.cells #[.string note] 9) = W0 := ⟨_, rfl⟩
  rw [hW0] at b0 b1 b2 b3 b4 b5 hB0 hsz ⊢
  clear hW0
  refine wpIn_rangeFunc_ownH rfl h1 (gf := 68) (lb := #[.pointer (some ⟨q5, 0, none⟩)]) rfl trivial (enters_of Tryz.func68 (by kernel_rfl) rfl)
    (seq_lines (n - 1) (by omega) q5 w.heap.size note (by omega) RL hG W0 b5.cell) Kq.trans
    (fun W l o o' hl ho hc hw => ⟨belowK_b (w := W0) (by omega) W l o o' hl ho hc hw, World.cell?_of_block (World.putObj_heap_other (show q5 ≠ l by omega))⟩) (Below.refl _ _) (fun _ => rfl)
    (fun pre W => ((∃ v, Boxed W q4 23 v ∧ W.ownsRow w.heap.size 43 3 v (accF (vs pre)).length (gcs (accF (vs pre))) ∧ True) ∧ Boxed W w.heap.size 9 (.string note) ∧ Boxed W q1 9 (.string ⟨#[]⟩) ∧ Boxed W q2 23 (.slice none 0 0) ∧ Boxed W q3 33 (.int .i64 0) ∧ Boxed W q5 9 (.string note)) ∧ Below w.heap.size w W ∧ Rel (vs pre))
    (fun c pre W => Ix w note q1 q2 q3 c (vs pre) W)
    (OwnFrom.and (OwnFrom.and (Own.from (holdsRow_own w.heap.size q4 23 43 3 (fun pre : List (Em note.size) => (accF (vs pre)).length) (fun pre => gcs (accF (vs pre))) (fun _ _ => True)) _) (OwnFrom.and (Own.from (boxed_own _ _ _) _) (OwnFrom.and (Own.from (boxed_own _ _ _) _) (OwnFrom.and (Own.from (boxed_own _ _ _) _) (OwnFrom.and (Own.from (boxed_own _ _ _) _) (Own.from (boxed_own _ _ _) _)))))) (OwnFrom.and (ownFrom_below (Nat.le_refl _) (by omega)) (ownFrom_pure _ _)))
    (fun c pre => ix_own w note q1 q2 q3 _ (by omega) c (vs pre))
    ⟨⟨⟨_, b4, World.ownsRow_nil _ _ _ _, trivial⟩, b0, b1, b2, b3, b5⟩, hB0, rel_nil⟩
    (fun x a' _ => a' = { tmps := #[.string note, .pointer (some ⟨w.heap.size, 0, none⟩), .pointer (some ⟨q1, 0, none⟩), .pointer (some ⟨q2, 0, none⟩), .pointer (some ⟨q3, 0, none⟩), .pointer (some ⟨q4, 0, none⟩), .int .i64 (x.1.1 : Nat), .string x.1.2, undef, undef, .string note, .int .i64 note.size, .bool false, .string note, .func (.func 68) #[] #[.pointer (some ⟨q5, 0, none⟩)], .int .i64 (x.1.1 : Nat), .string x.1.2, undef, undef, undef, undef, undef, undef, undef, undef, undef, undef, undef, undef, undef, undef, undef, undef, undef, undef, undef, undef, undef, undef, undef, undef, undef, undef, undef, undef, undef, undef, undef, undef, undef, undef, undef, undef, undef], defers := [] })
    (fun x a' _ X Y row hs hg hr => hs)
    ?assign ?body ?done ?stop
  case assign =>
    rintro l pre x W K hI hK
    have HK : Hid (∀ (a' : Act) (W' : World), _) := hK
    clear hK
    dsimp only [ad]
    gi_wp2
    exact HK.out _ _ ((KeepsOthers.refl _).from _) ⟨Below.refl _ _, rfl⟩ hI rfl
  case body =>
    rintro l pre ⟨⟨p, y⟩, hx1, hx2⟩ a' W hl ⟨r, hr⟩ ⟨⟨⟨v, hv, hrow, _⟩, c0, c1, c2, c3, c5⟩, hB1, hR⟩ rfl hlt
    dsimp only at hx1 hx2 ⊢
    have HS : Hid (vs (pre ++ [(⟨(p, y), hx1, hx2⟩ : Em note.size)]) = vs pre ++ [(p, y)]) := vs_snoc _ _
    have HB : Hid (Bs w W0.heap.size W q1 q2 q3 q4 q5 note v (accF (vs pre)) W) := ⟨c0, c1, c2, c3, hv, c5, hrow, hB1, (Below.refl _ _), KeepsFrom.refl _ _⟩
    have HR : Hid (Rel (vs pre)) := hR
    have HA16 : Hid ((accF (vs pre)).length ≤ 16) := hR.1
    obtain ⟨A, HAA⟩ : ∃ A, Hid (accF (vs pre) = A) := ⟨_, rfl⟩
    rw [HAA.out] at HB HA16
    obtain ⟨va, vc, hvf⟩ := HB.out.row.form
    subst hvf
    have ne12 : q1 ≠ q2 := by omega
    have ne21 : q2 ≠ q1 := by omega
    have ne13 : q1 ≠ q3 := by omega
    have ne31 : q3 ≠ q1 := by omega
    have ne23 : q2 ≠ q3 := by omega
    have ne32 : q3 ≠ q2 := by omega
    have HQ : Hid (w.heap.size ≤ q1 ∧ q1 < q2 ∧ q2 < q3 ∧ q3 < q4 ∧ q4 < q5 ∧ q5 < W0.heap.size) := ⟨by omega, by omega, by omega, by omega, by omega, by omega⟩
    clear hrow hR hB1 c5 hlt hr hl hq1 hq2 hq3 hq4 hq5 hsz b0 b1 b2 b3 b4 b5 hB0
    by_cases hy : y = ByteArray.empty
    · have HX : Hid (∀ rest, rdE (vs pre ++ [(p, y)] ++ rest) [] = some (p, A)) := fun rest => by rw [rel_empty HR.out (p, y) hy, HAA.out]
      subst hy
      have CR : Hid (∀ X, Bs w W0.heap.size W q1 q2 q3 q4 q5 note (.slice va A.length vc) A X → Calls _ _ _ _ _) := fun X hX => revAny w.heap.size (.slice va A.length vc) A X hX.row (by have := HA16.out; omega)
      obtain ⟨t0, a1, n1, c1', k2', hans, han2⟩ := ans_ex note p A va vc
      have HAN : Hid (∀ X, ReadsG X (.slice va A.length vc) A.reverse → Ans note p A (.string t0) (.slice a1 n1 c1') (.int .i64 k2') X) := han2
      have CW : Hid (∀ X, Cs w W0.heap.size W q1 q2 q3 q4 note (.slice va A.length vc) A X → Calls Tryz.prog 42 #[.string (note.extract 0 p), .slice va A.length vc] X fun e Y => e = .returned (.tuple #[.string t0, .slice a1 n1 c1', .int .i64 k2']) ∧ Cs w W0.heap.size W q1 q2 q3 q4 note (.slice va A.length vc) A Y) := fun X hX => by
        refine (wholeC (note.extract 0 p) va A.length vc (by rw [ByteArray.size_extract]; omega) X).mono ?_
        rintro e Y ⟨rfl, hb⟩
        exact ⟨by rw [hans], hX.later hb⟩
      have hc := hv.cell
      have hpn : (p : Int) ≤ (note.size : Int) := by omega
      have hbe : ((ByteArray.empty : ByteArray) == ⟨#[]⟩) = true := by decide
      clear c0 c1 c2 c3 hans han2
      gi_wp2_with ((try refine ⟨trivial, (fun h => by cases h), ?_⟩); gi_at_call 41; refine (CallsIn.inRound l (callsIn_wide.2 (CR.out _ HB.out))).mono ?_; rintro e X ⟨rfl, hrd, hkp⟩; have hcs := (HB.out.turned hrd hkp).drew; have HC : Hid (Cs _ _ _ _ _ _ _ _ _ _ _) := hcs; have hc0 := hcs.b0.cell; have hc4 := hcs.b4.cell; clear hrd hkp hcs)
      gi_region_with ((try refine ⟨trivial, (fun h => by cases h), ?_⟩); gi_at_call 42; refine (CallsIn.inRound l (callsIn_wide.2 (CW.out _ HC.out))).mono ?_; rintro e Y ⟨rfl, hcs⟩; have HC2 : Hid (Cs _ _ _ _ _ _ _ _ _ _ _) := hcs; have k1 := hcs.b1.cell; have k2 := hcs.b2.cell; have k3 := hcs.b3.cell; have f1 := hcs.b1.frozen; have f2 := hcs.b2.frozen; have f3 := hcs.b3.frozen; clear hcs)
      all_goals gi_wp2
      all_goals obtain ⟨g1, g2, g3, g4, g5, g6⟩ := HC2.out.stored HQ.out.1 HQ.out.2.1 HQ.out.2.2.1 (by have := HQ.out; omega) (.string t0) (.slice a1 n1 c1') (.int .i64 k2')
      all_goals exact ⟨g1, by show Ix _ _ _ _ _ _ (vs _) _; rw [HS.out]; exact ⟨g2, .inr ⟨rfl, p, A, HX.out, _, _, _, g3, g4, g5, HAN.out _ g6⟩⟩⟩
    · have CS : Hid (∀ X, Calls _ _ _ _ _) := fun X => readSigC y (by omega) X
      have hbe : y.toList.isEmpty = false := by rw [ByteArray.toList_eq]; cases h : y.data.toList with | nil => exact absurd (ByteArray.ext (Array.ext' h)) hy | cons _ _ => rfl
      have hbe2 : ¬ y = ⟨#[]⟩ := hy
      clear c0 c1 c2 c3
      cases hsig : sigP y with
      | none =>
        have HX : Hid (∀ rest, rdE (vs pre ++ [(p, y)] ++ rest) [] = none) := fun rest => rel_none HR.out (p, y) hy hsig rest
        rw [hsig] at CS
        unfold sigV at CS
        clear hsig hy
        gi_wp2_with ((try refine ⟨trivial, (fun h => by cases h), ?_⟩); gi_at_call 43; refine (CallsIn.inRound l (callsIn_wide.2 (CS.out _))).mono ?_; rintro e X ⟨rfl, hb⟩; have HB2 : Hid (Bs _ _ _ _ _ _ _ _ _ _ _ _) := HB.out.later hb; clear hb)
        obtain ⟨X2, HX2⟩ : ∃ X2, Hid (X.alloc (.cells #[.string ⟨#[]⟩, .string ⟨#[]⟩, .string ⟨#[]⟩] 43) = X2) := ⟨_, rfl⟩
        have HB3 : Hid (Bs w W0.heap.size W q1 q2 q3 q4 q5 note (.slice va A.length vc) A X2.drew) := by rw [← HX2.out]; exact (HB2.out.later ((Below.refl _ _).alloc (Nat.le_refl _) _)).drew
        rw [HX2.out]
        gi_region_with (refine ⟨trivial, ?_⟩)
        all_goals gi_wp2
        all_goals exact ⟨HB3.out.kf, by show Ix _ _ _ _ _ _ (vs _) _; rw [HS.out]; exact ⟨HB3.out.low, .inl ⟨rfl, HX.out, HB3.out.b1, HB3.out.b2, HB3.out.b3⟩⟩⟩
      | some g =>
        rw [hsig] at CS
        unfold sigV at CS
        obtain ⟨gn, gi, gm⟩ := g
        dsimp only at CS
        by_cases h16 : A.length = 16
        · have HX : Hid (∀ rest, rdE (vs pre ++ [(p, y)] ++ rest) [] = none) := fun rest => rel_bad HR.out (p, y) hy _ hsig (.inl (by rw [HAA.out]; exact h16)) rest
          have g1 : ((A.length : Int) == 16) = true := by rw [h16]; rfl
          clear hsig hy
          gi_wp2_with ((try refine ⟨trivial, (fun h => by cases h), ?_⟩); gi_at_call 43; refine (CallsIn.inRound l (callsIn_wide.2 (CS.out _))).mono ?_; rintro e X ⟨rfl, hb⟩; have HB2 : Hid (Bs _ _ _ _ _ _ _ _ _ _ _ _) := HB.out.later hb; clear hb)
          obtain ⟨X2, HX2⟩ : ∃ X2, Hid (X.alloc (.cells #[.string gn, .string gi, .string gm] 43) = X2) := ⟨_, rfl⟩
          have HB3 : Hid (Bs w W0.heap.size W q1 q2 q3 q4 q5 note (.slice va A.length vc) A X2.drew) := by rw [← HX2.out]; exact (HB2.out.later ((Below.refl _ _).alloc (Nat.le_refl _) _)).drew
          rw [HX2.out]
          have hc4 := HB3.out.b4.cell
          gi_region_with (refine ⟨trivial, ?_⟩)
          all_goals gi_wp2
          all_goals exact ⟨HB3.out.kf, by show Ix _ _ _ _ _ _ (vs _) _; rw [HS.out]; exact ⟨HB3.out.low, .inl ⟨rfl, HX.out, HB3.out.b1, HB3.out.b2, HB3.out.b3⟩⟩⟩
        · have g1 : ((A.length : Int) == 16) = false := beq_eq_false_iff_ne.2 (by omega)
          have g2 : ¬ (A.length : Int) = 16 := by omega
          obtain ⟨m, HM⟩ : ∃ m, Hid (amg A ⟨gn, gi, gm⟩ = m) := ⟨_, rfl⟩
          have CK : Hid (∀ X b1 b2, ReadsG X (.slice va A.length vc) A → X.cell? ⟨b1, 0, none⟩ = some (.string gn) → X.cell? ⟨b2, 0, none⟩ = some (.string gi) → Calls Tryz.prog 44 #[.slice va A.length vc, .func (.func 74) #[] #[.pointer (some ⟨b1, 0, none⟩), .pointer (some ⟨b2, 0, none⟩)]] X fun e X' => e = .returned (.bool m) ∧ Below X.heap.size X X') := fun X b1 b2 hr z1 z2 => by
            rw [← HM.out]
            exact hasKey (.slice va A.length vc) A gn gi b1 b2 X hr (by have := HA16.out; omega) z1 z2
          have CO : Hid (∀ X, Calls Tryz.prog 45 #[.string gn, .string gi] X fun e X' => e = .returned (.func (.func 74) #[] #[.pointer (some ⟨X.heap.size, 0, none⟩), .pointer (some ⟨X.heap.size + 1, 0, none⟩)]) ∧ Below X.heap.size X X' ∧ X'.cell? ⟨X.heap.size, 0, none⟩ = some (.string gn) ∧ X'.cell? ⟨X.heap.size + 1, 0, none⟩ = some (.string gi)) := fun X => by
            refine (ofKeyC gn gi X).mono ?_
            rintro e w2 ⟨rfl, h2⟩
            refine ⟨rfl, by rw [h2]; exact ((Below.refl _ _).alloc (Nat.le_refl _) _).alloc (by simp) _, by rw [h2, World.cell?_alloc_lt _ _ _ (by simp), World.cell?_alloc_at _ _ _ _ rfl]; rfl, by rw [h2, World.cell?_alloc_at _ _ _ _ (by simp)]; rfl⟩
          have HXE : Hid (m = false → Rel (vs pre ++ [(p, y)]) ∧ accF (vs pre ++ [(p, y)]) = A ++ [⟨gn, gi, gm⟩]) := fun hm => ⟨rel_more HR.out (p, y) hy _ hsig (by rw [HAA.out]; rintro (h | h); exact h16 h; rw [HM.out, hm] at h; cases h), by rw [acc_snoc (vs pre) (p, y) _ hsig, HAA.out]⟩
          have HXD : Hid (m = true → ∀ rest, rdE (vs pre ++ [(p, y)] ++ rest) [] = none) := fun hm rest => rel_bad HR.out (p, y) hy _ hsig (.inr (by rw [HAA.out, HM.out]; exact hm)) rest
          have HN : Hid (A.length < 16) := by show _ < _; have := HA16.out; omega
          have HII : Hid (Tryz.prog.info? 43 = some iA ∧ iA.zero = some (.agg #[.string ⟨#[]⟩, .string ⟨#[]⟩, .string ⟨#[]⟩]) ∧ iA.size = 3 ∧ iA.bytes = 48) := ⟨hi', hz0, hz1, hz2⟩
          clear hsig hy h16 HM
          gi_wp2_with ((try refine ⟨trivial, (fun h => by cases h), ?_⟩); gi_at_call 43; refine (CallsIn.inRound l (callsIn_wide.2 (CS.out _))).mono ?_; rintro e X ⟨rfl, hb⟩; have HB2 : Hid (Bs _ _ _ _ _ _ _ _ _ _ _ _) := HB.out.later hb; clear hb)
          obtain ⟨X2, HX2⟩ : ∃ X2, Hid (X.alloc (.cells #[.string gn, .string gi, .string gm] 43) = X2) := ⟨_, rfl⟩
          have HB3 : Hid (Bs w W0.heap.size W q1 q2 q3 q4 q5 note (.slice va A.length vc) A X2.drew) := by rw [← HX2.out]; exact (HB2.out.later ((Below.refl _ _).alloc (Nat.le_refl _) _)).drew
          have d0 : X2.cell? ⟨X.heap.size, 0, none⟩ = some (.string gn) := by rw [← HX2.out, World.cell?_alloc_at _ _ _ _ rfl]; rfl
          have d1 : X2.cell? ⟨X.heap.size, 1, none⟩ = some (.string gi) := by rw [← HX2.out, World.cell?_alloc_at _ _ _ _ rfl]; rfl
          have HD : Hid (X.heap.size < X2.drew.heap.size ∧ X2.drew.heap[X.heap.size]? = some (.cells #[.string gn, .string gi, .string gm] 43 (0, 0))) := by rw [← HX2.out]; exact ⟨by simp [World.drew], heap_alloc_new X _⟩
          rw [HX2.out]
          have hc4 := HB3.out.b4.cell
          refine wpIn_mono (Q := fun e a' W' => e = .normal ∧ (∃ fv, a' = { tmps := #[.string note, .pointer (some ⟨w.heap.size, 0, none⟩), .pointer (some ⟨q1, 0, none⟩), .pointer (some ⟨q2, 0, none⟩), .pointer (some ⟨q3, 0, none⟩), .pointer (some ⟨q4, 0, none⟩), .int .i64 (p : Nat), .string y, .pointer (some ⟨X.heap.size, 0, none⟩), .bool true, .string note, .int .i64 note.size, .bool false, .string note, .func (.func 68) #[] #[.pointer (some ⟨q5, 0, none⟩)], .int .i64 (p : Nat), .string y, .string y, .bool false, undef, undef, undef, undef, undef, undef, undef, undef, undef, undef, .tuple #[.agg #[.string gn, .string gi, .string gm], .bool true], .string y, .tuple #[.agg #[.string gn, .string gi, .string gm], .bool true], .agg #[.string gn, .string gi, .string gm], .bool true, .bool true, .bool false, .bool false, .slice va A.length vc, .int .i64 A.length, .bool false, .bool false, .bool false, .slice va A.length vc, .pointer (some ⟨X.heap.size, 0, none⟩), .string gn, .pointer (some ⟨X.heap.size, 1, none⟩), .string gi, fv, .bool m, .bool m, undef, undef, undef, undef], defers := [] }) ∧ Bs w W0.heap.size W q1 q2 q3 q4 q5 note (.slice va A.length vc) A W' ∧ W'.heap[X.heap.size]? = some (.cells #[.string gn, .string gi, .string gm] 43 (0, 0))) ?_ ?_
          rotate_left
          · rintro e a' X4 ⟨rfl, ⟨fv, rfl⟩, hbs, hd5⟩
            have HB5 : Hid (Bs _ _ _ _ _ _ _ _ _ _ _ _) := hbs
            have HD5 : Hid (_ = _) := hd5
            clear hbs hd5 hc4 d0 d1
            cases m
            · have HX : Hid (Rel (vs pre ++ [(p, y)]) ∧ accF (vs pre ++ [(p, y)]) = A ++ [⟨gn, gi, gm⟩]) := HXE.out rfl
              have hc6 := HB5.out.b4.cell
              have u0 : X4.cell? ⟨X.heap.size, 0, none⟩ = some (.string gn) := by rw [cell_of_row _ _ _ _ _ _ HD5.out]; rfl
              have u1 : X4.cell? ⟨X.heap.size, 1, none⟩ = some (.string gi) := by rw [cell_of_row _ _ _ _ _ _ HD5.out]; rfl
              have u2 : X4.cell? ⟨X.heap.size, 2, none⟩ = some (.string gm) := by rw [cell_of_row _ _ _ _ _ _ HD5.out]; rfl
              have HRW : Hid (X4.ownsRow w.heap.size 43 3 (.slice va A.length vc) A.length (gcs A)) := HB5.out.row
              have HSZ : Hid (w.heap.size ≤ X4.heap.size) := HB5.out.low.size
              gi_wp2_with (gi_at_builtin; refine wpListIn_append_own _ rfl _ _ 23 rfl w.heap.size 43 iA (.agg #[.string ⟨#[]⟩, .string ⟨#[]⟩, .string ⟨#[]⟩]) 3 48 Tryz.underlying23 HII.out.1 HII.out.2.1 HII.out.2.2.1 HII.out.2.2.2 rfl (by decide) _ _ _ rfl (HRW.out.alloc _) ⟨X4.heap.size, 0, none⟩ 1 1 [.string gn, .string gi, .string gm] rfl rfl (new_three _ _ _ _ _) (one_three _ _ _) (by unfold maxLen; have := HN.out; omega) (by have := HN.out; omega) (by have := HSZ.out; simp; omega) ?_; intro v' w1 hown' hgrow _; obtain ⟨g', cap', rfl⟩ := ownsRow_succ hown'; have hmo := HB5.out.more HQ.out hown' hgrow; have HMO : Hid (_ ∧ _) := hmo; have hc7 := hmo.1.cell; have hf7 := hmo.1.frozen; clear hown' hgrow hmo)
              obtain ⟨_, y1, y2, y3, y4, y5, y6, y7, y8, y9, y10⟩ := HMO.out
              exact ⟨y1, ⟨y2, y10.cell.trans HB.out.b5.cell.symm⟩, by first | (show ((∃ v, Boxed _ q4 _ v ∧ World.ownsRow _ _ _ _ v (accF (vs _)).length (gcs (accF (vs _)))) ∧ _) ∧ _ ∧ Rel (vs _); rw [HS.out, HX.out.2, List.length_append, gcs_app]; exact ⟨⟨⟨_, y4, y5⟩, y6, y7, y8, y9, y10⟩, y3, HX.out.1⟩) | (show ((∃ v, Boxed _ q4 _ v ∧ World.ownsRow _ _ _ _ v (accF (vs _)).length (gcs (accF (vs _))) ∧ True) ∧ _) ∧ _ ∧ Rel (vs _); rw [HS.out, HX.out.2, List.length_append, gcs_app]; exact ⟨⟨⟨_, y4, y5, trivial⟩, y6, y7, y8, y9, y10⟩, y3, HX.out.1⟩)⟩
            · have HX : Hid (∀ rest, rdE (vs pre ++ [(p, y)] ++ rest) [] = none) := HXD.out rfl
              gi_wp2
              exact ⟨HB5.out.kf, by show Ix _ _ _ _ _ _ (vs _) _; rw [HS.out]; exact ⟨HB5.out.low, .inl ⟨rfl, HX.out, HB5.out.b1, HB5.out.b2, HB5.out.b3⟩⟩⟩
          gi_region_with (first | ((try refine ⟨trivial, (fun h => by cases h), ?_⟩); gi_at_call 45; refine (CallsIn.inRound l (callsIn_wide.2 (CO.out _))).mono ?_; rintro e X3 ⟨rfl, hb3, e0, e1⟩; have E0 : Hid (_ = _) := e0; have E1 : Hid (_ = _) := e1; have HB4 : Hid (Bs _ _ _ _ _ _ _ _ _ _ _ _) := HB3.out.later hb3; have HD4 : Hid (X.heap.size < X3.heap.size ∧ X3.heap[X.heap.size]? = some (.cells #[.string gn, .string gi, .string gm] 43 (0, 0))) := ⟨Nat.lt_of_lt_of_le HD.out.1 hb3.size, (hb3.block _ HD.out.1).trans HD.out.2⟩; have hc5 := HB4.out.b4.cell; clear hb3 e0 e1) | ((try refine ⟨trivial, (fun h => by cases h), ?_⟩); gi_at_call 44; refine (CallsIn.inRound l (callsIn_wide.2 (CK.out _ _ _ HB4.out.row.reads E0.out E1.out))).mono ?_; rintro e X4 ⟨rfl, hb4⟩; have HB5 : Hid (Bs _ _ _ _ _ _ _ _ _ _ _ _) := HB4.out.later hb4; have HD5 : Hid (X4.heap[X.heap.size]? = some (.cells #[.string gn, .string gi, .string gm] 43 (0, 0))) := (hb4.block _ HD4.out.1).trans HD4.out.2; clear hb4))
          all_goals exact ⟨rfl, ⟨_, rfl⟩, HB5.out, HD5.out⟩
  case done =>
    rintro D ys W hD hys ⟨⟨_, _, c1, c2, c3, _⟩, hB1, hR⟩ hK
    have HN : Hid (readB note RL = none) := by
      show _ = _
      have h := hR.2 []
      rw [List.append_nil, hys] at h
      unfold readB
      rw [h]
      rfl
    have k1 := c1.cell
    have k2 := c2.cell
    have k3 := c3.cell
    have f1 := c1.frozen
    have f2 := c2.frozen
    have f3 := c3.frozen
    have ne12 : q1 ≠ q2 := by omega
    have ne21 : q2 ≠ q1 := by omega
    have ne13 : q1 ≠ q3 := by omega
    have ne31 : q3 ≠ q1 := by omega
    have ne23 : q2 ≠ q3 := by omega
    have ne32 : q3 ≠ q2 := by omega
    have z1 : w.heap.size ≤ q1 := by omega
    have z3 : q3 < D := by omega
    have z2 : w.heap.size ≤ q2 := by omega
    have z2' : w.heap.size ≤ q3 := by omega
    have zD : w.heap.size ≤ D := by omega
    clear hq1 hq2 hq3 hq4 hq5 hsz
    gi_wp2
    have a1 := (c1.set (.string ⟨#[]⟩)).other ne12 (.slice none 0 0) |>.other ne13 (.int .i64 200)
    have a2 := ((c2.other ne21 (.string ⟨#[]⟩)).set (.slice none 0 0)).other ne23 (.int .i64 200)
    have a3 := ((c3.other ne31 (.string ⟨#[]⟩)).other ne32 (.slice none 0 0)).set (.int .i64 200)
    have hB2 := ((hB1.setCell (p := ⟨q1, 0, none⟩) z1 (.string ⟨#[]⟩)).setCell (p := ⟨q2, 0, none⟩) z2 (.slice none 0 0)).setCell (p := ⟨q3, 0, none⟩) z2' (.int .i64 200)
    have hK2 : (((W.setCell ⟨q1, 0, none⟩ (.string ⟨#[]⟩)).setCell ⟨q2, 0, none⟩ (.slice none 0 0)).setCell ⟨q3, 0, none⟩ (.int .i64 200)).heap[D]? = some (.deferred (some [])) := (KeepsOthers.setCell _ _ _).same D _ ((KeepsOthers.setCell _ _ _).same D _ ((KeepsOthers.setCell W ⟨q1, 0, none⟩ (.string ⟨#[]⟩)).same D _ hK rfl) rfl) rfl
    refine ⟨by simp, .inl ⟨_, _, rfl, run_takeDeferred hK2, ?_⟩⟩
    have e1 := fin3 hK2 a1.cell
    have e2 := fin3 hK2 a2.cell
    have e3 := fin3 hK2 a3.cell
    refine ⟨.tuple #[.string ⟨#[]⟩, .slice none 0 0, .int .i64 200], ?_, .inl ⟨HN.out, rfl⟩, hB2.trans (belowK_b (w := w) (Nat.le_refl _) _ D _ _ zD hK2 rfl rfl)⟩
    simp [results, Tryz.f19, go_sem, e1, e2, e3]
  case stop =>
    rintro D c pre W hD hp ⟨hB1, h | h⟩ hK
    · obtain ⟨rfl, hn, c1, c2, c3⟩ := h
      have k1 := c1.cell
      have k2 := c2.cell
      have k3 := c3.cell
      have f1 := c1.frozen
      have f2 := c2.frozen
      have f3 := c3.frozen
      have ne12 : q1 ≠ q2 := by omega
      have ne21 : q2 ≠ q1 := by omega
      have ne13 : q1 ≠ q3 := by omega
      have ne31 : q3 ≠ q1 := by omega
      have ne23 : q2 ≠ q3 := by omega
      have ne32 : q3 ≠ q2 := by omega
      have z1 : w.heap.size ≤ q1 := by omega
      have z3 : q3 < D := by omega
      have z2 : w.heap.size ≤ q2 := by omega
      have z2' : w.heap.size ≤ q3 := by omega
      have zD : w.heap.size ≤ D := by omega
      have HN : Hid (readB note RL = none) := by
        show _ = _
        obtain ⟨t, ht⟩ := hp
        have h := hn t
        rw [ht] at h
        unfold readB
        rw [h]
      clear hq1 hq2 hq3 hq4 hq5 hsz hn
      gi_wp2
      have a1 := (c1.set (.string ⟨#[]⟩)).other ne12 (.slice none 0 0) |>.other ne13 (.int .i64 200)
      have a2 := ((c2.other ne21 (.string ⟨#[]⟩)).set (.slice none 0 0)).other ne23 (.int .i64 200)
      have a3 := ((c3.other ne31 (.string ⟨#[]⟩)).other ne32 (.slice none 0 0)).set (.int .i64 200)
      have hB2 := ((hB1.setCell (p := ⟨q1, 0, none⟩) z1 (.string ⟨#[]⟩)).setCell (p := ⟨q2, 0, none⟩) z2 (.slice none 0 0)).setCell (p := ⟨q3, 0, none⟩) z2' (.int .i64 200)
      have hK2 : (((W.setCell ⟨q1, 0, none⟩ (.string ⟨#[]⟩)).setCell ⟨q2, 0, none⟩ (.slice none 0 0)).setCell ⟨q3, 0, none⟩ (.int .i64 200)).heap[D]? = some (.deferred (some [])) := (KeepsOthers.setCell _ _ _).same D _ ((KeepsOthers.setCell _ _ _).same D _ ((KeepsOthers.setCell W ⟨q1, 0, none⟩ (.string ⟨#[]⟩)).same D _ hK rfl) rfl) rfl
      refine ⟨by simp, .inl ⟨_, _, rfl, run_takeDeferred hK2, ?_⟩⟩
      have e1 := fin3 hK2 a1.cell
      have e2 := fin3 hK2 a2.cell
      have e3 := fin3 hK2 a3.cell
      refine ⟨.tuple #[.string ⟨#[]⟩, .slice none 0 0, .int .i64 200], ?_, .inl ⟨HN.out, rfl⟩, hB2.trans (belowK_b (w := w) (Nat.le_refl _) _ D _ _ zD hK2 rfl rfl)⟩
      simp [results, Tryz.f19, go_sem, e1, e2, e3]
    · obtain ⟨rfl, p, acc, hn, r0, r1, r2, k1, k2, k3, hA⟩ := h
      have zD : w.heap.size ≤ D := by omega
      have HA : Hid (Ans note p acc r0 r1 r2 W) := hA
      have HN : Hid (readB note RL = if acc.length ≠ 0 ∧ goesB (note.extract 0 p) = true then some (note.extract 0 p, acc.reverse) else none) := by
        show _ = _
        obtain ⟨t, ht⟩ := hp
        have h := hn t
        rw [ht] at h
        unfold readB
        rw [h]
      clear hn hA hq1 hq2 hq3 hq4 hq5 hsz
      gi_wp2
      have e1 := fin3 hK k1
      have e2 := fin3 hK k2
      have e3 := fin3 hK k3
      refine ⟨by simp, .inl ⟨_, _, rfl, run_takeDeferred hK, ?_⟩⟩
      refine ⟨.tuple #[r0, r1, r2], by simp [results, Tryz.f19, go_sem, e1, e2, e3], ?_, hB1.trans (belowK_b (w := w) (Nat.le_refl _) _ D _ _ zD hK rfl rfl)⟩
      rcases HA.out with ⟨x1, x2, rfl, rfl, x5⟩ | ⟨x1, rfl, rfl, rfl⟩
      · exact .inr ⟨_, _, _, HN.out.trans (if_pos ⟨x1, x2⟩), rfl, reads_kept x5 (grownBy_putObj' _ D (.deferred none)) (fun r e => by cases e; exact ⟨_, hK, rfl⟩)⟩
      · exact .inl ⟨HN.out.trans (if_neg x1), rfl⟩
end Go.Proofs.YthdkbjbhjfiaiaaGreatDoor.q5
