import Derived.Test.YtofmkdagehehaaaGreatDoorB3
import Derived.Deep.QuietTactic
import Derived.Deep.AppendLies
import Derived.Deep.RegionLaw
import Derived.Test.YtofmkdagehehaaaGreatDoorA5
import Derived.Deep.RegionHeld3
import Derived.BigQuiet
namespace Go.Proofs.YtofmkdagehehaaaGreatDoor.eh
open Go.RowKit Go.PlainAid Go.Maps Go.Shelf
open Go.Proofs.YtofmkdagehehaaaGreatDoor.kp Go.Proofs.YtofmkdagehehaaaGreatDoor.ka Go.Proofs.YtofmkdagehehaaaGreatDoor.ya Go.Proofs.YtofmkdagehehaaaGreatDoor.yb Go.Proofs.YtofmkdagehehaaaGreatDoor.yc Go.Proofs.YtofmkdagehehaaaGreatDoor.yd Go.Proofs.YtofmkdagehehaaaGreatDoor.ye Go.Proofs.YtofmkdagehehaaaGreatDoor.yf Go.Proofs.YtofmkdagehehaaaGreatDoor.yg Go.Proofs.YtofmkdagehehaaaGreatDoor.yi Go.Proofs.YtofmkdagehehaaaGreatDoor.yj Go.Proofs.YtofmkdagehehaaaGreatDoor.yk Go.Proofs.YtofmkdagehehaaaGreatDoor.yl Go.Proofs.YtofmkdagehehaaaGreatDoor.ym
open Go.Proofs.YtofmkdagehehaaaGreatDoor.tqa Go.Proofs.YtofmkdagehehaaaGreatDoor.tba Go.Proofs.YtofmkdagehehaaaGreatDoor.tbb Go.Proofs.YtofmkdagehehaaaGreatDoor.tbc Go.Proofs.YtofmkdagehehaaaGreatDoor.tbd Go.Proofs.YtofmkdagehehaaaGreatDoor.tbe Go.Proofs.YtofmkdagehehaaaGreatDoor.tbf
open Go.Proofs.YtofmkdagehehaaaGreatDoor.tqb (over keyC keyNo kindT kindT_size spaceT spaceT_size key_is)
open Go.Proofs.YtofmkdagehehaaaGreatDoor.ea Go.Proofs.YtofmkdagehehaaaGreatDoor.eb Go.Proofs.YtofmkdagehehaaaGreatDoor.ec Go.Proofs.YtofmkdagehehaaaGreatDoor.ed Go.Proofs.YtofmkdagehehaaaGreatDoor.ee Go.Proofs.YtofmkdagehehaaaGreatDoor.ef Go.Proofs.YtofmkdagehehaaaGreatDoor.eg
set_option linter.unusedVariables false
set_option linter.unusedSimpArgs false
-- an engine in memory
def ecs (g : Nat) (lv : Value) (e : E) : Array Value := #[.pointer (some ⟨g, 0, none⟩), .int .i64 e.sp, .int .i64 e.age, .int .i64 e.wd, lv, .int .i64 e.nd]
structure OkE (e : E) : Prop where
  sp : okI e.sp
  wd : 1 ≤ e.wd ∧ e.wd ≤ 32
  len : e.l.length ≤ 1099511627776
  sz : ∀ x ∈ e.l, x.size ≤ 4096
structure En (ge g bn bd : Nat) (pv lv : Value) (s : S) (e : E) (w : World) : Prop where
  st : Sr 0 g bn bd pv s w
  row : w.heap[ge]? = some (.cells (ecs g lv e) 85 (0, 0))
  lr : w.ownsRow 0 9 1 lv e.l.length (e.l.map Value.string)
  ok : OkE e
def Ef (ge g bn bd : Nat) (pv lv : Value) (k : Nat) : Prop := Fr g bn bd pv k ∨ k = ge ∨ some k = lv.ownBlock
def Re (ge g bn bd : Nat) (pv lv : Value) (s : S) (e : E) (w w' : World) : Prop := ∃ pv' lv', En ge g bn bd pv' lv' s e w' ∧ Kp (Ef ge g bn bd pv lv) w w' ∧ ∀ k, Ef ge g bn bd pv' lv' k → Ef ge g bn bd pv lv k ∨ w.heap.size ≤ k
theorem own_zero {w : World} {B t z n : Nat} {v : Value} {xs : List Value} (o : w.ownsRow B t z v n xs) : w.ownsRow 0 t z v n xs := by
  refine ⟨o.1, ?_⟩
  rcases o.2 with h | ⟨g, cap, cur, e, hb, rest⟩
  · exact .inl h
  · exact .inr ⟨g, cap, cur, e, Nat.zero_le _, rest⟩
theorem sr_zero {B g bn bd : Nat} {pv : Value} {s : S} {w : World} (h : Sr B g bn bd pv s w) : Sr 0 g bn bd pv s w := ⟨h.row, h.mn, h.md, h.ne, own_zero h.pr, ⟨Nat.zero_le _, Nat.zero_le _, Nat.zero_le _⟩, h.ok⟩
section
variable {ge g bn bd : Nat} {pv lv : Value} {s : S} {e : E} {w w' : World}
theorem En.lt (h : En ge g bn bd pv lv s e w) : ∀ k, Ef ge g bn bd pv lv k → k < w.heap.size := by
  rintro k (h1 | h1 | h1)
  · exact (sr_in h.st k h1).1
  · rw [h1]; exact (Array.getElem?_eq_some_iff.1 h.row).1
  · exact (h.lr.lt _ h1.symm).2
theorem En.keep {A : Nat → Prop} (h : En ge g bn bd pv lv s e w) (k : Kp A w w') (hn : ∀ j, Ef ge g bn bd pv lv j → ¬ A j) : En ge g bn bd pv lv s e w' :=
  ⟨sr_keep h.st k (fun j hj => hn j (.inl hj)), (k.block _ (h.lt ge (.inr (.inl rfl))) (hn ge (.inr (.inl rfl)))).trans h.row, own_kp h.lr k (fun j hj => hn j (.inr (.inr hj))), h.ok⟩
theorem En.later (h : En ge g bn bd pv lv s e w) (b : Below w.heap.size w w') : En ge g bn bd pv lv s e w' := h.keep (Kp.of_below (A := fun _ => False) b) (fun _ _ e => e)
theorem Re.refl (h : En ge g bn bd pv lv s e w) : Re ge g bn bd pv lv s e w w := ⟨pv, lv, h, Kp.refl _ _, fun k hk => .inl hk⟩
theorem Re.later {s' : S} {e' : E} (h : En ge g bn bd pv lv s' e' w') (b : Below w.heap.size w w') : Re ge g bn bd pv lv s' e' w w' := ⟨pv, lv, h, Kp.of_below b, fun k hk => .inl hk⟩
theorem Re.pre {w1 : World} (b : Below w.heap.size w w1) (r : Re ge g bn bd pv lv s e w1 w') : Re ge g bn bd pv lv s e w w' := by
  obtain ⟨p, l, h, k, n⟩ := r
  exact ⟨p, l, h, (Kp.of_below b).trans k, fun j hj => (n j hj).imp id (fun x => Nat.le_trans b.size x)⟩
theorem Re.trans {s' : S} {e' : E} {w1 w2 : World} (r : Re ge g bn bd pv lv s e w w1) (q : ∀ p l, En ge g bn bd p l s e w1 → Re ge g bn bd p l s' e' w1 w2) : Re ge g bn bd pv lv s' e' w w2 := by
  obtain ⟨p1, l1, h1, k1, n1⟩ := r
  obtain ⟨p2, l2, h2, k2, n2⟩ := q p1 l1 h1
  refine ⟨p2, l2, h2, ⟨k2.os.trans k1.os, k2.tape.trans k1.tape, k2.output.trans k1.output, Nat.le_trans k1.size k2.size, fun j hj hn => ?_⟩, fun j hj => ?_⟩
  · refine (k2.block j (Nat.lt_of_lt_of_le hj k1.size) fun hf => ?_).trans (k1.block j hj hn)
    rcases n1 j hf with h | h
    · exact hn h
    · omega
  · rcases n2 j hj with h | h
    · exact n1 j h
    · exact .inr (Nat.le_trans k1.size h)
theorem Re.post {w1 : World} (r : Re ge g bn bd pv lv s e w w1) (b : Below w1.heap.size w1 w') : Re ge g bn bd pv lv s e w w' := r.trans (fun p l h => Re.later (h.later b) b)
theorem En.c0 (h : En ge g bn bd pv lv s e w) : w.cell? ⟨ge, 0, none⟩ = some (.pointer (some ⟨g, 0, none⟩)) := cell_of_row _ _ 0 _ _ _ h.row
theorem En.c1 (h : En ge g bn bd pv lv s e w) : w.cell? ⟨ge, 1, none⟩ = some (.int .i64 e.sp) := cell_of_row _ _ 1 _ _ _ h.row
theorem En.c2 (h : En ge g bn bd pv lv s e w) : w.cell? ⟨ge, 2, none⟩ = some (.int .i64 e.age) := cell_of_row _ _ 2 _ _ _ h.row
theorem En.c3 (h : En ge g bn bd pv lv s e w) : w.cell? ⟨ge, 3, none⟩ = some (.int .i64 e.wd) := cell_of_row _ _ 3 _ _ _ h.row
theorem En.c4 (h : En ge g bn bd pv lv s e w) : w.cell? ⟨ge, 4, none⟩ = some lv := cell_of_row _ _ 4 _ _ _ h.row
theorem En.c5 (h : En ge g bn bd pv lv s e w) : w.cell? ⟨ge, 5, none⟩ = some (.int .i64 e.nd) := cell_of_row _ _ 5 _ _ _ h.row
theorem En.fz (h : En ge g bn bd pv lv s e w) (i : Nat) : w.frozen? ⟨ge, i, none⟩ = false := frozen_of_row _ _ i _ _ h.row
theorem En.reads (h : En ge g bn bd pv lv s e w) : ReadsT w lv e.l := own_readsT h.lr
theorem En.form (h : En ge g bn bd pv lv s e w) : ∃ a c, lv = .slice a e.l.length c := own_formS h.lr
end
theorem eorNoneC (ge : Nat) (w : World) : Calls Tryz.prog 51 #[.pointer (some ⟨ge, 0, none⟩)] w fun e w' => e = .returned (.pointer (some ⟨ge, 0, none⟩)) ∧ w' = w := by
  go_enter Tryz.func51, Tryz.ntmps51
  go_wp2
  go_ret
  exact ⟨rfl, rfl⟩
theorem sizeC {ge g bn bd : Nat} {pv lv : Value} {s : S} {e : E} {w : World} (h : En ge g bn bd pv lv s e w) : Calls Tryz.prog 21 #[.pointer (some ⟨ge, 0, none⟩)] w fun r w' => r = .returned (.int .i64 (e.l.length : Nat)) ∧ w' = w := by
  obtain ⟨a, c, hf⟩ := h.form
  have c4 := h.c4
  rw [hf] at c4
  clear h hf
  go_enter Tryz.func21, Tryz.ntmps21
  go_wp2_with (go_at_call 51; refine (eorNoneC ge _).mono ?_; rintro _ _ ⟨rfl, hw⟩; rw [hw]; clear hw)
  go_ret
  exact ⟨rfl, rfl⟩
set_option maxHeartbeats 1600000 in
theorem askNo {ge g bn bd : Nat} {pv lv : Value} {s : S} {e : E} {w : World} (h : En ge g bn bd pv lv s e w) (hg : gone s e = true) (fv : Value) (a : Option Addr) (n c : Nat) (pl L I : Int) :
    Calls Tryz.prog 37 #[.pointer (some ⟨ge, 0, none⟩), fv, .agg #[.slice a n c, .int .i64 pl, .int .i64 L, .int .i64 I]] w fun r w' => r = .returned (.tuple #[.string ⟨#[]⟩, .int .i64 124]) ∧ Below w.heap.size w w' := by
  obtain ⟨W, HW⟩ : ∃ W, Hid (w.alloc (.cells #[.slice a n c, .int .i64 pl, .int .i64 L, .int .i64 I] 89) = W) := ⟨_, rfl⟩
  have bW : Below w.heap.size w W := by rw [← HW.out]; exact new1 _ _
  have BW : Hid (Below w.heap.size w W) := bW
  have h1 := h.later bW
  have c0 := h1.c0
  have c1 := h1.c1
  have c2 := h1.c2
  have CG : Hid (Calls _ _ _ _ _) := goneC e.sp e.age h1.st
  have HE : Hid ((s.off || decide ((s.age : Int) ≠ e.age)) = true) := by
    have := hg
    unfold gone at this
    show _ = _
    rw [← this]
    congr 1
    rw [decide_eq_decide]
    omega
  rw [HE.out] at CG
  clear h h1 bW hg
  go_enter Tryz.func37, Tryz.ntmps37
  go_upto_region 1 with fail
  rw [HW.out]
  go_wp2_with (first | (go_at_call 51; refine (eorNoneC ge _).mono ?_; rintro _ _ ⟨rfl, hw⟩; rw [hw]; clear hw) | (go_at_call 79; refine CG.out.mono ?_; rintro _ w2 ⟨rfl, b2⟩; have B2 : Hid (Below w.heap.size w w2) := over BW.out b2; clear b2) | go_in)
  go_ret2
  exact ⟨rfl, B2.out⟩
set_option maxHeartbeats 1600000 in
theorem askYes {ge g bn bd : Nat} {pv lv : Value} {s : S} {e : E} {w : World} (h : En ge g bn bd pv lv s e w) (hg : gone s e = false) (f : Nat) (hf : ∀ args w, (callFunc f args).run Tryz.prog w = .ok (.enter f args) w) (a : Option Addr) (n c : Nat) (pl L I : Int) (P : ByteArray → Int → World → Prop)
    (hD : ∀ w1, Below w.heap.size w w1 → Calls Tryz.prog f #[.pointer (some ⟨ge, 0, none⟩), .agg #[.slice a n c, .int .i64 pl, .int .i64 L, .int .i64 I]] w1 fun r w' => ∃ t x, r = .returned (.tuple #[.string t, .int .i64 x]) ∧ P t x w') :
    Calls Tryz.prog 37 #[.pointer (some ⟨ge, 0, none⟩), .func (.func f) #[.pointer (some ⟨ge, 0, none⟩)] #[], .agg #[.slice a n c, .int .i64 pl, .int .i64 L, .int .i64 I]] w fun r w' => ∃ t x, r = .returned (.tuple #[.string t, .int .i64 x]) ∧ P t x w' := by
  obtain ⟨W, HW⟩ : ∃ W, Hid (w.alloc (.cells #[.slice a n c, .int .i64 pl, .int .i64 L, .int .i64 I] 89) = W) := ⟨_, rfl⟩
  have bW : Below w.heap.size w W := by rw [← HW.out]; exact new1 _ _
  have hz : W.heap[w.heap.size]? = some (.cells #[.slice a n c, .int .i64 pl, .int .i64 L, .int .i64 I] 89) := by rw [← HW.out]; exact heap_alloc_new w _
  have hzl := (Array.getElem?_eq_some_iff.1 hz).1
  have BW : Hid (Below w.heap.size w W) := bW
  have h1 := h.later bW
  have c0 := h1.c0
  have c1 := h1.c1
  have c2 := h1.c2
  have CG : Hid (Calls _ _ _ _ _) := goneC e.sp e.age h1.st
  have HC : Hid (∀ w1, Below W.heap.size W w1 → (w1.cell? ⟨w.heap.size, 0, none⟩ = some (.slice a n c) ∧ w1.cell? ⟨w.heap.size, 1, none⟩ = some (.int .i64 pl) ∧ w1.cell? ⟨w.heap.size, 2, none⟩ = some (.int .i64 L) ∧ w1.cell? ⟨w.heap.size, 3, none⟩ = some (.int .i64 I))) := fun w1 hb => by
    have e := (hb.block _ hzl).trans hz
    exact ⟨cell_of_row _ _ 0 _ _ _ e, cell_of_row _ _ 1 _ _ _ e, cell_of_row _ _ 2 _ _ _ e, cell_of_row _ _ 3 _ _ _ e⟩
  have HD : Hid (∀ w1, Below w.heap.size w w1 → Calls _ _ _ _ _) := hD
  have HE : Hid ((s.off || decide ((s.age : Int) ≠ e.age)) = false) := by
    have := hg
    unfold gone at this
    show _ = _
    rw [← this]
    congr 1
    rw [decide_eq_decide]
    omega
  rw [HE.out] at CG
  clear h h1 bW hg hD hz hzl
  go_enter Tryz.func37, Tryz.ntmps37
  go_upto_region 1 with fail
  rw [HW.out]
  go_upto_region 3 with (first | (go_at_call 51; refine (eorNoneC ge _).mono ?_; rintro _ _ ⟨rfl, hw⟩; rw [hw]; clear hw) | (go_at_call 79; refine CG.out.mono ?_; rintro _ w2 ⟨rfl, b2⟩; have B2 : Hid (Below w.heap.size w w2) := over BW.out b2; have C2 : Hid _ := HC.out w2 b2; clear b2) | go_in)
  obtain ⟨d0, d1, d2, d3⟩ := C2.out
  go_wp2_with fail
  refine (HD.out w2 B2.out).mono ?_
  rintro _ w3 ⟨t, x, rfl, hp⟩
  have HPP : Hid (P t x w3) := hp
  clear hp
  go_wp2
  go_ret2
  exact ⟨t, x, rfl, HPP.out⟩
end Go.Proofs.YtofmkdagehehaaaGreatDoor.eh

namespace Go.Proofs.YtofmkdagehehaaaGreatDoor.eh
open Go.RowKit Go.PlainAid Go.Maps Go.Shelf
open Go.Proofs.YtofmkdagehehaaaGreatDoor.kp Go.Proofs.YtofmkdagehehaaaGreatDoor.ka Go.Proofs.YtofmkdagehehaaaGreatDoor.ya Go.Proofs.YtofmkdagehehaaaGreatDoor.yb Go.Proofs.YtofmkdagehehaaaGreatDoor.yc Go.Proofs.YtofmkdagehehaaaGreatDoor.yd Go.Proofs.YtofmkdagehehaaaGreatDoor.ye Go.Proofs.YtofmkdagehehaaaGreatDoor.yf Go.Proofs.YtofmkdagehehaaaGreatDoor.yg Go.Proofs.YtofmkdagehehaaaGreatDoor.yi Go.Proofs.YtofmkdagehehaaaGreatDoor.yj Go.Proofs.YtofmkdagehehaaaGreatDoor.yk Go.Proofs.YtofmkdagehehaaaGreatDoor.yl Go.Proofs.YtofmkdagehehaaaGreatDoor.ym
open Go.Proofs.YtofmkdagehehaaaGreatDoor.tqa Go.Proofs.YtofmkdagehehaaaGreatDoor.tba Go.Proofs.YtofmkdagehehaaaGreatDoor.tbb Go.Proofs.YtofmkdagehehaaaGreatDoor.tbc Go.Proofs.YtofmkdagehehaaaGreatDoor.tbd Go.Proofs.YtofmkdagehehaaaGreatDoor.tbe Go.Proofs.YtofmkdagehehaaaGreatDoor.tbf
open Go.Proofs.YtofmkdagehehaaaGreatDoor.tqb (over keyC keyNo kindT kindT_size spaceT spaceT_size key_is)
open Go.Proofs.YtofmkdagehehaaaGreatDoor.ea Go.Proofs.YtofmkdagehehaaaGreatDoor.eb Go.Proofs.YtofmkdagehehaaaGreatDoor.ec Go.Proofs.YtofmkdagehehaaaGreatDoor.ed Go.Proofs.YtofmkdagehehaaaGreatDoor.ee Go.Proofs.YtofmkdagehehaaaGreatDoor.ef Go.Proofs.YtofmkdagehehaaaGreatDoor.eg Go.Proofs.YtofmkdagehehaaaGreatDoor.eh
set_option linter.unusedVariables false
set_option linter.unusedSimpArgs false
section
variable {ge g bn bd : Nat} {pv lv : Value} {s : S} {e : E} {w w' : World}
theorem fr_ge (h : Sr 0 g bn bd pv s w) {cur : Array Value} {f : Nat × Nat} (hr : w.heap[ge]? = some (.cells cur 85 f)) : ¬ Fr g bn bd pv ge := by
  rintro (e | e | e | e)
  · subst e
    have := h.row
    unfold St at this
    rw [this] at hr
    injection hr with hr
    injection hr with _ hr _
    exact absurd hr (by decide)
  · exact h.mn.ne hr e.symm
  · exact h.md.ne hr e.symm
  · exact own_tag h.pr hr (by decide) e
theorem En.nge (h : En ge g bn bd pv lv s e w) : ¬ Fr g bn bd pv ge := fr_ge h.st h.row
theorem En.nlv (h : En ge g bn bd pv lv s e w) : ∀ j, Fr g bn bd pv j → some j ≠ lv.ownBlock := row_apart (by decide) (by decide) h.st h.lr
theorem En.glv (h : En ge g bn bd pv lv s e w) : some ge ≠ lv.ownBlock := own_tag h.lr h.row (by decide)
-- the store turned, the engine as it was
theorem En.rn {s' : S} (h : En ge g bn bd pv lv s e w) (r : Rn 0 g bn bd pv s' w w') : Re ge g bn bd pv lv s' e w w' := by
  obtain ⟨p, h1, k, n⟩ := r
  refine ⟨p, lv, ⟨h1, (k.block _ (h.lt ge (.inr (.inl rfl))) h.nge).trans h.row, own_kp h.lr k (fun j hj hf => h.nlv j hf hj), h.ok⟩, k.mono (fun j hj => .inl hj), ?_⟩
  rintro j ((hj | hj | hj | hj) | hj | hj)
  · exact .inl (.inl (.inl hj))
  · exact .inl (.inl (.inr (.inl hj)))
  · exact .inl (.inl (.inr (.inr (.inl hj))))
  · rcases n j hj with h2 | h2
    · exact .inl (.inl (.inr (.inr (.inr h2))))
    · exact .inr h2
  · exact .inl (.inr (.inl hj))
  · exact .inl (.inr (.inr hj))
theorem ecs_set4 (g : Nat) (lv v : Value) (e : E) (l : List ByteArray) : (ecs g lv e).setIfInBounds 4 v = ecs g v { e with l := l } := rfl
theorem ecs_set5 (g : Nat) (lv : Value) (e : E) (n : Int) : (ecs g lv e).setIfInBounds 5 (.int .i64 n) = ecs g lv { e with nd := n } := rfl
theorem En.grow {w5 : World} {o : Obj} {x : ByteArray} {g5 c5 H : Nat} (h : En ge g bn bd pv lv s e w) (hx : x.size ≤ 4096) (hl : e.l.length + 1 ≤ 1099511627776)
    (ho : w5.ownsRow 0 9 1 (.slice (some ⟨g5, 0, none⟩) (e.l.length + 1) c5) (e.l.length + 1) (e.l.map Value.string ++ [.string x])) (hg : (w.alloc o).grownBy w5 lv.ownBlock) (hlies : lv.ownBlock = some g5 ∨ g5 = H) (hH : w.heap.size ≤ H) :
    Re ge g bn bd pv lv s { e with l := e.l ++ [x] } w (w5.setCell ⟨ge, 4, none⟩ (.slice (some ⟨g5, 0, none⟩) (e.l.length + 1) c5)) ∧ w5.cell? ⟨ge, 4, none⟩ = some lv ∧ w5.frozen? ⟨ge, 4, none⟩ = false := by
  have b1 := new1 w o
  have h1 := h.later b1
  have k2 : Kp (fun k => some k = lv.ownBlock) (w.alloc o) w5 := ⟨hg.os, hg.tape, hg.output, hg.size, fun j hj hn => hg.block j hj (fun e => hn e)⟩
  have hs5 : Sr 0 g bn bd pv s w5 := sr_keep h1.st k2 (fun j hj => h1.nlv j hj)
  have hr5 : w5.heap[ge]? = some (.cells (ecs g lv e) 85 (0, 0)) := (k2.block _ (h1.lt ge (.inr (.inl rfl))) h1.glv).trans h1.row
  have k3 : Kp (fun k => k = ge) w5 (w5.setCell ⟨ge, 4, none⟩ (.slice (some ⟨g5, 0, none⟩) (e.l.length + 1) c5)) := Kp.setCell _ _ _ _ rfl
  have hr6 := heap_setCell_same _ _ 4 _ _ (.slice (some ⟨g5, 0, none⟩) (e.l.length + 1) c5) hr5
  refine ⟨⟨pv, .slice (some ⟨g5, 0, none⟩) (e.l.length + 1) c5, ⟨sr_keep hs5 k3 (fun j hj e => by subst e; exact fr_ge hs5 hr5 hj), hr6, ?_, ?_⟩, ?_, ?_⟩, cell_of_row _ _ 4 _ _ _ hr5, frozen_of_row _ _ 4 _ _ hr5⟩
  · show World.ownsRow _ _ _ _ _ (e.l ++ [x]).length ((e.l ++ [x]).map Value.string)
    rw [List.length_append, List.map_append]
    exact own_kp ho k3 (fun j hj e => by subst e; exact own_tag ho hr5 (by decide) hj)
  · exact ⟨h.ok.sp, h.ok.wd, by show (e.l ++ [x]).length ≤ _; rw [List.length_append]; simpa using hl, fun y hy => by
      rcases List.mem_append.1 hy with hy | hy
      · exact h.ok.sz y hy
      · rw [List.mem_singleton.1 hy]; exact hx⟩
  · refine ((Kp.of_below b1).trans (k2.mono fun k hk => .inr (.inr hk))).trans (k3.mono fun k hk => .inr (.inl hk))
  · rintro k (hk | hk | hk)
    · exact .inl (.inl hk)
    · exact .inl (.inr (.inl hk))
    · have hk : k = g5 := Option.some.inj hk
      subst hk
      rcases hlies with h2 | h2
      · exact .inl (.inr (.inr h2.symm))
      · exact .inr (by omega)
theorem En.drew (h : En ge g bn bd pv lv s e w) : En ge g bn bd pv lv s e w.drew := h.later (to_drew (Below.refl _ _))
end
end Go.Proofs.YtofmkdagehehaaaGreatDoor.eh
namespace Go.Proofs.YtofmkdagehehaaaGreatDoor.ei
open Go.RowKit Go.PlainAid Go.Maps Go.Shelf
open Go.Proofs.YtofmkdagehehaaaGreatDoor.kp Go.Proofs.YtofmkdagehehaaaGreatDoor.ka Go.Proofs.YtofmkdagehehaaaGreatDoor.ya Go.Proofs.YtofmkdagehehaaaGreatDoor.yb Go.Proofs.YtofmkdagehehaaaGreatDoor.yc Go.Proofs.YtofmkdagehehaaaGreatDoor.yd Go.Proofs.YtofmkdagehehaaaGreatDoor.ye Go.Proofs.YtofmkdagehehaaaGreatDoor.yf Go.Proofs.YtofmkdagehehaaaGreatDoor.yg Go.Proofs.YtofmkdagehehaaaGreatDoor.yi Go.Proofs.YtofmkdagehehaaaGreatDoor.yj Go.Proofs.YtofmkdagehehaaaGreatDoor.yk Go.Proofs.YtofmkdagehehaaaGreatDoor.yl Go.Proofs.YtofmkdagehehaaaGreatDoor.ym
open Go.Proofs.YtofmkdagehehaaaGreatDoor.tqa Go.Proofs.YtofmkdagehehaaaGreatDoor.tba Go.Proofs.YtofmkdagehehaaaGreatDoor.tbb Go.Proofs.YtofmkdagehehaaaGreatDoor.tbc Go.Proofs.YtofmkdagehehaaaGreatDoor.tbd Go.Proofs.YtofmkdagehehaaaGreatDoor.tbe Go.Proofs.YtofmkdagehehaaaGreatDoor.tbf
open Go.Proofs.YtofmkdagehehaaaGreatDoor.tqb (over keyC keyNo kindT kindT_size spaceT spaceT_size key_is)
open Go.Proofs.YtofmkdagehehaaaGreatDoor.ea Go.Proofs.YtofmkdagehehaaaGreatDoor.eb Go.Proofs.YtofmkdagehehaaaGreatDoor.ec Go.Proofs.YtofmkdagehehaaaGreatDoor.ed Go.Proofs.YtofmkdagehehaaaGreatDoor.ee Go.Proofs.YtofmkdagehehaaaGreatDoor.ef Go.Proofs.YtofmkdagehehaaaGreatDoor.eg Go.Proofs.YtofmkdagehehaaaGreatDoor.eh
set_option linter.unusedVariables false
set_option linter.unusedSimpArgs false
theorem step_clone {ops : Array Oper} {o : Oper} {a : Act} {w : World} {K : Act → World → Prop} {Q : Exit → Act → World → Prop} {E : Prop} (hg : o.guard = none) (k d : Nat)
    (hop : o.op = .call { callee := .value (.func 84), args := #[.tmp k], argTypes := #[9] }) (hd : o.dst = some d) (x : ByteArray)
    (hy : a.tmps[k]?.getD undef = .string x) (hx : x.size ≤ 140737488355328)
    (hK : ∀ w', Below w.heap.size w w' → K { tmps := a.tmps.setIfInBounds d (.string x), defers := a.defers } w') :
    if Region.wanted o (yielded ops a.tmps) = true then Oper.wp Tryz.prog o a w K Q else E := by
  have hw : Region.wanted o (yielded ops a.tmps) = true := by simp [Region.wanted, hg]
  rw [if_pos hw]
  have C := cloneC x w hx
  have HKK : Hid _ := hK
  clear hK
  unfold Oper.wp execOp
  simp only [hop]
  go_simp
  refine C.mono ?_
  rintro e w' ⟨rfl, h1⟩
  exact HKK.out _ h1
def addS (s : S) (e : E) (xs : List ByteArray) : Int × S × E :=
  if batchE xs e.l.length ≠ 0 then (batchE xs e.l.length, s, e)
  else if fitU (now s) e.sp e.l.length xs (tot (now s)) ≤ s.cap then
    (if (putsS e.sp e.l.length xs s).1 = 0 then (0, (putsS e.sp e.l.length xs s).2, { e with l := e.l ++ xs }) else ((putsS e.sp e.l.length xs s).1, (putsS e.sp e.l.length xs s).2, e))
  else (122, s, e)
theorem app_is (s : S) (e : E) (xs : List ByteArray) : appS s e xs = if gone s e then (124, s, e) else addS s e xs := rfl
set_option maxRecDepth 100000 in
set_option maxHeartbeats 12800000 in
theorem addC {ge g bn bd : Nat} {pv lv : Value} {s : S} {e : E} {w : World} (h : En ge g bn bd pv lv s e w) (ho : s.off = false) (a : Option Addr) (c : Nat) (xs : List ByteArray) (m : Nat) (HM : Hid (xs.length = m)) (hR : ReadsT w (.slice a m c) xs) (hv : ∀ k, (Value.slice a m c).ownBlock = some k → xs ≠ [] → ¬ Ef ge g bn bd pv lv k) (hxl : m ≤ 4611686018427387904) (hl : s.dur.length + s.pend.length + 1024 < 3518437208883) (hel : e.l.length + 1024 ≤ 1099511627776) :
    Calls Tryz.prog 38 #[.pointer (some ⟨ge, 0, none⟩), .agg #[.slice a m c, .int .i64 0, .int .i64 0, .int .i64 0]] w fun r w' => ∃ t x, r = .returned (.tuple #[.string t, .int .i64 x]) ∧ (t = ⟨#[]⟩ ∧ x = (addS s e xs).1 ∧ Re ge g bn bd pv lv (addS s e xs).2.1 (addS s e xs).2.2 w w') := by
  obtain ⟨la, lc, hlf⟩ := h.form
  subst hlf
  obtain ⟨W, HW⟩ : ∃ W, Hid (w.alloc (.cells #[.slice a m c, .int .i64 0, .int .i64 0, .int .i64 0] 89) = W) := ⟨_, rfl⟩
  have bW : Below w.heap.size w W := by rw [← HW.out]; exact new1 _ _
  have hz : W.heap[w.heap.size]? = some (.cells #[.slice a m c, .int .i64 0, .int .i64 0, .int .i64 0] 89) := by rw [← HW.out]; exact heap_alloc_new w _
  have hzl := (Array.getElem?_eq_some_iff.1 hz).1
  have BW : Hid (Below w.heap.size w W) := bW
  have HE : Hid (∀ w1, Below w.heap.size w w1 → En ge g bn bd pv (.slice la e.l.length lc) s e w1) := fun w1 b => h.later b
  have HRD : Hid (∀ w1, Below w.heap.size w w1 → ReadsT w1 (.slice a m c) xs) := fun w1 b => hR.later b
  have HQ : Hid (∀ w1, Below W.heap.size W w1 → w1.cell? ⟨w.heap.size, 0, none⟩ = some (.slice a m c)) := fun w1 b => cell_of_row _ _ 0 _ _ _ ((b.block _ hzl).trans hz)
  -- what lies beside the engine stays
  have HQ2 : Hid (∀ w1 w2 s' e', Below W.heap.size W w1 → Re ge g bn bd pv (.slice la e.l.length lc) s' e' w1 w2 → w2.cell? ⟨w.heap.size, 0, none⟩ = some (.slice a m c) ∧ ReadsT w2 (.slice a m c) xs) := fun w1 w2 s' e' b r => by
    obtain ⟨_, _, _, k, _⟩ := r
    refine ⟨k.cell (HQ.out w1 b) (fun hf => by have := h.lt _ hf; omega), ?_⟩
    obtain ⟨a', c', e', hc', h0 | ⟨lb, lo, e4, hh⟩⟩ := HRD.out w1 (over bW b)
    · exact ⟨a', c', e', hc', .inl h0⟩
    · refine ⟨a', c', e', hc', ?_⟩
      by_cases hx0 : xs.length = 0
      · exact .inl hx0
      · refine .inr ⟨lb, lo, e4, fun i hi => k.cell (hh i hi) (hv lb ?_ (fun e => hx0 (by rw [e]; rfl)))⟩
        injection e' with e1 _ _
        rw [e1, e4]; rfl
  have CB : Hid (∀ n, Calls _ _ _ _ _) := fun n => batchC (.slice a m c) xs e.l.length (W.drewN n) (HRD.out _ (below_dN bW n)) (by rw [HM.out]; exact hxl) (by omega)
  have HBN : Hid (∀ n, Below W.heap.size W (W.drewN n)) := fun n => below_dN (Below.refl _ _) n
  have q0 := HQ.out W (Below.refl _ _)
  have e4 := (HE.out W bW).c4
  have hel' : (e.l.length : Int) ≤ 1099511627776 := by omega
  have HOK : Hid (OkE e) := h.ok
  unfold addS
  obtain ⟨be, HBE⟩ : ∃ be, Hid (batchE xs e.l.length = be) := ⟨_, rfl⟩
  rw [HBE.out] at CB ⊢
  have HEL : Hid (e.l.length + 1024 ≤ 1099511627776) := hel
  have HL : Hid (s.dur.length + s.pend.length + 1024 < 3518437208883) := hl
  by_cases hbe : be = 0
  · subst hbe
    obtain ⟨b1, b2, b3, b4⟩ := batch_ok HBE.out
    rw [if_neg (by simp)]
    have CRC : Hid (∀ w1, Below w.heap.size w w1 → Calls _ _ _ _ _) := fun w1 b => recordsC ge la e.l.length lc (.slice a m c) xs w1 (HE.out w1 b).c4 (HRD.out w1 b) b2 (by omega)
    have CF : Hid (∀ w1 q, Below w.heap.size w w1 → RKb w1 q e.l.length xs → Calls _ _ _ _ _) := fun w1 q b hr => fitsC e.sp e.age e.l.length q m xs (HE.out w1 b).st HOK.out.sp ho hr b3 b2 b4
    have CP : Hid (∀ w1 q, Below w.heap.size w w1 → RKb w1 q e.l.length xs → w.heap.size ≤ q → Calls _ _ _ _ _) := fun w1 q b hr hq => kputC e.sp e.age e.l.length q m xs (HE.out w1 b).st HOK.out.sp hr (fun hf => by have := h.lt _ (.inl hf); omega) b2 b4 (by have := HL.out; omega) (Nat.zero_le _)
    rw [HM.out] at CRC CF CP
    have HB3 : Hid _ := b3
    have hm2 : m ≤ 1024 := by rw [← HM.out]; exact b2
    obtain ⟨fu, HFU⟩ : ∃ fu, Hid (fitU (now s) e.sp e.l.length xs (tot (now s)) = fu) := ⟨_, rfl⟩
    rw [HFU.out] at CF ⊢
    obtain ⟨R, HR⟩ : ∃ R, Hid (putsS e.sp e.l.length xs s = R) := ⟨_, rfl⟩
    rw [HR.out] at CP ⊢
    clear h hR hv bW hz hzl b1 b2 b3 b4 hl hel
    by_cases hf : fu ≤ s.cap
    · rw [if_pos hf]
      have hfd : decide (fu ≤ s.cap) = true := decide_eq_true hf
      rw [hfd] at CF
      clear hf hfd
      obtain ⟨re, s1⟩ := R
      by_cases hre : re = 0
      · subst hre
        rw [if_pos rfl]
        go_enter Tryz.func38, Tryz.ntmps38
        go_upto_region 1 with fail
        rw [HW.out]
        go_quiet (first | (go_at_call 80; exact Calls.quiet_of_same (CB.out _)))
        obtain ⟨W1, HW1⟩ : ∃ W1, Hid (W.drewN nq = W1) := ⟨_, rfl⟩
        rw [HW1.out]
        have B1 : Hid (Below W.heap.size W W1) := by rw [← HW1.out]; exact HBN.out _
        have q1 := HQ.out W1 B1.out
        have C4 : Hid (Calls _ _ _ _ _) := CRC.out W1 (over BW.out B1.out)
        go_upto_region 5 with (first | (go_at_call 81; refine C4.out.mono ?_; rintro _ w2 ⟨rfl, r2, b2⟩; have R2 : Hid (RKb w2 W1.heap.size e.l.length xs) := r2; have B2 : Hid (Below W.heap.size W w2) := over B1.out b2; clear r2 b2) | go_in)
        have HLQ : Hid (w.heap.size ≤ W1.heap.size) := (over BW.out B1.out).size
        have E2 := HE.out w2 (over BW.out B2.out)
        have c20 := E2.c0
        have c21 := E2.c1
        have c22 := E2.c2
        have C5 : Hid (Calls _ _ _ _ _) := CF.out w2 _ (over BW.out B2.out) R2.out
        clear E2
        go_upto_region 7 with (first | (go_at_call 82; refine C5.out.mono ?_; rintro _ w3 ⟨rfl, b3⟩; have R3 : Hid (RKb w3 W1.heap.size e.l.length xs) := R2.out.later b3; have B3 : Hid (Below W.heap.size W w3) := over B2.out b3; clear b3) | go_in)
        have E3 : Hid _ := HE.out w3 (over BW.out B3.out)
        have c30 := E3.out.c0
        have c31 := E3.out.c1
        have c32 := E3.out.c2
        have C6 : Hid (Calls _ _ _ _ _) := CP.out w3 _ (over BW.out B3.out) R3.out HLQ.out
        go_upto_region 10 with (first | (go_at_call 83; refine C6.out.mono ?_; rintro _ w4 ⟨rfl, r4⟩; have E4 : Hid (Re ge g bn bd pv (.slice la e.l.length lc) s1 e w3 w4) := E3.out.rn r4; clear r4) | go_in)
        have q4 := (HQ2.out w3 w4 s1 e B3.out E4.out).1
        go_wp2_with fail
        go_loopw [45] (fun iv wr => ∃ i : Nat, i ≤ m ∧ iv = .int .i64 i ∧ Hid (Re ge g bn bd pv (.slice la e.l.length lc) s1 { e with l := e.l ++ xs.take i } w3 wr)) (fun iv _ => (m - intOf iv).toNat)
        case atStart => exact ⟨0, Nat.zero_le _, rfl, (by show Re _ _ _ _ _ _ _ _ _ _; rw [List.take_zero, List.append_nil]; exact E4.out)⟩
        case round =>
          obtain ⟨i, hi, rfl, HH⟩ := hrel
          by_cases hlt : i < m
          · have hlt' : (i : Int) < m := by omega
            have hix : i < xs.length := by rw [HM.out]; exact hlt
            obtain ⟨x, hxx⟩ : ∃ x, xs[i]? = some x := ⟨_, List.getElem?_eq_getElem hix⟩
            have hxz : x.size ≤ 4096 := HB3.out x (List.mem_of_getElem? hxx)
            obtain ⟨b, off, rfl, hc⟩ : ∃ b off, a = some ⟨b, off, none⟩ ∧ wr.cell? ⟨b, off + i, none⟩ = some (.string x) := by
              obtain ⟨a', cap', e', _, h0 | ⟨b, off, e4, hh⟩⟩ := (HQ2.out w3 wr _ _ B3.out HH.out).2
              · omega
              · injection e' with e1 _ _
                refine ⟨b, off, by rw [e1]; exact e4, ?_⟩
                rw [hh i hix, List.getD, hxx]; rfl
            obtain ⟨pv', lv', hE, hk, hnn⟩ := HH.out
            obtain ⟨n, HN⟩ : ∃ n, Hid ((e.l ++ xs.take i).length = n) := ⟨_, rfl⟩
            have hln : n + 1 ≤ 1099511627776 := by
              have h1 := HN.out
              rw [List.length_append, List.length_take] at h1
              have := HEL.out
              omega
            have HE5 : Hid (En ge g bn bd pv' lv' s1 { e with l := e.l ++ xs.take i } wr) := hE
            have HTK : Hid (xs.take (i + 1) = xs.take i ++ [x]) := by show _ = _; rw [List.take_add_one, hxx]; rfl
            obtain ⟨i9, hi9', hz0, hz1, hz2⟩ := info_parts hi9
            have HIN : Hid (_ ∧ _ ∧ _ ∧ _) := ⟨hi9', hz0, hz1, hz2⟩
            have d4 := hE.c4
            have f4 := hE.fz 4
            have FK : Hid (∀ w4, Below wr.drew.heap.size wr.drew w4 → En ge g bn bd pv' lv' s1 { e with l := e.l ++ xs.take i } w4 ∧ Below wr.heap.size wr w4) := fun w4 b4 => ⟨HE5.out.later (of_drew b4), of_drew b4⟩
            have OWN : Hid (∀ w4, En ge g bn bd pv' lv' s1 { e with l := e.l ++ xs.take i } w4 → w4.ownsRow 0 9 1 lv' n ((e.l ++ xs.take i).map Value.string)) := fun w4 h4 => by
              have h5 := h4.lr
              rw [show ({ e with l := e.l ++ xs.take i } : E).l = e.l ++ xs.take i from rfl, HN.out] at h5
              exact h5
            have DONE : Hid (∀ w4 w5 o g5 c5 H, En ge g bn bd pv' lv' s1 { e with l := e.l ++ xs.take i } w4 → Below wr.heap.size wr w4 → w5.ownsRow 0 9 1 (.slice (some ⟨g5, 0, none⟩) (n + 1) c5) (n + 1) ((e.l ++ xs.take i).map Value.string ++ [.string x]) → (w4.alloc o).grownBy w5 lv'.ownBlock → (lv'.ownBlock = some g5 ∨ g5 = H) → w4.heap.size ≤ H → Re ge g bn bd pv (.slice la e.l.length lc) s1 { e with l := e.l ++ xs.take (i + 1) } w3 (w5.setCell ⟨ge, 4, none⟩ (.slice (some ⟨g5, 0, none⟩) (n + 1) c5)) ∧ w5.cell? ⟨ge, 4, none⟩ = some lv' ∧ w5.frozen? ⟨ge, 4, none⟩ = false) := fun w4 w5 o g5 c5 H h4 b4 ho5 hg5 hl5 hH => by
              have key := h4.grow hxz (by rw [show ({ e with l := e.l ++ xs.take i } : E).l = e.l ++ xs.take i from rfl, HN.out]; exact hln) (by rw [show ({ e with l := e.l ++ xs.take i } : E).l = e.l ++ xs.take i from rfl, HN.out]; exact ho5) hg5 hl5 hH
              rw [show ({ e with l := e.l ++ xs.take i } : E).l = e.l ++ xs.take i from rfl, HN.out] at key
              refine ⟨HH.out.trans (fun p l hpl => ?_), key.2⟩
              have e1 : pv' = p := by have a1 := HE5.out.st.row.c2; have a2 := hpl.st.row.c2; rw [a1] at a2; exact Option.some.inj a2
              have e2 : lv' = l := by have a1 := HE5.out.c4; have a2 := hpl.c4; rw [a1] at a2; exact Option.some.inj a2
              subst e1 e2
              have := Re.pre b4 key.1
              rw [HTK.out, ← List.append_assoc]
              exact this
            clear hxx hE hk hnn hi9' hz0 hz1 hz2
            go_upto_region 13 with fail
            go_region_law ((first | (have zz := FK.out; refine step_clone (by rfl) 54 55 (by rfl) (by rfl) x (by simp [Act.put]) (by omega) ?_; intro w4 b4; have F4 : Hid _ := FK.out w4 b4; have d5 := F4.out.1.c4; have f5 := F4.out.1.fz 4; have d6 : (w4.alloc (.cells #[.string x] 9)).cell? ⟨ge, 4, none⟩ = some lv' := (F4.out.1.later (new1 _ _)).c4; clear b4 zz FK) | (have oo := OWN.out w4 F4.out.1; refine step_append_lies _ (by rfl) (.tmp 53) (.tmp 56) 22 (by rfl) 0 9 i9 (.string ByteArray.empty) 1 16 Tryz.underlying22 HIN.out.1 HIN.out.2.1 HIN.out.2.2.1 HIN.out.2.2.2 rfl (by decide) lv' n _ (by simp [Act.eval]) (oo.alloc _) ⟨w4.heap.size, 0, none⟩ 1 1 [.string x] (by simp [Act.eval]) rfl (new_text _ _ _) (one_text _) (by omega) (by unfold maxLen; omega) (by omega) (Nat.zero_le _) _ rfl ?_; intro g5 c5 w5 ho5 hg5 hl5 hlt5; have D5 : Hid _ := DONE.out w4 w5 _ g5 c5 _ F4.out.1 F4.out.2 ho5 hg5 hl5 (by simp); have d7 := D5.out.2.1; have f7 := D5.out.2.2; clear ho5 hg5 hl5 oo)))
            all_goals (
              have D6 : Hid _ := D5.out.1
              obtain ⟨w6, HW6⟩ : ∃ w6, Hid (w6 = w5.setCell ⟨ge, 4, none⟩ (.slice (some ⟨g5, 0, none⟩) (n + 1) c5)) := ⟨_, rfl⟩
              rw [← HW6.out] at D6 ⊢
              go_wp2
              go_roundw
              case rel => exact ⟨i + 1, by omega, by go_num, D6.out⟩
              case measure => simp [intOf]; omega)
          · have hlt' : ¬ (i : Int) < m := by omega
            obtain rfl : i = m := by omega
            have H9 : Hid (Re ge g bn bd pv (.slice la e.l.length lc) s1 { e with l := e.l ++ xs } w3 wr) := by
              have := HH.out
              rw [← HM.out, List.take_length] at this
              exact this
            go_wp2
            go_ret2
            exact ⟨_, _, rfl, rfl, rfl, Re.pre (over BW.out B3.out) H9.out⟩
      · have hre' : (re != 0) = true := by rw [bne_iff_ne]; exact hre
        rw [if_neg hre]
        clear hre
        go_enter Tryz.func38, Tryz.ntmps38
        go_upto_region 1 with fail
        rw [HW.out]
        go_quiet (first | (go_at_call 80; exact Calls.quiet_of_same (CB.out _)))
        obtain ⟨W1, HW1⟩ : ∃ W1, Hid (W.drewN nq = W1) := ⟨_, rfl⟩
        rw [HW1.out]
        have B1 : Hid (Below W.heap.size W W1) := by rw [← HW1.out]; exact HBN.out _
        have q1 := HQ.out W1 B1.out
        have C4 : Hid (Calls _ _ _ _ _) := CRC.out W1 (over BW.out B1.out)
        go_upto_region 5 with (first | (go_at_call 81; refine C4.out.mono ?_; rintro _ w2 ⟨rfl, r2, b2⟩; have R2 : Hid (RKb w2 W1.heap.size e.l.length xs) := r2; have B2 : Hid (Below W.heap.size W w2) := over B1.out b2; clear r2 b2) | go_in)
        have HLQ : Hid (w.heap.size ≤ W1.heap.size) := (over BW.out B1.out).size
        have E2 := HE.out w2 (over BW.out B2.out)
        have c20 := E2.c0
        have c21 := E2.c1
        have c22 := E2.c2
        have C5 : Hid (Calls _ _ _ _ _) := CF.out w2 _ (over BW.out B2.out) R2.out
        clear E2
        go_upto_region 7 with (first | (go_at_call 82; refine C5.out.mono ?_; rintro _ w3 ⟨rfl, b3⟩; have R3 : Hid (RKb w3 W1.heap.size e.l.length xs) := R2.out.later b3; have B3 : Hid (Below W.heap.size W w3) := over B2.out b3; clear b3) | go_in)
        have E3 : Hid _ := HE.out w3 (over BW.out B3.out)
        have c30 := E3.out.c0
        have c31 := E3.out.c1
        have c32 := E3.out.c2
        have C6 : Hid (Calls _ _ _ _ _) := CP.out w3 _ (over BW.out B3.out) R3.out HLQ.out
        go_wp2_with (first | (go_at_call 83; refine C6.out.mono ?_; rintro _ w4 ⟨rfl, r4⟩; have E4 : Hid (Re ge g bn bd pv (.slice la e.l.length lc) s1 e w3 w4) := E3.out.rn r4; clear r4) | go_in)
        go_ret2
        exact ⟨_, _, rfl, rfl, rfl, Re.pre (over BW.out B3.out) E4.out⟩
    · rw [if_neg hf]
      have hfd : decide (fu ≤ s.cap) = false := decide_eq_false hf
      rw [hfd] at CF
      clear hf hfd
      go_enter Tryz.func38, Tryz.ntmps38
      go_upto_region 1 with fail
      rw [HW.out]
      go_quiet (first | (go_at_call 80; exact Calls.quiet_of_same (CB.out _)))
      obtain ⟨W1, HW1⟩ : ∃ W1, Hid (W.drewN nq = W1) := ⟨_, rfl⟩
      rw [HW1.out]
      have B1 : Hid (Below W.heap.size W W1) := by rw [← HW1.out]; exact HBN.out _
      have q1 := HQ.out W1 B1.out
      have C4 : Hid (Calls _ _ _ _ _) := CRC.out W1 (over BW.out B1.out)
      go_upto_region 5 with (first | (go_at_call 81; refine C4.out.mono ?_; rintro _ w2 ⟨rfl, r2, b2⟩; have R2 : Hid (RKb w2 W1.heap.size e.l.length xs) := r2; have B2 : Hid (Below W.heap.size W w2) := over B1.out b2; clear r2 b2) | go_in)
      have E2 := HE.out w2 (over BW.out B2.out)
      have c20 := E2.c0
      have c21 := E2.c1
      have c22 := E2.c2
      have C5 : Hid (Calls _ _ _ _ _) := CF.out w2 _ (over BW.out B2.out) R2.out
      clear E2
      go_wp2_with (first | (go_at_call 82; refine C5.out.mono ?_; rintro _ w3 ⟨rfl, b3⟩; have B3 : Hid (Below W.heap.size W w3) := over B2.out b3; clear b3) | go_in)
      go_ret2
      exact ⟨_, _, rfl, rfl, rfl, Re.later (HE.out _ (over BW.out B3.out)) (over BW.out B3.out)⟩
  · rw [if_pos hbe]
    have hbe' : (be != 0) = true := by rw [bne_iff_ne]; exact hbe
    clear hbe h hR hv bW hz hzl
    go_enter Tryz.func38, Tryz.ntmps38
    go_upto_region 1 with fail
    rw [HW.out]
    go_quiet (first | (go_at_call 80; exact Calls.quiet_of_same (CB.out _)))
    obtain ⟨W1, HW1⟩ : ∃ W1, Hid (W.drewN nq = W1) := ⟨_, rfl⟩
    rw [HW1.out]
    have B1 : Hid (Below W.heap.size W W1) := by rw [← HW1.out]; exact HBN.out _
    go_wp2
    go_ret2
    exact ⟨_, _, rfl, rfl, rfl, Re.later (HE.out _ (over BW.out B1.out)) (over BW.out B1.out)⟩
end Go.Proofs.YtofmkdagehehaaaGreatDoor.ei

namespace Go.Proofs.YtofmkdagehehaaaGreatDoor.ej
open Go.RowKit Go.PlainAid Go.Maps Go.Shelf
open Go.Proofs.YtofmkdagehehaaaGreatDoor.kp Go.Proofs.YtofmkdagehehaaaGreatDoor.ka Go.Proofs.YtofmkdagehehaaaGreatDoor.ya Go.Proofs.YtofmkdagehehaaaGreatDoor.yb Go.Proofs.YtofmkdagehehaaaGreatDoor.yc Go.Proofs.YtofmkdagehehaaaGreatDoor.yd Go.Proofs.YtofmkdagehehaaaGreatDoor.ye Go.Proofs.YtofmkdagehehaaaGreatDoor.yf Go.Proofs.YtofmkdagehehaaaGreatDoor.yg Go.Proofs.YtofmkdagehehaaaGreatDoor.yi Go.Proofs.YtofmkdagehehaaaGreatDoor.yj Go.Proofs.YtofmkdagehehaaaGreatDoor.yk Go.Proofs.YtofmkdagehehaaaGreatDoor.yl Go.Proofs.YtofmkdagehehaaaGreatDoor.ym
open Go.Proofs.YtofmkdagehehaaaGreatDoor.tqa Go.Proofs.YtofmkdagehehaaaGreatDoor.tba Go.Proofs.YtofmkdagehehaaaGreatDoor.tbb Go.Proofs.YtofmkdagehehaaaGreatDoor.tbc Go.Proofs.YtofmkdagehehaaaGreatDoor.tbd Go.Proofs.YtofmkdagehehaaaGreatDoor.tbe Go.Proofs.YtofmkdagehehaaaGreatDoor.tbf
open Go.Proofs.YtofmkdagehehaaaGreatDoor.tqb (over keyC keyNo kindT kindT_size spaceT spaceT_size key_is)
open Go.Proofs.YtofmkdagehehaaaGreatDoor.ea Go.Proofs.YtofmkdagehehaaaGreatDoor.eb Go.Proofs.YtofmkdagehehaaaGreatDoor.ec Go.Proofs.YtofmkdagehehaaaGreatDoor.ed Go.Proofs.YtofmkdagehehaaaGreatDoor.ee Go.Proofs.YtofmkdagehehaaaGreatDoor.ef Go.Proofs.YtofmkdagehehaaaGreatDoor.eg Go.Proofs.YtofmkdagehehaaaGreatDoor.eh Go.Proofs.YtofmkdagehehaaaGreatDoor.ei
open Go.Proofs.YtofmkdagehehaaaGreatDoor.pj (Tab)
open Go.Proofs.YtofmkdagehehaaaGreatDoor.gb (RT NT NE Fits)
set_option linter.unusedVariables false
set_option linter.unusedSimpArgs false
theorem ent_add : ∀ args w, (callFunc 38 args).run Tryz.prog w = .ok (.enter 38 args) w := enters_of Tryz.func38 (by kernel_rfl) rfl
theorem ent_leaf : ∀ args w, (callFunc 70 args).run Tryz.prog w = .ok (.enter 70 args) w := enters_of Tryz.func70 (by kernel_rfl) rfl
theorem ent_root : ∀ args w, (callFunc 71 args).run Tryz.prog w = .ok (.enter 71 args) w := enters_of Tryz.func71 (by kernel_rfl) rfl
theorem ent_node : ∀ args w, (callFunc 85 args).run Tryz.prog w = .ok (.enter 85 args) w := enters_of Tryz.func85 (by kernel_rfl) rfl
section
variable {ge g bn bd : Nat} {pv lv : Value} {s : S} {e : E} {w : World}
theorem appendC (h : En ge g bn bd pv lv s e w) (a : Option Addr) (c : Nat) (xs : List ByteArray) (m : Nat) (HM : Hid (xs.length = m)) (hR : ReadsT w (.slice a m c) xs) (hv : ∀ k, (Value.slice a m c).ownBlock = some k → xs ≠ [] → ¬ Ef ge g bn bd pv lv k) (hxl : m ≤ 4611686018427387904) (hl : s.dur.length + s.pend.length + 1024 < 3518437208883) (hel : e.l.length + 1024 ≤ 1099511627776) :
    Calls Tryz.prog 12 #[.pointer (some ⟨ge, 0, none⟩), .slice a m c] w fun r w' => r = .returned (.int .i64 (appS s e xs).1) ∧ Re ge g bn bd pv lv (appS s e xs).2.1 (appS s e xs).2.2 w w' := by
  rw [app_is]
  cases hg : gone s e with
  | true =>
    have C : Hid (Calls _ _ _ _ _) := askNo h hg (.func (.func 38) #[.pointer (some ⟨ge, 0, none⟩)] #[]) a m c 0 0 0
    have HE : Hid (∀ w', Below w.heap.size w w' → Re ge g bn bd pv lv s e w w') := fun w' b => Re.later (h.later b) b
    simp only [if_true]
    clear h hR hv
    go_enter Tryz.func12, Tryz.ntmps12
    go_wp2_with fail
    refine C.out.mono ?_
    rintro _ w2 ⟨rfl, b2⟩
    have B2 : Hid _ := HE.out w2 b2
    clear b2
    go_wp2
    go_ret
    exact ⟨rfl, B2.out⟩
  | false =>
    have ho : s.off = false := by unfold gone at hg; exact (Bool.or_eq_false_iff.1 hg).1
    have C : Hid (Calls _ _ _ _ _) := askYes h hg 38 ent_add a m c 0 0 0 (fun t x w' => t = ⟨#[]⟩ ∧ x = (addS s e xs).1 ∧ Re ge g bn bd pv lv (addS s e xs).2.1 (addS s e xs).2.2 w w') (fun w1 b => (addC (h.later b) ho a c xs m HM (hR.later b) hv hxl hl hel).mono (by
      rintro r w' ⟨t, x, e1, e2, e3, r⟩
      exact ⟨t, x, e1, e2, e3, Re.pre b r⟩))
    simp only [Bool.false_eq_true, if_false]
    generalize addS s e xs = q at *
    clear h hR hv
    go_enter Tryz.func12, Tryz.ntmps12
    go_wp2_with fail
    refine C.out.mono ?_
    rintro _ w2 ⟨t, x, rfl, rfl, hx, r⟩
    have R2 : Hid (Re _ _ _ _ _ _ _ _ _ _) := r
    have HX : Hid (x = q.1) := hx
    clear r hx
    go_wp2
    go_ret
    exact ⟨by rw [HX.out]; rfl, R2.out⟩
-- Leaf
def leafV (l : List ByteArray) (i : Int) : ByteArray × Int := if 0 ≤ i ∧ i < l.length then (l.getD i.toNat ByteArray.empty, 0) else (⟨#[]⟩, 81)
set_option maxHeartbeats 1600000 in
theorem leafC (h : En ge g bn bd pv lv s e w) (i : Int) :
    Calls Tryz.prog 70 #[.pointer (some ⟨ge, 0, none⟩), .agg #[.slice none 0 0, .int .i64 i, .int .i64 0, .int .i64 0]] w fun r w' => ∃ t x, r = .returned (.tuple #[.string t, .int .i64 x]) ∧ ((t, x) = leafV e.l i ∧ Below w.heap.size w w') := by
  obtain ⟨W, HW⟩ : ∃ W, Hid (w.alloc (.cells #[.slice none 0 0, .int .i64 i, .int .i64 0, .int .i64 0] 89) = W) := ⟨_, rfl⟩
  have bW : Below w.heap.size w W := by rw [← HW.out]; exact new1 _ _
  have hz : W.heap[w.heap.size]? = some (.cells #[.slice none 0 0, .int .i64 i, .int .i64 0, .int .i64 0] 89) := by rw [← HW.out]; exact heap_alloc_new w _
  have z1 : W.cell? ⟨w.heap.size, 1, none⟩ = some (.int .i64 i) := cell_of_row _ _ 1 _ _ _ hz
  have BW : Hid (∀ n, Below w.heap.size w (W.drewN n)) := fun n => below_dN bW n
  obtain ⟨la, lc, hlf⟩ := h.form
  subst hlf
  have h1 := h.later bW
  have c4 := h1.c4
  have HRD : Hid (ReadsT W (.slice la e.l.length lc) e.l) := h1.reads
  have hll : (e.l.length : Int) ≤ 1099511627776 := by have := h.ok.len; omega
  unfold leafV
  obtain ⟨n, HN⟩ : ∃ n, Hid (e.l.length = n) := ⟨_, rfl⟩
  rw [HN.out] at HRD c4 hll ⊢
  clear h h1 bW hz
  by_cases h0 : i < 0
  · have g0 : decide (i < 0) = true := decide_eq_true h0
    rw [if_neg (by omega)]
    go_enter Tryz.func70, Tryz.ntmps70
    go_upto_region 1 with fail
    rw [HW.out]
    go_quiet (fail)
    go_wp2
    go_ret2
    exact ⟨_, _, rfl, (by first | rfl | exact ⟨rfl, rfl⟩), BW.out _⟩
  · have g0 : decide (i < 0) = false := decide_eq_false h0
    by_cases hi1 : i < n
    · obtain ⟨k, rfl⟩ : ∃ k : Nat, i = k := ⟨i.toNat, by omega⟩
      have hk : k < n := by omega
      have hge : decide ((k : Int) ≥ n) = false := decide_eq_false (by omega)
      rw [if_pos ⟨by omega, hi1⟩]
      have hkx : k < e.l.length := by rw [HN.out]; exact hk
      obtain ⟨b, off, rfl, hc⟩ : ∃ b off, la = some ⟨b, off, none⟩ ∧ ∀ m, (W.drewN m).cell? ⟨b, off + k, none⟩ = some (.string (e.l.getD k ByteArray.empty)) := by
        obtain ⟨a', cap', e', _, h0 | ⟨b, off, e4, hh⟩⟩ := HRD.out
        · omega
        · injection e' with e1 _ _
          refine ⟨b, off, by rw [e1]; exact e4, fun m => ?_⟩
          exact hh k hkx
      have HX : Hid (e.l.getD ((k : Int)).toNat ByteArray.empty = e.l.getD k ByteArray.empty) := rfl
      rw [HX.out]
      generalize e.l.getD k ByteArray.empty = x at *
      have c00 := hc 0
      have hcd : W.cell? ⟨b, off + k, none⟩ = some (.string x) := c00
      have hn0 : ¬ (k : Int) < 0 := by omega
      clear h0
      go_enter Tryz.func70, Tryz.ntmps70
      go_upto_region 1 with fail
      rw [HW.out]
      go_quiet (fail)
      obtain ⟨V, HV⟩ : ∃ V, Hid (W.drewN nq = V) := ⟨_, rfl⟩
      rw [HV.out]
      have d1 : V.cell? ⟨b, off + k, none⟩ = some (.string x) := by rw [← HV.out]; exact hc nq
      have d2 : V.cell? ⟨w.heap.size, 1, none⟩ = some (.int .i64 (k : Int)) := by rw [← HV.out]; exact z1
      have d3 : V.cell? ⟨ge, 4, none⟩ = some (.slice (some ⟨b, off, none⟩) n lc) := by rw [← HV.out]; exact c4
      have BV : Hid (∀ m, Below w.heap.size w (V.drewN m)) := fun m => by rw [← HV.out]; exact below_dN (BW.out nq) m
      go_upto_region 3 with fail
      go_quiet (fail)
      go_wp2
      go_ret2
      exact ⟨_, _, rfl, (by first | rfl | exact ⟨rfl, rfl⟩), BV.out _⟩
    · have hge : decide (i ≥ n) = true := decide_eq_true (by omega)
      rw [if_neg (by omega)]
      go_enter Tryz.func70, Tryz.ntmps70
      go_upto_region 1 with fail
      rw [HW.out]
      go_quiet (fail)
      go_wp2
      go_ret2
      exact ⟨_, _, rfl, (by first | rfl | exact ⟨rfl, rfl⟩), BW.out _⟩
theorem LeafC (h : En ge g bn bd pv lv s e w) (i : Int) (hg : gone s e = false) :
    Calls Tryz.prog 30 #[.pointer (some ⟨ge, 0, none⟩), .int .i64 i] w fun r w' => r = .returned (.tuple #[.string (leafV e.l i).1, .int .i64 (leafV e.l i).2]) ∧ Below w.heap.size w w' := by
  have C : Hid (Calls _ _ _ _ _) := askYes h hg 70 ent_leaf none 0 0 i 0 0 (fun t x w' => (t, x) = leafV e.l i ∧ Below w.heap.size w w') (fun w1 b => (leafC (h.later b) i).mono (by
    rintro r w' ⟨t, x, e1, e2, b2⟩
    exact ⟨t, x, e1, e2, over b b2⟩))
  generalize leafV e.l i = q at *
  clear h
  go_enter Tryz.func30, Tryz.ntmps30
  go_wp2_with fail
  refine C.out.mono ?_
  rintro _ w2 ⟨t, x, rfl, hq, b⟩
  subst hq
  have B2 : Hid (Below _ _ _) := b
  clear b
  go_wp2
  go_ret2
  exact ⟨rfl, B2.out⟩
-- count
def cntN (nd n : Int) : Int := wrap64 (nd + max (n - 1) 0)
theorem en_nd (h : En ge g bn bd pv lv s e w) (n : Int) : Re ge g bn bd pv lv s { e with nd := n } w (w.setCell ⟨ge, 5, none⟩ (.int .i64 n)) := by
  have k : Kp (fun k => k = ge) w (w.setCell ⟨ge, 5, none⟩ (.int .i64 n)) := Kp.setCell _ _ _ _ rfl
  have hr := heap_setCell_same _ _ 5 _ _ (.int .i64 n) h.row
  exact ⟨pv, lv, ⟨sr_keep h.st k (fun j hj e => by subst e; exact h.nge hj), hr, own_kp h.lr k (fun j hj e => by subst e; exact h.glv hj), ⟨h.ok.sp, h.ok.wd, h.ok.len, h.ok.sz⟩⟩, k.mono (fun j hj => .inr (.inl hj)), fun j hj => .inl hj⟩
theorem countC (h : En ge g bn bd pv lv s e w) (n : Int) (h0 : 0 ≤ n) (h1 : n ≤ 4611686018427387904) :
    Calls Tryz.prog 125 #[.pointer (some ⟨ge, 0, none⟩), .int .i64 n] w fun r w' => r = .returned (.tuple #[]) ∧ Re ge g bn bd pv lv s { e with nd := cntN e.nd n } w w' := by
  have c5 := h.c5
  have f5 := h.fz 5
  have HD : Hid (∀ x, Re ge g bn bd pv lv s { e with nd := x } w (w.setCell ⟨ge, 5, none⟩ (.int .i64 x))) := fun x => en_nd h x
  unfold cntN
  obtain ⟨q, hq⟩ : ∃ q, e.nd = q := ⟨_, rfl⟩
  rw [hq] at c5 ⊢
  clear h hq
  go_enter Tryz.func125, Tryz.ntmps125
  go_wp2
  go_end0
  exact ⟨rfl, HD.out _⟩
end
end Go.Proofs.YtofmkdagehehaaaGreatDoor.ej

namespace Go.Proofs.YtofmkdagehehaaaGreatDoor.ek
open Go.RowKit Go.PlainAid Go.Maps Go.Shelf
open Go.Proofs.YtofmkdagehehaaaGreatDoor.kp Go.Proofs.YtofmkdagehehaaaGreatDoor.ka Go.Proofs.YtofmkdagehehaaaGreatDoor.ya Go.Proofs.YtofmkdagehehaaaGreatDoor.yb Go.Proofs.YtofmkdagehehaaaGreatDoor.yc Go.Proofs.YtofmkdagehehaaaGreatDoor.yd Go.Proofs.YtofmkdagehehaaaGreatDoor.ye Go.Proofs.YtofmkdagehehaaaGreatDoor.yf Go.Proofs.YtofmkdagehehaaaGreatDoor.yg Go.Proofs.YtofmkdagehehaaaGreatDoor.yi Go.Proofs.YtofmkdagehehaaaGreatDoor.yj Go.Proofs.YtofmkdagehehaaaGreatDoor.yk Go.Proofs.YtofmkdagehehaaaGreatDoor.yl Go.Proofs.YtofmkdagehehaaaGreatDoor.ym
open Go.Proofs.YtofmkdagehehaaaGreatDoor.tqa Go.Proofs.YtofmkdagehehaaaGreatDoor.tba Go.Proofs.YtofmkdagehehaaaGreatDoor.tbb Go.Proofs.YtofmkdagehehaaaGreatDoor.tbc Go.Proofs.YtofmkdagehehaaaGreatDoor.tbd Go.Proofs.YtofmkdagehehaaaGreatDoor.tbe Go.Proofs.YtofmkdagehehaaaGreatDoor.tbf
open Go.Proofs.YtofmkdagehehaaaGreatDoor.tqb (over keyC keyNo kindT kindT_size spaceT spaceT_size key_is)
open Go.Proofs.YtofmkdagehehaaaGreatDoor.ea Go.Proofs.YtofmkdagehehaaaGreatDoor.eb Go.Proofs.YtofmkdagehehaaaGreatDoor.ec Go.Proofs.YtofmkdagehehaaaGreatDoor.ed Go.Proofs.YtofmkdagehehaaaGreatDoor.ee Go.Proofs.YtofmkdagehehaaaGreatDoor.ef Go.Proofs.YtofmkdagehehaaaGreatDoor.eg Go.Proofs.YtofmkdagehehaaaGreatDoor.eh Go.Proofs.YtofmkdagehehaaaGreatDoor.ei Go.Proofs.YtofmkdagehehaaaGreatDoor.ej
open Go.Proofs.YtofmkdagehehaaaGreatDoor.pj (Tab)
open Go.Proofs.YtofmkdagehehaaaGreatDoor.gb (RT NT NE Fits)
open Go.Proofs.YtofmkdagehehaaaGreatDoor.cp (okA cast_pow wrap_is okA_form)
set_option linter.unusedVariables false
set_option linter.unusedSimpArgs false
section
variable {ge g bn bd : Nat} {pv lv : Value} {s : S} {e : E} {w : World}
theorem ok_fits (h : OkE e) : Fits e.l := ⟨fun x hx => by have := h.sz x hx; omega, by have := h.len; omega⟩
theorem reads_take {a : Option Addr} {n c k : Nat} {xs : List ByteArray} (h : ReadsT w (.slice a n c) xs) (hk : k ≤ xs.length) (c' : Nat) (hc : k ≤ c') : ReadsT w (.slice a k c') (xs.take k) := by
  obtain ⟨a', cap', e', h1, h0⟩ := h
  injection e' with e1 e2 e3
  subst e1 e2 e3
  have hl : (xs.take k).length = k := by rw [List.length_take]; omega
  refine ⟨a, c', by rw [hl], by rw [hl]; exact hc, ?_⟩
  rcases h0 with h0 | ⟨b, off, rfl, hh⟩
  · left; rw [hl]; omega
  · by_cases hk0 : k = 0
    · left; rw [hl]; exact hk0
    · right
      refine ⟨b, off, rfl, fun i hi => ?_⟩
      rw [hl] at hi
      rw [hh i (by omega), List.getD, List.getD, List.getElem?_take, if_pos hi]
def rootV (wd : Int) (l : List ByteArray) (n : Int) : ByteArray × Int := if 0 ≤ n ∧ n ≤ l.length then (RT wd (l.take n.toNat), 0) else (⟨#[]⟩, 80)
def rootE (e : E) (n : Int) : E := if 0 ≤ n ∧ n ≤ e.l.length then { e with nd := cntN e.nd n } else e
theorem tab_re {s' : S} {e' : E} {w' : World} (hT : Tab w) (hF : ∀ k, Ef ge g bn bd pv lv k → 3 ≤ k) (r : Re ge g bn bd pv lv s' e' w w') : Tab w' := by
  obtain ⟨_, _, _, k, _⟩ := r
  exact hT.below (k.below hF hT.big) (Nat.le_refl _)
set_option maxRecDepth 100000 in
set_option maxHeartbeats 3200000 in
theorem rootM (h : En ge g bn bd pv lv s e w) (hT : Tab w) (hF : ∀ k, Ef ge g bn bd pv lv k → 3 ≤ k) (i : Int) :
    Calls Tryz.prog 71 #[.pointer (some ⟨ge, 0, none⟩), .agg #[.slice none 0 0, .int .i64 i, .int .i64 0, .int .i64 0]] w fun r w' => ∃ t x, r = .returned (.tuple #[.string t, .int .i64 x]) ∧ ((t, x) = rootV e.wd e.l i ∧ Re ge g bn bd pv lv s (rootE e i) w w') := by
  obtain ⟨W, HW⟩ : ∃ W, Hid (w.alloc (.cells #[.slice none 0 0, .int .i64 i, .int .i64 0, .int .i64 0] 89) = W) := ⟨_, rfl⟩
  have bW : Below w.heap.size w W := by rw [← HW.out]; exact new1 _ _
  have hz : W.heap[w.heap.size]? = some (.cells #[.slice none 0 0, .int .i64 i, .int .i64 0, .int .i64 0] 89) := by rw [← HW.out]; exact heap_alloc_new w _
  have z1 : W.cell? ⟨w.heap.size, 1, none⟩ = some (.int .i64 i) := cell_of_row _ _ 1 _ _ _ hz
  have BW : Hid (Below w.heap.size w W) := bW
  obtain ⟨la, lc, hlf⟩ := h.form
  subst hlf
  have h1 := h.later bW
  have c4 := h1.c4
  have HE : Hid (En ge g bn bd pv (.slice la e.l.length lc) s e W) := h1
  have HT : Hid (Tab W ∧ ∀ k, Ef ge g bn bd pv (.slice la e.l.length lc) k → 3 ≤ k) := ⟨hT.down bW, hF⟩
  have hll : (e.l.length : Int) ≤ 1099511627776 := by have := h.ok.len; omega
  have HOK : Hid (OkE e) := h.ok
  unfold rootV rootE
  obtain ⟨n, HN⟩ : ∃ n, Hid (e.l.length = n) := ⟨_, rfl⟩
  rw [HN.out] at c4 hll HE HT ⊢
  clear h h1 bW hz hT hF
  by_cases h0 : i < 0
  · have g0 : decide (i < 0) = true := decide_eq_true h0
    rw [if_neg (by omega), if_neg (by omega)]
    go_enter Tryz.func71, Tryz.ntmps71
    go_upto_region 1 with fail
    rw [HW.out]
    go_wp2
    go_ret2
    exact ⟨_, _, rfl, (by first | rfl | exact ⟨rfl, rfl⟩), Re.later HE.out BW.out⟩
  · have g0 : decide (i < 0) = false := decide_eq_false h0
    by_cases hi1 : i ≤ n
    · obtain ⟨k, rfl⟩ : ∃ k : Nat, i = k := ⟨i.toNat, by omega⟩
      have hk : k ≤ n := by omega
      have hgt : decide ((k : Int) > n) = false := decide_eq_false (by omega)
      have hgt' : ¬ (k : Int) > n := by omega
      rw [if_pos ⟨by omega, hi1⟩, if_pos ⟨by omega, hi1⟩]
      have HKT : Hid (((k : Int)).toNat = k) := Int.toNat_natCast k
      rw [HKT.out]
      have CC : Hid (Calls _ _ _ _ _) := countC HE.out (k : Int) (by omega) (by omega)
      have HD : Hid (∀ w2, Re ge g bn bd pv (.slice la n lc) s { e with nd := cntN e.nd k } W w2 → ∃ a2 c2, w2.cell? ⟨ge, 3, none⟩ = some (.int .i64 e.wd) ∧ w2.cell? ⟨ge, 4, none⟩ = some (.slice a2 n c2) ∧ (a2 = none → n = 0) ∧ n ≤ c2 ∧ ∀ c', k ≤ c' → Calls Tryz.prog 32 #[.int .i64 e.wd, .slice a2 k c'] w2.drew fun r w' => r = .returned (.string (RT e.wd (e.l.take k))) ∧ Below w2.drew.heap.size w2.drew w') := fun w2 r => by
        have htab := tab_re HT.out.1 HT.out.2 r
        obtain ⟨p2, l2, h2, _, _⟩ := r
        obtain ⟨a2, c2, hf2⟩ := h2.form
        have e1 : ({ e with nd := cntN e.nd k } : E).l.length = n := HN.out
        rw [e1] at hf2
        subst hf2
        have hr2 := h2.reads
        refine ⟨a2, c2, h2.c3, h2.c4, ?_, ?_, fun c' hc' => ?_⟩
        · rintro rfl
          obtain ⟨_, _, e', _, h0 | ⟨b, off, e4, _⟩⟩ := hr2
          · rw [← HN.out]; exact h0
          · injection e' with e1 _ _
            rw [← e1] at e4; cases e4
        · obtain ⟨_, _, e', h5, _⟩ := hr2
          injection e' with _ _ e3
          rw [e3]
          rw [← HN.out]; exact h5
        · have hr3 := reads_take hr2 (by show k ≤ e.l.length; rw [HN.out]; exact hk) c' hc'
          have hr4 : ReadsT w2.drew (.slice a2 k c') (e.l.take k) := hr3.later (to_drew (Below.refl _ _))
          exact mb.rootC e.wd _ _ _ ⟨by have := HOK.out.wd; omega, by have := HOK.out.wd; omega⟩ (htab.down (to_drew (Below.refl _ _))) hr4 ((ok_fits HOK.out).take k)
      obtain ⟨rt, HRT⟩ : ∃ rt, Hid (RT e.wd (e.l.take k) = rt) := ⟨_, rfl⟩
      rw [HRT.out] at HD ⊢
      clear h0 hi1
      go_enter Tryz.func71, Tryz.ntmps71
      go_upto_region 1 with fail
      rw [HW.out]
      go_upto_region 5 with (first | (go_at_call 125; refine CC.out.mono ?_; rintro _ w2 ⟨rfl, r2⟩; have R2 : Hid (Re ge g bn bd pv (.slice la n lc) s { e with nd := cntN e.nd k } W w2) := r2; clear r2) | go_in)
      obtain ⟨a2, c2, d3, d4, hnone, hnc, hroot⟩ := HD.out w2 R2.out
      have HRC : Hid (∀ c', k ≤ c' → Calls _ _ _ _ _) := hroot
      clear hroot
      have hkc : (k : Int) ≤ c2 := by omega
      have HCC : Hid (∀ c', k ≤ c' → Calls Tryz.prog 32 #[.int .i64 e.wd, .slice a2 k c'] w2.drew fun r w' => r = .returned (.string rt) ∧ Below w2.drew.heap.size w2.drew w') := HRC.out
      have S1 : Hid (w2.cell? ⟨ge, 3, none⟩ = some (.int .i64 e.wd) ∧ w2.cell? ⟨ge, 4, none⟩ = some (.slice a2 n c2)) := ⟨d3, d4⟩
      have HCL : Hid (∀ w3, Below w2.heap.size w2 w3 → w3.cell? ⟨ge, 3, none⟩ = some (.int .i64 e.wd) ∧ w3.cell? ⟨ge, 4, none⟩ = some (.slice a2 n c2)) := fun w3 b => ⟨(b.cell (World.block_lt_of_cell? _ _ S1.out.1)).trans S1.out.1, (b.cell (World.block_lt_of_cell? _ _ S1.out.2)).trans S1.out.2⟩
      cases a2 with
      | none =>
        have hn0 : n = 0 := hnone rfl
        have hk0 : k = 0 := by omega
        clear hnone
        subst hk0 hn0
        go_region_held3 (fun w3 => w3.cell? ⟨ge, 3, none⟩ = some (.int .i64 e.wd) ∧ w3.cell? ⟨ge, 4, none⟩ = some (.slice none 0 c2)) (first | exact S1.out | exact S2.out) (first | (go_at_call 32; refine (HCC.out _ ?_).mono ?_; omega; rintro _ w3 ⟨rfl, b3⟩; have S2 : Hid _ := HCL.out w3 (of_drew b3); have B3 : Hid (Below w2.heap.size w2 w3) := of_drew b3; clear b3))
        all_goals (go_wp2; go_ret2; exact ⟨_, _, rfl, (by first | rfl | exact ⟨rfl, rfl⟩), Re.pre BW.out (R2.out.post B3.out)⟩)
      | some ad =>
        clear hnone
        go_region_held3 (fun w3 => w3.cell? ⟨ge, 3, none⟩ = some (.int .i64 e.wd) ∧ w3.cell? ⟨ge, 4, none⟩ = some (.slice (some ad) n c2)) (first | exact S1.out | exact S2.out) (first | (go_at_call 32; refine (HCC.out _ ?_).mono ?_; omega; rintro _ w3 ⟨rfl, b3⟩; have S2 : Hid _ := HCL.out w3 (of_drew b3); have B3 : Hid (Below w2.heap.size w2 w3) := of_drew b3; clear b3))
        all_goals (go_wp2; go_ret2; exact ⟨_, _, rfl, (by first | rfl | exact ⟨rfl, rfl⟩), Re.pre BW.out (R2.out.post B3.out)⟩)
    · have hgt : decide (i > n) = true := decide_eq_true (by omega)
      rw [if_neg (by omega), if_neg (by omega)]
      go_enter Tryz.func71, Tryz.ntmps71
      go_upto_region 1 with fail
      rw [HW.out]
      go_wp2
      go_ret2
      exact ⟨_, _, rfl, (by first | rfl | exact ⟨rfl, rfl⟩), Re.later HE.out BW.out⟩
theorem RootM (h : En ge g bn bd pv lv s e w) (hT : Tab w) (hF : ∀ k, Ef ge g bn bd pv lv k → 3 ≤ k) (i : Int) (hg : gone s e = false) :
    Calls Tryz.prog 31 #[.pointer (some ⟨ge, 0, none⟩), .int .i64 i] w fun r w' => r = .returned (.tuple #[.string (rootV e.wd e.l i).1, .int .i64 (rootV e.wd e.l i).2]) ∧ Re ge g bn bd pv lv s (rootE e i) w w' := by
  have C : Hid (Calls _ _ _ _ _) := askYes h hg 71 ent_root none 0 0 i 0 0 (fun t x w' => (t, x) = rootV e.wd e.l i ∧ Re ge g bn bd pv lv s (rootE e i) w w') (fun w1 b => (rootM (h.later b) (hT.down b) hF i).mono (by
    rintro r w' ⟨t, x, e1, e2, b2⟩
    exact ⟨t, x, e1, e2, Re.pre b b2⟩))
  generalize rootV e.wd e.l i = q at *
  generalize rootE e i = e' at *
  clear h
  go_enter Tryz.func31, Tryz.ntmps31
  go_wp2_with fail
  refine C.out.mono ?_
  rintro _ w2 ⟨t, x, rfl, hq, b⟩
  subst hq
  have B2 : Hid (Re _ _ _ _ _ _ _ _ _ _) := b
  clear b
  go_wp2
  go_ret2
  exact ⟨rfl, B2.out⟩
end
end Go.Proofs.YtofmkdagehehaaaGreatDoor.ek

namespace Go.Proofs.YtofmkdagehehaaaGreatDoor.el
open Go.RowKit Go.PlainAid Go.Maps Go.Shelf
open Go.Proofs.YtofmkdagehehaaaGreatDoor.kp Go.Proofs.YtofmkdagehehaaaGreatDoor.ka Go.Proofs.YtofmkdagehehaaaGreatDoor.ya Go.Proofs.YtofmkdagehehaaaGreatDoor.yb Go.Proofs.YtofmkdagehehaaaGreatDoor.yc Go.Proofs.YtofmkdagehehaaaGreatDoor.yd Go.Proofs.YtofmkdagehehaaaGreatDoor.ye Go.Proofs.YtofmkdagehehaaaGreatDoor.yf Go.Proofs.YtofmkdagehehaaaGreatDoor.yg Go.Proofs.YtofmkdagehehaaaGreatDoor.yi Go.Proofs.YtofmkdagehehaaaGreatDoor.yj Go.Proofs.YtofmkdagehehaaaGreatDoor.yk Go.Proofs.YtofmkdagehehaaaGreatDoor.yl Go.Proofs.YtofmkdagehehaaaGreatDoor.ym
open Go.Proofs.YtofmkdagehehaaaGreatDoor.tqa Go.Proofs.YtofmkdagehehaaaGreatDoor.tba Go.Proofs.YtofmkdagehehaaaGreatDoor.tbb Go.Proofs.YtofmkdagehehaaaGreatDoor.tbc Go.Proofs.YtofmkdagehehaaaGreatDoor.tbd Go.Proofs.YtofmkdagehehaaaGreatDoor.tbe Go.Proofs.YtofmkdagehehaaaGreatDoor.tbf
open Go.Proofs.YtofmkdagehehaaaGreatDoor.tqb (over keyC keyNo kindT kindT_size spaceT spaceT_size key_is)
open Go.Proofs.YtofmkdagehehaaaGreatDoor.ea Go.Proofs.YtofmkdagehehaaaGreatDoor.eb Go.Proofs.YtofmkdagehehaaaGreatDoor.ec Go.Proofs.YtofmkdagehehaaaGreatDoor.ed Go.Proofs.YtofmkdagehehaaaGreatDoor.ee Go.Proofs.YtofmkdagehehaaaGreatDoor.ef Go.Proofs.YtofmkdagehehaaaGreatDoor.eg Go.Proofs.YtofmkdagehehaaaGreatDoor.eh Go.Proofs.YtofmkdagehehaaaGreatDoor.ei Go.Proofs.YtofmkdagehehaaaGreatDoor.ej Go.Proofs.YtofmkdagehehaaaGreatDoor.ek
open Go.Proofs.YtofmkdagehehaaaGreatDoor.pj (Tab)
open Go.Proofs.YtofmkdagehehaaaGreatDoor.gb (RT NT NE Fits)
open Go.Proofs.YtofmkdagehehaaaGreatDoor.cp (okA cast_pow wrap_is i64)
set_option linter.unusedVariables false
set_option linter.unusedSimpArgs false
section
variable {ge g bn bd : Nat} {pv lv : Value} {s : S} {e : E} {w : World}
def nodeE (e : E) (L I : Int) : E := if NE L I e.l = 0 then { e with nd := cntN e.nd (2 ^ L.toNat) } else e
theorem ne_ok {L I : Int} {xs : List ByteArray} (h : NE L I xs = 0) : 0 ≤ L ∧ L ≤ 62 := by
  unfold NE at h
  split at h
  · rename_i h1; exact ⟨h1.1, h1.2.1⟩
  · cases h
set_option maxRecDepth 100000 in
set_option maxHeartbeats 3200000 in
theorem nodeM (h : En ge g bn bd pv lv s e w) (hT : Tab w) (L I : Int) (hL : i64 L) (hI : i64 I) :
    Calls Tryz.prog 85 #[.pointer (some ⟨ge, 0, none⟩), .agg #[.slice none 0 0, .int .i64 0, .int .i64 L, .int .i64 I]] w fun r w' => ∃ t x, r = .returned (.tuple #[.string t, .int .i64 x]) ∧ (t = NT e.wd L I e.l ∧ x = NE L I e.l ∧ Re ge g bn bd pv lv s (nodeE e L I) w w') := by
  obtain ⟨W, HW⟩ : ∃ W, Hid (w.alloc (.cells #[.slice none 0 0, .int .i64 0, .int .i64 L, .int .i64 I] 89) = W) := ⟨_, rfl⟩
  have bW : Below w.heap.size w W := by rw [← HW.out]; exact new1 _ _
  have hz : W.heap[w.heap.size]? = some (.cells #[.slice none 0 0, .int .i64 0, .int .i64 L, .int .i64 I] 89) := by rw [← HW.out]; exact heap_alloc_new w _
  have hzl := (Array.getElem?_eq_some_iff.1 hz).1
  have BW : Hid (Below w.heap.size w W) := bW
  have h1 := h.later bW
  have HE : Hid (∀ w1, Below W.heap.size W w1 → En ge g bn bd pv lv s e w1) := fun w1 b => h1.later b
  have HS : Hid (∀ w1, Below W.heap.size W w1 → w1.cell? ⟨ge, 3, none⟩ = some (.int .i64 e.wd) ∧ w1.cell? ⟨ge, 4, none⟩ = some lv ∧ w1.cell? ⟨w.heap.size, 2, none⟩ = some (.int .i64 L) ∧ w1.cell? ⟨w.heap.size, 3, none⟩ = some (.int .i64 I)) := fun w1 b => by
    have e1 := (b.block _ hzl).trans hz
    exact ⟨(h1.later b).c3, (h1.later b).c4, cell_of_row _ _ 2 _ _ _ e1, cell_of_row _ _ 3 _ _ _ e1⟩
  have CN : Hid (Calls Tryz.prog 41 #[.int .i64 e.wd, .agg #[.int .i64 L, .int .i64 I], lv] W.drew fun r w' => r = .returned (.tuple #[.string (NT e.wd L I e.l), .int .i64 (NE L I e.l)]) ∧ Below W.drew.heap.size W.drew w') := me.nodeC e.wd L I lv e.l W.drew ⟨by have := h.ok.wd; omega, by have := h.ok.wd; omega⟩ hL hI ((hT.down bW).down (to_drew (Below.refl _ _))) (h1.reads.later (to_drew (Below.refl _ _))) (ok_fits h.ok)
  have S1 : Hid _ := HS.out W (Below.refl _ _)
  have CC : Hid (∀ w1, Below W.heap.size W w1 → NE L I e.l = 0 → Calls _ _ _ _ _) := fun w1 b hne => countC (HE.out w1 b) (2 ^ L.toNat) (by exact Int.le_of_lt (Int.pow_pos (by omega))) (by
    have hk := ne_ok hne
    have hh : (2 : Int) ^ L.toNat ≤ 2 ^ 62 := by exact_mod_cast Nat.pow_le_pow_right (n := 2) (by omega) (show L.toNat ≤ 62 by omega)
    have : (2 : Int) ^ 62 = 4611686018427387904 := by decide
    omega)
  unfold nodeE
  have HNK : Hid (NE L I e.l = 0 → 0 ≤ L ∧ L ≤ 62) := ne_ok
  obtain ⟨la, lc, hlf⟩ := h.form
  subst hlf
  obtain ⟨x, HX⟩ : ∃ x, Hid (NE L I e.l = x) := ⟨_, rfl⟩
  obtain ⟨t, HTX⟩ : ∃ t, Hid (NT e.wd L I e.l = t) := ⟨_, rfl⟩
  rw [HX.out] at CN CC HNK ⊢
  rw [HTX.out] at CN ⊢
  clear h h1 bW hz hzl hT
  by_cases hx : x = 0
  · subst hx
    obtain ⟨k, rfl⟩ : ∃ k : Nat, L = k := ⟨L.toNat, by have := HNK.out rfl; omega⟩
    have hk : k ≤ 62 := by have := HNK.out rfl; omega
    have HKT : Hid (((k : Int)).toNat = k) := Int.toNat_natCast k
    rw [if_pos rfl]
    rw [HKT.out] at CC ⊢
    obtain ⟨tt, HT⟩ : ∃ t : Nat, Hid (2 ^ k = t) := ⟨_, rfl⟩
    have hT2 : (2 : Int) ^ k = (tt : Int) := by rw [cast_pow, HT.out]
    rw [hT2] at CC ⊢
    have htt : tt ≤ 4611686018427387904 := by rw [← HT.out]; exact Nat.le_trans (Nat.pow_le_pow_right (by omega) hk) (by decide)
    have hw4 : min k 64 = k := by omega
    have hw3 : min (k : Int).toNat 64 = k := by omega
    have hw5 : IntKind.i64.wrap (tt : Int) = tt := wrap_is tt (by omega)
    have CC' : Hid (∀ w1, Below W.heap.size W w1 → Calls _ _ _ _ _) := fun w1 b => CC.out w1 b rfl
    clear CC HNK
    go_enter Tryz.func85, Tryz.ntmps85
    go_upto_region 1 with fail
    rw [HW.out]
    go_cut [6, 7] (fun r1 r2 wx => r1 = .string t ∧ r2 = .int .i64 0 ∧ Hid (Below W.heap.size W wx))
    case first =>
      go_region_held3 (fun w1 => w1.cell? ⟨ge, 3, none⟩ = some (.int .i64 e.wd) ∧ w1.cell? ⟨ge, 4, none⟩ = some (.slice la e.l.length lc) ∧ w1.cell? ⟨w.heap.size, 2, none⟩ = some (.int .i64 (k : Int)) ∧ w1.cell? ⟨w.heap.size, 3, none⟩ = some (.int .i64 I)) (first | exact S1.out | exact S2.out) (first | (go_at_call 41; refine CN.out.mono ?_; rintro _ w2 ⟨rfl, b2⟩; have S2 : Hid _ := HS.out w2 (of_drew b2); have B2 : Hid (Below W.heap.size W w2) := of_drew b2; clear b2))
      all_goals (go_wp2; go_meet; exact ⟨rfl, rfl, B2.out⟩)
    case rest =>
      obtain ⟨rfl, rfl, hb⟩ := hcut
      have B2 : Hid (Below W.heap.size W wc) := hb.out
      obtain ⟨w2, HW2⟩ : ∃ w2, Hid (wc = w2) := ⟨_, rfl⟩
      rw [HW2.out] at B2 ⊢
      clear hb HW2
      have S3 := HS.out w2 B2.out
      obtain ⟨_, _, s32, _⟩ := S3
      have C2 : Hid (Calls _ _ _ _ _) := CC'.out w2 B2.out
      go_wp2_with (first | (go_at_call 125; refine C2.out.mono ?_; rintro _ w3 ⟨rfl, r3⟩; have R3 : Hid (Re _ _ _ _ _ _ _ _ _ _) := r3; clear r3) | go_in)
      go_ret2
      exact ⟨_, _, rfl, rfl, rfl, Re.pre (over BW.out B2.out) R3.out⟩
  · have hx' : (x == 0) = false := by rw [beq_eq_false_iff_ne]; exact hx
    rw [if_neg hx]
    clear hx CC HNK
    go_enter Tryz.func85, Tryz.ntmps85
    go_upto_region 1 with fail
    rw [HW.out]
    go_region_held3 (fun w1 => w1.cell? ⟨ge, 3, none⟩ = some (.int .i64 e.wd) ∧ w1.cell? ⟨ge, 4, none⟩ = some (.slice la e.l.length lc) ∧ w1.cell? ⟨w.heap.size, 2, none⟩ = some (.int .i64 L) ∧ w1.cell? ⟨w.heap.size, 3, none⟩ = some (.int .i64 I)) (first | exact S1.out | exact S2.out) (first | (go_at_call 41; refine CN.out.mono ?_; rintro _ w2 ⟨rfl, b2⟩; have S2 : Hid _ := HS.out w2 (of_drew b2); have B2 : Hid (Below W.heap.size W w2) := of_drew b2; clear b2))
    all_goals (go_wp2; go_ret2; exact ⟨_, _, rfl, rfl, rfl, Re.later (HE.out _ B2.out) (over BW.out B2.out)⟩)
theorem NodeM (h : En ge g bn bd pv lv s e w) (hT : Tab w) (L I : Int) (hL : i64 L) (hI : i64 I) (hg : gone s e = false) :
    Calls Tryz.prog 40 #[.pointer (some ⟨ge, 0, none⟩), .agg #[.int .i64 L, .int .i64 I]] w fun r w' => r = .returned (.tuple #[.string (NT e.wd L I e.l), .int .i64 (NE L I e.l)]) ∧ Re ge g bn bd pv lv s (nodeE e L I) w w' := by
  have b1 : Hid (Below w.heap.size w (w.alloc (.cells #[.int .i64 L, .int .i64 I] 38))) := new1 _ _
  have C : Hid (Calls _ _ _ _ _) := askYes (h.later b1.out) hg 85 ent_node none 0 0 0 L I (fun t x w' => t = NT e.wd L I e.l ∧ x = NE L I e.l ∧ Re ge g bn bd pv lv s (nodeE e L I) w w') (fun w1 b => (nodeM (h.later (over b1.out b)) (hT.down (over b1.out b)) L I hL hI).mono (by
    rintro r w' ⟨t, x, e1, e2, e3, b2⟩
    exact ⟨t, x, e1, e2, e3, Re.pre (over b1.out b) b2⟩))
  generalize NT e.wd L I e.l = q at *
  generalize NE L I e.l = z at *
  generalize nodeE e L I = e' at *
  clear h
  go_enter Tryz.func40, Tryz.ntmps40
  go_wp2_with fail
  refine C.out.mono ?_
  rintro _ w2 ⟨t, x, rfl, rfl, rfl, b⟩
  have B2 : Hid (Re _ _ _ _ _ _ _ _ _ _) := b
  clear b
  go_wp2
  go_ret2
  exact ⟨rfl, B2.out⟩
end
-- the law's options
def wq (x : Int) : Int := if 1 ≤ x ∧ x ≤ 32 then x else 32
theorem wq_ok (x : Int) : 1 ≤ wq x ∧ wq x ≤ 32 := by unfold wq; split <;> omega
theorem optsL (x : Int) (w : World) : Calls Tryz.prog 11 #[.int .i64 x] w fun r w' => r = .returned (.agg #[.int .i64 1, .int .i64 (wq x), .int .i64 0, .int .i64 0, .int .i64 0, .int .i64 0]) ∧ Below w.heap.size w w' := by
  have HB : Hid (∀ o, Below w.heap.size w (w.alloc o)) := fun o => new1 w o
  unfold wq
  by_cases h1 : x < 1
  · have g1 : decide (x < 1) = true := decide_eq_true h1
    rw [if_neg (by omega)]
    clear h1
    go_enter Tryz.func11, Tryz.ntmps11
    go_wp2
    refine bodyPost_ret (by simp [results, Tryz.results11, go_sem]; try rfl) rfl ?_
    exact ⟨rfl, HB.out _⟩
  · have g1 : decide (x < 1) = false := decide_eq_false h1
    by_cases h2 : x > 32
    · have g2 : decide (x > 32) = true := decide_eq_true h2
      rw [if_neg (by omega)]
      clear h1 h2
      go_enter Tryz.func11, Tryz.ntmps11
      go_wp2
      refine bodyPost_ret (by simp [results, Tryz.results11, go_sem]; try rfl) rfl ?_
      exact ⟨rfl, HB.out _⟩
    · have g2 : decide (x > 32) = false := decide_eq_false h2
      rw [if_pos (by omega)]
      clear h1 h2
      go_enter Tryz.func11, Tryz.ntmps11
      go_wp2
      refine bodyPost_ret (by simp [results, Tryz.results11, go_sem]; try rfl) rfl ?_
      exact ⟨rfl, HB.out _⟩
end Go.Proofs.YtofmkdagehehaaaGreatDoor.el
