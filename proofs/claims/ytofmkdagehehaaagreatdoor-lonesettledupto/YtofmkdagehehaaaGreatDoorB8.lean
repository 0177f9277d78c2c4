import Derived.Test.YtofmkdagehehaaaGreatDoorB7
import Derived.Test.YtofmkdagehehaaaGreatDoorB6
import Derived.Maps.AppendAt
import Derived.Laws.BitsAllLaws
import Derived.Test.YtofmkdagehehaaaGreatDoorA4
import Derived.OpenShut
namespace Go.Proofs.YtofmkdagehehaaaGreatDoor.hj
open Go.RowKit Go.PlainAid Go.Maps Go.Shelf
open Go.Proofs.YtofmkdagehehaaaGreatDoor.kp Go.Proofs.YtofmkdagehehaaaGreatDoor.ka Go.Proofs.YtofmkdagehehaaaGreatDoor.ya Go.Proofs.YtofmkdagehehaaaGreatDoor.yb Go.Proofs.YtofmkdagehehaaaGreatDoor.yc Go.Proofs.YtofmkdagehehaaaGreatDoor.yd Go.Proofs.YtofmkdagehehaaaGreatDoor.ye Go.Proofs.YtofmkdagehehaaaGreatDoor.yf Go.Proofs.YtofmkdagehehaaaGreatDoor.yg Go.Proofs.YtofmkdagehehaaaGreatDoor.yi Go.Proofs.YtofmkdagehehaaaGreatDoor.yj Go.Proofs.YtofmkdagehehaaaGreatDoor.yk Go.Proofs.YtofmkdagehehaaaGreatDoor.yl Go.Proofs.YtofmkdagehehaaaGreatDoor.ym
open Go.Proofs.YtofmkdagehehaaaGreatDoor.tqa Go.Proofs.YtofmkdagehehaaaGreatDoor.tba Go.Proofs.YtofmkdagehehaaaGreatDoor.tbc Go.Proofs.YtofmkdagehehaaaGreatDoor.tbd Go.Proofs.YtofmkdagehehaaaGreatDoor.tbe
open Go.Proofs.YtofmkdagehehaaaGreatDoor.tbf (okI kind_is)
open Go.Proofs.YtofmkdagehehaaaGreatDoor.cp (own_later i64)
open Go.Proofs.YtofmkdagehehaaaGreatDoor.tqb (over)
open Go.Proofs.YtofmkdagehehaaaGreatDoor.ea Go.Proofs.YtofmkdagehehaaaGreatDoor.eb Go.Proofs.YtofmkdagehehaaaGreatDoor.ec Go.Proofs.YtofmkdagehehaaaGreatDoor.ed Go.Proofs.YtofmkdagehehaaaGreatDoor.ee Go.Proofs.YtofmkdagehehaaaGreatDoor.ef Go.Proofs.YtofmkdagehehaaaGreatDoor.eg Go.Proofs.YtofmkdagehehaaaGreatDoor.eh Go.Proofs.YtofmkdagehehaaaGreatDoor.ei Go.Proofs.YtofmkdagehehaaaGreatDoor.ej Go.Proofs.YtofmkdagehehaaaGreatDoor.ek Go.Proofs.YtofmkdagehehaaaGreatDoor.el Go.Proofs.YtofmkdagehehaaaGreatDoor.ha Go.Proofs.YtofmkdagehehaaaGreatDoor.hb Go.Proofs.YtofmkdagehehaaaGreatDoor.hc Go.Proofs.YtofmkdagehehaaaGreatDoor.hd Go.Proofs.YtofmkdagehehaaaGreatDoor.hf Go.Proofs.YtofmkdagehehaaaGreatDoor.hg Go.Proofs.YtofmkdagehehaaaGreatDoor.hh Go.Proofs.YtofmkdagehehaaaGreatDoor.hi
open Go.Proofs.YtofmkdagehehaaaGreatDoor.pj (Tab)
open Go.Proofs.YtofmkdagehehaaaGreatDoor.gb (RT NT NE Fits RT_size)
set_option linter.unusedVariables false
set_option linter.unusedSimpArgs false
-- a list of the law's own
def OwnO : Thg (Value × List ByteArray) where
  P t F w := w.ownsRow 0 9 1 t.1 t.2.length (t.2.map Value.string) ∧ ∀ k, F k ↔ some k = t.1.ownBlock
  keep := by
    rintro t F w w' A ⟨h1, h2⟩ k hn
    exact ⟨own_kp h1 k (fun j hj => hn j ((h2 j).2 hj)), h2⟩
  lt := by
    rintro t F w ⟨h1, h2⟩ k hk
    exact (h1.lt _ ((h2 k).1 hk).symm).2
section
variable {τ : Type} {U : Thg τ} {ge g bn bd B : Nat} {s : S} {e : E} {t : τ} {w0 w : World}
-- the law's list grows
theorem pGrow {v v' : Value} {xs ys : List ByteArray} {w' : World} (h : One (pairO (EnO ge g bn bd) OwnO) B ((s, e), (v, xs)) w0 w) (ho : w'.ownsRow 0 9 1 v' (xs.length + ys.length) (xs.map Value.string ++ ys.map Value.string)) (hg : w.grownBy w' v.ownBlock) (hl : v'.ownBlock = v.ownBlock ∨ v'.ownBlock = some w.heap.size) : One (pairO (EnO ge g bn bd) OwnO) B ((s, e), (v', xs ++ ys)) w0 w' := by
  obtain ⟨F, h1, h2, h3, h4⟩ := h
  obtain ⟨F1, hU, hK⟩ := pair_snd h1
  have k2 : Kp F1 w w' := ⟨hg.os, hg.tape, hg.output, hg.size, fun j hj hn => hg.block j hj (fun e => hn ((hU.2 j).2 e))⟩
  obtain ⟨F', a1, a2⟩ := hK (v', xs ++ ys) (fun k => some k = v'.ownBlock) w' ⟨by
    show World.ownsRow _ _ _ _ _ (xs ++ ys).length ((xs ++ ys).map Value.string)
    rw [List.length_append, List.map_append]; exact ho, fun k => Iff.rfl⟩ ⟨k2, fun k hk => by
      rcases hl with h | h
      · exact .inl ((hU.2 k).2 (by rw [hk, h]))
      · rw [h] at hk
        exact .inr (by rw [Option.some.inj hk]; exact Nat.le_refl _)⟩
  exact One.turn h2 h3 h4 a1 a2
theorem pReads {v : Value} {xs : List ByteArray} (h : One (pairO (EnO ge g bn bd) OwnO) B ((s, e), (v, xs)) w0 w) : w.ownsRow 0 9 1 v xs.length (xs.map Value.string) := by
  obtain ⟨F, hP⟩ := One.get (One.snd h)
  exact hP.1
-- opened anew
theorem pOpen (h : One (pairO (EnO ge g bn bd) U) B ((s, e), t) w0 w) (b : Int) (sp least : Int) (l : List ByteArray) (s' : S) (hs : okI sp) (hb : 1 ≤ b ∧ b ≤ 32) (ho : s.off = false) (hst : IsSt s sp l) (hl : l.length < 1099511627776) (hle : least ≤ l.length) (hp : purgeS s sp l.length = (0, s')) (hln : 2 * (s.dur.length + s.pend.length) + 1 < 3518437208883) :
    Calls Tryz.prog 16 #[.pointer (some ⟨g, 0, none⟩), .agg #[.int .i64 1, .int .i64 b, .int .i64 0, .int .i64 0, .int .i64 0, .int .i64 0], .int .i64 sp, .int .i64 least] w fun r w' => ∃ ge', r = .returned (.tuple #[.pointer (some ⟨ge', 0, none⟩), .int .i64 0]) ∧ One (pairO (EnO ge' g bn bd) U) B ((s', ⟨sp, s.age, b, l, 0⟩), t) w0 w' := by
  obtain ⟨F, h1, h2, h3, h4⟩ := h
  obtain ⟨F1, F2, ⟨pv, lv, hE, hF1⟩, hU, hdis, hor⟩ := h1
  have hsz : B ≤ w.heap.size := Nat.le_trans h4 h3.size
  have hFr : ∀ k, Fr g bn bd pv k → F1 k := fun k hk => (hF1 k).2 (.inl hk)
  refine (OpenYes 1 b 0 0 0 0 sp least l hE.st hs ⟨rfl, hb⟩ ho hst hl hle hp hln).mono ?_
  rintro r w' ⟨ge', rfl, p', l', hE', k, n⟩
  refine ⟨ge', rfl, fun k => Ef ge' g bn bd p' l' k ∨ F2 k, ⟨Ef ge' g bn bd p' l', F2, ⟨p', l', hE', fun k => Iff.rfl⟩, U.keep hU k (fun j hj hf => hdis j (hFr j hf) hj), fun j hj hf => ?_, fun k => Iff.rfl⟩, fun j hj => ?_, ov h3 (k.below (fun j hj => h2 j ((hor j).2 (.inl (hFr j hj)))) hsz), h4⟩
  · rcases n j hj with h | h
    · exact hdis j (hFr j h) hf
    · have := U.lt hU j hf; omega
  · rcases hj with hj | hj
    · rcases n j hj with h | h
      · exact h2 j ((hor j).2 (.inl (hFr j h)))
      · omega
    · exact h2 j ((hor j).2 (.inr hj))
end
-- the engine but for its count
def Pt {τ : Type} (U : Thg τ) (ge g bn bd B : Nat) (s : S) (e : E) (t : τ) (w0 w : World) : Prop := ∃ nd, One (pairO (EnO ge g bn bd) U) B ((s, { e with nd := nd }), t) w0 w
section
variable {τ : Type} {U : Thg τ} {ge g bn bd B : Nat} {s : S} {e : E} {t : τ} {w0 w : World}
theorem Pt.of (h : One (pairO (EnO ge g bn bd) U) B ((s, e), t) w0 w) : Pt U ge g bn bd B s e t w0 w := ⟨e.nd, h⟩
theorem Pt.later {w' : World} (h : Pt U ge g bn bd B s e t w0 w) (b : Below w.heap.size w w') : Pt U ge g bn bd B s e t w0 w' := by
  obtain ⟨nd, h⟩ := h
  exact ⟨nd, One.later h b⟩
theorem ptSize (h : Pt U ge g bn bd B s e t w0 w) : Calls Tryz.prog 21 #[.pointer (some ⟨ge, 0, none⟩)] w fun r w' => r = .returned (.int .i64 (e.l.length : Nat)) ∧ w' = w := by
  obtain ⟨nd, h⟩ := h
  have C := pSize (e := { e with nd := nd }) h
  exact C
theorem ptLeaf (h : Pt U ge g bn bd B s e t w0 w) (i : Int) (hg : gone s e = false) : Calls Tryz.prog 30 #[.pointer (some ⟨ge, 0, none⟩), .int .i64 i] w fun r w' => r = .returned (.tuple #[.string (leafV e.l i).1, .int .i64 (leafV e.l i).2]) ∧ Pt U ge g bn bd B s e t w0 w' := by
  obtain ⟨nd, h⟩ := h
  exact (pLeaf h i hg).mono fun r w' ⟨g1, g2⟩ => ⟨g1, nd, g2⟩
theorem ptRoot (h : Pt U ge g bn bd B s e t w0 w) (hT : Tab w) (hB : 3 ≤ B) (i : Int) (hg : gone s e = false) : Calls Tryz.prog 31 #[.pointer (some ⟨ge, 0, none⟩), .int .i64 i] w fun r w' => r = .returned (.tuple #[.string (rootV e.wd e.l i).1, .int .i64 (rootV e.wd e.l i).2]) ∧ Pt U ge g bn bd B s e t w0 w' := by
  obtain ⟨nd, h⟩ := h
  refine (pRoot h hT hB i hg).mono ?_
  rintro r w' ⟨g1, g2⟩
  refine ⟨g1, ?_⟩
  unfold rootE at g2
  split at g2
  · exact ⟨_, g2⟩
  · exact ⟨nd, g2⟩
theorem ptNode (h : Pt U ge g bn bd B s e t w0 w) (hT : Tab w) (L I : Int) (hL : i64 L) (hI : i64 I) (hg : gone s e = false) : Calls Tryz.prog 40 #[.pointer (some ⟨ge, 0, none⟩), .agg #[.int .i64 L, .int .i64 I]] w fun r w' => r = .returned (.tuple #[.string (NT e.wd L I e.l), .int .i64 (NE L I e.l)]) ∧ Pt U ge g bn bd B s e t w0 w' := by
  obtain ⟨nd, h⟩ := h
  refine (pNode h hT L I hL hI hg).mono ?_
  rintro r w' ⟨g1, g2⟩
  refine ⟨g1, ?_⟩
  unfold nodeE at g2
  split at g2
  · exact ⟨_, g2⟩
  · exact ⟨nd, g2⟩
theorem Pt.tab (h : Pt U ge g bn bd B s e t w0 w) (hT : Tab w0) (hB : 3 ≤ B) : Tab w := by
  obtain ⟨nd, h⟩ := h
  exact One.tab h hT hB
theorem Pt.ok (h : Pt U ge g bn bd B s e t w0 w) : OkE e := by
  obtain ⟨nd, h⟩ := h
  obtain ⟨F, hP⟩ := One.get (One.fst h)
  have := (oOk hP).2
  exact ⟨this.sp, this.wd, this.len, this.sz⟩
set_option maxRecDepth 100000 in
set_option maxHeartbeats 12800000 in
theorem rightC (h : Pt U ge g bn bd B s e t w0 w) (hT : Tab w0) (hB : 3 ≤ B) (hg : gone s e = false) (la : Option Addr) (m lc : Nat) (HM : Hid (e.l.length = m)) (hRd : ∀ w1, Pt U ge g bn bd B s e t w0 w1 → ReadsT w1 (.slice la m lc) e.l) (wd : Int) (hwd : e.wd = wd) (n L I : Int) (hL : i64 L) (hI : i64 I) :
    Calls Tryz.prog 14 #[.pointer (some ⟨ge, 0, none⟩), .int .i64 wd, .slice la m lc, .int .i64 n, .agg #[.int .i64 L, .int .i64 I]] w fun r w' => r = .returned (.bool true) ∧ Pt U ge g bn bd B s e t w0 w' := by
  have hok := h.ok
  have HOK : Hid (OkE e) := hok
  have hml : (m : Int) ≤ 1099511627776 := by have := hok.len; rw [HM.out] at this; omega
  obtain ⟨W, HW⟩ : ∃ W, Hid (w.alloc (.cells #[.int .i64 L, .int .i64 I] 38) = W) := ⟨_, rfl⟩
  have bW : Below w.heap.size w W := by rw [← HW.out]; exact new1 _ _
  have hz : W.heap[w.heap.size]? = some (.cells #[.int .i64 L, .int .i64 I] 38 (0, 0)) := by rw [← HW.out]; exact heap_alloc_new w _
  obtain ⟨ob, HOB⟩ : ∃ ob, Hid (Obj.cells #[.int .i64 L, .int .i64 I] 38 (0, 0) = ob) := ⟨_, rfl⟩
  have hz' : W.heap[w.heap.size]? = some ob := by rw [← HOB.out]; exact hz
  -- the engine, and the address's box beside it
  have hPW := h.later bW
  have key : Pt (pairO U (BlkO w.heap.size)) ge g bn bd B s e (t, ob) w0 W := by
    obtain ⟨nd, F, h1, h2, h3, h4⟩ := h
    have hsz : B ≤ w.heap.size := Nat.le_trans h4 h3.size
    obtain ⟨F1, F2, a1, a2, a3, a4⟩ := h1
    refine ⟨nd, fun k => F1 k ∨ (F2 k ∨ k = w.heap.size), ⟨F1, fun k => F2 k ∨ k = w.heap.size, (EnO ge g bn bd).keep a1 (Kp.of_below (A := fun _ => False) bW) (fun _ _ e => e), ⟨F2, fun k => k = w.heap.size, U.keep a2 (Kp.of_below (A := fun _ => False) bW) (fun _ _ e => e), ⟨hz', fun k => Iff.rfl⟩, fun k hk e => by have := U.lt a2 k hk; omega, fun k => Iff.rfl⟩, fun k hk hf => ?_, fun k => Iff.rfl⟩, fun k hk => ?_, ov h3 (dn bW hsz), h4⟩
    · rcases hf with hf | hf
      · exact a3 k hk hf
      · have := (EnO ge g bn bd).lt a1 k hk; omega
    · rcases hk with hk | hk | hk
      · exact h2 k ((a4 k).2 (.inl hk))
      · exact h2 k ((a4 k).2 (.inr hk))
      · omega
  have DOWN : Hid (∀ w1, Pt (pairO U (BlkO w.heap.size)) ge g bn bd B s e (t, ob) w0 w1 → Pt U ge g bn bd B s e t w0 w1 ∧ w1.cell? ⟨w.heap.size, 0, none⟩ = some (.int .i64 L) ∧ w1.cell? ⟨w.heap.size, 1, none⟩ = some (.int .i64 I)) := fun w1 hh => by
    obtain ⟨nd, F, h1, h2, h3, h4⟩ := hh
    obtain ⟨F1, F2, a1, ⟨G1, G2, c1, c2, c3, c4⟩, a3, a4⟩ := h1
    refine ⟨⟨nd, fun k => F1 k ∨ G1 k, ⟨F1, G1, a1, c1, fun k hk hf => a3 k hk ((c4 k).2 (.inl hf)), fun k => Iff.rfl⟩, fun k hk => ?_, h3, h4⟩, cell_of_row _ _ 0 _ _ _ (c2.1.trans (congrArg some HOB.out.symm)), cell_of_row _ _ 1 _ _ _ (c2.1.trans (congrArg some HOB.out.symm))⟩
    rcases hk with hk | hk
    · exact h2 k ((a4 k).2 (.inl hk))
    · exact h2 k ((a4 k).2 (.inr ((c4 k).2 (.inl hk))))
  have K0 : Hid _ := key
  obtain ⟨V, HV⟩ : ∃ V, Hid (V = pairO U (BlkO w.heap.size)) := ⟨_, rfl⟩
  rw [← HV.out] at K0 DOWN
  have HRD : Hid (∀ w1, Pt V ge g bn bd B s e (t, ob) w0 w1 → ReadsT w1 (.slice la m lc) e.l) := fun w1 hh => hRd w1 (DOWN.out w1 hh).1
  have CSZ : Hid (∀ w1, Pt V ge g bn bd B s e (t, ob) w0 w1 → Calls Tryz.prog 21 #[.pointer (some ⟨ge, 0, none⟩)] w1 fun r w' => r = .returned (.int .i64 (m : Nat)) ∧ w' = w1) := fun w1 hh => by
    have C := ptSize hh
    rw [HM.out] at C
    exact C
  have CLF : Hid (∀ w1 (i : Nat) x, Pt V ge g bn bd B s e (t, ob) w0 w1 → i < m → e.l[i]? = some x → Calls Tryz.prog 30 #[.pointer (some ⟨ge, 0, none⟩), .int .i64 i] w1 fun r w' => r = .returned (.tuple #[.string x, .int .i64 0]) ∧ Pt V ge g bn bd B s e (t, ob) w0 w') := fun w1 i x hh hi hx => by
    have C := ptLeaf hh (i : Int) hg
    have e1 : leafV e.l i = (x, 0) := by
      unfold leafV
      rw [if_pos ⟨by omega, by rw [HM.out]; omega⟩, Int.toNat_natCast, List.getD, hx]; rfl
    rw [e1] at C
    exact C
  have CRT : Hid (∀ w1 (k : Nat), Pt V ge g bn bd B s e (t, ob) w0 w1 → k ≤ m → Calls Tryz.prog 31 #[.pointer (some ⟨ge, 0, none⟩), .int .i64 k] w1 fun r w' => r = .returned (.tuple #[.string (RT wd (e.l.take k)), .int .i64 0]) ∧ Pt V ge g bn bd B s e (t, ob) w0 w') := fun w1 k hh hk => by
    have C := ptRoot hh (hh.tab hT hB) hB (k : Int) hg
    have e1 : rootV e.wd e.l k = (RT wd (e.l.take k), 0) := by
      unfold rootV
      rw [if_pos ⟨by omega, by rw [HM.out]; omega⟩, Int.toNat_natCast, hwd]
    rw [e1] at C
    exact C
  have CND : Hid (∀ w1, Pt V ge g bn bd B s e (t, ob) w0 w1 → Calls Tryz.prog 40 #[.pointer (some ⟨ge, 0, none⟩), .agg #[.int .i64 L, .int .i64 I]] w1 fun r w' => r = .returned (.tuple #[.string (NT wd L I e.l), .int .i64 (NE L I e.l)]) ∧ Pt V ge g bn bd B s e (t, ob) w0 w') := fun w1 hh => by
    have C := ptNode hh (hh.tab hT hB) L I hL hI hg
    rw [hwd] at C
    exact C
  have hwi : i64 wd := by have := hok.wd; rw [hwd] at this; exact ⟨by omega, by omega⟩
  have CMR : Hid (∀ w1 (k c' : Nat), Pt V ge g bn bd B s e (t, ob) w0 w1 → k ≤ m → k ≤ c' → Calls Tryz.prog 32 #[.int .i64 wd, .slice la k c'] w1 fun r w' => r = .returned (.string (RT wd (e.l.take k))) ∧ Pt V ge g bn bd B s e (t, ob) w0 w') := fun w1 k c' hh hk hc => by
    refine (mb.rootC wd _ _ _ hwi (hh.tab hT hB) (reads_take (HRD.out w1 hh) (by rw [HM.out]; exact hk) c' hc) ((ok_fits hok).take k)).mono ?_
    rintro r w' ⟨g1, g2⟩
    exact ⟨g1, hh.later g2⟩
  have CMN : Hid (∀ w1, Pt V ge g bn bd B s e (t, ob) w0 w1 → Calls Tryz.prog 41 #[.int .i64 wd, .agg #[.int .i64 L, .int .i64 I], .slice la m lc] w1 fun r w' => r = .returned (.tuple #[.string (NT wd L I e.l), .int .i64 (NE L I e.l)]) ∧ Pt V ge g bn bd B s e (t, ob) w0 w') := fun w1 hh => by
    refine (me.nodeC wd L I _ _ _ hwi hL hI (hh.tab hT hB) (HRD.out w1 hh) (ok_fits hok)).mono ?_
    rintro r w' ⟨g1, g2⟩
    exact ⟨g1, hh.later g2⟩
  have HCAP : Hid (m ≤ lc) := by
    obtain ⟨_, _, e', h5, _⟩ := HRD.out W K0.out
    injection e' with _ _ e3
    rw [e3, ← HM.out]; exact h5
  have HNONE : Hid (la = none → m = 0) := by
    rintro rfl
    obtain ⟨_, _, e', _, h0 | ⟨b, off, e4, _⟩⟩ := HRD.out W K0.out
    · rw [← HM.out]; exact h0
    · injection e' with e1 _ _
      rw [← e1] at e4; cases e4
  obtain ⟨rm, HRM⟩ : ∃ x, Hid (RT wd (e.l.take m) = x) := ⟨_, rfl⟩
  obtain ⟨nt, HNT⟩ : ∃ x, Hid (NT wd L I e.l = x) := ⟨_, rfl⟩
  obtain ⟨ne, HNE⟩ : ∃ x, Hid (NE L I e.l = x) := ⟨_, rfl⟩
  rw [HNT.out, HNE.out] at CND CMN
  have CRM : Hid (∀ w1, Pt V ge g bn bd B s e (t, ob) w0 w1 → Calls _ _ _ _ _) := fun w1 hh => CRT.out w1 m hh (Nat.le_refl _)
  have CMM : Hid (∀ w1, Pt V ge g bn bd B s e (t, ob) w0 w1 → Calls _ _ _ _ _) := fun w1 hh => CMR.out w1 m lc hh (Nat.le_refl _) HCAP.out
  rw [HRM.out] at CRM CMM
  have r1 : (rm.toList == rm.toList) = true := by simp
  have r2 : (nt.toList == nt.toList) = true := by simp
  clear h hok bW hz hz' hPW key hRd HRM HNT HNE HOB
  have TAIL : True := trivial
  by_cases hn : 0 ≤ n ∧ n ≤ m
  · obtain ⟨k, rfl⟩ : ∃ k : Nat, n = k := ⟨n.toNat, by omega⟩
    have hk : k ≤ m := by omega
    obtain ⟨rk, HRK⟩ : ∃ x, Hid (RT wd (e.l.take k) = x) := ⟨_, rfl⟩
    have CRK : Hid (∀ w1, Pt V ge g bn bd B s e (t, ob) w0 w1 → Calls _ _ _ _ _) := fun w1 hh => CRT.out w1 k hh hk
    have CMK : Hid (∀ w1, Pt V ge g bn bd B s e (t, ob) w0 w1 → Calls _ _ _ _ _) := fun w1 hh => CMR.out w1 k lc hh hk (by have := HCAP.out; omega)
    rw [HRK.out] at CRK CMK
    have r3 : (rk.toList == rk.toList) = true := by simp
    have g1 : decide ((k : Int) ≥ 0) = true := decide_eq_true (by omega)
    have g2 : decide ((k : Int) ≤ m) = true := decide_eq_true (by omega)
    have hkc : (k : Int) ≤ lc := by have := HCAP.out; omega
    clear hn HRK CRT CMR
    go_enter Tryz.func14, Tryz.ntmps14
    go_upto_region 1 with fail
    rw [HW.out]
    go_wp2_with (first | (go_at_call 21; refine (CSZ.out _ K0.out).mono ?_; rintro _ _ ⟨rfl, hw⟩; rw [hw]; clear hw) | go_in)
    go_loopw [11] (fun iv wr => ∃ i : Nat, i ≤ m ∧ iv = .int .i64 i ∧ Hid (Pt V ge g bn bd B s e (t, ob) w0 wr)) (fun iv _ => (m - intOf iv).toNat)
    case atStart => exact ⟨0, by omega, rfl, K0⟩
    case round =>
      obtain ⟨i, hi, rfl, HH⟩ := hrel
      by_cases hlt : i < m
      · have hlt' : (i : Int) < m := by omega
        have hix : i < e.l.length := by rw [HM.out]; exact hlt
        obtain ⟨x, hx⟩ : ∃ x, e.l[i]? = some x := ⟨_, List.getElem?_eq_getElem hix⟩
        have C1 : Hid (Calls _ _ _ _ _) := CLF.out wr i x HH.out hlt hx
        have HCX : Hid (∀ w1, Pt V ge g bn bd B s e (t, ob) w0 w1 → ∃ b off, la = some ⟨b, off, none⟩ ∧ w1.cell? ⟨b, off + i, none⟩ = some (.string x)) := fun w1 hh => by
          obtain ⟨a', cap', e', _, h0 | ⟨b, off, e4, hq⟩⟩ := HRD.out w1 hh
          · omega
          · injection e' with e1 _ _
            refine ⟨b, off, by rw [e1]; exact e4, ?_⟩
            rw [hq i hix, List.getD, hx]; rfl
        have hxx : (x.toList == x.toList) = true := by simp
        obtain ⟨b, off, hla, _⟩ := HCX.out wr HH.out
        subst hla
        clear hx
        go_upto_region 7 with (first | (go_at_call 30; refine C1.out.mono ?_; rintro _ w2 ⟨rfl, h2⟩; have H2 : Hid (Pt V ge g bn bd B s e (t, ob) w0 w2) := h2; clear h2) | go_in)
        obtain ⟨b', off', eb, c2⟩ := HCX.out w2 H2.out
        have eb1 : b = b' ∧ off = off' := by injection eb with eb; injection eb with e1 e2 _; exact ⟨e1, e2⟩
        rw [← eb1.1, ← eb1.2] at c2
        clear eb eb1
        go_wp2
        go_roundw
        case rel => exact ⟨i + 1, by omega, by go_num, H2.out⟩
        case measure => simp [intOf]; omega
      · have hlt' : ¬ (i : Int) < m := by omega
        have HB2 : Hid (∀ w1, Pt V ge g bn bd B s e (t, ob) w0 w1 → w1.cell? ⟨w.heap.size, 0, none⟩ = some (.int .i64 L) ∧ w1.cell? ⟨w.heap.size, 1, none⟩ = some (.int .i64 I)) := fun w1 hh => (DOWN.out w1 hh).2
        go_upto_region 14 with (first
          | (go_at_call 31; first
            | (refine (CRK.out _ HH.out).mono ?_; rintro _ w2 ⟨rfl, h2⟩; have H2 : Hid (Pt V ge g bn bd B s e (t, ob) w0 w2) := h2; clear h2 CRK)
            | (refine (CRM.out _ H3.out).mono ?_; rintro _ w4 ⟨rfl, h4⟩; have H4 : Hid (Pt V ge g bn bd B s e (t, ob) w0 w4) := h4; clear h4))
          | (go_at_call 32; refine (CMK.out _ H2.out).mono ?_; rintro _ w3 ⟨rfl, h3⟩; have H3 : Hid (Pt V ge g bn bd B s e (t, ob) w0 w3) := h3; clear h3)
          | go_in)
        obtain ⟨d0, d1⟩ := HB2.out w4 H4.out
        go_upto_region 15 with (first | (go_at_call 40; refine (CND.out _ H4.out).mono ?_; rintro _ w5 ⟨rfl, h5⟩; have H5 : Hid (Pt V ge g bn bd B s e (t, ob) w0 w5) := h5; clear h5) | go_in)
        obtain ⟨f0, f1⟩ := HB2.out w5 H5.out
        go_wp2_with (first
          | (go_at_call 41; refine (CMN.out _ H5.out).mono ?_; rintro _ w6 ⟨rfl, h6⟩; have H6 : Hid (Pt V ge g bn bd B s e (t, ob) w0 w6) := h6; clear h6)
          | (go_at_call 32; refine (CMM.out _ H6.out).mono ?_; rintro _ w7 ⟨rfl, h7⟩; have H7 : Hid (Pt V ge g bn bd B s e (t, ob) w0 w7) := h7; clear h7)
          | go_in)
        go_ret
        exact ⟨rfl, (DOWN.out _ H7.out).1⟩
  · clear CRT CMR
    by_cases hn0 : 0 ≤ n
    · have g1 : decide (n ≥ 0) = true := decide_eq_true (by omega)
      have g2 : decide (n ≤ m) = false := decide_eq_false (fun h => hn ⟨hn0, h⟩)
      clear hn hn0
      go_enter Tryz.func14, Tryz.ntmps14
      go_upto_region 1 with fail
      rw [HW.out]
      go_wp2_with (first | (go_at_call 21; refine (CSZ.out _ K0.out).mono ?_; rintro _ _ ⟨rfl, hw⟩; rw [hw]; clear hw) | go_in)
      go_loopw [11] (fun iv wr => ∃ i : Nat, i ≤ m ∧ iv = .int .i64 i ∧ Hid (Pt V ge g bn bd B s e (t, ob) w0 wr)) (fun iv _ => (m - intOf iv).toNat)
      case atStart => exact ⟨0, by omega, rfl, K0⟩
      case round =>
        obtain ⟨i, hi, rfl, HH⟩ := hrel
        by_cases hlt : i < m
        · have hlt' : (i : Int) < m := by omega
          have hix : i < e.l.length := by rw [HM.out]; exact hlt
          obtain ⟨x, hx⟩ : ∃ x, e.l[i]? = some x := ⟨_, List.getElem?_eq_getElem hix⟩
          have C1 : Hid (Calls _ _ _ _ _) := CLF.out wr i x HH.out hlt hx
          have HCX : Hid (∀ w1, Pt V ge g bn bd B s e (t, ob) w0 w1 → ∃ b off, la = some ⟨b, off, none⟩ ∧ w1.cell? ⟨b, off + i, none⟩ = some (.string x)) := fun w1 hh => by
            obtain ⟨a', cap', e', _, h0 | ⟨b, off, e4, hq⟩⟩ := HRD.out w1 hh
            · omega
            · injection e' with e1 _ _
              refine ⟨b, off, by rw [e1]; exact e4, ?_⟩
              rw [hq i hix, List.getD, hx]; rfl
          have hxx : (x.toList == x.toList) = true := by simp
          obtain ⟨b, off, hla, _⟩ := HCX.out wr HH.out
          subst hla
          clear hx
          go_upto_region 7 with (first | (go_at_call 30; refine C1.out.mono ?_; rintro _ w2 ⟨rfl, h2⟩; have H2 : Hid (Pt V ge g bn bd B s e (t, ob) w0 w2) := h2; clear h2) | go_in)
          obtain ⟨b', off', eb, c2⟩ := HCX.out w2 H2.out
          have eb1 : b = b' ∧ off = off' := by injection eb with eb; injection eb with e1 e2 _; exact ⟨e1, e2⟩
          rw [← eb1.1, ← eb1.2] at c2
          clear eb eb1
          go_wp2
          go_roundw
          case rel => exact ⟨i + 1, by omega, by go_num, H2.out⟩
          case measure => simp [intOf]; omega
        · have hlt' : ¬ (i : Int) < m := by omega
          have HB2 : Hid (∀ w1, Pt V ge g bn bd B s e (t, ob) w0 w1 → w1.cell? ⟨w.heap.size, 0, none⟩ = some (.int .i64 L) ∧ w1.cell? ⟨w.heap.size, 1, none⟩ = some (.int .i64 I)) := fun w1 hh => (DOWN.out w1 hh).2
          go_upto_region 14 with (first
            | (go_at_call 31; refine (CRM.out _ HH.out).mono ?_; rintro _ w4 ⟨rfl, h4⟩; have H4 : Hid (Pt V ge g bn bd B s e (t, ob) w0 w4) := h4; clear h4)
            | go_in)
          obtain ⟨d0, d1⟩ := HB2.out w4 H4.out
          go_upto_region 15 with (first | (go_at_call 40; refine (CND.out _ H4.out).mono ?_; rintro _ w5 ⟨rfl, h5⟩; have H5 : Hid (Pt V ge g bn bd B s e (t, ob) w0 w5) := h5; clear h5) | go_in)
          obtain ⟨f0, f1⟩ := HB2.out w5 H5.out
          go_wp2_with (first
            | (go_at_call 41; refine (CMN.out _ H5.out).mono ?_; rintro _ w6 ⟨rfl, h6⟩; have H6 : Hid (Pt V ge g bn bd B s e (t, ob) w0 w6) := h6; clear h6)
            | (go_at_call 32; refine (CMM.out _ H6.out).mono ?_; rintro _ w7 ⟨rfl, h7⟩; have H7 : Hid (Pt V ge g bn bd B s e (t, ob) w0 w7) := h7; clear h7)
            | go_in)
          go_ret
          exact ⟨rfl, (DOWN.out _ H7.out).1⟩
    · have g1 : decide (n ≥ 0) = false := decide_eq_false (by omega)
      clear hn hn0
      go_enter Tryz.func14, Tryz.ntmps14
      go_upto_region 1 with fail
      rw [HW.out]
      go_wp2_with (first | (go_at_call 21; refine (CSZ.out _ K0.out).mono ?_; rintro _ _ ⟨rfl, hw⟩; rw [hw]; clear hw) | go_in)
      go_loopw [11] (fun iv wr => ∃ i : Nat, i ≤ m ∧ iv = .int .i64 i ∧ Hid (Pt V ge g bn bd B s e (t, ob) w0 wr)) (fun iv _ => (m - intOf iv).toNat)
      case atStart => exact ⟨0, by omega, rfl, K0⟩
      case round =>
        obtain ⟨i, hi, rfl, HH⟩ := hrel
        by_cases hlt : i < m
        · have hlt' : (i : Int) < m := by omega
          have hix : i < e.l.length := by rw [HM.out]; exact hlt
          obtain ⟨x, hx⟩ : ∃ x, e.l[i]? = some x := ⟨_, List.getElem?_eq_getElem hix⟩
          have C1 : Hid (Calls _ _ _ _ _) := CLF.out wr i x HH.out hlt hx
          have HCX : Hid (∀ w1, Pt V ge g bn bd B s e (t, ob) w0 w1 → ∃ b off, la = some ⟨b, off, none⟩ ∧ w1.cell? ⟨b, off + i, none⟩ = some (.string x)) := fun w1 hh => by
            obtain ⟨a', cap', e', _, h0 | ⟨b, off, e4, hq⟩⟩ := HRD.out w1 hh
            · omega
            · injection e' with e1 _ _
              refine ⟨b, off, by rw [e1]; exact e4, ?_⟩
              rw [hq i hix, List.getD, hx]; rfl
          have hxx : (x.toList == x.toList) = true := by simp
          obtain ⟨b, off, hla, _⟩ := HCX.out wr HH.out
          subst hla
          clear hx
          go_upto_region 7 with (first | (go_at_call 30; refine C1.out.mono ?_; rintro _ w2 ⟨rfl, h2⟩; have H2 : Hid (Pt V ge g bn bd B s e (t, ob) w0 w2) := h2; clear h2) | go_in)
          obtain ⟨b', off', eb, c2⟩ := HCX.out w2 H2.out
          have eb1 : b = b' ∧ off = off' := by injection eb with eb; injection eb with e1 e2 _; exact ⟨e1, e2⟩
          rw [← eb1.1, ← eb1.2] at c2
          clear eb eb1
          go_wp2
          go_roundw
          case rel => exact ⟨i + 1, by omega, by go_num, H2.out⟩
          case measure => simp [intOf]; omega
        · have hlt' : ¬ (i : Int) < m := by omega
          have HB2 : Hid (∀ w1, Pt V ge g bn bd B s e (t, ob) w0 w1 → w1.cell? ⟨w.heap.size, 0, none⟩ = some (.int .i64 L) ∧ w1.cell? ⟨w.heap.size, 1, none⟩ = some (.int .i64 I)) := fun w1 hh => (DOWN.out w1 hh).2
          go_upto_region 14 with (first
            | (go_at_call 31; refine (CRM.out _ HH.out).mono ?_; rintro _ w4 ⟨rfl, h4⟩; have H4 : Hid (Pt V ge g bn bd B s e (t, ob) w0 w4) := h4; clear h4)
            | go_in)
          obtain ⟨d0, d1⟩ := HB2.out w4 H4.out
          go_upto_region 15 with (first | (go_at_call 40; refine (CND.out _ H4.out).mono ?_; rintro _ w5 ⟨rfl, h5⟩; have H5 : Hid (Pt V ge g bn bd B s e (t, ob) w0 w5) := h5; clear h5) | go_in)
          obtain ⟨f0, f1⟩ := HB2.out w5 H5.out
          go_wp2_with (first
            | (go_at_call 41; refine (CMN.out _ H5.out).mono ?_; rintro _ w6 ⟨rfl, h6⟩; have H6 : Hid (Pt V ge g bn bd B s e (t, ob) w0 w6) := h6; clear h6)
            | (go_at_call 32; refine (CMM.out _ H6.out).mono ?_; rintro _ w7 ⟨rfl, h7⟩; have H7 : Hid (Pt V ge g bn bd B s e (t, ob) w0 w7) := h7; clear h7)
            | go_in)
          go_ret
          exact ⟨rfl, (DOWN.out _ H7.out).1⟩
end
end Go.Proofs.YtofmkdagehehaaaGreatDoor.hj

namespace Go.Proofs.YtofmkdagehehaaaGreatDoor.hk
open Go.RowKit Go.PlainAid Go.Maps Go.Shelf
open Go.Proofs.YtofmkdagehehaaaGreatDoor.kp Go.Proofs.YtofmkdagehehaaaGreatDoor.ka Go.Proofs.YtofmkdagehehaaaGreatDoor.ya Go.Proofs.YtofmkdagehehaaaGreatDoor.yb Go.Proofs.YtofmkdagehehaaaGreatDoor.yc Go.Proofs.YtofmkdagehehaaaGreatDoor.yd Go.Proofs.YtofmkdagehehaaaGreatDoor.ye Go.Proofs.YtofmkdagehehaaaGreatDoor.yf Go.Proofs.YtofmkdagehehaaaGreatDoor.yg Go.Proofs.YtofmkdagehehaaaGreatDoor.yi Go.Proofs.YtofmkdagehehaaaGreatDoor.yj Go.Proofs.YtofmkdagehehaaaGreatDoor.yk Go.Proofs.YtofmkdagehehaaaGreatDoor.yl Go.Proofs.YtofmkdagehehaaaGreatDoor.ym
open Go.Proofs.YtofmkdagehehaaaGreatDoor.tqa Go.Proofs.YtofmkdagehehaaaGreatDoor.tba Go.Proofs.YtofmkdagehehaaaGreatDoor.tbc Go.Proofs.YtofmkdagehehaaaGreatDoor.tbd Go.Proofs.YtofmkdagehehaaaGreatDoor.tbe
open Go.Proofs.YtofmkdagehehaaaGreatDoor.tbf (okI kind_is)
open Go.Proofs.YtofmkdagehehaaaGreatDoor.cp (own_later i64)
open Go.Proofs.YtofmkdagehehaaaGreatDoor.tqb (over)
open Go.Proofs.YtofmkdagehehaaaGreatDoor.ea Go.Proofs.YtofmkdagehehaaaGreatDoor.eb Go.Proofs.YtofmkdagehehaaaGreatDoor.ec Go.Proofs.YtofmkdagehehaaaGreatDoor.ed Go.Proofs.YtofmkdagehehaaaGreatDoor.ee Go.Proofs.YtofmkdagehehaaaGreatDoor.ef Go.Proofs.YtofmkdagehehaaaGreatDoor.eg Go.Proofs.YtofmkdagehehaaaGreatDoor.eh Go.Proofs.YtofmkdagehehaaaGreatDoor.ei Go.Proofs.YtofmkdagehehaaaGreatDoor.ej Go.Proofs.YtofmkdagehehaaaGreatDoor.ek Go.Proofs.YtofmkdagehehaaaGreatDoor.el Go.Proofs.YtofmkdagehehaaaGreatDoor.ha Go.Proofs.YtofmkdagehehaaaGreatDoor.hb Go.Proofs.YtofmkdagehehaaaGreatDoor.hc Go.Proofs.YtofmkdagehehaaaGreatDoor.hd Go.Proofs.YtofmkdagehehaaaGreatDoor.hf Go.Proofs.YtofmkdagehehaaaGreatDoor.hg Go.Proofs.YtofmkdagehehaaaGreatDoor.hh Go.Proofs.YtofmkdagehehaaaGreatDoor.hi Go.Proofs.YtofmkdagehehaaaGreatDoor.hj
open Go.Proofs.YtofmkdagehehaaaGreatDoor.pj (Tab)
set_option linter.unusedVariables false
set_option linter.unusedSimpArgs false
-- an engine whose leaves alone stand in the store
structure Gm (s : S) (e : E) (c sp : Int) (list : List ByteArray) : Prop where
  ow : ∃ l1 xs, Ow s sp l1 xs ∧ l1 ++ xs = list
  l : e.l = list
  sp : e.sp = sp
  g : gone s e = false
  a : s.armed = 0
  c : s.cap = c
theorem Gm.nd {s : S} {e : E} {c sp : Int} {list : List ByteArray} (h : Gm s e c sp list) (nd : Int) : Gm s { e with nd := nd } c sp list := ⟨h.ow, h.l, h.sp, h.g, h.a, h.c⟩
theorem Gm.lens {s : S} {e : E} {c sp : Int} {list : List ByteArray} (h : Gm s e c sp list) : s.dur.length + s.pend.length + 1024 < 3518437208883 ∧ e.l.length + 1024 ≤ 1099511627776 ∧ 2 * (s.dur.length + s.pend.length) + 1 < 3518437208883 ∧ list.length + 1024 ≤ 30000000 := by
  obtain ⟨l1, xs, ho, e1⟩ := h.ow
  have h1 := ho.len
  rw [e1] at h1
  have h2 : s.dur.length + s.pend.length = list.length := by
    rw [ho.dur, ho.pend, ← e1]
    simp [prs, enm_len]
  rw [h2, h.l]
  omega
theorem Gm.app {s : S} {e : E} {c sp : Int} {list ys : List ByteArray} (h : Gm s e c sp list) : ((appS s e ys).1 = 0 → Gm (appS s e ys).2.1 (appS s e ys).2.2 c sp (list ++ ys) ∧ ys.length ≤ 1024 ∧ ys.length ≠ 0 ∧ (appS s e ys).2.2.wd = e.wd) ∧ ((appS s e ys).1 ≠ 0 → (appS s e ys).2 = (s, e)) := by
  obtain ⟨l1, xs, ho, e1⟩ := h.ow
  have ho' := ho
  rw [← h.sp] at ho'
  rcases ho'.app (ys := ys) (h.l.trans e1.symm) h.g with ⟨hb, he⟩ | ⟨hb, hf, he⟩ | ⟨hb, hf, _, s', he, h2, h3, h4, h5, h6⟩ | ⟨_, h1, _⟩
  · rw [he]; exact ⟨fun h0 => absurd h0 hb, fun _ => rfl⟩
  · rw [he]; exact ⟨(fun h0 => by cases h0), fun _ => rfl⟩
  · rw [he]
    obtain ⟨b1, b2, b3, b4⟩ := batch_ok hb
    rw [h.sp] at h2
    refine ⟨fun _ => ⟨⟨⟨l1, xs ++ ys, h2, by rw [← List.append_assoc, e1]⟩, by show e.l ++ ys = _; rw [h.l], h.sp, ?_, by rw [h6, h.a]; simp, h3.trans h.c⟩, b2, b1, rfl⟩, fun h0 => absurd rfl h0⟩
    have := h.g
    unfold gone at this ⊢
    rw [h4, h5]
    have := (Bool.or_eq_false_iff.1 this).2
    simpa using this
  · rw [h.a] at h1; omega
theorem Gm.off {s : S} {e : E} {c sp : Int} {list : List ByteArray} (h : Gm s e c sp list) : s.off = false := by
  have := h.g
  unfold gone at this
  exact (Bool.or_eq_false_iff.1 this).1
theorem Gm.sync {s : S} {e : E} {c sp : Int} {list : List ByteArray} (h : Gm s e c sp list) : (syncS s).1 = 0 ∧ Gm (syncS s).2 e c sp list := by
  obtain ⟨l1, xs, ho, e1⟩ := h.ow
  rcases ho.sync h.off with ⟨h1, _⟩ | ⟨_, s', he, h2, h3, h4, h5, h6⟩
  · rw [h.a] at h1; cases h1
  · rw [he]
    refine ⟨rfl, ⟨⟨l1 ++ xs, [], h2, by simpa using e1⟩, h.l, h.sp, ?_, by rw [h6, h.a], h3.trans h.c⟩⟩
    have := h.g
    unfold gone at this ⊢
    rw [h4, h5]
    have := (Bool.or_eq_false_iff.1 this).2
    simpa using this
theorem Gm.opens {s : S} {e : E} {c sp : Int} {list : List ByteArray} (h : Gm s e c sp list) : okI sp ∧ IsSt s sp list ∧ purgeS s sp list.length = (0, s) := by
  obtain ⟨l1, xs, ho, e1⟩ := h.ow
  have hn := ho.now
  have hb := ho.bnd
  have hlen := ho.len
  rw [e1] at hn hb hlen
  have hn' : now s = prs sp (enm 0 list ++ []) := by rw [List.append_nil]; exact hn
  have ha' : Asc (enm 0 list ++ []) := by rw [List.append_nil]; exact asc_enm _ _
  have hb' : Bnd (enm 0 list ++ []) := by rw [List.append_nil]; exact hb
  refine ⟨ho.oks, st_prs h.off ho.oks ha' hb' hn' (fun p hp => by cases hp) (by omega), ?_⟩
  obtain ⟨s', cs, e2, e3, _, _, _, e4⟩ := purge_prs h.off h.a ho.oks ha' hb' hn' (fun p hp => by cases hp)
  rw [e2, e3, e4 rfl]
  simp
theorem Gm.again {s : S} {e : E} {c sp : Int} {list : List ByteArray} (h : Gm s e c sp list) (wd : Int) : Gm s ⟨sp, s.age, wd, list, 0⟩ c sp list := ⟨h.ow, rfl, rfl, by unfold gone; rw [h.off]; simp, h.a, h.c⟩
theorem Gm.new {c sp wd : Int} (hs : okI sp) (hc : 0 ≤ c ∧ c ≤ 1073741824) : Gm ⟨c, [], [], 0, false, 0⟩ ⟨sp, 0, wd, [], 0⟩ c sp [] := ⟨⟨[], [], Ow.new hs hc.1 hc.2 0, rfl⟩, rfl, rfl, rfl, rfl, rfl⟩
-- lists of lists in memory
def ReadsL (w : World) (v : Value) (bs : List (List ByteArray)) : Prop := ∃ a c, v = .slice a bs.length c ∧ (bs.length = 0 ∨ ∃ b off, a = some ⟨b, off, none⟩ ∧ ∀ i l, bs[i]? = some l → ∃ a' c', w.cell? ⟨b, off + i, none⟩ = some (.slice a' l.length c') ∧ ReadsT w (.slice a' l.length c') l ∧ (a' = none → l.length = 0))
theorem ReadsT.blk {w : World} {a : Option Addr} {m c : Nat} {l : List ByteArray} (h : ReadsT w (.slice a m c) l) : ∀ k, (Value.slice a m c).ownBlock = some k → l ≠ [] → k < w.heap.size := by
  intro k hk hne
  obtain ⟨a', c', e, _, h0 | ⟨b, off, e4, hh⟩⟩ := h
  · exact absurd (List.length_eq_zero_iff.1 h0) hne
  · injection e with e1 _ _
    rw [e1, e4] at hk
    have e : b = k := Option.some.inj hk
    subst e
    exact World.block_lt_of_cell? _ _ (hh 0 (List.length_pos_iff.2 hne))
theorem ReadsL.later {w w' : World} {v : Value} {bs : List (List ByteArray)} (h : ReadsL w v bs) (b : Below w.heap.size w w') : ReadsL w' v bs := by
  obtain ⟨a, c, rfl, h0 | ⟨b', off, rfl, hh⟩⟩ := h
  · exact ⟨a, c, rfl, .inl h0⟩
  · refine ⟨_, c, rfl, .inr ⟨b', off, rfl, fun i l hl => ?_⟩⟩
    obtain ⟨a', c', h1, h2, h3⟩ := hh i l hl
    exact ⟨a', c', (b.cell (World.block_lt_of_cell? _ _ h1)).trans h1, h2.later b, h3⟩
end Go.Proofs.YtofmkdagehehaaaGreatDoor.hk

namespace Go.Proofs.YtofmkdagehehaaaGreatDoor.hl
open Go.RowKit Go.PlainAid Go.Maps Go.Shelf
open Go.Proofs.YtofmkdagehehaaaGreatDoor.kp Go.Proofs.YtofmkdagehehaaaGreatDoor.ka Go.Proofs.YtofmkdagehehaaaGreatDoor.ya Go.Proofs.YtofmkdagehehaaaGreatDoor.yb Go.Proofs.YtofmkdagehehaaaGreatDoor.yc Go.Proofs.YtofmkdagehehaaaGreatDoor.yd Go.Proofs.YtofmkdagehehaaaGreatDoor.ye Go.Proofs.YtofmkdagehehaaaGreatDoor.yf Go.Proofs.YtofmkdagehehaaaGreatDoor.yg Go.Proofs.YtofmkdagehehaaaGreatDoor.yi Go.Proofs.YtofmkdagehehaaaGreatDoor.yj Go.Proofs.YtofmkdagehehaaaGreatDoor.yk Go.Proofs.YtofmkdagehehaaaGreatDoor.yl Go.Proofs.YtofmkdagehehaaaGreatDoor.ym
open Go.Proofs.YtofmkdagehehaaaGreatDoor.tqa Go.Proofs.YtofmkdagehehaaaGreatDoor.tba Go.Proofs.YtofmkdagehehaaaGreatDoor.tbc Go.Proofs.YtofmkdagehehaaaGreatDoor.tbd Go.Proofs.YtofmkdagehehaaaGreatDoor.tbe
open Go.Proofs.YtofmkdagehehaaaGreatDoor.tbf (okI kind_is)
open Go.Proofs.YtofmkdagehehaaaGreatDoor.cp (own_later i64)
open Go.Proofs.YtofmkdagehehaaaGreatDoor.tqb (over)
open Go.Proofs.YtofmkdagehehaaaGreatDoor.ea Go.Proofs.YtofmkdagehehaaaGreatDoor.eb Go.Proofs.YtofmkdagehehaaaGreatDoor.ec Go.Proofs.YtofmkdagehehaaaGreatDoor.ed Go.Proofs.YtofmkdagehehaaaGreatDoor.ee Go.Proofs.YtofmkdagehehaaaGreatDoor.ef Go.Proofs.YtofmkdagehehaaaGreatDoor.eg Go.Proofs.YtofmkdagehehaaaGreatDoor.eh Go.Proofs.YtofmkdagehehaaaGreatDoor.ei Go.Proofs.YtofmkdagehehaaaGreatDoor.ej Go.Proofs.YtofmkdagehehaaaGreatDoor.ek Go.Proofs.YtofmkdagehehaaaGreatDoor.el Go.Proofs.YtofmkdagehehaaaGreatDoor.ha Go.Proofs.YtofmkdagehehaaaGreatDoor.hb Go.Proofs.YtofmkdagehehaaaGreatDoor.hc Go.Proofs.YtofmkdagehehaaaGreatDoor.hd Go.Proofs.YtofmkdagehehaaaGreatDoor.hf Go.Proofs.YtofmkdagehehaaaGreatDoor.hg Go.Proofs.YtofmkdagehehaaaGreatDoor.hh Go.Proofs.YtofmkdagehehaaaGreatDoor.hi Go.Proofs.YtofmkdagehehaaaGreatDoor.hj
open Go.Proofs.YtofmkdagehehaaaGreatDoor.pj (Tab)
open Go.Proofs.YtofmkdagehehaaaGreatDoor.hk
set_option linter.unusedVariables false
set_option linter.unusedSimpArgs false
theorem and1 (i : Nat) (h : i < 4611686018427387904) : bits BinOp.and IntKind.i64 (i : Int) 1 = (i : Int) % 2 := by
  have h1 : (BitVec.ofInt 64 1).toNat = 2 ^ 1 - 1 := by decide
  have key : (BitVec.ofInt 64 (i : Int) &&& BitVec.ofInt 64 1).toNat = ((i : Int) % ((2 ^ 64 : Nat) : Int)).toNat % 2 ^ 1 := by
    rw [BitVec.toNat_and, BitVec.toNat_ofInt, h1, Nat.and_two_pow_sub_one_eq_mod]
  show IntKind.i64.wrap ((BitVec.ofInt 64 (i : Int) &&& BitVec.ofInt 64 1).toNat : Nat) = _
  rw [key, IntKind.wrap_i64]
  omega
set_option maxRecDepth 100000 in
set_option maxHeartbeats 25600000 in
theorem modelW (c x sp : Int) (v : Value) (bs : List (List ByteArray)) (n L I anew : Int) (w : World) (hT : Tab w) (hL : i64 L) (hI : i64 I) (hsp : sp ≤ 9223372036854775807) (hv : ReadsL w v bs) (hbl : bs.length ≤ 140737488355328) (hbz : ∀ l ∈ bs, l.length ≤ 140737488355328) :
    Calls Tryz.prog 4 #[.int .i64 c, .int .i64 x, .int .i64 sp, v, .int .i64 n, .agg #[.int .i64 L, .int .i64 I], .int .i64 anew] w fun r w' => r = .returned (.bool true) ∧ Below w.heap.size w w' := by
  obtain ⟨W0, HW0⟩ : ∃ W, Hid (w.alloc (.cells #[.int .i64 L, .int .i64 I] 38) = W) := ⟨_, rfl⟩
  have b0 : Below w.heap.size w W0 := by rw [← HW0.out]; exact new1 _ _
  have hz0 : W0.heap[w.heap.size]? = some (.cells #[.int .i64 L, .int .i64 I] 38 (0, 0)) := by rw [← HW0.out]; exact heap_alloc_new w _
  have hz0l := (Array.getElem?_eq_some_iff.1 hz0).1
  have HA : Hid (∀ w1, Below W0.heap.size W0 w1 → w1.cell? ⟨w.heap.size, 0, none⟩ = some (.int .i64 L) ∧ w1.cell? ⟨w.heap.size, 1, none⟩ = some (.int .i64 I)) := fun w1 bb => by
    have e1 := (bb.block _ hz0l).trans hz0
    exact ⟨cell_of_row _ _ 0 _ _ _ e1, cell_of_row _ _ 1 _ _ _ e1⟩
  have BW0 : Hid (Below w.heap.size w W0) := b0
  have HT : Hid (∀ w1, Below W0.heap.size W0 w1 → Tab w1) := fun w1 bb => (hT.down b0).down bb
  have CB : Hid (Calls _ _ _ _ _) := begunC W0 (hT.down b0)
  have CO : Hid (∀ w, Calls _ _ _ _ _) := fun w => optsL x w
  have hwq := wq_ok x
  have HWQ : Hid (1 ≤ wq x ∧ wq x ≤ 32) := hwq
  generalize wq x = wd at *
  have HV : Hid (∀ w1, Below W0.heap.size W0 w1 → ReadsL w1 v bs) := fun w1 bb => hv.later (over b0 bb)
  obtain ⟨va, vc, rfl, _⟩ := hv
  obtain ⟨m, HM⟩ : ∃ m, Hid (bs.length = m) := ⟨_, rfl⟩
  rw [HM.out] at hbl HV ⊢
  have hmi : (m : Int) ≤ 140737488355328 := by omega
  have HBZ : Hid _ := hbz
  clear hT b0 hz0 hz0l hwq hbz
  by_cases hc : 0 ≤ c ∧ c ≤ 1073741824
  · have CN : Hid (∀ w1, Calls _ _ _ _ _) := fun w1 => newC c w1 hc
    by_cases hs0 : sp < 0
    · have g0 : decide (sp < 0) = true := decide_eq_true hs0
      clear hc hs0
      go_enter Tryz.func4, Tryz.ntmps4
      go_upto_region 1 with fail
      rw [HW0.out]
      go_wp2_with (first
        | (go_at_call 8; refine CB.out.mono ?_; rintro _ wb ⟨rfl, bb⟩; have BB : Hid (Below W0.heap.size W0 wb) := bb; clear bb)
        | (go_at_call 11; refine (CO.out _).mono ?_; rintro _ w2 ⟨rfl, b2⟩; have B2 : Hid (Below W0.heap.size W0 w2) := over BB.out b2; have B3 : Hid (∀ o, Below W0.heap.size W0 (w2.alloc o)) := fun o => over B2.out (new1 w2 o); clear b2)
        | (go_at_call 9; refine (CN.out _).mono ?_; rintro _ w3 ⟨g, bn, bd, rfl, h1, b1⟩; have B4 : Hid (Below W0.heap.size W0 w3) := over (B3.out _) b1; clear h1 b1)
        | go_in)
      go_ret
      exact ⟨rfl, over BW0.out B4.out⟩
    · have g0 : decide (sp < 0) = false := decide_eq_false hs0
      have hs : okI sp := ⟨by omega, hsp⟩
      have HS : Hid (okI sp) := hs
      have HG0 : Hid (Gm ⟨c, [], [], 0, false, 0⟩ ⟨sp, 0, wd, [], 0⟩ c sp []) := Gm.new hs hc
      clear hc hs hs0
      go_enter Tryz.func4, Tryz.ntmps4
      go_upto_region 1 with fail
      rw [HW0.out]
      go_upto_region 3 with (first
        | (go_at_call 8; refine CB.out.mono ?_; rintro _ wb ⟨rfl, bb⟩; have BB : Hid (Below W0.heap.size W0 wb) := bb; clear bb)
        | (go_at_call 11; refine (CO.out _).mono ?_; rintro _ w2 ⟨rfl, b2⟩; have B2 : Hid (Below W0.heap.size W0 w2) := over BB.out b2; clear b2)
        | go_in)
      obtain ⟨W, HW⟩ : ∃ W, Hid (w2.alloc (.cells #[.int .i64 1, .int .i64 wd, .int .i64 0, .int .i64 0, .int .i64 0, .int .i64 0] 31) = W) := ⟨_, rfl⟩
      have bW : Below w2.heap.size w2 W := by rw [← HW.out]; exact new1 _ _
      have hq : W.heap[w2.heap.size]? = some (.cells #[.int .i64 1, .int .i64 wd, .int .i64 0, .int .i64 0, .int .i64 0, .int .i64 0] 31 (0, 0)) := by rw [← HW.out]; exact heap_alloc_new w2 _
      have hql := (Array.getElem?_eq_some_iff.1 hq).1
      have BW : Hid (Below W0.heap.size W0 W) := over B2.out bW
      have HQ : Hid (∀ w1, Below W.heap.size W w1 → (w1.cell? ⟨w2.heap.size, 0, none⟩ = some (.int .i64 1) ∧ w1.cell? ⟨w2.heap.size, 1, none⟩ = some (.int .i64 wd) ∧ w1.cell? ⟨w2.heap.size, 2, none⟩ = some (.int .i64 0) ∧ w1.cell? ⟨w2.heap.size, 3, none⟩ = some (.int .i64 0) ∧ w1.cell? ⟨w2.heap.size, 4, none⟩ = some (.int .i64 0) ∧ w1.cell? ⟨w2.heap.size, 5, none⟩ = some (.int .i64 0)) ∧ (w1.cell? ⟨w.heap.size, 0, none⟩ = some (.int .i64 L) ∧ w1.cell? ⟨w.heap.size, 1, none⟩ = some (.int .i64 I))) := fun w1 bb => by
        have e1 := (bb.block _ hql).trans hq
        exact ⟨⟨cell_of_row _ _ 0 _ _ _ e1, cell_of_row _ _ 1 _ _ _ e1, cell_of_row _ _ 2 _ _ _ e1, cell_of_row _ _ 3 _ _ _ e1, cell_of_row _ _ 4 _ _ _ e1, cell_of_row _ _ 5 _ _ _ e1⟩, HA.out w1 (over BW.out bb)⟩
      have HTW : Hid (Tab W) := HT.out W BW.out
      have HTB : Hid (3 ≤ W.heap.size) := HTW.out.big
      rw [HW.out]
      clear bW hq hql
      go_upto_region 6 with (first
        | (go_at_call 9; refine (CN.out _).mono ?_; rintro _ w3 ⟨g, bn, bd, rfl, h1, b1⟩; have H3 : Hid (Sr W.heap.size g bn bd (.slice none 0 0) ⟨c, [], [], 0, false, 0⟩ w3) := h1; have B3 : Hid (Below W.heap.size W w3) := b1; clear h1 b1)
        | go_in)
      obtain ⟨⟨y0, y1, y2, y3, y4, y5⟩, _⟩ := HQ.out w3 B3.out
      go_upto_region 9 with (first
        | (go_at_call 10; refine (newEngine (c := c) (sp := sp) (wd := wd) HS.out HWQ.out H3.out B3.out (Below.refl _ _)).mono ?_; rintro _ w4 ⟨ge, rfl, h4⟩; have O4 : Hid (One (EnO ge g bn bd) W.heap.size (⟨c, [], [], 0, false, 0⟩, ⟨sp, 0, wd, [], 0⟩) W w4) := h4; clear h4)
        | go_in)
      have O5 : Hid (One (pairO (EnO ge g bn bd) OwnO) W.heap.size ((⟨c, [], [], 0, false, 0⟩, ⟨sp, 0, wd, [], 0⟩), (.slice none 0 0, [])) W w4) := One.put O4.out (G := fun k => some k = (Value.slice none 0 0).ownBlock) ⟨World.ownsRow_nil _ _ _ _, fun k => Iff.rfl⟩ (Below.refl _ _) (fun k hk => by cases hk)
      clear y0 y1 y2 y3 y4 y5 CN CB CO
      go_wp2_with fail
      go_loopw [18, 20, 21] (fun ev lv iv wr => ∃ (i ge : Nat) (la : Option Addr) (lm lc : Nat), i ≤ m ∧ ev = .pointer (some ⟨ge, 0, none⟩) ∧ lv = .slice la lm lc ∧ iv = .int .i64 i ∧ Hid (∃ s e list, One (pairO (EnO ge g bn bd) OwnO) W.heap.size ((s, e), (.slice la lm lc, list)) W wr ∧ Gm s e c sp list ∧ e.wd = wd ∧ list.length = lm)) (fun _ _ iv _ => (m - intOf iv).toNat)
      case atStart => exact ⟨0, ge, none, 0, 0, by omega, rfl, rfl, rfl, _, _, [], O5.out, HG0.out, rfl, rfl⟩
      case round =>
        obtain ⟨i, ge, la, lm, lc, hi, rfl, rfl, rfl, HH⟩ := hrel
        obtain ⟨s, e, list, hO, hG, hwd, hlm⟩ := HH.out
        have OO : Hid _ := hO
        have GG : Hid _ := hG
        have HWD : Hid (e.wd = wd) := hwd
        have HLM : Hid (list.length = lm) := hlm
        have hlm3 : lm + 1024 ≤ 30000000 := by rw [← hlm]; exact hG.lens.2.2.2
        have RGT : Hid (∀ (s : S) (e : E) (list : List ByteArray) (la : Option Addr) (lm lc ge : Nat) w1, One (pairO (EnO ge g bn bd) OwnO) W.heap.size ((s, e), (.slice la lm lc, list)) W w1 → Gm s e c sp list → e.wd = wd → list.length = lm → Calls Tryz.prog 14 #[.pointer (some ⟨ge, 0, none⟩), .int .i64 wd, .slice la lm lc, .int .i64 n, .agg #[.int .i64 L, .int .i64 I]] w1 fun r w' => r = .returned (.bool true) ∧ ∃ nd, One (pairO (EnO ge g bn bd) OwnO) W.heap.size ((s, { e with nd := nd }), (.slice la lm lc, list)) W w') := fun s e list la lm lc ge w1 h1 h2 h3 h4 => by
          refine rightC (Pt.of h1) HTW.out HTB.out h2.g la lm lc (by show _ = _; rw [h2.l]; exact h4) (fun w2 hp => ?_) wd h3 n L I hL hI
          obtain ⟨nd, hp⟩ := hp
          have := own_readsT (pReads hp)
          rw [h2.l]
          exact this
        clear HH hO hG hwd hlm
        by_cases hlt : i < m
        · have hlt' : (i : Int) < m := by omega
          have hix : i < bs.length := by rw [HM.out]; exact hlt
          obtain ⟨l, hl⟩ : ∃ l, bs[i]? = some l := ⟨_, List.getElem?_eq_getElem hix⟩
          have hlz : l.length ≤ 140737488355328 := HBZ.out l (List.mem_of_getElem? hl)
          obtain ⟨ll, HLL⟩ : ∃ ll, Hid (l.length = ll) := ⟨_, rfl⟩
          have hll : (ll : Int) ≤ 140737488355328 := by rw [← HLL.out]; omega
          obtain ⟨b, off, a', c', hva, hcW, hrW⟩ : ∃ b off a' c', va = some ⟨b, off, none⟩ ∧ W.cell? ⟨b, off + i, none⟩ = some (.slice a' ll c') ∧ ReadsT W (.slice a' ll c') l := by
            obtain ⟨a, cc, e1, h0 | ⟨b, off, e2, hh⟩⟩ := HV.out W BW.out
            · have := HM.out; omega
            · obtain ⟨a', c', h1, h2, h3⟩ := hh i l hl
              rw [HLL.out] at h1 h2
              injection e1 with e1 _ _
              exact ⟨b, off, a', c', by rw [e1]; exact e2, h1, h2⟩
          have HCB : Hid (∀ w1, Below W.heap.size W w1 → w1.cell? ⟨b, off + i, none⟩ = some (.slice a' ll c') ∧ ReadsT w1 (.slice a' ll c') l) := fun w1 bb => ⟨(bb.cell (World.block_lt_of_cell? _ _ hcW)).trans hcW, hrW.later bb⟩
          have HRB : Hid (ReadsT wr (.slice a' ll c') l ∧ ∀ k, (Value.slice a' ll c').ownBlock = some k → l ≠ [] → k < W.heap.size) := ⟨(HCB.out wr (One.below OO.out)).2, ReadsT.blk hrW⟩
          have cb := (HCB.out wr (One.below OO.out)).1
          clear hcW hrW
          subst hva
          have CU : Hid (∀ w1, One (pairO (EnO ge g bn bd) OwnO) W.heap.size ((s, e), (.slice la lm lc, list)) W w1 → Calls _ _ _ _ _) := fun w1 h1 => pUsed h1
          have CAP : Hid (Calls _ _ _ _ _) := pApp OO.out a' c' l ll HLL HRB.out.1 HRB.out.2 (by omega) GG.out.lens.1 GG.out.lens.2.1
          have HAP : Hid _ := GG.out.app (ys := l)
          obtain ⟨T, HTT⟩ : ∃ T, Hid (tot (now s) = T) := ⟨_, rfl⟩
          rw [HTT.out] at CU
          obtain ⟨ap, HAPE⟩ : ∃ ap, Hid (appS s e l = ap) := ⟨_, rfl⟩
          rw [HAPE.out] at CAP HAP
          obtain ⟨ae, sA, aee⟩ := ap
          have hbits := and1 i (by omega)
          have C1 : Hid (Calls _ _ _ _ _) := CU.out wr OO.out
          clear hl HAPE HTT
          by_cases hae : ae = 0
          · subst hae
            obtain ⟨hG2, hle, hne, hwd2⟩ := HAP.out.1 rfl
            have G2 : Hid (Gm sA aee c sp (list ++ l)) := hG2
            have HW2 : Hid (aee.wd = wd) := hwd2.trans HWD.out
            have hll0 : 0 < ll := by rw [← HLL.out]; omega
            have hll1 : ll ≤ 1024 := by rw [← HLL.out]; exact hle
            obtain ⟨i9, hi9', hz0, hz1, hz2⟩ := info_parts hi9
            have HIN : Hid (_ ∧ _ ∧ _ ∧ _) := ⟨hi9', hz0, hz1, hz2⟩
            clear hG2 hle hne hwd2 hi9' hz0 hz1 hz2 HAP
            go_upto_region 16 with (first
              | (go_at_call 13; refine C1.out.mono ?_; rintro _ _ ⟨rfl, hw⟩; rw [hw]; clear hw)
              | (go_at_call 12; refine CAP.out.mono ?_; rintro _ w5 ⟨rfl, h5⟩; have H5 : Hid (One (pairO (EnO ge g bn bd) OwnO) W.heap.size ((sA, aee), (.slice la lm lc, list)) W w5) := h5; clear h5)
              | go_in)
            obtain ⟨cb5, hr5⟩ := HCB.out w5 (One.below H5.out)
            obtain ⟨nb, no, rfl, hcl⟩ : ∃ nb no, a' = some ⟨nb, no, none⟩ ∧ ∀ j u, (l.map Value.string)[j]? = some u → w5.cell? (Addr.add ⟨nb, no, none⟩ j) = some u := by
              obtain ⟨a2, c2, e2, _, h0 | ⟨nb, no, e4, hh⟩⟩ := hr5
              · have := HLL.out; omega
              · injection e2 with e1 _ _
                refine ⟨nb, no, by rw [e1]; exact e4, fun j u hu => ?_⟩
                rw [List.getElem?_map] at hu
                cases hj : l[j]? with
                | none => rw [hj] at hu; cases hu
                | some y =>
                  rw [hj] at hu
                  have h7 := hh j (List.getElem?_eq_some_iff.1 hj).1
                  rw [List.getD, hj] at h7
                  rw [Addr.add_mid, h7]
                  exact hu
            have O5 : Hid (w5.ownsRow 0 9 1 (.slice la lm lc) lm (list.map Value.string)) := by
              have := pReads H5.out
              rw [HLM.out] at this
              exact this
            have HNL : Hid ((l.map Value.string).length = ll * 1) := by show _ = _; rw [List.length_map, HLL.out, Nat.mul_one]
            have HONE : Hid (∀ u ∈ l.map Value.string, u.oneCell' = true) := fun u hu => by
              obtain ⟨y, _, rfl⟩ := List.mem_map.1 hu
              rfl
            have HGR : Hid (∀ v' w6, w6.ownsRow 0 9 1 v' (lm + ll) (list.map Value.string ++ l.map Value.string) → w5.grownBy w6 (Value.slice la lm lc).ownBlock → (v'.ownBlock = (Value.slice la lm lc).ownBlock ∨ v'.ownBlock = some w5.heap.size) → One (pairO (EnO ge g bn bd) OwnO) W.heap.size ((sA, aee), (v', list ++ l)) W w6) := fun v' w6 h1 h2 h3 => pGrow H5.out (by rw [HLM.out, HLL.out]; exact h1) h2 h3
            have HL6 : Hid ((list ++ l).length = lm + ll) := by show _ = _; rw [List.length_append, HLM.out, HLL.out]
            clear hr5
            go_upto_region 19 with (first | (at_builtin; (refine wpList_append_own_at _ rfl _ _ 22 rfl 0 9 i9 (.string ByteArray.empty) 1 16 Tryz.underlying22 HIN.out.1 HIN.out.2.1 HIN.out.2.2.1 HIN.out.2.2.2 rfl (by decide) _ lm _ rfl O5.out ⟨nb, no, none⟩ ll c' (l.map Value.string) rfl HNL.out hcl HONE.out (by unfold maxLen; omega) (by omega) (Nat.zero_le _) ?_; intro v' w6 ho hg hnn hls; have H6 : Hid (One (pairO (EnO ge g bn bd) OwnO) W.heap.size ((sA, aee), (v', list ++ l)) W w6) := HGR.out v' w6 ho hg hls; have hvf : ∃ a c, v' = .slice a (lm + ll) c := own_formS ho; clear ho hg hnn hls; obtain ⟨l7, c7, rfl⟩ := hvf)) | go_in)
            obtain ⟨m7, HM7⟩ : ∃ m7, Hid (lm + ll = m7) := ⟨_, rfl⟩
            have HL7 : Hid ((list ++ l).length = m7) := by show _ = _; rw [HL6.out, HM7.out]
            rw [HM7.out] at H6 ⊢
            obtain ⟨list7, HLI⟩ : ∃ x, Hid (list ++ l = x) := ⟨_, rfl⟩
            rw [HLI.out] at HL7 H6 G2
            obtain ⟨⟨_, y1, _, _, _, _⟩, ⟨u0, u1⟩⟩ := HQ.out w6 (One.below H6.out)
            have CR : Hid (Calls _ _ _ _ _) := RGT.out sA aee list7 l7 m7 c7 ge w6 H6.out G2.out HW2.out HL7.out
            go_upto_region 22 with (first | (go_at_call 14; refine CR.out.mono ?_; rintro _ w7 ⟨rfl, nd, h7⟩; have H7 : Hid _ := h7; clear h7) | go_in)
            obtain ⟨e7, HE7⟩ : ∃ x, Hid (({ aee with nd := nd } : E) = x) := ⟨_, rfl⟩
            have G7 : Hid (Gm sA e7 c sp list7) := by rw [← HE7.out]; exact G2.out.nd nd
            have HW7 : Hid (e7.wd = wd) := by rw [← HE7.out]; exact HW2.out
            rw [HE7.out] at H7
            obtain ⟨s7, HS7⟩ : ∃ x, Hid (sA = x) := ⟨_, rfl⟩
            rw [HS7.out] at H7 G7
            clear hcl cb5 cb HE7 HS7 HLI HM7 HL6 HGR HONE HNL O5 CU CAP C1 u0 u1 y1
            have SY := G7.out.sync
            have HSY : Hid _ := SY
            have CS : Hid (∀ w1, One (pairO (EnO ge g bn bd) OwnO) W.heap.size ((s7, e7), (.slice l7 m7 c7, list7)) W w1 → Calls Tryz.prog 15 #[.pointer (some ⟨g, 0, none⟩)] w1 fun r w' => r = .returned (.int .i64 0) ∧ One (pairO (EnO ge g bn bd) OwnO) W.heap.size (((syncS s7).2, e7), (.slice l7 m7 c7, list7)) W w') := fun w1 h1 => by
              have C := pSync h1
              rw [HSY.out.1] at C
              exact C
            clear SY
            have CO : Hid (∀ s8 w1, One (pairO (EnO ge g bn bd) OwnO) W.heap.size ((s8, e7), (.slice l7 m7 c7, list7)) W w1 → Gm s8 e7 c sp list7 → Calls Tryz.prog 16 #[.pointer (some ⟨g, 0, none⟩), .agg #[.int .i64 1, .int .i64 wd, .int .i64 0, .int .i64 0, .int .i64 0, .int .i64 0], .int .i64 sp, .int .i64 (m7 : Nat)] w1 fun r w' => ∃ ge', r = .returned (.tuple #[.pointer (some ⟨ge', 0, none⟩), .int .i64 0]) ∧ One (pairO (EnO ge' g bn bd) OwnO) W.heap.size ((s8, ⟨sp, s8.age, wd, list7, 0⟩), (.slice l7 m7 c7, list7)) W w') := fun s8 w1 h1 h2 => by
              have ho := h2.opens
              have hl := h2.lens
              have C := pOpen h1 wd sp (m7 : Nat) list7 s8 HS.out HWQ.out h2.off ho.2.1 (by omega) (by rw [HL7.out]; omega) ho.2.2 hl.2.2.1
              exact C
            have CS2 : Hid (∀ s8 ge' w1, One (pairO (EnO ge' g bn bd) OwnO) W.heap.size ((s8, ⟨sp, s8.age, wd, list7, 0⟩), (.slice l7 m7 c7, list7)) W w1 → Gm s8 e7 c sp list7 → Calls Tryz.prog 15 #[.pointer (some ⟨g, 0, none⟩)] w1 fun r w' => r = .returned (.int .i64 0) ∧ One (pairO (EnO ge' g bn bd) OwnO) W.heap.size (((syncS s8).2, ⟨sp, s8.age, wd, list7, 0⟩), (.slice l7 m7 c7, list7)) W w' ∧ Gm (syncS s8).2 ⟨sp, s8.age, wd, list7, 0⟩ c sp list7) := fun s8 ge' w1 h1 h2 => by
              have C := pSync h1
              have h3 := (h2.again wd).sync
              rw [h3.1] at C
              exact C.mono fun r w' ⟨g1, g2⟩ => ⟨g1, g2, h3.2⟩
            have hmi7 : (m7 : Int) ≤ 30000000 := by have := G7.out.lens.2.2.2; rw [HL7.out] at this; omega
            by_cases hpar : i % 2 = 1
            · have hp1 : ((i : Int) % 2 == 1) = true := by rw [beq_iff_eq]; omega
              by_cases han : (i : Int) = anew
              · have ha1 : ((i : Int) == anew) = true := by rw [han]; simp
                clear hpar han
                go_upto_region 25 with (first | (go_at_call 15; refine (CS.out _ H7.out).mono ?_; rintro _ w8 ⟨rfl, h8⟩; have H8 : Hid _ := h8; clear h8) | go_in)
                obtain ⟨⟨x0, x1, x2, x3, x4, x5⟩, _⟩ := HQ.out w8 (One.below H8.out)
                have C8 : Hid (Calls _ _ _ _ _) := CO.out _ w8 H8.out HSY.out.2
                go_upto_region 26 with (first | (go_at_call 16; refine C8.out.mono ?_; rintro _ w9 ⟨ge9, rfl, h9⟩; have H9 : Hid _ := h9; clear h9) | go_in)
                have C9 : Hid (Calls _ _ _ _ _) := CS2.out _ ge9 w9 H9.out HSY.out.2
                go_wp2_with (first | (go_at_call 15; refine C9.out.mono ?_; rintro _ w10 ⟨rfl, h10, g10⟩; have H10 : Hid _ := h10; have G10 : Hid _ := g10; clear h10 g10) | go_in)
                go_roundw
                case rel => exact ⟨i + 1, ge9, l7, m7, c7, by omega, rfl, rfl, by go_num, _, _, list7, H10.out, G10.out, rfl, HL7.out⟩
                case measure => simp [intOf]; omega
              · have ha1 : ((i : Int) == anew) = false := by rw [beq_eq_false_iff_ne]; exact han
                clear hpar han
                go_wp2_with (first | (go_at_call 15; refine (CS.out _ H7.out).mono ?_; rintro _ w8 ⟨rfl, h8⟩; have H8 : Hid _ := h8; clear h8) | go_in)
                go_roundw
                case rel => exact ⟨i + 1, ge, l7, m7, c7, by omega, rfl, rfl, by go_num, _, _, list7, H8.out, HSY.out.2, HW7.out, HL7.out⟩
                case measure => simp [intOf]; omega
            · have hp1 : ((i : Int) % 2 == 1) = false := by rw [beq_eq_false_iff_ne]; omega
              by_cases han : (i : Int) = anew
              · have ha1 : ((i : Int) == anew) = true := by rw [han]; simp
                clear hpar han
                go_upto_region 25 with fail
                obtain ⟨⟨x0, x1, x2, x3, x4, x5⟩, _⟩ := HQ.out w7 (One.below H7.out)
                have C8 : Hid (Calls _ _ _ _ _) := CO.out _ w7 H7.out G7.out
                go_upto_region 26 with (first | (go_at_call 16; refine C8.out.mono ?_; rintro _ w9 ⟨ge9, rfl, h9⟩; have H9 : Hid _ := h9; clear h9) | go_in)
                have C9 : Hid (Calls _ _ _ _ _) := CS2.out _ ge9 w9 H9.out G7.out
                go_wp2_with (first | (go_at_call 15; refine C9.out.mono ?_; rintro _ w10 ⟨rfl, h10, g10⟩; have H10 : Hid _ := h10; have G10 : Hid _ := g10; clear h10 g10) | go_in)
                go_roundw
                case rel => exact ⟨i + 1, ge9, l7, m7, c7, by omega, rfl, rfl, by go_num, _, _, list7, H10.out, G10.out, rfl, HL7.out⟩
                case measure => simp [intOf]; omega
              · have ha1 : ((i : Int) == anew) = false := by rw [beq_eq_false_iff_ne]; exact han
                clear hpar han
                go_wp2_with fail
                go_roundw
                case rel => exact ⟨i + 1, ge, l7, m7, c7, by omega, rfl, rfl, by go_num, s7, e7, list7, H7.out, G7.out, HW7.out, HL7.out⟩
                case measure => simp [intOf]; omega
          · have hae' : (ae == 0) = false := by rw [beq_eq_false_iff_ne]; exact hae
            have hse := HAP.out.2 hae
            have hs1 : sA = s := congrArg Prod.fst hse
            have hs2 : aee = e := congrArg Prod.snd hse
            subst hs1 hs2
            obtain ⟨s7, HS7⟩ : ∃ x, Hid (sA = x) := ⟨_, rfl⟩
            clear hae HAP hse
            go_upto_region 19 with (first
              | (go_at_call 12; refine CAP.out.mono ?_; rintro _ w5 ⟨rfl, h5⟩; have H5 : Hid (One (pairO (EnO ge g bn bd) OwnO) W.heap.size ((sA, aee), (.slice la lm lc, list)) W w5) := h5; have C2 : Hid (Calls _ _ _ _ _) := CU.out w5 h5; clear h5 C1)
              | (go_at_call 13; refine C2.out.mono ?_; rintro _ _ ⟨rfl, hw⟩; rw [hw]; clear hw)
              | (go_at_call 13; refine C1.out.mono ?_; rintro _ _ ⟨rfl, hw⟩; rw [hw]; clear hw)
              | go_in)
            obtain ⟨⟨_, y1, _, _, _, _⟩, ⟨u0, u1⟩⟩ := HQ.out w5 (One.below H5.out)
            have CR : Hid (Calls _ _ _ _ _) := RGT.out sA aee list la lm lc ge w5 H5.out GG.out HWD.out HLM.out
            go_upto_region 22 with (first | (go_at_call 14; refine CR.out.mono ?_; rintro _ w7 ⟨rfl, nd, h7⟩; have H7 : Hid _ := h7; clear h7) | go_in)
            obtain ⟨e7, HE7⟩ : ∃ x, Hid (({ aee with nd := nd } : E) = x) := ⟨_, rfl⟩
            have G7 : Hid (Gm sA e7 c sp list) := by rw [← HE7.out]; exact GG.out.nd nd
            have HW7 : Hid (e7.wd = wd) := by rw [← HE7.out]; exact HWD.out
            rw [HE7.out] at H7
            rw [HS7.out] at H7 G7
            obtain ⟨l7, HLA⟩ : ∃ x, Hid (la = x) := ⟨_, rfl⟩
            have HL7 : Hid (list.length = lm) := HLM.out
            clear cb HE7 HS7 CU CAP u0 u1 y1
            have SY := G7.out.sync
            have HSY : Hid _ := SY
            have CS : Hid (∀ w1, One (pairO (EnO ge g bn bd) OwnO) W.heap.size ((s7, e7), (.slice la lm lc, list)) W w1 → Calls Tryz.prog 15 #[.pointer (some ⟨g, 0, none⟩)] w1 fun r w' => r = .returned (.int .i64 0) ∧ One (pairO (EnO ge g bn bd) OwnO) W.heap.size (((syncS s7).2, e7), (.slice la lm lc, list)) W w') := fun w1 h1 => by
              have C := pSync h1
              rw [HSY.out.1] at C
              exact C
            clear SY
            have CO : Hid (∀ s8 w1, One (pairO (EnO ge g bn bd) OwnO) W.heap.size ((s8, e7), (.slice la lm lc, list)) W w1 → Gm s8 e7 c sp list → Calls Tryz.prog 16 #[.pointer (some ⟨g, 0, none⟩), .agg #[.int .i64 1, .int .i64 wd, .int .i64 0, .int .i64 0, .int .i64 0, .int .i64 0], .int .i64 sp, .int .i64 (lm : Nat)] w1 fun r w' => ∃ ge', r = .returned (.tuple #[.pointer (some ⟨ge', 0, none⟩), .int .i64 0]) ∧ One (pairO (EnO ge' g bn bd) OwnO) W.heap.size ((s8, ⟨sp, s8.age, wd, list, 0⟩), (.slice la lm lc, list)) W w') := fun s8 w1 h1 h2 => by
              have ho := h2.opens
              have hl := h2.lens
              have C := pOpen h1 wd sp (lm : Nat) list s8 HS.out HWQ.out h2.off ho.2.1 (by omega) (by rw [HL7.out]; omega) ho.2.2 hl.2.2.1
              exact C
            have CS2 : Hid (∀ s8 ge' w1, One (pairO (EnO ge' g bn bd) OwnO) W.heap.size ((s8, ⟨sp, s8.age, wd, list, 0⟩), (.slice la lm lc, list)) W w1 → Gm s8 e7 c sp list → Calls Tryz.prog 15 #[.pointer (some ⟨g, 0, none⟩)] w1 fun r w' => r = .returned (.int .i64 0) ∧ One (pairO (EnO ge' g bn bd) OwnO) W.heap.size (((syncS s8).2, ⟨sp, s8.age, wd, list, 0⟩), (.slice la lm lc, list)) W w' ∧ Gm (syncS s8).2 ⟨sp, s8.age, wd, list, 0⟩ c sp list) := fun s8 ge' w1 h1 h2 => by
              have C := pSync h1
              have h3 := (h2.again wd).sync
              rw [h3.1] at C
              exact C.mono fun r w' ⟨g1, g2⟩ => ⟨g1, g2, h3.2⟩
            have hmi7 : (lm : Int) ≤ 30000000 := by have := G7.out.lens.2.2.2; rw [HL7.out] at this; omega
            by_cases hpar : i % 2 = 1
            · have hp1 : ((i : Int) % 2 == 1) = true := by rw [beq_iff_eq]; omega
              by_cases han : (i : Int) = anew
              · have ha1 : ((i : Int) == anew) = true := by rw [han]; simp
                clear hpar han
                go_upto_region 25 with (first | (go_at_call 15; refine (CS.out _ H7.out).mono ?_; rintro _ w8 ⟨rfl, h8⟩; have H8 : Hid _ := h8; clear h8) | go_in)
                obtain ⟨⟨x0, x1, x2, x3, x4, x5⟩, _⟩ := HQ.out w8 (One.below H8.out)
                have C8 : Hid (Calls _ _ _ _ _) := CO.out _ w8 H8.out HSY.out.2
                go_upto_region 26 with (first | (go_at_call 16; refine C8.out.mono ?_; rintro _ w9 ⟨ge9, rfl, h9⟩; have H9 : Hid _ := h9; clear h9) | go_in)
                have C9 : Hid (Calls _ _ _ _ _) := CS2.out _ ge9 w9 H9.out HSY.out.2
                go_wp2_with (first | (go_at_call 15; refine C9.out.mono ?_; rintro _ w10 ⟨rfl, h10, g10⟩; have H10 : Hid _ := h10; have G10 : Hid _ := g10; clear h10 g10) | go_in)
                go_roundw
                case rel => exact ⟨i + 1, ge9, la, lm, lc, by omega, rfl, rfl, by go_num, _, _, list, H10.out, G10.out, rfl, HL7.out⟩
                case measure => simp [intOf]; omega
              · have ha1 : ((i : Int) == anew) = false := by rw [beq_eq_false_iff_ne]; exact han
                clear hpar han
                go_wp2_with (first | (go_at_call 15; refine (CS.out _ H7.out).mono ?_; rintro _ w8 ⟨rfl, h8⟩; have H8 : Hid _ := h8; clear h8) | go_in)
                go_roundw
                case rel => exact ⟨i + 1, ge, la, lm, lc, by omega, rfl, rfl, by go_num, _, _, list, H8.out, HSY.out.2, HW7.out, HL7.out⟩
                case measure => simp [intOf]; omega
            · have hp1 : ((i : Int) % 2 == 1) = false := by rw [beq_eq_false_iff_ne]; omega
              by_cases han : (i : Int) = anew
              · have ha1 : ((i : Int) == anew) = true := by rw [han]; simp
                clear hpar han
                go_upto_region 25 with fail
                obtain ⟨⟨x0, x1, x2, x3, x4, x5⟩, _⟩ := HQ.out w7 (One.below H7.out)
                have C8 : Hid (Calls _ _ _ _ _) := CO.out _ w7 H7.out G7.out
                go_upto_region 26 with (first | (go_at_call 16; refine C8.out.mono ?_; rintro _ w9 ⟨ge9, rfl, h9⟩; have H9 : Hid _ := h9; clear h9) | go_in)
                have C9 : Hid (Calls _ _ _ _ _) := CS2.out _ ge9 w9 H9.out G7.out
                go_wp2_with (first | (go_at_call 15; refine C9.out.mono ?_; rintro _ w10 ⟨rfl, h10, g10⟩; have H10 : Hid _ := h10; have G10 : Hid _ := g10; clear h10 g10) | go_in)
                go_roundw
                case rel => exact ⟨i + 1, ge9, la, lm, lc, by omega, rfl, rfl, by go_num, _, _, list, H10.out, G10.out, rfl, HL7.out⟩
                case measure => simp [intOf]; omega
              · have ha1 : ((i : Int) == anew) = false := by rw [beq_eq_false_iff_ne]; exact han
                clear hpar han
                go_wp2_with fail
                go_roundw
                case rel => exact ⟨i + 1, ge, la, lm, lc, by omega, rfl, rfl, by go_num, s7, e7, list, H7.out, G7.out, HW7.out, HL7.out⟩
                case measure => simp [intOf]; omega
        · have hlt' : ¬ (i : Int) < m := by omega
          obtain ⟨⟨_, y1, _, _, _, _⟩, ⟨u0, u1⟩⟩ := HQ.out wr (One.below OO.out)
          have CR : Hid (Calls _ _ _ _ _) := RGT.out s e list la lm lc ge wr OO.out GG.out HWD.out HLM.out
          go_wp2_with (first | (go_at_call 14; refine CR.out.mono ?_; rintro _ w9 ⟨rfl, nd, h9⟩; have H9 : Hid (Below W.heap.size W w9) := One.below h9; clear h9) | go_in)
          go_ret
          exact ⟨rfl, over BW0.out (over BW.out H9.out)⟩
  · have CN : Hid (∀ w1, Calls _ _ _ _ _) := fun w1 => newNo c w1 hc
    clear hc
    go_enter Tryz.func4, Tryz.ntmps4
    go_upto_region 1 with fail
    rw [HW0.out]
    go_wp2_with (first
      | (go_at_call 8; refine CB.out.mono ?_; rintro _ wb ⟨rfl, bb⟩; have BB : Hid (Below W0.heap.size W0 wb) := bb; clear bb)
      | (go_at_call 11; refine (CO.out _).mono ?_; rintro _ w2 ⟨rfl, b2⟩; have B2 : Hid (Below W0.heap.size W0 w2) := over BB.out b2; have B3 : Hid (∀ o, Below W0.heap.size W0 (w2.alloc o)) := fun o => over B2.out (new1 w2 o); clear b2)
      | (go_at_call 9; refine (CN.out _).mono ?_; rintro _ _ ⟨rfl, hw⟩; rw [hw]; clear hw)
      | go_in)
    go_ret
    exact ⟨rfl, over BW0.out (B3.out _)⟩
end Go.Proofs.YtofmkdagehehaaaGreatDoor.hl

namespace Go.Proofs.YtofmkdagehehaaaGreatDoor.wo
open Go.RowKit Go.PlainAid
open Go.Proofs.YtofmkdagehehaaaGreatDoor.pl Go.Proofs.YtofmkdagehehaaaGreatDoor.ft Go.Proofs.YtofmkdagehehaaaGreatDoor.pj Go.Proofs.YtofmkdagehehaaaGreatDoor.ka Go.Proofs.YtofmkdagehehaaaGreatDoor.he Go.Proofs.YtofmkdagehehaaaGreatDoor.hk Go.Proofs.YtofmkdagehehaaaGreatDoor.hl
set_option linter.unusedVariables false
theorem model_walk (W : World) (a0 : Int) (w0 : (Lit.int .i64 a0).wf = true) (a1 : Int) (w1 : (Lit.int .i64 a1).wf = true) (a2 : Int) (w2 : (Lit.int .i64 a2).wf = true) (v : Value) (bs : List (List ByteArray)) (hr : ReadsL W v bs) (hb : bs.length * 24 ≤ 140737488351232) (hl : ∀ l ∈ bs, l.length * 16 ≤ 140737488351232) (a4 : Int) (w4 : (Lit.int .i64 a4).wf = true) (L I : Int) (wL : (Lit.int .i64 L).wf = true) (wI : (Lit.int .i64 I).wf = true) (a6 : Int) (w6 : (Lit.int .i64 a6).wf = true) (tabs : St8 W 0 ∧ K64 W 2) :
    Calls Tryz.prog 4 #[.int .i64 a0, .int .i64 a1, .int .i64 a2, v, .int .i64 a4, .agg #[.int .i64 L, .int .i64 I], .int .i64 a6] W fun e w' => e = .returned (.bool true) ∧ Below W.heap.size W w' :=
  modelW a0 a1 a2 v bs a4 L I a6 W (Tab.of tabs) (bounds_i64 wL) (bounds_i64 wI) (bounds_i64 w2).2 hr (by omega) (fun l h => by have := hl l h; omega)
end Go.Proofs.YtofmkdagehehaaaGreatDoor.wo
