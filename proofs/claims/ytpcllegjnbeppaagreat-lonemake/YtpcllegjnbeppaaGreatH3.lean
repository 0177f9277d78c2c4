import Derived.Test.YtpcllegjnbeppaaGreatH2
import Derived.Test.YtpcllegjnbeppaaGreatH1
import Derived.Maps.AppendAt
namespace Go.Proofs.YtpcllegjnbeppaaGreat.hj
open Go.RowKit Go.PlainAid Go.Maps Go.Shelf
open Go.Proofs.YtpcllegjnbeppaaGreat.kp Go.Proofs.YtpcllegjnbeppaaGreat.ka Go.Proofs.YtpcllegjnbeppaaGreat.ya Go.Proofs.YtpcllegjnbeppaaGreat.yb Go.Proofs.YtpcllegjnbeppaaGreat.yc Go.Proofs.YtpcllegjnbeppaaGreat.yd Go.Proofs.YtpcllegjnbeppaaGreat.ye Go.Proofs.YtpcllegjnbeppaaGreat.yf Go.Proofs.YtpcllegjnbeppaaGreat.yg Go.Proofs.YtpcllegjnbeppaaGreat.yi Go.Proofs.YtpcllegjnbeppaaGreat.yj Go.Proofs.YtpcllegjnbeppaaGreat.yk Go.Proofs.YtpcllegjnbeppaaGreat.yl Go.Proofs.YtpcllegjnbeppaaGreat.ym
open Go.Proofs.YtpcllegjnbeppaaGreat.tqa Go.Proofs.YtpcllegjnbeppaaGreat.tba Go.Proofs.YtpcllegjnbeppaaGreat.tbc Go.Proofs.YtpcllegjnbeppaaGreat.tbd Go.Proofs.YtpcllegjnbeppaaGreat.tbe
open Go.Proofs.YtpcllegjnbeppaaGreat.tbf (okI kind_is)
open Go.Proofs.YtpcllegjnbeppaaGreat.cp (own_later i64)
open Go.Proofs.YtpcllegjnbeppaaGreat.tqb (over)
open Go.Proofs.YtpcllegjnbeppaaGreat.ea Go.Proofs.YtpcllegjnbeppaaGreat.eb Go.Proofs.YtpcllegjnbeppaaGreat.ec Go.Proofs.YtpcllegjnbeppaaGreat.ed Go.Proofs.YtpcllegjnbeppaaGreat.ee Go.Proofs.YtpcllegjnbeppaaGreat.ef Go.Proofs.YtpcllegjnbeppaaGreat.eg Go.Proofs.YtpcllegjnbeppaaGreat.eh Go.Proofs.YtpcllegjnbeppaaGreat.ei Go.Proofs.YtpcllegjnbeppaaGreat.ej Go.Proofs.YtpcllegjnbeppaaGreat.ek Go.Proofs.YtpcllegjnbeppaaGreat.el Go.Proofs.YtpcllegjnbeppaaGreat.ha Go.Proofs.YtpcllegjnbeppaaGreat.hb Go.Proofs.YtpcllegjnbeppaaGreat.hc Go.Proofs.YtpcllegjnbeppaaGreat.hd Go.Proofs.YtpcllegjnbeppaaGreat.hf Go.Proofs.YtpcllegjnbeppaaGreat.hg Go.Proofs.YtpcllegjnbeppaaGreat.hh Go.Proofs.YtpcllegjnbeppaaGreat.hi
set_option linter.unusedVariables false
set_option linter.unusedSimpArgs false
-- a list of the law's own
def OwnO : Thg (Value × List ByteArray) where
  P t F w := w.ownsRow 0 9 1 t.1 t.2.length (t.2.map Value.string) ∧ ∀ k, F k ↔ some k = t.1.ownBlock
  keep := by
    rintro t F w w' A ⟨h1, h2⟩ k hn
    exact ⟨own_kp h1 k (fun j hj => hn j ((h2 j).2 hj)), h2⟩
  lt := by
    rintro t F w ⟨h1, h2⟩ k hk
    exact (h1.lt _ ((h2 k).1 hk).symm).2
section
variable {τ : Type} {U : Thg τ} {ge g bn bd B : Nat} {s : S} {e : E} {t : τ} {w0 w : World}
-- the law's list grows
theorem pGrow {v v' : Value} {xs ys : List ByteArray} {w' : World} (h : One (pairO (EnO ge g bn bd) OwnO) B ((s, e), (v, xs)) w0 w) (ho : w'.ownsRow 0 9 1 v' (xs.length + ys.length) (xs.map Value.string ++ ys.map Value.string)) (hg : w.grownBy w' v.ownBlock) (hl : v'.ownBlock = v.ownBlock ∨ v'.ownBlock = some w.heap.size) : One (pairO (EnO ge g bn bd) OwnO) B ((s, e), (v', xs ++ ys)) w0 w' := by
  obtain ⟨F, h1, h2, h3, h4⟩ := h
  obtain ⟨F1, hU, hK⟩ := pair_snd h1
  have k2 : Kp F1 w w' := ⟨hg.os, hg.tape, hg.output, hg.size, fun j hj hn => hg.block j hj (fun e => hn ((hU.2 j).2 e))⟩
  obtain ⟨F', a1, a2⟩ := hK (v', xs ++ ys) (fun k => some k = v'.ownBlock) w' ⟨by
    show World.ownsRow _ _ _ _ _ (xs ++ ys).length ((xs ++ ys).map Value.string)
    rw [List.length_append, List.map_append]; exact ho, fun k => Iff.rfl⟩ ⟨k2, fun k hk => by
      rcases hl with h | h
      · exact .inl ((hU.2 k).2 (by rw [hk, h]))
      · rw [h] at hk
        exact .inr (by rw [Option.some.inj hk]; exact Nat.le_refl _)⟩
  exact One.turn h2 h3 h4 a1 a2
theorem pReads {v : Value} {xs : List ByteArray} (h : One (pairO (EnO ge g bn bd) OwnO) B ((s, e), (v, xs)) w0 w) : w.ownsRow 0 9 1 v xs.length (xs.map Value.string) := by
  obtain ⟨F, hP⟩ := One.get (One.snd h)
  exact hP.1
-- opened anew
theorem pOpen (h : One (pairO (EnO ge g bn bd) U) B ((s, e), t) w0 w) (b : Int) (sp least : Int) (l : List ByteArray) (s' : S) (hs : okI sp) (hb : 1 ≤ b ∧ b ≤ 32) (ho : s.off = false) (hst : IsSt s sp l) (hl : l.length < 1099511627776) (hle : least ≤ l.length) (hp : purgeS s sp l.length = (0, s')) (hln : 2 * (s.dur.length + s.pend.length) + 1 < 3518437208883) :
    Calls Tryz.prog 54 #[.pointer (some ⟨g, 0, none⟩), .agg #[.int .i64 1, .int .i64 b, .int .i64 0, .int .i64 0, .int .i64 0, .int .i64 0], .int .i64 sp, .int .i64 least] w fun r w' => ∃ ge', r = .returned (.tuple #[.pointer (some ⟨ge', 0, none⟩), .int .i64 0]) ∧ One (pairO (EnO ge' g bn bd) U) B ((s', ⟨sp, s.age, b, l, 0⟩), t) w0 w' := by
  obtain ⟨F, h1, h2, h3, h4⟩ := h
  obtain ⟨F1, F2, ⟨pv, lv, hE, hF1⟩, hU, hdis, hor⟩ := h1
  have hsz : B ≤ w.heap.size := Nat.le_trans h4 h3.size
  have hFr : ∀ k, Fr g bn bd pv k → F1 k := fun k hk => (hF1 k).2 (.inl hk)
  refine (OpenYes 1 b 0 0 0 0 sp least l hE.st hs ⟨rfl, hb⟩ ho hst hl hle hp hln).mono ?_
  rintro r w' ⟨ge', rfl, p', l', hE', k, n⟩
  refine ⟨ge', rfl, fun k => Ef ge' g bn bd p' l' k ∨ F2 k, ⟨Ef ge' g bn bd p' l', F2, ⟨p', l', hE', fun k => Iff.rfl⟩, U.keep hU k (fun j hj hf => hdis j (hFr j hf) hj), fun j hj hf => ?_, fun k => Iff.rfl⟩, fun j hj => ?_, ov h3 (k.below (fun j hj => h2 j ((hor j).2 (.inl (hFr j hj)))) hsz), h4⟩
  · rcases n j hj with h | h
    · exact hdis j (hFr j h) hf
    · have := U.lt hU j hf; omega
  · rcases hj with hj | hj
    · rcases n j hj with h | h
      · exact h2 j ((hor j).2 (.inl (hFr j h)))
      · omega
    · exact h2 j ((hor j).2 (.inr hj))
end
-- the engine but for its count
def Pt {τ : Type} (U : Thg τ) (ge g bn bd B : Nat) (s : S) (e : E) (t : τ) (w0 w : World) : Prop := ∃ nd, One (pairO (EnO ge g bn bd) U) B ((s, { e with nd := nd }), t) w0 w
section
variable {τ : Type} {U : Thg τ} {ge g bn bd B : Nat} {s : S} {e : E} {t : τ} {w0 w : World}
theorem Pt.of (h : One (pairO (EnO ge g bn bd) U) B ((s, e), t) w0 w) : Pt U ge g bn bd B s e t w0 w := ⟨e.nd, h⟩
theorem Pt.later {w' : World} (h : Pt U ge g bn bd B s e t w0 w) (b : Below w.heap.size w w') : Pt U ge g bn bd B s e t w0 w' := by
  obtain ⟨nd, h⟩ := h
  exact ⟨nd, One.later h b⟩
theorem Pt.ok (h : Pt U ge g bn bd B s e t w0 w) : OkE e := by
  obtain ⟨nd, h⟩ := h
  obtain ⟨F, hP⟩ := One.get (One.fst h)
  have := (oOk hP).2
  exact ⟨this.sp, this.wd, this.len, this.sz⟩
end
end Go.Proofs.YtpcllegjnbeppaaGreat.hj

namespace Go.Proofs.YtpcllegjnbeppaaGreat.hk
open Go.RowKit Go.PlainAid Go.Maps Go.Shelf
open Go.Proofs.YtpcllegjnbeppaaGreat.kp Go.Proofs.YtpcllegjnbeppaaGreat.ka Go.Proofs.YtpcllegjnbeppaaGreat.ya Go.Proofs.YtpcllegjnbeppaaGreat.yb Go.Proofs.YtpcllegjnbeppaaGreat.yc Go.Proofs.YtpcllegjnbeppaaGreat.yd Go.Proofs.YtpcllegjnbeppaaGreat.ye Go.Proofs.YtpcllegjnbeppaaGreat.yf Go.Proofs.YtpcllegjnbeppaaGreat.yg Go.Proofs.YtpcllegjnbeppaaGreat.yi Go.Proofs.YtpcllegjnbeppaaGreat.yj Go.Proofs.YtpcllegjnbeppaaGreat.yk Go.Proofs.YtpcllegjnbeppaaGreat.yl Go.Proofs.YtpcllegjnbeppaaGreat.ym
open Go.Proofs.YtpcllegjnbeppaaGreat.tqa Go.Proofs.YtpcllegjnbeppaaGreat.tba Go.Proofs.YtpcllegjnbeppaaGreat.tbc Go.Proofs.YtpcllegjnbeppaaGreat.tbd Go.Proofs.YtpcllegjnbeppaaGreat.tbe
open Go.Proofs.YtpcllegjnbeppaaGreat.tbf (okI kind_is)
open Go.Proofs.YtpcllegjnbeppaaGreat.cp (own_later i64)
open Go.Proofs.YtpcllegjnbeppaaGreat.tqb (over)
open Go.Proofs.YtpcllegjnbeppaaGreat.ea Go.Proofs.YtpcllegjnbeppaaGreat.eb Go.Proofs.YtpcllegjnbeppaaGreat.ec Go.Proofs.YtpcllegjnbeppaaGreat.ed Go.Proofs.YtpcllegjnbeppaaGreat.ee Go.Proofs.YtpcllegjnbeppaaGreat.ef Go.Proofs.YtpcllegjnbeppaaGreat.eg Go.Proofs.YtpcllegjnbeppaaGreat.eh Go.Proofs.YtpcllegjnbeppaaGreat.ei Go.Proofs.YtpcllegjnbeppaaGreat.ej Go.Proofs.YtpcllegjnbeppaaGreat.ek Go.Proofs.YtpcllegjnbeppaaGreat.el Go.Proofs.YtpcllegjnbeppaaGreat.ha Go.Proofs.YtpcllegjnbeppaaGreat.hb Go.Proofs.YtpcllegjnbeppaaGreat.hc Go.Proofs.YtpcllegjnbeppaaGreat.hd Go.Proofs.YtpcllegjnbeppaaGreat.hf Go.Proofs.YtpcllegjnbeppaaGreat.hg Go.Proofs.YtpcllegjnbeppaaGreat.hh Go.Proofs.YtpcllegjnbeppaaGreat.hi Go.Proofs.YtpcllegjnbeppaaGreat.hj
set_option linter.unusedVariables false
set_option linter.unusedSimpArgs false
-- an engine whose leaves alone stand in the store
structure Gm (s : S) (e : E) (c sp : Int) (list : List ByteArray) : Prop where
  ow : ∃ l1 xs, Ow s sp l1 xs ∧ l1 ++ xs = list
  l : e.l = list
  sp : e.sp = sp
  g : gone s e = false
  a : s.armed = 0
  c : s.cap = c
theorem Gm.nd {s : S} {e : E} {c sp : Int} {list : List ByteArray} (h : Gm s e c sp list) (nd : Int) : Gm s { e with nd := nd } c sp list := ⟨h.ow, h.l, h.sp, h.g, h.a, h.c⟩
theorem Gm.lens {s : S} {e : E} {c sp : Int} {list : List ByteArray} (h : Gm s e c sp list) : s.dur.length + s.pend.length + 1024 < 3518437208883 ∧ e.l.length + 1024 ≤ 1099511627776 ∧ 2 * (s.dur.length + s.pend.length) + 1 < 3518437208883 ∧ list.length + 1024 ≤ 30000000 := by
  obtain ⟨l1, xs, ho, e1⟩ := h.ow
  have h1 := ho.len
  rw [e1] at h1
  have h2 : s.dur.length + s.pend.length = list.length := by
    rw [ho.dur, ho.pend, ← e1]
    simp [prs, enm_len]
  rw [h2, h.l]
  omega
theorem Gm.app {s : S} {e : E} {c sp : Int} {list ys : List ByteArray} (h : Gm s e c sp list) : ((appS s e ys).1 = 0 → Gm (appS s e ys).2.1 (appS s e ys).2.2 c sp (list ++ ys) ∧ ys.length ≤ 1024 ∧ ys.length ≠ 0 ∧ (appS s e ys).2.2.wd = e.wd) ∧ ((appS s e ys).1 ≠ 0 → (appS s e ys).2 = (s, e)) := by
  obtain ⟨l1, xs, ho, e1⟩ := h.ow
  have ho' := ho
  rw [← h.sp] at ho'
  rcases ho'.app (ys := ys) (h.l.trans e1.symm) h.g with ⟨hb, he⟩ | ⟨hb, hf, he⟩ | ⟨hb, hf, _, s', he, h2, h3, h4, h5, h6⟩ | ⟨_, h1, _⟩
  · rw [he]; exact ⟨fun h0 => absurd h0 hb, fun _ => rfl⟩
  · rw [he]; exact ⟨(fun h0 => by cases h0), fun _ => rfl⟩
  · rw [he]
    obtain ⟨b1, b2, b3, b4⟩ := batch_ok hb
    rw [h.sp] at h2
    refine ⟨fun _ => ⟨⟨⟨l1, xs ++ ys, h2, by rw [← List.append_assoc, e1]⟩, by show e.l ++ ys = _; rw [h.l], h.sp, ?_, by rw [h6, h.a]; simp, h3.trans h.c⟩, b2, b1, rfl⟩, fun h0 => absurd rfl h0⟩
    have := h.g
    unfold gone at this ⊢
    rw [h4, h5]
    have := (Bool.or_eq_false_iff.1 this).2
    simpa using this
  · rw [h.a] at h1; omega
theorem Gm.off {s : S} {e : E} {c sp : Int} {list : List ByteArray} (h : Gm s e c sp list) : s.off = false := by
  have := h.g
  unfold gone at this
  exact (Bool.or_eq_false_iff.1 this).1
theorem Gm.sync {s : S} {e : E} {c sp : Int} {list : List ByteArray} (h : Gm s e c sp list) : (syncS s).1 = 0 ∧ Gm (syncS s).2 e c sp list := by
  obtain ⟨l1, xs, ho, e1⟩ := h.ow
  rcases ho.sync h.off with ⟨h1, _⟩ | ⟨_, s', he, h2, h3, h4, h5, h6⟩
  · rw [h.a] at h1; cases h1
  · rw [he]
    refine ⟨rfl, ⟨⟨l1 ++ xs, [], h2, by simpa using e1⟩, h.l, h.sp, ?_, by rw [h6, h.a], h3.trans h.c⟩⟩
    have := h.g
    unfold gone at this ⊢
    rw [h4, h5]
    have := (Bool.or_eq_false_iff.1 this).2
    simpa using this
theorem Gm.opens {s : S} {e : E} {c sp : Int} {list : List ByteArray} (h : Gm s e c sp list) : okI sp ∧ IsSt s sp list ∧ purgeS s sp list.length = (0, s) := by
  obtain ⟨l1, xs, ho, e1⟩ := h.ow
  have hn := ho.now
  have hb := ho.bnd
  have hlen := ho.len
  rw [e1] at hn hb hlen
  have hn' : now s = prs sp (enm 0 list ++ []) := by rw [List.append_nil]; exact hn
  have ha' : Asc (enm 0 list ++ []) := by rw [List.append_nil]; exact asc_enm _ _
  have hb' : Bnd (enm 0 list ++ []) := by rw [List.append_nil]; exact hb
  refine ⟨ho.oks, st_prs h.off ho.oks ha' hb' hn' (fun p hp => by cases hp) (by omega), ?_⟩
  obtain ⟨s', cs, e2, e3, _, _, _, e4⟩ := purge_prs h.off h.a ho.oks ha' hb' hn' (fun p hp => by cases hp)
  rw [e2, e3, e4 rfl]
  simp
theorem Gm.again {s : S} {e : E} {c sp : Int} {list : List ByteArray} (h : Gm s e c sp list) (wd : Int) : Gm s ⟨sp, s.age, wd, list, 0⟩ c sp list := ⟨h.ow, rfl, rfl, by unfold gone; rw [h.off]; simp, h.a, h.c⟩
theorem Gm.new {c sp wd : Int} (hs : okI sp) (hc : 0 ≤ c ∧ c ≤ 1073741824) : Gm ⟨c, [], [], 0, false, 0⟩ ⟨sp, 0, wd, [], 0⟩ c sp [] := ⟨⟨[], [], Ow.new hs hc.1 hc.2 0, rfl⟩, rfl, rfl, rfl, rfl, rfl⟩
-- lists of lists in memory
def ReadsL (w : World) (v : Value) (bs : List (List ByteArray)) : Prop := ∃ a c, v = .slice a bs.length c ∧ (bs.length = 0 ∨ ∃ b off, a = some ⟨b, off, none⟩ ∧ ∀ i l, bs[i]? = some l → ∃ a' c', w.cell? ⟨b, off + i, none⟩ = some (.slice a' l.length c') ∧ ReadsT w (.slice a' l.length c') l ∧ (a' = none → l.length = 0))
theorem ReadsT.blk {w : World} {a : Option Addr} {m c : Nat} {l : List ByteArray} (h : ReadsT w (.slice a m c) l) : ∀ k, (Value.slice a m c).ownBlock = some k → l ≠ [] → k < w.heap.size := by
  intro k hk hne
  obtain ⟨a', c', e, _, h0 | ⟨b, off, e4, hh⟩⟩ := h
  · exact absurd (List.length_eq_zero_iff.1 h0) hne
  · injection e with e1 _ _
    rw [e1, e4] at hk
    have e : b = k := Option.some.inj hk
    subst e
    exact World.block_lt_of_cell? _ _ (hh 0 (List.length_pos_iff.2 hne))
theorem ReadsL.later {w w' : World} {v : Value} {bs : List (List ByteArray)} (h : ReadsL w v bs) (b : Below w.heap.size w w') : ReadsL w' v bs := by
  obtain ⟨a, c, rfl, h0 | ⟨b', off, rfl, hh⟩⟩ := h
  · exact ⟨a, c, rfl, .inl h0⟩
  · refine ⟨_, c, rfl, .inr ⟨b', off, rfl, fun i l hl => ?_⟩⟩
    obtain ⟨a', c', h1, h2, h3⟩ := hh i l hl
    exact ⟨a', c', (b.cell (World.block_lt_of_cell? _ _ h1)).trans h1, h2.later b, h3⟩
end Go.Proofs.YtpcllegjnbeppaaGreat.hk

namespace Go.Proofs.YtpcllegjnbeppaaGreat.ia
open Go.RowKit Go.PlainAid Go.Maps Go.Shelf
open Go.Proofs.YtpcllegjnbeppaaGreat.kp Go.Proofs.YtpcllegjnbeppaaGreat.ka Go.Proofs.YtpcllegjnbeppaaGreat.ya Go.Proofs.YtpcllegjnbeppaaGreat.yb Go.Proofs.YtpcllegjnbeppaaGreat.yc Go.Proofs.YtpcllegjnbeppaaGreat.yd Go.Proofs.YtpcllegjnbeppaaGreat.ye Go.Proofs.YtpcllegjnbeppaaGreat.yf Go.Proofs.YtpcllegjnbeppaaGreat.yg Go.Proofs.YtpcllegjnbeppaaGreat.yi Go.Proofs.YtpcllegjnbeppaaGreat.yj Go.Proofs.YtpcllegjnbeppaaGreat.yk Go.Proofs.YtpcllegjnbeppaaGreat.yl Go.Proofs.YtpcllegjnbeppaaGreat.ym
open Go.Proofs.YtpcllegjnbeppaaGreat.tqa Go.Proofs.YtpcllegjnbeppaaGreat.tba Go.Proofs.YtpcllegjnbeppaaGreat.tbb Go.Proofs.YtpcllegjnbeppaaGreat.tbc Go.Proofs.YtpcllegjnbeppaaGreat.tbd Go.Proofs.YtpcllegjnbeppaaGreat.tbe
open Go.Proofs.YtpcllegjnbeppaaGreat.tbf (okI kind_is)
open Go.Proofs.YtpcllegjnbeppaaGreat.cp (own_later)
open Go.Proofs.YtpcllegjnbeppaaGreat.tqb (over keyC keyNo spaceT spaceT_size)
open Go.Proofs.YtpcllegjnbeppaaGreat.ea Go.Proofs.YtpcllegjnbeppaaGreat.eb Go.Proofs.YtpcllegjnbeppaaGreat.ec Go.Proofs.YtpcllegjnbeppaaGreat.ed Go.Proofs.YtpcllegjnbeppaaGreat.ee Go.Proofs.YtpcllegjnbeppaaGreat.ef Go.Proofs.YtpcllegjnbeppaaGreat.eg Go.Proofs.YtpcllegjnbeppaaGreat.eh Go.Proofs.YtpcllegjnbeppaaGreat.ei Go.Proofs.YtpcllegjnbeppaaGreat.ej Go.Proofs.YtpcllegjnbeppaaGreat.ek Go.Proofs.YtpcllegjnbeppaaGreat.el Go.Proofs.YtpcllegjnbeppaaGreat.ha Go.Proofs.YtpcllegjnbeppaaGreat.hb Go.Proofs.YtpcllegjnbeppaaGreat.hc Go.Proofs.YtpcllegjnbeppaaGreat.hd Go.Proofs.YtpcllegjnbeppaaGreat.hf Go.Proofs.YtpcllegjnbeppaaGreat.hg Go.Proofs.YtpcllegjnbeppaaGreat.hh
open Go.Proofs.YtpcllegjnbeppaaGreat.hi
set_option linter.unusedVariables false
set_option linter.unusedSimpArgs false
-- a list stands in every store
theorem st_first (f : Nat → Option ByteArray) : ∀ n, (∀ i, i < n → (f i).isSome = true) ∨ ∃ m, m < n ∧ (∀ i, i < m → (f i).isSome = true) ∧ f m = none := by
  intro n
  induction n with
  | zero => exact .inl (fun i hi => by omega)
  | succ n ih =>
    rcases ih with h | ⟨m, h1, h2, h3⟩
    · cases hf : f n with
      | none => exact .inr ⟨n, by omega, h, hf⟩
      | some x =>
        left
        intro i hi
        rcases Nat.lt_or_ge i n with h' | h'
        · exact h i h'
        · obtain rfl : i = n := by omega
          rw [hf]; rfl
    · exact .inr ⟨m, by omega, h2, h3⟩
theorem st_exists {s : S} {sp : Int} (hs : okI sp) (hl : (now s).length < 4611686018427387904) : ∃ l, IsSt s sp l ∧ l.length ≤ (now s).length := by
  rcases st_first (lf s sp) ((now s).length + 1) with h | ⟨m, h1, h2, h3⟩
  · have := st_bound hs ((now s).length + 1) (by omega) h
    omega
  · refine ⟨(List.range m).map (fun i => (lf s sp i).getD ByteArray.empty), ⟨fun i hi => ?_, ?_⟩, by simp; omega⟩
    · have hi : i < m := by simpa using hi
      rw [List.getElem?_map, List.getElem?_range hi]
      obtain ⟨x, hx⟩ := Option.isSome_iff_exists.1 (h2 i hi)
      show _ = some ((lf s sp i).getD ByteArray.empty)
      rw [hx]; rfl
    · have e : ((List.range m).map (fun i => (lf s sp i).getD ByteArray.empty)).length = m := by simp
      rw [e]; exact h3
-- what was purged once is purged
theorem cuts_stay {s s' : S} {sp : Int} {m : Nat} {cs : List ByteArray} (hs : okI sp) (c : Cuts s s' cs (Dr sp m)) {t : S} (hn : now t = now s') (ho : t.off = false) (ha : t.armed = 0) : purgeS t sp m = (0, t) := by
  have hsrt : Srt (now t) := by rw [hn]; exact c.srt
  obtain ⟨t', ds, e, d⟩ := purge_run hs m ho ha hsrt
  have hnn : now t' = now t := by
    refine ext_get d.srt hsrt (fun k => ?_)
    have : ∀ x, rget k (now t') = some x ↔ rget k (now t) = some x := by
      intro x
      rw [get_some d.srt, get_some hsrt, d.mem]
      constructor
      · exact fun h => h.1
      · intro h
        refine ⟨h, ?_⟩
        rw [hn] at h
        exact ((c.mem _).1 h).2
    cases h1 : rget k (now t') with
    | none =>
      cases h2 : rget k (now t) with
      | none => rfl
      | some x => rw [(this x).2 h2] at h1; cases h1
    | some x => rw [(this x).1 h1]
  have hl := d.len
  rw [hnn] at hl
  have : ds = [] := List.length_eq_zero_iff.1 (by omega)
  rw [e, d.eq, this]
  simp
theorem lf_of {s t : S} {sp : Int} (hs : okI sp) (ho : s.off = false) (ho' : t.off = false) {i : Nat} (hi : okI (i : Int)) (h : rget (keyT sp 1 i) (now s) = rget (keyT sp 1 i) (now t)) : lf s sp i = lf t sp i := by
  unfold lf
  rw [bget_on ho hs one_ok hi, bget_on ho' hs one_ok hi, h]
theorem lf_none {s : S} {sp : Int} {i : Nat} (h : rget (keyT sp 1 i) (now s) = none) : lf s sp i = none := by
  cases hl : lf s sp i with
  | none => rfl
  | some x =>
    have := lf_some (s := s) (sp := sp) (i := i) (by rw [hl]; rfl)
    rw [h] at this
    cases this
theorem st_cuts {s s' t : S} {sp : Int} {l : List ByteArray} {cs : List ByteArray} (hs : okI sp) (h : IsSt s sp l) (hl : l.length < 4611686018427387904) (ho : s.off = false) (hsrt : Srt (now s)) (c : Cuts s s' cs (Dr sp l.length)) (hn : now t = now s') (ho' : t.off = false) : IsSt t sp l := by
  have key : ∀ i : Nat, i ≤ l.length → ∀ d, rget (keyT sp 1 i) (now t) = some d ↔ rget (keyT sp 1 i) (now s) = some d ∧ i < l.length := by
    intro i hi d
    rw [hn, get_some c.srt, get_some hsrt, c.mem]
    have := dr_leaf hs (m := l.length) (i := i) (show okI (i : Int) from ⟨by omega, by omega⟩)
    simp only
    rw [this, Nat.not_le]
  constructor
  · intro i hi
    rw [← h.has i hi]
    refine (lf_of hs ho ho' ⟨by omega, by omega⟩ ?_).symm
    cases h1 : rget (keyT sp 1 i) (now s) with
    | none =>
      cases h2 : rget (keyT sp 1 i) (now t) with
      | none => rfl
      | some x => have := ((key i (by omega) x).1 h2).1; rw [h1] at this; cases this
    | some x => rw [(key i (by omega) x).2 ⟨h1, hi⟩]
  · refine lf_none ?_
    cases h2 : rget (keyT sp 1 l.length) (now t) with
    | none => rfl
    | some x => have := ((key l.length (Nat.le_refl _) x).1 h2).2; omega
-- opened for more leaves than stand there
set_option maxRecDepth 100000 in
set_option maxHeartbeats 6400000 in
theorem OpenLost {g bn bd : Nat} {pv : Value} {s : S} {w : World} (a b c d e f : Int) (sp least : Int) (l : List ByteArray) (h : Sr 0 g bn bd pv s w) (hs : okI sp) (hopt : a = 1 ∧ 1 ≤ b ∧ b ≤ 32) (ho : s.off = false) (hst : IsSt s sp l) (hl : l.length < 1099511627776) (hle : (l.length : Int) < least) :
    Calls Tryz.prog 54 #[.pointer (some ⟨g, 0, none⟩), .agg #[.int .i64 a, .int .i64 b, .int .i64 c, .int .i64 d, .int .i64 e, .int .i64 f], .int .i64 sp, .int .i64 least] w fun r w' => r = .returned (.tuple #[.pointer none, .int .i64 151]) ∧ Below w.heap.size w w' := by
  obtain ⟨W, HW⟩ : ∃ W, Hid (w.alloc (.cells #[.int .i64 a, .int .i64 b, .int .i64 c, .int .i64 d, .int .i64 e, .int .i64 f] 36) = W) := ⟨_, rfl⟩
  have bW : Below w.heap.size w W := by rw [← HW.out]; exact new1 _ _
  have hz : W.heap[w.heap.size]? = some (.cells #[.int .i64 a, .int .i64 b, .int .i64 c, .int .i64 d, .int .i64 e, .int .i64 f] 36 (0, 0)) := by rw [← HW.out]; exact heap_alloc_new w _
  have hzl := (Array.getElem?_eq_some_iff.1 hz).1
  have BW : Hid (Below w.heap.size w W) := bW
  have HFR : Hid (∀ j, w.heap.size ≤ j → ¬ Fr g bn bd pv j) := fun j hj e => by have := (sr_in h j e).1; omega
  have CO : Hid (Calls _ _ _ _ _) := optsC a b c d e f W
  have hok : okO a b = true := decide_eq_true hopt
  rw [hok] at CO
  have CK : Hid (∀ w1, Below W.heap.size W w1 → Calls _ _ _ _ _) := fun w1 bb => kopenYes sp (sr_later h (over bW bb)) hs ho
  have CS : Hid (∀ w1, Below W.heap.size W w1 → Calls _ _ _ _ _) := fun w1 bb => standingC sp s.age l (sr_later h (over bW bb)) hs hst hl
  have z0 := cell_of_row _ _ 0 _ _ _ hz
  have z1 := cell_of_row _ _ 1 _ _ _ hz
  have z2 := cell_of_row _ _ 2 _ _ _ hz
  have z3 := cell_of_row _ _ 3 _ _ _ hz
  have z4 := cell_of_row _ _ 4 _ _ _ hz
  have z5 := cell_of_row _ _ 5 _ _ _ hz
  have HFRS : Hid (∀ w1, Below W.heap.size W w1 → ∀ j, w1.heap.size ≤ j → ¬ Fr g bn bd pv j) := fun w1 bb j hj => HFR.out j (by have := (over bW bb).size; omega)
  have hlt : (l.length : Int) < least := by omega
  clear hl
  generalize s.age = ag at *
  clear h hz hzl bW hok hopt hst hle
  go_enter Tryz.func54, Tryz.ntmps54
  go_upto_region 1 with fail
  rw [HW.out]
  go_upto_region 3 with (first | (go_at_call 90; refine CO.out.mono ?_; rintro _ w1 ⟨rfl, b1⟩; have B1 : Hid (Below W.heap.size W w1) := b1; clear b1) | go_in)
  have C4 : Hid (Calls _ _ _ _ _) := CK.out w1 B1.out
  go_upto_region 6 with (first | (go_at_call 94; refine C4.out.mono ?_; rintro _ w2 ⟨rfl, b2⟩; have B2 : Hid (Below W.heap.size W w2) := over B1.out b2; clear b2) | go_in)
  obtain ⟨V, HV⟩ : ∃ V, Hid (w2.alloc (.cells #[.pointer (some ⟨g, 0, none⟩), .int .i64 sp, .int .i64 (ag : Int)] 137) = V) := ⟨_, rfl⟩
  have bV : Below w2.heap.size w2 V := by rw [← HV.out]; exact new1 _ _
  have hv : V.heap[w2.heap.size]? = some (.cells #[.pointer (some ⟨g, 0, none⟩), .int .i64 sp, .int .i64 (ag : Int)] 137 (0, 0)) := by rw [← HV.out]; exact heap_alloc_new w2 _
  have hvl := (Array.getElem?_eq_some_iff.1 hv).1
  have BV : Hid (Below W.heap.size W V) := over B2.out bV
  have hnF : ¬ Fr g bn bd pv w2.heap.size := HFRS.out w2 B2.out _ (Nat.le_refl _)
  rw [HV.out]
  have v0 := cell_of_row _ _ 0 _ _ _ hv
  have v1 := cell_of_row _ _ 1 _ _ _ hv
  have v2 := cell_of_row _ _ 2 _ _ _ hv
  have C5 : Hid (Calls _ _ _ _ _) := CS.out V BV.out
  clear hv hvl bV hnF
  go_wp2_with (first | (go_at_call 95; refine C5.out.mono ?_; rintro _ w3 ⟨lv, rfl, hrow, b3⟩; have B3 : Hid (Below V.heap.size V w3) := b3; have O3 : Hid (w3.ownsRow V.heap.size 9 1 lv l.length (l.map Value.string)) := hrow; have hvf := own_formS hrow; clear b3 hrow; obtain ⟨la, lc, rfl⟩ := hvf) | go_in)
  go_ret2
  exact ⟨rfl, over BW.out (over BV.out (over B3.out (new1 _ _)))⟩
end Go.Proofs.YtpcllegjnbeppaaGreat.ia
