import Derived.Test.YtlkkibiedlakfaaGreatZg
import Derived.Test.YtlkkibiedlakfaaGreatZc
import Derived.Test.YtlkkibiedlakfaaGreatBn
namespace Go.Proofs.YtlkkibiedlakfaaGreat.zh
open Go.RowKit Go.PlainAid Go.Maps Go.Shelf
open Go.Proofs.YtlkkibiedlakfaaGreat.ca Go.Proofs.YtlkkibiedlakfaaGreat.cb Go.Proofs.YtlkkibiedlakfaaGreat.cp Go.Proofs.YtlkkibiedlakfaaGreat.kp Go.Proofs.YtlkkibiedlakfaaGreat.ka Go.Proofs.YtlkkibiedlakfaaGreat.ya Go.Proofs.YtlkkibiedlakfaaGreat.yb Go.Proofs.YtlkkibiedlakfaaGreat.yc Go.Proofs.YtlkkibiedlakfaaGreat.yd Go.Proofs.YtlkkibiedlakfaaGreat.ye Go.Proofs.YtlkkibiedlakfaaGreat.yf Go.Proofs.YtlkkibiedlakfaaGreat.yg Go.Proofs.YtlkkibiedlakfaaGreat.yi Go.Proofs.YtlkkibiedlakfaaGreat.yk Go.Proofs.YtlkkibiedlakfaaGreat.yl Go.Proofs.YtlkkibiedlakfaaGreat.ym Go.Proofs.YtlkkibiedlakfaaGreat.yn Go.Proofs.YtlkkibiedlakfaaGreat.yo Go.Proofs.YtlkkibiedlakfaaGreat.yp Go.Proofs.YtlkkibiedlakfaaGreat.yr Go.Proofs.YtlkkibiedlakfaaGreat.yt Go.Proofs.YtlkkibiedlakfaaGreat.yu Go.Proofs.YtlkkibiedlakfaaGreat.zg
set_option linter.unusedVariables false
set_option linter.unusedSimpArgs false
-- two stores that are the same but for the age
def old (t : S) (a : Nat) : S := { t with age := a }
theorem spend_old (t : S) (a : Nat) : spendS (old t a) = ((spendS t).1, old (spendS t).2 a) := by
  unfold spendS
  show (if t.armed = 0 then _ else _) = _
  by_cases h0 : t.armed = 0
  · rw [if_pos h0, if_pos h0]
  · rw [if_neg h0, if_neg h0]
    show (if t.armed = 1 then _ else _) = _
    by_cases h1 : t.armed = 1
    · rw [if_pos h1, if_pos h1]; rfl
    · rw [if_neg h1, if_neg h1]; rfl
theorem ref_old (t : S) (a : Nat) (k : ByteArray) : refS (old t a) k = refS t k := rfl
theorem now_old (t : S) (a : Nat) : now (old t a) = now t := rfl
theorem get_old (t : S) (a : Nat) (k : ByteArray) : getS (old t a) k = getS t k := rfl
theorem keys_old (t : S) (a : Nat) (k : ByteArray) : keysS (old t a) k = keysS t k := rfl
theorem put_old (t : S) (a : Nat) (k d : ByteArray) : putS (old t a) k d = ((putS t k d).1, old (putS t k d).2 a) := by
  unfold putS
  rw [ref_old, now_old]
  split
  · rfl
  · split
    · show (if t.cap < (tot (put k d (now t)) : Nat) ∧ tot (now t) < tot (put k d (now t)) then _ else _) = _
      by_cases hf : t.cap < (tot (put k d (now t)) : Nat) ∧ tot (now t) < tot (put k d (now t))
      · rw [if_pos hf, if_pos hf]
      · rw [if_neg hf, if_neg hf]
        exact spend_old (addW t _) a
    · rfl
theorem cut_old (t : S) (a : Nat) (k : ByteArray) : cutS (old t a) k = ((cutS t k).1, old (cutS t k).2 a) := by
  unfold cutS
  rw [ref_old, now_old]
  split
  · rfl
  · split
    · exact spend_old (addW t _) a
    · rfl
theorem sync_old (t : S) (a : Nat) : syncS (old t a) = ((syncS t).1, old (syncS t).2 a) := by
  unfold syncS
  rw [spend_old, now_old]
  show (if t.off = true then _ else _) = _
  split
  · rfl
  · split
    · rfl
    · rfl
theorem alike (t : S) (a : Nat) (kind : Int) (k d : ByteArray) (n : Int) : (doS (old t a) kind k d n).1 = (doS t kind k d n).1 ∧ ∃ a', (doS (old t a) kind k d n).2 = old (doS t kind k d n).2 a' := by
  unfold doS
  split
  · rw [put_old]; exact ⟨rfl, a, rfl⟩
  · split
    · rw [cut_old]; exact ⟨rfl, a, rfl⟩
    · split
      · rw [sync_old]; exact ⟨rfl, a, rfl⟩
      · split
        · refine ⟨rfl, a, ?_⟩
          unfold armS
          show (if t.off = true then _ else _) = _
          split <;> rfl
        · split
          · exact ⟨rfl, a + 1, rfl⟩
          · split
            · exact ⟨rfl, a, rfl⟩
            · exact ⟨rfl, a, rfl⟩
theorem alikeO (t : S) (a : Nat) (o : Opn) : ∃ a', doO (old t a) o = old (doO t o) a' := (alike t a o.kind o.key o.data o.n).2
theorem ans_old (t : S) (a : Nat) (kind : Int) (k : ByteArray) : aT (old t a) kind k = aT t kind k ∧ aN (old t a) kind k = aN t kind k ∧ aA (old t a) kind = aA t kind ∧ aB (old t a) kind = aB t kind ∧ aC (old t a) kind = aC t kind ∧ aD (old t a) kind = aD t kind := ⟨rfl, rfl, rfl, rfl, rfl, rfl⟩
theorem below_dN {B : Nat} {w w' : World} (h : Below B w w') (n : Nat) : Below B w (w'.drewN n) := ⟨h.os, h.tape, h.output, h.size, h.block⟩
theorem two_new {w w1 : World} {o1 o2 : Obj} (b : Below ((w.alloc o1).alloc o2).heap.size ((w.alloc o1).alloc o2) w1) : w1.heap[w.heap.size]? = some o1 ∧ w1.heap[w.heap.size + 1]? = some o2 := by
  have h2 := (MapKept.heap_alloc (w.alloc o1) o2).1
  have e : (w.alloc o1).heap.size = w.heap.size + 1 := by simp
  rw [e] at h2
  refine ⟨(b.block _ (by simp; omega)).trans ?_, (b.block _ (by simp)).trans h2⟩
  rw [heap_alloc_old _ _ (by simp)]; exact heap_alloc_new w _
-- the law's same, on answers that are the same
set_option maxRecDepth 20000 in
set_option maxHeartbeats 6400000 in
theorem same12 (t : ByteArray) (na nb : Option Addr) (nl nc ml mc : Nat) (e x y z q : Int) (f : Bool) (xs : List ByteArray) (w : World) (h1 : ReadsT w (.slice na nl nc) xs) (h2 : ReadsT w (.slice nb ml mc) xs) (hz : xs.length ≤ 140737488355328) :
    Calls Tryz.prog 25 #[.agg #[.string t, .slice na nl nc, .int .i64 e, .int .i64 x, .int .i64 y, .int .i64 z, .bool f, .int .i64 q], .agg #[.string t, .slice nb ml mc, .int .i64 e, .int .i64 x, .int .i64 y, .int .i64 z, .bool f, .int .i64 q]] w fun r w' => r = .returned (.bool true) ∧ Below w.heap.size w w' := by
  have CS : Hid (∀ w', Below w.heap.size w w' → Calls _ _ _ _ _) := fun w' b => bn.same_yes (.slice na nl nc) (.slice nb ml mc) xs w' (h1.later b) (h2.later b) hz
  have HB : Hid (∀ o o', Below w.heap.size w ((w.alloc o).alloc o')) := fun o o' => ((Below.refl _ w).alloc (Nat.le_refl _) _).alloc (by simp) _
  clear h1 h2
  have t1 : (t.toList == t.toList) = true := by simp
  have t2 : (e == e) = true := by simp
  have t3 : (x == x) = true := by simp
  have t4 : (y == y) = true := by simp
  have t5 : (z == z) = true := by simp
  have t6 : (f == f) = true := by simp
  have t7 : (q == q) = true := by simp
  go_enter Tryz.func25, Tryz.ntmps25
  go_wp2_with fail
  refine (CS.out _ (HB.out _ _)).mono ?_
  rintro _ w2 ⟨rfl, hw⟩
  have b2' : ∀ W : World, (∃ m, w2 = W.drewN m) → Below W.heap.size W w2 := fun W ⟨m, hm⟩ => by rw [hm]; exact below_dN (Below.refl _ _) m
  have b2 := b2' _ hw
  clear b2'
  have HB2 : Hid (Below w.heap.size w w2) := (HB.out _ _).trans (b2.mono (by simp; omega))
  obtain ⟨f1, f2⟩ := two_new b2
  obtain ⟨a0, a1, a2, a3, a4, a5, a6, a7⟩ := eight f1
  obtain ⟨c0, c1, c2, c3, c4, c5, c6, c7⟩ := eight f2
  clear hw b2 f1 f2 CS HB
  go_wp2
  go_ret
  exact ⟨rfl, HB2.out⟩
-- two stores beside each other
structure Tw (B g bn bd g' bn' bd' : Nat) (s t : S) (w w' : World) : Prop where
  ex : ∃ pv pv', Sr B g bn bd pv s w' ∧ Sr B g' bn' bd' pv' t w' ∧ ∀ j, Fr g bn bd pv j → ¬ Fr g' bn' bd' pv' j
  bl : Below B w w'
theorem Tw.symm {B g bn bd g' bn' bd' : Nat} {s t : S} {w w' : World} (h : Tw B g bn bd g' bn' bd' s t w w') : Tw B g' bn' bd' g bn bd t s w w' := by
  obtain ⟨⟨pv, pv', h1, h2, h3⟩, hb⟩ := h
  exact ⟨⟨pv', pv, h2, h1, fun j hj hF => h3 j hF hj⟩, hb⟩
theorem Tw.later {B g bn bd g' bn' bd' : Nat} {s t : S} {w w1 w2 : World} (h : Tw B g bn bd g' bn' bd' s t w w1) (b : Below w1.heap.size w1 w2) (hB : B ≤ w.heap.size) : Tw B g bn bd g' bn' bd' s t w w2 := by
  obtain ⟨⟨pv, pv', h1, h2, h3⟩, hb⟩ := h
  exact ⟨⟨pv, pv', sr_later h1 b, sr_later h2 b, h3⟩, hb.trans (b.mono (Nat.le_trans hB hb.size))⟩
theorem dj_new {g bn bd g' bn' bd' : Nat} {pv pv' pv2 : Value} {w1 : World} (dj : ∀ j, Fr g bn bd pv j → ¬ Fr g' bn' bd' pv' j) (ht : ∀ j, Fr g' bn' bd' pv' j → j < w1.heap.size) (n : ∀ k, some k = pv2.ownBlock → some k = pv.ownBlock ∨ w1.heap.size ≤ k) : ∀ j, Fr g bn bd pv2 j → ¬ Fr g' bn' bd' pv' j := by
  rintro j (h | h | h | h) hF
  · exact dj j (.inl h) hF
  · exact dj j (.inr (.inl h)) hF
  · exact dj j (.inr (.inr (.inl h))) hF
  · rcases n j h with h | h
    · exact dj j (.inr (.inr (.inr h))) hF
    · have := ht j hF; omega
theorem Tw.left {B g bn bd g' bn' bd' : Nat} {pv pv' : Value} {s t s2 : S} {w w1 w2 : World} (hs : Sr B g bn bd pv s w1) (ht : Sr B g' bn' bd' pv' t w1) (dj : ∀ j, Fr g bn bd pv j → ¬ Fr g' bn' bd' pv' j) (hb : Below B w w1) (hB : B ≤ w.heap.size) (r : Rn B g bn bd pv s2 w1 w2) : Tw B g bn bd g' bn' bd' s2 t w w2 := by
  have bb := Rn.below hs r (Nat.le_trans hB hb.size)
  obtain ⟨pv2, h2, k, n⟩ := r
  exact ⟨⟨pv2, pv', h2, sr_keep ht k (fun j hj hF => dj j hF hj), dj_new dj (fun j hj => (sr_in ht j hj).1) n⟩, hb.trans bb⟩
abbrev gotV (s : S) (o : Opn) (na : Option Addr) (nl nc : Nat) : Array Value := #[.string (aT s o.kind o.key), .slice na nl nc, .int .i64 (doS s o.kind o.key o.data o.n).1, .int .i64 (aA s o.kind), .int .i64 (aB s o.kind), .int .i64 (aC s o.kind), .bool (aD s o.kind), .int .i64 (aG s o.kind)]
-- the first call: on the left store, the block ob just made
def Fst (B g bn bd : Nat) (pv : Value) (s : S) (o : Opn) (ob : Obj) (na : Option Addr) (nl nc : Nat) (w w5 : World) : Prop :=
  w5.ownsRow (w.heap.size + 1) 9 1 (.slice na nl nc) (aN s o.kind o.key).length ((aN s o.kind o.key).map Value.string) ∧ Rn B g bn bd pv (doO s o) (w.alloc ob) w5 ∧ w5.heap[w.heap.size]? = some ob
theorem fst_do {B g bn bd : Nat} {pv : Value} {s : S} {w : World} (o : Opn) (ob : Obj) (hs : Sr B g bn bd pv s w) (hB : B ≤ w.heap.size) (ho : OkO o) (hn : nums s + 1 < 3518437208883) (ha : s.age < 4398046511104) (hm : mass s ≤ 140737488355000) :
    Calls Tryz.prog 26 #[.pointer (some ⟨g, 0, none⟩), .agg #[.int .i64 o.kind, .string o.key, .string o.data, .int .i64 o.n]] (w.alloc ob) fun e w' => ∃ (na : Option Addr) (nl nc : Nat), e = .returned (.agg (gotV s o na nl nc)) ∧ Fst B g bn bd pv s o ob na nl nc w w' := by
  have b1 : Below w.heap.size w (w.alloc ob) := (Below.refl _ w).alloc (Nat.le_refl _) _
  have h5 := sr_later hs b1
  have hz : (w.alloc ob).heap.size = w.heap.size + 1 := by simp
  refine (doT o.kind o.key o.data o.n h5 ho.1 ho.2.1 ho.2.2 hn ha (by unfold mass at hm; omega) (by omega)).mono ?_
  rintro e w' ⟨na, nl, nc, rfl, ow, r⟩
  rw [hz] at ow
  exact ⟨na, nl, nc, rfl, ow, r, rn_cells hs r (Nat.le_refl _) (heap_alloc_new w ob)⟩
-- the second: on the right one, the left one's answer kept in a block
def Snd (B g bn bd g' bn' bd' : Nat) (s t : S) (o : Opn) (ga : Obj) (na nb : Option Addr) (nl nc ml mc p : Nat) (w0 w7 : World) : Prop :=
  w7.heap[p]? = some ga ∧ p < w7.heap.size ∧ ∀ W, Kp (fun q => q = p) w7 W → Tw B g bn bd g' bn' bd' (doO s o) (doO t o) w0 W ∧ ReadsT W (.slice na nl nc) (aN s o.kind o.key) ∧ ReadsT W (.slice nb ml mc) (aN t o.kind o.key)
theorem snd_do {B g bn bd g' bn' bd' : Nat} {pv pv' : Value} {s t : S} {w0 w w5 : World} {na : Option Addr} {nl nc : Nat} (o : Opn) (ob ga : Obj) (hs : Sr B g bn bd pv s w) (ht : Sr B g' bn' bd' pv' t w) (dj : ∀ j, Fr g bn bd pv j → ¬ Fr g' bn' bd' pv' j) (hb : Below B w0 w) (hB : B ≤ w0.heap.size) (ho : OkO o) (hn : nums t + 1 < 3518437208883) (ha : t.age < 4398046511104) (hm : mass t ≤ 140737488355000) (h : Fst B g bn bd pv s o ob na nl nc w w5) :
    Calls Tryz.prog 26 #[.pointer (some ⟨g', 0, none⟩), .agg #[.int .i64 o.kind, .string o.key, .string o.data, .int .i64 o.n]] (w5.alloc ga) fun e w' => ∃ (nb : Option Addr) (ml mc : Nat), e = .returned (.agg (gotV t o nb ml mc)) ∧ Snd B g bn bd g' bn' bd' s t o ga na nb nl nc ml mc w5.heap.size w0 w' := by
  obtain ⟨own, r, hob⟩ := h
  have hBw : B ≤ w.heap.size := Nat.le_trans hB hb.size
  have b1 : Below w.heap.size w (w.alloc ob) := (Below.refl _ w).alloc (Nat.le_refl _) _
  have hs1 := sr_later hs b1
  have ht1 := sr_later ht b1
  have hz : (w.alloc ob).heap.size = w.heap.size + 1 := by simp
  have bb := Rn.below hs1 r (by omega)
  have hw5 := bb.size
  obtain ⟨pv2, h2, k2, n2⟩ := r
  have ht5 := sr_keep ht1 k2 (fun j hj hF => dj j hF hj)
  have low' : ∀ j, Fr g' bn' bd' pv' j → j < w.heap.size := fun j hj => (sr_in ht j hj).1
  have dj2 : ∀ j, Fr g bn bd pv2 j → ¬ Fr g' bn' bd' pv' j := dj_new (w1 := w.alloc ob) dj (fun j hj => by have := low' j hj; omega) n2
  have b6 : Below w5.heap.size w5 (w5.alloc ga) := (Below.refl _ w5).alloc (Nat.le_refl _) _
  have hz6 : (w5.alloc ga).heap.size = w5.heap.size + 1 := by simp
  have ht6 := sr_later ht5 b6
  have hs6 := sr_later h2 b6
  refine (doT o.kind o.key o.data o.n ht6 ho.1 ho.2.1 ho.2.2 hn ha (by unfold mass at hm; omega) (by omega)).mono ?_
  rintro e w7 ⟨nb, ml, mc, rfl, ow, r7⟩
  have bb7 := Rn.below ht6 r7 (by omega)
  obtain ⟨pv7, h7, k7, n7⟩ := r7
  have hw7 := bb7.size
  have hga : w7.heap[w5.heap.size]? = some ga := by
    rw [k7.block _ (by omega) (fun hF => by have := low' _ hF; omega)]
    exact heap_alloc_new w5 ga
  refine ⟨nb, ml, mc, rfl, hga, by omega, fun W k => ?_⟩
  have hs7 := sr_keep hs6 k7 (fun j hj hF => dj2 j hj hF)
  have dj7 : ∀ j, Fr g' bn' bd' pv7 j → ¬ Fr g bn bd pv2 j := dj_new (w1 := w5.alloc ga) (fun j hj hF => dj2 j hF hj) (fun j hj => (sr_in hs6 j hj).1) n7
  have ns : ∀ j, Fr g bn bd pv2 j → ¬ j = w5.heap.size := fun j hj e => by have := (sr_in h2 j hj).1; omega
  have nt : ∀ j, Fr g' bn' bd' pv7 j → ¬ j = w5.heap.size := by
    rintro j (e | e | e | e) e2
    · have := low' j (.inl e); omega
    · have := low' j (.inr (.inl e)); omega
    · have := low' j (.inr (.inr (.inl e))); omega
    · rcases n7 j e with e3 | e3
      · have := low' j (.inr (.inr (.inr e3))); omega
      · omega
  have own6 := own_kp own (Kp.of_below (A := fun _ => False) b6) (fun _ _ e => e)
  have own7 := own_kp own6 k7 (fun j hj hF => by have h1 := low' j hF; have h2 := (own6.lt _ hj.symm).1; omega)
  refine ⟨⟨⟨pv2, pv7, sr_keep hs7 k ns, sr_keep h7 k nt, fun j hj hF => dj7 j hF hj⟩, ?_⟩, own_readsT (own_kp own7 k (fun j hj e => ?_)), own_readsT (own_kp ow k (fun j hj e => ?_))⟩
  · have bA : Below B w0 w5 := hb.trans (Below.trans (b1.mono hBw) bb)
    have bC : Below B w0 w7 := (bA.trans (b6.mono (by omega))).trans bb7
    exact ⟨k.os.trans bC.os, k.tape.trans bC.tape, k.output.trans bC.output, Nat.le_trans bC.size k.size, fun i hi => (k.block i (by have := bC.size; omega) (by omega)).trans (bC.block i hi)⟩
  · have h1 := (own.lt _ hj.symm).2; omega
  · have h1 := (ow.lt _ hj.symm).1; omega
end Go.Proofs.YtlkkibiedlakfaaGreat.zh
