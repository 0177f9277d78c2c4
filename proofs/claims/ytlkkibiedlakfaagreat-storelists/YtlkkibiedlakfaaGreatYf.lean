import Derived.Test.YtlkkibiedlakfaaGreatYe
namespace Go.Proofs.YtlkkibiedlakfaaGreat.yf
open Go.RowKit Go.PlainAid Go.Maps
open Go.Proofs.YtlkkibiedlakfaaGreat.ca Go.Proofs.YtlkkibiedlakfaaGreat.cb Go.Proofs.YtlkkibiedlakfaaGreat.cp Go.Proofs.YtlkkibiedlakfaaGreat.kp Go.Proofs.YtlkkibiedlakfaaGreat.ka Go.Proofs.YtlkkibiedlakfaaGreat.ya Go.Proofs.YtlkkibiedlakfaaGreat.yb Go.Proofs.YtlkkibiedlakfaaGreat.yc Go.Proofs.YtlkkibiedlakfaaGreat.yd Go.Proofs.YtlkkibiedlakfaaGreat.ye Go.Proofs.YtlkkibiedlakfaaGreat.sb Go.Proofs.YtlkkibiedlakfaaGreat.mc
set_option linter.unusedVariables false
set_option linter.unusedSimpArgs false
def Fr (g bn bd : Nat) (pv : Value) (k : Nat) : Prop := k = g ∨ k = bn ∨ k = bd ∨ some k = pv.ownBlock
-- the store as it is behind a call
def Rn (B g bn bd : Nat) (pv : Value) (s : S) (w w' : World) : Prop := ∃ pv', Sr B g bn bd pv' s w' ∧ Kp (Fr g bn bd pv) w w' ∧ ∀ k, some k = pv'.ownBlock → some k = pv.ownBlock ∨ w.heap.size ≤ k
theorem own_kp {A : Nat → Prop} {w w' : World} {B t z n : Nat} {v : Value} {xs : List Value} (o : w.ownsRow B t z v n xs) (k : Kp A w w') (hn : ∀ j, some j = v.ownBlock → ¬ A j) : w'.ownsRow B t z v n xs := by
  refine ⟨o.1, ?_⟩
  rcases o.2 with h2 | ⟨g', cap, cur', rfl, h2, h3, h4⟩
  · exact .inl h2
  · exact .inr ⟨g', cap, cur', rfl, h2, (k.block g' (Array.getElem?_eq_some_iff.1 h3).1 (hn g' rfl)).trans h3, h4⟩
theorem own_tag {w : World} {B t z n g : Nat} {v : Value} {xs : List Value} {cur : Array Value} {T : Nat} {f : Nat × Nat} (o : w.ownsRow B t z v n xs) (hh : w.heap[g]? = some (.cells cur T f)) (ht : t ≠ T) : some g ≠ v.ownBlock := by
  rcases o.2 with ⟨rfl, _⟩ | ⟨g', cap, cur', rfl, _, h3, _⟩
  · intro e; cases e
  · intro e
    have e : g = g' := Option.some.inj e
    subst e
    rw [hh] at h3
    injection h3 with h3
    injection h3 with _ h3 _
    exact ht h3.symm
theorem own_map {w : World} {B t z n b : Nat} {v : Value} {xs : List Value} {r : List Rec} (o : w.ownsRow B t z v n xs) (hm : Mp b r w) : some b ≠ v.ownBlock := by
  rcases o.2 with ⟨rfl, _⟩ | ⟨g', cap, cur', rfl, _, h3, _⟩
  · intro e; cases e
  · intro e
    exact hm.ne h3 (Option.some.inj e)
theorem sr_keep {A : Nat → Prop} {B g bn bd : Nat} {pv : Value} {s : S} {w w' : World} (h : Sr B g bn bd pv s w) (k : Kp A w w') (hn : ∀ j, Fr g bn bd pv j → ¬ A j) : Sr B g bn bd pv s w' :=
  ⟨h.row.keep k (hn g (.inl rfl)), h.mn.keep k (hn bn (.inr (.inl rfl))), h.md.keep k (hn bd (.inr (.inr (.inl rfl)))), h.ne, own_kp h.pr k (fun j hj => hn j (.inr (.inr (.inr hj)))), h.low, h.ok⟩
theorem sr_later {B g bn bd : Nat} {pv : Value} {s : S} {w w' : World} (h : Sr B g bn bd pv s w) (hb : Below w.heap.size w w') : Sr B g bn bd pv s w' := sr_keep h (Kp.of_below (A := fun _ => False) hb) (fun _ _ e => e)
theorem sr_in {B g bn bd : Nat} {pv : Value} {s : S} {w : World} (h : Sr B g bn bd pv s w) : ∀ j, Fr g bn bd pv j → j < w.heap.size ∧ B ≤ j := by
  rintro j (rfl | rfl | rfl | hj)
  · exact ⟨h.row.lt, h.low.1⟩
  · exact ⟨h.mn.lt, h.low.2.1⟩
  · exact ⟨h.md.lt, h.low.2.2⟩
  · exact ⟨(h.pr.lt _ hj.symm).2, (h.pr.lt _ hj.symm).1⟩
theorem Rn.refl {B g bn bd : Nat} {pv : Value} {s : S} {w : World} (h : Sr B g bn bd pv s w) : Rn B g bn bd pv s w w := ⟨pv, h, Kp.refl _ _, fun k hk => .inl hk⟩
theorem Rn.of {B g bn bd : Nat} {pv : Value} {s : S} {w w' : World} (h : Sr B g bn bd pv s w') (k : Kp (Fr g bn bd pv) w w') : Rn B g bn bd pv s w w' := ⟨pv, h, k, fun k hk => .inl hk⟩
theorem Rn.below {B g bn bd : Nat} {pv : Value} {s s' : S} {w w' : World} (h : Sr B g bn bd pv s w) (r : Rn B g bn bd pv s' w w') (hB : B ≤ w.heap.size) : Below B w w' := by
  obtain ⟨pv', _, k, _⟩ := r
  exact k.below (fun j hj => (sr_in h j hj).2) hB
theorem Rn.trans {B g bn bd : Nat} {pv : Value} {s s' : S} {w w1 w2 : World} (r : Rn B g bn bd pv s w w1) (q : ∀ pv', Sr B g bn bd pv' s w1 → Rn B g bn bd pv' s' w1 w2) : Rn B g bn bd pv s' w w2 := by
  obtain ⟨p1, h1, k1, n1⟩ := r
  obtain ⟨p2, h2, k2, n2⟩ := q p1 h1
  refine ⟨p2, h2, ⟨k2.os.trans k1.os, k2.tape.trans k1.tape, k2.output.trans k1.output, Nat.le_trans k1.size k2.size, fun j hj hn => ?_⟩, fun j hj => ?_⟩
  · refine (k2.block j (Nat.lt_of_lt_of_le hj k1.size) ?_).trans (k1.block j hj hn)
    rintro (e | e | e | e)
    · exact hn (.inl e)
    · exact hn (.inr (.inl e))
    · exact hn (.inr (.inr (.inl e)))
    · rcases n1 j e with e | e
      · exact hn (.inr (.inr (.inr e)))
      · omega
  · rcases n2 j hj with e | e
    · exact n1 j e
    · exact .inr (Nat.le_trans k1.size e)
def getS (s : S) (k : ByteArray) : ByteArray × Int := if refS s k ≠ 0 then (ByteArray.empty, refS s k) else ((rget k (now s)).getD ByteArray.empty, if (rget k (now s)).isSome then 0 else 123)
set_option maxHeartbeats 1600000 in
theorem getC {B g bn bd : Nat} {pv : Value} {s : S} {w : World} (k : ByteArray) (h : Sr B g bn bd pv s w) (hk : k.size ≤ 140737488355328) : Calls Tryz.prog 63 #[.pointer (some ⟨g, 0, none⟩), .string k] w fun e w' => e = .returned (.tuple #[.string (getS s k).1, .int .i64 (getS s k).2]) ∧ Below w.heap.size w w' := by
  have CR : Hid (Calls _ _ _ _ _) := refusalC k h.row
  have c0 := h.row.c0
  have HM : Hid (Mp bn (now s) w) := h.mn
  have hkm : k.size ≤ maxLen := by unfold maxLen; omega
  have HB : Hid (∀ o, Below w.heap.size w (w.alloc o)) := fun o => (Below.refl _ w).alloc (Nat.le_refl _) _
  have HB0 : Hid (Below w.heap.size w w) := Below.refl _ w
  obtain ⟨x, HX⟩ : ∃ x, Hid (refS s k = x) := ⟨_, rfl⟩
  obtain ⟨o, HO⟩ : ∃ o, Hid (rget k (now s) = o) := ⟨_, rfl⟩
  unfold getS
  rw [HX.out] at CR ⊢
  rw [HO.out]
  clear h
  by_cases hx : x = 0
  · subst hx
    rw [if_neg (by simp)]
    cases o with
    | none =>
      go_enter Tryz.func63, Tryz.ntmps63
      go_wp2_with (first | (go_at_call 88; refine CR.out.mono ?_; rintro _ _ ⟨rfl, hw⟩; rw [hw]; clear hw) | (at_lookup; refine wpList_look _ rfl _ _ rfl bn (now s) rfl HM.out k rfl hkm ?_; rw [HO.out]) | go_in)
      go_ret2
      exact ⟨rfl, by first | exact HB.out _ | exact (HB.out _).setCell (Nat.le_refl _) _⟩
    | some d =>
      go_enter Tryz.func63, Tryz.ntmps63
      go_wp2_with (first | (go_at_call 88; refine CR.out.mono ?_; rintro _ _ ⟨rfl, hw⟩; rw [hw]; clear hw) | (at_lookup; refine wpList_look _ rfl _ _ rfl bn (now s) rfl HM.out k rfl hkm ?_; rw [HO.out]) | go_in)
      go_ret2
      exact ⟨rfl, by first | exact HB.out _ | exact (HB.out _).setCell (Nat.le_refl _) _⟩
  · rw [if_pos hx]
    have hx' : (x != 0) = true := by rw [bne_iff_ne]; exact hx
    clear hx
    go_enter Tryz.func63, Tryz.ntmps63
    go_wp2_with (first | (go_at_call 88; refine CR.out.mono ?_; rintro _ _ ⟨rfl, hw⟩; rw [hw]; clear hw) | go_in)
    go_ret2
    exact ⟨rfl, HB0.out⟩
def keysS (s : S) (pre : ByteArray) : List ByteArray := if s.off then [] else keysL pre (now s)
theorem keysC {B g bn bd : Nat} {pv : Value} {s : S} {w : World} (k : ByteArray) (h : Sr B g bn bd pv s w) : Calls Tryz.prog 10 #[.pointer (some ⟨g, 0, none⟩), .string k] w fun e w' => ∃ v, e = .returned v ∧ w'.ownsRow w.heap.size 9 1 v (keysS s k).length ((keysS s k).map Value.string) ∧ Below w.heap.size w w' := by
  have CD : Hid (Calls _ _ _ _ _) := downC h.row
  have c0 := h.row.c0
  have CK : Hid (Calls _ _ _ _ _) := keysM bn (now s) k w h.mn (by have := h.ok.lnow; omega)
  have HB0 : Hid (Below w.heap.size w w) := Below.refl _ w
  unfold keysS
  clear h
  cases ho : s.off with
  | true =>
    rw [ho] at CD
    go_enter Tryz.func10, Tryz.ntmps10
    go_wp2_with (first | (go_at_call 33; refine CD.out.mono ?_; rintro _ _ ⟨rfl, hw⟩; rw [hw]; clear hw) | go_in)
    go_ret
    exact ⟨_, rfl, World.ownsRow_nil _ _ _ _, HB0.out⟩
  | false =>
    rw [ho] at CD
    go_enter Tryz.func10, Tryz.ntmps10
    go_wp2_with (first | (go_at_call 33; refine CD.out.mono ?_; rintro _ _ ⟨rfl, hw⟩; rw [hw]; clear hw) | (go_at_call 34; refine CK.out.mono ?_; rintro _ w1 ⟨v, rfl, h1, h2⟩; have H1 : Hid (World.ownsRow _ _ _ _ _ _ _) := h1; have H2 : Hid (Below _ _ _) := h2; clear h1 h2) | go_in)
    go_ret
    exact ⟨v, rfl, H1.out, H2.out⟩
def armS (s : S) (n : Int) : S := if s.off then s else { s with armed := n.toNat }
theorem now_armS (s : S) (n : Int) : now (armS s n) = now s := by unfold armS; split <;> rfl
theorem armC {B g bn bd : Nat} {pv : Value} {s : S} {w : World} (n : Int) (h : Sr B g bn bd pv s w) (hn : n ≤ 9223372036854775807) : Calls Tryz.prog 49 #[.pointer (some ⟨g, 0, none⟩), .int .i64 n] w fun e w' => e = .returned (.tuple #[]) ∧ Rn B g bn bd pv (armS s n) w w' := by
  have CD : Hid (Calls _ _ _ _ _) := downC h.row
  have f5 := h.row.fz 5
  have c5 := h.row.c5
  have H : Hid (Sr B g bn bd pv s w) := h
  unfold armS
  clear h
  cases ho : s.off with
  | true =>
    rw [ho] at CD
    go_enter Tryz.func49, Tryz.ntmps49
    go_wp2_with (first | (go_at_call 33; refine CD.out.mono ?_; rintro _ _ ⟨rfl, hw⟩; rw [hw]; clear hw) | go_in)
    (try simp only [Exit.inBlock, Exit.then]); refine bodyPost_ret (results_none rfl _ _ _) rfl ?_
    exact ⟨rfl, Rn.refl H.out⟩
  | false =>
    rw [ho] at CD
    obtain ⟨m, hm⟩ : ∃ m : Nat, n.toNat = m := ⟨_, rfl⟩
    rw [hm]
    have K : Hid (Kp (fun k => k = g) w (w.setCell ⟨g, 5, none⟩ (.int .i64 (m : Int)))) := Kp.setCell _ _ _ _ rfl
    have HS : Hid (Rn B g bn bd pv { s with armed := m } w (w.setCell ⟨g, 5, none⟩ (.int .i64 (m : Int)))) := by
      refine Rn.of ?_ (K.out.mono fun k hk => .inl hk)
      exact ⟨H.out.row.set5 _, H.out.mn.keep K.out (H.out.mn.ne H.out.row), H.out.md.keep K.out (H.out.md.ne H.out.row), H.out.ne, own_kp H.out.pr K.out (fun j hj e => by subst e; exact own_tag H.out.pr H.out.row (by decide) hj), H.out.low, ⟨H.out.ok.dur, H.out.ok.srt, H.out.ok.pend, H.out.ok.cap0, H.out.ok.cap1, by show m ≤ _; omega, H.out.ok.age, H.out.ok.len⟩⟩
    clear K
    rw [ho] at HS
    by_cases hn0 : n < 0
    · have hm0 : m = 0 := by omega
      subst hm0
      have hn1 : (0 : Int) > n := by omega
      have HX : Hid (max n 0 = ((0 : Nat) : Int)) := by show _ = _; omega
      go_enter Tryz.func49, Tryz.ntmps49
      go_wp2_with (first | (go_at_call 33; refine CD.out.mono ?_; rintro _ _ ⟨rfl, hw⟩; rw [hw]; clear hw) | go_in)
      go_end0
      exact ⟨rfl, by rw [HX.out]; exact HS.out⟩
    · have hm0 : n = m := by omega
      subst hm0
      clear hm hn0
      go_enter Tryz.func49, Tryz.ntmps49
      go_wp2_with (first | (go_at_call 33; refine CD.out.mono ?_; rintro _ _ ⟨rfl, hw⟩; rw [hw]; clear hw) | go_in)
      go_end0
      exact ⟨rfl, HS.out⟩
theorem landC (bd : Nat) (r : List Rec) (x : W) (w : World) (h : Mp bd r w) (hx : OkW x) (hl : r.length < maxLen) : Calls Tryz.prog 53 #[.agg #[fnV bd x.cut, .string x.key, .string x.data]] w fun e w' => e = .returned (.tuple #[]) ∧ Mp bd (doW r x) w' ∧ Kp (fun k => k = bd) w w' := by
  obtain ⟨c, k, d⟩ := x
  have hk : k.size ≤ maxLen := Nat.le_trans hx.2.1 (by unfold maxLen; omega)
  have hd : d.size ≤ maxLen := Nat.le_trans hx.2.2 (by unfold maxLen; omega)
  have hlt := h.lt
  have KB : Hid (∀ o, Kp (fun k => k = bd) w (w.alloc o)) := fun o => Kp.of_below ((Below.refl _ w).alloc (Nat.le_refl _) _)
  have HM : Hid (∀ o, Mp bd r (w.alloc o)) := fun o => h.keep (Kp.of_below (A := fun _ => False) ((Below.refl _ w).alloc (Nat.le_refl _) o)) (fun e => e)
  unfold doW
  clear h hx
  cases c with
  | true =>
    have ef : fnV bd true = .func (.func 106) #[.map (some bd)] #[] := rfl
    rw [ef]
    go_enter Tryz.func53, Tryz.ntmps53
    go_wp2_with (first | (go_at_call 106; refine (cutM bd r k d _ (HM.out _) hk).mono ?_; rintro _ w1 ⟨rfl, h1, k1⟩) | go_in)
    go_end0
    exact ⟨rfl, h1, (KB.out _).trans k1⟩
  | false =>
    have ef : fnV bd false = .func (.func 93) #[.map (some bd)] #[] := rfl
    rw [ef]
    go_enter Tryz.func53, Tryz.ntmps53
    go_wp2_with (first | (go_at_call 93; refine (putM bd r k d _ (HM.out _) hk hd hl).mono ?_; rintro _ w1 ⟨rfl, h1, k1⟩) | go_in)
    go_end0
    exact ⟨rfl, h1, (KB.out _).trans k1⟩
end Go.Proofs.YtlkkibiedlakfaaGreat.yf
