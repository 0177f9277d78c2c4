import Derived.Test.YtjkkijeamcihiaaDb
namespace Go.Proofs.Ytjkkijeamcihiaa.dd
open Go.RowKit Go.PlainAid Go.Maps
open Go.Proofs.Ytjkkijeamcihiaa.cp Go.Proofs.Ytjkkijeamcihiaa.kp Go.Proofs.Ytjkkijeamcihiaa.ka Go.Proofs.Ytjkkijeamcihiaa.bn Go.Proofs.Ytjkkijeamcihiaa.ra Go.Proofs.Ytjkkijeamcihiaa.rc Go.Proofs.Ytjkkijeamcihiaa.re Go.Proofs.Ytjkkijeamcihiaa.rg Go.Proofs.Ytjkkijeamcihiaa.sa Go.Proofs.Ytjkkijeamcihiaa.lz Go.Proofs.Ytjkkijeamcihiaa.lc Go.Proofs.Ytjkkijeamcihiaa.da Go.Proofs.Ytjkkijeamcihiaa.db
open Go.Proofs.Ytjkkijeamcihiaa.rl (below_grownBy)
set_option linter.unusedVariables false
set_option linter.unusedSimpArgs false
-- the first j, without what stands at i
def er (l : List (K × V)) (i j : Nat) : List (K × V) := (l.take j).eraseIdx i
theorem er_skip (l : List (K × V)) (i : Nat) (h : i < l.length) : er l i (i + 1) = er l i i := by
  unfold er
  apply List.ext_getElem?
  intro t
  simp only [List.getElem?_eraseIdx, List.getElem?_take]
  by_cases h1 : t < i
  · simp only [h1, if_true]
    rw [if_pos (by omega)]
  · simp only [h1, if_false]
    rw [if_neg (by omega), if_neg (by omega)]
theorem er_next (l : List (K × V)) (i j : Nat) (hj : j < l.length) (hne : j ≠ i) : er l i (j + 1) = er l i j ++ [l[j]] := by
  unfold er
  rw [List.take_succ_eq_append_getElem hj]
  by_cases h : i < j
  · rw [List.eraseIdx_append_of_lt_length (by rw [List.length_take]; omega)]
  · rw [List.eraseIdx_of_length_le (by rw [List.length_append, List.length_take]; simp only [List.length_singleton]; omega), List.eraseIdx_of_length_le (by rw [List.length_take]; omega)]
theorem er_all (l : List (K × V)) (i : Nat) : er l i l.length = l.eraseIdx i := by unfold er; rw [List.take_length]
theorem er_len (l : List (K × V)) (i j : Nat) : (er l i j).length ≤ j := by
  unfold er
  have := List.length_eraseIdx_le (l.take j) i
  have := List.length_take_le j l
  omega
-- two rows of texts of the call's own, apart
structure Rw (B : Nat) (kx vx : Value) (ks vs : List ByteArray) (w0 w : World) : Prop where
  k : w.ownsRow B 9 1 kx ks.length (ks.map Value.string)
  v : w.ownsRow B 9 1 vx vs.length (vs.map Value.string)
  ne : ∀ b, kx.ownBlock = some b → vx.ownBlock ≠ some b
  below : Below B w0 w
  size : B ≤ w0.heap.size
section
variable {g : Nat} {kv vv : Value} {s : St} {w w' : World}
set_option maxHeartbeats 3200000 in
theorem outC {i : Nat} (h : Dc g kv vv s w) (hi : i < s.l.length) :
    Calls Try.prog 60 #[pt ⟨g, 0, none⟩, .int .i64 (i : Nat)] w fun e w' => e = .returned (.tuple #[]) ∧ Rx g kv vv s { s with l := s.l.eraseIdx i } w w' := by
  obtain ⟨i9, hi', hz0, hz1, hz2⟩ := info_parts hi9
  have HIN : Hid (_ ∧ _ ∧ _ ∧ _) := ⟨hi', hz0, hz1, hz2⟩
  clear hi' hz0 hz1 hz2
  have HD : Hid (∀ w', Below w.heap.size w w' → Dc g kv vv s w') := fun w' hb => h.later hb
  have c1 := h.c1
  obtain ⟨n, HN⟩ : ∃ n, Hid (s.l.length = n) := ⟨_, rfl⟩
  have HN4 : Hid (n ≤ 4100) := by have := h.len; rw [HN.out] at this; exact this
  have hn4 : (n : Int) ≤ 1000000 := by have := HN4.out; omega
  obtain ⟨ka, kc, hkv⟩ := k_form h
  rw [HN.out] at hkv
  have HGL : Hid (g < w.heap.size) := h.lt
  have hin : i < n := by rw [← HN.out]; exact hi
  have HI : Hid (i < s.l.length) := hi
  have hval : Hid (∃ a c, vv = .slice a n c) := by
    obtain ⟨b, off, c, e, _⟩ := val_at h hi
    rw [HN.out] at e
    exact ⟨_, c, e⟩
  have HB0 : Hid (Below w.heap.size w w) := Below.refl _ _
  obtain ⟨va, vc, hvv⟩ := hval.out
  subst hkv hvv
  clear h hi hval
  unfold pt
  go_enter Try.func60, Try.ntmps60
  go_wp2
  go_loopw [4, 5, 6] (fun kx vx jv wr => ∃ j : Nat, j ≤ n ∧ jv = .int .i64 j ∧ Hid (Rw w.heap.size kx vx (keys (er s.l i j)) (vals (er s.l i j)) w wr)) (fun _ _ jv _ => (n - intOf jv).toNat)
  case atStart => exact ⟨0, Nat.zero_le _, rfl, ⟨World.ownsRow_nil _ _ _ _, World.ownsRow_nil _ _ _ _, fun b hb => (by cases hb), HB0.out, Nat.le_refl _⟩⟩
  case round =>
    obtain ⟨j, hj, rfl, HR⟩ := hrel
    obtain ⟨xa, xc, hx4⟩ := own_formS HR.out.k
    obtain ⟨ya, yc, hx5⟩ := own_formS HR.out.v
    subst hx4 hx5
    have D := HD.out _ HR.out.below
    have d1 := D.c1
    have d2 := D.c2
    by_cases hjn : j < n
    · have hjn' : (j : Int) < n := by omega
      have hjl : j < s.l.length := by rw [HN.out]; exact hjn
      by_cases hji : j = i
      · have hji' : ((j : Int) == (i : Int)) = true := by rw [beq_iff_eq, hji]
        have HE : Hid (er s.l i (j + 1) = er s.l i j) := by rw [hji]; exact er_skip _ _ HI.out
        clear hji D
        go_wp2
        go_roundw
        case rel => exact ⟨j + 1, by omega, by go_num, by rw [HE.out]; exact HR.out⟩
        case measure => simp [intOf]; omega
      · have hji' : ((j : Int) == (i : Int)) = false := by rw [beq_eq_false_iff_ne]; omega
        have HE : Hid (er s.l i (j + 1) = er s.l i j ++ [s.l[j]]) := er_next _ _ _ hjl hji
        obtain ⟨b, off, c, e, _, dk⟩ := key_at D hjl
        obtain ⟨b2, off2, c2, e2, _, dv⟩ := val_at D hjl
        have e1 := (Value.slice.inj e).1
        have e3 := (Value.slice.inj e2).1
        clear e e2
        subst e1 e3
        obtain ⟨⟨xk, xv⟩, hxx⟩ : ∃ x, s.l[j] = x := ⟨_, rfl⟩
        have HXX : Hid (s.l[j] = (xk, xv)) := hxx
        rw [hxx] at dk dv HE
        clear hxx
        have hel := er_len s.l i j
        obtain ⟨m, HM⟩ : ∃ m, Hid ((er s.l i j).length = m) := ⟨_, rfl⟩
        have hkm : (keys (er s.l i j)).length = m := by simp [keys, HM.out]
        have hvm : (vals (er s.l i j)).length = m := by simp [vals, HM.out]
        rw [HM.out] at hel
        have hmx : Hid (m + 1 ≤ maxLen ∧ (m + 1) * 16 ≤ 140737488355328) := by
          have := HN4.out
          constructor
          · unfold maxLen; omega
          · omega
        have HRk : Hid ((wr.alloc (.cells #[.string xk] 9)).ownsRow w.heap.size 9 1 (.slice xa m xc) m ((keys (er s.l i j)).map Value.string)) := by have := HR.out.k.alloc (.cells #[.string xk] 9); rw [hkm] at this; exact this
        have HRv : Hid ((wr.alloc (.cells #[.string xk] 9)).ownsRow w.heap.size 9 1 (.slice ya m yc) m ((vals (er s.l i j)).map Value.string)) := by have := HR.out.v.alloc (.cells #[.string xk] 9); rw [hvm] at this; exact this
        have HRB : Hid (Below w.heap.size w (wr.alloc (.cells #[.string xk] 9)) ∧ w.heap.size ≤ (wr.alloc (.cells #[.string xk] 9)).heap.size) := by
          have b := HR.out.below.alloc HR.out.below.size (.cells #[.string xk] 9)
          exact ⟨b, b.size⟩
        have HNE : Hid (∀ b, (Value.slice xa m xc).ownBlock = some b → (Value.slice ya m yc).ownBlock ≠ some b) := by have := HR.out.ne; rw [hkm, hvm] at this; exact this
        have HVL : Hid (∀ b, (Value.slice ya m yc).ownBlock = some b → b < wr.heap.size) := fun b hb => by
          have := HR.out.v
          rw [hvm] at this
          exact (this.lt b hb).2
        have HKM : Hid ((keys (er s.l i j)).length = m) := hkm
        have HVM : Hid ((vals (er s.l i j)).length = m) := hvm
        rw [hkm, hvm]
        clear D hkm hvm
        go_upto_region 7 with (first | (at_builtin; (refine wpList_append_own_at _ rfl _ _ 30 rfl w.heap.size 9 i9 (.string ByteArray.empty) 1 16 Try.underlying30 HIN.out.1 HIN.out.2.1 HIN.out.2.2.1 HIN.out.2.2.2 rfl (by decide) _ m _ rfl HRk.out ⟨wr.heap.size, 0, none⟩ 1 1 [.string xk] rfl rfl (new_text _ _ _) (one_text _) hmx.out.1 hmx.out.2 HRB.out.2 ?_; intro k1 w3 ho hg hnn hob; have HO3 : Hid (World.ownsRow _ _ _ _ _ _ _) := ho; have HG3 : Hid (World.grownBy _ _ _) := hg; have HB3 : Hid (k1.ownBlock = (Value.slice xa m xc).ownBlock ∨ k1.ownBlock = some (wr.alloc (.cells #[.string xk] 9)).heap.size) := hob; clear ho hg hnn hob)) | go_in)
        have B3 : Hid (Below w.heap.size w w3) := below_grownBy HRB.out.1 HG3.out (Nat.le_refl _) (fun q hq => (HRk.out.lt q hq).1)
        have HV3 : Hid (w3.ownsRow w.heap.size 9 1 (.slice ya m yc) m ((vals (er s.l i j)).map Value.string)) := by
          cases hya : (Value.slice ya m yc).ownBlock with
          | none => exact HRv.out.kept HG3.out (.inl hya)
          | some q => exact HRv.out.kept HG3.out (.inr (by rw [hya]; intro e; exact HNE.out q e.symm hya))
        have NE3 : Hid (∀ b, k1.ownBlock = some b → (Value.slice ya m yc).ownBlock ≠ some b) := fun b hb hy => by
          rcases HB3.out with e | e
          · rw [e] at hb; exact HNE.out b hb hy
          · rw [e] at hb
            have := HVL.out b hy
            have q : (wr.alloc (.cells #[.string xk] 9)).heap.size = wr.heap.size + 1 := Array.size_push _
            rw [q] at hb
            have := Option.some.inj hb
            omega
        have KL3 : Hid (∀ b, k1.ownBlock = some b → b < w3.heap.size) := fun b hb => (HO3.out.lt b hb).2
        have D3 := HD.out _ B3.out
        have g2 := D3.c2
        obtain ⟨b', off', c', e', _, dv3⟩ := val_at D3 hjl
        have e1' := Option.some.inj (Value.slice.inj e').1
        clear e'
        rw [show b' = b2 from congrArg Addr.block e1'.symm, show off' = off2 from congrArg Addr.off e1'.symm, HXX.out] at dv3
        clear D3 dk dv d1 d2 e1'
        have HV3a : Hid ((w3.alloc (.cells #[.string xv] 9)).ownsRow w.heap.size 9 1 (.slice ya m yc) m ((vals (er s.l i j)).map Value.string)) := HV3.out.alloc _
        have HK3a : Hid ((w3.alloc (.cells #[.string xv] 9)).ownsRow w.heap.size 9 1 k1 (m + 1) ((keys (er s.l i j)).map Value.string ++ [.string xk])) := HO3.out.alloc _
        have HB3a : Hid (Below w.heap.size w (w3.alloc (.cells #[.string xv] 9)) ∧ w.heap.size ≤ (w3.alloc (.cells #[.string xv] 9)).heap.size) := by
          have b := B3.out.alloc B3.out.size (.cells #[.string xv] 9)
          exact ⟨b, b.size⟩
        obtain ⟨k1a, k1c, hk1⟩ := own_formS HO3.out
        subst hk1
        go_wp2_with (first | (at_builtin; (refine wpList_append_own_at _ rfl _ _ 30 rfl w.heap.size 9 i9 (.string ByteArray.empty) 1 16 Try.underlying30 HIN.out.1 HIN.out.2.1 HIN.out.2.2.1 HIN.out.2.2.2 rfl (by decide) _ m _ rfl HV3a.out ⟨w3.heap.size, 0, none⟩ 1 1 [.string xv] rfl rfl (new_text _ _ _) (one_text _) hmx.out.1 hmx.out.2 HB3a.out.2 ?_; intro v1 w4 ho hg hnn hob; have HO4 : Hid (World.ownsRow _ _ _ _ _ _ _) := ho; have HG4 : Hid (World.grownBy _ _ _) := hg; have HB4 : Hid (v1.ownBlock = (Value.slice ya m yc).ownBlock ∨ v1.ownBlock = some (w3.alloc (.cells #[.string xv] 9)).heap.size) := hob; clear ho hg hnn hob)) | go_in)
        have REL : Hid (Rw w.heap.size (.slice k1a (m + 1) k1c) v1 (keys (er s.l i (j + 1))) (vals (er s.l i (j + 1))) w w4) := by
          refine ⟨?_, ?_, fun b hb hy => ?_, below_grownBy HB3a.out.1 HG4.out (Nat.le_refl _) (fun q hq => (HV3a.out.lt q hq).1), Nat.le_refl _⟩
          · rw [HE.out]
            have e5 : (keys (er s.l i j ++ [(xk, xv)])) = keys (er s.l i j) ++ [xk] := by simp [keys]
            rw [e5, List.length_append, List.map_append, HKM.out]
            refine HK3a.out.kept HG4.out ?_
            cases hya : (Value.slice k1a (m + 1) k1c).ownBlock with
            | none => exact .inl rfl
            | some q => exact .inr (fun e => NE3.out q hya e.symm)
          · rw [HE.out]
            have e5 : (vals (er s.l i j ++ [(xk, xv)])) = vals (er s.l i j) ++ [xv] := by simp [vals]
            rw [e5, List.length_append, List.map_append, HVM.out]
            exact HO4.out
          · rcases HB4.out with e | e
            · rw [e] at hy; exact NE3.out b hb hy
            · rw [e] at hy
              have := KL3.out b hb
              have q : (w3.alloc (.cells #[.string xv] 9)).heap.size = w3.heap.size + 1 := Array.size_push _
              rw [q] at hy
              have := Option.some.inj hy
              omega
        go_roundw
        case rel => exact ⟨j + 1, by omega, by go_num, REL.out⟩
        case measure => simp [intOf]; omega
    · have hjn' : decide ((j : Int) < n) = false := by simp; omega
      have HJ : Hid (er s.l i j = s.l.eraseIdx i) := by rw [show j = s.l.length by rw [HN.out]; omega]; exact er_all _ _
      have f1 := D.fz 1
      have f2 := D.fz 2
      have END : Hid (∀ kx vx, Rw w.heap.size kx vx (keys (er s.l i j)) (vals (er s.l i j)) w wr → Rx g (.slice ka n kc) (.slice va n vc) s { s with l := s.l.eraseIdx i } w ((wr.setCell ⟨g, 1, none⟩ kx).setCell ⟨g, 2, none⟩ vx)) := by
        intro kx vx R
        rw [HJ.out] at R
        have n1 : Nw w kx := fun q hq => (R.k.lt q hq).1
        have n2 : Nw w vx := fun q hq => (R.v.lt q hq).1
        refine ⟨kx, vx, Dc.lists D (own_readsT R.k) (own_readsT R.v) (own_none R.k) (own_none R.v) (fun e => ?_) (fun e => ?_) ?_, ?_, .inr ⟨n1, n2⟩⟩
        · have := n1 g e
          have := HGL.out
          omega
        · have := n2 g e
          have := HGL.out
          omega
        · have := List.length_eraseIdx_le s.l i
          have := HN4.out
          have := HN.out
          omega
        · exact Kp.trans (A := fun k => k = g) (Kp.trans (A := fun k => k = g) (Kp.of_below R.below) (Kp.setCell _ _ _ _ rfl)) (Kp.setCell _ _ _ _ rfl)
      have EE : Hid (Rx _ _ _ _ _ _ _) := END.out _ _ HR.out
      clear D END
      go_wp2
      go_end0
      exact ⟨rfl, EE.out⟩
end
end Go.Proofs.Ytjkkijeamcihiaa.dd
