import Derived.Test.YtjbaagcpcdmcnaaE3
namespace Go.Proofs.Ytjbaagcpcdmcnaa.va
open Go.RowKit Go.PlainAid Go.Maps Go.Shelf
open Go.Proofs.Ytjbaagcpcdmcnaa.ca Go.Proofs.Ytjbaagcpcdmcnaa.cb Go.Proofs.Ytjbaagcpcdmcnaa.cp Go.Proofs.Ytjbaagcpcdmcnaa.kp Go.Proofs.Ytjbaagcpcdmcnaa.ka Go.Proofs.Ytjbaagcpcdmcnaa.na Go.Proofs.Ytjbaagcpcdmcnaa.ya Go.Proofs.Ytjbaagcpcdmcnaa.yb Go.Proofs.Ytjbaagcpcdmcnaa.yc Go.Proofs.Ytjbaagcpcdmcnaa.ye Go.Proofs.Ytjbaagcpcdmcnaa.yo Go.Proofs.Ytjbaagcpcdmcnaa.yp Go.Proofs.Ytjbaagcpcdmcnaa.ze Go.Proofs.Ytjbaagcpcdmcnaa.zf Go.Proofs.Ytjbaagcpcdmcnaa.xa Go.Proofs.Ytjbaagcpcdmcnaa.xb Go.Proofs.Ytjbaagcpcdmcnaa.xc Go.Proofs.Ytjbaagcpcdmcnaa.xm Go.Proofs.Ytjbaagcpcdmcnaa.xn
open Go.Proofs.Ytjbaagcpcdmcnaa.za (less_of bytes_is)
set_option linter.unusedVariables false
set_option linter.unusedSimpArgs false
-- a record stands at the head of these bytes
def okP (p : Rec) : Prop := 1 ≤ p.1.size ∧ p.1.size ≤ 64 ∧ p.2.size ≤ 1048576
def Stands (Z : List UInt8) : Prop := ∃ (p : Rec) (Y : List UInt8), okP p ∧ Z = recB p ++ Y
def BadZ (r : List Rec) (Z : List UInt8) : Prop := Z ≠ [] ∧ ∀ (p : Rec) (Y : List UInt8), okP p → Z = recB p ++ Y → ¬ Srt (r ++ [p])
theorem parts (n : Nat) : ∀ (r : List Rec) (Z : List UInt8), Z.length ≤ n → Srt r → OkR r → ∃ r' Z', recsB r ++ Z = recsB r' ++ Z' ∧ Srt r' ∧ OkR r' ∧ (Z' = [] ∨ BadZ r' Z') := by
  induction n with
  | zero => intro r Z h hs ho; exact ⟨r, Z, rfl, hs, ho, .inl (List.length_eq_zero_iff.1 (by omega))⟩
  | succ n ih =>
    intro r Z h hs ho
    by_cases hz : Z = []
    · exact ⟨r, Z, rfl, hs, ho, .inl hz⟩
    by_cases hb : ∃ (p : Rec) (Y : List UInt8), okP p ∧ Z = recB p ++ Y ∧ Srt (r ++ [p])
    · obtain ⟨p, Y, h1, h4, h5⟩ := hb
      have hl : Y.length + 5 ≤ Z.length := by rw [h4, List.length_append, recB_len]; omega
      have ho2 : OkR (r ++ [p]) := by
        intro x hx
        rcases List.mem_append.1 hx with hx | hx
        · exact ho x hx
        · obtain rfl := List.mem_singleton.1 hx
          exact h1
      obtain ⟨r', Z', e, q⟩ := ih (r ++ [p]) Y (by omega) h5 ho2
      refine ⟨r', Z', ?_, q⟩
      rw [← e, h4]
      simp [recsB]
    · exact ⟨r, Z, rfl, hs, ho, .inr ⟨hz, fun p Y h1 h4 h5 => hb ⟨p, Y, h1, h4, h5⟩⟩⟩
theorem parted (Z : List UInt8) : ∃ r Z', Z = recsB r ++ Z' ∧ Srt r ∧ OkR r ∧ (Z' = [] ∨ BadZ r Z') := by
  have := parts Z.length [] Z (Nat.le_refl _) List.Pairwise.nil (fun x hx => absurd hx List.not_mem_nil)
  simpa [recsB] using this
theorem not_srt {r : List Rec} {p : Rec} (hs : Srt r) (h : ¬ Srt (r ++ [p])) : ∃ q r0, r = r0 ++ [q] ∧ lt q.1 p.1 = false := by
  rcases List.eq_nil_or_concat r with rfl | ⟨r0, q, rfl⟩
  · exact absurd (List.pairwise_singleton _ _) h
  · refine ⟨q, r0, by simp, ?_⟩
    cases hl : lt q.1 p.1 with
    | false => rfl
    | true =>
      refine absurd ?_ h
      simp only [List.concat_eq_append] at hs h ⊢
      refine List.pairwise_append.2 ⟨hs, List.pairwise_singleton _ _, fun a ha b hb => ?_⟩
      obtain rfl := List.mem_singleton.1 hb
      rcases List.mem_append.1 ha with ha | ha
      · exact lt_tr ((List.pairwise_append.1 hs).2.2 a ha q (by simp)) hl
      · obtain rfl := List.mem_singleton.1 ha
        exact hl
theorem last_app (r0 : List Rec) (q : Rec) : lastK (r0 ++ [q]) (r0 ++ [q]).length = q.1 := by
  rw [List.length_append]
  show (((r0 ++ [q])[r0.length]?).map (·.1)).getD ⟨#[]⟩ = _
  rw [List.getElem?_append_right (Nat.le_refl _), Nat.sub_self]
  rfl
theorem leq_of {k l : ByteArray} (h : lt l k = false) : Op.bytesLess k.toList l.toList = true ∧ (k.toList == l.toList) = false ∨ Op.bytesLess k.toList l.toList = false ∧ (k.toList == l.toList) = true := by
  by_cases e : k = l
  · subst e
    refine .inr ⟨?_, beq_self_eq_true _⟩
    rw [bytes_is, ByteArray.toList_eq]
    exact lt_irr k
  · rcases lt_tot k l e with h1 | h1
    · obtain ⟨a, b, c⟩ := less_of h1
      refine .inl ⟨a, ?_⟩
      rw [beq_eq_false_iff_ne] at b ⊢
      exact fun e => b e.symm
    · rw [h] at h1; cases h1
theorem be1 (u : UInt8) : beN 1 u.toNat 1 = [u] := by simp [beN]
theorem be4 (a b c d : UInt8) : beN 4 (((a.toNat * 256 + b.toNat) * 256 + c.toNat) * 256 + d.toNat) 4 = [a, b, c, d] := by
  have ha := a.toNat_lt
  have hb := b.toNat_lt
  have hc := c.toNat_lt
  have hd := d.toNat_lt
  have e : ∀ n, beN 4 n 4 = [UInt8.ofNat (n / 16777216), UInt8.ofNat (n / 65536), UInt8.ofNat (n / 256), UInt8.ofNat n] := fun n => by simp [beN]
  rw [e]
  have f : ∀ (n : Nat) (u : UInt8), n % 256 = u.toNat → UInt8.ofNat n = u := fun n u h => by
    apply UInt8.toNat_inj.1
    rw [UInt8.toNat_ofNat']
    exact h
  rw [f _ a (by omega), f _ b (by omega), f _ c (by omega), f _ d (by omega)]
theorem list4 {α : Type} {l : List α} (h : l.length = 4) : ∃ a b c d, l = [a, b, c, d] := by
  match l, h with
  | [a, b, c, d], _ => exact ⟨a, b, c, d, rfl⟩
-- a piece that was read, in bytes
theorem rp_inv {t x u : ByteArray} {nb : Nat} (h : rp t nb = (x, u, true)) : beR t 0 nb = (x.size : Int) ∧ ∃ pre, pre.length = nb ∧ bs t = pre ++ (bs x ++ bs u) := by
  unfold rp at h
  by_cases h1 : t.size < nb
  · rw [if_pos h1] at h; simp at h
  rw [if_neg h1] at h
  by_cases h2 : ((t.extract nb t.size).size : Int) < beR t 0 nb
  · rw [if_pos h2] at h; simp at h
  rw [if_neg h2] at h
  have hn := beR_nonneg t 0 nb
  obtain ⟨e1, e2⟩ := Prod.mk.inj h
  have e3 := (Prod.mk.inj e2).1
  obtain ⟨v, hv⟩ : ∃ v : Nat, beR t 0 nb = v := ⟨(beR t 0 nb).toNat, by omega⟩
  rw [hv] at h2 e1 e3 ⊢
  rw [Int.toNat_natCast] at e1 e3
  have hb : bs (t.extract nb t.size) = (bs t).drop nb := by rw [bs_ext]; exact List.take_of_length_le (by rw [List.length_drop, bs_len]; omega)
  have hz : (t.extract nb t.size).size = t.size - nb := by rw [← bs_len, hb, List.length_drop, bs_len]
  have f1 : bs x = ((bs t).drop nb).take v := by rw [← e1, bs_ext, hb]; rfl
  have f2 : bs u = ((bs t).drop nb).drop v := by
    rw [← e3, bs_ext, hb]
    exact List.take_of_length_le (by rw [List.length_drop, List.length_drop, bs_len, hz]; omega)
  refine ⟨?_, (bs t).take nb, by rw [List.length_take, bs_len]; omega, ?_⟩
  · rw [← bs_len, f1, List.length_take, List.length_drop, bs_len]; omega
  · rw [f1, f2, List.take_append_drop, List.take_append_drop]
theorem rp_size {t x u : ByteArray} {nb : Nat} (h : rp t nb = (x, u, true)) : u.size ≤ t.size ∧ x.size ≤ t.size := by
  obtain ⟨_, pre, _, e⟩ := rp_inv h
  have := congrArg List.length e
  simp only [List.length_append, bs_len] at this
  omega
theorem rp_inv1 {t x u : ByteArray} (h : rp t 1 = (x, u, true)) : bs t = beN 1 x.size 1 ++ (bs x ++ bs u) := by
  obtain ⟨e, pre, hp, hb⟩ := rp_inv h
  obtain ⟨a, rfl⟩ := List.length_eq_one_iff.1 hp
  rw [beR_one, bt_bs t 0 a (by rw [hb]; rfl)] at e
  rw [show x.size = a.toNat by omega, be1]
  exact hb
theorem rp_inv4 {t x u : ByteArray} (h : rp t 4 = (x, u, true)) : bs t = beN 4 x.size 4 ++ (bs x ++ bs u) := by
  obtain ⟨e, pre, hp, hb⟩ := rp_inv h
  obtain ⟨a, b, c, d, rfl⟩ := list4 hp
  rw [beR_four, bt_bs t 0 a (by rw [hb]; rfl), bt_bs t 1 b (by rw [hb]; rfl), bt_bs t 2 c (by rw [hb]; rfl), bt_bs t 3 d (by rw [hb]; rfl)] at e
  rw [show x.size = ((a.toNat * 256 + b.toNat) * 256 + c.toNat) * 256 + d.toNat by omega, be4]
  exact hb
theorem rec_inv {t k r1 d r2 : ByteArray} (h1 : rp t 1 = (k, r1, true)) (h2 : rp r1 4 = (d, r2, true)) : bs t = recB (k, d) ++ bs r2 := by
  rw [rp_inv1 h1, rp_inv4 h2]
  simp [recB]
-- the same, at a place
theorem stands_at (t : ByteArray) (P n m : Nat) (hn : bt t P = (n : Int)) (h1 : 1 ≤ n) (h2 : n ≤ 64) (hl : P + 1 + n + 4 + m ≤ t.size) (hm : beR t (P + 1 + n) 4 = (m : Int)) (h3 : m ≤ 1048576) :
    ∃ (p : Rec) (Y : List UInt8), okP p ∧ p.1.size = n ∧ p.2.size = m ∧ (bs t).drop P = recB p ++ Y := by
  have hz := bs_len t
  have f1 : bs (t.extract (P + 1) (P + 1 + n)) = ((bs t).drop (P + 1)).take n := by rw [bs_ext]; congr 1; omega
  have f2 : bs (t.extract (P + 1 + n + 4) (P + 1 + n + 4 + m)) = ((bs t).drop (P + 1 + n + 4)).take m := by rw [bs_ext]; congr 1; omega
  have z1 : (t.extract (P + 1) (P + 1 + n)).size = n := by rw [← bs_len, f1, List.length_take, List.length_drop, hz]; omega
  have z2 : (t.extract (P + 1 + n + 4) (P + 1 + n + 4 + m)).size = m := by rw [← bs_len, f2, List.length_take, List.length_drop, hz]; omega
  refine ⟨(t.extract (P + 1) (P + 1 + n), t.extract (P + 1 + n + 4) (P + 1 + n + 4 + m)), (bs t).drop (P + 1 + n + 4 + m), ⟨by rw [z1]; exact h1, by rw [z1]; exact h2, by rw [z2]; exact h3⟩, z1, z2, ?_⟩
  have hP : P < (bs t).length := by omega
  have g0 : (bs t).drop P = (bs t)[P] :: (bs t).drop (P + 1) := List.drop_eq_getElem_cons hP
  have b0 := bt_bs t P _ (List.getElem?_eq_getElem hP)
  have g1 : (bs t).drop (P + 1) = ((bs t).drop (P + 1)).take n ++ (bs t).drop (P + 1 + n) := by rw [← List.drop_drop (i := n), List.take_append_drop]
  have l4 : (((bs t).drop (P + 1 + n)).take 4).length = 4 := by rw [List.length_take, List.length_drop]; omega
  obtain ⟨a, b, c, d, e4⟩ := list4 l4
  have g2 : (bs t).drop (P + 1 + n) = [a, b, c, d] ++ (bs t).drop (P + 1 + n + 4) := by rw [← e4, ← List.drop_drop (i := 4), List.take_append_drop]
  have g3 : (bs t).drop (P + 1 + n + 4) = ((bs t).drop (P + 1 + n + 4)).take m ++ (bs t).drop (P + 1 + n + 4 + m) := by rw [← List.drop_drop (i := m), List.take_append_drop]
  have at4 : ∀ (i : Nat) (u : UInt8), [a, b, c, d][i]? = some u → bt t (P + 1 + n + i) = u.toNat := fun i u h => by
    apply bt_bs
    rw [← List.getElem?_drop, g2, List.getElem?_append_left (List.getElem?_eq_some_iff.1 h).1]
    exact h
  have hm2 : ((((0 * 256 + bt t (P + 1 + n + 0)) * 256 + bt t (P + 1 + n + 1)) * 256 + bt t (P + 1 + n + 2)) * 256 + bt t (P + 1 + n + 3)) = (m : Int) := hm
  rw [at4 0 a rfl, at4 1 b rfl, at4 2 c rfl, at4 3 d rfl] at hm2
  have em : m = ((a.toNat * 256 + b.toNat) * 256 + c.toNat) * 256 + d.toNat := by omega
  rw [hn] at b0
  have en : n = ((bs t)[P]).toNat := by omega
  unfold recB
  simp only [z1, z2, f1, f2]
  rw [g0]
  conv => lhs; rw [g1, g2, g3]
  rw [show beN 1 n 1 = [(bs t)[P]] by rw [en, be1], show beN 4 m 4 = [a, b, c, d] by rw [em, be4]]
  simp
end Go.Proofs.Ytjbaagcpcdmcnaa.va

namespace Go.Proofs.Ytjbaagcpcdmcnaa.vb
open Go.RowKit Go.PlainAid Go.Maps Go.Shelf
open Go.Proofs.Ytjbaagcpcdmcnaa.sh Go.Proofs.Ytjbaagcpcdmcnaa.ca Go.Proofs.Ytjbaagcpcdmcnaa.cb Go.Proofs.Ytjbaagcpcdmcnaa.cp Go.Proofs.Ytjbaagcpcdmcnaa.ka Go.Proofs.Ytjbaagcpcdmcnaa.kp Go.Proofs.Ytjbaagcpcdmcnaa.na Go.Proofs.Ytjbaagcpcdmcnaa.ya Go.Proofs.Ytjbaagcpcdmcnaa.yb Go.Proofs.Ytjbaagcpcdmcnaa.yc Go.Proofs.Ytjbaagcpcdmcnaa.ye Go.Proofs.Ytjbaagcpcdmcnaa.yf Go.Proofs.Ytjbaagcpcdmcnaa.yg Go.Proofs.Ytjbaagcpcdmcnaa.yi Go.Proofs.Ytjbaagcpcdmcnaa.yo Go.Proofs.Ytjbaagcpcdmcnaa.yp Go.Proofs.Ytjbaagcpcdmcnaa.ze Go.Proofs.Ytjbaagcpcdmcnaa.zf Go.Proofs.Ytjbaagcpcdmcnaa.va
set_option linter.unusedVariables false
set_option linter.unusedSimpArgs false
def noRec : Array Value := #[.string ⟨#[]⟩, .string ⟨#[]⟩, .string ⟨#[]⟩, .bool false]
set_option maxRecDepth 20000 in
set_option maxHeartbeats 3200000 in
theorem readRecordNo (t : ByteArray) (w : World) (hs : t.size ≤ 140737488355328) (hno : ∀ k r1 d r2, rp t 1 = (k, r1, true) → 1 ≤ k.size ∧ k.size ≤ 64 → rp r1 4 = (d, r2, true) → d.size ≤ 1048576 → False) :
    Calls Try.prog 71 #[.string t] w fun e w' => e = .returned (.tuple #[.string ⟨#[]⟩, .string ⟨#[]⟩, .string ⟨#[]⟩, .bool false]) ∧ Below w.heap.size w w' := by
  have C1 : Hid (∀ w, Calls _ _ _ _ _) := fun w => readPieceC t 1 w (by omega) (by omega) hs
  cases h1 : rp t 1 with
  | mk k x =>
    obtain ⟨r1, b1⟩ := x
    rw [h1] at C1
    cases b1 with
    | false =>
      clear hno h1 hs
      go_enter Try.func71, Try.ntmps71
      go_wp2_with fail
      refine (C1.out _).mono ?_
      rintro _ w1 ⟨rfl, b1⟩
      have B1 : Hid (Below w.heap.size w w1) := b1
      clear b1
      go_wp2
      refine bodyPost_ret (by simp [results, Try.results71, go_sem]; try rfl) rfl ?_
      exact ⟨rfl, B1.out⟩
    | true =>
      have hr1 := (rp_size h1).1
      have CK : Hid (∀ w, Calls _ _ _ _ _) := fun w => keyGoesC k w
      by_cases hk : 1 ≤ k.size ∧ k.size ≤ 64
      · have C2 : Hid (∀ w, Calls _ _ _ _ _) := fun w => readPieceC r1 4 w (by omega) (by omega) (by omega)
        rw [decide_eq_true hk] at CK
        cases h2 : rp r1 4 with
        | mk d y =>
          obtain ⟨r2, b2⟩ := y
          rw [h2] at C2
          cases b2 with
          | false =>
            clear hno h1 h2 hs hk hr1
            go_enter Try.func71, Try.ntmps71
            go_wp2_with fail
            refine (C1.out _).mono ?_
            rintro _ w1 ⟨rfl, b1⟩
            have B1 : Hid (Below w.heap.size w w1) := b1
            clear b1
            go_wp2_with fail
            refine (CK.out _).mono ?_
            rintro _ _ ⟨rfl, hw⟩; rw [hw]; clear hw
            go_wp2_with fail
            refine (C2.out _).mono ?_
            rintro _ w2 ⟨rfl, b2⟩
            have B2 : Hid (Below w.heap.size w w2) := over B1.out b2
            clear b2
            go_wp2
            refine bodyPost_ret (by simp [results, Try.results71, go_sem]; try rfl) rfl ?_
            exact ⟨rfl, B2.out⟩
          | true =>
            have hd : ¬ d.size ≤ 1048576 := fun h => hno k r1 d r2 h1 hk h2 h
            have CD : Hid (∀ w, Calls _ _ _ _ _) := fun w => dataGoC d w
            rw [decide_eq_false hd] at CD
            clear hno h1 h2 hs hk hr1 hd
            go_enter Try.func71, Try.ntmps71
            go_wp2_with fail
            refine (C1.out _).mono ?_
            rintro _ w1 ⟨rfl, b1⟩
            have B1 : Hid (Below w.heap.size w w1) := b1
            clear b1
            go_wp2_with fail
            refine (CK.out _).mono ?_
            rintro _ _ ⟨rfl, hw⟩; rw [hw]; clear hw
            go_wp2_with fail
            refine (C2.out _).mono ?_
            rintro _ w2 ⟨rfl, b2⟩
            have B2 : Hid (Below w.heap.size w w2) := over B1.out b2
            clear b2
            go_wp2_with fail
            refine (CD.out _).mono ?_
            rintro _ _ ⟨rfl, hw⟩; rw [hw]; clear hw
            go_wp2
            refine bodyPost_ret (by simp [results, Try.results71, go_sem]; try rfl) rfl ?_
            exact ⟨rfl, B2.out⟩
      · rw [decide_eq_false hk] at CK
        clear hno h1 hs hk hr1
        go_enter Try.func71, Try.ntmps71
        go_wp2_with fail
        refine (C1.out _).mono ?_
        rintro _ w1 ⟨rfl, b1⟩
        have B1 : Hid (Below w.heap.size w w1) := b1
        clear b1
        go_wp2_with fail
        refine (CK.out _).mono ?_
        rintro _ _ ⟨rfl, hw⟩; rw [hw]; clear hw
        go_wp2
        refine bodyPost_ret (by simp [results, Try.results71, go_sem]; try rfl) rfl ?_
        exact ⟨rfl, B1.out⟩
theorem tl_ne {R : ByteArray} (h : 1 ≤ R.size) : (R.toList == []) = false ∧ R.toList.isEmpty = false := by
  have hne : (R.toList == []) = false := by
    rw [beq_eq_false_iff_ne]
    intro e
    have : (bs R).length = 0 := by unfold bs; rw [← ByteArray.toList_eq, e]; rfl
    rw [bs_len] at this
    omega
  refine ⟨hne, ?_⟩
  cases h : R.toList with
  | nil => rw [h] at hne; cases hne
  | cons _ _ => rfl
theorem recs_ge (r : List Rec) : r.length ≤ (recsB r).length := by
  induction r with
  | nil => simp
  | cons p r ih => simp only [recsB, List.flatMap_cons, List.length_append, List.length_cons, recB_len] at ih ⊢; omega
theorem recs_drop (r : List Rec) (j : Nat) : (recsB (r.drop j)).length ≤ (recsB r).length := by
  have := congrArg List.length (xn.recs_split r j)
  rw [List.length_append] at this
  omega
set_option maxRecDepth 20000 in
set_option maxHeartbeats 6400000 in
theorem readImageNo (im : ByteArray) (r : List Rec) (Z : List UInt8) (w : World) (him : bs im = 83 :: (recsB r ++ Z)) (hsz : im.size ≤ 140737488355000) (hs : Srt r) (hok : OkR r) (hbad : BadZ r Z) :
    Calls Try.prog 45 #[.string im] w fun e w' => e = .returned (.tuple #[.map none, .bool false]) ∧ Below w.heap.size w w' := by
  have hll : r.length ≤ (recsB r).length ∧ (recsB r).length + Z.length ≤ 140737488355000 := by
    have h1 := congrArg List.length him
    rw [bs_len, List.length_cons, List.length_append] at h1
    exact ⟨recs_ge r, by omega⟩
  have CP : Hid (∀ w, Calls Try.prog 70 #[.string im, .string ⟨#[83]⟩] w fun e w' => e = .returned (.tuple #[.string (tx (recsB r ++ Z)), .bool true]) ∧ w' = w) := fun w => by
    have h := Any.strings_CutPrefix lays103 im ⟨#[83]⟩ w
    have e0 : im.data.toList = 83 :: (recsB r ++ Z) := him
    rw [e0] at h
    have e1 : Lib.hasPrefix (83 :: (recsB r ++ Z)) (⟨#[83]⟩ : ByteArray).data.toList = true := by simp [Lib.hasPrefix]
    have e2 : Lib.trimPrefix (83 :: (recsB r ++ Z)) (⟨#[83]⟩ : ByteArray).data.toList = recsB r ++ Z := by
      unfold Lib.trimPrefix
      simp [Lib.hasPrefix]
    rw [e1, e2] at h
    exact h
  have hmm := @run_makeMap Try.prog
  have hM : Hid (Mp w.heap.size (r.take 0) (w.alloc (.map #[] 0))) := World.ownsMap_made _ _ _ _
  have HB0 : Hid (Below w.heap.size w (w.alloc (.map #[] 0))) := (Below.refl _ w).alloc (Nat.le_refl _) _
  have HSR : Hid _ := hs
  have HOK : Hid _ := hok
  have HBD : Hid (BadZ r Z) := hbad
  clear hs hok hbad him hsz
  go_enter Try.func45, Try.ntmps45
  go_wp2_with fail
  refine (CP.out _).mono ?_
  rintro _ _ ⟨rfl, hw⟩; rw [hw]; clear hw CP
  go_wp2_with fail
  go_loopw [4, 7] (fun rv lv wr => ∃ (j : Nat) (R : ByteArray), j ≤ r.length ∧ rv = .string R ∧ Hid (R = tx (recsB (r.drop j) ++ Z)) ∧ lv = .string (lastK r j) ∧ Hid (Mp w.heap.size (r.take j) wr ∧ Below w.heap.size w wr)) (fun rv _ _ => lenV rv)
  case atStart => exact ⟨0, _, Nat.zero_le _, rfl, rfl, rfl, hM.out, HB0.out⟩
  case round =>
    clear hM HB0
    obtain ⟨j, R, hj, rfl, HR, rfl, HH⟩ := hrel
    by_cases hlt : j < r.length
    · obtain ⟨p, hp⟩ : ∃ p, r[j]? = some p := ⟨_, List.getElem?_eq_getElem hlt⟩
      have hpz := HOK.out p (List.mem_of_getElem? hp)
      obtain ⟨t1, t2⟩ := above_last HSR.out HOK.out hp
      have hrl := recs_drop r j
      have hzR : R.size ≤ 140737488355000 := by rw [HR.out, tx_size, List.length_append]; omega
      have hrc := recs_at hp
      have hrz : recsB (r.drop j) ++ Z = beN 1 p.1.size 1 ++ (bs p.1 ++ (beN 4 p.2.size 4 ++ (bs p.2 ++ (recsB (r.drop (j + 1)) ++ Z)))) := by rw [hrc]; simp only [List.append_assoc]
      have q1 := rp1 R p.1 _ (by omega) (by rw [HR.out, bs_tx]; exact hrz)
      have q2 := rp4 _ p.2 (recsB (r.drop (j + 1)) ++ Z) (by omega) (bs_tx _)
      have hR1 : (tx (beN 4 p.2.size 4 ++ (bs p.2 ++ (recsB (r.drop (j + 1)) ++ Z)))).size + 2 ≤ R.size := by
        rw [HR.out, tx_size, tx_size, hrz]; simp [beN_len, bs_len]; omega
      have hR2 : (tx (recsB (r.drop (j + 1)) ++ Z)).size < R.size := by
        rw [HR.out, tx_size, tx_size, hrz]; simp [beN_len, bs_len]; omega
      have CR : Hid (∀ w, Calls _ _ _ _ _) := fun w => readRecordC R p.1 _ p.2 _ w (by omega) q1 ⟨hpz.1, hpz.2.1⟩ q2 hpz.2.2 (by omega)
      have hne : (R.toList == []) = false := by
        rw [beq_eq_false_iff_ne]
        intro e
        have : (bs R).length = 0 := by unfold bs; rw [← ByteArray.toList_eq, e]; rfl
        rw [bs_len] at this
        omega
      have hne2 : R.toList.isEmpty = false := by
        cases h : R.toList with
        | nil => rw [h] at hne; cases hne
        | cons _ _ => rfl
      have C1 : Hid (∀ w, Calls _ _ _ _ _) := fun w => cloneC p.1 w (by omega)
      have C2 : Hid (∀ w, Calls _ _ _ _ _) := fun w => cloneC p.2 w (by omega)
      have CU : Hid (∀ w1, Mp w.heap.size (r.take j) w1 → Calls Try.prog 54 #[.map (some w.heap.size), .string p.1, .string p.2] w1 fun e w' => e = .returned (.tuple #[]) ∧ Mp w.heap.size (r.take (j + 1)) w' ∧ Kp (fun k => k = w.heap.size) w1 w') := fun w1 h => by
        have := putM w.heap.size (r.take j) p.1 p.2 w1 h (by unfold maxLen; omega) (by unfold maxLen; omega) (by rw [List.length_take]; unfold maxLen; omega)
        rw [put_take HSR.out hp] at this
        exact this
      have hla : lastK r (j + 1) = p.1 := by show ((r[j]?).map (·.1)).getD ⟨#[]⟩ = _; rw [hp]; rfl
      have HLA : Hid _ := hla
      obtain ⟨R2, HR2⟩ : ∃ R2, Hid (tx (recsB (r.drop (j + 1)) ++ Z) = R2) := ⟨_, rfl⟩
      rw [HR2.out] at CR hR2
      obtain ⟨la, HL⟩ : ∃ la, Hid (lastK r j = la) := ⟨_, rfl⟩
      rw [HL.out] at t1 t2 ⊢
      obtain ⟨pk, pd⟩ := p
      simp only at CR C1 C2 CU t1 t2 HLA
      clear hp hpz hrl hzR hrc hrz q1 q2 hR1 hla hll
      go_wp2_with fail
      refine (CR.out _).mono ?_
      rintro _ w2 ⟨rfl, b2⟩
      have H2 : Hid (Mp w.heap.size (r.take j) w2 ∧ Below w.heap.size w w2) := ⟨HH.out.1.keep (Kp.of_below (A := fun _ => False) b2) (fun e => e), over HH.out.2 b2⟩
      clear b2
      go_wp2_with fail
      refine (C1.out _).mono ?_
      rintro _ w3 ⟨rfl, b3⟩
      have H3 : Hid (Mp w.heap.size (r.take j) w3 ∧ Below w.heap.size w w3) := ⟨H2.out.1.keep (Kp.of_below (A := fun _ => False) b3) (fun e => e), over H2.out.2 b3⟩
      clear b3
      go_wp2_with fail
      refine (C2.out _).mono ?_
      rintro _ w4 ⟨rfl, b4⟩
      have H4 : Hid (Mp w.heap.size (r.take j) w4 ∧ Below w.heap.size w w4) := ⟨H3.out.1.keep (Kp.of_below (A := fun _ => False) b4) (fun e => e), over H3.out.2 b4⟩
      clear b4
      go_wp2_with fail
      refine (CU.out _ H4.out.1).mono ?_
      rintro _ w5 ⟨rfl, m5, k5⟩
      have H5 : Hid (Mp w.heap.size (r.take (j + 1)) w5 ∧ Below w.heap.size w w5) := ⟨m5, ⟨k5.os.trans H4.out.2.os, k5.tape.trans H4.out.2.tape, k5.output.trans H4.out.2.output, Nat.le_trans H4.out.2.size k5.size, fun i hi => (k5.block i (Nat.lt_of_lt_of_le hi H4.out.2.size) (by omega)).trans (H4.out.2.block i hi)⟩⟩
      clear m5 k5
      go_wp2
      go_roundw
      case rel => exact ⟨j + 1, R2, by omega, rfl, HR2.out.symm, by rw [HLA.out], H5.out⟩
      case measure => simp [lenV]; omega
    · obtain rfl : j = r.length := by omega
      have hR0 : R = tx Z := by rw [HR.out, List.drop_length]; rfl
      have hRb : bs R = Z := by rw [hR0, bs_tx]
      have hzR : R.size ≤ 140737488355328 := by rw [hR0, tx_size]; omega
      have hz1 : 1 ≤ R.size := by
        rw [hR0, tx_size]
        have := HBD.out.1
        cases hZ : Z with
        | nil => exact absurd hZ this
        | cons _ _ => simp
      obtain ⟨hne, hne2⟩ := tl_ne hz1
      have HF : Hid (Below w.heap.size w wr) := HH.out.2
      by_cases hst : ∃ k r1 d r2, rp R 1 = (k, r1, true) ∧ (1 ≤ k.size ∧ k.size ≤ 64) ∧ rp r1 4 = (d, r2, true) ∧ d.size ≤ 1048576
      · obtain ⟨k, r1, d, r2, h1, hk, h2, hd⟩ := hst
        have hz2 := (rp_size h1).1
        have CR : Hid (∀ w, Calls _ _ _ _ _) := fun w => readRecordC R k r1 d r2 w hzR h1 hk h2 hd (by omega)
        have hns := HBD.out.2 (k, d) (bs r2) ⟨hk.1, hk.2, hd⟩ (by rw [← hRb]; exact rec_inv h1 h2)
        obtain ⟨q, r0, e0, hlt0⟩ := not_srt HSR.out hns
        have hla : lastK r r.length = q.1 := by rw [e0]; exact last_app r0 q
        rw [hla]
        obtain ⟨la, HL⟩ : ∃ la, Hid (q.1 = la) := ⟨_, rfl⟩
        rw [HL.out] at hlt0 ⊢
        have hle := leq_of hlt0
        clear hlt0 hns hla hz2 h1 h2 hk hd e0 hRb hR0 HR hll hzR hz1
        rcases hle with ⟨t1, t2⟩ | ⟨t1, t2⟩
        all_goals (
          go_wp2_with fail
          refine (CR.out _).mono ?_
          rintro _ w2 ⟨rfl, b2⟩
          have H2 : Hid (Below w.heap.size w w2) := over HF.out b2
          clear b2
          go_wp2
          go_ret2
          exact ⟨rfl, H2.out⟩)
      · have CR : Hid (∀ w, Calls _ _ _ _ _) := fun w => readRecordNo R w hzR (fun k r1 d r2 a b c e => hst ⟨k, r1, d, r2, a, b, c, e⟩)
        obtain ⟨la, HL⟩ : ∃ la, Hid (lastK r r.length = la) := ⟨_, rfl⟩
        rw [HL.out]
        clear hst hRb hR0 HR hll hzR hz1
        go_wp2_with fail
        refine (CR.out _).mono ?_
        rintro _ w2 ⟨rfl, b2⟩
        have H2 : Hid (Below w.heap.size w w2) := over HF.out b2
        clear b2
        go_wp2
        go_ret2
        exact ⟨rfl, H2.out⟩
set_option maxRecDepth 20000 in
theorem readImageOff (im : ByteArray) (w : World) (h : Lib.hasPrefix (bs im) [83] = false) :
    Calls Try.prog 45 #[.string im] w fun e w' => e = .returned (.tuple #[.map none, .bool false]) ∧ Below w.heap.size w w' := by
  have CP : Hid (∀ w, Calls Try.prog 70 #[.string im, .string ⟨#[83]⟩] w fun e w' => (∃ x, e = .returned (.tuple #[.string x, .bool false])) ∧ w' = w) := fun w => by
    have h2 := Any.strings_CutPrefix lays103 im ⟨#[83]⟩ w
    have e1 : Lib.hasPrefix im.data.toList (⟨#[83]⟩ : ByteArray).data.toList = false := h
    rw [e1] at h2
    exact h2.mono fun e w' ⟨a, b⟩ => ⟨⟨_, a⟩, b⟩
  clear h
  go_enter Try.func45, Try.ntmps45
  go_wp2_with fail
  refine (CP.out _).mono ?_
  rintro _ _ ⟨⟨x, rfl⟩, hw⟩; rw [hw]; clear hw CP
  go_wp2
  go_ret2
  exact ⟨rfl, Below.refl _ _⟩
-- Open on a text that is no image
theorem openBad (im : ByteArray) (c : Int) (w : World) (hc : 0 ≤ c ∧ c ≤ 1073741824) (hI : ∀ w, Calls Try.prog 45 #[.string im] w fun e w' => e = .returned (.tuple #[.map none, .bool false]) ∧ Below w.heap.size w w') :
    Calls Try.prog 12 #[.string im, .int .i64 c] w fun e w' => e = .returned (.tuple #[.pointer none, .int .i64 125]) ∧ Below w.heap.size w w' := by
  have CC : Hid (∀ w, Calls _ _ _ _ _) := fun w => capC c w
  rw [decide_eq_true hc] at CC
  have CI : Hid (∀ w, Calls _ _ _ _ _) := hI
  clear hc hI
  go_enter Try.func12, Try.ntmps12
  go_wp2_with fail
  refine (CC.out _).mono ?_
  rintro _ _ ⟨rfl, hw⟩; rw [hw]; clear hw
  go_wp2_with fail
  refine (CI.out _).mono ?_
  rintro _ w1 ⟨rfl, b1⟩
  have B1 : Hid (Below w.heap.size w w1) := b1
  clear b1
  go_wp2
  go_ret2
  exact ⟨rfl, B1.out⟩
end Go.Proofs.Ytjbaagcpcdmcnaa.vb

namespace Go.Proofs.Ytjbaagcpcdmcnaa.vc
open Go.RowKit Go.PlainAid Go.Maps Go.Shelf
open Go.Proofs.Ytjbaagcpcdmcnaa.ca Go.Proofs.Ytjbaagcpcdmcnaa.cb Go.Proofs.Ytjbaagcpcdmcnaa.cp Go.Proofs.Ytjbaagcpcdmcnaa.kp Go.Proofs.Ytjbaagcpcdmcnaa.ka Go.Proofs.Ytjbaagcpcdmcnaa.na Go.Proofs.Ytjbaagcpcdmcnaa.ya Go.Proofs.Ytjbaagcpcdmcnaa.yb Go.Proofs.Ytjbaagcpcdmcnaa.yc Go.Proofs.Ytjbaagcpcdmcnaa.ye Go.Proofs.Ytjbaagcpcdmcnaa.yo Go.Proofs.Ytjbaagcpcdmcnaa.yp Go.Proofs.Ytjbaagcpcdmcnaa.ze Go.Proofs.Ytjbaagcpcdmcnaa.zf Go.Proofs.Ytjbaagcpcdmcnaa.xa Go.Proofs.Ytjbaagcpcdmcnaa.xb Go.Proofs.Ytjbaagcpcdmcnaa.xc Go.Proofs.Ytjbaagcpcdmcnaa.xm Go.Proofs.Ytjbaagcpcdmcnaa.xn Go.Proofs.Ytjbaagcpcdmcnaa.va
open Go.Proofs.Ytjbaagcpcdmcnaa.yf (own_tag own_kp)
open Go.Proofs.Ytjbaagcpcdmcnaa.yd (below_grownBy)
set_option linter.unusedVariables false
set_option linter.unusedSimpArgs false
abbrev noR (w w' : World) (e : Ending) : Prop := e = .returned (.tuple #[.agg #[.string ⟨#[]⟩, .string ⟨#[]⟩], .int .i64 (-1)]) ∧ Below w.heap.size w w'
set_option maxRecDepth 8000 in
set_option maxHeartbeats 3200000 in
theorem oneNo (t : ByteArray) (P : Nat) (w : World) (hs : t.size ≤ 140737488355328) (hP : P < t.size) (hno : ∀ (p : Rec) (Y : List UInt8), okP p → (bs t).drop P = recB p ++ Y → False) :
    Calls Try.prog 46 #[.string t, .int .i64 P] w fun e w' => noR w w' e := by
  have hbt := get_bt t
  have hb0 := bt_nonneg t P
  have hb1 := bt_le t P
  obtain ⟨n, hn⟩ : ∃ n : Nat, bt t P = n := ⟨(bt t P).toNat, by omega⟩
  have hPi : (P : Int) < (t.size : Int) := by omega
  have HB0 : Hid (Below w.heap.size w (w.alloc (.cells #[.string ⟨#[]⟩, .string ⟨#[]⟩] 80))) := (Below.refl _ _).alloc (Nat.le_refl _) _
  have p0 : (w.alloc (.cells #[.string ⟨#[]⟩, .string ⟨#[]⟩] 80)).cell? ⟨w.heap.size, 0, none⟩ = some (.string ⟨#[]⟩) := by rw [World.cell?_alloc_new]; rfl
  have p1 : (w.alloc (.cells #[.string ⟨#[]⟩, .string ⟨#[]⟩] 80)).cell? ⟨w.heap.size, 1, none⟩ = some (.string ⟨#[]⟩) := by rw [World.cell?_alloc_new]; rfl
  by_cases h1 : n < 1
  · have g1 : (n : Int) < 1 := by omega
    have g1' : decide ((n : Int) < 1) = true := decide_eq_true g1
    clear hno h1
    go_enter Try.func46, Try.ntmps46
    go_wp2
    refine bodyPost_ret (by simp [results, Try.results46, go_sem, p0, p1]; try rfl) rfl ?_
    exact ⟨rfl, HB0.out⟩
  have g1 : ¬ ((n : Int) < 1) := by omega
  have g1' : decide ((n : Int) < 1) = false := decide_eq_false g1
  by_cases h2 : 64 < n
  · have g2 : (n : Int) > 64 := by omega
    have g2' : decide ((64 : Int) < (n : Int)) = true := decide_eq_true g2
    clear hno h1 h2
    go_enter Try.func46, Try.ntmps46
    go_wp2
    refine bodyPost_ret (by simp [results, Try.results46, go_sem, p0, p1]; try rfl) rfl ?_
    exact ⟨rfl, HB0.out⟩
  have g2 : ¬ ((n : Int) > 64) := by omega
  have g2' : decide ((64 : Int) < (n : Int)) = false := decide_eq_false g2
  by_cases h3 : t.size - P - 1 < n + 4
  · have g3 : (t.size : Int) - (P : Int) - 1 < (n : Int) + 4 := by omega
    have g3' : decide ((t.size : Int) - (P : Int) - 1 < (n : Int) + 4) = true := decide_eq_true g3
    clear hno h1 h2 h3
    go_enter Try.func46, Try.ntmps46
    go_wp2
    refine bodyPost_ret (by simp [results, Try.results46, go_sem, p0, p1]; try rfl) rfl ?_
    exact ⟨rfl, HB0.out⟩
  have g3 : ¬ ((t.size : Int) - (P : Int) - 1 < (n : Int) + 4) := by omega
  have g3' : decide ((t.size : Int) - (P : Int) - 1 < (n : Int) + 4) = false := decide_eq_false g3
  have hm0 := beR_nonneg t (P + 1 + n) 4
  obtain ⟨m, hm⟩ : ∃ m : Nat, beR t (P + 1 + n) 4 = m := ⟨(beR t (P + 1 + n) 4).toNat, by omega⟩
  have hm9 : m < 4294967296 := by
    have h := beR_lt t (P + 1 + n) 4
    have h3 : (256 : Int) ^ 4 = 4294967296 := by decide
    omega
  have CN : Hid (∀ w, Calls Try.prog 72 #[.string t, .int .i64 (((P + 1 + n : Nat)) : Int)] w fun e w' => e = .returned (.int .i64 (m : Nat)) ∧ w' = w) := fun w => by
    have := numberD t (P + 1 + n) w hs (by omega)
    rw [hm] at this
    exact this
  obtain ⟨k, HK⟩ : ∃ k, Hid (t.extract (P + 1) (P + 1 + n) = k) := ⟨_, rfl⟩
  have sl1 : ∀ w, (Instr.slice 9 (.string t) (some (.int .i64 ((P : Int) + 1))) (some (.int .i64 ((P : Int) + 1 + (n : Int)))) none).run Try.prog w = .ok (.string k) w := fun w => by
    have := run_slice_string (P := Try.prog) w 9 t .i64 .i64 ((P : Int) + 1) ((P : Int) + 1 + (n : Int)) Try.underlying9 (by omega) (by omega) (by omega)
    rw [show ((P : Int) + 1).toNat = P + 1 by omega, show ((P : Int) + 1 + (n : Int)).toNat = P + 1 + n by omega, HK.out] at this
    exact this
  by_cases h4 : 1048576 < m
  · have g4 : (m : Int) > 1048576 := by omega
    have g4' : decide ((1048576 : Int) < (m : Int)) = true := decide_eq_true g4
    clear hno h1 h2 h3 h4
    go_enter Try.func46, Try.ntmps46
    go_wp2_with (first | (go_at_call 72; refine (CN.out _).mono ?_; rintro _ wz ⟨rfl, hwz⟩; rw [hwz]; clear hwz) | go_in)
    refine bodyPost_ret (by simp [results, Try.results46, go_sem, p0, p1]; try rfl) rfl ?_
    exact ⟨rfl, HB0.out⟩
  have g4 : ¬ ((m : Int) > 1048576) := by omega
  have g4' : decide ((1048576 : Int) < (m : Int)) = false := decide_eq_false g4
  by_cases h5 : P + 1 + n + 4 + m ≤ t.size
  · obtain ⟨p, Y, a, _, _, b⟩ := stands_at t P n m hn (by omega) (by omega) h5 hm (by omega)
    exact absurd (hno p Y a b) (fun h => h)
  · have g5 : (t.size : Int) - ((P : Int) + 1 + (n : Int)) - 4 < (m : Int) := by omega
    have g5' : decide ((t.size : Int) - ((P : Int) + 1 + (n : Int)) - 4 < (m : Int)) = true := decide_eq_true g5
    clear hno h1 h2 h3 h4 h5
    go_enter Try.func46, Try.ntmps46
    go_wp2_with (first | (go_at_call 72; refine (CN.out _).mono ?_; rintro _ wz ⟨rfl, hwz⟩; rw [hwz]; clear hwz) | go_in)
    refine bodyPost_ret (by simp [results, Try.results46, go_sem, p0, p1]; try rfl) rfl ?_
    exact ⟨rfl, HB0.out⟩
theorem tl_ne {R : ByteArray} (h : 1 ≤ R.size) : (R.toList == []) = false ∧ R.toList.isEmpty = false := by
  have hne : (R.toList == []) = false := by
    rw [beq_eq_false_iff_ne]
    intro e
    have : (bs R).length = 0 := by unfold bs; rw [← ByteArray.toList_eq, e]; rfl
    rw [bs_len] at this
    omega
  refine ⟨hne, ?_⟩
  cases h : R.toList with
  | nil => rw [h] at hne; cases hne
  | cons _ _ => rfl
set_option maxRecDepth 20000 in
set_option maxHeartbeats 6400000 in
theorem openDBad (im : ByteArray) (r : List Rec) (Z : List UInt8) (c : Int) (w : World) (him : bs im = 83 :: (recsB r ++ Z)) (hsz : im.size ≤ 140737488355000) (hc : 0 ≤ c ∧ c ≤ 1073741824) (hs : Srt r) (hok : OkR r) (hbad : BadZ r Z) (hl : r.length < 3518437208883) :
    Calls Try.prog 13 #[.string im, .int .i64 c] w fun e w' => e = .returned (.tuple #[.pointer none, .int .i64 125]) ∧ Below w.heap.size w w' := by
  have himl : im.size = 1 + (recsB r).length + Z.length := by
    have := congrArg List.length him
    rw [bs_len, List.length_cons, List.length_append] at this
    omega
  have hZ1 : 1 ≤ Z.length := by
    cases hZ : Z with
    | nil => exact absurd hZ hbad.1
    | cons _ _ => simp
  obtain ⟨i0, hi0, hz0, hz1, hz2⟩ := info_parts info_R
  have HIN : Hid (_ ∧ _ ∧ _ ∧ _) := ⟨hi0, hz0, hz1, hz2⟩
  clear hi0 hz0 hz1 hz2
  have q1 : decide (c < 0) = false := decide_eq_false (by omega)
  have q2 : decide (1073741824 < c) = false := decide_eq_false (by omega)
  have b0 : bt im 0 = 83 := bt_bs im 0 83 (by rw [him]; rfl)
  obtain ⟨hne, hne2⟩ := tl_ne (R := im) (by omega)
  have hsz1 : 1 ≤ im.size := by omega
  have hzle : ∀ j, Zj r j ≤ 1 + (recsB r).length := fun j => by have h1 := congrArg List.length (recs_split r j); rw [List.length_append] at h1; unfold Zj; omega
  have HSR : Hid (Srt r) := hs
  have HOK : Hid (OkR r) := hok
  have HCO : Hid (∀ j p, r[j]? = some p → ∀ w, Calls Try.prog 46 #[.string im, .int .i64 ((Zj r j : Nat) : Int)] w fun e w' => e = .returned (.tuple #[.agg #[.string p.1, .string p.2], .int .i64 ((Zj r (j + 1) : Nat) : Int)]) ∧ Below w.heap.size w w') := fun j p hp w => by
    have hpz := hok p (List.mem_of_getElem? hp)
    have := oneD im p.1 p.2 ([83] ++ recsB (r.take j)) (recsB (r.drop (j + 1)) ++ Z) w (by omega) ⟨hpz.1, hpz.2.1⟩ hpz.2.2 (by rw [him, recs_split r j, recs_at hp]; simp)
    rw [show ([83] ++ recsB (r.take j) : List UInt8).length = Zj r j by unfold Zj; rw [List.length_append]; rfl, ← zj_next hp] at this
    exact this
  have HB0 : Hid (Op1 w c (.slice none 0 0) (r.take 0) (w.alloc (.cells (dcells (.slice none 0 0) (.slice none 0 0) (.slice none 0 0) (s00 c)).toArray 50))) := ⟨(MapKept.heap_alloc w _).1, World.ownsRow_nil _ _ _ _, (Below.refl _ _).alloc (Nat.le_refl _) _⟩
  have HZA : Zj r r.length = 1 + (recsB r).length := by unfold Zj; rw [List.take_length]
  have HLAST : Hid ((∀ w, Calls Try.prog 46 #[.string im, .int .i64 ((Zj r r.length : Nat) : Int)] w fun e w' => noR w w' e) ∨ ∃ (p : Rec) (z2 : Nat), (∀ w, Calls Try.prog 46 #[.string im, .int .i64 ((Zj r r.length : Nat) : Int)] w fun e w' => e = .returned (.tuple #[.agg #[.string p.1, .string p.2], .int .i64 (z2 : Nat)]) ∧ Below w.heap.size w w') ∧ z2 ≤ 281474976710656 ∧ ∃ q r0, r = r0 ++ [q] ∧ lt q.1 p.1 = false) := by
    have hdr : (bs im).drop (Zj r r.length) = Z := by
      rw [him, HZA, show (83 : UInt8) :: (recsB r ++ Z) = (83 :: recsB r) ++ Z from rfl]
      rw [show 1 + (recsB r).length = ((83 : UInt8) :: recsB r).length by rw [List.length_cons]; omega, List.drop_left]
    by_cases hst : ∃ (p : Rec) (Y : List UInt8), okP p ∧ Z = recB p ++ Y
    · obtain ⟨p, Y, ho, he⟩ := hst
      refine .inr ⟨p, Zj r r.length + 1 + p.1.size + 4 + p.2.size, fun w => ?_, ?_, not_srt hs (hbad.2 p Y ho he)⟩
      · have := oneD im p.1 p.2 ([83] ++ recsB r) Y w (by omega) ⟨ho.1, ho.2.1⟩ ho.2.2 (by rw [him, he]; simp [recB])
        rw [show ([83] ++ recsB r : List UInt8).length = Zj r r.length by rw [HZA, List.length_append]; rfl] at this
        exact this
      · have := hzle r.length
        have := ho.2.1
        have := ho.2.2
        omega
    · exact .inl fun w => oneNo im _ w (by omega) (by rw [HZA]; omega) (fun p Y a b => hst ⟨p, Y, a, by rw [← hdr]; exact b⟩)
  obtain ⟨L, HL⟩ : ∃ L, Hid (im.size = L) := ⟨_, rfl⟩
  have hbt := get_bt im
  rw [HL.out] at hsz1 himl hsz
  have HZ : Hid (∀ j, Zj r j ≤ L) := fun j => by have := hzle j; omega
  have HZA2 : Hid (Zj r r.length < L) := by show _ < _; rw [HZA]; omega
  have hL : (L : Int) ≤ 140737488355328 := by omega
  have hL2 : (0 : Int) < (L : Int) := by omega
  have hszL := HL.out
  have HLR : Hid (r.length < 3518437208883) := hl
  clear hc hs hok hl hne2 HZA hbad him himl hzle hZ1 hsz
  unfold s00 dcells at HB0
  go_enter Try.func13, Try.ntmps13
  go_wp2_with fail
  go_loopw [7] (fun pv wr => ∃ (j : Nat) (dv : Value), j ≤ r.length ∧ pv = .int .i64 ((Zj r j : Nat) : Int) ∧ Hid (Op1 w c dv (r.take j) wr)) (fun pv _ => (L - intOf pv).toNat)
  case atStart => exact ⟨0, _, Nat.zero_le _, rfl, HB0.out⟩
  case round =>
    clear HB0
    obtain ⟨j, dv, hj, rfl, HH⟩ := hrel
    by_cases hlt : j < r.length
    · obtain ⟨p, hp⟩ : ∃ p, r[j]? = some p := ⟨_, List.getElem?_eq_getElem hlt⟩
      have hzn := zj_next hp
      have hzl := HZ.out (j + 1)
      have g1 : ((Zj r j : Nat) : Int) < (L : Int) := by omega
      have CO : Hid (∀ w, Calls _ _ _ _ _) := fun w => HCO.out j p hp w
      have hab := above_last HSR.out HOK.out hp
      have HT : Hid (r.take (j + 1) = r.take j ++ [p]) := by
        show _ = _
        rw [List.take_succ_eq_append_getElem hlt, (List.getElem?_eq_some_iff.1 hp).2]
      have hlen : (r.take j).length = j := by rw [List.length_take]; omega
      have hj35 : j < 3518437208883 := Nat.lt_trans hlt HLR.out
      obtain ⟨pk, pd⟩ := p
      simp only at CO hab hzn
      obtain ⟨z1, HZ1⟩ : ∃ z, Hid (Zj r j = z) := ⟨_, rfl⟩
      obtain ⟨z2, HZ2⟩ : ∃ z, Hid (Zj r (j + 1) = z) := ⟨_, rfl⟩
      rw [HZ1.out] at g1 CO hzn ⊢
      rw [HZ2.out] at CO hzn hzl
      clear hp
      go_upto_region 9 with (first | (go_at_call 46; refine (CO.out _).mono ?_; rintro _ w2 ⟨rfl, b2⟩; have H2 : Hid (Op1 w c dv (r.take j) w2) := HH.out.later b2; clear b2) | go_in)
      obtain ⟨W3, HW3⟩ : ∃ W3, Hid (w2.alloc (.cells #[.string pk, .string pd] 80) = W3) := ⟨_, rfl⟩
      obtain ⟨q, HQ⟩ : ∃ q, Hid (w2.heap.size = q) := ⟨_, rfl⟩
      have H3 : Hid (Op1 w c dv (r.take j) W3) := by rw [← HW3.out]; exact H2.out.later ((Below.refl _ _).alloc (Nat.le_refl _) _)
      have x0 : W3.cell? ⟨q, 0, none⟩ = some (.string pk) := by rw [← HW3.out, ← HQ.out, World.cell?_alloc_new]; rfl
      have x1 : W3.cell? ⟨q, 1, none⟩ = some (.string pd) := by rw [← HW3.out, ← HQ.out, World.cell?_alloc_new]; rfl
      rw [HW3.out, HQ.out]
      obtain ⟨a, cap, hdv⟩ := lr_form H3.out.dl
      rw [hlen] at hdv
      have c1 := H3.out.row.c1
      have f1 := H3.out.row.fz 1
      have g2 : ¬ ((z2 : Int) < 0) := by omega
      have HAB : Hid (_ ∧ _) := hab
      have HHL : Hid ((r.take j).length = j) := hlen
      have hgl := H3.out.row.lt
      clear hab hlen CO HCO H2 HH
      by_cases hj0 : j = 0
      · subst hj0
        subst hdv
        go_upto_region 11 with fail
        go_quiet (fail)
        obtain ⟨W4, HW4⟩ : ∃ W4, Hid (W3.drewN nq = W4) := ⟨_, rfl⟩
        rw [HW4.out]
        have B4 : Below W3.heap.size W3 W4 := by rw [← HW4.out]; exact zh.below_dN (Below.refl _ _) nq
        have H4 : Hid (Op1 w c (.slice a (0) cap) (r.take (0)) W4) := H3.out.later B4
        have hqw : q < W3.heap.size := World.block_lt_of_cell? _ _ x0
        have u0 : W4.cell? ⟨q, 0, none⟩ = some (.string pk) := (Kp.of_below (A := fun _ => False) B4).cell x0 (fun e => e)
        have u1 : W4.cell? ⟨q, 1, none⟩ = some (.string pd) := (Kp.of_below (A := fun _ => False) B4).cell x1 (fun e => e)
        have k1 := H4.out.row.c1
        have k1f := H4.out.row.fz 1
        have hg4 := H4.out.row.lt
        have k1a : (W4.alloc (.cells #[.string pk, .string pd] 80)).cell? ⟨w.heap.size, 1, none⟩ = some (.slice a (0) cap) := (World.cell?_alloc_lt _ _ _ hg4).trans k1
        have H5 : Hid (Op1 w c (.slice a (0) cap) (r.take (0)) (W4.alloc (.cells #[.string pk, .string pd] 80))) := H4.out.later ((Below.refl _ _).alloc (Nat.le_refl _) _)
        have O4 : Hid ((W4.alloc (.cells #[.string pk, .string pd] 80)).drew.ownsRow w.heap.size 80 2 (.slice a (0) cap) (0) (rcs (r.take (0)))) := by have := H5.out.dl; unfold Lr at this; rw [HHL.out] at this; exact this
        have hBw : w.heap.size ≤ W4.heap.size := H4.out.bl.size
        have hn1 : (0 + 1) * 32 ≤ 140737488355328 := by omega
        have AR : Hid (∀ w7 g5 c5, w7.ownsRow w.heap.size 80 2 (.slice (some ⟨g5, 0, none⟩) (0 + 1) c5) (0 + 1) (rcs (r.take (0)) ++ [.string pk, .string pd]) → (W4.alloc (.cells #[.string pk, .string pd] 80)).grownBy w7 (Value.slice a (0) cap).ownBlock → Dt w.heap.size (.slice a (0) cap) (.slice none 0 0) (.slice none 0 0) (s00 c) w7 ∧ Op1 w c (.slice (some ⟨g5, 0, none⟩) (0 + 1) c5) (r.take (0 + 1)) (w7.setCell ⟨w.heap.size, 1, none⟩ (.slice (some ⟨g5, 0, none⟩) (0 + 1) c5))) := fun w7 g5 c5 ho7 hg7 => by
          rw [HT.out]
          exact Op1.grown H5.out (by rw [HHL.out]; exact ho7) hg7
        clear c1 f1 x0 x1 B4 hqw hgl
        go_upto_region 13 with fail
        go_cut [71] from 26 to 72 (fun cc wx => Hid (∃ v', Op1 w c v' (r.take (0 + 1)) wx))
        case first =>
          go_region_law ((first | (have zz := O4.out; refine step_append_lies _ (by rfl) (.tmp 66) (.tmp 68) 47 (by rfl) w.heap.size 80 i0 (.agg #[.string ByteArray.empty, .string ByteArray.empty]) 2 32 Try.underlying47 HIN.out.1 HIN.out.2.1 HIN.out.2.2.1 HIN.out.2.2.2 rfl (by decide) (.slice a (0) cap) (0) _ (by simp [Act.eval]) O4.out ⟨W4.heap.size, 0, none⟩ 1 1 [.string pk, .string pd] (by simp [Act.eval]) rfl (zc.new_two W4 _ _ _) (one_rc _ _) (by omega) (by unfold maxLen; omega) hn1 (by simp; omega) (W4.heap.size + 1) (by simp) ?_; intro g5 c5 w7 ho7 hg7 hl7 hlt7; have A7 : Hid _ := AR.out w7 g5 c5 ho7 ⟨hg7.os, hg7.tape, hg7.output, hg7.size, hg7.block⟩; have c17 := A7.out.1.c1; have f17 := A7.out.1.fz 1; clear ho7 hg7 hl7 zz)))
          all_goals (go_wp2; go_meet; exact ⟨_, A7.out.2⟩)
        case rest =>
          have HC1 := hcut
          clear hcut
          go_wp2
          go_roundw
          case rel =>
            obtain ⟨v', hv'⟩ := HC1.out
            exact ⟨0 + 1, v', by omega, by rw [HZ2.out]; congr 1; omega, hv'⟩
          case measure => simp [intOf]; omega
      · obtain ⟨i, rfl⟩ : ∃ i, j = i + 1 := ⟨j - 1, by omega⟩
        obtain ⟨p', hp'⟩ : ∃ p', r[i]? = some p' := ⟨_, List.getElem?_eq_getElem (by omega)⟩
        have hla : lastK r (i + 1) = p'.1 := by show ((r[i]?).map (·.1)).getD ⟨#[]⟩ = _; rw [hp']; rfl
        have hab := HAB.out
        rw [hla] at hab
        obtain ⟨t1, t2⟩ := hab
        obtain ⟨g3, ha, _, y0, _⟩ := lr_at (a := a) (c := cap) (by have := H3.out.dl; rw [hdv] at this; rw [HHL.out]; exact this) i p' (by rw [List.getElem?_take_of_lt (by omega)]; exact hp')
        subst ha
        have hd1 : decide (((i + 1 : Nat) : Int) > 0) = true := decide_eq_true (by omega)
        have hd2 : ((i + 1 : Nat) : Int) - 1 = (i : Int) := by omega
        have hdi : (i : Int) < ((i + 1 : Nat) : Int) := by omega
        subst hdv
        obtain ⟨lk, HLK⟩ : ∃ l, Hid (p'.1 = l) := ⟨_, rfl⟩
        rw [HLK.out] at t1 t2 y0
        clear hla hp' hj0
        go_upto_region 11 with fail
        go_quiet (fail)
        obtain ⟨W4, HW4⟩ : ∃ W4, Hid (W3.drewN nq = W4) := ⟨_, rfl⟩
        rw [HW4.out]
        have B4 : Below W3.heap.size W3 W4 := by rw [← HW4.out]; exact zh.below_dN (Below.refl _ _) nq
        have H4 : Hid (Op1 w c (.slice (some ⟨g3, 0, none⟩) (i + 1) cap) (r.take (i + 1)) W4) := H3.out.later B4
        have hqw : q < W3.heap.size := World.block_lt_of_cell? _ _ x0
        have u0 : W4.cell? ⟨q, 0, none⟩ = some (.string pk) := (Kp.of_below (A := fun _ => False) B4).cell x0 (fun e => e)
        have u1 : W4.cell? ⟨q, 1, none⟩ = some (.string pd) := (Kp.of_below (A := fun _ => False) B4).cell x1 (fun e => e)
        have k1 := H4.out.row.c1
        have k1f := H4.out.row.fz 1
        have hg4 := H4.out.row.lt
        have k1a : (W4.alloc (.cells #[.string pk, .string pd] 80)).cell? ⟨w.heap.size, 1, none⟩ = some (.slice (some ⟨g3, 0, none⟩) (i + 1) cap) := (World.cell?_alloc_lt _ _ _ hg4).trans k1
        have H5 : Hid (Op1 w c (.slice (some ⟨g3, 0, none⟩) (i + 1) cap) (r.take (i + 1)) (W4.alloc (.cells #[.string pk, .string pd] 80))) := H4.out.later ((Below.refl _ _).alloc (Nat.le_refl _) _)
        have O4 : Hid ((W4.alloc (.cells #[.string pk, .string pd] 80)).drew.ownsRow w.heap.size 80 2 (.slice (some ⟨g3, 0, none⟩) (i + 1) cap) (i + 1) (rcs (r.take (i + 1)))) := by have := H5.out.dl; unfold Lr at this; rw [HHL.out] at this; exact this
        have hBw : w.heap.size ≤ W4.heap.size := H4.out.bl.size
        have hn1 : (i + 1 + 1) * 32 ≤ 140737488355328 := by omega
        have AR : Hid (∀ w7 g5 c5, w7.ownsRow w.heap.size 80 2 (.slice (some ⟨g5, 0, none⟩) (i + 1 + 1) c5) (i + 1 + 1) (rcs (r.take (i + 1)) ++ [.string pk, .string pd]) → (W4.alloc (.cells #[.string pk, .string pd] 80)).grownBy w7 (Value.slice (some ⟨g3, 0, none⟩) (i + 1) cap).ownBlock → Dt w.heap.size (.slice (some ⟨g3, 0, none⟩) (i + 1) cap) (.slice none 0 0) (.slice none 0 0) (s00 c) w7 ∧ Op1 w c (.slice (some ⟨g5, 0, none⟩) (i + 1 + 1) c5) (r.take (i + 1 + 1)) (w7.setCell ⟨w.heap.size, 1, none⟩ (.slice (some ⟨g5, 0, none⟩) (i + 1 + 1) c5))) := fun w7 g5 c5 ho7 hg7 => by
          rw [HT.out]
          exact Op1.grown H5.out (by rw [HHL.out]; exact ho7) hg7
        clear c1 f1 x0 x1 B4 hqw hgl
        go_upto_region 13 with fail
        go_cut [71] from 26 to 72 (fun cc wx => Hid (∃ v', Op1 w c v' (r.take (i + 1 + 1)) wx))
        case first =>
          go_region_law ((first | (have zz := O4.out; refine step_append_lies _ (by rfl) (.tmp 66) (.tmp 68) 47 (by rfl) w.heap.size 80 i0 (.agg #[.string ByteArray.empty, .string ByteArray.empty]) 2 32 Try.underlying47 HIN.out.1 HIN.out.2.1 HIN.out.2.2.1 HIN.out.2.2.2 rfl (by decide) (.slice (some ⟨g3, 0, none⟩) (i + 1) cap) (i + 1) _ (by simp [Act.eval]) O4.out ⟨W4.heap.size, 0, none⟩ 1 1 [.string pk, .string pd] (by simp [Act.eval]) rfl (zc.new_two W4 _ _ _) (one_rc _ _) (by omega) (by unfold maxLen; omega) hn1 (by simp; omega) (W4.heap.size + 1) (by simp) ?_; intro g5 c5 w7 ho7 hg7 hl7 hlt7; have A7 : Hid _ := AR.out w7 g5 c5 ho7 ⟨hg7.os, hg7.tape, hg7.output, hg7.size, hg7.block⟩; have c17 := A7.out.1.c1; have f17 := A7.out.1.fz 1; clear ho7 hg7 hl7 zz)))
          all_goals (go_wp2; go_meet; exact ⟨_, A7.out.2⟩)
        case rest =>
          have HC1 := hcut
          clear hcut
          go_wp2
          go_roundw
          case rel =>
            obtain ⟨v', hv'⟩ := HC1.out
            exact ⟨i + 1 + 1, v', by omega, by rw [HZ2.out]; congr 1; omega, hv'⟩
          case measure => simp [intOf]; omega
    · obtain rfl : j = r.length := by omega
      have g1 : ((Zj r r.length : Nat) : Int) < (L : Int) := by have := HZA2.out; omega
      have HO := HH.out
      have HBL : Hid (Below w.heap.size w wr) := HO.bl
      rw [List.take_length] at HO
      have hLAST := HLAST.out
      obtain ⟨z1, HZ1⟩ : ∃ z, Hid (Zj r r.length = z) := ⟨_, rfl⟩
      rw [HZ1.out] at g1 hLAST ⊢
      clear HLAST HCO HZ HZA2
      rcases hLAST with h1 | ⟨p, z2, h1, hz2, q, r0, er, hlt0⟩
      · have CO : Hid (∀ w, Calls Try.prog 46 #[.string im, .int .i64 (z1 : Int)] w fun e w' => noR w w' e) := h1
        clear h1 HO
        go_wp2_with (first | (go_at_call 46; refine (CO.out _).mono ?_; rintro _ w2 ⟨rfl, b2⟩; have H2 : Hid (Below w.heap.size w w2) := over HBL.out b2; clear b2) | go_in)
        go_ret2
        exact ⟨rfl, over H2.out ((Below.refl _ _).alloc (Nat.le_refl _) _)⟩
      · have CO : Hid (∀ w, Calls Try.prog 46 #[.string im, .int .i64 (z1 : Int)] w fun e w' => e = .returned (.tuple #[.agg #[.string p.1, .string p.2], .int .i64 (z2 : Nat)]) ∧ Below w.heap.size w w') := h1
        clear h1
        have HH2 : Hid (Op1 w c dv r wr) := HO
        have hle := leq_of hlt0
        obtain ⟨pk, pd⟩ := p
        simp only at CO hle
        go_upto_region 9 with (first | (go_at_call 46; refine (CO.out _).mono ?_; rintro _ w2 ⟨rfl, b2⟩; have H2 : Hid (Op1 w c dv r w2) := HH2.out.later b2; clear b2) | go_in)
        obtain ⟨W3, HW3⟩ : ∃ W3, Hid (w2.alloc (.cells #[.string pk, .string pd] 80) = W3) := ⟨_, rfl⟩
        obtain ⟨qq, HQ⟩ : ∃ q, Hid (w2.heap.size = q) := ⟨_, rfl⟩
        have H3 : Hid (Op1 w c dv r W3) := by rw [← HW3.out]; exact H2.out.later ((Below.refl _ _).alloc (Nat.le_refl _) _)
        have x0 : W3.cell? ⟨qq, 0, none⟩ = some (.string pk) := by rw [← HW3.out, ← HQ.out, World.cell?_alloc_new]; rfl
        have x1 : W3.cell? ⟨qq, 1, none⟩ = some (.string pd) := by rw [← HW3.out, ← HQ.out, World.cell?_alloc_new]; rfl
        rw [HW3.out, HQ.out]
        obtain ⟨a, cap, hdv⟩ := lr_form H3.out.dl
        have c1 := H3.out.row.c1
        have g2 : ¬ ((z2 : Int) < 0) := by omega
        have hrl : r.length = r0.length + 1 := by rw [er, List.length_append]; rfl
        obtain ⟨i, hi⟩ : ∃ i, r0.length = i := ⟨_, rfl⟩
        have hqi : r[i]? = some q := by rw [er, ← hi, List.getElem?_append_right (Nat.le_refl _), Nat.sub_self]; rfl
        rw [hrl, hi] at hdv
        obtain ⟨g3, ha, _, y0, _⟩ := lr_at (a := a) (c := cap) (by have := H3.out.dl; rw [hdv, ← hi, ← hrl] at this; exact this) i q hqi
        subst ha
        have hd1 : decide (((i + 1 : Nat) : Int) > 0) = true := decide_eq_true (by omega)
        have hd2 : ((i + 1 : Nat) : Int) - 1 = (i : Int) := by omega
        have hdi : (i : Int) < ((i + 1 : Nat) : Int) := by omega
        have hib : (i : Int) < 3518437208883 := by have := HLR.out; omega
        subst hdv
        have HE : Hid (Below w.heap.size w W3) := H3.out.bl
        obtain ⟨lk, HLK⟩ : ∃ l, Hid (q.1 = l) := ⟨_, rfl⟩
        rw [HLK.out] at hle y0
        clear hqi hrl hi er HH HH2 H2 HO
        rcases hle with ⟨t1, t2⟩ | ⟨t1, t2⟩
        all_goals (
          go_upto_region 11 with fail
          go_quiet (fail)
          obtain ⟨W4, HW4⟩ : ∃ W4, Hid (W3.drewN nq = W4) := ⟨_, rfl⟩
          rw [HW4.out]
          have B4 : Below W3.heap.size W3 W4 := by rw [← HW4.out]; exact zh.below_dN (Below.refl _ _) nq
          have E4 : Hid (Below w.heap.size w W4) := over HE.out B4
          clear B4
          go_wp2
          go_ret2
          exact ⟨rfl, E4.out⟩)
-- a text that does not open with the letter
theorem openDOff (im : ByteArray) (c : Int) (w : World) (hc : 0 ≤ c ∧ c ≤ 1073741824) (h : Lib.hasPrefix (bs im) [83] = false) (hsz : im.size ≤ 140737488355328) : Calls Try.prog 13 #[.string im, .int .i64 c] w fun e w' => e = .returned (.tuple #[.pointer none, .int .i64 125]) ∧ w' = w := by
  have q1 : decide (c < 0) = false := decide_eq_false (by omega)
  have q2 : decide (1073741824 < c) = false := decide_eq_false (by omega)
  have hbt := get_bt im
  by_cases hz : im.size = 0
  · have h0 : im = ⟨#[]⟩ := by
      apply bs_inj
      have : (bs im).length = 0 := by rw [bs_len]; exact hz
      rw [List.length_eq_zero_iff.1 this]
      rfl
    subst h0
    have hne : ((⟨#[]⟩ : ByteArray).toList == []) = true := by rw [ByteArray.toList_eq]; rfl
    have hne2 : (⟨#[]⟩ : ByteArray).toList.isEmpty = true := by rw [ByteArray.toList_eq]; rfl
    clear hc h hz hsz
    go_enter Try.func13, Try.ntmps13
    go_wp2
    go_ret2
    first | exact ⟨rfl, rfl⟩ | rfl | trivial
  · obtain ⟨hne, hne2⟩ := tl_ne (R := im) (by omega)
    have hz1 : (0 : Int) < (im.size : Int) := by omega
    have h0 : 0 < (bs im).length := by rw [bs_len]; omega
    have b0 := bt_bs im 0 _ (List.getElem?_eq_getElem h0)
    have hu : (bs im)[0] ≠ 83 := by
      intro e
      cases hb : bs im with
      | nil => rw [hb] at h0; simp at h0
      | cons u l =>
        have e2 : u = 83 := by
          have : (bs im)[0]? = some (bs im)[0] := List.getElem?_eq_getElem h0
          rw [e, hb] at this
          simpa using this
        rw [hb, e2] at h
        simp [Lib.hasPrefix] at h
    have hu2 : (bs im)[0].toNat ≠ 83 := fun e => hu (UInt8.toNat_inj.1 e)
    obtain ⟨n, hn⟩ : ∃ n : Nat, (bs im)[0].toNat = n := ⟨_, rfl⟩
    rw [hn] at b0 hu2
    have g1 : ((n : Int) == 83) = false := by rw [beq_eq_false_iff_ne]; omega
    have g2 : ((n : Int) != 83) = true := by rw [bne_iff_ne]; omega
    clear hc h hz hsz hu hu2 hn h0
    go_enter Try.func13, Try.ntmps13
    go_wp2
    go_ret2
    first | exact ⟨rfl, rfl⟩ | rfl | trivial
end Go.Proofs.Ytjbaagcpcdmcnaa.vc

namespace Go.Proofs.Ytjbaagcpcdmcnaa.vd
open Go.RowKit Go.PlainAid Go.Maps Go.Shelf
open Go.Proofs.Ytjbaagcpcdmcnaa.ca Go.Proofs.Ytjbaagcpcdmcnaa.cp Go.Proofs.Ytjbaagcpcdmcnaa.kp Go.Proofs.Ytjbaagcpcdmcnaa.ka Go.Proofs.Ytjbaagcpcdmcnaa.ya Go.Proofs.Ytjbaagcpcdmcnaa.yb Go.Proofs.Ytjbaagcpcdmcnaa.yc Go.Proofs.Ytjbaagcpcdmcnaa.yd Go.Proofs.Ytjbaagcpcdmcnaa.ye Go.Proofs.Ytjbaagcpcdmcnaa.yf Go.Proofs.Ytjbaagcpcdmcnaa.yg Go.Proofs.Ytjbaagcpcdmcnaa.yo Go.Proofs.Ytjbaagcpcdmcnaa.yp Go.Proofs.Ytjbaagcpcdmcnaa.yr Go.Proofs.Ytjbaagcpcdmcnaa.yt Go.Proofs.Ytjbaagcpcdmcnaa.yu Go.Proofs.Ytjbaagcpcdmcnaa.zf Go.Proofs.Ytjbaagcpcdmcnaa.zg Go.Proofs.Ytjbaagcpcdmcnaa.xc Go.Proofs.Ytjbaagcpcdmcnaa.xn Go.Proofs.Ytjbaagcpcdmcnaa.xo Go.Proofs.Ytjbaagcpcdmcnaa.xp Go.Proofs.Ytjbaagcpcdmcnaa.xr Go.Proofs.Ytjbaagcpcdmcnaa.va Go.Proofs.Ytjbaagcpcdmcnaa.vb Go.Proofs.Ytjbaagcpcdmcnaa.vc
set_option linter.unusedVariables false
set_option linter.unusedSimpArgs false
theorem names_len {s : S} (h : OkS s) (kind : Int) (k : ByteArray) : (aN s kind k).length ≤ 140737488355328 := by
  unfold aN
  split
  · unfold keysS
    split
    · simp
    · unfold keysL
      have h1 := h.lnow
      have h2 := List.length_filter_le (fun p : Rec => Lib.hasPrefix (bs p.1) (bs k)) (now s)
      rw [List.length_map]
      omega
  · simp
-- what both stores tell of themselves
abbrev ansV (xT : ByteArray) (xE xA xB xC xG : Int) (xD : Bool) (na : Option Addr) (nl nc : Nat) : Value := .agg #[.string xT, .slice na nl nc, .int .i64 xE, .int .i64 xA, .int .i64 xB, .int .i64 xC, .bool xD, .int .i64 xG]
theorem doS9 (s : S) : (doS s 9 ⟨#[]⟩ ⟨#[]⟩ 0).2 = s := by unfold doS; simp
structure Tells (B g bn bd g' : Nat) (s : S) (w0 : World) (xT : ByteArray) (xN ks : List ByteArray) (xE xA xB xC xG : Int) (xD : Bool) (img : ByteArray) : Prop where
  cd : ∀ w1, Bo B g bn bd g' s s w0 w1 → Calls Try.prog 7 #[.pointer (some ⟨g, 0, none⟩), .agg #[.int .i64 9, .string ⟨#[]⟩, .string ⟨#[]⟩, .int .i64 0]] w1 fun e w' => ∃ (na : Option Addr) (nl nc : Nat), e = .returned (ansV xT xE xA xB xC xG xD na nl nc) ∧ w'.ownsRow w1.heap.size 9 1 (.slice na nl nc) xN.length (xN.map Value.string) ∧ Bo B g bn bd g' s s w0 w' ∧ Stay oth w1 w'
  ct : ∀ w1, Bo B g bn bd g' s s w0 w1 → Calls Try.prog 8 #[.pointer (some ⟨g', 0, none⟩), .agg #[.int .i64 9, .string ⟨#[]⟩, .string ⟨#[]⟩, .int .i64 0]] w1 fun e w' => ∃ (na : Option Addr) (nl nc : Nat), e = .returned (ansV xT xE xA xB xC xG xD na nl nc) ∧ w'.ownsRow w1.heap.size 9 1 (.slice na nl nc) xN.length (xN.map Value.string) ∧ Bo B g bn bd g' s s w0 w' ∧ Stay oth w1 w'
  cs : ∀ w1 na nl nc nb ml mc, ReadsT w1 (.slice na nl nc) xN → ReadsT w1 (.slice nb ml mc) xN → Calls Try.prog 6 #[ansV xT xE xA xB xC xG xD na nl nc, ansV xT xE xA xB xC xG xD nb ml mc] w1 fun r w' => r = .returned (.bool true) ∧ Below w1.heap.size w1 w'
  ci : ∀ w1, Bo B g bn bd g' s s w0 w1 → Calls Try.prog 9 #[.pointer (some ⟨g, 0, none⟩)] w1 fun e w' => e = .returned (.string img) ∧ Below w1.heap.size w1 w'
  cj : ∀ w1, Bo B g bn bd g' s s w0 w1 → Calls Try.prog 10 #[.pointer (some ⟨g', 0, none⟩)] w1 fun e w' => e = .returned (.string img) ∧ Below w1.heap.size w1 w'
  ck : ∀ w1, Bo B g bn bd g' s s w0 w1 → Calls Try.prog 11 #[.pointer (some ⟨g, 0, none⟩), .string ⟨#[]⟩] w1 fun e w' => ∃ v, e = .returned v ∧ w'.ownsRow w1.heap.size 9 1 v ks.length (ks.map Value.string) ∧ Below w1.heap.size w1 w'
  cl : ∀ w1, Bo B g bn bd g' s s w0 w1 → Calls Try.prog 15 #[.pointer (some ⟨g', 0, none⟩), .string ⟨#[]⟩] w1 fun e w' => ∃ v, e = .returned v ∧ w'.ownsRow w1.heap.size 9 1 v ks.length (ks.map Value.string) ∧ Below w1.heap.size w1 w'
  cm : ∀ w1 a b, ReadsT w1 a ks → ReadsT w1 b ks → Calls Try.prog 14 #[a, b] w1 fun e w' => e = .returned (.bool true) ∧ Below w1.heap.size w1 w'
theorem tells {B g bn bd g' : Nat} {s : S} {w0 : World} (hok : OkS s) (hl : s.dur.length + s.pend.length + 1 < 3518437208883) (ha : s.age < 4398046511104) (hi : isz s.dur ≤ 140737488355000) : Tells B g bn bd g' s w0 (aT s 9 ⟨#[]⟩) (aN s 9 ⟨#[]⟩) (keysS s ⟨#[]⟩) (doS s 9 ⟨#[]⟩ ⟨#[]⟩ 0).1 (aA s 9) (aB s 9) (aC s 9) (aG s 9) (aD s 9) (imageT s.dur) where
  cd := fun w1 h => by
    obtain ⟨pv, h1, h2⟩ := Bo.fst' h
    have := doT 9 ⟨#[]⟩ ⟨#[]⟩ 0 h1 (by decide) (by decide) (by decide) hl ha hi (Nat.le_trans h.low h.bl.size)
    rw [doS9] at this
    exact this.mono fun e w' ⟨na, nl, nc, g1, g2, g3⟩ => ⟨na, nl, nc, g1, g2, (h2 _ _ g3).1, (h2 _ _ g3).2⟩
  ct := fun w1 h => by
    obtain ⟨dv, wv, vv, h1, h2⟩ := Bo.snd' h
    have := xl.toldT 9 ⟨#[]⟩ ⟨#[]⟩ 0 h1 (by decide) (by decide) (by decide) hl ha hi (Nat.le_trans h.low h.bl.size)
    rw [doS9] at this
    exact this.mono fun e w' ⟨na, nl, nc, g1, g2, g3⟩ => ⟨na, nl, nc, g1, g2, (h2 _ _ g3).1, (h2 _ _ g3).2⟩
  cs := fun w1 na nl nc nb ml mc r1 r2 => zh.same12 _ na nb nl nc ml mc _ _ _ _ _ _ _ w1 r1 r2 (names_len hok _ _)
  ci := fun w1 h => by
    obtain ⟨pv, k1, _⟩ := Bo.fst h
    exact imageC k1 hi
  cj := fun w1 h => by
    obtain ⟨dv, wv, vv, k1, _⟩ := Bo.snd h
    exact xj.imageD k1 hi
  ck := fun w1 h => by
    obtain ⟨pv, k1, _⟩ := Bo.fst h
    exact yf.keysC _ k1
  cl := fun w1 h => by
    obtain ⟨dv, wv, vv, k1, _⟩ := Bo.snd h
    exact xh.keysD _ k1
  cm := fun w1 a b r1 r2 => (Go.Proofs.Ytjbaagcpcdmcnaa.bn.same_yes a b _ w1 r1 r2 (by have := names_len hok 7 ⟨#[]⟩; unfold aN at this; simpa using this)).mono fun e w' ⟨x, m, hm⟩ => ⟨x, by rw [hm]; exact zh.below_dN (Below.refl _ _) m⟩
theorem nilR {w : World} {B : Nat} {v : Value} (h : w.ownsRow B 9 1 v 0 []) : ∃ a c, v = .slice a 0 c := by
  rcases h.2 with ⟨e, _⟩ | ⟨g, cap, cur, e, _⟩
  · exact ⟨_, _, e⟩
  · exact ⟨_, _, e⟩
set_option maxRecDepth 20000 in
set_option maxHeartbeats 3200000 in
theorem newNoL (c : Int) (im : ByteArray) (w : World) (hc : ¬ (0 ≤ c ∧ c ≤ 1073741824)) : Calls Try.prog 3 #[.int .i64 c, .string im] w fun e w' => e = .returned (.bool true) ∧ Below w.heap.size w w' := by
  have C1 : Hid (∀ w, Calls _ _ _ _ _) := fun w => yg.newNo c w hc
  have C2 : Hid (∀ w, Calls _ _ _ _ _) := fun w => newDNo c w hc
  have C3 : Hid (∀ w, Calls _ _ _ _ _) := fun w => openNo im c w hc
  have C4 : Hid (∀ w, Calls _ _ _ _ _) := fun w => openDNo im c w hc
  clear hc
  go_enter Try.func3, Try.ntmps3
  go_wp2_with fail
  refine (C1.out _).mono ?_
  rintro _ _ ⟨rfl, hw⟩; rw [hw]; clear hw
  go_wp2_with fail
  refine (C2.out _).mono ?_
  rintro _ _ ⟨rfl, hw⟩; rw [hw]; clear hw
  go_wp2_with fail
  refine (C3.out _).mono ?_
  rintro _ _ ⟨rfl, hw⟩; rw [hw]; clear hw
  go_wp2_with fail
  refine (C4.out _).mono ?_
  rintro _ _ ⟨rfl, hw⟩; rw [hw]; clear hw
  go_wp2
  go_ret
  exact ⟨rfl, Below.refl _ _⟩
-- what Open does with this text, on both sides
inductive Opens (im : ByteArray) (c : Int) : Prop
  | no (hp : ∀ w, Calls Try.prog 12 #[.string im, .int .i64 c] w fun e w' => e = .returned (.tuple #[.pointer none, .int .i64 125]) ∧ Below w.heap.size w w') (hd : ∀ w, Calls Try.prog 13 #[.string im, .int .i64 c] w fun e w' => e = .returned (.tuple #[.pointer none, .int .i64 125]) ∧ Below w.heap.size w w')
  | yes (r : List Rec) (he : im = imageT r) (hs : Srt r) (hok : OkR r)
theorem opens (im : ByteArray) (c : Int) (hc : 0 ≤ c ∧ c ≤ 1073741824) (hz : im.size ≤ 1048576) : Opens im c := by
  cases hp : Lib.hasPrefix (bs im) [83] with
  | false => exact .no (fun w => openBad im c w hc (fun w => readImageOff im w hp)) (fun w => (openDOff im c w hc hp (by omega)).mono fun e w' ⟨a, b⟩ => ⟨a, by rw [b]; exact Below.refl _ _⟩)
  | true =>
    obtain ⟨Y, hY⟩ : ∃ Y, bs im = 83 :: Y := by
      cases hb : bs im with
      | nil => rw [hb] at hp; simp [Lib.hasPrefix] at hp
      | cons u l =>
        rw [hb] at hp
        have : (83 : UInt8) = u := by simpa [Lib.hasPrefix] using hp
        exact ⟨l, by rw [← this]⟩
    obtain ⟨r, Z, e, hs, hok, hZ | hZ⟩ := parted Y
    · refine .yes r ?_ hs hok
      apply bs_inj
      rw [img_bs, hY, e, hZ, List.append_nil]
    · rw [e] at hY
      have hll : r.length ≤ 1048576 := by
        have h1 := congrArg List.length hY
        rw [bs_len, List.length_cons, List.length_append] at h1
        have := recs_ge r
        omega
      exact .no (fun w => openBad im c w hc (fun w => readImageNo im r Z w hY (by omega) hs hok hZ)) (fun w => openDBad im r Z c w hY (by omega) hc hs hok hZ (by omega))
set_option maxRecDepth 20000 in
set_option maxHeartbeats 1600000 in
theorem newYes (c : Int) (im : ByteArray) (w : World) (hz : im.size ≤ 1048576) (hc : 0 ≤ c ∧ c ≤ 1073741824) : Calls Try.prog 3 #[.int .i64 c, .string im] w fun e w' => e = .returned (.bool true) ∧ Below w.heap.size w w' := by
  have CN : Hid (∀ w1, Calls _ _ _ _ _) := fun w1 => newC c w1 hc
  have CM : Hid (∀ w1, Calls _ _ _ _ _) := fun w1 => newD c w1 hc
  obtain ⟨s0, HS0⟩ : ∃ s : S, Hid (s = ⟨c, [], [], 0, false, 0⟩) := ⟨_, rfl⟩
  have TT : ∀ g bn bd g', Tells w.heap.size g bn bd g' s0 w (aT s0 9 ⟨#[]⟩) (aN s0 9 ⟨#[]⟩) [] (doS s0 9 ⟨#[]⟩ ⟨#[]⟩ 0).1 (aA s0 9) (aB s0 9) (aC s0 9) (aG s0 9) (aD s0 9) (imageT s0.dur) := fun g bn bd g' => by
    rw [HS0.out]
    exact tells (s := ⟨c, [], [], 0, false, 0⟩) ⟨(fun p hp => absurd hp List.not_mem_nil), List.Pairwise.nil, (fun x hx => absurd hx List.not_mem_nil), hc.1, hc.2, by simp, by simp, by simp⟩ (by simp) (by simp) (by simp [isz])
  have HOP : Hid (Opens im c) := opens im c hc hz
  have HZ : Hid (im.size ≤ 1048576 ∧ 0 ≤ c ∧ c ≤ 1073741824) := ⟨hz, hc⟩
  clear hc hz
  go_enter Try.func3, Try.ntmps3
  go_wp2_with fail
  refine (CN.out _).mono ?_
  rintro _ w1 ⟨g0, bn0, bd0, rfl, h1, b1⟩
  have N1 : Hid (Sr _ _ _ _ _ _ w1) := h1
  have B1 : Hid (Below w.heap.size w w1) := b1
  clear h1 b1
  go_wp2_with fail
  refine (CM.out _).mono ?_
  rintro _ w2 ⟨g1, rfl, h2, b2⟩
  have PR : Hid (Bo w.heap.size g0 bn0 bd0 g1 s0 s0 w w2) := by
    rw [HS0.out]
    exact ⟨⟨_, _, _, _, sr_later N1.out b2, ds_down h2 B1.out.size⟩, over B1.out b2, Nat.le_refl _⟩
  obtain ⟨im0, xT, xN, xE, xA, xB, xC, xG, xD, T0⟩ : ∃ im0 xT xN xE xA xB xC xG xD, Hid (Tells w.heap.size g0 bn0 bd0 g1 s0 w xT xN [] xE xA xB xC xG xD im0) := ⟨_, _, _, _, _, _, _, _, _, TT g0 bn0 bd0 g1⟩
  clear h2 b2 CN CM N1 B1 TT HS0
  have ei0 : (im0.toList == im0.toList) = true := beq_self_eq_true _
  go_wp2_with fail
  refine (T0.out.cd _ PR.out).mono ?_
  rintro _ wa1 ⟨na, nl, nc, rfl, ow, hp, st⟩
  have P1 : Hid (Bo _ _ _ _ _ _ _ _ wa1) := hp
  have O1 : Hid (World.ownsRow wa1 _ _ _ _ _ _) := ow
  clear ow hp st
  go_wp2_with fail
  refine (T0.out.ct _ P1.out).mono ?_
  rintro _ wb1 ⟨nb, ml, mc, rfl, ow, hp, st⟩
  have P2 : Hid (Bo _ _ _ _ _ _ _ _ wb1) := hp
  have R1 : Hid (ReadsT wb1 (.slice na nl nc) _) := own_readsT (st.own O1.out)
  have R2 : Hid (ReadsT wb1 (.slice nb ml mc) _) := own_readsT ow
  clear ow hp st P1 O1
  go_wp2_with fail
  refine (T0.out.cs _ _ _ _ _ _ _ R1.out R2.out).mono ?_
  rintro _ wc1 ⟨rfl, bb⟩
  have P3 : Hid (Bo _ _ _ _ _ _ _ _ wc1) := P2.out.later bb
  clear bb P2 R1 R2
  go_wp2_with fail
  refine (T0.out.ci _ P3.out).mono ?_
  rintro _ wd1 ⟨rfl, bb⟩
  have P4 : Hid (Bo _ _ _ _ _ _ _ _ wd1) := P3.out.later bb
  clear bb P3
  go_wp2_with fail
  refine (T0.out.cj _ P4.out).mono ?_
  rintro _ we1 ⟨rfl, bb⟩
  have P5 : Hid (Bo _ _ _ _ _ _ _ _ we1) := P4.out.later bb
  clear bb P4
  go_wp2_with fail
  refine (T0.out.ck _ P5.out).mono ?_
  rintro _ wf1 ⟨kv, rfl, ow, bb⟩
  have P6 : Hid (Bo _ _ _ _ _ _ _ _ wf1) := P5.out.later bb
  obtain ⟨ka_, kc_, rfl⟩ := nilR ow
  clear bb P5 ow
  rcases HOP.out with ⟨hp, hd⟩ | ⟨r, he, hs, hok⟩
  · have CP : Hid (∀ w, Calls _ _ _ _ _) := hp
    have CD : Hid (∀ w, Calls _ _ _ _ _) := hd
    clear hp hd HOP
    go_wp2_with fail
    refine (CP.out _).mono ?_
    rintro _ w7 ⟨rfl, b7⟩
    have P7 : Hid (Bo _ _ _ _ _ _ _ _ w7) := P6.out.later b7
    clear b7
    go_wp2_with fail
    refine (CD.out _).mono ?_
    rintro _ w8 ⟨rfl, b8⟩
    have P8 : Hid (Bo _ _ _ _ _ _ _ _ w8) := P7.out.later b8
    clear b8
    go_wp2
    go_ret
    exact ⟨rfl, P8.out.bl⟩
  · have hzr : isz r ≤ 1048576 := by have := imgB_len r; have h2 := HZ.out.1; rw [he, ← bs_len, img_bs, List.length_cons] at h2; unfold imgB at this; rw [List.length_cons] at this; unfold recsB at h2; omega
    have hlr := len_isz r
    have CP : Hid (∀ w, Calls _ _ _ _ _) := fun w => openC r c w HZ.out.2 hs hok (by omega) (by omega)
    have CD : Hid (∀ w, Calls _ _ _ _ _) := fun w => openD r c w HZ.out.2 hs hok (by omega) (by omega)
    obtain ⟨s1, HS1⟩ : ∃ s : S, Hid (s = ⟨c, r, [], 0, false, 0⟩) := ⟨_, rfl⟩
    have hsd : imageT s1.dur = im := by rw [HS1.out, he]
    have TT : ∀ g bn bd g', Tells w.heap.size g bn bd g' s1 w (aT s1 9 ⟨#[]⟩) (aN s1 9 ⟨#[]⟩) (keysS s1 ⟨#[]⟩) (doS s1 9 ⟨#[]⟩ ⟨#[]⟩ 0).1 (aA s1 9) (aB s1 9) (aC s1 9) (aG s1 9) (aD s1 9) im := fun g bn bd g' => by
      rw [← hsd, HS1.out]
      exact tells (s := ⟨c, r, [], 0, false, 0⟩) ⟨hok, hs, (fun x hx => absurd hx List.not_mem_nil), HZ.out.2.1, HZ.out.2.2, by simp, by simp, by simp; omega⟩ (by simp; omega) (by simp) (by simp; omega)
    rw [← he] at CP CD
    clear hzr hlr hs hok HOP hsd he
    go_wp2_with fail
    refine (CP.out _).mono ?_
    rintro _ w7 ⟨g2, bn2, bd2, rfl, h1, b1⟩
    have N7 : Hid (Sr _ _ _ _ _ _ w7) := h1
    have B7 : Hid (Below wf1.heap.size wf1 w7) := b1
    clear h1 b1
    go_wp2_with fail
    refine (CD.out _).mono ?_
    rintro _ w8 ⟨dv, rfl, h2, b2⟩
    have P8 : Hid (Bo w.heap.size g2 bn2 bd2 w7.heap.size s1 s1 w w8) := by
      rw [HS1.out]
      exact ⟨⟨_, _, _, _, sr_down (sr_later N7.out b2) P6.out.bl.size, ds_down h2 (over P6.out.bl B7.out).size⟩, over (over P6.out.bl B7.out) b2, Nat.le_refl _⟩
    obtain ⟨yT, yN, ks, yE, yA, yB, yC, yG, yD, T1⟩ : ∃ xT xN ks xE xA xB xC xG xD, Hid (Tells w.heap.size g2 bn2 bd2 w7.heap.size s1 w xT xN ks xE xA xB xC xG xD im) := ⟨_, _, _, _, _, _, _, _, _, TT _ _ _ _⟩
    obtain ⟨g3, HG3⟩ : ∃ g, Hid (w7.heap.size = g) := ⟨_, rfl⟩
    rw [HG3.out] at P8 T1 ⊢
    clear h2 b2 CP CD N7 B7 TT HS1 P6 T0
    have eim : (im.toList == im.toList) = true := beq_self_eq_true _
    go_wp2_with fail
    refine (T1.out.cd _ P8.out).mono ?_
    rintro _ wa2 ⟨na, nl, nc, rfl, ow, hp, st⟩
    have P1 : Hid (Bo _ _ _ _ _ _ _ _ wa2) := hp
    have O1 : Hid (World.ownsRow wa2 _ _ _ _ _ _) := ow
    clear ow hp st
    go_wp2_with fail
    refine (T1.out.ct _ P1.out).mono ?_
    rintro _ wb2 ⟨nb, ml, mc, rfl, ow, hp, st⟩
    have P2 : Hid (Bo _ _ _ _ _ _ _ _ wb2) := hp
    have R1 : Hid (ReadsT wb2 (.slice na nl nc) _) := own_readsT (st.own O1.out)
    have R2 : Hid (ReadsT wb2 (.slice nb ml mc) _) := own_readsT ow
    clear ow hp st P1 O1
    go_wp2_with fail
    refine (T1.out.cs _ _ _ _ _ _ _ R1.out R2.out).mono ?_
    rintro _ wc2 ⟨rfl, bb⟩
    have P3 : Hid (Bo _ _ _ _ _ _ _ _ wc2) := P2.out.later bb
    clear bb P2 R1 R2
    go_wp2_with fail
    refine (T1.out.ci _ P3.out).mono ?_
    rintro _ wd2 ⟨rfl, bb⟩
    have P4 : Hid (Bo _ _ _ _ _ _ _ _ wd2) := P3.out.later bb
    clear bb P3
    go_wp2_with fail
    refine (T1.out.ck _ P4.out).mono ?_
    rintro _ we2 ⟨kv, rfl, ow, bb⟩
    have R7 : Hid (ReadsT we2 kv _) := own_readsT ow
    have P5 : Hid (Bo _ _ _ _ _ _ _ _ we2) := P4.out.later bb
    clear bb P4 ow
    go_wp2_with fail
    refine (T1.out.cl _ P5.out).mono ?_
    rintro _ wf2 ⟨kv2, rfl, ow, bb⟩
    have R8 : Hid (ReadsT wf2 kv _) := R7.out.later bb
    have R9 : Hid (ReadsT wf2 kv2 _) := own_readsT ow
    have P6 : Hid (Bo _ _ _ _ _ _ _ _ wf2) := P5.out.later bb
    clear bb P5 ow R7
    go_wp2_with fail
    refine (T1.out.cm _ _ _ R8.out R9.out).mono ?_
    rintro _ wg2 ⟨rfl, bb⟩
    have P7 : Hid (Bo _ _ _ _ _ _ _ _ wg2) := P6.out.later bb
    clear bb P6 R8 R9
    go_wp2
    go_ret
    exact ⟨rfl, P7.out.bl⟩
theorem new_walk (c : Int) (wc : (Lit.int .i64 c).wf = true) (im : ByteArray) (hz : im.size ≤ 1048576) {w : World} : Calls Try.prog 3 #[.int .i64 c, .string im] w fun e w' => e = .returned (.bool true) ∧ Below w.heap.size w w' := by
  by_cases hc : 0 ≤ c ∧ c ≤ 1073741824
  · exact newYes c im w hz hc
  · exact newNoL c im w hc
end Go.Proofs.Ytjbaagcpcdmcnaa.vd
