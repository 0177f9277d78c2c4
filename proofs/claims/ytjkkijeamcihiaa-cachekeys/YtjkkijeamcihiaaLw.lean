import Derived.Test.YtjkkijeamcihiaaLk
import Derived.Test.YtjkkijeamcihiaaDb
namespace Go.Proofs.Ytjkkijeamcihiaa.lw
open Go.RowKit Go.PlainAid Go.Maps
open Go.Proofs.Ytjkkijeamcihiaa.cp Go.Proofs.Ytjkkijeamcihiaa.kp Go.Proofs.Ytjkkijeamcihiaa.ka Go.Proofs.Ytjkkijeamcihiaa.bn Go.Proofs.Ytjkkijeamcihiaa.rc Go.Proofs.Ytjkkijeamcihiaa.re Go.Proofs.Ytjkkijeamcihiaa.sa Go.Proofs.Ytjkkijeamcihiaa.lz Go.Proofs.Ytjkkijeamcihiaa.lc Go.Proofs.Ytjkkijeamcihiaa.ld Go.Proofs.Ytjkkijeamcihiaa.lh Go.Proofs.Ytjkkijeamcihiaa.lk
open Go.Proofs.Ytjkkijeamcihiaa.rl (below_grownBy)
set_option linter.unusedVariables false
set_option linter.unusedSimpArgs false
-- a row of texts of one's own, to be written and grown
def OwO (B : Nat) : Thg (Value × List ByteArray) where
  P s F w := w.ownsRow B 9 1 s.1 s.2.length (s.2.map Value.string) ∧ ∀ k, F k ↔ s.1.ownBlock = some k
  keep := by
    rintro s F w w' A ⟨h1, h2⟩ k hn
    refine ⟨⟨h1.1, ?_⟩, h2⟩
    rcases h1.2 with h | ⟨g', cap, cur', e, h3, h4, h5⟩
    · exact .inl h
    · exact .inr ⟨g', cap, cur', e, h3, (k.block g' (Array.getElem?_eq_some_iff.1 h4).1 (hn g' ((h2 g').2 (by rw [e]; rfl)))).trans h4, h5⟩
  lt := fun ⟨h1, h2⟩ k hk => (h1.lt k ((h2 k).1 hk)).2
theorem ow_new {B : Nat} {w w' : World} {v : Value} {xs : List ByteArray} (ho : w'.ownsRow w.heap.size 9 1 v xs.length (xs.map Value.string)) (hB : B ≤ w.heap.size) : (OwO B).P (v, xs) (fun k => v.ownBlock = some k) w' ∧ ∀ k, v.ownBlock = some k → w.heap.size ≤ k := by
  refine ⟨⟨⟨ho.1, ?_⟩, fun k => Iff.rfl⟩, fun k hk => (ho.lt k hk).1⟩
  rcases ho.2 with h | ⟨g', cap, cur', e, h3, h4⟩
  · exact .inl h
  · exact .inr ⟨g', cap, cur', e, Nat.le_trans hB h3, h4⟩
-- an element is written
theorem ow_set {σ : Type} {O : Thg σ} {B : Nat} {s : σ} {b n c : Nat} {xs : List ByteArray} {w0 w : World} (h : One (pairO O (OwO B)) B (s, (.slice (some ⟨b, 0, none⟩) n c, xs)) w0 w) (i : Nat) (x : ByteArray) (hi : i < xs.length) : One (pairO O (OwO B)) B (s, (.slice (some ⟨b, 0, none⟩) n c, xs.set i x)) w0 (w.setCell ⟨b, i, none⟩ (.string x)) := by
  obtain ⟨F, hp, h5, h6, h7⟩ := h
  obtain ⟨F2, ⟨g1, g2⟩, g3⟩ := pair_snd hp
  have hn : xs.length = n := by
    rcases g1.2 with ⟨e, _⟩ | ⟨g', cap, cur', e, _⟩
    · cases e
    · exact (Value.slice.inj e).2.1.symm
  have st : (w.setCell ⟨b, i, none⟩ (.string x)).ownsRow B 9 1 (.slice (some ⟨b, 0, none⟩) n c) n ((xs.set i x).map Value.string) := by
    have g1' : w.ownsRow B 9 1 (.slice (some ⟨b, 0, none⟩) n c) n (xs.map Value.string) := by have := g1; rw [hn] at this; exact this
    have := g1'.stored i (.string x)
    rw [List.map_set]
    first | exact this.1 | exact this
  obtain ⟨F', k1, k2⟩ := g3 (.slice (some ⟨b, 0, none⟩) n c, xs.set i x) F2 (w.setCell ⟨b, i, none⟩ (.string x)) ⟨by rw [List.length_set, hn]; exact st, g2⟩ ⟨Kp.setCell _ _ _ _ ((g2 b).2 rfl), fun k hk => .inl hk⟩
  exact One.turn h5 h6 h7 k1 k2
theorem ow_get {σ : Type} {O : Thg σ} {B : Nat} {s : σ} {x : Value × List ByteArray} {w0 w : World} (h : One (pairO O (OwO B)) B (s, x) w0 w) : w.ownsRow B 9 1 x.1 x.2.length (x.2.map Value.string) := (One.get (One.snd h)).choose_spec.1
-- it is grown
theorem ow_grown {σ : Type} {O : Thg σ} {B : Nat} {s : σ} {v u : Value} {xs ys : List ByteArray} {w0 w w' : World} (h : One (pairO O (OwO B)) B (s, (v, xs)) w0 w) (ho : w'.ownsRow B 9 1 u ys.length (ys.map Value.string)) (hg : w.grownBy w' v.ownBlock) (hb : u.ownBlock = v.ownBlock ∨ u.ownBlock = some w.heap.size) : One (pairO O (OwO B)) B (s, (u, ys)) w0 w' := by
  obtain ⟨F, hp, h5, h6, h7⟩ := h
  obtain ⟨F2, ⟨g1, g2⟩, g3⟩ := pair_snd hp
  obtain ⟨F', k1, k2⟩ := g3 (u, ys) (fun k => u.ownBlock = some k) w' ⟨ho, fun k => Iff.rfl⟩ ⟨⟨hg.os, hg.tape, hg.output, hg.size, fun k hk hn => hg.block k hk (fun e => hn ((g2 k).2 e.symm))⟩, fun k hk => by
    rcases hb with e | e
    · exact .inl ((g2 k).2 (by rw [← e]; exact hk))
    · rw [e] at hk; exact .inr (Nat.le_of_eq (Option.some.inj hk))⟩
  exact One.turn h5 h6 h7 k1 k2
set_option maxHeartbeats 1600000 in
theorem withoutC (v : Value) (xs : List ByteArray) (k : ByteArray) (w : World) (h : ReadsT w v xs) (hl : xs.length ≤ 5000) :
    Calls Try.prog 24 #[v, .string k] w fun e w' => ∃ u, e = .returned u ∧ w'.ownsRow w.heap.size 9 1 u (fl k xs).length ((fl k xs).map Value.string) ∧ Below w.heap.size w w' := by
  obtain ⟨i9, hi', hz0, hz1, hz2⟩ := info_parts hi9
  have HIN : Hid (_ ∧ _ ∧ _ ∧ _) := ⟨hi', hz0, hz1, hz2⟩
  clear hi' hz0 hz1 hz2
  have HRD : Hid (∀ w', Below w.heap.size w w' → ReadsT w' v xs) := fun w' hb => h.later hb
  obtain ⟨a, c, rfl, hc, _⟩ := rd_at h
  obtain ⟨n, HN⟩ : ∃ n, Hid (xs.length = n) := ⟨_, rfl⟩
  have HN5 : Hid (n ≤ 5000) := by rw [HN.out] at hl; exact hl
  have hn5 : (n : Int) ≤ 1000000 := by have := HN5.out; omega
  have HB0 : Hid (Below w.heap.size w w) := Below.refl _ _
  rw [HN.out]
  rw [HN.out] at HRD
  clear h hl hc
  go_enter Try.func24, Try.ntmps24
  go_wp2
  go_loopw [5, 6] (fun ov jv wr => ∃ j : Nat, j ≤ n ∧ jv = .int .i64 j ∧ Hid (wr.ownsRow w.heap.size 9 1 ov (fl k (xs.take j)).length ((fl k (xs.take j)).map Value.string) ∧ Below w.heap.size w wr)) (fun _ jv _ => (n - intOf jv).toNat)
  case atStart => exact ⟨0, Nat.zero_le _, rfl, World.ownsRow_nil _ _ _ _, HB0.out⟩
  case round =>
    obtain ⟨j, hj, rfl, HO⟩ := hrel
    obtain ⟨oa, oc, ho⟩ := own_formS HO.out.1
    subst ho
    by_cases hjn : j < n
    · have hjn' : (j : Int) < n := by omega
      have hjx : j < xs.length := by rw [HN.out]; exact hjn
      obtain ⟨a', c', e', _, hat⟩ := rd_at (HRD.out wr HO.out.2)
      have ea := (Value.slice.inj e').1
      clear e'
      subst ea
      obtain ⟨b, off, rfl, d⟩ := hat j hjx
      have HNX := fl_next k xs j hjx
      obtain ⟨x, hx0⟩ : ∃ x, xs[j] = x := ⟨_, rfl⟩
      rw [hx0] at d HNX
      clear hx0 hat
      by_cases hxk : x = k
      · have hx : (x.toList == k.toList) = true := by rw [beqL]; exact decide_eq_true hxk
        rw [if_pos hxk] at HNX
        have HE : Hid (fl k (xs.take (j + 1)) = fl k (xs.take j)) := HNX
        clear hxk HNX
        go_wp2
        go_roundw
        case rel => exact ⟨j + 1, by omega, by go_num, by rw [HE.out]; exact HO.out⟩
        case measure => simp [intOf]; omega
      · have hx : (x.toList == k.toList) = false := by rw [beqL]; exact decide_eq_false hxk
        rw [if_neg hxk] at HNX
        have HE : Hid (fl k (xs.take (j + 1)) = fl k (xs.take j) ++ [x]) := HNX
        obtain ⟨m, HM⟩ : ∃ m, Hid ((fl k (xs.take j)).length = m) := ⟨_, rfl⟩
        have hmx : Hid (m + 1 ≤ maxLen ∧ (m + 1) * 16 ≤ 140737488355328) := by
          have h1 := fl_len k (xs.take j)
          have h2 := List.length_take_le j xs
          have h3 := HM.out
          have h4 := HN5.out
          exact ⟨by unfold maxLen; omega, by omega⟩
        have HOa : Hid ((wr.alloc (.cells #[.string x] 9)).ownsRow w.heap.size 9 1 (.slice oa m oc) m ((fl k (xs.take j)).map Value.string)) := by have := HO.out.1.alloc (.cells #[.string x] 9); rw [HM.out] at this; exact this
        have HBa : Hid (Below w.heap.size w (wr.alloc (.cells #[.string x] 9)) ∧ w.heap.size ≤ (wr.alloc (.cells #[.string x] 9)).heap.size) := by
          have b := HO.out.2.alloc HO.out.2.size (.cells #[.string x] 9)
          exact ⟨b, b.size⟩
        rw [HM.out]
        clear hxk HNX
        go_wp2_with (first | (at_builtin; (refine wpList_append_own _ rfl _ _ 30 rfl w.heap.size 9 i9 (.string ByteArray.empty) 1 16 Try.underlying30 HIN.out.1 HIN.out.2.1 HIN.out.2.2.1 HIN.out.2.2.2 rfl (by decide) _ m _ rfl HOa.out ⟨wr.heap.size, 0, none⟩ 1 1 [.string x] rfl rfl (new_text _ _ _) (one_text _) hmx.out.1 hmx.out.2 HBa.out.2 ?_; intro k1 w3 ho hg hnn; have HO3 : Hid (World.ownsRow _ _ _ _ _ _ _) := ho; have HG3 : Hid (World.grownBy _ _ _) := hg; clear ho hg hnn)) | go_in)
        have REL : Hid (w3.ownsRow w.heap.size 9 1 k1 (fl k (xs.take (j + 1))).length ((fl k (xs.take (j + 1))).map Value.string) ∧ Below w.heap.size w w3) := by
          refine ⟨?_, below_grownBy HBa.out.1 HG3.out (Nat.le_refl _) (fun q hq => (HOa.out.lt q hq).1)⟩
          rw [HE.out]
          rw [List.length_append, List.map_append, HM.out]
          exact HO3.out
        go_roundw
        case rel => exact ⟨j + 1, by omega, by go_num, REL.out⟩
        case measure => simp [intOf]; omega
    · have hjn' : ¬ (j : Int) < n := by omega
      have HJ : Hid (xs.take j = xs) := List.take_of_length_le (by rw [HN.out]; omega)
      have HO2 := HO.out
      rw [HJ.out] at HO2
      have HO3 : Hid (_ ∧ _) := HO2
      clear HO2
      rw [HJ.out]
      go_wp2
      go_ret
      exact ⟨_, rfl, HO3.out.1, HO3.out.2⟩
end Go.Proofs.Ytjkkijeamcihiaa.lw
