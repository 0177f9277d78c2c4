import Derived.Test.YtlkkibiedlakfaaGreatYo
namespace Go.Proofs.YtlkkibiedlakfaaGreat.yp
open Go.RowKit Go.PlainAid Go.Maps Go.Shelf
open Go.Proofs.YtlkkibiedlakfaaGreat.ca Go.Proofs.YtlkkibiedlakfaaGreat.cb Go.Proofs.YtlkkibiedlakfaaGreat.cp Go.Proofs.YtlkkibiedlakfaaGreat.kp Go.Proofs.YtlkkibiedlakfaaGreat.ka Go.Proofs.YtlkkibiedlakfaaGreat.ya Go.Proofs.YtlkkibiedlakfaaGreat.yb Go.Proofs.YtlkkibiedlakfaaGreat.yc Go.Proofs.YtlkkibiedlakfaaGreat.yd Go.Proofs.YtlkkibiedlakfaaGreat.ye Go.Proofs.YtlkkibiedlakfaaGreat.yf Go.Proofs.YtlkkibiedlakfaaGreat.yo Go.Proofs.YtlkkibiedlakfaaGreat.sb Go.Proofs.YtlkkibiedlakfaaGreat.mc
set_option linter.unusedVariables false
set_option linter.unusedSimpArgs false
theorem mp_others {b g : Nat} {r : List Rec} {w w' : World} (h : Mp b r w) (hg : b ≠ g) (o : Lib.OthersKept 5 (some g) w w') : Mp b r w' := by
  obtain ⟨es, clock, hb, rest⟩ := h
  exact ⟨es, clock, o b _ hb (fun e => hg (Option.some.inj e)) (fun c fz e => by cases e), rest⟩
theorem own_others {B n g : Nat} {v : Value} {xs : List Value} {w w' : World} (h : w.ownsRow B 9 1 v n xs) (hg : v.ownBlock ≠ some g) (o : Lib.OthersKept 5 (some g) w w') : w'.ownsRow B 9 1 v n xs := by
  refine ⟨h.1, ?_⟩
  rcases h.2 with h2 | ⟨g', cap, cur, rfl, h2, h3, h4⟩
  · exact .inl h2
  · exact .inr ⟨g', cap, cur, rfl, h2, o g' _ h3 (fun e => hg (by rw [← e]; rfl)) (fun c fz e => by injection e with _ e _; revert e; decide), h4⟩
theorem isF_later {T u B b : Nat} {l : List Value} {w w' : World} (h : Lib.IsBuilderF T u B b l w) (k : Below w.heap.size w w') : Lib.IsBuilderF T u B b l w' := by
  have key : ∀ p, Lib.BuilderAtF T u B b p l w → Lib.BuilderAtF T u B b p l w' := by
    rintro p ⟨h1, v, h2, h3, h4⟩
    have hlt := (Array.getElem?_eq_some_iff.1 h2).1
    refine ⟨h1, v, (k.block _ hlt).trans h2, h3.kept (row := none) ⟨k.os, k.tape, k.output, k.size, fun i hi _ => k.block i hi⟩ (by by_cases e : v.ownBlock = none; exact .inl e; exact .inr e), h4⟩
  exact h.imp (key _) (key _)
theorem row_s {B n : Nat} {v : Value} {xs : List Value} {w : World} (o : w.ownsRow B 9 1 v n xs) (hn : 0 < n) : ∃ g c, v = .slice (some ⟨g, 0, none⟩) n c ∧ ∀ j, j < n → w.cell? ⟨g, j, none⟩ = xs[j]? := by
  rcases o.2 with ⟨_, h0⟩ | ⟨g, cap, cur, rfl, _, h3, h4, h5, h6, h7⟩
  · omega
  · refine ⟨g, cap, rfl, fun j hj => ?_⟩
    rw [cell_of_row _ _ j _ _ _ h3]
    have e : (cur.toList.take (n * 1))[j]? = xs[j]? := by rw [h7]
    rw [List.getElem?_take_of_lt (by omega)] at e
    rw [← e]; simp
def imageT (r : List Rec) : ByteArray := ⟨(imgB r).toArray⟩
set_option maxRecDepth 20000 in
set_option maxHeartbeats 6400000 in
theorem imageC {B g bn bd : Nat} {pv : Value} {s : S} {w : World} (h : Sr B g bn bd pv s w) (hsz : isz s.dur ≤ 140737488355000) :
    Calls Tryz.prog 29 #[.pointer (some ⟨g, 0, none⟩)] w fun e w' => e = .returned (.string (imageT s.dur)) ∧ Below w.heap.size w w' := by
  obtain ⟨r, HR⟩ : ∃ r, Hid (s.dur = r) := ⟨_, rfl⟩
  have M0 : Hid (Mp bd r w) := by rw [← HR.out]; exact h.md
  have OKr : Hid (OkR r ∧ Srt r) := by rw [← HR.out]; exact ⟨h.ok.dur, h.ok.srt⟩
  have hlr : r.length < 3518437208883 := by have := h.ok.len; rw [HR.out] at this; omega
  rw [HR.out] at hsz ⊢
  have c1 := h.row.c1
  have hg := h.row.lt
  have hbd := M0.out.lt
  have CO : Hid (∀ w, Calls _ _ _ _ _) := fun w => orNoneC g w
  obtain ⟨B0, HB⟩ : ∃ B0, B0 = w.heap.size := ⟨_, rfl⟩
  have FB : Hid (Bu w.heap.size w.heap.size [] (w.alloc (.cells #[.pointer none, .slice none 0 0] 127))) := (Lib.fresh_isBuilder 127 5 w).imp Lib.BuilderAtF.of Lib.BuilderAtF.of
  have B1 : Hid (Below w.heap.size w (w.alloc (.cells #[.pointer none, .slice none 0 0] 127))) := (Below.refl _ w).alloc (Nat.le_refl _) _
  have M1 : Hid (Mp bd r (w.alloc (.cells #[.pointer none, .slice none 0 0] 127))) := M0.out.keep (Kp.of_below (A := fun _ => False) B1.out) (fun e => e)
  have CW : Hid (Calls _ _ _ _ _) := writeStringC w.heap.size w.heap.size [] ⟨#[83]⟩ _ FB.out (by decide) (by simp)
  have hne : bd ≠ w.heap.size := by omega
  have CK : Hid (∀ w1, Mp bd r w1 → Calls _ _ _ _ _) := fun w1 m1 => keysM bd r ⟨#[]⟩ w1 m1 (by omega)
  have CKL : Hid (keysL ⟨#[]⟩ r = r.map (·.1)) := keysL_all r
  rw [CKL.out] at CK
  have hne0 : Hid (bd ≠ w.heap.size) := hne
  clear h hne hg
  go_enter Tryz.func29, Tryz.ntmps29
  go_upto_region 5 with (first | (go_at_call 51; refine (CO.out _).mono ?_; rintro _ _ ⟨rfl, hw⟩; rw [hw]; clear hw) | (go_at_call 76; refine CW.out.mono ?_; rintro _ w1 ⟨rfl, h1, h2, h3⟩; have U1 : Hid (Bu w.heap.size w.heap.size [83] w1) := h1; have L1 : Hid (Below w.heap.size w w1) := B1.out.trans h2; have N1 : Hid (Mp bd r w1) := mp_others M1.out hne0.out h3; clear h1 h2 h3) | (go_at_call 34; refine (CK.out _ N1.out).mono ?_; rintro _ w2 ⟨v, rfl, h1, h2⟩; have O2 : Hid (World.ownsRow _ _ _ _ _ _ _) := h1; have L2 : Hid (Below w1.heap.size w1 w2) := h2; clear h1 h2; obtain ⟨va, vc, hv⟩ := own_formS O2.out; subst hv) | go_in)
  have hw1 : w.heap.size < w1.heap.size := by
    have h1 := U1.out
    rcases h1 with ⟨_, v, h2, _⟩ | ⟨_, v, h2, _⟩ <;> exact (Array.getElem?_eq_some_iff.1 h2).1
  obtain ⟨n, HN⟩ : ∃ n, Hid (r.length = n) := ⟨_, rfl⟩
  have hrl : (r.map (·.1)).length = n := by rw [List.length_map, HN.out]
  have P2 : Hid (w2.ownsRow w1.heap.size 9 1 (.slice va n vc) n ((r.map (·.1)).map Value.string)) := by have := O2.out; rw [hrl] at this; exact this
  have HV : Hid (Value.ownBlock (.slice va n vc) ≠ some w.heap.size) := fun e => by have := (P2.out.lt _ e).1; omega
  have hn : n < 3518437208883 := by have := HN.out; omega
  simp only [List.length_map, HN.out]
  have ST : Hid (Bu w.heap.size w.heap.size (imgB (r.take 0)) w2 ∧ Below w.heap.size w w2 ∧ Mp bd r w2 ∧ w2.ownsRow w1.heap.size 9 1 (.slice va n vc) n ((r.map (·.1)).map Value.string)) := ⟨isF_later U1.out L2.out, L1.out.trans (L2.out.mono (Nat.le_of_lt hw1)), N1.out.keep (Kp.of_below (A := fun _ => False) L2.out) (fun e => e), P2.out⟩
  clear U1 L1 N1 O2 L2 P2 CW CK CO FB B1 M1 M0 hrl
  go_wp2_with fail
  go_loopw [16] (fun i wr => ∃ j : Nat, i = .int .i64 j ∧ j ≤ n ∧ Hid (Bu w.heap.size w.heap.size (imgB (r.take j)) wr ∧ Below w.heap.size w wr ∧ Mp bd r wr ∧ wr.ownsRow w1.heap.size 9 1 (.slice va n vc) n ((r.map (·.1)).map Value.string))) (fun i _ => (n - intOf i).toNat)
  case atStart => exact ⟨0, rfl, Nat.zero_le _, ST.out⟩
  case round =>
    clear ST
    obtain ⟨j, rfl, hj, HH⟩ := hrel
    by_cases hlt : j < n
    · have hlt' : (j : Int) < n := by omega
      obtain ⟨x, hx⟩ : ∃ x, r[j]? = some x := ⟨_, List.getElem?_eq_getElem (by have := HN.out; omega)⟩
      obtain ⟨q, c, e, hc⟩ := row_s HH.out.2.2.2 (by omega)
      injection e with e1 _ e2
      subst e1 e2
      have d0 : wr.cell? ⟨q, j, none⟩ = some (.string x.1) := by rw [hc j hlt]; simp [hx]
      have hxo := OKr.out.1 x (List.mem_of_getElem? hx)
      have hgx : rget x.1 r = some x.2 := (get_some OKr.out.2).2 (List.mem_of_getElem? hx)
      have hi1 := isz_at r j x hx
      have hi2 := isz_take r (j + 1)
      have hi3 := imgB_len (r.take j)
      obtain ⟨xk, xd⟩ := x
      simp only at d0 hxo hgx hi1
      have hB : w.heap.size ≤ wr.heap.size := HH.out.2.1.size
      have C1 : Hid (Calls _ _ _ _ _) := writePieceC w.heap.size w.heap.size (imgB (r.take j)) xk 1 wr HH.out.1 (by omega) (by omega) (by rw [hi3]; omega) hB
      have C2 : Hid (∀ w3, Bu w.heap.size w.heap.size (imgB (r.take j) ++ beN 1 xk.size 1 ++ bs xk) w3 → w.heap.size ≤ w3.heap.size → Calls _ _ _ _ _) := fun w3 h3 hs3 => writePieceC w.heap.size w.heap.size (imgB (r.take j) ++ beN 1 xk.size 1 ++ bs xk) xd 4 w3 h3 (by omega) (by omega) (by rw [List.length_append, List.length_append, hi3, beN_len, bs_len]; omega) hs3
      have F1 : Hid (∀ w3, Below w.heap.size wr w3 → Lib.OthersKept 5 (some w.heap.size) wr w3 → Below w.heap.size w w3 ∧ Mp bd r w3 ∧ w3.ownsRow w1.heap.size 9 1 (.slice (some ⟨q, 0, none⟩) n vc) n ((r.map (·.1)).map Value.string)) := fun w3 h1 h2 => ⟨HH.out.2.1.trans h1, mp_others HH.out.2.2.1 hne0.out h2, own_others HH.out.2.2.2 HV.out h2⟩
      have F2 : Hid (∀ w3 w4, (Below w.heap.size w w3 ∧ Mp bd r w3 ∧ w3.ownsRow w1.heap.size 9 1 (.slice (some ⟨q, 0, none⟩) n vc) n ((r.map (·.1)).map Value.string)) → Bu w.heap.size w.heap.size (imgB (r.take j) ++ beN 1 xk.size 1 ++ bs xk ++ beN 4 xd.size 4 ++ bs xd) w4 → Below w.heap.size w3 w4 → Lib.OthersKept 5 (some w.heap.size) w3 w4 → Bu w.heap.size w.heap.size (imgB (r.take (j + 1))) w4 ∧ Below w.heap.size w w4 ∧ Mp bd r w4 ∧ w4.ownsRow w1.heap.size 9 1 (.slice (some ⟨q, 0, none⟩) n vc) n ((r.map (·.1)).map Value.string)) := fun w3 w4 h0 hb h1 h2 => ⟨by rw [img_next r j _ hx]; unfold recB; simp only [List.append_assoc] at hb ⊢; exact hb, h0.1.trans h1, mp_others h0.2.1 hne0.out h2, own_others h0.2.2 HV.out h2⟩
      have hkm : xk.size ≤ maxLen := by unfold maxLen; omega
      have hfld : ∀ w : World, (Instr.field 117 (.agg #[.string xd]) 0).run Tryz.prog w = .ok (.string xd) w := fun w => by kernel_rfl
      clear HH hc hx hi1 hi2 hi3 hxo
      go_wp2_with (first | (go_at_call 77; refine C1.out.mono ?_; rintro _ w3 ⟨rfl, h1, h2, h3⟩; have G3 : Hid _ := F1.out w3 h2 h3; have U3 : Hid (Bu _ _ _ w3) := h1; clear h1 h2 h3 C1) | (at_lookup; refine wpList_look1 _ rfl _ _ rfl bd r rfl G3.out.2.1 xk xd rfl hkm hgx ?_) | (go_at_call 77; refine (C2.out _ U3.out G3.out.1.size).mono ?_; rintro _ w4 ⟨rfl, h1, h2, h3⟩; have G4 : Hid _ := F2.out w3 w4 G3.out h1 h2 h3; clear h1 h2 h3 C2) | go_in)
      go_roundw
      case rel => exact ⟨j + 1, by go_num, by omega, G4.out⟩
      case measure => simp [intOf]; omega
    · have hlt' : ¬ (j : Int) < n := by omega
      have hjn : j = n := by omega
      subst hjn
      have hB : w.heap.size ≤ wr.heap.size := HH.out.2.1.size
      have U5 : Hid (Bu w.heap.size w.heap.size (imgB r) wr) := by have := HH.out.1; rw [← HN.out, List.take_length] at this; exact this
      have CS : Hid (Calls Tryz.prog 78 #[.pointer (some ⟨w.heap.size, 0, none⟩)] wr fun e w' => e = .returned (.string (imageT r)) ∧ Below w.heap.size wr w') := (Any.Builder_String_any_f lays169 extra w.heap.size w.heap.size (imgB r) wr U5.out hB).mono fun e w' ⟨h1, _, h3⟩ => ⟨h1, h3⟩
      have HL : Hid (Below w.heap.size w wr) := HH.out.2.1
      clear HH U5
      go_wp2_with (go_at_call 78; refine CS.out.mono ?_; rintro _ w2 ⟨rfl, h1⟩; have F3 : Hid (Below w.heap.size wr w2) := h1; clear h1)
      go_ret
      exact ⟨rfl, HL.out.trans F3.out⟩
end Go.Proofs.YtlkkibiedlakfaaGreat.yp
