import Derived.Test.YtjkkijeamcihiaaLt
namespace Go.Proofs.Ytjkkijeamcihiaa.ls
open Go.RowKit Go.PlainAid Go.Maps
open Go.Proofs.Ytjkkijeamcihiaa.cp Go.Proofs.Ytjkkijeamcihiaa.kp Go.Proofs.Ytjkkijeamcihiaa.ka Go.Proofs.Ytjkkijeamcihiaa.bn Go.Proofs.Ytjkkijeamcihiaa.ra Go.Proofs.Ytjkkijeamcihiaa.rb Go.Proofs.Ytjkkijeamcihiaa.rc Go.Proofs.Ytjkkijeamcihiaa.rd Go.Proofs.Ytjkkijeamcihiaa.re Go.Proofs.Ytjkkijeamcihiaa.rf Go.Proofs.Ytjkkijeamcihiaa.rg Go.Proofs.Ytjkkijeamcihiaa.rh Go.Proofs.Ytjkkijeamcihiaa.ri Go.Proofs.Ytjkkijeamcihiaa.rj Go.Proofs.Ytjkkijeamcihiaa.rk Go.Proofs.Ytjkkijeamcihiaa.sa Go.Proofs.Ytjkkijeamcihiaa.lz Go.Proofs.Ytjkkijeamcihiaa.la Go.Proofs.Ytjkkijeamcihiaa.lb Go.Proofs.Ytjkkijeamcihiaa.lc Go.Proofs.Ytjkkijeamcihiaa.ld Go.Proofs.Ytjkkijeamcihiaa.da Go.Proofs.Ytjkkijeamcihiaa.de Go.Proofs.Ytjkkijeamcihiaa.df Go.Proofs.Ytjkkijeamcihiaa.lt
set_option linter.unusedVariables false
set_option linter.unusedSimpArgs false
def UnO : Thg Unit where
  P _ F _ := ∀ k, ¬ F k
  keep := fun h _ _ => h
  lt := fun h k hk => absurd hk (h k)
theorem un0 (w : World) : One UnO w.heap.size () w w := ⟨fun _ => False, fun _ e => e, fun _ e => e.elim, Below.refl _ _, Nat.le_refl _⟩
theorem un1 {σ : Type} {O : Thg σ} {B : Nat} {s : σ} {w0 w : World} (h : One (pairO UnO O) B ((), s) w0 w) : One O B s w0 w := One.snd h
theorem four {α β γ δ : Type} {A : Thg α} {C : Thg β} {D : Thg γ} {E : Thg δ} {B : Nat} {a : α} {c : β} {d : γ} {e : δ} {w0 w : World} (h : One (pairO (pairO (pairO A C) D) E) B (((a, c), d), e) w0 w) : One (pairO (pairO A D) (pairO C E)) B ((a, d), (c, e)) w0 w := by
  obtain ⟨F, ⟨F1, F2, ⟨F3, F4, ⟨F5, F6, h1, h2, h3, h4⟩, h5, h6, h7⟩, h8, h9, h10⟩, h11, h12, h13⟩ := h
  have n56 := h3
  have n54 : ∀ k, F5 k → ¬ F4 k := fun k hk => h6 k ((h4 k).2 (.inl hk))
  have n64 : ∀ k, F6 k → ¬ F4 k := fun k hk => h6 k ((h4 k).2 (.inr hk))
  have n52 : ∀ k, F5 k → ¬ F2 k := fun k hk => h9 k ((h7 k).2 (.inl ((h4 k).2 (.inl hk))))
  have n62 : ∀ k, F6 k → ¬ F2 k := fun k hk => h9 k ((h7 k).2 (.inl ((h4 k).2 (.inr hk))))
  have n42 : ∀ k, F4 k → ¬ F2 k := fun k hk => h9 k ((h7 k).2 (.inr hk))
  refine ⟨fun k => (F5 k ∨ F4 k) ∨ (F6 k ∨ F2 k), ⟨fun k => F5 k ∨ F4 k, fun k => F6 k ∨ F2 k, ⟨F5, F4, h1, h5, n54, fun k => Iff.rfl⟩, ⟨F6, F2, h2, h8, n62, fun k => Iff.rfl⟩, ?_, fun k => Iff.rfl⟩, ?_, h12, h13⟩
  · rintro k (hk | hk) (hq | hq)
    · exact n56 k hk hq
    · exact n52 k hk hq
    · exact n64 k hq hk
    · exact n42 k hk hq
  · rintro k ((hk | hk) | (hk | hk))
    · exact h11 k ((h10 k).2 (.inl ((h7 k).2 (.inl ((h4 k).2 (.inl hk))))))
    · exact h11 k ((h10 k).2 (.inl ((h7 k).2 (.inr hk))))
    · exact h11 k ((h10 k).2 (.inl ((h7 k).2 (.inl ((h4 k).2 (.inr hk))))))
    · exact h11 k ((h10 k).2 (.inr hk))
def okM (m : Int) : Prop := 0 ≤ m ∧ m ≤ 4096
set_option maxRecDepth 8000 in
set_option maxHeartbeats 6400000 in
theorem script11 (p : Nat) (hp : p ≤ 4096) (q : Nat) (hq : q ≤ 4096) (v : Value) (l : List Opc) (w : World) (hr : ReadsC w v l) (hz : l.length * 32 ≤ 140737488351232) :
    Calls Try.prog 7 #[(.int .i64 ((p : Nat) : Int)), (.int .i64 ((q : Nat) : Int)), v] w fun e w' => e = .returned (.bool true) ∧ Below w.heap.size w w' := by
  obtain ⟨va, vc, hv⟩ : ∃ a c, v = .slice a l.length c := ⟨_, _, hr.choose_spec.choose_spec.1⟩
  have HRL : Hid (∀ w', Below w.heap.size w w' → ReadsC w' v l) := fun w' hb => rdC.keep (v := v) (l := l) hr (Kp.of_below (A := fun _ => False) hb) (fun _ _ _ e => e)
  have C1 : Hid (∀ w, Calls _ _ _ _ _) := fun w => cNew p hp w
  have C3 : Hid (∀ w, Calls _ _ _ _ _) := fun w => dNew p hp w
  have hp' : (p : Int) ≤ 4096 := by omega
  have C2 : Hid (∀ w, Calls _ _ _ _ _) := fun w => cNew q hq w
  have C4 : Hid (∀ w, Calls _ _ _ _ _) := fun w => dNew q hq w
  have hq' : (q : Int) ≤ 4096 := by omega
  have HU : Hid (One UnO w.heap.size () w w) := un0 w
  obtain ⟨N, HN⟩ : ∃ N, Hid (l.length = N) := ⟨_, rfl⟩
  rw [HN.out] at hv hz
  have hNb : (N : Int) ≤ 140737488351232 := by omega
  have HN62 : Hid (N < 4611686018427387000) := by show _ < _; omega
  subst hv
  clear hr hz hp hq
  unfold pt at *
  go_enter Try.func7, Try.ntmps7
  go_upto_region 2 with (first | (go_at_call 9; refine (C1.out _).mono ?_; rintro _ w1 ⟨rfl, hb, hpp, hf⟩; have O1 : Hid (One (pairO _ _) w.heap.size _ w w1) := One.put HU.out hpp hb hf; clear hb hpp hf) | go_in)
  go_upto_region 3 with (first | (go_at_call 9; refine (C2.out _).mono ?_; rintro _ w2 ⟨rfl, hb, hpp, hf⟩; have O2 : Hid (One (pairO _ _) w.heap.size _ w w2) := One.put O1.out hpp hb hf; clear hb hpp hf) | go_in)
  go_upto_region 4 with (first | (go_at_call 29; refine (C3.out _).mono ?_; rintro _ w3 ⟨rfl, hb, hpp, hf⟩; have O3 : Hid (One (pairO _ _) w.heap.size _ w w3) := One.put O2.out hpp hb hf; clear hb hpp hf) | go_in)
  go_upto_region 5 with (first | (go_at_call 29; refine (C4.out _).mono ?_; rintro _ w4 ⟨rfl, hb, hpp, hf⟩; have O4 : Hid (One (pairO _ _) w.heap.size _ w w4) := One.put O3.out hpp hb hf; clear hb hpp hf) | go_in)
  obtain ⟨ga, HGA⟩ : ∃ g, Hid (w.heap.size + 1 = g) := ⟨_, rfl⟩
  obtain ⟨ra, HRA⟩ : ∃ g, Hid (w2.heap.size = g) := ⟨_, rfl⟩
  rw [HGA.out, HRA.out]
  obtain ⟨gb, HGB⟩ : ∃ g, Hid (w1.heap.size + 1 = g) := ⟨_, rfl⟩
  obtain ⟨rb, HRB⟩ : ∃ g, Hid (w3.heap.size = g) := ⟨_, rfl⟩
  rw [HGB.out, HRB.out]
  have OO : Hid (One (pairO (CD ga w.heap.size ra) (CD gb w1.heap.size rb)) w.heap.size ((S0 p, S0 p), (S0 q, S0 q)) w w4) := by
    rw [← HGA.out, ← HRA.out, ← HGB.out, ← HRB.out]
    obtain ⟨F, ⟨F1, F2, ⟨F3, F4, ⟨F5, F6, ⟨F7, F8, g1, g2, g3, g4⟩, g5, g6, g7⟩, g8, g9, g10⟩, g11, g12, g13⟩, g14, g15, g16⟩ := O4.out
    exact four ⟨F, ⟨F1, F2, ⟨F3, F4, ⟨F8, F6, g2, g5, fun k hk => g6 k ((g4 k).2 (.inr hk)), fun k => ⟨fun hk => (by rcases (g7 k).1 hk with h | h; rcases (g4 k).1 h with h | h; exact absurd h (g1 k); exact .inl h; exact .inr h), fun hk => (g7 k).2 (hk.imp (fun h => (g4 k).2 (.inr h)) id)⟩⟩, g8, g9, g10⟩, g11, g12, g13⟩, g14, g15, g16⟩
  obtain ⟨ma, HMA⟩ : ∃ g, Hid (w.heap.size = g) := ⟨_, rfl⟩
  obtain ⟨mb, HMB⟩ : ∃ g, Hid (w1.heap.size = g) := ⟨_, rfl⟩
  obtain ⟨B, HB⟩ : ∃ g, Hid (w.heap.size = g) := ⟨_, rfl⟩
  rw [HMB.out] at OO
  have OO : Hid (One (pairO (CD ga ma ra) (CD gb mb rb)) B ((S0 p, S0 p), (S0 q, S0 q)) w w4) := by have := OO.out; rw [HMA.out] at this; rw [← HB.out, HMA.out]; exact this
  clear C1 C2 C3 C4 HU O1 O2 O3 O4
  go_wp2_with fail
  go_loopw [11] (fun iv wr => ∃ (i : Nat) (sa sb : St), i ≤ N ∧ iv = .int .i64 i ∧ Hid (One (pairO (CD ga ma ra) (CD gb mb rb)) B ((sa, sa), (sb, sb)) w wr) ∧ Hid (cntS sa ≤ i ∧ cntS sb ≤ i)) (fun iv _ => (N - intOf iv).toNat)
  case atStart => exact ⟨0, S0 p, S0 q, Nat.zero_le _, rfl, OO, Nat.le_refl _, Nat.le_refl _⟩
  case round =>
    obtain ⟨i, sa, sb, hiN, rfl, HO, HS⟩ := hrel
    by_cases hlt : i < N
    · have hlt' : (i : Int) < N := by omega
      have hil : i < l.length := by rw [HN.out]; exact hlt
      obtain ⟨o, ho⟩ : ∃ o, l[i]? = some o := ⟨_, List.getElem?_eq_getElem hil⟩
      have RD : Hid (∀ w', Below w.heap.size w w' → ∃ b off, va = some ⟨b, off, none⟩ ∧ w'.cell? ⟨b, off + i * 3, none⟩ = some (.int .i64 o.kind) ∧ w'.cell? ⟨b, off + i * 3 + 1, none⟩ = some (.int .i64 o.k) ∧ w'.cell? ⟨b, off + i * 3 + 2, none⟩ = some (.string o.v)) := by
        intro w' hb
        obtain ⟨a', c', e', h0 | ⟨b, off, e2, hc⟩⟩ := HRL.out w' hb
        · omega
        · have e3 := (Value.slice.inj e').1
          exact ⟨b, off, by rw [e3]; exact e2, hc i o ho⟩
      have HBL : Hid (∀ {x} w', One (pairO (CD ga ma ra) (CD gb mb rb)) B x w w' → Below w.heap.size w w') := fun w' h => by rw [HB.out]; exact One.below h
      obtain ⟨b, off, hva, d0, d1, d2⟩ := RD.out wr (HBL.out wr HO.out)
      have RD2 : Hid (∀ {x} w', One (pairO (CD ga ma ra) (CD gb mb rb)) B x w w' → w'.cell? ⟨b, off + i * 3, none⟩ = some (.int .i64 o.kind) ∧ w'.cell? ⟨b, off + i * 3 + 1, none⟩ = some (.int .i64 o.k) ∧ w'.cell? ⟨b, off + i * 3 + 2, none⟩ = some (.string o.v)) := fun w' h => by
        obtain ⟨b', off', e, qq⟩ := RD.out w' (HBL.out w' h)
        rw [hva] at e
        have e := Option.some.inj e
        rw [show b = b' from congrArg Addr.block e, show off = off' from congrArg Addr.off e]
        exact qq
      obtain ⟨kd, hkd⟩ : ∃ x, o.kind = x := ⟨_, rfl⟩
      obtain ⟨kk, hkk⟩ : ∃ x, o.k = x := ⟨_, rfl⟩
      obtain ⟨vv, hvv⟩ : ∃ x, o.v = x := ⟨_, rfl⟩
      rw [hkd, hkk, hvv] at RD2
      rw [hkd] at d0
      rw [hkk] at d1
      rw [hvv] at d2
      obtain ⟨h1, h2⟩ := HS.out
      have hN62 := HN62.out
      have ca : sa.hits + sa.misses + sa.gone ≤ i := h1
      have cb : sb.hits + sb.misses + sb.gone ≤ i := h2
      obtain ⟨ta, HTA⟩ : ∃ t, Hid (tellS sa kd kk vv = t) := ⟨_, rfl⟩
      obtain ⟨tb, HTB⟩ : ∃ t, Hid (tellS sb kd kk vv = t) := ⟨_, rfl⟩
      have CA : Hid (∀ w', One (pairO (CD ga ma ra) (CD gb mb rb)) B ((sa, sa), (sb, sb)) w w' → Calls Try.prog 30 #[.pointer (some ⟨ga, 0, none⟩), .pointer (some ⟨ra, 0, none⟩), .agg #[.int .i64 kd, .int .i64 kk, .string vv]] w' fun e w2 => e = .returned (.bool true) ∧ One (pairO (CD ga ma ra) (CD gb mb rb)) B ((ta, ta), (sb, sb)) w w2) := fun w' h => by
        rw [← HTA.out]
        exact One.step h (lift1 (fun F hp => textsC kd kk vv hp (by omega) (by omega) (by omega)))
      have CB : Hid (∀ w', One (pairO (CD ga ma ra) (CD gb mb rb)) B ((sa, sa), (sb, sb)) w w' → Calls Try.prog 30 #[.pointer (some ⟨gb, 0, none⟩), .pointer (some ⟨rb, 0, none⟩), .agg #[.int .i64 kd, .int .i64 kk, .string vv]] w' fun e w2 => e = .returned (.bool true) ∧ One (pairO (CD ga ma ra) (CD gb mb rb)) B ((sa, sa), (tb, tb)) w w2) := fun w' h => by
        rw [← HTB.out]
        exact One.step h (lift2 (fun F hp => textsC kd kk vv hp (by omega) (by omega) (by omega)))
      have CB2 : Hid (∀ w', One (pairO (CD ga ma ra) (CD gb mb rb)) B ((ta, ta), (sb, sb)) w w' → Calls Try.prog 30 #[.pointer (some ⟨gb, 0, none⟩), .pointer (some ⟨rb, 0, none⟩), .agg #[.int .i64 kd, .int .i64 kk, .string vv]] w' fun e w2 => e = .returned (.bool true) ∧ One (pairO (CD ga ma ra) (CD gb mb rb)) B ((ta, ta), (tb, tb)) w w2) := fun w' h => by
        rw [← HTB.out]
        exact One.step h (lift2 (fun F hp => textsC kd kk vv hp (by omega) (by omega) (by omega)))
      have k1 := (tell_cnt sa kd kk vv).1
      have k2 := (tell_cnt sb kd kk vv).1
      rw [HTA.out] at k1
      rw [HTB.out] at k2
      have HK : Hid ((cntS sa ≤ i + 1 ∧ cntS ta ≤ i + 1) ∧ (cntS sb ≤ i + 1 ∧ cntS tb ≤ i + 1)) := ⟨⟨by omega, by omega⟩, ⟨by omega, by omega⟩⟩
      subst hva
      clear RD HRL ho hkd hkk hvv h1 h2 ca cb k1 k2 HS HTA HTB hil HBL OO
      rcases (by omega : i % 3 = 0 ∨ i % 3 = 1 ∨ i % 3 = 2) with hm | hm | hm
      · have hmi : (i : Int) % 3 = 0 := by omega
        clear hm
        go_upto_region 12 with (first | (go_at_call 30; refine (CA.out _ HO.out).mono ?_; rintro _ w5 ⟨rfl, h5⟩; have H5 : Hid (One _ _ _ _ _) := h5; obtain ⟨q0, q1, q2⟩ := RD2.out _ h5; clear h5) | go_in)
        clear d0 d1 d2
        go_wp2_with (first | (go_at_call 30; refine (CB2.out _ H5.out).mono ?_; rintro _ w6 ⟨rfl, h6⟩; have H6 : Hid (One _ _ _ _ _) := h6; clear h6) | go_in)
        go_roundw
        case rel => exact ⟨i + 1, ta, tb, by omega, by go_num, H6, HK.out.1.2, HK.out.2.2⟩
        case measure => simp [intOf]; omega
      · have hmi : (i : Int) % 3 = 1 := by omega
        clear hm
        go_upto_region 12 with (first | (go_at_call 30; refine (CA.out _ HO.out).mono ?_; rintro _ w5 ⟨rfl, h5⟩; have H5 : Hid (One _ _ _ _ _) := h5; obtain ⟨q0, q1, q2⟩ := RD2.out _ h5; clear h5) | go_in)
        clear d0 d1 d2
        go_wp2
        go_roundw
        case rel => exact ⟨i + 1, ta, sb, by omega, by go_num, H5, HK.out.1.2, HK.out.2.1⟩
        case measure => simp [intOf]; omega
      · have hmi : (i : Int) % 3 = 2 := by omega
        clear hm
        go_wp2_with (first | (go_at_call 30; refine (CB.out _ HO.out).mono ?_; rintro _ w6 ⟨rfl, h6⟩; have H6 : Hid (One _ _ _ _ _) := h6; clear h6) | go_in)
        go_roundw
        case rel => exact ⟨i + 1, sa, tb, by omega, by go_num, H6, HK.out.1.1, HK.out.2.2⟩
        case measure => simp [intOf]; omega
    · have hlt' : ¬ (i : Int) < N := by omega
      have HS2 : Hid (cntS sa ≤ N ∧ cntS sb ≤ N) := ⟨by have := HS.out.1; omega, by have := HS.out.2; omega⟩
      clear HS OO
      go_wp2
      go_loopw [14] (fun jv wr => ∃ (j : Nat) (xa xb : St), j ≤ 3 ∧ jv = .int .i64 ((j : Int) + 6) ∧ Hid (One (pairO (CD ga ma ra) (CD gb mb rb)) B ((xa, xa), (xb, xb)) w wr) ∧ Hid (cntS xa ≤ N + j ∧ cntS xb ≤ N + j)) (fun jv _ => (9 - intOf jv).toNat)
      case atStart => exact ⟨0, sa, sb, by omega, rfl, HO, HS2.out⟩
      case round =>
        obtain ⟨j, xa, xb, hj, rfl, HO2, HS3⟩ := hrel
        by_cases hj3 : j < 3
        · have hj3' : (j : Int) + 6 ≤ 8 := by omega
          obtain ⟨h1, h2⟩ := HS3.out
          have hN62 := HN62.out
          have ca : xa.hits + xa.misses + xa.gone ≤ N + j := h1
          have cb : xb.hits + xb.misses + xb.gone ≤ N + j := h2
          obtain ⟨ta, HTA⟩ : ∃ t, Hid (tellS xa ((j : Int) + 6) 0 ⟨#[]⟩ = t) := ⟨_, rfl⟩
          obtain ⟨tb, HTB⟩ : ∃ t, Hid (tellS xb ((j : Int) + 6) 0 ⟨#[]⟩ = t) := ⟨_, rfl⟩
          have CA : Hid (Calls Try.prog 30 #[.pointer (some ⟨ga, 0, none⟩), .pointer (some ⟨ra, 0, none⟩), .agg #[.int .i64 ((j : Int) + 6), .int .i64 0, .string ⟨#[]⟩]] wr fun e w2 => e = .returned (.bool true) ∧ One (pairO (CD ga ma ra) (CD gb mb rb)) B ((ta, ta), (xb, xb)) w w2) := by
            rw [← HTA.out]
            exact One.step HO2.out (lift1 (fun F hp => textsC _ 0 ⟨#[]⟩ hp (by omega) (by omega) (by omega)))
          have CB : Hid (∀ w', One (pairO (CD ga ma ra) (CD gb mb rb)) B ((ta, ta), (xb, xb)) w w' → Calls Try.prog 30 #[.pointer (some ⟨gb, 0, none⟩), .pointer (some ⟨rb, 0, none⟩), .agg #[.int .i64 ((j : Int) + 6), .int .i64 0, .string ⟨#[]⟩]] w' fun e w2 => e = .returned (.bool true) ∧ One (pairO (CD ga ma ra) (CD gb mb rb)) B ((ta, ta), (tb, tb)) w w2) := fun w' h => by
            rw [← HTB.out]
            exact One.step h (lift2 (fun F hp => textsC _ 0 ⟨#[]⟩ hp (by omega) (by omega) (by omega)))
          have k1 := (tell_cnt xa ((j : Int) + 6) 0 ⟨#[]⟩).1
          have k2 := (tell_cnt xb ((j : Int) + 6) 0 ⟨#[]⟩).1
          rw [HTA.out] at k1
          rw [HTB.out] at k2
          have HK : Hid ((cntS xa ≤ N + (j + 1) ∧ cntS ta ≤ N + (j + 1)) ∧ (cntS xb ≤ N + (j + 1) ∧ cntS tb ≤ N + (j + 1))) := ⟨⟨by omega, by omega⟩, ⟨by omega, by omega⟩⟩
          clear h1 h2 ca cb k1 k2 HS3 HTA HTB hN62
          have FL : Hid True := trivial
          go_wp2_with (first | (go_at_call 30; have _ := FL; refine CA.out.mono ?_; rintro _ w5 ⟨rfl, h5⟩; have H5 : Hid (One _ _ _ _ _) := h5; clear h5 FL) | (go_at_call 30; refine (CB.out _ H5.out).mono ?_; rintro _ w6 ⟨rfl, h6⟩; have H6 : Hid (One _ _ _ _ _) := h6; clear h6) | go_in)
          go_roundw
          case rel => exact ⟨j + 1, ta, tb, by omega, by first | go_num | (congr 1; omega) | (simp; omega), H6, HK.out.1.2, HK.out.2.2⟩
          case measure => simp [intOf]; omega
        · have hj3' : ¬ (j : Int) + 6 ≤ 8 := by omega
          have HE : Hid (Below w.heap.size w wr) := by rw [HB.out]; exact One.below HO2.out
          go_wp2
          go_ret
          exact ⟨rfl, HE.out⟩
set_option maxRecDepth 8000 in
set_option maxHeartbeats 6400000 in
theorem script10 (p : Nat) (hp : p ≤ 4096) (other : Int) (hq : other < 0 ∨ 4096 < other) (v : Value) (l : List Opc) (w : World) (hr : ReadsC w v l) (hz : l.length * 32 ≤ 140737488351232) :
    Calls Try.prog 7 #[(.int .i64 ((p : Nat) : Int)), (.int .i64 other), v] w fun e w' => e = .returned (.bool true) ∧ Below w.heap.size w w' := by
  obtain ⟨va, vc, hv⟩ : ∃ a c, v = .slice a l.length c := ⟨_, _, hr.choose_spec.choose_spec.1⟩
  have HRL : Hid (∀ w', Below w.heap.size w w' → ReadsC w' v l) := fun w' hb => rdC.keep (v := v) (l := l) hr (Kp.of_below (A := fun _ => False) hb) (fun _ _ _ e => e)
  have C1 : Hid (∀ w, Calls _ _ _ _ _) := fun w => cNew p hp w
  have C3 : Hid (∀ w, Calls _ _ _ _ _) := fun w => dNew p hp w
  have hp' : (p : Int) ≤ 4096 := by omega
  have C2 : Hid (∀ w, Calls _ _ _ _ _) := fun w => Go.Proofs.Ytjkkijeamcihiaa.rk.newNo other hq w
  have C4 : Hid (∀ w, Calls _ _ _ _ _) := fun w => rNewNo other hq w
  have HU : Hid (One UnO w.heap.size () w w) := un0 w
  obtain ⟨N, HN⟩ : ∃ N, Hid (l.length = N) := ⟨_, rfl⟩
  rw [HN.out] at hv hz
  have hNb : (N : Int) ≤ 140737488351232 := by omega
  have HN62 : Hid (N < 4611686018427387000) := by show _ < _; omega
  subst hv
  clear hr hz hp hq
  unfold pt at *
  go_enter Try.func7, Try.ntmps7
  go_upto_region 2 with (first | (go_at_call 9; refine (C1.out _).mono ?_; rintro _ w1 ⟨rfl, hb, hpp, hf⟩; have O1 : Hid (One (pairO _ _) w.heap.size _ w w1) := One.put HU.out hpp hb hf; clear hb hpp hf) | go_in)
  go_upto_region 3 with (first | (go_at_call 9; refine (C2.out _).mono ?_; rintro _ wz ⟨rfl, hwz⟩; rw [hwz]; clear hwz) | go_in)
  go_upto_region 4 with (first | (go_at_call 29; refine (C3.out _).mono ?_; rintro _ w3 ⟨rfl, hb, hpp, hf⟩; have O3 : Hid (One (pairO _ _) w.heap.size _ w w3) := One.put O1.out hpp hb hf; clear hb hpp hf) | go_in)
  go_upto_region 5 with (first | (go_at_call 29; refine (C4.out _).mono ?_; rintro _ wz ⟨rfl, hwz⟩; rw [hwz]; clear hwz) | go_in)
  obtain ⟨ga, HGA⟩ : ∃ g, Hid (w.heap.size + 1 = g) := ⟨_, rfl⟩
  obtain ⟨ra, HRA⟩ : ∃ g, Hid (w1.heap.size = g) := ⟨_, rfl⟩
  rw [HGA.out, HRA.out]
  obtain ⟨ma, HMA⟩ : ∃ g, Hid (w.heap.size = g) := ⟨_, rfl⟩
  obtain ⟨B, HB⟩ : ∃ g, Hid (w.heap.size = g) := ⟨_, rfl⟩
  have OO : Hid (One (CD ga ma ra) B (S0 p, S0 p) w w3) := by
    rw [← HGA.out, ← HRA.out, ← HMA.out, ← HB.out]
    obtain ⟨F, ⟨F1, F2, ⟨F3, F4, g1, g2, g3, g4⟩, g5, g6, g7⟩, g14, g15, g16⟩ := O3.out
    exact ⟨F, ⟨F4, F2, g2, g5, fun k hk => g6 k ((g4 k).2 (.inr hk)), fun k => ⟨fun hk => (by rcases (g7 k).1 hk with h | h; rcases (g4 k).1 h with h | h; exact absurd h (g1 k); exact .inl h; exact .inr h), fun hk => (g7 k).2 (hk.imp (fun h => (g4 k).2 (.inr h)) id)⟩⟩, g14, g15, g16⟩
  clear C1 C2 C3 C4 HU O1 O3
  go_wp2_with fail
  go_loopw [11] (fun iv wr => ∃ (i : Nat) (sa sb : St), i ≤ N ∧ iv = .int .i64 i ∧ Hid (One (CD ga ma ra) B (sa, sa) w wr) ∧ Hid (cntS sa ≤ i ∧ cntS sb ≤ i)) (fun iv _ => (N - intOf iv).toNat)
  case atStart => exact ⟨0, S0 p, S0 0, Nat.zero_le _, rfl, OO, Nat.le_refl _, Nat.le_refl _⟩
  case round =>
    obtain ⟨i, sa, sb, hiN, rfl, HO, HS⟩ := hrel
    by_cases hlt : i < N
    · have hlt' : (i : Int) < N := by omega
      have hil : i < l.length := by rw [HN.out]; exact hlt
      obtain ⟨o, ho⟩ : ∃ o, l[i]? = some o := ⟨_, List.getElem?_eq_getElem hil⟩
      have RD : Hid (∀ w', Below w.heap.size w w' → ∃ b off, va = some ⟨b, off, none⟩ ∧ w'.cell? ⟨b, off + i * 3, none⟩ = some (.int .i64 o.kind) ∧ w'.cell? ⟨b, off + i * 3 + 1, none⟩ = some (.int .i64 o.k) ∧ w'.cell? ⟨b, off + i * 3 + 2, none⟩ = some (.string o.v)) := by
        intro w' hb
        obtain ⟨a', c', e', h0 | ⟨b, off, e2, hc⟩⟩ := HRL.out w' hb
        · omega
        · have e3 := (Value.slice.inj e').1
          exact ⟨b, off, by rw [e3]; exact e2, hc i o ho⟩
      have HBL : Hid (∀ {x} w', One (CD ga ma ra) B x w w' → Below w.heap.size w w') := fun w' h => by rw [HB.out]; exact One.below h
      obtain ⟨b, off, hva, d0, d1, d2⟩ := RD.out wr (HBL.out wr HO.out)
      have RD2 : Hid (∀ {x} w', One (CD ga ma ra) B x w w' → w'.cell? ⟨b, off + i * 3, none⟩ = some (.int .i64 o.kind) ∧ w'.cell? ⟨b, off + i * 3 + 1, none⟩ = some (.int .i64 o.k) ∧ w'.cell? ⟨b, off + i * 3 + 2, none⟩ = some (.string o.v)) := fun w' h => by
        obtain ⟨b', off', e, qq⟩ := RD.out w' (HBL.out w' h)
        rw [hva] at e
        have e := Option.some.inj e
        rw [show b = b' from congrArg Addr.block e, show off = off' from congrArg Addr.off e]
        exact qq
      obtain ⟨kd, hkd⟩ : ∃ x, o.kind = x := ⟨_, rfl⟩
      obtain ⟨kk, hkk⟩ : ∃ x, o.k = x := ⟨_, rfl⟩
      obtain ⟨vv, hvv⟩ : ∃ x, o.v = x := ⟨_, rfl⟩
      rw [hkd, hkk, hvv] at RD2
      rw [hkd] at d0
      rw [hkk] at d1
      rw [hvv] at d2
      obtain ⟨h1, h2⟩ := HS.out
      have hN62 := HN62.out
      have ca : sa.hits + sa.misses + sa.gone ≤ i := h1
      have cb : sb.hits + sb.misses + sb.gone ≤ i := h2
      obtain ⟨ta, HTA⟩ : ∃ t, Hid (tellS sa kd kk vv = t) := ⟨_, rfl⟩
      obtain ⟨tb, HTB⟩ : ∃ t, Hid (tellS sb kd kk vv = t) := ⟨_, rfl⟩
      have CA : Hid (∀ w', One (CD ga ma ra) B (sa, sa) w w' → Calls Try.prog 30 #[.pointer (some ⟨ga, 0, none⟩), .pointer (some ⟨ra, 0, none⟩), .agg #[.int .i64 kd, .int .i64 kk, .string vv]] w' fun e w2 => e = .returned (.bool true) ∧ One (CD ga ma ra) B (ta, ta) w w2) := fun w' h => by
        rw [← HTA.out]
        exact One.step h ((fun F hp => textsC kd kk vv hp (by omega) (by omega) (by omega)))
      have k1 := (tell_cnt sa kd kk vv).1
      have k2 := (tell_cnt sb kd kk vv).1
      rw [HTA.out] at k1
      rw [HTB.out] at k2
      have HK : Hid ((cntS sa ≤ i + 1 ∧ cntS ta ≤ i + 1) ∧ (cntS sb ≤ i + 1 ∧ cntS tb ≤ i + 1)) := ⟨⟨by omega, by omega⟩, ⟨by omega, by omega⟩⟩
      subst hva
      clear RD HRL ho hkd hkk hvv h1 h2 ca cb k1 k2 HS HTA HTB hil HBL OO
      rcases (by omega : i % 3 = 0 ∨ i % 3 = 1 ∨ i % 3 = 2) with hm | hm | hm
      · have hmi : (i : Int) % 3 = 0 := by omega
        clear hm
        go_upto_region 12 with (first | (go_at_call 30; refine (CA.out _ HO.out).mono ?_; rintro _ w5 ⟨rfl, h5⟩; have H5 : Hid (One _ _ _ _ _) := h5; obtain ⟨q0, q1, q2⟩ := RD2.out _ h5; clear h5) | go_in)
        clear d0 d1 d2
        go_wp2
        go_roundw
        case rel => exact ⟨i + 1, ta, sb, by omega, by go_num, H5, HK.out.1.2, HK.out.2.1⟩
        case measure => simp [intOf]; omega
      · have hmi : (i : Int) % 3 = 1 := by omega
        clear hm
        go_upto_region 12 with (first | (go_at_call 30; refine (CA.out _ HO.out).mono ?_; rintro _ w5 ⟨rfl, h5⟩; have H5 : Hid (One _ _ _ _ _) := h5; obtain ⟨q0, q1, q2⟩ := RD2.out _ h5; clear h5) | go_in)
        clear d0 d1 d2
        go_wp2
        go_roundw
        case rel => exact ⟨i + 1, ta, sb, by omega, by go_num, H5, HK.out.1.2, HK.out.2.1⟩
        case measure => simp [intOf]; omega
      · have hmi : (i : Int) % 3 = 2 := by omega
        clear hm
        go_wp2
        go_roundw
        case rel => exact ⟨i + 1, sa, sb, by omega, by go_num, HO, HK.out.1.1, HK.out.2.1⟩
        case measure => simp [intOf]; omega
    · have hlt' : ¬ (i : Int) < N := by omega
      have HS2 : Hid (cntS sa ≤ N ∧ cntS sb ≤ N) := ⟨by have := HS.out.1; omega, by have := HS.out.2; omega⟩
      clear HS OO
      go_wp2
      go_loopw [14] (fun jv wr => ∃ (j : Nat) (xa xb : St), j ≤ 3 ∧ jv = .int .i64 ((j : Int) + 6) ∧ Hid (One (CD ga ma ra) B (xa, xa) w wr) ∧ Hid (cntS xa ≤ N + j ∧ cntS xb ≤ N + j)) (fun jv _ => (9 - intOf jv).toNat)
      case atStart => exact ⟨0, sa, sb, by omega, rfl, HO, HS2.out⟩
      case round =>
        obtain ⟨j, xa, xb, hj, rfl, HO2, HS3⟩ := hrel
        by_cases hj3 : j < 3
        · have hj3' : (j : Int) + 6 ≤ 8 := by omega
          obtain ⟨h1, h2⟩ := HS3.out
          have hN62 := HN62.out
          have ca : xa.hits + xa.misses + xa.gone ≤ N + j := h1
          have cb : xb.hits + xb.misses + xb.gone ≤ N + j := h2
          obtain ⟨ta, HTA⟩ : ∃ t, Hid (tellS xa ((j : Int) + 6) 0 ⟨#[]⟩ = t) := ⟨_, rfl⟩
          obtain ⟨tb, HTB⟩ : ∃ t, Hid (tellS xb ((j : Int) + 6) 0 ⟨#[]⟩ = t) := ⟨_, rfl⟩
          have CA : Hid (Calls Try.prog 30 #[.pointer (some ⟨ga, 0, none⟩), .pointer (some ⟨ra, 0, none⟩), .agg #[.int .i64 ((j : Int) + 6), .int .i64 0, .string ⟨#[]⟩]] wr fun e w2 => e = .returned (.bool true) ∧ One (CD ga ma ra) B (ta, ta) w w2) := by
            rw [← HTA.out]
            exact One.step HO2.out ((fun F hp => textsC _ 0 ⟨#[]⟩ hp (by omega) (by omega) (by omega)))
          have k1 := (tell_cnt xa ((j : Int) + 6) 0 ⟨#[]⟩).1
          have k2 := (tell_cnt xb ((j : Int) + 6) 0 ⟨#[]⟩).1
          rw [HTA.out] at k1
          rw [HTB.out] at k2
          have HK : Hid ((cntS xa ≤ N + (j + 1) ∧ cntS ta ≤ N + (j + 1)) ∧ (cntS xb ≤ N + (j + 1) ∧ cntS tb ≤ N + (j + 1))) := ⟨⟨by omega, by omega⟩, ⟨by omega, by omega⟩⟩
          clear h1 h2 ca cb k1 k2 HS3 HTA HTB hN62
          go_wp2_with (first | (go_at_call 30; refine CA.out.mono ?_; rintro _ w5 ⟨rfl, h5⟩; have H5 : Hid (One _ _ _ _ _) := h5; clear h5) | go_in)
          go_roundw
          case rel => exact ⟨j + 1, ta, xb, by omega, by first | go_num | (congr 1; omega) | (simp; omega), H5, HK.out.1.2, HK.out.2.1⟩
          case measure => simp [intOf]; omega
        · have hj3' : ¬ (j : Int) + 6 ≤ 8 := by omega
          have HE : Hid (Below w.heap.size w wr) := by rw [HB.out]; exact One.below HO2.out
          go_wp2
          go_ret
          exact ⟨rfl, HE.out⟩
set_option maxRecDepth 8000 in
set_option maxHeartbeats 6400000 in
theorem script01 (most : Int) (hp : most < 0 ∨ 4096 < most) (q : Nat) (hq : q ≤ 4096) (v : Value) (l : List Opc) (w : World) (hr : ReadsC w v l) (hz : l.length * 32 ≤ 140737488351232) :
    Calls Try.prog 7 #[(.int .i64 most), (.int .i64 ((q : Nat) : Int)), v] w fun e w' => e = .returned (.bool true) ∧ Below w.heap.size w w' := by
  obtain ⟨va, vc, hv⟩ : ∃ a c, v = .slice a l.length c := ⟨_, _, hr.choose_spec.choose_spec.1⟩
  have HRL : Hid (∀ w', Below w.heap.size w w' → ReadsC w' v l) := fun w' hb => rdC.keep (v := v) (l := l) hr (Kp.of_below (A := fun _ => False) hb) (fun _ _ _ e => e)
  have C1 : Hid (∀ w, Calls _ _ _ _ _) := fun w => Go.Proofs.Ytjkkijeamcihiaa.rk.newNo most hp w
  have C3 : Hid (∀ w, Calls _ _ _ _ _) := fun w => rNewNo most hp w
  have C2 : Hid (∀ w, Calls _ _ _ _ _) := fun w => cNew q hq w
  have C4 : Hid (∀ w, Calls _ _ _ _ _) := fun w => dNew q hq w
  have hq' : (q : Int) ≤ 4096 := by omega
  have HU : Hid (One UnO w.heap.size () w w) := un0 w
  obtain ⟨N, HN⟩ : ∃ N, Hid (l.length = N) := ⟨_, rfl⟩
  rw [HN.out] at hv hz
  have hNb : (N : Int) ≤ 140737488351232 := by omega
  have HN62 : Hid (N < 4611686018427387000) := by show _ < _; omega
  subst hv
  clear hr hz hp hq
  unfold pt at *
  go_enter Try.func7, Try.ntmps7
  go_upto_region 2 with (first | (go_at_call 9; refine (C1.out _).mono ?_; rintro _ wz ⟨rfl, hwz⟩; rw [hwz]; clear hwz) | go_in)
  go_upto_region 3 with (first | (go_at_call 9; refine (C2.out _).mono ?_; rintro _ w2 ⟨rfl, hb, hpp, hf⟩; have O2 : Hid (One (pairO _ _) w.heap.size _ w w2) := One.put HU.out hpp hb hf; clear hb hpp hf) | go_in)
  go_upto_region 4 with (first | (go_at_call 29; refine (C3.out _).mono ?_; rintro _ wz ⟨rfl, hwz⟩; rw [hwz]; clear hwz) | go_in)
  go_upto_region 5 with (first | (go_at_call 29; refine (C4.out _).mono ?_; rintro _ w4 ⟨rfl, hb, hpp, hf⟩; have O4 : Hid (One (pairO _ _) w.heap.size _ w w4) := One.put O2.out hpp hb hf; clear hb hpp hf) | go_in)
  obtain ⟨gb, HGB⟩ : ∃ g, Hid (w.heap.size + 1 = g) := ⟨_, rfl⟩
  obtain ⟨rb, HRB⟩ : ∃ g, Hid (w2.heap.size = g) := ⟨_, rfl⟩
  rw [HGB.out, HRB.out]
  obtain ⟨mb, HMB⟩ : ∃ g, Hid (w.heap.size = g) := ⟨_, rfl⟩
  obtain ⟨B, HB⟩ : ∃ g, Hid (w.heap.size = g) := ⟨_, rfl⟩
  have OO : Hid (One (CD gb mb rb) B (S0 q, S0 q) w w4) := by
    rw [← HGB.out, ← HRB.out, ← HMB.out, ← HB.out]
    obtain ⟨F, ⟨F1, F2, ⟨F3, F4, g1, g2, g3, g4⟩, g5, g6, g7⟩, g14, g15, g16⟩ := O4.out
    exact ⟨F, ⟨F4, F2, g2, g5, fun k hk => g6 k ((g4 k).2 (.inr hk)), fun k => ⟨fun hk => (by rcases (g7 k).1 hk with h | h; rcases (g4 k).1 h with h | h; exact absurd h (g1 k); exact .inl h; exact .inr h), fun hk => (g7 k).2 (hk.imp (fun h => (g4 k).2 (.inr h)) id)⟩⟩, g14, g15, g16⟩
  clear C1 C2 C3 C4 HU O2 O4
  go_wp2_with fail
  go_loopw [11] (fun iv wr => ∃ (i : Nat) (sa sb : St), i ≤ N ∧ iv = .int .i64 i ∧ Hid (One (CD gb mb rb) B (sb, sb) w wr) ∧ Hid (cntS sa ≤ i ∧ cntS sb ≤ i)) (fun iv _ => (N - intOf iv).toNat)
  case atStart => exact ⟨0, S0 0, S0 q, Nat.zero_le _, rfl, OO, Nat.le_refl _, Nat.le_refl _⟩
  case round =>
    obtain ⟨i, sa, sb, hiN, rfl, HO, HS⟩ := hrel
    by_cases hlt : i < N
    · have hlt' : (i : Int) < N := by omega
      have hil : i < l.length := by rw [HN.out]; exact hlt
      obtain ⟨o, ho⟩ : ∃ o, l[i]? = some o := ⟨_, List.getElem?_eq_getElem hil⟩
      have RD : Hid (∀ w', Below w.heap.size w w' → ∃ b off, va = some ⟨b, off, none⟩ ∧ w'.cell? ⟨b, off + i * 3, none⟩ = some (.int .i64 o.kind) ∧ w'.cell? ⟨b, off + i * 3 + 1, none⟩ = some (.int .i64 o.k) ∧ w'.cell? ⟨b, off + i * 3 + 2, none⟩ = some (.string o.v)) := by
        intro w' hb
        obtain ⟨a', c', e', h0 | ⟨b, off, e2, hc⟩⟩ := HRL.out w' hb
        · omega
        · have e3 := (Value.slice.inj e').1
          exact ⟨b, off, by rw [e3]; exact e2, hc i o ho⟩
      have HBL : Hid (∀ {x} w', One (CD gb mb rb) B x w w' → Below w.heap.size w w') := fun w' h => by rw [HB.out]; exact One.below h
      obtain ⟨b, off, hva, d0, d1, d2⟩ := RD.out wr (HBL.out wr HO.out)
      have RD2 : Hid (∀ {x} w', One (CD gb mb rb) B x w w' → w'.cell? ⟨b, off + i * 3, none⟩ = some (.int .i64 o.kind) ∧ w'.cell? ⟨b, off + i * 3 + 1, none⟩ = some (.int .i64 o.k) ∧ w'.cell? ⟨b, off + i * 3 + 2, none⟩ = some (.string o.v)) := fun w' h => by
        obtain ⟨b', off', e, qq⟩ := RD.out w' (HBL.out w' h)
        rw [hva] at e
        have e := Option.some.inj e
        rw [show b = b' from congrArg Addr.block e, show off = off' from congrArg Addr.off e]
        exact qq
      obtain ⟨kd, hkd⟩ : ∃ x, o.kind = x := ⟨_, rfl⟩
      obtain ⟨kk, hkk⟩ : ∃ x, o.k = x := ⟨_, rfl⟩
      obtain ⟨vv, hvv⟩ : ∃ x, o.v = x := ⟨_, rfl⟩
      rw [hkd, hkk, hvv] at RD2
      rw [hkd] at d0
      rw [hkk] at d1
      rw [hvv] at d2
      obtain ⟨h1, h2⟩ := HS.out
      have hN62 := HN62.out
      have ca : sa.hits + sa.misses + sa.gone ≤ i := h1
      have cb : sb.hits + sb.misses + sb.gone ≤ i := h2
      obtain ⟨ta, HTA⟩ : ∃ t, Hid (tellS sa kd kk vv = t) := ⟨_, rfl⟩
      obtain ⟨tb, HTB⟩ : ∃ t, Hid (tellS sb kd kk vv = t) := ⟨_, rfl⟩
      have CB : Hid (∀ w', One (CD gb mb rb) B (sb, sb) w w' → Calls Try.prog 30 #[.pointer (some ⟨gb, 0, none⟩), .pointer (some ⟨rb, 0, none⟩), .agg #[.int .i64 kd, .int .i64 kk, .string vv]] w' fun e w2 => e = .returned (.bool true) ∧ One (CD gb mb rb) B (tb, tb) w w2) := fun w' h => by
        rw [← HTB.out]
        exact One.step h ((fun F hp => textsC kd kk vv hp (by omega) (by omega) (by omega)))
      have k1 := (tell_cnt sa kd kk vv).1
      have k2 := (tell_cnt sb kd kk vv).1
      rw [HTA.out] at k1
      rw [HTB.out] at k2
      have HK : Hid ((cntS sa ≤ i + 1 ∧ cntS ta ≤ i + 1) ∧ (cntS sb ≤ i + 1 ∧ cntS tb ≤ i + 1)) := ⟨⟨by omega, by omega⟩, ⟨by omega, by omega⟩⟩
      subst hva
      clear RD HRL ho hkd hkk hvv h1 h2 ca cb k1 k2 HS HTA HTB hil HBL OO
      rcases (by omega : i % 3 = 0 ∨ i % 3 = 1 ∨ i % 3 = 2) with hm | hm | hm
      · have hmi : (i : Int) % 3 = 0 := by omega
        clear hm
        go_wp2_with (first | (go_at_call 30; refine (CB.out _ HO.out).mono ?_; rintro _ w6 ⟨rfl, h6⟩; have H6 : Hid (One _ _ _ _ _) := h6; clear h6) | go_in)
        go_roundw
        case rel => exact ⟨i + 1, sa, tb, by omega, by go_num, H6, HK.out.1.1, HK.out.2.2⟩
        case measure => simp [intOf]; omega
      · have hmi : (i : Int) % 3 = 1 := by omega
        clear hm
        go_wp2
        go_roundw
        case rel => exact ⟨i + 1, sa, sb, by omega, by go_num, HO, HK.out.1.1, HK.out.2.1⟩
        case measure => simp [intOf]; omega
      · have hmi : (i : Int) % 3 = 2 := by omega
        clear hm
        go_wp2_with (first | (go_at_call 30; refine (CB.out _ HO.out).mono ?_; rintro _ w6 ⟨rfl, h6⟩; have H6 : Hid (One _ _ _ _ _) := h6; clear h6) | go_in)
        go_roundw
        case rel => exact ⟨i + 1, sa, tb, by omega, by go_num, H6, HK.out.1.1, HK.out.2.2⟩
        case measure => simp [intOf]; omega
    · have hlt' : ¬ (i : Int) < N := by omega
      have HS2 : Hid (cntS sa ≤ N ∧ cntS sb ≤ N) := ⟨by have := HS.out.1; omega, by have := HS.out.2; omega⟩
      clear HS OO
      go_wp2
      go_loopw [14] (fun jv wr => ∃ (j : Nat) (xa xb : St), j ≤ 3 ∧ jv = .int .i64 ((j : Int) + 6) ∧ Hid (One (CD gb mb rb) B (xb, xb) w wr) ∧ Hid (cntS xa ≤ N + j ∧ cntS xb ≤ N + j)) (fun jv _ => (9 - intOf jv).toNat)
      case atStart => exact ⟨0, sa, sb, by omega, rfl, HO, HS2.out⟩
      case round =>
        obtain ⟨j, xa, xb, hj, rfl, HO2, HS3⟩ := hrel
        by_cases hj3 : j < 3
        · have hj3' : (j : Int) + 6 ≤ 8 := by omega
          obtain ⟨h1, h2⟩ := HS3.out
          have hN62 := HN62.out
          have ca : xa.hits + xa.misses + xa.gone ≤ N + j := h1
          have cb : xb.hits + xb.misses + xb.gone ≤ N + j := h2
          obtain ⟨ta, HTA⟩ : ∃ t, Hid (tellS xa ((j : Int) + 6) 0 ⟨#[]⟩ = t) := ⟨_, rfl⟩
          obtain ⟨tb, HTB⟩ : ∃ t, Hid (tellS xb ((j : Int) + 6) 0 ⟨#[]⟩ = t) := ⟨_, rfl⟩
          have CB : Hid (∀ w', One (CD gb mb rb) B (xb, xb) w w' → Calls Try.prog 30 #[.pointer (some ⟨gb, 0, none⟩), .pointer (some ⟨rb, 0, none⟩), .agg #[.int .i64 ((j : Int) + 6), .int .i64 0, .string ⟨#[]⟩]] w' fun e w2 => e = .returned (.bool true) ∧ One (CD gb mb rb) B (tb, tb) w w2) := fun w' h => by
            rw [← HTB.out]
            exact One.step h ((fun F hp => textsC _ 0 ⟨#[]⟩ hp (by omega) (by omega) (by omega)))
          have k1 := (tell_cnt xa ((j : Int) + 6) 0 ⟨#[]⟩).1
          have k2 := (tell_cnt xb ((j : Int) + 6) 0 ⟨#[]⟩).1
          rw [HTA.out] at k1
          rw [HTB.out] at k2
          have HK : Hid ((cntS xa ≤ N + (j + 1) ∧ cntS ta ≤ N + (j + 1)) ∧ (cntS xb ≤ N + (j + 1) ∧ cntS tb ≤ N + (j + 1))) := ⟨⟨by omega, by omega⟩, ⟨by omega, by omega⟩⟩
          clear h1 h2 ca cb k1 k2 HS3 HTA HTB hN62
          go_wp2_with (first | (go_at_call 30; refine (CB.out _ HO2.out).mono ?_; rintro _ w6 ⟨rfl, h6⟩; have H6 : Hid (One _ _ _ _ _) := h6; clear h6) | go_in)
          go_roundw
          case rel => exact ⟨j + 1, xa, tb, by omega, by first | go_num | (congr 1; omega) | (simp; omega), H6, HK.out.1.1, HK.out.2.2⟩
          case measure => simp [intOf]; omega
        · have hj3' : ¬ (j : Int) + 6 ≤ 8 := by omega
          have HE : Hid (Below w.heap.size w wr) := by rw [HB.out]; exact One.below HO2.out
          go_wp2
          go_ret
          exact ⟨rfl, HE.out⟩
set_option maxRecDepth 8000 in
set_option maxHeartbeats 6400000 in
theorem script00 (most : Int) (hp : most < 0 ∨ 4096 < most) (other : Int) (hq : other < 0 ∨ 4096 < other) (v : Value) (l : List Opc) (w : World) (hr : ReadsC w v l) (hz : l.length * 32 ≤ 140737488351232) :
    Calls Try.prog 7 #[(.int .i64 most), (.int .i64 other), v] w fun e w' => e = .returned (.bool true) ∧ Below w.heap.size w w' := by
  obtain ⟨va, vc, hv⟩ : ∃ a c, v = .slice a l.length c := ⟨_, _, hr.choose_spec.choose_spec.1⟩
  have HRL : Hid (∀ w', Below w.heap.size w w' → ReadsC w' v l) := fun w' hb => rdC.keep (v := v) (l := l) hr (Kp.of_below (A := fun _ => False) hb) (fun _ _ _ e => e)
  have C1 : Hid (∀ w, Calls _ _ _ _ _) := fun w => Go.Proofs.Ytjkkijeamcihiaa.rk.newNo most hp w
  have C3 : Hid (∀ w, Calls _ _ _ _ _) := fun w => rNewNo most hp w
  have C2 : Hid (∀ w, Calls _ _ _ _ _) := fun w => Go.Proofs.Ytjkkijeamcihiaa.rk.newNo other hq w
  have C4 : Hid (∀ w, Calls _ _ _ _ _) := fun w => rNewNo other hq w
  have HU : Hid (One UnO w.heap.size () w w) := un0 w
  obtain ⟨N, HN⟩ : ∃ N, Hid (l.length = N) := ⟨_, rfl⟩
  rw [HN.out] at hv hz
  have hNb : (N : Int) ≤ 140737488351232 := by omega
  have HN62 : Hid (N < 4611686018427387000) := by show _ < _; omega
  subst hv
  clear hr hz hp hq
  unfold pt at *
  go_enter Try.func7, Try.ntmps7
  go_upto_region 2 with (first | (go_at_call 9; refine (C1.out _).mono ?_; rintro _ wz ⟨rfl, hwz⟩; rw [hwz]; clear hwz) | go_in)
  go_upto_region 3 with (first | (go_at_call 9; refine (C2.out _).mono ?_; rintro _ wz ⟨rfl, hwz⟩; rw [hwz]; clear hwz) | go_in)
  go_upto_region 4 with (first | (go_at_call 29; refine (C3.out _).mono ?_; rintro _ wz ⟨rfl, hwz⟩; rw [hwz]; clear hwz) | go_in)
  go_upto_region 5 with (first | (go_at_call 29; refine (C4.out _).mono ?_; rintro _ wz ⟨rfl, hwz⟩; rw [hwz]; clear hwz) | go_in)
  obtain ⟨B, HB⟩ : ∃ g, Hid (w.heap.size = g) := ⟨_, rfl⟩
  have OO : Hid (One UnO B () w w) := by rw [← HB.out]; exact HU.out
  clear C1 C2 C3 C4 HU
  go_wp2_with fail
  go_loopw [11] (fun iv wr => ∃ (i : Nat) (sa sb : St), i ≤ N ∧ iv = .int .i64 i ∧ Hid (One UnO B () w wr) ∧ Hid (cntS sa ≤ i ∧ cntS sb ≤ i)) (fun iv _ => (N - intOf iv).toNat)
  case atStart => exact ⟨0, S0 0, S0 0, Nat.zero_le _, rfl, OO, Nat.le_refl _, Nat.le_refl _⟩
  case round =>
    obtain ⟨i, sa, sb, hiN, rfl, HO, HS⟩ := hrel
    by_cases hlt : i < N
    · have hlt' : (i : Int) < N := by omega
      have hil : i < l.length := by rw [HN.out]; exact hlt
      obtain ⟨o, ho⟩ : ∃ o, l[i]? = some o := ⟨_, List.getElem?_eq_getElem hil⟩
      have RD : Hid (∀ w', Below w.heap.size w w' → ∃ b off, va = some ⟨b, off, none⟩ ∧ w'.cell? ⟨b, off + i * 3, none⟩ = some (.int .i64 o.kind) ∧ w'.cell? ⟨b, off + i * 3 + 1, none⟩ = some (.int .i64 o.k) ∧ w'.cell? ⟨b, off + i * 3 + 2, none⟩ = some (.string o.v)) := by
        intro w' hb
        obtain ⟨a', c', e', h0 | ⟨b, off, e2, hc⟩⟩ := HRL.out w' hb
        · omega
        · have e3 := (Value.slice.inj e').1
          exact ⟨b, off, by rw [e3]; exact e2, hc i o ho⟩
      have HBL : Hid (∀ {x} w', One UnO B x w w' → Below w.heap.size w w') := fun w' h => by rw [HB.out]; exact One.below h
      obtain ⟨b, off, hva, d0, d1, d2⟩ := RD.out wr (HBL.out wr HO.out)
      have RD2 : Hid (∀ {x} w', One UnO B x w w' → w'.cell? ⟨b, off + i * 3, none⟩ = some (.int .i64 o.kind) ∧ w'.cell? ⟨b, off + i * 3 + 1, none⟩ = some (.int .i64 o.k) ∧ w'.cell? ⟨b, off + i * 3 + 2, none⟩ = some (.string o.v)) := fun w' h => by
        obtain ⟨b', off', e, qq⟩ := RD.out w' (HBL.out w' h)
        rw [hva] at e
        have e := Option.some.inj e
        rw [show b = b' from congrArg Addr.block e, show off = off' from congrArg Addr.off e]
        exact qq
      obtain ⟨kd, hkd⟩ : ∃ x, o.kind = x := ⟨_, rfl⟩
      obtain ⟨kk, hkk⟩ : ∃ x, o.k = x := ⟨_, rfl⟩
      obtain ⟨vv, hvv⟩ : ∃ x, o.v = x := ⟨_, rfl⟩
      rw [hkd, hkk, hvv] at RD2
      rw [hkd] at d0
      rw [hkk] at d1
      rw [hvv] at d2
      obtain ⟨h1, h2⟩ := HS.out
      have hN62 := HN62.out
      have ca : sa.hits + sa.misses + sa.gone ≤ i := h1
      have cb : sb.hits + sb.misses + sb.gone ≤ i := h2
      obtain ⟨ta, HTA⟩ : ∃ t, Hid (tellS sa kd kk vv = t) := ⟨_, rfl⟩
      obtain ⟨tb, HTB⟩ : ∃ t, Hid (tellS sb kd kk vv = t) := ⟨_, rfl⟩
      have k1 := (tell_cnt sa kd kk vv).1
      have k2 := (tell_cnt sb kd kk vv).1
      rw [HTA.out] at k1
      rw [HTB.out] at k2
      have HK : Hid ((cntS sa ≤ i + 1 ∧ cntS ta ≤ i + 1) ∧ (cntS sb ≤ i + 1 ∧ cntS tb ≤ i + 1)) := ⟨⟨by omega, by omega⟩, ⟨by omega, by omega⟩⟩
      subst hva
      clear RD HRL ho hkd hkk hvv h1 h2 ca cb k1 k2 HS HTA HTB hil HBL OO
      rcases (by omega : i % 3 = 0 ∨ i % 3 = 1 ∨ i % 3 = 2) with hm | hm | hm
      · have hmi : (i : Int) % 3 = 0 := by omega
        clear hm
        go_wp2
        go_roundw
        case rel => exact ⟨i + 1, sa, sb, by omega, by go_num, HO, HK.out.1.1, HK.out.2.1⟩
        case measure => simp [intOf]; omega
      · have hmi : (i : Int) % 3 = 1 := by omega
        clear hm
        go_wp2
        go_roundw
        case rel => exact ⟨i + 1, sa, sb, by omega, by go_num, HO, HK.out.1.1, HK.out.2.1⟩
        case measure => simp [intOf]; omega
      · have hmi : (i : Int) % 3 = 2 := by omega
        clear hm
        go_wp2
        go_roundw
        case rel => exact ⟨i + 1, sa, sb, by omega, by go_num, HO, HK.out.1.1, HK.out.2.1⟩
        case measure => simp [intOf]; omega
    · have hlt' : ¬ (i : Int) < N := by omega
      have HS2 : Hid (cntS sa ≤ N ∧ cntS sb ≤ N) := ⟨by have := HS.out.1; omega, by have := HS.out.2; omega⟩
      clear HS OO
      go_wp2
      go_loopw [14] (fun jv wr => ∃ (j : Nat) (xa xb : St), j ≤ 3 ∧ jv = .int .i64 ((j : Int) + 6) ∧ Hid (One UnO B () w wr) ∧ Hid (cntS xa ≤ N + j ∧ cntS xb ≤ N + j)) (fun jv _ => (9 - intOf jv).toNat)
      case atStart => exact ⟨0, sa, sb, by omega, rfl, HO, HS2.out⟩
      case round =>
        obtain ⟨j, xa, xb, hj, rfl, HO2, HS3⟩ := hrel
        by_cases hj3 : j < 3
        · have hj3' : (j : Int) + 6 ≤ 8 := by omega
          obtain ⟨h1, h2⟩ := HS3.out
          have hN62 := HN62.out
          have ca : xa.hits + xa.misses + xa.gone ≤ N + j := h1
          have cb : xb.hits + xb.misses + xb.gone ≤ N + j := h2
          obtain ⟨ta, HTA⟩ : ∃ t, Hid (tellS xa ((j : Int) + 6) 0 ⟨#[]⟩ = t) := ⟨_, rfl⟩
          obtain ⟨tb, HTB⟩ : ∃ t, Hid (tellS xb ((j : Int) + 6) 0 ⟨#[]⟩ = t) := ⟨_, rfl⟩
          have k1 := (tell_cnt xa ((j : Int) + 6) 0 ⟨#[]⟩).1
          have k2 := (tell_cnt xb ((j : Int) + 6) 0 ⟨#[]⟩).1
          rw [HTA.out] at k1
          rw [HTB.out] at k2
          have HK : Hid ((cntS xa ≤ N + (j + 1) ∧ cntS ta ≤ N + (j + 1)) ∧ (cntS xb ≤ N + (j + 1) ∧ cntS tb ≤ N + (j + 1))) := ⟨⟨by omega, by omega⟩, ⟨by omega, by omega⟩⟩
          clear h1 h2 ca cb k1 k2 HS3 HTA HTB hN62
          go_wp2
          go_roundw
          case rel => exact ⟨j + 1, xa, xb, by omega, by first | go_num | (congr 1; omega) | (simp; omega), HO2, HK.out.1.1, HK.out.2.1⟩
          case measure => simp [intOf]; omega
        · have hj3' : ¬ (j : Int) + 6 ≤ 8 := by omega
          have HE : Hid (Below w.heap.size w wr) := by rw [HB.out]; exact One.below HO2.out
          go_wp2
          go_ret
          exact ⟨rfl, HE.out⟩
end Go.Proofs.Ytjkkijeamcihiaa.ls
