import Derived.Test.YtjkkijeamcihiaaDe
namespace Go.Proofs.Ytjkkijeamcihiaa.df
open Go.RowKit Go.PlainAid Go.Maps
open Go.Proofs.Ytjkkijeamcihiaa.cp Go.Proofs.Ytjkkijeamcihiaa.kp Go.Proofs.Ytjkkijeamcihiaa.ka Go.Proofs.Ytjkkijeamcihiaa.bn Go.Proofs.Ytjkkijeamcihiaa.ra Go.Proofs.Ytjkkijeamcihiaa.rc Go.Proofs.Ytjkkijeamcihiaa.re Go.Proofs.Ytjkkijeamcihiaa.rg Go.Proofs.Ytjkkijeamcihiaa.rk Go.Proofs.Ytjkkijeamcihiaa.sa Go.Proofs.Ytjkkijeamcihiaa.lz Go.Proofs.Ytjkkijeamcihiaa.lc Go.Proofs.Ytjkkijeamcihiaa.da Go.Proofs.Ytjkkijeamcihiaa.db Go.Proofs.Ytjkkijeamcihiaa.dd Go.Proofs.Ytjkkijeamcihiaa.de
open Go.Proofs.Ytjkkijeamcihiaa.rl (below_grownBy)
set_option linter.unusedVariables false
set_option linter.unusedSimpArgs false
section
variable {g : Nat} {kv vv : Value} {s : St} {w w' : World}
set_option maxHeartbeats 1600000 in
theorem rPut (k : K) (v : V) (h : Dc g kv vv s w) (nd : (keys s.l).Nodup) (hl : s.l.length ≤ s.most) (hmo : s.most ≤ 4096) (hg : s.gone < 4611686018427387904) : Calls Try.prog 43 #[pt ⟨g, 0, none⟩, .string k, .string v] w fun e w' => e = .returned (.tuple #[.string ((outS s k).getD emp), .bool (outS s k).isSome]) ∧ Rx g kv vv s (putS s k v) w w' := by
  unfold emp outS putS
  have c0 := h.c0
  have c1 := h.c1
  obtain ⟨n, HN⟩ : ∃ n, Hid (s.l.length = n) := ⟨_, rfl⟩
  have hn4 : (n : Int) ≤ 1000000 := by have := h.len; rw [HN.out] at this; omega
  obtain ⟨m, HM⟩ : ∃ n, Hid (s.most = n) := ⟨_, rfl⟩
  rcases found nd k with hf | ⟨i, hi, x, he, hf, her⟩
  · have C : Hid (Calls _ _ _ _ _) := placeNo h hf
    rw [hf]
    dsimp only
    by_cases hz : s.most = 0
    · rw [if_pos hz, if_pos hz]
      have c5 := h.c5
      have f5 := h.fz 5
      obtain ⟨z, HZ⟩ : ∃ y, Hid (s.gone = y) := ⟨_, rfl⟩
      have END : Hid (Rx g kv vv s { s with gone := s.gone + 1 } w (w.setCell ⟨g, 5, none⟩ (.int .i64 ((z : Int) + 1)))) := by
        have := rx_went (Rx.refl h) (z + 1)
        rw [HZ.out]; exact this
      rw [HZ.out] at c5 hg
      rw [hz] at c0
      clear h nd hf hz hl
      unfold pt at *
      go_enter Try.func43, Try.ntmps43
      go_wp2_with (first | (go_at_call 59; refine C.out.mono ?_; rintro _ wz ⟨rfl, hwz⟩; rw [hwz]; clear hwz) | go_in)
      go_ret2
      exact ⟨rfl, END.out⟩
    · rw [if_neg hz, if_neg hz]
      by_cases hlt : s.l.length < s.most
      · rw [if_pos hlt, if_pos hlt]
        have C3 : Hid (Calls _ _ _ _ _) := newestC k v h (by omega)
        obtain ⟨ka, kc, hkv⟩ := k_form h
        rw [HN.out] at hkv hlt
        rw [HM.out] at c0 hlt hz
        have hz' : ((m : Int) == 0) = false := by rw [beq_eq_false_iff_ne]; omega
        have hlt' : (n : Int) < m := by omega
        subst hkv
        clear h nd hf hz hl hmo
        unfold pt at *
        go_enter Try.func43, Try.ntmps43
        go_wp2_with (first | (go_at_call 59; refine C.out.mono ?_; rintro _ wz ⟨rfl, hwz⟩; rw [hwz]; clear hwz) | (go_at_call 61; refine C3.out.mono ?_; rintro _ w3 ⟨rfl, h3⟩; have H3 : Hid (Rx _ _ _ _ _ _ _) := h3; clear h3) | go_in)
        go_ret2
        exact ⟨rfl, H3.out⟩
      · rw [if_neg hlt, if_neg hlt]
        have hn0 : 0 < s.l.length := by omega
        have hi : s.l.length - 1 < s.l.length := by omega
        have C2 : Hid (Calls _ _ _ _ _) := outC h hi
        have hdl : s.l.eraseIdx (s.l.length - 1) = s.l.dropLast := List.eraseIdx_length_sub_one
        rw [hdl] at C2
        have hgl : s.l.getLast? = some s.l[s.l.length - 1] := by rw [List.getLast?_eq_getElem?, List.getElem?_eq_getElem hi]
        obtain ⟨b, off, c, e, _, dk⟩ := key_at h hi
        obtain ⟨x, hx⟩ : ∃ x, (s.l[s.l.length - 1]).1 = x := ⟨_, rfl⟩
        rw [hx] at dk
        rw [hgl]
        simp only [Option.map_some, hx]
        obtain ⟨z, HZ⟩ : ∃ y, Hid (s.gone = y) := ⟨_, rfl⟩
        have C3 : Hid (∀ w2, Rx g kv vv s { s with l := s.l.dropLast } w w2 → Calls Try.prog 61 #[pt ⟨g, 0, none⟩, .string k, .string v] w2 fun e w3 => e = .returned (.tuple #[]) ∧ ((w3.cell? ⟨g, 5, none⟩ = some (.int .i64 (z : Nat)) ∧ w3.frozen? ⟨g, 5, none⟩ = false) ∧ Rx g kv vv s { s with gone := s.gone + 1, l := (k, v) :: s.l.dropLast } w (w3.setCell ⟨g, 5, none⟩ (.int .i64 ((z : Int) + 1))))) := fun w2 X2 => by
          refine (rx_step X2 (fun kx vx hd => newestC k v hd (by show (s.l.dropLast).length ≤ 4099; rw [List.length_dropLast]; omega))).mono fun e w3 ⟨e1, X3⟩ => ⟨e1, ?_, ?_⟩
          · obtain ⟨kx, vx, d, _⟩ := X3
            exact ⟨by rw [← HZ.out]; exact d.c5, d.fz 5⟩
          · have := rx_went X3 (z + 1)
            rw [HZ.out]; exact this
        have hsub : ((s.l.length : Int) - 1) = ((s.l.length - 1 : Nat) : Int) := by omega
        obtain ⟨q, HQ⟩ : ∃ q, Hid (s.l.length - 1 = q) := ⟨_, rfl⟩
        rw [HQ.out] at dk C2 hsub
        rw [HN.out] at e hsub hlt hn0
        rw [HM.out] at c0 hlt hz
        rw [HZ.out] at hg
        have hq : q < n := by have := HQ.out; rw [HN.out] at this; omega
        have hz' : ((m : Int) == 0) = false := by rw [beq_eq_false_iff_ne]; omega
        have hlt' : ¬ n < m := hlt
        have hlt2 : ¬ (n : Int) < m := by omega
        subst e
        clear h nd hf hz hl hmo hdl hgl hi hx hlt
        unfold pt at *
        go_enter Try.func43, Try.ntmps43
        go_wp2_with (first | (go_at_call 59; refine C.out.mono ?_; rintro _ wz ⟨rfl, hwz⟩; rw [hwz]; clear hwz) | (go_at_call 60; refine C2.out.mono ?_; rintro _ w2 ⟨rfl, h2⟩; have H2 : Hid (Rx _ _ _ _ _ _ _) := h2; clear h2) | (go_at_call 61; refine (C3.out _ H2.out).mono ?_; rintro _ w3 ⟨rfl, ⟨y1, y2⟩, h3⟩; have H3 : Hid (Rx _ _ _ _ _ _ _) := h3; clear h3) | go_in)
        go_ret2
        exact ⟨rfl, H3.out⟩
  · have C : Hid (Calls _ _ _ _ _) := placeYes h hi (show (s.l[i]).1 = k by rw [he]) nd
    have C2 : Hid (Calls _ _ _ _ _) := outC h hi
    have C3 : Hid (∀ w2, Rx g kv vv s { s with l := s.l.eraseIdx i } w w2 → Calls Try.prog 61 #[pt ⟨g, 0, none⟩, .string k, .string v] w2 fun e w3 => e = .returned (.tuple #[]) ∧ Rx g kv vv s { s with l := (k, v) :: s.l.eraseIdx i } w w3) := fun w2 X2 => rx_step X2 (fun kx vx hd => newestC k v hd (by show (s.l.eraseIdx i).length ≤ 4099; have := List.length_eraseIdx_le s.l i; omega))
    have hii : (i : Int) ≤ 1000000 := by have := h.len; omega
    rw [hf]
    dsimp only
    rw [← her]
    clear h nd hf he her c0 c1
    unfold pt at *
    go_enter Try.func43, Try.ntmps43
    go_wp2_with (first | (go_at_call 59; refine C.out.mono ?_; rintro _ wz ⟨rfl, hwz⟩; rw [hwz]; clear hwz) | (go_at_call 60; refine C2.out.mono ?_; rintro _ w2 ⟨rfl, h2⟩; have H2 : Hid (Rx _ _ _ _ _ _ _) := h2; clear h2) | (go_at_call 61; refine (C3.out _ H2.out).mono ?_; rintro _ w3 ⟨rfl, h3⟩; have H3 : Hid (Rx _ _ _ _ _ _ _) := h3; clear h3) | go_in)
    go_ret2
    exact ⟨rfl, H3.out⟩
theorem rNew (m : Nat) (hm : m ≤ 4096) (w : World) : Calls Try.prog 29 #[.int .i64 (m : Nat)] w fun e w' => e = .returned (pt ⟨w.heap.size, 0, none⟩) ∧ Dc w.heap.size (.slice none 0 0) (.slice none 0 0) (S0 m) w' ∧ Below w.heap.size w w' := by
  have HD : Hid (Dc w.heap.size (.slice none 0 0) (.slice none 0 0) (S0 m) (w.alloc (.cells #[.int .i64 (m : Nat), .slice none 0 0, .slice none 0 0, .int .i64 0, .int .i64 0, .int .i64 0] 92)) ∧ Below w.heap.size w (w.alloc (.cells #[.int .i64 (m : Nat), .slice none 0 0, .slice none 0 0, .int .i64 0, .int .i64 0, .int .i64 0] 92))) := by
    have c : ∀ i u, (#[.int .i64 (m : Nat), .slice none 0 0, .slice none 0 0, .int .i64 0, .int .i64 0, .int .i64 0] : Array Value)[i]? = some u → (w.alloc (.cells #[.int .i64 (m : Nat), .slice none 0 0, .slice none 0 0, .int .i64 0, .int .i64 0, .int .i64 0] 92)).cell? ⟨w.heap.size, i, none⟩ = some u := fun i u hu => by rw [World.cell?_alloc_new]; exact hu
    exact ⟨⟨c 0 _ rfl, c 1 _ rfl, c 2 _ rfl, c 3 _ rfl, c 4 _ rfl, c 5 _ rfl, fun i => World.frozen?_alloc_new _ _ _ _, ⟨none, 0, rfl, Nat.le_refl _, .inl rfl⟩, ⟨none, 0, rfl, Nat.le_refl _, .inl rfl⟩, fun _ => rfl, fun _ => rfl, fun e => (by cases e), fun e => (by cases e), Nat.zero_le _⟩, (Below.refl _ _).alloc (Nat.le_refl _) _⟩
  have hm' : (m : Int) ≤ 4096 := by omega
  unfold pt
  go_enter Try.func29, Try.ntmps29
  go_wp2
  go_ret
  exact ⟨rfl, HD.out⟩
theorem rNewNo (m : Int) (hm : m < 0 ∨ 4096 < m) (w : World) : Calls Try.prog 29 #[.int .i64 m] w fun e w' => e = .returned (.pointer none) ∧ w' = w := by
  by_cases h0 : m < 0
  · clear hm
    go_enter Try.func29, Try.ntmps29
    go_wp2
    go_ret
    exact ⟨rfl, rfl⟩
  · have h1 : (4096 : Int) < m := by omega
    have h2 : decide (m < 0) = false := by simp; omega
    clear hm h0
    go_enter Try.func29, Try.ntmps29
    go_wp2
    go_ret
    exact ⟨rfl, rfl⟩
end
-- as a thing
def DcO (g : Nat) : Thg St where
  P s F w := ∃ kv vv, Dc g kv vv s w ∧ F g ∧ (∀ k, kv.ownBlock = some k → s.l ≠ [] → F k) ∧ (∀ k, vv.ownBlock = some k → s.l ≠ [] → F k) ∧ ∀ k, F k → k < w.heap.size
  keep := by
    rintro s F w w' A ⟨kv, vv, h, h1, h2, h3, h4⟩ k hn
    exact ⟨kv, vv, h.keep k (hn _ h1) (fun j hj hl => hn j (h2 j hj hl)) (fun j hj hl => hn j (h3 j hj hl)), h1, h2, h3, fun j hj => Nat.lt_of_lt_of_le (h4 j hj) k.size⟩
  lt := fun ⟨kv, vv, h, h1, h2, h3, h4⟩ k hk => h4 k hk
theorem rx_turn {g : Nat} {kv vv : Value} {s s' : St} {F : Nat → Prop} {w w' : World} (h1 : F g) (h2 : ∀ k, kv.ownBlock = some k → s.l ≠ [] → F k) (h3 : ∀ k, vv.ownBlock = some k → s.l ≠ [] → F k) (h4 : ∀ k, F k → k < w.heap.size) (x : Rx g kv vv s s' w w') : ∃ F', (DcO g).P s' F' w' ∧ Turn F F' w w' := by
  obtain ⟨kx, vx, d, kp, hh⟩ := x
  have lt : ∀ {x : Value} {l : List ByteArray} {k : Nat}, ReadsT w' x l → l ≠ [] → x.ownBlock = some k → k < w'.heap.size := by
    rintro x l k ⟨a, c, rfl, _, h0 | ⟨b, off, rfl, hc⟩⟩ hl hk
    · exact absurd (List.length_eq_zero_iff.1 h0) hl
    · have hk : b = k := Option.some.inj hk
      subst hk
      exact World.block_lt_of_cell? _ _ (hc 0 (List.length_pos_iff.2 hl))
  have kl : ∀ k, kx.ownBlock = some k → s'.l ≠ [] → k < w'.heap.size := fun k hk hl => lt d.ks (by unfold keys; simpa using hl) hk
  have vl : ∀ k, vx.ownBlock = some k → s'.l ≠ [] → k < w'.heap.size := fun k hk hl => lt d.vs (by unfold vals; simpa using hl) hk
  refine ⟨fun k => F k ∨ (w.heap.size ≤ k ∧ k < w'.heap.size), ⟨kx, vx, d, .inl h1, fun k hk hl => ?_, fun k hk hl => ?_, fun k hk => ?_⟩, kp.mono (fun k e => e ▸ h1), fun k hk => hk.imp id And.left⟩
  · rcases hh with ⟨rfl, rfl, e⟩ | ⟨n1, n2⟩
    · exact .inl (h2 k hk (e ▸ hl))
    · exact .inr ⟨n1 k hk, kl k hk hl⟩
  · rcases hh with ⟨rfl, rfl, e⟩ | ⟨n1, n2⟩
    · exact .inl (h3 k hk (e ▸ hl))
    · exact .inr ⟨n2 k hk, vl k hk hl⟩
  · rcases hk with h | h
    · exact Nat.lt_of_lt_of_le (h4 k h) kp.size
    · exact h.2
section
variable {g : Nat} {s s' : St} {F : Nat → Prop} {w : World}
theorem d_step {f : Nat} {args : Array Value} {r : Ending} (h : (DcO g).P s F w) (C : ∀ kv vv, Dc g kv vv s w → Calls Try.prog f args w fun e w' => e = r ∧ Rx g kv vv s s' w w') : Calls Try.prog f args w fun e w' => e = r ∧ ∃ F', (DcO g).P s' F' w' ∧ Turn F F' w w' := by
  obtain ⟨kv, vv, h, h1, h2, h3, h4⟩ := h
  exact (C kv vv h).mono fun e w' ⟨g1, g2⟩ => ⟨g1, rx_turn h1 h2 h3 h4 g2⟩
theorem dNew (m : Nat) (hm : m ≤ 4096) (w : World) : Calls Try.prog 29 #[.int .i64 (m : Nat)] w fun e w' => e = .returned (pt ⟨w.heap.size, 0, none⟩) ∧ Below w.heap.size w w' ∧ (DcO w.heap.size).P (S0 m) (fun k => k = w.heap.size) w' ∧ ∀ k, k = w.heap.size → w.heap.size ≤ k :=
  (rNew m hm w).mono fun e w' ⟨g1, g2, g3⟩ => ⟨g1, g3, ⟨_, _, g2, rfl, fun k hk => (by cases hk), fun k hk => (by cases hk), fun k e => e ▸ g2.lt⟩, fun k e => Nat.le_of_eq e.symm⟩
end
end Go.Proofs.Ytjkkijeamcihiaa.df
