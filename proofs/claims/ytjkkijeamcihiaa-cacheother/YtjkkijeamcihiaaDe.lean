import Derived.Test.YtjkkijeamcihiaaDd
namespace Go.Proofs.Ytjkkijeamcihiaa.de
open Go.RowKit Go.PlainAid Go.Maps
open Go.Proofs.Ytjkkijeamcihiaa.cp Go.Proofs.Ytjkkijeamcihiaa.kp Go.Proofs.Ytjkkijeamcihiaa.ka Go.Proofs.Ytjkkijeamcihiaa.bn Go.Proofs.Ytjkkijeamcihiaa.ra Go.Proofs.Ytjkkijeamcihiaa.rc Go.Proofs.Ytjkkijeamcihiaa.re Go.Proofs.Ytjkkijeamcihiaa.rg Go.Proofs.Ytjkkijeamcihiaa.rk Go.Proofs.Ytjkkijeamcihiaa.sa Go.Proofs.Ytjkkijeamcihiaa.lz Go.Proofs.Ytjkkijeamcihiaa.lc Go.Proofs.Ytjkkijeamcihiaa.da Go.Proofs.Ytjkkijeamcihiaa.db Go.Proofs.Ytjkkijeamcihiaa.dd
open Go.Proofs.Ytjkkijeamcihiaa.rl (below_grownBy)
set_option linter.unusedVariables false
set_option linter.unusedSimpArgs false
section
variable {g : Nat} {kv vv : Value} {s : St} {w w' : World}
theorem rx_step {s' s'' : St} {w1 : World} {f : Nat} {args : Array Value} {r : Ending} (x : Rx g kv vv s s' w w1) (C : ∀ kx vx, Dc g kx vx s' w1 → Calls Try.prog f args w1 fun e w2 => e = r ∧ Rx g kx vx s' s'' w1 w2) : Calls Try.prog f args w1 fun e w2 => e = r ∧ Rx g kv vv s s'' w w2 := by
  obtain ⟨kx, vx, h1, h2, h3⟩ := x
  refine (C kx vx h1).mono fun e w2 ⟨g1, ky, vy, y1, y2, y3⟩ => ⟨g1, ky, vy, y1, h2.trans y2, ?_⟩
  rcases y3 with ⟨rfl, rfl, e⟩ | ⟨n1, n2⟩
  · rcases h3 with ⟨rfl, rfl, e'⟩ | ⟨n1, n2⟩
    · exact .inl ⟨rfl, rfl, e.trans e'⟩
    · exact .inr ⟨n1, n2⟩
  · exact .inr ⟨fun k hk => Nat.le_trans h2.size (n1 k hk), fun k hk => Nat.le_trans h2.size (n2 k hk)⟩
theorem rx_went {s' : St} {w1 : World} (x : Rx g kv vv s s' w w1) (a : Nat) : Rx g kv vv s { s' with gone := a } w (w1.setCell ⟨g, 5, none⟩ (.int .i64 (a : Nat))) := by
  obtain ⟨kx, vx, h1, h2, h3⟩ := x
  exact ⟨kx, vx, Dc.went h1 a, Kp.trans (A := fun k => k = g) h2 (Kp.setCell _ _ _ _ rfl), h3⟩
theorem rx_hit (h : Dc g kv vv s w) (a : Nat) : Rx g kv vv s { s with hits := a } w (w.setCell ⟨g, 3, none⟩ (.int .i64 (a : Nat))) := ⟨kv, vv, Dc.hit h a, Kp.setCell _ _ _ _ rfl, .inl ⟨rfl, rfl, rfl⟩⟩
theorem rx_miss (h : Dc g kv vv s w) (a : Nat) : Rx g kv vv s { s with misses := a } w (w.setCell ⟨g, 4, none⟩ (.int .i64 (a : Nat))) := ⟨kv, vv, Dc.miss h a, Kp.setCell _ _ _ _ rfl, .inl ⟨rfl, rfl, rfl⟩⟩
theorem found (nd : (keys s.l).Nodup) (k : K) : fnd k s.l = none ∨ ∃ i, ∃ hi : i < s.l.length, ∃ v, s.l[i] = (k, v) ∧ fnd k s.l = some v ∧ s.l.eraseIdx i = rm k s.l := by
  cases hf : fnd k s.l with
  | none => exact .inl rfl
  | some v =>
    right
    obtain ⟨i, hi, e⟩ := List.getElem_of_mem (fnd_mem hf)
    exact ⟨i, hi, v, e, rfl, erase_rm nd hi (by rw [e])⟩
theorem rPeek (k : K) (h : Dc g kv vv s w) (nd : (keys s.l).Nodup) : Calls Try.prog 42 #[pt ⟨g, 0, none⟩, .string k] w fun e w' => e = .returned (.tuple #[.string ((fnd k s.l).getD emp), .bool (fnd k s.l).isSome]) ∧ w' = w := by
  unfold emp
  have c2 := h.c2
  rcases found nd k with hf | ⟨i, hi, v, he, hf, _⟩
  · have C : Hid (Calls _ _ _ _ _) := placeNo h hf
    rw [hf]
    clear h nd hf
    unfold pt at *
    go_enter Try.func42, Try.ntmps42
    go_wp2_with (first | (go_at_call 59; refine C.out.mono ?_; rintro _ wz ⟨rfl, hwz⟩; rw [hwz]; clear hwz) | go_in)
    go_ret2
    exact ⟨rfl, rfl⟩
  · have C : Hid (Calls _ _ _ _ _) := placeYes h hi (show (s.l[i]).1 = k by rw [he]) nd
    obtain ⟨b, off, c, e, _, dv⟩ := val_at h hi
    have hn4 : (s.l.length : Int) ≤ 1000000 := by have := h.len; omega
    have hii : (i : Int) < s.l.length := by omega
    rw [he] at dv
    rw [hf]
    subst e
    clear h nd hf he
    unfold pt at *
    go_enter Try.func42, Try.ntmps42
    go_wp2_with (first | (go_at_call 59; refine C.out.mono ?_; rintro _ wz ⟨rfl, hwz⟩; rw [hwz]; clear hwz) | go_in)
    go_ret2
    exact ⟨rfl, rfl⟩
theorem rGet (k : K) (h : Dc g kv vv s w) (nd : (keys s.l).Nodup) (hl : s.l.length ≤ 4096) (hh : s.hits < 4611686018427387904) (hm : s.misses < 4611686018427387904) : Calls Try.prog 41 #[pt ⟨g, 0, none⟩, .string k] w fun e w' => e = .returned (.tuple #[.string ((fnd k s.l).getD emp), .bool (fnd k s.l).isSome]) ∧ Rx g kv vv s (getS s k) w w' := by
  unfold emp getS
  rcases found nd k with hf | ⟨i, hi, v, he, hf, her⟩
  · have C : Hid (Calls _ _ _ _ _) := placeNo h hf
    obtain ⟨y, HY⟩ : ∃ y, Hid (s.misses = y) := ⟨_, rfl⟩
    have c4 := h.c4
    have f4 := h.fz 4
    rw [hf]
    have END : Hid (Rx g kv vv s { s with misses := s.misses + 1 } w (w.setCell ⟨g, 4, none⟩ (.int .i64 ((y : Int) + 1)))) := by
      have := rx_miss h (y + 1)
      rw [HY.out]; exact this
    rw [HY.out] at c4 hm
    clear h nd hf
    unfold pt at *
    go_enter Try.func41, Try.ntmps41
    go_wp2_with (first | (go_at_call 59; refine C.out.mono ?_; rintro _ wz ⟨rfl, hwz⟩; rw [hwz]; clear hwz) | go_in)
    go_ret2
    exact ⟨rfl, END.out⟩
  · have C : Hid (Calls _ _ _ _ _) := placeYes h hi (show (s.l[i]).1 = k by rw [he]) nd
    obtain ⟨x, HX⟩ : ∃ y, Hid (s.hits = y) := ⟨_, rfl⟩
    have c3 := h.c3
    have f3 := h.fz 3
    have h1 := Dc.hit h (x + 1)
    have X1 := rx_hit h (x + 1)
    have C2 : Hid (Calls _ _ _ _ _) := rx_step X1 (fun kx vx hd => outC (i := i) hd hi)
    have C3 : Hid (∀ w2, Rx g kv vv s { s with hits := x + 1, l := s.l.eraseIdx i } w w2 → Calls Try.prog 61 #[pt ⟨g, 0, none⟩, .string k, .string v] w2 fun e w3 => e = .returned (.tuple #[]) ∧ Rx g kv vv s { s with hits := x + 1, l := (k, v) :: s.l.eraseIdx i } w w3) := fun w2 X2 => rx_step X2 (fun kx vx hd => newestC k v hd (by show (s.l.eraseIdx i).length ≤ 4099; have := List.length_eraseIdx_le s.l i; omega))
    obtain ⟨b, off, c, e, _, dv⟩ := val_at h1 (j := i) hi
    have c2 : (w.setCell ⟨g, 3, none⟩ (.int .i64 ((x : Int) + 1))).cell? ⟨g, 2, none⟩ = some vv := h1.c2
    have hn4 : (s.l.length : Int) ≤ 1000000 := by have := h.len; omega
    have hii : (i : Int) < s.l.length := by omega
    have e : vv = .slice (some ⟨b, off, none⟩) s.l.length c := e
    have dv : (w.setCell ⟨g, 3, none⟩ (.int .i64 ((x : Int) + 1))).cell? ⟨b, off + i, none⟩ = some (.string v) := by
      have dv : (w.setCell ⟨g, 3, none⟩ (.int .i64 ((x : Int) + 1))).cell? ⟨b, off + i, none⟩ = some (Value.string (s.l[i]).2) := dv
      rw [he] at dv; exact dv
    have HE : Hid (({ s with hits := s.hits + 1, l := (k, v) :: rm k s.l } : St) = { s with hits := x + 1, l := (k, v) :: s.l.eraseIdx i }) := by rw [her, HX.out]; rfl
    rw [hf]
    dsimp only
    rw [HE.out]
    rw [HX.out] at c3 hh
    subst e
    clear h h1 X1 nd hf he her
    unfold pt at *
    go_enter Try.func41, Try.ntmps41
    go_wp2_with (first | (go_at_call 59; refine C.out.mono ?_; rintro _ wz ⟨rfl, hwz⟩; rw [hwz]; clear hwz) | (go_at_call 60; refine C2.out.mono ?_; rintro _ w2 ⟨rfl, h2⟩; have H2 : Hid (Rx _ _ _ _ _ _ _) := h2; clear h2) | (go_at_call 61; refine (C3.out _ H2.out).mono ?_; rintro _ w3 ⟨rfl, h3⟩; have H3 : Hid (Rx _ _ _ _ _ _ _) := h3; clear h3) | go_in)
    go_ret2
    exact ⟨rfl, H3.out⟩
theorem rDrop (k : K) (h : Dc g kv vv s w) (nd : (keys s.l).Nodup) : Calls Try.prog 44 #[pt ⟨g, 0, none⟩, .string k] w fun e w' => e = .returned (.bool (fnd k s.l).isSome) ∧ Rx g kv vv s (dropS s k) w w' := by
  unfold dropS
  rcases found nd k with hf | ⟨i, hi, v, he, hf, her⟩
  · have C : Hid (Calls _ _ _ _ _) := placeNo h hf
    have END : Hid (Rx g kv vv s s w w) := Rx.refl h
    rw [hf, rm_none hf]
    clear h nd hf
    unfold pt at *
    go_enter Try.func44, Try.ntmps44
    go_wp2_with (first | (go_at_call 59; refine C.out.mono ?_; rintro _ wz ⟨rfl, hwz⟩; rw [hwz]; clear hwz) | go_in)
    go_ret
    exact ⟨rfl, END.out⟩
  · have C : Hid (Calls _ _ _ _ _) := placeYes h hi (show (s.l[i]).1 = k by rw [he]) nd
    have C2 : Hid (Calls _ _ _ _ _) := outC h hi
    have hii : (i : Int) ≤ 1000000 := by have := h.len; omega
    rw [hf, ← her]
    clear h nd hf he her
    unfold pt at *
    go_enter Try.func44, Try.ntmps44
    go_wp2_with (first | (go_at_call 59; refine C.out.mono ?_; rintro _ wz ⟨rfl, hwz⟩; rw [hwz]; clear hwz) | (go_at_call 60; refine C2.out.mono ?_; rintro _ w2 ⟨rfl, h2⟩; have H2 : Hid (Rx _ _ _ _ _ _ _) := h2; clear h2) | go_in)
    go_ret
    exact ⟨rfl, H2.out⟩
theorem rClear (h : Dc g kv vv s w) : Calls Try.prog 45 #[pt ⟨g, 0, none⟩] w fun e w' => e = .returned (.tuple #[]) ∧ Rx g kv vv s (clearS s) w w' := by
  have c1 := h.c1
  have c2 := h.c2
  have f1 := h.fz 1
  have f2 := h.fz 2
  have END : Hid (Rx g kv vv s (clearS s) w ((w.setCell ⟨g, 1, none⟩ (.slice none 0 0)).setCell ⟨g, 2, none⟩ (.slice none 0 0))) := by
    refine ⟨_, _, Dc.lists (l' := []) h ⟨none, 0, rfl, Nat.le_refl _, .inl rfl⟩ ⟨none, 0, rfl, Nat.le_refl _, .inl rfl⟩ (fun _ => rfl) (fun _ => rfl) (fun e => (by cases e)) (fun e => (by cases e)) (Nat.zero_le _), Kp.trans (A := fun k => k = g) (Kp.setCell _ _ _ _ rfl) (Kp.setCell _ _ _ _ rfl), .inr ⟨fun k hk => (by cases hk), fun k hk => (by cases hk)⟩⟩
  clear h
  unfold pt
  go_enter Try.func45, Try.ntmps45
  go_wp2
  go_end0
  exact ⟨rfl, END.out⟩
theorem rLen (h : Dc g kv vv s w) : Calls Try.prog 46 #[pt ⟨g, 0, none⟩] w fun e w' => e = .returned (.int .i64 (s.l.length : Nat)) ∧ w' = w := by
  have c1 := h.c1
  obtain ⟨ka, kc, hkv⟩ := k_form h
  subst hkv
  clear h
  unfold pt
  go_enter Try.func46, Try.ntmps46
  go_wp2
  go_ret
  exact ⟨rfl, rfl⟩
theorem rCounts (h : Dc g kv vv s w) : Calls Try.prog 48 #[pt ⟨g, 0, none⟩] w fun e w' => e = .returned (.tuple #[.int .i64 (s.hits : Nat), .int .i64 (s.misses : Nat), .int .i64 (s.gone : Nat)]) ∧ Below w.heap.size w w' := by
  have c3 := h.c3
  have c4 := h.c4
  have c5 := h.c5
  have B : Hid (Below w.heap.size w w.drew) := (Below.refl _ w).drew
  clear h
  unfold pt
  go_enter Try.func48, Try.ntmps48
  go_wp2_with fail
  go_region
  go_wp2
  go_ret3
  exact ⟨rfl, B.out⟩
theorem rKeys (h : Dc g kv vv s w) : Calls Try.prog 47 #[pt ⟨g, 0, none⟩] w fun e w' => ∃ v, e = .returned v ∧ w'.ownsRow w.heap.size 9 1 v (keys s.l).length ((keys s.l).map Value.string) ∧ Below w.heap.size w w' := by
  have c1 := h.c1
  have HR : Hid (ReadsT w kv (keys s.l) ∧ (kv.ownBlock = none → kv = .slice none 0 0) ∧ (keys s.l).length ≤ 4100) := ⟨h.ks, h.kn, by unfold keys; rw [List.length_map]; exact h.len⟩
  have HB0 : Hid (Below w.heap.size w w) := Below.refl _ _
  clear h
  unfold pt
  go_enter Try.func47, Try.ntmps47
  go_wp2_with (first | (at_builtin; refine wpList_append_texts _ rfl _ _ rfl w.heap.size _ [] rfl (World.ownsRow_nil _ _ _ _) kv (keys s.l) rfl HR.out.1 HR.out.2.1 (by have := HR.out.2.2; unfold maxLen; simp only [List.length_nil]; omega) (by have := HR.out.2.2; simp only [List.length_nil]; omega) (Nat.le_refl _) ?_; intro k1 w3 ho hg hob; have HO3 : Hid (World.ownsRow _ _ _ _ _ _ _) := ho; have HB3 : Hid (Below _ _ _) := below_grownBy HB0.out hg (Nat.le_refl _) (fun j hj => by cases hj); clear ho hg hob) | go_in)
  go_ret
  exact ⟨_, rfl, HO3.out, HB3.out⟩
end
end Go.Proofs.Ytjkkijeamcihiaa.de
