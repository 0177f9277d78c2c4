import Derived.Test.YtjkkijeamcihiaaLa
import Derived.Test.YtjkkijeamcihiaaBn
namespace Go.Proofs.Ytjkkijeamcihiaa.lb
open Go.RowKit Go.PlainAid Go.Maps
open Go.Proofs.Ytjkkijeamcihiaa.cp Go.Proofs.Ytjkkijeamcihiaa.kp Go.Proofs.Ytjkkijeamcihiaa.ka Go.Proofs.Ytjkkijeamcihiaa.bn Go.Proofs.Ytjkkijeamcihiaa.ra Go.Proofs.Ytjkkijeamcihiaa.rb Go.Proofs.Ytjkkijeamcihiaa.rc Go.Proofs.Ytjkkijeamcihiaa.rd Go.Proofs.Ytjkkijeamcihiaa.re Go.Proofs.Ytjkkijeamcihiaa.rf Go.Proofs.Ytjkkijeamcihiaa.rg Go.Proofs.Ytjkkijeamcihiaa.rh Go.Proofs.Ytjkkijeamcihiaa.ri Go.Proofs.Ytjkkijeamcihiaa.rj Go.Proofs.Ytjkkijeamcihiaa.rk Go.Proofs.Ytjkkijeamcihiaa.rl Go.Proofs.Ytjkkijeamcihiaa.sa Go.Proofs.Ytjkkijeamcihiaa.lz Go.Proofs.Ytjkkijeamcihiaa.la
set_option linter.unusedVariables false
set_option linter.unusedSimpArgs false
def tellS (s : St) (kd k : Int) (v : ByteArray) : St :=
  if kd = 1 then getS s (digS k) else if kd = 3 then putS s (digS k) v else if kd = 4 then dropS s (digS k) else if kd = 5 then clearS s else s
theorem tellC {g mb : Nat} {s : St} {F : Nat → Prop} {w : World} (kd k : Int) (v : ByteArray) (h : (ChO g mb).P s F w) (hh : s.hits < 4611686018427387904) (hm : s.misses < 4611686018427387904) (hg : s.gone < 4611686018427387904) :
    Calls Try.prog 27 #[pt ⟨g, 0, none⟩, .agg #[.int .i64 kd, .int .i64 k, .string v]] w fun e w' => e = .returned (.tuple #[]) ∧ ∃ F', (ChO g mb).P (tellS s kd k v) F' w' ∧ Turn F F' w w' := by
  obtain ⟨d, HD⟩ : ∃ d, Hid (digS k = d) := ⟨_, rfl⟩
  have CD : Hid (∀ w, Calls Try.prog 14 #[.int .i64 k] w fun e w' => e = .returned (.string d) ∧ w' = w) := fun w => by rw [← HD.out]; exact digitsC k w
  have hd : okK d := by rw [← HD.out]; exact digS_ok k
  obtain ⟨W, HW⟩ : ∃ W, Hid (w.alloc (.cells #[.int .i64 kd, .int .i64 k, .string v] 35) = W) := ⟨_, rfl⟩
  have B : Below w.heap.size w W := by rw [← HW.out]; exact (Below.refl _ _).alloc (Nat.le_refl _) _
  have h1 : (ChO g mb).P s F W := (ChO g mb).keep h (Kp.of_below (A := fun _ => False) B) (fun _ _ e => e)
  have T : Turn F F w W := Turn.of_below B
  have NIL : Hid (∀ w', Below W.heap.size W w' → ∃ F', (ChO g mb).P s F' w' ∧ Turn F F' w w') := fun w' hb => ⟨F, (ChO g mb).keep h1 (Kp.of_below (A := fun _ => False) hb) (fun _ _ e => e), T.trans (Turn.of_below hb)⟩
  have ON : Hid (∀ s' w', (∃ F', (ChO g mb).P s' F' w' ∧ Turn F F' W w') → ∃ F', (ChO g mb).P s' F' w' ∧ Turn F F' w w') := fun s' w' ⟨F', g1, g2⟩ => ⟨F', g1, T.trans g2⟩
  have NIL0 : Hid (Below W.heap.size W W) := Below.refl _ _
  have CG : Hid (Calls _ _ _ _ _) := cGet d h1 hd hh hm
  have CE : Hid (Calls _ _ _ _ _) := cPeek d h1 hd
  have CP : Hid (Calls _ _ _ _ _) := cPut d v h1 hd hg
  have CO : Hid (Calls _ _ _ _ _) := cDrop d h1 hd
  have CC : Hid (Calls _ _ _ _ _) := cClear h1
  have CL : Hid (Calls _ _ _ _ _) := cLen h1
  have CK : Hid (Calls _ _ _ _ _) := cKeys h1
  have CN : Hid (Calls _ _ _ _ _) := cCounts h1
  have w0 : W.cell? ⟨w.heap.size, 0, none⟩ = some (.int .i64 kd) := by rw [← HW.out, World.cell?_alloc_new]; rfl
  have w1 : W.cell? ⟨w.heap.size, 1, none⟩ = some (.int .i64 k) := by rw [← HW.out, World.cell?_alloc_new]; rfl
  have w2 : W.cell? ⟨w.heap.size, 2, none⟩ = some (.string v) := by rw [← HW.out, World.cell?_alloc_new]; rfl
  have hal : ∀ w', Hid (w' = w) → True := fun _ _ => trivial
  clear h h1 T B hal
  unfold pt at *
  by_cases e1 : kd = 1
  · subst e1
    rw [show tellS s 1 k v = getS s (digS k) from rfl, HD.out]
    go_enter Try.func27, Try.ntmps27
    go_upto_region 1 with fail
    rw [HW.out]
    go_wp2_with (first | (go_at_call 14; refine (CD.out _).mono ?_; rintro _ wd ⟨rfl, hwd⟩; rw [hwd]; clear hwd) | (go_at_call 19; refine CG.out.mono ?_; rintro _ w3 ⟨rfl, h1⟩; have H1 : Hid (∃ F', (ChO g mb).P _ F' _ ∧ Turn F F' w _) := ON.out _ _ h1; clear h1) | go_in)
    go_end0
    exact ⟨rfl, H1.out⟩
  by_cases e2 : kd = 2
  · subst e2
    rw [show tellS s 2 k v = s from rfl]
    clear e1
    go_enter Try.func27, Try.ntmps27
    go_upto_region 1 with fail
    rw [HW.out]
    go_wp2_with (first | (go_at_call 14; refine (CD.out _).mono ?_; rintro _ wd ⟨rfl, hwd⟩; rw [hwd]; clear hwd) | (go_at_call 18; refine CE.out.mono ?_; rintro _ w3 ⟨rfl, h1⟩; have H1 : Hid (∃ F', (ChO g mb).P _ F' _ ∧ Turn F F' w _) := NIL.out _ h1; clear h1) | go_in)
    go_end0
    exact ⟨rfl, H1.out⟩
  by_cases e3 : kd = 3
  · subst e3
    rw [show tellS s 3 k v = putS s (digS k) v from rfl, HD.out]
    clear e1 e2
    go_enter Try.func27, Try.ntmps27
    go_upto_region 1 with fail
    rw [HW.out]
    go_wp2_with (first | (go_at_call 14; refine (CD.out _).mono ?_; rintro _ wd ⟨rfl, hwd⟩; rw [hwd]; clear hwd) | (go_at_call 16; refine CP.out.mono ?_; rintro _ w3 ⟨rfl, h1⟩; have H1 : Hid (∃ F', (ChO g mb).P _ F' _ ∧ Turn F F' w _) := ON.out _ _ h1; clear h1) | go_in)
    go_end0
    exact ⟨rfl, H1.out⟩
  by_cases e4 : kd = 4
  · subst e4
    rw [show tellS s 4 k v = dropS s (digS k) from rfl, HD.out]
    clear e1 e2 e3
    go_enter Try.func27, Try.ntmps27
    go_upto_region 1 with fail
    rw [HW.out]
    go_wp2_with (first | (go_at_call 14; refine (CD.out _).mono ?_; rintro _ wd ⟨rfl, hwd⟩; rw [hwd]; clear hwd) | (go_at_call 23; refine CO.out.mono ?_; rintro _ w3 ⟨rfl, h1⟩; have H1 : Hid (∃ F', (ChO g mb).P _ F' _ ∧ Turn F F' w _) := ON.out _ _ h1; clear h1) | go_in)
    go_end0
    exact ⟨rfl, H1.out⟩
  by_cases e5 : kd = 5
  · subst e5
    rw [show tellS s 5 k v = clearS s from rfl]
    clear e1 e2 e3 e4
    go_enter Try.func27, Try.ntmps27
    go_upto_region 1 with fail
    rw [HW.out]
    go_wp2_with (first | (go_at_call 14; refine (CD.out _).mono ?_; rintro _ wd ⟨rfl, hwd⟩; rw [hwd]; clear hwd) | (go_at_call 25; refine CC.out.mono ?_; rintro _ w3 ⟨rfl, h1⟩; have H1 : Hid (∃ F', (ChO g mb).P _ F' _ ∧ Turn F F' w _) := ON.out _ _ h1; clear h1) | go_in)
    go_end0
    exact ⟨rfl, H1.out⟩
  by_cases e6 : kd = 6
  · subst e6
    rw [show tellS s 6 k v = s from rfl]
    clear e1 e2 e3 e4 e5
    go_enter Try.func27, Try.ntmps27
    go_upto_region 1 with fail
    rw [HW.out]
    go_wp2_with (first | (go_at_call 14; refine (CD.out _).mono ?_; rintro _ wd ⟨rfl, hwd⟩; rw [hwd]; clear hwd) | (go_at_call 22; refine CL.out.mono ?_; rintro _ w3 ⟨rfl, hw3⟩; rw [hw3]; clear hw3; have H1 : Hid (∃ F', (ChO g mb).P _ F' _ ∧ Turn F F' w _) := NIL.out _ NIL0.out) | go_in)
    go_end0
    exact ⟨rfl, H1.out⟩
  by_cases e7 : kd = 7
  · subst e7
    rw [show tellS s 7 k v = s from rfl]
    clear e1 e2 e3 e4 e5 e6
    go_enter Try.func27, Try.ntmps27
    go_upto_region 1 with fail
    rw [HW.out]
    go_wp2_with (first | (go_at_call 14; refine (CD.out _).mono ?_; rintro _ wd ⟨rfl, hwd⟩; rw [hwd]; clear hwd) | (go_at_call 21; refine CK.out.mono ?_; rintro _ w3 ⟨kv, rfl, ho, hb⟩; have H1 : Hid (∃ F', (ChO g mb).P _ F' _ ∧ Turn F F' w _) := NIL.out _ hb; clear ho hb) | go_in)
    go_end0
    exact ⟨rfl, H1.out⟩
  by_cases e8 : kd = 8
  · subst e8
    rw [show tellS s 8 k v = s from rfl]
    clear e1 e2 e3 e4 e5 e6 e7
    go_enter Try.func27, Try.ntmps27
    go_upto_region 1 with fail
    rw [HW.out]
    go_wp2_with (first | (go_at_call 14; refine (CD.out _).mono ?_; rintro _ wd ⟨rfl, hwd⟩; rw [hwd]; clear hwd) | (go_at_call 26; refine CN.out.mono ?_; rintro _ w3 ⟨rfl, h1⟩; have H1 : Hid (∃ F', (ChO g mb).P _ F' _ ∧ Turn F F' w _) := NIL.out _ h1; clear h1) | go_in)
    go_end0
    exact ⟨rfl, H1.out⟩
  have b1 : (kd == 1) = false := by simpa using e1
  have b2 : (kd == 2) = false := by simpa using e2
  have b3 : (kd == 3) = false := by simpa using e3
  have b4 : (kd == 4) = false := by simpa using e4
  have b5 : (kd == 5) = false := by simpa using e5
  have b6 : (kd == 6) = false := by simpa using e6
  have b7 : (kd == 7) = false := by simpa using e7
  have b8 : (kd == 8) = false := by simpa using e8
  have HT : Hid (tellS s kd k v = s) := by show _ = _; unfold tellS; rw [if_neg e1, if_neg e3, if_neg e4, if_neg e5]
  clear e1 e2 e3 e4 e5 e6 e7 e8
  go_enter Try.func27, Try.ntmps27
  go_upto_region 1 with fail
  rw [HW.out]
  go_wp2_with (first | (go_at_call 14; refine (CD.out _).mono ?_; rintro _ wd ⟨rfl, hwd⟩; rw [hwd]; clear hwd) | go_in)
  go_end0
  exact ⟨rfl, by rw [HT.out]; exact NIL.out _ NIL0.out⟩
end Go.Proofs.Ytjkkijeamcihiaa.lb
