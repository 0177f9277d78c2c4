import Derived.Test.YtjkkijeamcihiaaDf
import Derived.Test.YtjkkijeamcihiaaLd
namespace Go.Proofs.Ytjkkijeamcihiaa.lt
open Go.RowKit Go.PlainAid Go.Maps
open Go.Proofs.Ytjkkijeamcihiaa.cp Go.Proofs.Ytjkkijeamcihiaa.kp Go.Proofs.Ytjkkijeamcihiaa.ka Go.Proofs.Ytjkkijeamcihiaa.bn Go.Proofs.Ytjkkijeamcihiaa.ra Go.Proofs.Ytjkkijeamcihiaa.rb Go.Proofs.Ytjkkijeamcihiaa.rc Go.Proofs.Ytjkkijeamcihiaa.rd Go.Proofs.Ytjkkijeamcihiaa.re Go.Proofs.Ytjkkijeamcihiaa.rf Go.Proofs.Ytjkkijeamcihiaa.rg Go.Proofs.Ytjkkijeamcihiaa.rh Go.Proofs.Ytjkkijeamcihiaa.ri Go.Proofs.Ytjkkijeamcihiaa.rj Go.Proofs.Ytjkkijeamcihiaa.rk Go.Proofs.Ytjkkijeamcihiaa.sa Go.Proofs.Ytjkkijeamcihiaa.lz Go.Proofs.Ytjkkijeamcihiaa.la Go.Proofs.Ytjkkijeamcihiaa.lb Go.Proofs.Ytjkkijeamcihiaa.lc Go.Proofs.Ytjkkijeamcihiaa.ld Go.Proofs.Ytjkkijeamcihiaa.da Go.Proofs.Ytjkkijeamcihiaa.db Go.Proofs.Ytjkkijeamcihiaa.de Go.Proofs.Ytjkkijeamcihiaa.df
set_option linter.unusedVariables false
set_option linter.unusedSimpArgs false
def CD (g mb rg : Nat) : Thg (St × St) := pairO (ChO g mb) (DcO rg)
def Tn {σ : Type} (O : Thg σ) (F : Nat → Prop) (w : World) (s : σ) (w' : World) : Prop := ∃ F', O.P s F' w' ∧ Turn F F' w w'
theorem Tn.step {σ : Type} {O : Thg σ} {F : Nat → Prop} {w w1 : World} {s s' : σ} {f : Nat} {args : Array Value} {r : Ending} (h : Tn O F w s w1) (C : ∀ F, O.P s F w1 → Calls Try.prog f args w1 fun e w2 => e = r ∧ ∃ F', O.P s' F' w2 ∧ Turn F F' w1 w2) : Calls Try.prog f args w1 fun e w2 => e = r ∧ Tn O F w s' w2 := by
  obtain ⟨F1, h1, h2⟩ := h
  exact (C F1 h1).mono fun e w2 ⟨g1, F2, g2, g3⟩ => ⟨g1, F2, g2, h2.trans g3⟩
theorem Tn.later {σ : Type} {O : Thg σ} {F : Nat → Prop} {w w1 w2 : World} {s : σ} (h : Tn O F w s w1) (hb : Below w1.heap.size w1 w2) : Tn O F w s w2 := by
  obtain ⟨F1, h1, h2⟩ := h
  exact ⟨F1, O.keep h1 (Kp.of_below (A := fun _ => False) hb) (fun _ _ e => e), h2.trans (Turn.of_below hb)⟩
theorem tn_c {g mb rg : Nat} {F : Nat → Prop} {w w1 : World} {s t : St} (h : Tn (CD g mb rg) F w (s, t) w1) : ∃ F1, (ChO g mb).P s F1 w1 := by
  obtain ⟨F1, h1, _⟩ := h
  obtain ⟨F2, h2, _⟩ := pair_fst h1
  exact ⟨F2, h2⟩
theorem tn_d {g mb rg : Nat} {F : Nat → Prop} {w w1 : World} {s t : St} (h : Tn (CD g mb rg) F w (s, t) w1) : ∃ kv vv, Dc rg kv vv t w1 := by
  obtain ⟨F1, h1, _⟩ := h
  obtain ⟨F2, ⟨kv, vv, h2, _⟩, _⟩ := pair_snd h1
  exact ⟨kv, vv, h2⟩
set_option maxHeartbeats 3200000 in
theorem textsC {g mb rg : Nat} {s : St} {F : Nat → Prop} {w : World} (kd k : Int) (v : ByteArray) (h : (CD g mb rg).P (s, s) F w) (hh : s.hits < 4611686018427387904) (hm : s.misses < 4611686018427387904) (hg : s.gone < 4611686018427387904) :
    Calls Try.prog 30 #[pt ⟨g, 0, none⟩, pt ⟨rg, 0, none⟩, .agg #[.int .i64 kd, .int .i64 k, .string v]] w fun e w' => e = .returned (.bool true) ∧ ∃ F', (CD g mb rg).P (tellS s kd k v, tellS s kd k v) F' w' ∧ Turn F F' w w' := by
  obtain ⟨d, HD⟩ : ∃ d, Hid (digS k = d) := ⟨_, rfl⟩
  have CDg : Hid (∀ w, Calls Try.prog 14 #[.int .i64 k] w fun e w' => e = .returned (.string d) ∧ w' = w) := fun w => by rw [← HD.out]; exact digitsC k w
  have hd : okK d := by rw [← HD.out]; exact digS_ok k
  obtain ⟨W, HW⟩ : ∃ W, Hid (w.alloc (.cells #[.int .i64 kd, .int .i64 k, .string v] 35) = W) := ⟨_, rfl⟩
  have B : Below w.heap.size w W := by rw [← HW.out]; exact (Below.refl _ _).alloc (Nat.le_refl _) _
  have T0 : Hid (Tn (CD g mb rg) F w (s, s) W) := ⟨F, (CD g mb rg).keep h (Kp.of_below (A := fun _ => False) B) (fun _ _ e => e), Turn.of_below B⟩
  obtain ⟨F1, hc⟩ := tn_c T0.out
  have ok := cOk hc
  have nd := ok.nd
  have hl1 := ok.len
  have hl2 := ok.most
  have hl3 : s.l.length ≤ 4096 := Nat.le_trans hl1 hl2
  have PK : Hid (∀ {t : St} w1, Tn (CD g mb rg) F w (s, t) w1 → Calls Try.prog 18 #[pt ⟨g, 0, none⟩, .string d] w1 fun e w2 => e = .returned (.tuple #[.string ((fnd d s.l).getD emp), .bool (fnd d s.l).isSome]) ∧ Tn (CD g mb rg) F w (s, t) w2) := fun w1 t1 => (cPeek d (tn_c t1).choose_spec hd).mono fun e w2 ⟨g1, g2⟩ => ⟨g1, t1.later g2⟩
  have PR : Hid (∀ w1, Tn (CD g mb rg) F w (s, s) w1 → Calls Try.prog 42 #[pt ⟨rg, 0, none⟩, .string d] w1 fun e w2 => e = .returned (.tuple #[.string ((fnd d s.l).getD emp), .bool (fnd d s.l).isSome]) ∧ Tn (CD g mb rg) F w (s, s) w2) := fun w1 t1 => by
    obtain ⟨kv, vv, hd1⟩ := tn_d t1
    exact (rPeek d hd1 nd).mono fun e w2 ⟨g1, g2⟩ => ⟨g1, by rw [g2]; exact t1⟩
  have GK : Hid (∀ w1, Tn (CD g mb rg) F w (s, s) w1 → Calls Try.prog 19 #[pt ⟨g, 0, none⟩, .string d] w1 fun e w2 => e = .returned (.tuple #[.string ((fnd d s.l).getD emp), .bool (fnd d s.l).isSome]) ∧ Tn (CD g mb rg) F w (getS s d, s) w2) := fun w1 t1 => t1.step (lift1 (fun F h => cGet d h hd hh hm))
  have GR : Hid (∀ w1, Tn (CD g mb rg) F w (getS s d, s) w1 → Calls Try.prog 41 #[pt ⟨rg, 0, none⟩, .string d] w1 fun e w2 => e = .returned (.tuple #[.string ((fnd d s.l).getD emp), .bool (fnd d s.l).isSome]) ∧ Tn (CD g mb rg) F w (getS s d, getS s d) w2) := fun w1 t1 => t1.step (lift2 (fun F h => d_step h (fun kv vv hd1 => rGet d hd1 nd hl3 hh hm)))
  have UK : Hid (∀ w1, Tn (CD g mb rg) F w (s, s) w1 → Calls Try.prog 16 #[pt ⟨g, 0, none⟩, .string d, .string v] w1 fun e w2 => e = .returned (.tuple #[.string ((outS s d).getD emp), .bool (outS s d).isSome]) ∧ Tn (CD g mb rg) F w (putS s d v, s) w2) := fun w1 t1 => t1.step (lift1 (fun F h => cPut d v h hd hg))
  have UR : Hid (∀ w1, Tn (CD g mb rg) F w (putS s d v, s) w1 → Calls Try.prog 43 #[pt ⟨rg, 0, none⟩, .string d, .string v] w1 fun e w2 => e = .returned (.tuple #[.string ((outS s d).getD emp), .bool (outS s d).isSome]) ∧ Tn (CD g mb rg) F w (putS s d v, putS s d v) w2) := fun w1 t1 => t1.step (lift2 (fun F h => d_step h (fun kv vv hd1 => rPut d v hd1 nd hl1 hl2 hg)))
  have OK : Hid (∀ w1, Tn (CD g mb rg) F w (s, s) w1 → Calls Try.prog 23 #[pt ⟨g, 0, none⟩, .string d] w1 fun e w2 => e = .returned (.bool (fnd d s.l).isSome) ∧ Tn (CD g mb rg) F w (dropS s d, s) w2) := fun w1 t1 => t1.step (lift1 (fun F h => cDrop d h hd))
  have OR : Hid (∀ w1, Tn (CD g mb rg) F w (dropS s d, s) w1 → Calls Try.prog 44 #[pt ⟨rg, 0, none⟩, .string d] w1 fun e w2 => e = .returned (.bool (fnd d s.l).isSome) ∧ Tn (CD g mb rg) F w (dropS s d, dropS s d) w2) := fun w1 t1 => t1.step (lift2 (fun F h => d_step h (fun kv vv hd1 => rDrop d hd1 nd)))
  have CK : Hid (∀ w1, Tn (CD g mb rg) F w (s, s) w1 → Calls Try.prog 25 #[pt ⟨g, 0, none⟩] w1 fun e w2 => e = .returned (.tuple #[]) ∧ Tn (CD g mb rg) F w (clearS s, s) w2) := fun w1 t1 => t1.step (lift1 (fun F h => cClear h))
  have CR : Hid (∀ w1, Tn (CD g mb rg) F w (clearS s, s) w1 → Calls Try.prog 45 #[pt ⟨rg, 0, none⟩] w1 fun e w2 => e = .returned (.tuple #[]) ∧ Tn (CD g mb rg) F w (clearS s, clearS s) w2) := fun w1 t1 => t1.step (lift2 (fun F h => d_step h (fun kv vv hd1 => rClear hd1)))
  have LK : Hid (∀ w1, Tn (CD g mb rg) F w (s, s) w1 → Calls Try.prog 22 #[pt ⟨g, 0, none⟩] w1 fun e w2 => e = .returned (.int .i64 (s.l.length : Nat)) ∧ w2 = w1) := fun w1 t1 => cLen (tn_c t1).choose_spec
  have LR : Hid (∀ w1, Tn (CD g mb rg) F w (s, s) w1 → Calls Try.prog 46 #[pt ⟨rg, 0, none⟩] w1 fun e w2 => e = .returned (.int .i64 (s.l.length : Nat)) ∧ w2 = w1) := fun w1 t1 => by
    obtain ⟨kv, vv, hd1⟩ := tn_d t1
    exact rLen hd1
  have KK : Hid (∀ w1, Tn (CD g mb rg) F w (s, s) w1 → Calls Try.prog 21 #[pt ⟨g, 0, none⟩] w1 fun e w2 => ∃ x, e = .returned x ∧ ReadsT w2 x (keys s.l) ∧ Tn (CD g mb rg) F w (s, s) w2) := fun w1 t1 => (cKeys (tn_c t1).choose_spec).mono fun e w2 ⟨x, g1, g2, g3⟩ => ⟨x, g1, own_readsT g2, t1.later g3⟩
  have KR : Hid (∀ w1 x, Tn (CD g mb rg) F w (s, s) w1 → ReadsT w1 x (keys s.l) → Calls Try.prog 47 #[pt ⟨rg, 0, none⟩] w1 fun e w2 => ∃ y, e = .returned y ∧ ReadsT w2 x (keys s.l) ∧ ReadsT w2 y (keys s.l) ∧ Tn (CD g mb rg) F w (s, s) w2) := fun w1 x t1 hx => by
    obtain ⟨kv, vv, hd1⟩ := tn_d t1
    exact (rKeys hd1).mono fun e w2 ⟨y, g1, g2, g3⟩ => ⟨y, g1, hx.later g3, own_readsT g2, t1.later g3⟩
  have KS : Hid (∀ w1 x y, Tn (CD g mb rg) F w (s, s) w1 → ReadsT w1 x (keys s.l) → ReadsT w1 y (keys s.l) → Calls Try.prog 20 #[x, y] w1 fun e w2 => e = .returned (.bool true) ∧ Tn (CD g mb rg) F w (s, s) w2) := fun w1 x y t1 hx hy => by
    refine (same x y (keys s.l) (keys s.l) w1 hx hy (by unfold keys; rw [List.length_map]; omega)).mono fun e w2 ⟨g1, m, g2⟩ => ⟨by rw [g1, decide_eq_true rfl], t1.later ?_⟩
    rw [g2]
    exact ⟨rfl, rfl, rfl, Nat.le_refl _, fun _ _ => rfl⟩
  have NK : Hid (∀ w1, Tn (CD g mb rg) F w (s, s) w1 → Calls Try.prog 26 #[pt ⟨g, 0, none⟩] w1 fun e w2 => e = .returned (.tuple #[.int .i64 (s.hits : Nat), .int .i64 (s.misses : Nat), .int .i64 (s.gone : Nat)]) ∧ Tn (CD g mb rg) F w (s, s) w2) := fun w1 t1 => (cCounts (tn_c t1).choose_spec).mono fun e w2 ⟨g1, g2⟩ => ⟨g1, t1.later g2⟩
  have NR : Hid (∀ w1, Tn (CD g mb rg) F w (s, s) w1 → Calls Try.prog 48 #[pt ⟨rg, 0, none⟩] w1 fun e w2 => e = .returned (.tuple #[.int .i64 (s.hits : Nat), .int .i64 (s.misses : Nat), .int .i64 (s.gone : Nat)]) ∧ Tn (CD g mb rg) F w (s, s) w2) := fun w1 t1 => by
    obtain ⟨kv, vv, hd1⟩ := tn_d t1
    exact (rCounts hd1).mono fun e w2 ⟨g1, g2⟩ => ⟨g1, t1.later g2⟩
  have w0 : W.cell? ⟨w.heap.size, 0, none⟩ = some (.int .i64 kd) := by rw [← HW.out, World.cell?_alloc_new]; rfl
  have w1 : W.cell? ⟨w.heap.size, 1, none⟩ = some (.int .i64 k) := by rw [← HW.out, World.cell?_alloc_new]; rfl
  have w2 : W.cell? ⟨w.heap.size, 2, none⟩ = some (.string v) := by rw [← HW.out, World.cell?_alloc_new]; rfl
  -- the op's own block stays
  have w3 : Hid (∀ {x : St × St} w1, Tn (CD g mb rg) F w x w1 → w1.cell? ⟨w.heap.size, 2, none⟩ = some (.string v) ∨ True) := fun w1 _ => .inr trivial
  have HB : Hid (∀ (u : St), Tn (CD g mb rg) F W (s, s) W) := fun u => ⟨F, (CD g mb rg).keep h (Kp.of_below (A := fun _ => False) B) (fun _ _ e => e), Turn.refl _ _⟩
  have UKw : Hid (Calls Try.prog 16 #[pt ⟨g, 0, none⟩, .string d, .string v] W fun e w2 => e = .returned (.tuple #[.string ((outS s d).getD emp), .bool (outS s d).isSome]) ∧ Tn (CD g mb rg) F w (putS s d v, s) w2 ∧ w2.cell? ⟨w.heap.size, 2, none⟩ = some (.string v)) := by
    have hF : ∀ k, F k → k < w.heap.size := fun k hk => (CD g mb rg).lt h k hk
    refine ((HB.out s).step (lift1 (fun F h => cPut d v h hd hg))).mono fun e w2 ⟨g1, F', g2, g3⟩ => ⟨g1, ⟨F', g2, (Turn.of_below B).trans g3⟩, ?_⟩
    exact g3.1.cell (by rw [← HW.out, World.cell?_alloc_new]; rfl) (fun hf => Nat.lt_irrefl _ (hF _ hf))
  obtain ⟨x1, HX1⟩ : ∃ x, Hid ((fnd d s.l).getD emp = x) := ⟨_, rfl⟩
  obtain ⟨b1, HB1⟩ : ∃ x, Hid ((fnd d s.l).isSome = x) := ⟨_, rfl⟩
  obtain ⟨x2, HX2⟩ : ∃ x, Hid ((outS s d).getD emp = x) := ⟨_, rfl⟩
  obtain ⟨b2, HB2⟩ : ∃ x, Hid ((outS s d).isSome = x) := ⟨_, rfl⟩
  rw [HX1.out, HB1.out] at PK PR GK GR
  rw [HB1.out] at OK OR
  rw [HX2.out, HB2.out] at UK UR UKw
  have e1 : (x1.toList == x1.toList) = true := beq_self_eq_true _
  have e2 : (x2.toList == x2.toList) = true := beq_self_eq_true _
  have e3 : (b1 == b1) = true := beq_self_eq_true _
  have e4 : (b2 == b2) = true := beq_self_eq_true _
  have HDD : Hid (digS k = d) := HD
  clear h B hc ok nd hl1 hl2 hl3 w3 HB
  unfold pt at *
  by_cases e10 : kd = 1
  · subst e10
    rw [show tellS s 1 k v = getS s (digS k) from rfl, HDD.out]
    go_enter Try.func30, Try.ntmps30
    go_upto_region 1 with fail
    rw [HW.out]
    go_wp2_with (first | (go_at_call 14; refine (CDg.out _).mono ?_; rintro _ wd ⟨rfl, hwd⟩; rw [hwd]; clear hwd) | (go_at_call 19; refine (GK.out _ T0.out).mono ?_; rintro _ a1 ⟨rfl, ha1⟩; have Ta1 : Hid (Tn _ _ _ _ _) := ha1; clear ha1) | (go_at_call 41; refine (GR.out _ Ta1.out).mono ?_; rintro _ a2 ⟨rfl, ha2⟩; have Ta2 : Hid (Tn _ _ _ _ _) := ha2; clear ha2) | go_in)
    go_ret
    exact ⟨by first | rfl | (congr 2; simp), Ta2.out⟩
  by_cases e20 : kd = 2
  · subst e20
    rw [show tellS s 2 k v = s from rfl]
    clear e10
    go_enter Try.func30, Try.ntmps30
    go_upto_region 1 with fail
    rw [HW.out]
    go_wp2_with (first | (go_at_call 14; refine (CDg.out _).mono ?_; rintro _ wd ⟨rfl, hwd⟩; rw [hwd]; clear hwd) | (go_at_call 18; refine (PK.out _ T0.out).mono ?_; rintro _ a1 ⟨rfl, ha1⟩; have Ta1 : Hid (Tn _ _ _ _ _) := ha1; clear ha1) | (go_at_call 42; refine (PR.out _ Ta1.out).mono ?_; rintro _ a2 ⟨rfl, ha2⟩; have Ta2 : Hid (Tn _ _ _ _ _) := ha2; clear ha2) | go_in)
    go_ret
    exact ⟨by first | rfl | (congr 2; simp), Ta2.out⟩
  by_cases e30 : kd = 3
  · subst e30
    rw [show tellS s 3 k v = putS s (digS k) v from rfl, HDD.out]
    clear e10 e20
    go_enter Try.func30, Try.ntmps30
    go_upto_region 1 with fail
    rw [HW.out]
    go_wp2_with (first | (go_at_call 14; refine (CDg.out _).mono ?_; rintro _ wd ⟨rfl, hwd⟩; rw [hwd]; clear hwd) | (go_at_call 16; refine UKw.out.mono ?_; rintro _ a1 ⟨rfl, ha1, w4⟩; have Ta1 : Hid (Tn _ _ _ _ _) := ha1; clear ha1) | (go_at_call 43; refine (UR.out _ Ta1.out).mono ?_; rintro _ a2 ⟨rfl, ha2⟩; have Ta2 : Hid (Tn _ _ _ _ _) := ha2; clear ha2) | go_in)
    go_ret
    exact ⟨by first | rfl | (congr 2; simp), Ta2.out⟩
  by_cases e40 : kd = 4
  · subst e40
    rw [show tellS s 4 k v = dropS s (digS k) from rfl, HDD.out]
    clear e10 e20 e30
    go_enter Try.func30, Try.ntmps30
    go_upto_region 1 with fail
    rw [HW.out]
    go_wp2_with (first | (go_at_call 14; refine (CDg.out _).mono ?_; rintro _ wd ⟨rfl, hwd⟩; rw [hwd]; clear hwd) | (go_at_call 23; refine (OK.out _ T0.out).mono ?_; rintro _ a1 ⟨rfl, ha1⟩; have Ta1 : Hid (Tn _ _ _ _ _) := ha1; clear ha1) | (go_at_call 44; refine (OR.out _ Ta1.out).mono ?_; rintro _ a2 ⟨rfl, ha2⟩; have Ta2 : Hid (Tn _ _ _ _ _) := ha2; clear ha2) | go_in)
    go_ret
    exact ⟨by first | rfl | (congr 2; simp), Ta2.out⟩
  by_cases e50 : kd = 5
  · subst e50
    rw [show tellS s 5 k v = clearS s from rfl]
    clear e10 e20 e30 e40
    go_enter Try.func30, Try.ntmps30
    go_upto_region 1 with fail
    rw [HW.out]
    go_wp2_with (first | (go_at_call 14; refine (CDg.out _).mono ?_; rintro _ wd ⟨rfl, hwd⟩; rw [hwd]; clear hwd) | (go_at_call 25; refine (CK.out _ T0.out).mono ?_; rintro _ a1 ⟨rfl, ha1⟩; have Ta1 : Hid (Tn _ _ _ _ _) := ha1; clear ha1) | (go_at_call 45; refine (CR.out _ Ta1.out).mono ?_; rintro _ a2 ⟨rfl, ha2⟩; have Ta2 : Hid (Tn _ _ _ _ _) := ha2; clear ha2) | go_in)
    go_ret
    exact ⟨by first | rfl | (congr 2; simp), Ta2.out⟩
  by_cases e60 : kd = 6
  · subst e60
    rw [show tellS s 6 k v = s from rfl]
    clear e10 e20 e30 e40 e50
    go_enter Try.func30, Try.ntmps30
    go_upto_region 1 with fail
    rw [HW.out]
    go_wp2_with (first | (go_at_call 14; refine (CDg.out _).mono ?_; rintro _ wd ⟨rfl, hwd⟩; rw [hwd]; clear hwd) | (go_at_call 22; refine (LK.out _ T0.out).mono ?_; rintro _ wz ⟨rfl, hwz⟩; rw [hwz]; clear hwz) | (go_at_call 46; refine (LR.out _ T0.out).mono ?_; rintro _ wz ⟨rfl, hwz⟩; rw [hwz]; clear hwz) | go_in)
    go_ret
    exact ⟨by first | rfl | (congr 2; simp), T0.out⟩
  by_cases e70 : kd = 7
  · subst e70
    rw [show tellS s 7 k v = s from rfl]
    clear e10 e20 e30 e40 e50 e60
    go_enter Try.func30, Try.ntmps30
    go_upto_region 1 with fail
    rw [HW.out]
    go_wp2_with (first | (go_at_call 14; refine (CDg.out _).mono ?_; rintro _ wd ⟨rfl, hwd⟩; rw [hwd]; clear hwd) | (go_at_call 21; refine (KK.out _ T0.out).mono ?_; rintro _ a1 ⟨xv, rfl, hx, ha1⟩; have Ta1 : Hid (Tn _ _ _ _ _) := ha1; have HXV : Hid (ReadsT _ _ _) := hx; clear ha1 hx) | (go_at_call 47; refine (KR.out _ _ Ta1.out HXV.out).mono ?_; rintro _ a2 ⟨yv, rfl, hx, hy, ha2⟩; have Ta2 : Hid (Tn _ _ _ _ _) := ha2; have HXV2 : Hid (ReadsT _ _ _) := hx; have HYV2 : Hid (ReadsT _ _ _) := hy; clear ha2 hx hy) | (go_at_call 20; refine (KS.out _ _ _ Ta2.out HXV2.out HYV2.out).mono ?_; rintro _ a3 ⟨rfl, ha3⟩; have Ta3 : Hid (Tn _ _ _ _ _) := ha3; clear ha3) | go_in)
    go_ret
    exact ⟨by first | rfl | (congr 2; simp), Ta3.out⟩
  by_cases e80 : kd = 8
  · subst e80
    rw [show tellS s 8 k v = s from rfl]
    clear e10 e20 e30 e40 e50 e60 e70
    go_enter Try.func30, Try.ntmps30
    go_upto_region 1 with fail
    rw [HW.out]
    go_wp2_with (first | (go_at_call 14; refine (CDg.out _).mono ?_; rintro _ wd ⟨rfl, hwd⟩; rw [hwd]; clear hwd) | (go_at_call 26; refine (NK.out _ T0.out).mono ?_; rintro _ a1 ⟨rfl, ha1⟩; have Ta1 : Hid (Tn _ _ _ _ _) := ha1; clear ha1) | (go_at_call 48; refine (NR.out _ Ta1.out).mono ?_; rintro _ a2 ⟨rfl, ha2⟩; have Ta2 : Hid (Tn _ _ _ _ _) := ha2; clear ha2) | go_in)
    go_ret
    exact ⟨by first | rfl | (congr 2; simp), Ta2.out⟩
  have q1 : (kd == 1) = false := by simpa using e10
  have q2 : (kd == 2) = false := by simpa using e20
  have q3 : (kd == 3) = false := by simpa using e30
  have q4 : (kd == 4) = false := by simpa using e40
  have q5 : (kd == 5) = false := by simpa using e50
  have q6 : (kd == 6) = false := by simpa using e60
  have q7 : (kd == 7) = false := by simpa using e70
  have q8 : (kd == 8) = false := by simpa using e80
  have HT : Hid (tellS s kd k v = s) := by show _ = _; unfold tellS; rw [if_neg e10, if_neg e30, if_neg e40, if_neg e50]
  clear e10 e20 e30 e40 e50 e60 e70 e80
  go_enter Try.func30, Try.ntmps30
  go_upto_region 1 with fail
  rw [HW.out]
  go_wp2_with (first | (go_at_call 14; refine (CDg.out _).mono ?_; rintro _ wd ⟨rfl, hwd⟩; rw [hwd]; clear hwd) | go_in)
  go_ret
  exact ⟨rfl, by rw [HT.out]; exact T0.out⟩
end Go.Proofs.Ytjkkijeamcihiaa.lt
