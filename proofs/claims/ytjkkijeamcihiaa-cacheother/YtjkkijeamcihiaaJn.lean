import Derived.Test.YtjkkijeamcihiaaLt
import Derived.Test.YtjkkijeamcihiaaJp
namespace Go.Proofs.Ytjkkijeamcihiaa.jn
open Go.RowKit Go.PlainAid Go.Maps
open Go.Proofs.Ytjkkijeamcihiaa.cp Go.Proofs.Ytjkkijeamcihiaa.kp Go.Proofs.Ytjkkijeamcihiaa.ka Go.Proofs.Ytjkkijeamcihiaa.bn
open Go.Proofs.Ytjkkijeamcihiaa.ra (pt)
open Go.Proofs.Ytjkkijeamcihiaa.sa Go.Proofs.Ytjkkijeamcihiaa.la Go.Proofs.Ytjkkijeamcihiaa.lb Go.Proofs.Ytjkkijeamcihiaa.ld Go.Proofs.Ytjkkijeamcihiaa.jp
open Go.Proofs.Ytjkkijeamcihiaa.lz (Thg Turn Turn.refl Turn.of_below Turn.trans One Two ov dn)
open Go.Proofs.Ytjkkijeamcihiaa.lc (pairO pair_fst pair_snd lift1 lift2)
open Go.Proofs.Ytjkkijeamcihiaa.lt (Tn Tn.step Tn.later)
open Go.Proofs.Ytjkkijeamcihiaa.rl (below_grownBy)
open Go.Proofs.Ytjkkijeamcihiaa.de Go.Proofs.Ytjkkijeamcihiaa.df Go.Proofs.Ytjkkijeamcihiaa.db Go.Proofs.Ytjkkijeamcihiaa.da
set_option linter.unusedVariables false
set_option linter.unusedSimpArgs false
abbrev IO := Go.Proofs.Ytjkkijeamcihiaa.iz.ChO
def CI (g mb rg : Nat) : Thg (I × T) := pairO (IO g mb) (DcO rg)
theorem tn_c {g mb rg : Nat} {F : Nat → Prop} {w w1 : World} {s : I} {t : T} (h : Tn (CI g mb rg) F w (s, t) w1) : ∃ F1, (IO g mb).P s F1 w1 := by
  obtain ⟨F1, h1, _⟩ := h
  obtain ⟨F2, h2, _⟩ := pair_fst h1
  exact ⟨F2, h2⟩
theorem tn_d {g mb rg : Nat} {F : Nat → Prop} {w w1 : World} {s : I} {t : T} (h : Tn (CI g mb rg) F w (s, t) w1) : ∃ kv vv, Dc rg kv vv t w1 := by
  obtain ⟨F1, h1, _⟩ := h
  obtain ⟨F2, ⟨kv, vv, h2, _⟩, _⟩ := pair_snd h1
  exact ⟨kv, vv, h2⟩
-- a pair of one's own beside them
def Tk {σ : Type} (O : Thg σ) (F : Nat → Prop) (w : World) (s : σ) (p : Nat) (x : ByteArray) (y : Int) (w' : World) : Prop := ∃ F', O.P s F' w' ∧ Turn F F' w w' ∧ ¬ F' p ∧ p < w'.heap.size ∧ w'.cell? ⟨p, 0, none⟩ = some (.string x) ∧ w'.cell? ⟨p, 1, none⟩ = some (.int .i64 y)
theorem Tk.of {σ : Type} {O : Thg σ} {F : Nat → Prop} {w a : World} {s : σ} (h : Tn O F w s a) (x : ByteArray) (y : Int) : Tk O F w s a.heap.size x y (a.alloc (.cells #[.string x, .int .i64 y] 60)) := by
  obtain ⟨F1, h1, h2⟩ := h
  have B : Below a.heap.size a (a.alloc (.cells #[.string x, .int .i64 y] 60)) := (Below.refl _ _).alloc (Nat.le_refl _) _
  have p0 : (a.alloc (.cells #[.string x, .int .i64 y] 60)).cell? ⟨a.heap.size, 0, none⟩ = some (.string x) := by rw [World.cell?_alloc_new]; rfl
  have p1 : (a.alloc (.cells #[.string x, .int .i64 y] 60)).cell? ⟨a.heap.size, 1, none⟩ = some (.int .i64 y) := by rw [World.cell?_alloc_new]; rfl
  exact ⟨F1, O.keep h1 (Kp.of_below (A := fun _ => False) B) (fun _ _ e => e), h2.trans (Turn.of_below B), fun hf => Nat.lt_irrefl _ (O.lt h1 _ hf), World.block_lt_of_cell? _ _ p0, p0, p1⟩
theorem Tk.step {σ : Type} {O : Thg σ} {F : Nat → Prop} {w w1 : World} {s s' : σ} {p : Nat} {x : ByteArray} {y : Int} {f : Nat} {args : Array Value} {r : Ending} (h : Tk O F w s p x y w1) (C : ∀ F, O.P s F w1 → Calls Try.prog f args w1 fun e w2 => e = r ∧ ∃ F', O.P s' F' w2 ∧ Turn F F' w1 w2) : Calls Try.prog f args w1 fun e w2 => e = r ∧ Tk O F w s' p x y w2 := by
  obtain ⟨F1, h1, h2, h3, h4, h5, h6⟩ := h
  refine (C F1 h1).mono fun e w2 ⟨g1, F2, g2, g3⟩ => ⟨g1, F2, g2, h2.trans g3, fun hf => ?_, Nat.lt_of_lt_of_le h4 g3.1.size, g3.1.cell h5 h3, g3.1.cell h6 h3⟩
  rcases g3.2 _ hf with h | h
  · exact h3 h
  · omega
theorem Tk.tn {σ : Type} {O : Thg σ} {F : Nat → Prop} {w w1 : World} {s : σ} {p : Nat} {x : ByteArray} {y : Int} (h : Tk O F w s p x y w1) : Tn O F w s w1 := by
  obtain ⟨F1, h1, h2, _⟩ := h
  exact ⟨F1, h1, h2⟩
theorem Tk.cells {σ : Type} {O : Thg σ} {F : Nat → Prop} {w w1 : World} {s : σ} {p : Nat} {x : ByteArray} {y : Int} (h : Tk O F w s p x y w1) : w1.cell? ⟨p, 0, none⟩ = some (.string x) ∧ w1.cell? ⟨p, 1, none⟩ = some (.int .i64 y) := by
  obtain ⟨F1, _, _, _, _, h5, h6⟩ := h
  exact ⟨h5, h6⟩
set_option maxRecDepth 8000 in
set_option maxHeartbeats 3200000 in
theorem numbersC {g mb rg : Nat} {s : I} {F : Nat → Prop} {w : World} (kd k : Int) (hk : okI k) (v : ByteArray) (h : (CI g mb rg).P (s, mp s) F w) (nm : Nm s) (hh : s.hits < 4611686018427387904) (hm : s.misses < 4611686018427387904) (hg : s.gone < 4611686018427387904) :
    Calls Try.prog 32 #[pt ⟨g, 0, none⟩, pt ⟨rg, 0, none⟩, .agg #[.int .i64 kd, .int .i64 k, .string v]] w fun e w' => e = .returned (.bool true) ∧ ∃ F', (CI g mb rg).P (tellI s kd k v, mp (tellI s kd k v)) F' w' ∧ Turn F F' w w' := by
  obtain ⟨d, HD⟩ : ∃ d, Hid (digS k = d) := ⟨_, rfl⟩
  have CDg : Hid (∀ n w, Calls Try.prog 14 #[.int .i64 n] w fun e w' => e = .returned (.string (digS n)) ∧ w' = w) := digitsC
  have hd : d.size ≤ maxLen := by rw [← HD.out]; exact digS_ok k
  obtain ⟨W, HW⟩ : ∃ W, Hid (w.alloc (.cells #[.int .i64 kd, .int .i64 k, .string v] 35) = W) := ⟨_, rfl⟩
  have B : Below w.heap.size w W := by rw [← HW.out]; exact (Below.refl _ _).alloc (Nat.le_refl _) _
  have T0 : Hid (Tn (CI g mb rg) F w (s, mp s) W) := ⟨F, (CI g mb rg).keep h (Kp.of_below (A := fun _ => False) B) (fun _ _ e => e), Turn.of_below B⟩
  obtain ⟨F1, hc⟩ := tn_c T0.out
  have ok := Go.Proofs.Ytjkkijeamcihiaa.iz.cOk hc
  have nd := nd_mp nm ok.nd
  have hl1 : (mp s).l.length ≤ (mp s).most := by show (s.l.map mv).length ≤ s.most; rw [List.length_map]; exact ok.len
  have hl2 : (mp s).most ≤ 4096 := ok.most
  have hl3 : (mp s).l.length ≤ 4096 := Nat.le_trans hl1 hl2
  have lens : (mp s).l.length = s.l.length := by show (s.l.map mv).length = _; rw [List.length_map]
  obtain ⟨x1, HX1⟩ : ∃ x, Hid (xS s k = x) := ⟨_, rfl⟩
  obtain ⟨b1, HB1⟩ : ∃ x, Hid ((fnd k s.l).isSome = x) := ⟨_, rfl⟩
  have xp : (fnd k s.l).getD Go.Proofs.Ytjkkijeamcihiaa.ig.zv = (x1, (x1.size : Int)) := by have := x_pair nm k; rw [HX1.out] at this; exact this
  have xd : (fnd d (mp s).l).getD Go.Proofs.Ytjkkijeamcihiaa.rg.emp = x1 := by have := x_doc nm hk; rw [HX1.out, HD.out] at this; exact this
  have xb : (fnd d (mp s).l).isSome = b1 := by have := is_doc nm hk; rw [HB1.out, HD.out] at this; exact this
  have XE : Hid (b1 = false → x1 = ⟨#[]⟩) := fun e => by rw [← HX1.out]; exact x_none (by rw [HB1.out]; exact e)
  have PK : Hid (∀ w1, Tn (CI g mb rg) F w (s, mp s) w1 → Calls Try.prog 51 #[pt ⟨g, 0, none⟩, .int .i64 k] w1 fun e w2 => e = .returned (.tuple #[.agg #[.string x1, .int .i64 (x1.size : Int)], .bool b1]) ∧ Tn (CI g mb rg) F w (s, mp s) w2) := fun w1 t1 => (Go.Proofs.Ytjkkijeamcihiaa.iz.cPeek k (tn_c t1).choose_spec hk).mono fun e w2 ⟨g1, g2⟩ => ⟨by rw [g1, xp, HB1.out]; rfl, t1.later g2⟩
  have PR : Hid (∀ w1 p, Tk (CI g mb rg) F w (s, mp s) p x1 (x1.size : Int) w1 → Calls Try.prog 42 #[pt ⟨rg, 0, none⟩, .string d] w1 fun e w2 => e = .returned (.tuple #[.string x1, .bool b1]) ∧ Tk (CI g mb rg) F w (s, mp s) p x1 (x1.size : Int) w2) := fun w1 p t1 => by
    obtain ⟨kv, vv, hd1⟩ := tn_d t1.tn
    exact (rPeek d hd1 nd).mono fun e w2 ⟨g1, g2⟩ => ⟨by rw [g1, xd, xb], by rw [g2]; exact t1⟩
  have GK : Hid (∀ w1, Tn (CI g mb rg) F w (s, mp s) w1 → Calls Try.prog 50 #[pt ⟨g, 0, none⟩, .int .i64 k] w1 fun e w2 => e = .returned (.tuple #[.agg #[.string x1, .int .i64 (x1.size : Int)], .bool b1]) ∧ Tn (CI g mb rg) F w (getS s k, mp s) w2) := fun w1 t1 => t1.step (lift1 (fun F h => (Go.Proofs.Ytjkkijeamcihiaa.iz.cGet k h hk hh hm).mono fun e w2 ⟨g1, g2⟩ => ⟨by rw [g1, xp, HB1.out]; rfl, g2⟩))
  have GR : Hid (∀ w1 p, Tk (CI g mb rg) F w (getS s k, mp s) p x1 (x1.size : Int) w1 → Calls Try.prog 41 #[pt ⟨rg, 0, none⟩, .string d] w1 fun e w2 => e = .returned (.tuple #[.string x1, .bool b1]) ∧ Tk (CI g mb rg) F w (getS s k, mp (getS s k)) p x1 (x1.size : Int) w2) := fun w1 p t1 => by
    rw [← get_mp nm hk, HD.out]
    exact t1.step (lift2 (fun F h => (d_step h (fun kv vv hd1 => rGet d hd1 nd hl3 hh hm)).mono fun e w2 ⟨g1, g2⟩ => ⟨by rw [g1, xd, xb], g2⟩))
  have OK : Hid (∀ w1, Tn (CI g mb rg) F w (s, mp s) w1 → Calls Try.prog 53 #[pt ⟨g, 0, none⟩, .int .i64 k] w1 fun e w2 => e = .returned (.bool b1) ∧ Tn (CI g mb rg) F w (dropS s k, mp s) w2) := fun w1 t1 => t1.step (lift1 (fun F h => (Go.Proofs.Ytjkkijeamcihiaa.iz.cDrop k h hk).mono fun e w2 ⟨g1, g2⟩ => ⟨by rw [g1, HB1.out], g2⟩))
  have OR : Hid (∀ w1, Tn (CI g mb rg) F w (dropS s k, mp s) w1 → Calls Try.prog 44 #[pt ⟨rg, 0, none⟩, .string d] w1 fun e w2 => e = .returned (.bool b1) ∧ Tn (CI g mb rg) F w (dropS s k, mp (dropS s k)) w2) := fun w1 t1 => by
    rw [← drop_mp nm hk, HD.out]
    exact t1.step (lift2 (fun F h => (d_step h (fun kv vv hd1 => rDrop d hd1 nd)).mono fun e w2 ⟨g1, g2⟩ => ⟨by rw [g1, xb], g2⟩))
  have CK : Hid (∀ w1, Tn (CI g mb rg) F w (s, mp s) w1 → Calls Try.prog 54 #[pt ⟨g, 0, none⟩] w1 fun e w2 => e = .returned (.tuple #[]) ∧ Tn (CI g mb rg) F w (clearS s, mp s) w2) := fun w1 t1 => t1.step (lift1 (fun F h => Go.Proofs.Ytjkkijeamcihiaa.iz.cClear h))
  have CR : Hid (∀ w1, Tn (CI g mb rg) F w (clearS s, mp s) w1 → Calls Try.prog 45 #[pt ⟨rg, 0, none⟩] w1 fun e w2 => e = .returned (.tuple #[]) ∧ Tn (CI g mb rg) F w (clearS s, mp (clearS s)) w2) := fun w1 t1 => t1.step (lift2 (fun F h => d_step h (fun kv vv hd1 => rClear hd1)))
  have LK : Hid (∀ w1, Tn (CI g mb rg) F w (s, mp s) w1 → Calls Try.prog 55 #[pt ⟨g, 0, none⟩] w1 fun e w2 => e = .returned (.int .i64 (s.l.length : Nat)) ∧ w2 = w1) := fun w1 t1 => Go.Proofs.Ytjkkijeamcihiaa.iz.cLen (tn_c t1).choose_spec
  have LR : Hid (∀ w1, Tn (CI g mb rg) F w (s, mp s) w1 → Calls Try.prog 46 #[pt ⟨rg, 0, none⟩] w1 fun e w2 => e = .returned (.int .i64 (s.l.length : Nat)) ∧ w2 = w1) := fun w1 t1 => by
    obtain ⟨kv, vv, hd1⟩ := tn_d t1
    have := rLen hd1
    rw [lens] at this
    exact this
  have NK : Hid (∀ w1, Tn (CI g mb rg) F w (s, mp s) w1 → Calls Try.prog 57 #[pt ⟨g, 0, none⟩] w1 fun e w2 => e = .returned (.tuple #[.int .i64 (s.hits : Nat), .int .i64 (s.misses : Nat), .int .i64 (s.gone : Nat)]) ∧ Tn (CI g mb rg) F w (s, mp s) w2) := fun w1 t1 => (Go.Proofs.Ytjkkijeamcihiaa.iz.cCounts (tn_c t1).choose_spec).mono fun e w2 ⟨g1, g2⟩ => ⟨g1, t1.later g2⟩
  have NR : Hid (∀ w1, Tn (CI g mb rg) F w (s, mp s) w1 → Calls Try.prog 48 #[pt ⟨rg, 0, none⟩] w1 fun e w2 => e = .returned (.tuple #[.int .i64 (s.hits : Nat), .int .i64 (s.misses : Nat), .int .i64 (s.gone : Nat)]) ∧ Tn (CI g mb rg) F w (s, mp s) w2) := fun w1 t1 => by
    obtain ⟨kv, vv, hd1⟩ := tn_d t1
    exact (rCounts hd1).mono fun e w2 ⟨g1, g2⟩ => ⟨g1, t1.later g2⟩
  -- keys
  obtain ⟨ks, HKS⟩ : ∃ ks, Hid (keys s.l = ks) := ⟨_, rfl⟩
  have kd1 : keys (mp s).l = ks.map digS := by rw [keys_mp, HKS.out]
  have kln : ks.length ≤ 4096 := by rw [← HKS.out]; unfold keys; rw [List.length_map]; exact Nat.le_trans ok.len ok.most
  have KK : Hid (∀ w1, Tn (CI g mb rg) F w (s, mp s) w1 → Calls Try.prog 56 #[pt ⟨g, 0, none⟩] w1 fun e w2 => ∃ a c, e = .returned (.slice a ks.length c) ∧ (∀ w3, Below w2.heap.size w2 w3 → ∀ j, (hj : j < ks.length) → ∃ b off, a = some ⟨b, off, none⟩ ∧ w3.cell? ⟨b, off + j, none⟩ = some (.int .i64 (ks.getD j 0))) ∧ Tn (CI g mb rg) F w (s, mp s) w2) := fun w1 t1 => (Go.Proofs.Ytjkkijeamcihiaa.iz.cKeys (tn_c t1).choose_spec).mono fun e w2 ⟨x, g1, g2, g3⟩ => by
    rw [HKS.out] at g2
    obtain ⟨a, c, hx⟩ := own_formS g2
    refine ⟨a, c, by rw [g1, hx], fun w3 hb j hj => ?_, t1.later g3⟩
    rcases g2.2 with ⟨e1, e2⟩ | ⟨g', cap, cur, e1, _⟩
    · omega
    · rw [e1] at g2 hx
      have hc := g2.cellAt j (by omega)
      rw [List.getElem?_map, List.getElem?_eq_getElem hj] at hc
      have ea := (Value.slice.inj hx).1
      refine ⟨g', 0, ea.symm, ?_⟩
      rw [Nat.zero_add, List.getD_eq_getElem?_getD, List.getElem?_eq_getElem hj]
      exact (Kp.of_below (A := fun _ => False) hb).cell hc (fun e => e)
  have KR : Hid (∀ w1 x, Tn (CI g mb rg) F w (s, mp s) w1 → ReadsT w1 x (ks.map digS) → Calls Try.prog 47 #[pt ⟨rg, 0, none⟩] w1 fun e w2 => ∃ y, e = .returned y ∧ ReadsT w2 x (ks.map digS) ∧ ReadsT w2 y (ks.map digS) ∧ Tn (CI g mb rg) F w (s, mp s) w2) := fun w1 x t1 hx => by
    obtain ⟨kv, vv, hd1⟩ := tn_d t1
    have := rKeys hd1
    rw [kd1] at this
    exact this.mono fun e w2 ⟨y, g1, g2, g3⟩ => ⟨y, g1, hx.later g3, own_readsT g2, t1.later g3⟩
  have KS : Hid (∀ w1 x y, Tn (CI g mb rg) F w (s, mp s) w1 → ReadsT w1 x (ks.map digS) → ReadsT w1 y (ks.map digS) → Calls Try.prog 20 #[x, y] w1 fun e w2 => e = .returned (.bool true) ∧ Tn (CI g mb rg) F w (s, mp s) w2) := fun w1 x y t1 hx hy => by
    refine (same x y (ks.map digS) (ks.map digS) w1 hx hy (by rw [List.length_map]; omega)).mono fun e w2 ⟨g1, m, g2⟩ => ⟨by rw [g1, decide_eq_true rfl], t1.later ?_⟩
    rw [g2]
    exact ⟨rfl, rfl, rfl, Nat.le_refl _, fun _ _ => rfl⟩
  obtain ⟨n, HN⟩ : ∃ n, Hid (ks.length = n) := ⟨_, rfl⟩
  have hn5 : (n : Int) ≤ 4096 := by rw [← HN.out]; omega
  have HN5 : Hid (n ≤ 4096) := by rw [← HN.out]; exact kln
  obtain ⟨i9, hi', hz0, hz1, hz2⟩ := info_parts hi9
  have HIN : Hid (_ ∧ _ ∧ _ ∧ _) := ⟨hi', hz0, hz1, hz2⟩
  clear hi' hz0 hz1 hz2
  -- put
  have HOUT : Hid (outS (mp s) d = (outS s k).map digS) := by have := out_mp nm hk; rw [HD.out] at this; exact this
  have w0 : W.cell? ⟨w.heap.size, 0, none⟩ = some (.int .i64 kd) := by rw [← HW.out, World.cell?_alloc_new]; rfl
  have w1 : W.cell? ⟨w.heap.size, 1, none⟩ = some (.int .i64 k) := by rw [← HW.out, World.cell?_alloc_new]; rfl
  have w2 : W.cell? ⟨w.heap.size, 2, none⟩ = some (.string v) := by rw [← HW.out, World.cell?_alloc_new]; rfl
  have HB : Tn (CI g mb rg) F W (s, mp s) W := ⟨F, (CI g mb rg).keep h (Kp.of_below (A := fun _ => False) B) (fun _ _ e => e), Turn.refl _ _⟩
  have UKw : Hid (Calls Try.prog 52 #[pt ⟨g, 0, none⟩, .int .i64 k, .agg #[.string v, .int .i64 (v.size : Int)]] W fun e w2 => e = .returned (.tuple #[.int .i64 ((outS s k).getD 0), .bool (outS s k).isSome]) ∧ Tn (CI g mb rg) F w (putS s k (v, (v.size : Int)), mp s) w2 ∧ w2.cell? ⟨w.heap.size, 2, none⟩ = some (.string v)) := by
    have hF : ∀ k, F k → k < w.heap.size := fun k hk => (CI g mb rg).lt h k hk
    refine (HB.step (lift1 (fun F h => Go.Proofs.Ytjkkijeamcihiaa.iz.cPut k (v, (v.size : Int)) h hk hg))).mono fun e w2 ⟨g1, F', g2, g3⟩ => ⟨g1, ⟨F', g2, (Turn.of_below B).trans g3⟩, ?_⟩
    exact g3.1.cell (by rw [← HW.out, World.cell?_alloc_new]; rfl) (fun hf => Nat.lt_irrefl _ (hF _ hf))
  have UR : Hid (∀ w1, Tn (CI g mb rg) F w (putS s k (v, (v.size : Int)), mp s) w1 → Calls Try.prog 43 #[pt ⟨rg, 0, none⟩, .string d, .string v] w1 fun e w2 => e = .returned (.tuple #[.string (((outS s k).map digS).getD Go.Proofs.Ytjkkijeamcihiaa.rg.emp), .bool ((outS s k).map digS).isSome]) ∧ Tn (CI g mb rg) F w (putS s k (v, (v.size : Int)), mp (putS s k (v, (v.size : Int)))) w2) := fun w1 t1 => by
    rw [← put_mp nm hk v (v.size : Int), HD.out, ← HOUT.out]
    exact t1.step (lift2 (fun F h => d_step h (fun kv vv hd1 => rPut d v hd1 nd hl1 hl2 hg)))
  have CDk : Hid (∀ w, Calls Try.prog 14 #[.int .i64 k] w fun e w' => e = .returned (.string d) ∧ w' = w) := fun w => by rw [← HD.out]; exact digitsC k w
  have e1 : (x1.toList == x1.toList) = true := beq_self_eq_true _
  have e3 : (b1 == b1) = true := beq_self_eq_true _
  have e5 : ((x1.size : Int) == (x1.size : Int)) = true := beq_self_eq_true _
  rw [HN.out] at KK
  clear h B hc ok nd hl1 hl2 hl3 HB xp xd xb lens kd1 kln nm hh hm hg hd HOUT
  unfold pt at *
  by_cases e10 : kd = 1
  · subst e10
    rw [show tellI s 1 k v = getS s k from rfl]
    cases b1 with
    | false =>
      have hx1 := XE.out rfl
      subst hx1
      have z0 : ((⟨#[]⟩ : ByteArray).size : Int) = 0 := rfl
      rw [z0] at GK GR
      clear e1 e5 z0 PK PR
      go_enter Try.func32, Try.ntmps32
      go_upto_region 1 with fail
      rw [HW.out]
      go_upto_region 5 with (first | (go_at_call 14; refine (CDk.out _).mono ?_; rintro _ wd ⟨rfl, hwd⟩; rw [hwd]; clear hwd) | (go_at_call 50; refine (GK.out _ T0.out).mono ?_; rintro _ a1 ⟨rfl, ha1⟩; have Ta1 : Hid (Tn _ _ _ _ _) := ha1; clear ha1) | go_in)
      have TK := Tk.of Ta1.out ⟨#[]⟩ 0
      obtain ⟨P, HP⟩ : ∃ P, Hid (a1.heap.size = P) := ⟨_, rfl⟩
      obtain ⟨W2, HW2⟩ : ∃ W2, Hid (a1.alloc (.cells #[.string ⟨#[]⟩, .int .i64 0] 60) = W2) := ⟨_, rfl⟩
      rw [HW2.out, HP.out] at TK
      rw [HW2.out, HP.out]
      have TK : Hid (Tk _ _ _ _ _ _ _ _) := TK
      go_wp2_with (first | (go_at_call 41; refine (GR.out _ _ TK.out).mono ?_; rintro _ a2 ⟨rfl, ha2⟩; have Ta2 : Hid (Tn _ _ _ _ _) := ha2.tn; obtain ⟨pc0, pc1⟩ := ha2.cells; clear ha2) | go_in)
      go_ret
      exact ⟨by first | rfl | (congr 2; simp), Ta2.out⟩
    | true =>
      go_enter Try.func32, Try.ntmps32
      go_upto_region 1 with fail
      rw [HW.out]
      go_upto_region 5 with (first | (go_at_call 14; refine (CDk.out _).mono ?_; rintro _ wd ⟨rfl, hwd⟩; rw [hwd]; clear hwd) | (go_at_call 50; refine (GK.out _ T0.out).mono ?_; rintro _ a1 ⟨rfl, ha1⟩; have Ta1 : Hid (Tn _ _ _ _ _) := ha1; clear ha1) | go_in)
      have TK := Tk.of Ta1.out x1 (x1.size : Int)
      obtain ⟨P, HP⟩ : ∃ P, Hid (a1.heap.size = P) := ⟨_, rfl⟩
      obtain ⟨W2, HW2⟩ : ∃ W2, Hid (a1.alloc (.cells #[.string x1, .int .i64 (x1.size : Int)] 60) = W2) := ⟨_, rfl⟩
      rw [HW2.out, HP.out] at TK
      rw [HW2.out, HP.out]
      have TK : Hid (Tk _ _ _ _ _ _ _ _) := TK
      go_wp2_with (first | (go_at_call 41; refine (GR.out _ _ TK.out).mono ?_; rintro _ a2 ⟨rfl, ha2⟩; have Ta2 : Hid (Tn _ _ _ _ _) := ha2.tn; obtain ⟨pc0, pc1⟩ := ha2.cells; clear ha2) | go_in)
      go_ret
      exact ⟨by first | rfl | (congr 2; simp), Ta2.out⟩
  by_cases e20 : kd = 2
  · subst e20
    rw [show tellI s 2 k v = s from rfl]
    clear e10
    go_enter Try.func32, Try.ntmps32
    go_upto_region 1 with fail
    rw [HW.out]
    go_upto_region 9 with (first | (go_at_call 14; refine (CDk.out _).mono ?_; rintro _ wd ⟨rfl, hwd⟩; rw [hwd]; clear hwd) | (go_at_call 51; refine (PK.out _ T0.out).mono ?_; rintro _ a1 ⟨rfl, ha1⟩; have Ta1 : Hid (Tn _ _ _ _ _) := ha1; clear ha1) | go_in)
    have TK := Tk.of Ta1.out x1 (x1.size : Int)
    obtain ⟨P, HP⟩ : ∃ P, Hid (a1.heap.size = P) := ⟨_, rfl⟩
    obtain ⟨W2, HW2⟩ : ∃ W2, Hid (a1.alloc (.cells #[.string x1, .int .i64 (x1.size : Int)] 60) = W2) := ⟨_, rfl⟩
    rw [HW2.out, HP.out] at TK
    rw [HW2.out, HP.out]
    have TK : Hid (Tk _ _ _ _ _ _ _ _) := TK
    go_wp2_with (first | (go_at_call 42; refine (PR.out _ _ TK.out).mono ?_; rintro _ a2 ⟨rfl, ha2⟩; have Ta2 : Hid (Tn _ _ _ _ _) := ha2.tn; obtain ⟨pc0, pc1⟩ := ha2.cells; clear ha2) | go_in)
    go_ret
    exact ⟨by first | rfl | (congr 2; simp), Ta2.out⟩
  by_cases e30 : kd = 3
  · subst e30
    rw [show tellI s 3 k v = putS s k (v, (v.size : Int)) from rfl]
    clear e10 e20
    cases ho : outS s k with
    | none =>
      rw [ho] at UKw UR
      dsimp only [Option.map_none, Option.map_some, Option.getD_none, Option.getD_some, Option.isSome_none, Option.isSome_some] at UKw UR
      unfold Go.Proofs.Ytjkkijeamcihiaa.rg.emp at UR
      clear ho
      go_enter Try.func32, Try.ntmps32
      go_upto_region 1 with fail
      rw [HW.out]
      go_upto_region 14 with (first | (go_at_call 14; refine (CDk.out _).mono ?_; rintro _ wd ⟨rfl, hwd⟩; rw [hwd]; clear hwd) | (go_at_call 52; refine UKw.out.mono ?_; rintro _ a1 ⟨rfl, ha1, w4⟩; have Ta1 : Hid (Tn _ _ _ _ _) := ha1; clear ha1) | (go_at_call 43; refine (UR.out _ Ta1.out).mono ?_; rintro _ a2 ⟨rfl, ha2⟩; have Ta2 : Hid (Tn _ _ _ _ _) := ha2; clear ha2) | go_in)
      go_wp2
      go_ret
      exact ⟨by first | rfl | (congr 2; simp), Ta2.out⟩
    | some q =>
      rw [ho] at UKw UR
      dsimp only [Option.map_none, Option.map_some, Option.getD_none, Option.getD_some, Option.isSome_none, Option.isSome_some] at UKw UR
      obtain ⟨dq, HDQ⟩ : ∃ x, Hid (digS q = x) := ⟨_, rfl⟩
      rw [HDQ.out] at UR
      have CDq : Hid (∀ w, Calls Try.prog 14 #[.int .i64 q] w fun e w' => e = .returned (.string dq) ∧ w' = w) := fun w => by rw [← HDQ.out]; exact digitsC q w
      have e6 : (dq.toList == dq.toList) = true := beq_self_eq_true _
      clear ho
      go_enter Try.func32, Try.ntmps32
      go_upto_region 1 with fail
      rw [HW.out]
      go_upto_region 14 with (first | (go_at_call 14; refine (CDk.out _).mono ?_; rintro _ wd ⟨rfl, hwd⟩; rw [hwd]; clear hwd) | (go_at_call 52; refine UKw.out.mono ?_; rintro _ a1 ⟨rfl, ha1, w4⟩; have Ta1 : Hid (Tn _ _ _ _ _) := ha1; clear ha1) | (go_at_call 43; refine (UR.out _ Ta1.out).mono ?_; rintro _ a2 ⟨rfl, ha2⟩; have Ta2 : Hid (Tn _ _ _ _ _) := ha2; clear ha2) | go_in)
      go_wp2_with (first | (go_at_call 14; refine (CDq.out _).mono ?_; rintro _ wd ⟨rfl, hwd⟩; rw [hwd]; clear hwd) | go_in)
      go_ret
      exact ⟨by first | rfl | (congr 2; simp), Ta2.out⟩
  by_cases e40 : kd = 4
  · subst e40
    rw [show tellI s 4 k v = dropS s k from rfl]
    clear e10 e20 e30
    go_enter Try.func32, Try.ntmps32
    go_upto_region 1 with fail
    rw [HW.out]
    go_wp2_with (first | (go_at_call 14; refine (CDk.out _).mono ?_; rintro _ wd ⟨rfl, hwd⟩; rw [hwd]; clear hwd) | (go_at_call 53; refine (OK.out _ T0.out).mono ?_; rintro _ a1 ⟨rfl, ha1⟩; have Ta1 : Hid (Tn _ _ _ _ _) := ha1; clear ha1) | (go_at_call 44; refine (OR.out _ Ta1.out).mono ?_; rintro _ a2 ⟨rfl, ha2⟩; have Ta2 : Hid (Tn _ _ _ _ _) := ha2; clear ha2) | go_in)
    go_ret
    exact ⟨by first | rfl | (congr 2; simp), Ta2.out⟩
  by_cases e50 : kd = 5
  · subst e50
    rw [show tellI s 5 k v = clearS s from rfl]
    clear e10 e20 e30 e40
    go_enter Try.func32, Try.ntmps32
    go_upto_region 1 with fail
    rw [HW.out]
    go_wp2_with (first | (go_at_call 14; refine (CDk.out _).mono ?_; rintro _ wd ⟨rfl, hwd⟩; rw [hwd]; clear hwd) | (go_at_call 54; refine (CK.out _ T0.out).mono ?_; rintro _ a1 ⟨rfl, ha1⟩; have Ta1 : Hid (Tn _ _ _ _ _) := ha1; clear ha1) | (go_at_call 45; refine (CR.out _ Ta1.out).mono ?_; rintro _ a2 ⟨rfl, ha2⟩; have Ta2 : Hid (Tn _ _ _ _ _) := ha2; clear ha2) | go_in)
    go_ret
    exact ⟨by first | rfl | (congr 2; simp), Ta2.out⟩
  by_cases e60 : kd = 6
  · subst e60
    rw [show tellI s 6 k v = s from rfl]
    clear e10 e20 e30 e40 e50
    go_enter Try.func32, Try.ntmps32
    go_upto_region 1 with fail
    rw [HW.out]
    go_wp2_with (first | (go_at_call 14; refine (CDk.out _).mono ?_; rintro _ wd ⟨rfl, hwd⟩; rw [hwd]; clear hwd) | (go_at_call 55; refine (LK.out _ T0.out).mono ?_; rintro _ wz ⟨rfl, hwz⟩; rw [hwz]; clear hwz) | (go_at_call 46; refine (LR.out _ T0.out).mono ?_; rintro _ wz ⟨rfl, hwz⟩; rw [hwz]; clear hwz) | go_in)
    go_ret
    exact ⟨by first | rfl | (congr 2; simp), T0.out⟩
  by_cases e70 : kd = 7
  · subst e70
    rw [show tellI s 7 k v = s from rfl]
    clear e10 e20 e30 e40 e50 e60
    go_enter Try.func32, Try.ntmps32
    go_upto_region 1 with fail
    rw [HW.out]
    go_wp2_with (first | (go_at_call 14; refine (CDk.out _).mono ?_; rintro _ wd ⟨rfl, hwd⟩; rw [hwd]; clear hwd) | (go_at_call 56; refine (KK.out _ T0.out).mono ?_; rintro _ a1 ⟨ka, kc, rfl, hx, ha1⟩; have Ta1 : Hid (Tn _ _ _ _ _) := ha1; have HXV : Hid (∀ w3, _) := hx; clear ha1 hx) | go_in)
    go_loopw [21, 22] (fun ov jv wr => ∃ j : Nat, j ≤ n ∧ jv = .int .i64 j ∧ Hid (wr.ownsRow a1.heap.size 9 1 ov j (((ks.map digS).take j).map Value.string) ∧ Below a1.heap.size a1 wr)) (fun _ jv _ => (n - intOf jv).toNat)
    case atStart => exact ⟨0, Nat.zero_le _, rfl, World.ownsRow_nil _ _ _ _, Below.refl _ _⟩
    case round =>
      obtain ⟨j, hj, rfl, HO⟩ := hrel
      obtain ⟨oa, oc, ho⟩ := own_formS HO.out.1
      subst ho
      by_cases hjn : j < n
      · have hjn' : (j : Int) < n := by omega
        have hjx : j < ks.length := by rw [HN.out]; exact hjn
        obtain ⟨b, off, hka, d1⟩ := HXV.out wr HO.out.2 j hjn
        subst hka
        have HE0 : (ks.map digS).take (j + 1) = (ks.map digS).take j ++ [digS (ks.getD j 0)] := by
          have hj2 : j < (ks.map digS).length := by rw [List.length_map]; exact hjx
          rw [List.take_succ_eq_append_getElem hj2, List.getElem_map, List.getD_eq_getElem?_getD, List.getElem?_eq_getElem hjx]; rfl
        obtain ⟨y, hy0⟩ : ∃ y, ks.getD j 0 = y := ⟨_, rfl⟩
        rw [hy0] at d1 HE0
        obtain ⟨x, hx0⟩ : ∃ x, digS y = x := ⟨_, rfl⟩
        have CDy : Hid (∀ w, Calls Try.prog 14 #[.int .i64 y] w fun e w' => e = .returned (.string x) ∧ w' = w) := fun w => by rw [← hx0]; exact digitsC y w
        rw [hx0] at HE0
        have HE : Hid ((ks.map digS).take (j + 1) = (ks.map digS).take j ++ [x]) := HE0
        have hmx : Hid (j + 1 ≤ maxLen ∧ (j + 1) * 16 ≤ 140737488355328) := by
          have := HN5.out
          exact ⟨by unfold maxLen; omega, by omega⟩
        have HOa : Hid ((wr.alloc (.cells #[.string x] 9)).ownsRow a1.heap.size 9 1 (.slice oa j oc) j (((ks.map digS).take j).map Value.string)) := HO.out.1.alloc (.cells #[.string x] 9)
        have HBa : Hid (Below a1.heap.size a1 (wr.alloc (.cells #[.string x] 9)) ∧ a1.heap.size ≤ (wr.alloc (.cells #[.string x] 9)).heap.size) := by
          have b := HO.out.2.alloc HO.out.2.size (.cells #[.string x] 9)
          exact ⟨b, b.size⟩
        clear HE0 hx0 hy0
        go_wp2_with (first | (go_at_call 14; refine (CDy.out _).mono ?_; rintro _ wd ⟨rfl, hwd⟩; rw [hwd]; clear hwd) | (at_builtin; (refine wpList_append_own _ rfl _ _ 30 rfl a1.heap.size 9 i9 (.string ByteArray.empty) 1 16 Try.underlying30 HIN.out.1 HIN.out.2.1 HIN.out.2.2.1 HIN.out.2.2.2 rfl (by decide) _ j _ rfl HOa.out ⟨wr.heap.size, 0, none⟩ 1 1 [.string x] rfl rfl (new_text _ _ _) (one_text _) hmx.out.1 hmx.out.2 HBa.out.2 ?_; intro k1 w3 ho hg hnn; have HO3 : Hid (World.ownsRow _ _ _ _ _ _ _) := ho; have HG3 : Hid (World.grownBy _ _ _) := hg; clear ho hg hnn)) | go_in)
        have REL : Hid (w3.ownsRow a1.heap.size 9 1 k1 (j + 1) (((ks.map digS).take (j + 1)).map Value.string) ∧ Below a1.heap.size a1 w3) := by
          refine ⟨?_, below_grownBy HBa.out.1 HG3.out (Nat.le_refl _) (fun q hq => (HOa.out.lt q hq).1)⟩
          rw [HE.out, List.map_append]
          exact HO3.out
        go_roundw
        case rel => exact ⟨j + 1, by omega, by go_num, REL.out⟩
        case measure => simp [intOf]; omega
      · have hjn' : ¬ (j : Int) < n := by omega
        have ej : j = n := by omega
        have HJ : (ks.map digS).take j = ks.map digS := List.take_of_length_le (by rw [List.length_map, HN.out]; omega)
        have HO2 := HO.out
        rw [HJ] at HO2
        have TW : Hid (Tn (CI g mb rg) F w (s, mp s) wr) := Ta1.out.later HO2.2
        have RX : Hid (ReadsT wr (.slice oa j oc) (ks.map digS)) := own_readsT HO2.1
        clear HO2 HJ ej HO Ta1 HXV
        go_wp2_with (first | (go_at_call 47; refine (KR.out _ _ TW.out RX.out).mono ?_; rintro _ a2 ⟨yv, rfl, hx, hy, ha2⟩; have Ta2 : Hid (Tn _ _ _ _ _) := ha2; have HXV2 : Hid (ReadsT _ _ _) := hx; have HYV2 : Hid (ReadsT _ _ _) := hy; clear ha2 hx hy) | (go_at_call 20; refine (KS.out _ _ _ Ta2.out HXV2.out HYV2.out).mono ?_; rintro _ a3 ⟨rfl, ha3⟩; have Ta3 : Hid (Tn _ _ _ _ _) := ha3; clear ha3) | go_in)
        go_ret
        exact ⟨rfl, Ta3.out⟩
  by_cases e80 : kd = 8
  · subst e80
    rw [show tellI s 8 k v = s from rfl]
    clear e10 e20 e30 e40 e50 e60 e70
    go_enter Try.func32, Try.ntmps32
    go_upto_region 1 with fail
    rw [HW.out]
    go_wp2_with (first | (go_at_call 14; refine (CDk.out _).mono ?_; rintro _ wd ⟨rfl, hwd⟩; rw [hwd]; clear hwd) | (go_at_call 57; refine (NK.out _ T0.out).mono ?_; rintro _ a1 ⟨rfl, ha1⟩; have Ta1 : Hid (Tn _ _ _ _ _) := ha1; clear ha1) | (go_at_call 48; refine (NR.out _ Ta1.out).mono ?_; rintro _ a2 ⟨rfl, ha2⟩; have Ta2 : Hid (Tn _ _ _ _ _) := ha2; clear ha2) | go_in)
    go_ret
    exact ⟨by first | rfl | (congr 2; simp), Ta2.out⟩
  have q1 : (kd == 1) = false := by simpa using e10
  have q2 : (kd == 2) = false := by simpa using e20
  have q3 : (kd == 3) = false := by simpa using e30
  have q4 : (kd == 4) = false := by simpa using e40
  have q5 : (kd == 5) = false := by simpa using e50
  have q6 : (kd == 6) = false := by simpa using e60
  have q7 : (kd == 7) = false := by simpa using e70
  have q8 : (kd == 8) = false := by simpa using e80
  have HT : Hid (tellI s kd k v = s) := by show _ = _; unfold tellI; rw [if_neg e10, if_neg e30, if_neg e40, if_neg e50]
  clear e10 e20 e30 e40 e50 e60 e70 e80
  go_enter Try.func32, Try.ntmps32
  go_upto_region 1 with fail
  rw [HW.out]
  go_wp2_with (first | (go_at_call 14; refine (CDk.out _).mono ?_; rintro _ wd ⟨rfl, hwd⟩; rw [hwd]; clear hwd) | go_in)
  go_ret
  exact ⟨rfl, by rw [HT.out]; exact T0.out⟩
end Go.Proofs.Ytjkkijeamcihiaa.jn
