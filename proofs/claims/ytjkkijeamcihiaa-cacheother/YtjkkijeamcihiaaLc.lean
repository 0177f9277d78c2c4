import Derived.Test.YtjkkijeamcihiaaLb
import Derived.Deep.RegionWith
namespace Go.Proofs.Ytjkkijeamcihiaa.lc
open Go.RowKit Go.PlainAid Go.Maps
open Go.Proofs.Ytjkkijeamcihiaa.cp Go.Proofs.Ytjkkijeamcihiaa.kp Go.Proofs.Ytjkkijeamcihiaa.ka Go.Proofs.Ytjkkijeamcihiaa.bn Go.Proofs.Ytjkkijeamcihiaa.ra Go.Proofs.Ytjkkijeamcihiaa.rb Go.Proofs.Ytjkkijeamcihiaa.rc Go.Proofs.Ytjkkijeamcihiaa.rd Go.Proofs.Ytjkkijeamcihiaa.re Go.Proofs.Ytjkkijeamcihiaa.rf Go.Proofs.Ytjkkijeamcihiaa.rg Go.Proofs.Ytjkkijeamcihiaa.rh Go.Proofs.Ytjkkijeamcihiaa.ri Go.Proofs.Ytjkkijeamcihiaa.rj Go.Proofs.Ytjkkijeamcihiaa.rk Go.Proofs.Ytjkkijeamcihiaa.sa Go.Proofs.Ytjkkijeamcihiaa.lz Go.Proofs.Ytjkkijeamcihiaa.la Go.Proofs.Ytjkkijeamcihiaa.lb
open Go.Proofs.Ytjkkijeamcihiaa.rl (below_grownBy)
set_option linter.unusedVariables false
set_option linter.unusedSimpArgs false
-- two things as one
def pairO {σ τ : Type} (O : Thg σ) (U : Thg τ) : Thg (σ × τ) where
  P s F w := ∃ F1 F2, O.P s.1 F1 w ∧ U.P s.2 F2 w ∧ (∀ k, F1 k → ¬ F2 k) ∧ ∀ k, F k ↔ F1 k ∨ F2 k
  keep := by
    rintro s F w w' A ⟨F1, F2, h1, h2, h3, h4⟩ k hn
    exact ⟨F1, F2, O.keep h1 k (fun j hj => hn j ((h4 j).2 (.inl hj))), U.keep h2 k (fun j hj => hn j ((h4 j).2 (.inr hj))), h3, h4⟩
  lt := by
    rintro s F w ⟨F1, F2, h1, h2, h3, h4⟩ k hk
    rcases (h4 k).1 hk with h | h
    · exact O.lt h1 k h
    · exact U.lt h2 k h
section
variable {σ τ : Type} {O : Thg σ} {U : Thg τ} {s s' : σ} {t t' : τ} {w w' : World}
theorem pair_fst {F : Nat → Prop} (h : (pairO O U).P (s, t) F w) : ∃ F1, O.P s F1 w ∧ ∀ s' F1' w', O.P s' F1' w' → Turn F1 F1' w w' → ∃ F', (pairO O U).P (s', t) F' w' ∧ Turn F F' w w' := by
  obtain ⟨F1, F2, h1, h2, h3, h4⟩ := h
  refine ⟨F1, h1, fun s' F1' w' g1 g2 => ⟨fun k => F1' k ∨ F2 k, ⟨F1', F2, g1, U.keep h2 g2.1 (fun k hk hf => h3 k hf hk), fun k hk hf => ?_, fun k => Iff.rfl⟩, g2.1.mono (fun k hk => (h4 k).2 (.inl hk)), fun k hk => ?_⟩⟩
  · rcases g2.2 k hk with h | h
    · exact h3 k h hf
    · have := U.lt h2 k hf
      omega
  · rcases hk with hk | hk
    · rcases g2.2 k hk with h | h
      · exact .inl ((h4 k).2 (.inl h))
      · exact .inr h
    · exact .inl ((h4 k).2 (.inr hk))
theorem pair_snd {F : Nat → Prop} (h : (pairO O U).P (s, t) F w) : ∃ F1, U.P t F1 w ∧ ∀ t' F1' w', U.P t' F1' w' → Turn F1 F1' w w' → ∃ F', (pairO O U).P (s, t') F' w' ∧ Turn F F' w w' := by
  obtain ⟨F1, F2, h1, h2, h3, h4⟩ := h
  refine ⟨F2, h2, fun s' F2' w' g1 g2 => ⟨fun k => F1 k ∨ F2' k, ⟨F1, F2', O.keep h1 g2.1 (fun k hk hf => h3 k hk hf), g1, fun k hk hf => ?_, fun k => Iff.rfl⟩, g2.1.mono (fun k hk => (h4 k).2 (.inr hk)), fun k hk => ?_⟩⟩
  · rcases g2.2 k hf with h | h
    · exact h3 k hk h
    · have := O.lt h1 k hk
      omega
  · rcases hk with hk | hk
    · exact .inl ((h4 k).2 (.inl hk))
    · rcases g2.2 k hk with h | h
      · exact .inl ((h4 k).2 (.inr h))
      · exact .inr h
theorem lift1 {f : Nat} {args : Array Value} {r : Ending} (C : ∀ F, O.P s F w → Calls Try.prog f args w fun e w' => e = r ∧ ∃ F', O.P s' F' w' ∧ Turn F F' w w') :
    ∀ F, (pairO O U).P (s, t) F w → Calls Try.prog f args w fun e w' => e = r ∧ ∃ F', (pairO O U).P (s', t) F' w' ∧ Turn F F' w w' := fun F h => by
  obtain ⟨F1, h1, h2⟩ := pair_fst h
  exact (C F1 h1).mono fun e w' ⟨g1, F', g2, g3⟩ => ⟨g1, h2 _ _ _ g2 g3⟩
theorem lift2 {f : Nat} {args : Array Value} {r : Ending} (C : ∀ F, U.P t F w → Calls Try.prog f args w fun e w' => e = r ∧ ∃ F', U.P t' F' w' ∧ Turn F F' w w') :
    ∀ F, (pairO O U).P (s, t) F w → Calls Try.prog f args w fun e w' => e = r ∧ ∃ F', (pairO O U).P (s, t') F' w' ∧ Turn F F' w w' := fun F h => by
  obtain ⟨F1, h1, h2⟩ := pair_snd h
  exact (C F1 h1).mono fun e w' ⟨g1, F', g2, g3⟩ => ⟨g1, h2 _ _ _ g2 g3⟩
theorem One.put {B : Nat} {w0 : World} (h : One O B s w0 w) {G : Nat → Prop} (hu : U.P t G w') (hb : Below w.heap.size w w') (hG : ∀ k, G k → w.heap.size ≤ k) : One (pairO O U) B (s, t) w0 w' := by
  obtain ⟨F, h1, h2, h3, h4⟩ := h
  have hs : B ≤ w.heap.size := Nat.le_trans h4 h3.size
  refine ⟨fun k => F k ∨ G k, ⟨F, G, O.keep h1 (Kp.of_below (A := fun _ => False) hb) (fun _ _ e => e), hu, fun k hk hg => ?_, fun k => Iff.rfl⟩, fun k hk => ?_, ov h3 (dn hb hs), h4⟩
  · have := O.lt h1 k hk
    have := hG k hg
    omega
  · rcases hk with hk | hk
    · exact h2 k hk
    · exact Nat.le_trans hs (hG k hk)
theorem One.born {B : Nat} (hB : B ≤ w.heap.size) {G : Nat → Prop} (hu : O.P s G w') (hb : Below w.heap.size w w') (hG : ∀ k, G k → w.heap.size ≤ k) : One O B s w w' :=
  ⟨G, hu, fun k hk => Nat.le_trans hB (hG k hk), dn hb hB, hB⟩
theorem One.below {B : Nat} {w0 : World} (h : One O B s w0 w) : Below B w0 w := h.choose_spec.2.2.1
theorem One.fst {B : Nat} {w0 : World} (h : One (pairO O U) B (s, t) w0 w) : One O B s w0 w := by
  obtain ⟨F, ⟨F1, F2, h1, h2, h3, h4⟩, h5, h6, h7⟩ := h
  exact ⟨F1, h1, fun k hk => h5 k ((h4 k).2 (.inl hk)), h6, h7⟩
theorem One.snd {B : Nat} {w0 : World} (h : One (pairO O U) B (s, t) w0 w) : One U B t w0 w := by
  obtain ⟨F, ⟨F1, F2, h1, h2, h3, h4⟩, h5, h6, h7⟩ := h
  exact ⟨F2, h2, fun k hk => h5 k ((h4 k).2 (.inr hk)), h6, h7⟩
theorem One.get {B : Nat} {w0 : World} (h : One O B s w0 w) : ∃ F, O.P s F w := ⟨_, h.choose_spec.1⟩
theorem One.hb {B : Nat} {w0 : World} (h : One O B s w0 w) : B ≤ w.heap.size := Nat.le_trans h.choose_spec.2.2.2 (One.below h).size
end
-- lists as things
structure Rdr (α : Type) where
  R : World → Value → List α → Prop
  keep : ∀ {w w' v l A}, R w v l → Kp A w w' → (∀ k, v.ownBlock = some k → l ≠ [] → ¬ A k) → R w' v l
def RowO {α : Type} (r : Rdr α) : Thg (Value × List α) where
  P s F w := r.R w s.1 s.2 ∧ (∀ k, s.1.ownBlock = some k → s.2 ≠ [] → F k) ∧ ∀ k, F k → k < w.heap.size
  keep := by
    rintro s F w w' A ⟨h1, h2, h3⟩ k hn
    exact ⟨r.keep h1 k (fun j hj hl => hn j (h2 j hj hl)), h2, fun j hj => Nat.lt_of_lt_of_le (h3 j hj) k.size⟩
  lt := fun ⟨h1, h2, h3⟩ k hk => h3 k hk
def rdT : Rdr ByteArray where
  R := ReadsT
  keep := by
    rintro w w' v l A ⟨a, cap, rfl, hc, h0 | ⟨b, off, rfl, hh⟩⟩ k hn
    · exact ⟨a, cap, rfl, hc, .inl h0⟩
    · refine ⟨_, cap, rfl, hc, .inr ⟨b, off, rfl, fun i hi => k.cell (hh i hi) (hn b rfl ?_)⟩⟩
      rintro rfl
      cases hi
structure Opc where
  kind : Int
  k : Int
  v : ByteArray
def ReadsC (w : World) (v : Value) (l : List Opc) : Prop :=
  ∃ a c, v = .slice a l.length c ∧ (l.length = 0 ∨ ∃ b off, a = some ⟨b, off, none⟩ ∧ ∀ i o, l[i]? = some o → w.cell? ⟨b, off + i * 3, none⟩ = some (.int .i64 o.kind) ∧ w.cell? ⟨b, off + i * 3 + 1, none⟩ = some (.int .i64 o.k) ∧ w.cell? ⟨b, off + i * 3 + 2, none⟩ = some (.string o.v))
def rdC : Rdr Opc where
  R := ReadsC
  keep := by
    rintro w w' v l A ⟨a, cap, rfl, h0 | ⟨b, off, rfl, hh⟩⟩ k hn
    · exact ⟨a, cap, rfl, .inl h0⟩
    · refine ⟨_, cap, rfl, .inr ⟨b, off, rfl, fun i o hi => ?_⟩⟩
      have hb : ¬ A b := hn b rfl (by rintro rfl; cases hi)
      obtain ⟨q0, q1, q2⟩ := hh i o hi
      exact ⟨k.cell q0 hb, k.cell q1 hb, k.cell q2 hb⟩
theorem row_new {α : Type} {r : Rdr α} {w w' : World} {v : Value} {l : List α} (h : r.R w' v l) (ho : ∀ k, v.ownBlock = some k → w.heap.size ≤ k ∧ k < w'.heap.size) : (RowO r).P (v, l) (fun k => v.ownBlock = some k) w' ∧ ∀ k, v.ownBlock = some k → w.heap.size ≤ k :=
  ⟨⟨h, fun k hk _ => hk, fun k hk => (ho k hk).2⟩, fun k hk => (ho k hk).1⟩
-- within
set_option maxHeartbeats 1600000 in
theorem withinC {ga ma gb mb : Nat} {s t : St} {w : World} {F G : Nat → Prop} (ha : (ChO ga ma).P s F w) (hb : (ChO gb mb).P t G w) (hin : ∀ p ∈ s.l, fnd p.1 t.l = some p.2) :
    Calls Try.prog 28 #[pt ⟨ga, 0, none⟩, pt ⟨gb, 0, none⟩] w fun e w' => e = .returned (.bool true) ∧ Below w.heap.size w w' := by
  have CK : Hid (Calls _ _ _ _ _) := cKeys ha
  have HA : Hid (∀ w', Below w.heap.size w w' → (ChO ga ma).P s F w') := fun w' h => (ChO ga ma).keep ha (Kp.of_below (A := fun _ => False) h) (fun _ _ e => e)
  have HB : Hid (∀ w', Below w.heap.size w w' → (ChO gb mb).P t G w') := fun w' h => (ChO gb mb).keep hb (Kp.of_below (A := fun _ => False) h) (fun _ _ e => e)
  have HK : Hid (∀ i (hi : i < (keys s.l).length), okK (keys s.l)[i] ∧ ∃ v, fnd (keys s.l)[i] s.l = some v ∧ fnd (keys s.l)[i] t.l = some v) := fun i hi => by
    refine ⟨cKeysOk ha _ (List.getElem_mem hi), ?_⟩
    have hi2 : i < s.l.length := by unfold keys at hi; rw [List.length_map] at hi; exact hi
    have e : (keys s.l)[i] = (s.l[i]).1 := by simp [keys]
    rw [e]
    exact ⟨(s.l[i]).2, (fnd_some (cOk ha).nd).2 (List.getElem_mem hi2), hin _ (List.getElem_mem hi2)⟩
  have hnb : s.l.length ≤ 4096 := Nat.le_trans (cOk ha).len (cOk ha).most
  obtain ⟨n, HN⟩ : ∃ n, Hid ((keys s.l).length = n) := ⟨_, rfl⟩
  have hn2 : n ≤ 4096 := by rw [← HN.out]; unfold keys; rw [List.length_map]; exact hnb
  have hnm : (n : Int) ≤ 1000000 := by omega
  clear ha hb hin hnb hn2
  unfold pt at *
  go_enter Try.func28, Try.ntmps28
  go_wp2_with (first | (go_at_call 21; refine CK.out.mono ?_; rintro _ w1 ⟨kv, rfl, ho, hb⟩; have HO : Hid (World.ownsRow _ _ _ _ _ _ _) := ho; have HB1 : Hid (Below _ _ _) := hb; clear ho hb) | go_in)
  obtain ⟨ka, kc, hkv⟩ := own_formS HO.out
  have HR : Hid (ReadsT w1 kv (keys s.l)) := own_readsT HO.out
  rw [HN.out] at hkv
  subst hkv
  go_loopw [6] (fun iv wr => ∃ i : Nat, i ≤ n ∧ iv = .int .i64 i ∧ Hid (Below w1.heap.size w1 wr)) (fun iv _ => (n - intOf iv).toNat)
  case atStart => exact ⟨0, Nat.zero_le _, rfl, Below.refl _ _⟩
  case round =>
    obtain ⟨i, hi, rfl, HW⟩ := hrel
    by_cases hlt : i < n
    · have hlt' : (i : Int) < n := by omega
      have hi2 : i < (keys s.l).length := by rw [HN.out]; exact hlt
      obtain ⟨b, off, rfl, hc⟩ : ∃ b off, ka = some ⟨b, off, none⟩ ∧ ∀ w', Below w1.heap.size w1 w' → w'.cell? ⟨b, off + i, none⟩ = some (.string (keys s.l)[i]) := by
        obtain ⟨a', cap', e, _, h0 | ⟨b, off, e4, hh⟩⟩ := HR.out
        · omega
        · injection e with e1 _ _
          refine ⟨b, off, by rw [e1]; exact e4, fun w' hb' => ?_⟩
          have := hh i hi2
          rw [getD_at _ _ hi2] at this
          exact (hb'.cell (p := ⟨b, off + i, none⟩) (World.block_lt_of_cell? _ _ this)).trans this
      obtain ⟨hok, v, f1, f2⟩ := HK.out i hi2
      obtain ⟨x, HX⟩ : ∃ x : ByteArray, Hid ((keys s.l)[i] = x) := ⟨_, (rfl : (keys s.l)[i] = (keys s.l)[i])⟩
      rw [HX.out] at hok f1 f2 hc
      have hs1 : w.heap.size ≤ w1.heap.size := HB1.out.size
      have C1 : Hid (∀ w', Below w1.heap.size w1 w' → w'.cell? ⟨b, off + i, none⟩ = some (.string x) ∧ Calls Try.prog 18 #[.pointer (some ⟨ga, 0, none⟩), .string x] w' (fun e w' => e = .returned (.tuple #[.string v, .bool true]) ∧ ∃ w0, w0 = w')) := fun w' hb' => ⟨hc w' hb', by
        have := cPeek x (HA.out w' (ov HB1.out (dn hb' hs1))) hok
        rw [f1] at this
        exact this.mono fun e w2 ⟨g1, g2⟩ => ⟨g1, w2, rfl⟩⟩
      have P1 : Hid (∀ w', Below w1.heap.size w1 w' → Calls Try.prog 18 #[.pointer (some ⟨ga, 0, none⟩), .string x] w' (fun e w2 => e = .returned (.tuple #[.string v, .bool true]) ∧ Below w1.heap.size w1 w2)) := fun w' hb' => by
        have := cPeek x (HA.out w' (ov HB1.out (dn hb' hs1))) hok
        rw [f1] at this
        exact this.mono fun e w2 ⟨g1, g2⟩ => ⟨g1, ov hb' (dn g2 hb'.size)⟩
      have P2 : Hid (∀ w', Below w1.heap.size w1 w' → Calls Try.prog 18 #[.pointer (some ⟨gb, 0, none⟩), .string x] w' (fun e w2 => e = .returned (.tuple #[.string v, .bool true]) ∧ Below w1.heap.size w1 w2)) := fun w' hb' => by
        have := cPeek x (HB.out w' (ov HB1.out (dn hb' hs1))) hok
        rw [f2] at this
        exact this.mono fun e w2 ⟨g1, g2⟩ => ⟨g1, ov hb' (dn g2 hb'.size)⟩
      have HCX : Hid (∀ w', Below w1.heap.size w1 w' → w'.cell? ⟨b, off + i, none⟩ = some (.string x)) := hc
      have d1 := hc wr HW.out
      have hvv : (v.toList == v.toList) = true := beq_self_eq_true _
      clear hc f1 f2 hs1 C1
      go_upto_region 6 with (first | (go_at_call 18; refine (P1.out _ HW.out).mono ?_; rintro _ w2 ⟨rfl, h2⟩; have H2 : Hid (Below w1.heap.size w1 w2) := h2; have d2 := HCX.out _ h2; clear h2) | go_in)
      go_wp2_with (first | (go_at_call 18; refine (P2.out _ H2.out).mono ?_; rintro _ w3 ⟨rfl, h3⟩; have H3 : Hid (Below w1.heap.size w1 w3) := h3; clear h3) | go_in)
      go_roundw
      case rel => exact ⟨i + 1, by omega, by go_num, H3.out⟩
      case measure => simp [intOf]; omega
    · have hlt' : decide ((i : Int) < n) = false := by simp; omega
      go_wp2
      go_ret
      exact ⟨rfl, ov HB1.out (dn HW.out HB1.out.size)⟩
end Go.Proofs.Ytjkkijeamcihiaa.lc
