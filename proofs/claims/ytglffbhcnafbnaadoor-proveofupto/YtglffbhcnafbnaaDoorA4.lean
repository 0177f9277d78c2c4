import Derived.Test.YtglffbhcnafbnaaDoorB1
import Derived.Deep.RegionHeld3
import Derived.Handy
import Derived.Laws.BitsAllLaws
import Derived.Test.YtglffbhcnafbnaaDoorA3
import Derived.Test.YtglffbhcnafbnaaDoorA2
import Derived.Deep.AppendLies
import Derived.Laws.AppendOwnNone
import Derived.Lib.SliceRun
import Derived.Laws.EntriesVeiled
import Derived.Deep.DeepCutAuto
import Derived.BigQuiet
namespace Go.Proofs.YtglffbhcnafbnaaDoor.va
open Go.RowKit Go.PlainAid
open Go.Proofs.YtglffbhcnafbnaaDoor.ca Go.Proofs.YtglffbhcnafbnaaDoor.cp Go.Proofs.YtglffbhcnafbnaaDoor.cu Go.Proofs.YtglffbhcnafbnaaDoor.cq
set_option linter.unusedVariables false

set_option maxHeartbeats 800000 in
theorem valid (L I : Int) (w : World) :
    Calls Tryd.prog 72 #[.agg #[.int .i64 L, .int .i64 I]] w fun e w' => e = .returned (.bool (decide (okA L I))) ∧ Below w.heap.size w w' := by
  obtain ⟨r, HR⟩ : ∃ r, Hid (decide (okA L I) = r) := ⟨_, rfl⟩
  rw [HR.out]
  have B0 : Hid (Below w.heap.size w (w.alloc (.cells #[.int .i64 L, .int .i64 I] 36))) := (Below.refl _ _).alloc (Nat.le_refl _) _
  have HF : ¬ okA L I → Hid (r = false) := fun h => by show _ = _; rw [← HR.out]; exact decide_eq_false h
  by_cases a1 : L < 0
  · have HV : Hid (r = false) := HF (fun h => by have := h.1; omega)
    clear HF
    go_enter Tryd.func72, Tryd.ntmps72
    go_wp2
    go_ret
    exact ⟨by rw [HV.out]; rfl, B0.out⟩
  · by_cases a2 : L > 62
    · have HV : Hid (r = false) := HF (fun h => by have := h.2.1; omega)
      clear HF
      go_enter Tryd.func72, Tryd.ntmps72
      go_wp2
      go_ret
      exact ⟨by rw [HV.out]; rfl, B0.out⟩
    · by_cases a3 : 0 ≤ I
      · obtain ⟨k, rfl⟩ : ∃ k : Nat, L = k := ⟨L.toNat, by omega⟩
        have hk : k ≤ 62 := by omega
        obtain ⟨t, HT⟩ : ∃ t : Nat, Hid (2 ^ k = t) := ⟨_, rfl⟩
        have hT : (2 : Int) ^ k = (t : Int) := by rw [cast_pow, HT.out]
        have HV : Hid (r = decide (I < 4611686018427387904 / (t : Int))) := by
          show _ = _
          rw [← HR.out]
          refine decide_eq_decide.2 ?_
          unfold okA
          rw [Int.toNat_natCast, hT]
          omega
        have hw3 : min (k : Int).toNat 64 = k := by omega
        have hw4 : min k 64 = k := by omega
        clear HF
        go_enter Tryd.func72, Tryd.ntmps72
        go_wp2_with fail
        go_quiet (fail)
        go_wp2
        go_ret
        exact ⟨by rw [HV.out]; rfl, below_dN B0.out _⟩
      · have HV : Hid (r = false) := HF (fun h => by have := h.2.2.1; omega)
        have a4 : decide (0 ≤ I) = false := decide_eq_false a3
        clear HF
        go_enter Tryd.func72, Tryd.ntmps72
        go_wp2_with fail
        go_quiet (fail)
        go_wp2
        go_ret
        exact ⟨by rw [HV.out]; rfl, below_dN B0.out _⟩
theorem validC : ValidC := fun L I _ _ w => valid L I w
set_option maxHeartbeats 800000 in
theorem span (L I : Int) (w : World) :
    Calls Tryd.prog 45 #[.agg #[.int .i64 L, .int .i64 I]] w fun e w' => e = .returned (spV L I) ∧ Below w.heap.size w w' := by
  have V1 : Hid (∀ w, Calls _ _ _ _ _) := fun w => valid L I w
  by_cases hok : okA L I
  · obtain ⟨k, i, rfl, rfl, hk, hf⟩ := okA_form hok
    rw [decide_eq_true hok] at V1
    rw [spV_nat hok]
    have HX : Hid (Bx (w.alloc (.cells #[.int .i64 (k : Int), .int .i64 (i : Int)] 36)) w.heap.size k i) := bx_new _ _ _
    obtain ⟨f, HF⟩ : ∃ f, Hid (i * 2 ^ k = f) := ⟨_, rfl⟩
    obtain ⟨g, HG⟩ : ∃ g, Hid ((i + 1) * 2 ^ k = g) := ⟨_, rfl⟩
    rw [HF.out, HG.out]
    rw [HG.out] at hf
    clear hok
    go_enter Tryd.func45, Tryd.ntmps45
    go_wp2_with fail
    refine (V1.out _).mono ?_
    rintro e w1 ⟨rfl, hb⟩
    have B1 : Hid (Below w.heap.size w w1) := over ((Below.refl _ _).alloc (Nat.le_refl _) _) hb
    obtain ⟨c1, c2⟩ := HX.out.later hb
    have him : i ≤ 4611686018427387904 := by
      have := Nat.le_mul_of_pos_right (i + 1) (p2 k)
      rw [HG.out] at this
      omega
    have hfg : f ≤ g := by rw [← HF.out, ← HG.out]; exact Nat.mul_le_mul_right _ (by omega)
    have hw2 : IntKind.u64.wrap (k : Int) = k := u64_is k (by omega)
    have hw3 : min (k : Int).toNat 64 = k := by omega
    have hw4 : min k 64 = k := by omega
    have hw5 : IntKind.i64.wrap ((i : Int) * 2 ^ k) = f := by rw [cast_pow, ← Int.natCast_mul, HF.out]; exact wrap_is f (by omega)
    have hw6 : IntKind.i64.wrap ((i : Int) + 1) = (i : Int) + 1 := by rw [IntKind.wrap_i64]; omega
    have hw7 : IntKind.i64.wrap (((i : Int) + 1) * 2 ^ k) = g := by rw [cast_pow, show (i : Int) + 1 = ((i + 1 : Nat) : Int) by omega, ← Int.natCast_mul, HG.out]; exact wrap_is g (by omega)
    clear hb
    go_wp2_with fail
    go_quiet (fail)
    go_wp2
    go_returns
    exact ⟨rfl, below_dN B1.out _⟩
  · rw [decide_eq_false hok] at V1
    rw [show spV L I = .tuple #[.int .i64 0, .int .i64 0, .int .i64 50] by unfold spV; rw [if_neg hok]]
    clear hok
    go_enter Tryd.func45, Tryd.ntmps45
    go_wp2_with fail
    refine (V1.out _).mono ?_
    rintro e w1 ⟨rfl, hb⟩
    have B1 : Hid (Below w.heap.size w w1) := over ((Below.refl _ _).alloc (Nat.le_refl _) _) hb
    clear hb
    go_wp2
    go_returns
    exact ⟨rfl, B1.out⟩
theorem spanC : SpanC := fun L I _ _ w => span L I w
end Go.Proofs.YtglffbhcnafbnaaDoor.va

namespace Go.Proofs.YtglffbhcnafbnaaDoor.bk
open Go.RowKit Go.PlainAid
open Go.Proofs.YtglffbhcnafbnaaDoor.pl Go.Proofs.YtglffbhcnafbnaaDoor.pi Go.Proofs.YtglffbhcnafbnaaDoor.rf Go.Proofs.YtglffbhcnafbnaaDoor.pj Go.Proofs.YtglffbhcnafbnaaDoor.ca Go.Proofs.YtglffbhcnafbnaaDoor.cb Go.Proofs.YtglffbhcnafbnaaDoor.cp Go.Proofs.YtglffbhcnafbnaaDoor.cs Go.Proofs.YtglffbhcnafbnaaDoor.cu Go.Proofs.YtglffbhcnafbnaaDoor.va Go.Proofs.YtglffbhcnafbnaaDoor.ka Go.Proofs.YtglffbhcnafbnaaDoor.kb Go.Proofs.YtglffbhcnafbnaaDoor.kc Go.Proofs.YtglffbhcnafbnaaDoor.ga Go.Proofs.YtglffbhcnafbnaaDoor.aa Go.Proofs.YtglffbhcnafbnaaDoor.ab Go.Proofs.YtglffbhcnafbnaaDoor.tb Go.Proofs.YtglffbhcnafbnaaDoor.ac Go.Proofs.YtglffbhcnafbnaaDoor.ba Go.Proofs.YtglffbhcnafbnaaDoor.bc Go.Proofs.YtglffbhcnafbnaaDoor.bf
set_option linter.unusedVariables false

structure Tw (w w' : World) : Prop where
  t : Tab w'
  b : Below w.heap.size w w'
theorem Tw.on {w w' w'' : World} (h : Tw w w') (hb : Below w'.heap.size w' w'') : Tw w w'' := ⟨h.t.down hb, over h.b hb⟩
theorem Tw.drew {w w' : World} (h : Tw w w') : Tw w w'.drew := h.on (below_dN (Below.refl _ _) 1)
theorem root_size {wd : Int} {xs : List ByteArray} (hx : ∀ x ∈ xs, x.size ≤ 1048576) : (rootP (EF wd) (NF wd) xs).size ≤ 1048576 := by
  rcases Nat.lt_or_ge xs.length 2 with e | e
  · match xs, e, hx with
    | [], _, _ => rw [rootP_nil]; show (cutS _ _).size ≤ _; rw [cutS_size]; have := wid_le wd; omega
    | [x], _, hx => rw [rootP_one]; exact hx x (List.mem_cons_self ..)
  · rw [rootP_half _ _ e]; show (cutS _ _).size ≤ _; rw [cutS_size]; have := wid_le wd; omega
set_option maxHeartbeats 3200000 in
theorem above (wd : Int) (j : Nat) : ∀ (xs : List ByteArray) (b off cap : Nat) (w : World), j ≤ 62 → xs.length = 2 ^ j → Tab w → ReadsT w (.slice (some ⟨b, off, none⟩) (2 ^ j) cap) xs → (∀ x ∈ xs, x.size ≤ 1048576) → 2 ^ j ≤ cap → cap ≤ 9223372036854775807 →
    Calls Tryd.prog 46 #[.int .i64 wd, .slice (some ⟨b, off, none⟩) (2 ^ j : Nat) cap] w fun e w' => e = .returned (.string (rootP (EF wd) (NF wd) xs)) ∧ Below w.heap.size w w' := by
  induction j with
  | zero =>
    intro xs b off cap w _ hn hT hR hx hc _
    obtain ⟨x, rfl⟩ := List.length_eq_one_iff.1 hn
    obtain ⟨a', cap', e, _, h0 | ⟨b', off', e4, hh⟩⟩ := hR
    · simp at h0
    · injection e with e1 e2 e3
      rw [← e1] at e4
      obtain ⟨rfl, rfl⟩ : b = b' ∧ off = off' := by injection e4 with e4; injection e4 with e5 e6; exact ⟨e5, e6⟩
      have c0 := hh 0 (by simp)
      rw [Nat.add_zero] at c0
      have c1 : w.cell? ⟨b, off, none⟩ = some (.string x) := c0
      rw [rootP_one, Nat.pow_zero]
      clear hT hx hh c0 e4 e1 e2 e3
      go_enter Tryd.func46, Tryd.ntmps46
      go_wp2
      go_ret
      exact ⟨rfl, Below.refl _ _⟩
  | succ j ih =>
    intro xs b off cap w hj hn hT hR hx hc hcc
    have hp := p2s j
    have hp0 := p2 j
    obtain ⟨t, HTT⟩ : ∃ t : Nat, Hid ((2 : Nat) ^ j = t) := ⟨2 ^ j, rfl⟩
    rw [hp, HTT.out] at hn hR hc
    rw [HTT.out] at hp0
    have R1 : Hid (ReadsT w (.slice (some ⟨b, off, none⟩) t cap) (xs.take t)) := hR.front (by omega)
    have R2 : Hid (ReadsT w (.slice (some ⟨b, off + t, none⟩) t (cap - t)) (xs.drop t)) := by
      have := hR.back (k := t) (by omega)
      rwa [show 2 * t - t = t by omega] at this
    have htle : t ≤ 4611686018427387904 := by rw [← HTT.out, ← p62]; exact p2le (by omega)
    obtain ⟨r1, HR1⟩ : ∃ r, Hid (rootP (EF wd) (NF wd) (xs.take t) = r) := ⟨_, rfl⟩
    obtain ⟨r2, HR2⟩ : ∃ r, Hid (rootP (EF wd) (NF wd) (xs.drop t) = r) := ⟨_, rfl⟩
    obtain ⟨R, HRR⟩ : ∃ r, Hid (rootP (EF wd) (NF wd) xs = r) := ⟨_, rfl⟩
    have HE : Hid (NF wd r1 r2 = R) := by
      show _ = _
      rw [← HRR.out, rootP_two _ _ (l := xs) (j := j) (by rw [HTT.out]; omega) (by rw [hp, HTT.out]; omega), HTT.out, HR1.out, HR2.out]
    have Z1 : r1.size ≤ 1048576 := by rw [← HR1.out]; exact root_size (fun x h => hx x (List.mem_of_mem_take h))
    have Z2 : r2.size ≤ 1048576 := by rw [← HR2.out]; exact root_size (fun x h => hx x (List.mem_of_mem_drop h))
    have NN : Hid (∀ w', Tw w w' → Calls _ _ _ _ _) := fun w' g => pNode wd r1 r2 (by omega) w' g.t
    rw [HE.out] at NN
    have G0 : Hid (Tw w w) := ⟨hT, Below.refl _ _⟩
    have KR : Hid (∀ (p c : Nat) w', Tw w w' → ((p = off ∧ c = cap) ∨ (p = off + t ∧ c = cap - t)) → Calls Tryd.prog 46 #[.int .i64 wd, .slice (some ⟨b, p, none⟩) t c] w' fun e w'' => (∃ r, e = .returned (.string r) ∧ (p = off → r = r1) ∧ (p = off + t → r = r2)) ∧ Below w'.heap.size w' w'') := by
      intro p c w' g h
      rcases h with ⟨rfl, rfl⟩ | ⟨rfl, rfl⟩
      · have := ih (xs.take t) b p c w' (by omega) (by rw [List.length_take, HTT.out]; omega) g.t (by rw [HTT.out]; exact R1.out.later g.b) (fun x h => hx x (List.mem_of_mem_take h)) (by rw [HTT.out]; omega) hcc
        rw [HTT.out] at this
        refine this.mono ?_
        rintro e w'' ⟨rfl, hb⟩
        exact ⟨⟨_, rfl, fun _ => HR1.out, fun e => by omega⟩, hb⟩
      · have := ih (xs.drop t) b (off + t) (cap - t) w' (by omega) (by rw [List.length_drop, HTT.out]; omega) g.t (by rw [HTT.out]; exact R2.out.later g.b) (fun x h => hx x (List.mem_of_mem_drop h)) (by rw [HTT.out]; omega) (by omega)
        rw [HTT.out] at this
        refine this.mono ?_
        rintro e w'' ⟨rfl, hb⟩
        exact ⟨⟨_, rfl, fun e => by omega, fun _ => HR2.out⟩, hb⟩
    rw [hp, HTT.out]
    obtain ⟨n, HN⟩ : ∃ n, Hid (2 * t = n) := ⟨_, rfl⟩
    have hnt : n - t = t := by rw [← HN.out]; omega
    have hd1 : (n : Int) / 2 = t := by have := HN.out; omega
    have hd : (n : Int).tdiv 2 = t := by rw [Int.tdiv_eq_ediv_of_nonneg (by omega)]; exact hd1
    rw [HN.out] at hc ⊢
    have q1 : ((n : Int) == 1) = false := by rw [beq_eq_false_iff_ne, ← HN.out]; omega
    have htc : (t : Int) ≤ cap := by have := HN.out; omega
    have htc2 : (t : Int) < cap := by have := HN.out; omega
    have htn : (t : Int) ≤ n := by have := HN.out; omega
    have hnc : (n : Int) ≤ cap := by omega
    have ent : (n : Int) - t = t := by have := HN.out; omega
    rw [HRR.out]
    clear ih hT hR hx hn hp Z1 Z2
    go_enter Tryd.func46, Tryd.ntmps46
    go_wp2_with fail
    have g5 := G0.out
    go_region_held3 (fun w' => Tw w w') (first | exact g5 | exact Tw.drew (by assumption) | exact Tw.on (by assumption) hb') (first | (go_at_call 46; refine (KR.out _ _ _ (by first | assumption | exact Tw.drew (by assumption)) (by first | exact .inl ⟨rfl, rfl⟩ | exact .inr ⟨rfl, rfl⟩)).mono ?_; rintro e w' ⟨⟨r, rfl, k1, k2⟩, hb'⟩; first | obtain rfl := k1 rfl | obtain rfl := k2 rfl) | (go_at_call 54; refine (NN.out _ (by first | assumption | exact Tw.drew (by assumption))).mono ?_; rintro e w' ⟨rfl, hb'⟩))
    have g9 : Tw w w' := by assumption
    have G9 : Hid (Below w.heap.size w w') := g9.b
    go_wp2
    go_ret
    exact ⟨rfl, G9.out⟩
end Go.Proofs.YtglffbhcnafbnaaDoor.bk

namespace Go.Proofs.YtglffbhcnafbnaaDoor.bl
open Go.RowKit Go.PlainAid
open Go.Proofs.YtglffbhcnafbnaaDoor.pl Go.Proofs.YtglffbhcnafbnaaDoor.pi Go.Proofs.YtglffbhcnafbnaaDoor.rf Go.Proofs.YtglffbhcnafbnaaDoor.pj Go.Proofs.YtglffbhcnafbnaaDoor.ca Go.Proofs.YtglffbhcnafbnaaDoor.cb Go.Proofs.YtglffbhcnafbnaaDoor.cp Go.Proofs.YtglffbhcnafbnaaDoor.cs Go.Proofs.YtglffbhcnafbnaaDoor.cu Go.Proofs.YtglffbhcnafbnaaDoor.va Go.Proofs.YtglffbhcnafbnaaDoor.ka Go.Proofs.YtglffbhcnafbnaaDoor.kb Go.Proofs.YtglffbhcnafbnaaDoor.kc Go.Proofs.YtglffbhcnafbnaaDoor.ga Go.Proofs.YtglffbhcnafbnaaDoor.aa Go.Proofs.YtglffbhcnafbnaaDoor.ab Go.Proofs.YtglffbhcnafbnaaDoor.tb Go.Proofs.YtglffbhcnafbnaaDoor.ac Go.Proofs.YtglffbhcnafbnaaDoor.ba Go.Proofs.YtglffbhcnafbnaaDoor.bc Go.Proofs.YtglffbhcnafbnaaDoor.bf Go.Proofs.YtglffbhcnafbnaaDoor.bk
set_option linter.unusedVariables false

-- what a list's reader says
def ofP (wd : Int) (hs : List ByteArray) (L I : Int) : ByteArray × Int :=
  if okA L I then (if (I + 1) * 2 ^ L.toNat ≤ hs.length then (rootP (EF wd) (NF wd) ((hs.drop (I * 2 ^ L.toNat).toNat).take (2 ^ L.toNat)), 0) else (ByteArray.empty, 80)) else (ByteArray.empty, 50)
theorem ofP_in (wd : Int) (hs : List ByteArray) (k i : Nat) (h : okA k i) (hl : (i + 1) * 2 ^ k ≤ hs.length) : ofP wd hs k i = (rootP (EF wd) (NF wd) ((hs.drop (i * 2 ^ k)).take (2 ^ k)), 0) := by
  unfold ofP
  rw [if_pos h, Int.toNat_natCast, cast_pow, if_pos (by exact_mod_cast hl)]
  rw [show ((i : Int) * ((2 ^ k : Nat) : Int)).toNat = i * 2 ^ k by rw [← Int.natCast_mul, Int.toNat_natCast]]
theorem ofP_out (wd : Int) (hs : List ByteArray) (k i : Nat) (h : okA k i) (hl : ¬ (i + 1) * 2 ^ k ≤ hs.length) : ofP wd hs k i = (ByteArray.empty, 80) := by
  unfold ofP
  rw [if_pos h, Int.toNat_natCast, cast_pow, if_neg (by exact_mod_cast hl)]
-- the boxes of a list's reader
structure Ob (w : World) (ob wb : Nat) (wd : Int) (v : Value) : Prop where
  own : w.cell? ⟨ob, 0, none⟩ = some v
  wid : w.cell? ⟨wb, 0, none⟩ = some (.int .i64 wd)
theorem Ob.later {w w' : World} {ob wb : Nat} {wd : Int} {v : Value} (h : Ob w ob wb wd v) (hb : Below w.heap.size w w') : Ob w' ob wb wd v := ⟨(hb.cell (World.block_lt_of_cell? _ _ h.own)).trans h.own, (hb.cell (World.block_lt_of_cell? _ _ h.wid)).trans h.wid⟩
set_option maxHeartbeats 3200000 in
theorem node (wd L I : Int) (h0 : i64 L) (h1 : i64 I) (ob wb : Nat) (v : Value) (hs : List ByteArray) (w : World) (hT : Tab w) (hO : Ob w ob wb wd v) (hR : ReadsT w v hs) (hx : ∀ x ∈ hs, x.size ≤ 1048576) (hcap : ∀ a n c, v = .slice a n c → c ≤ 9223372036854775807) :
    Calls Tryd.prog 44 #[.agg #[.int .i64 L, .int .i64 I], .pointer (some ⟨ob, 0, none⟩), .pointer (some ⟨wb, 0, none⟩)] w fun e w' => e = .returned (.tuple #[.string (ofP wd hs L I).1, .int .i64 (ofP wd hs L I).2]) ∧ Below w.heap.size w w' := by
  have SC : Hid (∀ w, Calls _ _ _ _ _) := fun w => spanC L I h0 h1 w
  have BA : Hid (Below w.heap.size w (w.alloc (.cells #[.int .i64 L, .int .i64 I] 36))) := (Below.refl _ _).alloc (Nat.le_refl _) _
  have HO : Hid (Ob (w.alloc (.cells #[.int .i64 L, .int .i64 I] 36)) ob wb wd v) := hO.later BA.out
  have HRD : Hid (ReadsT w v hs) := hR
  have HT : Hid (Tab w) := hT
  obtain ⟨A, HA⟩ : ∃ A, Hid (ofP wd hs L I = A) := ⟨_, rfl⟩
  rw [HA.out]
  by_cases hok : okA L I
  · obtain ⟨k, i, rfl, rfl, hk62, hki⟩ := okA_form hok
    rw [spV_nat hok] at SC
    obtain ⟨p, HP⟩ : ∃ p, Hid (i * 2 ^ k = p) := ⟨_, rfl⟩
    obtain ⟨q, HQ⟩ : ∃ q, Hid ((i + 1) * 2 ^ k = q) := ⟨_, rfl⟩
    have hpq : q - p = 2 ^ k ∧ p < q := by
      have := p2 k
      rw [← HP.out, ← HQ.out, Nat.add_mul, Nat.one_mul]
      omega
    rw [HP.out, HQ.out] at SC
    rw [HQ.out] at hki
    obtain ⟨av, cap, rfl, hcap1, hh⟩ := hR
    have hcap2 := hcap _ _ _ rfl
    by_cases hl : q ≤ hs.length
    · have HE : Hid (A = (rootP (EF wd) (NF wd) ((hs.drop p).take (2 ^ k)), 0)) := by
        show _ = _
        rw [← HA.out, ofP_in wd hs k i hok (by rw [HQ.out]; exact hl), HP.out]
      obtain ⟨b, off, rfl, hc⟩ : ∃ b off, av = some ⟨b, off, none⟩ ∧ ∀ i, i < hs.length → w.cell? ⟨b, off + i, none⟩ = some (.string (hs.getD i ByteArray.empty)) := by
        rcases hh with h | h
        · omega
        · exact h
      obtain ⟨n, HN⟩ : ∃ n, Hid (hs.length = n) := ⟨_, rfl⟩
      have RM : Hid (ReadsT w (.slice (some ⟨b, off + p, none⟩) (2 ^ k) (cap - p)) ((hs.drop p).take (2 ^ k))) := HRD.out.mid (by omega)
      have AC0 := fun w' (g : Tw w w') => above wd k ((hs.drop p).take (2 ^ k)) b (off + p) (cap - p) w' hk62 (by rw [List.length_take, List.length_drop]; omega) g.t (RM.out.later g.b) (fun x h => hx x (List.mem_of_mem_drop (List.mem_of_mem_take h))) (by omega) (by omega)
      obtain ⟨r, HR⟩ : ∃ r, Hid (rootP (EF wd) (NF wd) ((hs.drop p).take (2 ^ k)) = r) := ⟨_, rfl⟩
      rw [HR.out] at AC0 HE
      have AC : Hid (∀ w', Tw w w' → Calls Tryd.prog 46 #[.int .i64 wd, .slice (some ⟨b, off + p, none⟩) (q - p) (cap - p)] w' fun e w'' => e = .returned (.string r) ∧ Below w'.heap.size w' w'') := by
        show ∀ w', _
        rw [hpq.1]
        exact AC0
      rw [HN.out] at hcap1 hl HO
      have d1 : decide ((n : Int) < q) = false := decide_eq_false (by omega)
      have e1 : (q : Int) ≤ cap := by omega
      have e2 : (p : Int) ≤ q := by omega
      have e3 : (p : Int) < cap := by omega
      have e4 : ((q - p : Nat) : Int) = (q : Int) - p := by omega
      have e0 : (0 : Int) ≤ p := by omega
      have hne : ¬ cap = p := by omega
      clear hh hc hki hok hx hT hO hcap hcap2 hpq AC0
      go_enter Tryd.func44, Tryd.ntmps44
      go_wp2_with fail
      refine (SC.out _).mono ?_
      rintro e w1 ⟨rfl, hb1⟩
      have B1 : Hid (Tw w w1) := ⟨HT.out.down (over BA.out hb1), over BA.out hb1⟩
      have O1 : Hid (Ob w1 ob wb wd (.slice (some ⟨b, off, none⟩) n cap)) := HO.out.later hb1
      obtain ⟨o1, o2⟩ := O1.out
      clear hb1
      go_wp2_with fail
      have g5 := B1.out
      have AC1 : Hid (Calls _ _ _ _ _) := AC.out _ (Tw.drew g5)
      go_region_with (first | (go_at_call 46; refine AC1.out.mono ?_; rintro e w' ⟨rfl, hb'⟩; have G9 : Hid (Below w.heap.size w w') := (Tw.on (Tw.drew g5) hb').b; clear hb'))
      all_goals (
        go_wp2
        go_ret2
        exact ⟨by rw [HE.out]; rfl, G9.out⟩)
    · have HE : Hid (A = (ByteArray.empty, 80)) := by
        show _ = _
        rw [← HA.out, ofP_out wd hs k i hok (by rw [HQ.out]; exact hl)]
      obtain ⟨n, HN⟩ : ∃ n, Hid (hs.length = n) := ⟨_, rfl⟩
      rw [HN.out] at hl HO
      have d1 : decide ((n : Int) < q) = true := decide_eq_true (by omega)
      clear hh hok hx hT hO hcap hcap2 hpq
      go_enter Tryd.func44, Tryd.ntmps44
      go_wp2_with fail
      refine (SC.out _).mono ?_
      rintro e w1 ⟨rfl, hb1⟩
      have B1 : Hid (Below w.heap.size w w1) := over BA.out hb1
      obtain ⟨o1, o2⟩ := HO.out.later hb1
      clear hb1
      go_wp2
      go_ret2
      exact ⟨by rw [HE.out]; rfl, B1.out⟩
  · have HE : Hid (A = (ByteArray.empty, 50)) := by
      show _ = _
      rw [← HA.out]
      unfold ofP
      rw [if_neg hok]
    have hs0 : spV L I = .tuple #[.int .i64 0, .int .i64 0, .int .i64 50] := by unfold spV; rw [if_neg hok]
    rw [hs0] at SC
    clear hok hs0
    go_enter Tryd.func44, Tryd.ntmps44
    go_wp2_with fail
    refine (SC.out _).mono ?_
    rintro e w1 ⟨rfl, hb1⟩
    have B1 : Hid (Below w.heap.size w w1) := over BA.out hb1
    clear hb1
    go_wp2
    go_ret2
    exact ⟨by rw [HE.out]; rfl, B1.out⟩
end Go.Proofs.YtglffbhcnafbnaaDoor.bl

namespace Go.Proofs.YtglffbhcnafbnaaDoor.bq
open Go.RowKit Go.PlainAid
open Go.Proofs.YtglffbhcnafbnaaDoor.pl Go.Proofs.YtglffbhcnafbnaaDoor.pi Go.Proofs.YtglffbhcnafbnaaDoor.pj Go.Proofs.YtglffbhcnafbnaaDoor.rf Go.Proofs.YtglffbhcnafbnaaDoor.ca Go.Proofs.YtglffbhcnafbnaaDoor.cb Go.Proofs.YtglffbhcnafbnaaDoor.cp Go.Proofs.YtglffbhcnafbnaaDoor.ka Go.Proofs.YtglffbhcnafbnaaDoor.kb Go.Proofs.YtglffbhcnafbnaaDoor.kc
set_option linter.unusedVariables false

theorem hi9s : (Tryd.prog.info? 9).map (fun i => (i.zero, i.size, i.bytes)) = some (some (.string ByteArray.empty), 1, 16) := by kernel_rfl
theorem one_strs (hs : List ByteArray) : ∀ u ∈ hs.map Value.string, u.oneCell' = true := by
  intro u hu
  obtain ⟨x, _, rfl⟩ := List.mem_map.1 hu
  rfl
set_option maxRecDepth 100000 in
set_option maxHeartbeats 800000 in
theorem clone (u : Value) (hs : List ByteArray) (w : World) (hR : ReadsT w u hs) (hn : hs.length ≤ 1048576) :
    Calls Tryd.prog 43 #[u] w fun e w' => (∃ a l c, e = .returned (.slice a l c) ∧ w'.ownsRow w.heap.size 9 1 (.slice a l c) hs.length (hs.map Value.string)) ∧ Below w.heap.size w w' := by
  obtain ⟨i9, hi, hz0, hz1, hz2⟩ := info_parts hi9s
  have HIN : Hid (_ ∧ _ ∧ _ ∧ _) := ⟨hi, hz0, hz1, hz2⟩
  obtain ⟨a, cap, rfl, hcap, hh⟩ := hR
  have HH : Hid (hs.length = 0 ∨ ∃ b off, a = some ⟨b, off, none⟩ ∧ ∀ i, i < hs.length → w.cell? ⟨b, off + i, none⟩ = some (.string (hs.getD i ByteArray.empty))) := hh
  obtain ⟨n, HN⟩ : ∃ n, Hid (hs.length = n) := ⟨_, rfl⟩
  clear hh hi hz0 hz1 hz2
  cases a with
  | none =>
    have h0 : hs = [] := by
      rcases HH.out with h | ⟨b, off, e, _⟩
      · exact List.length_eq_zero_iff.1 h
      · cases e
    subst h0
    simp only [List.length_nil] at hcap ⊢
    have q := fun w => Lib.run_eql_slice_nil (P := Tryd.prog) w 28 9 none 0 cap 0 0 Tryd.underlying28
    clear HH HN hn hcap
    go_enter Tryd.func43, Tryd.ntmps43
    go_wp2
    go_ret
    exact ⟨⟨_, _, _, rfl, World.ownsRow_nil _ _ _ _⟩, Below.refl _ _⟩
  | some ad =>
    have q := fun w n => Lib.run_eql_slice_nil (P := Tryd.prog) w 28 9 (some ad) n cap 0 0 Tryd.underlying28
    have NX : Hid (∀ (W : World), Below w.heap.size w W → ∀ (j : Nat) (u : Value), (hs.map Value.string)[j]? = some u → W.cell? (ad.add j) = some u) := by
      intro W hW j u hu
      rw [List.getElem?_map] at hu
      obtain ⟨x, hx, rfl⟩ := Option.map_eq_some_iff.1 hu
      have hj := (List.getElem?_eq_some_iff.1 hx).1
      rcases HH.out with h | ⟨b, off, e, hc⟩
      · omega
      · have e := Option.some.inj e
        subst e
        have c1 := hc j hj
        rw [List.getD_eq_getElem?_getD, hx] at c1
        rw [show (Addr.add ⟨b, off, none⟩ j) = ⟨b, off + j, none⟩ by cases j <;> simp [Addr.add]]
        exact (hW.cell (World.block_lt_of_cell? _ _ c1)).trans c1
    have B1 : Hid (Below w.heap.size w (w.alloc (.cells #[] 9))) := (Below.refl _ _).alloc (Nat.le_refl _) _
    have OX : Hid ((w.alloc (.cells #[] 9)).ownsRow w.heap.size 9 1 (.slice (some ⟨w.heap.size, 0, none⟩) 0 0) 0 []) := World.ownsRow_made w #[] 0 (Nat.le_refl _) (by unfold maxLen; omega) (by simp)
    have SZ : Hid (w.heap.size ≤ (w.alloc (.cells #[] 9)).heap.size) := B1.out.size
    rw [HN.out] at hn ⊢
    clear hcap HH
    go_enter Tryd.func43, Tryd.ntmps43
    go_wp2_with (at_builtin; refine wpList_append_own _ rfl _ _ 28 rfl w.heap.size 9 i9 (.string ByteArray.empty) 1 16 Tryd.underlying28 HIN.out.1 HIN.out.2.1 HIN.out.2.2.1 HIN.out.2.2.2 rfl (by decide) _ 0 _ rfl OX.out ad n cap (hs.map Value.string) rfl (by rw [List.length_map, HN.out]; omega) (NX.out _ B1.out) (one_strs _) (by unfold maxLen; omega) (by omega) SZ.out ?_; intro p' w5 ho hg hnn; have HO5 : Hid (w5.ownsRow w.heap.size 9 1 p' (0 + n) ([] ++ hs.map Value.string)) := ho; have HB5 : Hid (Below w.heap.size w w5) := Below.grown B1.out hg SZ.out (fun jj hj => (OX.out.lt _ hj).1); clear ho hg hnn)
    go_ret
    have HO6 : w5.ownsRow w.heap.size 9 1 p' n (hs.map Value.string) := by have := HO5.out; rw [Nat.zero_add, List.nil_append] at this; exact this
    obtain ⟨pa, pc, rfl⟩ := own_formS HO6
    exact ⟨⟨_, _, _, rfl, HO6⟩, HB5.out⟩
end Go.Proofs.YtglffbhcnafbnaaDoor.bq

namespace Go.Proofs.YtglffbhcnafbnaaDoor.bm
open Go.RowKit Go.PlainAid
open Go.Proofs.YtglffbhcnafbnaaDoor.pl Go.Proofs.YtglffbhcnafbnaaDoor.pi Go.Proofs.YtglffbhcnafbnaaDoor.rf Go.Proofs.YtglffbhcnafbnaaDoor.pj Go.Proofs.YtglffbhcnafbnaaDoor.ca Go.Proofs.YtglffbhcnafbnaaDoor.cb Go.Proofs.YtglffbhcnafbnaaDoor.cp Go.Proofs.YtglffbhcnafbnaaDoor.cs Go.Proofs.YtglffbhcnafbnaaDoor.cu Go.Proofs.YtglffbhcnafbnaaDoor.xc Go.Proofs.YtglffbhcnafbnaaDoor.va Go.Proofs.YtglffbhcnafbnaaDoor.ka Go.Proofs.YtglffbhcnafbnaaDoor.kb Go.Proofs.YtglffbhcnafbnaaDoor.kc Go.Proofs.YtglffbhcnafbnaaDoor.ga Go.Proofs.YtglffbhcnafbnaaDoor.aa Go.Proofs.YtglffbhcnafbnaaDoor.ab Go.Proofs.YtglffbhcnafbnaaDoor.tb Go.Proofs.YtglffbhcnafbnaaDoor.ac Go.Proofs.YtglffbhcnafbnaaDoor.ba Go.Proofs.YtglffbhcnafbnaaDoor.bc Go.Proofs.YtglffbhcnafbnaaDoor.bd Go.Proofs.YtglffbhcnafbnaaDoor.bf Go.Proofs.YtglffbhcnafbnaaDoor.bk Go.Proofs.YtglffbhcnafbnaaDoor.bl Go.Proofs.YtglffbhcnafbnaaDoor.bq
set_option linter.unusedVariables false

-- a list's reader, wherever it lies
structure OfJ (ob wb : Nat) (wd : Int) (v : Value) (hs : List ByteArray) (w : World) : Prop where
  t : TB w
  o : Ob w ob wb wd v
  r : ReadsT w v hs
  x : ∀ x ∈ hs, x.size ≤ 1048576
  c : ∀ a n c, v = .slice a n c → c ≤ 9223372036854775807
theorem OfJ.later {ob wb : Nat} {wd : Int} {v : Value} {hs : List ByteArray} {w w' : World} (h : OfJ ob wb wd v hs w) (hb : Below w.heap.size w w') : OfJ ob wb wd v hs w' := ⟨h.t.down hb, h.o.later hb, h.r.later hb, h.x, h.c⟩
theorem ofR (ob wb : Nat) (wd : Int) (v : Value) (hs : List ByteArray) (w0 : World) (h0 : OfJ ob wb wd v hs w0) (N : Nat) :
    Rd 44 #[] #[.pointer (some ⟨ob, 0, none⟩), .pointer (some ⟨wb, 0, none⟩)] (fun _ a => ofP wd hs a.1 a.2) (fun F l w => (∀ b, ¬ F b) ∧ Below w0.heap.size w0 w) N (fun b => b < w0.heap.size) where
  enter := fun args w => by simp [go_sem]
  call := fun F l a w _ hok h => by
    have h1 := h0.later h.2
    obtain ⟨k1, k2, e1, e2, e3, e4⟩ := okA_form hok
    have f1 : a.1 ≤ 62 := by omega
    have f2 : a.2 ≤ 4611686018427387904 := by
      have := (okA_nat a.1 a.2).1 hok
      have hp := p2 a.1
      have : a.2 + 1 ≤ (a.2 + 1) * 2 ^ a.1 := Nat.le_mul_of_pos_right _ hp
      omega
    refine (node wd a.1 a.2 (i64_nat (by omega)) (i64_nat f2) ob wb v hs w h1.t.t h1.o h1.r h1.x h1.c).mono ?_
    rintro e w' ⟨rfl, hb⟩
    exact ⟨rfl, F, ⟨h.1, h.2.trans (hb.mono h.2.size)⟩, Goes.of_below hb⟩
  keep := fun {F G l w w'} h hk hG => ⟨h.1, h.2.trans (hk.below (fun k hk => Nat.le_of_not_lt (hG k hk).2) h.2.size)⟩
  big := fun {F l w} h b hb => Nat.lt_of_lt_of_le hb h.2.size
  within := fun {F l w} h b hb => absurd hb (h.1 b)
  tab := fun {F l w} h => (h0.later h.2).t
  fits := fun k a => by
    show -9223372036854775808 ≤ (ofP wd hs a.1 a.2).2 ∧ (ofP wd hs a.1 a.2).2 ≤ 9223372036854775807
    unfold ofP
    split
    · split <;> simp
    · simp
-- the reader that Of answers
set_option maxHeartbeats 1600000 in
theorem ofC (wd : Int) (u : Value) (hs : List ByteArray) (w : World) (hT : TB w) (hR : ReadsT w u hs) (hn : hs.length ≤ 1048576) (hx : ∀ x ∈ hs, x.size ≤ 1048576) :
    Calls Tryd.prog 15 #[.int .i64 wd, u] w fun e w' => (∃ ob wb v, e = .returned (.agg #[.int .i64 wd, .int .i64 hs.length, .func (.func 44) #[] #[.pointer (some ⟨ob, 0, none⟩), .pointer (some ⟨wb, 0, none⟩)]]) ∧ OfJ ob wb wd v hs w') ∧ Below w.heap.size w w' := by
  have B0 : Hid (Below w.heap.size w ((w.alloc (.cells #[.int .i64 wd] 3)).alloc (.cells #[.int .i64 0, .int .i64 0, .nilFunc] 24))) := ((Below.refl _ _).alloc (Nat.le_refl _) _).alloc (by simp) _
  have CC : Hid (Calls _ _ _ _ _) := bq.clone u hs ((w.alloc (.cells #[.int .i64 wd] 3)).alloc (.cells #[.int .i64 0, .int .i64 0, .nilFunc] 24)) (hR.later B0.out) hn
  have HT : Hid (TB w) := hT
  have s1 : (w.alloc (.cells #[.int .i64 wd] 3)).heap.size = w.heap.size + 1 := by simp
  have HZ : Hid (((w.alloc (.cells #[.int .i64 wd] 3)).alloc (.cells #[.int .i64 0, .int .i64 0, .nilFunc] 24)).heap[w.heap.size + 1]? = some (.cells #[.int .i64 0, .int .i64 0, .nilFunc] 24 (0, 0))) := by
    show _ = _
    rw [← s1]
    exact heap_alloc_new _ _
  have HW : Hid (((w.alloc (.cells #[.int .i64 wd] 3)).alloc (.cells #[.int .i64 0, .int .i64 0, .nilFunc] 24)).cell? ⟨w.heap.size, 0, none⟩ = some (.int .i64 wd)) := by
    have hb1 : Below (w.alloc (.cells #[.int .i64 wd] 3)).heap.size (w.alloc (.cells #[.int .i64 wd] 3)) ((w.alloc (.cells #[.int .i64 wd] 3)).alloc (.cells #[.int .i64 0, .int .i64 0, .nilFunc] 24)) := (Below.refl _ _).alloc (Nat.le_refl _) _
    show _ = _
    refine (hb1.cell (p := ⟨w.heap.size, 0, none⟩) (by rw [s1]; show w.heap.size < _; omega)).trans ?_
    rw [World.cell?_alloc_at _ _ _ _ rfl]; rfl
  obtain ⟨n, HN⟩ : ∃ n, Hid (hs.length = n) := ⟨_, rfl⟩
  rw [HN.out] at CC ⊢
  clear hT hR s1
  go_enter Tryd.func15, Tryd.ntmps15
  go_wp2_with fail
  refine CC.out.mono ?_
  rintro e w1 ⟨⟨va, vl, vc, rfl, ho⟩, hb1⟩
  obtain ⟨qa, qc, eq⟩ := own_formS ho
  injection eq with e1 e2 e3
  subst e1 e2 e3
  have HO1 : Hid (w1.ownsRow ((w.alloc (.cells #[.int .i64 wd] 3)).alloc (.cells #[.int .i64 0, .int .i64 0, .nilFunc] 24)).heap.size 9 1 (.slice va vl vc) vl (hs.map Value.string)) := ho
  have B1 : Hid (Below w.heap.size w w1) := over B0.out hb1
  have HZ1 : Hid (w1.heap[w.heap.size + 1]? = some (.cells #[.int .i64 0, .int .i64 0, .nilFunc] 24 (0, 0))) := (hb1.block _ (Array.getElem?_eq_some_iff.1 HZ.out).1).trans HZ.out
  have HW1 : Hid (w1.cell? ⟨w.heap.size, 0, none⟩ = some (.int .i64 wd)) := (hb1.cell (World.block_lt_of_cell? _ _ HW.out)).trans HW.out
  have BA : Hid (Below w1.heap.size w1 (w1.alloc (.cells #[.slice va vl vc] 28))) := (Below.refl _ _).alloc (Nat.le_refl _) _
  have HZ2 : Hid ((w1.alloc (.cells #[.slice va vl vc] 28)).heap[w.heap.size + 1]? = some (.cells #[.int .i64 0, .int .i64 0, .nilFunc] 24 (0, 0))) := (BA.out.block _ (Array.getElem?_eq_some_iff.1 HZ1.out).1).trans HZ1.out
  have cw : (w1.alloc (.cells #[.slice va vl vc] 28)).cell? ⟨w.heap.size, 0, none⟩ = some (.int .i64 wd) := (BA.out.cell (World.block_lt_of_cell? _ _ HW1.out)).trans HW1.out
  clear ho hb1 HZ HW B0
  have d0 : (w1.alloc (.cells #[.slice va vl vc] 28)).cell? ⟨w.heap.size + 1, 0, none⟩ = some (.int .i64 0) := by rw [cell_of_row _ _ _ _ _ _ HZ2.out]; rfl
  have d1 : (w1.alloc (.cells #[.slice va vl vc] 28)).cell? ⟨w.heap.size + 1, 1, none⟩ = some (.int .i64 0) := by rw [cell_of_row _ _ _ _ _ _ HZ2.out]; rfl
  have d2 : (w1.alloc (.cells #[.slice va vl vc] 28)).cell? ⟨w.heap.size + 1, 2, none⟩ = some .nilFunc := by rw [cell_of_row _ _ _ _ _ _ HZ2.out]; rfl
  have f0 := frozen_of_row (w1.alloc (.cells #[.slice va vl vc] 28)) (w.heap.size + 1) 0 _ _ HZ2.out
  have f1 := frozen_of_row (w1.alloc (.cells #[.slice va vl vc] 28)) (w.heap.size + 1) 1 _ _ HZ2.out
  have f2 := frozen_of_row (w1.alloc (.cells #[.slice va vl vc] 28)) (w.heap.size + 1) 2 _ _ HZ2.out
  obtain ⟨fv, HFV⟩ : ∃ fv : Value, Hid (.func (.func 44) #[] #[.pointer (some ⟨w1.heap.size, 0, none⟩), .pointer (some ⟨w.heap.size, 0, none⟩)] = fv) := ⟨_, rfl⟩
  obtain ⟨W3, HW3⟩ : ∃ W3, Hid ((((w1.alloc (.cells #[.slice va vl vc] 28)).setCell ⟨w.heap.size + 1, 0, none⟩ (.int .i64 wd)).setCell ⟨w.heap.size + 1, 1, none⟩ (.int .i64 vl)).setCell ⟨w.heap.size + 1, 2, none⟩ (.func (.func 44) #[] #[.pointer (some ⟨w1.heap.size, 0, none⟩), .pointer (some ⟨w.heap.size, 0, none⟩)]) = W3) := ⟨_, rfl⟩
  have H3 := heap_setCell_same _ _ 2 _ _ (.func (.func 44) #[] #[.pointer (some ⟨w1.heap.size, 0, none⟩), .pointer (some ⟨w.heap.size, 0, none⟩)]) (heap_setCell_same _ _ 1 _ _ (.int .i64 vl) (heap_setCell_same _ _ 0 _ _ (.int .i64 wd) HZ2.out))
  rw [HW3.out] at H3
  have G3 : Hid (W3.cell? ⟨w.heap.size + 1, 0, none⟩ = some (.int .i64 wd) ∧ W3.cell? ⟨w.heap.size + 1, 1, none⟩ = some (.int .i64 vl) ∧ W3.cell? ⟨w.heap.size + 1, 2, none⟩ = some (.func (.func 44) #[] #[.pointer (some ⟨w1.heap.size, 0, none⟩), .pointer (some ⟨w.heap.size, 0, none⟩)])) :=
    ⟨by rw [cell_of_row _ _ _ _ _ _ H3]; rfl, by rw [cell_of_row _ _ _ _ _ _ H3]; rfl, by rw [cell_of_row _ _ _ _ _ _ H3]; rfl⟩
  have KK : Hid (Kp (fun b => b = w.heap.size + 1) (w1.alloc (.cells #[.slice va vl vc] 28)) W3) := by
    show Kp _ _ _
    rw [← HW3.out]
    exact ((Kp.setCell (A := fun b => b = w.heap.size + 1) _ _ _ _ rfl).trans (Kp.setCell (A := fun b => b = w.heap.size + 1) _ _ _ _ rfl)).trans (Kp.setCell (A := fun b => b = w.heap.size + 1) _ _ _ _ rfl)
  have B3 : Hid (Below w.heap.size w W3) := (over B1.out BA.out).trans (KK.out.below (fun k hk => by omega) (over B1.out BA.out).size)
  have hlt : w.heap.size + 1 < w1.heap.size := (Array.getElem?_eq_some_iff.1 HZ1.out).1
  have HJ3 : Hid (OfJ w1.heap.size w.heap.size wd (.slice va vl vc) hs W3) := by
    have ho2 := own_later HO1.out BA.out
    refine ⟨HT.out.down B3.out, ⟨KK.out.cell (by rw [World.cell?_alloc_at _ _ _ _ rfl]; rfl) (by omega), KK.out.cell cw (by omega)⟩, own_readsT (owns_keep ho2 (fun gg hg => KK.out.block gg (owns_lt ho2 hg).1 (fun e => by have := (owns_lt ho2 hg).2; simp at this; omega))), hx, ?_⟩
    intro a n c he
    rcases ho2.2 with ⟨e, _⟩ | ⟨gg, cap, cur, e, _, _, _, hm, _⟩
    · rw [e] at he; injection he with _ _ e3; omega
    · rw [e] at he; injection he with _ _ e3; unfold maxLen at hm; omega
  clear H3 HZ1 HZ2 HO1 HW1 KK hlt
  go_wp2
  rw [HW3.out]
  obtain ⟨g1, g2, g3⟩ := G3.out
  (try simp only [Exit.inBlock, Exit.then])
  refine bodyPost_ret (by simp [results, Tryd.results15, go_sem, g1, g2, g3]; try rfl) rfl ?_
  exact ⟨⟨_, _, _, rfl, HJ3.out⟩, B3.out⟩
end Go.Proofs.YtglffbhcnafbnaaDoor.bm

namespace Go.Proofs.YtglffbhcnafbnaaDoor.bn
open Go.RowKit Go.PlainAid
open Go.Proofs.YtglffbhcnafbnaaDoor.pj Go.Proofs.YtglffbhcnafbnaaDoor.rf Go.Proofs.YtglffbhcnafbnaaDoor.ca Go.Proofs.YtglffbhcnafbnaaDoor.cb Go.Proofs.YtglffbhcnafbnaaDoor.cp Go.Proofs.YtglffbhcnafbnaaDoor.ka Go.Proofs.YtglffbhcnafbnaaDoor.kb Go.Proofs.YtglffbhcnafbnaaDoor.ga Go.Proofs.YtglffbhcnafbnaaDoor.gb
set_option linter.unusedVariables false

theorem getD_at (xs : List ByteArray) (k : Nat) (h : k < xs.length) : xs.getD k ByteArray.empty = xs[k] := by
  rw [List.getD_eq_getElem?_getD, List.getElem?_eq_getElem h]; rfl
theorem lists_eq {xs ys : List ByteArray} (hl : xs.length = ys.length) (h : ∀ j, j < xs.length → xs.getD j ByteArray.empty = ys.getD j ByteArray.empty) : xs = ys := by
  apply List.ext_getElem hl
  intro j h1 h2
  have := h j h1
  rwa [getD_at _ _ h1, getD_at _ _ h2] at this
theorem beqL (a b : ByteArray) : (a.toList == b.toList) = decide (a = b) := by
  by_cases h : a = b
  · subst h; simp
  · rw [decide_eq_false h, beq_eq_false_iff_ne, ByteArray.toList_eq, ByteArray.toList_eq]
    intro e
    exact h (ByteArray.ext (Array.ext' e))
theorem beqLit (a : ByteArray) (l : List UInt8) : (a.toList == l) = decide (a = ⟨l.toArray⟩) := by
  rw [← beqL, ByteArray.toList_eq, ByteArray.toList_eq]
-- two lists held against each other: nothing is written
set_option maxHeartbeats 1600000 in
theorem same (va vb : Value) (xs ys : List ByteArray) (w : World) (h1 : ReadsT w va xs) (h2 : ReadsT w vb ys) (hz : xs.length ≤ 140737488355328) :
    Calls Tryd.prog 17 #[va, vb] w fun e w' => e = .returned (.bool (decide (xs = ys))) ∧ ∃ m, w' = w.drewN m := by
  obtain ⟨a, cap, rfl, _, h1⟩ := h1
  obtain ⟨a', cap', rfl, _, h2⟩ := h2
  by_cases hl : xs.length = ys.length
  · have HC : Hid (xs.length = 0 ∨ ∃ b off, a = some ⟨b, off, none⟩ ∧ ∀ i, i < xs.length → w.cell? ⟨b, off + i, none⟩ = some (.string (xs.getD i ByteArray.empty))) := h1
    rw [← hl] at h2 ⊢
    have HC' : Hid (xs.length = 0 ∨ ∃ b off, a' = some ⟨b, off, none⟩ ∧ ∀ i, i < xs.length → w.cell? ⟨b, off + i, none⟩ = some (.string (ys.getD i ByteArray.empty))) := h2
    have HL : Hid (xs.length = ys.length) := hl
    obtain ⟨n, HN⟩ : ∃ n, Hid (xs.length = n) := ⟨_, rfl⟩
    obtain ⟨r, HR⟩ : ∃ r, Hid (decide (xs = ys) = r) := ⟨_, rfl⟩
    rw [HR.out]
    rw [HN.out] at HC HC' hz ⊢
    clear h1 h2 hl
    have hl' : ((n : Int) == (n : Int)) = true := beq_self_eq_true _
    go_enter Tryd.func17, Tryd.ntmps17
    go_wp2
    go_loopw [5] (fun i wr => ∃ k m : Nat, k ≤ n ∧ i = .int .i64 k ∧ Hid (∀ j, j < k → xs.getD j ByteArray.empty = ys.getD j ByteArray.empty) ∧ wr = w.drewN m) (fun i _ => (n - intOf i).toNat)
    case atStart => exact ⟨0, 0, by omega, rfl, fun j h => by omega, rfl⟩
    case round =>
      obtain ⟨k, m, hk, rfl, HS, rfl⟩ := hrel
      by_cases hlt : k < n
      · have hlt' : (k : Int) < n := by omega
        obtain ⟨b, off, rfl, hc⟩ : ∃ b off, a = some ⟨b, off, none⟩ ∧ ∀ i, i < n → w.cell? ⟨b, off + i, none⟩ = some (.string (xs.getD i ByteArray.empty)) := by
          rcases HC.out with h | h
          · omega
          · exact h
        obtain ⟨b', off', rfl, hc'⟩ : ∃ b off, a' = some ⟨b, off, none⟩ ∧ ∀ i, i < n → w.cell? ⟨b, off + i, none⟩ = some (.string (ys.getD i ByteArray.empty)) := by
          rcases HC'.out with h | h
          · omega
          · exact h
        obtain ⟨X, HX⟩ : ∃ X, Hid (xs.getD k ByteArray.empty = X) := ⟨_, rfl⟩
        obtain ⟨Y, HY⟩ : ∃ X, Hid (ys.getD k ByteArray.empty = X) := ⟨_, rfl⟩
        have c1 := hc k hlt
        have c2 := hc' k hlt
        rw [HX.out] at c1
        rw [HY.out] at c2
        clear hc hc'
        by_cases hxy : X = Y
        · have hb : (X.toList == Y.toList) = true := by rw [beqL]; exact decide_eq_true hxy
          have HS1 : Hid (∀ j, j < k + 1 → xs.getD j ByteArray.empty = ys.getD j ByteArray.empty) := fun j hj => by
            rcases Nat.lt_or_ge j k with h | h
            · exact HS.out j h
            · obtain rfl : j = k := by omega
              rw [HX.out, HY.out, hxy]
          clear hxy
          go_wp2_with fail
          go_quiet (fail)
          go_wp2
          go_roundw
          case rel => exact ⟨k + 1, _, by omega, by go_num, HS1.out, rfl⟩
          case measure => simp [intOf]; omega
        · have hb : (X.toList == Y.toList) = false := by rw [beqL]; exact decide_eq_false hxy
          have HE : Hid (r = false) := by
            show _ = _
            rw [← HR.out]
            apply decide_eq_false
            intro e
            apply hxy
            rw [← HX.out, ← HY.out, e]
          clear hxy
          go_wp2_with fail
          go_quiet (fail)
          go_wp2
          go_ret
          exact ⟨by rw [HE.out]; rfl, m + nq, by rw [World.drewN_drewN]⟩
      · have hlt' : ¬ (k : Int) < n := by omega
        have HE : Hid (r = true) := by
          show _ = _
          rw [← HR.out]
          apply decide_eq_true
          exact lists_eq HL.out (fun j hj => HS.out j (by rw [HN.out] at hj; omega))
        go_wp2
        go_ret
        exact ⟨by rw [HE.out]; rfl, _, rfl⟩
  · rw [decide_eq_false (fun e => hl (by rw [e]))]
    have hb : ((xs.length : Int) == (ys.length : Int)) = false := by rw [beq_eq_false_iff_ne]; omega
    clear hl h1 h2
    go_enter Tryd.func17, Tryd.ntmps17
    go_wp2
    go_ret
    exact ⟨rfl, 0, rfl⟩
-- a list held against itself
theorem same_yes (va vb : Value) (xs : List ByteArray) (w : World) (h1 : ReadsT w va xs) (h2 : ReadsT w vb xs) (hz : xs.length ≤ 140737488355328) :
    Calls Tryd.prog 17 #[va, vb] w fun e w' => e = .returned (.bool true) ∧ ∃ m, w' = w.drewN m := by
  have := same va vb xs xs w h1 h2 hz
  rwa [decide_eq_true rfl] at this
def MK : ByteArray := ⟨#[109, 97, 114, 107]⟩
-- the same texts with a mark behind them
def TwinR (w : World) (B g n cp : Nat) (xs : List ByteArray) : Prop := w.ownsRow B 9 1 (.slice (some ⟨g, 0, none⟩) (n + 1) cp) (n + 1) (xs.map Value.string ++ [.string MK])
theorem num (x : Int) (w : World) : Calls Tryd.prog 14 #[.int .i64 x] w fun e w' => e = .returned (.int .i64 x) ∧ w' = w := by
  go_enter Tryd.func14, Tryd.ntmps14
  go_wp2
  go_ret
  exact ⟨rfl, rfl⟩
end Go.Proofs.YtglffbhcnafbnaaDoor.bn

namespace Go.Proofs.YtglffbhcnafbnaaDoor.bo
open Go.RowKit Go.PlainAid
open Go.Proofs.YtglffbhcnafbnaaDoor.pl Go.Proofs.YtglffbhcnafbnaaDoor.pi Go.Proofs.YtglffbhcnafbnaaDoor.pj Go.Proofs.YtglffbhcnafbnaaDoor.rf Go.Proofs.YtglffbhcnafbnaaDoor.ca Go.Proofs.YtglffbhcnafbnaaDoor.cb Go.Proofs.YtglffbhcnafbnaaDoor.cp Go.Proofs.YtglffbhcnafbnaaDoor.ka Go.Proofs.YtglffbhcnafbnaaDoor.kb Go.Proofs.YtglffbhcnafbnaaDoor.kc Go.Proofs.YtglffbhcnafbnaaDoor.ga Go.Proofs.YtglffbhcnafbnaaDoor.gb Go.Proofs.YtglffbhcnafbnaaDoor.bn
set_option linter.unusedVariables false

def LX (wd : Int) (xs : List ByteArray) : List ByteArray := xs.map (LF wd)
theorem LX_len (wd : Int) (xs : List ByteArray) : (LX wd xs).length = xs.length := List.length_map _
-- the leaves' hashes
set_option maxHeartbeats 1600000 in
theorem leaves {T : World → Prop} (later : ∀ {w w' : World}, T w → Below w.heap.size w w' → T w') (tab : ∀ {w : World}, T w → Tab w) (wd : Int) (v : Value) (xs : List ByteArray) (w : World) (hT : T w) (hR : ReadsT w v xs) (hf : Fits xs) :
    Calls Tryd.prog 20 #[.int .i64 wd, v] w fun e w' => (∃ u, e = .returned u ∧ w'.ownsRow w.heap.size 9 1 u (LX wd xs).length ((LX wd xs).map Value.string)) ∧ Below w.heap.size w w' := by
  obtain ⟨i9, hi, hz0, hz1, hz2⟩ := info_parts hi9
  have HIN : Hid (_ ∧ _ ∧ _ ∧ _) := ⟨hi, hz0, hz1, hz2⟩
  have HRD : Hid (ReadsT w v xs) := hR
  have LT : Hid (∀ {w w' : World}, T w → Below w.heap.size w w' → T w') := later
  have LC : Hid (∀ x ∈ xs, ∀ w, T w → Calls Tryd.prog 51 #[.int .i64 wd, .string x] w fun e w' => e = .returned (.string (LF wd x)) ∧ Below w.heap.size w w') := fun x hx w hw => pLeaf wd x (hf.each x hx) w (tab hw)
  have HT : Hid (T w) := hT
  have hnm := hf.many
  obtain ⟨a, cap, rfl, hcap, hh⟩ := hR
  obtain ⟨n, HN⟩ : ∃ n, Hid (xs.length = n) := ⟨_, rfl⟩
  rw [HN.out] at HRD hcap hnm ⊢
  clear hi hz0 hz1 hz2 hh hf hT later tab
  go_enter Tryd.func20, Tryd.ntmps20
  go_wp2
  go_loopw [5, 6] (fun out i wr => ∃ (u : Value) (k : Nat), k ≤ n ∧ out = u ∧ i = .int .i64 k ∧ Hid (wr.ownsRow w.heap.size 9 1 u k (((LX wd xs).take k).map Value.string)) ∧ Hid (Below w.heap.size w wr)) (fun _ i _ => (n - intOf i).toNat)
  case atStart => exact ⟨_, 0, by omega, rfl, rfl, World.ownsRow_nil _ _ _ _, Below.refl _ _⟩
  case round =>
    obtain ⟨u, k, hk, rfl, rfl, HO, HB⟩ := hrel
    obtain ⟨ua, uc, rfl⟩ := own_formS HO.out
    by_cases hlt : k < n
    · have hlt' : (k : Int) < n := by omega
      have hkx : k < xs.length := by rw [HN.out]; exact hlt
      obtain ⟨b, off, rfl, hc⟩ : ∃ b off, a = some ⟨b, off, none⟩ ∧ wr.cell? ⟨b, off + k, none⟩ = some (.string xs[k]) := by
        obtain ⟨a', cap', e, _, h0 | ⟨b, off, e4, hh⟩⟩ := HRD.out.later HB.out
        · omega
        · injection e with e1 _ _
          exact ⟨b, off, by rw [e1]; exact e4, by rw [hh k hkx, getD_at _ _ hkx]⟩
      have C : Hid (Calls _ _ _ _ _) := LC.out xs[k] (List.getElem_mem hkx) wr (LT.out HT.out HB.out)
      obtain ⟨x, HX⟩ : ∃ x : ByteArray, Hid (xs[k] = x) := ⟨xs[k], (rfl : xs[k] = xs[k])⟩
      obtain ⟨r, HR⟩ : ∃ r, Hid (LF wd x = r) := ⟨_, rfl⟩
      rw [HX.out] at hc C
      rw [HR.out] at C
      go_wp2_with fail
      refine C.out.mono ?_
      rintro e w1 ⟨rfl, hb⟩
      have B1 : Hid (Below w.heap.size w w1) := over HB.out hb
      have OX : Hid ((w1.alloc (.cells #[.string r] 9)).ownsRow w.heap.size 9 1 (.slice ua k uc) k (((LX wd xs).take k).map Value.string)) := (own_later HO.out hb).alloc _
      have BX : Hid (Below w.heap.size w (w1.alloc (.cells #[.string r] 9))) := B1.out.alloc B1.out.size _
      clear hb
      go_wp2_with (at_builtin; refine wpList_append_own _ rfl _ _ 28 rfl w.heap.size 9 i9 (.string ByteArray.empty) 1 16 Tryd.underlying28 HIN.out.1 HIN.out.2.1 HIN.out.2.2.1 HIN.out.2.2.2 rfl (by decide) _ k _ rfl OX.out ⟨w1.heap.size, 0, none⟩ 1 1 [.string r] rfl rfl (new_text _ _ _) (one_text _) (by unfold maxLen; omega) (by omega) BX.out.size ?_; intro p' w5 ho hg hnn; have HO5 : Hid (w5.ownsRow w.heap.size 9 1 p' (k + 1) (((LX wd xs).take k).map Value.string ++ [.string r])) := ho; have HB5 : Hid (Below w.heap.size w w5) := Below.grown BX.out hg BX.out.size (fun jj hj => (OX.out.lt _ hj).1); clear ho hg hnn)
      go_roundw
      case rel =>
        refine ⟨_, k + 1, by omega, rfl, by go_num, ?_, HB5.out⟩
        have e : (LX wd xs).take (k + 1) = (LX wd xs).take k ++ [r] := by
          rw [List.take_add_one, ← HR.out, ← HX.out]
          unfold LX
          rw [List.getElem?_map, List.getElem?_eq_getElem hkx]
          rfl
        show World.ownsRow _ _ _ _ _ _ _
        rw [e, List.map_append]
        exact HO5.out
      case measure => simp [intOf]; omega
    · have hlt' : ¬ (k : Int) < n := by omega
      obtain rfl : k = n := by omega
      go_wp2
      go_ret
      refine ⟨⟨_, rfl, ?_⟩, HB.out⟩
      have := HO.out
      rw [List.take_of_length_le (by rw [LX_len, HN.out]; omega)] at this
      rw [LX_len, HN.out]
      exact this
end Go.Proofs.YtglffbhcnafbnaaDoor.bo

namespace Go.Proofs.YtglffbhcnafbnaaDoor.bp
open Go.RowKit Go.PlainAid
open Go.Proofs.YtglffbhcnafbnaaDoor.ca Go.Proofs.YtglffbhcnafbnaaDoor.cp
set_option linter.unusedVariables false

-- a number below n, out of any
def pk (k : Int) (n : Nat) : Nat := (k % n).toNat
theorem pk_lt (k : Int) {n : Nat} (h : 1 ≤ n) : pk k n < n := by
  unfold pk
  have h1 := Int.emod_nonneg k (show (n : Int) ≠ 0 by omega)
  have h2 := Int.emod_lt_of_pos k (show (0 : Int) < n by omega)
  omega
theorem pick (k : Int) (n : Nat) (h : 1 ≤ n) (hn : n ≤ 4611686018427387905) (hk : i64 k) (w : World) : Calls Tryd.prog 19 #[.int .i64 k, .int .i64 n] w fun e w' => e = .returned (.int .i64 (pk k n : Nat)) ∧ w' = w := by
  have h1 := Int.emod_nonneg k (show (n : Int) ≠ 0 by omega)
  have h2 := Int.emod_lt_of_pos k (show (0 : Int) < n by omega)
  have q0 : ((n : Int) == 0) = false := by rw [beq_eq_false_iff_ne]; omega
  have hn0 : (n : Int) ≠ 0 := by omega
  obtain ⟨t, HT⟩ : ∃ t, Hid (k.tmod n = t) := ⟨_, rfl⟩
  have ht := HT.out
  have HP : Hid (((pk k n : Nat) : Int) = if t < 0 then t + n else t) := by
    show _ = _
    unfold pk
    rw [← HT.out, Int.toNat_of_nonneg h1]
    by_cases hk0 : 0 ≤ k
    · rw [Int.tmod_eq_emod_of_nonneg hk0, if_neg (by omega)]
    · rw [Int.tmod_eq_emod]
      by_cases hd : 0 ≤ k ∨ (n : Int) ∣ k
      · rw [if_pos hd]
        rw [if_neg (by omega)]
        omega
      · rw [if_neg hd]
        have : k % n ≠ 0 := fun e => hd (.inr (Int.dvd_of_emod_eq_zero e))
        have hna : ((n : Int).natAbs : Int) = n := by omega
        rw [if_pos (by omega)]
        omega
  have htb : -(n : Int) < t ∧ t < n := by
    rw [← HT.out]
    have e1 := Int.tmod_lt_of_pos k (show (0 : Int) < n by omega)
    have e2 := Int.lt_tmod_of_pos k (show (0 : Int) < n by omega)
    omega
  have hw1 : IntKind.i64.wrap t = t := by rw [IntKind.wrap_i64]; omega
  clear h1 h2
  by_cases h0 : t < 0
  · have HE : Hid (((pk k n : Nat) : Int) = t + n) := by have := HP.out; rw [if_pos h0] at this; exact this
    rw [HE.out]
    have hw2 : IntKind.i64.wrap (t + n) = t + n := by rw [IntKind.wrap_i64]; omega
    go_enter Tryd.func19, Tryd.ntmps19
    go_wp2
    go_ret
    exact ⟨rfl, rfl⟩
  · have HE : Hid (((pk k n : Nat) : Int) = t) := by have := HP.out; rw [if_neg h0] at this; exact this
    rw [HE.out]
    go_enter Tryd.func19, Tryd.ntmps19
    go_wp2
    go_ret
    exact ⟨rfl, rfl⟩
end Go.Proofs.YtglffbhcnafbnaaDoor.bp

namespace Go.Proofs.YtglffbhcnafbnaaDoor.bs
open Go.RowKit Go.PlainAid
open Go.Proofs.YtglffbhcnafbnaaDoor.pl Go.Proofs.YtglffbhcnafbnaaDoor.pi Go.Proofs.YtglffbhcnafbnaaDoor.rf Go.Proofs.YtglffbhcnafbnaaDoor.pj Go.Proofs.YtglffbhcnafbnaaDoor.ca Go.Proofs.YtglffbhcnafbnaaDoor.cb Go.Proofs.YtglffbhcnafbnaaDoor.cp Go.Proofs.YtglffbhcnafbnaaDoor.cs Go.Proofs.YtglffbhcnafbnaaDoor.ka Go.Proofs.YtglffbhcnafbnaaDoor.kb Go.Proofs.YtglffbhcnafbnaaDoor.ga Go.Proofs.YtglffbhcnafbnaaDoor.gb Go.Proofs.YtglffbhcnafbnaaDoor.aa Go.Proofs.YtglffbhcnafbnaaDoor.ab Go.Proofs.YtglffbhcnafbnaaDoor.ad Go.Proofs.YtglffbhcnafbnaaDoor.ac Go.Proofs.YtglffbhcnafbnaaDoor.bc Go.Proofs.YtglffbhcnafbnaaDoor.bd Go.Proofs.YtglffbhcnafbnaaDoor.bh Go.Proofs.YtglffbhcnafbnaaDoor.br Go.Proofs.YtglffbhcnafbnaaDoor.bi Go.Proofs.YtglffbhcnafbnaaDoor.bj Go.Proofs.YtglffbhcnafbnaaDoor.bl Go.Proofs.YtglffbhcnafbnaaDoor.bo
set_option linter.unusedVariables false

theorem root_wid {wd : Int} {xs : List ByteArray} (hx : ∀ x ∈ xs, x.size = wid wd) : (rootP (EF wd) (NF wd) xs).size = wid wd := by
  rcases Nat.lt_or_ge xs.length 2 with e | e
  · match xs, e, hx with
    | [], _, _ => rw [rootP_nil]; exact cutS_size _ _
    | [x], _, hx => rw [rootP_one]; exact hx x (List.mem_cons_self ..)
  · rw [rootP_half _ _ e]; exact cutS_size _ _
def asked (wd : Int) (hs : List ByteArray) : Nat → Nat × Nat → ByteArray × Int := fun _ a => ofP wd hs a.1 a.2
def hsx (wd : Int) (hs : List ByteArray) (a : Nat × Nat) : ByteArray := rootP (EF wd) (NF wd) (piece hs a)
theorem part_is {wd : Int} {hs : List ByteArray} {a b : Nat} (h : Pt a b) (hab : a ≤ b) (hb : b ≤ hs.length) : fow wd ((cov a b).map (hsx wd hs)) = rt (EF wd) (NF wd) hs (a, b) := part_root (EF wd) (NF wd) hs h hab hb
section
variable {wd : Int} {hs : List ByteArray} (hw : ∀ x ∈ hs, x.size = wid wd) (hn : hs.length ≤ 4611686018427387904)
include hw hn
theorem ask_in {a b : Nat} (hb : b ≤ hs.length) : ∀ x ∈ cov a b, ∀ k, asked wd hs k x = (hsx wd hs x, 0) ∧ okw wd (hsx wd hs x) = true := by
  intro x hx k
  have hc := cov_in a b x hx
  refine ⟨?_, ?_⟩
  · exact ofP_in wd hs x.1 x.2 ((okA_nat _ _).2 ⟨hc.2.2, by omega⟩) (by omega)
  · unfold okw hsx piece
    exact decide_eq_true (root_wid (fun y hy => hw y (List.mem_of_mem_drop (List.mem_of_mem_take hy))))
theorem hash_is {b : Nat} (hb : b ≤ hs.length) (l : List (Nat × Nat)) : hashP (okw wd) (fow wd) (asked wd hs) l (0, b) = (rootP (EF wd) (NF wd) (hs.take b), 0, l ++ cov 0 b) := by
  rw [hash_all _ _ _ (hsx wd hs) _ _ (ask_in hw hn hb)]
  show (fow wd ((cov 0 b).map (hsx wd hs)), _) = _
  rw [part_is (pt_top (by omega)) (Nat.zero_le _) hb]
  rfl
theorem told_is (lk : Nat → Nat → Nat) {b : Nat} (hb : b ≤ hs.length) (l : List (Nat × Nat)) : told (okw wd) (fow wd) (asked wd hs) l (WL lk 0 b) = ((WL lk 0 b).map (rt (EF wd) (NF wd) hs), 0, l ++ (WL lk 0 b).flatMap (fun p => cov p.1 p.2)) := by
  have hp := WL_pt lk b 0 b rfl (Nat.zero_le _) (pt_top (show b ≤ 4611686018427387904 by omega))
  rw [told_all _ _ _ (hsx wd hs) _ _ (fun p h => ask_in hw hn (by have := (hp p h).2.2; omega))]
  rw [List.map_congr_left (g := rt (EF wd) (NF wd) hs) (fun p h => part_is (hp p h).1 (hp p h).2.1 (by have := (hp p h).2.2; omega))]
end
theorem LX_wid (wd : Int) (xs : List ByteArray) : ∀ x ∈ LX wd xs, x.size = wid wd := by
  intro x hx
  obtain ⟨y, _, rfl⟩ := List.mem_map.1 hx
  exact cutS_size _ _
theorem LX_take (wd : Int) (xs : List ByteArray) (n : Nat) : (LX wd xs).take n = LX wd (xs.take n) := by unfold LX; rw [List.map_take]
theorem chk_in {sz n : Nat} (h : n ≤ sz) (hs : sz ≤ 4611686018427387904) : chk sz n = 0 := by unfold chk; rw [if_neg (by omega), if_neg (by omega)]
-- over the leaves' hashes of a list: the standard's
theorem root_std (wd : Int) (xs : List ByteArray) (n : Nat) (hn : n ≤ xs.length) (hx : xs.length ≤ 4611686018427387904) (l : List (Nat × Nat)) : ∃ l', rootA wd (asked wd (LX wd xs)) xs.length n l = (RT wd (xs.take n), 0, l') := by
  refine ⟨l ++ cov 0 n, ?_⟩
  unfold rootA
  rw [if_pos (chk_in hn hx), Int.toNat_natCast, hash_is (LX_wid wd xs) (by rw [LX_len]; exact hx) (by rw [LX_len]; exact hn), LX_take]
  rfl
theorem cons_std (wd : Int) (xs : List ByteArray) (m n : Nat) (hm : m ≤ n) (hn : n ≤ xs.length) (hx : xs.length ≤ 4611686018427387904) (l : List (Nat × Nat)) : ∃ l', conA wd (asked wd (LX wd xs)) xs.length m n l = (QT wd m (xs.take n), 0, l') := by
  have hl : (xs.take n).length = n := by rw [List.length_take]; omega
  unfold conA
  rw [if_pos (chk_in hn hx), if_neg (by omega)]
  by_cases h0 : m = 0
  · refine ⟨l, ?_⟩
    rw [if_pos (by omega)]
    unfold QT
    rw [if_neg (by omega)]
  · refine ⟨l ++ (WL (lkC m) 0 n).flatMap (fun p => cov p.1 p.2), ?_⟩
    rw [if_neg (by omega), Int.toNat_natCast, Int.toNat_natCast, told_is (LX_wid wd xs) (by rw [LX_len]; exact hx) _ (by rw [LX_len]; exact hn)]
    have := sub_parts (EF wd) (NF wd) (LX wd xs) m n 0 n rfl (by omega) hm (by rw [LX_len]; exact hn)
    rw [this, List.drop_zero, Nat.sub_zero, Nat.sub_zero, LX_take]
    unfold QT
    rw [if_pos ⟨by omega, by rw [hl]; omega⟩, Int.toNat_natCast]
    rfl
theorem incl_std (wd : Int) (xs : List ByteArray) (i n : Nat) (hi : i < n) (hn : n ≤ xs.length) (hx : xs.length ≤ 4611686018427387904) (l : List (Nat × Nat)) : ∃ l', incA wd (asked wd (LX wd xs)) xs.length i n l = (PT wd i (xs.take n), 0, l') := by
  have hl : (xs.take n).length = n := by rw [List.length_take]; omega
  refine ⟨l ++ (WL (lkI i) 0 n).flatMap (fun p => cov p.1 p.2), ?_⟩
  unfold incA
  rw [if_pos (chk_in hn hx), if_neg (by omega), Int.toNat_natCast, Int.toNat_natCast, told_is (LX_wid wd xs) (by rw [LX_len]; exact hx) _ (by rw [LX_len]; exact hn)]
  have := path_parts (EF wd) (NF wd) (LX wd xs) i n 0 n rfl (by omega) hi (by rw [LX_len]; exact hn)
  rw [this, List.drop_zero, Nat.sub_zero, Nat.sub_zero, LX_take]
  unfold PT
  rw [if_pos ⟨by omega, by rw [hl]; omega⟩, Int.toNat_natCast]
  rfl
theorem ans_ok {ts : List ByteArray} {l : List (Nat × Nat)} : ans (ts, 0, l) = ts := by unfold ans; rw [if_pos rfl]
end Go.Proofs.YtglffbhcnafbnaaDoor.bs
