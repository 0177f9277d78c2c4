import Derived.Test.YtmmbkfagchaocaaDoorC3
import Derived.Test.YtmmbkfagchaocaaDoorB1
import Derived.Lib.MinMax
import Derived.Deep.RegionWith
import Derived.Deep.RegionHeld3
import Derived.Deep.RegionHeldLaw
import Derived.Deep.DeepCutAuto
import Derived.BigQuiet
namespace Go.Proofs.YtmmbkfagchaocaaDoor.v8
open Go.RowKit Go.PlainAid
open Go.Proofs.YtmmbkfagchaocaaDoor.pl Go.Proofs.YtmmbkfagchaocaaDoor.pi Go.Proofs.YtmmbkfagchaocaaDoor.pj Go.Proofs.YtmmbkfagchaocaaDoor.rf Go.Proofs.YtmmbkfagchaocaaDoor.cp Go.Proofs.YtmmbkfagchaocaaDoor.cs Go.Proofs.YtmmbkfagchaocaaDoor.ca Go.Proofs.YtmmbkfagchaocaaDoor.cb Go.Proofs.YtmmbkfagchaocaaDoor.ka Go.Proofs.YtmmbkfagchaocaaDoor.kb Go.Proofs.YtmmbkfagchaocaaDoor.ga Go.Proofs.YtmmbkfagchaocaaDoor.aa Go.Proofs.YtmmbkfagchaocaaDoor.ab Go.Proofs.YtmmbkfagchaocaaDoor.ad Go.Proofs.YtmmbkfagchaocaaDoor.ae Go.Proofs.YtmmbkfagchaocaaDoor.ac Go.Proofs.YtmmbkfagchaocaaDoor.tb Go.Proofs.YtmmbkfagchaocaaDoor.bc Go.Proofs.YtmmbkfagchaocaaDoor.bd Go.Proofs.YtmmbkfagchaocaaDoor.bh Go.Proofs.YtmmbkfagchaocaaDoor.bi Go.Proofs.YtmmbkfagchaocaaDoor.bj Go.Proofs.YtmmbkfagchaocaaDoor.bp Go.Proofs.YtmmbkfagchaocaaDoor.bt Go.Proofs.YtmmbkfagchaocaaDoor.mi Go.Proofs.YtmmbkfagchaocaaDoor.mp Go.Proofs.YtmmbkfagchaocaaDoor.mq Go.Proofs.YtmmbkfagchaocaaDoor.sa Go.Proofs.YtmmbkfagchaocaaDoor.sc Go.Proofs.YtmmbkfagchaocaaDoor.sd Go.Proofs.YtmmbkfagchaocaaDoor.se Go.Proofs.YtmmbkfagchaocaaDoor.sm Go.Proofs.YtmmbkfagchaocaaDoor.sn Go.Proofs.YtmmbkfagchaocaaDoor.sr Go.Proofs.YtmmbkfagchaocaaDoor.su Go.Proofs.YtmmbkfagchaocaaDoor.v1 Go.Proofs.YtmmbkfagchaocaaDoor.v2 Go.Proofs.YtmmbkfagchaocaaDoor.v3 Go.Proofs.YtmmbkfagchaocaaDoor.v4 Go.Proofs.YtmmbkfagchaocaaDoor.v5 Go.Proofs.YtmmbkfagchaocaaDoor.v6
open Go.Proofs.YtmmbkfagchaocaaDoor.s2 (Clu wpList_appS)
open Go.Proofs.YtmmbkfagchaocaaDoor.ls (six)
set_option linter.unusedVariables false

theorem lit1 (W : World) (z : Int) : ReadsI (W.alloc (.cells #[.int .i64 z] 3)) (.slice (some ⟨W.heap.size, 0, none⟩) 1 1) [z] := by
  refine ⟨_, 1, rfl, Nat.le_refl _, .inr ⟨W.heap.size, 0, rfl, fun i hi => ?_⟩⟩
  obtain rfl : i = 0 := by simpa using hi
  rw [World.cell?_alloc_at _ _ _ _ rfl]
  rfl
theorem sq_new {w wr w2 : World} {wd : Int} {n sb base tb g K cp B0 : Nat} {zs : List Int} (hQ : 6 ≤ w.heap.size) (hb0 : Below w.heap.size w wr) (ho : OwI wr B0 (.slice (some ⟨g, 0, none⟩) K cp) zs) (hz : zs ≠ []) (hB0 : w.heap.size ≤ B0) (htj : TJ (mds wd n) sb (.slice none 0 0) base tb (fun b => b = sb) [] w2) (hsb : wr.heap.size ≤ sb) (hb1 : Below wr.heap.size wr w2) :
    Sq (w2.heap.size + 1) w wd n sb base tb [w2.heap.size] (.slice (some ⟨g, 0, none⟩) K cp) zs [] [] 0 (w2.alloc (RO wd n tb)) := by
  have b2 : Below w2.heap.size w2 (w2.alloc (RO wd n tb)) := (Below.refl _ _).alloc (Nat.le_refl _) _
  have o2 : w2.ownsRow B0 3 1 (.slice (some ⟨g, 0, none⟩) K cp) zs.length (zs.map (Value.int .i64)) := own_later ho hb1
  have hKz : zs.length = K := v2.own_n o2
  subst hKz
  have glt : g < wr.heap.size := (ho.lt g rfl).2
  have hsw : sb < w2.heap.size := (rdl wd n sb base tb).within htj sb rfl
  refine ⟨fun b => b = sb, [], Nat.le_refl _, (rdl wd n sb base tb).later htj b2, fun q hq => ?_, own_down (own_later o2 b2) hB0, fun h => ?_, fun p hp => by simp at hp, fun p hp => by simp at hp, ⟨fun c h => by simp at h, List.Pairwise.nil⟩, fun q hq hf => ?_, fun c hc => by simp at hc, fun q hq hf => ?_, over (over hb0 hb1) b2, fun b hb => ?_, ?_⟩
  · obtain rfl := List.mem_singleton.1 hq
    exact heap_alloc_new _ _
  · have e : g = tb := Option.some.inj h
    have c1 := htj.c
    rw [← e] at c1
    obtain ⟨z, zs', rfl⟩ : ∃ z zs', zs = z :: zs' := List.exists_cons_of_ne_nil hz
    have c2 := World.ownsRow.cellAt o2 0 (by simp)
    rw [c2] at c1
    cases c1
  · have e1 : g = q := Option.some.inj hq
    have e2 : q = sb := hf
    omega
  · obtain rfl := List.mem_singleton.1 hq
    have e2 : w2.heap.size = sb := hf
    omega
  · have e2 : b = sb := hb
    have := hb0.size
    omega
  · have c1 : tb < w2.heap.size := World.block_lt_of_cell? _ _ htj.c
    have := hb0.size
    have := hb1.size
    have hs : (w2.alloc (RO wd n tb)).heap.size = w2.heap.size + 1 := by simp
    exact ⟨by omega, by omega, hQ, by omega⟩
theorem addS {B : Nat} {w0 w w' : World} {wd : Int} {n sb base tb : Nat} {R : List Nat} {av : Value} {zs : List Int} {H : List (List (Value × List Value))} {S : List (Value × List Value)} {X : Nat} (h : Sq B w0 wd n sb base tb R av zs H S X w) (b : Below w.heap.size w w') {C : List (List (Value × List Value))} (hC : Clu w' w.heap.size 9 1 C) {v : Value} {m : Nat} {xs : List Value} (ho : w'.ownsRow w.heap.size 22 1 v m xs) : Sq B w0 wd n sb base tb R av zs (H ++ C) (S ++ [(v, xs)]) X w' := h.map fun q => by
  have k1 := q.add b hC
  have k2 := q.keepS b ho
  exact ⟨k1.j, k1.r, k1.a, k1.na, k2.s, k2.bs, k1.c, k1.ba, k1.bc, k1.br, k1.fr, k1.fF, k1.hB⟩
theorem litS (W : World) (vs : Array Value) (m : Nat) (hm : vs.size = m) (hl : m ≤ maxLen) : (W.alloc (.cells vs 22)).ownsRow W.heap.size 22 1 (.slice (some ⟨W.heap.size, 0, none⟩) m m) m vs.toList := by
  subst hm
  exact World.ownsRow_lit W vs vs.size (Nat.le_refl _) hl (by simp)
theorem cellS (W : World) (vs : Array Value) (t : TypeId) : ∀ (j : Nat) (v : Value), vs.toList[j]? = some v → (W.alloc (.cells vs t)).cell? ⟨W.heap.size, j, none⟩ = some v := by
  intro j v h
  rw [World.cell?_alloc_at _ _ _ _ rfl, ← Array.getElem?_toList]
  exact h
theorem of_pairs {P : List (Value × List ByteArray)} {Q : Value → List ByteArray → Prop} (h : ∀ p ∈ P, Q p.1 p.2) : ∀ (j : Nat) (v : Value) (L : List ByteArray), (P.map (·.1))[j]? = some v → (P.map (·.2))[j]? = some L → Q v L := by
  intro j v L h1 h2
  rw [List.getElem?_map] at h1 h2
  obtain ⟨p, hp, rfl⟩ := Option.map_eq_some_iff.1 h1
  rw [hp] at h2
  obtain rfl := Option.some.inj h2
  exact h p (List.mem_of_getElem? hp)
theorem cellA {B : Nat} {w0 w : World} {wd : Int} {n sb base tb : Nat} {R : List Nat} {av : Value} {zs : List Int} {H : List (List (Value × List Value))} {S : List (Value × List Value)} {X : Nat} (h : Sq B w0 wd n sb base tb R av zs H S X w) {i m cp ab : Nat} {vs : List Value} (hi : S[i]? = some (.slice (some ⟨ab, 0, none⟩) m cp, vs)) {j : Nat} {v : Value} (hj : vs[j]? = some v) : w.cell? ⟨ab, j, none⟩ = some v := by
  obtain ⟨g, e, h⟩ := Sq.cellS h hi hj
  have e2 : ab = g := congrArg Addr.block (Option.some.inj e)
  rw [e2]
  exact h
theorem new1 (w : World) (u : Value) (t : Nat) : ∀ j z, [u][j]? = some z → (w.alloc (.cells #[u] t)).cell? ((⟨w.heap.size, 0, none⟩ : Addr).add j) = some z := s8.new1 w u t
theorem cell_on {w w' : World} {p : Addr} {u : Value} (b : Below w.heap.size w w') (h : w.cell? p = some u) : w'.cell? p = some u := (b.cell (World.block_lt_of_cell? _ _ h)).trans h
theorem frozen_on {w w' : World} {p : Addr} {u : Value} (b : Below w.heap.size w w') (h : w.cell? p = some u) (hf : w.frozen? p = false) : w'.frozen? p = false := (World.frozen?_of_block (b.block p.block (World.block_lt_of_cell? _ _ h))).trans hf
-- what is looked at behind the writing: the twins and the copies
theorem later_same {Hq H0 : List (List (Value × List Value))} {V : List Value} {B : Nat} {w0 w : World} {wd : Int} {n sb base tb : Nat} {R : List Nat} {av : Value} {zs : List Int} {S : List (Value × List Value)} {X : Nat} (h : Sq B w0 wd n sb base tb R av zs Hq S X w) (m : Mk V H0 5 0 Hq) {q : Nat} (hq : ∀ t, t < 5 → ix t ≠ q) {v : Value} {L : List ByteArray} (hk : H0[q]? = some [(v, L.map Value.string)]) : ReadsT w v L := h.read (k := q) ((m.rest q hq).trans hk)
set_option maxRecDepth 100000 in
set_option maxHeartbeats 25600000 in
theorem prove_same2 (wd xN xI xM xL xH : Int) (v : Value) (hwd : i64 wd) (hN : i64 xN) (hL : i64 xL) (hH : i64 xH) (w : World) (hT : T7 w) (hcase : ¬ 1 < 1 + pk xN 4611686018427387904) :
    Calls Tryd.prog 4 #[.int .i64 wd, .agg #[.int .i64 xN, .int .i64 xI, .int .i64 xM, .int .i64 xL, .int .i64 xH, v]] w fun e w' => e = .returned (.bool true) ∧ Below w.heap.size w w' := by
  have HT : Hid (T7 w) := hT
  have SZ : Hid (∀ w, Calls _ _ _ _ _) := fun w => sizeC xN hN w
  have hp := pk_lt xN (n := 4611686018427387904) (by decide)
  obtain ⟨n, HNN⟩ : ∃ n, Hid (1 + pk xN 4611686018427387904 = n) := ⟨_, rfl⟩
  have hn1 : 1 ≤ n := by rw [← HNN.out]; omega
  have hn2 : n ≤ 4611686018427387904 := by rw [← HNN.out]; omega
  have hnn : ¬ 1 < n := by rw [← HNN.out]; exact hcase
  rw [HNN.out] at SZ
  obtain ⟨lo, HLO⟩ : ∃ i, Hid (pk xL n = i) := ⟨_, rfl⟩
  have hlo : lo < n := by rw [← HLO.out]; exact pk_lt xL hn1
  have PK : Hid (∀ w, Calls _ _ _ _ _) := fun w => pick xL n hn1 (by omega) hL w
  rw [HLO.out] at PK
  obtain ⟨d, HD⟩ : ∃ d, Hid (n - lo = d) := ⟨_, rfl⟩
  have d1 : (n : Int) - (lo : Int) = (d : Int) := by have := HD.out; omega
  have d2 : 1 ≤ d := by have := HD.out; omega
  obtain ⟨mm, HMM⟩ : ∃ m, Hid (min d 100 = m) := ⟨_, rfl⟩
  have m1 : min (d : Int) 100 = (mm : Int) := by have := HMM.out; omega
  have m2 : 1 ≤ mm ∧ mm ≤ 100 ∧ mm ≤ d := by have := HMM.out; omega
  have PK2 : Hid (∀ w, Calls _ _ _ _ _) := fun w => pick xH mm m2.1 (by omega) hH w
  have hp2 := pk_lt xH m2.1
  obtain ⟨p, HP⟩ : ∃ i, Hid (pk xH mm = i) := ⟨_, rfl⟩
  rw [HP.out] at PK2 hp2
  obtain ⟨K, HK⟩ : ∃ K, Hid (1 + p = K) := ⟨_, rfl⟩
  obtain ⟨hi, HHI⟩ : ∃ h, Hid (lo + K = h) := ⟨_, rfl⟩
  obtain ⟨l1, HL1⟩ : ∃ h, Hid (lo + 1 = h) := ⟨_, rfl⟩
  have s1 : (lo : Int) + 1 = (l1 : Int) := by have := HL1.out; omega
  have s2 : (l1 : Int) + (p : Int) = (hi : Int) := by have := HL1.out; have := HK.out; have := HHI.out; omega
  have k1 : 1 ≤ K := by have := HK.out; omega
  have k2 : K ≤ 100 := by have := HK.out; omega
  have k3 : lo + K ≤ n := by have := HK.out; have := HD.out; omega
  have k4 : hi ≤ n := by have := HHI.out; omega
  have hbig : l1 ≤ 4611686018427387904 := by have := HL1.out; omega
  -- what the questions answer
  have hS1 := says_rng wd n lo (lo + K) hn1 hn2 (by omega) k3
  have hS4 := says_mul wd n (atL lo K) hn1 hn2 ((atL_up lo K n k3).places (by rw [atL_len]; exact k1) (by rw [atL_len]; omega))
  rw [← hs_range wd n lo K k1 hn1, atL_len] at hS4
  have hS2 := says_inc wd n lo hn1 hn2 hlo
  have hS5 := says_mul wd n (atL lo 1) hn1 hn2 ((atL_up lo 1 n (by omega)).places (by rw [atL_len]; exact Nat.le_refl _) (by rw [atL_len]; omega))
  rw [atL_len] at hS5
  have hpm := hs_incl wd n lo hn1
  have hsm := hs_some wd n lo hn1 hn2 hlo
  obtain ⟨LK, hS3⟩ := says_con wd n lo hn1 hn2 (by omega)
  obtain ⟨LA, HLA⟩ : ∃ L, Hid (hsW wd (WL (lkR lo (lo + K)) 0 n) = L) := ⟨_, rfl⟩
  obtain ⟨LC, HLC⟩ : ∃ L, Hid (hsW wd (WL (lkI lo) 0 n) = L) := ⟨_, rfl⟩
  obtain ⟨LD, HLD⟩ : ∃ L, Hid (hsW wd (WL (lkM (natL (atL lo 1))) 0 n) = L) := ⟨_, rfl⟩
  rw [HLA.out] at hS1 hS4
  rw [HLC.out] at hS2 hpm hsm
  rw [HLD.out] at hS5 hpm
  rw [HHI.out] at hS1
  obtain ⟨la, HA⟩ : ∃ l, Hid (LA.length = l) := ⟨_, rfl⟩
  obtain ⟨lc, HC⟩ : ∃ l, Hid (LC.length = l) := ⟨_, rfl⟩
  obtain ⟨ld, HDL⟩ : ∃ l, Hid (LD.length = l) := ⟨_, rfl⟩
  obtain ⟨lk, HKL⟩ : ∃ l, Hid (LK.length = l) := ⟨_, rfl⟩
  have za : la ≤ 6400 := by obtain ⟨_, _, h, _⟩ := hS1; have := HA.out; omega
  have zc : lc ≤ 6400 := by obtain ⟨_, _, h, _⟩ := hS2; have := HC.out; omega
  have zd : ld ≤ 6400 := by obtain ⟨_, _, h, _⟩ := hS5; have := HDL.out; omega
  have zk : lk ≤ 6400 := by obtain ⟨_, _, h, _⟩ := hS3; have := HKL.out; omega
  have HPM : Hid (LC.Perm LD) := hpm
  have HSM : Hid (1 < n → lc ≠ 0) := fun h => by rw [← HC.out]; exact hsm h
  have HWD : Hid (i64 wd) := hwd
  have S1 : Hid (Says _ LA 124) := hS1
  have S2 : Hid (Says _ LC 62) := hS2
  have S3 : Hid (Says _ LK 63) := hS3
  have S4 : Hid (Says _ LA (K * 62)) := hS4
  have S5 : Hid (Says _ LD (1 * 62)) := hS5
  have MD : Hid (∀ w', T7 w' → Calls _ _ _ _ _) := fun w' h => madeC wd n w' h
  have NM : Hid (∀ x w, Calls _ _ _ _ _) := fun x w => bn.num x w
  have X6 : Hid (_ ∧ _ ∧ _ ∧ _ ∧ _ ∧ _) := six w (.int .i64 xN) (.int .i64 xI) (.int .i64 xM) (.int .i64 xL) (.int .i64 xH) v 43
  obtain ⟨W0, HW0⟩ : ∃ W0, Hid (w.alloc (.cells #[.int .i64 xN, .int .i64 xI, .int .i64 xM, .int .i64 xL, .int .i64 xH, v] 43) = W0) := ⟨_, rfl⟩
  have B0 : Hid (Below w.heap.size w W0) := by show Below _ _ _; rw [← HW0.out]; exact (Below.refl _ _).alloc (Nat.le_refl _) _
  rw [HW0.out] at X6
  have T0 : Hid (T7 W0) := HT.out.down B0.out
  have y0 := X6.out.1
  have y3 := X6.out.2.2.2.1
  have y4 := X6.out.2.2.2.2.1
  have HQ : Hid (6 ≤ w.heap.size) := HT.out.t.t.big
  clear hcase hp hT hN hS1 hS2 hS3 hS4 hS5 hpm hsm HLA HLC HLD hwd
  go_enter Tryd.func4, Tryd.ntmps4
  go_upto_region 1 with fail
  rw [HW0.out]
  go_wp2_with fail
  refine (SZ.out _).mono ?_
  rintro e W1 ⟨rfl, hw⟩
  subst hw
  go_wp2_with fail
  refine (PK.out _).mono ?_
  rintro e W2 ⟨rfl, hw⟩
  subst hw
  go_wp2_with fail
  refine (PK2.out _).mono ?_
  rintro e W3 ⟨rfl, hw⟩
  subst hw
  clear SZ PK PK2 y0 y3 y4
  go_wp2
  go_loopw [8, 9] (fun av i wr => ∃ j : Nat, j ≤ K ∧ i = .int .i64 ((lo + j : Nat) : Int) ∧ Hid (OwI wr W3.heap.size av (atL lo j) ∧ Below W3.heap.size W3 wr)) (fun _ i _ => (hi - intOf i).toNat)
  case atStart => exact ⟨0, by omega, rfl, World.ownsRow_nil _ _ _ _, Below.refl _ _⟩
  case round =>
    obtain ⟨j, hj, rfl, HO⟩ := hrel
    obtain ⟨av, rfl⟩ : ∃ v, v = u8 := ⟨_, rfl⟩
    obtain ⟨w1, rfl⟩ : ∃ v, v = wr := ⟨_, rfl⟩
    obtain ⟨t, HTT⟩ : ∃ t, Hid (lo + j = t) := ⟨_, rfl⟩
    rw [HTT.out]
    by_cases hlt : j < K
    · have hlt' : (t : Int) < hi := by have := HTT.out; have := HHI.out; omega
      have hti : t ≤ 4611686018427387904 := by have := HTT.out; omega
      have R1 : Hid (ReadsI (w1.alloc (.cells #[.int .i64 (t : Int)] 3)) (.slice (some ⟨w1.heap.size, 0, none⟩) 1 1) [(t : Int)]) := lit1 w1 t
      have O1 : Hid (OwI (w1.alloc (.cells #[.int .i64 (t : Int)] 3)) W3.heap.size av (atL lo j) ∧ Below W3.heap.size W3 (w1.alloc (.cells #[.int .i64 (t : Int)] 3))) := ⟨own_later HO.out.1 ((Below.refl _ _).alloc (Nat.le_refl _) _), over HO.out.2 ((Below.refl _ _).alloc (Nat.le_refl _) _)⟩
      go_wp2_with (at_builtin; refine wpList_appN rfl _ _ rfl W3.heap.size _ _ (atL lo j) [(t : Int)] rfl O1.out.1 rfl R1.out (by intro k c e; cases e) (by rw [atL_len]; simp only [List.length_singleton]; omega) O1.out.2.size ?_; intro av' w2 p1 p2; have O2 : Hid (OwI w2 W3.heap.size av' (atL lo (j + 1)) ∧ Below W3.heap.size W3 w2) := ⟨(by rw [atL_succ, HTT.out]; exact p1), O1.out.2.trans p2⟩; clear p1 p2)
      go_roundw
      case rel => exact ⟨j + 1, by omega, by have := HTT.out; go_num, O2⟩
      case measure => simp [intOf]; omega
    · have hlt' : ¬ (t : Int) < hi := by have := HTT.out; have := HHI.out; omega
      obtain rfl : j = K := by omega
      obtain ⟨ga, cp, hav⟩ := own_formS HO.out.1
      rw [atL_len] at hav
      obtain ⟨g, rfl⟩ : ∃ g, ga = some ⟨g, 0, none⟩ := by
        rcases HO.out.1.2 with ⟨e, e2⟩ | ⟨g, cap, cur, e, _⟩
        · rw [atL_len] at e2; omega
        · rw [hav] at e; exact ⟨g, (Value.slice.inj e).1⟩
      have hcp : j ≤ cp := by
        rcases HO.out.1.2 with ⟨e, e2⟩ | ⟨g', cap, cur, e, _, _, hle, _⟩
        · rw [atL_len] at e2; omega
        · rw [hav] at e; have := (Value.slice.inj e).2.2; rw [atL_len] at hle; omega
      subst hav
      have hcp1 : 1 ≤ cp := by omega
      have hcpI : (1 : Int) ≤ (cp : Int) := by omega
      have TW : Hid (T7 w1) := T0.out.down HO.out.2
      go_wp2_with fail
      refine (MD.out _ TW.out).mono ?_
      rintro e w2 ⟨⟨sb, tb, base, rfl, htj, hsb⟩, hb1⟩
      have KX := sq_new HQ.out (over B0.out HO.out.2) HO.out.1 (fun h => by have := congrArg List.length h; rw [atL_len] at this; simp at this; omega) B0.out.size htj hsb hb1
      obtain ⟨B, HB⟩ : ∃ B, Hid (w2.heap.size + 1 = B) := ⟨_, rfl⟩
      rw [HB.out] at KX
      obtain ⟨rb, HRB⟩ : ∃ b, Hid (w2.heap.size = b) := ⟨_, rfl⟩
      obtain ⟨W5, HW5⟩ : ∃ W, w2.alloc (RO wd n tb) = W := ⟨_, rfl⟩
      rw [HRB.out, HW5] at KX
      have K : Hid (Sq B w wd n sb base tb [rb] (.slice (some ⟨g, 0, none⟩) j cp) (atL lo j) [] [] 0 W5) := KX
      clear htj hsb hb1 KX HO TW MD
      have SB4 : j * 62 ≤ 6400 := by omega
      go_upto_region 10 with fail
      rw [HRB.out]
      obtain ⟨b1, b2, b3⟩ := K.out.cells (List.mem_singleton.2 rfl)
      go_wp2_with fail
      refine (askR K.out (by omega) HWD.out S1.out (by omega) HA.out).mono ?_
      rintro e w16 ⟨raa, rac, rfl, hs⟩
      have K2 : Hid (Sq B w wd n sb base tb [rb] (.slice (some ⟨g, 0, none⟩) j cp) (atL lo j) [[(.slice raa la rac, LA.map Value.string)]] [] 400000 w16) := hs
      clear K
      have K : Hid (Sq B w wd n sb base tb [rb] (.slice (some ⟨g, 0, none⟩) j cp) (atL lo j) [[(.slice raa la rac, LA.map Value.string)]] [] 400000 w16) := K2
      clear K2
      clear hs
      clear b1 b2 b3
      obtain ⟨b1, b2, b3⟩ := K.out.cells (List.mem_singleton.2 rfl)
      go_wp2_with fail
      refine (askR K.out (by omega) HWD.out S1.out (by omega) HA.out).mono ?_
      rintro e w17 ⟨rb_a, rb_c, rfl, hs⟩
      have K2 : Hid (Sq B w wd n sb base tb [rb] (.slice (some ⟨g, 0, none⟩) j cp) (atL lo j) [[(.slice raa la rac, LA.map Value.string)], [(.slice rb_a la rb_c, LA.map Value.string)]] [] 800000 w17) := hs
      clear K
      have K : Hid (Sq B w wd n sb base tb [rb] (.slice (some ⟨g, 0, none⟩) j cp) (atL lo j) [[(.slice raa la rac, LA.map Value.string)], [(.slice rb_a la rb_c, LA.map Value.string)]] [] 800000 w17) := K2
      clear K2
      clear hs
      clear b1 b2 b3
      obtain ⟨b1, b2, b3⟩ := K.out.cells (List.mem_singleton.2 rfl)
      go_wp2_with fail
      refine (askI K.out (by omega) HWD.out S2.out (by omega) HC.out).mono ?_
      rintro e w18 ⟨ica, icc, rfl, hs⟩
      have K2 : Hid (Sq B w wd n sb base tb [rb] (.slice (some ⟨g, 0, none⟩) j cp) (atL lo j) [[(.slice raa la rac, LA.map Value.string)], [(.slice rb_a la rb_c, LA.map Value.string)], [(.slice ica lc icc, LC.map Value.string)]] [] 1200000 w18) := hs
      clear K
      have K : Hid (Sq B w wd n sb base tb [rb] (.slice (some ⟨g, 0, none⟩) j cp) (atL lo j) [[(.slice raa la rac, LA.map Value.string)], [(.slice rb_a la rb_c, LA.map Value.string)], [(.slice ica lc icc, LC.map Value.string)]] [] 1200000 w18) := K2
      clear K2
      clear hs
      clear b1 b2 b3
      obtain ⟨b1, b2, b3⟩ := K.out.cells (List.mem_singleton.2 rfl)
      go_wp2_with fail
      refine (askI K.out (by omega) HWD.out S2.out (by omega) HC.out).mono ?_
      rintro e w19 ⟨id_a, id_c, rfl, hs⟩
      have K2 : Hid (Sq B w wd n sb base tb [rb] (.slice (some ⟨g, 0, none⟩) j cp) (atL lo j) [[(.slice raa la rac, LA.map Value.string)], [(.slice rb_a la rb_c, LA.map Value.string)], [(.slice ica lc icc, LC.map Value.string)], [(.slice id_a lc id_c, LC.map Value.string)]] [] 1600000 w19) := hs
      clear K
      have K : Hid (Sq B w wd n sb base tb [rb] (.slice (some ⟨g, 0, none⟩) j cp) (atL lo j) [[(.slice raa la rac, LA.map Value.string)], [(.slice rb_a la rb_c, LA.map Value.string)], [(.slice ica lc icc, LC.map Value.string)], [(.slice id_a lc id_c, LC.map Value.string)]] [] 1600000 w19) := K2
      clear K2
      clear hs
      clear b1 b2 b3
      obtain ⟨b1, b2, b3⟩ := K.out.cells (List.mem_singleton.2 rfl)
      go_wp2_with fail
      refine (askC K.out (by omega) HWD.out S3.out (by omega) HKL.out).mono ?_
      rintro e w20 ⟨cka, ckc, rfl, hs⟩
      have K2 : Hid (Sq B w wd n sb base tb [rb] (.slice (some ⟨g, 0, none⟩) j cp) (atL lo j) [[(.slice raa la rac, LA.map Value.string)], [(.slice rb_a la rb_c, LA.map Value.string)], [(.slice ica lc icc, LC.map Value.string)], [(.slice id_a lc id_c, LC.map Value.string)], [(.slice cka lk ckc, LK.map Value.string)]] [] 2000000 w20) := hs
      clear K
      have K : Hid (Sq B w wd n sb base tb [rb] (.slice (some ⟨g, 0, none⟩) j cp) (atL lo j) [[(.slice raa la rac, LA.map Value.string)], [(.slice rb_a la rb_c, LA.map Value.string)], [(.slice ica lc icc, LC.map Value.string)], [(.slice id_a lc id_c, LC.map Value.string)], [(.slice cka lk ckc, LK.map Value.string)]] [] 2000000 w20) := K2
      clear K2
      clear hs
      clear b1 b2 b3
      obtain ⟨b1, b2, b3⟩ := K.out.cells (List.mem_singleton.2 rfl)
      go_wp2_with fail
      refine (askC K.out (by omega) HWD.out S3.out (by omega) HKL.out).mono ?_
      rintro e w21 ⟨cl_a, cl_c, rfl, hs⟩
      have K2 : Hid (Sq B w wd n sb base tb [rb] (.slice (some ⟨g, 0, none⟩) j cp) (atL lo j) [[(.slice raa la rac, LA.map Value.string)], [(.slice rb_a la rb_c, LA.map Value.string)], [(.slice ica lc icc, LC.map Value.string)], [(.slice id_a lc id_c, LC.map Value.string)], [(.slice cka lk ckc, LK.map Value.string)], [(.slice cl_a lk cl_c, LK.map Value.string)]] [] 2400000 w21) := hs
      clear K
      have K : Hid (Sq B w wd n sb base tb [rb] (.slice (some ⟨g, 0, none⟩) j cp) (atL lo j) [[(.slice raa la rac, LA.map Value.string)], [(.slice rb_a la rb_c, LA.map Value.string)], [(.slice ica lc icc, LC.map Value.string)], [(.slice id_a lc id_c, LC.map Value.string)], [(.slice cka lk ckc, LK.map Value.string)], [(.slice cl_a lk cl_c, LK.map Value.string)]] [] 2400000 w21) := K2
      clear K2
      clear hs
      clear b1 b2 b3
      obtain ⟨b1, b2, b3⟩ := K.out.cells (List.mem_singleton.2 rfl)
      go_wp2_with fail
      refine (askM K.out (by omega) HWD.out (K.out.get fun q => q.ints) (by rw [atL_len]; omega) S4.out SB4 HA.out).mono ?_
      rintro e w22 ⟨mba, mbc, rfl, hs⟩
      have K2 : Hid (Sq B w wd n sb base tb [rb] (.slice (some ⟨g, 0, none⟩) j cp) (atL lo j) [[(.slice raa la rac, LA.map Value.string)], [(.slice rb_a la rb_c, LA.map Value.string)], [(.slice ica lc icc, LC.map Value.string)], [(.slice id_a lc id_c, LC.map Value.string)], [(.slice cka lk ckc, LK.map Value.string)], [(.slice cl_a lk cl_c, LK.map Value.string)], [(.slice mba la mbc, LA.map Value.string)]] [] 2800000 w22) := hs
      clear K
      have K : Hid (Sq B w wd n sb base tb [rb] (.slice (some ⟨g, 0, none⟩) j cp) (atL lo j) [[(.slice raa la rac, LA.map Value.string)], [(.slice rb_a la rb_c, LA.map Value.string)], [(.slice ica lc icc, LC.map Value.string)], [(.slice id_a lc id_c, LC.map Value.string)], [(.slice cka lk ckc, LK.map Value.string)], [(.slice cl_a lk cl_c, LK.map Value.string)], [(.slice mba la mbc, LA.map Value.string)]] [] 2800000 w22) := K2
      clear K2
      clear hs
      clear b1 b2 b3
      obtain ⟨b1, b2, b3⟩ := K.out.cells (List.mem_singleton.2 rfl)
      go_wp2_with fail
      refine (askM K.out (by omega) HWD.out (K.out.get fun q => q.ints) (by rw [atL_len]; omega) S4.out SB4 HA.out).mono ?_
      rintro e w23 ⟨mta, mtc, rfl, hs⟩
      have K2 : Hid (Sq B w wd n sb base tb [rb] (.slice (some ⟨g, 0, none⟩) j cp) (atL lo j) [[(.slice raa la rac, LA.map Value.string)], [(.slice rb_a la rb_c, LA.map Value.string)], [(.slice ica lc icc, LC.map Value.string)], [(.slice id_a lc id_c, LC.map Value.string)], [(.slice cka lk ckc, LK.map Value.string)], [(.slice cl_a lk cl_c, LK.map Value.string)], [(.slice mba la mbc, LA.map Value.string)], [(.slice mta la mtc, LA.map Value.string)]] [] 3200000 w23) := hs
      clear K
      have K : Hid (Sq B w wd n sb base tb [rb] (.slice (some ⟨g, 0, none⟩) j cp) (atL lo j) [[(.slice raa la rac, LA.map Value.string)], [(.slice rb_a la rb_c, LA.map Value.string)], [(.slice ica lc icc, LC.map Value.string)], [(.slice id_a lc id_c, LC.map Value.string)], [(.slice cka lk ckc, LK.map Value.string)], [(.slice cl_a lk cl_c, LK.map Value.string)], [(.slice mba la mbc, LA.map Value.string)], [(.slice mta la mtc, LA.map Value.string)]] [] 3200000 w23) := K2
      clear K2
      clear hs
      clear b1 b2 b3
      obtain ⟨b1, b2, b3⟩ := K.out.cells (List.mem_singleton.2 rfl)
      go_upto_region 18 with fail
      have KD : Hid (Sq B w wd n sb base tb [rb] (.slice (some ⟨g, 0, none⟩) j cp) (atL lo j) [[(.slice raa la rac, LA.map Value.string)], [(.slice rb_a la rb_c, LA.map Value.string)], [(.slice ica lc icc, LC.map Value.string)], [(.slice id_a lc id_c, LC.map Value.string)], [(.slice cka lk ckc, LK.map Value.string)], [(.slice cl_a lk cl_c, LK.map Value.string)], [(.slice mba la mbc, LA.map Value.string)], [(.slice mta la mtc, LA.map Value.string)]] [] 3200000 w23.drew) := K.out.later (below_dr (Below.refl _ _))
      have CM5 : Hid (Calls Tryd.prog 19 #[RV wd n tb, .slice (some ⟨g, 0, none⟩) 1 cp, .int .i64 n] w23.drew _) := askM KD.out (by omega) HWD.out (first1 k1 (KD.out.get fun q => q.ints)) (by rw [atL_len]; omega) S5.out (by omega) HDL.out
      clear KD
      have SS1 : Hid (w23.cell? ⟨rb, 0, none⟩ = some (.int .i64 wd) ∧ w23.cell? ⟨rb, 1, none⟩ = some (.int .i64 n) ∧ w23.cell? ⟨rb, 2, none⟩ = some (.func (.func 56) #[.pointer (some ⟨tb, 0, none⟩)] #[])) := ⟨b1, b2, b3⟩
      go_region_held3 (fun w' => w'.cell? ⟨rb, 0, none⟩ = some (.int .i64 wd) ∧ w'.cell? ⟨rb, 1, none⟩ = some (.int .i64 n) ∧ w'.cell? ⟨rb, 2, none⟩ = some (.func (.func 56) #[.pointer (some ⟨tb, 0, none⟩)] #[])) (first | exact SS1.out | exact SS5.out) ((go_at_call 19; refine CM5.out.mono ?_; rintro _ w24 ⟨mda, mdc, rfl, hs⟩; have KE : Hid (Sq B w wd n sb base tb [rb] (.slice (some ⟨g, 0, none⟩) j cp) (atL lo j) [[(.slice raa la rac, LA.map Value.string)], [(.slice rb_a la rb_c, LA.map Value.string)], [(.slice ica lc icc, LC.map Value.string)], [(.slice id_a lc id_c, LC.map Value.string)], [(.slice cka lk ckc, LK.map Value.string)], [(.slice cl_a lk cl_c, LK.map Value.string)], [(.slice mba la mbc, LA.map Value.string)], [(.slice mta la mtc, LA.map Value.string)], [(.slice mda ld mdc, LD.map Value.string)]] [] 3600000 w24) := hs; have SS5 : Hid (w24.cell? ⟨rb, 0, none⟩ = some (.int .i64 wd) ∧ w24.cell? ⟨rb, 1, none⟩ = some (.int .i64 n) ∧ w24.cell? ⟨rb, 2, none⟩ = some (.func (.func 56) #[.pointer (some ⟨tb, 0, none⟩)] #[])) := KE.out.cells (List.mem_singleton.2 rfl); clear hs))
      clear CM5 K b1 b2 b3 SS1 SS5
      have K : Hid (Sq B w wd n sb base tb [rb] (.slice (some ⟨g, 0, none⟩) j cp) (atL lo j) [[(.slice raa la rac, LA.map Value.string)], [(.slice rb_a la rb_c, LA.map Value.string)], [(.slice ica lc icc, LC.map Value.string)], [(.slice id_a lc id_c, LC.map Value.string)], [(.slice cka lk ckc, LK.map Value.string)], [(.slice cl_a lk cl_c, LK.map Value.string)], [(.slice mba la mbc, LA.map Value.string)], [(.slice mta la mtc, LA.map Value.string)], [(.slice mda ld mdc, LD.map Value.string)]] [] 3600000 w24) := KE
      clear KE
      obtain ⟨b1, b2, b3⟩ := K.out.cells (List.mem_singleton.2 rfl)
      go_upto_region 19 with fail
      have KD : Hid (Sq B w wd n sb base tb [rb] (.slice (some ⟨g, 0, none⟩) j cp) (atL lo j) [[(.slice raa la rac, LA.map Value.string)], [(.slice rb_a la rb_c, LA.map Value.string)], [(.slice ica lc icc, LC.map Value.string)], [(.slice id_a lc id_c, LC.map Value.string)], [(.slice cka lk ckc, LK.map Value.string)], [(.slice cl_a lk cl_c, LK.map Value.string)], [(.slice mba la mbc, LA.map Value.string)], [(.slice mta la mtc, LA.map Value.string)], [(.slice mda ld mdc, LD.map Value.string)]] [] 3600000 w24.drew) := K.out.later (below_dr (Below.refl _ _))
      have CM5 : Hid (Calls Tryd.prog 19 #[RV wd n tb, .slice (some ⟨g, 0, none⟩) 1 cp, .int .i64 n] w24.drew _) := askM KD.out (by omega) HWD.out (first1 k1 (KD.out.get fun q => q.ints)) (by rw [atL_len]; omega) S5.out (by omega) HDL.out
      clear KD
      have SS1 : Hid (w24.cell? ⟨rb, 0, none⟩ = some (.int .i64 wd) ∧ w24.cell? ⟨rb, 1, none⟩ = some (.int .i64 n) ∧ w24.cell? ⟨rb, 2, none⟩ = some (.func (.func 56) #[.pointer (some ⟨tb, 0, none⟩)] #[])) := ⟨b1, b2, b3⟩
      go_region_held3 (fun w' => w'.cell? ⟨rb, 0, none⟩ = some (.int .i64 wd) ∧ w'.cell? ⟨rb, 1, none⟩ = some (.int .i64 n) ∧ w'.cell? ⟨rb, 2, none⟩ = some (.func (.func 56) #[.pointer (some ⟨tb, 0, none⟩)] #[])) (first | exact SS1.out | exact SS5.out) ((go_at_call 19; refine CM5.out.mono ?_; rintro _ w25 ⟨mea, mec, rfl, hs⟩; have KE : Hid (Sq B w wd n sb base tb [rb] (.slice (some ⟨g, 0, none⟩) j cp) (atL lo j) [[(.slice raa la rac, LA.map Value.string)], [(.slice rb_a la rb_c, LA.map Value.string)], [(.slice ica lc icc, LC.map Value.string)], [(.slice id_a lc id_c, LC.map Value.string)], [(.slice cka lk ckc, LK.map Value.string)], [(.slice cl_a lk cl_c, LK.map Value.string)], [(.slice mba la mbc, LA.map Value.string)], [(.slice mta la mtc, LA.map Value.string)], [(.slice mda ld mdc, LD.map Value.string)], [(.slice mea ld mec, LD.map Value.string)]] [] 4000000 w25) := hs; have SS5 : Hid (w25.cell? ⟨rb, 0, none⟩ = some (.int .i64 wd) ∧ w25.cell? ⟨rb, 1, none⟩ = some (.int .i64 n) ∧ w25.cell? ⟨rb, 2, none⟩ = some (.func (.func 56) #[.pointer (some ⟨tb, 0, none⟩)] #[])) := KE.out.cells (List.mem_singleton.2 rfl); clear hs))
      clear CM5 K b1 b2 b3 SS1 SS5
      have K : Hid (Sq B w wd n sb base tb [rb] (.slice (some ⟨g, 0, none⟩) j cp) (atL lo j) [[(.slice raa la rac, LA.map Value.string)], [(.slice rb_a la rb_c, LA.map Value.string)], [(.slice ica lc icc, LC.map Value.string)], [(.slice id_a lc id_c, LC.map Value.string)], [(.slice cka lk ckc, LK.map Value.string)], [(.slice cl_a lk cl_c, LK.map Value.string)], [(.slice mba la mbc, LA.map Value.string)], [(.slice mta la mtc, LA.map Value.string)], [(.slice mda ld mdc, LD.map Value.string)], [(.slice mea ld mec, LD.map Value.string)]] [] 4000000 w25) := KE
      clear KE
      obtain ⟨b1, b2, b3⟩ := K.out.cells (List.mem_singleton.2 rfl)
      go_wp2_with fail
      refine (askM K.out (by omega) HWD.out (K.out.get fun q => q.ints) (by rw [atL_len]; omega) S4.out SB4 HA.out).mono ?_
      rintro e w26 ⟨mla, mlc, rfl, hs⟩
      have K2 : Hid (Sq B w wd n sb base tb [rb] (.slice (some ⟨g, 0, none⟩) j cp) (atL lo j) [[(.slice raa la rac, LA.map Value.string)], [(.slice rb_a la rb_c, LA.map Value.string)], [(.slice ica lc icc, LC.map Value.string)], [(.slice id_a lc id_c, LC.map Value.string)], [(.slice cka lk ckc, LK.map Value.string)], [(.slice cl_a lk cl_c, LK.map Value.string)], [(.slice mba la mbc, LA.map Value.string)], [(.slice mta la mtc, LA.map Value.string)], [(.slice mda ld mdc, LD.map Value.string)], [(.slice mea ld mec, LD.map Value.string)], [(.slice mla la mlc, LA.map Value.string)]] [] 4400000 w26) := hs
      clear K
      have K : Hid (Sq B w wd n sb base tb [rb] (.slice (some ⟨g, 0, none⟩) j cp) (atL lo j) [[(.slice raa la rac, LA.map Value.string)], [(.slice rb_a la rb_c, LA.map Value.string)], [(.slice ica lc icc, LC.map Value.string)], [(.slice id_a lc id_c, LC.map Value.string)], [(.slice cka lk ckc, LK.map Value.string)], [(.slice cl_a lk cl_c, LK.map Value.string)], [(.slice mba la mbc, LA.map Value.string)], [(.slice mta la mtc, LA.map Value.string)], [(.slice mda ld mdc, LD.map Value.string)], [(.slice mea ld mec, LD.map Value.string)], [(.slice mla la mlc, LA.map Value.string)]] [] 4400000 w26) := K2
      clear K2
      clear hs
      clear b1 b2 b3
      have BA : Below w26.heap.size w26 (w26.alloc (.cells #[.slice raa la rac, .slice mba la mbc, .slice ica lc icc, .slice mda ld mdc, .slice cka lk ckc] 22)) := (Below.refl _ _).alloc (Nat.le_refl _) _
      have KA : Hid (Sq B w wd n sb base tb [rb] (.slice (some ⟨g, 0, none⟩) j cp) (atL lo j) [[(.slice raa la rac, LA.map Value.string)], [(.slice rb_a la rb_c, LA.map Value.string)], [(.slice ica lc icc, LC.map Value.string)], [(.slice id_a lc id_c, LC.map Value.string)], [(.slice cka lk ckc, LK.map Value.string)], [(.slice cl_a lk cl_c, LK.map Value.string)], [(.slice mba la mbc, LA.map Value.string)], [(.slice mta la mtc, LA.map Value.string)], [(.slice mda ld mdc, LD.map Value.string)], [(.slice mea ld mec, LD.map Value.string)], [(.slice mla la mlc, LA.map Value.string)]] [] 4400000 (w26.alloc (.cells #[.slice raa la rac, .slice mba la mbc, .slice ica lc icc, .slice mda ld mdc, .slice cka lk ckc] 22))) := K.out.later BA
      have CP : Hid (Calls _ _ _ _ _) := copiedY (w26.alloc (.cells #[.slice raa la rac, .slice mba la mbc, .slice ica lc icc, .slice mda ld mdc, .slice cka lk ckc] 22)) w26.heap.size 5 5 [.slice raa la rac, .slice mba la mbc, .slice ica lc icc, .slice mda ld mdc, .slice cka lk ckc] [LA, LA, LC, LD, LK] rfl rfl (by omega) (cellS w26 #[.slice raa la rac, .slice mba la mbc, .slice ica lc icc, .slice mda ld mdc, .slice cka lk ckc] _) (of_pairs (P := [(.slice raa la rac, LA), (.slice mba la mbc, LA), (.slice ica lc icc, LC), (.slice mda ld mdc, LD), (.slice cka lk ckc, LK)]) (Q := fun v L => ReadsT (w26.alloc (.cells #[.slice raa la rac, .slice mba la mbc, .slice ica lc icc, .slice mda ld mdc, .slice cka lk ckc] 22)) v L ∧ (∀ k c, v = .slice none k c → c = 0) ∧ L.length ≤ 1000000) (List.forall_mem_cons.2 ⟨⟨KA.out.read (k := 0) rfl, own_no (KA.out.own (k := 0) rfl (List.mem_singleton.2 rfl)), (by have := HA.out; show LA.length ≤ 1000000; omega)⟩, (List.forall_mem_cons.2 ⟨⟨KA.out.read (k := 6) rfl, own_no (KA.out.own (k := 6) rfl (List.mem_singleton.2 rfl)), (by have := HA.out; show LA.length ≤ 1000000; omega)⟩, (List.forall_mem_cons.2 ⟨⟨KA.out.read (k := 2) rfl, own_no (KA.out.own (k := 2) rfl (List.mem_singleton.2 rfl)), (by have := HC.out; show LC.length ≤ 1000000; omega)⟩, (List.forall_mem_cons.2 ⟨⟨KA.out.read (k := 8) rfl, own_no (KA.out.own (k := 8) rfl (List.mem_singleton.2 rfl)), (by have := HDL.out; show LD.length ≤ 1000000; omega)⟩, (List.forall_mem_cons.2 ⟨⟨KA.out.read (k := 4) rfl, own_no (KA.out.own (k := 4) rfl (List.mem_singleton.2 rfl)), (by have := HKL.out; show LK.length ≤ 1000000; omega)⟩, (fun _ h => absurd h List.not_mem_nil)⟩)⟩)⟩)⟩)⟩))
      clear K BA
      go_wp2_with fail
      refine CP.out.mono ?_
      rintro e wk ⟨⟨ka, kc, us, rfl, hus, hok, hck⟩, hb⟩
      obtain ⟨z0, z1, z2, z3, z4, rfl⟩ := five hus
      have K : Hid (Sq B w wd n sb base tb [rb] (.slice (some ⟨g, 0, none⟩) j cp) (atL lo j) [[(.slice raa la rac, LA.map Value.string)], [(.slice rb_a la rb_c, LA.map Value.string)], [(.slice ica lc icc, LC.map Value.string)], [(.slice id_a lc id_c, LC.map Value.string)], [(.slice cka lk ckc, LK.map Value.string)], [(.slice cl_a lk cl_c, LK.map Value.string)], [(.slice mba la mbc, LA.map Value.string)], [(.slice mta la mtc, LA.map Value.string)], [(.slice mda ld mdc, LD.map Value.string)], [(.slice mea ld mec, LD.map Value.string)], [(.slice mla la mlc, LA.map Value.string)], [(z0, LA.map Value.string)], [(z1, LA.map Value.string)], [(z2, LC.map Value.string)], [(z3, LD.map Value.string)], [(z4, LK.map Value.string)]] [(.slice ka 5 kc, [z0, z1, z2, z3, z4])] 4400000 wk) := addS KA.out hb hck hok
      clear hb hck hok hus CP KA
      have CS : Hid (Calls _ _ _ _ _) := bn.same (.slice raa la rac) (.slice mba la mbc) LA LA wk (K.out.read (k := 0) rfl) (K.out.read (k := 6) rfl) (by have := HA.out; omega)
      rw [decide_eq_true rfl] at CS
      have CO : Hid (∀ W, Below wk.heap.size wk W → Calls _ _ _ _ _) := fun W b => onceY (.slice ica lc icc) (.slice mda ld mdc) LC LD W ((K.out.later b).read (k := 2) rfl) ((K.out.later b).read (k := 8) rfl) HPM.out (by have := HC.out; omega)
      go_upto_region 22 with fail
      have qn : decide ((1 : Int) < (n : Int)) = false := decide_eq_false (by omega)
      have qn' : ¬ (1 : Int) < (n : Int) := by omega
      go_wp2_with fail
      refine (NM.out _ _).mono ?_
      rintro e wn0 ⟨rfl, hw⟩
      subst hw
      go_wp2_with fail
      refine (NM.out _ _).mono ?_
      rintro e wn1 ⟨rfl, hw⟩
      subst hw
      go_wp2_with fail
      refine (NM.out _ _).mono ?_
      rintro e wn2 ⟨rfl, hw⟩
      subst hw
      go_wp2_with fail
      refine (NM.out _ _).mono ?_
      rintro e wn3 ⟨rfl, hw⟩
      subst hw
      go_wp2_with fail
      refine (NM.out _ _).mono ?_
      rintro e wn4 ⟨rfl, hw⟩
      subst hw
      go_wp2_with fail
      refine CS.out.mono ?_
      rintro e wo ⟨rfl, m8, hw⟩
      have B8 : Hid (Below wn4.heap.size wn4 wo) := by show Below _ _ _; rw [hw]; exact below_dN (Below.refl _ _) m8
      clear hw
      go_wp2_with fail
      refine (CO.out _ B8.out).mono ?_
      rintro e wp ⟨rfl, hb⟩
      have K9 : Hid (Sq B w wd n sb base tb [rb] (.slice (some ⟨g, 0, none⟩) j cp) (atL lo j) [[(.slice raa la rac, LA.map Value.string)], [(.slice rb_a la rb_c, LA.map Value.string)], [(.slice ica lc icc, LC.map Value.string)], [(.slice id_a lc id_c, LC.map Value.string)], [(.slice cka lk ckc, LK.map Value.string)], [(.slice cl_a lk cl_c, LK.map Value.string)], [(.slice mba la mbc, LA.map Value.string)], [(.slice mta la mtc, LA.map Value.string)], [(.slice mda ld mdc, LD.map Value.string)], [(.slice mea ld mec, LD.map Value.string)], [(.slice mla la mlc, LA.map Value.string)], [(z0, LA.map Value.string)], [(z1, LA.map Value.string)], [(z2, LC.map Value.string)], [(z3, LD.map Value.string)], [(z4, LK.map Value.string)]] [(.slice ka 5 kc, [z0, z1, z2, z3, z4])] 4400000 wp) := (K.out.later B8.out).later hb
      clear hb
      clear K CS CO
      have K : Hid (Sq B w wd n sb base tb [rb] (.slice (some ⟨g, 0, none⟩) j cp) (atL lo j) [[(.slice raa la rac, LA.map Value.string)], [(.slice rb_a la rb_c, LA.map Value.string)], [(.slice ica lc icc, LC.map Value.string)], [(.slice id_a lc id_c, LC.map Value.string)], [(.slice cka lk ckc, LK.map Value.string)], [(.slice cl_a lk cl_c, LK.map Value.string)], [(.slice mba la mbc, LA.map Value.string)], [(.slice mta la mtc, LA.map Value.string)], [(.slice mda ld mdc, LD.map Value.string)], [(.slice mea ld mec, LD.map Value.string)], [(.slice mla la mlc, LA.map Value.string)], [(z0, LA.map Value.string)], [(z1, LA.map Value.string)], [(z2, LC.map Value.string)], [(z3, LD.map Value.string)], [(z4, LK.map Value.string)]] [(.slice ka 5 kc, [z0, z1, z2, z3, z4])] 4400000 wp) := K9
      clear K9 B8
      obtain ⟨w30, hw30⟩ : ∃ v, v = wp := ⟨_, rfl⟩
      subst hw30
      have K2 : Hid (Sq B w wd n sb base tb [rb] (.slice (some ⟨g, 0, none⟩) j cp) (atL lo j) [[(.slice raa la rac, LA.map Value.string)], [(.slice rb_a la rb_c, LA.map Value.string)], [(.slice ica lc icc, LC.map Value.string)], [(.slice id_a lc id_c, LC.map Value.string)], [(.slice cka lk ckc, LK.map Value.string)], [(.slice cl_a lk cl_c, LK.map Value.string)], [(.slice mba la mbc, LA.map Value.string)], [(.slice mta la mtc, LA.map Value.string)], [(.slice mda ld mdc, LD.map Value.string)], [(.slice mea ld mec, LD.map Value.string)], [(.slice mla la mlc, LA.map Value.string)], [(z0, LA.map Value.string)], [(z1, LA.map Value.string)], [(z2, LC.map Value.string)], [(z3, LD.map Value.string)], [(z4, LK.map Value.string)]] [(.slice ka 5 kc, [z0, z1, z2, z3, z4]), (.slice (some ⟨w30.heap.size, 0, none⟩) 5 5, [.slice raa la rac, .slice mba la mbc, .slice ica lc icc, .slice mda ld mdc, .slice cka lk ckc])] 4400000 (w30.alloc (.cells #[.slice raa la rac, .slice mba la mbc, .slice ica lc icc, .slice mda ld mdc, .slice cka lk ckc] 22))) := K.out.map fun q => q.keepS ((Below.refl _ _).alloc (Nat.le_refl _) _) (litS w30 #[.slice raa la rac, .slice mba la mbc, .slice ica lc icc, .slice mda ld mdc, .slice cka lk ckc] 5 rfl (by unfold maxLen; omega))
      obtain ⟨ab, HAB⟩ : ∃ b, Hid (w30.heap.size = b) := ⟨_, rfl⟩
      rw [HAB.out] at K2
      obtain ⟨W31, HW31⟩ : ∃ W, Hid (w30.alloc (.cells #[.slice raa la rac, .slice mba la mbc, .slice ica lc icc, .slice mda ld mdc, .slice cka lk ckc] 22) = W) := ⟨_, rfl⟩
      rw [HW31.out] at K2
      obtain ⟨H0, HH0⟩ : ∃ H0, Hid (H0 = [[(.slice raa la rac, LA.map Value.string)], [(.slice rb_a la rb_c, LA.map Value.string)], [(.slice ica lc icc, LC.map Value.string)], [(.slice id_a lc id_c, LC.map Value.string)], [(.slice cka lk ckc, LK.map Value.string)], [(.slice cl_a lk cl_c, LK.map Value.string)], [(.slice mba la mbc, LA.map Value.string)], [(.slice mta la mtc, LA.map Value.string)], [(.slice mda ld mdc, LD.map Value.string)], [(.slice mea ld mec, LD.map Value.string)], [(.slice mla la mlc, LA.map Value.string)], [(z0, LA.map Value.string)], [(z1, LA.map Value.string)], [(z2, LC.map Value.string)], [(z3, LD.map Value.string)], [(z4, LK.map Value.string)]]) := ⟨_, rfl⟩
      have K3 : Hid (Sq B w wd n sb base tb [rb] (.slice (some ⟨g, 0, none⟩) j cp) (atL lo j) H0 [(.slice ka 5 kc, [z0, z1, z2, z3, z4]), (.slice (some ⟨ab, 0, none⟩) 5 5, [.slice raa la rac, .slice mba la mbc, .slice ica lc icc, .slice mda ld mdc, .slice cka lk ckc])] 4400000 W31) := by show Sq _ _ _ _ _ _ _ _ _ _ _ _ _ _; rw [HH0.out]; exact K2.out
      obtain ⟨VV, HVV⟩ : ∃ V : List Value, Hid (V = [.slice raa la rac, .slice mba la mbc, .slice ica lc icc, .slice mda ld mdc, .slice cka lk ckc]) := ⟨_, rfl⟩
      have M0 : Hid (Mk VV H0 0 0 H0) := by
        rw [HVV.out]
        refine ⟨rfl, fun _ _ => rfl, fun t ht => ?_⟩
        match t, ht with
        | 0, _ => exact ⟨_, _, LA, by rw [HA.out]; rfl, by rw [HA.out, HH0.out]; rfl, by rw [HA.out]; omega, fun h => absurd h (by omega), fun _ x hx => by simp at hx⟩
        | 1, _ => exact ⟨_, _, LA, by rw [HA.out]; rfl, by rw [HA.out, HH0.out]; rfl, by rw [HA.out]; omega, fun h => absurd h (by omega), fun _ x hx => by simp at hx⟩
        | 2, _ => exact ⟨_, _, LC, by rw [HC.out]; rfl, by rw [HC.out, HH0.out]; rfl, by rw [HC.out]; omega, fun h => absurd h (by omega), fun _ x hx => by simp at hx⟩
        | 3, _ => exact ⟨_, _, LD, by rw [HDL.out]; rfl, by rw [HDL.out, HH0.out]; rfl, by rw [HDL.out]; omega, fun h => absurd h (by omega), fun _ x hx => by simp at hx⟩
        | 4, _ => exact ⟨_, _, LK, by rw [HKL.out]; rfl, by rw [HKL.out, HH0.out]; rfl, by rw [HKL.out]; omega, fun h => absurd h (by omega), fun _ x hx => by simp at hx⟩
      have KV : Hid (Sq B w wd n sb base tb [rb] (.slice (some ⟨g, 0, none⟩) j cp) (atL lo j) H0 [(.slice ka 5 kc, [z0, z1, z2, z3, z4]), (.slice (some ⟨ab, 0, none⟩) 5 5, VV)] 4400000 W31) := by show Sq _ _ _ _ _ _ _ _ _ _ _ _ _ _; rw [HVV.out]; exact K3.out
      clear K K2 K3
      go_wp2
      rw [HAB.out, HW31.out]
      obtain ⟨i9, I1, I2, I3, I4⟩ := cs.info_parts hi9
      have II : Hid (Tryd.prog.info? 9 = some i9 ∧ i9.zero = some (.string ByteArray.empty) ∧ i9.size = 1 ∧ i9.bytes = 16) := ⟨I1, I2, I3, I4⟩
      clear I1 I2 I3 I4
      go_loopw [36] (fun jv wr => ∃ (i : Nat) (Hq : List (List (Value × List Value))), i ≤ 5 ∧ jv = .int .i64 i ∧ Hid (Sq B w wd n sb base tb [rb] (.slice (some ⟨g, 0, none⟩) j cp) (atL lo j) Hq [(.slice ka 5 kc, [z0, z1, z2, z3, z4]), (.slice (some ⟨ab, 0, none⟩) 5 5, VV)] 4400000 wr) ∧ Hid (Mk VV H0 i 0 Hq)) (fun jv _ => (5 - intOf jv).toNat)
      case atStart => exact ⟨0, H0, by omega, rfl, KV, M0⟩
      case round =>
        clear KV M0
        obtain ⟨i, Hq, hi5, rfl, K, M⟩ := hrel
        by_cases hlt : i < 5
        · have hlt' : (i : Int) < 5 := by omega
          obtain ⟨ya, yc, L, hv, hrow, hL6, hdone, _⟩ := M.out.rows i hlt
          obtain ⟨ln, HLN⟩ : ∃ l, Hid (L.length = l) := ⟨_, rfl⟩
          rw [HLN.out] at hv hrow hL6
          have HV : Hid (VV[i]? = some (.slice ya ln yc)) := hv
          have HR : Hid (Hq[ix i]? = some [(.slice ya ln yc, L.map Value.string)]) := hrow
          clear hv hrow
          obtain ⟨c, HCC⟩ : ∃ c : Nat, Hid (48 + i = c) := ⟨_, rfl⟩
          have g2 : (48 : Int) + (i : Int) = (c : Int) := by have := HCC.out; omega
          have g3 : IntKind.u8.wrap (c : Int) = c := by rw [IntKind.wrap_u8']; have := HCC.out; omega
          have g4 : IntKind.i64.wrap (c : Int) = c := by rw [IntKind.wrap_i64]; have := HCC.out; omega
          clear hdone
          obtain ⟨w40, rfl⟩ : ∃ v, v = wr := ⟨_, rfl⟩
          go_wp2
          go_loopw [37] (fun mv wr => ∃ (m : Nat) (Hx : List (List (Value × List Value))) (Lx : List ByteArray), m ≤ ln ∧ mv = .int .i64 m ∧ Hid (Sq B w wd n sb base tb [rb] (.slice (some ⟨g, 0, none⟩) j cp) (atL lo j) Hx [(.slice ka 5 kc, [z0, z1, z2, z3, z4]), (.slice (some ⟨ab, 0, none⟩) 5 5, VV)] 4400000 wr) ∧ Hid (Mk VV H0 i m Hx ∧ Hx[ix i]? = some [(.slice ya ln yc, Lx.map Value.string)] ∧ Lx.length = ln)) (fun mv _ => (ln - intOf mv).toNat)
          case atStart => exact ⟨0, Hq, L, by omega, rfl, K, M.out, HR.out, HLN.out⟩
          case round =>
            clear K M HR
            obtain ⟨m, Hx, Lx, hm, rfl, K, M⟩ := hrel
            have c0 := cellA K.out (i := 1) rfl HV.out
            by_cases hlm : m < ln
            · have hlm' : (m : Int) < ln := by omega
              obtain ⟨g2_, rfl, ⟨uu, c1⟩, f1, _⟩ := K.out.get fun q => q.slot M.out.2.1 hlm
              have bd : Below wr.heap.size wr wr.drew := below_dr (Below.refl _ _)
              have ba : Below wr.heap.size wr (wr.drew.alloc (.cells #[.int .u8 (c : Int)] 5)) := bd.alloc (Nat.le_refl _) _
              have bb : Below wr.heap.size wr (wr.alloc (.cells #[.int .u8 (c : Int)] 5)).drew := below_dr ((Below.refl _ _).alloc (Nat.le_refl _) _)
              have cv1 : (convert 60 9 (.slice (some ⟨wr.heap.size, 0, none⟩) 1 1)).run Tryd.prog (wr.drew.alloc (.cells #[.int .u8 (c : Int)] 5)) = .ok (.string (mkM i)) (wr.drew.alloc (.cells #[.int .u8 (c : Int)] 5)) := convM wr.drew i c HCC.out (by omega)
              have cv2 : (convert 60 9 (.slice (some ⟨wr.heap.size, 0, none⟩) 1 1)).run Tryd.prog (wr.alloc (.cells #[.int .u8 (c : Int)] 5)).drew = .ok (.string (mkM i)) (wr.alloc (.cells #[.int .u8 (c : Int)] 5)).drew := convD wr i c HCC.out (by omega)
              have c0a := cell_on ba c0
              have c0b := cell_on bb c0
              have c1a := cell_on ba c1
              have c1b := cell_on bb c1
              have f1a := frozen_on ba c1 f1
              have f1b := frozen_on bb c1 f1
              have KA : Hid (Sq B w wd n sb base tb [rb] (.slice (some ⟨g, 0, none⟩) j cp) (atL lo j) (Hx.set (ix i) [(.slice (some ⟨g2_, 0, none⟩) ln yc, (Lx.set m (mkM i)).map Value.string)]) [(.slice ka 5 kc, [z0, z1, z2, z3, z4]), (.slice (some ⟨ab, 0, none⟩) 5 5, VV)] 4400000 ((wr.drew.alloc (.cells #[.int .u8 (c : Int)] 5)).setCell ⟨g2_, m, none⟩ (.string (mkM i)))) := (K.out.later ba).map fun q => q.put M.out.2.1 (mkM i)
              have KB : Hid (Sq B w wd n sb base tb [rb] (.slice (some ⟨g, 0, none⟩) j cp) (atL lo j) (Hx.set (ix i) [(.slice (some ⟨g2_, 0, none⟩) ln yc, (Lx.set m (mkM i)).map Value.string)]) [(.slice ka 5 kc, [z0, z1, z2, z3, z4]), (.slice (some ⟨ab, 0, none⟩) 5 5, VV)] 4400000 ((wr.alloc (.cells #[.int .u8 (c : Int)] 5)).drew.setCell ⟨g2_, m, none⟩ (.string (mkM i)))) := (K.out.later bb).map fun q => q.put M.out.2.1 (mkM i)
              have MP : Hid (Mk VV H0 i (m + 1) (Hx.set (ix i) [(.slice (some ⟨g2_, 0, none⟩) ln yc, (Lx.set m (mkM i)).map Value.string)]) ∧ (Hx.set (ix i) [(.slice (some ⟨g2_, 0, none⟩) ln yc, (Lx.set m (mkM i)).map Value.string)])[ix i]? = some [(.slice (some ⟨g2_, 0, none⟩) ln yc, (Lx.set m (mkM i)).map Value.string)] ∧ (Lx.set m (mkM i)).length = ln) := ⟨M.out.1.put hlt M.out.2.2 M.out.2.1 hlm, List.getElem?_set_self (List.getElem?_eq_some_iff.1 M.out.2.1).1, by rw [List.length_set]; exact M.out.2.2⟩
              obtain ⟨mk, HMK⟩ : ∃ x, Hid (mkM i = x) := ⟨_, rfl⟩
              rw [HMK.out] at cv1 cv2 KA KB MP
              clear K M bd ba bb
              go_wp2_with fail
              go_region
              all_goals (
                go_wp2
                go_roundw
                case rel => exact ⟨m + 1, _, _, by omega, by go_num, (by first | exact KA | exact KB), MP⟩
                case measure => simp [intOf]; omega)
            · have hlm' : ¬ (m : Int) < ln := by omega
              have MN : Hid (Mk VV H0 (i + 1) 0 Hx) := M.out.1.next M.out.2.2 M.out.2.1 (by omega)
              go_wp2
              go_roundw
              case rel => exact ⟨i + 1, Hx, by omega, by go_num, K, MN⟩
              case measure => simp [intOf]; omega
        · have hlt' : ¬ (i : Int) < 5 := by omega
          obtain rfl : i = 5 := by omega
          obtain ⟨w50, rfl⟩ : ∃ v, v = wr := ⟨_, rfl⟩
          have MF : Hid (Mk VV H0 5 0 Hq) := M.out
          clear M
          go_wp2
          go_loopw [38, 39] (fun sv jv wr => ∃ (i s : Nat), i ≤ 5 ∧ jv = .int .i64 i ∧ sv = .int .i64 s ∧ 131 * i ≤ s ∧ s ≤ 7000 * i ∧ Hid (Sq B w wd n sb base tb [rb] (.slice (some ⟨g, 0, none⟩) j cp) (atL lo j) Hq [(.slice ka 5 kc, [z0, z1, z2, z3, z4]), (.slice (some ⟨ab, 0, none⟩) 5 5, VV)] 4400000 wr)) (fun _ jv _ => (5 - intOf jv).toNat)
          case atStart => exact ⟨0, 0, by omega, rfl, rfl, by omega, by omega, K⟩
          case round =>
            clear K
            obtain ⟨i, s, hi5, rfl, rfl, hs1, hs2, K⟩ := hrel
            by_cases hlt : i < 5
            · have hlt' : (i : Int) < 5 := by omega
              obtain ⟨ya, yc, L, hv, hrow, hL6, hdone, _⟩ := MF.out.rows i hlt
              obtain ⟨ln, HLN⟩ : ∃ l, Hid (L.length = l) := ⟨_, rfl⟩
              rw [HLN.out] at hv hrow hL6
              have HV : Hid (VV[i]? = some (.slice ya ln yc)) := hv
              have HR : Hid (Hq[ix i]? = some [(.slice ya ln yc, L.map Value.string)]) := hrow
              clear hv hrow
              clear hdone
              obtain ⟨w60, rfl⟩ : ∃ v, v = wr := ⟨_, rfl⟩
              have c0 := cellA K.out (i := 1) rfl HV.out
              have KA : Hid (Sq B w wd n sb base tb [rb] (.slice (some ⟨g, 0, none⟩) j cp) (atL lo j) Hq [(.slice ka 5 kc, [z0, z1, z2, z3, z4]), (.slice (some ⟨ab, 0, none⟩) 5 5, VV)] 4400000 (w60.alloc (.cells #[.string (⟨#[98, 101, 115, 105, 100, 101]⟩ : ByteArray)] 9))) := K.out.later ((Below.refl _ _).alloc (Nat.le_refl _) _)
              have c0a : (w60.alloc (.cells #[.string (⟨#[98, 101, 115, 105, 100, 101]⟩ : ByteArray)] 9)).cell? ⟨ab, i, none⟩ = some (.slice ya ln yc) := cellA KA.out (i := 1) rfl HV.out
              have OW : Hid ((w60.alloc (.cells #[.string (⟨#[98, 101, 115, 105, 100, 101]⟩ : ByteArray)] 9)).ownsRow B 9 1 (.slice ya ln yc) ln (L.map Value.string)) := KA.out.own (k := ix i) HR.out (List.mem_singleton.2 rfl)
              have NN : Hid (∀ j z, [Value.string (⟨#[98, 101, 115, 105, 100, 101]⟩ : ByteArray)][j]? = some z → (w60.alloc (.cells #[.string (⟨#[98, 101, 115, 105, 100, 101]⟩ : ByteArray)] 9)).cell? ((⟨w60.heap.size, 0, none⟩ : Addr).add j) = some z) := new1 w60 _ _
              have hlx : ix i < Hq.length := (List.getElem?_eq_some_iff.1 HR.out).1
              clear K
              go_upto_region 38 with (at_builtin; (
                refine wpList_appS rfl (.tmp 256) (.tmp 257) 22 rfl B 1 9 i9 (.string ByteArray.empty) 16 Tryd.underlying22 II.out.1 II.out.2.1 II.out.2.2.1 II.out.2.2.2 rfl (by decide) _ ln _ rfl OW.out ⟨w60.heap.size, 0, none⟩ 1 1 [.string (⟨#[98, 101, 115, 105, 100, 101]⟩ : ByteArray)] rfl rfl NN.out (by intro u hu; rw [List.mem_singleton.1 hu]; rfl) (by unfold maxLen; omega) (by omega) KA.out.size ?_
                intro y1 w61 p1 p2 p3 p4
                have K : Hid (Sq B w wd n sb base tb [rb] (.slice (some ⟨g, 0, none⟩) j cp) (atL lo j) (Hq.set (ix i) [(.slice ya ln yc, L.map Value.string), (y1, L.map Value.string ++ [.string (⟨#[98, 101, 115, 105, 100, 101]⟩ : ByteArray)])]) [(.slice ka 5 kc, [z0, z1, z2, z3, z4]), (.slice (some ⟨ab, 0, none⟩) 5 5, VV)] 4400000 w61) := Sq.grow1 KA.out HR.out p1 p2 p3 p4
                clear p1 p2 p3 p4 KA OW NN))
              go_loopw [40, 41] (fun gv mv wr => ∃ (m : Nat), m ≤ 130 ∧ mv = .int .i64 m ∧ Hid (Sq B w wd n sb base tb [rb] (.slice (some ⟨g, 0, none⟩) j cp) (atL lo j) (Hq.set (ix i) [(.slice ya ln yc, L.map Value.string), (gv, L.map Value.string ++ List.replicate (m + 1) (.string (⟨#[98, 101, 115, 105, 100, 101]⟩ : ByteArray)))]) [(.slice ka 5 kc, [z0, z1, z2, z3, z4]), (.slice (some ⟨ab, 0, none⟩) 5 5, VV)] 4400000 wr)) (fun _ mv _ => (130 - intOf mv).toNat)
              case atStart => exact ⟨0, by omega, rfl, K⟩
              case round =>
                clear K
                obtain ⟨m, hm, rfl, K⟩ := hrel
                obtain ⟨y2, rfl⟩ : ∃ v, v = u40 := ⟨_, rfl⟩
                obtain ⟨w62, rfl⟩ : ∃ v, v = wr := ⟨_, rfl⟩
                obtain ⟨ys, HYS⟩ : ∃ ys, Hid (L.map Value.string ++ List.replicate (m + 1) (Value.string (⟨#[98, 101, 115, 105, 100, 101]⟩ : ByteArray)) = ys) := ⟨_, rfl⟩
                have hyl : ys.length = ln + (m + 1) := by rw [← HYS.out, List.length_append, List.length_map, List.length_replicate, HLN.out]
                rw [HYS.out] at K
                by_cases hlm : m < 130
                · have hlm' : (m : Int) < 130 := by omega
                  have KA : Hid (Sq B w wd n sb base tb [rb] (.slice (some ⟨g, 0, none⟩) j cp) (atL lo j) (Hq.set (ix i) [(.slice ya ln yc, L.map Value.string), (y2, ys)]) [(.slice ka 5 kc, [z0, z1, z2, z3, z4]), (.slice (some ⟨ab, 0, none⟩) 5 5, VV)] 4400000 (w62.alloc (.cells #[.string (⟨#[98, 101, 115, 105, 100, 101]⟩ : ByteArray)] 9))) := K.out.later ((Below.refl _ _).alloc (Nat.le_refl _) _)
                  have OW := (Sq.two KA.out (List.getElem?_set_self hlx)).2
                  rw [hyl] at OW
                  have HO : Hid ((w62.alloc (.cells #[.string (⟨#[98, 101, 115, 105, 100, 101]⟩ : ByteArray)] 9)).ownsRow B 9 1 y2 (ln + (m + 1)) ys) := OW
                  have NN : Hid (∀ j z, [Value.string (⟨#[98, 101, 115, 105, 100, 101]⟩ : ByteArray)][j]? = some z → (w62.alloc (.cells #[.string (⟨#[98, 101, 115, 105, 100, 101]⟩ : ByteArray)] 9)).cell? ((⟨w62.heap.size, 0, none⟩ : Addr).add j) = some z) := new1 w62 _ _
                  have HYL : Hid (ys.length = ln + (m + 1) ∧ (L.map Value.string).length ≤ ys.length) := ⟨hyl, by rw [hyl, List.length_map, HLN.out]; omega⟩
                  clear K OW hyl
                  go_wp2_with (at_builtin; (
                    refine wpList_appS rfl (.tmp 263) (.tmp 264) 22 rfl B 1 9 i9 (.string ByteArray.empty) 16 Tryd.underlying22 II.out.1 II.out.2.1 II.out.2.2.1 II.out.2.2.2 rfl (by decide) _ (ln + (m + 1)) _ rfl HO.out ⟨w62.heap.size, 0, none⟩ 1 1 [.string (⟨#[98, 101, 115, 105, 100, 101]⟩ : ByteArray)] rfl rfl NN.out (by intro u hu; rw [List.mem_singleton.1 hu]; rfl) (by unfold maxLen; omega) (by omega) KA.out.size ?_
                    intro y3 w63 p1 p2 p3 p4
                    have K9 : Hid (Sq B w wd n sb base tb [rb] (.slice (some ⟨g, 0, none⟩) j cp) (atL lo j) (Hq.set (ix i) [(.slice ya ln yc, L.map Value.string), (y3, L.map Value.string ++ List.replicate (m + 1 + 1) (.string (⟨#[98, 101, 115, 105, 100, 101]⟩ : ByteArray)))]) [(.slice ka 5 kc, [z0, z1, z2, z3, z4]), (.slice (some ⟨ab, 0, none⟩) 5 5, VV)] 4400000 w63) := (by have a := Sq.grow2 hlx KA.out HYL.out.2 p1 p2 p3 (by rw [HYL.out.1]; exact p4); rw [← HYS.out, rep_snoc] at a; exact a)
                    clear p1 p2 p3 p4 KA HO NN))
                  go_roundw
                  case rel => exact ⟨m + 1, by omega, by go_num, K9⟩
                  case measure => simp [intOf]; omega
                · have hlm' : ¬ (m : Int) < 130 := by omega
                  obtain rfl : m = 130 := by omega
                  obtain ⟨qa, qc, hq⟩ := own_formS (Sq.two K.out (List.getElem?_set_self hlx)).2
                  rw [hyl] at hq
                  have hq' : y2 = .slice qa (ln + 131) qc := hq
                  obtain ⟨q1, HQ1⟩ : ∃ q, Hid (ln + 131 = q) := ⟨_, rfl⟩
                  rw [HQ1.out] at hq'
                  subst hq'
                  have KS : Hid (Sq B w wd n sb base tb [rb] (.slice (some ⟨g, 0, none⟩) j cp) (atL lo j) Hq [(.slice ka 5 kc, [z0, z1, z2, z3, z4]), (.slice (some ⟨ab, 0, none⟩) 5 5, VV)] 4400000 w62) := Sq.shut HR.out K.out
                  have q3 : s + q1 ≤ 100000 := by have := HQ1.out; omega
                  clear K hq hyl
                  go_wp2
                  go_roundw
                  case rel => exact ⟨i + 1, s + q1, by omega, by go_num, by first | rfl | go_num, by have := HQ1.out; omega, by have := HQ1.out; omega, KS⟩
                  case measure => simp [intOf]; omega
            · have hlt' : ¬ (i : Int) < 5 := by omega
              obtain rfl : i = 5 := by omega
              obtain ⟨w70, rfl⟩ : ∃ v, v = wr := ⟨_, rfl⟩
              have hs3 : 655 ≤ s := by omega
              go_wp2
              go_loopw [42] (fun jv wr => ∃ (i : Nat), i ≤ 5 ∧ jv = .int .i64 i ∧ Hid (Sq B w wd n sb base tb [rb] (.slice (some ⟨g, 0, none⟩) j cp) (atL lo j) Hq [(.slice ka 5 kc, [z0, z1, z2, z3, z4]), (.slice (some ⟨ab, 0, none⟩) 5 5, VV)] 4400000 wr)) (fun jv _ => (5 - intOf jv).toNat)
              case atStart => exact ⟨0, by omega, rfl, K⟩
              case round =>
                clear K
                obtain ⟨i, hi5, rfl, K⟩ := hrel
                by_cases hlt : i < 5
                · have hlt' : (i : Int) < 5 := by omega
                  obtain ⟨ya, yc, L, hv, hrow, hL6, hdone, _⟩ := MF.out.rows i hlt
                  obtain ⟨ln, HLN⟩ : ∃ l, Hid (L.length = l) := ⟨_, rfl⟩
                  rw [HLN.out] at hv hrow hL6
                  have HV : Hid (VV[i]? = some (.slice ya ln yc)) := hv
                  have HR : Hid (Hq[ix i]? = some [(.slice ya ln yc, L.map Value.string)]) := hrow
                  clear hv hrow
                  obtain ⟨c, HCC⟩ : ∃ c : Nat, Hid (48 + i = c) := ⟨_, rfl⟩
                  have g2 : (48 : Int) + (i : Int) = (c : Int) := by have := HCC.out; omega
                  have g3 : IntKind.u8.wrap (c : Int) = c := by rw [IntKind.wrap_u8']; have := HCC.out; omega
                  have g4 : IntKind.i64.wrap (c : Int) = c := by rw [IntKind.wrap_i64]; have := HCC.out; omega
                  have HDN : Hid (∀ x ∈ L, x = mkM i) := hdone hlt
                  clear hdone
                  obtain ⟨w80, rfl⟩ : ∃ v, v = wr := ⟨_, rfl⟩
                  go_wp2
                  go_loopw [43] (fun mv wr => ∃ (m : Nat), m ≤ ln ∧ mv = .int .i64 m ∧ Hid (Sq B w wd n sb base tb [rb] (.slice (some ⟨g, 0, none⟩) j cp) (atL lo j) Hq [(.slice ka 5 kc, [z0, z1, z2, z3, z4]), (.slice (some ⟨ab, 0, none⟩) 5 5, VV)] 4400000 wr)) (fun mv _ => (ln - intOf mv).toNat)
                  case atStart => exact ⟨0, by omega, rfl, K⟩
                  case round =>
                    clear K
                    obtain ⟨m, hm, rfl, K⟩ := hrel
                    have c0 := cellA K.out (i := 1) rfl HV.out
                    by_cases hlm : m < ln
                    · have hlm' : (m : Int) < ln := by omega
                      have hmL : m < L.length := by rw [HLN.out]; exact hlm
                      obtain ⟨g2_, off, rfl, c1⟩ := readAt (K.out.read HR.out) (List.getElem?_eq_getElem hmL)
                      rw [HDN.out _ (List.getElem_mem hmL)] at c1
                      have bd : Below wr.heap.size wr wr.drew := below_dr (Below.refl _ _)
                      have ba : Below wr.heap.size wr (wr.drew.alloc (.cells #[.int .u8 (c : Int)] 5)) := bd.alloc (Nat.le_refl _) _
                      have bb : Below wr.heap.size wr (wr.alloc (.cells #[.int .u8 (c : Int)] 5)).drew := below_dr ((Below.refl _ _).alloc (Nat.le_refl _) _)
                      have cv1 : (convert 60 9 (.slice (some ⟨wr.heap.size, 0, none⟩) 1 1)).run Tryd.prog (wr.drew.alloc (.cells #[.int .u8 (c : Int)] 5)) = .ok (.string (mkM i)) (wr.drew.alloc (.cells #[.int .u8 (c : Int)] 5)) := convM wr.drew i c HCC.out (by omega)
                      have cv2 : (convert 60 9 (.slice (some ⟨wr.heap.size, 0, none⟩) 1 1)).run Tryd.prog (wr.alloc (.cells #[.int .u8 (c : Int)] 5)).drew = .ok (.string (mkM i)) (wr.alloc (.cells #[.int .u8 (c : Int)] 5)).drew := convD wr i c HCC.out (by omega)
                      have c0a := cell_on ba c0
                      have c0b := cell_on bb c0
                      have c1a := cell_on ba c1
                      have c1b := cell_on bb c1
                      have KA : Hid (Sq B w wd n sb base tb [rb] (.slice (some ⟨g, 0, none⟩) j cp) (atL lo j) Hq [(.slice ka 5 kc, [z0, z1, z2, z3, z4]), (.slice (some ⟨ab, 0, none⟩) 5 5, VV)] 4400000 (wr.drew.alloc (.cells #[.int .u8 (c : Int)] 5))) := K.out.later ba
                      have KB : Hid (Sq B w wd n sb base tb [rb] (.slice (some ⟨g, 0, none⟩) j cp) (atL lo j) Hq [(.slice ka 5 kc, [z0, z1, z2, z3, z4]), (.slice (some ⟨ab, 0, none⟩) 5 5, VV)] 4400000 (wr.alloc (.cells #[.int .u8 (c : Int)] 5)).drew) := K.out.later bb
                      obtain ⟨mk, HMK⟩ : ∃ x, Hid (mkM i = x) := ⟨_, rfl⟩
                      rw [HMK.out] at cv1 cv2 c1 c1a c1b
                      have qm : (mk.toList == mk.toList) = true := beq_self_eq_true _
                      clear K bd ba bb
                      go_wp2_with fail
                      go_region
                      all_goals (
                        go_wp2
                        go_roundw
                        case rel => exact ⟨m + 1, by omega, by go_num, (by first | exact KA | exact KB)⟩
                        case measure => simp [intOf]; omega)
                    · have hlm' : ¬ (m : Int) < ln := by omega
                      go_wp2
                      go_roundw
                      case rel => exact ⟨i + 1, by omega, by go_num, K⟩
                      case measure => simp [intOf]; omega
                · have hlt' : ¬ (i : Int) < 5 := by omega
                  obtain ⟨w90, rfl⟩ : ∃ v, v = wr := ⟨_, rfl⟩
                  obtain ⟨kb, ek, _⟩ := Sq.cellS K.out (i := 0) rfl (j := 0) (v := z0) rfl
                  subst ek
                  have K2 := K.out.map fun q => q.keepS ((Below.refl _ _).alloc (Nat.le_refl _) _) (litS w90 #[.slice rb_a la rb_c, .slice mta la mtc, .slice id_a lc id_c, .slice mea ld mec, .slice cl_a lk cl_c, .slice mla la mlc] 6 rfl (by unfold maxLen; omega))
                  obtain ⟨lb, HLB⟩ : ∃ b, Hid (w90.heap.size = b) := ⟨_, rfl⟩
                  obtain ⟨W91, HW91⟩ : ∃ W, Hid (w90.alloc (.cells #[.slice rb_a la rb_c, .slice mta la mtc, .slice id_a lc id_c, .slice mea ld mec, .slice cl_a lk cl_c, .slice mla la mlc] 22) = W) := ⟨_, rfl⟩
                  rw [HLB.out, HW91.out] at K2
                  have KL : Hid (Sq B w wd n sb base tb [rb] (.slice (some ⟨g, 0, none⟩) j cp) (atL lo j) Hq [(.slice (some ⟨kb, 0, none⟩) 5 kc, [z0, z1, z2, z3, z4]), (.slice (some ⟨ab, 0, none⟩) 5 5, VV), (.slice (some ⟨lb, 0, none⟩) 6 6, [.slice rb_a la rb_c, .slice mta la mtc, .slice id_a lc id_c, .slice mea ld mec, .slice cl_a lk cl_c, .slice mla la mlc])] 4400000 W91) := K2
                  clear K K2
                  go_wp2
                  rw [HLB.out, HW91.out]
                  go_loopw [45] (fun jv wr => ∃ (i : Nat), i ≤ 6 ∧ jv = .int .i64 i ∧ Hid (Sq B w wd n sb base tb [rb] (.slice (some ⟨g, 0, none⟩) j cp) (atL lo j) Hq [(.slice (some ⟨kb, 0, none⟩) 5 kc, [z0, z1, z2, z3, z4]), (.slice (some ⟨ab, 0, none⟩) 5 5, VV), (.slice (some ⟨lb, 0, none⟩) 6 6, [.slice rb_a la rb_c, .slice mta la mtc, .slice id_a lc id_c, .slice mea ld mec, .slice cl_a lk cl_c, .slice mla la mlc])] 4400000 wr)) (fun jv _ => (6 - intOf jv).toNat)
                  case atStart => exact ⟨0, by omega, rfl, KL⟩
                  case round =>
                    clear KL
                    obtain ⟨i, hi6, rfl, K⟩ := hrel
                    obtain ⟨w92, rfl⟩ : ∃ v, v = wr := ⟨_, rfl⟩
                    have KD : Hid (Sq B w wd n sb base tb [rb] (.slice (some ⟨g, 0, none⟩) j cp) (atL lo j) Hq [(.slice (some ⟨kb, 0, none⟩) 5 kc, [z0, z1, z2, z3, z4]), (.slice (some ⟨ab, 0, none⟩) 5 5, VV), (.slice (some ⟨lb, 0, none⟩) 6 6, [.slice rb_a la rb_c, .slice mta la mtc, .slice id_a lc id_c, .slice mea ld mec, .slice cl_a lk cl_c, .slice mla la mlc])] 4400000 w92.drew) := K.out.later (below_dr (Below.refl _ _))
                    rcases (show i = 0 ∨ i = 1 ∨ i = 2 ∨ i = 3 ∨ i = 4 ∨ i = 5 ∨ i = 6 by omega) with rfl | rfl | rfl | rfl | rfl | rfl | rfl
                    · have c0 := cellA K.out (i := 2) rfl (j := 0) (v := .slice rb_a la rb_c) rfl
                      have c1 := cellA K.out (i := 0) rfl (j := 0) (v := z0) rfl
                      have CS : Hid (Calls _ _ _ _ _) := bn.same (.slice rb_a la rb_c) z0 LA LA w92.drew (later_same KD.out MF.out (q := 1) (by decide) (by rw [HH0.out]; rfl)) (later_same KD.out MF.out (q := 11) (by decide) (by rw [HH0.out]; rfl)) (by have := HA.out; omega)
                      rw [decide_eq_true rfl] at CS
                      have SS1 : Hid (w92.cell? ⟨lb, 0, none⟩ = some (.slice rb_a la rb_c) ∧ w92.cell? ⟨kb, 0, none⟩ = some z0) := ⟨c0, c1⟩
                      clear K hi6
                      go_wp2_with fail
                      go_region_held_law (fun w' => w'.cell? ⟨lb, 0, none⟩ = some (.slice rb_a la rb_c) ∧ w'.cell? ⟨kb, 0, none⟩ = some z0) (first | exact SS1.out | exact SS5.out) ((go_at_call 22; refine CS.out.mono ?_; rintro _ w5 ⟨rfl, m9, hw9⟩; have KE : Hid (Sq B w wd n sb base tb [rb] (.slice (some ⟨g, 0, none⟩) j cp) (atL lo j) Hq [(.slice (some ⟨kb, 0, none⟩) 5 kc, [z0, z1, z2, z3, z4]), (.slice (some ⟨ab, 0, none⟩) 5 5, VV), (.slice (some ⟨lb, 0, none⟩) 6 6, [.slice rb_a la rb_c, .slice mta la mtc, .slice id_a lc id_c, .slice mea ld mec, .slice cl_a lk cl_c, .slice mla la mlc])] 4400000 w5) := (KD.out.later (w' := w5) (by rw [hw9]; exact below_dN (Below.refl _ _) m9)); have SS5 : Hid (w5.cell? ⟨lb, 0, none⟩ = some (.slice rb_a la rb_c) ∧ w5.cell? ⟨kb, 0, none⟩ = some z0) := (by show _ ∧ _; rw [hw9]; exact SS1.out); clear hw9))
                      all_goals (
                        go_wp2
                        go_roundw
                        case rel => exact ⟨1, by omega, by first | rfl | go_num, KE⟩
                        case measure => simp [intOf])
                    · have c0 := cellA K.out (i := 2) rfl (j := 1) (v := .slice mta la mtc) rfl
                      have c1 := cellA K.out (i := 0) rfl (j := 1) (v := z1) rfl
                      have CS : Hid (Calls _ _ _ _ _) := bn.same (.slice mta la mtc) z1 LA LA w92.drew (later_same KD.out MF.out (q := 7) (by decide) (by rw [HH0.out]; rfl)) (later_same KD.out MF.out (q := 12) (by decide) (by rw [HH0.out]; rfl)) (by have := HA.out; omega)
                      rw [decide_eq_true rfl] at CS
                      have SS1 : Hid (w92.cell? ⟨lb, 1, none⟩ = some (.slice mta la mtc) ∧ w92.cell? ⟨kb, 1, none⟩ = some z1) := ⟨c0, c1⟩
                      clear K hi6
                      go_wp2_with fail
                      go_region_held_law (fun w' => w'.cell? ⟨lb, 1, none⟩ = some (.slice mta la mtc) ∧ w'.cell? ⟨kb, 1, none⟩ = some z1) (first | exact SS1.out | exact SS5.out) ((go_at_call 22; refine CS.out.mono ?_; rintro _ w5 ⟨rfl, m9, hw9⟩; have KE : Hid (Sq B w wd n sb base tb [rb] (.slice (some ⟨g, 0, none⟩) j cp) (atL lo j) Hq [(.slice (some ⟨kb, 0, none⟩) 5 kc, [z0, z1, z2, z3, z4]), (.slice (some ⟨ab, 0, none⟩) 5 5, VV), (.slice (some ⟨lb, 0, none⟩) 6 6, [.slice rb_a la rb_c, .slice mta la mtc, .slice id_a lc id_c, .slice mea ld mec, .slice cl_a lk cl_c, .slice mla la mlc])] 4400000 w5) := (KD.out.later (w' := w5) (by rw [hw9]; exact below_dN (Below.refl _ _) m9)); have SS5 : Hid (w5.cell? ⟨lb, 1, none⟩ = some (.slice mta la mtc) ∧ w5.cell? ⟨kb, 1, none⟩ = some z1) := (by show _ ∧ _; rw [hw9]; exact SS1.out); clear hw9))
                      all_goals (
                        go_wp2
                        go_roundw
                        case rel => exact ⟨2, by omega, by first | rfl | go_num, KE⟩
                        case measure => simp [intOf])
                    · have c0 := cellA K.out (i := 2) rfl (j := 2) (v := .slice id_a lc id_c) rfl
                      have c1 := cellA K.out (i := 0) rfl (j := 2) (v := z2) rfl
                      have CS : Hid (Calls _ _ _ _ _) := bn.same (.slice id_a lc id_c) z2 LC LC w92.drew (later_same KD.out MF.out (q := 3) (by decide) (by rw [HH0.out]; rfl)) (later_same KD.out MF.out (q := 13) (by decide) (by rw [HH0.out]; rfl)) (by have := HC.out; omega)
                      rw [decide_eq_true rfl] at CS
                      have SS1 : Hid (w92.cell? ⟨lb, 2, none⟩ = some (.slice id_a lc id_c) ∧ w92.cell? ⟨kb, 2, none⟩ = some z2) := ⟨c0, c1⟩
                      clear K hi6
                      go_wp2_with fail
                      go_region_held_law (fun w' => w'.cell? ⟨lb, 2, none⟩ = some (.slice id_a lc id_c) ∧ w'.cell? ⟨kb, 2, none⟩ = some z2) (first | exact SS1.out | exact SS5.out) ((go_at_call 22; refine CS.out.mono ?_; rintro _ w5 ⟨rfl, m9, hw9⟩; have KE : Hid (Sq B w wd n sb base tb [rb] (.slice (some ⟨g, 0, none⟩) j cp) (atL lo j) Hq [(.slice (some ⟨kb, 0, none⟩) 5 kc, [z0, z1, z2, z3, z4]), (.slice (some ⟨ab, 0, none⟩) 5 5, VV), (.slice (some ⟨lb, 0, none⟩) 6 6, [.slice rb_a la rb_c, .slice mta la mtc, .slice id_a lc id_c, .slice mea ld mec, .slice cl_a lk cl_c, .slice mla la mlc])] 4400000 w5) := (KD.out.later (w' := w5) (by rw [hw9]; exact below_dN (Below.refl _ _) m9)); have SS5 : Hid (w5.cell? ⟨lb, 2, none⟩ = some (.slice id_a lc id_c) ∧ w5.cell? ⟨kb, 2, none⟩ = some z2) := (by show _ ∧ _; rw [hw9]; exact SS1.out); clear hw9))
                      all_goals (
                        go_wp2
                        go_roundw
                        case rel => exact ⟨3, by omega, by first | rfl | go_num, KE⟩
                        case measure => simp [intOf])
                    · have c0 := cellA K.out (i := 2) rfl (j := 3) (v := .slice mea ld mec) rfl
                      have c1 := cellA K.out (i := 0) rfl (j := 3) (v := z3) rfl
                      have CS : Hid (Calls _ _ _ _ _) := bn.same (.slice mea ld mec) z3 LD LD w92.drew (later_same KD.out MF.out (q := 9) (by decide) (by rw [HH0.out]; rfl)) (later_same KD.out MF.out (q := 14) (by decide) (by rw [HH0.out]; rfl)) (by have := HDL.out; omega)
                      rw [decide_eq_true rfl] at CS
                      have SS1 : Hid (w92.cell? ⟨lb, 3, none⟩ = some (.slice mea ld mec) ∧ w92.cell? ⟨kb, 3, none⟩ = some z3) := ⟨c0, c1⟩
                      clear K hi6
                      go_wp2_with fail
                      go_region_held_law (fun w' => w'.cell? ⟨lb, 3, none⟩ = some (.slice mea ld mec) ∧ w'.cell? ⟨kb, 3, none⟩ = some z3) (first | exact SS1.out | exact SS5.out) ((go_at_call 22; refine CS.out.mono ?_; rintro _ w5 ⟨rfl, m9, hw9⟩; have KE : Hid (Sq B w wd n sb base tb [rb] (.slice (some ⟨g, 0, none⟩) j cp) (atL lo j) Hq [(.slice (some ⟨kb, 0, none⟩) 5 kc, [z0, z1, z2, z3, z4]), (.slice (some ⟨ab, 0, none⟩) 5 5, VV), (.slice (some ⟨lb, 0, none⟩) 6 6, [.slice rb_a la rb_c, .slice mta la mtc, .slice id_a lc id_c, .slice mea ld mec, .slice cl_a lk cl_c, .slice mla la mlc])] 4400000 w5) := (KD.out.later (w' := w5) (by rw [hw9]; exact below_dN (Below.refl _ _) m9)); have SS5 : Hid (w5.cell? ⟨lb, 3, none⟩ = some (.slice mea ld mec) ∧ w5.cell? ⟨kb, 3, none⟩ = some z3) := (by show _ ∧ _; rw [hw9]; exact SS1.out); clear hw9))
                      all_goals (
                        go_wp2
                        go_roundw
                        case rel => exact ⟨4, by omega, by first | rfl | go_num, KE⟩
                        case measure => simp [intOf])
                    · have c0 := cellA K.out (i := 2) rfl (j := 4) (v := .slice cl_a lk cl_c) rfl
                      have c1 := cellA K.out (i := 0) rfl (j := 4) (v := z4) rfl
                      have CS : Hid (Calls _ _ _ _ _) := bn.same (.slice cl_a lk cl_c) z4 LK LK w92.drew (later_same KD.out MF.out (q := 5) (by decide) (by rw [HH0.out]; rfl)) (later_same KD.out MF.out (q := 15) (by decide) (by rw [HH0.out]; rfl)) (by have := HKL.out; omega)
                      rw [decide_eq_true rfl] at CS
                      have SS1 : Hid (w92.cell? ⟨lb, 4, none⟩ = some (.slice cl_a lk cl_c) ∧ w92.cell? ⟨kb, 4, none⟩ = some z4) := ⟨c0, c1⟩
                      clear K hi6
                      go_wp2_with fail
                      go_region_held_law (fun w' => w'.cell? ⟨lb, 4, none⟩ = some (.slice cl_a lk cl_c) ∧ w'.cell? ⟨kb, 4, none⟩ = some z4) (first | exact SS1.out | exact SS5.out) ((go_at_call 22; refine CS.out.mono ?_; rintro _ w5 ⟨rfl, m9, hw9⟩; have KE : Hid (Sq B w wd n sb base tb [rb] (.slice (some ⟨g, 0, none⟩) j cp) (atL lo j) Hq [(.slice (some ⟨kb, 0, none⟩) 5 kc, [z0, z1, z2, z3, z4]), (.slice (some ⟨ab, 0, none⟩) 5 5, VV), (.slice (some ⟨lb, 0, none⟩) 6 6, [.slice rb_a la rb_c, .slice mta la mtc, .slice id_a lc id_c, .slice mea ld mec, .slice cl_a lk cl_c, .slice mla la mlc])] 4400000 w5) := (KD.out.later (w' := w5) (by rw [hw9]; exact below_dN (Below.refl _ _) m9)); have SS5 : Hid (w5.cell? ⟨lb, 4, none⟩ = some (.slice cl_a lk cl_c) ∧ w5.cell? ⟨kb, 4, none⟩ = some z4) := (by show _ ∧ _; rw [hw9]; exact SS1.out); clear hw9))
                      all_goals (
                        go_wp2
                        go_roundw
                        case rel => exact ⟨5, by omega, by first | rfl | go_num, KE⟩
                        case measure => simp [intOf])
                    · have c0 := cellA K.out (i := 2) rfl (j := 5) (v := .slice mla la mlc) rfl
                      have c1 := cellA K.out (i := 0) rfl (j := 1) (v := z1) rfl
                      have CS : Hid (Calls _ _ _ _ _) := bn.same (.slice mla la mlc) z1 LA LA w92.drew (later_same KD.out MF.out (q := 10) (by decide) (by rw [HH0.out]; rfl)) (later_same KD.out MF.out (q := 12) (by decide) (by rw [HH0.out]; rfl)) (by have := HA.out; omega)
                      rw [decide_eq_true rfl] at CS
                      have SS1 : Hid (w92.cell? ⟨lb, 5, none⟩ = some (.slice mla la mlc) ∧ w92.cell? ⟨kb, 1, none⟩ = some z1) := ⟨c0, c1⟩
                      clear K hi6
                      go_wp2_with fail
                      go_region_held_law (fun w' => w'.cell? ⟨lb, 5, none⟩ = some (.slice mla la mlc) ∧ w'.cell? ⟨kb, 1, none⟩ = some z1) (first | exact SS1.out | exact SS5.out) ((go_at_call 22; refine CS.out.mono ?_; rintro _ w5 ⟨rfl, m9, hw9⟩; have KE : Hid (Sq B w wd n sb base tb [rb] (.slice (some ⟨g, 0, none⟩) j cp) (atL lo j) Hq [(.slice (some ⟨kb, 0, none⟩) 5 kc, [z0, z1, z2, z3, z4]), (.slice (some ⟨ab, 0, none⟩) 5 5, VV), (.slice (some ⟨lb, 0, none⟩) 6 6, [.slice rb_a la rb_c, .slice mta la mtc, .slice id_a lc id_c, .slice mea ld mec, .slice cl_a lk cl_c, .slice mla la mlc])] 4400000 w5) := (KD.out.later (w' := w5) (by rw [hw9]; exact below_dN (Below.refl _ _) m9)); have SS5 : Hid (w5.cell? ⟨lb, 5, none⟩ = some (.slice mla la mlc) ∧ w5.cell? ⟨kb, 1, none⟩ = some z1) := (by show _ ∧ _; rw [hw9]; exact SS1.out); clear hw9))
                      all_goals (
                        go_wp2
                        go_roundw
                        case rel => exact ⟨6, by omega, by first | rfl | go_num, KE⟩
                        case measure => simp [intOf])
                    · clear hi6 KD
                      obtain ⟨b1, b2, b3⟩ := K.out.cells (List.mem_singleton.2 rfl)
                      go_wp2_with fail
                      refine (askR K.out (by omega) HWD.out S1.out (by omega) HA.out).mono ?_
                      rintro e w93 ⟨ana, anc, rfl, hs⟩
                      have K2 : Hid (Sq B w wd n sb base tb [rb] (.slice (some ⟨g, 0, none⟩) j cp) (atL lo j) (Hq ++ [[(.slice ana la anc, LA.map Value.string)]]) [(.slice (some ⟨kb, 0, none⟩) 5 kc, [z0, z1, z2, z3, z4]), (.slice (some ⟨ab, 0, none⟩) 5 5, VV), (.slice (some ⟨lb, 0, none⟩) 6 6, [.slice rb_a la rb_c, .slice mta la mtc, .slice id_a lc id_c, .slice mea ld mec, .slice cl_a lk cl_c, .slice mla la mlc])] 4800000 w93) := hs
                      clear K hs
                      have K : Hid (Sq B w wd n sb base tb [rb] (.slice (some ⟨g, 0, none⟩) j cp) (atL lo j) (Hq ++ [[(.slice ana la anc, LA.map Value.string)]]) [(.slice (some ⟨kb, 0, none⟩) 5 kc, [z0, z1, z2, z3, z4]), (.slice (some ⟨ab, 0, none⟩) 5 5, VV), (.slice (some ⟨lb, 0, none⟩) 6 6, [.slice rb_a la rb_c, .slice mta la mtc, .slice id_a lc id_c, .slice mea ld mec, .slice cl_a lk cl_c, .slice mla la mlc])] 4800000 w93) := K2
                      clear K2
                      clear b1 b2 b3
                      obtain ⟨b1, b2, b3⟩ := K.out.cells (List.mem_singleton.2 rfl)
                      go_wp2_with fail
                      refine (askM K.out (by omega) HWD.out (K.out.get fun q => q.ints) (by rw [atL_len]; omega) S4.out SB4 HA.out).mono ?_
                      rintro e w94 ⟨wha, whc, rfl, hs⟩
                      have K2 : Hid (Sq B w wd n sb base tb [rb] (.slice (some ⟨g, 0, none⟩) j cp) (atL lo j) ((Hq ++ [[(.slice ana la anc, LA.map Value.string)]]) ++ [[(.slice wha la whc, LA.map Value.string)]]) [(.slice (some ⟨kb, 0, none⟩) 5 kc, [z0, z1, z2, z3, z4]), (.slice (some ⟨ab, 0, none⟩) 5 5, VV), (.slice (some ⟨lb, 0, none⟩) 6 6, [.slice rb_a la rb_c, .slice mta la mtc, .slice id_a lc id_c, .slice mea ld mec, .slice cl_a lk cl_c, .slice mla la mlc])] 5200000 w94) := hs
                      clear K hs
                      have K : Hid (Sq B w wd n sb base tb [rb] (.slice (some ⟨g, 0, none⟩) j cp) (atL lo j) ((Hq ++ [[(.slice ana la anc, LA.map Value.string)]]) ++ [[(.slice wha la whc, LA.map Value.string)]]) [(.slice (some ⟨kb, 0, none⟩) 5 kc, [z0, z1, z2, z3, z4]), (.slice (some ⟨ab, 0, none⟩) 5 5, VV), (.slice (some ⟨lb, 0, none⟩) 6 6, [.slice rb_a la rb_c, .slice mta la mtc, .slice id_a lc id_c, .slice mea ld mec, .slice cl_a lk cl_c, .slice mla la mlc])] 5200000 w94) := K2
                      clear K2
                      clear b1 b2 b3
                      have hql : Hq.length = 16 := by rw [MF.out.len, HH0.out]; rfl
                      have q0 : Hq[11]? = some [(z0, LA.map Value.string)] := (MF.out.rest 11 (by decide)).trans (by rw [HH0.out]; rfl)
                      have q1 : ((Hq ++ [[(.slice ana la anc, LA.map Value.string)]]) ++ [[(.slice wha la whc, LA.map Value.string)]])[11]? = some [(z0, LA.map Value.string)] := by rw [List.getElem?_append_left (by rw [List.length_append]; omega), List.getElem?_append_left (by omega)]; exact q0
                      have q2 : ((Hq ++ [[(.slice ana la anc, LA.map Value.string)]]) ++ [[(.slice wha la whc, LA.map Value.string)]])[16]? = some [(.slice ana la anc, LA.map Value.string)] := by rw [List.getElem?_append_left (by rw [List.length_append, hql]; simp), List.getElem?_append_right (by omega), hql]; rfl
                      have q3 : ((Hq ++ [[(.slice ana la anc, LA.map Value.string)]]) ++ [[(.slice wha la whc, LA.map Value.string)]])[17]? = some [(.slice wha la whc, LA.map Value.string)] := by rw [List.getElem?_append_right (by rw [List.length_append, hql]; simp), List.length_append, hql]; rfl
                      have CS1 : Hid (Calls _ _ _ _ _) := bn.same (.slice ana la anc) (.slice wha la whc) LA LA w94 (K.out.read q2) (K.out.read q3) (by have := HA.out; omega)
                      have CS2 : Hid (∀ W, Below w94.heap.size w94 W → Calls _ _ _ _ _) := fun W b => bn.same (.slice ana la anc) z0 LA LA W ((K.out.later b).read q2) ((K.out.later b).read q1) (by have := HA.out; omega)
                      rw [decide_eq_true rfl] at CS1 CS2
                      have k0 := cellA K.out (i := 0) rfl (j := 0) (v := z0) rfl
                      have qs : decide ((s : Int) < 655) = false := decide_eq_false (by omega)
                      have qs' : ¬ (s : Int) < 655 := by omega
                      clear q0 q1 q2 q3 hql
                      go_wp2_with fail
                      refine (NM.out _ _).mono ?_
                      rintro e wn0 ⟨rfl, hw⟩
                      subst hw
                      go_wp2_with fail
                      refine (NM.out _ _).mono ?_
                      rintro e wn1 ⟨rfl, hw⟩
                      subst hw
                      go_wp2_with fail
                      refine CS1.out.mono ?_
                      rintro e wo ⟨rfl, m8, hw⟩
                      have B8 : Hid (Below wn1.heap.size wn1 wo) := by show Below _ _ _; rw [hw]; exact below_dN (Below.refl _ _) m8
                      have k1_ : wo.cell? ⟨kb, 0, none⟩ = some z0 := by rw [hw]; exact k0
                      clear hw
                      go_wp2_with fail
                      refine (CS2.out _ B8.out).mono ?_
                      rintro e wp ⟨rfl, m9, hw⟩
                      have B9 : Below wo.heap.size wo wp := by rw [hw]; exact below_dN (Below.refl _ _) m9
                      have K9 : Hid (Sq B w wd n sb base tb [rb] (.slice (some ⟨g, 0, none⟩) j cp) (atL lo j) ((Hq ++ [[(.slice ana la anc, LA.map Value.string)]]) ++ [[(.slice wha la whc, LA.map Value.string)]]) [(.slice (some ⟨kb, 0, none⟩) 5 kc, [z0, z1, z2, z3, z4]), (.slice (some ⟨ab, 0, none⟩) 5 5, VV), (.slice (some ⟨lb, 0, none⟩) 6 6, [.slice rb_a la rb_c, .slice mta la mtc, .slice id_a lc id_c, .slice mea ld mec, .slice cl_a lk cl_c, .slice mla la mlc])] 5200000 wp) := (K.out.later B8.out).later B9
                      clear hw B9
                      obtain ⟨b1, b2, b3⟩ := K9.out.cells (List.mem_singleton.2 rfl)
                      by_cases hen : hi = n
                      · have qe : ((hi : Int) == (n : Int)) = true := by rw [beq_iff_eq]; omega
                        have HF : Hid (Below w.heap.size w wp) := K9.out.fr
                        clear K9 K
                        go_wp2
                        go_ret
                        exact ⟨rfl, HF.out⟩
                      · have qe : ((hi : Int) == (n : Int)) = false := by rw [beq_eq_false_iff_ne]; omega
                        have MV : Hid (Calls _ _ _ _ _) := movedY wp g cp lo j (by omega) HWD.out k1 k2 hn1 hn2 (by have := HHI.out; omega) K9.out
                        rw [HHI.out] at MV
                        clear K9 K
                        go_wp2_with fail
                        refine MV.out.mono ?_
                        rintro e wz ⟨rfl, hb⟩
                        have HF : Hid (Below w.heap.size w wz) := hb
                        clear hb
                        go_wp2
                        go_ret
                        exact ⟨rfl, HF.out⟩
end Go.Proofs.YtmmbkfagchaocaaDoor.v8
