import Derived.Test.YtkgadgkomdjplaaH1
import Derived.Test.YtkgadgkomdjplaaH2
import Derived.Test.YtkgadgkomdjplaaH3
import Derived.Test.YtkgadgkomdjplaaH4
import Derived.Test.YtkgadgkomdjplaaH5
import Derived.Test.YtkgadgkomdjplaaH6
import Derived.Test.YtkgadgkomdjplaaG6
import Derived.Test.YtkgadgkomdjplaaG1
import Derived.Deep.DeepCutAuto
import Derived.BigQuiet
namespace Go.Proofs.Ytkgadgkomdjplaa.fo
open Go.RowKit Go.PlainAid Go.Shelf
open Go.Proofs.Ytkgadgkomdjplaa.fi Go.Proofs.Ytkgadgkomdjplaa.fj Go.Proofs.Ytkgadgkomdjplaa.fk Go.Proofs.Ytkgadgkomdjplaa.fl Go.Proofs.Ytkgadgkomdjplaa.fm Go.Proofs.Ytkgadgkomdjplaa.fn Go.Proofs.Ytkgadgkomdjplaa.fh Go.Proofs.Ytkgadgkomdjplaa.ca Go.Proofs.Ytkgadgkomdjplaa.cb Go.Proofs.Ytkgadgkomdjplaa.cp Go.Proofs.Ytkgadgkomdjplaa.ga Go.Proofs.Ytkgadgkomdjplaa.kp Go.Proofs.Ytkgadgkomdjplaa.na Go.Proofs.Ytkgadgkomdjplaa.nb Go.Proofs.Ytkgadgkomdjplaa.nc Go.Proofs.Ytkgadgkomdjplaa.mi Go.Proofs.Ytkgadgkomdjplaa.co Go.Proofs.Ytkgadgkomdjplaa.cn Go.Proofs.Ytkgadgkomdjplaa.df Go.Proofs.Ytkgadgkomdjplaa.ea Go.Proofs.Ytkgadgkomdjplaa.eb Go.Proofs.Ytkgadgkomdjplaa.ec Go.Proofs.Ytkgadgkomdjplaa.ed Go.Proofs.Ytkgadgkomdjplaa.ee Go.Proofs.Ytkgadgkomdjplaa.ef Go.Proofs.Ytkgadgkomdjplaa.eg Go.Proofs.Ytkgadgkomdjplaa.eh Go.Proofs.Ytkgadgkomdjplaa.eo Go.Proofs.Ytkgadgkomdjplaa.ep Go.Proofs.Ytkgadgkomdjplaa.eq Go.Proofs.Ytkgadgkomdjplaa.er Go.Proofs.Ytkgadgkomdjplaa.es Go.Proofs.Ytkgadgkomdjplaa.ka Go.Proofs.Ytkgadgkomdjplaa.bn Go.Proofs.Ytkgadgkomdjplaa.fa Go.Proofs.Ytkgadgkomdjplaa.fb Go.Proofs.Ytkgadgkomdjplaa.fc Go.Proofs.Ytkgadgkomdjplaa.fg
set_option linter.unusedVariables false

theorem rUnProof (b : ByteArray) (w : World) (hb : b.size ≤ 140737488355328) : Calls Try.prog 31 #[.string b] w (ReadP w (upR b) (pE b)) := by
  by_cases h1 : (dK b).1 < 1
  · exact rUnD1 b w hb h1
  by_cases h2 : 4 < (dK b).1
  · exact rUnD2 b w hb h2
  by_cases h3 : (dK b).1 = 1
  · exact rUnA1 b w hb h3
  by_cases h4 : (dK b).1 = 2
  · exact rUnA2 b w hb h4
  by_cases h5 : (dK b).1 = 3
  · exact rUnB b w hb h5
  exact rUnC b w hb (by omega)
end Go.Proofs.Ytkgadgkomdjplaa.fo

namespace Go.Proofs.Ytkgadgkomdjplaa.wp
open Go.RowKit Go.PlainAid
open Go.Proofs.Ytkgadgkomdjplaa.ca Go.Proofs.Ytkgadgkomdjplaa.cb Go.Proofs.Ytkgadgkomdjplaa.cp Go.Proofs.Ytkgadgkomdjplaa.ga Go.Proofs.Ytkgadgkomdjplaa.kp Go.Proofs.Ytkgadgkomdjplaa.mi Go.Proofs.Ytkgadgkomdjplaa.ea Go.Proofs.Ytkgadgkomdjplaa.eb Go.Proofs.Ytkgadgkomdjplaa.ec Go.Proofs.Ytkgadgkomdjplaa.ee Go.Proofs.Ytkgadgkomdjplaa.ef Go.Proofs.Ytkgadgkomdjplaa.eg Go.Proofs.Ytkgadgkomdjplaa.eo Go.Proofs.Ytkgadgkomdjplaa.eq Go.Proofs.Ytkgadgkomdjplaa.er Go.Proofs.Ytkgadgkomdjplaa.es Go.Proofs.Ytkgadgkomdjplaa.ka Go.Proofs.Ytkgadgkomdjplaa.bn
set_option linter.unusedVariables false

set_option maxHeartbeats 1600000 in
theorem places_yes (va vb : Value) (xs : List Int) (w : World) (h1 : ReadsI w va xs) (h2 : ReadsI w vb xs) (hz : xs.length ≤ 140737488355328) :
    Calls Try.prog 29 #[va, vb] w fun e w' => e = .returned (.bool true) ∧ ∃ m, w' = w.drewN m := by
  obtain ⟨a, cap, rfl, hcap, h1⟩ := h1
  obtain ⟨a', cap', rfl, hcap', h2⟩ := h2
  have HC : Hid (xs.length = 0 ∨ ∃ b off, a = some ⟨b, off, none⟩ ∧ ∀ i, i < xs.length → w.cell? ⟨b, off + i, none⟩ = some (.int .i64 (xs.getD i 0))) := h1
  have HC' : Hid (xs.length = 0 ∨ ∃ b off, a' = some ⟨b, off, none⟩ ∧ ∀ i, i < xs.length → w.cell? ⟨b, off + i, none⟩ = some (.int .i64 (xs.getD i 0))) := h2
  obtain ⟨n, HN⟩ : ∃ n, Hid (xs.length = n) := ⟨_, rfl⟩
  rw [HN.out] at HC HC' hz hcap hcap' ⊢
  clear h1 h2
  have hl' : ((n : Int) != (n : Int)) = false := by simp
  go_enter Try.func29, Try.ntmps29
  go_wp2
  go_loopw [5] (fun i wr => ∃ k m : Nat, k ≤ n ∧ i = .int .i64 k ∧ wr = w.drewN m) (fun i _ => (n - intOf i).toNat)
  case atStart => exact ⟨0, 0, by omega, rfl, rfl⟩
  case round =>
    obtain ⟨k, m, hk, rfl, rfl⟩ := hrel
    by_cases hlt : k < n
    · have hlt' : (k : Int) < n := by omega
      obtain ⟨b, off, rfl, hc⟩ : ∃ b off, a = some ⟨b, off, none⟩ ∧ ∀ i, i < n → w.cell? ⟨b, off + i, none⟩ = some (.int .i64 (xs.getD i 0)) := by
        rcases HC.out with h | h
        · omega
        · exact h
      obtain ⟨b', off', rfl, hc'⟩ : ∃ b off, a' = some ⟨b, off, none⟩ ∧ ∀ i, i < n → w.cell? ⟨b, off + i, none⟩ = some (.int .i64 (xs.getD i 0)) := by
        rcases HC'.out with h | h
        · omega
        · exact h
      have c1 := hc k hlt
      have c2 := hc' k hlt
      obtain ⟨X, HX⟩ : ∃ X, Hid (xs.getD k 0 = X) := ⟨_, rfl⟩
      rw [HX.out] at c1 c2
      have hb1 : (X != X) = false := by simp
      clear hc hc'
      go_wp2_with fail
      go_quiet (fail)
      go_wp2
      go_roundw
      case rel => exact ⟨k + 1, _, by omega, by go_num, rfl⟩
      case measure => simp [intOf]; omega
    · have hlt' : ¬ (k : Int) < n := by omega
      go_wp2
      go_ret
      exact ⟨rfl, m, rfl⟩
set_option maxHeartbeats 3200000 in
theorem alike_yes (k wd a b n : Int) (v1 v2 h1 h2 : Option Addr) (l1 c1 l2 c2 m1 d1 m2 d2 : Nat) (xs : List Int) (hs : List ByteArray) (w : World) (r1 : ReadsI w (.slice v1 l1 c1) xs) (r2 : ReadsI w (.slice v2 l2 c2) xs) (t1 : ReadsT w (.slice h1 m1 d1) hs) (t2 : ReadsT w (.slice h2 m2 d2) hs) (hz : xs.length ≤ 140737488355328) (hh : hs.length ≤ 140737488355328) :
    Calls Try.prog 19 #[.agg #[.int .i64 k, .int .i64 wd, .int .i64 a, .int .i64 b, .int .i64 n, .slice v1 l1 c1, .slice h1 m1 d1], .agg #[.int .i64 k, .int .i64 wd, .int .i64 a, .int .i64 b, .int .i64 n, .slice v2 l2 c2, .slice h2 m2 d2]] w fun e w' => e = .returned (.bool true) ∧ Below w.heap.size w w' := by
  obtain ⟨W1, HX1⟩ : ∃ W, Hid (W = w.alloc (.cells #[.int .i64 k, .int .i64 wd, .int .i64 a, .int .i64 b, .int .i64 n, .slice v1 l1 c1, .slice h1 m1 d1] 39)) := ⟨_, rfl⟩
  have hW1 : W1.heap[w.heap.size]? = some (.cells #[.int .i64 k, .int .i64 wd, .int .i64 a, .int .i64 b, .int .i64 n, .slice v1 l1 c1, .slice h1 m1 d1] 39 (0, 0)) := by rw [HX1.out]; exact heap_alloc_new w _
  have B1 : Below w.heap.size w W1 := by rw [HX1.out]; exact (Below.refl _ _).alloc (Nat.le_refl _) _
  have hs1 : W1.heap.size = w.heap.size + 1 := by rw [HX1.out]; simp
  obtain ⟨W2, HX2⟩ : ∃ W, Hid (W = W1.alloc (.cells #[.int .i64 k, .int .i64 wd, .int .i64 a, .int .i64 b, .int .i64 n, .slice v2 l2 c2, .slice h2 m2 d2] 39)) := ⟨_, rfl⟩
  have hW2 : W2.heap[w.heap.size + 1]? = some (.cells #[.int .i64 k, .int .i64 wd, .int .i64 a, .int .i64 b, .int .i64 n, .slice v2 l2 c2, .slice h2 m2 d2] 39 (0, 0)) := by rw [HX2.out, ← hs1]; exact heap_alloc_new W1 _
  have B2 : Below W1.heap.size W1 W2 := by rw [HX2.out]; exact (Below.refl _ _).alloc (Nat.le_refl _) _
  have hV1 := (B2.block w.heap.size (by omega)).trans hW1
  have BB : Hid (Below w.heap.size w W2) := below2 B1 B2 (Nat.le_refl _)
  obtain ⟨a0, a1, a2, a3, a4, a5, a6⟩ := seven hV1
  obtain ⟨b0, b1, b2, b3, b4, b5, b6⟩ := seven hW2
  have PC : Hid (Calls _ _ _ _ _) := places_yes (.slice v1 l1 c1) (.slice v2 l2 c2) xs W2 (r1.later BB.out) (r2.later BB.out) hz
  have SC : Hid (∀ W, Below w.heap.size w W → Calls _ _ _ _ _) := fun W hb => same_yes (.slice h1 m1 d1) (.slice h2 m2 d2) hs W (t1.later hb) (t2.later hb) hh
  have P1 : Hid (W2.heap[w.heap.size]? = _) := hV1
  have P2 : Hid (W2.heap[w.heap.size + 1]? = _) := hW2
  have e1 : (k != k) = false := by simp
  have e2 : (wd != wd) = false := by simp
  have e3 : (a != a) = false := by simp
  have e4 : (b != b) = false := by simp
  have e5 : (n != n) = false := by simp
  clear hW1 hW2 B1 B2 hs1 hV1 r1 r2 t1 t2
  go_enter Try.func19, Try.ntmps19
  go_upto_region 1 with fail
  rw [← HX1.out, ← HX2.out]
  clear HX1 HX2
  go_wp2_with (first
    | (go_at_call 29; refine PC.out.mono ?_; rintro _ w3 ⟨rfl, m3, hm3⟩; have B3 : Hid (Below w.heap.size w w3) := below2 BB.out (by rw [hm3]; exact below_dN (Below.refl _ _) _) (Nat.le_refl _); have i6 : w3.cell? ⟨w.heap.size, 6, none⟩ = some (.slice h1 m1 d1) := (by rw [hm3]; exact cell_of_row _ _ 6 _ _ _ P1.out); have j6 : w3.cell? ⟨w.heap.size + 1, 6, none⟩ = some (.slice h2 m2 d2) := (by rw [hm3]; exact cell_of_row _ _ 6 _ _ _ P2.out); clear hm3)
    | (go_at_call 16; refine (SC.out _ B3.out).mono ?_; rintro _ w4 ⟨rfl, m4, hm4⟩; have B4 : Hid (Below w.heap.size w w4) := below2 B3.out (by rw [hm4]; exact below_dN (Below.refl _ _) _) (Nat.le_refl _); clear hm4))
  go_ret
  exact ⟨rfl, B4.out⟩
end Go.Proofs.Ytkgadgkomdjplaa.wp

namespace Go.Proofs.Ytkgadgkomdjplaa.wu
open Go.RowKit Go.PlainAid
open Go.Proofs.Ytkgadgkomdjplaa.ca Go.Proofs.Ytkgadgkomdjplaa.cb Go.Proofs.Ytkgadgkomdjplaa.cp Go.Proofs.Ytkgadgkomdjplaa.ga Go.Proofs.Ytkgadgkomdjplaa.kp Go.Proofs.Ytkgadgkomdjplaa.mi Go.Proofs.Ytkgadgkomdjplaa.ea Go.Proofs.Ytkgadgkomdjplaa.eb Go.Proofs.Ytkgadgkomdjplaa.ec Go.Proofs.Ytkgadgkomdjplaa.ee Go.Proofs.Ytkgadgkomdjplaa.ef Go.Proofs.Ytkgadgkomdjplaa.eg Go.Proofs.Ytkgadgkomdjplaa.eo Go.Proofs.Ytkgadgkomdjplaa.eq Go.Proofs.Ytkgadgkomdjplaa.er Go.Proofs.Ytkgadgkomdjplaa.es Go.Proofs.Ytkgadgkomdjplaa.ka Go.Proofs.Ytkgadgkomdjplaa.bn Go.Proofs.Ytkgadgkomdjplaa.wp Go.Proofs.Ytkgadgkomdjplaa.fo
set_option linter.unusedVariables false

theorem upR_len (b : ByteArray) : (upR b).at'.length ≤ 1024 ∧ (upR b).hs.length ≤ 70000 := by
  unfold upR
  split
  · refine ⟨?_, ?_⟩
    · show (pSh b).at'.length ≤ 1024
      unfold pSh shS
      split
      · have h1 := most_ok b 1024 83 (pK b).2.1 (pK b).2.2 (pK_ok b) (by decide)
        have h2 := (plS_ok b (mostS b 1024 83 (pK b).2.1 (pK b).2.2).1.toNat 0 _ _ h1.1).2
        show (plS b (mostS b 1024 83 (pK b).2.1 (pK b).2.2).1.toNat 0 (mostS b 1024 83 (pK b).2.1 (pK b).2.2).2.1 (mostS b 1024 83 (pK b).2.1 (pK b).2.2).2.2).1.length ≤ 1024
        rw [h2]; omega
      · split
        · exact Nat.zero_le _
        · exact Nat.zero_le _
    · show (pHs b).1.length ≤ 70000
      have h1 := (hashes_ok b (pW b).1.toNat (pCt b).1.toNat (pSh b).p (refu (pSh b).e (pCt b).2) (pRf_ok b)).2
      have h2 := cnt_in (pK b).1 (pSh b).a (pSh b).b (pSh b).n (pSh b).at'
      have h3 : (pHs b).1.length ≤ (pCt b).1.toNat := h1
      have h4 : (pCt b).1 ≤ 70000 := h2.2.1
      omega
  · exact ⟨Nat.zero_le _, Nat.zero_le _⟩
set_option maxRecDepth 100000 in
set_option maxHeartbeats 6400000 in
theorem wireUnProof {w : World} (b : ByteArray) (hb : b.size ≤ 140737488351232) :
    Calls Try.prog 8 #[.string b] w fun e w' => e = .returned (.bool true) ∧ Below w.heap.size w w' := by
  have UC : Hid (∀ W, Calls _ _ _ (W : World) _) := fun W => unProofC b W (by omega)
  have UD : Hid (∀ W, Calls _ _ _ (W : World) _) := fun W => rUnProof b W (by omega)
  obtain ⟨l1, l2⟩ := upR_len b
  obtain ⟨E, HE⟩ : ∃ E, Hid (pE b = E) := ⟨_, rfl⟩
  obtain ⟨k, wd, a, bb, n, at', hs, HR⟩ : ∃ k wd a bb n at' hs, Hid (upR b = ⟨k, wd, a, bb, n, at', hs⟩) := ⟨_, _, _, _, _, _, _, rfl⟩
  rw [HE.out, HR.out] at UC UD
  rw [HR.out] at l1 l2
  have l1' : at'.length ≤ 1024 := l1
  have l2' : hs.length ≤ 70000 := l2
  have g3 : (E == E) = true := beq_self_eq_true _
  have AL : Hid (∀ W v1 lv1 c1 h1 m1 d1 v2 lv2 c2 h2 m2 d2, ReadsI W (.slice v1 lv1 c1) at' → ReadsI W (.slice v2 lv2 c2) at' → ReadsT W (.slice h1 m1 d1) hs → ReadsT W (.slice h2 m2 d2) hs → Calls _ _ _ (W : World) _) := fun W v1 lv1 c1 h1 m1 d1 v2 lv2 c2 h2 m2 d2 r1 r2 t1 t2 => alike_yes k wd a bb n v1 v2 h1 h2 lv1 c1 lv2 c2 m1 d1 m2 d2 at' hs W r1 r2 t1 t2 (by omega) (by omega)
  clear l1 l2
  go_enter Try.func8, Try.ntmps8
  go_upto_region 2 with (go_at_call 30; refine (UC.out _).mono ?_; rintro _ w1 ⟨⟨v1, lv1, c1, h1, m1, d1, rfl, o1, p1⟩, k1⟩; have R1 : Hid (ReadsI w1 (.slice v1 lv1 c1) at' ∧ ReadsT w1 (.slice h1 m1 d1) hs) := ⟨own_readsI o1, own_readsT p1⟩; have B1 : Hid (Below w.heap.size w w1) := k1; clear o1 p1 k1)
  obtain ⟨W1, HX1⟩ : ∃ W, Hid (W = w1.alloc (.cells #[.int .i64 k, .int .i64 wd, .int .i64 a, .int .i64 bb, .int .i64 n, .slice v1 lv1 c1, .slice h1 m1 d1] 39)) := ⟨_, rfl⟩
  have hW1 : Hid (W1.heap[w1.heap.size]? = some (.cells #[.int .i64 k, .int .i64 wd, .int .i64 a, .int .i64 bb, .int .i64 n, .slice v1 lv1 c1, .slice h1 m1 d1] 39 (0, 0))) := by rw [HX1.out]; exact heap_alloc_new w1 _
  have BW : Hid (Below w1.heap.size w1 W1) := by rw [HX1.out]; exact (Below.refl _ _).alloc (Nat.le_refl _) _
  rw [← HX1.out]
  clear HX1
  go_upto_region 3 with (go_at_call 31; refine (UD.out _).mono ?_; rintro _ w2 ⟨⟨v2, lv2, c2, h2, m2, d2, rfl, o2, p2⟩, k2⟩; have R2 : Hid (ReadsI w2 (.slice v2 lv2 c2) at' ∧ ReadsT w2 (.slice h2 m2 d2) hs) := ⟨own_readsI o2, own_readsT p2⟩; have K2 : Hid (Below W1.heap.size W1 w2) := k2; clear o2 p2 k2)
  obtain ⟨W2, HX2⟩ : ∃ W, Hid (W = w2.alloc (.cells #[.int .i64 k, .int .i64 wd, .int .i64 a, .int .i64 bb, .int .i64 n, .slice v2 lv2 c2, .slice h2 m2 d2] 39)) := ⟨_, rfl⟩
  have hW2 : W2.heap[w2.heap.size]? = some (.cells #[.int .i64 k, .int .i64 wd, .int .i64 a, .int .i64 bb, .int .i64 n, .slice v2 lv2 c2, .slice h2 m2 d2] 39 (0, 0)) := by rw [HX2.out]; exact heap_alloc_new w2 _
  have BW2 : Hid (Below w2.heap.size w2 W2) := by rw [HX2.out]; exact (Below.refl _ _).alloc (Nat.le_refl _) _
  have hp1 : w1.heap.size < W1.heap.size := (Array.getElem?_eq_some_iff.1 hW1.out).1
  have hV1 : W2.heap[w1.heap.size]? = some (.cells #[.int .i64 k, .int .i64 wd, .int .i64 a, .int .i64 bb, .int .i64 n, .slice v1 lv1 c1, .slice h1 m1 d1] 39 (0, 0)) := (BW2.out.block _ (Nat.lt_of_lt_of_le hp1 K2.out.size)).trans ((K2.out.block _ hp1).trans hW1.out)
  obtain ⟨a0, a1, a2, a3, a4, a5, a6⟩ := seven hV1
  obtain ⟨b0, b1, b2, b3, b4, b5, b6⟩ := seven hW2
  have Q1 : Hid (ReadsI W2 (.slice v1 lv1 c1) at' ∧ ReadsT W2 (.slice h1 m1 d1) hs) := ⟨((R1.out.1.later BW.out).later K2.out).later BW2.out, ((R1.out.2.later BW.out).later K2.out).later BW2.out⟩
  have Q2 : Hid (ReadsI W2 (.slice v2 lv2 c2) at' ∧ ReadsT W2 (.slice h2 m2 d2) hs) := ⟨R2.out.1.later BW2.out, R2.out.2.later BW2.out⟩
  have BB : Hid (Below w.heap.size w W2) := below2 (below2 (below2 B1.out BW.out (Nat.le_refl _)) K2.out (Nat.le_refl _)) BW2.out (Nat.le_refl _)
  rw [← HX2.out]
  clear HX2 hV1 hW2
  go_wp2_with (first
    | (go_at_call 19; refine (AL.out _ _ _ _ _ _ _ _ _ _ _ _ _ Q1.out.1 Q2.out.1 Q1.out.2 Q2.out.2).mono ?_; rintro _ w3 ⟨rfl, k3⟩; have B3 : Hid (Below w.heap.size w w3) := below2 BB.out k3 (Nat.le_refl _); clear k3)
    | (go_at_call 9; refine (num E _).mono ?_; rintro _ wz ⟨rfl, hz⟩; rw [hz]; clear hz))
  go_ret
  exact ⟨rfl, B3.out⟩
end Go.Proofs.Ytkgadgkomdjplaa.wu
