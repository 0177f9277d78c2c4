import Derived.Test.YtgbachojkbfeoabDoorHf
namespace Go.Proofs.YtgbachojkbfeoabDoor.hg
open Go.RowKit Go.PlainAid
open Go.Proofs.YtgbachojkbfeoabDoor.pl Go.Proofs.YtgbachojkbfeoabDoor.pc Go.Proofs.YtgbachojkbfeoabDoor.pd Go.Proofs.YtgbachojkbfeoabDoor.ph Go.Proofs.YtgbachojkbfeoabDoor.pi Go.Proofs.YtgbachojkbfeoabDoor.ft Go.Proofs.YtgbachojkbfeoabDoor.pj Go.Proofs.YtgbachojkbfeoabDoor.pn Go.Proofs.YtgbachojkbfeoabDoor.re Go.Proofs.YtgbachojkbfeoabDoor.rf Go.Proofs.YtgbachojkbfeoabDoor.ha Go.Proofs.YtgbachojkbfeoabDoor.hb Go.Proofs.YtgbachojkbfeoabDoor.hc Go.Proofs.YtgbachojkbfeoabDoor.hd Go.Proofs.YtgbachojkbfeoabDoor.he Go.Proofs.YtgbachojkbfeoabDoor.hf
set_option linter.unusedVariables false

def tot (ss : Nat → ByteArray) : Nat → Nat
  | 0 => 0
  | k + 1 => tot ss k + (ss k).size
theorem tot_mono (ss : Nat → ByteArray) {j k : Nat} (h : j ≤ k) : tot ss j ≤ tot ss k := by
  induction k with
  | zero => have : j = 0 := by omega
            subst this; exact Nat.le_refl _
  | succ k ih =>
    rcases Nat.lt_or_ge j (k + 1) with h1 | h1
    · have := ih (by omega); rw [tot]; omega
    · have : j = k + 1 := by omega
      subst this; exact Nat.le_refl _

theorem Bn_cells {w0 : World} {bb : Nat} {S : List Pr} {M n gp cp gr cr : Nat} {w : World} (h : Bn w0 bb S M (.slice (some ⟨gp, 0, none⟩) n cp) (.slice (some ⟨gr, 0, none⟩) n cr) w) (i : Nat) (x : Pr) (hx : S[i]? = some x) :
    w.cell? ⟨bb, 0, none⟩ = some (.slice (some ⟨gp, 0, none⟩) n cp) ∧ w.cell? ⟨bb, 1, none⟩ = some (.slice (some ⟨gr, 0, none⟩) n cr) ∧ w.cell? ⟨gp, i, none⟩ = some (.pointer (some ⟨x.p, 0, none⟩)) ∧ w.cell? ⟨gr, i, none⟩ = some (.pointer (some ⟨x.r, 0, none⟩)) := by
  obtain ⟨gp', cp', gr', cr', e1, e2, hc⟩ := h.rows
  injection e1 with e1 _ _
  injection e1 with e1
  injection e1 with e1
  injection e2 with e2 _ _
  injection e2 with e2
  injection e2 with e2
  subst e1 e2
  exact ⟨(cell_of_row _ _ _ _ _ _ h.hb).trans rfl, (cell_of_row _ _ _ _ _ _ h.hb).trans rfl, (hc i x hx).1, (hc i x hx).2⟩

set_option maxHeartbeats 1600000 in
theorem hist (ao : Option Addr) (len cap : Nat) (ks os : Nat → Int) (ts : Nat → ByteArray) (w : World) (hlen : len ≤ 1048576)
    (HC : Hid (∀ k, k < len → ∃ b off, ao = some ⟨b, off, none⟩ ∧ w.cell? ⟨b, off + k * 3, none⟩ = some (.int .i64 (ks k)) ∧ w.cell? ⟨b, off + k * 3 + 1, none⟩ = some (.int .i64 (os k)) ∧ w.cell? ⟨b, off + k * 3 + 2, none⟩ = some (.string (ts k))))
    (HO : Hid (∀ k, k < len → -9223372036854775808 ≤ os k ∧ os k ≤ 9223372036854775807)) (HT : Hid (tot ts len ≤ 1048576)) (tabs : St8 w 0 ∧ K64 w 2 ∧ St8 w 1 ∧ K64 w 3) :
    Calls Tryd.prog 3 #[.slice ao len cap] w fun e w' => e = .returned (.bool true) ∧ Below w.heap.size w w' := by
  have T : Hid (Tab4 w) := Tab4.of tabs
  clear tabs
  go_enter Tryd.func3, Tryd.ntmps3
  go_wp2_with fail
  refine (Go.Proofs.YtgbachojkbfeoabDoor.hf.begun w T).mono ?_
  rintro e w1 ⟨rfl, x, pv, rv, hbn⟩
  have BN1 : Hid (Bn w w.heap.size [x] 0 pv rv w1) := hbn
  clear hbn
  go_wp2_with fail
  go_loopw [4, 5] (fun ok i wr => ∃ (k : Nat) (S : List Pr) (pv rv : Value), k ≤ len ∧ ok = .bool true ∧ i = .int .i64 k ∧ Hid (Bn w w.heap.size S (tot ts k) pv rv wr)) (fun _ i _ => (len - intOf i).toNat)
  case atStart => exact ⟨0, [x], pv, rv, by omega, rfl, rfl, BN1⟩
  case round =>
    clear BN1
    obtain ⟨k, S, pv, rv, hk, rfl, rfl, BN⟩ := hrel
    by_cases hlt : k < len
    · have hlt' : (k : Int) < len := by omega
      have hk0 : (0 : Int) ≤ (k : Int) := by omega
      obtain ⟨b, off, rfl, c0, c1, c2⟩ := HC.out k hlt
      have hbw : b < w.heap.size := World.block_lt_of_cell? w _ c0
      have e0 : wr.cell? ⟨b, off + k * 3, none⟩ = some (.int .i64 (ks k)) := (BN.out.bel.cell (show b < w.heap.size from hbw)).trans c0
      have e1 : wr.cell? ⟨b, off + k * 3 + 1, none⟩ = some (.int .i64 (os k)) := (BN.out.bel.cell (show b < w.heap.size from hbw)).trans c1
      have e2 : wr.cell? ⟨b, off + k * 3 + 2, none⟩ = some (.string (ts k)) := (BN.out.bel.cell (show b < w.heap.size from hbw)).trans c2
      clear c0 c1 c2
      obtain ⟨o1, o2⟩ := HO.out k hlt
      have HE : Hid (tot ts (k + 1) = tot ts k + (ts k).size) := rfl
      have HM : Hid (tot ts k + (ts k).size ≤ 1048576) := by show _ ≤ _; have h1 := tot_mono ts (show k + 1 ≤ len by omega); have h2 := HT.out; rw [tot] at h1; omega
      go_wp2_with fail
      refine (Go.Proofs.YtgbachojkbfeoabDoor.hf.does w w.heap.size S (tot ts k) pv rv _ (ks k) (os k) (ts k) o1 o2 HM.out BN).mono ?_
      rintro e w2 ⟨rfl, S', pv', rv', hbn⟩
      have BN2 : Hid (Bn _ _ _ _ _ _ _) := hbn
      clear hbn e0 e1 e2
      go_wp2
      go_roundw
      case rel => exact ⟨k + 1, S', pv', rv', by omega, rfl, by go_num, by rw [HE.out]; exact BN2⟩
      case measure => simp [intOf]; omega
    · have hlt' : ¬ (k : Int) < len := by omega
      have hd : decide ((k : Int) < len) = false := decide_eq_false hlt'
      have MK : Hid (tot ts k ≤ 1048576) := by show _ ≤ _; have := tot_mono ts hk; have := HT.out; omega
      obtain ⟨M, HMM⟩ : ∃ M, Hid (M = tot ts k) := ⟨_, rfl⟩
      rw [← HMM.out] at BN MK
      obtain ⟨gp, cp, gr, cr, rfl, rfl, _⟩ := BN.out.rows
      obtain ⟨n, HNn⟩ : ∃ n, Hid (n = S.length) := ⟨_, rfl⟩
      rw [← HNn.out] at BN
      have hn1 : 1 ≤ n := by have := HNn.out; have := BN.out.n1; omega
      have hn50 : n ≤ 50 := by have := HNn.out; have := BN.out.n50; omega
      go_wp2_with fail
      go_loopw [6] (fun i wq => ∃ j : Nat, j ≤ n ∧ i = .int .i64 j ∧ Hid (Bn w w.heap.size S M (.slice (some ⟨gp, 0, none⟩) n cp) (.slice (some ⟨gr, 0, none⟩) n cr) wq)) (fun i _ => (n - intOf i).toNat)
      case atStart => exact ⟨0, by omega, rfl, BN⟩
      case round =>
        clear BN
        obtain ⟨j, hj, rfl, BN⟩ := hrel
        by_cases hjn : j < n
        · have hjn' : (j : Int) < n := by omega
          have hj0 : (0 : Int) ≤ (j : Int) := by omega
          obtain ⟨y, HY⟩ : ∃ y, Hid (S[j]? = some y) := ⟨S[j]'(by have := HNn.out; omega), List.getElem?_eq_getElem _⟩
          obtain ⟨c0, c1, c2, c3⟩ := Bn_cells BN.out j y HY.out
          have zy : y.t.size ≤ 1048576 := Nat.le_trans (BN.out.sz j y HY.out) MK.out
          have HA0 : Hid (HA wr.drew y.p y.t) := (BN.out.ha j y HY.out).1.keep rfl
          have T0 : Hid (Tab wr.drew) := BN.out.t4.t.down ((Below.refl _ _).drew)
          go_wp2_with fail
          go_region_held3 (fun w' => w'.cell? ⟨w.heap.size, 0, none⟩ = some (.slice (some ⟨gp, 0, none⟩) n cp) ∧ w'.cell? ⟨w.heap.size, 1, none⟩ = some (.slice (some ⟨gr, 0, none⟩) n cr) ∧ w'.cell? ⟨gp, j, none⟩ = some (.pointer (some ⟨y.p, 0, none⟩)) ∧ w'.cell? ⟨gr, j, none⟩ = some (.pointer (some ⟨y.r, 0, none⟩))) (first | exact ⟨c0, c1, c2, c3⟩ | exact Q3 | exact Q2) ((first | (go_at_call 6; refine (HSum y.p y.t wr.drew (by omega) HA0.out T0.out).mono ?_; rintro e w2 ⟨rfl, hb⟩; have BN2 : Hid (Bn w w.heap.size S M (.slice (some ⟨gp, 0, none⟩) n cp) (.slice (some ⟨gr, 0, none⟩) n cr) w2) := BN.out.same (((Below.refl _ _).drew).trans hb); have Q2 := Bn_cells BN2.out j y HY.out; have RA2 : Hid (RA w2 y.r y.t) := (BN2.out.ra j y HY.out).1; have T2 : Hid (Tab4 w2) := BN2.out.t4; clear hb) | (go_at_call 7; refine (rHSum y.r y.t w2 (by omega) RA2 T2).mono ?_; rintro e w3 ⟨rfl, hb⟩; have BN3 : Hid (Bn w w.heap.size S M (.slice (some ⟨gp, 0, none⟩) n cp) (.slice (some ⟨gr, 0, none⟩) n cr) w3) := BN2.out.same hb; have Q3 := Bn_cells BN3.out j y HY.out; have HA3 : Hid (HA w3 y.p y.t) := (BN3.out.ha j y HY.out).1; have RA3 : Hid (RA w3 y.r y.t) := (BN3.out.ra j y HY.out).1; clear hb) | (go_at_call 8; refine (Len y.p y.t w3 HA3.out).mono ?_; rintro e wl ⟨rfl, hq⟩; rw [hq]; clear hq) | (go_at_call 9; refine (rLen y.r y.t w3 (by omega) RA3).mono ?_; rintro e wl ⟨rfl, hq⟩; rw [hq]; clear hq)))
          clear c0 c1 c2 c3 Q2 Q3
          go_wp2
          go_roundw
          case rel => exact ⟨j + 1, by omega, by go_num, BN3⟩
          case measure => simp [intOf]; omega
        · have hjn' : ¬ (j : Int) < n := by omega
          have hdn : decide ((j : Int) < n) = false := decide_eq_false hjn'
          have c0 : wr.cell? ⟨w.heap.size, 0, none⟩ = some (.slice (some ⟨gp, 0, none⟩) n cp) := (cell_of_row _ _ _ _ _ _ BN.out.hb).trans rfl
          have BB : Hid (Below w.heap.size w wr) := BN.out.bel
          go_wp2
          go_ret
          exact ⟨rfl, BB.out⟩
end Go.Proofs.YtgbachojkbfeoabDoor.hg
