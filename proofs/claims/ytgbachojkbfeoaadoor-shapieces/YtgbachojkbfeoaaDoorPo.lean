import Derived.Test.YtgbachojkbfeoaaDoorPn
namespace Go.Proofs.YtgbachojkbfeoaaDoor.po
open Go.RowKit Go.PlainAid
open Go.Proofs.YtgbachojkbfeoaaDoor.pl Go.Proofs.YtgbachojkbfeoaaDoor.pc Go.Proofs.YtgbachojkbfeoaaDoor.ph Go.Proofs.YtgbachojkbfeoaaDoor.pi Go.Proofs.YtgbachojkbfeoaaDoor.ft Go.Proofs.YtgbachojkbfeoaaDoor.pj Go.Proofs.YtgbachojkbfeoaaDoor.pn
set_option linter.unusedVariables false

def tot (ss : Nat → ByteArray) : Nat → Nat
  | 0 => 0
  | k + 1 => tot ss k + (ss k).size
def cat (ss : Nat → ByteArray) : Nat → ByteArray
  | 0 => ByteArray.empty
  | k + 1 => cat ss k ++ ss k
theorem cat_size (ss : Nat → ByteArray) (k : Nat) : (cat ss k).size = tot ss k := by
  induction k with
  | zero => rfl
  | succ k ih => rw [cat, ByteArray.size_append, ih, tot]
theorem tot_mono (ss : Nat → ByteArray) {j k : Nat} (h : j ≤ k) : tot ss j ≤ tot ss k := by
  induction k with
  | zero => have : j = 0 := by omega
            subst this; exact Nat.le_refl _
  | succ k ih =>
    rcases Nat.lt_or_ge j (k + 1) with h1 | h1
    · have := ih (by omega); rw [tot]; omega
    · have : j = k + 1 := by omega
      subst this; exact Nat.le_refl _

set_option maxHeartbeats 800000 in
theorem pieces_zero (ao : Option Addr) (cap : Nat) (w : World) (tabs : St8 w 0 ∧ K64 w 2) :
    Calls Tryd.prog 3 #[.slice ao 0 cap] w fun e w' => e = .returned (.bool true) ∧ Below w.heap.size w w' := by
  have T : Hid (Tab w) := Tab.of tabs
  clear tabs
  have CS : Hid (∀ (W : World) (h : Nat), HA W h ⟨#[]⟩ → Tab W → Calls Tryd.prog 10 #[.pointer (some ⟨h, 0, none⟩)] W fun e w' => e = .returned (.string (sha ⟨#[]⟩)) ∧ Below W.heap.size W w') := fun W h a t => HSum h ⟨#[]⟩ W (by show (0 : Nat) ≤ _; omega) a t
  have CM : Hid (∀ W : World, Tab W → Calls Tryd.prog 13 #[.string ⟨#[]⟩] W fun e w' => e = .returned (.string (sha ⟨#[]⟩)) ∧ Below W.heap.size W w') := fun W t => Sum ⟨#[]⟩ W (by show (0 : Nat) ≤ _; omega) t
  have hz := sha_size ⟨#[]⟩
  generalize sha ⟨#[]⟩ = x at *
  go_enter Tryd.func3, Tryd.ntmps3
  go_wp2_with fail
  refine (New _ T.out).mono ?_
  rintro e w1 ⟨rfl, hb, hh⟩
  have B1 : Hid (Below w.heap.size w w1) := hb; have H1 : Hid (HA w1 w.heap.size ⟨#[]⟩) := hh; clear hb hh
  go_wp2_with fail
  go_loop [5] (fun i => i = .int .i64 0) (fun _ => 0)
  case atStart => exact rfl
  case round =>
    subst hrel
    go_wp2_with fail
    go_loop [6, 7] (fun al i => al = .string ⟨#[]⟩ ∧ i = .int .i64 0) (fun _ _ => 0)
    case atStart => exact ⟨rfl, rfl⟩
    case round =>
      obtain ⟨rfl, rfl⟩ := hrel
      go_wp2_with fail
      refine (CS.out _ _ H1.out (T.out.down B1.out)).mono ?_
      rintro e w2 ⟨rfl, hb⟩
      have B2 : Hid (Below w.heap.size w w2) := B1.out.trans (hb.mono (Nat.le_of_lt H1.out.lt)); have H2 : Hid (HA w2 w.heap.size ⟨#[]⟩) := H1.out.below hb H1.out.lt; clear hb
      go_wp2_with fail
      refine (CS.out _ _ H2.out (T.out.down B2.out)).mono ?_
      rintro e w3 ⟨rfl, hb⟩
      have B3 : Hid (Below w.heap.size w w3) := B2.out.trans (hb.mono (Nat.le_of_lt H2.out.lt)); clear hb
      go_wp2_with fail
      refine (CM.out _ (T.out.down B3.out)).mono ?_
      rintro e w4 ⟨rfl, hb⟩
      have B4 : Hid (Below w.heap.size w w4) := B3.out.trans (hb.mono B3.out.size); clear hb
      go_wp2
      go_ret
      exact ⟨rfl, B4.out⟩

set_option maxHeartbeats 1600000 in
theorem pieces_some (b off len cap : Nat) (ss : Nat → ByteArray) (w : World) (hl : len ≤ 140737488355328) (HC : Hid (∀ i, i < len → w.cell? ⟨b, off + i, none⟩ = some (.string (ss i)))) (HZ : Hid (∀ i, i < len → (ss i).size ≤ 140737488351232)) (h0 : 0 < len) (tabs : St8 w 0 ∧ K64 w 2) :
    Calls Tryd.prog 3 #[.slice (some ⟨b, off, none⟩) len cap] w fun e w' => e = .returned (.bool true) ∧ Below w.heap.size w w' := by
  have T : Hid (Tab w) := Tab.of tabs
  have hbw : b < w.heap.size := World.block_lt_of_cell? w _ (HC.out 0 h0)
  clear tabs
  go_enter Tryd.func3, Tryd.ntmps3
  go_wp2_with fail
  refine (New _ T.out).mono ?_
  rintro e w1 ⟨rfl, hb, hh⟩
  have B1 : Hid (Below w.heap.size w w1) := hb; have H1 : Hid (HA w1 w.heap.size ByteArray.empty) := hh; clear hb hh
  go_wp2_with fail
  go_loop [4, 5] (fun s i => ∃ (k n : Nat), k ≤ len ∧ i = .int .i64 k ∧ s = .int .i64 n ∧ Hid (n = tot ss k) ∧ n ≤ 1048576) (fun _ i => (len - intOf i).toNat)
  case atStart => exact ⟨0, 0, by omega, rfl, rfl, rfl, by omega⟩
  case round =>
    obtain ⟨k, n, hk, rfl, rfl, HN, hn⟩ := hrel
    by_cases hlt : k < len
    · have hlt' : (k : Int) < len := by omega
      have hk0 : (0 : Int) ≤ (k : Int) := by omega
      have c : w1.cell? ⟨b, off + k, none⟩ = some (.string (ss k)) := (B1.out.cell (show b < w.heap.size from hbw)).trans (HC.out k hlt)
      have z := HZ.out k hlt
      have HT : Hid (tot ss (k + 1) = tot ss k + (ss k).size) := rfl
      revert HT c z
      generalize ss k = q
      intro c z HT
      by_cases hbig : 1048576 < n + q.size
      · have d1 : (1048576 : Int) < (n : Int) + (q.size : Int) := by omega
        have hz := sha_size ByteArray.empty
        go_wp2_with fail
        refine (HSum w.heap.size ByteArray.empty _ (by show (0 : Nat) ≤ _; omega) H1.out (T.out.down B1.out)).mono ?_
        rintro e w2 ⟨rfl, hb⟩
        have B2 : Hid (Below w.heap.size w w2) := B1.out.trans (hb.mono (Nat.le_of_lt H1.out.lt)); clear hb
        go_wp2
        go_ret
        exact ⟨rfl, B2.out⟩
      · have d1 : ¬ (1048576 : Int) < (n : Int) + (q.size : Int) := by omega
        have HD : Hid _ := hbig
        clear hbig
        go_wp2
        go_round
        case rel => exact ⟨k + 1, n + q.size, by omega, by go_num, by go_num, (show _ = _ by rw [HT.out, HN.out]), by omega⟩
        case measure => simp [intOf]; omega
    · have hlt' : ¬ (k : Int) < len := by omega
      have e : k = len := by omega
      subst e
      have HTOT : Hid (tot ss k ≤ 1048576) := by have := HN.out; show _ ≤ _; omega
      have hlt2 : decide ((k : Int) < k) = false := by simp
      clear hlt hlt'
      go_wp2_with fail
      go_loopw [6, 7] (fun al i wr => ∃ j : Nat, j ≤ k ∧ i = .int .i64 j ∧ al = .string (cat ss j) ∧ Hid (HA wr w.heap.size (cat ss j)) ∧ Hid (Below w.heap.size w wr)) (fun _ i _ => (k - intOf i).toNat)
      case atStart => exact ⟨0, by omega, rfl, rfl, H1, B1⟩
      case round =>
        obtain ⟨j, hj, rfl, rfl, HH, BB⟩ := hrel
        have zj : (cat ss j).size ≤ 1048576 := by rw [cat_size]; have := tot_mono ss hj; have := HTOT.out; omega
        have hs0 : w.heap.size ≤ wr.heap.size := Nat.le_of_lt HH.out.lt
        by_cases hlt : j < k
        · have hlt' : (j : Int) < k := by omega
          have hj0 : (0 : Int) ≤ (j : Int) := by omega
          have c : wr.cell? ⟨b, off + j, none⟩ = some (.string (ss j)) := (BB.out.cell (show b < w.heap.size from hbw)).trans (HC.out j hlt)
          have zq : (ss j).size ≤ 1048576 := by
            have h1 := tot_mono ss (show j + 1 ≤ k by omega)
            have h2 := HTOT.out
            rw [tot] at h1; omega
          have zn : (cat ss j ++ ss j).size ≤ 1048576 := by
            have h1 := tot_mono ss (show j + 1 ≤ k by omega)
            have h2 := HTOT.out
            have h3 := cat_size ss (j + 1)
            rw [cat] at h3; omega
          have HE : Hid (cat ss (j + 1) = cat ss j ++ ss j) := rfl
          revert HE c zq zn HH zj
          generalize cat ss j = al
          generalize ss j = q
          intro HH zj c zq zn HE
          obtain ⟨al2, e1⟩ : ∃ al2, al ++ q = al2 := ⟨_, rfl⟩
          rw [e1] at zn HE
          have c2 : ∀ W, Below w.heap.size w W → W.cell? ⟨b, off + j, none⟩ = some (.string q) := fun W hb => (hb.cell (show b < w.heap.size from hbw)).trans ((BB.out.cell (show b < w.heap.size from hbw)).symm.trans c)
          have C2 : Hid _ := c2
          clear c2
          go_wp2_with fail
          refine (Write w.heap.size al q _ (by omega) (by omega) HH.out (T.out.down BB.out)).mono ?_
          rintro e w2 ⟨rfl, hb, hh⟩
          rw [e1] at hh
          have B2 : Hid (Below w.heap.size w w2) := BB.out.trans (hb.below (Nat.le_refl _) hs0); have H2 : Hid (HA w2 w.heap.size al2) := hh; clear hb hh c
          have c := C2.out w2 B2.out
          go_wp2_with fail
          refine (Len w.heap.size al2 _ H2.out).mono ?_
          rintro e wx ⟨rfl, rfl⟩
          go_wp2_with fail
          refine (HSum w.heap.size al2 _ (by omega) H2.out (T.out.down B2.out)).mono ?_
          rintro e w3 ⟨rfl, hb⟩
          have B3 : Hid (Below w.heap.size w w3) := B2.out.trans (hb.mono (Nat.le_of_lt H2.out.lt)); have H3 : Hid (HA w3 w.heap.size al2) := H2.out.below hb H2.out.lt; clear hb c
          go_wp2_with fail
          refine (Sum al2 _ (by omega) (T.out.down B3.out)).mono ?_
          rintro e w4 ⟨rfl, hb⟩
          have B4 : Hid (Below w.heap.size w w4) := B3.out.trans (hb.mono (Nat.le_of_lt H3.out.lt)); have H4 : Hid (HA w4 w.heap.size al2) := H3.out.below hb H3.out.lt; clear hb
          go_wp2
          go_roundw
          case rel => exact ⟨j + 1, by omega, by go_num, by rw [HE.out], by rw [HE.out]; exact H4, B4⟩
          case measure => simp [intOf]; omega
        · have hlt' : ¬ (j : Int) < k := by omega
          have hd : decide ((j : Int) < k) = false := decide_eq_false hlt'
          revert HH zj
          generalize cat ss j = al
          intro HH zj
          go_wp2_with fail
          refine (HSum w.heap.size al _ (by omega) HH.out (T.out.down BB.out)).mono ?_
          rintro e w2 ⟨rfl, hb⟩
          have B2 : Hid (Below w.heap.size w w2) := BB.out.trans (hb.mono hs0); have H2 : Hid (HA w2 w.heap.size al) := HH.out.below hb HH.out.lt; clear hb
          go_wp2_with fail
          refine (HSum w.heap.size al _ (by omega) H2.out (T.out.down B2.out)).mono ?_
          rintro e w3 ⟨rfl, hb⟩
          have B3 : Hid (Below w.heap.size w w3) := B2.out.trans (hb.mono (Nat.le_of_lt H2.out.lt)); clear hb
          go_wp2_with fail
          refine (Sum al _ (by omega) (T.out.down B3.out)).mono ?_
          rintro e w4 ⟨rfl, hb⟩
          have B4 : Hid (Below w.heap.size w w4) := B3.out.trans (hb.mono B3.out.size); clear hb
          have hz := sha_size al
          generalize sha al = x at *
          go_wp2
          go_ret
          exact ⟨rfl, B4.out⟩
end Go.Proofs.YtgbachojkbfeoaaDoor.po
