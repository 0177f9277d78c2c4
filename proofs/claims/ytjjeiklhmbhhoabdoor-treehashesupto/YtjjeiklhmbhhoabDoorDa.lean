import Derived.Test.YtjjeiklhmbhhoabDoorCb
import Derived.Test.YtjjeiklhmbhhoabDoorCp
namespace Go.Proofs.YtjjeiklhmbhhoabDoor.da
open Go.RowKit Go.PlainAid
open Go.Proofs.YtjjeiklhmbhhoabDoor.ca Go.Proofs.YtjjeiklhmbhhoabDoor.cb Go.Proofs.YtjjeiklhmbhhoabDoor.cp
set_option linter.unusedVariables false

-- a list of texts, wherever it lies
def ReadsT (w : World) (v : Value) (xs : List ByteArray) : Prop :=
  ∃ a cap, v = .slice a xs.length cap ∧ xs.length ≤ cap ∧ (xs.length = 0 ∨ ∃ b off, a = some ⟨b, off, none⟩ ∧ ∀ i, i < xs.length → w.cell? ⟨b, off + i, none⟩ = some (.string (xs.getD i ByteArray.empty)))
theorem ReadsT.later {w w' : World} {v : Value} {xs : List ByteArray} (h : ReadsT w v xs) (hb : Below w.heap.size w w') : ReadsT w' v xs := by
  obtain ⟨a, cap, rfl, hc, h0 | ⟨b, off, rfl, hh⟩⟩ := h
  · exact ⟨a, cap, rfl, hc, .inl h0⟩
  · refine ⟨_, cap, rfl, hc, .inr ⟨b, off, rfl, fun i hi => ?_⟩⟩
    have := hh i hi
    exact (hb.cell (p := ⟨b, off + i, none⟩) (World.block_lt_of_cell? _ _ this)).trans this
theorem ReadsT.front {w : World} {b off n cap k : Nat} {xs : List ByteArray} (h : ReadsT w (.slice (some ⟨b, off, none⟩) n cap) xs) (hk : k ≤ xs.length) : ReadsT w (.slice (some ⟨b, off, none⟩) k cap) (xs.take k) := by
  obtain ⟨a, cap', e, hc, hh⟩ := h
  injection e with e1 e2 e3
  subst e1 e3
  have hl : (xs.take k).length = k := by rw [List.length_take]; omega
  refine ⟨_, cap, by rw [hl], by omega, ?_⟩
  rcases hh with h0 | ⟨b', off', e4, hh⟩
  · left; omega
  · injection e4 with e4
    injection e4 with e5 e6
    subst e5 e6
    refine .inr ⟨b, off, rfl, fun i hi => ?_⟩
    rw [hl] at hi
    rw [hh i (by omega), List.getD_eq_getElem?_getD, List.getD_eq_getElem?_getD, List.getElem?_take, if_pos hi]
theorem ReadsT.back {w : World} {b off n cap k : Nat} {xs : List ByteArray} (h : ReadsT w (.slice (some ⟨b, off, none⟩) n cap) xs) (hk : k ≤ xs.length) : ReadsT w (.slice (some ⟨b, off + k, none⟩) (n - k) (cap - k)) (xs.drop k) := by
  obtain ⟨a, cap', e, hc, hh⟩ := h
  injection e with e1 e2 e3
  subst e1 e2 e3
  have hl : (xs.drop k).length = xs.length - k := List.length_drop
  refine ⟨_, cap - k, by rw [hl], by omega, ?_⟩
  rcases hh with h0 | ⟨b', off', e4, hh⟩
  · left; omega
  · injection e4 with e4
    injection e4 with e5 e6
    subst e5 e6
    refine .inr ⟨b, off + k, rfl, fun i hi => ?_⟩
    rw [hl] at hi
    rw [Nat.add_assoc, hh (k + i) (by omega), List.getD_eq_getElem?_getD, List.getD_eq_getElem?_getD, List.getElem?_drop]
-- what the program's hashes promise (T: what they ask of the world)
structure HashC (T : World → Prop) (E : Int → ByteArray) (N : Int → ByteArray → ByteArray → ByteArray) : Prop where
  later : ∀ {w w' : World}, T w → Below w.heap.size w w' → T w'
  empty : ∀ (wd : Int), i64 wd → ∀ w, T w → Calls Tryd.prog 11 #[.int .i64 wd] w fun e w' => e = .returned (.string (E wd)) ∧ Below w.heap.size w w'
  node : ∀ (wd : Int) (l r : ByteArray), i64 wd → l.size ≤ 140737488351232 → r.size ≤ 140737488351232 → ∀ w, T w → Calls Tryd.prog 15 #[.int .i64 wd, .string l, .string r] w fun e w' => e = .returned (.string (N wd l r)) ∧ Below w.heap.size w w'
  size : ∀ (wd : Int) (l r : ByteArray), (N wd l r).size = (E wd).size
  width : ∀ wd, 1 ≤ (E wd).size ∧ (E wd).size ≤ 32
theorem rootP_size {E : ByteArray} {N : ByteArray → ByteArray → ByteArray} (hN : ∀ l r, (N l r).size ≤ 140737488351232) (hE : E.size ≤ 140737488351232) (xs : List ByteArray) (h : ∀ x ∈ xs, x.size ≤ 140737488351232) : (rootP E N xs).size ≤ 140737488351232 := by
  rcases Nat.lt_or_ge xs.length 2 with e | e
  · rw [rootP, dif_neg (by omega)]
    cases xs with
    | nil => exact hE
    | cons x xs => exact h x (by simp)
  · rw [rootP_half E N e]
    exact hN _ _
set_option maxHeartbeats 3200000 in
set_option maxRecDepth 100000 in
theorem rooted {T : World → Prop} {E : Int → ByteArray} {N : Int → ByteArray → ByteArray → ByteArray} (HC : HashC T E N) (wd : Int) (hwd : i64 wd) (n : Nat) : ∀ (xs : List ByteArray) (v : Value) (w : World), xs.length = n → n ≤ 2000 → T w → ReadsT w v xs → (∀ x ∈ xs, x.size ≤ 140737488351232) →
    Calls Tryd.prog 9 #[.int .i64 wd, v] w fun e w' => e = .returned (.string (rootP (E wd) (N wd) xs)) ∧ Below w.heap.size w w' := by
  induction n using Nat.strongRecOn with
  | ind n ih =>
    intro xs v w hn h2 hT hR hx
    have HT : Hid (T w) := hT
    have HRD : Hid (ReadsT w v xs) := hR
    have HX : Hid (∀ x ∈ xs, x.size ≤ 140737488351232) := hx
    have HN : Hid (xs.length = n) := hn
    have IH : Hid (∀ (m : Nat), m < n → ∀ (xs : List ByteArray) (v : Value) (w : World), xs.length = m → m ≤ 2000 → T w → ReadsT w v xs → (∀ x ∈ xs, x.size ≤ 140737488351232) →
      Calls Tryd.prog 9 #[.int .i64 wd, v] w fun e w' => e = .returned (.string (rootP (E wd) (N wd) xs)) ∧ Below w.heap.size w w') := ih
    obtain ⟨a, cap, rfl, hcap, hh⟩ := hR
    rw [HN.out] at hcap hh HRD ⊢
    have HH : Hid (n = 0 ∨ ∃ b off, a = some ⟨b, off, none⟩ ∧ ∀ i, i < n → w.cell? ⟨b, off + i, none⟩ = some (.string (xs.getD i ByteArray.empty))) := hh
    obtain ⟨R, HRR⟩ : ∃ R, Hid (rootP (E wd) (N wd) xs = R) := ⟨_, rfl⟩
    rw [HRR.out]
    clear ih hn hT hx hh
    by_cases h0 : n = 0
    · have EC : Hid (∀ w, T w → Calls _ _ _ _ _) := fun w hw => HC.empty wd hwd w hw
      have q0 : ((n : Int) == 0) = true := by rw [beq_iff_eq]; omega
      have HE : Hid (R = E wd) := by
        show _ = _
        have : xs = [] := List.length_eq_zero_iff.1 (HN.out.trans h0)
        rw [← HRR.out, this, rootP_nil]
      clear h0
      go_enter Tryd.func9, Tryd.ntmps9
      go_wp2_with fail
      refine (EC.out _ HT.out).mono ?_
      rintro e w1 ⟨rfl, hb⟩
      have B1 : Hid (Below w.heap.size w w1) := hb
      clear hb
      go_wp2
      go_ret
      exact ⟨by rw [HE.out]; rfl, B1.out⟩
    · obtain ⟨b, off, rfl, hh⟩ : ∃ b off, a = some ⟨b, off, none⟩ ∧ ∀ i, i < n → w.cell? ⟨b, off + i, none⟩ = some (.string (xs.getD i ByteArray.empty)) := by
        rcases HH.out with h | h
        · exact absurd h h0
        · exact h
      have q0 : ((n : Int) == 0) = false := by rw [beq_eq_false_iff_ne]; omega
      by_cases h1 : n = 1
      · have q1 : ((n : Int) == 1) = true := by rw [beq_iff_eq]; omega
        have c0 := hh 0 (by omega)
        rw [Nat.add_zero] at c0
        have hn1 : (0 : Int) < n := by omega
        have HE : Hid (R = xs.getD 0 ByteArray.empty) := by
          show _ = _
          obtain ⟨x, hx⟩ := List.length_eq_one_iff.1 (HN.out.trans h1)
          rw [← HRR.out, hx, rootP_one]
          rfl
        clear h0 h1 hh HH
        go_enter Tryd.func9, Tryd.ntmps9
        go_wp2
        go_ret
        exact ⟨by rw [HE.out]; rfl, Below.refl _ _⟩
      · have q1 : ((n : Int) == 1) = false := by rw [beq_eq_false_iff_ne]; omega
        have h2n : 2 ≤ n := by omega
        clear h0 h1 hh HH
        go_enter Tryd.func9, Tryd.ntmps9
        go_wp2
        go_loopw [6] (fun k wr => ∃ (t j : Nat), k = .int .i64 t ∧ t < n ∧ Hid (2 ^ j = t) ∧ wr = w) (fun k _ => (n - intOf k).toNat)
        case atStart => exact ⟨1, 0, rfl, by omega, rfl, rfl⟩
        case round =>
          obtain ⟨t, j, rfl, ht, HJ, rfl⟩ := hrel
          have ht0 : 0 < t := by rw [← HJ.out]; exact p2 j
          by_cases hlt : 2 * t < n
          · have hlt' : 2 * (t : Int) < n := by omega
            have HJ2 : Hid (2 ^ (j + 1) = 2 * t) := by show _ = _; rw [p2s, HJ.out]
            go_wp2
            go_roundw
            case rel => exact ⟨2 * t, j + 1, by go_num, hlt, HJ2.out, by first | rfl | trivial⟩
            case measure => simp [intOf]; omega
          · have hlt' : ¬ 2 * (t : Int) < n := by omega
            have htx : t ≤ xs.length := by rw [HN.out]; omega
            have HE : Hid (R = N wd (rootP (E wd) (N wd) (xs.take t)) (rootP (E wd) (N wd) (xs.drop t))) := by
              show _ = _
              rw [← HRR.out, rootP_two (E wd) (N wd) (l := xs) (j := j) (by rw [HJ.out, HN.out]; exact ht) (by rw [p2s, HJ.out, HN.out]; omega), HJ.out]
            have R1 : Hid (ReadsT wr (.slice (some ⟨b, off, none⟩) t cap) (xs.take t)) := HRD.out.front htx
            have R2 : Hid (ReadsT wr (.slice (some ⟨b, off + t, none⟩) (n - t) (cap - t)) (xs.drop t)) := HRD.out.back htx
            have HX1 : Hid (∀ x ∈ xs.take t, x.size ≤ 140737488351232) := fun x hx => HX.out x (List.mem_of_mem_take hx)
            have HX2 : Hid (∀ x ∈ xs.drop t, x.size ≤ 140737488351232) := fun x hx => HX.out x (List.mem_of_mem_drop hx)
            have L1 : Hid ((xs.take t).length = t) := by show _ = _; rw [List.length_take]; omega
            have L2 : Hid ((xs.drop t).length = n - t) := by show _ = _; rw [List.length_drop, HN.out]
            obtain ⟨r1, HR1⟩ : ∃ r, Hid (rootP (E wd) (N wd) (xs.take t) = r) := ⟨_, rfl⟩
            obtain ⟨r2, HR2⟩ : ∃ r, Hid (rootP (E wd) (N wd) (xs.drop t) = r) := ⟨_, rfl⟩
            have hN : ∀ l r, (N wd l r).size ≤ 140737488351232 := fun l r => by rw [HC.size]; have := (HC.width wd).2; omega
            have hEz : (E wd).size ≤ 140737488351232 := by have := (HC.width wd).2; omega
            have Z1 : Hid (r1.size ≤ 140737488351232) := by rw [← HR1.out]; exact rootP_size hN hEz _ HX1.out
            have Z2 : Hid (r2.size ≤ 140737488351232) := by rw [← HR2.out]; exact rootP_size hN hEz _ HX2.out
            have C1 : Hid (∀ w', T w' → ReadsT w' (.slice (some ⟨b, off, none⟩) t cap) (xs.take t) → Calls _ _ _ _ _) := fun w' h h' => IH.out t ht (xs.take t) _ w' L1.out (by omega) h h' HX1.out
            have C2 : Hid (∀ w', T w' → ReadsT w' (.slice (some ⟨b, off + t, none⟩) (n - t) (cap - t)) (xs.drop t) → Calls _ _ _ _ _) := fun w' h h' => IH.out (n - t) (by omega) (xs.drop t) _ w' L2.out (by omega) h h' HX2.out
            have NC : Hid (∀ w', T w' → Calls _ _ _ _ _) := fun w' h => HC.node wd r1 r2 hwd Z1.out Z2.out w' h
            rw [HR1.out] at C1
            rw [HR2.out] at C2
            rw [HR1.out, HR2.out] at HE
            have htc : (t : Int) ≤ cap := by omega
            have htn : (t : Int) ≤ n := by omega
            have hnc : (n : Int) ≤ cap := by omega
            have ent : ((n - t : Nat) : Int) = (n : Int) - t := by omega
            clear hN hEz
            go_wp2_with fail
            refine (C1.out _ HT.out R1.out).mono ?_
            rintro e w1 ⟨rfl, hb⟩
            have B1 : Hid (Below wr.heap.size wr w1) := hb
            have T1 : Hid (T w1) := HC.later HT.out hb
            have R21 : Hid (ReadsT w1 (.slice (some ⟨b, off + t, none⟩) (n - t) (cap - t)) (xs.drop t)) := R2.out.later hb
            clear hb
            go_wp2_with fail
            refine (C2.out _ T1.out R21.out).mono ?_
            rintro e w2 ⟨rfl, hb⟩
            have B2 : Hid (Below wr.heap.size wr w2) := over B1.out hb
            have T2 : Hid (T w2) := HC.later T1.out hb
            clear hb
            go_wp2_with fail
            refine (NC.out _ T2.out).mono ?_
            rintro e w3 ⟨rfl, hb⟩
            have B3 : Hid (Below wr.heap.size wr w3) := over B2.out hb
            clear hb
            go_wp2
            go_ret
            exact ⟨by rw [HE.out]; rfl, B3.out⟩
end Go.Proofs.YtjjeiklhmbhhoabDoor.da
