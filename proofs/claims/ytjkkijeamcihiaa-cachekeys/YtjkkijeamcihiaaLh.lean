import Derived.Test.YtjkkijeamcihiaaLd
import Derived.Maps.AppendAt
namespace Go.Proofs.Ytjkkijeamcihiaa.lh
open Go.RowKit Go.PlainAid Go.Maps
open Go.Proofs.Ytjkkijeamcihiaa.cp Go.Proofs.Ytjkkijeamcihiaa.kp Go.Proofs.Ytjkkijeamcihiaa.ka Go.Proofs.Ytjkkijeamcihiaa.bn Go.Proofs.Ytjkkijeamcihiaa.rc Go.Proofs.Ytjkkijeamcihiaa.re Go.Proofs.Ytjkkijeamcihiaa.sa Go.Proofs.Ytjkkijeamcihiaa.lz Go.Proofs.Ytjkkijeamcihiaa.lc Go.Proofs.Ytjkkijeamcihiaa.ld
open Go.Proofs.Ytjkkijeamcihiaa.rl (below_grownBy)
set_option linter.unusedVariables false
set_option linter.unusedSimpArgs false
theorem rd_at {w : World} {v : Value} {xs : List ByteArray} (h : ReadsT w v xs) : ∃ a c, v = .slice a xs.length c ∧ xs.length ≤ c ∧ ∀ j (hj : j < xs.length), ∃ b off, a = some ⟨b, off, none⟩ ∧ w.cell? ⟨b, off + j, none⟩ = some (.string xs[j]) := by
  obtain ⟨a, c, e, hc, h0 | ⟨b, off, ea, hh⟩⟩ := h
  · exact ⟨a, c, e, hc, fun j hj => by omega⟩
  · exact ⟨a, c, e, hc, fun j hj => ⟨b, off, ea, by rw [hh j hj, getD_at _ _ hj]⟩⟩
theorem holdsC (v : Value) (xs : List ByteArray) (k : ByteArray) (w : World) (r : Bool) (hr : r = true ↔ k ∈ xs) (h : ReadsT w v xs) (hl : xs.length ≤ 5000) :
    Calls Try.prog 15 #[v, .string k] w fun e w' => e = .returned (.bool r) ∧ w' = w := by
  obtain ⟨a, c, rfl, hc, hat⟩ := rd_at h
  have HA : Hid (∀ j (hj : j < xs.length), ∃ b off, a = some ⟨b, off, none⟩ ∧ w.cell? ⟨b, off + j, none⟩ = some (.string xs[j])) := hat
  obtain ⟨n, HN⟩ : ∃ n, Hid (xs.length = n) := ⟨_, rfl⟩
  have hn5 : (n : Int) ≤ 1000000 := by rw [HN.out] at hl; omega
  have HR : Hid (r = true ↔ k ∈ xs) := hr
  rw [HN.out]
  clear h hat hl hc hr
  go_enter Try.func15, Try.ntmps15
  go_wp2
  go_loopw [5] (fun iv wr => ∃ j : Nat, j ≤ n ∧ iv = .int .i64 j ∧ Hid (∀ i (hi : i < xs.length), i < j → xs[i] ≠ k) ∧ w = wr) (fun iv _ => (n - intOf iv).toNat)
  case atStart => exact ⟨0, Nat.zero_le _, rfl, fun i hi h => by omega, rfl⟩
  case round =>
    obtain ⟨j, hj, rfl, HO, rfl⟩ := hrel
    by_cases hjn : j < n
    · have hjn' : (j : Int) < n := by omega
      have hjx : j < xs.length := by rw [HN.out]; exact hjn
      obtain ⟨b, off, rfl, d⟩ := HA.out j hjx
      obtain ⟨x, hx0⟩ : ∃ x, xs[j] = x := ⟨_, rfl⟩
      have HX : Hid (xs[j] = x) := hx0
      rw [hx0] at d
      clear hx0
      by_cases hxk : x = k
      · have hx : (x.toList == k.toList) = true := by rw [beqL]; exact decide_eq_true hxk
        have HE : Hid (r = true) := by
          show _ = _
          exact HR.out.2 (by rw [← hxk, ← HX.out]; exact List.getElem_mem hjx)
        clear hxk
        go_wp2
        go_ret
        exact ⟨by rw [HE.out]; rfl, rfl⟩
      · have hx : (x.toList == k.toList) = false := by rw [beqL]; exact decide_eq_false hxk
        have HO2 : Hid (∀ i (hi : i < xs.length), i < j + 1 → xs[i] ≠ k) := fun i hi hij => by
          by_cases e : i = j
          · subst e; rw [HX.out]; exact hxk
          · exact HO.out i hi (by omega)
        clear hxk
        go_wp2
        go_roundw
        case rel => exact ⟨j + 1, by omega, by go_num, HO2.out, trivial⟩
        case measure => simp [intOf]; omega
    · have hjn' : ¬ (j : Int) < n := by omega
      have HE : Hid (r = false) := by
        show _ = _
        cases hrr : r with
        | false => rfl
        | true =>
          obtain ⟨i, hi, e⟩ := List.getElem_of_mem (HR.out.1 hrr)
          exact absurd e (HO.out i hi (by rw [HN.out] at hi; omega))
      go_wp2
      go_ret
      exact ⟨by rw [HE.out]; rfl, rfl⟩
-- the list without k, k ahead of it or not
def fl (k : ByteArray) (xs : List ByteArray) : List ByteArray := xs.filter fun x => !decide (x = k)
theorem fl_next (k : ByteArray) (xs : List ByteArray) (j : Nat) (h : j < xs.length) : fl k (xs.take (j + 1)) = if xs[j] = k then fl k (xs.take j) else fl k (xs.take j) ++ [xs[j]] := by
  unfold fl
  rw [List.take_succ_eq_append_getElem h, List.filter_append]
  by_cases e : xs[j] = k
  · rw [if_pos e]; simp [e]
  · rw [if_neg e]; simp [e]
theorem fl_len (k : ByteArray) (xs : List ByteArray) : (fl k xs).length ≤ xs.length := List.length_filter_le _ _
set_option maxHeartbeats 1600000 in
theorem usedC (v : Value) (xs : List ByteArray) (k : ByteArray) (w : World) (h : ReadsT w v xs) (hl : xs.length ≤ 5000) :
    Calls Try.prog 17 #[v, .string k] w fun e w' => ∃ u, e = .returned u ∧ w'.ownsRow w.heap.size 9 1 u (k :: fl k xs).length ((k :: fl k xs).map Value.string) ∧ Below w.heap.size w w' := by
  obtain ⟨i9, hi', hz0, hz1, hz2⟩ := info_parts hi9
  have HIN : Hid (_ ∧ _ ∧ _ ∧ _) := ⟨hi', hz0, hz1, hz2⟩
  clear hi' hz0 hz1 hz2
  have HRD : Hid (∀ w', Below w.heap.size w w' → ReadsT w' v xs) := fun w' hb => h.later hb
  obtain ⟨a, c, rfl, hc, _⟩ := rd_at h
  obtain ⟨n, HN⟩ : ∃ n, Hid (xs.length = n) := ⟨_, rfl⟩
  have HN5 : Hid (n ≤ 5000) := by rw [HN.out] at hl; exact hl
  have hn5 : (n : Int) ≤ 1000000 := by have := HN5.out; omega
  obtain ⟨W, HW⟩ : ∃ W, Hid (w.alloc (.cells #[.string k] 9) = W) := ⟨_, rfl⟩
  have O0 : Hid (W.ownsRow w.heap.size 9 1 (.slice (some ⟨w.heap.size, 0, none⟩) 1 1) 1 ([k].map Value.string) ∧ Below w.heap.size w W) := by
    constructor
    · rw [← HW.out]; exact World.ownsRow_lit w #[.string k] 1 (Nat.le_refl _) (by unfold maxLen; omega) rfl
    · rw [← HW.out]; exact (Below.refl _ _).alloc (Nat.le_refl _) _
  rw [HN.out]
  rw [HN.out] at HRD
  clear h hl hc
  go_enter Try.func17, Try.ntmps17
  go_upto_region 2 with fail
  rw [HW.out]
  go_wp2
  go_loopw [5, 6] (fun ov jv wr => ∃ j : Nat, j ≤ n ∧ jv = .int .i64 j ∧ Hid (wr.ownsRow w.heap.size 9 1 ov (k :: fl k (xs.take j)).length ((k :: fl k (xs.take j)).map Value.string) ∧ Below w.heap.size w wr)) (fun _ jv _ => (n - intOf jv).toNat)
  case atStart => exact ⟨0, Nat.zero_le _, rfl, O0.out⟩
  case round =>
    obtain ⟨j, hj, rfl, HO⟩ := hrel
    obtain ⟨oa, oc, ho⟩ := own_formS HO.out.1
    subst ho
    by_cases hjn : j < n
    · have hjn' : (j : Int) < n := by omega
      have hjx : j < xs.length := by rw [HN.out]; exact hjn
      obtain ⟨a', c', e', _, hat⟩ := rd_at (HRD.out wr HO.out.2)
      have ea := (Value.slice.inj e').1
      clear e'
      subst ea
      obtain ⟨b, off, rfl, d⟩ := hat j hjx
      have HNX := fl_next k xs j hjx
      obtain ⟨x, hx0⟩ : ∃ x, xs[j] = x := ⟨_, rfl⟩
      rw [hx0] at d HNX
      clear hx0 hat
      by_cases hxk : x = k
      · have hx : (x.toList == k.toList) = true := by rw [beqL]; exact decide_eq_true hxk
        rw [if_pos hxk] at HNX
        have HE : Hid (fl k (xs.take (j + 1)) = fl k (xs.take j)) := HNX
        clear hxk HNX
        go_wp2
        go_roundw
        case rel => exact ⟨j + 1, by omega, by go_num, by rw [HE.out]; exact HO.out⟩
        case measure => simp [intOf]; omega
      · have hx : (x.toList == k.toList) = false := by rw [beqL]; exact decide_eq_false hxk
        rw [if_neg hxk] at HNX
        have HE : Hid (fl k (xs.take (j + 1)) = fl k (xs.take j) ++ [x]) := HNX
        obtain ⟨m, HM⟩ : ∃ m, Hid ((k :: fl k (xs.take j)).length = m) := ⟨_, rfl⟩
        have hmx : Hid (m + 1 ≤ maxLen ∧ (m + 1) * 16 ≤ 140737488355328) := by
          have h1 := fl_len k (xs.take j)
          have h2 := List.length_take_le j xs
          have h3 := HM.out
          have h4 := HN5.out
          rw [List.length_cons] at h3
          exact ⟨by unfold maxLen; omega, by omega⟩
        have HOa : Hid ((wr.alloc (.cells #[.string x] 9)).ownsRow w.heap.size 9 1 (.slice oa m oc) m ((k :: fl k (xs.take j)).map Value.string)) := by have := HO.out.1.alloc (.cells #[.string x] 9); rw [HM.out] at this; exact this
        have HBa : Hid (Below w.heap.size w (wr.alloc (.cells #[.string x] 9)) ∧ w.heap.size ≤ (wr.alloc (.cells #[.string x] 9)).heap.size) := by
          have b := HO.out.2.alloc HO.out.2.size (.cells #[.string x] 9)
          exact ⟨b, b.size⟩
        rw [HM.out]
        clear hxk HNX
        go_wp2_with (first | (at_builtin; (refine wpList_append_own _ rfl _ _ 30 rfl w.heap.size 9 i9 (.string ByteArray.empty) 1 16 Try.underlying30 HIN.out.1 HIN.out.2.1 HIN.out.2.2.1 HIN.out.2.2.2 rfl (by decide) _ m _ rfl HOa.out ⟨wr.heap.size, 0, none⟩ 1 1 [.string x] rfl rfl (new_text _ _ _) (one_text _) hmx.out.1 hmx.out.2 HBa.out.2 ?_; intro k1 w3 ho hg hnn; have HO3 : Hid (World.ownsRow _ _ _ _ _ _ _) := ho; have HG3 : Hid (World.grownBy _ _ _) := hg; clear ho hg hnn)) | go_in)
        have REL : Hid (w3.ownsRow w.heap.size 9 1 k1 (k :: fl k (xs.take (j + 1))).length ((k :: fl k (xs.take (j + 1))).map Value.string) ∧ Below w.heap.size w w3) := by
          refine ⟨?_, below_grownBy HBa.out.1 HG3.out (Nat.le_refl _) (fun q hq => (HOa.out.lt q hq).1)⟩
          rw [HE.out]
          have e5 : k :: (fl k (xs.take j) ++ [x]) = (k :: fl k (xs.take j)) ++ [x] := rfl
          rw [e5, List.length_append, List.map_append, HM.out]
          exact HO3.out
        go_roundw
        case rel => exact ⟨j + 1, by omega, by go_num, REL.out⟩
        case measure => simp [intOf]; omega
    · have hjn' : ¬ (j : Int) < n := by omega
      have HJ : Hid (xs.take j = xs) := List.take_of_length_le (by rw [HN.out]; omega)
      have HO2 := HO.out
      rw [HJ.out] at HO2
      have HO3 : Hid (_ ∧ _) := HO2
      clear HO2
      rw [HJ.out]
      go_wp2
      go_ret
      exact ⟨_, rfl, HO3.out.1, HO3.out.2⟩
end Go.Proofs.Ytjkkijeamcihiaa.lh
