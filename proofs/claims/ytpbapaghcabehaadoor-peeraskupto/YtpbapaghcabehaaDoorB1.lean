import Derived.Test.YtpbapaghcabehaaDoorA2
import Derived.Test.YtpbapaghcabehaaDoorSb
import Derived.Test.YtpbapaghcabehaaDoorKp
import Derived.Test.YtpbapaghcabehaaDoorVc
import Derived.Shelf.Strings.Builder2
namespace Go.Proofs.YtpbapaghcabehaaDoor.b1
open Go.RowKit Go.PlainAid Go.Shelf
open Go.Proofs.YtpbapaghcabehaaDoor.tb Go.Proofs.YtpbapaghcabehaaDoor.tc Go.Proofs.YtpbapaghcabehaaDoor.tj Go.Proofs.YtpbapaghcabehaaDoor.vb Go.Proofs.YtpbapaghcabehaaDoor.vc Go.Proofs.YtpbapaghcabehaaDoor.wa Go.Proofs.YtpbapaghcabehaaDoor.wb Go.Proofs.YtpbapaghcabehaaDoor.sb Go.Proofs.YtpbapaghcabehaaDoor.kp Go.Proofs.YtpbapaghcabehaaDoor.a1 Go.Proofs.YtpbapaghcabehaaDoor.a2
set_option linter.unusedVariables false

theorem own_kp {A : Nat → Prop} {w w' : World} {B t z n : Nat} {v : Value} {xs : List Value} (o : w.ownsRow B t z v n xs) (k : Kp A w w') (hn : ∀ j, some j = v.ownBlock → ¬ A j) : w'.ownsRow B t z v n xs := by
  refine ⟨o.1, ?_⟩
  rcases o.2 with h2 | ⟨g', cap, cur', rfl, h2, h3, h4⟩
  · exact .inl h2
  · exact .inr ⟨g', cap, cur', rfl, h2, (k.block g' (Array.getElem?_eq_some_iff.1 h3).1 (hn g' rfl)).trans h3, h4⟩
-- a builder that holds a text
def Bb (B b : Nat) (s : ByteArray) (w : World) : Prop := Lib.IsBuilder 41 5 B b (Lib.byteCells s.data.toList) w
theorem bat_below {T e : TypeId} {B b : Nat} {p : Value} {bs : List Value} {W W' : World} (h : Lib.BuilderAt T e B b p bs W) (hb : Below W.heap.size W W') : Lib.BuilderAt T e B b p bs W' := by
  obtain ⟨hB, v, hv, hown, hne⟩ := h
  exact ⟨hB, v, (hb.block b (Array.getElem?_eq_some_iff.1 hv).1).trans hv, own_kp hown (Kp.of_below (A := fun _ => False) hb) (fun _ _ e => e), hne⟩
theorem Bb.below {B b : Nat} {s : ByteArray} {W W' : World} (h : Bb B b s W) (hb : Below W.heap.size W W') : Bb B b s W' := h.elim (fun x => .inl (bat_below x hb)) (fun x => .inr (bat_below x hb))
theorem Bb.fresh (w : World) : Bb w.heap.size w.heap.size ByteArray.empty (w.alloc (.cells #[.pointer none, .slice none 0 0] 41)) := Lib.fresh_isBuilder 41 5 w
theorem data_len (s : ByteArray) : s.data.toList.length = s.size := Array.length_toList
theorem data_two (a b : ByteArray) : (a ++ b).data.toList = a.data.toList ++ b.data.toList := by rw [ByteArray.data_append, Array.toList_append]
theorem wsC (B b : Nat) (s t : ByteArray) (w : World) (h : Bb B b s w) (hlen : s.size + t.size ≤ 140737488355328) (hB : B ≤ w.heap.size) :
    Calls Tryd.prog 12 #[.pointer (some ⟨b, 0, none⟩), .string t] w fun e w' => e = .returned (.tuple #[.int .i64 t.size, .nilIface]) ∧ Bb B b (s ++ t) w' ∧ Below B w w' := by
  refine (Any.Builder_WriteString lays166 extra B b (Lib.byteCells s.data.toList) t w h (by rw [Lib.byteCells_length, data_len]; exact hlen) hB).mono ?_
  rintro e w' ⟨rfl, h1, h2⟩
  refine ⟨rfl, ?_, h2⟩
  unfold Bb
  rw [data_two, Lib.byteCells_append]
  exact .inr h1
theorem sC (B b : Nat) (s : ByteArray) (w : World) (h : Bb B b s w) (hB : B ≤ w.heap.size) :
    Calls Tryd.prog 15 #[.pointer (some ⟨b, 0, none⟩)] w fun e w' => e = .returned (.string s) ∧ Below B w w' := by
  refine (Any.Builder_String_any lays169 extra B b s.data.toList w h hB).mono ?_
  rintro e w' ⟨rfl, h2⟩
  exact ⟨rfl, h2⟩
-- a list that is read, by its cells
theorem rd_at {w : World} {a : Option Addr} {n c : Nat} {l : List ByteArray} (h : Reads w (.slice a n c) l) (i : Nat) (hi : i < l.length) : ∃ b off, a = some ⟨b, off, none⟩ ∧ b < w.heap.size ∧ w.cell? ⟨b, off + i, none⟩ = some (.string (l[i]'hi)) := by
  obtain ⟨a', cap, e, h0⟩ := h
  injection e with e1 e2 e3
  rcases h0 with h0 | ⟨b, off, e4, hc⟩
  · omega
  · have h2 := hc i hi
    refine ⟨b, off, by rw [e1, e4], World.block_lt_of_cell? _ _ h2, ?_⟩
    rw [h2, List.getD_eq_getElem?_getD, List.getElem?_eq_getElem hi]
    rfl
theorem box3 (w w' : World) (a b c : Value) (t : TypeId) (h : Below (w.heap.size + 1) (w.alloc (.cells #[a, b, c] t)) w') : w'.cell? ⟨w.heap.size, 0, none⟩ = some a ∧ w'.cell? ⟨w.heap.size, 1, none⟩ = some b ∧ w'.cell? ⟨w.heap.size, 2, none⟩ = some c := by
  have hb : w'.heap[w.heap.size]? = some (.cells #[a, b, c] t) := (h.block _ (Nat.lt_succ_self _)).trans (heap_alloc_new w _)
  exact ⟨by rw [cell_of_row _ _ 0 _ _ _ hb]; rfl, by rw [cell_of_row _ _ 1 _ _ _ hb]; rfl, by rw [cell_of_row _ _ 2 _ _ _ hb]; rfl⟩

-- why a request cannot be written
set_option maxHeartbeats 3200000 in
theorem writableC (old : Int) (pf : List ByteArray) (note : ByteArray) (a : Option Addr) (c : Nat) (w : World) (hI : I64 old) (hr : Reads w (.slice a pf.length c) pf) (hz : pf.length ≤ 1000000000) :
    Calls Tryd.prog 11 #[.agg #[.int .i64 old, .slice a pf.length c, .string note]] w fun e w' => e = .returned (.int .i64 (rqE old pf)) ∧ Below w.heap.size w w' := by
  have HA : Hid (∀ k (h : k < pf.length), _) := fun k h => rd_at hr k h
  obtain ⟨n, HN⟩ : ∃ n, Hid (pf.length = n) := ⟨_, rfl⟩
  have hzn : n ≤ 1000000000 := by rw [← HN.out]; exact hz
  obtain ⟨E, HE⟩ : ∃ E, Hid (rqE old pf = E) := ⟨_, rfl⟩
  rw [HE.out]
  have HU := HE.out
  unfold rqE at HU
  rw [HN.out] at HU ⊢
  clear hr hz
  obtain ⟨W, HW⟩ : ∃ W, Hid (w.alloc (.cells #[.int .i64 old, .slice a n c, .string note] 24) = W) := ⟨_, rfl⟩
  have BW : Hid (Below w.heap.size w W) := by rw [← HW.out]; exact (Below.refl _ _).alloc (Nat.le_refl _) _
  have SX : Hid (∀ w', Below (w.heap.size + 1) W w' → w'.cell? ⟨w.heap.size, 0, none⟩ = some (.int .i64 old) ∧ w'.cell? ⟨w.heap.size, 1, none⟩ = some (.slice a n c) ∧ w'.cell? ⟨w.heap.size, 2, none⟩ = some (.string note)) := by
    rw [← HW.out]; exact fun w' h => box3 w w' _ _ _ _ h
  obtain ⟨p0, p1, p2⟩ := SX.out W (Below.refl _ _)
  by_cases h1 : old < 0 ∨ 4611686018427387904 < old
  · rw [if_pos h1] at HU
    have HEE : Hid (E = 10) := HU.symm
    have hcs : old < 0 ∨ (¬ old < 0 ∧ old > 4611686018427387904) := by omega
    clear HU h1
    rcases hcs with h1 | ⟨h1, h2⟩
    all_goals
      go_enter Tryd.func11, Tryd.ntmps11
      go_wp2_with fail
      rw [HW.out]
      go_wp2
      go_ret
      exact ⟨by rw [HEE.out]; rfl, BW.out⟩
  · rw [if_neg h1] at HU
    have g1 : ¬ old < 0 := by omega
    have g2 : ¬ old > 4611686018427387904 := by omega
    clear h1
    by_cases h2 : 63 < n
    · rw [if_pos h2] at HU
      have HEE : Hid (E = 83) := HU.symm
      have g3 : (n : Int) > 63 := by omega
      clear HU h2
      go_enter Tryd.func11, Tryd.ntmps11
      go_wp2_with fail
      rw [HW.out]
      go_wp2
      go_ret
      exact ⟨by rw [HEE.out]; rfl, BW.out⟩
    · rw [if_neg h2] at HU
      have g3 : ¬ (n : Int) > 63 := by omega
      have H0 : Hid (pf.any badH = true → E = 72) := fun h => by rw [if_pos h] at HU; exact HU.symm
      have H1 : Hid (pf.any badH = false → E = 0) := fun h => by rw [if_neg (by rw [h]; decide)] at HU; exact HU.symm
      clear HU h2
      go_enter Tryd.func11, Tryd.ntmps11
      go_wp2_with fail
      rw [HW.out]
      go_wp2
      go_loopw [20] (fun i wr => ∃ k : Nat, k ≤ n ∧ i = .int .i64 k ∧ Hid ((pf.take k).any badH = false) ∧ wr = W) (fun i _ => (n - intOf i).toNat)
      case atStart => exact ⟨0, by omega, rfl, rfl, rfl⟩
      case round =>
        obtain ⟨k, hk, rfl, HK, hwr⟩ := hrel
        subst hwr
        by_cases hlt : k < n
        · have hlt' : (k : Int) < n := by omega
          have hkl : k < pf.length := by rw [HN.out]; exact hlt
          obtain ⟨b, off, rfl, hbw, q1⟩ := HA.out k hkl
          obtain ⟨x, HX⟩ : ∃ x, Hid (pf[k]'hkl = x) := ⟨_, rfl⟩
          rw [HX.out] at q1
          have c1 := (BW.out.cell (p := ⟨b, off + k, none⟩) hbw).trans q1
          have HNX : Hid ((pf.take (k + 1)).any badH = badH x) := by
            show _ = _
            rw [List.take_succ_eq_append_getElem hkl, List.any_append, HK.out, HX.out]
            simp
          have HYES : Hid (badH x = true → E = 72) := fun h => H0.out (by
            rw [List.any_eq_true]
            exact ⟨x, by rw [← HX.out]; exact List.getElem_mem hkl, h⟩)
          clear q1 HX
          by_cases hb : x.size < 1 ∨ 32 < x.size
          · have HT : Hid (E = 72) := HYES.out (decide_eq_true hb)
            have hcs : (x.size : Int) < 1 ∨ (¬ (x.size : Int) < 1 ∧ (x.size : Int) > 32) := by omega
            clear hb
            rcases hcs with h4 | ⟨h4, h5⟩
            all_goals
              go_wp2
              go_ret
              exact ⟨by rw [HT.out]; rfl, BW.out⟩
          · have HT : Hid ((pf.take (k + 1)).any badH = false) := HNX.out.trans (decide_eq_false hb)
            have h4 : ¬ (x.size : Int) < 1 := by omega
            have h5 : ¬ (x.size : Int) > 32 := by omega
            clear hb
            go_wp2
            go_roundw
            case rel => exact ⟨k + 1, by omega, by go_num, HT, trivial⟩
            case measure => simp [intOf]; omega
        · have hlt' : ¬ (k : Int) < n := by omega
          have HT : Hid (E = 0) := H1.out (by
            have := HK.out
            rwa [List.take_of_length_le (by rw [HN.out]; omega)] at this)
          go_wp2
          go_ret
          exact ⟨by rw [HT.out]; rfl, BW.out⟩
end Go.Proofs.YtpbapaghcabehaaDoor.b1
