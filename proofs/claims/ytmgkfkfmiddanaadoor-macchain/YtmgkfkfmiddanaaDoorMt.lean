import Derived.Test.YtmgkfkfmiddanaaDoorMs
namespace Go.Proofs.YtmgkfkfmiddanaaDoor.mt
open Go.RowKit Go.PlainAid
open Go.Proofs.YtmgkfkfmiddanaaDoor.pl Go.Proofs.YtmgkfkfmiddanaaDoor.pd Go.Proofs.YtmgkfkfmiddanaaDoor.pf Go.Proofs.YtmgkfkfmiddanaaDoor.ft Go.Proofs.YtmgkfkfmiddanaaDoor.pj Go.Proofs.YtmgkfkfmiddanaaDoor.mo Go.Proofs.YtmgkfkfmiddanaaDoor.mr Go.Proofs.YtmgkfkfmiddanaaDoor.ms
set_option linter.unusedVariables false

-- what the program's own codes promise, where its tables lie
structure MW (Tb : World → Prop) : Prop where
  tab : ∀ w, Tb w → Tab w
  down : ∀ w w', Tb w → Below w.heap.size w w' → Tb w'
  sum : ∀ key msg w, Tb w → key.size ≤ 140737488352256 → msg.size ≤ 140737488352000 → Calls Tryd.prog 5 #[.string key, .string msg] w fun e w' => e = .returned (.string (macF key msg)) ∧ Below w.heap.size w w'

theorem keyed_long (key : ByteArray) (h : 64 < key.size) (x : Int) : keyedF (sha key) x = keyedF key x := by
  unfold keyedF keyS
  rw [if_pos h, if_neg (by rw [sha_size]; omega)]
theorem mac_long (key msg : ByteArray) (h : 64 < key.size) : macF (sha key) msg = macF key msg := by
  unfold macF; rw [keyed_long key h, keyed_long key h]
theorem kbt_zero (key : ByteArray) (j : Nat) : kbt (key ++ ⟨#[0]⟩) j = kbt key j := by
  have hs : (key ++ (⟨#[0]⟩ : ByteArray)).size = key.size + 1 := by rw [ByteArray.size_append]; rfl
  unfold kbt
  rw [hs]
  by_cases h : j < key.size
  · rw [if_pos h, if_pos (by omega), bt_append_left _ _ _ h]
  · rw [if_neg h]
    by_cases h2 : j < key.size + 1
    · rw [if_pos h2]
      have e : j = key.size + 0 := by omega
      rw [e, bt_append_right]; rfl
    · rw [if_neg h2]
theorem keyed_zero (key : ByteArray) (h : key.size < 64) (x : Int) : keyedF (key ++ ⟨#[0]⟩) x = keyedF key x := by
  have hs : (key ++ (⟨#[0]⟩ : ByteArray)).size = key.size + 1 := by rw [ByteArray.size_append]; rfl
  have e : keyL (key ++ ⟨#[0]⟩) x 64 = keyL key x 64 := by
    unfold keyL
    apply List.map_congr_left
    intro j _
    rw [kbt_zero]
  unfold keyedF keyS
  rw [if_neg (by omega), if_neg (by omega), e]
theorem mac_zero (key msg : ByteArray) (h : key.size < 64) : macF (key ++ ⟨#[0]⟩) msg = macF key msg := by
  unfold macF; rw [keyed_zero key h, keyed_zero key h]

set_option maxHeartbeats 1600000 in
theorem nested {Tb : World → Prop} (W : MW Tb) (key msg : ByteArray) (w : World) (hk : key.size ≤ 140737488351232) (hm : msg.size ≤ 140737488351232) (ht : Tb w) :
    Calls Tryd.prog 3 #[.string key, .string msg] w fun e w' => e = .returned (.bool true) ∧ Below w.heap.size w w' := by
  have T0 : Hid (Tb w) := ht
  clear ht
  have D : Hid (∀ w', Below w.heap.size w w' → Tb w') := fun w' b => W.down _ _ T0.out b
  have C0 : Hid (∀ w', Tb w' → Calls _ _ _ _ _) := fun w' t => W.sum key msg w' t (by omega) (by omega)
  have C1 : Hid (∀ w', Tb w' → Calls _ _ _ _ _) := fun w' t => lblock key 54 w' (by omega) (W.tab _ t)
  have C2 : Hid (∀ w', Tb w' → Calls _ _ _ _ _) := fun w' t => lblock key 92 w' (by omega) (W.tab _ t)
  have HL : Hid (64 < key.size → macF (sha key) msg = macF key msg) := mac_long key msg
  have HZ : Hid (key.size < 64 → macF (key ++ ⟨#[0]⟩) msg = macF key msg) := mac_zero key msg
  have HM : Hid (macF key msg = sha (keyedF key 92 ++ sha (keyedF key 54 ++ msg))) := rfl
  have z1 := keyedF_size key 54
  have z2 := keyedF_size key 92
  generalize keyedF key 54 = k1 at *
  generalize keyedF key 92 = k2 at *
  obtain ⟨a, HA⟩ : ∃ a, k1 ++ msg = a := ⟨_, rfl⟩
  have za : a.size = 64 + msg.size := by rw [← HA, ByteArray.size_append, z1]
  rw [HA] at HM
  have C3 : Hid (∀ w', Tb w' → Calls _ _ _ _ _) := fun w' t => Sum a w' (by omega) (W.tab _ t)
  have zs := sha_size a
  generalize sha a = sa at *
  obtain ⟨b, HB⟩ : ∃ b, k2 ++ sa = b := ⟨_, rfl⟩
  have zb : b.size = 96 := by rw [← HB, ByteArray.size_append, z2, zs]
  rw [HB] at HM
  have C4 : Hid (∀ w', Tb w' → Calls _ _ _ _ _) := fun w' t => Sum b w' (by omega) (W.tab _ t)
  have zm := sha_size b
  rw [HM.out] at C0 HL HZ
  generalize sha b = s at *
  clear HM
  have C5 : Hid (∀ w', Tb w' → 64 < key.size → Calls Tryd.prog 5 #[.string (sha key), .string msg] w' fun e w'' => e = .returned (.string s) ∧ Below w'.heap.size w' w'') := fun w' t h => by
    have := W.sum (sha key) msg w' t (by rw [sha_size]; omega) (by omega)
    rw [HL.out h] at this
    exact this
  have C6 : Hid (∀ w', Tb w' → key.size < 64 → Calls Tryd.prog 5 #[.string (key ++ ⟨#[0]⟩), .string msg] w' fun e w'' => e = .returned (.string s) ∧ Below w'.heap.size w' w'') := fun w' t h => by
    have hs : (key ++ (⟨#[0]⟩ : ByteArray)).size = key.size + 1 := by rw [ByteArray.size_append]; rfl
    have := W.sum (key ++ ⟨#[0]⟩) msg w' t (by omega) (by omega)
    rw [HZ.out h] at this
    exact this
  have C7 : Hid (∀ w', Tb w' → Calls _ _ _ _ _) := fun w' t => Sum key w' (by omega) (W.tab _ t)
  clear HL HZ
  go_enter Tryd.func3, Tryd.ntmps3
  go_wp2_with fail
  refine (C0.out _ T0.out).mono ?_
  rintro e w1 ⟨rfl, hb1⟩
  have B1 : Hid (Below w.heap.size w w1) := hb1
  clear hb1
  go_wp2_with fail
  refine (C1.out _ (D.out _ B1.out)).mono ?_
  rintro e w2 ⟨rfl, hb2⟩
  have B2 : Hid (Below w.heap.size w w2) := B1.out.trans (hb2.mono B1.out.size)
  clear hb2
  go_wp2_with fail
  refine (C3.out _ (D.out _ B2.out)).mono ?_
  rintro e w3 ⟨rfl, hb3⟩
  have B3 : Hid (Below w.heap.size w w3) := B2.out.trans (hb3.mono B2.out.size)
  clear hb3
  go_wp2_with fail
  refine (C2.out _ (D.out _ B3.out)).mono ?_
  rintro e w4 ⟨rfl, hb4⟩
  have B4 : Hid (Below w.heap.size w w4) := B3.out.trans (hb4.mono B3.out.size)
  clear hb4
  go_wp2_with fail
  refine (C4.out _ (D.out _ B4.out)).mono ?_
  rintro e w5 ⟨rfl, hb5⟩
  have B5 : Hid (Below w.heap.size w w5) := B4.out.trans (hb5.mono B4.out.size)
  clear hb5
  rcases Nat.lt_trichotomy key.size 64 with h | h | h
  · have h1 : ¬ (key.size : Int) > 64 := by omega
    have h2 : ((key.size : Int) == 64) = false := by simp; omega
    go_wp2_with fail
    refine (C6.out _ (D.out _ B5.out) h).mono ?_
    rintro e w6 ⟨rfl, hb6⟩
    have B6 : Hid (Below w.heap.size w w6) := B5.out.trans (hb6.mono B5.out.size)
    clear hb6
    go_wp2
    go_ret
    exact ⟨rfl, B6.out⟩
  · have h1 : ¬ (key.size : Int) > 64 := by omega
    have h2 : ((key.size : Int) == 64) = true := by simp; omega
    go_wp2
    go_ret
    exact ⟨rfl, B5.out⟩
  · have h1 : (key.size : Int) > 64 := by omega
    have hsk := sha_size key
    go_wp2_with fail
    refine (C7.out _ (D.out _ B5.out)).mono ?_
    rintro e w6 ⟨rfl, hb6⟩
    have B6 : Hid (Below w.heap.size w w6) := B5.out.trans (hb6.mono B5.out.size)
    clear hb6
    go_wp2_with fail
    refine (C5.out _ (D.out _ B6.out) h).mono ?_
    rintro e w7 ⟨rfl, hb7⟩
    have B7 : Hid (Below w.heap.size w w7) := B6.out.trans (hb7.mono B6.out.size)
    clear hb7
    go_wp2
    go_ret
    exact ⟨rfl, B7.out⟩
end Go.Proofs.YtmgkfkfmiddanaaDoor.mt
