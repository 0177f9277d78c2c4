import Derived.Test.YtgbachojkbfeoaaDoorPj
namespace Go.Proofs.YtgbachojkbfeoaaDoor.pn
open Go.RowKit Go.PlainAid
open Go.Proofs.YtgbachojkbfeoaaDoor.pl Go.Proofs.YtgbachojkbfeoaaDoor.pc Go.Proofs.YtgbachojkbfeoaaDoor.ph Go.Proofs.YtgbachojkbfeoaaDoor.pi Go.Proofs.YtgbachojkbfeoaaDoor.ft Go.Proofs.YtgbachojkbfeoaaDoor.pj
set_option linter.unusedVariables false

theorem New (w : World) (T : Tab w) : Calls Tryd.prog 9 #[] w fun e w' => e = .returned (.pointer (some ⟨w.heap.size, 0, none⟩)) ∧ Below w.heap.size w w' ∧ HA w' w.heap.size ByteArray.empty := new kF v0 w T.st T.big
theorem Write (h : Nat) (t p : ByteArray) (w : World) (hp : p.size ≤ 1125899906842624) (ht : t.size ≤ 1125899906842624) (HH : HA w h t) (T : Tab w) :
    Calls Tryd.prog 11 #[.pointer (some ⟨h, 0, none⟩), .string p] w fun e w' => e = .returned (.int .i64 p.size) ∧ Keeps h w w' ∧ HA w' h (t ++ p) := write kF v0 h t.size t p w ok0 hp ht rfl HH T.kt
theorem HSum (h : Nat) (t : ByteArray) (w : World) (ht : t.size ≤ 1125899906842624) (HH : HA w h t) (T : Tab w) :
    Calls Tryd.prog 10 #[.pointer (some ⟨h, 0, none⟩)] w fun e w' => e = .returned (.string (sha t)) ∧ Below w.heap.size w w' := hsum kF v0 h t.size t w ok0 ht rfl HH T.kt
theorem Copy (h : Nat) (t : ByteArray) (w : World) (HH : HA w h t) :
    Calls Tryd.prog 16 #[.pointer (some ⟨h, 0, none⟩)] w fun e w' => e = .returned (.pointer (some ⟨w.heap.size, 0, none⟩)) ∧ Below w.heap.size w w' ∧ HA w' w.heap.size t := copy kF v0 h t w HH
theorem Reset (h : Nat) (t : ByteArray) (w : World) (HH : HA w h t) (T : Tab w) :
    Calls Tryd.prog 17 #[.pointer (some ⟨h, 0, none⟩)] w fun e w' => e = .returned (.tuple #[]) ∧ Keeps h w w' ∧ HA w' h ByteArray.empty := reset kF v0 h t w T.st HH
theorem Len (h : Nat) (t : ByteArray) (w : World) (HH : HA w h t) :
    Calls Tryd.prog 12 #[.pointer (some ⟨h, 0, none⟩)] w fun e w' => e = .returned (.int .i64 t.size) ∧ w' = w := len kF v0 h t w HH
set_option maxHeartbeats 1600000 in
theorem parts (t a b : ByteArray) (f : Bool) (zt : t.size ≤ 140737488351232) (za : a.size ≤ 140737488351232) (zb : b.size ≤ 140737488351232) (w : World) (tabs : St8 w 0 ∧ K64 w 2) :
    Calls Tryd.prog 6 #[.string t, .string a, .string b, .bool f] w fun e w' => e = .returned (.bool true) ∧ Below w.heap.size w w' := by
  have T : Hid (Tab w) := Tab.of tabs
  clear tabs
  obtain ⟨m, e1⟩ : ∃ m, t ++ a = m := ⟨_, rfl⟩
  obtain ⟨k, e2⟩ : ∃ k, t ++ b = k := ⟨_, rfl⟩
  obtain ⟨l, e3⟩ : ∃ l, m ++ b = l := ⟨_, rfl⟩
  have zm : m.size = t.size + a.size := by rw [← e1, ByteArray.size_append]
  have zk : k.size = t.size + b.size := by rw [← e2, ByteArray.size_append]
  have zl : l.size = m.size + b.size := by rw [← e3, ByteArray.size_append]
  have ZM : Hid _ := zm
  have ZK : Hid _ := zk
  have ZL : Hid _ := zl
  clear zm zk zl
  have hm9 : m.size ≤ 281474976702464 := by have := ZM.out; omega
  have hk1 : (k.size : Int) = t.size + b.size := by have := ZK.out; omega
  have hl1 : (l.size : Int) = m.size + b.size := by have := ZL.out; omega
  have e5 : (ByteArray.empty ++ b : ByteArray) = b := empty_append b
  have e6 : ((⟨#[]⟩ : ByteArray) ++ b : ByteArray) = b := empty_append b
  cases f
  case false =>
    go_enter Tryd.func6, Tryd.ntmps6
    go_wp2_with fail
    refine (New _ T.out).mono ?_
    rintro e w1 ⟨rfl, hb, hh⟩
    have B1 : Hid (Below w.heap.size w w1) := hb; have H1 : Hid (HA w1 w.heap.size ByteArray.empty) := hh; clear hb hh
    go_wp2_with fail
    refine (Write w.heap.size _ t _ (by omega) (by show (0 : Nat) ≤ _; omega) H1.out (T.out.down B1.out)).mono ?_
    rintro e w2 ⟨rfl, hb, hh⟩
    rw [empty_append] at hh
    have B2 : Hid (Below w.heap.size w w2) := B1.out.trans (hb.below (Nat.le_refl _) (Nat.le_of_lt H1.out.lt)); have H2 : Hid (HA w2 w.heap.size t) := hh; clear hb hh
    go_wp2_with fail
    refine (Copy w.heap.size t _ H2.out).mono ?_
    rintro e w3 ⟨rfl, hb, hh⟩
    have B3 : Hid (Below w.heap.size w w3) := B2.out.trans (hb.mono (Nat.le_of_lt H2.out.lt)); have H3 : Hid (HA w3 w.heap.size t) := H2.out.below hb H2.out.lt; have K3 : Hid (HA w3 w2.heap.size t) := hh; have n1 := H2.out.lt; clear hb hh
    go_wp2_with fail
    refine (Write w.heap.size t a _ (by omega) (by omega) H3.out (T.out.down B3.out)).mono ?_
    rintro e w4 ⟨rfl, hb, hh⟩
    rw [e1] at hh
    have B4 : Hid (Below w.heap.size w w4) := B3.out.trans (hb.below (Nat.le_refl _) (Nat.le_of_lt H3.out.lt)); have H4 : Hid (HA w4 w.heap.size m) := hh; have K4 : Hid (HA w4 w2.heap.size t) := K3.out.keeps hb (by omega); clear hb hh
    go_wp2_with fail
    refine (Write w2.heap.size t b _ (by omega) (by omega) K4.out (T.out.down B4.out)).mono ?_
    rintro e w6 ⟨rfl, hb, hh⟩
    rw [e2] at hh
    have B6 : Hid (Below w.heap.size w w6) := B4.out.trans (hb.below (by omega) (Nat.le_of_lt H4.out.lt)); have H6 : Hid (HA w6 w.heap.size m) := H4.out.keeps hb (by omega); have K6 : Hid (HA w6 w2.heap.size k) := hh; clear hb hh
    go_wp2_with fail
    refine (Copy w.heap.size m _ H6.out).mono ?_
    rintro e w7 ⟨rfl, hb, hh⟩
    have B7 : Hid (Below w.heap.size w w7) := B6.out.trans (hb.mono (Nat.le_of_lt H6.out.lt)); have H7 : Hid (HA w7 w.heap.size m) := H6.out.below hb H6.out.lt; have K7 : Hid (HA w7 w2.heap.size k) := K6.out.below hb K6.out.lt; have L7 : Hid (HA w7 w6.heap.size m) := hh; have n2 := H6.out.lt; have n3 := K6.out.lt; clear hb hh
    go_wp2_with fail
    refine (Write w6.heap.size m b _ (by omega) (by have := ZM.out; omega) L7.out (T.out.down B7.out)).mono ?_
    rintro e w8 ⟨rfl, hb, hh⟩
    rw [e3] at hh
    have B8 : Hid (Below w.heap.size w w8) := B7.out.trans (hb.below (by omega) (Nat.le_of_lt H7.out.lt)); have H8 : Hid (HA w8 w.heap.size m) := H7.out.keeps hb (by omega); have K8 : Hid (HA w8 w2.heap.size k) := K7.out.keeps hb (by omega); have L8 : Hid (HA w8 w6.heap.size l) := hh; clear hb hh
    clear e5 e6
    go_wp2_with fail
    refine (HSum w.heap.size m _ (by have := ZM.out; omega) H8.out (T.out.down B8.out)).mono ?_
    rintro e w9 ⟨rfl, hb⟩
    have B9 : Hid (Below w.heap.size w w9) := B8.out.trans (hb.mono (Nat.le_of_lt H8.out.lt)); have H9 : Hid (HA w9 w.heap.size m) := H8.out.below hb H8.out.lt; have K9 : Hid (HA w9 w2.heap.size k) := K8.out.below hb K8.out.lt; have L9 : Hid (HA w9 w6.heap.size l) := L8.out.below hb L8.out.lt; clear hb
    go_wp2_with fail
    refine (Sum m _ (by have := ZM.out; omega) (T.out.down B9.out)).mono ?_
    rintro e w10 ⟨rfl, hb⟩
    have B10 : Hid (Below w.heap.size w w10) := B9.out.trans (hb.mono (Nat.le_of_lt H9.out.lt)); have H10 : Hid (HA w10 w.heap.size m) := H9.out.below hb H9.out.lt; have K10 : Hid (HA w10 w2.heap.size k) := K9.out.below hb K9.out.lt; have L10 : Hid (HA w10 w6.heap.size l) := L9.out.below hb L9.out.lt; clear hb
    go_wp2_with fail
    refine (HSum w2.heap.size k _ (by have := ZK.out; omega) K10.out (T.out.down B10.out)).mono ?_
    rintro e w11 ⟨rfl, hb⟩
    have B11 : Hid (Below w.heap.size w w11) := B10.out.trans (hb.mono (Nat.le_of_lt H10.out.lt)); have H11 : Hid (HA w11 w.heap.size m) := H10.out.below hb H10.out.lt; have K11 : Hid (HA w11 w2.heap.size k) := K10.out.below hb K10.out.lt; have L11 : Hid (HA w11 w6.heap.size l) := L10.out.below hb L10.out.lt; clear hb
    go_wp2_with fail
    refine (Sum k _ (by have := ZK.out; omega) (T.out.down B11.out)).mono ?_
    rintro e w12 ⟨rfl, hb⟩
    have B12 : Hid (Below w.heap.size w w12) := B11.out.trans (hb.mono (Nat.le_of_lt H11.out.lt)); have H12 : Hid (HA w12 w.heap.size m) := H11.out.below hb H11.out.lt; have K12 : Hid (HA w12 w2.heap.size k) := K11.out.below hb K11.out.lt; have L12 : Hid (HA w12 w6.heap.size l) := L11.out.below hb L11.out.lt; clear hb
    go_wp2_with fail
    refine (HSum w6.heap.size l _ (by have := ZL.out; have := ZM.out; omega) L12.out (T.out.down B12.out)).mono ?_
    rintro e w13 ⟨rfl, hb⟩
    have B13 : Hid (Below w.heap.size w w13) := B12.out.trans (hb.mono (Nat.le_of_lt H12.out.lt)); have H13 : Hid (HA w13 w.heap.size m) := H12.out.below hb H12.out.lt; have K13 : Hid (HA w13 w2.heap.size k) := K12.out.below hb K12.out.lt; have L13 : Hid (HA w13 w6.heap.size l) := L12.out.below hb L12.out.lt; clear hb
    go_wp2_with fail
    refine (Sum l _ (by have := ZL.out; have := ZM.out; omega) (T.out.down B13.out)).mono ?_
    rintro e w14 ⟨rfl, hb⟩
    have B14 : Hid (Below w.heap.size w w14) := B13.out.trans (hb.mono (Nat.le_of_lt H13.out.lt)); have H14 : Hid (HA w14 w.heap.size m) := H13.out.below hb H13.out.lt; have K14 : Hid (HA w14 w2.heap.size k) := K13.out.below hb K13.out.lt; have L14 : Hid (HA w14 w6.heap.size l) := L13.out.below hb L13.out.lt; clear hb
    go_wp2_with fail
    refine (Len w.heap.size m _ H14.out).mono ?_
    rintro e wx ⟨rfl, rfl⟩
    go_wp2_with fail
    refine (Len w2.heap.size k _ K14.out).mono ?_
    rintro e wx ⟨rfl, rfl⟩
    go_wp2_with fail
    refine (Len w6.heap.size l _ L14.out).mono ?_
    rintro e wx ⟨rfl, rfl⟩
    have hz := sha_size k
    go_wp2_with fail
    refine (HSum w2.heap.size k _ (by have := ZK.out; omega) K14.out (T.out.down B14.out)).mono ?_
    rintro e wz ⟨rfl, hb⟩
    have BZ : Hid (Below w.heap.size w wz) := B14.out.trans (hb.mono (Nat.le_of_lt H14.out.lt))
    clear hb
    go_wp2
    go_ret
    exact ⟨rfl, BZ.out⟩
  case true =>
    go_enter Tryd.func6, Tryd.ntmps6
    go_wp2_with fail
    refine (New _ T.out).mono ?_
    rintro e w1 ⟨rfl, hb, hh⟩
    have B1 : Hid (Below w.heap.size w w1) := hb; have H1 : Hid (HA w1 w.heap.size ByteArray.empty) := hh; clear hb hh
    go_wp2_with fail
    refine (Write w.heap.size _ t _ (by omega) (by show (0 : Nat) ≤ _; omega) H1.out (T.out.down B1.out)).mono ?_
    rintro e w2 ⟨rfl, hb, hh⟩
    rw [empty_append] at hh
    have B2 : Hid (Below w.heap.size w w2) := B1.out.trans (hb.below (Nat.le_refl _) (Nat.le_of_lt H1.out.lt)); have H2 : Hid (HA w2 w.heap.size t) := hh; clear hb hh
    go_wp2_with fail
    refine (Copy w.heap.size t _ H2.out).mono ?_
    rintro e w3 ⟨rfl, hb, hh⟩
    have B3 : Hid (Below w.heap.size w w3) := B2.out.trans (hb.mono (Nat.le_of_lt H2.out.lt)); have H3 : Hid (HA w3 w.heap.size t) := H2.out.below hb H2.out.lt; have K3 : Hid (HA w3 w2.heap.size t) := hh; have n1 := H2.out.lt; clear hb hh
    go_wp2_with fail
    refine (Write w.heap.size t a _ (by omega) (by omega) H3.out (T.out.down B3.out)).mono ?_
    rintro e w4 ⟨rfl, hb, hh⟩
    rw [e1] at hh
    have B4 : Hid (Below w.heap.size w w4) := B3.out.trans (hb.below (Nat.le_refl _) (Nat.le_of_lt H3.out.lt)); have H4 : Hid (HA w4 w.heap.size m) := hh; have K4 : Hid (HA w4 w2.heap.size t) := K3.out.keeps hb (by omega); clear hb hh
    go_wp2_with fail
    refine (Reset w.heap.size m _ H4.out (T.out.down B4.out)).mono ?_
    rintro e w5 ⟨rfl, hb, hh⟩
    have B5 : Hid (Below w.heap.size w w5) := B4.out.trans (hb.below (Nat.le_refl _) (Nat.le_of_lt H4.out.lt)); have H5 : Hid (HA w5 w.heap.size ByteArray.empty) := hh; have K5 : Hid (HA w5 w2.heap.size t) := K4.out.keeps hb (by omega); clear hb hh
    go_wp2_with fail
    refine (Write w2.heap.size t b _ (by omega) (by omega) K5.out (T.out.down B5.out)).mono ?_
    rintro e w6 ⟨rfl, hb, hh⟩
    rw [e2] at hh
    have B6 : Hid (Below w.heap.size w w6) := B5.out.trans (hb.below (by omega) (Nat.le_of_lt H5.out.lt)); have H6 : Hid (HA w6 w.heap.size ByteArray.empty) := H5.out.keeps hb (by omega); have K6 : Hid (HA w6 w2.heap.size k) := hh; clear hb hh
    go_wp2_with fail
    refine (Copy w.heap.size ByteArray.empty _ H6.out).mono ?_
    rintro e w7 ⟨rfl, hb, hh⟩
    have B7 : Hid (Below w.heap.size w w7) := B6.out.trans (hb.mono (Nat.le_of_lt H6.out.lt)); have H7 : Hid (HA w7 w.heap.size ByteArray.empty) := H6.out.below hb H6.out.lt; have K7 : Hid (HA w7 w2.heap.size k) := K6.out.below hb K6.out.lt; have L7 : Hid (HA w7 w6.heap.size ByteArray.empty) := hh; have n2 := H6.out.lt; have n3 := K6.out.lt; clear hb hh
    go_wp2_with fail
    refine (Write w6.heap.size ByteArray.empty b _ (by omega) (by show (0 : Nat) ≤ _; omega) L7.out (T.out.down B7.out)).mono ?_
    rintro e w8 ⟨rfl, hb, hh⟩
    rw [e5] at hh
    have B8 : Hid (Below w.heap.size w w8) := B7.out.trans (hb.below (by omega) (Nat.le_of_lt H7.out.lt)); have H8 : Hid (HA w8 w.heap.size ByteArray.empty) := H7.out.keeps hb (by omega); have K8 : Hid (HA w8 w2.heap.size k) := K7.out.keeps hb (by omega); have L8 : Hid (HA w8 w6.heap.size b) := hh; clear hb hh
    go_wp2_with fail
    refine (HSum w.heap.size ByteArray.empty _ (by show (0 : Nat) ≤ _; omega) H8.out (T.out.down B8.out)).mono ?_
    rintro e w9 ⟨rfl, hb⟩
    have B9 : Hid (Below w.heap.size w w9) := B8.out.trans (hb.mono (Nat.le_of_lt H8.out.lt)); have H9 : Hid (HA w9 w.heap.size ByteArray.empty) := H8.out.below hb H8.out.lt; have K9 : Hid (HA w9 w2.heap.size k) := K8.out.below hb K8.out.lt; have L9 : Hid (HA w9 w6.heap.size b) := L8.out.below hb L8.out.lt; clear hb
    go_wp2_with fail
    refine (Sum ByteArray.empty _ (by show (0 : Nat) ≤ _; omega) (T.out.down B9.out)).mono ?_
    rintro e w10 ⟨rfl, hb⟩
    have B10 : Hid (Below w.heap.size w w10) := B9.out.trans (hb.mono (Nat.le_of_lt H9.out.lt)); have H10 : Hid (HA w10 w.heap.size ByteArray.empty) := H9.out.below hb H9.out.lt; have K10 : Hid (HA w10 w2.heap.size k) := K9.out.below hb K9.out.lt; have L10 : Hid (HA w10 w6.heap.size b) := L9.out.below hb L9.out.lt; clear hb
    go_wp2_with fail
    refine (HSum w2.heap.size k _ (by have := ZK.out; omega) K10.out (T.out.down B10.out)).mono ?_
    rintro e w11 ⟨rfl, hb⟩
    have B11 : Hid (Below w.heap.size w w11) := B10.out.trans (hb.mono (Nat.le_of_lt H10.out.lt)); have H11 : Hid (HA w11 w.heap.size ByteArray.empty) := H10.out.below hb H10.out.lt; have K11 : Hid (HA w11 w2.heap.size k) := K10.out.below hb K10.out.lt; have L11 : Hid (HA w11 w6.heap.size b) := L10.out.below hb L10.out.lt; clear hb
    go_wp2_with fail
    refine (Sum k _ (by have := ZK.out; omega) (T.out.down B11.out)).mono ?_
    rintro e w12 ⟨rfl, hb⟩
    have B12 : Hid (Below w.heap.size w w12) := B11.out.trans (hb.mono (Nat.le_of_lt H11.out.lt)); have H12 : Hid (HA w12 w.heap.size ByteArray.empty) := H11.out.below hb H11.out.lt; have K12 : Hid (HA w12 w2.heap.size k) := K11.out.below hb K11.out.lt; have L12 : Hid (HA w12 w6.heap.size b) := L11.out.below hb L11.out.lt; clear hb
    go_wp2_with fail
    refine (HSum w6.heap.size b _ (by omega) L12.out (T.out.down B12.out)).mono ?_
    rintro e w13 ⟨rfl, hb⟩
    have B13 : Hid (Below w.heap.size w w13) := B12.out.trans (hb.mono (Nat.le_of_lt H12.out.lt)); have H13 : Hid (HA w13 w.heap.size ByteArray.empty) := H12.out.below hb H12.out.lt; have K13 : Hid (HA w13 w2.heap.size k) := K12.out.below hb K12.out.lt; have L13 : Hid (HA w13 w6.heap.size b) := L12.out.below hb L12.out.lt; clear hb
    go_wp2_with fail
    refine (Sum b _ (by omega) (T.out.down B13.out)).mono ?_
    rintro e w14 ⟨rfl, hb⟩
    have B14 : Hid (Below w.heap.size w w14) := B13.out.trans (hb.mono (Nat.le_of_lt H13.out.lt)); have H14 : Hid (HA w14 w.heap.size ByteArray.empty) := H13.out.below hb H13.out.lt; have K14 : Hid (HA w14 w2.heap.size k) := K13.out.below hb K13.out.lt; have L14 : Hid (HA w14 w6.heap.size b) := L13.out.below hb L13.out.lt; clear hb
    go_wp2_with fail
    refine (Len w.heap.size ByteArray.empty _ H14.out).mono ?_
    rintro e wx ⟨rfl, rfl⟩
    go_wp2_with fail
    refine (Len w2.heap.size k _ K14.out).mono ?_
    rintro e wx ⟨rfl, rfl⟩
    go_wp2_with fail
    refine (Len w6.heap.size b _ L14.out).mono ?_
    rintro e wx ⟨rfl, rfl⟩
    have hz := sha_size k
    go_wp2_with fail
    refine (HSum w2.heap.size k _ (by have := ZK.out; omega) K14.out (T.out.down B14.out)).mono ?_
    rintro e wz ⟨rfl, hb⟩
    have BZ : Hid (Below w.heap.size w wz) := B14.out.trans (hb.mono (Nat.le_of_lt H14.out.lt))
    clear hb
    go_wp2
    go_ret
    exact ⟨rfl, BZ.out⟩
end Go.Proofs.YtgbachojkbfeoaaDoor.pn
