import Derived.Test.YtmgkfkfmiddanaaCe
namespace Go.Proofs.Ytmgkfkfmiddanaa.cf
open Go.RowKit Go.PlainAid
open Go.Proofs.Ytmgkfkfmiddanaa.cl Go.Proofs.Ytmgkfkfmiddanaa.ca Go.Proofs.Ytmgkfkfmiddanaa.cb Go.Proofs.Ytmgkfkfmiddanaa.cc Go.Proofs.Ytmgkfkfmiddanaa.cd Go.Proofs.Ytmgkfkfmiddanaa.ci Go.Proofs.Ytmgkfkfmiddanaa.ce
set_option linter.unusedVariables false

theorem burstF (b c : ByteArray) (A p : Nat) (h : TurnsTo b c A p) (h0 : p ≠ 0) (h1 : p < 4294967296) : crcF b ≠ crcF c := by
  obtain ⟨hs, hl, he⟩ := h
  exact onF_ne 0 _ _ (burst _ _ _ (by simp [nl, hs]) p A h0 h1 (by simp [nl]; omega) he)

theorem bt_extract (a : ByteArray) (i j k : Nat) (h : i + k < j) (hj : j ≤ a.size) : bt (a.extract i j) k = bt a (i + k) := by
  have hs : (a.extract i j).size = min j a.size - i := ByteArray.size_extract
  unfold bt
  rw [dif_pos (by omega), dif_pos (by omega)]
  rw [ByteArray.getElem_extract]

theorem extract_nl (a : ByteArray) (n : Nat) (h : n ≤ a.size) : (a.extract 0 n).size = n ∧ nl (a.extract 0 n) n = nl a n := by
  have hs : (a.extract 0 n).size = n := by rw [ByteArray.size_extract]; omega
  refine ⟨hs, ?_⟩
  unfold nl
  apply List.map_congr_left
  intro j hj
  have hj' : j < n := List.mem_range.1 hj
  unfold nt
  rw [bt_extract a 0 n j (by omega) h, Nat.zero_add]
theorem three (a b c : ByteArray) (n : Nat) (hn : n = min (min a.size b.size) c.size) :
    crcF (xorF (xorF a b) c) = crcF (a.extract 0 n) ^^^ crcF (b.extract 0 n) ^^^ crcF (c.extract 0 n) := by
  have s1 := xorF_size a b
  have s2 := xorF_size (xorF a b) c
  have hz : (xorF (xorF a b) c).size = n := by omega
  unfold crcF
  rw [hz, (extract_nl a n (by omega)).1, (extract_nl b n (by omega)).1, (extract_nl c n (by omega)).1, (extract_nl a n (by omega)).2, (extract_nl b n (by omega)).2, (extract_nl c n (by omega)).2, nl_xorF _ _ _ (by omega), nl_xorF _ _ _ (by omega)]
  exact onF_three 0 _ _ _ (by simp [nl]) (by simp [nl])

set_option maxHeartbeats 800000 in
theorem mac_burst (b : ByteArray) (at_ : Int) (p : Nat) (w : World) (hb : b.size ≤ 140737488351232) (hp : p < 4294967296) (ha : -9223372036854775808 ≤ at_) (ha' : at_ ≤ 9223372036854775807) :
    Calls Try.prog 4 #[.string b, .int .i64 at_, .int .u32 p] w fun e w' => e = .returned (.bool true) ∧ Below w.heap.size w w' := by
  go_enter Try.func4, Try.ntmps4
  go_wp2_with fail
  refine (turned b at_ p _ hb hp ha ha').mono ?_
  rintro e w1 ⟨hbel, hout⟩
  have HB : Hid (Below w.heap.size w w1) := hbel
  clear hbel
  rcases hout with rfl | ⟨A, c, rfl, HT, rfl⟩
  · go_wp2_with fail
    refine (Crc _ _ (by decide)).mono ?_
    rintro e w2 ⟨rfl, hb2⟩
    have B2 : Hid (Below w.heap.size w w2) := over HB.out hb2
    clear hb2
    rw [crc_a]
    go_wp2
    go_ret
    exact ⟨rfl, B2.out⟩
  · have HT' : Hid _ := HT
    have hcs : c.size ≤ 140737488351232 := by rw [HT.1]; exact hb
    clear HT
    by_cases h0 : p = 0
    · subst h0
      go_wp2_with fail
      refine (Crc _ _ (by decide)).mono ?_
      rintro e w2 ⟨rfl, hb2⟩
      have B2 : Hid (Below w.heap.size w w2) := over HB.out hb2
      clear hb2
      rw [crc_a]
      go_wp2
      go_ret
      exact ⟨rfl, B2.out⟩
    · have h0' : ((p : Int) == 0) = false := by simp; omega
      have HN : Hid _ := burstF b c A p HT'.out h0 hp
      clear h0
      go_wp2_with fail
      refine (Crc b _ (by omega)).mono ?_
      rintro e w2 ⟨rfl, hb2⟩
      have B2 : Hid (Below w.heap.size w w2) := over HB.out hb2
      clear hb2
      go_wp2_with fail
      refine (Crc c _ (by omega)).mono ?_
      rintro e w3 ⟨rfl, hb3⟩
      have B3 : Hid (Below w.heap.size w w3) := over B2.out hb3
      clear hb3
      have hne : ((crcF b : Int) != (crcF c : Int)) = true := by
        rw [bne_iff_ne]
        exact fun e => HN.out (Int.ofNat.inj e)
      go_wp2
      go_ret
      exact ⟨rfl, B3.out⟩

set_option maxHeartbeats 1600000 in
theorem mac_linear (a b c : ByteArray) (w : World) (ha : a.size ≤ 140737488351232) (hb : b.size ≤ 140737488351232) (hc : c.size ≤ 140737488351232) :
    Calls Try.prog 5 #[.string a, .string b, .string c] w fun e w' => e = .returned (.bool true) ∧ Below w.heap.size w w' := by
  have hs1 := xorF_size a b
  have hs2 := xorF_size (xorF a b) c
  obtain ⟨n, HN⟩ : ∃ n, Hid (n = min (min a.size b.size) c.size) := ⟨_, rfl⟩
  have H3 : Hid _ := three a b c n HN.out
  have ta : n ≤ a.size := by have := HN.out; omega
  have tb : n ≤ b.size := by have := HN.out; omega
  have tc : n ≤ c.size := by have := HN.out; omega
  have hz : (xorF (xorF a b) c).size = n := by have := HN.out; omega
  have hz1 : (xorF a b).size ≤ 140737488351232 := by omega
  clear hs1 hs2
  go_enter Try.func5, Try.ntmps5
  go_wp2_with fail
  refine (xored a b _ ha hb).mono ?_
  rintro e w1 ⟨rfl, hb1⟩
  have HB1 : Hid (Below w.heap.size w w1) := hb1
  clear hb1
  go_wp2_with fail
  refine (xored (xorF a b) c _ hz1 hc).mono ?_
  rintro e w2 ⟨rfl, hb2⟩
  have HB : Hid (Below w.heap.size w w2) := HB1.out.trans (hb2.mono HB1.out.size)
  clear hb2 HB1
  generalize xorF (xorF a b) c = x at *
  have za : (a.extract 0 n).size ≤ 281474976710656 := by rw [(extract_nl a n ta).1]; omega
  have zb : (b.extract 0 n).size ≤ 281474976710656 := by rw [(extract_nl b n tb).1]; omega
  have zc : (c.extract 0 n).size ≤ 281474976710656 := by rw [(extract_nl c n tc).1]; omega
  have zx : x.size ≤ 281474976710656 := by omega
  have ca := crcF_lt (a.extract 0 n)
  have cb := crcF_lt (b.extract 0 n)
  have cc := crcF_lt (c.extract 0 n)
  have hq : (((crcF x : Nat) : Int) == bits .xor .u32 (bits .xor .u32 ((crcF (a.extract 0 n) : Nat) : Int) ((crcF (b.extract 0 n) : Nat) : Int)) ((crcF (c.extract 0 n) : Nat) : Int)) = true := by
    rw [u32_xor_nat _ _ ca cb, u32_xor_nat _ _ (Nat.xor_lt_two_pow (n := 32) ca cb) cc, H3.out]
    exact beq_self_eq_true _
  have h1 : ((crcF ⟨#[97]⟩ : Nat) : Int) = 3904355907 := by rw [crc_a]; rfl
  clear ca cb cc
  have na : (n : Int) ≤ a.size := by omega
  have nb : (n : Int) ≤ b.size := by omega
  have nc : (n : Int) ≤ c.size := by omega
  go_wp2_with fail
  have z1 : (⟨#[97]⟩ : ByteArray).size ≤ 281474976710656 := by decide
  go_region_held3 (fun w' => True) (trivial) ((go_at_call 7; refine (Crc _ _ (by assumption)).mono ?_; rintro e w' ⟨rfl, hb'⟩))
  rename_i v1 k1 v2 k2 v3 k3 v4 k4 hh
  have B : Hid (Below w.heap.size w w') := over (over (over (over (over HB.out.drew k1) k2) k3) k4) hb'
  clear k1 k2 k3 k4 hb' hh
  go_wp2
  go_ret
  exact ⟨rfl, B.out⟩
end Go.Proofs.Ytmgkfkfmiddanaa.cf
