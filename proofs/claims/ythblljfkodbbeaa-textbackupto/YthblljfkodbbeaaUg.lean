import Derived.Test.YthblljfkodbbeaaUd
namespace Go.Proofs.Ythblljfkodbbeaa.ug
open Go.RowKit Go.PlainAid
open Go.Proofs.Ythblljfkodbbeaa.ta Go.Proofs.Ythblljfkodbbeaa.tb Go.Proofs.Ythblljfkodbbeaa.tc Go.Proofs.Ythblljfkodbbeaa.td Go.Proofs.Ythblljfkodbbeaa.te Go.Proofs.Ythblljfkodbbeaa.tf Go.Proofs.Ythblljfkodbbeaa.tg Go.Proofs.Ythblljfkodbbeaa.th Go.Proofs.Ythblljfkodbbeaa.ti Go.Proofs.Ythblljfkodbbeaa.tj Go.Proofs.Ythblljfkodbbeaa.tk Go.Proofs.Ythblljfkodbbeaa.ue Go.Proofs.Ythblljfkodbbeaa.ub Go.Proofs.Ythblljfkodbbeaa.uc Go.Proofs.Ythblljfkodbbeaa.ud
set_option linter.unusedVariables false

theorem over {w w1 w2 : World} (h : Below w.heap.size w w1) (b : Below w1.heap.size w1 w2) : Below w.heap.size w w2 := h.trans (b.mono h.size)
set_option maxHeartbeats 1600000 in
theorem among (s al : ByteArray) (hs : s.size ≤ 281474976710656) (ha : al.size ≤ 281474976710656) (h : ∀ k, k < s.size → ∃ j, j < al.size ∧ bt al j = bt s k) (w : World) :
    Calls Try.prog 10 #[.string s, .string al] w fun e w' => e = .returned (.bool true) ∧ Below w.heap.size w w' := by
  have hgs := get_bt s
  have hga := get_bt al
  have H : Hid (∀ k, k < s.size → ∃ j, j < al.size ∧ bt al j = bt s k) := h
  clear h
  go_enter Try.func10, Try.ntmps10
  go_wp2
  go_loopw [5] (fun i wr => ∃ k : Nat, k ≤ s.size ∧ i = .int .i64 k ∧ Hid (Below w.heap.size w wr)) (fun i _ => (s.size - intOf i).toNat)
  case atStart => exact ⟨0, by omega, rfl, Below.refl _ _⟩
  case round =>
    obtain ⟨k, hk, rfl, HB⟩ := hrel
    by_cases hlt : k < s.size
    · have hlt' : (k : Int) < s.size := by omega
      have HX : Hid (∃ j, j < al.size ∧ bt al j = bt s k) := H.out k hlt
      obtain ⟨b, HBB⟩ : ∃ b, Hid (bt s k = b) := ⟨_, rfl⟩
      have hgk : ∀ (h : k < s.size), ((s[k]'h).toNat : Int) = b := fun h => (hgs k h).trans HBB.out
      rw [HBB.out] at HX
      clear hgs
      go_wp2
      go_loopw [6, 7] (fun ok i wr => ∃ (j : Nat) (o : Bool), j ≤ al.size ∧ i = .int .i64 j ∧ ok = .bool o ∧ Hid ((∃ m, m < j ∧ bt al m = b) → o = true) ∧ Hid (Below w.heap.size w wr)) (fun _ i _ => (al.size - intOf i).toNat)
      case atStart => exact ⟨0, false, by omega, rfl, rfl, (fun ⟨m, h, _⟩ => by omega), HB.out⟩
      case round =>
        obtain ⟨j, o, hj, rfl, rfl, HO, HB2⟩ := hrel
        clear HB
        by_cases hjl : j < al.size
        · have hjl' : (j : Int) < al.size := by omega
          obtain ⟨c, HC⟩ : ∃ c, Hid (bt al j = c) := ⟨_, rfl⟩
          have hgj : ∀ (h : j < al.size), ((al[j]'h).toNat : Int) = c := fun h => (hga j h).trans HC.out
          clear hga
          cases o
          · by_cases hcb : c = b
            · have hcb' : (c == b) = true := by rw [hcb]; simp
              clear hcb
              go_wp2_with fail
              go_quiet (fail)
              generalize hW : wr.drewN nq = wr2
              have HB3 : Hid (Below w.heap.size w wr2) := by subst hW; exact below_dN HB2.out nq
              clear hW
              go_wp2
              go_roundw
              case rel => exact ⟨j + 1, true, by omega, by go_num, rfl, fun _ => rfl, HB3.out⟩
              case measure => simp [intOf]; omega
            · have hcb' : (c == b) = false := beq_eq_false_iff_ne.2 hcb
              have HN : Hid (c ≠ b) := hcb
              clear hcb
              go_wp2_with fail
              go_quiet (fail)
              generalize hW : wr.drewN nq = wr2
              have HB3 : Hid (Below w.heap.size w wr2) := by subst hW; exact below_dN HB2.out nq
              clear hW
              go_wp2
              go_roundw
              case rel =>
                refine ⟨j + 1, false, by omega, by go_num, rfl, ?_, HB3.out⟩
                rintro ⟨m, hm, he⟩
                rcases Nat.lt_or_ge m j with h | h
                · exact HO.out ⟨m, h, he⟩
                · obtain rfl : m = j := by omega
                  exact absurd (HC.out.symm.trans he) HN.out
              case measure => simp [intOf]; omega
          · go_wp2_with fail
            go_quiet (fail)
            generalize hW : wr.drewN nq = wr2
            have HB3 : Hid (Below w.heap.size w wr2) := by subst hW; exact below_dN HB2.out nq
            clear hW
            go_wp2
            go_roundw
            case rel => exact ⟨j + 1, true, by omega, by go_num, rfl, fun _ => rfl, HB3.out⟩
            case measure => simp [intOf]; omega
        · have hjl' : ¬ (j : Int) < al.size := by omega
          obtain rfl : j = al.size := by omega
          obtain rfl : o = true := HO.out HX.out
          go_wp2
          go_roundw
          case rel => exact ⟨k + 1, by omega, by go_num, HB2.out⟩
          case measure => simp [intOf]; omega
    · have hlt' : ¬ (k : Int) < s.size := by omega
      go_wp2
      go_ret
      exact ⟨rfl, HB.out⟩

-- what is written is read
theorem un64_there (l : List Int) (h : In 256 l) : un64V (str (b64L l)) = readV l := by
  unfold un64V
  rw [bs_str _ (b64L_in l h), if_pos (b64_there l h).1, (b64_there l h).2]
theorem unhex_there (l : List Int) (h : In 256 l) : unhexV (str (hexL l)) = readV l := by
  unfold unhexV
  rw [bs_str _ (hexL_in l h), str_size, hexL_length, if_pos ⟨by omega, (hex_there l h).1⟩, (hex_there l h).2]
theorem un_there (l : List Int) (h : In 256 l) : unV (str (escL l)) = readV l := by
  unfold unV
  rw [bs_str _ (escL_in l h), unP_there l h]
def L65 : ByteArray := ⟨#[65, 66, 67, 68, 69, 70, 71, 72, 73, 74, 75, 76, 77, 78, 79, 80, 81, 82, 83, 84, 85, 86, 87, 88, 89, 90, 97, 98, 99, 100, 101, 102, 103, 104, 105, 106, 107, 108, 109, 110, 111, 112, 113, 114, 115, 116, 117, 118, 119, 120, 121, 122, 48, 49, 50, 51, 52, 53, 54, 55, 56, 57, 43, 47, 61]⟩
theorem l65_sg : ∀ v : Nat, v < 64 → bt L65 v = sg A64 v := by decide +kernel
theorem l65_pad : bt L65 64 = 61 := by decide +kernel
theorem l65_size : L65.size = 65 := by decide +kernel
theorem bt_mem (l : List Int) (h : In 256 l) (k : Nat) (hk : k < (str l).size) : bt (str l) k ∈ l := by
  rw [str_size] at hk
  have hx := h _ (List.getElem_mem hk)
  rw [str_bt l k hk hx.1 (by omega)]
  exact List.getElem_mem _
theorem in65 (l : List Int) (h : In 256 l) (k : Nat) (hk : k < (str (b64L l)).size) : ∃ j, j < L65.size ∧ bt L65 j = bt (str (b64L l)) k := by
  rw [l65_size]
  have hm := bt_mem _ (b64L_in l h) k hk
  generalize bt (str (b64L l)) k = y at hm ⊢
  unfold b64L at hm
  rcases List.mem_append.1 hm with hm | hm
  · obtain ⟨y, hy, he⟩ := List.mem_map.1 (List.mem_of_mem_take hm)
    have hin := sixes_full l h y hy
    refine ⟨y.toNat, by omega, ?_⟩
    rw [l65_sg _ (by omega), Int.toNat_of_nonneg hin.1]
    exact he
  · exact ⟨64, by omega, by rw [l65_pad, List.eq_of_mem_replicate hm]⟩
theorem in16 (l : List Int) (h : In 256 l) (k : Nat) (hk : k < (str (hexL l)).size) : ∃ j, j < L16.size ∧ bt L16 j = bt (str (hexL l)) k := by
  have hm := bt_mem _ (hexL_in l h) k hk
  generalize bt (str (hexL l)) k = z at hm ⊢
  obtain ⟨y, hy, he⟩ := List.mem_map.1 hm
  have hin := nibs_in l h y hy
  refine ⟨y.toNat, by show y.toNat < 16; omega, ?_⟩
  have : (fun x : Int => bt L16 x.toNat) y = sg A16 y := by rw [sg_of L16 A16 bs16]
  rw [← he]
  exact this
theorem escL_length (l : List Int) : (escL l).length ≤ 3 * l.length + 1 := by
  unfold escL
  split
  · simp
  · have := (escR_length l).2
    omega
theorem ne_empty (s : ByteArray) (h : s.size ≠ 0) : (s.toList == []) = false ∧ s.toList.isEmpty = false := by
  have h1 : (s.toList == []) = false := by rw [toList_lit]; exact decide_eq_false (fun e => h (by rw [e]; rfl))
  refine ⟨h1, ?_⟩
  cases hl : s.toList with
  | nil => rw [hl] at h1; cases h1
  | cons => rfl
theorem is_empty (s : ByteArray) (h : s.size = 0) : s = ByteArray.empty := bs_inj (by
  have : bs s = [] := List.length_eq_zero_iff.1 (by rw [bs_length]; exact h)
  rw [this]; rfl)
theorem yes_empty (s : ByteArray) (h : s.size = 0) : (s.toList == []) = true ∧ s.toList.isEmpty = true := by
  rw [is_empty s h, ByteArray.toList_eq]
  exact ⟨rfl, rfl⟩
theorem esc_ne (s : ByteArray) : (str (escL (bs s))).size ≠ 0 := by
  rw [str_size]
  intro h
  exact escL_ne _ (List.length_eq_zero_iff.1 h)

-- the end of the law: from the last three tests on, in whatever world
set_option maxHeartbeats 3200000 in
theorem text_back (s more : ByteArray) (hs : s.size + more.size ≤ 1048576) (w : World) :
    Calls Try.prog 3 #[.string s, .string more] w fun e w' => e = .returned (.bool true) ∧ Below w.heap.size w w' := by
  have hb := bs_in s
  have hm := bs_in more
  have l1 := escR_length (bs s)
  have l2 := escR_length (bs more)
  rw [bs_length] at l1 l2
  have l3 : (escL (bs s)).length ≤ 3 * s.size + 1 := by have := escL_length (bs s); rwa [bs_length] at this
  have hx : (s ++ more).size ≤ 1048576 := by rw [ByteArray.size_append]; exact hs
  have C1 : Hid (∀ w, Calls _ _ _ _ _) := fun w => b64 s (by omega) w
  have C2 : Hid (∀ w, Calls _ _ _ _ _) := fun w => hex s (by omega) w
  have C3 : Hid (∀ w, Calls _ _ _ _ _) := fun w => escape s (by omega) (by omega) w
  have z1 : (str (b64L (bs s))).size = (s.size + 2) / 3 * 4 := by rw [str_size, b64L_length, bs_length]
  have z2 : (str (hexL (bs s))).size = 2 * s.size := by rw [str_size, hexL_length, bs_length]
  have z3 : (str (escL (bs s))).size ≤ 3 * s.size + 1 := by rw [str_size]; exact l3
  have C4 : Hid (∀ w, Calls _ _ _ _ _) := fun w => unb64 (str (b64L (bs s))) (by omega) w
  have C5 : Hid (∀ w, Calls _ _ _ _ _) := fun w => unhex (str (hexL (bs s))) (by omega) w
  have C6 : Hid (∀ w, Calls _ _ _ _ _) := fun w => unesc (str (escL (bs s))) (by omega) w
  rw [un64_there _ hb] at C4
  rw [unhex_there _ hb] at C5
  rw [un_there _ hb] at C6
  have C7 : Hid (∀ w, Calls _ _ _ _ _) := fun w => among (str (b64L (bs s))) L65 (by omega) (by rw [l65_size]; omega) (in65 _ hb) w
  have C8 : Hid (∀ w, Calls _ _ _ _ _) := fun w => among (str (hexL (bs s))) L16 (by omega) (by show 16 ≤ _; omega) (in16 _ hb) w
  have HP : Hid (∀ k, k < (str (escL (bs s))).size → 33 ≤ bt (str (escL (bs s))) k ∧ bt (str (escL (bs s))) k ≤ 126) := fun k hk => escL_pr _ hb _ (bt_mem _ (escL_in _ hb) k hk)
  have D1 : Hid (∀ w, Calls _ _ _ _ _) := fun w => b64 (s ++ more) (by omega) w
  have D2 : Hid (∀ w, Calls _ _ _ _ _) := fun w => b64 more (by omega) w
  have D3 : Hid (∀ w, Calls _ _ _ _ _) := fun w => hex (s ++ more) (by omega) w
  have D4 : Hid (∀ w, Calls _ _ _ _ _) := fun w => hex more (by omega) w
  have lx := escR_length (bs (s ++ more))
  rw [bs_length] at lx
  have D5 : Hid (∀ w, Calls _ _ _ _ _) := fun w => escape (s ++ more) (by omega) (by omega) w
  have D6 : Hid (∀ w, Calls _ _ _ _ _) := fun w => escape more (by omega) (by omega) w
  rw [bs_two] at D1 D3 D5
  rw [hexL_app, str_two] at D3
  have E1 : Hid (s.size % 3 = 0 → str (b64L (bs s ++ bs more)) = str (b64L (bs s)) ++ str (b64L (bs more))) := fun h => by rw [b64L_app _ _ (by rw [bs_length]; exact h), str_two]
  have E2 : Hid (s.size ≠ 0 → more.size ≠ 0 → str (escL (bs s ++ bs more)) = str (escL (bs s)) ++ str (escL (bs more))) := fun h1 h2 => by
    rw [escL_app _ _ (fun h => h1 (by rw [← bs_length, h]; rfl)) (fun h => h2 (by rw [← bs_length, h]; rfl)), str_two]
  have z4 : (str (b64L (bs more))).size = (more.size + 2) / 3 * 4 := by rw [str_size, b64L_length, bs_length]
  have z5 : (str (hexL (bs more))).size = 2 * more.size := by rw [str_size, hexL_length, bs_length]
  have z6 : (str (escL (bs more))).size ≤ 3 * more.size + 1 := by rw [str_size]; have := escL_length (bs more); rwa [bs_length] at this
  have hc0 := ne_empty _ (esc_ne s)
  unfold readV at C4 C5 C6
  rw [str_bs] at C4 C5 C6
  unfold L65 at C7
  unfold L16 at C8
  clear hb hm l1 l2 l3 lx
  generalize str (b64L (bs s)) = a at *
  generalize str (hexL (bs s)) = b at *
  generalize str (escL (bs s)) = c at *
  generalize str (b64L (bs more)) = a2 at *
  generalize str (hexL (bs more)) = b2 at *
  generalize str (escL (bs more)) = c2 at *
  generalize str (b64L (bs s ++ bs more)) = a3 at *
  generalize str (escL (bs s ++ bs more)) = c3 at *
  have q1 : (s.toList == s.toList) = true := beq_self_eq_true _
  have n1 : ((a.size : Int) == ((s.size : Int) + 2) / 3 * 4) = true := by rw [beq_iff_eq]; omega
  have n2 : ((b.size : Int) == 2 * (s.size : Int)) = true := by rw [beq_iff_eq]; omega
  have hcb := get_bt c
  go_enter Try.func3, Try.ntmps3
  go_wp2_with fail
  refine (C1.out _).mono ?_
  rintro e w1 ⟨rfl, hb1⟩
  have B1 : Hid (Below w.heap.size w w1) := hb1
  clear hb1
  go_wp2_with fail
  refine (C2.out _).mono ?_
  rintro e w2 ⟨rfl, hb2⟩
  have B2 : Hid (Below w.heap.size w w2) := over B1.out hb2
  clear hb2 B1
  go_wp2_with fail
  refine (C3.out _).mono ?_
  rintro e w3 ⟨rfl, hb3⟩
  have B3 : Hid (Below w.heap.size w w3) := over B2.out hb3
  clear hb3 B2
  go_wp2_with fail
  refine (C4.out _).mono ?_
  rintro e w4 ⟨rfl, hb4⟩
  have B4 : Hid (Below w.heap.size w w4) := over B3.out hb4
  clear hb4 B3
  go_wp2_with fail
  refine (C5.out _).mono ?_
  rintro e w5 ⟨rfl, hb5⟩
  have B5 : Hid (Below w.heap.size w w5) := over B4.out hb5
  clear hb5 B4
  go_wp2_with fail
  refine (C6.out _).mono ?_
  rintro e w6 ⟨rfl, hb6⟩
  have B6 : Hid (Below w.heap.size w w6) := over B5.out hb6
  clear hb6 B5
  go_wp2_with fail
  refine (C7.out _).mono ?_
  rintro e w7 ⟨rfl, hb7⟩
  have B7 : Hid (Below w.heap.size w w7) := over B6.out hb7
  clear hb7 B6
  go_wp2_with fail
  refine (C8.out _).mono ?_
  rintro e w8 ⟨rfl, hb8⟩
  have B8 : Hid (Below w.heap.size w w8) := over B7.out hb8
  clear hb8 B7 C1 C2 C3 C4 C5 C6 C7 C8
  go_wp2
  go_loop [16] (fun i => ∃ k : Nat, k ≤ c.size ∧ i = .int .i64 k) (fun i => (c.size - intOf i).toNat)
  case atStart => exact ⟨0, by omega, rfl⟩
  case round =>
    obtain ⟨k, hk, rfl⟩ := hrel
    by_cases hlt : k < c.size
    · have hlt' : (k : Int) < c.size := by omega
      have hpk := HP.out k hlt
      obtain ⟨y, HY⟩ : ∃ y, Hid (bt c k = y) := ⟨_, rfl⟩
      have hgk : ∀ (h : k < c.size), ((c[k]'h).toNat : Int) = y := fun h => (hcb k h).trans HY.out
      rw [HY.out] at hpk
      obtain ⟨p1, p2⟩ := hpk
      have p1' : ¬ y < 33 := by omega
      have p2' : ¬ y > 126 := by omega
      clear hcb
      go_wp2
      go_round
      case rel => exact ⟨k + 1, by omega, by go_num⟩
      case measure => simp [intOf]; omega
    · have hlt' : ¬ (k : Int) < c.size := by omega
      clear hcb HP
      have x3 : ((b ++ b2).toList == (b ++ b2).toList) = true := beq_self_eq_true _
      by_cases h3 : s.size % 3 = 0
      · have h3' : (s.size : Int) % 3 = 0 := by omega
        have E1' := E1.out h3
        rw [E1'] at D1
        clear E1' E1
        have x1 : ((a ++ a2).toList == (a ++ a2).toList) = true := beq_self_eq_true _
        by_cases h0 : s.size = 0
        · obtain ⟨he1, he2⟩ := yes_empty s h0
          clear E2
          go_wp2_with fail
          refine (D1.out _).mono ?_
          rintro e v1 ⟨rfl, hb1⟩
          have Y1 : Hid (Below w.heap.size w v1) := over B8.out hb1
          clear hb1
          go_wp2_with fail
          refine (D2.out _).mono ?_
          rintro e v2 ⟨rfl, hb2⟩
          have Y2 : Hid (Below w.heap.size w v2) := over Y1.out hb2
          clear hb2
          go_wp2_with fail
          refine (D3.out _).mono ?_
          rintro e v3 ⟨rfl, hb3⟩
          have Y3 : Hid (Below w.heap.size w v3) := over Y2.out hb3
          clear hb3
          go_wp2_with fail
          refine (D4.out _).mono ?_
          rintro e v4 ⟨rfl, hb4⟩
          have Y4 : Hid (Below w.heap.size w v4) := over Y3.out hb4
          clear hb4
          go_wp2
          go_ret
          exact ⟨rfl, Y4.out⟩
        · have hs0 := ne_empty s h0
          obtain ⟨hs1, hs2⟩ := hs0
          by_cases h1 : more.size = 0
          · obtain ⟨he1, he2⟩ := yes_empty more h1
            clear E2
            go_wp2_with fail
            refine (D1.out _).mono ?_
            rintro e v1 ⟨rfl, hb1⟩
            have Y1 : Hid (Below w.heap.size w v1) := over B8.out hb1
            clear hb1
            go_wp2_with fail
            refine (D2.out _).mono ?_
            rintro e v2 ⟨rfl, hb2⟩
            have Y2 : Hid (Below w.heap.size w v2) := over Y1.out hb2
            clear hb2
            go_wp2_with fail
            refine (D3.out _).mono ?_
            rintro e v3 ⟨rfl, hb3⟩
            have Y3 : Hid (Below w.heap.size w v3) := over Y2.out hb3
            clear hb3
            go_wp2_with fail
            refine (D4.out _).mono ?_
            rintro e v4 ⟨rfl, hb4⟩
            have Y4 : Hid (Below w.heap.size w v4) := over Y3.out hb4
            clear hb4
            go_wp2
            go_ret
            exact ⟨rfl, Y4.out⟩
          · have hm0 := ne_empty more h1
            obtain ⟨hm1, hm2⟩ := hm0
            have E2' := E2.out h0 h1
            rw [E2'] at D5
            clear E2' E2
            have x2 : ((c ++ c2).toList == (c ++ c2).toList) = true := beq_self_eq_true _
            go_wp2_with fail
            refine (D1.out _).mono ?_
            rintro e v1 ⟨rfl, hb1⟩
            have Y1 : Hid (Below w.heap.size w v1) := over B8.out hb1
            clear hb1
            go_wp2_with fail
            refine (D2.out _).mono ?_
            rintro e v2 ⟨rfl, hb2⟩
            have Y2 : Hid (Below w.heap.size w v2) := over Y1.out hb2
            clear hb2
            go_wp2_with fail
            refine (D5.out _).mono ?_
            rintro e v3 ⟨rfl, hb3⟩
            have Y3 : Hid (Below w.heap.size w v3) := over Y2.out hb3
            clear hb3
            go_wp2_with fail
            refine (D6.out _).mono ?_
            rintro e v4 ⟨rfl, hb4⟩
            have Y4 : Hid (Below w.heap.size w v4) := over Y3.out hb4
            clear hb4
            go_wp2_with fail
            refine (D3.out _).mono ?_
            rintro e v5 ⟨rfl, hb5⟩
            have Y5 : Hid (Below w.heap.size w v5) := over Y4.out hb5
            clear hb5
            go_wp2_with fail
            refine (D4.out _).mono ?_
            rintro e v6 ⟨rfl, hb6⟩
            have Y6 : Hid (Below w.heap.size w v6) := over Y5.out hb6
            clear hb6
            go_wp2
            go_ret
            exact ⟨rfl, Y6.out⟩
      · have h3' : ((s.size : Int) % 3 == 0) = false := beq_eq_false_iff_ne.2 (by omega)
        have h0 : s.size ≠ 0 := by omega
        have hs0 := ne_empty s h0
        obtain ⟨hs1, hs2⟩ := hs0
        by_cases h1 : more.size = 0
        · obtain ⟨he1, he2⟩ := yes_empty more h1
          clear E2 E1
          go_wp2_with fail
          refine (D3.out _).mono ?_
          rintro e v1 ⟨rfl, hb1⟩
          have Y1 : Hid (Below w.heap.size w v1) := over B8.out hb1
          clear hb1
          go_wp2_with fail
          refine (D4.out _).mono ?_
          rintro e v2 ⟨rfl, hb2⟩
          have Y2 : Hid (Below w.heap.size w v2) := over Y1.out hb2
          clear hb2
          go_wp2
          go_ret
          exact ⟨rfl, Y2.out⟩
        · have hm0 := ne_empty more h1
          obtain ⟨hm1, hm2⟩ := hm0
          have E2' := E2.out h0 h1
          rw [E2'] at D5
          clear E2' E2 E1
          have x2 : ((c ++ c2).toList == (c ++ c2).toList) = true := beq_self_eq_true _
          go_wp2_with fail
          refine (D5.out _).mono ?_
          rintro e v1 ⟨rfl, hb1⟩
          have Y1 : Hid (Below w.heap.size w v1) := over B8.out hb1
          clear hb1
          go_wp2_with fail
          refine (D6.out _).mono ?_
          rintro e v2 ⟨rfl, hb2⟩
          have Y2 : Hid (Below w.heap.size w v2) := over Y1.out hb2
          clear hb2
          go_wp2_with fail
          refine (D3.out _).mono ?_
          rintro e v3 ⟨rfl, hb3⟩
          have Y3 : Hid (Below w.heap.size w v3) := over Y2.out hb3
          clear hb3
          go_wp2_with fail
          refine (D4.out _).mono ?_
          rintro e v4 ⟨rfl, hb4⟩
          have Y4 : Hid (Below w.heap.size w v4) := over Y3.out hb4
          clear hb4
          go_wp2
          go_ret
          exact ⟨rfl, Y4.out⟩
end Go.Proofs.Ythblljfkodbbeaa.ug
