import Derived.Test.YtpbapaghcabehaaDoorTp
namespace Go.Proofs.YtpbapaghcabehaaDoor.tq
open Go.RowKit Go.PlainAid
open Go.Proofs.YtpbapaghcabehaaDoor.ta Go.Proofs.YtpbapaghcabehaaDoor.tb Go.Proofs.YtpbapaghcabehaaDoor.tc Go.Proofs.YtpbapaghcabehaaDoor.td Go.Proofs.YtpbapaghcabehaaDoor.te Go.Proofs.YtpbapaghcabehaaDoor.tf Go.Proofs.YtpbapaghcabehaaDoor.tg Go.Proofs.YtpbapaghcabehaaDoor.th Go.Proofs.YtpbapaghcabehaaDoor.ti Go.Proofs.YtpbapaghcabehaaDoor.tj Go.Proofs.YtpbapaghcabehaaDoor.tk Go.Proofs.YtpbapaghcabehaaDoor.tm Go.Proofs.YtpbapaghcabehaaDoor.tn Go.Proofs.YtpbapaghcabehaaDoor.to Go.Proofs.YtpbapaghcabehaaDoor.tp
set_option linter.unusedVariables false
set_option maxRecDepth 4000

theorem value64 (c : Int) (c0 : 0 ≤ c) (c1 : c ≤ 255) (w : World) : Calls Tryd.prog 34 #[.string L64, .int .u8 c] w fun e w' => e = .returned (.int .i64 (rv A64 c)) ∧ w' = w := by
  have := value L64 c c0 c1 (by decide) w
  rw [bs64] at this
  exact this
theorem value64' (c : Int) (c0 : 0 ≤ c) (c1 : c ≤ 255) (w : World) : Calls Tryd.prog 34 #[.string ⟨#[65, 66, 67, 68, 69, 70, 71, 72, 73, 74, 75, 76, 77, 78, 79, 80, 81, 82, 83, 84, 85, 86, 87, 88, 89, 90, 97, 98, 99, 100, 101, 102, 103, 104, 105, 106, 107, 108, 109, 110, 111, 112, 113, 114, 115, 116, 117, 118, 119, 120, 121, 122, 48, 49, 50, 51, 52, 53, 54, 55, 56, 57, 43, 47]⟩, .int .u8 c] w fun e w' => e = .returned (.int .i64 (rv A64 c)) ∧ w' = w := value64 c c0 c1 w
theorem rv64 (c : Int) : 0 ≤ rv A64 c ∧ rv A64 c < 64 := rv_in A64 c 64 (by decide +kernel) (by decide)
theorem eights_four (n : Nat) : ∀ l : List Int, l.length = 4 * n → ∀ p q r t, eights (l ++ [p, q, r, t]) = eights l ++ [p * 4 + q / 16, q % 16 * 16 + r / 4, r % 4 * 64 + t] := by
  induction n with
  | zero => intro l h p q r t; have : l = [] := List.length_eq_zero_iff.1 (by omega)
            subst this; rfl
  | succ n ih =>
    intro l h p q r t
    match l, h with
    | [], h => simp at h
    | [_], h => simp at h; omega
    | [_, _], h => simp at h; omega
    | [_, _, _], h => simp at h; omega
    | a :: b :: c :: d :: m, h => simp [eights, ih m (by simp at h; omega) p q r t]
theorem eights_short (n : Nat) : ∀ l m : List Int, l.length = 4 * n → m.length < 4 → eights (l ++ m) = eights l := by
  induction n with
  | zero =>
    intro l m h hm
    have : l = [] := List.length_eq_zero_iff.1 (by omega)
    subst this
    match m, hm with
    | [], _ => rfl
    | [_], _ => rfl
    | [_, _], _ => rfl
    | [_, _, _], _ => rfl
    | _ :: _ :: _ :: _ :: _, hm => simp at hm; omega
  | succ n ih =>
    intro l m h hm
    match l, h with
    | [], h => simp at h
    | [_], h => simp at h; omega
    | [_, _], h => simp at h; omega
    | [_, _, _], h => simp at h; omega
    | a :: b :: c :: d :: r, h => simp [eights, ih r m (by simp at h; omega) hm]
theorem gb_four (s : ByteArray) (k : Nat) : gbL (btL s (4 * k + 4)) = gbL (btL s (4 * k)) ++ [rv A64 (bt s (4 * k)) * 4 + rv A64 (bt s (4 * k + 1)) / 16, rv A64 (bt s (4 * k + 1)) % 16 * 16 + rv A64 (bt s (4 * k + 2)) / 4, rv A64 (bt s (4 * k + 2)) % 4 * 64 + rv A64 (bt s (4 * k + 3))] := by
  unfold gbL
  rw [btL_succ, btL_succ, btL_succ, btL_succ, List.append_assoc, List.append_assoc, List.append_assoc, List.map_append]
  exact eights_four k _ (by rw [List.length_map, btL_length]) _ _ _ _
theorem gb_end (s : ByteArray) (k : Nat) (h1 : ¬ 4 * k + 3 < s.size) (h2 : 4 * k ≤ s.size) : gbL (bs s) = gbL (btL s (4 * k)) := by
  have e : bs s = btL s (4 * k) ++ (bs s).drop (4 * k) := by
    conv => lhs; rw [← List.take_append_drop (4 * k) (bs s)]
    congr 1
    exact btL_take s _ _ h2
  conv => lhs; rw [e]
  unfold gbL
  rw [List.map_append]
  exact eights_short k _ _ (by rw [List.length_map, btL_length]) (by rw [List.length_map, List.length_drop, bs_length]; omega)

-- how many signs of padding
theorem kL_none (s : ByteArray) (h : s.size = 0) : kL (bs s) = 0 := by
  have e : bs s = [] := List.length_eq_zero_iff.1 (by rw [bs_length]; exact h)
  rw [e]; rfl
theorem bs_last (s : ByteArray) (n : Nat) (h : s.size = n + 1) : bs s = btL s n ++ [bt s n] := by unfold bs; rw [h, btL_succ]
theorem kL_no (s : ByteArray) (n : Nat) (h : s.size = n + 1) (hb : bt s n ≠ 61) : kL (bs s) = 0 := by
  have e := bs_last s n h
  have h1 : trim1 (bs s) = bs s := by rw [e, trim1_snoc, if_neg hb]
  unfold kL trim2
  rw [h1, h1]
  omega
theorem kL_one' (s : ByteArray) (h : s.size = 1) (hb : bt s 0 = 61) : kL (bs s) = 1 := by
  have e := bs_last s 0 h
  have e2 : bs s = [61] := by rw [e, hb]; rfl
  rw [e2]; rfl
theorem kL_one (s : ByteArray) (n : Nat) (h : s.size = n + 2) (hb : bt s (n + 1) = 61) (hc : bt s n ≠ 61) : kL (bs s) = 1 := by
  have e := bs_last s (n + 1) h
  have h1 : trim1 (bs s) = btL s (n + 1) := by rw [e, trim1_snoc, if_pos hb]
  have h2 : trim1 (btL s (n + 1)) = btL s (n + 1) := by rw [btL_succ, trim1_snoc, if_neg hc]
  unfold kL trim2
  rw [h1, h2, btL_length, bs_length]
  omega
theorem kL_two (s : ByteArray) (n : Nat) (h : s.size = n + 2) (hb : bt s (n + 1) = 61) (hc : bt s n = 61) : kL (bs s) = 2 := by
  have e := bs_last s (n + 1) h
  have h1 : trim1 (bs s) = btL s (n + 1) := by rw [e, trim1_snoc, if_pos hb]
  have h2 : trim1 (btL s (n + 1)) = btL s n := by rw [btL_succ, trim1_snoc, if_pos hc]
  unfold kL trim2
  rw [h1, h2, btL_length, bs_length]
  omega

theorem own_slice {w : World} {base : Nat} {v : Value} {n : Nat} {xs : List Value} (h : w.ownsRow base 5 1 v n xs) : ∃ b cap, v = .slice b n cap ∧ n ≤ cap := by
  rcases h.2 with ⟨rfl, rfl⟩ | ⟨g, cap, cur, rfl, _, _, hnc, _⟩
  · exact ⟨none, 0, rfl, Nat.le_refl _⟩
  · exact ⟨_, _, rfl, hnc⟩
theorem si8 (W : World) : (sizeOf 5).run Tryd.prog W = .ok 1 W := by
  obtain ⟨i, hi, _, hz1, _⟩ := info_parts info5
  simp [sizeOf, typeInfo, hi, hz1]
theorem elB : Tryd.prog.elem 39 = 5 := by kernel_rfl
theorem unB : Tryd.prog.underlying 39 = some (.slice (Tryd.prog.elem 39)) := by rw [elB]; exact Tryd.underlying39
theorem slice_h (W : World) (b : Option Addr) (n cap N : Nat) (h : N ≤ cap) : (Instr.sliceAt 39 (.slice b n cap) none (some (.int .i64 N)) none).run Tryd.prog W = .ok (.slice (if cap = 0 then b else b.map (·.add 0)) N cap) W := by
  rw [run_sliceAt_slice _ _ _ _ _ _ unB, run_slice_h W 39 b n cap unB .i64 (N : Int) (by omega) (by omega), elB, si8]
  simp only [Result.andThen_ok, sliced, Int.toNat_natCast, Nat.zero_mul, Nat.sub_zero]
theorem cut_conv (W : World) (base : Nat) (b : Option Addr) (n cap N : Nat) (ns : List Int) (ho : W.ownsRow base 5 1 (.slice b n cap) n (ns.map (Value.int .u8))) (hN : N ≤ n) :
    ∃ v, (Instr.sliceAt 39 (.slice b n cap) none (some (.int .i64 N)) none).run Tryd.prog W = .ok v W ∧ (convert 39 9 v).run Tryd.prog W = .ok (.string (str (ns.take N))) W := by
  have hln : ns.length = n := by have := ho.1; rw [List.length_map] at this; omega
  rcases ho.2 with ⟨e1, e2⟩ | ⟨g, cap', cur, e1, _, hh, hnc, _, h2, h3⟩
  · injection e1 with e3 e4 e5
    subst e3 e5
    obtain rfl : N = 0 := by omega
    refine ⟨_, slice_h W none n 0 0 (Nat.le_refl _), ?_⟩
    rw [run_convert_bytes_string _ 39 9 5 _ _ _ Tryd.underlying39 Tryd.underlying5 Tryd.underlying9]
    rfl
  · injection e1 with e3 e4 e5
    subst e3 e5
    refine ⟨_, slice_h W _ n cap N (by omega), ?_⟩
    have e : (if cap = 0 then some (⟨g, 0, none⟩ : Addr) else (some (⟨g, 0, none⟩ : Addr)).map (·.add 0)) = some ⟨g, 0, none⟩ := by
      split
      · rfl
      · simp [Addr.add]
    rw [e]
    refine conv_at (ns.take N) W g 0 N cap (by rw [List.length_take]; omega) (fun j u hj => ?_)
    refine ho.cells (g := g) rfl j u ?_
    rw [← hj, List.map_take, List.getElem?_take, if_pos]
    have := (List.getElem?_eq_some_iff.1 hj).1
    rw [List.length_map, List.length_take] at this
    omega
theorem new_three (W : World) (a b c : Value) (t : TypeId) : ∀ j u, [a, b, c][j]? = some u → (W.alloc (.cells #[a, b, c] t)).cell? ((⟨W.heap.size, 0, none⟩ : Addr).add j) = some u := by
  intro j u hj
  rw [Addr.add_mid, Nat.zero_add, World.cell?_alloc_at _ _ _ _ rfl]
  simpa using hj

set_option maxHeartbeats 3200000 in
theorem rUn64 (s : ByteArray) (hs : s.size ≤ 140737488355328) (w : World) :
    Calls Tryd.prog 22 #[.string s] w fun e w' => e = .returned (un64V s) ∧ Below w.heap.size w w' := by
  obtain ⟨i5, hi, hz0, hz1, hz2⟩ := info_parts info5
  have HIN : Hid (_ ∧ _ ∧ _ ∧ _) := ⟨hi, hz0, hz1, hz2⟩
  clear hi hz0 hz1 hz2
  have hgb := get_bt s
  obtain ⟨R, HR⟩ : ∃ R, Hid (un64V s = R) := ⟨_, rfl⟩
  rw [HR.out]
  go_enter Tryd.func22, Tryd.ntmps22
  go_wp2
  go_loopw [4, 5] (fun o i wr => ∃ k : Nat, 4 * k ≤ s.size ∧ i = .int .i64 ((4 * k : Nat) : Int) ∧ Hid (wr.ownsRow w.heap.size 5 1 o (3 * k) ((gbL (btL s (4 * k))).map (Value.int .u8))) ∧ Hid (Below w.heap.size w wr)) (fun _ i _ => (s.size - intOf i).toNat)
  case atStart => exact ⟨0, by omega, rfl, World.ownsRow_nil _ _ _ _, Below.refl _ _⟩
  case round =>
    obtain ⟨k, hk, rfl, HO, HB⟩ := hrel
    have hbase := HB.out.size
    by_cases hlt : 4 * k + 3 < s.size
    · have HG : Hid (_ = _) := gb_four s k
      have hkm : 3 * k ≤ 140737488355320 := by omega
      obtain ⟨j, HJ⟩ : ∃ j, Hid (4 * k = j) := ⟨_, rfl⟩
      obtain ⟨m, HM⟩ : ∃ m, Hid (3 * k = m) := ⟨_, rfl⟩
      rw [HJ.out] at hlt HG HO hk
      rw [HM.out] at HO hkm
      have hl0 : (j : Int) < s.size := by omega
      have hl1 : (j : Int) + 1 < s.size := by omega
      have hl2 : (j : Int) + 2 < s.size := by omega
      have hl3 : (j : Int) + 3 < s.size := by omega
      have hj1 : ((j : Int) + 1).toNat = j + 1 := by omega
      have hj2 : ((j : Int) + 2).toNat = j + 2 := by omega
      have hj3 : ((j : Int) + 3).toNat = j + 3 := by omega
      have hw1 : IntKind.i64.wrap ((j : Int) + 1) = (j : Int) + 1 := by rw [IntKind.wrap_i64]; omega
      have hw2 : IntKind.i64.wrap ((j : Int) + 2) = (j : Int) + 2 := by rw [IntKind.wrap_i64]; omega
      have hw3 : IntKind.i64.wrap ((j : Int) + 3) = (j : Int) + 3 := by rw [IntKind.wrap_i64]; omega
      have a0 := bt_nonneg s j; have a1 := bt_le s j
      have b0 := bt_nonneg s (j + 1); have b1 := bt_le s (j + 1)
      have c0 := bt_nonneg s (j + 2); have c1 := bt_le s (j + 2)
      have d0 := bt_nonneg s (j + 3); have d1 := bt_le s (j + 3)
      obtain ⟨a, HA⟩ : ∃ a, Hid (bt s j = a) := ⟨_, rfl⟩
      obtain ⟨b, HBB⟩ : ∃ b, Hid (bt s (j + 1) = b) := ⟨_, rfl⟩
      obtain ⟨c, HC⟩ : ∃ c, Hid (bt s (j + 2) = c) := ⟨_, rfl⟩
      obtain ⟨d, HD⟩ : ∃ d, Hid (bt s (j + 3) = d) := ⟨_, rfl⟩
      have g0 : ∀ (h : j < s.size), ((s[j]'h).toNat : Int) = a := fun h => (hgb j h).trans HA.out
      have g1 : ∀ (h : j + 1 < s.size), ((s[j + 1]'h).toNat : Int) = b := fun h => (hgb (j + 1) h).trans HBB.out
      have g2 : ∀ (h : j + 2 < s.size), ((s[j + 2]'h).toNat : Int) = c := fun h => (hgb (j + 2) h).trans HC.out
      have g3 : ∀ (h : j + 3 < s.size), ((s[j + 3]'h).toNat : Int) = d := fun h => (hgb (j + 3) h).trans HD.out
      rw [HA.out] at a0 a1 HG
      rw [HBB.out] at b0 b1 HG
      rw [HC.out] at c0 c1 HG
      rw [HD.out] at d0 d1 HG
      obtain ⟨ra0, ra1⟩ := rv64 a
      obtain ⟨rb0, rb1⟩ := rv64 b
      obtain ⟨rc0, rc1⟩ := rv64 c
      obtain ⟨rd0, rd1⟩ := rv64 d
      obtain ⟨p, hp⟩ : ∃ p, rv A64 a = p := ⟨_, rfl⟩
      obtain ⟨q, hq⟩ : ∃ q, rv A64 b = q := ⟨_, rfl⟩
      obtain ⟨r, hr⟩ : ∃ r, rv A64 c = r := ⟨_, rfl⟩
      obtain ⟨t, ht⟩ : ∃ t, rv A64 d = t := ⟨_, rfl⟩
      rw [hp] at ra0 ra1 HG
      rw [hq] at rb0 rb1 HG
      rw [hr] at rc0 rc1 HG
      rw [ht] at rd0 rd1 HG
      obtain ⟨n, HN⟩ : ∃ n, Hid (p * 262144 + q * 4096 + r * 64 + t = n) := ⟨_, rfl⟩
      have hn := HN.out
      have n0 : 0 ≤ n := by omega
      have n1 : n < 16777216 := by omega
      have e1 : n / 65536 = p * 4 + q / 16 := by omega
      have e2 : n / 256 % 256 = q % 16 * 16 + r / 4 := by omega
      have e3 : n % 256 = r % 4 * 64 + t := by omega
      have u1 : IntKind.u8.wrap (n / 65536) = n / 65536 := by rw [IntKind.wrap_u8']; omega
      have u2 : IntKind.u8.wrap (n / 256 % 256) = n / 256 % 256 := by rw [IntKind.wrap_u8']; omega
      have u3 : IntKind.u8.wrap (n % 256) = n % 256 := by rw [IntKind.wrap_u8']; omega
      have E : Hid (_ ∧ _ ∧ _) := ⟨e1, e2, e3⟩
      clear hgb e1 e2 e3
      rw [HJ.out]
      go_wp2_with fail
      go_quiet ((go_at_call 34; exact Calls.quiet_of_same (value64' _ (by assumption) (by assumption) _)))
      generalize hW : wr.drewN nq = wr2
      have HB2 : Hid (Below w.heap.size w wr2) := by subst hW; exact below_dN HB.out nq
      have HO2 : Hid (World.ownsRow _ _ _ _ _ _ _) := (show wr2.ownsRow w.heap.size 5 1 u4 m ((gbL (btL s j)).map (Value.int .u8)) by subst hW; exact HO.out)
      clear hW HO HB
      go_wp2_with (at_builtin; refine wpList_append_own _ rfl _ _ 39 rfl w.heap.size 5 i5 (.int .u8 0) 1 1 Tryd.underlying39 HIN.out.1 HIN.out.2.1 HIN.out.2.2.1 HIN.out.2.2.2 rfl (by decide) _ m _ rfl (HO2.out.alloc _) ⟨wr2.heap.size, 0, none⟩ 3 3 [.int .u8 (n / 65536), .int .u8 (n / 256 % 256), .int .u8 (n % 256)] rfl rfl (new_three _ _ _ _ _) (fun u hu => by simp at hu; rcases hu with rfl | rfl | rfl <;> rfl) (by unfold maxLen; omega) (by omega) (by have := HB2.out.size; simp; omega) ?_; intro v' w3 hown' hgrow3 hnil3; have HO3 : Hid (World.ownsRow _ _ _ _ _ _ _) := hown'; have HB3 : Hid (Below w.heap.size w w3) := Below.grown (HB2.out.alloc HB2.out.size _) hgrow3 (by have := HB2.out.size; simp; omega) (fun j hj => (HO2.out.lt _ hj).1); clear hown' hgrow3 hnil3)
      go_roundw
      case rel =>
        have := HJ.out
        have := HM.out
        refine ⟨k + 1, by omega, by go_num, ?_, HB3.out⟩
        rw [show 4 * (k + 1) = j + 4 by omega, HG.out, List.map_append, show 3 * (k + 1) = m + 3 by omega, ← E.out.1, ← E.out.2.1, ← E.out.2.2]
        exact HO3.out
      case measure => simp [intOf]; omega
    · have HG : Hid (_ = _) := gb_end s k hlt hk
      have hz : (gbL (bs s)).length = 3 * k := by rw [HG.out]; have := HO.out.1; rw [List.length_map] at this; omega
      rw [← HG.out] at HO
      have HT : Hid (_ = _) := ref64 s
      rw [HR.out] at HT
      obtain ⟨b, cap, rfl, hcap⟩ := own_slice HO.out
      have hlt' : ¬ ((4 * k : Nat) : Int) + 3 < s.size := by omega
      obtain ⟨m, HM⟩ : ∃ m, Hid (3 * k = m) := ⟨_, rfl⟩
      rw [HM.out] at HO hz hcap
      have hmm : m ≤ 140737488355328 := by have := HM.out; omega
      obtain ⟨j, HJ⟩ : ∃ j, Hid (4 * k = j) := ⟨_, rfl⟩
      rw [HJ.out] at hlt'
      have hjs : j ≤ s.size := by have := HJ.out; omega
      unfold readV failV at HT
      rw [HJ.out, HM.out]
      clear HG HR hlt hk
      have hk2 : kL (bs s) ≤ 2 := by obtain ⟨x, h1, _, h2⟩ := trim2_back (bs s); unfold kL; omega
      -- what comes behind the padding is counted
      rcases (by omega : s.size = 0 ∨ s.size = 1 ∨ 2 ≤ s.size) with h0 | h0 | h0
      · have hκ := kL_none s h0
        have hg : ¬ ((s.size : Int) > 0) := by omega
        have hg1 : ¬ ((s.size : Int) > 1) := by omega
        clear hgb
        have HK : Hid (gcL (bs s) = (gbL (bs s)).take (m)) := by show _ = _; unfold gcL; rw [hκ, hz]; rfl
        rw [hκ, hz] at HT
        by_cases hm : 0 > m
        · exact absurd hm (by omega)
        · rw [if_neg hm] at HT
          have hm' : ¬ (0 : Int) > (m : Int) := by omega
          obtain ⟨v, hs1, hs2⟩ := cut_conv wr w.heap.size b m cap (m) (gbL (bs s)) HO.out (by omega)
          rw [← HK.out] at hs2
          have hlz : (gcL (bs s)).length ≤ m := by rw [HK.out, List.length_take]; omega
          have hin : In 256 (gcL (bs s)) := fun x hx => gbL_in _ x (List.mem_of_mem_take hx)
          have HH : Hid (∀ w', Calls _ _ _ _ _) := fun w' => rB64 (str (gcL (bs s))) (by rw [str_size]; omega) w'
          rw [bs_str _ hin] at HH
          clear HK hin hlz HO
          by_cases he : str (b64L (gcL (bs s))) = s
          · rw [if_pos he] at HT
            rw [he] at HH
            clear he
            generalize str (gcL (bs s)) = G at *
            have hbb : (s.toList == s.toList) = true := beq_self_eq_true _
            go_wp2_with fail
            refine (HH.out _).mono ?_
            rintro e w1 ⟨rfl, rfl⟩
            go_wp2
            go_ret2
            exact ⟨by rw [← HT.out]; rfl, HB.out⟩
          · rw [if_neg he] at HT
            have hbb : ((str (b64L (gcL (bs s)))).toList == s.toList) = false := by rw [toList_bs]; exact decide_eq_false he
            clear he
            generalize str (b64L (gcL (bs s))) = H at *
            generalize str (gcL (bs s)) = G at *
            go_wp2_with fail
            refine (HH.out _).mono ?_
            rintro e w1 ⟨rfl, rfl⟩
            go_wp2
            go_ret2
            exact ⟨by rw [← HT.out]; rfl, HB.out⟩
      · have hg : (s.size : Int) > 0 := by omega
        have hg1 : ¬ ((s.size : Int) > 1) := by omega
        have hi1 : (s.size : Int) - 1 = ((0 : Nat) : Int) := by omega
        have hi2 : (0 : Int) < s.size := by omega
        obtain ⟨x, HX⟩ : ∃ x, Hid (bt s 0 = x) := ⟨_, rfl⟩
        have hgx : ∀ (h : 0 < s.size), ((s[0]'h).toNat : Int) = x := fun h => (hgb 0 h).trans HX.out
        clear hgb
        by_cases hx : x = 61
        · have hκ := kL_one' s h0 (HX.out.trans hx)
          have hxb : (x == 61) = true := by rw [hx]; rfl
          clear hx h0
          have HK : Hid (gcL (bs s) = (gbL (bs s)).take (m - 1)) := by show _ = _; unfold gcL; rw [hκ, hz]
          rw [hκ, hz] at HT
          by_cases hm : 1 > m
          · rw [if_pos hm] at HT
            have hm' : (1 : Int) > (m : Int) := by omega
            go_wp2
            go_ret2
            exact ⟨by rw [← HT.out]; rfl, HB.out⟩
          · rw [if_neg hm] at HT
            have hm' : ¬ (1 : Int) > (m : Int) := by omega
            obtain ⟨v, hs1, hs2⟩ := cut_conv wr w.heap.size b m cap (m - 1) (gbL (bs s)) HO.out (by omega)
            rw [← HK.out] at hs2
            have hlz : (gcL (bs s)).length ≤ m := by rw [HK.out, List.length_take]; omega
            have hin : In 256 (gcL (bs s)) := fun x hx => gbL_in _ x (List.mem_of_mem_take hx)
            have HH : Hid (∀ w', Calls _ _ _ _ _) := fun w' => rB64 (str (gcL (bs s))) (by rw [str_size]; omega) w'
            rw [bs_str _ hin] at HH
            have hsub : (m : Int) - 1 = ((m - 1 : Nat) : Int) := by omega
            clear HK hin hlz HO
            by_cases he : str (b64L (gcL (bs s))) = s
            · rw [if_pos he] at HT
              rw [he] at HH
              clear he
              generalize str (gcL (bs s)) = G at *
              have hbb : (s.toList == s.toList) = true := beq_self_eq_true _
              go_wp2_with fail
              refine (HH.out _).mono ?_
              rintro e w1 ⟨rfl, rfl⟩
              go_wp2
              go_ret2
              exact ⟨by rw [← HT.out]; rfl, HB.out⟩
            · rw [if_neg he] at HT
              have hbb : ((str (b64L (gcL (bs s)))).toList == s.toList) = false := by rw [toList_bs]; exact decide_eq_false he
              clear he
              generalize str (b64L (gcL (bs s))) = H at *
              generalize str (gcL (bs s)) = G at *
              go_wp2_with fail
              refine (HH.out _).mono ?_
              rintro e w1 ⟨rfl, rfl⟩
              go_wp2
              go_ret2
              exact ⟨by rw [← HT.out]; rfl, HB.out⟩
        · have hκ := kL_no s 0 h0 (by rw [HX.out]; exact hx)
          have hxb : (x == 61) = false := beq_eq_false_iff_ne.2 hx
          clear hx h0
          have HK : Hid (gcL (bs s) = (gbL (bs s)).take (m)) := by show _ = _; unfold gcL; rw [hκ, hz]; rfl
          rw [hκ, hz] at HT
          by_cases hm : 0 > m
          · exact absurd hm (by omega)
          · rw [if_neg hm] at HT
            have hm' : ¬ (0 : Int) > (m : Int) := by omega
            obtain ⟨v, hs1, hs2⟩ := cut_conv wr w.heap.size b m cap (m) (gbL (bs s)) HO.out (by omega)
            rw [← HK.out] at hs2
            have hlz : (gcL (bs s)).length ≤ m := by rw [HK.out, List.length_take]; omega
            have hin : In 256 (gcL (bs s)) := fun x hx => gbL_in _ x (List.mem_of_mem_take hx)
            have HH : Hid (∀ w', Calls _ _ _ _ _) := fun w' => rB64 (str (gcL (bs s))) (by rw [str_size]; omega) w'
            rw [bs_str _ hin] at HH
            clear HK hin hlz HO
            by_cases he : str (b64L (gcL (bs s))) = s
            · rw [if_pos he] at HT
              rw [he] at HH
              clear he
              generalize str (gcL (bs s)) = G at *
              have hbb : (s.toList == s.toList) = true := beq_self_eq_true _
              go_wp2_with fail
              refine (HH.out _).mono ?_
              rintro e w1 ⟨rfl, rfl⟩
              go_wp2
              go_ret2
              exact ⟨by rw [← HT.out]; rfl, HB.out⟩
            · rw [if_neg he] at HT
              have hbb : ((str (b64L (gcL (bs s)))).toList == s.toList) = false := by rw [toList_bs]; exact decide_eq_false he
              clear he
              generalize str (b64L (gcL (bs s))) = H at *
              generalize str (gcL (bs s)) = G at *
              go_wp2_with fail
              refine (HH.out _).mono ?_
              rintro e w1 ⟨rfl, rfl⟩
              go_wp2
              go_ret2
              exact ⟨by rw [← HT.out]; rfl, HB.out⟩
      · obtain ⟨n, hn⟩ : ∃ n, s.size = n + 2 := ⟨s.size - 2, by omega⟩
        have hg : (s.size : Int) > 0 := by omega
        have hg1 : (s.size : Int) > 1 := by omega
        have hi1 : (s.size : Int) - 1 = ((n + 1 : Nat) : Int) := by omega
        have hi2 : (s.size : Int) - 2 = ((n : Nat) : Int) := by omega
        have hi3 : ((n + 1 : Nat) : Int) < s.size := by omega
        have hi4 : ((n : Nat) : Int) < s.size := by omega
        have hi5 : ((n + 1 : Nat) : Int).toNat = n + 1 := by omega
        obtain ⟨x, HX⟩ : ∃ x, Hid (bt s (n + 1) = x) := ⟨_, rfl⟩
        obtain ⟨y, HY⟩ : ∃ y, Hid (bt s n = y) := ⟨_, rfl⟩
        have hgx : ∀ (h : n + 1 < s.size), ((s[n + 1]'h).toNat : Int) = x := fun h => (hgb (n + 1) h).trans HX.out
        have hgy : ∀ (h : n < s.size), ((s[n]'h).toNat : Int) = y := fun h => (hgb n h).trans HY.out
        have HN : Hid (s.size = n + 2) := hn
        clear hgb hn
        by_cases hx : x = 61
        · have hxb : (x == 61) = true := by rw [hx]; rfl
          by_cases hy : y = 61
          · have hκ := kL_two s n HN.out (HX.out.trans hx) (HY.out.trans hy)
            have hyb : (y == 61) = true := by rw [hy]; rfl
            clear hx hy
            have HK : Hid (gcL (bs s) = (gbL (bs s)).take (m - 2)) := by show _ = _; unfold gcL; rw [hκ, hz]
            rw [hκ, hz] at HT
            by_cases hm : 2 > m
            · rw [if_pos hm] at HT
              have hm' : (2 : Int) > (m : Int) := by omega
              go_wp2
              go_ret2
              exact ⟨by rw [← HT.out]; rfl, HB.out⟩
            · rw [if_neg hm] at HT
              have hm' : ¬ (2 : Int) > (m : Int) := by omega
              obtain ⟨v, hs1, hs2⟩ := cut_conv wr w.heap.size b m cap (m - 2) (gbL (bs s)) HO.out (by omega)
              rw [← HK.out] at hs2
              have hlz : (gcL (bs s)).length ≤ m := by rw [HK.out, List.length_take]; omega
              have hin : In 256 (gcL (bs s)) := fun x hx => gbL_in _ x (List.mem_of_mem_take hx)
              have HH : Hid (∀ w', Calls _ _ _ _ _) := fun w' => rB64 (str (gcL (bs s))) (by rw [str_size]; omega) w'
              rw [bs_str _ hin] at HH
              have hsub : (m : Int) - 2 = ((m - 2 : Nat) : Int) := by omega
              clear HK hin hlz HO
              by_cases he : str (b64L (gcL (bs s))) = s
              · rw [if_pos he] at HT
                rw [he] at HH
                clear he
                generalize str (gcL (bs s)) = G at *
                have hbb : (s.toList == s.toList) = true := beq_self_eq_true _
                go_wp2_with fail
                refine (HH.out _).mono ?_
                rintro e w1 ⟨rfl, rfl⟩
                go_wp2
                go_ret2
                exact ⟨by rw [← HT.out]; rfl, HB.out⟩
              · rw [if_neg he] at HT
                have hbb : ((str (b64L (gcL (bs s)))).toList == s.toList) = false := by rw [toList_bs]; exact decide_eq_false he
                clear he
                generalize str (b64L (gcL (bs s))) = H at *
                generalize str (gcL (bs s)) = G at *
                go_wp2_with fail
                refine (HH.out _).mono ?_
                rintro e w1 ⟨rfl, rfl⟩
                go_wp2
                go_ret2
                exact ⟨by rw [← HT.out]; rfl, HB.out⟩
          · have hκ := kL_one s n HN.out (HX.out.trans hx) (by rw [HY.out]; exact hy)
            have hyb : (y == 61) = false := beq_eq_false_iff_ne.2 hy
            clear hx hy
            have HK : Hid (gcL (bs s) = (gbL (bs s)).take (m - 1)) := by show _ = _; unfold gcL; rw [hκ, hz]
            rw [hκ, hz] at HT
            by_cases hm : 1 > m
            · rw [if_pos hm] at HT
              have hm' : (1 : Int) > (m : Int) := by omega
              go_wp2
              go_ret2
              exact ⟨by rw [← HT.out]; rfl, HB.out⟩
            · rw [if_neg hm] at HT
              have hm' : ¬ (1 : Int) > (m : Int) := by omega
              obtain ⟨v, hs1, hs2⟩ := cut_conv wr w.heap.size b m cap (m - 1) (gbL (bs s)) HO.out (by omega)
              rw [← HK.out] at hs2
              have hlz : (gcL (bs s)).length ≤ m := by rw [HK.out, List.length_take]; omega
              have hin : In 256 (gcL (bs s)) := fun x hx => gbL_in _ x (List.mem_of_mem_take hx)
              have HH : Hid (∀ w', Calls _ _ _ _ _) := fun w' => rB64 (str (gcL (bs s))) (by rw [str_size]; omega) w'
              rw [bs_str _ hin] at HH
              have hsub : (m : Int) - 1 = ((m - 1 : Nat) : Int) := by omega
              clear HK hin hlz HO
              by_cases he : str (b64L (gcL (bs s))) = s
              · rw [if_pos he] at HT
                rw [he] at HH
                clear he
                generalize str (gcL (bs s)) = G at *
                have hbb : (s.toList == s.toList) = true := beq_self_eq_true _
                go_wp2_with fail
                refine (HH.out _).mono ?_
                rintro e w1 ⟨rfl, rfl⟩
                go_wp2
                go_ret2
                exact ⟨by rw [← HT.out]; rfl, HB.out⟩
              · rw [if_neg he] at HT
                have hbb : ((str (b64L (gcL (bs s)))).toList == s.toList) = false := by rw [toList_bs]; exact decide_eq_false he
                clear he
                generalize str (b64L (gcL (bs s))) = H at *
                generalize str (gcL (bs s)) = G at *
                go_wp2_with fail
                refine (HH.out _).mono ?_
                rintro e w1 ⟨rfl, rfl⟩
                go_wp2
                go_ret2
                exact ⟨by rw [← HT.out]; rfl, HB.out⟩
        · have hκ := kL_no s (n + 1) HN.out (by rw [HX.out]; exact hx)
          have hxb : (x == 61) = false := beq_eq_false_iff_ne.2 hx
          clear hx
          have HK : Hid (gcL (bs s) = (gbL (bs s)).take (m)) := by show _ = _; unfold gcL; rw [hκ, hz]; rfl
          rw [hκ, hz] at HT
          by_cases hm : 0 > m
          · exact absurd hm (by omega)
          · rw [if_neg hm] at HT
            have hm' : ¬ (0 : Int) > (m : Int) := by omega
            obtain ⟨v, hs1, hs2⟩ := cut_conv wr w.heap.size b m cap (m) (gbL (bs s)) HO.out (by omega)
            rw [← HK.out] at hs2
            have hlz : (gcL (bs s)).length ≤ m := by rw [HK.out, List.length_take]; omega
            have hin : In 256 (gcL (bs s)) := fun x hx => gbL_in _ x (List.mem_of_mem_take hx)
            have HH : Hid (∀ w', Calls _ _ _ _ _) := fun w' => rB64 (str (gcL (bs s))) (by rw [str_size]; omega) w'
            rw [bs_str _ hin] at HH
            clear HK hin hlz HO
            by_cases he : str (b64L (gcL (bs s))) = s
            · rw [if_pos he] at HT
              rw [he] at HH
              clear he
              generalize str (gcL (bs s)) = G at *
              have hbb : (s.toList == s.toList) = true := beq_self_eq_true _
              go_wp2_with fail
              refine (HH.out _).mono ?_
              rintro e w1 ⟨rfl, rfl⟩
              go_wp2
              go_ret2
              exact ⟨by rw [← HT.out]; rfl, HB.out⟩
            · rw [if_neg he] at HT
              have hbb : ((str (b64L (gcL (bs s)))).toList == s.toList) = false := by rw [toList_bs]; exact decide_eq_false he
              clear he
              generalize str (b64L (gcL (bs s))) = H at *
              generalize str (gcL (bs s)) = G at *
              go_wp2_with fail
              refine (HH.out _).mono ?_
              rintro e w1 ⟨rfl, rfl⟩
              go_wp2
              go_ret2
              exact ⟨by rw [← HT.out]; rfl, HB.out⟩
end Go.Proofs.YtpbapaghcabehaaDoor.tq
