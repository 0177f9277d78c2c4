import Derived.Test.YthdkbjbhjfiaiaaGreatDoorTj
namespace Go.Proofs.YthdkbjbhjfiaiaaGreatDoor.tk
open Go.RowKit Go.PlainAid
open Go.Proofs.YthdkbjbhjfiaiaaGreatDoor.ta Go.Proofs.YthdkbjbhjfiaiaaGreatDoor.tb Go.Proofs.YthdkbjbhjfiaiaaGreatDoor.tc Go.Proofs.YthdkbjbhjfiaiaaGreatDoor.td Go.Proofs.YthdkbjbhjfiaiaaGreatDoor.te Go.Proofs.YthdkbjbhjfiaiaaGreatDoor.tf Go.Proofs.YthdkbjbhjfiaiaaGreatDoor.tg Go.Proofs.YthdkbjbhjfiaiaaGreatDoor.th Go.Proofs.YthdkbjbhjfiaiaaGreatDoor.ti Go.Proofs.YthdkbjbhjfiaiaaGreatDoor.tj
set_option linter.unusedVariables false
set_option maxRecDepth 4000

def readV (l : List Int) : Value := .tuple #[.string (str l), .int .i64 0]
def failV (e : Int) : Value := .tuple #[.string ByteArray.empty, .int .i64 e]
open Classical in
noncomputable def unhexV (s : ByteArray) : Value := if s.size % 2 = 0 ∧ Ok A16 (bs s) then readV (unhexL (bs s)) else failV 41
open Classical in
noncomputable def un64V (s : ByteArray) : Value := if Acc64 (bs s) then readV (cutL (bs s)) else failV 40

-- trimming, in lists
theorem bs_trS (s : ByteArray) : bs (trS s 61) = trim1 (bs s) := by
  unfold trS trim1
  by_cases h0 : s.size = 0
  · have e : bs s = [] := List.length_eq_zero_iff.1 (by rw [bs_length]; exact h0)
    rw [if_neg (fun h => h.1 h0), e]
    rfl
  · obtain ⟨n, hn⟩ : ∃ n, s.size = n + 1 := ⟨s.size - 1, by omega⟩
    have hl : (bs s).length = n + 1 := by rw [bs_length, hn]
    have hsplit : bs s = (bs s).take n ++ [bt s n] := by
      have : bs s = btL s (n + 1) := by unfold bs; rw [hn]
      rw [this, btL_succ, List.take_left' (btL_length s n)]
    have hlast : (bs s).getLast? = some (bt s n) := by rw [hsplit]; simp
    have hx : bs (s.extract (s.size - 1) s.size) = [bt s n] := by
      rw [bs_extract _ _ _ (by omega) (by omega), hn, List.take_of_length_le (by omega), hsplit, show n + 1 - 1 = n by omega, List.drop_left' (by rw [List.length_take]; omega)]
    have hlit : bs (⟨#[61]⟩ : ByteArray) = [61] := by decide +kernel
    have hiff : (s.size ≠ 0 ∧ s.extract (s.size - 1) s.size = ⟨#[61]⟩) ↔ (bs s).getLast? = some 61 := by
      rw [hlast]
      constructor
      · rintro ⟨_, h⟩
        have := congrArg bs h
        rw [hx, hlit] at this
        rw [List.cons.inj this |>.1]
      · intro h
        refine ⟨h0, bs_inj ?_⟩
        rw [hx, hlit, Option.some.inj h]
    by_cases h : (bs s).getLast? = some 61
    · rw [if_pos (hiff.2 h), if_pos h, bs_extract _ _ _ (by omega) (by omega), hn, List.drop_zero, List.dropLast_eq_take, hl]
    · rw [if_neg (fun k => h (hiff.1 k)), if_neg h]
theorem bs_trS2 (s : ByteArray) : bs (trS (trS s 61) 61) = trim2 (bs s) := by rw [bs_trS, bs_trS]; rfl

set_option maxHeartbeats 1600000 in
theorem unb64 (s : ByteArray) (hs : s.size ≤ 140737488355328) (w : World) :
    Calls Tryz.prog 55 #[.string s] w fun e w' => e = .returned (un64V s) ∧ Below w.heap.size w w' := by
  obtain ⟨R, HR⟩ : ∃ R, Hid (un64V s = R) := ⟨_, rfl⟩
  rw [HR.out]
  by_cases h4 : s.size % 4 = 0
  · have hm : (s.size : Int) % 4 = 0 := by omega
    have s1 := trS_size s 61
    have s2 := trS_size (trS s 61) 61
    have H1 : Hid (∀ w, Calls _ _ _ _ _) := fun w => trimSuffix s 61 (by omega) w
    have H2 : Hid (∀ w, Calls _ _ _ _ _) := fun w => trimSuffix (trS s 61) 61 (by omega) w
    obtain ⟨k, hk2, hke, hk⟩ := trim2_back (bs s)
    have e2 := bs_trS2 s
    have hz2 : (trS (trS s 61) 61).size = (trim2 (bs s)).length := by rw [← e2, bs_length]
    rw [bs_length] at hk
    have hkz : (trS (trS s 61) 61).size + k = s.size := by
      have := congrArg List.length hke
      rw [bs_length, List.length_append, List.length_replicate] at this
      omega
    have hlit : bs ((⟨#[65, 65]⟩ : ByteArray).extract 0 k) = List.replicate k 65 := lit_part 65 k hk2
    have hbz : bs (trS (trS s 61) 61 ++ (⟨#[65, 65]⟩ : ByteArray).extract 0 k) = trim2 (bs s) ++ List.replicate ((bs s).length - (trim2 (bs s)).length) 65 := by
      rw [bs_two, e2, hlit, bs_length, ← hk]
    have hlz : ((⟨#[65, 65]⟩ : ByteArray).extract 0 k).size = k := by rw [← bs_length, hlit, List.length_replicate]
    have H3 : Hid (Calls _ _ _ _ _) := outOfSigns (trS (trS s 61) 61 ++ (⟨#[65, 65]⟩ : ByteArray).extract 0 k) L64 A64 6 (by omega) bs64 a64 (by rw [ByteArray.size_append, hlz]; omega) w
    have hk' : (k : Int) ≤ 2 := by omega
    have hkk : (s.size : Int) - ((trS (trS s 61) 61).size : Int) = (k : Int) := by omega
    have hlz' : ((⟨#[65, 65]⟩ : ByteArray).extract 0 k).size ≤ 2 := by omega
    by_cases hok : Ok A64 (trim2 (bs s) ++ List.replicate ((bs s).length - (trim2 (bs s)).length) 65)
    · have hin := a64.vs_in _ (trim_in _ (bs_in s)) hok
      have hlen : (vs A64 (trim2 (bs s) ++ List.replicate ((bs s).length - (trim2 (bs s)).length) 65)).length = 4 * (s.size / 4) := by
        rw [vs_length, List.length_append, List.length_replicate, bs_length, ← hz2]; omega
      have hV : outR A64 6 (trS (trS s 61) 61 ++ (⟨#[65, 65]⟩ : ByteArray).extract 0 k) = .tuple #[.string (str (fullL (bs s))), .bool true] := by
        unfold outR; rw [hbz, if_pos hok, mach68 _ (by omega) hin]; rfl
      rw [hV] at H3
      have hfl : (fullL (bs s)).length = 3 * (s.size / 4) := eights_length _ _ hlen
      have hfin : In 256 (fullL (bs s)) := eights_in _ _ (Nat.le_refl _) hin
      have hFz : (str (fullL (bs s))).size = (fullL (bs s)).length := str_size _
      have hkF : k ≤ (str (fullL (bs s))).size := by omega
      have hFm : (str (fullL (bs s))).size ≤ 140737488355328 := by omega
      have hcut : str (cutL (bs s)) = (str (fullL (bs s))).extract 0 ((str (fullL (bs s))).size - k) := by
        apply bs_inj
        rw [bs_extract _ _ _ (by omega) (by omega), bs_str _ hfin, hFz, bs_str]
        · unfold cutL; rw [bs_length, ← hk]; simp
        · intro x hx; exact hfin x (List.mem_of_mem_take hx)
      have hzero : ((str (fullL (bs s))).extract ((str (fullL (bs s))).size - k) (str (fullL (bs s))).size = (⟨#[0, 0]⟩ : ByteArray).extract 0 k) ↔ (fullL (bs s)).drop ((fullL (bs s)).length - ((bs s).length - (trim2 (bs s)).length)) = List.replicate ((bs s).length - (trim2 (bs s)).length) 0 := by
        have e0 : bs ((⟨#[0, 0]⟩ : ByteArray).extract 0 k) = List.replicate k 0 := lit_part 0 k hk2
        have e1 : bs ((str (fullL (bs s))).extract ((str (fullL (bs s))).size - k) (str (fullL (bs s))).size) = (fullL (bs s)).drop ((fullL (bs s)).length - k) := by
          rw [bs_extract _ _ _ (by omega) (by omega), bs_str _ hfin, hFz, List.take_of_length_le (Nat.le_refl _)]
        rw [bs_length, ← hk]
        constructor
        · intro h; rw [← e1, h, e0]
        · intro h; apply bs_inj; rw [e1, h, e0]
      have hc1 : ((str (fullL (bs s))).size : Int) - (k : Int) = (((str (fullL (bs s))).size - k : Nat) : Int) := by omega
      by_cases hz : (fullL (bs s)).drop ((fullL (bs s)).length - ((bs s).length - (trim2 (bs s)).length)) = List.replicate ((bs s).length - (trim2 (bs s)).length) 0
      · have HE : Hid (R = readV (cutL (bs s))) := by show _ = _; rw [← HR.out]; unfold un64V; rw [if_pos ⟨by rw [bs_length]; exact h4, hok, hz⟩]
        have hb : (((str (fullL (bs s))).extract ((str (fullL (bs s))).size - k) (str (fullL (bs s))).size).toList == ((⟨#[0, 0]⟩ : ByteArray).extract 0 k).toList) = true := by rw [toList_bs]; exact decide_eq_true (hzero.2 hz)
        unfold readV at HE
        rw [hcut] at HE
        unfold L64 at H3
        clear HR hV hok hz hzero hcut hfin hFz hfl hlen hin hbz hlit hz2 e2 hk hke
        generalize str (fullL (bs s)) = F at *
        generalize trS (trS s 61) 61 = G2 at *
        generalize trS s 61 = G1 at *
        obtain ⟨m, HM⟩ : ∃ m, Hid (F.size - k = m) := ⟨_, rfl⟩
        rw [HM.out] at hc1 hb HE
        have hm1 : (m : Int) ≤ F.size := by have := HM.out; omega
        go_enter Tryz.func55, Tryz.ntmps55
        go_wp2_with fail
        refine (H1.out _).mono ?_
        rintro e w1 ⟨rfl, rfl⟩
        go_wp2_with fail
        refine (H2.out _).mono ?_
        rintro e w1 ⟨rfl, rfl⟩
        go_wp2_with fail
        refine H3.out.mono ?_
        rintro e w2 ⟨rfl, hb2⟩
        have HB : Hid (Below _ _ _) := hb2
        clear hb2 H1 H2 H3
        go_wp2_with fail
        go_quiet (fail)
        go_wp2
        go_ret2
        exact ⟨by rw [HE.out]; rfl, below_dN HB.out nq⟩
      · have HE : Hid (R = failV 40) := by show _ = _; rw [← HR.out]; unfold un64V; rw [if_neg (fun h => hz h.zero)]
        have hb : (((str (fullL (bs s))).extract ((str (fullL (bs s))).size - k) (str (fullL (bs s))).size).toList == ((⟨#[0, 0]⟩ : ByteArray).extract 0 k).toList) = false := by rw [toList_bs]; exact decide_eq_false (fun h => hz (hzero.1 h))
        unfold failV at HE
        unfold L64 at H3
        clear HR hV hok hz hzero hcut hfin hFz hfl hlen hin hbz hlit hz2 e2 hk hke
        generalize str (fullL (bs s)) = F at *
        generalize trS (trS s 61) 61 = G2 at *
        generalize trS s 61 = G1 at *
        obtain ⟨m, HM⟩ : ∃ m, Hid (F.size - k = m) := ⟨_, rfl⟩
        rw [HM.out] at hc1 hb
        have hm1 : (m : Int) ≤ F.size := by have := HM.out; omega
        go_enter Tryz.func55, Tryz.ntmps55
        go_wp2_with fail
        refine (H1.out _).mono ?_
        rintro e w1 ⟨rfl, rfl⟩
        go_wp2_with fail
        refine (H2.out _).mono ?_
        rintro e w1 ⟨rfl, rfl⟩
        go_wp2_with fail
        refine H3.out.mono ?_
        rintro e w2 ⟨rfl, hb2⟩
        have HB : Hid (Below _ _ _) := hb2
        clear hb2 H1 H2 H3
        go_wp2_with fail
        go_quiet (fail)
        go_wp2
        go_ret2
        exact ⟨by rw [HE.out]; rfl, below_dN HB.out nq⟩
    · have hV : outR A64 6 (trS (trS s 61) 61 ++ (⟨#[65, 65]⟩ : ByteArray).extract 0 k) = .tuple #[.string ByteArray.empty, .bool false] := by
        unfold outR; rw [hbz, if_neg hok]
      rw [hV] at H3
      have HE : Hid (R = failV 40) := by show _ = _; rw [← HR.out]; unfold un64V; rw [if_neg (fun h => hok h.ok)]
      unfold failV at HE
      unfold L64 at H3
      clear HR hV hok hbz hlit hz2 e2 hk hke
      generalize trS (trS s 61) 61 = G2 at *
      generalize trS s 61 = G1 at *
      go_enter Tryz.func55, Tryz.ntmps55
      go_wp2_with fail
      refine (H1.out _).mono ?_
      rintro e w1 ⟨rfl, rfl⟩
      go_wp2_with fail
      refine (H2.out _).mono ?_
      rintro e w1 ⟨rfl, rfl⟩
      go_wp2_with fail
      refine H3.out.mono ?_
      rintro e w2 ⟨rfl, hb2⟩
      have HB : Hid (Below _ _ _) := hb2
      clear hb2 H1 H2 H3
      go_wp2
      go_ret2
      exact ⟨by rw [HE.out]; rfl, HB.out⟩
  · have hm : ((s.size : Int) % 4 == 0) = false := beq_eq_false_iff_ne.2 (by omega)
    have hm2 : ¬ ((s.size : Int) % 4 = 0) := by omega
    have HE : Hid (R = failV 40) := by show _ = _; rw [← HR.out]; unfold un64V; rw [if_neg (fun h => h4 (by have := h.four; rwa [bs_length] at this))]
    unfold failV at HE
    clear HR
    go_enter Tryz.func55, Tryz.ntmps55
    go_wp2
    go_ret2
    exact ⟨by rw [HE.out]; rfl, Below.refl _ _⟩
end Go.Proofs.YthdkbjbhjfiaiaaGreatDoor.tk
