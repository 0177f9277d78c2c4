import Derived.Test.YtgioekepoebibaaQh
import Derived.Test.YtgioekepoebibaaQg
import Derived.Test.YtgioekepoebibaaQc
import Derived.OpenShut
namespace Go.Proofs.Ytgioekepoebibaa.lb
open Go.RowKit Go.PlainAid
open Go.Proofs.Ytgioekepoebibaa.na Go.Proofs.Ytgioekepoebibaa.nb Go.Proofs.Ytgioekepoebibaa.pa Go.Proofs.Ytgioekepoebibaa.pd Go.Proofs.Ytgioekepoebibaa.ra Go.Proofs.Ytgioekepoebibaa.rb Go.Proofs.Ytgioekepoebibaa.ri Go.Proofs.Ytgioekepoebibaa.qa Go.Proofs.Ytgioekepoebibaa.qb Go.Proofs.Ytgioekepoebibaa.qc Go.Proofs.Ytgioekepoebibaa.qg Go.Proofs.Ytgioekepoebibaa.qh
set_option linter.unusedVariables false
set_option linter.unusedSimpArgs false
def shF (s : ByteArray) : ByteArray := if 524288 < s.size then s.extract 0 524288 else s
theorem shF_size (s : ByteArray) : (shF s).size ≤ 524288 := by
  unfold shF
  split
  · rw [ext_size]; omega
  · omega
theorem shortC (s : ByteArray) (w : World) (hs : s.size ≤ 140737488351232) : Calls Try.prog 12 #[.string s] w fun e w' => e = .returned (.string (shF s)) ∧ w' = w := by
  by_cases h : 524288 < s.size
  · have h' : (524288 : Int) < s.size := by omega
    rw [shF, if_pos h]
    go_enter Try.func12, Try.ntmps12
    go_wp2
    go_ret
    exact ⟨rfl, rfl⟩
  · have h' : ¬ (524288 : Int) < s.size := by omega
    rw [shF, if_neg h]
    go_enter Try.func12, Try.ntmps12
    go_wp2
    go_ret
    exact ⟨rfl, rfl⟩
theorem same_text (a : ByteArray) : (a.toList != a.toList) = false := by simp
set_option maxRecDepth 100000 in
set_option maxHeartbeats 12800000 in
theorem back_core (kind number K M cut E1 E2 pk pn pe : Int) (payload more b P F FM pp G : ByteArray) (w : World)
    (hF : F.size = P.size + 18) (hP : P.size ≤ 524288) (hm : more.size ≤ 140737488351232)
    (CK : Hid (∀ w, Calls Try.prog 11 #[.int .i64 kind] w fun e w' => e = .returned (.int .i64 K) ∧ w' = w))
    (CN : Hid (∀ w, Calls Try.prog 10 #[.int .i64 number] w fun e w' => e = .returned (.int .i64 M) ∧ w' = w))
    (CS : Hid (∀ w, Calls Try.prog 12 #[.string payload] w fun e w' => e = .returned (.string P) ∧ w' = w))
    (CF : Hid (∀ w, Calls Try.prog 13 #[.int .i64 K, .int .i64 M, .string P] w fun e w' => e = .returned (.tuple #[.string F, .int .i64 0]) ∧ Below w.heap.size w w'))
    (CP : Hid (∀ w, Calls Try.prog 14 #[.string F] w fun e w' => e = .returned (.tuple #[.int .i64 K, .int .i64 M, .string P, .int .i64 0]) ∧ Below w.heap.size w w'))
    (CM : Hid (∃ x y z, ∀ w, Calls Try.prog 14 #[.string (F ++ more)] w fun e w' => e = .returned (.tuple #[.int .i64 x, .int .i64 y, .string z, .int .i64 E1]) ∧ Below w.heap.size w w'))
    (HM : Hid ((more.toList != []) = true → E1 = 111))
    (CC : Hid (∀ c : Nat, cut = c → c < F.size → ∃ x y z, ∀ w, Calls Try.prog 14 #[.string (F.extract 0 c)] w fun e w' => e = .returned (.tuple #[.int .i64 x, .int .i64 y, .string z, .int .i64 12]) ∧ Below w.heap.size w w'))
    (CB : Hid (∀ w, Calls Try.prog 14 #[.string b] w fun e w' => e = .returned (.tuple #[.int .i64 pk, .int .i64 pn, .string pp, .int .i64 pe]) ∧ Below w.heap.size w w'))
    (HB : Hid (pe ≠ 0 → pk = 0 ∧ pn = 0 ∧ pp = ⟨#[]⟩))
    (CG : Hid (pe = 0 → ∀ w, Calls Try.prog 13 #[.int .i64 pk, .int .i64 pn, .string pp] w fun e w' => e = .returned (.tuple #[.string b, .int .i64 0]) ∧ Below w.heap.size w w')) :
    Calls Try.prog 4 #[.int .i64 kind, .int .i64 number, .string payload, .string more, .int .i64 cut, .string b] w fun e w' => e = .returned (.bool true) ∧ Below w.heap.size w w' := by
  have t1 := same_text P
  obtain ⟨x1, y1, z1, CM1⟩ := CM.out
  have CM : Hid (∀ w, Calls _ _ _ _ _) := CM1
  clear CM1
  have hsum : (F ++ more).size ≤ 281474976710656 := by rw [app_size]; omega
  have tail : Hid (∀ w1, Below w.heap.size w w1 → True) := fun _ _ => trivial
  go_enter Try.func4, Try.ntmps4
  go_wp2_with fail
  refine (CK.out _).mono ?_
  rintro _ _ ⟨rfl, hw⟩; rw [hw]; clear hw
  go_wp2_with fail
  refine (CN.out _).mono ?_
  rintro _ _ ⟨rfl, hw⟩; rw [hw]; clear hw
  go_wp2_with fail
  refine (CS.out _).mono ?_
  rintro _ _ ⟨rfl, hw⟩; rw [hw]; clear hw
  go_wp2_with fail
  refine (CF.out _).mono ?_
  rintro _ w1 ⟨rfl, b1⟩
  have B1 : Hid (Below w.heap.size w w1) := b1
  clear b1
  go_wp2_with fail
  refine (CP.out _).mono ?_
  rintro _ w2 ⟨rfl, b2⟩
  have B2 : Hid (Below w.heap.size w w2) := over B1.out b2
  clear b2 B1
  go_wp2_with fail
  refine (CM.out _).mono ?_
  rintro _ w3 ⟨rfl, b3⟩
  have B3 : Hid (Below w.heap.size w w3) := over B2.out b3
  clear b3 B2
  have FIN : Hid (∀ w4, Below w.heap.size w w4 → ∀ w5, Below w4.heap.size w4 w5 → Below w.heap.size w w5) := fun w4 h4 w5 h5 => over h4 h5
  have m1 : (¬ more.toList = [] ∧ E1 = 111) ∨ more.toList = [] := by
    by_cases h : more.toList = []
    · exact .inr h
    · exact .inl ⟨h, HM.out (by rw [bne_iff_ne]; exact h)⟩
  have m2 : cut < 0 ∨ (0 ≤ cut ∧ (F.size : Int) ≤ cut) ∨ ∃ c : Nat, cut = c ∧ c < F.size := by
    rcases Int.lt_or_le cut 0 with h | h
    · exact .inl h
    · rcases Int.lt_or_le cut F.size with h2 | h2
      · exact .inr (.inr ⟨cut.toNat, by omega, by omega⟩)
      · exact .inr (.inl ⟨h, h2⟩)
  have m3 : (pe = 0 ∧ Hid (∀ w, Calls Try.prog 13 #[.int .i64 pk, .int .i64 pn, .string pp] w fun e w' => e = .returned (.tuple #[.string b, .int .i64 0]) ∧ Below w.heap.size w w')) ∨ ((pe != 0) = true ∧ pk = 0 ∧ pn = 0 ∧ pp = ⟨#[]⟩) := by
    by_cases h : pe = 0
    · exact .inl ⟨h, CG.out h⟩
    · exact .inr ⟨by rw [bne_iff_ne]; exact h, HB.out h⟩
  have t2 : (b.toList == b.toList) = true := by simp
  clear CG HB HM
  rcases m1 with ⟨m1, rfl⟩ | m1
  all_goals
    rcases m2 with m2 | ⟨m2, m2b⟩ | ⟨c, m2, m2c⟩
    rotate_left 2
    · obtain ⟨x2, y2, z2, CC2⟩ := CC.out c m2 m2c
      have CC2' : Hid (∀ w, Calls _ _ _ _ _) := CC2
      subst m2
      have hc1 : (c : Int) < F.size := by omega
      clear CC2 CC
      go_wp2_with fail
      refine (CC2'.out _).mono ?_
      rintro _ w4 ⟨rfl, b4⟩
      have B4 : Hid (Below w.heap.size w w4) := FIN.out _ B3.out _ b4
      clear b4
      go_wp2_with fail
      refine (CB.out _).mono ?_
      rintro _ w5 ⟨rfl, b5⟩
      have B5 : Hid (Below w.heap.size w w5) := FIN.out _ B4.out _ b5
      clear b5
      rcases m3 with ⟨rfl, C3⟩ | ⟨m3, rfl, rfl, rfl⟩
      · go_wp2_with fail
        refine (C3.out _).mono ?_
        rintro _ w6 ⟨rfl, b6⟩
        have B6 : Hid (Below w.heap.size w w6) := FIN.out _ B5.out _ b6
        clear b6
        go_wp2
        go_ret
        exact ⟨rfl, B6.out⟩
      · go_wp2
        go_ret
        exact ⟨rfl, B5.out⟩
    all_goals
      clear CC
      go_wp2_with fail
      refine (CB.out _).mono ?_
      rintro _ w5 ⟨rfl, b5⟩
      have B5 : Hid (Below w.heap.size w w5) := FIN.out _ B3.out _ b5
      clear b5
      rcases m3 with ⟨rfl, C3⟩ | ⟨m3, rfl, rfl, rfl⟩
      · go_wp2_with fail
        refine (C3.out _).mono ?_
        rintro _ w6 ⟨rfl, b6⟩
        have B6 : Hid (Below w.heap.size w w6) := FIN.out _ B5.out _ b6
        clear b6
        go_wp2
        go_ret
        exact ⟨rfl, B6.out⟩
      · go_wp2
        go_ret
        exact ⟨rfl, B5.out⟩
theorem empty_ne (s : ByteArray) : (s.toList != []) = true ↔ s.size ≠ 0 := by
  have h := empty_tst s
  rw [bne, h]
  by_cases hz : s.size = 0 <;> simp [hz]
theorem back_walk (kind : Int) (wk : (Lit.int .i64 kind).wf = true) (number : Int) (wn : (Lit.int .i64 number).wf = true) (payload : ByteArray) (zp : payload.size ≤ 140737488351232) (more : ByteArray) (zm : more.size ≤ 140737488351232) (cut : Int) (wc : (Lit.int .i64 cut).wf = true) (b : ByteArray) (zb : b.size ≤ 140737488351232) {W : World} :
    Calls Try.prog 4 #[.int .i64 kind, .int .i64 number, .string payload, .string more, .int .i64 cut, .string b] W fun e w' => e = .returned (.bool true) ∧ Below W.heap.size W w' := by
  have bk := bounds_i64 wk
  have bn := bounds_i64 wn
  have ak := kd_ok kind
  have an := wi_ok number bn.2
  have ap := shF_size payload
  have hfs := frameT_size (kd kind) (wi number) (shF payload)
  have pf := parse_frame (kd kind) (wi number) (shF payload) ak.1 ak.2 an.1 an.2 ap
  refine back_core kind number (kd kind) (wi number) cut (parseE (frameT (kd kind) (wi number) (shF payload) ++ more)) 0 (parseK b) (parseN b) (parseE b) payload more b (shF payload) (frameT (kd kind) (wi number) (shF payload)) ByteArray.empty (parseP b) ByteArray.empty W hfs ap zm
    (fun w => kindOfC kind w bk.1 bk.2) (fun w => withinC number w) (fun w => shortC payload w zp) (fun w => frameC _ _ _ w ak.1 ak.2 an.1 an.2 ap) (fun w => ?_) ⟨_, _, _, fun w => parseC _ w (by rw [app_size]; omega)⟩ (fun h => parse_long _ _ _ _ ak.1 ak.2 an.1 an.2 ap ((empty_ne more).1 h)) (fun c hc hlt => ?_) (fun w => parseC b w (by omega)) (fun h => ⟨by rw [parseK, if_neg h], by rw [parseN, if_neg h], by rw [parseP, if_neg h]; rfl⟩) (fun h w => ?_)
  · have h := parseC (frameT (kd kind) (wi number) (shF payload)) w (by omega)
    rw [pf.1, pf.2.1, pf.2.2.1, pf.2.2.2] at h
    exact h
  · refine ⟨parseK ((frameT (kd kind) (wi number) (shF payload)).extract 0 c), parseN ((frameT (kd kind) (wi number) (shF payload)).extract 0 c), parseP ((frameT (kd kind) (wi number) (shF payload)).extract 0 c), fun w => ?_⟩
    have h := parseC ((frameT (kd kind) (wi number) (shF payload)).extract 0 c) w (by rw [ext_size]; omega)
    rw [parse_cut (kd kind) (wi number) (shF payload) c ak.1 ak.2 an.1 an.2 ap (by omega)] at h
    exact h
  · obtain ⟨f1, f2, f3, f4, f5, f6, f7⟩ := frame_parse b h
    have hh := frameC (parseK b) (parseN b) (parseP b) w f2 f3 f4 f5 f6
    rw [f1] at hh
    exact hh
end Go.Proofs.Ytgioekepoebibaa.lb
