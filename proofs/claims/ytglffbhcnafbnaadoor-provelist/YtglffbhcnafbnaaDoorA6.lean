import Derived.Test.YtglffbhcnafbnaaDoorA4
import Derived.Test.YtglffbhcnafbnaaDoorA5
import Derived.Deep.DeepCutAuto
import Derived.Test.YtglffbhcnafbnaaDoorB1
namespace Go.Proofs.YtglffbhcnafbnaaDoor.la
open Go.RowKit Go.PlainAid
open Go.Proofs.YtglffbhcnafbnaaDoor.pl Go.Proofs.YtglffbhcnafbnaaDoor.pi Go.Proofs.YtglffbhcnafbnaaDoor.rf Go.Proofs.YtglffbhcnafbnaaDoor.pj Go.Proofs.YtglffbhcnafbnaaDoor.ca Go.Proofs.YtglffbhcnafbnaaDoor.cb Go.Proofs.YtglffbhcnafbnaaDoor.cp Go.Proofs.YtglffbhcnafbnaaDoor.cs Go.Proofs.YtglffbhcnafbnaaDoor.ka Go.Proofs.YtglffbhcnafbnaaDoor.kb Go.Proofs.YtglffbhcnafbnaaDoor.ga Go.Proofs.YtglffbhcnafbnaaDoor.gb Go.Proofs.YtglffbhcnafbnaaDoor.gr Go.Proofs.YtglffbhcnafbnaaDoor.gp Go.Proofs.YtglffbhcnafbnaaDoor.gq Go.Proofs.YtglffbhcnafbnaaDoor.mb Go.Proofs.YtglffbhcnafbnaaDoor.mc Go.Proofs.YtglffbhcnafbnaaDoor.md Go.Proofs.YtglffbhcnafbnaaDoor.aa Go.Proofs.YtglffbhcnafbnaaDoor.ab Go.Proofs.YtglffbhcnafbnaaDoor.ad Go.Proofs.YtglffbhcnafbnaaDoor.tb Go.Proofs.YtglffbhcnafbnaaDoor.ac Go.Proofs.YtglffbhcnafbnaaDoor.bc Go.Proofs.YtglffbhcnafbnaaDoor.bd Go.Proofs.YtglffbhcnafbnaaDoor.bh Go.Proofs.YtglffbhcnafbnaaDoor.br Go.Proofs.YtglffbhcnafbnaaDoor.bi Go.Proofs.YtglffbhcnafbnaaDoor.bj Go.Proofs.YtglffbhcnafbnaaDoor.bl Go.Proofs.YtglffbhcnafbnaaDoor.bm Go.Proofs.YtglffbhcnafbnaaDoor.bn Go.Proofs.YtglffbhcnafbnaaDoor.bo Go.Proofs.YtglffbhcnafbnaaDoor.bp Go.Proofs.YtglffbhcnafbnaaDoor.bs
set_option linter.unusedVariables false

theorem ne_empty (R : ByteArray) (h : 1 ≤ R.size) : (R.toList == (⟨#[]⟩ : ByteArray).toList) = false := by
  rw [beqL]
  apply decide_eq_false
  intro e
  rw [e] at h
  exact absurd h (by decide)
theorem ne_empty2 (R : ByteArray) (h : 1 ≤ R.size) : (R.toList == []) = false := by
  rw [beqLit]
  apply decide_eq_false
  intro e
  rw [e] at h
  exact absurd h (by decide)
theorem front_reads {w : World} {a : Option Addr} {n cap k : Nat} {xs : List ByteArray} (h : ReadsT w (.slice a n cap) xs) (hk : k ≤ xs.length) : ReadsT w (.slice a k cap) (xs.take k) := by
  obtain ⟨a', cap', e, hc, hh⟩ := h
  injection e with e1 e2 e3
  subst e1 e2 e3
  have hl : (xs.take k).length = k := by rw [List.length_take]; omega
  refine ⟨_, _, by rw [hl], by omega, ?_⟩
  rcases hh with h0 | ⟨b', off', e4, hh⟩
  · left; omega
  · refine .inr ⟨b', off', e4, fun i hi => ?_⟩
    rw [hl] at hi
    rw [hh i (by omega), List.getD_eq_getElem?_getD, List.getD_eq_getElem?_getD, List.getElem?_take, if_pos hi]
-- the reader of a list behind its making: writes nothing
def NoF : Nat → Prop := fun _ => False
theorem goes_below {w w' : World} {F' : Nat → Prop} (h : Goes NoF w F' w') : Below w.heap.size w w' := ⟨h.1.os, h.1.tape, h.1.output, h.1.size, fun k hk => h.1.block k hk (fun x => x)⟩
set_option maxHeartbeats 6400000 in
set_option maxRecDepth 100000 in
theorem list_walk (wd size i m : Int) (hwd : i64 wd) (hsz : i64 size) (hi : i64 i) (hm : i64 m) (v : Value) (xs : List ByteArray) (w : World) (hT : TB w) (hR : ReadsT w v xs) (hf : Fits xs) :
    Calls Tryd.prog 5 #[.int .i64 wd, v, .int .i64 size, .int .i64 i, .int .i64 m] w fun e w' => e = .returned (.bool true) ∧ Below w.heap.size w w' := by
  have HT : Hid (TB w) := hT
  have HRD : Hid (ReadsT w v xs) := hR
  have HF : Hid (Fits xs) := hf
  have HI : Hid (i64 wd ∧ i64 size ∧ i64 i ∧ i64 m) := ⟨hwd, hsz, hi, hm⟩
  obtain ⟨a, cap, rfl, hcap, hh⟩ := hR
  obtain ⟨n0, HN0⟩ : ∃ n, Hid (xs.length = n) := ⟨_, rfl⟩
  rw [HN0.out] at HRD hcap ⊢
  have hmany := hf.many
  rw [HN0.out] at hmany
  clear hT hf hh hwd hsz hi hm
  go_enter Tryd.func5, Tryd.ntmps5
  go_upto_if 23 with fail
  go_cut [1] (fun l wx => ∃ (N : Nat) (ys : List ByteArray), l = .slice a N cap ∧ N ≤ 300 ∧ N ≤ cap ∧ Hid (ReadsT w (.slice a N cap) ys ∧ ys.length = N ∧ Fits ys) ∧ wx = w)
  case first =>
    by_cases h : 300 < n0
    · have h1 : (300 : Int) < n0 := by omega
      have h2 : (300 : Int) ≤ cap := by omega
      go_wp2
      go_meet
      exact ⟨300, xs.take 300, rfl, Nat.le_refl _, by omega, ⟨front_reads HRD.out (by rw [HN0.out]; omega), by rw [List.length_take, HN0.out]; omega, HF.out.take _⟩, rfl⟩
    · have h1 : ¬ (300 : Int) < n0 := by omega
      go_wp2
      go_meet
      exact ⟨n0, xs, rfl, by omega, hcap, ⟨HRD.out, HN0.out, HF.out⟩, rfl⟩
  case rest =>
    obtain ⟨N, ys, rfl, hN, hNc, HY, rfl⟩ := hcut
    have HT' : Hid (TB wc) := HT.out
    have hn16 : N * 16 ≤ 140737488351232 := by omega
    -- the size
    have PK1 : Hid (∀ w, Calls _ _ _ _ _) := fun w => pick size (N + 1) (by omega) (by omega) HI.out.2.1 w
    have hnN := pk_lt size (show 1 ≤ N + 1 by omega)
    obtain ⟨n, HNn⟩ : ∃ n, Hid (pk size (N + 1) = n) := ⟨_, rfl⟩
    rw [HNn.out] at PK1 hnN
    rw [show ((N + 1 : Nat) : Int) = (N : Int) + 1 by omega] at PK1
    have LV : Hid (Calls _ _ _ _ _) := leaves (T := TB) TB.down (fun h => h.t) wd (.slice a N cap) ys wc HT'.out HY.out.1 HY.out.2.2
    have NM : Hid (∀ x w, Calls _ _ _ _ _) := fun x w => num x w
    have hZ : Hid ((ys.take n).length = n) := by show _ = _; rw [List.length_take, HY.out.2.1]; omega
    have HFT : Hid (Fits (ys.take n)) := HY.out.2.2.take n
    go_wp2_with fail
    refine (PK1.out _).mono ?_
    rintro e w1 ⟨rfl, hw1⟩
    subst hw1
    go_wp2_with fail
    refine LV.out.mono ?_
    rintro e w2 ⟨⟨u, rfl, hu⟩, hb2⟩
    have OC : Hid (Calls _ _ _ _ _) := ofC wd u (LX wd ys) w2 (HT'.out.down hb2) (own_readsT hu) (by rw [LX_len, HY.out.2.1]; omega) (fun x hx => by rw [LX_wid wd ys x hx]; have := wid_le wd; omega)
    rw [LX_len, HY.out.2.1] at OC
    have B2 : Hid (Below w1.heap.size w1 w2) := hb2
    clear hu hb2 LV
    go_wp2_with fail
    refine OC.out.mono ?_
    rintro e w3 ⟨⟨ob, wb, vv, rfl, hj3⟩, hb3⟩
    obtain ⟨lb, HLB⟩ : ∃ lb : Array Value, Hid (#[.pointer (some ⟨ob, 0, none⟩), .pointer (some ⟨wb, 0, none⟩)] = lb) := ⟨_, rfl⟩
    have BA : Hid (Below w3.heap.size w3 (w3.alloc (.cells #[.int .i64 wd, .int .i64 N, .func (.func 44) #[] lb] 24))) := (Below.refl _ _).alloc (Nat.le_refl _) _
    have B4 : Hid (Below w1.heap.size w1 (w3.alloc (.cells #[.int .i64 wd, .int .i64 N, .func (.func 44) #[] lb] 24))) := over (over B2.out hb3) BA.out
    have RDR : Hid (Rd 44 #[] lb (asked wd (LX wd ys)) (fun F l w => (∀ b, ¬ F b) ∧ Below (w3.alloc (.cells #[.int .i64 wd, .int .i64 N, .func (.func 44) #[] lb] 24)).heap.size (w3.alloc (.cells #[.int .i64 wd, .int .i64 N, .func (.func 44) #[] lb] 24)) w) 1000000 (fun b => b < (w3.alloc (.cells #[.int .i64 wd, .int .i64 N, .func (.func 44) #[] lb] 24)).heap.size)) := by
      have := ofR ob wb wd vv (LX wd ys) (w3.alloc (.cells #[.int .i64 wd, .int .i64 N, .func (.func 44) #[] lb] 24)) (hj3.later BA.out) 1000000
      rw [HLB.out] at this
      exact this
    have BX : Hid (_ ∧ _ ∧ _) := three_box w3 (.int .i64 wd) (.int .i64 N) (.func (.func 44) #[] lb) 24
    rw [HLB.out]
    obtain ⟨W4, HW4⟩ : ∃ W4, Hid (w3.alloc (.cells #[.int .i64 wd, .int .i64 N, .func (.func 44) #[] lb] 24) = W4) := ⟨_, rfl⟩
    rw [HW4.out] at RDR BX B4
    have KR : Hid (∀ w', Below W4.heap.size W4 w' → Calls Tryd.prog 9 #[.agg #[.int .i64 wd, .int .i64 N, .func (.func 44) #[] lb], .int .i64 n] w' fun e w'' => e = .returned (.tuple #[.string (RT wd (ys.take n)), .int .i64 0]) ∧ Below w'.heap.size w' w'') := by
      intro w' hb
      obtain ⟨l', hl'⟩ := root_std wd ys n (by rw [HY.out.2.1]; omega) (by rw [HY.out.2.1]; omega) []
      rw [HY.out.2.1] at hl'
      have := rootC8 RDR.out wd N n HI.out.1 NoF [] w' (by decide) ⟨fun _ h => h, hb⟩
      rw [hl'] at this
      refine this.mono ?_
      rintro e w'' ⟨rfl, F', _, hg⟩
      exact ⟨rfl, goes_below hg⟩
    have KC : Hid (∀ (o : Nat) w', o ≤ n → Below W4.heap.size W4 w' → Calls Tryd.prog 11 #[.agg #[.int .i64 wd, .int .i64 N, .func (.func 44) #[] lb], .int .i64 o, .int .i64 n] w' fun e w'' => (∃ u, e = .returned (.tuple #[u, .int .i64 0]) ∧ ReadsT w'' u (QT wd o (ys.take n))) ∧ Below w'.heap.size w' w'') := by
      intro o w' ho hb
      obtain ⟨l', hl'⟩ := cons_std wd ys o n ho (by rw [HY.out.2.1]; omega) (by rw [HY.out.2.1]; omega) []
      rw [HY.out.2.1] at hl'
      have := consC RDR.out wd N o n HI.out.1 NoF [] w' (by decide) ⟨fun _ h => h, hb⟩
      rw [hl'] at this
      refine this.mono ?_
      rintro e w'' ⟨u, F', rfl, ho', _, hg, _⟩
      rw [ans_ok] at ho'
      exact ⟨⟨u, rfl, own_readsT ho'⟩, goes_below hg⟩
    have KI : Hid (∀ (o : Nat) w', o < n → Below W4.heap.size W4 w' → Calls Tryd.prog 10 #[.agg #[.int .i64 wd, .int .i64 N, .func (.func 44) #[] lb], .int .i64 o, .int .i64 n] w' fun e w'' => (∃ u, e = .returned (.tuple #[u, .int .i64 0]) ∧ ReadsT w'' u (PT wd o (ys.take n))) ∧ Below w'.heap.size w' w'') := by
      intro o w' ho hb
      obtain ⟨l', hl'⟩ := incl_std wd ys o n ho (by rw [HY.out.2.1]; omega) (by rw [HY.out.2.1]; omega) []
      rw [HY.out.2.1] at hl'
      have := inclC RDR.out wd N o n HI.out.1 NoF [] w' (by decide) ⟨fun _ h => h, hb⟩
      rw [hl'] at this
      refine this.mono ?_
      rintro e w'' ⟨u, F', rfl, ho', _, hg, _⟩
      rw [ans_ok] at ho'
      exact ⟨⟨u, rfl, own_readsT ho'⟩, goes_below hg⟩
    have RS : Hid (ReadsT W4 (.slice a n cap) (ys.take n)) := (front_reads HY.out.1 (by rw [HY.out.2.1]; omega)).later B4.out
    have T4 : Hid (TB W4) := HT'.out.down B4.out
    have MR : Hid (∀ w', Below W4.heap.size W4 w' → Calls _ _ _ _ _) := fun w' hb => rootC wd (.slice a n cap) (ys.take n) w' HI.out.1 (T4.out.down hb).t (RS.out.later hb) HFT.out
    have MP : Hid (∀ (o : Nat) w', o ≤ n → Below W4.heap.size W4 w' → Calls Tryd.prog 22 #[.int .i64 wd, .int .i64 o, .slice a n cap] w' fun e w'' => (∃ u, e = .returned (.tuple #[u, .int .i64 0]) ∧ ReadsT w'' u (QT wd o (ys.take n))) ∧ Below w'.heap.size w' w'') := by
      intro o w' ho hb
      refine (proofC wd o (.slice a n cap) (ys.take n) w' HI.out.1 (i64_nat (by omega)) (T4.out.down hb).t (RS.out.later hb) HFT.out).mono ?_
      rintro e w'' ⟨⟨u, rfl, hu⟩, hb'⟩
      refine ⟨⟨u, ?_, own_readsT hu⟩, hb'⟩
      rw [show QE (o : Int) (ys.take n) = 0 by unfold QE; rw [if_pos ⟨by omega, by rw [hZ.out]; omega⟩]]
    have MI : Hid (∀ (o : Nat) w', o < n → Below W4.heap.size W4 w' → Calls Tryd.prog 23 #[.int .i64 wd, .int .i64 o, .slice a n cap] w' fun e w'' => (∃ u, e = .returned (.tuple #[u, .int .i64 0]) ∧ ReadsT w'' u (PT wd o (ys.take n))) ∧ Below w'.heap.size w' w'') := by
      intro o w' ho hb
      refine (pathC wd o (.slice a n cap) (ys.take n) w' HI.out.1 (i64_nat (by omega)) (T4.out.down hb).t (RS.out.later hb) HFT.out).mono ?_
      rintro e w'' ⟨⟨u, rfl, hu⟩, hb'⟩
      refine ⟨⟨u, ?_, own_readsT hu⟩, hb'⟩
      rw [show PE (o : Int) (ys.take n) = 0 by unfold PE; rw [if_pos ⟨by omega, by rw [hZ.out]; omega⟩]]
    have HQL : Hid (∀ o : Nat, (QT wd o (ys.take n)).length ≤ 140737488355328) := fun o => by have := QT_len wd o (ys.take n); rw [hZ.out] at this; omega
    have HPL : Hid (∀ o : Nat, (PT wd o (ys.take n)).length ≤ 140737488355328) := fun o => by have := PT_len wd o (ys.take n); rw [hZ.out] at this; omega
    have SM : Hid (∀ (va vb : Value) (ts : List ByteArray) w', ReadsT w' va ts → ReadsT w' vb ts → ts.length ≤ 140737488355328 → Calls _ _ _ _ _) := fun va vb ts w' h1 h2 h3 => same_yes va vb ts w' h1 h2 h3
    obtain ⟨R, HR⟩ : ∃ R, Hid (RT wd (ys.take n) = R) := ⟨_, rfl⟩
    have hbe : (R.toList == R.toList) = true := by rw [beqL]; exact decide_eq_true rfl
    have hbn : (R.toList == (⟨#[]⟩ : ByteArray).toList) = false := by
      rw [beqL]
      apply decide_eq_false
      intro e
      have := RT_pos wd (ys.take n)
      rw [HR.out, e] at this
      exact absurd this (by decide)
    have hb2 := ne_empty2 R (by rw [← HR.out]; exact RT_pos wd (ys.take n))
    rw [HR.out] at KR MR
    have g1 : (n : Int) ≤ cap := by omega
    have g2 : (n : Int) ≤ N := by omega
    have PK2 : Hid (∀ w, Calls _ _ _ _ _) := fun w => pick m (n + 1) (by omega) (by omega) HI.out.2.2.2 w
    have hoN := pk_lt m (show 1 ≤ n + 1 by omega)
    obtain ⟨o, HOo⟩ : ∃ o, Hid (pk m (n + 1) = o) := ⟨_, rfl⟩
    rw [HOo.out] at PK2 hoN
    rw [show ((n + 1 : Nat) : Int) = (n : Int) + 1 by omega] at PK2
    clear hj3 hb3 BA B2 OC
    go_wp2_with fail
    rw [HW4.out]
    obtain ⟨bx0, bx1, bx2⟩ := BX.out
    refine (KR.out _ (Below.refl _ _)).mono ?_
    rintro e w5 ⟨rfl, hb5⟩
    have B5 : Hid (Below W4.heap.size W4 w5) := hb5
    clear hb5
    go_wp2_with fail
    refine (NM.out _ _).mono ?_
    rintro e w6 ⟨rfl, hw6⟩
    subst hw6
    go_wp2_with fail
    refine (MR.out _ B5.out).mono ?_
    rintro e w7 ⟨rfl, hb7⟩
    have B7 : Hid (Below W4.heap.size W4 w7) := over B5.out hb7
    clear hb7
    go_wp2_with fail
    refine (PK2.out _).mono ?_
    rintro e w8 ⟨rfl, hw8⟩
    subst hw8
    have c0 := (B7.out.cell (World.block_lt_of_cell? _ _ bx0)).trans bx0
    have c1 := (B7.out.cell (World.block_lt_of_cell? _ _ bx1)).trans bx1
    have c2 := (B7.out.cell (World.block_lt_of_cell? _ _ bx2)).trans bx2
    go_wp2_with fail
    refine (KC.out o _ (by omega) B7.out).mono ?_
    rintro e w9 ⟨⟨p, rfl, hp⟩, hb9⟩
    have B9 : Hid (Below W4.heap.size W4 w9) := over B7.out hb9
    have RP : Hid (ReadsT w9 p (QT wd o (ys.take n))) := hp
    clear hb9 hp c0 c1 c2
    go_wp2_with fail
    refine (MP.out o _ (by omega) B9.out).mono ?_
    rintro e wA ⟨⟨q, rfl, hq⟩, hbA⟩
    have BB : Hid (Below W4.heap.size W4 wA) := over B9.out hbA
    have SC1 : Hid (Calls _ _ _ _ _) := SM.out p q _ wA (RP.out.later hbA) hq (HQL.out o)
    clear hbA hq RP
    go_wp2_with fail
    refine (NM.out _ _).mono ?_
    rintro e wB ⟨rfl, hwB⟩
    subst hwB
    go_wp2_with fail
    refine (NM.out _ _).mono ?_
    rintro e wC ⟨rfl, hwC⟩
    subst hwC
    go_wp2_with fail
    refine SC1.out.mono ?_
    rintro e wD ⟨rfl, md, hwD⟩
    have BD : Hid (Below W4.heap.size W4 wD) := by rw [hwD]; exact below_dN BB.out md
    clear hwD SC1
    by_cases hn0 : n = 0
    · have qn : ((n : Int) == 0) = true := by rw [beq_iff_eq]; omega
      clear hn0
      go_wp2
      go_ret
      exact ⟨rfl, over B4.out BD.out⟩
    · have qn : ((n : Int) == 0) = false := by rw [beq_eq_false_iff_ne]; omega
      have PK3 : Hid (∀ w, Calls _ _ _ _ _) := fun w => pick i n (by omega) (by omega) HI.out.2.2.1 w
      have hjn := pk_lt i (show 1 ≤ n by omega)
      obtain ⟨j, HJj⟩ : ∃ j, Hid (pk i n = j) := ⟨_, rfl⟩
      rw [HJj.out] at PK3 hjn
      clear hn0
      go_wp2_with fail
      refine (PK3.out _).mono ?_
      rintro e wE ⟨rfl, hwE⟩
      subst hwE
      have c0 := (BD.out.cell (World.block_lt_of_cell? _ _ bx0)).trans bx0
      have c1 := (BD.out.cell (World.block_lt_of_cell? _ _ bx1)).trans bx1
      have c2 := (BD.out.cell (World.block_lt_of_cell? _ _ bx2)).trans bx2
      go_wp2_with fail
      refine (KI.out j _ (by omega) BD.out).mono ?_
      rintro e wF ⟨⟨p2, rfl, hp⟩, hbF⟩
      have BF : Hid (Below W4.heap.size W4 wF) := over BD.out hbF
      have RP : Hid (ReadsT wF p2 (PT wd j (ys.take n))) := hp
      clear hbF hp c0 c1 c2
      go_wp2_with fail
      refine (MI.out j _ (by omega) BF.out).mono ?_
      rintro e wG ⟨⟨q2, rfl, hq⟩, hbG⟩
      have BG : Hid (Below W4.heap.size W4 wG) := over BF.out hbG
      have SC2 : Hid (Calls _ _ _ _ _) := SM.out p2 q2 _ wG (RP.out.later hbG) hq (HPL.out j)
      clear hbG hq RP
      go_wp2_with fail
      refine (NM.out _ _).mono ?_
      rintro e wH ⟨rfl, hwH⟩
      subst hwH
      go_wp2_with fail
      refine (NM.out _ _).mono ?_
      rintro e wI ⟨rfl, hwI⟩
      subst hwI
      go_wp2_with fail
      refine SC2.out.mono ?_
      rintro e wJ ⟨rfl, mj, hwJ⟩
      have BJ : Hid (Below W4.heap.size W4 wJ) := by rw [hwJ]; exact below_dN BG.out mj
      clear hwJ SC2
      go_wp2
      go_ret
      exact ⟨rfl, over B4.out BJ.out⟩
end Go.Proofs.YtglffbhcnafbnaaDoor.la

namespace Go.Proofs.YtglffbhcnafbnaaDoor.wa
open Go.RowKit Go.PlainAid
open Go.Proofs.YtglffbhcnafbnaaDoor.pl Go.Proofs.YtglffbhcnafbnaaDoor.ft Go.Proofs.YtglffbhcnafbnaaDoor.pj Go.Proofs.YtglffbhcnafbnaaDoor.rf Go.Proofs.YtglffbhcnafbnaaDoor.cp Go.Proofs.YtglffbhcnafbnaaDoor.cv Go.Proofs.YtglffbhcnafbnaaDoor.ka Go.Proofs.YtglffbhcnafbnaaDoor.gb Go.Proofs.YtglffbhcnafbnaaDoor.xc Go.Proofs.YtglffbhcnafbnaaDoor.tb
set_option linter.unusedVariables false

theorem list_call (W : World) (a0 : Int) (w0 : (Lit.int .i64 a0).wf = true) (v : Value) (xs : List ByteArray) (hr : ReadsT W v xs) (hno : ∀ k c, v = .slice none k c → c = 0) (hx : ∀ x ∈ xs, x.size ≤ 140737488351232) (hl : xs.length * 16 ≤ 140737488351232) (a2 : Int) (w2 : (Lit.int .i64 a2).wf = true) (a3 : Int) (w3 : (Lit.int .i64 a3).wf = true) (a4 : Int) (w4 : (Lit.int .i64 a4).wf = true) (tabs : TabB W ∧ St8 W 4 ∧ K64 W 6) :
    Calls Tryd.prog 5 #[.int .i64 a0, v, .int .i64 a2, .int .i64 a3, .int .i64 a4] W fun e w' => e = .returned (.bool true) ∧ Below W.heap.size W w' :=
  la.list_walk a0 a2 a3 a4 (i64_of w0) (i64_of w2) (i64_of w3) (i64_of w4) v xs W (TB.of tabs) hr ⟨fun x h => by have := hx x h; omega, hl⟩
end Go.Proofs.YtglffbhcnafbnaaDoor.wa
