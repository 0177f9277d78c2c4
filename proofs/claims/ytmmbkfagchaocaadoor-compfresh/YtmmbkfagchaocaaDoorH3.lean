import Derived.Test.YtmmbkfagchaocaaDoorH2
import Derived.Test.YtmmbkfagchaocaaDoorH1
import Derived.Test.YtmmbkfagchaocaaDoorD6
import Derived.Deep.DeepCutAuto
namespace Go.Proofs.YtmmbkfagchaocaaDoor.s11
open Go.RowKit Go.PlainAid
open Go.Proofs.YtmmbkfagchaocaaDoor.pl Go.Proofs.YtmmbkfagchaocaaDoor.pg Go.Proofs.YtmmbkfagchaocaaDoor.cp Go.Proofs.YtmmbkfagchaocaaDoor.ka Go.Proofs.YtmmbkfagchaocaaDoor.na Go.Proofs.YtmmbkfagchaocaaDoor.oa Go.Proofs.YtmmbkfagchaocaaDoor.ob Go.Proofs.YtmmbkfagchaocaaDoor.qa Go.Proofs.YtmmbkfagchaocaaDoor.qc Go.Proofs.YtmmbkfagchaocaaDoor.s1 Go.Proofs.YtmmbkfagchaocaaDoor.s2 Go.Proofs.YtmmbkfagchaocaaDoor.s3 Go.Proofs.YtmmbkfagchaocaaDoor.s4 Go.Proofs.YtmmbkfagchaocaaDoor.s5 Go.Proofs.YtmmbkfagchaocaaDoor.s6 Go.Proofs.YtmmbkfagchaocaaDoor.s8 Go.Proofs.YtmmbkfagchaocaaDoor.s7 Go.Proofs.YtmmbkfagchaocaaDoor.s9 Go.Proofs.YtmmbkfagchaocaaDoor.s10
set_option linter.unusedVariables false

-- the program's call and the document's answer alike, with new memory each
def Twofold (w0 : World) (f g : FuncId) (args : Array Value) : Prop := ∃ (x y : Int) (L : List ByteArray) (N : List Md) (c : Int), L.length ≤ 244 ∧ N.length ≤ 244 ∧
  (∀ W, Below w0.heap.size w0 W → Calls Tryd.prog f args W fun e w' => Go.Proofs.YtmmbkfagchaocaaDoor.ob.Told W w' e x y L N c ∧ Below W.heap.size W w') ∧
  (∀ W, Below w0.heap.size w0 W → Calls Tryd.prog g args W fun e w' => Go.Proofs.YtmmbkfagchaocaaDoor.ob.Told W w' e x y L N c ∧ Below W.heap.size W w')
def Gives (w0 : World) (f : FuncId) (args : Array Value) (x y : Int) (L : List ByteArray) (N : List Md) (l m : Nat) (c : Int) : Prop := ∀ W, Below w0.heap.size w0 W → Calls Tryd.prog f args W fun e w' => (∃ ua uc ma mc, e = .returned (.tuple #[FV x y (.slice ua l uc), .slice ma m mc, .int .i64 c]) ∧ Texts w' W.heap.size (.slice ua l uc) L ∧ Mades w' W.heap.size (.slice ma m mc) N) ∧ Below W.heap.size W w'
theorem Twofold.opened {w0 : World} {f g : FuncId} {args : Array Value} (h : Twofold w0 f g args) : ∃ (x y : Int) (L : List ByteArray) (N : List Md) (l m : Nat) (c : Int), Hid (L.length = l ∧ N.length = m) ∧ l ≤ 244 ∧ m ≤ 244 ∧ Hid (Gives w0 f args x y L N l m c) ∧ Hid (Gives w0 g args x y L N l m c) := by
  obtain ⟨x, y, L, N, c, z1, z2, h1, h2⟩ := h
  refine ⟨x, y, L, N, _, _, c, ⟨rfl, rfl⟩, z1, z2, fun W b => ?_, fun W b => ?_⟩
  · refine (h1 W b).mono ?_
    rintro e w' ⟨⟨u, m, rfl, hu, hm⟩, hb⟩
    obtain ⟨ua, uc, rfl⟩ := own_formS hu
    obtain ⟨ma, mc, rfl⟩ := own_formS hm
    exact ⟨⟨ua, uc, ma, mc, rfl, hu, hm⟩, hb⟩
  · refine (h2 W b).mono ?_
    rintro e w' ⟨⟨u, m, rfl, hu, hm⟩, hb⟩
    obtain ⟨ua, uc, rfl⟩ := own_formS hu
    obtain ⟨ma, mc, rfl⟩ := own_formS hm
    exact ⟨⟨ua, uc, ma, mc, rfl, hu, hm⟩, hb⟩
set_option maxRecDepth 100000 in
set_option maxHeartbeats 12800000 in
theorem askedY (w : World) (wd lo hi : Int) (a : Option Addr) (n cap : Nat) (lo' hi' : Int) (a' : Option Addr) (n' cap' : Nat) (h : ByteArray)
    (KA : Twofold w 5 7 #[.int .i64 wd, FV lo hi (.slice a n cap), .string h])
    (KB : Twofold w 5 7 #[.int .i64 wd, FV lo' hi' (.slice a' n' cap'), .string h])
    (MA : Twofold w 6 8 #[.int .i64 wd, FV lo hi (.slice a n cap), FV lo' hi' (.slice a' n' cap')])
    (MB : Twofold w 6 8 #[.int .i64 wd, FV lo' hi' (.slice a' n' cap'), FV lo hi (.slice a n cap)]) :
    Calls Tryd.prog 12 #[.int .i64 wd, FV lo hi (.slice a n cap), FV lo' hi' (.slice a' n' cap'), .string h] w fun e w' => e = .returned (.bool true) ∧ Below w.heap.size w w' := by
  obtain ⟨xa, ya, La, Na, lza, mza, ca, HLa, zla, zma, Ca, Da⟩ := Twofold.opened KA
  obtain ⟨xb, yb, Lb, Nb, lzb, mzb, cb, HLb, zlb, zmb, Cb, Db⟩ := Twofold.opened KB
  obtain ⟨xp, yp, Lp, Np, lzp, mzp, cp, HLp, zlp, zmp, Cp, Dp⟩ := Twofold.opened MA
  obtain ⟨xq, yq, Lq, Nq, lzq, mzq, cq, HLq, zlq, zmq, Cq, Dq⟩ := Twofold.opened MB
  clear KA KB MA MB
  have BA : Below w.heap.size w ((w.alloc (.cells #[.int .i64 lo, .int .i64 hi, (.slice a n cap)] 24)).alloc (.cells #[.int .i64 lo', .int .i64 hi', (.slice a' n' cap')] 24)) := ((Below.refl _ _).alloc (Nat.le_refl _) _).alloc (by simp) _
  have F0 : Fx ((w.alloc (.cells #[.int .i64 lo, .int .i64 hi, (.slice a n cap)] 24)).alloc (.cells #[.int .i64 lo', .int .i64 hi', (.slice a' n' cap')] 24)) w.heap.size lo hi (.slice a n cap) := (fx_new _ _ _ _).on ((Below.refl _ _).alloc (Nat.le_refl _) _)
  have F1 := fx_new (w.alloc (.cells #[.int .i64 lo, .int .i64 hi, (.slice a n cap)] 24)) lo' hi' (.slice a' n' cap')
  rw [show (w.alloc (.cells #[.int .i64 lo, .int .i64 hi, (.slice a n cap)] 24)).heap.size = w.heap.size + 1 by simp] at F1
  obtain ⟨W0, HW0⟩ : ∃ W0, ((w.alloc (.cells #[.int .i64 lo, .int .i64 hi, (.slice a n cap)] 24)).alloc (.cells #[.int .i64 lo', .int .i64 hi', (.slice a' n' cap')] 24)) = W0 := ⟨_, rfl⟩
  rw [HW0] at F0 F1 BA
  have HS0 : Hid (W0.heap.size = w.heap.size + 2) := by rw [← HW0]; simp [Hid]
  have G0 : Hid (Fx W0 w.heap.size lo hi (.slice a n cap)) := F0
  have G1 : Hid (Fx W0 (w.heap.size + 1) lo' hi' (.slice a' n' cap')) := F1
  have GB : Hid (Below w.heap.size w W0) := BA
  obtain ⟨iS, S1, S2, S3, S4⟩ := info_parts hiSS
  obtain ⟨iT, T1, T2, T3, T4⟩ := info_parts hiMM
  have SS : Hid (Tryd.prog.info? 22 = some iS ∧ iS.zero = some (.slice none 0 0) ∧ iS.size = 1 ∧ iS.bytes = 24) := ⟨S1, S2, S3, S4⟩
  have TT : Hid (Tryd.prog.info? 25 = some iT ∧ iT.zero = some (.slice none 0 0) ∧ iT.size = 1 ∧ iT.bytes = 24) := ⟨T1, T2, T3, T4⟩
  clear S1 S2 S3 S4 T1 T2 T3 T4 F0 F1 BA
  go_enter Tryd.func12, Tryd.ntmps12
  go_wp2
  go_loopw [9, 10, 11] (fun hv mv i wr => ∃ (k : Nat) (H M : List (List (Value × List Value))), k ≤ 5 ∧ i = .int .i64 k ∧ Hid (Ak W0 hv mv k k k H M wr)) (fun _ _ i _ => (5 - intOf i).toNat)
  case atStart => exact ⟨0, [], [], by omega, rfl, Ak.start W0⟩
  case round =>
    obtain ⟨k, H, M, hk, rfl, HA⟩ := hrel
    obtain ⟨hv, rfl⟩ : ∃ v, v = u9 := ⟨_, rfl⟩
    obtain ⟨mv, rfl⟩ : ∃ v, v = u10 := ⟨_, rfl⟩
    obtain ⟨w1, rfl⟩ : ∃ v, v = wr := ⟨_, rfl⟩
    have BW : Hid (Below w.heap.size w w1) := over GB.out HA.out.fr
    obtain ⟨d1, d2, d3⟩ := (G0.out.on HA.out.fr).fb
    obtain ⟨e1, e2, e3⟩ := (G1.out.on HA.out.fr).fb
    have BL : Hid (w.heap.size + 2 ≤ w1.heap.size) := by have := HA.out.fr.size; have := HS0.out; unfold Hid; omega
    by_cases hlt : k < 5
    · have hlt' : (k : Int) < 5 := by omega
      by_cases h2 : k = 2
      · have q2 : ((k : Int) == 2) = true := by rw [beq_iff_eq]; omega
        clear h2
        have B1 : Hid (Below w1.heap.size w1 (w1.alloc (.cells #[.int .i64 lo', .int .i64 hi', (.slice a' n' cap')] 24))) := (Below.refl _ _).alloc (Nat.le_refl _) _
        have X0 : Hid (Fx (w1.alloc (.cells #[.int .i64 lo', .int .i64 hi', (.slice a' n' cap')] 24)) w1.heap.size lo' hi' (.slice a' n' cap')) := fx_new _ _ _ _
        have B0 : Below w1.heap.size w1 (w1.alloc (.cells #[.int .i64 lo, .int .i64 hi, (.slice a n cap)] 24)) := (Below.refl _ _).alloc (Nat.le_refl _) _
        have X : Fx (w1.alloc (.cells #[.int .i64 lo, .int .i64 hi, (.slice a n cap)] 24)) w1.heap.size lo hi (.slice a n cap) := fx_new _ _ _ _
        have f0 := frozen_of_row (w1.alloc (.cells #[.int .i64 lo, .int .i64 hi, (.slice a n cap)] 24)) w1.heap.size 0 _ _ X
        have f1 := frozen_of_row (w1.alloc (.cells #[.int .i64 lo, .int .i64 hi, (.slice a n cap)] 24)) w1.heap.size 1 _ _ X
        have f2 := frozen_of_row (w1.alloc (.cells #[.int .i64 lo, .int .i64 hi, (.slice a n cap)] 24)) w1.heap.size 2 _ _ X
        obtain ⟨t1, t2, t3⟩ := X.fb
        obtain ⟨g1, g2, g3⟩ := ((G1.out.on HA.out.fr).on B0).fb
        clear X B0
        obtain ⟨p01, p02, p03⟩ := X0.out.fb
        go_upto_region 9 with fail
        go_wp2_with fail
        refine (Cb.out _ (over BW.out B1.out)).mono ?_
        rintro e w2 ⟨⟨ua, uc, ma, mc, rfl, hu, hm⟩, hb⟩
        have BN : Hid (Below w2.heap.size w2 (w2.alloc (.cells #[.int .i64 xb, .int .i64 yb, .slice ua lzb uc] 24))) := (Below.refl _ _).alloc (Nat.le_refl _) _
        have B2 : Hid (Below w1.heap.size w1 (w2.alloc (.cells #[.int .i64 xb, .int .i64 yb, .slice ua lzb uc] 24))) := over (over B1.out hb) BN.out
        have Y0 : Hid (Fx (w2.alloc (.cells #[.int .i64 xb, .int .i64 yb, .slice ua lzb uc] 24)) w1.heap.size lo' hi' (.slice a' n' cap')) := (X0.out.on hb).on BN.out
        have P2 : Hid (Fx (w2.alloc (.cells #[.int .i64 xb, .int .i64 yb, .slice ua lzb uc] 24)) w2.heap.size xb yb (.slice ua lzb uc)) := fx_new _ _ _ _
        have U2 : Hid (Texts (w2.alloc (.cells #[.int .i64 xb, .int .i64 yb, .slice ua lzb uc] 24)) w1.heap.size (.slice ua lzb uc) Lb) := (hu.later BN.out).down B1.out.size
        have M2 : Hid (Mades (w2.alloc (.cells #[.int .i64 xb, .int .i64 yb, .slice ua lzb uc] 24)) w1.heap.size (.slice ma mzb mc) Nb) := (hm.later BN.out).down B1.out.size
        clear hu hm hb BN B1 X0 p01 p02 p03
        obtain ⟨p01, p02, p03⟩ := Y0.out.fb
        go_wp2_with fail
        refine (Db.out _ (over BW.out B2.out)).mono ?_
        rintro e w3 ⟨⟨va, vc, na, nc, rfl, hu, hm⟩, hb⟩
        have BN : Hid (Below w3.heap.size w3 (w3.alloc (.cells #[.int .i64 xb, .int .i64 yb, .slice va lzb vc] 24))) := (Below.refl _ _).alloc (Nat.le_refl _) _
        have B3 : Hid (Below w1.heap.size w1 (w3.alloc (.cells #[.int .i64 xb, .int .i64 yb, .slice va lzb vc] 24))) := over (over B2.out hb) BN.out
        have P3 : Hid (Fx (w3.alloc (.cells #[.int .i64 xb, .int .i64 yb, .slice va lzb vc] 24)) w2.heap.size xb yb (.slice ua lzb uc)) := (P2.out.on hb).on BN.out
        have Q3 : Hid (Fx (w3.alloc (.cells #[.int .i64 xb, .int .i64 yb, .slice va lzb vc] 24)) w3.heap.size xb yb (.slice va lzb vc)) := fx_new _ _ _ _
        have U3 : Hid (Texts (w3.alloc (.cells #[.int .i64 xb, .int .i64 yb, .slice va lzb vc] 24)) w1.heap.size (.slice ua lzb uc) Lb) := (U2.out.later hb).later BN.out
        have M3 : Hid (Mades (w3.alloc (.cells #[.int .i64 xb, .int .i64 yb, .slice va lzb vc] 24)) w1.heap.size (.slice ma mzb mc) Nb) := (M2.out.later hb).later BN.out
        have CS : Hid (Calls _ _ _ _ _) := same_yes xb yb (.slice ua lzb uc) (.slice va lzb vc) Lb (w3.alloc (.cells #[.int .i64 xb, .int .i64 yb, .slice va lzb vc] 24)) U3.out.reads (hu.reads.later BN.out) (by have := HLb.out.1; omega)
        have CM : Hid (∀ W, Below (w3.alloc (.cells #[.int .i64 xb, .int .i64 yb, .slice va lzb vc] 24)).heap.size (w3.alloc (.cells #[.int .i64 xb, .int .i64 yb, .slice va lzb vc] 24)) W → Calls _ _ _ _ _) := fun W b => rs.sameM_yes (.slice ma mzb mc) (.slice na mzb nc) Nb W (M3.out.reads.later b) ((hm.reads.later BN.out).later b) (by have := HLb.out.2; omega)
        clear hu hm hb BN B2 P2 U2 M2 Y0 p01 p02 p03
        obtain ⟨p11, p12, p13⟩ := P3.out.fb
        obtain ⟨q11, q12, q13⟩ := Q3.out.fb
        go_wp2_with fail
        refine CS.out.mono ?_
        rintro e w4 ⟨rfl, hb⟩
        have B4 : Hid (Below (w3.alloc (.cells #[.int .i64 xb, .int .i64 yb, .slice va lzb vc] 24)).heap.size (w3.alloc (.cells #[.int .i64 xb, .int .i64 yb, .slice va lzb vc] 24)) w4) := hb
        clear hb CS p11 p12 p13 q11 q12 q13 Q3
        go_wp2_with fail
        refine (CM.out _ B4.out).mono ?_
        rintro e w5 ⟨rfl, hb⟩
        have B5 : Hid (Below w1.heap.size w1 w5) := over (over B3.out B4.out) hb
        have P5 : Hid (Fx w5 w2.heap.size xb yb (.slice ua lzb uc)) := (P3.out.on B4.out).on hb
        have HA5 : Hid (Ak W0 hv mv k k (k + 1) (H ++ [[(.slice ua lzb uc, Lb.map Value.string)]]) (M ++ [[(.slice ma mzb mc, mls Nb)]]) w5) := HA.out.add B5.out ((U3.out.later B4.out).later hb) ((M3.out.later B4.out).later hb) (by have := HLb.out.1; omega) (by have := HLb.out.2; omega)
        clear hb B4 B3 U3 M3 P3 CM HA
        have HA6 : Hid (Ak W0 hv mv k k (k + 1) (H ++ [[(.slice ua lzb uc, Lb.map Value.string)]]) (M ++ [[(.slice ma mzb mc, mls Nb)]]) (w5.alloc (.cells #[.slice ua lzb uc] 22))) := HA5.out.later ((Below.refl _ _).alloc (Nat.le_refl _) _)
        have N6 : Hid (∀ j z, [Value.slice ua lzb uc][j]? = some z → (w5.alloc (.cells #[.slice ua lzb uc] 22)).cell? ((⟨w5.heap.size, 0, none⟩ : Addr).add j) = some z) := new1 w5 _ _
        obtain ⟨p11, p12, p13⟩ := P5.out.fb
        clear HA5
        go_wp2_with (at_builtin; first
          | (refine wpList_appS rfl (.tmp 68) (.tmp 71) 56 rfl W0.heap.size 1 22 iS (.slice none 0 0) 24 und1 SS.out.1 SS.out.2.1 SS.out.2.2.1 SS.out.2.2.2 rfl (by decide) _ (k) _ rfl HA6.out.rH ⟨w5.heap.size, 0, none⟩ 1 1 [.slice ua lzb uc] rfl rfl N6.out (by intro u hu; rw [List.mem_singleton.1 hu]; rfl) (by unfold maxLen; omega) (by omega) HA6.out.fr.size ?_
             intro hv' w7 p1 p2 p3 p4
             have HA7 : Hid (Ak W0 hv' mv (k + 1) k (k + 1) (H ++ [[(.slice ua lzb uc, Lb.map Value.string)]]) (M ++ [[(.slice ma mzb mc, mls Nb)]]) w7) := HA6.out.linkH p1 p2
             have HA8 : Hid (Ak W0 hv' mv (k + 1) k (k + 1) (H ++ [[(.slice ua lzb uc, Lb.map Value.string)]]) (M ++ [[(.slice ma mzb mc, mls Nb)]]) (w7.alloc (.cells #[.slice ma mzb mc] 25))) := HA7.out.later ((Below.refl _ _).alloc (Nat.le_refl _) _)
             have N8 : Hid (∀ j z, [Value.slice ma mzb mc][j]? = some z → (w7.alloc (.cells #[.slice ma mzb mc] 25)).cell? ((⟨w7.heap.size, 0, none⟩ : Addr).add j) = some z) := new1 w7 _ _
             clear p1 p2 p3 p4 HA7 HA6 N6)
          | (refine wpList_appS rfl (.tmp 73) (.tmp 75) 77 rfl W0.heap.size 1 25 iT (.slice none 0 0) 24 und2 TT.out.1 TT.out.2.1 TT.out.2.2.1 TT.out.2.2.2 rfl (by decide) _ (k) _ rfl HA8.out.rM ⟨w7.heap.size, 0, none⟩ 1 1 [.slice ma mzb mc] rfl rfl N8.out (by intro u hu; rw [List.mem_singleton.1 hu]; rfl) (by unfold maxLen; omega) (by omega) HA8.out.fr.size ?_
             intro mv' w9 p1 p2 p3 p4
             have HA9 : Hid (Ak W0 hv' mv' (k + 1) (k + 1) (k + 1) (H ++ [[(.slice ua lzb uc, Lb.map Value.string)]]) (M ++ [[(.slice ma mzb mc, mls Nb)]]) w9) := HA8.out.linkM p1 p2
             clear p1 p2 p3 p4 HA8))
        go_roundw
        case rel => exact ⟨k + 1, _, _, by omega, by go_num, HA9⟩
        case measure => simp [intOf]; omega
      · have q2 : ((k : Int) == 2) = false := by rw [beq_eq_false_iff_ne]; omega
        by_cases h3 : k = 3
        · have q3 : ((k : Int) == 3) = true := by rw [beq_iff_eq]; omega
          clear h2 h3
          have B1 : Hid (Below w1.heap.size w1 (w1.alloc (.cells #[.int .i64 lo', .int .i64 hi', (.slice a' n' cap')] 24))) := (Below.refl _ _).alloc (Nat.le_refl _) _
          have X0 : Hid (Fx (w1.alloc (.cells #[.int .i64 lo', .int .i64 hi', (.slice a' n' cap')] 24)) w1.heap.size lo' hi' (.slice a' n' cap')) := fx_new _ _ _ _
          have B0 : Below w1.heap.size w1 (w1.alloc (.cells #[.int .i64 lo, .int .i64 hi, (.slice a n cap)] 24)) := (Below.refl _ _).alloc (Nat.le_refl _) _
          have X : Fx (w1.alloc (.cells #[.int .i64 lo, .int .i64 hi, (.slice a n cap)] 24)) w1.heap.size lo hi (.slice a n cap) := fx_new _ _ _ _
          have f0 := frozen_of_row (w1.alloc (.cells #[.int .i64 lo, .int .i64 hi, (.slice a n cap)] 24)) w1.heap.size 0 _ _ X
          have f1 := frozen_of_row (w1.alloc (.cells #[.int .i64 lo, .int .i64 hi, (.slice a n cap)] 24)) w1.heap.size 1 _ _ X
          have f2 := frozen_of_row (w1.alloc (.cells #[.int .i64 lo, .int .i64 hi, (.slice a n cap)] 24)) w1.heap.size 2 _ _ X
          obtain ⟨t1, t2, t3⟩ := X.fb
          obtain ⟨g1, g2, g3⟩ := ((G1.out.on HA.out.fr).on B0).fb
          clear X B0
          obtain ⟨p01, p02, p03⟩ := X0.out.fb
          go_upto_region 9 with fail
          go_wp2_with fail
          refine (Cb.out _ (over BW.out B1.out)).mono ?_
          rintro e w2 ⟨⟨ua, uc, ma, mc, rfl, hu, hm⟩, hb⟩
          have BN : Hid (Below w2.heap.size w2 (w2.alloc (.cells #[.int .i64 xb, .int .i64 yb, .slice ua lzb uc] 24))) := (Below.refl _ _).alloc (Nat.le_refl _) _
          have B2 : Hid (Below w1.heap.size w1 (w2.alloc (.cells #[.int .i64 xb, .int .i64 yb, .slice ua lzb uc] 24))) := over (over B1.out hb) BN.out
          have Y0 : Hid (Fx (w2.alloc (.cells #[.int .i64 xb, .int .i64 yb, .slice ua lzb uc] 24)) w1.heap.size lo' hi' (.slice a' n' cap')) := (X0.out.on hb).on BN.out
          have P2 : Hid (Fx (w2.alloc (.cells #[.int .i64 xb, .int .i64 yb, .slice ua lzb uc] 24)) w2.heap.size xb yb (.slice ua lzb uc)) := fx_new _ _ _ _
          have U2 : Hid (Texts (w2.alloc (.cells #[.int .i64 xb, .int .i64 yb, .slice ua lzb uc] 24)) w1.heap.size (.slice ua lzb uc) Lb) := (hu.later BN.out).down B1.out.size
          have M2 : Hid (Mades (w2.alloc (.cells #[.int .i64 xb, .int .i64 yb, .slice ua lzb uc] 24)) w1.heap.size (.slice ma mzb mc) Nb) := (hm.later BN.out).down B1.out.size
          clear hu hm hb BN B1 X0 p01 p02 p03
          obtain ⟨p01, p02, p03⟩ := Y0.out.fb
          go_wp2_with fail
          refine (Db.out _ (over BW.out B2.out)).mono ?_
          rintro e w3 ⟨⟨va, vc, na, nc, rfl, hu, hm⟩, hb⟩
          have BN : Hid (Below w3.heap.size w3 (w3.alloc (.cells #[.int .i64 xb, .int .i64 yb, .slice va lzb vc] 24))) := (Below.refl _ _).alloc (Nat.le_refl _) _
          have B3 : Hid (Below w1.heap.size w1 (w3.alloc (.cells #[.int .i64 xb, .int .i64 yb, .slice va lzb vc] 24))) := over (over B2.out hb) BN.out
          have P3 : Hid (Fx (w3.alloc (.cells #[.int .i64 xb, .int .i64 yb, .slice va lzb vc] 24)) w2.heap.size xb yb (.slice ua lzb uc)) := (P2.out.on hb).on BN.out
          have Q3 : Hid (Fx (w3.alloc (.cells #[.int .i64 xb, .int .i64 yb, .slice va lzb vc] 24)) w3.heap.size xb yb (.slice va lzb vc)) := fx_new _ _ _ _
          have U3 : Hid (Texts (w3.alloc (.cells #[.int .i64 xb, .int .i64 yb, .slice va lzb vc] 24)) w1.heap.size (.slice ua lzb uc) Lb) := (U2.out.later hb).later BN.out
          have M3 : Hid (Mades (w3.alloc (.cells #[.int .i64 xb, .int .i64 yb, .slice va lzb vc] 24)) w1.heap.size (.slice ma mzb mc) Nb) := (M2.out.later hb).later BN.out
          have CS : Hid (Calls _ _ _ _ _) := same_yes xb yb (.slice ua lzb uc) (.slice va lzb vc) Lb (w3.alloc (.cells #[.int .i64 xb, .int .i64 yb, .slice va lzb vc] 24)) U3.out.reads (hu.reads.later BN.out) (by have := HLb.out.1; omega)
          have CM : Hid (∀ W, Below (w3.alloc (.cells #[.int .i64 xb, .int .i64 yb, .slice va lzb vc] 24)).heap.size (w3.alloc (.cells #[.int .i64 xb, .int .i64 yb, .slice va lzb vc] 24)) W → Calls _ _ _ _ _) := fun W b => rs.sameM_yes (.slice ma mzb mc) (.slice na mzb nc) Nb W (M3.out.reads.later b) ((hm.reads.later BN.out).later b) (by have := HLb.out.2; omega)
          clear hu hm hb BN B2 P2 U2 M2 Y0 p01 p02 p03
          obtain ⟨p11, p12, p13⟩ := P3.out.fb
          obtain ⟨q11, q12, q13⟩ := Q3.out.fb
          go_wp2_with fail
          refine CS.out.mono ?_
          rintro e w4 ⟨rfl, hb⟩
          have B4 : Hid (Below (w3.alloc (.cells #[.int .i64 xb, .int .i64 yb, .slice va lzb vc] 24)).heap.size (w3.alloc (.cells #[.int .i64 xb, .int .i64 yb, .slice va lzb vc] 24)) w4) := hb
          clear hb CS p11 p12 p13 q11 q12 q13 Q3
          go_wp2_with fail
          refine (CM.out _ B4.out).mono ?_
          rintro e w5 ⟨rfl, hb⟩
          have B5 : Hid (Below w1.heap.size w1 w5) := over (over B3.out B4.out) hb
          have P5 : Hid (Fx w5 w2.heap.size xb yb (.slice ua lzb uc)) := (P3.out.on B4.out).on hb
          have HA5 : Hid (Ak W0 hv mv k k (k + 1) (H ++ [[(.slice ua lzb uc, Lb.map Value.string)]]) (M ++ [[(.slice ma mzb mc, mls Nb)]]) w5) := HA.out.add B5.out ((U3.out.later B4.out).later hb) ((M3.out.later B4.out).later hb) (by have := HLb.out.1; omega) (by have := HLb.out.2; omega)
          clear hb B4 B3 U3 M3 P3 CM HA
          have HA6 : Hid (Ak W0 hv mv k k (k + 1) (H ++ [[(.slice ua lzb uc, Lb.map Value.string)]]) (M ++ [[(.slice ma mzb mc, mls Nb)]]) (w5.alloc (.cells #[.slice ua lzb uc] 22))) := HA5.out.later ((Below.refl _ _).alloc (Nat.le_refl _) _)
          have N6 : Hid (∀ j z, [Value.slice ua lzb uc][j]? = some z → (w5.alloc (.cells #[.slice ua lzb uc] 22)).cell? ((⟨w5.heap.size, 0, none⟩ : Addr).add j) = some z) := new1 w5 _ _
          obtain ⟨p11, p12, p13⟩ := P5.out.fb
          clear HA5
          go_wp2_with (at_builtin; first
            | (refine wpList_appS rfl (.tmp 68) (.tmp 71) 56 rfl W0.heap.size 1 22 iS (.slice none 0 0) 24 und1 SS.out.1 SS.out.2.1 SS.out.2.2.1 SS.out.2.2.2 rfl (by decide) _ (k) _ rfl HA6.out.rH ⟨w5.heap.size, 0, none⟩ 1 1 [.slice ua lzb uc] rfl rfl N6.out (by intro u hu; rw [List.mem_singleton.1 hu]; rfl) (by unfold maxLen; omega) (by omega) HA6.out.fr.size ?_
               intro hv' w7 p1 p2 p3 p4
               have HA7 : Hid (Ak W0 hv' mv (k + 1) k (k + 1) (H ++ [[(.slice ua lzb uc, Lb.map Value.string)]]) (M ++ [[(.slice ma mzb mc, mls Nb)]]) w7) := HA6.out.linkH p1 p2
               have HA8 : Hid (Ak W0 hv' mv (k + 1) k (k + 1) (H ++ [[(.slice ua lzb uc, Lb.map Value.string)]]) (M ++ [[(.slice ma mzb mc, mls Nb)]]) (w7.alloc (.cells #[.slice ma mzb mc] 25))) := HA7.out.later ((Below.refl _ _).alloc (Nat.le_refl _) _)
               have N8 : Hid (∀ j z, [Value.slice ma mzb mc][j]? = some z → (w7.alloc (.cells #[.slice ma mzb mc] 25)).cell? ((⟨w7.heap.size, 0, none⟩ : Addr).add j) = some z) := new1 w7 _ _
               clear p1 p2 p3 p4 HA7 HA6 N6)
            | (refine wpList_appS rfl (.tmp 73) (.tmp 75) 77 rfl W0.heap.size 1 25 iT (.slice none 0 0) 24 und2 TT.out.1 TT.out.2.1 TT.out.2.2.1 TT.out.2.2.2 rfl (by decide) _ (k) _ rfl HA8.out.rM ⟨w7.heap.size, 0, none⟩ 1 1 [.slice ma mzb mc] rfl rfl N8.out (by intro u hu; rw [List.mem_singleton.1 hu]; rfl) (by unfold maxLen; omega) (by omega) HA8.out.fr.size ?_
               intro mv' w9 p1 p2 p3 p4
               have HA9 : Hid (Ak W0 hv' mv' (k + 1) (k + 1) (k + 1) (H ++ [[(.slice ua lzb uc, Lb.map Value.string)]]) (M ++ [[(.slice ma mzb mc, mls Nb)]]) w9) := HA8.out.linkM p1 p2
               clear p1 p2 p3 p4 HA8))
          go_roundw
          case rel => exact ⟨k + 1, _, _, by omega, by go_num, HA9⟩
          case measure => simp [intOf]; omega
        · have q3 : ((k : Int) == 3) = false := by rw [beq_eq_false_iff_ne]; omega
          clear h2 h3
          have B1 : Hid (Below w1.heap.size w1 (w1.alloc (.cells #[.int .i64 lo, .int .i64 hi, (.slice a n cap)] 24))) := (Below.refl _ _).alloc (Nat.le_refl _) _
          have X0 : Hid (Fx (w1.alloc (.cells #[.int .i64 lo, .int .i64 hi, (.slice a n cap)] 24)) w1.heap.size lo hi (.slice a n cap)) := fx_new _ _ _ _
          obtain ⟨p01, p02, p03⟩ := X0.out.fb
          go_upto_region 9 with fail
          go_wp2_with fail
          refine (Ca.out _ (over BW.out B1.out)).mono ?_
          rintro e w2 ⟨⟨ua, uc, ma, mc, rfl, hu, hm⟩, hb⟩
          have BN : Hid (Below w2.heap.size w2 (w2.alloc (.cells #[.int .i64 xa, .int .i64 ya, .slice ua lza uc] 24))) := (Below.refl _ _).alloc (Nat.le_refl _) _
          have B2 : Hid (Below w1.heap.size w1 (w2.alloc (.cells #[.int .i64 xa, .int .i64 ya, .slice ua lza uc] 24))) := over (over B1.out hb) BN.out
          have Y0 : Hid (Fx (w2.alloc (.cells #[.int .i64 xa, .int .i64 ya, .slice ua lza uc] 24)) w1.heap.size lo hi (.slice a n cap)) := (X0.out.on hb).on BN.out
          have P2 : Hid (Fx (w2.alloc (.cells #[.int .i64 xa, .int .i64 ya, .slice ua lza uc] 24)) w2.heap.size xa ya (.slice ua lza uc)) := fx_new _ _ _ _
          have U2 : Hid (Texts (w2.alloc (.cells #[.int .i64 xa, .int .i64 ya, .slice ua lza uc] 24)) w1.heap.size (.slice ua lza uc) La) := (hu.later BN.out).down B1.out.size
          have M2 : Hid (Mades (w2.alloc (.cells #[.int .i64 xa, .int .i64 ya, .slice ua lza uc] 24)) w1.heap.size (.slice ma mza mc) Na) := (hm.later BN.out).down B1.out.size
          clear hu hm hb BN B1 X0 p01 p02 p03
          obtain ⟨p01, p02, p03⟩ := Y0.out.fb
          go_wp2_with fail
          refine (Da.out _ (over BW.out B2.out)).mono ?_
          rintro e w3 ⟨⟨va, vc, na, nc, rfl, hu, hm⟩, hb⟩
          have BN : Hid (Below w3.heap.size w3 (w3.alloc (.cells #[.int .i64 xa, .int .i64 ya, .slice va lza vc] 24))) := (Below.refl _ _).alloc (Nat.le_refl _) _
          have B3 : Hid (Below w1.heap.size w1 (w3.alloc (.cells #[.int .i64 xa, .int .i64 ya, .slice va lza vc] 24))) := over (over B2.out hb) BN.out
          have P3 : Hid (Fx (w3.alloc (.cells #[.int .i64 xa, .int .i64 ya, .slice va lza vc] 24)) w2.heap.size xa ya (.slice ua lza uc)) := (P2.out.on hb).on BN.out
          have Q3 : Hid (Fx (w3.alloc (.cells #[.int .i64 xa, .int .i64 ya, .slice va lza vc] 24)) w3.heap.size xa ya (.slice va lza vc)) := fx_new _ _ _ _
          have U3 : Hid (Texts (w3.alloc (.cells #[.int .i64 xa, .int .i64 ya, .slice va lza vc] 24)) w1.heap.size (.slice ua lza uc) La) := (U2.out.later hb).later BN.out
          have M3 : Hid (Mades (w3.alloc (.cells #[.int .i64 xa, .int .i64 ya, .slice va lza vc] 24)) w1.heap.size (.slice ma mza mc) Na) := (M2.out.later hb).later BN.out
          have CS : Hid (Calls _ _ _ _ _) := same_yes xa ya (.slice ua lza uc) (.slice va lza vc) La (w3.alloc (.cells #[.int .i64 xa, .int .i64 ya, .slice va lza vc] 24)) U3.out.reads (hu.reads.later BN.out) (by have := HLa.out.1; omega)
          have CM : Hid (∀ W, Below (w3.alloc (.cells #[.int .i64 xa, .int .i64 ya, .slice va lza vc] 24)).heap.size (w3.alloc (.cells #[.int .i64 xa, .int .i64 ya, .slice va lza vc] 24)) W → Calls _ _ _ _ _) := fun W b => rs.sameM_yes (.slice ma mza mc) (.slice na mza nc) Na W (M3.out.reads.later b) ((hm.reads.later BN.out).later b) (by have := HLa.out.2; omega)
          clear hu hm hb BN B2 P2 U2 M2 Y0 p01 p02 p03
          obtain ⟨p11, p12, p13⟩ := P3.out.fb
          obtain ⟨q11, q12, q13⟩ := Q3.out.fb
          go_wp2_with fail
          refine CS.out.mono ?_
          rintro e w4 ⟨rfl, hb⟩
          have B4 : Hid (Below (w3.alloc (.cells #[.int .i64 xa, .int .i64 ya, .slice va lza vc] 24)).heap.size (w3.alloc (.cells #[.int .i64 xa, .int .i64 ya, .slice va lza vc] 24)) w4) := hb
          clear hb CS p11 p12 p13 q11 q12 q13 Q3
          go_wp2_with fail
          refine (CM.out _ B4.out).mono ?_
          rintro e w5 ⟨rfl, hb⟩
          have B5 : Hid (Below w1.heap.size w1 w5) := over (over B3.out B4.out) hb
          have P5 : Hid (Fx w5 w2.heap.size xa ya (.slice ua lza uc)) := (P3.out.on B4.out).on hb
          have HA5 : Hid (Ak W0 hv mv k k (k + 1) (H ++ [[(.slice ua lza uc, La.map Value.string)]]) (M ++ [[(.slice ma mza mc, mls Na)]]) w5) := HA.out.add B5.out ((U3.out.later B4.out).later hb) ((M3.out.later B4.out).later hb) (by have := HLa.out.1; omega) (by have := HLa.out.2; omega)
          clear hb B4 B3 U3 M3 P3 CM HA
          have HA6 : Hid (Ak W0 hv mv k k (k + 1) (H ++ [[(.slice ua lza uc, La.map Value.string)]]) (M ++ [[(.slice ma mza mc, mls Na)]]) (w5.alloc (.cells #[.slice ua lza uc] 22))) := HA5.out.later ((Below.refl _ _).alloc (Nat.le_refl _) _)
          have N6 : Hid (∀ j z, [Value.slice ua lza uc][j]? = some z → (w5.alloc (.cells #[.slice ua lza uc] 22)).cell? ((⟨w5.heap.size, 0, none⟩ : Addr).add j) = some z) := new1 w5 _ _
          obtain ⟨p11, p12, p13⟩ := P5.out.fb
          clear HA5
          go_wp2_with (at_builtin; first
            | (refine wpList_appS rfl (.tmp 68) (.tmp 71) 56 rfl W0.heap.size 1 22 iS (.slice none 0 0) 24 und1 SS.out.1 SS.out.2.1 SS.out.2.2.1 SS.out.2.2.2 rfl (by decide) _ (k) _ rfl HA6.out.rH ⟨w5.heap.size, 0, none⟩ 1 1 [.slice ua lza uc] rfl rfl N6.out (by intro u hu; rw [List.mem_singleton.1 hu]; rfl) (by unfold maxLen; omega) (by omega) HA6.out.fr.size ?_
               intro hv' w7 p1 p2 p3 p4
               have HA7 : Hid (Ak W0 hv' mv (k + 1) k (k + 1) (H ++ [[(.slice ua lza uc, La.map Value.string)]]) (M ++ [[(.slice ma mza mc, mls Na)]]) w7) := HA6.out.linkH p1 p2
               have HA8 : Hid (Ak W0 hv' mv (k + 1) k (k + 1) (H ++ [[(.slice ua lza uc, La.map Value.string)]]) (M ++ [[(.slice ma mza mc, mls Na)]]) (w7.alloc (.cells #[.slice ma mza mc] 25))) := HA7.out.later ((Below.refl _ _).alloc (Nat.le_refl _) _)
               have N8 : Hid (∀ j z, [Value.slice ma mza mc][j]? = some z → (w7.alloc (.cells #[.slice ma mza mc] 25)).cell? ((⟨w7.heap.size, 0, none⟩ : Addr).add j) = some z) := new1 w7 _ _
               clear p1 p2 p3 p4 HA7 HA6 N6)
            | (refine wpList_appS rfl (.tmp 73) (.tmp 75) 77 rfl W0.heap.size 1 25 iT (.slice none 0 0) 24 und2 TT.out.1 TT.out.2.1 TT.out.2.2.1 TT.out.2.2.2 rfl (by decide) _ (k) _ rfl HA8.out.rM ⟨w7.heap.size, 0, none⟩ 1 1 [.slice ma mza mc] rfl rfl N8.out (by intro u hu; rw [List.mem_singleton.1 hu]; rfl) (by unfold maxLen; omega) (by omega) HA8.out.fr.size ?_
               intro mv' w9 p1 p2 p3 p4
               have HA9 : Hid (Ak W0 hv' mv' (k + 1) (k + 1) (k + 1) (H ++ [[(.slice ua lza uc, La.map Value.string)]]) (M ++ [[(.slice ma mza mc, mls Na)]]) w9) := HA8.out.linkM p1 p2
               clear p1 p2 p3 p4 HA8))
          go_roundw
          case rel => exact ⟨k + 1, _, _, by omega, by go_num, HA9⟩
          case measure => simp [intOf]; omega
    · have hlt' : ¬ (k : Int) < 5 := by omega
      obtain rfl : k = 5 := by omega
      have HZ : Hid (Ak W0 hv mv (5 + 0) (5 + 0) (5 + 0) H M w1) := HA.out
      clear HA BW d1 d2 d3 e1 e2 e3 BL
      go_wp2
      go_loopw [9, 10, 20] (fun hv mv i wr => ∃ (k : Nat) (H M : List (List (Value × List Value))), k ≤ 5 ∧ i = .int .i64 k ∧ Hid (Ak W0 hv mv (5 + k) (5 + k) (5 + k) H M wr)) (fun _ _ i _ => (5 - intOf i).toNat)
      case atStart => exact ⟨0, H, M, by omega, rfl, HZ⟩
      case round =>
        clear HZ
        obtain ⟨k, H, M, hk, rfl, HA⟩ := hrel
        obtain ⟨hv, rfl⟩ : ∃ v, v = u9 := ⟨_, rfl⟩
        obtain ⟨mv, rfl⟩ : ∃ v, v = u10 := ⟨_, rfl⟩
        obtain ⟨w1, rfl⟩ : ∃ v, v = wr := ⟨_, rfl⟩
        have BW : Hid (Below w.heap.size w w1) := over GB.out HA.out.fr
        obtain ⟨d1, d2, d3⟩ := (G0.out.on HA.out.fr).fb
        obtain ⟨e1, e2, e3⟩ := (G1.out.on HA.out.fr).fb
        have BL : Hid (w.heap.size + 2 ≤ w1.heap.size) := by have := HA.out.fr.size; have := HS0.out; unfold Hid; omega
        by_cases hlt : k < 5
        · have hlt' : (k : Int) < 5 := by omega
          by_cases h2 : k = 2
          · have q2 : ((k : Int) == 2) = true := by rw [beq_iff_eq]; omega
            clear h2
            have B0 : Below w1.heap.size w1 ((w1.alloc (.cells #[.int .i64 lo, .int .i64 hi, (.slice a n cap)] 24)).alloc (.cells #[.int .i64 lo', .int .i64 hi', (.slice a' n' cap')] 24)) := ((Below.refl _ _).alloc (Nat.le_refl _) _).alloc (by simp) _
            have X : Fx ((w1.alloc (.cells #[.int .i64 lo, .int .i64 hi, (.slice a n cap)] 24)).alloc (.cells #[.int .i64 lo', .int .i64 hi', (.slice a' n' cap')] 24)) w1.heap.size lo hi (.slice a n cap) := (fx_new _ _ _ _).on ((Below.refl _ _).alloc (Nat.le_refl _) _)
            have Y := fx_new (w1.alloc (.cells #[.int .i64 lo, .int .i64 hi, (.slice a n cap)] 24)) lo' hi' (.slice a' n' cap')
            rw [show (w1.alloc (.cells #[.int .i64 lo, .int .i64 hi, (.slice a n cap)] 24)).heap.size = w1.heap.size + 1 by simp] at Y
            obtain ⟨r1, r2, r3⟩ := ((G1.out.on HA.out.fr).on ((Below.refl _ _).alloc (Nat.le_refl _) (.cells #[.int .i64 lo, .int .i64 hi, (.slice a n cap)] 24))).fb
            have ne1 : w.heap.size ≠ w1.heap.size := by have := BL.out; omega
            have ne2 : w.heap.size ≠ w1.heap.size + 1 := by have := BL.out; omega
            have BB : Below w1.heap.size w1 ((w1.alloc (.cells #[.int .i64 lo', .int .i64 hi', (.slice a' n' cap')] 24)).alloc (.cells #[.int .i64 lo', .int .i64 hi', (.slice a' n' cap')] 24)) := ((Below.refl _ _).alloc (Nat.le_refl _) _).alloc (by simp) _
            have Xb : Fx ((w1.alloc (.cells #[.int .i64 lo', .int .i64 hi', (.slice a' n' cap')] 24)).alloc (.cells #[.int .i64 lo', .int .i64 hi', (.slice a' n' cap')] 24)) w1.heap.size lo' hi' (.slice a' n' cap') := (fx_new _ _ _ _).on ((Below.refl _ _).alloc (Nat.le_refl _) _)
            have Yb := fx_new (w1.alloc (.cells #[.int .i64 lo', .int .i64 hi', (.slice a' n' cap')] 24)) lo' hi' (.slice a' n' cap')
            rw [show (w1.alloc (.cells #[.int .i64 lo', .int .i64 hi', (.slice a' n' cap')] 24)).heap.size = w1.heap.size + 1 by simp] at Yb
            have Gb : Fx ((w1.alloc (.cells #[.int .i64 lo', .int .i64 hi', (.slice a' n' cap')] 24)).alloc (.cells #[.int .i64 lo', .int .i64 hi', (.slice a' n' cap')] 24)) w.heap.size lo hi (.slice a n cap) := (G0.out.on HA.out.fr).on BB
            have QQ : (fun wx => Hid (Below w1.heap.size w1 wx ∧ Fx wx w1.heap.size lo' hi' (.slice a' n' cap') ∧ Fx wx (w1.heap.size + 1) lo' hi' (.slice a' n' cap') ∧ Fx wx w.heap.size lo hi (.slice a n cap))) ((w1.alloc (.cells #[.int .i64 lo', .int .i64 hi', (.slice a' n' cap')] 24)).alloc (.cells #[.int .i64 lo', .int .i64 hi', (.slice a' n' cap')] 24)) := ⟨BB, Xb, Yb, Gb⟩
            have f0 := frozen_of_row ((w1.alloc (.cells #[.int .i64 lo, .int .i64 hi, (.slice a n cap)] 24)).alloc (.cells #[.int .i64 lo', .int .i64 hi', (.slice a' n' cap')] 24)) w1.heap.size 0 _ _ X
            have f1 := frozen_of_row ((w1.alloc (.cells #[.int .i64 lo, .int .i64 hi, (.slice a n cap)] 24)).alloc (.cells #[.int .i64 lo', .int .i64 hi', (.slice a' n' cap')] 24)) w1.heap.size 1 _ _ X
            have f2 := frozen_of_row ((w1.alloc (.cells #[.int .i64 lo, .int .i64 hi, (.slice a n cap)] 24)).alloc (.cells #[.int .i64 lo', .int .i64 hi', (.slice a' n' cap')] 24)) w1.heap.size 2 _ _ X
            obtain ⟨t1, t2, t3⟩ := X.fb
            obtain ⟨g1, g2, g3⟩ := ((G1.out.on HA.out.fr).on B0).fb
            clear X Y Xb Yb Gb B0 BB
            go_upto_region 22 with fail
            go_cut [] (fun wx => Hid (Below w1.heap.size w1 wx ∧ Fx wx w1.heap.size lo' hi' (.slice a' n' cap') ∧ Fx wx (w1.heap.size + 1) lo' hi' (.slice a' n' cap') ∧ Fx wx w.heap.size lo hi (.slice a n cap)))
            case first =>
              go_wp2
              go_meet
              exact QQ
            case rest =>
            clear QQ f0 f1 f2 t1 t2 t3 g1 g2 g3 d1 d2 d3 e1 e2 e3 r1 r2 r3
            obtain ⟨wa, rfl⟩ : ∃ v, v = wc := ⟨_, rfl⟩
            have HQ : Hid _ := hcut
            clear hcut
            have X := HQ.out.2.1
            have Y := HQ.out.2.2.1
            have QQ : (fun wx => Hid (Below w1.heap.size w1 wx ∧ Fx wx w1.heap.size lo' hi' (.slice a' n' cap') ∧ Fx wx (w1.heap.size + 1) lo hi (.slice a n cap))) (set3 wa (w1.heap.size + 1) (.int .i64 lo) (.int .i64 hi) (.slice a n cap)) := ⟨below_set3 HQ.out.1 (Nat.le_succ _) _ _ _, fx_set_other X (by omega) _ _ _, fx_set Y _ _ _⟩
            unfold set3 at QQ
            have h0 := frozen_of_row wa (w1.heap.size + 1) 0 _ _ Y
            have h1 := frozen_of_row wa (w1.heap.size + 1) 1 _ _ Y
            have h2 := frozen_of_row wa (w1.heap.size + 1) 2 _ _ Y
            obtain ⟨t1, t2, t3⟩ := Y.fb
            obtain ⟨v1, v2, v3⟩ := HQ.out.2.2.2.fb
            clear X Y
            go_upto_region 23 with fail
            go_cut [] (fun wx => Hid (Below w1.heap.size w1 wx ∧ Fx wx w1.heap.size lo' hi' (.slice a' n' cap') ∧ Fx wx (w1.heap.size + 1) lo hi (.slice a n cap)))
            case first =>
              go_wp2
              go_meet
              exact QQ
            case rest =>
            clear QQ h0 h1 h2 t1 t2 t3 v1 v2 v3 HQ
            obtain ⟨wb, rfl⟩ : ∃ v, v = wc := ⟨_, rfl⟩
            have HQ : Hid _ := hcut
            clear hcut ne1 ne2
            have B1 : Hid (Below w1.heap.size w1 wb) := HQ.out.1
            have X0 : Hid (Fx wb w1.heap.size lo' hi' (.slice a' n' cap')) := HQ.out.2.1
            have X1 : Hid (Fx wb (w1.heap.size + 1) lo hi (.slice a n cap)) := HQ.out.2.2
            clear HQ
            obtain ⟨p01, p02, p03⟩ := X0.out.fb
            obtain ⟨p11, p12, p13⟩ := X1.out.fb
            go_upto_region 24 with fail
            go_wp2_with fail
            refine (Cq.out _ (over BW.out B1.out)).mono ?_
            rintro e w2 ⟨⟨ua, uc, ma, mc, rfl, hu, hm⟩, hb⟩
            have BN : Hid (Below w2.heap.size w2 (w2.alloc (.cells #[.int .i64 xq, .int .i64 yq, .slice ua lzq uc] 24))) := (Below.refl _ _).alloc (Nat.le_refl _) _
            have B2 : Hid (Below w1.heap.size w1 (w2.alloc (.cells #[.int .i64 xq, .int .i64 yq, .slice ua lzq uc] 24))) := over (over B1.out hb) BN.out
            have Y0 : Hid (Fx (w2.alloc (.cells #[.int .i64 xq, .int .i64 yq, .slice ua lzq uc] 24)) w1.heap.size lo' hi' (.slice a' n' cap')) := (X0.out.on hb).on BN.out
            have Y1 : Hid (Fx (w2.alloc (.cells #[.int .i64 xq, .int .i64 yq, .slice ua lzq uc] 24)) (w1.heap.size + 1) lo hi (.slice a n cap)) := (X1.out.on hb).on BN.out
            have P2 : Hid (Fx (w2.alloc (.cells #[.int .i64 xq, .int .i64 yq, .slice ua lzq uc] 24)) w2.heap.size xq yq (.slice ua lzq uc)) := fx_new _ _ _ _
            have U2 : Hid (Texts (w2.alloc (.cells #[.int .i64 xq, .int .i64 yq, .slice ua lzq uc] 24)) w1.heap.size (.slice ua lzq uc) Lq) := (hu.later BN.out).down B1.out.size
            have M2 : Hid (Mades (w2.alloc (.cells #[.int .i64 xq, .int .i64 yq, .slice ua lzq uc] 24)) w1.heap.size (.slice ma mzq mc) Nq) := (hm.later BN.out).down B1.out.size
            clear hu hm hb BN B1 X0 p01 p02 p03 X1 p11 p12 p13
            obtain ⟨p01, p02, p03⟩ := Y0.out.fb
            obtain ⟨p11, p12, p13⟩ := Y1.out.fb
            go_wp2_with fail
            refine (Dq.out _ (over BW.out B2.out)).mono ?_
            rintro e w3 ⟨⟨va, vc, na, nc, rfl, hu, hm⟩, hb⟩
            have BN : Hid (Below w3.heap.size w3 (w3.alloc (.cells #[.int .i64 xq, .int .i64 yq, .slice va lzq vc] 24))) := (Below.refl _ _).alloc (Nat.le_refl _) _
            have B3 : Hid (Below w1.heap.size w1 (w3.alloc (.cells #[.int .i64 xq, .int .i64 yq, .slice va lzq vc] 24))) := over (over B2.out hb) BN.out
            have P3 : Hid (Fx (w3.alloc (.cells #[.int .i64 xq, .int .i64 yq, .slice va lzq vc] 24)) w2.heap.size xq yq (.slice ua lzq uc)) := (P2.out.on hb).on BN.out
            have Q3 : Hid (Fx (w3.alloc (.cells #[.int .i64 xq, .int .i64 yq, .slice va lzq vc] 24)) w3.heap.size xq yq (.slice va lzq vc)) := fx_new _ _ _ _
            have U3 : Hid (Texts (w3.alloc (.cells #[.int .i64 xq, .int .i64 yq, .slice va lzq vc] 24)) w1.heap.size (.slice ua lzq uc) Lq) := (U2.out.later hb).later BN.out
            have M3 : Hid (Mades (w3.alloc (.cells #[.int .i64 xq, .int .i64 yq, .slice va lzq vc] 24)) w1.heap.size (.slice ma mzq mc) Nq) := (M2.out.later hb).later BN.out
            have CS : Hid (Calls _ _ _ _ _) := same_yes xq yq (.slice ua lzq uc) (.slice va lzq vc) Lq (w3.alloc (.cells #[.int .i64 xq, .int .i64 yq, .slice va lzq vc] 24)) U3.out.reads (hu.reads.later BN.out) (by have := HLq.out.1; omega)
            have CM : Hid (∀ W, Below (w3.alloc (.cells #[.int .i64 xq, .int .i64 yq, .slice va lzq vc] 24)).heap.size (w3.alloc (.cells #[.int .i64 xq, .int .i64 yq, .slice va lzq vc] 24)) W → Calls _ _ _ _ _) := fun W b => rs.sameM_yes (.slice ma mzq mc) (.slice na mzq nc) Nq W (M3.out.reads.later b) ((hm.reads.later BN.out).later b) (by have := HLq.out.2; omega)
            clear hu hm hb BN B2 P2 U2 M2 Y0 p01 p02 p03 Y1 p11 p12 p13
            obtain ⟨p11, p12, p13⟩ := P3.out.fb
            obtain ⟨q11, q12, q13⟩ := Q3.out.fb
            go_wp2_with fail
            refine CS.out.mono ?_
            rintro e w4 ⟨rfl, hb⟩
            have B4 : Hid (Below (w3.alloc (.cells #[.int .i64 xq, .int .i64 yq, .slice va lzq vc] 24)).heap.size (w3.alloc (.cells #[.int .i64 xq, .int .i64 yq, .slice va lzq vc] 24)) w4) := hb
            clear hb CS p11 p12 p13 q11 q12 q13 Q3
            go_wp2_with fail
            refine (CM.out _ B4.out).mono ?_
            rintro e w5 ⟨rfl, hb⟩
            have B5 : Hid (Below w1.heap.size w1 w5) := over (over B3.out B4.out) hb
            have P5 : Hid (Fx w5 w2.heap.size xq yq (.slice ua lzq uc)) := (P3.out.on B4.out).on hb
            have HA5 : Hid (Ak W0 hv mv (5 + k) (5 + k) ((5 + k) + 1) (H ++ [[(.slice ua lzq uc, Lq.map Value.string)]]) (M ++ [[(.slice ma mzq mc, mls Nq)]]) w5) := HA.out.add B5.out ((U3.out.later B4.out).later hb) ((M3.out.later B4.out).later hb) (by have := HLq.out.1; omega) (by have := HLq.out.2; omega)
            clear hb B4 B3 U3 M3 P3 CM HA
            have HA6 : Hid (Ak W0 hv mv (5 + k) (5 + k) ((5 + k) + 1) (H ++ [[(.slice ua lzq uc, Lq.map Value.string)]]) (M ++ [[(.slice ma mzq mc, mls Nq)]]) (w5.alloc (.cells #[.slice ua lzq uc] 22))) := HA5.out.later ((Below.refl _ _).alloc (Nat.le_refl _) _)
            have N6 : Hid (∀ j z, [Value.slice ua lzq uc][j]? = some z → (w5.alloc (.cells #[.slice ua lzq uc] 22)).cell? ((⟨w5.heap.size, 0, none⟩ : Addr).add j) = some z) := new1 w5 _ _
            obtain ⟨p11, p12, p13⟩ := P5.out.fb
            clear HA5
            go_wp2_with (at_builtin; first
              | (refine wpList_appS rfl (.tmp 117) (.tmp 120) 56 rfl W0.heap.size 1 22 iS (.slice none 0 0) 24 und1 SS.out.1 SS.out.2.1 SS.out.2.2.1 SS.out.2.2.2 rfl (by decide) _ ((5 + k)) _ rfl HA6.out.rH ⟨w5.heap.size, 0, none⟩ 1 1 [.slice ua lzq uc] rfl rfl N6.out (by intro u hu; rw [List.mem_singleton.1 hu]; rfl) (by unfold maxLen; omega) (by omega) HA6.out.fr.size ?_
                 intro hv' w7 p1 p2 p3 p4
                 have HA7 : Hid (Ak W0 hv' mv ((5 + k) + 1) (5 + k) ((5 + k) + 1) (H ++ [[(.slice ua lzq uc, Lq.map Value.string)]]) (M ++ [[(.slice ma mzq mc, mls Nq)]]) w7) := HA6.out.linkH p1 p2
                 have HA8 : Hid (Ak W0 hv' mv ((5 + k) + 1) (5 + k) ((5 + k) + 1) (H ++ [[(.slice ua lzq uc, Lq.map Value.string)]]) (M ++ [[(.slice ma mzq mc, mls Nq)]]) (w7.alloc (.cells #[.slice ma mzq mc] 25))) := HA7.out.later ((Below.refl _ _).alloc (Nat.le_refl _) _)
                 have N8 : Hid (∀ j z, [Value.slice ma mzq mc][j]? = some z → (w7.alloc (.cells #[.slice ma mzq mc] 25)).cell? ((⟨w7.heap.size, 0, none⟩ : Addr).add j) = some z) := new1 w7 _ _
                 clear p1 p2 p3 p4 HA7 HA6 N6)
              | (refine wpList_appS rfl (.tmp 122) (.tmp 124) 77 rfl W0.heap.size 1 25 iT (.slice none 0 0) 24 und2 TT.out.1 TT.out.2.1 TT.out.2.2.1 TT.out.2.2.2 rfl (by decide) _ ((5 + k)) _ rfl HA8.out.rM ⟨w7.heap.size, 0, none⟩ 1 1 [.slice ma mzq mc] rfl rfl N8.out (by intro u hu; rw [List.mem_singleton.1 hu]; rfl) (by unfold maxLen; omega) (by omega) HA8.out.fr.size ?_
                 intro mv' w9 p1 p2 p3 p4
                 have HA9 : Hid (Ak W0 hv' mv' ((5 + k) + 1) ((5 + k) + 1) ((5 + k) + 1) (H ++ [[(.slice ua lzq uc, Lq.map Value.string)]]) (M ++ [[(.slice ma mzq mc, mls Nq)]]) w9) := HA8.out.linkM p1 p2
                 clear p1 p2 p3 p4 HA8))
            go_roundw
            case rel => exact ⟨k + 1, _, _, by omega, by go_num, HA9⟩
            case measure => simp [intOf]; omega
          · have q2 : ((k : Int) == 2) = false := by rw [beq_eq_false_iff_ne]; omega
            by_cases h3 : k = 3
            · have q3 : ((k : Int) == 3) = true := by rw [beq_iff_eq]; omega
              clear h2 h3
              have B0 : Below w1.heap.size w1 ((w1.alloc (.cells #[.int .i64 lo, .int .i64 hi, (.slice a n cap)] 24)).alloc (.cells #[.int .i64 lo', .int .i64 hi', (.slice a' n' cap')] 24)) := ((Below.refl _ _).alloc (Nat.le_refl _) _).alloc (by simp) _
              have X : Fx ((w1.alloc (.cells #[.int .i64 lo, .int .i64 hi, (.slice a n cap)] 24)).alloc (.cells #[.int .i64 lo', .int .i64 hi', (.slice a' n' cap')] 24)) w1.heap.size lo hi (.slice a n cap) := (fx_new _ _ _ _).on ((Below.refl _ _).alloc (Nat.le_refl _) _)
              have Y := fx_new (w1.alloc (.cells #[.int .i64 lo, .int .i64 hi, (.slice a n cap)] 24)) lo' hi' (.slice a' n' cap')
              rw [show (w1.alloc (.cells #[.int .i64 lo, .int .i64 hi, (.slice a n cap)] 24)).heap.size = w1.heap.size + 1 by simp] at Y
              obtain ⟨r1, r2, r3⟩ := ((G1.out.on HA.out.fr).on ((Below.refl _ _).alloc (Nat.le_refl _) (.cells #[.int .i64 lo, .int .i64 hi, (.slice a n cap)] 24))).fb
              have ne1 : w.heap.size ≠ w1.heap.size := by have := BL.out; omega
              have ne2 : w.heap.size ≠ w1.heap.size + 1 := by have := BL.out; omega
              have BB : Below w1.heap.size w1 ((w1.alloc (.cells #[.int .i64 lo', .int .i64 hi', (.slice a' n' cap')] 24)).alloc (.cells #[.int .i64 lo', .int .i64 hi', (.slice a' n' cap')] 24)) := ((Below.refl _ _).alloc (Nat.le_refl _) _).alloc (by simp) _
              have Xb : Fx ((w1.alloc (.cells #[.int .i64 lo', .int .i64 hi', (.slice a' n' cap')] 24)).alloc (.cells #[.int .i64 lo', .int .i64 hi', (.slice a' n' cap')] 24)) w1.heap.size lo' hi' (.slice a' n' cap') := (fx_new _ _ _ _).on ((Below.refl _ _).alloc (Nat.le_refl _) _)
              have Yb := fx_new (w1.alloc (.cells #[.int .i64 lo', .int .i64 hi', (.slice a' n' cap')] 24)) lo' hi' (.slice a' n' cap')
              rw [show (w1.alloc (.cells #[.int .i64 lo', .int .i64 hi', (.slice a' n' cap')] 24)).heap.size = w1.heap.size + 1 by simp] at Yb
              have Gb : Fx ((w1.alloc (.cells #[.int .i64 lo', .int .i64 hi', (.slice a' n' cap')] 24)).alloc (.cells #[.int .i64 lo', .int .i64 hi', (.slice a' n' cap')] 24)) w.heap.size lo hi (.slice a n cap) := (G0.out.on HA.out.fr).on BB
              have QQ : (fun wx => Hid (Below w1.heap.size w1 wx ∧ Fx wx w1.heap.size lo' hi' (.slice a' n' cap') ∧ Fx wx (w1.heap.size + 1) lo' hi' (.slice a' n' cap') ∧ Fx wx w.heap.size lo hi (.slice a n cap))) ((w1.alloc (.cells #[.int .i64 lo', .int .i64 hi', (.slice a' n' cap')] 24)).alloc (.cells #[.int .i64 lo', .int .i64 hi', (.slice a' n' cap')] 24)) := ⟨BB, Xb, Yb, Gb⟩
              have f0 := frozen_of_row ((w1.alloc (.cells #[.int .i64 lo, .int .i64 hi, (.slice a n cap)] 24)).alloc (.cells #[.int .i64 lo', .int .i64 hi', (.slice a' n' cap')] 24)) w1.heap.size 0 _ _ X
              have f1 := frozen_of_row ((w1.alloc (.cells #[.int .i64 lo, .int .i64 hi, (.slice a n cap)] 24)).alloc (.cells #[.int .i64 lo', .int .i64 hi', (.slice a' n' cap')] 24)) w1.heap.size 1 _ _ X
              have f2 := frozen_of_row ((w1.alloc (.cells #[.int .i64 lo, .int .i64 hi, (.slice a n cap)] 24)).alloc (.cells #[.int .i64 lo', .int .i64 hi', (.slice a' n' cap')] 24)) w1.heap.size 2 _ _ X
              obtain ⟨t1, t2, t3⟩ := X.fb
              obtain ⟨g1, g2, g3⟩ := ((G1.out.on HA.out.fr).on B0).fb
              clear X Y Xb Yb Gb B0 BB
              go_upto_region 22 with fail
              go_cut [] (fun wx => Hid (Below w1.heap.size w1 wx ∧ Fx wx w1.heap.size lo' hi' (.slice a' n' cap') ∧ Fx wx (w1.heap.size + 1) lo' hi' (.slice a' n' cap') ∧ Fx wx w.heap.size lo hi (.slice a n cap)))
              case first =>
                go_wp2
                go_meet
                exact QQ
              case rest =>
              clear QQ f0 f1 f2 t1 t2 t3 g1 g2 g3 d1 d2 d3 e1 e2 e3 r1 r2 r3
              obtain ⟨wa, rfl⟩ : ∃ v, v = wc := ⟨_, rfl⟩
              have HQ : Hid _ := hcut
              clear hcut
              have X := HQ.out.2.1
              have Y := HQ.out.2.2.1
              have QQ : (fun wx => Hid (Below w1.heap.size w1 wx ∧ Fx wx w1.heap.size lo' hi' (.slice a' n' cap') ∧ Fx wx (w1.heap.size + 1) lo hi (.slice a n cap))) (set3 wa (w1.heap.size + 1) (.int .i64 lo) (.int .i64 hi) (.slice a n cap)) := ⟨below_set3 HQ.out.1 (Nat.le_succ _) _ _ _, fx_set_other X (by omega) _ _ _, fx_set Y _ _ _⟩
              unfold set3 at QQ
              have h0 := frozen_of_row wa (w1.heap.size + 1) 0 _ _ Y
              have h1 := frozen_of_row wa (w1.heap.size + 1) 1 _ _ Y
              have h2 := frozen_of_row wa (w1.heap.size + 1) 2 _ _ Y
              obtain ⟨t1, t2, t3⟩ := Y.fb
              obtain ⟨v1, v2, v3⟩ := HQ.out.2.2.2.fb
              clear X Y
              go_upto_region 23 with fail
              go_cut [] (fun wx => Hid (Below w1.heap.size w1 wx ∧ Fx wx w1.heap.size lo' hi' (.slice a' n' cap') ∧ Fx wx (w1.heap.size + 1) lo hi (.slice a n cap)))
              case first =>
                go_wp2
                go_meet
                exact QQ
              case rest =>
              clear QQ h0 h1 h2 t1 t2 t3 v1 v2 v3 HQ
              obtain ⟨wb, rfl⟩ : ∃ v, v = wc := ⟨_, rfl⟩
              have HQ : Hid _ := hcut
              clear hcut ne1 ne2
              have B1 : Hid (Below w1.heap.size w1 wb) := HQ.out.1
              have X0 : Hid (Fx wb w1.heap.size lo' hi' (.slice a' n' cap')) := HQ.out.2.1
              have X1 : Hid (Fx wb (w1.heap.size + 1) lo hi (.slice a n cap)) := HQ.out.2.2
              clear HQ
              obtain ⟨p01, p02, p03⟩ := X0.out.fb
              obtain ⟨p11, p12, p13⟩ := X1.out.fb
              go_upto_region 24 with fail
              go_wp2_with fail
              refine (Cq.out _ (over BW.out B1.out)).mono ?_
              rintro e w2 ⟨⟨ua, uc, ma, mc, rfl, hu, hm⟩, hb⟩
              have BN : Hid (Below w2.heap.size w2 (w2.alloc (.cells #[.int .i64 xq, .int .i64 yq, .slice ua lzq uc] 24))) := (Below.refl _ _).alloc (Nat.le_refl _) _
              have B2 : Hid (Below w1.heap.size w1 (w2.alloc (.cells #[.int .i64 xq, .int .i64 yq, .slice ua lzq uc] 24))) := over (over B1.out hb) BN.out
              have Y0 : Hid (Fx (w2.alloc (.cells #[.int .i64 xq, .int .i64 yq, .slice ua lzq uc] 24)) w1.heap.size lo' hi' (.slice a' n' cap')) := (X0.out.on hb).on BN.out
              have Y1 : Hid (Fx (w2.alloc (.cells #[.int .i64 xq, .int .i64 yq, .slice ua lzq uc] 24)) (w1.heap.size + 1) lo hi (.slice a n cap)) := (X1.out.on hb).on BN.out
              have P2 : Hid (Fx (w2.alloc (.cells #[.int .i64 xq, .int .i64 yq, .slice ua lzq uc] 24)) w2.heap.size xq yq (.slice ua lzq uc)) := fx_new _ _ _ _
              have U2 : Hid (Texts (w2.alloc (.cells #[.int .i64 xq, .int .i64 yq, .slice ua lzq uc] 24)) w1.heap.size (.slice ua lzq uc) Lq) := (hu.later BN.out).down B1.out.size
              have M2 : Hid (Mades (w2.alloc (.cells #[.int .i64 xq, .int .i64 yq, .slice ua lzq uc] 24)) w1.heap.size (.slice ma mzq mc) Nq) := (hm.later BN.out).down B1.out.size
              clear hu hm hb BN B1 X0 p01 p02 p03 X1 p11 p12 p13
              obtain ⟨p01, p02, p03⟩ := Y0.out.fb
              obtain ⟨p11, p12, p13⟩ := Y1.out.fb
              go_wp2_with fail
              refine (Dq.out _ (over BW.out B2.out)).mono ?_
              rintro e w3 ⟨⟨va, vc, na, nc, rfl, hu, hm⟩, hb⟩
              have BN : Hid (Below w3.heap.size w3 (w3.alloc (.cells #[.int .i64 xq, .int .i64 yq, .slice va lzq vc] 24))) := (Below.refl _ _).alloc (Nat.le_refl _) _
              have B3 : Hid (Below w1.heap.size w1 (w3.alloc (.cells #[.int .i64 xq, .int .i64 yq, .slice va lzq vc] 24))) := over (over B2.out hb) BN.out
              have P3 : Hid (Fx (w3.alloc (.cells #[.int .i64 xq, .int .i64 yq, .slice va lzq vc] 24)) w2.heap.size xq yq (.slice ua lzq uc)) := (P2.out.on hb).on BN.out
              have Q3 : Hid (Fx (w3.alloc (.cells #[.int .i64 xq, .int .i64 yq, .slice va lzq vc] 24)) w3.heap.size xq yq (.slice va lzq vc)) := fx_new _ _ _ _
              have U3 : Hid (Texts (w3.alloc (.cells #[.int .i64 xq, .int .i64 yq, .slice va lzq vc] 24)) w1.heap.size (.slice ua lzq uc) Lq) := (U2.out.later hb).later BN.out
              have M3 : Hid (Mades (w3.alloc (.cells #[.int .i64 xq, .int .i64 yq, .slice va lzq vc] 24)) w1.heap.size (.slice ma mzq mc) Nq) := (M2.out.later hb).later BN.out
              have CS : Hid (Calls _ _ _ _ _) := same_yes xq yq (.slice ua lzq uc) (.slice va lzq vc) Lq (w3.alloc (.cells #[.int .i64 xq, .int .i64 yq, .slice va lzq vc] 24)) U3.out.reads (hu.reads.later BN.out) (by have := HLq.out.1; omega)
              have CM : Hid (∀ W, Below (w3.alloc (.cells #[.int .i64 xq, .int .i64 yq, .slice va lzq vc] 24)).heap.size (w3.alloc (.cells #[.int .i64 xq, .int .i64 yq, .slice va lzq vc] 24)) W → Calls _ _ _ _ _) := fun W b => rs.sameM_yes (.slice ma mzq mc) (.slice na mzq nc) Nq W (M3.out.reads.later b) ((hm.reads.later BN.out).later b) (by have := HLq.out.2; omega)
              clear hu hm hb BN B2 P2 U2 M2 Y0 p01 p02 p03 Y1 p11 p12 p13
              obtain ⟨p11, p12, p13⟩ := P3.out.fb
              obtain ⟨q11, q12, q13⟩ := Q3.out.fb
              go_wp2_with fail
              refine CS.out.mono ?_
              rintro e w4 ⟨rfl, hb⟩
              have B4 : Hid (Below (w3.alloc (.cells #[.int .i64 xq, .int .i64 yq, .slice va lzq vc] 24)).heap.size (w3.alloc (.cells #[.int .i64 xq, .int .i64 yq, .slice va lzq vc] 24)) w4) := hb
              clear hb CS p11 p12 p13 q11 q12 q13 Q3
              go_wp2_with fail
              refine (CM.out _ B4.out).mono ?_
              rintro e w5 ⟨rfl, hb⟩
              have B5 : Hid (Below w1.heap.size w1 w5) := over (over B3.out B4.out) hb
              have P5 : Hid (Fx w5 w2.heap.size xq yq (.slice ua lzq uc)) := (P3.out.on B4.out).on hb
              have HA5 : Hid (Ak W0 hv mv (5 + k) (5 + k) ((5 + k) + 1) (H ++ [[(.slice ua lzq uc, Lq.map Value.string)]]) (M ++ [[(.slice ma mzq mc, mls Nq)]]) w5) := HA.out.add B5.out ((U3.out.later B4.out).later hb) ((M3.out.later B4.out).later hb) (by have := HLq.out.1; omega) (by have := HLq.out.2; omega)
              clear hb B4 B3 U3 M3 P3 CM HA
              have HA6 : Hid (Ak W0 hv mv (5 + k) (5 + k) ((5 + k) + 1) (H ++ [[(.slice ua lzq uc, Lq.map Value.string)]]) (M ++ [[(.slice ma mzq mc, mls Nq)]]) (w5.alloc (.cells #[.slice ua lzq uc] 22))) := HA5.out.later ((Below.refl _ _).alloc (Nat.le_refl _) _)
              have N6 : Hid (∀ j z, [Value.slice ua lzq uc][j]? = some z → (w5.alloc (.cells #[.slice ua lzq uc] 22)).cell? ((⟨w5.heap.size, 0, none⟩ : Addr).add j) = some z) := new1 w5 _ _
              obtain ⟨p11, p12, p13⟩ := P5.out.fb
              clear HA5
              go_wp2_with (at_builtin; first
                | (refine wpList_appS rfl (.tmp 117) (.tmp 120) 56 rfl W0.heap.size 1 22 iS (.slice none 0 0) 24 und1 SS.out.1 SS.out.2.1 SS.out.2.2.1 SS.out.2.2.2 rfl (by decide) _ ((5 + k)) _ rfl HA6.out.rH ⟨w5.heap.size, 0, none⟩ 1 1 [.slice ua lzq uc] rfl rfl N6.out (by intro u hu; rw [List.mem_singleton.1 hu]; rfl) (by unfold maxLen; omega) (by omega) HA6.out.fr.size ?_
                   intro hv' w7 p1 p2 p3 p4
                   have HA7 : Hid (Ak W0 hv' mv ((5 + k) + 1) (5 + k) ((5 + k) + 1) (H ++ [[(.slice ua lzq uc, Lq.map Value.string)]]) (M ++ [[(.slice ma mzq mc, mls Nq)]]) w7) := HA6.out.linkH p1 p2
                   have HA8 : Hid (Ak W0 hv' mv ((5 + k) + 1) (5 + k) ((5 + k) + 1) (H ++ [[(.slice ua lzq uc, Lq.map Value.string)]]) (M ++ [[(.slice ma mzq mc, mls Nq)]]) (w7.alloc (.cells #[.slice ma mzq mc] 25))) := HA7.out.later ((Below.refl _ _).alloc (Nat.le_refl _) _)
                   have N8 : Hid (∀ j z, [Value.slice ma mzq mc][j]? = some z → (w7.alloc (.cells #[.slice ma mzq mc] 25)).cell? ((⟨w7.heap.size, 0, none⟩ : Addr).add j) = some z) := new1 w7 _ _
                   clear p1 p2 p3 p4 HA7 HA6 N6)
                | (refine wpList_appS rfl (.tmp 122) (.tmp 124) 77 rfl W0.heap.size 1 25 iT (.slice none 0 0) 24 und2 TT.out.1 TT.out.2.1 TT.out.2.2.1 TT.out.2.2.2 rfl (by decide) _ ((5 + k)) _ rfl HA8.out.rM ⟨w7.heap.size, 0, none⟩ 1 1 [.slice ma mzq mc] rfl rfl N8.out (by intro u hu; rw [List.mem_singleton.1 hu]; rfl) (by unfold maxLen; omega) (by omega) HA8.out.fr.size ?_
                   intro mv' w9 p1 p2 p3 p4
                   have HA9 : Hid (Ak W0 hv' mv' ((5 + k) + 1) ((5 + k) + 1) ((5 + k) + 1) (H ++ [[(.slice ua lzq uc, Lq.map Value.string)]]) (M ++ [[(.slice ma mzq mc, mls Nq)]]) w9) := HA8.out.linkM p1 p2
                   clear p1 p2 p3 p4 HA8))
              go_roundw
              case rel => exact ⟨k + 1, _, _, by omega, by go_num, HA9⟩
              case measure => simp [intOf]; omega
            · have q3 : ((k : Int) == 3) = false := by rw [beq_eq_false_iff_ne]; omega
              clear h2 h3
              have B0 : Below w1.heap.size w1 ((w1.alloc (.cells #[.int .i64 lo, .int .i64 hi, (.slice a n cap)] 24)).alloc (.cells #[.int .i64 lo', .int .i64 hi', (.slice a' n' cap')] 24)) := ((Below.refl _ _).alloc (Nat.le_refl _) _).alloc (by simp) _
              have X : Fx ((w1.alloc (.cells #[.int .i64 lo, .int .i64 hi, (.slice a n cap)] 24)).alloc (.cells #[.int .i64 lo', .int .i64 hi', (.slice a' n' cap')] 24)) w1.heap.size lo hi (.slice a n cap) := (fx_new _ _ _ _).on ((Below.refl _ _).alloc (Nat.le_refl _) _)
              have Y := fx_new (w1.alloc (.cells #[.int .i64 lo, .int .i64 hi, (.slice a n cap)] 24)) lo' hi' (.slice a' n' cap')
              rw [show (w1.alloc (.cells #[.int .i64 lo, .int .i64 hi, (.slice a n cap)] 24)).heap.size = w1.heap.size + 1 by simp] at Y
              obtain ⟨r1, r2, r3⟩ := ((G1.out.on HA.out.fr).on ((Below.refl _ _).alloc (Nat.le_refl _) (.cells #[.int .i64 lo, .int .i64 hi, (.slice a n cap)] 24))).fb
              have B1 : Hid (Below w1.heap.size w1 ((w1.alloc (.cells #[.int .i64 lo, .int .i64 hi, (.slice a n cap)] 24)).alloc (.cells #[.int .i64 lo', .int .i64 hi', (.slice a' n' cap')] 24))) := B0
              have X0 : Hid (Fx ((w1.alloc (.cells #[.int .i64 lo, .int .i64 hi, (.slice a n cap)] 24)).alloc (.cells #[.int .i64 lo', .int .i64 hi', (.slice a' n' cap')] 24)) w1.heap.size lo hi (.slice a n cap)) := X
              have X1 : Hid (Fx ((w1.alloc (.cells #[.int .i64 lo, .int .i64 hi, (.slice a n cap)] 24)).alloc (.cells #[.int .i64 lo', .int .i64 hi', (.slice a' n' cap')] 24)) (w1.heap.size + 1) lo' hi' (.slice a' n' cap')) := Y
              clear X Y B0
              obtain ⟨p01, p02, p03⟩ := X0.out.fb
              obtain ⟨p11, p12, p13⟩ := X1.out.fb
              go_upto_region 24 with fail
              go_wp2_with fail
              refine (Cp.out _ (over BW.out B1.out)).mono ?_
              rintro e w2 ⟨⟨ua, uc, ma, mc, rfl, hu, hm⟩, hb⟩
              have BN : Hid (Below w2.heap.size w2 (w2.alloc (.cells #[.int .i64 xp, .int .i64 yp, .slice ua lzp uc] 24))) := (Below.refl _ _).alloc (Nat.le_refl _) _
              have B2 : Hid (Below w1.heap.size w1 (w2.alloc (.cells #[.int .i64 xp, .int .i64 yp, .slice ua lzp uc] 24))) := over (over B1.out hb) BN.out
              have Y0 : Hid (Fx (w2.alloc (.cells #[.int .i64 xp, .int .i64 yp, .slice ua lzp uc] 24)) w1.heap.size lo hi (.slice a n cap)) := (X0.out.on hb).on BN.out
              have Y1 : Hid (Fx (w2.alloc (.cells #[.int .i64 xp, .int .i64 yp, .slice ua lzp uc] 24)) (w1.heap.size + 1) lo' hi' (.slice a' n' cap')) := (X1.out.on hb).on BN.out
              have P2 : Hid (Fx (w2.alloc (.cells #[.int .i64 xp, .int .i64 yp, .slice ua lzp uc] 24)) w2.heap.size xp yp (.slice ua lzp uc)) := fx_new _ _ _ _
              have U2 : Hid (Texts (w2.alloc (.cells #[.int .i64 xp, .int .i64 yp, .slice ua lzp uc] 24)) w1.heap.size (.slice ua lzp uc) Lp) := (hu.later BN.out).down B1.out.size
              have M2 : Hid (Mades (w2.alloc (.cells #[.int .i64 xp, .int .i64 yp, .slice ua lzp uc] 24)) w1.heap.size (.slice ma mzp mc) Np) := (hm.later BN.out).down B1.out.size
              clear hu hm hb BN B1 X0 p01 p02 p03 X1 p11 p12 p13
              obtain ⟨p01, p02, p03⟩ := Y0.out.fb
              obtain ⟨p11, p12, p13⟩ := Y1.out.fb
              go_wp2_with fail
              refine (Dp.out _ (over BW.out B2.out)).mono ?_
              rintro e w3 ⟨⟨va, vc, na, nc, rfl, hu, hm⟩, hb⟩
              have BN : Hid (Below w3.heap.size w3 (w3.alloc (.cells #[.int .i64 xp, .int .i64 yp, .slice va lzp vc] 24))) := (Below.refl _ _).alloc (Nat.le_refl _) _
              have B3 : Hid (Below w1.heap.size w1 (w3.alloc (.cells #[.int .i64 xp, .int .i64 yp, .slice va lzp vc] 24))) := over (over B2.out hb) BN.out
              have P3 : Hid (Fx (w3.alloc (.cells #[.int .i64 xp, .int .i64 yp, .slice va lzp vc] 24)) w2.heap.size xp yp (.slice ua lzp uc)) := (P2.out.on hb).on BN.out
              have Q3 : Hid (Fx (w3.alloc (.cells #[.int .i64 xp, .int .i64 yp, .slice va lzp vc] 24)) w3.heap.size xp yp (.slice va lzp vc)) := fx_new _ _ _ _
              have U3 : Hid (Texts (w3.alloc (.cells #[.int .i64 xp, .int .i64 yp, .slice va lzp vc] 24)) w1.heap.size (.slice ua lzp uc) Lp) := (U2.out.later hb).later BN.out
              have M3 : Hid (Mades (w3.alloc (.cells #[.int .i64 xp, .int .i64 yp, .slice va lzp vc] 24)) w1.heap.size (.slice ma mzp mc) Np) := (M2.out.later hb).later BN.out
              have CS : Hid (Calls _ _ _ _ _) := same_yes xp yp (.slice ua lzp uc) (.slice va lzp vc) Lp (w3.alloc (.cells #[.int .i64 xp, .int .i64 yp, .slice va lzp vc] 24)) U3.out.reads (hu.reads.later BN.out) (by have := HLp.out.1; omega)
              have CM : Hid (∀ W, Below (w3.alloc (.cells #[.int .i64 xp, .int .i64 yp, .slice va lzp vc] 24)).heap.size (w3.alloc (.cells #[.int .i64 xp, .int .i64 yp, .slice va lzp vc] 24)) W → Calls _ _ _ _ _) := fun W b => rs.sameM_yes (.slice ma mzp mc) (.slice na mzp nc) Np W (M3.out.reads.later b) ((hm.reads.later BN.out).later b) (by have := HLp.out.2; omega)
              clear hu hm hb BN B2 P2 U2 M2 Y0 p01 p02 p03 Y1 p11 p12 p13
              obtain ⟨p11, p12, p13⟩ := P3.out.fb
              obtain ⟨q11, q12, q13⟩ := Q3.out.fb
              go_wp2_with fail
              refine CS.out.mono ?_
              rintro e w4 ⟨rfl, hb⟩
              have B4 : Hid (Below (w3.alloc (.cells #[.int .i64 xp, .int .i64 yp, .slice va lzp vc] 24)).heap.size (w3.alloc (.cells #[.int .i64 xp, .int .i64 yp, .slice va lzp vc] 24)) w4) := hb
              clear hb CS p11 p12 p13 q11 q12 q13 Q3
              go_wp2_with fail
              refine (CM.out _ B4.out).mono ?_
              rintro e w5 ⟨rfl, hb⟩
              have B5 : Hid (Below w1.heap.size w1 w5) := over (over B3.out B4.out) hb
              have P5 : Hid (Fx w5 w2.heap.size xp yp (.slice ua lzp uc)) := (P3.out.on B4.out).on hb
              have HA5 : Hid (Ak W0 hv mv (5 + k) (5 + k) ((5 + k) + 1) (H ++ [[(.slice ua lzp uc, Lp.map Value.string)]]) (M ++ [[(.slice ma mzp mc, mls Np)]]) w5) := HA.out.add B5.out ((U3.out.later B4.out).later hb) ((M3.out.later B4.out).later hb) (by have := HLp.out.1; omega) (by have := HLp.out.2; omega)
              clear hb B4 B3 U3 M3 P3 CM HA
              have HA6 : Hid (Ak W0 hv mv (5 + k) (5 + k) ((5 + k) + 1) (H ++ [[(.slice ua lzp uc, Lp.map Value.string)]]) (M ++ [[(.slice ma mzp mc, mls Np)]]) (w5.alloc (.cells #[.slice ua lzp uc] 22))) := HA5.out.later ((Below.refl _ _).alloc (Nat.le_refl _) _)
              have N6 : Hid (∀ j z, [Value.slice ua lzp uc][j]? = some z → (w5.alloc (.cells #[.slice ua lzp uc] 22)).cell? ((⟨w5.heap.size, 0, none⟩ : Addr).add j) = some z) := new1 w5 _ _
              obtain ⟨p11, p12, p13⟩ := P5.out.fb
              clear HA5
              go_wp2_with (at_builtin; first
                | (refine wpList_appS rfl (.tmp 117) (.tmp 120) 56 rfl W0.heap.size 1 22 iS (.slice none 0 0) 24 und1 SS.out.1 SS.out.2.1 SS.out.2.2.1 SS.out.2.2.2 rfl (by decide) _ ((5 + k)) _ rfl HA6.out.rH ⟨w5.heap.size, 0, none⟩ 1 1 [.slice ua lzp uc] rfl rfl N6.out (by intro u hu; rw [List.mem_singleton.1 hu]; rfl) (by unfold maxLen; omega) (by omega) HA6.out.fr.size ?_
                   intro hv' w7 p1 p2 p3 p4
                   have HA7 : Hid (Ak W0 hv' mv ((5 + k) + 1) (5 + k) ((5 + k) + 1) (H ++ [[(.slice ua lzp uc, Lp.map Value.string)]]) (M ++ [[(.slice ma mzp mc, mls Np)]]) w7) := HA6.out.linkH p1 p2
                   have HA8 : Hid (Ak W0 hv' mv ((5 + k) + 1) (5 + k) ((5 + k) + 1) (H ++ [[(.slice ua lzp uc, Lp.map Value.string)]]) (M ++ [[(.slice ma mzp mc, mls Np)]]) (w7.alloc (.cells #[.slice ma mzp mc] 25))) := HA7.out.later ((Below.refl _ _).alloc (Nat.le_refl _) _)
                   have N8 : Hid (∀ j z, [Value.slice ma mzp mc][j]? = some z → (w7.alloc (.cells #[.slice ma mzp mc] 25)).cell? ((⟨w7.heap.size, 0, none⟩ : Addr).add j) = some z) := new1 w7 _ _
                   clear p1 p2 p3 p4 HA7 HA6 N6)
                | (refine wpList_appS rfl (.tmp 122) (.tmp 124) 77 rfl W0.heap.size 1 25 iT (.slice none 0 0) 24 und2 TT.out.1 TT.out.2.1 TT.out.2.2.1 TT.out.2.2.2 rfl (by decide) _ ((5 + k)) _ rfl HA8.out.rM ⟨w7.heap.size, 0, none⟩ 1 1 [.slice ma mzp mc] rfl rfl N8.out (by intro u hu; rw [List.mem_singleton.1 hu]; rfl) (by unfold maxLen; omega) (by omega) HA8.out.fr.size ?_
                   intro mv' w9 p1 p2 p3 p4
                   have HA9 : Hid (Ak W0 hv' mv' ((5 + k) + 1) ((5 + k) + 1) ((5 + k) + 1) (H ++ [[(.slice ua lzp uc, Lp.map Value.string)]]) (M ++ [[(.slice ma mzp mc, mls Np)]]) w9) := HA8.out.linkM p1 p2
                   clear p1 p2 p3 p4 HA8))
              go_roundw
              case rel => exact ⟨k + 1, _, _, by omega, by go_num, HA9⟩
              case measure => simp [intOf]; omega
        · have hlt' : ¬ (k : Int) < 5 := by omega
          obtain rfl : k = 5 := by omega
          have HZ : Ak W0 hv mv 10 10 10 H M w1 := HA.out
          obtain ⟨bH, bM, cH, cM, rfl, rfl, hap⟩ := HZ.done (by omega)
          have CA : Hid (Calls _ _ _ _ _) := apartY w1 hap (by omega) HZ.fH HZ.fM
          have GW : Hid (Below w.heap.size w W0) := GB.out
          clear HZ hap HA BW d1 d2 d3 e1 e2 e3 BL
          go_wp2_with fail
          refine CA.out.mono ?_
          rintro e w2 ⟨rfl, hb⟩
          have B9 : Hid (Below w.heap.size w w2) := over GW.out hb
          clear hb CA
          go_wp2
          go_ret
          exact ⟨rfl, B9.out⟩
end Go.Proofs.YtmmbkfagchaocaaDoor.s11
