import Derived.Test.YtmmbkfagchaocaaDoorH1
import Derived.Deep.DeepCutAuto
import Derived.Deep.RegionWith
namespace Go.Proofs.YtmmbkfagchaocaaDoor.s7
open Go.RowKit Go.PlainAid
open Go.Proofs.YtmmbkfagchaocaaDoor.pl Go.Proofs.YtmmbkfagchaocaaDoor.pg Go.Proofs.YtmmbkfagchaocaaDoor.cp Go.Proofs.YtmmbkfagchaocaaDoor.ka Go.Proofs.YtmmbkfagchaocaaDoor.na Go.Proofs.YtmmbkfagchaocaaDoor.oa Go.Proofs.YtmmbkfagchaocaaDoor.ob Go.Proofs.YtmmbkfagchaocaaDoor.s1 Go.Proofs.YtmmbkfagchaocaaDoor.s2 Go.Proofs.YtmmbkfagchaocaaDoor.s3 Go.Proofs.YtmmbkfagchaocaaDoor.s4 Go.Proofs.YtmmbkfagchaocaaDoor.s5 Go.Proofs.YtmmbkfagchaocaaDoor.s6 Go.Proofs.YtmmbkfagchaocaaDoor.s8
set_option linter.unusedVariables false

theorem below_dr {B : Nat} {a w : World} (h : Below B a w) : Below B a w.drew := ⟨h.os, h.tape, h.output, h.size, h.block⟩
theorem ownN {w : World} {B e n c k : Nat} {a : Option Addr} {xs : List Value} {y : Value} (h : w.ownsRow B e 1 (.slice a n c) n xs) (hk : xs[k]? = some y) : ∃ g, a = some ⟨g, 0, none⟩ ∧ w.cell? ⟨g, k, none⟩ = some y := by
  have hl := (List.getElem?_eq_some_iff.1 hk).1
  have h1 := h.1
  obtain ⟨g, rfl⟩ : ∃ g, a = some ⟨g, 0, none⟩ := by
    rcases h.2 with ⟨e, e2⟩ | ⟨g, cap, cur, e, _⟩
    · omega
    · exact ⟨g, (Value.slice.inj e).1⟩
  exact ⟨g, rfl, by rw [World.ownsRow.cellAt h k (by omega)]; exact hk⟩
-- what the third loop reads
theorem third {w0 w : World} {B B2 bH bM K cH cM k c1 c2 : Nat} {H M : List (List (Value × List Value))} {a1 a2 : Option Addr} {Y Z : List Value} (h : Ap w0 B bH bM K cH cM H M w) (hH : GH K K H Y) (hM : GM K K M Z) (hR : Ro B2 (.slice a1 K c1) (.slice a2 K c2) K Y Z w) (hk : k < K) (h9 : k ≤ 9) :
    ∃ g1 g2 v v2 y1 y2, a1 = some ⟨g1, 0, none⟩ ∧ a2 = some ⟨g2, 0, none⟩ ∧ (∀ W, Below w.heap.size w W → W.cell? ⟨bH, k, none⟩ = some v ∧ W.cell? ⟨bM, k, none⟩ = some v2 ∧ W.cell? ⟨g1, k, none⟩ = some y1 ∧ W.cell? ⟨g2, k, none⟩ = some y2) ∧
      (∀ W, Below w.heap.size w W → Calls Tryd.prog 55 #[v, v2, .int .i64 k] W fun e w' => e = .returned (.bool true) ∧ Below W.heap.size W w') ∧
      (∀ W, Below w.heap.size w W → Calls Tryd.prog 55 #[y1, y2, .int .i64 k] W fun e w' => e = .returned (.bool true) ∧ Below W.heap.size W w') := by
  obtain ⟨c, hc⟩ : ∃ c, H[k]? = some c := ⟨_, List.getElem?_eq_getElem (by rw [hH.len]; exact hk)⟩
  obtain ⟨d, hd⟩ : ∃ c, M[k]? = some c := ⟨_, List.getElem?_eq_getElem (by rw [hM.len]; exact hk)⟩
  obtain ⟨v, y1, L, L', rfl, q1, q2, q3, q4, q5⟩ := hH.new k c hc hk
  obtain ⟨v2, y2, N, N', rfl, r1, r2, r3, r4, r5⟩ := hM.new k d hd hk
  obtain ⟨g1, rfl, k1⟩ := ownN hR.a q1
  obtain ⟨g2, rfl, k2⟩ := ownN hR.b r1
  have k3 := Ap.nameH h hc
  have k4 := Ap.nameM h hd
  have f : ∀ W, Below w.heap.size w W → ∀ {p : Addr} {z : Value}, w.cell? p = some z → W.cell? p = some z := fun W b p z e => (b.cell (World.block_lt_of_cell? _ _ e)).trans e
  refine ⟨g1, g2, v, v2, y1, y2, rfl, rfl, fun W b => ⟨f W b k3, f W b k4, f W b k1, f W b k2⟩, fun W b => ?_, fun W b => ?_⟩
  · exact fullY v v2 L N k h9 W ((Ap.readH h hc (by simp)).later b) ((Ap.readM h hd (by simp)).later b) q4 r4 (by omega) (by omega)
  · exact fullY y1 y2 L' N' k h9 W ((Ap.readH h hc (by simp)).later b) ((Ap.readM h hd (by simp)).later b) q5 r5 (by omega) (by omega)
set_option maxRecDepth 100000 in
set_option maxHeartbeats 6400000 in
theorem apartY {w0 : World} {B bH bM K cH cM : Nat} {H M : List (List (Value × List Value))} (w : World) (h : Ap w0 B bH bM K cH cM H M w) (hK : K ≤ 10) (fH : FH K 0 0 H) (fM : FM K 0 0 M) :
    Calls Tryd.prog 35 #[.slice (some ⟨bH, 0, none⟩) K cH, .slice (some ⟨bM, 0, none⟩) K cM] w fun e w' => e = .returned (.bool true) ∧ Below w0.heap.size w0 w' := by
  have H0 : Hid (Ap w0 B bH bM K cH cM H M w) := h
  have F0 : Hid (FH K 0 0 H ∧ FM K 0 0 M) := ⟨fH, fM⟩
  clear h fH fM
  go_enter Tryd.func35, Tryd.ntmps35
  go_wp2
  go_loopw [5] (fun i wr => ∃ (k : Nat) (H' M' : List (List (Value × List Value))), k ≤ K ∧ i = .int .i64 k ∧ Hid (Ap w0 B bH bM K cH cM H' M' wr) ∧ Hid (FH K k 0 H' ∧ FM K k 0 M')) (fun i _ => (K - intOf i).toNat)
  case atStart => exact ⟨0, H, M, by omega, rfl, H0, F0⟩
  case round =>
    clear H0 F0
    obtain ⟨k, H', M', hk, rfl, HA, HF⟩ := hrel
    by_cases hlt : k < K
    · have hlt' : (k : Int) < K := by omega
      obtain ⟨a, cc, L, hL1, hz1⟩ := formH HA.out HF.out.1 hlt
      obtain ⟨a2, cc2, N, hN1, hz2⟩ := formM HA.out HF.out.2 hlt
      obtain ⟨n, HN⟩ : ∃ n, Hid (L.length = n) := ⟨_, rfl⟩
      obtain ⟨m, HM⟩ : ∃ n, Hid (N.length = n) := ⟨_, rfl⟩
      rw [HN.out] at hL1 hz1
      rw [HM.out] at hN1 hz2
      have HL1 : Hid (H'[k]? = some [(.slice a n cc, L.map Value.string)]) := hL1
      have HN1 : Hid (M'[k]? = some [(.slice a2 m cc2, mls N)]) := hN1
      clear hL1 hN1
      obtain ⟨c, HC⟩ : ∃ c : Nat, Hid (97 + k = c) := ⟨_, rfl⟩
      have g2 : (97 : Int) + (k : Int) = (c : Int) := by have := HC.out; omega
      have g3 : IntKind.u8.wrap (c : Int) = c := by rw [IntKind.wrap_u8']; have := HC.out; omega
      have g4 : IntKind.i64.wrap (c : Int) = c := by rw [IntKind.wrap_i64]; have := HC.out; omega
      have zz : (mkA k).size = 1 := rfl
      have z4 : (⟨#[109, 97, 114, 107]⟩ : ByteArray).size = 4 := rfl
      have hcv := convK wr k c HC.out (by omega)
      have HA1 : Hid (Ap w0 B bH bM K cH cM H' M' (wr.alloc (.cells #[.int .u8 (c : Int)] 5))) := HA.out.later ((Below.refl _ _).alloc (Nat.le_refl _) _)
      have HMK : Hid ((⟨#[109, 97, 114, 107]⟩ : ByteArray) ++ mkA k = mkK k) := rfl
      obtain ⟨y, HY⟩ : ∃ y, Hid (mkA k = y) := ⟨_, rfl⟩
      rw [HY.out] at hcv zz HMK
      clear HY HA
      go_wp2
      go_loopw [7] (fun j wx => ∃ (i : Nat) (H2 : List (List (Value × List Value))) (L2 : List ByteArray), i ≤ n ∧ j = .int .i64 i ∧ Hid (Ap w0 B bH bM K cH cM H2 M' wx) ∧ Hid (FH K k i H2 ∧ H2[k]? = some [(.slice a n cc, L2.map Value.string)] ∧ L2.length = n)) (fun i _ => (n - intOf i).toNat)
      case atStart => exact ⟨0, H', L, by omega, rfl, HA1, HF.out.1, HL1.out, HN.out⟩
      case round =>
        clear HA1 hcv
        obtain ⟨i, H2, L2, hi, rfl, HA, HG⟩ := hrel
        have c0 := Ap.nameH HA.out HG.out.2.1
        by_cases hlt2 : i < n
        · have hlt2' : (i : Int) < n := by omega
          obtain ⟨g, rfl, ⟨u, c1⟩, f1⟩ := slotH HA.out HG.out.2.1 hlt2
          have HP : Hid (Ap w0 B bH bM K cH cM (H2.set k [(.slice (some ⟨g, 0, none⟩) n cc, (L2.map Value.string).set i (.string (mkK k)))]) M' (wr.setCell ⟨g, i, none⟩ (.string (mkK k)))) := Ap.putH HA.out HG.out.2.1 (mkK k)
          have HQ : Hid (FH K k (i + 1) (H2.set k [(.slice (some ⟨g, 0, none⟩) n cc, (L2.map Value.string).set i (.string (mkK k)))]) ∧ (H2.set k [(.slice (some ⟨g, 0, none⟩) n cc, (L2.map Value.string).set i (.string (mkK k)))])[k]? = some [(.slice (some ⟨g, 0, none⟩) n cc, (L2.set i (mkK k)).map Value.string)] ∧ (L2.set i (mkK k)).length = n) := ⟨FH.step HG.out.1 HG.out.2.1 (by rw [HG.out.2.2]; exact hlt2), by rw [List.getElem?_set_self (List.getElem?_eq_some_iff.1 HG.out.2.1).1, List.map_set], by rw [List.length_set]; exact HG.out.2.2⟩
          rw [← HMK.out] at HP HQ
          clear HA HG
          go_wp2
          go_roundw
          case rel => exact ⟨i + 1, _, _, by omega, by go_num, HP, HQ⟩
          case measure => simp [intOf]; omega
        · have hlt2' : ¬ (i : Int) < n := by omega
          have HH : Hid (FH K (k + 1) 0 H2) := FH.next HG.out.1 HG.out.2.1 (by rw [HG.out.2.2]; omega)
          clear HG
          go_wp2
          go_loopw [8] (fun j wx => ∃ (i : Nat) (M2 : List (List (Value × List Value))) (N2 : List Md), i ≤ m ∧ j = .int .i64 i ∧ Hid (Ap w0 B bH bM K cH cM H2 M2 wx) ∧ Hid (FM K k i M2 ∧ M2[k]? = some [(.slice a2 m cc2, mls N2)] ∧ N2.length = m)) (fun i _ => (m - intOf i).toNat)
          case atStart => exact ⟨0, M', N, by omega, rfl, HA, HF.out.2, HN1.out, HM.out⟩
          case round =>
            clear HA c0
            obtain ⟨q, M2, N2, hq, rfl, HA, HG⟩ := hrel
            have c0 := Ap.nameM HA.out HG.out.2.1
            by_cases hlt3 : q < m
            · have hlt3' : (q : Int) < m := by omega
              obtain ⟨g, rfl, ⟨⟨u1, c1⟩, f1⟩, ⟨⟨u2, c2⟩, f2⟩, ⟨⟨u3, c3⟩, f3⟩⟩ := slotM HA.out HG.out.2.1 hlt3
              have hp := Ap.putM3 HA.out HG.out.2.1 (i := q) (by rw [HG.out.2.2]; exact hlt3) ((0, 0), mkK k)
              have HP : Hid (Ap w0 B bH bM K cH cM H2 (M2.set k [(.slice (some ⟨g, 0, none⟩) m cc2, mls (N2.set q ((0, 0), mkK k)))]) (((wr.setCell ⟨g, q * 3, none⟩ (.int .i64 0)).setCell ⟨g, q * 3 + 1, none⟩ (.int .i64 0)).setCell ⟨g, q * 3 + 2, none⟩ (.string (mkK k)))) := hp
              have HQ : Hid (FM K k (q + 1) (M2.set k [(.slice (some ⟨g, 0, none⟩) m cc2, mls (N2.set q ((0, 0), mkK k)))]) ∧ (M2.set k [(.slice (some ⟨g, 0, none⟩) m cc2, mls (N2.set q ((0, 0), mkK k)))])[k]? = some [(.slice (some ⟨g, 0, none⟩) m cc2, mls (N2.set q ((0, 0), mkK k)))] ∧ (N2.set q ((0, 0), mkK k)).length = m) := ⟨FM.step HG.out.1 HG.out.2.1 (by rw [HG.out.2.2]; exact hlt3) (0, 0), List.getElem?_set_self (List.getElem?_eq_some_iff.1 HG.out.2.1).1, by rw [List.length_set]; exact HG.out.2.2⟩
              rw [← HMK.out] at HP HQ
              clear HA HG hp
              go_wp2
              go_roundw
              case rel => exact ⟨q + 1, _, _, by omega, by go_num, HP, HQ⟩
              case measure => simp [intOf]; omega
            · have hlt3' : ¬ (q : Int) < m := by omega
              have HI : Hid (FM K (k + 1) 0 M2) := FM.next HG.out.1 HG.out.2.1 (by rw [HG.out.2.2]; omega)
              go_wp2
              go_roundw
              case rel => exact ⟨k + 1, H2, M2, by omega, by go_num, HA, HH.out, HI.out⟩
              case measure => simp [intOf]; omega
    · have hlt' : ¬ (k : Int) < K := by omega
      obtain rfl : k = K := by omega
      obtain ⟨x1, rfl⟩ : ∃ wz, wz = wr := ⟨_, rfl⟩
      have HG0 : Hid (GH k 0 H' [] ∧ GM k 0 M' []) := ⟨FH.done HF.out.1, FM.done HF.out.2⟩
      have HB2 : Hid (bH < x1.heap.size ∧ bM < x1.heap.size ∧ w0.heap.size ≤ x1.heap.size) := ⟨(HA.out.rH.lt bH rfl).2, (HA.out.rM.lt bM rfl).2, HA.out.fr.size⟩
      have HR0 : Hid (Ro x1.heap.size (.slice none 0 0) (.slice none 0 0) 0 [] [] x1) := ⟨⟨rfl, .inl ⟨rfl, rfl⟩⟩, ⟨rfl, .inl ⟨rfl, rfl⟩⟩, Nat.le_refl _⟩
      obtain ⟨i9, I1, I2, I3, I4⟩ := info_parts hi9
      obtain ⟨iM, J1, J2, J3, J4⟩ := info_parts hiM
      obtain ⟨iS, S1, S2, S3, S4⟩ := info_parts hiSS
      obtain ⟨iT, T1, T2, T3, T4⟩ := info_parts hiMM
      have II : Hid (Tryd.prog.info? 9 = some i9 ∧ i9.zero = some (.string ByteArray.empty) ∧ i9.size = 1 ∧ i9.bytes = 16) := ⟨I1, I2, I3, I4⟩
      have JJ : Hid (Tryd.prog.info? 38 = some iM ∧ iM.zero = some (.agg #[.int .i64 0, .int .i64 0, .string ByteArray.empty]) ∧ iM.size = 3 ∧ iM.bytes = 32) := ⟨J1, J2, J3, J4⟩
      have SS : Hid (Tryd.prog.info? 22 = some iS ∧ iS.zero = some (.slice none 0 0) ∧ iS.size = 1 ∧ iS.bytes = 24) := ⟨S1, S2, S3, S4⟩
      have TT : Hid (Tryd.prog.info? 25 = some iT ∧ iT.zero = some (.slice none 0 0) ∧ iT.size = 1 ∧ iT.bytes = 24) := ⟨T1, T2, T3, T4⟩
      clear I1 I2 I3 I4 J1 J2 J3 J4 S1 S2 S3 S4 T1 T2 T3 T4 HF
      go_wp2
      go_loopw [9, 10, 11] (fun mv lv i wr => ∃ (q : Nat) (H2 M2 : List (List (Value × List Value))) (Y Z : List Value), q ≤ k ∧ i = .int .i64 q ∧ Hid (Ap w0 B bH bM k cH cM H2 M2 wr) ∧ Hid (GH k q H2 Y ∧ GM k q M2 Z) ∧ Hid (Ro x1.heap.size mv lv q Y Z wr)) (fun _ _ i _ => (k - intOf i).toNat)
      case atStart => exact ⟨0, H', M', [], [], by omega, rfl, HA, HG0, HR0⟩
      case round =>
        clear HA HG0 HR0
        obtain ⟨q, H2, M2, Y, Z, hq, rfl, HA, HG, HR⟩ := hrel
        obtain ⟨mv, rfl⟩ : ∃ v, v = u9 := ⟨_, rfl⟩
        obtain ⟨lv, rfl⟩ : ∃ v, v = u10 := ⟨_, rfl⟩
        by_cases hlt : q < k
        · have hlt' : (q : Int) < k := by omega
          obtain ⟨a, cc, L, hL1, hz1, hL2⟩ := formGH HA.out HG.out.1 hlt
          obtain ⟨a2, cc2, N, hN1, hz2, hN2⟩ := formGM HA.out HG.out.2 hlt
          have c0 := Ap.nameH HA.out hL1
          have c1 := Ap.nameM HA.out hN1
          obtain ⟨n, HN⟩ : ∃ n, Hid (L.length = n) := ⟨_, rfl⟩
          obtain ⟨m, HM⟩ : ∃ n, Hid (N.length = n) := ⟨_, rfl⟩
          have HGH : Hid (∀ y, GH k (q + 1) (H2.set q [(.slice a L.length cc, L.map Value.string), (y, (L ++ List.replicate 64 (mkK q)).map Value.string)]) (Y ++ [y])) := fun y => GH.next HG.out.1 hL1 hz1 hL2
          have HGM : Hid (∀ y, GM k (q + 1) (M2.set q [(.slice a2 N.length cc2, mls N), (y, mls (N ++ List.replicate 64 ((0, 0), mkK q)))]) (Z ++ [y])) := fun y => GM.next HG.out.2 hN1 hz2 hN2 (0, 0)
          have hy : Ap w0 B bH bM k cH cM (H2.set q [(.slice a L.length cc, L.map Value.string), (.slice a L.length cc, (L ++ List.replicate 0 (mkK q)).map Value.string)]) (M2.set q [(.slice a2 N.length cc2, mls N), (.slice a2 N.length cc2, mls (N ++ List.replicate 0 ((0, 0), mkK q)))]) wr := by
            rw [List.replicate_zero, List.replicate_zero, List.append_nil, List.append_nil]
            exact Ap.openM (Ap.openH HA.out hL1) hN1
          rw [HN.out] at c0 hy HGH hz1
          rw [HM.out] at c1 hy HGM hz2
          have HLK : Hid (q < H2.length ∧ q < M2.length) := ⟨by rw [HG.out.1.len]; exact hlt, by rw [HG.out.2.len]; exact hlt⟩
          obtain ⟨c, HC⟩ : ∃ c : Nat, Hid (97 + q = c) := ⟨_, rfl⟩
          have g2 : (97 : Int) + (q : Int) = (c : Int) := by have := HC.out; omega
          have g3 : IntKind.u8.wrap (c : Int) = c := by rw [IntKind.wrap_u8']; have := HC.out; omega
          have g4 : IntKind.i64.wrap (c : Int) = c := by rw [IntKind.wrap_i64]; have := HC.out; omega
          have zz : (mkA q).size = 1 := rfl
          have z4 : (⟨#[109, 97, 114, 107]⟩ : ByteArray).size = 4 := rfl
          have hcv := convK wr q c HC.out (by omega)
          have BB : Below wr.heap.size wr (wr.alloc (.cells #[.int .u8 (c : Int)] 5)) := (Below.refl _ _).alloc (Nat.le_refl _) _
          have HA1 : Hid (Ap w0 B bH bM k cH cM (H2.set q [(.slice a n cc, L.map Value.string), (.slice a n cc, (L ++ List.replicate 0 (mkK q)).map Value.string)]) (M2.set q [(.slice a2 m cc2, mls N), (.slice a2 m cc2, mls (N ++ List.replicate 0 ((0, 0), mkK q)))]) (wr.alloc (.cells #[.int .u8 (c : Int)] 5))) := hy.later BB
          have HR1 : Hid (Ro x1.heap.size mv lv q Y Z (wr.alloc (.cells #[.int .u8 (c : Int)] 5))) := HR.out.later BB
          have k0 : (wr.alloc (.cells #[.int .u8 (c : Int)] 5)).cell? ⟨bH, q, none⟩ = some (.slice a n cc) := (BB.cell (World.block_lt_of_cell? _ _ c0)).trans c0
          have k1 : (wr.alloc (.cells #[.int .u8 (c : Int)] 5)).cell? ⟨bM, q, none⟩ = some (.slice a2 m cc2) := (BB.cell (World.block_lt_of_cell? _ _ c1)).trans c1
          have HMK : Hid ((⟨#[109, 97, 114, 107]⟩ : ByteArray) ++ mkA q = mkK q) := rfl
          obtain ⟨y, HY⟩ : ∃ y, Hid (mkA q = y) := ⟨_, rfl⟩
          rw [HY.out] at hcv zz HMK
          rw [← HMK.out] at HA1 HGH HGM
          clear HY HA HR hL1 hN1 hL2 hN2 hy BB c0 c1 HG
          go_wp2
          go_loopw [13, 14, 15] (fun l m' j wx => ∃ (i : Nat), i ≤ 64 ∧ j = .int .i64 i ∧ Hid (Ap w0 B bH bM k cH cM (H2.set q [(.slice a n cc, L.map Value.string), (l, (L ++ List.replicate i (⟨#[109, 97, 114, 107]⟩ ++ y)).map Value.string)]) (M2.set q [(.slice a2 m cc2, mls N), (m', mls (N ++ List.replicate i ((0, 0), ⟨#[109, 97, 114, 107]⟩ ++ y)))]) wx) ∧ Hid (Ro x1.heap.size mv lv q Y Z wx)) (fun _ _ j _ => (64 - intOf j).toNat)
          case atStart => exact ⟨0, by omega, rfl, HA1, HR1⟩
          case round =>
            clear HA1 HR1 hcv k0 k1
            obtain ⟨i, hi, rfl, HA, HR⟩ := hrel
            obtain ⟨l, rfl⟩ : ∃ v, v = u13 := ⟨_, rfl⟩
            obtain ⟨r, rfl⟩ : ∃ v, v = u14 := ⟨_, rfl⟩
            obtain ⟨mk, HK⟩ : ∃ z, Hid ((⟨#[109, 97, 114, 107]⟩ : ByteArray) ++ y = z) := ⟨_, rfl⟩
            rw [HK.out] at HA HGH HGM ⊢
            by_cases hlt2 : i < 64
            · have hlt2' : (i : Int) < 64 := by omega
              have BB : Below wr.heap.size wr (wr.alloc (.cells #[.string mk] 9)) := (Below.refl _ _).alloc (Nat.le_refl _) _
              have HA2 : Hid (Ap w0 B bH bM k cH cM (H2.set q [(.slice a n cc, L.map Value.string), (l, (L ++ List.replicate i mk).map Value.string)]) (M2.set q [(.slice a2 m cc2, mls N), (r, mls (N ++ List.replicate i ((0, 0), mk)))]) (wr.alloc (.cells #[.string mk] 9))) := HA.out.later BB
              have HR2 : Hid (Ro x1.heap.size mv lv q Y Z (wr.alloc (.cells #[.string mk] 9))) := HR.out.later BB
              have O2 : Hid ((wr.alloc (.cells #[.string mk] 9)).ownsRow B 9 1 l (n + i) ((L ++ List.replicate i mk).map Value.string)) := by have h := rowH HA2.out HLK.out.1; rw [HN.out] at h; exact h
              have LB2 : Hid (B ≤ (wr.alloc (.cells #[.string mk] 9)).heap.size) := low HA2.out
              have N1 : Hid (∀ j z, [Value.string mk][j]? = some z → (wr.alloc (.cells #[.string mk] 9)).cell? ((⟨wr.heap.size, 0, none⟩ : Addr).add j) = some z) := new1 wr _ _
              clear HA HR BB
              go_wp2_with (at_builtin; first
                | (refine wpList_appS rfl (.tmp 88) (.tmp 90) 22 rfl B 1 9 i9 (.string ByteArray.empty) 16 Tryd.underlying22 II.out.1 II.out.2.1 II.out.2.2.1 II.out.2.2.2 rfl (by decide) _ (n + i) _ rfl O2.out ⟨wr.heap.size, 0, none⟩ 1 1 [.string mk] rfl rfl N1.out (by intro u hu; rw [List.mem_singleton.1 hu]; rfl) (by unfold maxLen; omega) (by omega) LB2.out ?_
                   intro l' w3 p1 p2 p3 p4
                   have HA3 : Hid (Ap w0 B bH bM k cH cM (H2.set q [(.slice a n cc, L.map Value.string), (l', (L ++ List.replicate (i + 1) mk).map Value.string)]) (M2.set q [(.slice a2 m cc2, mls N), (r, mls (N ++ List.replicate i ((0, 0), mk)))]) w3) := growH HLK.out.1 HA2.out O2.out p1 p2 p3 p4
                   have HR3 : Hid (Ro x1.heap.size mv lv q Y Z w3) := HR2.out.kept O2.out p2 (by decide) (by decide)
                   have BB : Below w3.heap.size w3 (w3.alloc (.cells #[.int .i64 0, .int .i64 0, .string mk] 38)) := (Below.refl _ _).alloc (Nat.le_refl _) _
                   have HA4 : Hid (Ap w0 B bH bM k cH cM (H2.set q [(.slice a n cc, L.map Value.string), (l', (L ++ List.replicate (i + 1) mk).map Value.string)]) (M2.set q [(.slice a2 m cc2, mls N), (r, mls (N ++ List.replicate i ((0, 0), mk)))]) (w3.alloc (.cells #[.int .i64 0, .int .i64 0, .string mk] 38))) := HA3.out.later BB
                   have HR4 : Hid (Ro x1.heap.size mv lv q Y Z (w3.alloc (.cells #[.int .i64 0, .int .i64 0, .string mk] 38))) := HR3.out.later BB
                   have O4 : Hid ((w3.alloc (.cells #[.int .i64 0, .int .i64 0, .string mk] 38)).ownsRow B 38 3 r (m + i) (mls (N ++ List.replicate i ((0, 0), mk)))) := by (have h := rowM HA4.out HLK.out.2; rw [HM.out] at h; exact h)
                   have LB4 : Hid (B ≤ (w3.alloc (.cells #[.int .i64 0, .int .i64 0, .string mk] 38)).heap.size) := low HA4.out
                   have N4 : Hid (∀ j z, (ml ((0, 0), mk))[j]? = some z → (w3.alloc (.cells #[.int .i64 0, .int .i64 0, .string mk] 38)).cell? ((⟨w3.heap.size, 0, none⟩ : Addr).add j) = some z) := new3 w3 ((0, 0), mk) _
                   clear p1 p2 p3 p4 BB HA3 HR3)
                | (refine wpList_appS rfl (.tmp 92) (.tmp 95) 25 rfl B 3 38 iM (.agg #[.int .i64 0, .int .i64 0, .string ByteArray.empty]) 32 Tryd.underlying25 JJ.out.1 JJ.out.2.1 JJ.out.2.2.1 JJ.out.2.2.2 rfl (by decide) _ (m + i) _ rfl O4.out ⟨w3.heap.size, 0, none⟩ 1 1 (ml ((0, 0), mk)) rfl rfl N4.out (by intro u hu; unfold ml at hu; simp at hu; rcases hu with rfl | rfl <;> rfl) (by unfold maxLen; omega) (by omega) LB4.out ?_
                   intro r' w5 p1 p2 p3 p4
                   have HA5 : Hid (Ap w0 B bH bM k cH cM (H2.set q [(.slice a n cc, L.map Value.string), (l', (L ++ List.replicate (i + 1) mk).map Value.string)]) (M2.set q [(.slice a2 m cc2, mls N), (r', mls (N ++ List.replicate (i + 1) ((0, 0), mk)))]) w5) := growM HLK.out.2 HA4.out O4.out p1 p2 p3 p4
                   have HR5 : Hid (Ro x1.heap.size mv lv q Y Z w5) := HR4.out.kept O4.out p2 (by decide) (by decide)
                   clear p1 p2 p3 p4 HA4 HR4))
              go_roundw
              case rel => exact ⟨i + 1, by omega, by go_num, HA5, HR5⟩
              case measure => simp [intOf]; omega
            · have hlt2' : ¬ (i : Int) < 64 := by omega
              obtain rfl : i = 64 := by omega
              obtain ⟨al, cl, e1⟩ := own_formS (rowH HA.out HLK.out.1)
              obtain ⟨ar, cr, e2⟩ := own_formS (rowM HA.out HLK.out.2)
              rw [HN.out] at e1
              rw [HM.out] at e2
              subst e1 e2
              have BB : Below wr.heap.size wr (wr.alloc (.cells #[.slice al (n + 64) cl] 22)) := (Below.refl _ _).alloc (Nat.le_refl _) _
              have HA6 : Hid (Ap w0 B bH bM k cH cM (H2.set q [(.slice a n cc, L.map Value.string), (.slice al (n + 64) cl, (L ++ List.replicate 64 mk).map Value.string)]) (M2.set q [(.slice a2 m cc2, mls N), (.slice ar (m + 64) cr, mls (N ++ List.replicate 64 ((0, 0), mk)))]) (wr.alloc (.cells #[.slice al (n + 64) cl] 22))) := HA.out.later BB
              have HR6 : Hid (Ro x1.heap.size mv lv q Y Z (wr.alloc (.cells #[.slice al (n + 64) cl] 22))) := HR.out.later BB
              have N6 : Hid (∀ j z, [Value.slice al (n + 64) cl][j]? = some z → (wr.alloc (.cells #[.slice al (n + 64) cl] 22)).cell? ((⟨wr.heap.size, 0, none⟩ : Addr).add j) = some z) := new1 wr _ _
              clear HA HR BB
              go_wp2_with (at_builtin; first
                | (refine wpList_appS rfl (.tmp 97) (.tmp 99) 56 rfl x1.heap.size 1 22 iS (.slice none 0 0) 24 und1 SS.out.1 SS.out.2.1 SS.out.2.2.1 SS.out.2.2.2 rfl (by decide) _ q Y rfl HR6.out.a ⟨wr.heap.size, 0, none⟩ 1 1 [.slice al (n + 64) cl] rfl rfl N6.out (by intro u hu; rw [List.mem_singleton.1 hu]; rfl) (by unfold maxLen; omega) (by omega) HR6.out.s ?_
                   intro mv' w7 p1 p2 p3 p4
                   have HA7 : Hid (Ap w0 B bH bM k cH cM (H2.set q [(.slice a n cc, L.map Value.string), (.slice al (n + 64) cl, (L ++ List.replicate 64 mk).map Value.string)]) (M2.set q [(.slice a2 m cc2, mls N), (.slice ar (m + 64) cr, mls (N ++ List.replicate 64 ((0, 0), mk)))]) w7) := Ap.beside HA6.out HR6.out.a p2 (by decide) (by decide) HB2.out.1 HB2.out.2.1 HB2.out.2.2
                   have BB : Below w7.heap.size w7 (w7.alloc (.cells #[.slice ar (m + 64) cr] 25)) := (Below.refl _ _).alloc (Nat.le_refl _) _
                   have HA8 : Hid (Ap w0 B bH bM k cH cM (H2.set q [(.slice a n cc, L.map Value.string), (.slice al (n + 64) cl, (L ++ List.replicate 64 mk).map Value.string)]) (M2.set q [(.slice a2 m cc2, mls N), (.slice ar (m + 64) cr, mls (N ++ List.replicate 64 ((0, 0), mk)))]) (w7.alloc (.cells #[.slice ar (m + 64) cr] 25))) := HA7.out.later BB
                   have A8 : Hid ((w7.alloc (.cells #[.slice ar (m + 64) cr] 25)).ownsRow x1.heap.size 22 1 mv' (q + 1) (Y ++ [.slice al (n + 64) cl])) := own_later p1 BB
                   have L8 : Hid ((w7.alloc (.cells #[.slice ar (m + 64) cr] 25)).ownsRow x1.heap.size 25 1 lv q Z) := own_later (HR6.out.b.kept p2 (own_apart HR6.out.b HR6.out.a (by decide))) BB
                   have S8 : Hid (x1.heap.size ≤ (w7.alloc (.cells #[.slice ar (m + 64) cr] 25)).heap.size) := Nat.le_trans (Nat.le_trans HR6.out.s p2.size) BB.size
                   have N8 : Hid (∀ j z, [Value.slice ar (m + 64) cr][j]? = some z → (w7.alloc (.cells #[.slice ar (m + 64) cr] 25)).cell? ((⟨w7.heap.size, 0, none⟩ : Addr).add j) = some z) := new1 w7 _ _
                   clear p1 p2 p3 p4 BB HA7)
                | (refine wpList_appS rfl (.tmp 101) (.tmp 103) 77 rfl x1.heap.size 1 25 iT (.slice none 0 0) 24 und2 TT.out.1 TT.out.2.1 TT.out.2.2.1 TT.out.2.2.2 rfl (by decide) _ q Z rfl L8.out ⟨w7.heap.size, 0, none⟩ 1 1 [.slice ar (m + 64) cr] rfl rfl N8.out (by intro u hu; rw [List.mem_singleton.1 hu]; rfl) (by unfold maxLen; omega) (by omega) S8.out ?_
                   intro lv' w9 p1 p2 p3 p4
                   have HA9 : Hid (Ap w0 B bH bM k cH cM (H2.set q [(.slice a n cc, L.map Value.string), (.slice al (n + 64) cl, (L ++ List.replicate 64 mk).map Value.string)]) (M2.set q [(.slice a2 m cc2, mls N), (.slice ar (m + 64) cr, mls (N ++ List.replicate 64 ((0, 0), mk)))]) w9) := Ap.beside HA8.out L8.out p2 (by decide) (by decide) HB2.out.1 HB2.out.2.1 HB2.out.2.2
                   have HR9 : Hid (Ro x1.heap.size mv' lv' (q + 1) (Y ++ [.slice al (n + 64) cl]) (Z ++ [.slice ar (m + 64) cr]) w9) := ⟨A8.out.kept p2 (own_apart A8.out L8.out (by decide)), p1, Nat.le_trans S8.out p2.size⟩
                   clear p1 p2 p3 p4 HA8))
              go_roundw
              case rel => exact ⟨q + 1, _, _, _, _, by omega, by go_num, HA9, ⟨HGH.out _, HGM.out _⟩, HR9⟩
              case measure => simp [intOf]; omega
        · have hlt' : ¬ (q : Int) < k := by omega
          obtain rfl : q = k := by omega
          obtain ⟨x2, rfl⟩ : ∃ wz, wz = wr := ⟨_, rfl⟩
          obtain ⟨am, cm1, e1⟩ := own_formS HR.out.a
          obtain ⟨ar, cr1, e2⟩ := own_formS HR.out.b
          subst e1 e2
          go_wp2
          go_loopw [16] (fun i wr => ∃ (t : Nat), t ≤ q ∧ i = .int .i64 t ∧ Hid (Below x2.heap.size x2 wr)) (fun i _ => (q - intOf i).toNat)
          case atStart => exact ⟨0, by omega, rfl, Below.refl _ _⟩
          case round =>
            obtain ⟨t, ht, rfl, HB⟩ := hrel
            by_cases hlt3 : t < q
            · have hlt3' : (t : Int) < q := by omega
              obtain ⟨gm, gr, v, v2, y1, y2, rfl, rfl, cs, Z1⟩ := third HA.out HG.out.1 HG.out.2 HR.out hlt3 (by omega)
              have CS : Hid (∀ W, Below x2.heap.size x2 W → W.cell? ⟨bH, t, none⟩ = some v ∧ W.cell? ⟨bM, t, none⟩ = some v2 ∧ W.cell? ⟨gm, t, none⟩ = some y1 ∧ W.cell? ⟨gr, t, none⟩ = some y2) := cs
              have C1 : Hid (∀ W, Below x2.heap.size x2 W → Calls _ _ _ W _) := Z1.1
              have C2 : Hid (∀ W, Below x2.heap.size x2 W → Calls _ _ _ W _) := Z1.2
              clear cs Z1
              obtain ⟨d0, d1, d2, d3⟩ := CS.out _ HB.out
              have KD : Hid (Below x2.heap.size x2 wr.drew) := below_dr HB.out
              go_upto_region 31 with fail
              go_cut [17] (fun x wx => x = .bool true ∧ Hid (Below x2.heap.size x2 wx))
              case first =>
                go_region_with (go_at_call 55; refine (C1.out _ KD.out).mono ?_; rintro _ w3 ⟨rfl, k3⟩; have K3 : Hid (Below x2.heap.size x2 w3) := over KD.out k3; clear k3)
                all_goals (go_wp2; go_meet; exact ⟨rfl, K3.out⟩)
              case rest =>
              obtain ⟨rfl, K9⟩ := hcut
              clear d0 d1 d2 d3 KD HB
              obtain ⟨wb, HWB⟩ : ∃ wb, Hid (wb = wc) := ⟨_, rfl⟩
              have hwb := HWB.out
              subst hwb
              clear HWB
              obtain ⟨d0, d1, d2, d3⟩ := CS.out _ K9.out
              have KD : Hid (Below x2.heap.size x2 wb.drew) := below_dr K9.out
              go_upto_region 32 with fail
              go_cut [18] (fun x wx => x = .bool true ∧ Hid (Below x2.heap.size x2 wx))
              case first =>
                go_region_with (go_at_call 55; refine (C2.out _ KD.out).mono ?_; rintro _ w3 ⟨rfl, k3⟩; have K3 : Hid (Below x2.heap.size x2 w3) := over KD.out k3; clear k3)
                all_goals (go_wp2; go_meet; exact ⟨rfl, K3.out⟩)
              case rest =>
              obtain ⟨rfl, K10⟩ := hcut
              clear d0 d1 d2 d3 KD
              go_wp2
              go_roundw
              case rel => exact ⟨t + 1, by omega, by go_num, K10⟩
              case measure => simp [intOf]; omega
            · have hlt3' : ¬ (t : Int) < q := by omega
              have HE : Hid (Below w0.heap.size w0 wr) := over HA.out.fr HB.out
              go_wp2
              go_ret
              exact ⟨rfl, HE.out⟩
end Go.Proofs.YtmmbkfagchaocaaDoor.s7
