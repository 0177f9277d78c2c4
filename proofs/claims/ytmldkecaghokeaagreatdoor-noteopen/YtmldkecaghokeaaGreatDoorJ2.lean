import Derived.Test.YtmldkecaghokeaaGreatDoorJ1
import Derived.Test.YtmldkecaghokeaaGreatDoorH2
import Derived.Test.YtmldkecaghokeaaGreatDoorZ3
import Derived.Test.YtmldkecaghokeaaGreatDoorZ4
import Derived.Test.YtmldkecaghokeaaGreatDoorZ5
namespace Go.Proofs.YtmldkecaghokeaaGreatDoor.t4
open Go.RowKit Go.PlainAid Go.Shelf
open Go.Proofs.YtmldkecaghokeaaGreatDoor.tb Go.Proofs.YtmldkecaghokeaaGreatDoor.tc Go.Proofs.YtmldkecaghokeaaGreatDoor.tj Go.Proofs.YtmldkecaghokeaaGreatDoor.o1 Go.Proofs.YtmldkecaghokeaaGreatDoor.o3 Go.Proofs.YtmldkecaghokeaaGreatDoor.o4 Go.Proofs.YtmldkecaghokeaaGreatDoor.o5 Go.Proofs.YtmldkecaghokeaaGreatDoor.o6 Go.Proofs.YtmldkecaghokeaaGreatDoor.o9 Go.Proofs.YtmldkecaghokeaaGreatDoor.kp Go.Proofs.YtmldkecaghokeaaGreatDoor.q1 Go.Proofs.YtmldkecaghokeaaGreatDoor.q2 Go.Proofs.YtmldkecaghokeaaGreatDoor.s1 Go.Proofs.YtmldkecaghokeaaGreatDoor.s2 Go.Proofs.YtmldkecaghokeaaGreatDoor.t1 Go.Proofs.YtmldkecaghokeaaGreatDoor.t2 Go.Proofs.YtmldkecaghokeaaGreatDoor.t3 Go.Proofs.YtmldkecaghokeaaGreatDoor.vc
open Go.Proofs.YtmldkecaghokeaaGreatDoor.y1 (linesP linesQ rLines)
set_option linter.unusedVariables false
set_option maxRecDepth 4000

def RdQ (B : Nat) (w' : World) (o : Option (ByteArray × List Sg)) (e : Ending) : Prop :=
  match o with
  | none => e = .returned (.tuple #[.string ByteArray.empty, .slice none 0 0, .int .i64 200])
  | some (body, gs) => ∃ a c, e = .returned (.tuple #[.string body, .slice a gs.length c, .int .i64 0]) ∧ Lg B (.slice a gs.length c) gs w'
theorem fwd_step (xs : List ByteArray) (k : Nat) (h : k < xs.length) (acc : List Sg) : fwd (xs.drop k) acc = match sigP (xs[k]'h) with
    | none => none
    | some g => if amg acc g = true then none else fwd (xs.drop (k + 1)) (acc ++ [g]) := by
  rw [List.drop_eq_getElem_cons h, fwd]
  all_goals (cases sigP (xs[k]'h) <;> rfl)
theorem own_base {w : World} {B B' t z n : Nat} {v : Value} {xs : List Value} (o : w.ownsRow B t z v n xs) (h : B' ≤ B) : w.ownsRow B' t z v n xs := by
  refine ⟨o.1, ?_⟩
  rcases o.2 with h2 | ⟨g', cap, cur', rfl, h2, h3, h4⟩
  · exact .inl h2
  · exact .inr ⟨g', cap, cur', rfl, Nat.le_trans h h2, h3, h4⟩
set_option maxHeartbeats 3200000 in
theorem readD_big (note : ByteArray) (hs : 65536 < note.size) (w : World) :
    Calls Tryz.prog 17 #[.string note] w fun e w' => e = .returned (.tuple #[.string ByteArray.empty, .slice none 0 0, .int .i64 121]) ∧ Below w.heap.size w w' := by
  have g : (note.size : Int) > 65536 := by omega
  go_enter Tryz.func17, Tryz.ntmps17
  go_wp2
  go_ret3
  exact ⟨rfl, Below.refl _ _⟩
set_option maxHeartbeats 6400000 in
theorem readD (note : ByteArray) (hs : note.size ≤ 65536) (w : World) :
    Calls Tryz.prog 17 #[.string note] w fun e w' => RdQ w.heap.size w' (rdD note) e ∧ Below w.heap.size w w' := by
  have g0 : ¬ (note.size : Int) > 65536 := by omega
  have C1 : Hid (Calls _ _ _ _ _) := partD note (by omega) w
  cases hp : prt note with
  | none =>
    have HE : Hid (rdD note = none) := by show _ = _; unfold rdD; rw [hp]
    rw [HE.out]
    rw [hp] at C1
    have hv : prtV none = -1 := rfl
    rw [hv] at C1
    clear hp HE hv
    go_enter Tryz.func17, Tryz.ntmps17
    go_wp2_with fail
    refine C1.out.mono ?_
    rintro e w1 ⟨rfl, hb1⟩
    have B1 : Hid (Below w.heap.size w w1) := hb1
    clear hb1
    go_wp2
    go_ret3
    exact ⟨rfl, B1.out⟩
  | some k =>
    obtain ⟨k1, k2, k3⟩ := prt_in hp
    rw [hp] at C1
    have hv : prtV (some k) = (k : Int) := rfl
    rw [hv] at C1
    obtain ⟨P, HP⟩ : ∃ P, Hid (note.extract 0 k = P) := ⟨_, rfl⟩
    obtain ⟨Rt, HRt⟩ : ∃ Rt, Hid (note.extract (k + 1) note.size = Rt) := ⟨_, rfl⟩
    have zP : P.size ≤ 65536 := by rw [← HP.out, ByteArray.size_extract]; omega
    have zR : Rt.size ≤ 65536 := by rw [← HRt.out, ByteArray.size_extract]; omega
    have hxP := HP.out
    have hxR := HRt.out
    have HD : Hid (rdD note = match linesP (bs Rt) with
      | none => none
      | some ls => if goesB P = true ∧ ls.length ≠ 0 ∧ ls.length ≤ 16 then (match fwd (ls.map str) [] with
        | none => none
        | some gs => some (P, gs)) else none) := by
      show _ = _
      unfold rdD
      rw [hp]
      simp only
      rw [HP.out, HRt.out]
      all_goals (cases linesP (bs Rt) <;> rfl)
    obtain ⟨Q, HQ⟩ : ∃ Q, Hid (rdD note = Q) := ⟨_, rfl⟩
    rw [HQ.out] at HD ⊢
    have C2 : Hid (∀ w, Calls _ _ _ _ _) := fun w => goesD P (by omega) w
    have C3 : Hid (∀ w, Calls _ _ _ _ _) := fun w => rLines Rt (by omega) w
    have g1 : (k : Int) ≤ note.size := by omega
    have g2 : (k : Int) + 1 ≤ note.size := by omega
    have g3 : ((k : Int) + 1).toNat = k + 1 := by omega
    have g4 : ¬ (k : Int) < 0 := by omega
    have g5 : IntKind.i64.wrap ((k : Int) + 1) = (k : Int) + 1 := by rw [IntKind.wrap_i64]; omega
    clear hp hv k1 k3 HQ
    obtain ⟨b, HB⟩ : ∃ b, Hid (goesB P = b) := ⟨_, rfl⟩
    rw [HB.out] at C2 HD
    clear HB
    cases hl : linesP (bs Rt) with
    | none =>
      have HE : Hid (Q = none) := by show _ = _; rw [HD.out, hl]
      rw [HE.out]
      rw [hl] at C3
      clear hl HD HE
      cases b
      all_goals (
        go_enter Tryz.func17, Tryz.ntmps17
        go_wp2_with fail
        refine C1.out.mono ?_
        rintro e w1 ⟨rfl, hb1⟩
        have B1 : Hid (Below w.heap.size w w1) := hb1
        clear hb1
        go_wp2_with fail
        refine (C2.out _).mono ?_
        rintro e w2 ⟨rfl, hb2⟩
        have B2 : Hid (Below w.heap.size w w2) := B1.out.trans (hb2.mono B1.out.size)
        clear hb2
        go_wp2_with fail
        refine (C3.out _).mono ?_
        rintro e w3 ⟨hq3, hb3⟩
        have hq4 : e = .returned (.tuple #[.slice none 0 0, .int .i64 43]) := hq3
        subst hq4
        have B3 : Hid (Below w.heap.size w w3) := B2.out.trans (hb3.mono B2.out.size)
        clear hb3 hq3
        go_wp2
        go_ret3
        exact ⟨rfl, B3.out⟩)
    | some ls =>
      have HE : Hid (Q = if b = true ∧ ls.length ≠ 0 ∧ ls.length ≤ 16 then (match fwd (ls.map str) [] with
        | none => none
        | some gs => some (P, gs)) else none) := by show _ = _; rw [HD.out, hl]
      rw [hl] at C3
      obtain ⟨xs, HXS⟩ : ∃ xs, Hid (ls.map str = xs) := ⟨_, rfl⟩
      have HXL : Hid (xs.length = ls.length) := by show _ = _; rw [← HXS.out, List.length_map]
      have HXZ : Hid (∀ i (h : i < xs.length), (xs[i]'h).size ≤ 1000000) := by
        intro i h
        have hpz : ∀ x ∈ ls, x.length ≤ Rt.size := y1.lines_small Rt ls hl
        have hm : xs[i]'h ∈ ls.map str := by rw [HXS.out]; exact List.getElem_mem h
        obtain ⟨x, hx, he⟩ := List.mem_map.1 hm
        rw [← he, str_size]
        have := hpz x hx
        omega
      rw [← HXL.out, HXS.out] at HE
      have C3' : Hid (∀ w, Calls Tryz.prog 43 #[.string Rt] w fun e w' => (∃ a c, e = .returned (.tuple #[.slice a xs.length c, .int .i64 0]) ∧ Reads w' (.slice a xs.length c) xs) ∧ Below w.heap.size w w') := fun w => (C3.out w).mono (by
        rintro e w' ⟨⟨v, rfl, hrd, _⟩, hb⟩
        rw [HXS.out] at hrd
        obtain ⟨a, c, rfl, h2⟩ := hrd
        exact ⟨⟨a, c, rfl, a, c, rfl, h2⟩, hb⟩)
      obtain ⟨n, HN⟩ : ∃ n, Hid (xs.length = n) := ⟨_, rfl⟩
      rw [HN.out] at HE
      clear hl HD C3 HXS HXL
      by_cases hok : b = true ∧ n ≠ 0 ∧ n ≤ 16
      · obtain ⟨rfl, n0, n16⟩ := hok
        have HE2 : Hid (Q = match fwd xs [] with | none => none | some gs => some (P, gs)) := by show _ = _; rw [HE.out, if_pos ⟨rfl, n0, n16⟩]
        have q1 : ((n : Int) == 0) = false := beq_eq_false_iff_ne.2 (by omega)
        have q1' : ¬ (n : Int) = 0 := by omega
        have q2 : decide ((n : Int) > 16) = false := decide_eq_false (by omega)
        have q2' : ¬ (n : Int) > 16 := by omega
        obtain ⟨i0, hi0, hi1, hi2, hi3⟩ := info_parts infoG
        have HI : Hid (Tryz.prog.info? 48 = some i0 ∧ i0.zero = some (.agg #[.string ⟨#[]⟩, .string ⟨#[]⟩, .string ⟨#[]⟩]) ∧ i0.size = 3 ∧ i0.bytes = 48) := ⟨hi0, hi1, hi2, hi3⟩
        obtain ⟨FX, HFX⟩ : ∃ FX, Hid (fwd xs [] = FX) := ⟨_, rfl⟩
        rw [HFX.out] at HE2
        rw [HN.out] at C3'
        clear hi0 hi1 hi2 hi3 HE
        go_enter Tryz.func17, Tryz.ntmps17
        go_wp2_with fail
        refine C1.out.mono ?_
        rintro e w1 ⟨rfl, hb1⟩
        have B1 : Hid (Below w.heap.size w w1) := hb1
        clear hb1
        go_wp2_with fail
        refine (C2.out _).mono ?_
        rintro e w2 ⟨rfl, hb2⟩
        have B2 : Hid (Below w.heap.size w w2) := B1.out.trans (hb2.mono B1.out.size)
        clear hb2
        go_wp2_with fail
        refine (C3'.out _).mono ?_
        rintro e w3 ⟨⟨la, lc, rfl, hrd⟩, hb3⟩
        have B3 : Hid (Below w.heap.size w w3) := B2.out.trans (hb3.mono B2.out.size)
        have HRD : Hid (Reads w3 (.slice la n lc) xs) := hrd
        clear hb3 hrd
        go_wp2
        clear q1 q1' q2 q2' hxP hxR g0 g1 g2 g3 g4 g5
        go_loopw [10, 11] (fun sv i wr => ∃ (j : Nat) (sa : Option Addr) (sc : Nat) (acc : List Sg), j ≤ n ∧ i = .int .i64 j ∧ sv = .slice sa j sc ∧ Hid (acc.length = j ∧ Lg w3.heap.size (.slice sa j sc) acc wr ∧ Below w3.heap.size w3 wr ∧ fwd (xs.drop j) acc = FX)) (fun _ i _ => (n - intOf i).toNat)
        case atStart => exact ⟨0, none, 0, [], by omega, rfl, rfl, rfl, Lg.nil _ _, Below.refl _ _, HFX.out⟩
        case round =>
          obtain ⟨j, sa, sc, acc, hj, rfl, rfl, HK⟩ := hrel
          have BK : Hid (Below w.heap.size w wr) := B3.out.trans (HK.out.2.2.1.mono B3.out.size)
          have LK : Hid (Lg w3.heap.size (.slice sa j sc) acc wr) := HK.out.2.1
          have HLM : Hid (acc.length = j) := HK.out.1
          by_cases hlt : j < n
          · have hlt' : (j : Int) < n := by omega
            have hjl : j < xs.length := by rw [HN.out]; exact hlt
            have hst := HK.out.2.2.2
            rw [fwd_step xs j hjl acc] at hst
            obtain ⟨y, HY⟩ : ∃ y, Hid (xs[j]'hjl = y) := ⟨_, rfl⟩
            rw [HY.out] at hst
            have HST : Hid _ := hst
            have zy : y.size ≤ 1000000 := by rw [← HY.out]; exact HXZ.out j hjl
            have hce : ∃ lb lo, la = some ⟨lb, lo, none⟩ ∧ wr.cell? ⟨lb, lo + j, none⟩ = some (.string y) := by
              obtain ⟨a', c', e', h0 | ⟨lb, lo, rfl, hc⟩⟩ := HRD.out
              · omega
              · injection e' with e1 _ _
                have hc1 := hc j hjl
                rw [List.getD_eq_getElem?_getD, List.getElem?_eq_getElem hjl] at hc1
                refine ⟨lb, lo, e1, ?_⟩
                rw [HK.out.2.2.1.cell (p := ⟨lb, lo + j, none⟩) (World.block_lt_of_cell? _ _ hc1), hc1, ← HY.out]
                rfl
            obtain ⟨lb, lo, rfl, c1⟩ := hce
            have D1 : Hid (∀ w, Calls _ _ _ _ _) := fun w => sigD y zy w
            obtain ⟨sg, HSG⟩ : ∃ sg, Hid (sigP y = sg) := ⟨_, rfl⟩
            rw [HSG.out] at D1 HST
            clear hst HSG
            cases sg with
            | none =>
              have HF : Hid (Q = none) := by show _ = _; rw [HE2.out, ← HST.out]
              have D2 : Hid (∀ w, Calls Tryz.prog 44 #[.string y] w fun e w' => e = .returned (.tuple #[.agg #[.string ⟨#[]⟩, .string ⟨#[]⟩, .string ⟨#[]⟩], .bool false]) ∧ Below w.heap.size w w') := fun w => D1.out w
              clear D1 HST HY
              go_wp2_with fail
              refine (D2.out _).mono ?_
              rintro e w4 ⟨rfl, hb4⟩
              have B4 : Hid (Below wr.heap.size wr w4) := hb4
              clear hb4
              obtain ⟨W, HW⟩ : ∃ W, Hid (w4.alloc (.cells #[.string ⟨#[]⟩, .string ⟨#[]⟩, .string ⟨#[]⟩] 48) = W) := ⟨_, rfl⟩
              have BW : Hid (Below w4.heap.size w4 W) := by rw [← HW.out]; exact (Below.refl _ _).alloc (Nat.le_refl _) _
              have hWc : W.cell? ⟨w4.heap.size, 0, none⟩ = some (.string ⟨#[]⟩) ∧ W.cell? ⟨w4.heap.size, 1, none⟩ = some (.string ⟨#[]⟩) ∧ W.cell? ⟨w4.heap.size, 2, none⟩ = some (.string ⟨#[]⟩) := by
                rw [← HW.out]; exact ⟨by rw [World.cell?_alloc_at _ _ _ _ rfl]; rfl, by rw [World.cell?_alloc_at _ _ _ _ rfl]; rfl, by rw [World.cell?_alloc_at _ _ _ _ rfl]; rfl⟩
              obtain ⟨d0, d1, d2⟩ := hWc
              have BWr : Hid (Below wr.heap.size wr W) := B4.out.trans (BW.out.mono B4.out.size)
              have LW : Hid (Lg w3.heap.size (.slice sa j sc) acc W) := LK.out.later BWr.out
              have C4 : Hid (Calls _ _ _ _ _) := amongD (.slice sa j sc) acc ⟨⟨#[]⟩, ⟨#[]⟩, ⟨#[]⟩⟩ W LW.out.reads (by rw [HLM.out]; omega)
              simp only at C4
              generalize amg acc ⟨⟨#[]⟩, ⟨#[]⟩, ⟨#[]⟩⟩ = m at *
              go_wp2_with fail
              rw [HW.out]
              go_wp2_with fail
              refine C4.out.mono ?_
              rintro e w5 ⟨rfl, hb5⟩
              have B5 : Hid (Below w.heap.size w w5) := BK.out.trans ((BWr.out.trans (hb5.mono BWr.out.size)).mono BK.out.size)
              clear hb5 C4 d0 d1 d2
              go_wp2
              go_ret3
              exact ⟨by rw [HF.out]; rfl, B5.out⟩
            | some gy =>
              obtain ⟨gn, gi, gm⟩ := gy
              have D2 : Hid (∀ w, Calls Tryz.prog 44 #[.string y] w fun e w' => e = .returned (.tuple #[.agg #[.string gn, .string gi, .string gm], .bool true]) ∧ Below w.heap.size w w') := fun w => D1.out w
              have HT2 : Hid ((if amg acc ⟨gn, gi, gm⟩ = true then none else fwd (xs.drop (j + 1)) (acc ++ [⟨gn, gi, gm⟩])) = FX) := HST.out
              clear D1 HST HY
              go_wp2_with fail
              refine (D2.out _).mono ?_
              rintro e w4 ⟨rfl, hb4⟩
              have B4 : Hid (Below wr.heap.size wr w4) := hb4
              clear hb4
              obtain ⟨W, HW⟩ : ∃ W, Hid (w4.alloc (.cells #[.string gn, .string gi, .string gm] 48) = W) := ⟨_, rfl⟩
              have BW : Hid (Below w4.heap.size w4 W) := by rw [← HW.out]; exact (Below.refl _ _).alloc (Nat.le_refl _) _
              have hlW : w4.heap.size < W.heap.size := by rw [← HW.out]; simp
              have hWc : W.cell? ⟨w4.heap.size, 0, none⟩ = some (.string gn) ∧ W.cell? ⟨w4.heap.size, 1, none⟩ = some (.string gi) ∧ W.cell? ⟨w4.heap.size, 2, none⟩ = some (.string gm) := by
                rw [← HW.out]; exact ⟨by rw [World.cell?_alloc_at _ _ _ _ rfl]; rfl, by rw [World.cell?_alloc_at _ _ _ _ rfl]; rfl, by rw [World.cell?_alloc_at _ _ _ _ rfl]; rfl⟩
              obtain ⟨d0, d1, d2⟩ := hWc
              have BWr : Hid (Below wr.heap.size wr W) := B4.out.trans (BW.out.mono B4.out.size)
              have LW : Hid (Lg w3.heap.size (.slice sa j sc) acc W) := LK.out.later BWr.out
              have C4 : Hid (Calls _ _ _ _ _) := amongD (.slice sa j sc) acc ⟨gn, gi, gm⟩ W LW.out.reads (by rw [HLM.out]; omega)
              simp only at C4
              generalize amg acc ⟨gn, gi, gm⟩ = m at *
              go_wp2_with fail
              rw [HW.out]
              go_wp2_with fail
              refine C4.out.mono ?_
              rintro e w5 ⟨rfl, hb5⟩
              have e0 := (hb5.cell (p := ⟨w4.heap.size, 0, none⟩) hlW).trans d0
              have e1 := (hb5.cell (p := ⟨w4.heap.size, 1, none⟩) hlW).trans d1
              have e2 := (hb5.cell (p := ⟨w4.heap.size, 2, none⟩) hlW).trans d2
              have B5 : Hid (Below wr.heap.size wr w5) := BWr.out.trans (hb5.mono BWr.out.size)
              have L5 : Hid (Lg w3.heap.size (.slice sa j sc) acc w5) := LW.out.later hb5
              have B5w : Hid (Below w.heap.size w w5) := BK.out.trans (B5.out.mono BK.out.size)
              have B53 : Hid (Below w3.heap.size w3 w5) := HK.out.2.2.1.trans (B5.out.mono HK.out.2.2.1.size)
              clear hb5 C4 d0 d1 d2
              cases m
              · have HT3 : Hid (fwd (xs.drop (j + 1)) (acc ++ [⟨gn, gi, gm⟩]) = FX) := HT2.out
                have HOA : Hid ((w5.alloc (.cells #[.string gn, .string gi, .string gm] 48)).ownsRow w3.heap.size 48 3 (.slice sa j sc) j (gcs acc)) := by
                  have := L5.out
                  unfold Lg at this
                  rw [HLM.out] at this
                  exact this.alloc _
                have B5A : Hid (Below w3.heap.size w3 (w5.alloc (.cells #[.string gn, .string gi, .string gm] 48))) := B53.out.alloc B53.out.size _
                go_wp2_with (at_builtin; refine wpList_append_own _ rfl (.tmp 73) (.tmp 75) 24 rfl w3.heap.size 48 i0 (.agg #[.string ⟨#[]⟩, .string ⟨#[]⟩, .string ⟨#[]⟩]) 3 48 Tryz.underlying24 HI.out.1 HI.out.2.1 HI.out.2.2.1 HI.out.2.2.2 rfl (by decide) (.slice sa j sc) j _ rfl HOA.out ⟨w5.heap.size, 0, none⟩ 1 1 [.string gn, .string gi, .string gm] rfl rfl (new_three _ _ _ _ _) (one_three _ _ _) (by unfold maxLen; omega) (by omega) B5A.out.size ?_; intro v6 w6 hown6 hgr6 hnn6; have HO6 : Hid (w6.ownsRow w3.heap.size 48 3 v6 (j + 1) (gcs acc ++ [.string gn, .string gi, .string gm])) := hown6; have B6 : Hid (Below w3.heap.size w3 w6) := B5A.out.grown hgr6 B5A.out.size (fun j hj => (HOA.out.lt _ hj).1); clear hown6 hgr6 hnn6)
                go_roundw
                case rel =>
                  obtain ⟨a6, c6, hv6⟩ : ∃ a6 c6, v6 = .slice a6 (j + 1) c6 := by
                    rcases HO6.out.2 with ⟨rfl, h0⟩ | ⟨g, cap, cur, rfl, _⟩
                    · omega
                    · exact ⟨_, cap, rfl⟩
                  refine ⟨j + 1, a6, c6, acc ++ [⟨gn, gi, gm⟩], by omega, by go_num, hv6, by rw [List.length_append, HLM.out]; rfl, ?_, B6.out, HT3.out⟩
                  rw [← hv6]
                  unfold Lg
                  rw [List.length_append, HLM.out, gcs_app]
                  exact HO6.out
                case measure => simp [intOf]; omega
              · have HT3 : Hid (FX = none) := by show _ = _; rw [← HT2.out]; rfl
                have HF : Hid (Q = none) := by show _ = _; rw [HE2.out, HT3.out]
                go_wp2
                go_ret3
                exact ⟨by rw [HF.out]; rfl, B5w.out⟩
          · have hlt' : ¬ (j : Int) < n := by omega
            have HT0 : Hid (FX = some acc) := by
              show _ = _
              rw [← HK.out.2.2.2, List.drop_of_length_le (by rw [HN.out]; omega)]
              rfl
            have HF : Hid (Q = some (P, acc)) := by show _ = _; rw [HE2.out, HT0.out]
            go_wp2
            go_ret3
            refine ⟨?_, BK.out⟩
            rw [HF.out]
            refine ⟨sa, sc, by rw [HLM.out]; rfl, ?_⟩
            rw [HLM.out]
            exact own_base LK.out B3.out.size
      · have HF : Hid (Q = none) := by show _ = _; rw [HE.out, if_neg hok]
        rw [HF.out]
        rw [HN.out] at C3'
        have hcs : b = false ∨ (b = true ∧ n = 0) ∨ (b = true ∧ n ≠ 0 ∧ ¬ n ≤ 16) := by
          cases b
          · exact .inl rfl
          · right
            by_cases e : n = 0
            · exact .inl ⟨rfl, e⟩
            · exact .inr ⟨rfl, e, fun h => hok ⟨rfl, e, h⟩⟩
        clear hok HE HF
        rcases hcs with rfl | ⟨rfl, hn0⟩ | ⟨rfl, hn0, hn16⟩
        · go_enter Tryz.func17, Tryz.ntmps17
          go_wp2_with fail
          refine C1.out.mono ?_
          rintro e w1 ⟨rfl, hb1⟩
          have B1 : Hid (Below w.heap.size w w1) := hb1
          clear hb1
          go_wp2_with fail
          refine (C2.out _).mono ?_
          rintro e w2 ⟨rfl, hb2⟩
          have B2 : Hid (Below w.heap.size w w2) := B1.out.trans (hb2.mono B1.out.size)
          clear hb2
          go_wp2_with fail
          refine (C3'.out _).mono ?_
          rintro e w3 ⟨⟨la, lc, rfl, hrd⟩, hb3⟩
          have B3 : Hid (Below w.heap.size w w3) := B2.out.trans (hb3.mono B2.out.size)
          clear hb3 hrd
          go_wp2
          go_ret3
          exact ⟨rfl, B3.out⟩
        · subst hn0
          go_enter Tryz.func17, Tryz.ntmps17
          go_wp2_with fail
          refine C1.out.mono ?_
          rintro e w1 ⟨rfl, hb1⟩
          have B1 : Hid (Below w.heap.size w w1) := hb1
          clear hb1
          go_wp2_with fail
          refine (C2.out _).mono ?_
          rintro e w2 ⟨rfl, hb2⟩
          have B2 : Hid (Below w.heap.size w w2) := B1.out.trans (hb2.mono B1.out.size)
          clear hb2
          go_wp2_with fail
          refine (C3'.out _).mono ?_
          rintro e w3 ⟨⟨la, lc, rfl, hrd⟩, hb3⟩
          have B3 : Hid (Below w.heap.size w w3) := B2.out.trans (hb3.mono B2.out.size)
          clear hb3 hrd
          go_wp2
          go_ret3
          exact ⟨rfl, B3.out⟩
        · have q1 : ((n : Int) == 0) = false := beq_eq_false_iff_ne.2 (by omega)
          have q1' : ¬ (n : Int) = 0 := by omega
          have q2 : decide ((n : Int) > 16) = true := decide_eq_true (by omega)
          have q2' : (n : Int) > 16 := by omega
          clear hn0 hn16
          go_enter Tryz.func17, Tryz.ntmps17
          go_wp2_with fail
          refine C1.out.mono ?_
          rintro e w1 ⟨rfl, hb1⟩
          have B1 : Hid (Below w.heap.size w w1) := hb1
          clear hb1
          go_wp2_with fail
          refine (C2.out _).mono ?_
          rintro e w2 ⟨rfl, hb2⟩
          have B2 : Hid (Below w.heap.size w w2) := B1.out.trans (hb2.mono B1.out.size)
          clear hb2
          go_wp2_with fail
          refine (C3'.out _).mono ?_
          rintro e w3 ⟨⟨la, lc, rfl, hrd⟩, hb3⟩
          have B3 : Hid (Below w.heap.size w w3) := B2.out.trans (hb3.mono B2.out.size)
          clear hb3 hrd
          go_wp2
          go_ret3
          exact ⟨rfl, B3.out⟩
end Go.Proofs.YtmldkecaghokeaaGreatDoor.t4

namespace Go.Proofs.YtmldkecaghokeaaGreatDoor.q6
open Go.RowKit Go.Shelf Go.PlainAid
open Go.Proofs.YtmldkecaghokeaaGreatDoor.tb Go.Proofs.YtmldkecaghokeaaGreatDoor.tc Go.Proofs.YtmldkecaghokeaaGreatDoor.tj Go.Proofs.YtmldkecaghokeaaGreatDoor.o1 Go.Proofs.YtmldkecaghokeaaGreatDoor.sh
set_option linter.unusedVariables false
attribute [local go_sem] Oper.semAt_some
set_option maxRecDepth 100000 in
set_option maxHeartbeats 4000000 in
theorem read_big (note : ByteArray) (hs : 65536 < note.size) (hz : note.size ≤ 281474976710656) (w : World) :
    CallsIn Fence.wide 3 Tryz.prog 13 #[.string note] w fun e W' => e = .returned (.tuple #[.string ByteArray.empty, .slice none 0 0, .int .i64 121]) ∧ Below w.heap.size w W' := by
  have t1 : (note.size : Int) > 65536 := by omega
  refine callsIn_of_wp_marks Tryz.func13 rfl trivial ?_ rfl
  simp only [Tryz.ntmps13, List.size_toArray, List.length_cons, List.length_nil, Nat.reduceAdd, Nat.reduceSub, Array.replicate_succ, Array.replicate_zero, List.push_toArray, List.append_toArray, List.nil_append, List.cons_append]
  gi_wp2
  have hB : Below w.heap.size w ((((w.alloc (.cells #[.string note] 9)).alloc (.cells #[.string ⟨#[]⟩] 9)).alloc (.cells #[.slice none 0 0] 24)).alloc (.cells #[.int .i64 121] 27)) := (((((Below.refl _ w).alloc (Nat.le_refl _) _).alloc (by simp) _).alloc (by simp; omega) _).alloc (by simp; omega) _)
  have e1 : ((((w.alloc (.cells #[.string note] 9)).alloc (.cells #[.string ⟨#[]⟩] 9)).alloc (.cells #[.slice none 0 0] 24)).alloc (.cells #[.int .i64 121] 27)).cell? ⟨w.heap.size + 1, 0, none⟩ = some (.string ⟨#[]⟩) := by
    rw [show w.heap.size + 1 = (w.alloc (.cells #[.string note] 9)).heap.size by simp]; exact (((Boxed.new _ 9 (.string ⟨#[]⟩)).alloc _).alloc _).cell
  have e2 : ((((w.alloc (.cells #[.string note] 9)).alloc (.cells #[.string ⟨#[]⟩] 9)).alloc (.cells #[.slice none 0 0] 24)).alloc (.cells #[.int .i64 121] 27)).cell? ⟨w.heap.size + 1 + 1, 0, none⟩ = some (.slice none 0 0) := by
    rw [show w.heap.size + 1 + 1 = ((w.alloc (.cells #[.string note] 9)).alloc (.cells #[.string ⟨#[]⟩] 9)).heap.size by simp]; exact ((Boxed.new _ 24 (.slice none 0 0)).alloc _).cell
  have e3 : ((((w.alloc (.cells #[.string note] 9)).alloc (.cells #[.string ⟨#[]⟩] 9)).alloc (.cells #[.slice none 0 0] 24)).alloc (.cells #[.int .i64 121] 27)).cell? ⟨w.heap.size + 1 + 1 + 1, 0, none⟩ = some (.int .i64 121) := by
    rw [show w.heap.size + 1 + 1 + 1 = (((w.alloc (.cells #[.string note] 9)).alloc (.cells #[.string ⟨#[]⟩] 9)).alloc (.cells #[.slice none 0 0] 24)).heap.size by simp]; exact (Boxed.new _ 27 (.int .i64 121)).cell
  refine ⟨.tuple #[.string ⟨#[]⟩, .slice none 0 0, .int .i64 121], ?_, rfl, hB⟩
  simp [results, Tryz.f13, go_sem, e1, e2, e3]
end Go.Proofs.YtmldkecaghokeaaGreatDoor.q6

namespace Go.Proofs.YtmldkecaghokeaaGreatDoor.r1
open Go.RowKit Go.PlainAid Go.Shelf
open Go.Proofs.YtmldkecaghokeaaGreatDoor.pj Go.Proofs.YtmldkecaghokeaaGreatDoor.rf Go.Proofs.YtmldkecaghokeaaGreatDoor.mo Go.Proofs.YtmldkecaghokeaaGreatDoor.nd Go.Proofs.YtmldkecaghokeaaGreatDoor.nh Go.Proofs.YtmldkecaghokeaaGreatDoor.tb Go.Proofs.YtmldkecaghokeaaGreatDoor.tc Go.Proofs.YtmldkecaghokeaaGreatDoor.tj Go.Proofs.YtmldkecaghokeaaGreatDoor.n1 Go.Proofs.YtmldkecaghokeaaGreatDoor.n3 Go.Proofs.YtmldkecaghokeaaGreatDoor.n4 Go.Proofs.YtmldkecaghokeaaGreatDoor.o1 Go.Proofs.YtmldkecaghokeaaGreatDoor.o3 Go.Proofs.YtmldkecaghokeaaGreatDoor.o4 Go.Proofs.YtmldkecaghokeaaGreatDoor.o5 Go.Proofs.YtmldkecaghokeaaGreatDoor.o6 Go.Proofs.YtmldkecaghokeaaGreatDoor.kp Go.Proofs.YtmldkecaghokeaaGreatDoor.q1 Go.Proofs.YtmldkecaghokeaaGreatDoor.q2 Go.Proofs.YtmldkecaghokeaaGreatDoor.q3 Go.Proofs.YtmldkecaghokeaaGreatDoor.q5 Go.Proofs.YtmldkecaghokeaaGreatDoor.q6
set_option linter.unusedVariables false
set_option maxRecDepth 4000

theorem rdE_len : ∀ (xs : List El) (acc : List Sg) (p : Nat) (r : List Sg), acc.length ≤ 16 → rdE xs acc = some (p, r) → r.length ≤ 16
  | [], _, _, _, _, h => by cases h
  | x :: xs, acc, p, r, ha, h => by
    rw [rdE] at h
    split at h
    · injection h with h; injection h with _ h2; rw [← h2]; exact ha
    · split at h
      · cases h
      · rename_i g _
        split at h
        · cases h
        · rename_i hb
          exact rdE_len xs (acc ++ [g]) p r (by rw [List.length_append]; have : acc.length ≠ 16 := fun e => hb (.inl e); simp; omega) h
theorem readB_size {note : ByteArray} {RL : List ByteArray} {body : ByteArray} {sigs : List Sg} (h : readB note RL = some (body, sigs)) : sigs.length ≤ 16 ∧ body.size ≤ note.size := by
  unfold readB at h
  split at h
  · cases h
  · rename_i p acc hr
    split at h
    · injection h with h; injection h with h1 h2
      rw [← h1, ← h2, List.length_reverse]
      exact ⟨rdE_len _ [] p acc (by simp) hr, by rw [ByteArray.size_extract]; omega⟩
    · cases h
theorem read_121 (note : ByteArray) (hs : 65536 < note.size) (hz : note.size ≤ 281474976710656) (w : World) :
    Calls Tryz.prog 13 #[.string note] w fun e W' => e = .returned (.tuple #[.string ByteArray.empty, .slice none 0 0, .int .i64 121]) ∧ Below w.heap.size w W' := (callsIn_wide (n := 3)).1 (read_big note hs hz w)
theorem read_200 (note : ByteArray) (hs : note.size ≤ 65536) (RL : List ByteArray) (hG : Gives note RL) (hn : readB note RL = none) (w : World) :
    Calls Tryz.prog 13 #[.string note] w fun e W' => e = .returned (.tuple #[.string ByteArray.empty, .slice none 0 0, .int .i64 200]) ∧ Below w.heap.size w W' := by
  refine ((callsIn_wide (n := 3)).1 (read_in 3 (by omega) note hs RL hG w)).mono ?_
  rintro e W' ⟨h1 | ⟨b, s, v, h1, _⟩, hb⟩
  · exact ⟨h1.2, hb⟩
  · rw [hn] at h1; cases h1
theorem read_ok (note : ByteArray) (hs : note.size ≤ 65536) (RL : List ByteArray) (hG : Gives note RL) (body : ByteArray) (sigs : List Sg) (hn : readB note RL = some (body, sigs)) (w : World) :
    Calls Tryz.prog 13 #[.string note] w fun e W' => ∃ a c, e = .returned (.tuple #[.string body, .slice a sigs.length c, .int .i64 0]) ∧ ReadsG W' (.slice a sigs.length c) sigs ∧ Below w.heap.size w W' := by
  refine ((callsIn_wide (n := 3)).1 (read_in 3 (by omega) note hs RL hG w)).mono ?_
  rintro e W' ⟨h1 | ⟨b, s, v, h1, h2, h3⟩, hb⟩
  · rw [hn] at h1; cases h1.1
  · rw [hn] at h1
    injection h1 with h1; injection h1 with e1 e2
    subst e1 e2
    obtain ⟨a, c, hv, hr⟩ := h3
    exact ⟨a, c, by rw [h2, hv], ⟨a, c, rfl, hr⟩, hb⟩
-- what Add answers
noncomputable def addB (note : ByteArray) (RL : List ByteArray) (kn ks : ByteArray) : ByteArray × Int :=
  if nm kn = true then (if 65536 < note.size then (ByteArray.empty, 121) else match readB note RL with
    | none => (ByteArray.empty, 200)
    | some (body, sigs) => if amg sigs ⟨kn, kidF kn ks, ByteArray.empty⟩ = true then (note, 0) else if sigs.length = 16 then (ByteArray.empty, 83) else if 65536 < note.size + (lineOf (sigOf (kn, ks) body)).size then (ByteArray.empty, 121) else (note ++ lineOf (sigOf (kn, ks) body), 0))
  else (ByteArray.empty, 203)
def addV (r : ByteArray × Int) : Value := .tuple #[.string r.1, .int .i64 r.2]
set_option maxHeartbeats 4000000 in
theorem addC (note kn ks : ByteArray) (hz : note.size ≤ 281474976710656) (h1 : kn.size ≤ 140737488351232) (h2 : ks.size ≤ 140737488351232) (RL : List ByteArray) (hG : Gives note RL) (w : World) (T : Hid (Tab w)) :
    Calls Tryz.prog 11 #[.string note, .agg #[.string kn, .string ks]] w fun e w' => e = .returned (addV (addB note RL kn ks)) ∧ Below w.heap.size w w' := by
  obtain ⟨W, HW⟩ : ∃ W, Hid (w.alloc (.cells #[.string kn, .string ks] 36) = W) := ⟨_, rfl⟩
  have BW : Hid (Below w.heap.size w W) := by rw [← HW.out]; exact (Below.refl _ _).alloc (Nat.le_refl _) _
  have SX : Hid (w.heap.size < W.heap.size ∧ W.cell? ⟨w.heap.size, 0, none⟩ = some (.string kn) ∧ W.cell? ⟨w.heap.size, 1, none⟩ = some (.string ks)) := by
    rw [← HW.out]; exact ⟨by simp, by rw [World.cell?_alloc_at _ _ _ _ rfl]; rfl, by rw [World.cell?_alloc_at _ _ _ _ rfl]; rfl⟩
  have C1 : Hid (Calls _ _ _ _ _) := idC kn ks h1 h2 W (T.out.down BW.out)
  by_cases hn : nm kn = true
  · have hv : idV kn ks = .tuple #[.string (kidF kn ks), .int .i64 0] := by unfold idV; rw [if_pos hn]
    rw [hv] at C1
    have HB : Hid (addB note RL kn ks = if 65536 < note.size then ((ByteArray.empty, 121) : ByteArray × Int) else match readB note RL with
      | none => (ByteArray.empty, 200)
      | some (body, sigs) => if amg sigs ⟨kn, kidF kn ks, ByteArray.empty⟩ = true then (note, 0) else if sigs.length = 16 then (ByteArray.empty, 83) else if 65536 < note.size + (lineOf (sigOf (kn, ks) body)).size then (ByteArray.empty, 121) else (note ++ lineOf (sigOf (kn, ks) body), 0)) := if_pos hn
    clear hv hn
    by_cases hb : 65536 < note.size
    · have HE : Hid (addB note RL kn ks = (ByteArray.empty, 121)) := by show _ = _; rw [HB.out, if_pos hb]
      have C2 : Hid (∀ X, Calls _ _ _ _ _) := fun X => read_121 note hb hz X
      clear hb HB
      rw [HE.out]
      go_enter Tryz.func11, Tryz.ntmps11
      go_wp2_with fail
      rw [HW.out]
      go_wp2_with fail
      refine C1.out.mono ?_
      rintro e w1 ⟨rfl, hb1⟩
      have B1 : Hid (Below w.heap.size w w1) := BW.out.trans (hb1.mono BW.out.size)
      clear hb1
      go_wp2_with fail
      refine (C2.out _).mono ?_
      rintro e w2 ⟨rfl, hb2⟩
      have B2 : Hid (Below w.heap.size w w2) := B1.out.trans (hb2.mono B1.out.size)
      clear hb2
      go_wp2
      go_ret2
      exact ⟨rfl, B2.out⟩
    · have hs : note.size ≤ 65536 := by omega
      cases hr : readB note RL with
      | none =>
        have HE : Hid (addB note RL kn ks = (ByteArray.empty, 200)) := by show _ = _; rw [HB.out, if_neg hb, hr]
        have C2 : Hid (∀ X, Calls _ _ _ _ _) := fun X => read_200 note hs RL hG hr X
        clear hb HB hr
        rw [HE.out]
        go_enter Tryz.func11, Tryz.ntmps11
        go_wp2_with fail
        rw [HW.out]
        go_wp2_with fail
        refine C1.out.mono ?_
        rintro e w1 ⟨rfl, hb1⟩
        have B1 : Hid (Below w.heap.size w w1) := BW.out.trans (hb1.mono BW.out.size)
        clear hb1
        go_wp2_with fail
        refine (C2.out _).mono ?_
        rintro e w2 ⟨rfl, hb2⟩
        have B2 : Hid (Below w.heap.size w w2) := B1.out.trans (hb2.mono B1.out.size)
        clear hb2
        go_wp2
        go_ret2
        exact ⟨rfl, B2.out⟩
      | some bs0 =>
        obtain ⟨body, sigs⟩ := bs0
        obtain ⟨z16, zb⟩ := readB_size hr
        have HE : Hid (addB note RL kn ks = if amg sigs ⟨kn, kidF kn ks, ByteArray.empty⟩ = true then ((note, 0) : ByteArray × Int) else if sigs.length = 16 then (ByteArray.empty, 83) else if 65536 < note.size + (lineOf (sigOf (kn, ks) body)).size then (ByteArray.empty, 121) else (note ++ lineOf (sigOf (kn, ks) body), 0)) := by show _ = _; rw [HB.out, if_neg hb, hr]
        have C2 : Hid (∀ X, Calls _ _ _ _ _) := fun X => read_ok note hs RL hG body sigs hr X
        have CO : Hid (∀ X, Calls _ _ _ _ _) := fun X => ofKeyC kn (kidF kn ks) X
        have CG : Hid (∀ X, Tab X → Calls _ _ _ _ _) := fun X t => signatureC (kn, ks) body h1 h2 (by omega) X t
        have HLS : Hid (lineOf (sigOf (kn, ks) body) = lineOf ⟨kn, kidF kn ks, macF ks body⟩) := rfl
        have CW : Hid (∀ X, Calls _ _ _ _ _) := fun X => writtenC ⟨kn, kidF kn ks, macF ks body⟩ h1 (by show (kidF kn ks).size + (macF ks body).size ≤ 1000; rw [kid_size, macF_size]; omega) X
        rw [← HLS.out] at CW
        dsimp only at CG CW
        have HLZ : Hid ((lineOf (sigOf (kn, ks) body)).size = kn.size + 54) := sig_line (kn, ks) body
        obtain ⟨L, HL⟩ : ∃ L, Hid (lineOf (sigOf (kn, ks) body) = L) := ⟨_, rfl⟩
        rw [HL.out] at HE CW HLZ
        obtain ⟨m, HM⟩ : ∃ m, Hid (amg sigs ⟨kn, kidF kn ks, ByteArray.empty⟩ = m) := ⟨_, rfl⟩
        rw [HM.out] at HE
        have CK : Hid (∀ X b1 b2 a c, ReadsG X (.slice a sigs.length c) sigs → X.cell? ⟨b1, 0, none⟩ = some (.string kn) → X.cell? ⟨b2, 0, none⟩ = some (.string (kidF kn ks)) → Calls Tryz.prog 22 #[.slice a sigs.length c, .func (.func 48) #[] #[.pointer (some ⟨b1, 0, none⟩), .pointer (some ⟨b2, 0, none⟩)]] X fun e X' => e = .returned (.bool m) ∧ Below X.heap.size X X') := fun X b1 b2 a c hr z1 z2 => by
          rw [← HM.out]
          exact hasKey (.slice a sigs.length c) sigs kn (kidF kn ks) b1 b2 X hr (by omega) z1 z2
        have TT : Hid (∀ X, Below w.heap.size w X → Tab X) := fun X h => T.out.down h
        generalize kidF kn ks = kid at *
        generalize macF ks body = mc at *
        obtain ⟨R, HRR⟩ : ∃ R, Hid (addB note RL kn ks = R) := ⟨_, rfl⟩
        rw [HRR.out] at HE ⊢
        clear HB hb hr HLS HM HRR
        go_enter Tryz.func11, Tryz.ntmps11
        go_wp2_with fail
        rw [HW.out]
        go_wp2_with fail
        refine C1.out.mono ?_
        rintro e w1 ⟨rfl, hb1⟩
        have B1 : Hid (Below w.heap.size w w1) := BW.out.trans (hb1.mono BW.out.size)
        have S1 : Hid (w.heap.size < w1.heap.size ∧ w1.cell? ⟨w.heap.size, 0, none⟩ = some (.string kn) ∧ w1.cell? ⟨w.heap.size, 1, none⟩ = some (.string ks)) := ⟨Nat.lt_of_lt_of_le SX.out.1 hb1.size, (hb1.cell (p := ⟨w.heap.size, 0, none⟩) SX.out.1).trans SX.out.2.1, (hb1.cell (p := ⟨w.heap.size, 1, none⟩) SX.out.1).trans SX.out.2.2⟩
        clear hb1
        go_wp2_with fail
        refine (C2.out _).mono ?_
        rintro e w2 ⟨a, c, rfl, hrd, hb2⟩
        have B2 : Hid (Below w.heap.size w w2) := B1.out.trans (hb2.mono B1.out.size)
        have S2 : Hid (w.heap.size < w2.heap.size ∧ w2.cell? ⟨w.heap.size, 0, none⟩ = some (.string kn) ∧ w2.cell? ⟨w.heap.size, 1, none⟩ = some (.string ks)) := ⟨Nat.lt_of_lt_of_le S1.out.1 hb2.size, (hb2.cell (p := ⟨w.heap.size, 0, none⟩) S1.out.1).trans S1.out.2.1, (hb2.cell (p := ⟨w.heap.size, 1, none⟩) S1.out.1).trans S1.out.2.2⟩
        have HRD : Hid (ReadsG w2 (.slice a sigs.length c) sigs) := hrd
        have p0 := S2.out.2.1
        clear hb2 hrd
        go_wp2_with fail
        refine (CO.out _).mono ?_
        rintro e w3 ⟨rfl, h3⟩
        have b3 : Below w2.heap.size w2 w3 := by rw [h3]; exact ((Below.refl _ _).alloc (Nat.le_refl _) _).alloc (by simp) _
        have B3 : Hid (Below w.heap.size w w3) := B2.out.trans (b3.mono B2.out.size)
        have E0 : Hid (w3.cell? ⟨w2.heap.size, 0, none⟩ = some (.string kn)) := by rw [h3, World.cell?_alloc_lt _ _ _ (by simp), World.cell?_alloc_at _ _ _ _ rfl]; rfl
        have E1 : Hid (w3.cell? ⟨w2.heap.size + 1, 0, none⟩ = some (.string kid)) := by rw [h3, World.cell?_alloc_at _ _ _ _ (by simp)]; rfl
        have S3 : Hid (w.heap.size < w3.heap.size ∧ w3.cell? ⟨w.heap.size, 0, none⟩ = some (.string kn) ∧ w3.cell? ⟨w.heap.size, 1, none⟩ = some (.string ks)) := ⟨Nat.lt_of_lt_of_le S2.out.1 b3.size, (b3.cell (p := ⟨w.heap.size, 0, none⟩) S2.out.1).trans S2.out.2.1, (b3.cell (p := ⟨w.heap.size, 1, none⟩) S2.out.1).trans S2.out.2.2⟩
        have HR3 : Hid (ReadsG w3 (.slice a sigs.length c) sigs) := HRD.out.later b3
        clear b3 h3 p0
        go_wp2_with fail
        refine (CK.out _ _ _ _ _ HR3.out E0.out E1.out).mono ?_
        rintro e w4 ⟨rfl, hb4⟩
        have B4 : Hid (Below w.heap.size w w4) := B3.out.trans (hb4.mono B3.out.size)
        have S4 : Hid (w4.cell? ⟨w.heap.size, 0, none⟩ = some (.string kn) ∧ w4.cell? ⟨w.heap.size, 1, none⟩ = some (.string ks)) := ⟨(hb4.cell (p := ⟨w.heap.size, 0, none⟩) S3.out.1).trans S3.out.2.1, (hb4.cell (p := ⟨w.heap.size, 1, none⟩) S3.out.1).trans S3.out.2.2⟩
        clear hb4
        cases m
        · by_cases h16 : sigs.length = 16
          · have g1 : ((sigs.length : Int) == 16) = true := by rw [h16]; rfl
            have HF : Hid (R = (ByteArray.empty, 83)) := by show _ = _; rw [HE.out, if_neg (by decide), if_pos h16]
            clear HE
            go_wp2
            go_ret2
            exact ⟨by rw [HF.out]; rfl, B4.out⟩
          · have g1 : ((sigs.length : Int) == 16) = false := beq_eq_false_iff_ne.2 (by omega)
            have g2 : ¬ (sigs.length : Int) = 16 := by omega
            have TQ : Hid (Tab w4) := TT.out _ B4.out
            have p0 := S4.out.1
            have p1 := S4.out.2
            by_cases hbg : 65536 < note.size + L.size
            · have HF : Hid (R = (ByteArray.empty, 121)) := by show _ = _; rw [HE.out, if_neg (by decide), if_neg h16, if_pos hbg]
              have hk : ((note ++ L).size : Int) > 65536 := by rw [ByteArray.size_append]; omega
              have hk2 : note.size + L.size ≤ 9223372036854775807 := by have := HLZ.out; omega
              clear HE
              go_wp2_with fail
              refine (CG.out _ TQ.out).mono ?_
              rintro e w5 ⟨rfl, hb5⟩
              have B5 : Hid (Below w.heap.size w w5) := B4.out.trans (hb5.mono B4.out.size)
              clear hb5
              go_wp2_with fail
              refine (CW.out _).mono ?_
              rintro e w6 ⟨rfl, hb6⟩
              have B6 : Hid (Below w.heap.size w w6) := B5.out.trans (hb6.mono B5.out.size)
              clear hb6
              go_wp2
              go_ret2
              exact ⟨by rw [HF.out]; rfl, B6.out⟩
            · have HF : Hid (R = (note ++ L, 0)) := by show _ = _; rw [HE.out, if_neg (by decide), if_neg h16, if_neg hbg]
              have hk : ¬ ((note ++ L).size : Int) > 65536 := by rw [ByteArray.size_append]; omega
              have hk2 : note.size + L.size ≤ 9223372036854775807 := by have := HLZ.out; omega
              clear HE
              go_wp2_with fail
              refine (CG.out _ TQ.out).mono ?_
              rintro e w5 ⟨rfl, hb5⟩
              have B5 : Hid (Below w.heap.size w w5) := B4.out.trans (hb5.mono B4.out.size)
              clear hb5
              go_wp2_with fail
              refine (CW.out _).mono ?_
              rintro e w6 ⟨rfl, hb6⟩
              have B6 : Hid (Below w.heap.size w w6) := B5.out.trans (hb6.mono B5.out.size)
              clear hb6
              go_wp2
              go_ret2
              exact ⟨by rw [HF.out]; rfl, B6.out⟩
        · have HF : Hid (R = (note, 0)) := by show _ = _; rw [HE.out, if_pos rfl]
          clear HE
          go_wp2
          go_ret2
          exact ⟨by rw [HF.out]; rfl, B4.out⟩
  · have hv : idV kn ks = .tuple #[.string ByteArray.empty, .int .i64 203] := by unfold idV; rw [if_neg hn]
    rw [hv] at C1
    have HE : Hid (addB note RL kn ks = (ByteArray.empty, 203)) := if_neg hn
    clear hv hn
    rw [HE.out]
    go_enter Tryz.func11, Tryz.ntmps11
    go_wp2_with fail
    rw [HW.out]
    go_wp2_with fail
    refine C1.out.mono ?_
    rintro e w1 ⟨rfl, hb1⟩
    have B1 : Hid (Below w.heap.size w w1) := BW.out.trans (hb1.mono BW.out.size)
    clear hb1
    go_wp2
    go_ret2
    exact ⟨rfl, B1.out⟩
end Go.Proofs.YtmldkecaghokeaaGreatDoor.r1

namespace Go.Proofs.YtmldkecaghokeaaGreatDoor.t5
open Go.RowKit Go.PlainAid
open Go.Proofs.YtmldkecaghokeaaGreatDoor.mo Go.Proofs.YtmldkecaghokeaaGreatDoor.nh Go.Proofs.YtmldkecaghokeaaGreatDoor.tb Go.Proofs.YtmldkecaghokeaaGreatDoor.tc Go.Proofs.YtmldkecaghokeaaGreatDoor.tj Go.Proofs.YtmldkecaghokeaaGreatDoor.n3 Go.Proofs.YtmldkecaghokeaaGreatDoor.n4 Go.Proofs.YtmldkecaghokeaaGreatDoor.o1 Go.Proofs.YtmldkecaghokeaaGreatDoor.o3 Go.Proofs.YtmldkecaghokeaaGreatDoor.o9 Go.Proofs.YtmldkecaghokeaaGreatDoor.q1 Go.Proofs.YtmldkecaghokeaaGreatDoor.q2 Go.Proofs.YtmldkecaghokeaaGreatDoor.q3 Go.Proofs.YtmldkecaghokeaaGreatDoor.q5 Go.Proofs.YtmldkecaghokeaaGreatDoor.r1 Go.Proofs.YtmldkecaghokeaaGreatDoor.s1 Go.Proofs.YtmldkecaghokeaaGreatDoor.s2 Go.Proofs.YtmldkecaghokeaaGreatDoor.s3 Go.Proofs.YtmldkecaghokeaaGreatDoor.t3
set_option linter.unusedVariables false
set_option maxRecDepth 4000

theorem nm_size {s : ByteArray} (h : nm s = true) : s.size ≤ 64 := by
  unfold nm at h
  simp only [Bool.and_eq_true, decide_eq_true_eq] at h
  exact h.1.2
theorem one_at (s : ByteArray) (i : Nat) (h : i < s.size) (x : UInt8) (hb : bt s i = x.toNat) : s.extract i (i + 1) = ⟨#[x]⟩ := by
  apply bs_inj
  rw [bs_extract s i (i + 1) (by omega) (by omega), List.take_succ_eq_append_getElem (by rw [bs_length]; exact h), List.drop_append_of_le_length (by rw [List.length_take, bs_length]; omega), List.drop_of_length_le (by rw [List.length_take, bs_length]; omega), List.nil_append, bs_get s i h, hb]
  have e : bs (⟨#[x]⟩ : ByteArray) = [bt (⟨#[x]⟩ : ByteArray) 0] := rfl
  rw [e, ← get_bt (⟨#[x]⟩ : ByteArray) 0 (by show 0 < 1; omega)]
  rfl
theorem cut_at (s : ByteArray) (i : Nat) (h : i < s.size) (x : UInt8) (hb : bt s i = x.toNat) : s = s.extract 0 i ++ ⟨#[x]⟩ ++ s.extract (i + 1) s.size := by
  rw [← one_at s i h x hb, ← ByteArray.extract_eq_extract_append_extract (a := s) (i := 0) (k := i + 1) i (by omega) (by omega), ← ByteArray.extract_eq_extract_append_extract (a := s) (i := 0) (k := s.size) (i + 1) (by omega) (by omega), ByteArray.extract_zero_size]
structure Fine (g : Sg) : Prop where
  id : g.id.size = 4
  mac : g.mac.size = 32
  nm : nm g.name = true
-- a line that is a signature is the one that the signature is written as
theorem sig_back {l : ByteArray} {g : Sg} (h : sigP l = some g) : lineOf g = l ++ nlB ∧ Fine g := by
  unfold sigP at h
  split at h
  · rename_i ho
    have h4 := opn_size l ho
    have er : rst l = l.extract 4 l.size := by unfold rst; rw [ho]; rfl
    have el : l = DS ++ rst l := by
      rw [er, ← of_decide_eq_true ho, ← ByteArray.extract_eq_extract_append_extract (a := l) (i := 0) (k := l.size) 4 (by omega) (by omega), ByteArray.extract_zero_size]
    generalize rst l = r at *
    split at h
    · cases h
    · rename_i i hi
      obtain ⟨_, hlt, hb, _⟩ := ix_inv r r.size 0 i hi
      have ec := cut_at r i (by omega) 32 hb
      unfold sgOf at h
      split at h
      · rename_i hc
        obtain ⟨hn, ha, h36⟩ := hc
        obtain rfl := Option.some.inj h
        obtain ⟨b1, b2⟩ := b64_back _ (bs_in _) ha
        generalize hcc : r.extract (i + 1) r.size = cc at *
        generalize hnn : r.extract 0 i = nn at *
        have hz : (str (cutL (bs cc))).size = 36 := by rw [str_size, h36]
        have ej : (str (cutL (bs cc))).extract 0 4 ++ (str (cutL (bs cc))).extract 4 36 = str (cutL (bs cc)) := by
          rw [← ByteArray.extract_eq_extract_append_extract (a := str (cutL (bs cc))) (i := 0) (k := 36) 4 (by omega) (by omega), ← hz, ByteArray.extract_zero_size]
        refine ⟨?_, ?_, ?_, hn⟩
        · unfold lineOf
          simp only
          rw [ej, bs_str _ b2, b1, str_bs]
          conv => rhs; rw [el, ec]
          unfold dash DS nlB
          simp only [ByteArray.append_assoc]
        · show ((str (cutL (bs cc))).extract 0 4).size = 4
          rw [ByteArray.size_extract]; omega
        · show ((str (cutL (bs cc))).extract 4 36).size = 32
          rw [ByteArray.size_extract]; omega
      · cases h
  · cases h
theorem lines_back : ∀ (ls : List ByteArray) (gs : List Sg), ls.map sigP = gs.map some → flN ls = flatB (gs.map lineOf) ∧ ∀ g ∈ gs, Fine g
  | [], gs, h => by
    have : gs = [] := by cases gs with | nil => rfl | cons _ _ => cases h
    subst this
    exact ⟨rfl, fun g hg => by cases hg⟩
  | l :: ls, gs, h => by
    cases gs with
    | nil => cases h
    | cons g gs =>
      simp only [List.map_cons, List.cons.injEq] at h
      obtain ⟨h1, h2⟩ := sig_back h.1
      obtain ⟨h3, h4⟩ := lines_back ls gs h.2
      refine ⟨?_, fun x hx => ?_⟩
      · rw [flN, List.map_cons, flatB, h1, h3]
      · rcases List.mem_cons.1 hx with rfl | hx
        · exact h2
        · exact h4 x hx
-- a note that is read is the one that its text and signatures are written as
theorem note_back (note : ByteArray) (RL : List ByteArray) (hG : Gives note RL) (body : ByteArray) (gs : List Sg) (h : readB note RL = some (body, gs)) : note = noteOf body gs ∧ ∀ g ∈ gs, Fine g := by
  rcases hG with ⟨hn, h10⟩ | ⟨he, rfl⟩
  · rcases rl_split RL with hno | ⟨pre, post, rfl, hp⟩
    · rw [readB_no note RL hno] at h; cases h
    · obtain ⟨e1, e2⟩ := readB_split pre post hp note hn
      rw [e2] at h
      split at h
      · cases hf : fwd pre.reverse [] with
        | none => rw [hf] at h; cases h
        | some gs' =>
          rw [hf] at h
          simp only at h
          split at h
          · obtain ⟨rfl, rfl⟩ := Prod.mk.inj (Option.some.inj h)
            obtain ⟨gs'', h1, h2, _⟩ := fwd_of _ [] gs' hf List.Pairwise.nil
            rw [List.nil_append] at h1
            subst h1
            obtain ⟨h3, h4⟩ := lines_back _ _ h2
            refine ⟨?_, h4⟩
            unfold noteOf
            rw [← h3]
            exact e1
          · cases h
      · cases h
  · cases h
theorem amg_id (gs : List Sg) (g g' : Sg) (h1 : g.name = g'.name) (h2 : g.id = g'.id) : amg gs g = amg gs g' := amg_eq gs gs g g' rfl h1 h2
end Go.Proofs.YtmldkecaghokeaaGreatDoor.t5

namespace Go.Proofs.YtmldkecaghokeaaGreatDoor.t6
open Go.RowKit Go.PlainAid Go.Shelf
open Go.Proofs.YtmldkecaghokeaaGreatDoor.pl Go.Proofs.YtmldkecaghokeaaGreatDoor.ft Go.Proofs.YtmldkecaghokeaaGreatDoor.pj Go.Proofs.YtmldkecaghokeaaGreatDoor.rf Go.Proofs.YtmldkecaghokeaaGreatDoor.mo Go.Proofs.YtmldkecaghokeaaGreatDoor.nd Go.Proofs.YtmldkecaghokeaaGreatDoor.nh Go.Proofs.YtmldkecaghokeaaGreatDoor.tb Go.Proofs.YtmldkecaghokeaaGreatDoor.tc Go.Proofs.YtmldkecaghokeaaGreatDoor.tj Go.Proofs.YtmldkecaghokeaaGreatDoor.n1 Go.Proofs.YtmldkecaghokeaaGreatDoor.n3 Go.Proofs.YtmldkecaghokeaaGreatDoor.n4 Go.Proofs.YtmldkecaghokeaaGreatDoor.o1 Go.Proofs.YtmldkecaghokeaaGreatDoor.o3 Go.Proofs.YtmldkecaghokeaaGreatDoor.o4 Go.Proofs.YtmldkecaghokeaaGreatDoor.o5 Go.Proofs.YtmldkecaghokeaaGreatDoor.o6 Go.Proofs.YtmldkecaghokeaaGreatDoor.o9 Go.Proofs.YtmldkecaghokeaaGreatDoor.kp Go.Proofs.YtmldkecaghokeaaGreatDoor.q1 Go.Proofs.YtmldkecaghokeaaGreatDoor.q2 Go.Proofs.YtmldkecaghokeaaGreatDoor.q3 Go.Proofs.YtmldkecaghokeaaGreatDoor.q5 Go.Proofs.YtmldkecaghokeaaGreatDoor.r1 Go.Proofs.YtmldkecaghokeaaGreatDoor.t3 Go.Proofs.YtmldkecaghokeaaGreatDoor.t4 Go.Proofs.YtmldkecaghokeaaGreatDoor.t5
set_option linter.unusedVariables false
set_option maxRecDepth 4000

theorem readD_no (note : ByteArray) (hs : note.size ≤ 65536) (h : rdD note = none) (w : World) :
    Calls Tryz.prog 17 #[.string note] w fun e w' => e = .returned (.tuple #[.string ByteArray.empty, .slice none 0 0, .int .i64 200]) ∧ Below w.heap.size w w' := by
  have := readD note hs w
  rw [h] at this
  exact this
theorem readD_ok (note : ByteArray) (hs : note.size ≤ 65536) (body : ByteArray) (gs : List Sg) (h : rdD note = some (body, gs)) (w : World) :
    Calls Tryz.prog 17 #[.string note] w fun e w' => ∃ a c, e = .returned (.tuple #[.string body, .slice a gs.length c, .int .i64 0]) ∧ Lg w.heap.size (.slice a gs.length c) gs w' ∧ Below w.heap.size w w' := by
  have := readD note hs w
  rw [h] at this
  refine this.mono ?_
  rintro e w' ⟨⟨a, c, h1, h2⟩, hb⟩
  exact ⟨a, c, h1, h2, hb⟩
set_option maxHeartbeats 6400000 in
theorem addD (note kn ks : ByteArray) (hz : note.size ≤ 281474976710656) (h1 : kn.size ≤ 140737488351232) (h2 : ks.size ≤ 140737488351232) (RL : List ByteArray) (hG : Gives note RL) (w : World) (T : Hid (Tab4 w)) :
    Calls Tryz.prog 12 #[.string note, .agg #[.string kn, .string ks]] w fun e w' => e = .returned (addV (addB note RL kn ks)) ∧ Below w.heap.size w w' := by
  obtain ⟨W, HW⟩ : ∃ W, Hid (w.alloc (.cells #[.string kn, .string ks] 36) = W) := ⟨_, rfl⟩
  have BW : Hid (Below w.heap.size w W) := by rw [← HW.out]; exact (Below.refl _ _).alloc (Nat.le_refl _) _
  have SX : Hid (w.heap.size < W.heap.size ∧ W.cell? ⟨w.heap.size, 0, none⟩ = some (.string kn) ∧ W.cell? ⟨w.heap.size, 1, none⟩ = some (.string ks)) := by
    rw [← HW.out]; exact ⟨by simp, by rw [World.cell?_alloc_at _ _ _ _ rfl]; rfl, by rw [World.cell?_alloc_at _ _ _ _ rfl]; rfl⟩
  have C1 : Hid (Calls _ _ _ _ _) := idD kn ks h1 h2 W (T.out.down BW.out)
  by_cases hn : nm kn = true
  · have hv : idV kn ks = .tuple #[.string (kidF kn ks), .int .i64 0] := by unfold idV; rw [if_pos hn]
    rw [hv] at C1
    have HB : Hid (addB note RL kn ks = if 65536 < note.size then ((ByteArray.empty, 121) : ByteArray × Int) else match readB note RL with
      | none => (ByteArray.empty, 200)
      | some (body, sigs) => if amg sigs ⟨kn, kidF kn ks, ByteArray.empty⟩ = true then (note, 0) else if sigs.length = 16 then (ByteArray.empty, 83) else if 65536 < note.size + (lineOf (sigOf (kn, ks) body)).size then (ByteArray.empty, 121) else (note ++ lineOf (sigOf (kn, ks) body), 0)) := if_pos hn
    have zkn := nm_size hn
    clear hv hn
    by_cases hb : 65536 < note.size
    · have HE : Hid (addB note RL kn ks = (ByteArray.empty, 121)) := by show _ = _; rw [HB.out, if_pos hb]
      have C2 : Hid (∀ X, Calls _ _ _ _ _) := fun X => readD_big note hb X
      clear hb HB
      rw [HE.out]
      go_enter Tryz.func12, Tryz.ntmps12
      go_wp2_with fail
      rw [HW.out]
      go_wp2_with fail
      refine C1.out.mono ?_
      rintro e w1 ⟨rfl, hb1⟩
      have B1 : Hid (Below w.heap.size w w1) := BW.out.trans (hb1.mono BW.out.size)
      clear hb1
      go_wp2_with fail
      refine (C2.out _).mono ?_
      rintro e w2 ⟨rfl, hb2⟩
      have B2 : Hid (Below w.heap.size w w2) := B1.out.trans (hb2.mono B1.out.size)
      clear hb2
      go_wp2
      go_ret2
      exact ⟨rfl, B2.out⟩
    · have hs : note.size ≤ 65536 := by omega
      have hone := rd_one note RL hG
      cases hr : readB note RL with
      | none =>
        have HE : Hid (addB note RL kn ks = (ByteArray.empty, 200)) := by show _ = _; rw [HB.out, if_neg hb, hr]
        have C2 : Hid (∀ X, Calls _ _ _ _ _) := fun X => readD_no note hs (hone.trans hr) X
        clear hb HB hr hone
        rw [HE.out]
        go_enter Tryz.func12, Tryz.ntmps12
        go_wp2_with fail
        rw [HW.out]
        go_wp2_with fail
        refine C1.out.mono ?_
        rintro e w1 ⟨rfl, hb1⟩
        have B1 : Hid (Below w.heap.size w w1) := BW.out.trans (hb1.mono BW.out.size)
        clear hb1
        go_wp2_with fail
        refine (C2.out _).mono ?_
        rintro e w2 ⟨rfl, hb2⟩
        have B2 : Hid (Below w.heap.size w w2) := B1.out.trans (hb2.mono B1.out.size)
        clear hb2
        go_wp2
        go_ret2
        exact ⟨rfl, B2.out⟩
      | some bs0 =>
        obtain ⟨body, sigs⟩ := bs0
        obtain ⟨z16, zb⟩ := readB_size hr
        obtain ⟨enote, hfine⟩ := note_back note RL hG body sigs hr
        have HE : Hid (addB note RL kn ks = if amg sigs ⟨kn, kidF kn ks, ByteArray.empty⟩ = true then ((note, 0) : ByteArray × Int) else if sigs.length = 16 then (ByteArray.empty, 83) else if 65536 < note.size + (lineOf (sigOf (kn, ks) body)).size then (ByteArray.empty, 121) else (note ++ lineOf (sigOf (kn, ks) body), 0)) := by show _ = _; rw [HB.out, if_neg hb, hr]
        have C2 : Hid (∀ X, Calls _ _ _ _ _) := fun X => readD_ok note hs body sigs (hone.trans hr) X
        have CG : Hid (∀ X, Tab4 X → Calls _ _ _ _ _) := fun X t => signatureD (kn, ks) body h1 h2 (by omega) X t
        dsimp only at CG
        obtain ⟨kid, HKI⟩ : ∃ kid, Hid (kidF kn ks = kid) := ⟨_, rfl⟩
        obtain ⟨mc, HMC⟩ : ∃ mc, Hid (macF ks body = mc) := ⟨_, rfl⟩
        have HSO : Hid (sigOf (kn, ks) body = ⟨kn, kid, mc⟩) := by show _ = _; rw [← HKI.out, ← HMC.out]; rfl
        have HLZ : Hid ((lineOf ⟨kn, kid, mc⟩).size = kn.size + 54) := by rw [← HSO.out]; exact sig_line (kn, ks) body
        have HKZ : Hid (kid.size + mc.size ≤ 1000) := by rw [← HKI.out, ← HMC.out]; show _ ≤ _; rw [kid_size, macF_size]; omega
        have HNS : Hid (noteOf body (sigs ++ [⟨kn, kid, mc⟩]) = note ++ lineOf ⟨kn, kid, mc⟩) := by show _ = _; rw [note_snoc, ← enote]
        have HAM : Hid (amg sigs ⟨kn, kid, ByteArray.empty⟩ = amg sigs ⟨kn, kid, mc⟩) := amg_id _ _ _ rfl rfl
        have HFG : Hid (∀ g ∈ sigs ++ [⟨kn, kid, mc⟩], g.name.size ≤ 140737488351232 ∧ g.id.size + g.mac.size ≤ 1000) := by
          intro g hg
          rcases List.mem_append.1 hg with hg | hg
          · have f := hfine g hg
            have f1 := nm_size f.nm
            have f2 := f.id
            have f3 := f.mac
            omega
          · rw [List.mem_singleton.1 hg]
            exact ⟨h1, HKZ.out⟩
        rw [HKI.out, HMC.out] at CG
        rw [HKI.out] at C1
        rw [HSO.out, HKI.out, HAM.out] at HE
        obtain ⟨m, HM⟩ : ∃ m, Hid (amg sigs ⟨kn, kid, mc⟩ = m) := ⟨_, rfl⟩
        rw [HM.out] at HE
        obtain ⟨L, HL⟩ : ∃ L, Hid (lineOf ⟨kn, kid, mc⟩ = L) := ⟨_, rfl⟩
        rw [HL.out] at HE HLZ HNS
        have TT : Hid (∀ X, Below w.heap.size w X → Tab4 X) := fun X h => T.out.down h
        obtain ⟨i0, hi0, hi1, hi2, hi3⟩ := info_parts infoG
        have HI : Hid (Tryz.prog.info? 48 = some i0 ∧ i0.zero = some (.agg #[.string ⟨#[]⟩, .string ⟨#[]⟩, .string ⟨#[]⟩]) ∧ i0.size = 3 ∧ i0.bytes = 48) := ⟨hi0, hi1, hi2, hi3⟩
        obtain ⟨R, HRR⟩ : ∃ R, Hid (addB note RL kn ks = R) := ⟨_, rfl⟩
        rw [HRR.out] at HE ⊢
        obtain ⟨n, HN⟩ : ∃ n, Hid (sigs.length = n) := ⟨_, rfl⟩
        have zn : n ≤ 16 := by rw [← HN.out]; exact z16
        have C2' : Hid (∀ w, Calls Tryz.prog 17 #[.string note] w fun e w' => ∃ a c, e = .returned (.tuple #[.string body, .slice a n c, .int .i64 0]) ∧ Lg w.heap.size (.slice a n c) sigs w' ∧ Below w.heap.size w w') := by rw [← HN.out]; exact C2.out
        rw [HN.out] at HE
        clear HB hb hr hone enote hfine HSO HKI HMC HAM HRR hi0 hi1 hi2 hi3 C2 z16
        go_enter Tryz.func12, Tryz.ntmps12
        go_wp2_with fail
        rw [HW.out]
        go_wp2_with fail
        refine C1.out.mono ?_
        rintro e w1 ⟨rfl, hb1⟩
        have B1 : Hid (Below w.heap.size w w1) := BW.out.trans (hb1.mono BW.out.size)
        have S1 : Hid (w.heap.size < w1.heap.size ∧ w1.cell? ⟨w.heap.size, 0, none⟩ = some (.string kn) ∧ w1.cell? ⟨w.heap.size, 1, none⟩ = some (.string ks)) := ⟨Nat.lt_of_lt_of_le SX.out.1 hb1.size, (hb1.cell (p := ⟨w.heap.size, 0, none⟩) SX.out.1).trans SX.out.2.1, (hb1.cell (p := ⟨w.heap.size, 1, none⟩) SX.out.1).trans SX.out.2.2⟩
        clear hb1
        go_wp2_with fail
        refine (C2'.out _).mono ?_
        rintro e w2 ⟨a, c, rfl, hrd, hb2⟩
        have B2 : Hid (Below w.heap.size w w2) := B1.out.trans (hb2.mono B1.out.size)
        have S2 : Hid (w.heap.size < w2.heap.size ∧ w2.cell? ⟨w.heap.size, 0, none⟩ = some (.string kn) ∧ w2.cell? ⟨w.heap.size, 1, none⟩ = some (.string ks)) := ⟨Nat.lt_of_lt_of_le S1.out.1 hb2.size, (hb2.cell (p := ⟨w.heap.size, 0, none⟩) S1.out.1).trans S1.out.2.1, (hb2.cell (p := ⟨w.heap.size, 1, none⟩) S1.out.1).trans S1.out.2.2⟩
        have HRD : Hid (Lg w.heap.size (.slice a n c) sigs w2) := own_base hrd B1.out.size
        have p0 := S2.out.2.1
        have p1 := S2.out.2.2
        have TQ : Hid (Tab4 w2) := TT.out _ B2.out
        clear hb2 hrd
        go_wp2_with fail
        refine (CG.out _ TQ.out).mono ?_
        rintro e w3 ⟨rfl, hb3⟩
        have B3 : Hid (Below w2.heap.size w2 w3) := hb3
        clear hb3 p0 p1
        obtain ⟨V, HV⟩ : ∃ V, Hid (w3.alloc (.cells #[.string kn, .string kid, .string mc] 48) = V) := ⟨_, rfl⟩
        have BV : Hid (Below w3.heap.size w3 V) := by rw [← HV.out]; exact (Below.refl _ _).alloc (Nat.le_refl _) _
        have hlV : w3.heap.size < V.heap.size := by rw [← HV.out]; simp
        have hVc : V.cell? ⟨w3.heap.size, 0, none⟩ = some (.string kn) ∧ V.cell? ⟨w3.heap.size, 1, none⟩ = some (.string kid) ∧ V.cell? ⟨w3.heap.size, 2, none⟩ = some (.string mc) := by
          rw [← HV.out]; exact ⟨by rw [World.cell?_alloc_at _ _ _ _ rfl]; rfl, by rw [World.cell?_alloc_at _ _ _ _ rfl]; rfl, by rw [World.cell?_alloc_at _ _ _ _ rfl]; rfl⟩
        obtain ⟨d0, d1, d2⟩ := hVc
        have BV2 : Hid (Below w2.heap.size w2 V) := B3.out.trans (BV.out.mono B3.out.size)
        have LV : Hid (Lg w.heap.size (.slice a n c) sigs V) := HRD.out.later BV2.out
        have C4 : Hid (Calls _ _ _ _ _) := amongD (.slice a n c) sigs ⟨kn, kid, mc⟩ V LV.out.reads (by rw [HN.out]; omega)
        rw [HM.out] at C4
        simp only at C4
        go_wp2_with fail
        rw [HV.out]
        go_wp2_with fail
        refine C4.out.mono ?_
        rintro e w4 ⟨rfl, hb4⟩
        have e0 := (hb4.cell (p := ⟨w3.heap.size, 0, none⟩) hlV).trans d0
        have e1 := (hb4.cell (p := ⟨w3.heap.size, 1, none⟩) hlV).trans d1
        have e2 := (hb4.cell (p := ⟨w3.heap.size, 2, none⟩) hlV).trans d2
        have B4 : Hid (Below w.heap.size w w4) := B2.out.trans ((BV2.out.trans (hb4.mono BV2.out.size)).mono B2.out.size)
        have L4 : Hid (Lg w.heap.size (.slice a n c) sigs w4) := LV.out.later hb4
        clear hb4 C4 d0 d1 d2
        cases m
        · by_cases h16 : n = 16
          · have g1 : ((n : Int) == 16) = true := by rw [h16]; rfl
            have HF : Hid (R = (ByteArray.empty, 83)) := by show _ = _; rw [HE.out, if_neg (by decide), if_pos h16]
            clear HE
            go_wp2
            go_ret2
            exact ⟨by rw [HF.out]; rfl, B4.out⟩
          · have g1 : ((n : Int) == 16) = false := beq_eq_false_iff_ne.2 (by omega)
            have g2 : ¬ (n : Int) = 16 := by omega
            have HOA : Hid ((w4.alloc (.cells #[.string kn, .string kid, .string mc] 48)).ownsRow w.heap.size 48 3 (.slice a n c) n (gcs sigs)) := by
              have := L4.out
              unfold Lg at this
              rw [HN.out] at this
              exact this.alloc _
            have B4A : Hid (Below w.heap.size w (w4.alloc (.cells #[.string kn, .string kid, .string mc] 48))) := B4.out.alloc B4.out.size _
            have CW : Hid (∀ X v, ReadsG X v (sigs ++ [⟨kn, kid, mc⟩]) → Calls Tryz.prog 29 #[.string body, v] X fun e w' => e = .returned (.string (note ++ L)) ∧ Below X.heap.size X w') := fun X v hv => by
              rw [← HNS.out]
              exact writtenD body v _ X hv (by rw [List.length_append, HN.out]; show n + 1 ≤ _; omega) (by rw [HNS.out, ByteArray.size_append, HLZ.out]; omega) (by omega) HFG.out
            have hzs : (note ++ L).size = note.size + L.size := ByteArray.size_append
            by_cases hbg : 65536 < note.size + L.size
            · have HF : Hid (R = (ByteArray.empty, 121)) := by show _ = _; rw [HE.out, if_neg (by decide), if_neg h16, if_pos hbg]
              have hk : ((note ++ L).size : Int) > 65536 := by rw [ByteArray.size_append]; omega
              generalize note ++ L = NL at *
              clear HE hzs
              go_wp2_with (at_builtin; refine wpList_append_own _ rfl (.tmp 43) (.tmp 45) 24 rfl w.heap.size 48 i0 (.agg #[.string ⟨#[]⟩, .string ⟨#[]⟩, .string ⟨#[]⟩]) 3 48 Tryz.underlying24 HI.out.1 HI.out.2.1 HI.out.2.2.1 HI.out.2.2.2 rfl (by decide) (.slice a n c) n _ rfl HOA.out ⟨w4.heap.size, 0, none⟩ 1 1 [.string kn, .string kid, .string mc] rfl rfl (new_three _ _ _ _ _) (one_three _ _ _) (by unfold maxLen; omega) (by omega) B4A.out.size ?_; intro v6 w6 hown6 hgr6 hnn6; have HO6 : Hid (Lg w.heap.size v6 (sigs ++ [⟨kn, kid, mc⟩]) w6) := (by unfold Lg; rw [List.length_append, HN.out, gcs_app]; exact hown6); have B6 : Hid (Below w.heap.size w w6) := B4A.out.grown hgr6 B4A.out.size (fun j hj => (HOA.out.lt _ hj).1); clear hown6 hgr6 hnn6)
              refine (CW.out _ _ HO6.out.reads).mono ?_
              rintro e w7 ⟨rfl, hb7⟩
              have B7 : Hid (Below w.heap.size w w7) := B6.out.trans (hb7.mono B6.out.size)
              clear hb7
              go_wp2
              go_ret2
              exact ⟨by rw [HF.out]; rfl, B7.out⟩
            · have HF : Hid (R = (note ++ L, 0)) := by show _ = _; rw [HE.out, if_neg (by decide), if_neg h16, if_neg hbg]
              have hk : ¬ ((note ++ L).size : Int) > 65536 := by rw [ByteArray.size_append]; omega
              generalize note ++ L = NL at *
              clear HE hzs
              go_wp2_with (at_builtin; refine wpList_append_own _ rfl (.tmp 43) (.tmp 45) 24 rfl w.heap.size 48 i0 (.agg #[.string ⟨#[]⟩, .string ⟨#[]⟩, .string ⟨#[]⟩]) 3 48 Tryz.underlying24 HI.out.1 HI.out.2.1 HI.out.2.2.1 HI.out.2.2.2 rfl (by decide) (.slice a n c) n _ rfl HOA.out ⟨w4.heap.size, 0, none⟩ 1 1 [.string kn, .string kid, .string mc] rfl rfl (new_three _ _ _ _ _) (one_three _ _ _) (by unfold maxLen; omega) (by omega) B4A.out.size ?_; intro v6 w6 hown6 hgr6 hnn6; have HO6 : Hid (Lg w.heap.size v6 (sigs ++ [⟨kn, kid, mc⟩]) w6) := (by unfold Lg; rw [List.length_append, HN.out, gcs_app]; exact hown6); have B6 : Hid (Below w.heap.size w w6) := B4A.out.grown hgr6 B4A.out.size (fun j hj => (HOA.out.lt _ hj).1); clear hown6 hgr6 hnn6)
              refine (CW.out _ _ HO6.out.reads).mono ?_
              rintro e w7 ⟨rfl, hb7⟩
              have B7 : Hid (Below w.heap.size w w7) := B6.out.trans (hb7.mono B6.out.size)
              clear hb7
              go_wp2
              go_ret2
              exact ⟨by rw [HF.out]; rfl, B7.out⟩
        · have HF : Hid (R = (note, 0)) := by show _ = _; rw [HE.out, if_pos rfl]
          clear HE
          go_wp2
          go_ret2
          exact ⟨by rw [HF.out]; rfl, B4.out⟩
  · have hv : idV kn ks = .tuple #[.string ByteArray.empty, .int .i64 203] := by unfold idV; rw [if_neg hn]
    rw [hv] at C1
    have HE : Hid (addB note RL kn ks = (ByteArray.empty, 203)) := if_neg hn
    clear hv hn
    rw [HE.out]
    go_enter Tryz.func12, Tryz.ntmps12
    go_wp2_with fail
    rw [HW.out]
    go_wp2_with fail
    refine C1.out.mono ?_
    rintro e w1 ⟨rfl, hb1⟩
    have B1 : Hid (Below w.heap.size w w1) := BW.out.trans (hb1.mono BW.out.size)
    clear hb1
    go_wp2
    go_ret2
    exact ⟨rfl, B1.out⟩
set_option maxHeartbeats 1600000 in
theorem law_add (b kn ks : ByteArray) (hb0 : b.size ≤ 140737488351232) (h1 : kn.size ≤ 140737488351232) (h2 : ks.size ≤ 140737488351232) (w : World) (tabs : St8 w 1 ∧ K64 w 4 ∧ St8 w 0 ∧ K64 w 2) :
    Calls Tryz.prog 4 #[.string b, .agg #[.string kn, .string ks]] w fun e w' => e = .returned (.bool true) ∧ Below w.heap.size w w' := by
  have T : Hid (Tab4 w) := Tab4.of tabs
  clear tabs
  obtain ⟨RL, hG, _⟩ := gives_ex b
  have HB0 : Hid (Below w.heap.size w (w.alloc (.cells #[.string kn, .string ks] 36))) := (Below.refl _ _).alloc (Nat.le_refl _) _
  have T0 : Hid (Tab4 (w.alloc (.cells #[.string kn, .string ks] 36))) := T.out.down HB0.out
  have C1 : Hid (Calls _ _ _ _ _) := addC b kn ks (by omega) h1 h2 RL hG (w.alloc (.cells #[.string kn, .string ks] 36)) T0.out.t
  have C2 : Hid (∀ w, Hid (Tab4 w) → Calls _ _ _ _ _) := fun w => addD b kn ks (by omega) h1 h2 RL hG w
  obtain ⟨s, n, hsn⟩ : ∃ s n, addV (addB b RL kn ks) = .tuple #[.string s, .int .i64 n] := ⟨_, _, rfl⟩
  rw [hsn] at C1 C2
  clear hsn hG
  go_enter Tryz.func4, Tryz.ntmps4
  go_wp2_with fail
  refine C1.out.mono ?_
  rintro e w1 ⟨rfl, hb1⟩
  have B1 : Hid (Below w.heap.size w w1) := HB0.out.trans (hb1.mono (by simp))
  have hc : w1.cell? ⟨w.heap.size, 0, none⟩ = some (.string kn) := by
    rw [hb1.cell (p := ⟨w.heap.size, 0, none⟩) (by simp), World.cell?_alloc_at _ _ _ _ rfl]; rfl
  have hd : w1.cell? ⟨w.heap.size, 1, none⟩ = some (.string ks) := by
    rw [hb1.cell (p := ⟨w.heap.size, 1, none⟩) (by simp), World.cell?_alloc_at _ _ _ _ rfl]; rfl
  have T1 : Hid (Tab4 w1) := T0.out.down hb1
  clear hb1
  go_wp2_with fail
  refine (C2.out _ T1).mono ?_
  rintro e w2 ⟨rfl, hb2⟩
  have B2 : Hid (Below w.heap.size w w2) := over B1.out hb2
  clear hb2
  go_wp2_with (go_at_call 9; refine (numC _ _).mono ?_; rintro e w3 ⟨rfl, rfl⟩)
  go_ret
  exact ⟨rfl, B2.out⟩
end Go.Proofs.YtmldkecaghokeaaGreatDoor.t6
