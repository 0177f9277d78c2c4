import Derived.Shelf.Bits.Mul64
import Derived.Test.YthdkbjbhjfiaiaaGreatDoorProg
import Derived.Test.YthdkbjbhjfiaiaaGreatDoorJ1
import Derived.Test.YthdkbjbhjfiaiaaGreatDoorH2
import Derived.Test.YthdkbjbhjfiaiaaGreatDoorXC
import Derived.Test.YthdkbjbhjfiaiaaGreatDoorXD
import Derived.Test.YthdkbjbhjfiaiaaGreatDoorXE
import Derived.Laws.AppendOwnNone
import Derived.Deep.DeepCutAuto
import Derived.Test.YthdkbjbhjfiaiaaGreatDoorH1
import Derived.Laws.CopyRow
import Derived.Laws.CopyOwn
import Derived.Lib.SlBuf
import Derived.RegionTactic
import Derived.Deep.WholeRow
import Derived.Laws.EntriesVeiled
import Derived.Deep.RegionHeldLaw
import Derived.Deep.QuietTactic
import Derived.BigQuiet
import Derived.Maps.AppendAt
namespace Go.Proofs.YthdkbjbhjfiaiaaGreatDoor.sm
open Go.Shelf
set_option linter.unusedVariables false
def lays264_ren : Go.Shelf.Ren := ⟨fun | 264 => 104 | n => n, fun | 53 => 134 | 46 => 105 | n => n, fun | n => n⟩
theorem lays264 : Go.Proofs.Lays.n264 Tryz.prog lays264_ren := {
  mixed := by kernel_rfl
  f264 := Tryz.func104.trans (congrArg some (by kernel_rfl))
  t46 := Tryz.underlying105
  a46 := Tryz.isAgg105
  z46 := Tryz.sizeOf105
  v46 := Tryz.zeroValue105
  t53 := Tryz.underlying134
  a53 := Tryz.isAgg134
  z53 := Tryz.sizeOf134
  v53 := Tryz.zeroValue134 }
def lays212_ren : Go.Shelf.Ren := ⟨fun | 212 => 75 | 263 => 103 | 264 => 104 | n => n, fun | 46 => 105 | 51 => 102 | 146 => 138 | 53 => 134 | 148 => 140 | n => n, fun | n => n⟩
theorem lays212 : Go.Proofs.Lays.n212 Tryz.prog lays212_ren := {
  mixed := by kernel_rfl
  f212 := Tryz.func75.trans (congrArg some (by kernel_rfl))
  f263 := Tryz.func103.trans (congrArg some (by kernel_rfl))
  f264 := Tryz.func104.trans (congrArg some (by kernel_rfl))
  t46 := Tryz.underlying105
  a46 := Tryz.isAgg105
  z46 := Tryz.sizeOf105
  v46 := Tryz.zeroValue105
  t51 := Tryz.underlying102
  a51 := Tryz.isAgg102
  z51 := Tryz.sizeOf102
  v51 := Tryz.zeroValue102
  t53 := Tryz.underlying134
  a53 := Tryz.isAgg134
  z53 := Tryz.sizeOf134
  v53 := Tryz.zeroValue134
  t146 := Tryz.underlying138
  a146 := Tryz.isAgg138
  z146 := Tryz.sizeOf138
  v146 := Tryz.zeroValue138
  t148 := Tryz.underlying140
  a148 := Tryz.isAgg140
  z148 := Tryz.sizeOf140
  v148 := Tryz.zeroValue140 }
end Go.Proofs.YthdkbjbhjfiaiaaGreatDoor.sm

namespace Go.Proofs.YthdkbjbhjfiaiaaGreatDoor.t4
open Go.RowKit Go.PlainAid Go.Shelf
open Go.Proofs.YthdkbjbhjfiaiaaGreatDoor.tb Go.Proofs.YthdkbjbhjfiaiaaGreatDoor.tc Go.Proofs.YthdkbjbhjfiaiaaGreatDoor.tj Go.Proofs.YthdkbjbhjfiaiaaGreatDoor.o1 Go.Proofs.YthdkbjbhjfiaiaaGreatDoor.o3 Go.Proofs.YthdkbjbhjfiaiaaGreatDoor.o4 Go.Proofs.YthdkbjbhjfiaiaaGreatDoor.o5 Go.Proofs.YthdkbjbhjfiaiaaGreatDoor.o6 Go.Proofs.YthdkbjbhjfiaiaaGreatDoor.o9 Go.Proofs.YthdkbjbhjfiaiaaGreatDoor.kp Go.Proofs.YthdkbjbhjfiaiaaGreatDoor.q1 Go.Proofs.YthdkbjbhjfiaiaaGreatDoor.q2 Go.Proofs.YthdkbjbhjfiaiaaGreatDoor.s1 Go.Proofs.YthdkbjbhjfiaiaaGreatDoor.s2 Go.Proofs.YthdkbjbhjfiaiaaGreatDoor.t1 Go.Proofs.YthdkbjbhjfiaiaaGreatDoor.t2 Go.Proofs.YthdkbjbhjfiaiaaGreatDoor.t3 Go.Proofs.YthdkbjbhjfiaiaaGreatDoor.vc
open Go.Proofs.YthdkbjbhjfiaiaaGreatDoor.y1 (linesP linesQ rLines)
set_option linter.unusedVariables false
set_option maxRecDepth 4000

def RdQ (B : Nat) (w' : World) (o : Option (ByteArray × List Sg)) (e : Ending) : Prop :=
  match o with
  | none => e = .returned (.tuple #[.string ByteArray.empty, .slice none 0 0, .int .i64 200])
  | some (body, gs) => ∃ a c, e = .returned (.tuple #[.string body, .slice a gs.length c, .int .i64 0]) ∧ Lg B (.slice a gs.length c) gs w'
theorem fwd_step (xs : List ByteArray) (k : Nat) (h : k < xs.length) (acc : List Sg) : fwd (xs.drop k) acc = match sigP (xs[k]'h) with
    | none => none
    | some g => if amg acc g = true then none else fwd (xs.drop (k + 1)) (acc ++ [g]) := by
  rw [List.drop_eq_getElem_cons h, fwd]
  all_goals (cases sigP (xs[k]'h) <;> rfl)
theorem own_base {w : World} {B B' t z n : Nat} {v : Value} {xs : List Value} (o : w.ownsRow B t z v n xs) (h : B' ≤ B) : w.ownsRow B' t z v n xs := by
  refine ⟨o.1, ?_⟩
  rcases o.2 with h2 | ⟨g', cap, cur', rfl, h2, h3, h4⟩
  · exact .inl h2
  · exact .inr ⟨g', cap, cur', rfl, Nat.le_trans h h2, h3, h4⟩
set_option maxHeartbeats 3200000 in
theorem readD_big (note : ByteArray) (hs : 65536 < note.size) (w : World) :
    Calls Tryz.prog 12 #[.string note] w fun e w' => e = .returned (.tuple #[.string ByteArray.empty, .slice none 0 0, .int .i64 121]) ∧ Below w.heap.size w w' := by
  have g : (note.size : Int) > 65536 := by omega
  go_enter Tryz.func12, Tryz.ntmps12
  go_wp2
  go_ret3
  exact ⟨rfl, Below.refl _ _⟩
set_option maxHeartbeats 6400000 in
theorem readD (note : ByteArray) (hs : note.size ≤ 65536) (w : World) :
    Calls Tryz.prog 12 #[.string note] w fun e w' => RdQ w.heap.size w' (rdD note) e ∧ Below w.heap.size w w' := by
  have g0 : ¬ (note.size : Int) > 65536 := by omega
  have C1 : Hid (Calls _ _ _ _ _) := partD note (by omega) w
  cases hp : prt note with
  | none =>
    have HE : Hid (rdD note = none) := by show _ = _; unfold rdD; rw [hp]
    rw [HE.out]
    rw [hp] at C1
    have hv : prtV none = -1 := rfl
    rw [hv] at C1
    clear hp HE hv
    go_enter Tryz.func12, Tryz.ntmps12
    go_wp2_with fail
    refine C1.out.mono ?_
    rintro e w1 ⟨rfl, hb1⟩
    have B1 : Hid (Below w.heap.size w w1) := hb1
    clear hb1
    go_wp2
    go_ret3
    exact ⟨rfl, B1.out⟩
  | some k =>
    obtain ⟨k1, k2, k3⟩ := prt_in hp
    rw [hp] at C1
    have hv : prtV (some k) = (k : Int) := rfl
    rw [hv] at C1
    obtain ⟨P, HP⟩ : ∃ P, Hid (note.extract 0 k = P) := ⟨_, rfl⟩
    obtain ⟨Rt, HRt⟩ : ∃ Rt, Hid (note.extract (k + 1) note.size = Rt) := ⟨_, rfl⟩
    have zP : P.size ≤ 65536 := by rw [← HP.out, ByteArray.size_extract]; omega
    have zR : Rt.size ≤ 65536 := by rw [← HRt.out, ByteArray.size_extract]; omega
    have hxP := HP.out
    have hxR := HRt.out
    have HD : Hid (rdD note = match linesP (bs Rt) with
      | none => none
      | some ls => if goesB P = true ∧ ls.length ≠ 0 ∧ ls.length ≤ 16 then (match fwd (ls.map str) [] with
        | none => none
        | some gs => some (P, gs)) else none) := by
      show _ = _
      unfold rdD
      rw [hp]
      simp only
      rw [HP.out, HRt.out]
      all_goals (cases linesP (bs Rt) <;> rfl)
    obtain ⟨Q, HQ⟩ : ∃ Q, Hid (rdD note = Q) := ⟨_, rfl⟩
    rw [HQ.out] at HD ⊢
    have C2 : Hid (∀ w, Calls _ _ _ _ _) := fun w => goesD P (by omega) w
    have C3 : Hid (∀ w, Calls _ _ _ _ _) := fun w => rLines Rt (by omega) w
    have g1 : (k : Int) ≤ note.size := by omega
    have g2 : (k : Int) + 1 ≤ note.size := by omega
    have g3 : ((k : Int) + 1).toNat = k + 1 := by omega
    have g4 : ¬ (k : Int) < 0 := by omega
    have g5 : IntKind.i64.wrap ((k : Int) + 1) = (k : Int) + 1 := by rw [IntKind.wrap_i64]; omega
    clear hp hv k1 k3 HQ
    obtain ⟨b, HB⟩ : ∃ b, Hid (goesB P = b) := ⟨_, rfl⟩
    rw [HB.out] at C2 HD
    clear HB
    cases hl : linesP (bs Rt) with
    | none =>
      have HE : Hid (Q = none) := by show _ = _; rw [HD.out, hl]
      rw [HE.out]
      rw [hl] at C3
      clear hl HD HE
      cases b
      all_goals (
        go_enter Tryz.func12, Tryz.ntmps12
        go_wp2_with fail
        refine C1.out.mono ?_
        rintro e w1 ⟨rfl, hb1⟩
        have B1 : Hid (Below w.heap.size w w1) := hb1
        clear hb1
        go_wp2_with fail
        refine (C2.out _).mono ?_
        rintro e w2 ⟨rfl, hb2⟩
        have B2 : Hid (Below w.heap.size w w2) := B1.out.trans (hb2.mono B1.out.size)
        clear hb2
        go_wp2_with fail
        refine (C3.out _).mono ?_
        rintro e w3 ⟨hq3, hb3⟩
        have hq4 : e = .returned (.tuple #[.slice none 0 0, .int .i64 43]) := hq3
        subst hq4
        have B3 : Hid (Below w.heap.size w w3) := B2.out.trans (hb3.mono B2.out.size)
        clear hb3 hq3
        go_wp2
        go_ret3
        exact ⟨rfl, B3.out⟩)
    | some ls =>
      have HE : Hid (Q = if b = true ∧ ls.length ≠ 0 ∧ ls.length ≤ 16 then (match fwd (ls.map str) [] with
        | none => none
        | some gs => some (P, gs)) else none) := by show _ = _; rw [HD.out, hl]
      rw [hl] at C3
      obtain ⟨xs, HXS⟩ : ∃ xs, Hid (ls.map str = xs) := ⟨_, rfl⟩
      have HXL : Hid (xs.length = ls.length) := by show _ = _; rw [← HXS.out, List.length_map]
      have HXZ : Hid (∀ i (h : i < xs.length), (xs[i]'h).size ≤ 1000000) := by
        intro i h
        have hpz : ∀ x ∈ ls, x.length ≤ Rt.size := y1.lines_small Rt ls hl
        have hm : xs[i]'h ∈ ls.map str := by rw [HXS.out]; exact List.getElem_mem h
        obtain ⟨x, hx, he⟩ := List.mem_map.1 hm
        rw [← he, str_size]
        have := hpz x hx
        omega
      rw [← HXL.out, HXS.out] at HE
      have C3' : Hid (∀ w, Calls Tryz.prog 15 #[.string Rt] w fun e w' => (∃ a c, e = .returned (.tuple #[.slice a xs.length c, .int .i64 0]) ∧ Reads w' (.slice a xs.length c) xs) ∧ Below w.heap.size w w') := fun w => (C3.out w).mono (by
        rintro e w' ⟨⟨v, rfl, hrd, _⟩, hb⟩
        rw [HXS.out] at hrd
        obtain ⟨a, c, rfl, h2⟩ := hrd
        exact ⟨⟨a, c, rfl, a, c, rfl, h2⟩, hb⟩)
      obtain ⟨n, HN⟩ : ∃ n, Hid (xs.length = n) := ⟨_, rfl⟩
      rw [HN.out] at HE
      clear hl HD C3 HXS HXL
      by_cases hok : b = true ∧ n ≠ 0 ∧ n ≤ 16
      · obtain ⟨rfl, n0, n16⟩ := hok
        have HE2 : Hid (Q = match fwd xs [] with | none => none | some gs => some (P, gs)) := by show _ = _; rw [HE.out, if_pos ⟨rfl, n0, n16⟩]
        have q1 : ((n : Int) == 0) = false := beq_eq_false_iff_ne.2 (by omega)
        have q1' : ¬ (n : Int) = 0 := by omega
        have q2 : decide ((n : Int) > 16) = false := decide_eq_false (by omega)
        have q2' : ¬ (n : Int) > 16 := by omega
        obtain ⟨i0, hi0, hi1, hi2, hi3⟩ := info_parts infoG
        have HI : Hid (Tryz.prog.info? 43 = some i0 ∧ i0.zero = some (.agg #[.string ⟨#[]⟩, .string ⟨#[]⟩, .string ⟨#[]⟩]) ∧ i0.size = 3 ∧ i0.bytes = 48) := ⟨hi0, hi1, hi2, hi3⟩
        obtain ⟨FX, HFX⟩ : ∃ FX, Hid (fwd xs [] = FX) := ⟨_, rfl⟩
        rw [HFX.out] at HE2
        rw [HN.out] at C3'
        clear hi0 hi1 hi2 hi3 HE
        go_enter Tryz.func12, Tryz.ntmps12
        go_wp2_with fail
        refine C1.out.mono ?_
        rintro e w1 ⟨rfl, hb1⟩
        have B1 : Hid (Below w.heap.size w w1) := hb1
        clear hb1
        go_wp2_with fail
        refine (C2.out _).mono ?_
        rintro e w2 ⟨rfl, hb2⟩
        have B2 : Hid (Below w.heap.size w w2) := B1.out.trans (hb2.mono B1.out.size)
        clear hb2
        go_wp2_with fail
        refine (C3'.out _).mono ?_
        rintro e w3 ⟨⟨la, lc, rfl, hrd⟩, hb3⟩
        have B3 : Hid (Below w.heap.size w w3) := B2.out.trans (hb3.mono B2.out.size)
        have HRD : Hid (Reads w3 (.slice la n lc) xs) := hrd
        clear hb3 hrd
        go_wp2
        clear q1 q1' q2 q2' hxP hxR g0 g1 g2 g3 g4 g5
        go_loopw [10, 11] (fun sv i wr => ∃ (j : Nat) (sa : Option Addr) (sc : Nat) (acc : List Sg), j ≤ n ∧ i = .int .i64 j ∧ sv = .slice sa j sc ∧ Hid (acc.length = j ∧ Lg w3.heap.size (.slice sa j sc) acc wr ∧ Below w3.heap.size w3 wr ∧ fwd (xs.drop j) acc = FX)) (fun _ i _ => (n - intOf i).toNat)
        case atStart => exact ⟨0, none, 0, [], by omega, rfl, rfl, rfl, Lg.nil _ _, Below.refl _ _, HFX.out⟩
        case round =>
          obtain ⟨j, sa, sc, acc, hj, rfl, rfl, HK⟩ := hrel
          have BK : Hid (Below w.heap.size w wr) := B3.out.trans (HK.out.2.2.1.mono B3.out.size)
          have LK : Hid (Lg w3.heap.size (.slice sa j sc) acc wr) := HK.out.2.1
          have HLM : Hid (acc.length = j) := HK.out.1
          by_cases hlt : j < n
          · have hlt' : (j : Int) < n := by omega
            have hjl : j < xs.length := by rw [HN.out]; exact hlt
            have hst := HK.out.2.2.2
            rw [fwd_step xs j hjl acc] at hst
            obtain ⟨y, HY⟩ : ∃ y, Hid (xs[j]'hjl = y) := ⟨_, rfl⟩
            rw [HY.out] at hst
            have HST : Hid _ := hst
            have zy : y.size ≤ 1000000 := by rw [← HY.out]; exact HXZ.out j hjl
            have hce : ∃ lb lo, la = some ⟨lb, lo, none⟩ ∧ wr.cell? ⟨lb, lo + j, none⟩ = some (.string y) := by
              obtain ⟨a', c', e', h0 | ⟨lb, lo, rfl, hc⟩⟩ := HRD.out
              · omega
              · injection e' with e1 _ _
                have hc1 := hc j hjl
                rw [List.getD_eq_getElem?_getD, List.getElem?_eq_getElem hjl] at hc1
                refine ⟨lb, lo, e1, ?_⟩
                rw [HK.out.2.2.1.cell (p := ⟨lb, lo + j, none⟩) (World.block_lt_of_cell? _ _ hc1), hc1, ← HY.out]
                rfl
            obtain ⟨lb, lo, rfl, c1⟩ := hce
            have D1 : Hid (∀ w, Calls _ _ _ _ _) := fun w => sigD y zy w
            obtain ⟨sg, HSG⟩ : ∃ sg, Hid (sigP y = sg) := ⟨_, rfl⟩
            rw [HSG.out] at D1 HST
            clear hst HSG
            cases sg with
            | none =>
              have HF : Hid (Q = none) := by show _ = _; rw [HE2.out, ← HST.out]
              have D2 : Hid (∀ w, Calls Tryz.prog 29 #[.string y] w fun e w' => e = .returned (.tuple #[.agg #[.string ⟨#[]⟩, .string ⟨#[]⟩, .string ⟨#[]⟩], .bool false]) ∧ Below w.heap.size w w') := fun w => D1.out w
              clear D1 HST HY
              go_wp2_with fail
              refine (D2.out _).mono ?_
              rintro e w4 ⟨rfl, hb4⟩
              have B4 : Hid (Below wr.heap.size wr w4) := hb4
              clear hb4
              obtain ⟨W, HW⟩ : ∃ W, Hid (w4.alloc (.cells #[.string ⟨#[]⟩, .string ⟨#[]⟩, .string ⟨#[]⟩] 43) = W) := ⟨_, rfl⟩
              have BW : Hid (Below w4.heap.size w4 W) := by rw [← HW.out]; exact (Below.refl _ _).alloc (Nat.le_refl _) _
              have hWc : W.cell? ⟨w4.heap.size, 0, none⟩ = some (.string ⟨#[]⟩) ∧ W.cell? ⟨w4.heap.size, 1, none⟩ = some (.string ⟨#[]⟩) ∧ W.cell? ⟨w4.heap.size, 2, none⟩ = some (.string ⟨#[]⟩) := by
                rw [← HW.out]; exact ⟨by rw [World.cell?_alloc_at _ _ _ _ rfl]; rfl, by rw [World.cell?_alloc_at _ _ _ _ rfl]; rfl, by rw [World.cell?_alloc_at _ _ _ _ rfl]; rfl⟩
              obtain ⟨d0, d1, d2⟩ := hWc
              have BWr : Hid (Below wr.heap.size wr W) := B4.out.trans (BW.out.mono B4.out.size)
              have LW : Hid (Lg w3.heap.size (.slice sa j sc) acc W) := LK.out.later BWr.out
              have C4 : Hid (Calls _ _ _ _ _) := amongD (.slice sa j sc) acc ⟨⟨#[]⟩, ⟨#[]⟩, ⟨#[]⟩⟩ W LW.out.reads (by rw [HLM.out]; omega)
              simp only at C4
              generalize amg acc ⟨⟨#[]⟩, ⟨#[]⟩, ⟨#[]⟩⟩ = m at *
              go_wp2_with fail
              rw [HW.out]
              go_wp2_with fail
              refine C4.out.mono ?_
              rintro e w5 ⟨rfl, hb5⟩
              have B5 : Hid (Below w.heap.size w w5) := BK.out.trans ((BWr.out.trans (hb5.mono BWr.out.size)).mono BK.out.size)
              clear hb5 C4 d0 d1 d2
              go_wp2
              go_ret3
              exact ⟨by rw [HF.out]; rfl, B5.out⟩
            | some gy =>
              obtain ⟨gn, gi, gm⟩ := gy
              have D2 : Hid (∀ w, Calls Tryz.prog 29 #[.string y] w fun e w' => e = .returned (.tuple #[.agg #[.string gn, .string gi, .string gm], .bool true]) ∧ Below w.heap.size w w') := fun w => D1.out w
              have HT2 : Hid ((if amg acc ⟨gn, gi, gm⟩ = true then none else fwd (xs.drop (j + 1)) (acc ++ [⟨gn, gi, gm⟩])) = FX) := HST.out
              clear D1 HST HY
              go_wp2_with fail
              refine (D2.out _).mono ?_
              rintro e w4 ⟨rfl, hb4⟩
              have B4 : Hid (Below wr.heap.size wr w4) := hb4
              clear hb4
              obtain ⟨W, HW⟩ : ∃ W, Hid (w4.alloc (.cells #[.string gn, .string gi, .string gm] 43) = W) := ⟨_, rfl⟩
              have BW : Hid (Below w4.heap.size w4 W) := by rw [← HW.out]; exact (Below.refl _ _).alloc (Nat.le_refl _) _
              have hlW : w4.heap.size < W.heap.size := by rw [← HW.out]; simp
              have hWc : W.cell? ⟨w4.heap.size, 0, none⟩ = some (.string gn) ∧ W.cell? ⟨w4.heap.size, 1, none⟩ = some (.string gi) ∧ W.cell? ⟨w4.heap.size, 2, none⟩ = some (.string gm) := by
                rw [← HW.out]; exact ⟨by rw [World.cell?_alloc_at _ _ _ _ rfl]; rfl, by rw [World.cell?_alloc_at _ _ _ _ rfl]; rfl, by rw [World.cell?_alloc_at _ _ _ _ rfl]; rfl⟩
              obtain ⟨d0, d1, d2⟩ := hWc
              have BWr : Hid (Below wr.heap.size wr W) := B4.out.trans (BW.out.mono B4.out.size)
              have LW : Hid (Lg w3.heap.size (.slice sa j sc) acc W) := LK.out.later BWr.out
              have C4 : Hid (Calls _ _ _ _ _) := amongD (.slice sa j sc) acc ⟨gn, gi, gm⟩ W LW.out.reads (by rw [HLM.out]; omega)
              simp only at C4
              generalize amg acc ⟨gn, gi, gm⟩ = m at *
              go_wp2_with fail
              rw [HW.out]
              go_wp2_with fail
              refine C4.out.mono ?_
              rintro e w5 ⟨rfl, hb5⟩
              have e0 := (hb5.cell (p := ⟨w4.heap.size, 0, none⟩) hlW).trans d0
              have e1 := (hb5.cell (p := ⟨w4.heap.size, 1, none⟩) hlW).trans d1
              have e2 := (hb5.cell (p := ⟨w4.heap.size, 2, none⟩) hlW).trans d2
              have B5 : Hid (Below wr.heap.size wr w5) := BWr.out.trans (hb5.mono BWr.out.size)
              have L5 : Hid (Lg w3.heap.size (.slice sa j sc) acc w5) := LW.out.later hb5
              have B5w : Hid (Below w.heap.size w w5) := BK.out.trans (B5.out.mono BK.out.size)
              have B53 : Hid (Below w3.heap.size w3 w5) := HK.out.2.2.1.trans (B5.out.mono HK.out.2.2.1.size)
              clear hb5 C4 d0 d1 d2
              cases m
              · have HT3 : Hid (fwd (xs.drop (j + 1)) (acc ++ [⟨gn, gi, gm⟩]) = FX) := HT2.out
                have HOA : Hid ((w5.alloc (.cells #[.string gn, .string gi, .string gm] 43)).ownsRow w3.heap.size 43 3 (.slice sa j sc) j (gcs acc)) := by
                  have := L5.out
                  unfold Lg at this
                  rw [HLM.out] at this
                  exact this.alloc _
                have B5A : Hid (Below w3.heap.size w3 (w5.alloc (.cells #[.string gn, .string gi, .string gm] 43))) := B53.out.alloc B53.out.size _
                go_wp2_with (at_builtin; refine wpList_append_own _ rfl (.tmp 73) (.tmp 75) 23 rfl w3.heap.size 43 i0 (.agg #[.string ⟨#[]⟩, .string ⟨#[]⟩, .string ⟨#[]⟩]) 3 48 Tryz.underlying23 HI.out.1 HI.out.2.1 HI.out.2.2.1 HI.out.2.2.2 rfl (by decide) (.slice sa j sc) j _ rfl HOA.out ⟨w5.heap.size, 0, none⟩ 1 1 [.string gn, .string gi, .string gm] rfl rfl (new_three _ _ _ _ _) (one_three _ _ _) (by unfold maxLen; omega) (by omega) B5A.out.size ?_; intro v6 w6 hown6 hgr6 hnn6; have HO6 : Hid (w6.ownsRow w3.heap.size 43 3 v6 (j + 1) (gcs acc ++ [.string gn, .string gi, .string gm])) := hown6; have B6 : Hid (Below w3.heap.size w3 w6) := B5A.out.grown hgr6 B5A.out.size (fun j hj => (HOA.out.lt _ hj).1); clear hown6 hgr6 hnn6)
                go_roundw
                case rel =>
                  obtain ⟨a6, c6, hv6⟩ : ∃ a6 c6, v6 = .slice a6 (j + 1) c6 := by
                    rcases HO6.out.2 with ⟨rfl, h0⟩ | ⟨g, cap, cur, rfl, _⟩
                    · omega
                    · exact ⟨_, cap, rfl⟩
                  refine ⟨j + 1, a6, c6, acc ++ [⟨gn, gi, gm⟩], by omega, by go_num, hv6, by rw [List.length_append, HLM.out]; rfl, ?_, B6.out, HT3.out⟩
                  rw [← hv6]
                  unfold Lg
                  rw [List.length_append, HLM.out, gcs_app]
                  exact HO6.out
                case measure => simp [intOf]; omega
              · have HT3 : Hid (FX = none) := by show _ = _; rw [← HT2.out]; rfl
                have HF : Hid (Q = none) := by show _ = _; rw [HE2.out, HT3.out]
                go_wp2
                go_ret3
                exact ⟨by rw [HF.out]; rfl, B5w.out⟩
          · have hlt' : ¬ (j : Int) < n := by omega
            have HT0 : Hid (FX = some acc) := by
              show _ = _
              rw [← HK.out.2.2.2, List.drop_of_length_le (by rw [HN.out]; omega)]
              rfl
            have HF : Hid (Q = some (P, acc)) := by show _ = _; rw [HE2.out, HT0.out]
            go_wp2
            go_ret3
            refine ⟨?_, BK.out⟩
            rw [HF.out]
            refine ⟨sa, sc, by rw [HLM.out]; rfl, ?_⟩
            rw [HLM.out]
            exact own_base LK.out B3.out.size
      · have HF : Hid (Q = none) := by show _ = _; rw [HE.out, if_neg hok]
        rw [HF.out]
        rw [HN.out] at C3'
        have hcs : b = false ∨ (b = true ∧ n = 0) ∨ (b = true ∧ n ≠ 0 ∧ ¬ n ≤ 16) := by
          cases b
          · exact .inl rfl
          · right
            by_cases e : n = 0
            · exact .inl ⟨rfl, e⟩
            · exact .inr ⟨rfl, e, fun h => hok ⟨rfl, e, h⟩⟩
        clear hok HE HF
        rcases hcs with rfl | ⟨rfl, hn0⟩ | ⟨rfl, hn0, hn16⟩
        · go_enter Tryz.func12, Tryz.ntmps12
          go_wp2_with fail
          refine C1.out.mono ?_
          rintro e w1 ⟨rfl, hb1⟩
          have B1 : Hid (Below w.heap.size w w1) := hb1
          clear hb1
          go_wp2_with fail
          refine (C2.out _).mono ?_
          rintro e w2 ⟨rfl, hb2⟩
          have B2 : Hid (Below w.heap.size w w2) := B1.out.trans (hb2.mono B1.out.size)
          clear hb2
          go_wp2_with fail
          refine (C3'.out _).mono ?_
          rintro e w3 ⟨⟨la, lc, rfl, hrd⟩, hb3⟩
          have B3 : Hid (Below w.heap.size w w3) := B2.out.trans (hb3.mono B2.out.size)
          clear hb3 hrd
          go_wp2
          go_ret3
          exact ⟨rfl, B3.out⟩
        · subst hn0
          go_enter Tryz.func12, Tryz.ntmps12
          go_wp2_with fail
          refine C1.out.mono ?_
          rintro e w1 ⟨rfl, hb1⟩
          have B1 : Hid (Below w.heap.size w w1) := hb1
          clear hb1
          go_wp2_with fail
          refine (C2.out _).mono ?_
          rintro e w2 ⟨rfl, hb2⟩
          have B2 : Hid (Below w.heap.size w w2) := B1.out.trans (hb2.mono B1.out.size)
          clear hb2
          go_wp2_with fail
          refine (C3'.out _).mono ?_
          rintro e w3 ⟨⟨la, lc, rfl, hrd⟩, hb3⟩
          have B3 : Hid (Below w.heap.size w w3) := B2.out.trans (hb3.mono B2.out.size)
          clear hb3 hrd
          go_wp2
          go_ret3
          exact ⟨rfl, B3.out⟩
        · have q1 : ((n : Int) == 0) = false := beq_eq_false_iff_ne.2 (by omega)
          have q1' : ¬ (n : Int) = 0 := by omega
          have q2 : decide ((n : Int) > 16) = true := decide_eq_true (by omega)
          have q2' : (n : Int) > 16 := by omega
          clear hn0 hn16
          go_enter Tryz.func12, Tryz.ntmps12
          go_wp2_with fail
          refine C1.out.mono ?_
          rintro e w1 ⟨rfl, hb1⟩
          have B1 : Hid (Below w.heap.size w w1) := hb1
          clear hb1
          go_wp2_with fail
          refine (C2.out _).mono ?_
          rintro e w2 ⟨rfl, hb2⟩
          have B2 : Hid (Below w.heap.size w w2) := B1.out.trans (hb2.mono B1.out.size)
          clear hb2
          go_wp2_with fail
          refine (C3'.out _).mono ?_
          rintro e w3 ⟨⟨la, lc, rfl, hrd⟩, hb3⟩
          have B3 : Hid (Below w.heap.size w w3) := B2.out.trans (hb3.mono B2.out.size)
          clear hb3 hrd
          go_wp2
          go_ret3
          exact ⟨rfl, B3.out⟩
end Go.Proofs.YthdkbjbhjfiaiaaGreatDoor.t4

namespace Go.Proofs.YthdkbjbhjfiaiaaGreatDoor.q6
open Go.RowKit Go.Shelf Go.PlainAid
open Go.Proofs.YthdkbjbhjfiaiaaGreatDoor.tb Go.Proofs.YthdkbjbhjfiaiaaGreatDoor.tc Go.Proofs.YthdkbjbhjfiaiaaGreatDoor.tj Go.Proofs.YthdkbjbhjfiaiaaGreatDoor.o1 Go.Proofs.YthdkbjbhjfiaiaaGreatDoor.sh
set_option linter.unusedVariables false
attribute [local go_sem] Oper.semAt_some
set_option maxRecDepth 100000 in
set_option maxHeartbeats 4000000 in
theorem read_big (note : ByteArray) (hs : 65536 < note.size) (hz : note.size ≤ 281474976710656) (w : World) :
    CallsIn Fence.wide 3 Tryz.prog 19 #[.string note] w fun e W' => e = .returned (.tuple #[.string ByteArray.empty, .slice none 0 0, .int .i64 121]) ∧ Below w.heap.size w W' := by
  have t1 : (note.size : Int) > 65536 := by omega
  refine callsIn_of_wp_marks Tryz.func19 rfl trivial ?_ rfl
  simp only [Tryz.ntmps19, List.size_toArray, List.length_cons, List.length_nil, Nat.reduceAdd, Nat.reduceSub, Array.replicate_succ, Array.replicate_zero, List.push_toArray, List.append_toArray, List.nil_append, List.cons_append]
  gi_wp2
  have hB : Below w.heap.size w ((((w.alloc (.cells #[.string note] 9)).alloc (.cells #[.string ⟨#[]⟩] 9)).alloc (.cells #[.slice none 0 0] 23)).alloc (.cells #[.int .i64 121] 33)) := (((((Below.refl _ w).alloc (Nat.le_refl _) _).alloc (by simp) _).alloc (by simp; omega) _).alloc (by simp; omega) _)
  have e1 : ((((w.alloc (.cells #[.string note] 9)).alloc (.cells #[.string ⟨#[]⟩] 9)).alloc (.cells #[.slice none 0 0] 23)).alloc (.cells #[.int .i64 121] 33)).cell? ⟨w.heap.size + 1, 0, none⟩ = some (.string ⟨#[]⟩) := by
    rw [show w.heap.size + 1 = (w.alloc (.cells #[.string note] 9)).heap.size by simp]; exact (((Boxed.new _ 9 (.string ⟨#[]⟩)).alloc _).alloc _).cell
  have e2 : ((((w.alloc (.cells #[.string note] 9)).alloc (.cells #[.string ⟨#[]⟩] 9)).alloc (.cells #[.slice none 0 0] 23)).alloc (.cells #[.int .i64 121] 33)).cell? ⟨w.heap.size + 1 + 1, 0, none⟩ = some (.slice none 0 0) := by
    rw [show w.heap.size + 1 + 1 = ((w.alloc (.cells #[.string note] 9)).alloc (.cells #[.string ⟨#[]⟩] 9)).heap.size by simp]; exact ((Boxed.new _ 23 (.slice none 0 0)).alloc _).cell
  have e3 : ((((w.alloc (.cells #[.string note] 9)).alloc (.cells #[.string ⟨#[]⟩] 9)).alloc (.cells #[.slice none 0 0] 23)).alloc (.cells #[.int .i64 121] 33)).cell? ⟨w.heap.size + 1 + 1 + 1, 0, none⟩ = some (.int .i64 121) := by
    rw [show w.heap.size + 1 + 1 + 1 = (((w.alloc (.cells #[.string note] 9)).alloc (.cells #[.string ⟨#[]⟩] 9)).alloc (.cells #[.slice none 0 0] 23)).heap.size by simp]; exact (Boxed.new _ 33 (.int .i64 121)).cell
  refine ⟨.tuple #[.string ⟨#[]⟩, .slice none 0 0, .int .i64 121], ?_, rfl, hB⟩
  simp [results, Tryz.f19, go_sem, e1, e2, e3]
end Go.Proofs.YthdkbjbhjfiaiaaGreatDoor.q6

namespace Go.Proofs.YthdkbjbhjfiaiaaGreatDoor.r1
open Go.RowKit Go.PlainAid Go.Shelf
open Go.Proofs.YthdkbjbhjfiaiaaGreatDoor.pj Go.Proofs.YthdkbjbhjfiaiaaGreatDoor.rf Go.Proofs.YthdkbjbhjfiaiaaGreatDoor.mo Go.Proofs.YthdkbjbhjfiaiaaGreatDoor.nd Go.Proofs.YthdkbjbhjfiaiaaGreatDoor.nh Go.Proofs.YthdkbjbhjfiaiaaGreatDoor.tb Go.Proofs.YthdkbjbhjfiaiaaGreatDoor.tc Go.Proofs.YthdkbjbhjfiaiaaGreatDoor.tj Go.Proofs.YthdkbjbhjfiaiaaGreatDoor.n1 Go.Proofs.YthdkbjbhjfiaiaaGreatDoor.n3 Go.Proofs.YthdkbjbhjfiaiaaGreatDoor.n4 Go.Proofs.YthdkbjbhjfiaiaaGreatDoor.o1 Go.Proofs.YthdkbjbhjfiaiaaGreatDoor.o3 Go.Proofs.YthdkbjbhjfiaiaaGreatDoor.o4 Go.Proofs.YthdkbjbhjfiaiaaGreatDoor.o5 Go.Proofs.YthdkbjbhjfiaiaaGreatDoor.o6 Go.Proofs.YthdkbjbhjfiaiaaGreatDoor.kp Go.Proofs.YthdkbjbhjfiaiaaGreatDoor.q1 Go.Proofs.YthdkbjbhjfiaiaaGreatDoor.q2 Go.Proofs.YthdkbjbhjfiaiaaGreatDoor.q3 Go.Proofs.YthdkbjbhjfiaiaaGreatDoor.q5 Go.Proofs.YthdkbjbhjfiaiaaGreatDoor.q6
set_option linter.unusedVariables false
set_option maxRecDepth 4000

theorem rdE_len : ∀ (xs : List El) (acc : List Sg) (p : Nat) (r : List Sg), acc.length ≤ 16 → rdE xs acc = some (p, r) → r.length ≤ 16
  | [], _, _, _, _, h => by cases h
  | x :: xs, acc, p, r, ha, h => by
    rw [rdE] at h
    split at h
    · injection h with h; injection h with _ h2; rw [← h2]; exact ha
    · split at h
      · cases h
      · rename_i g _
        split at h
        · cases h
        · rename_i hb
          exact rdE_len xs (acc ++ [g]) p r (by rw [List.length_append]; have : acc.length ≠ 16 := fun e => hb (.inl e); simp; omega) h
theorem readB_size {note : ByteArray} {RL : List ByteArray} {body : ByteArray} {sigs : List Sg} (h : readB note RL = some (body, sigs)) : sigs.length ≤ 16 ∧ body.size ≤ note.size := by
  unfold readB at h
  split at h
  · cases h
  · rename_i p acc hr
    split at h
    · injection h with h; injection h with h1 h2
      rw [← h1, ← h2, List.length_reverse]
      exact ⟨rdE_len _ [] p acc (by simp) hr, by rw [ByteArray.size_extract]; omega⟩
    · cases h
theorem read_121 (note : ByteArray) (hs : 65536 < note.size) (hz : note.size ≤ 281474976710656) (w : World) :
    Calls Tryz.prog 19 #[.string note] w fun e W' => e = .returned (.tuple #[.string ByteArray.empty, .slice none 0 0, .int .i64 121]) ∧ Below w.heap.size w W' := (callsIn_wide (n := 3)).1 (read_big note hs hz w)
theorem read_200 (note : ByteArray) (hs : note.size ≤ 65536) (RL : List ByteArray) (hG : Gives note RL) (hn : readB note RL = none) (w : World) :
    Calls Tryz.prog 19 #[.string note] w fun e W' => e = .returned (.tuple #[.string ByteArray.empty, .slice none 0 0, .int .i64 200]) ∧ Below w.heap.size w W' := by
  refine ((callsIn_wide (n := 3)).1 (read_in 3 (by omega) note hs RL hG w)).mono ?_
  rintro e W' ⟨h1 | ⟨b, s, v, h1, _⟩, hb⟩
  · exact ⟨h1.2, hb⟩
  · rw [hn] at h1; cases h1
theorem read_ok (note : ByteArray) (hs : note.size ≤ 65536) (RL : List ByteArray) (hG : Gives note RL) (body : ByteArray) (sigs : List Sg) (hn : readB note RL = some (body, sigs)) (w : World) :
    Calls Tryz.prog 19 #[.string note] w fun e W' => ∃ a c, e = .returned (.tuple #[.string body, .slice a sigs.length c, .int .i64 0]) ∧ ReadsG W' (.slice a sigs.length c) sigs ∧ Below w.heap.size w W' := by
  refine ((callsIn_wide (n := 3)).1 (read_in 3 (by omega) note hs RL hG w)).mono ?_
  rintro e W' ⟨h1 | ⟨b, s, v, h1, h2, h3⟩, hb⟩
  · rw [hn] at h1; cases h1.1
  · rw [hn] at h1
    injection h1 with h1; injection h1 with e1 e2
    subst e1 e2
    obtain ⟨a, c, hv, hr⟩ := h3
    exact ⟨a, c, by rw [h2, hv], ⟨a, c, rfl, hr⟩, hb⟩
-- what Add answers
noncomputable def addB (note : ByteArray) (RL : List ByteArray) (kn ks : ByteArray) : ByteArray × Int :=
  if nm kn = true then (if 65536 < note.size then (ByteArray.empty, 121) else match readB note RL with
    | none => (ByteArray.empty, 200)
    | some (body, sigs) => if amg sigs ⟨kn, kidF kn ks, ByteArray.empty⟩ = true then (note, 0) else if sigs.length = 16 then (ByteArray.empty, 83) else if 65536 < note.size + (lineOf (sigOf (kn, ks) body)).size then (ByteArray.empty, 121) else (note ++ lineOf (sigOf (kn, ks) body), 0))
  else (ByteArray.empty, 203)
def addV (r : ByteArray × Int) : Value := .tuple #[.string r.1, .int .i64 r.2]
end Go.Proofs.YthdkbjbhjfiaiaaGreatDoor.r1

namespace Go.Proofs.YthdkbjbhjfiaiaaGreatDoor.t5
open Go.RowKit Go.PlainAid
open Go.Proofs.YthdkbjbhjfiaiaaGreatDoor.mo Go.Proofs.YthdkbjbhjfiaiaaGreatDoor.nh Go.Proofs.YthdkbjbhjfiaiaaGreatDoor.tb Go.Proofs.YthdkbjbhjfiaiaaGreatDoor.tc Go.Proofs.YthdkbjbhjfiaiaaGreatDoor.tj Go.Proofs.YthdkbjbhjfiaiaaGreatDoor.n3 Go.Proofs.YthdkbjbhjfiaiaaGreatDoor.n4 Go.Proofs.YthdkbjbhjfiaiaaGreatDoor.o1 Go.Proofs.YthdkbjbhjfiaiaaGreatDoor.o3 Go.Proofs.YthdkbjbhjfiaiaaGreatDoor.o9 Go.Proofs.YthdkbjbhjfiaiaaGreatDoor.q1 Go.Proofs.YthdkbjbhjfiaiaaGreatDoor.q2 Go.Proofs.YthdkbjbhjfiaiaaGreatDoor.q3 Go.Proofs.YthdkbjbhjfiaiaaGreatDoor.q5 Go.Proofs.YthdkbjbhjfiaiaaGreatDoor.r1 Go.Proofs.YthdkbjbhjfiaiaaGreatDoor.s1 Go.Proofs.YthdkbjbhjfiaiaaGreatDoor.s2 Go.Proofs.YthdkbjbhjfiaiaaGreatDoor.s3 Go.Proofs.YthdkbjbhjfiaiaaGreatDoor.t3
set_option linter.unusedVariables false
set_option maxRecDepth 4000

theorem nm_size {s : ByteArray} (h : nm s = true) : s.size ≤ 64 := by
  unfold nm at h
  simp only [Bool.and_eq_true, decide_eq_true_eq] at h
  exact h.1.2
theorem one_at (s : ByteArray) (i : Nat) (h : i < s.size) (x : UInt8) (hb : bt s i = x.toNat) : s.extract i (i + 1) = ⟨#[x]⟩ := by
  apply bs_inj
  rw [bs_extract s i (i + 1) (by omega) (by omega), List.take_succ_eq_append_getElem (by rw [bs_length]; exact h), List.drop_append_of_le_length (by rw [List.length_take, bs_length]; omega), List.drop_of_length_le (by rw [List.length_take, bs_length]; omega), List.nil_append, bs_get s i h, hb]
  have e : bs (⟨#[x]⟩ : ByteArray) = [bt (⟨#[x]⟩ : ByteArray) 0] := rfl
  rw [e, ← get_bt (⟨#[x]⟩ : ByteArray) 0 (by show 0 < 1; omega)]
  rfl
theorem cut_at (s : ByteArray) (i : Nat) (h : i < s.size) (x : UInt8) (hb : bt s i = x.toNat) : s = s.extract 0 i ++ ⟨#[x]⟩ ++ s.extract (i + 1) s.size := by
  rw [← one_at s i h x hb, ← ByteArray.extract_eq_extract_append_extract (a := s) (i := 0) (k := i + 1) i (by omega) (by omega), ← ByteArray.extract_eq_extract_append_extract (a := s) (i := 0) (k := s.size) (i + 1) (by omega) (by omega), ByteArray.extract_zero_size]
structure Fine (g : Sg) : Prop where
  id : g.id.size = 4
  mac : g.mac.size = 32
  nm : nm g.name = true
-- a line that is a signature is the one that the signature is written as
theorem sig_back {l : ByteArray} {g : Sg} (h : sigP l = some g) : lineOf g = l ++ nlB ∧ Fine g := by
  unfold sigP at h
  split at h
  · rename_i ho
    have h4 := opn_size l ho
    have er : rst l = l.extract 4 l.size := by unfold rst; rw [ho]; rfl
    have el : l = DS ++ rst l := by
      rw [er, ← of_decide_eq_true ho, ← ByteArray.extract_eq_extract_append_extract (a := l) (i := 0) (k := l.size) 4 (by omega) (by omega), ByteArray.extract_zero_size]
    generalize rst l = r at *
    split at h
    · cases h
    · rename_i i hi
      obtain ⟨_, hlt, hb, _⟩ := ix_inv r r.size 0 i hi
      have ec := cut_at r i (by omega) 32 hb
      unfold sgOf at h
      split at h
      · rename_i hc
        obtain ⟨hn, ha, h36⟩ := hc
        obtain rfl := Option.some.inj h
        obtain ⟨b1, b2⟩ := b64_back _ (bs_in _) ha
        generalize hcc : r.extract (i + 1) r.size = cc at *
        generalize hnn : r.extract 0 i = nn at *
        have hz : (str (cutL (bs cc))).size = 36 := by rw [str_size, h36]
        have ej : (str (cutL (bs cc))).extract 0 4 ++ (str (cutL (bs cc))).extract 4 36 = str (cutL (bs cc)) := by
          rw [← ByteArray.extract_eq_extract_append_extract (a := str (cutL (bs cc))) (i := 0) (k := 36) 4 (by omega) (by omega), ← hz, ByteArray.extract_zero_size]
        refine ⟨?_, ?_, ?_, hn⟩
        · unfold lineOf
          simp only
          rw [ej, bs_str _ b2, b1, str_bs]
          conv => rhs; rw [el, ec]
          unfold dash DS nlB
          simp only [ByteArray.append_assoc]
        · show ((str (cutL (bs cc))).extract 0 4).size = 4
          rw [ByteArray.size_extract]; omega
        · show ((str (cutL (bs cc))).extract 4 36).size = 32
          rw [ByteArray.size_extract]; omega
      · cases h
  · cases h
theorem lines_back : ∀ (ls : List ByteArray) (gs : List Sg), ls.map sigP = gs.map some → flN ls = flatB (gs.map lineOf) ∧ ∀ g ∈ gs, Fine g
  | [], gs, h => by
    have : gs = [] := by cases gs with | nil => rfl | cons _ _ => cases h
    subst this
    exact ⟨rfl, fun g hg => by cases hg⟩
  | l :: ls, gs, h => by
    cases gs with
    | nil => cases h
    | cons g gs =>
      simp only [List.map_cons, List.cons.injEq] at h
      obtain ⟨h1, h2⟩ := sig_back h.1
      obtain ⟨h3, h4⟩ := lines_back ls gs h.2
      refine ⟨?_, fun x hx => ?_⟩
      · rw [flN, List.map_cons, flatB, h1, h3]
      · rcases List.mem_cons.1 hx with rfl | hx
        · exact h2
        · exact h4 x hx
-- a note that is read is the one that its text and signatures are written as
theorem note_back (note : ByteArray) (RL : List ByteArray) (hG : Gives note RL) (body : ByteArray) (gs : List Sg) (h : readB note RL = some (body, gs)) : note = noteOf body gs ∧ ∀ g ∈ gs, Fine g := by
  rcases hG with ⟨hn, h10⟩ | ⟨he, rfl⟩
  · rcases rl_split RL with hno | ⟨pre, post, rfl, hp⟩
    · rw [readB_no note RL hno] at h; cases h
    · obtain ⟨e1, e2⟩ := readB_split pre post hp note hn
      rw [e2] at h
      split at h
      · cases hf : fwd pre.reverse [] with
        | none => rw [hf] at h; cases h
        | some gs' =>
          rw [hf] at h
          simp only at h
          split at h
          · obtain ⟨rfl, rfl⟩ := Prod.mk.inj (Option.some.inj h)
            obtain ⟨gs'', h1, h2, _⟩ := fwd_of _ [] gs' hf List.Pairwise.nil
            rw [List.nil_append] at h1
            subst h1
            obtain ⟨h3, h4⟩ := lines_back _ _ h2
            refine ⟨?_, h4⟩
            unfold noteOf
            rw [← h3]
            exact e1
          · cases h
      · cases h
  · cases h
theorem amg_id (gs : List Sg) (g g' : Sg) (h1 : g.name = g'.name) (h2 : g.id = g'.id) : amg gs g = amg gs g' := amg_eq gs gs g g' rfl h1 h2
end Go.Proofs.YthdkbjbhjfiaiaaGreatDoor.t5

namespace Go.Proofs.YthdkbjbhjfiaiaaGreatDoor.t6
open Go.RowKit Go.PlainAid Go.Shelf
open Go.Proofs.YthdkbjbhjfiaiaaGreatDoor.pl Go.Proofs.YthdkbjbhjfiaiaaGreatDoor.ft Go.Proofs.YthdkbjbhjfiaiaaGreatDoor.pj Go.Proofs.YthdkbjbhjfiaiaaGreatDoor.rf Go.Proofs.YthdkbjbhjfiaiaaGreatDoor.mo Go.Proofs.YthdkbjbhjfiaiaaGreatDoor.nd Go.Proofs.YthdkbjbhjfiaiaaGreatDoor.nh Go.Proofs.YthdkbjbhjfiaiaaGreatDoor.tb Go.Proofs.YthdkbjbhjfiaiaaGreatDoor.tc Go.Proofs.YthdkbjbhjfiaiaaGreatDoor.tj Go.Proofs.YthdkbjbhjfiaiaaGreatDoor.n1 Go.Proofs.YthdkbjbhjfiaiaaGreatDoor.n3 Go.Proofs.YthdkbjbhjfiaiaaGreatDoor.n4 Go.Proofs.YthdkbjbhjfiaiaaGreatDoor.o1 Go.Proofs.YthdkbjbhjfiaiaaGreatDoor.o3 Go.Proofs.YthdkbjbhjfiaiaaGreatDoor.o4 Go.Proofs.YthdkbjbhjfiaiaaGreatDoor.o5 Go.Proofs.YthdkbjbhjfiaiaaGreatDoor.o6 Go.Proofs.YthdkbjbhjfiaiaaGreatDoor.o9 Go.Proofs.YthdkbjbhjfiaiaaGreatDoor.kp Go.Proofs.YthdkbjbhjfiaiaaGreatDoor.q1 Go.Proofs.YthdkbjbhjfiaiaaGreatDoor.q2 Go.Proofs.YthdkbjbhjfiaiaaGreatDoor.q3 Go.Proofs.YthdkbjbhjfiaiaaGreatDoor.q5 Go.Proofs.YthdkbjbhjfiaiaaGreatDoor.r1 Go.Proofs.YthdkbjbhjfiaiaaGreatDoor.t3 Go.Proofs.YthdkbjbhjfiaiaaGreatDoor.t4 Go.Proofs.YthdkbjbhjfiaiaaGreatDoor.t5
set_option linter.unusedVariables false
set_option maxRecDepth 4000

theorem readD_no (note : ByteArray) (hs : note.size ≤ 65536) (h : rdD note = none) (w : World) :
    Calls Tryz.prog 12 #[.string note] w fun e w' => e = .returned (.tuple #[.string ByteArray.empty, .slice none 0 0, .int .i64 200]) ∧ Below w.heap.size w w' := by
  have := readD note hs w
  rw [h] at this
  exact this
theorem readD_ok (note : ByteArray) (hs : note.size ≤ 65536) (body : ByteArray) (gs : List Sg) (h : rdD note = some (body, gs)) (w : World) :
    Calls Tryz.prog 12 #[.string note] w fun e w' => ∃ a c, e = .returned (.tuple #[.string body, .slice a gs.length c, .int .i64 0]) ∧ Lg w.heap.size (.slice a gs.length c) gs w' ∧ Below w.heap.size w w' := by
  have := readD note hs w
  rw [h] at this
  refine this.mono ?_
  rintro e w' ⟨⟨a, c, h1, h2⟩, hb⟩
  exact ⟨a, c, h1, h2, hb⟩
end Go.Proofs.YthdkbjbhjfiaiaaGreatDoor.t6

namespace Go.Proofs.YthdkbjbhjfiaiaaGreatDoor.p2
open Go.RowKit Go.PlainAid Go.Shelf
open Go.Proofs.YthdkbjbhjfiaiaaGreatDoor.ft Go.Proofs.YthdkbjbhjfiaiaaGreatDoor.pj Go.Proofs.YthdkbjbhjfiaiaaGreatDoor.rf Go.Proofs.YthdkbjbhjfiaiaaGreatDoor.mo Go.Proofs.YthdkbjbhjfiaiaaGreatDoor.nd Go.Proofs.YthdkbjbhjfiaiaaGreatDoor.nh Go.Proofs.YthdkbjbhjfiaiaaGreatDoor.tb Go.Proofs.YthdkbjbhjfiaiaaGreatDoor.tc Go.Proofs.YthdkbjbhjfiaiaaGreatDoor.tj Go.Proofs.YthdkbjbhjfiaiaaGreatDoor.n1 Go.Proofs.YthdkbjbhjfiaiaaGreatDoor.n3 Go.Proofs.YthdkbjbhjfiaiaaGreatDoor.n4 Go.Proofs.YthdkbjbhjfiaiaaGreatDoor.o1 Go.Proofs.YthdkbjbhjfiaiaaGreatDoor.o3 Go.Proofs.YthdkbjbhjfiaiaaGreatDoor.o4 Go.Proofs.YthdkbjbhjfiaiaaGreatDoor.o5 Go.Proofs.YthdkbjbhjfiaiaaGreatDoor.o6 Go.Proofs.YthdkbjbhjfiaiaaGreatDoor.o7 Go.Proofs.YthdkbjbhjfiaiaaGreatDoor.o8 Go.Proofs.YthdkbjbhjfiaiaaGreatDoor.o9 Go.Proofs.YthdkbjbhjfiaiaaGreatDoor.p1 Go.Proofs.YthdkbjbhjfiaiaaGreatDoor.kp
set_option linter.unusedVariables false
set_option maxRecDepth 4000

-- rows of keys of one's own
def kc (k : Ky) : List Value := [.string k.1, .string k.2]
def kcs (l : List Ky) : List Value := l.flatMap kc
theorem kcs_app (l l' : List Ky) : kcs (l ++ l') = kcs l ++ kcs l' := by simp [kcs]
theorem kcs_len (l : List Ky) : (kcs l).length = l.length * 2 := by
  induction l with
  | nil => rfl
  | cons p l ih => simp only [kcs, List.flatMap_cons, List.length_append, List.length_cons] at ih ⊢; rw [ih]; simp [kc]; omega
theorem kcs_at (l : List Ky) (j : Nat) (p : Ky) (h : l[j]? = some p) : (kcs l)[j * 2]? = some (.string p.1) ∧ (kcs l)[j * 2 + 1]? = some (.string p.2) := by
  induction l generalizing j with
  | nil => simp at h
  | cons q l ih =>
    cases j with
    | zero =>
      simp at h
      subst h
      exact ⟨rfl, rfl⟩
    | succ j =>
      have := ih j (by simpa using h)
      have e1 : (j + 1) * 2 = j * 2 + 2 := by omega
      rw [e1]
      exact this
theorem kcs_one (l : List Ky) : ∀ u ∈ kcs l, u.oneCell' = true := by
  intro u hu
  unfold kcs at hu
  obtain ⟨k, _, hk⟩ := List.mem_flatMap.1 hu
  simp only [kc, List.mem_cons, List.not_mem_nil, or_false] at hk
  rcases hk with rfl | rfl <;> rfl
theorem kcs_cells {w : World} {b off : Nat} {l : List Ky} (h : ∀ i st, l[i]? = some st → w.cell? ⟨b, off + i * 2, none⟩ = some (.string st.1) ∧ w.cell? ⟨b, off + i * 2 + 1, none⟩ = some (.string st.2)) :
    ∀ j u, (kcs l)[j]? = some u → w.cell? ((⟨b, off, none⟩ : Addr).add j) = some u := by
  intro j u hj
  have hjl : j < l.length * 2 := by have := (List.getElem?_eq_some_iff.1 hj).1; rw [kcs_len] at this; exact this
  obtain ⟨i, hi⟩ : ∃ i, j = i * 2 ∨ j = i * 2 + 1 := ⟨j / 2, by omega⟩
  have hil : i < l.length := by omega
  obtain ⟨k1, k2⟩ := kcs_at l i l[i] (List.getElem?_eq_getElem hil)
  obtain ⟨h1, h2⟩ := h i l[i] (List.getElem?_eq_getElem hil)
  rw [Addr.add_mid]
  rcases hi with rfl | rfl
  · rw [k1] at hj; rw [h1]; exact hj
  · rw [k2] at hj; rw [← Nat.add_assoc, h2]; exact hj
abbrev Lk (B : Nat) (v : Value) (r : List Ky) (w : World) : Prop := w.ownsRow B 49 2 v r.length (kcs r)
theorem Lk.cells {B g cap n : Nat} {r : List Ky} {w : World} (o : Lk B (.slice (some ⟨g, 0, none⟩) n cap) r w) : n = r.length ∧ r.length ≤ cap ∧ g < w.heap.size ∧ B ≤ g ∧ (∀ j, w.frozen? ⟨g, j, none⟩ = false) ∧ ∀ i p, r[i]? = some p → w.cell? ⟨g, i * 2, none⟩ = some (.string p.1) ∧ w.cell? ⟨g, i * 2 + 1, none⟩ = some (.string p.2) := by
  rcases o.2 with ⟨h, _⟩ | ⟨g', cap', cur, e, h2, h3, h4, h5, h6, h7⟩
  · cases h
  · injection e with e1 e2 e3
    injection e1 with e4
    injection e4 with e5
    subst e5 e3
    refine ⟨e2, h4, (Array.getElem?_eq_some_iff.1 h3).1, h2, fun j => frozen_of_row _ _ _ _ _ h3, fun i p hi => ?_⟩
    have hl := (List.getElem?_eq_some_iff.1 hi).1
    obtain ⟨s1, s2⟩ := kcs_at r i p hi
    rw [← h7, List.getElem?_take_of_lt (by omega)] at s1 s2
    refine ⟨?_, ?_⟩
    · rw [cell_of_row _ _ _ _ _ _ h3]; simpa using s1
    · rw [cell_of_row _ _ _ _ _ _ h3]; simpa using s2
def behind : ByteArray := ⟨#[98, 101, 104, 105, 110, 100]⟩
def another : ByteArray := ⟨#[97, 110, 111, 116, 104, 101, 114]⟩
theorem new_two (W : World) (a b : Value) (t : TypeId) : ∀ (j : Nat) (u : Value), [a, b][j]? = some u → (W.alloc (.cells #[a, b] t)).cell? (Addr.add ⟨W.heap.size, 0, none⟩ j) = some u := by
  intro j y h
  have hb : (W.alloc (.cells #[a, b] t)).heap[W.heap.size]? = some (.cells #[a, b] t (0, 0)) := heap_alloc_new W _
  have e : (Addr.add ⟨W.heap.size, 0, none⟩ j) = ⟨W.heap.size, j, none⟩ := by simp [Addr.add]; omega
  rw [e, cell_of_row _ _ j _ _ _ hb]
  simpa using h
theorem one_two (a b : ByteArray) : ∀ u ∈ [Value.string a, .string b], u.oneCell' = true := by
  intro u hu; simp only [List.mem_cons, List.not_mem_nil, or_false] at hu; rcases hu with rfl | rfl <;> rfl
end Go.Proofs.YthdkbjbhjfiaiaaGreatDoor.p2

namespace Go.Proofs.YthdkbjbhjfiaiaaGreatDoor.p3
open Go.RowKit Go.PlainAid Go.Shelf
open Go.Proofs.YthdkbjbhjfiaiaaGreatDoor.pl Go.Proofs.YthdkbjbhjfiaiaaGreatDoor.ft Go.Proofs.YthdkbjbhjfiaiaaGreatDoor.pj Go.Proofs.YthdkbjbhjfiaiaaGreatDoor.rf Go.Proofs.YthdkbjbhjfiaiaaGreatDoor.mo Go.Proofs.YthdkbjbhjfiaiaaGreatDoor.nd Go.Proofs.YthdkbjbhjfiaiaaGreatDoor.nh Go.Proofs.YthdkbjbhjfiaiaaGreatDoor.n1 Go.Proofs.YthdkbjbhjfiaiaaGreatDoor.n3 Go.Proofs.YthdkbjbhjfiaiaaGreatDoor.n4 Go.Proofs.YthdkbjbhjfiaiaaGreatDoor.o1 Go.Proofs.YthdkbjbhjfiaiaaGreatDoor.o3 Go.Proofs.YthdkbjbhjfiaiaaGreatDoor.o4 Go.Proofs.YthdkbjbhjfiaiaaGreatDoor.o5 Go.Proofs.YthdkbjbhjfiaiaaGreatDoor.o6 Go.Proofs.YthdkbjbhjfiaiaaGreatDoor.o7 Go.Proofs.YthdkbjbhjfiaiaaGreatDoor.o8 Go.Proofs.YthdkbjbhjfiaiaaGreatDoor.o9 Go.Proofs.YthdkbjbhjfiaiaaGreatDoor.p1 Go.Proofs.YthdkbjbhjfiaiaaGreatDoor.p2 Go.Proofs.YthdkbjbhjfiaiaaGreatDoor.kp
set_option linter.unusedVariables false
set_option maxRecDepth 4000

-- a row of keys at a place
def At (w : World) (g : Nat) (r : List Ky) : Prop := g < w.heap.size ∧ ∀ i p, r[i]? = some p → w.cell? ⟨g, i * 2, none⟩ = some (.string p.1) ∧ w.cell? ⟨g, i * 2 + 1, none⟩ = some (.string p.2)
theorem At.later {w w' : World} {g : Nat} {r : List Ky} (h : At w g r) (b : Below w.heap.size w w') : At w' g r :=
  ⟨Nat.lt_of_lt_of_le h.1 b.size, fun i p hi => ⟨(b.cell (p := ⟨g, i * 2, none⟩) h.1).trans (h.2 i p hi).1, (b.cell (p := ⟨g, i * 2 + 1, none⟩) h.1).trans (h.2 i p hi).2⟩⟩
theorem At.reads {w : World} {g cap : Nat} {r s : List Ky} (h : At w g (r ++ s)) (hc : r.length ≤ cap) : ReadsY w (.slice (some ⟨g, 0, none⟩) r.length cap) r := by
  refine ⟨_, cap, rfl, hc, (fun e => by cases e), .inr ⟨g, 0, rfl, fun i p hi => ?_⟩⟩
  have hl := (List.getElem?_eq_some_iff.1 hi).1
  rw [Nat.zero_add]
  exact h.2 i p (by rw [List.getElem?_append_left hl]; exact hi)
theorem sign_form (body : ByteArray) (ks : List Ky) : ∃ s n, signV body ks = .tuple #[.string s, .int .i64 n] := ⟨_, _, rfl⟩
theorem at_of {B g cap n : Nat} {r : List Ky} {w : World} (o : Lk B (.slice (some ⟨g, 0, none⟩) n cap) r w) : At w g r := ⟨o.cells.2.2.1, o.cells.2.2.2.2.2⟩
theorem at_set {w : World} {g : Nat} {k : Ky} {r : List Ky} (h : At w g (k :: r)) (x : ByteArray) : At (w.setCell ⟨g, 0, none⟩ (.string x)) g ((x, k.2) :: r) := by
  refine ⟨by simpa [World.setCell] using h.1, fun i p hi => ?_⟩
  cases i with
  | zero =>
    simp at hi
    subst hi
    have h0 := h.2 0 k rfl
    exact ⟨World.cell?_setCell_same _ _ _ h0.1, (World.cell?_setCell_other _ _ _ _ (by intro e; injection e with _ e2 _; omega)).trans h0.2⟩
  | succ i =>
    have h0 := h.2 (i + 1) p (by simpa using hi)
    exact ⟨(World.cell?_setCell_other _ _ _ _ (by intro e; injection e with _ e2 _; omega)).trans h0.1, (World.cell?_setCell_other _ _ _ _ (by intro e; injection e with _ e2 _; omega)).trans h0.2⟩
end Go.Proofs.YthdkbjbhjfiaiaaGreatDoor.p3

namespace Go.Proofs.YthdkbjbhjfiaiaaGreatDoor.v1
open Go.RowKit Go.PlainAid Go.Shelf
open Go.Proofs.YthdkbjbhjfiaiaaGreatDoor.o5 Go.Proofs.YthdkbjbhjfiaiaaGreatDoor.o6 Go.Proofs.YthdkbjbhjfiaiaaGreatDoor.sm
set_option linter.unusedVariables false
set_option maxRecDepth 4000

def ones (m n : Nat) : List Value := List.replicate m (.int .i64 (-1)) ++ List.replicate (n - m) (.int .i64 0)
theorem ones_len {m n : Nat} (h : m ≤ n) : (ones m n).length = n := by simp [ones]; omega
theorem ones_step {m n c : Nat} (h : m + c ≤ n) : (ones m n).take m ++ List.replicate c (.int .i64 (-1)) ++ (ones m n).drop (m + c) = ones (m + c) n := by
  unfold ones
  rw [List.take_left' (by simp), List.drop_append, List.drop_replicate, List.drop_replicate, List.length_replicate, List.replicate_append_replicate, show m - (m + c) = 0 by omega, show n - m - (m + c - m) = n - (m + c) by omega]
  rfl
theorem ones_at {m n j : Nat} (h : j < m) : (ones m n)[j]? = some (.int .i64 (-1)) := by
  unfold ones
  rw [List.getElem?_append_left (by simpa using h), List.getElem?_replicate, if_pos h]
theorem made_rowI (n : Nat) : madeCells (Value.int .i64 0).cells n = (ones 0 n).toArray := by
  apply Array.ext
  · simp [size_madeCells, ones]
  · intro i h1 h2
    simp [madeCells, ones, Value.cells, Nat.mod_one]
theorem info3 : (Tryz.prog.info? 3).map (fun i => (i.zero, i.size, i.bytes)) = some (some (.int .i64 0), 1, 8) := by kernel_rfl
theorem make_rowI (n : Nat) (hn : n * 8 ≤ 281474976710656) (w : World) :
    (Instr.makeSlice 59 (.int .i64 n) (.int .i64 n)).run Tryz.prog w = .ok (.slice (some ⟨w.heap.size, 0, none⟩) n n) (w.alloc (.cells (ones 0 n).toArray 3)) := by
  obtain ⟨i, hi, hz0, hz1, hz2⟩ := info_parts info3
  have h := run_make (P := Tryz.prog) w 59 3 i (.int .i64 0) Tryz.underlying59 hi hz0 .i64 .i64 (n : Int) (n : Int) (by omega) (by omega) (by rw [hz2]; omega) (by omega)
  rw [hz1] at h
  simp only [Int.toNat_natCast, Nat.mul_one] at h
  rw [made_rowI] at h
  exact h
theorem infoI : (Tryz.prog.info? 3).map (·.size) = some 1 := by kernel_rfl
set_option maxHeartbeats 1600000 in
theorem repeatC (n b : Nat) (h1 : 1 ≤ n) (hn : n ≤ 1000) (w : World) (hc : w.cell? ⟨b, 0, none⟩ = some (.int .i64 (-1))) :
    Calls Tryz.prog 46 #[.slice (some ⟨b, 0, none⟩) 1 1, .int .i64 n] w fun e w' => e = .returned (.slice (some ⟨w.heap.size, 0, none⟩) n n) ∧ w'.heap[w.heap.size]? = some (.cells (ones n n).toArray 3 (0, 0)) ∧ Below w.heap.size w w' := by
  have CM : Hid (∀ w, Calls _ _ _ _ _) := fun w => Any.bits_Mul lays212 1 n (by omega) (by omega) w
  have e1 : ((1 * n / 18446744073709551616 : Nat) : Int) = 0 := by omega
  have e2 : ((1 * n % 18446744073709551616 : Nat) : Int) = n := by omega
  rw [e1, e2] at CM
  clear e1 e2
  have hbw := World.block_lt_of_cell? _ _ hc
  simp only at hbw
  go_enter Tryz.func46, Tryz.ntmps46
  go_wp2_with fail
  refine (CM.out _).mono ?_
  rintro e w1 ⟨rfl, hw1⟩
  rw [hw1]
  clear hw1 w1
  have hmk := make_rowI n (by omega) w
  obtain ⟨W, HW⟩ : ∃ W, Hid (w.alloc (.cells (ones 0 n).toArray 3) = W) := ⟨_, rfl⟩
  rw [HW.out] at hmk
  have HBK : Hid (W.heap[w.heap.size]? = some (.cells (ones 0 n).toArray 3 (0, 0))) := by rw [← HW.out]; exact heap_alloc_new w _
  have BW : Hid (Below w.heap.size w W) := by rw [← HW.out]; exact (Below.refl _ _).alloc (Nat.le_refl _) _
  have hcW : W.cell? ⟨b, 0, none⟩ = some (.int .i64 (-1)) := (BW.out.cell (p := ⟨b, 0, none⟩) hbw).trans hc
  have hcp : (Builtin.copy_ #[59, 59] 3 #[.slice (some ⟨w.heap.size, 0, none⟩) n n, .slice (some ⟨b, 0, none⟩) 1 1]).run Tryz.prog W = .ok (goInt 1) (W.setRow w.heap.size (ones 1 n).toArray) := by
    have := run_copy_row (P := Tryz.prog) W 59 59 3 3 w.heap.size 0 n n ⟨b, 0, none⟩ 1 1 (ones 0 n).toArray 3 [.int .i64 (-1)] Tryz.underlying59 infoI HBK.out (by simp [Nat.min_def]; omega) (fun j v hj => by
      cases j with
      | zero => simp at hj; rw [← hj]; exact hcW
      | succ j => simp at hj) (by simp [ones_len (Nat.zero_le n)]; omega) (fun v hv => by simp at hv; rw [hv]; rfl)
    have hs := ones_step (m := 0) (n := n) (c := 1) (by omega)
    simp only [List.replicate_one, Nat.zero_add] at hs
    simp only [List.length_singleton, Nat.zero_add] at this
    rw [hs] at this
    exact this
  obtain ⟨V, HV⟩ : ∃ V, Hid (W.setRow w.heap.size (ones 1 n).toArray = V) := ⟨_, rfl⟩
  rw [HV.out] at hcp
  have HBV : Hid (V.heap[w.heap.size]? = some (.cells (ones 1 n).toArray 3 (0, 0))) := by rw [← HV.out]; exact setRow_heap _ _ _ _ _ _ HBK.out
  have BV : Hid (Below w.heap.size w V) := by rw [← HV.out]; exact below_setRow BW.out (Nat.le_refl _) _
  clear hcW HBK
  go_wp2_with (at_builtin; refine Lib.wpList_copy_run _ rfl _ _ 59 59 rfl _ _ rfl rfl hcp ?_)
  go_loopw [8] (fun i wr => ∃ m : Nat, 1 ≤ m ∧ m ≤ n ∧ i = .int .i64 m ∧ Hid (wr.heap[w.heap.size]? = some (.cells (ones m n).toArray 3 (0, 0)) ∧ Below w.heap.size w wr)) (fun i _ => (n - intOf i).toNat)
  case atStart => exact ⟨1, by omega, by omega, rfl, HBV.out, BV.out⟩
  case round =>
    obtain ⟨m, hm1, hmn, rfl, HK⟩ := hrel
    clear hmk hcp
    by_cases hlt : m < n
    · have hlt' : (m : Int) < n := by omega
      obtain ⟨c, HC⟩ : ∃ c, Hid (Nat.min m (n - m) = c) := ⟨_, rfl⟩
      have hc0 : min m (n - m) = c := HC.out
      have hc1 : 1 ≤ c := by omega
      have hc2 : m + c ≤ n := by omega
      have hc3 : c ≤ m := by omega
      clear hc0
      have hrun : (Builtin.copy_ #[59, 59] 3 #[.slice (some ⟨w.heap.size, m, none⟩) (n - m) (n - m), .slice (some ⟨w.heap.size, 0, none⟩) m n]).run Tryz.prog wr.drew = .ok (goInt c) (wr.drew.setRow w.heap.size (ones (m + c) n).toArray) := by
        have := run_copy_row (P := Tryz.prog) wr.drew 59 59 3 3 w.heap.size m (n - m) (n - m) ⟨w.heap.size, 0, none⟩ m n (ones m n).toArray 3 (List.replicate c (.int .i64 (-1))) Tryz.underlying59 infoI HK.out.1 (by rw [List.length_replicate, HC.out]) (fun j v hj => by
          rw [List.getElem?_replicate] at hj
          split at hj
          · rename_i hjc
            have hv : v = .int .i64 (-1) := (Option.some.inj hj).symm
            have hjm : j < m := by omega
            rw [hv, Addr.add_mid, Nat.zero_add]
            have := cell_of_row wr.drew w.heap.size j _ _ _ HK.out.1
            rw [this]
            simpa using ones_at (n := n) hjm
          · cases hj) (by simp [ones_len hmn]; omega) (fun v hv => by rw [(List.mem_replicate.1 hv).2]; rfl)
        rw [List.length_replicate] at this
        have hs := ones_step (m := m) (n := n) (c := c) hc2
        rw [hs] at this
        exact this
      have hw9 : IntKind.i64.wrap ((m : Int) + (c : Int)) = (m : Int) + c := by rw [IntKind.wrap_i64]; omega
      have hcn : ¬ n = m := by omega
      have s1 : (m : Int) ≤ n := by omega
      have s2 : ((n : Int) - m).toNat = n - m := by omega
      have HV2 : Hid ((wr.drew.setRow w.heap.size (ones (m + c) n).toArray).heap[w.heap.size]? = some (.cells (ones (m + c) n).toArray 3 (0, 0)) ∧ Below w.heap.size w (wr.drew.setRow w.heap.size (ones (m + c) n).toArray)) :=
        ⟨setRow_heap _ _ _ _ _ _ HK.out.1, below_setRow (below_dr HK.out.2) (Nat.le_refl _) _⟩
      go_wp2_with fail
      go_region
      all_goals (
        go_wp2
        go_roundw
        case rel => exact ⟨m + c, by omega, hc2, by go_num, HV2.out⟩
        case measure => simp [intOf]; omega)
    · have hlt' : ¬ (m : Int) < n := by omega
      have HE : Hid (m = n) := by show _ = _; omega
      have HK2 : Hid (wr.heap[w.heap.size]? = some (.cells (ones n n).toArray 3 (0, 0)) ∧ Below w.heap.size w wr) := by have := HK.out; rw [HE.out] at this; exact this
      clear HK HE
      go_wp2
      go_ret
      exact ⟨rfl, HK2.out.1, HK2.out.2⟩
end Go.Proofs.YthdkbjbhjfiaiaaGreatDoor.v1

namespace Go.Proofs.YthdkbjbhjfiaiaaGreatDoor.v2
open Go.RowKit Go.PlainAid
open Go.Proofs.YthdkbjbhjfiaiaaGreatDoor.nh Go.Proofs.YthdkbjbhjfiaiaaGreatDoor.tj Go.Proofs.YthdkbjbhjfiaiaaGreatDoor.n3 Go.Proofs.YthdkbjbhjfiaiaaGreatDoor.n4 Go.Proofs.YthdkbjbhjfiaiaaGreatDoor.o1 Go.Proofs.YthdkbjbhjfiaiaaGreatDoor.o4 Go.Proofs.YthdkbjbhjfiaiaaGreatDoor.s1 Go.Proofs.YthdkbjbhjfiaiaaGreatDoor.t5
set_option linter.unusedVariables false
set_option maxRecDepth 4000

-- which of the keys is the first of one key with a signature
def kg (k : Ky) (g : Sg) : Bool := one g ⟨k.1, kidF k.1 k.2, ByteArray.empty⟩
def ownF (g : Sg) : List Ky → Nat → Int
  | [], _ => -1
  | k :: ks, n => if kg k g = true then n else ownF g ks (n + 1)
theorem own_low (g : Sg) (l : List Ky) : ∀ n, ownF g l n = -1 ∨ 0 ≤ ownF g l n := by
  induction l with
  | nil => intro n; exact .inl rfl
  | cons k l ih =>
    intro n
    unfold ownF
    split
    · exact .inr (by omega)
    · exact ih (n + 1)
theorem own_snoc (g : Sg) (l : List Ky) (k : Ky) : ∀ n, ownF g (l ++ [k]) n = if 0 ≤ ownF g l n then ownF g l n else if kg k g = true then ((n + l.length : Nat) : Int) else -1 := by
  induction l with
  | nil =>
    intro n
    simp [ownF]
  | cons q l ih =>
    intro n
    rw [List.cons_append]
    unfold ownF
    by_cases h : kg q g = true
    · rw [if_pos h, if_pos h, if_pos (by omega)]
    · rw [if_neg h, if_neg h, ih (n + 1)]
      simp only [List.length_cons, show n + 1 + l.length = n + (l.length + 1) by omega]
theorem own_lt (g : Sg) (l : List Ky) : ∀ n : Nat, ownF g l n < (n + l.length : Nat) := by
  induction l with
  | nil => intro n; unfold ownF; omega
  | cons k l ih =>
    intro n
    unfold ownF
    split
    · simp; omega
    · have := ih (n + 1)
      simp at this ⊢; omega
def rowI (gs : List Sg) (ks : List Ky) : List Int := gs.map (fun g => ownF g ks 0)
theorem rowI_len (gs : List Sg) (ks : List Ky) : (rowI gs ks).length = gs.length := by simp [rowI]
-- what the first index tells
theorem ix_get (p : Sg → Bool) (l : List Sg) : ∀ n, (ixF p l n = -1 ∧ ∀ g ∈ l, p g = false) ∨ ∃ j, ∃ h : j < l.length, ixF p l n = ((n + j : Nat) : Int) ∧ p (l[j]'h) = true := by
  induction l with
  | nil => intro n; exact .inl ⟨rfl, fun g h => by cases h⟩
  | cons g l ih =>
    intro n
    unfold ixF
    by_cases h : p g = true
    · rw [if_pos h]
      exact .inr ⟨0, by simp, by simp, h⟩
    · rw [if_neg h]
      rcases ih (n + 1) with ⟨h1, h2⟩ | ⟨j, hj, h1, h2⟩
      · refine .inl ⟨h1, fun x hx => ?_⟩
        rcases List.mem_cons.1 hx with rfl | hx
        · simpa using h
        · exact h2 x hx
      · exact .inr ⟨j + 1, by simp; omega, by rw [h1]; congr 1; omega, by simpa using h2⟩
theorem eqB_true {a b : ByteArray} : eqB a b = true ↔ a = b := by unfold eqB; exact decide_eq_true_iff
theorem row_no (gs : List Sg) (ks : List Ky) (k : Ky) (h : ∀ g ∈ gs, kg k g = false) : rowI gs (ks ++ [k]) = rowI gs ks := by
  unfold rowI
  apply List.map_congr_left
  intro g hg
  rw [own_snoc, h g hg]
  rcases own_low g ks 0 with e | e
  · rw [e]; rfl
  · rw [if_pos e]
theorem row_name (gs : List Sg) (ks : List Ky) (k : Ky) (h : gs.any (fun a => eqB a.name k.1) = false) : rowI gs (ks ++ [k]) = rowI gs ks := by
  refine row_no gs ks k (fun g hg => ?_)
  have := (List.any_eq_false.1 h) g hg
  unfold kg one
  simp only [Bool.and_eq_false_iff]
  left
  simpa using this
theorem one_same {a b : Sg} {k : Ky} (h1 : kg k a = true) (h2 : kg k b = true) : one a b = true := by
  unfold kg one at h1 h2
  unfold one
  simp only [Bool.and_eq_true, eqB_true] at h1 h2 ⊢
  exact ⟨h1.1.trans h2.1.symm, h1.2.trans h2.2.symm⟩
theorem pw_one {gs : List Sg} (hp : Pw gs) {i j : Nat} (hi : i < gs.length) (hj : j < gs.length) (h : one (gs[i]'hi) (gs[j]'hj) = true) : i = j := by
  unfold Pw at hp
  rw [List.pairwise_iff_getElem] at hp
  rcases Nat.lt_trichotomy i j with c | c | c
  · rw [hp i j hi hj c] at h; cases h
  · exact c
  · rw [one_symm, hp j i hj hi c] at h; cases h
theorem row_yes (gs : List Sg) (hp : Pw gs) (ks : List Ky) (k : Ky) (j : Nat) (hj : j < gs.length) (h : kg k (gs[j]'hj) = true) :
    rowI gs (ks ++ [k]) = if 0 ≤ ownF (gs[j]'hj) ks 0 then rowI gs ks else (rowI gs ks).set j ks.length := by
  apply List.ext_getElem
  · split <;> simp [rowI]
  · intro i h1 h2
    have hi : i < gs.length := by simpa [rowI] using h1
    have e1 : (rowI gs (ks ++ [k]))[i]'h1 = ownF (gs[i]'hi) (ks ++ [k]) 0 := by simp [rowI]
    rw [e1, own_snoc]
    by_cases hij : i = j
    · subst hij
      rw [h]
      by_cases c : 0 ≤ ownF (gs[i]'hi) ks 0
      · simp [c, rowI]
      · simp [c]
    · have hk : kg k (gs[i]'hi) = false := by
        cases e : kg k (gs[i]'hi)
        · rfl
        · exact absurd (pw_one hp hi hj (one_same e h)) hij
      rw [hk]
      have e2 : (if 0 ≤ ownF (gs[i]'hi) ks 0 then ownF (gs[i]'hi) ks 0 else if false = true then ((0 + ks.length : Nat) : Int) else -1) = ownF (gs[i]'hi) ks 0 := by
        rcases own_low (gs[i]'hi) ks 0 with e | e
        · rw [e]; rfl
        · rw [if_pos e]
      rw [e2]
      by_cases c : 0 ≤ ownF (gs[j]'hj) ks 0
      · simp [c, rowI]
      · simp only [c, if_false]
        rw [List.getElem_set_ne (fun e => hij e.symm)]
        simp [rowI]
end Go.Proofs.YthdkbjbhjfiaiaaGreatDoor.v2

namespace Go.Proofs.YthdkbjbhjfiaiaaGreatDoor.v3
open Go.RowKit Go.PlainAid Go.Shelf
open Go.Proofs.YthdkbjbhjfiaiaaGreatDoor.pj Go.Proofs.YthdkbjbhjfiaiaaGreatDoor.mo Go.Proofs.YthdkbjbhjfiaiaaGreatDoor.nh Go.Proofs.YthdkbjbhjfiaiaaGreatDoor.tj Go.Proofs.YthdkbjbhjfiaiaaGreatDoor.n3 Go.Proofs.YthdkbjbhjfiaiaaGreatDoor.n4 Go.Proofs.YthdkbjbhjfiaiaaGreatDoor.o1 Go.Proofs.YthdkbjbhjfiaiaaGreatDoor.o4 Go.Proofs.YthdkbjbhjfiaiaaGreatDoor.o5 Go.Proofs.YthdkbjbhjfiaiaaGreatDoor.s1 Go.Proofs.YthdkbjbhjfiaiaaGreatDoor.t5 Go.Proofs.YthdkbjbhjfiaiaaGreatDoor.v1 Go.Proofs.YthdkbjbhjfiaiaaGreatDoor.v2
set_option linter.unusedVariables false
set_option maxRecDepth 4000

theorem eSig1 : ∀ args w, (callFunc 47 args).run Tryz.prog w = .ok (.enter 47 args) w := enters_of Tryz.func47 (by kernel_rfl) rfl
set_option maxHeartbeats 800000 in
theorem sig1C (g : Sg) (name : ByteArray) (bk : Nat) (W : World) (h1 : W.cell? ⟨bk, 0, none⟩ = some (.string name)) (r : Bool) (hr : Hid (eqB g.name name = r)) :
    Calls Tryz.prog 47 #[.agg #[.string g.name, .string g.id, .string g.mac], .pointer (some ⟨bk, 0, none⟩)] W fun e w' => e = .returned (.bool r) ∧ Below W.heap.size W w' := by
  obtain ⟨gn, gi, gm⟩ := g
  have hb1 := World.block_lt_of_cell? _ _ h1
  simp only at hb1
  have e1 := toList_eqB gn name
  have HX : Hid (eqB gn name = r) := hr
  generalize eqB gn name = x at *
  clear hr
  have HB : Hid (Below W.heap.size W (W.alloc (.cells #[.string gn, .string gi, .string gm] 43))) := (Below.refl _ _).alloc (Nat.le_refl _) _
  have k1 : (W.alloc (.cells #[.string gn, .string gi, .string gm] 43)).cell? ⟨bk, 0, none⟩ = some (.string name) := (World.cell?_alloc_lt _ _ _ hb1).trans h1
  go_enter Tryz.func47, Tryz.ntmps47
  go_wp2
  go_ret
  exact ⟨by rw [← HX.out]; rfl, HB.out⟩
def rw3 (l : List Int) : Array Value := (l.map (Value.int .i64)).toArray
theorem rw3_get (l : List Int) (j : Nat) : (rw3 l)[j]? = (l[j]?).map (Value.int .i64) := by simp [rw3]
theorem rw3_set (l : List Int) (j : Nat) (x : Int) : (rw3 l).setIfInBounds j (.int .i64 x) = rw3 (l.set j x) := by simp [rw3]
theorem ones_rw (gs : List Sg) : (ones gs.length gs.length).toArray = rw3 (rowI gs []) := by
  unfold ones rw3 rowI
  congr 1
  rw [Nat.sub_self, List.replicate_zero, List.append_nil, List.map_map]
  apply List.ext_getElem
  · simp
  · intro i h1 h2
    simp [ownF]
theorem heap_set1 {w : World} {b off : Nat} {l : List Int} {t : TypeId} {x : Int} (h : w.heap[b]? = some (.cells (rw3 l) t (0, 0))) : (w.setCell ⟨b, off, none⟩ (.int .i64 x)).heap[b]? = some (.cells (rw3 (l.set off x)) t (0, 0)) := by
  rw [← rw3_set]
  exact heap_setCell_same _ _ off _ _ (.int .i64 x) h
set_option maxHeartbeats 6400000 in
theorem signersC (gs : List Sg) (ks : List Ky) (sv kv : Value) (w : World) (hr : ReadsG w sv gs) (hk : ReadsY w kv ks) (h1 : 1 ≤ gs.length) (h16 : gs.length ≤ 16) (hz : ks.length ≤ 4398046511104) (hs : ∀ k ∈ ks, k.1.size ≤ 140737488351232 ∧ k.2.size ≤ 140737488351232) (hp : Pw gs) (T : Hid (Tab w)) :
    Calls Tryz.prog 20 #[sv, kv] w fun e w' => ∃ g, e = .returned (.slice (some ⟨g, 0, none⟩) gs.length gs.length) ∧ w.heap.size ≤ g ∧ w'.heap[g]? = some (.cells (rw3 (rowI gs ks)) 3 (0, 0)) ∧ Below w.heap.size w w' := by
  obtain ⟨sa, sc, rfl, hsc⟩ := id hr
  obtain ⟨ka, kcp, rfl, _⟩ := id hk
  have HR : Hid (ReadsG w (.slice sa gs.length sc) gs) := hr
  have HY : Hid (ReadsY w (.slice ka ks.length kcp) ks) := hk
  have HS : Hid _ := hs
  have HPW : Hid (Pw gs) := hp
  clear hr hk hs hp hsc
  obtain ⟨n, HN⟩ : ∃ n, Hid (gs.length = n) := ⟨_, rfl⟩
  obtain ⟨m, HM⟩ : ∃ m, Hid (ks.length = m) := ⟨_, rfl⟩
  have HR2 : Hid (ReadsG w (.slice sa n sc) gs) := by rw [← HN.out]; exact HR.out
  have HY2 : Hid (ReadsY w (.slice ka m kcp) ks) := by rw [← HM.out]; exact HY.out
  rw [HN.out] at h1 h16 ⊢
  rw [HM.out] at hz ⊢
  obtain ⟨W, HW⟩ : ∃ W, Hid (w.alloc (.cells #[.int .i64 (-1)] 3) = W) := ⟨_, rfl⟩
  have BW : Hid (Below w.heap.size w W) := by rw [← HW.out]; exact (Below.refl _ _).alloc (Nat.le_refl _) _
  have zW : W.heap.size = w.heap.size + 1 := by rw [← HW.out]; simp
  have hcW : W.cell? ⟨w.heap.size, 0, none⟩ = some (.int .i64 (-1)) := by rw [← HW.out, World.cell?_alloc_at _ _ _ _ rfl]; rfl
  have CR : Hid (Calls _ _ _ _ _) := repeatC n w.heap.size h1 (by omega) W hcW
  have HO : Hid ((ones n n).toArray = rw3 (rowI gs [])) := by rw [← HN.out]; exact ones_rw gs
  rw [HO.out, zW] at CR
  clear hcW HR HY
  go_enter Tryz.func20, Tryz.ntmps20
  go_wp2_with fail
  rw [HW.out]
  go_wp2_with fail
  refine CR.out.mono ?_
  rintro e w1 ⟨rfl, hrow1, hb1⟩
  obtain ⟨g, HG⟩ : ∃ g, Hid (w.heap.size + 1 = g) := ⟨_, rfl⟩
  rw [HG.out] at hrow1 hb1
  have hge : w.heap.size ≤ g := by rw [← HG.out]; omega
  have hgg : w.heap.size < g := by rw [← HG.out]; omega
  have B1 : Hid (Below w.heap.size w w1) := BW.out.trans (hb1.mono hge)
  have HROW1 : Hid (w1.heap[g]? = some (.cells (rw3 (rowI gs [])) 3 (0, 0))) := hrow1
  clear hrow1 hb1 CR
  rw [HG.out]
  go_wp2
  go_loopw [15] (fun i wr => ∃ k : Nat, k ≤ m ∧ i = .int .i64 k ∧ Hid (wr.heap[g]? = some (.cells (rw3 (rowI gs (ks.take k))) 3 (0, 0)) ∧ Below w.heap.size w wr)) (fun i _ => (m - intOf i).toNat)
  case atStart => exact ⟨0, by omega, rfl, HROW1.out, B1.out⟩
  case round =>
    obtain ⟨k, hk, rfl, HK⟩ := hrel
    by_cases hlt : k < m
    · have hlt' : (k : Int) < m := by omega
      have hkl : k < ks.length := by rw [HM.out]; exact hlt
      obtain ⟨y, HYY⟩ : ∃ y, Hid (ks[k]'hkl = y) := ⟨_, rfl⟩
      have HY3 : Hid (ReadsY wr (.slice ka ks.length kcp) ks) := by rw [HM.out]; exact HY2.out.later HK.out.2
      obtain ⟨b, off, ha, hbw, c1, c2⟩ := HY3.out.at k y (by rw [List.getElem?_eq_getElem hkl, HYY.out])
      subst ha
      have hzy := HS.out y (by rw [← HYY.out]; exact List.getElem_mem hkl)
      have HTK : Hid (ks.take (k + 1) = ks.take k ++ [y]) := by show _ = _; rw [o6.take_snoc ks k hkl, HYY.out]
      have HTL : Hid ((ks.take k).length = k) := by show _ = _; rw [List.length_take]; omega
      have HROW : Hid (wr.heap[g]? = some (.cells (rw3 (rowI gs (ks.take k))) 3 (0, 0))) := HK.out.1
      have HB : Hid (Below w.heap.size w wr) := HK.out.2
      have hgw : g < wr.heap.size := (Array.getElem?_eq_some_iff.1 HROW.out).1
      clear HYY HK HY3
      obtain ⟨kn, kx⟩ := y
      simp only at c1 c2 hzy
      have CI : Hid (∀ X, Tab X → Calls _ _ _ _ _) := fun X TX => keyID kn kx X hzy.1 hzy.2 TX
      obtain ⟨kid, HKI⟩ : ∃ kid, Hid (kidF kn kx = kid) := ⟨_, rfl⟩
      rw [HKI.out] at CI
      have CO : Hid (∀ X, Calls _ _ _ _ _) := fun X => ofKeyC kn kid X
      obtain ⟨U, HU⟩ : ∃ U, Hid (wr.alloc (.cells #[.string kn, .string kx] 49) = U) := ⟨_, rfl⟩
      have BU : Hid (Below wr.heap.size wr U) := by rw [← HU.out]; exact (Below.refl _ _).alloc (Nat.le_refl _) _
      have zU : U.heap.size = wr.heap.size + 1 := by rw [← HU.out]; simp
      have SU : Hid (∀ X, Below (wr.heap.size + 1) U X → X.cell? ⟨wr.heap.size, 0, none⟩ = some (.string kn) ∧ X.cell? ⟨wr.heap.size, 1, none⟩ = some (.string kx)) := by
        rw [← HU.out]; exact fun X h => ⟨by rw [h.cell (p := ⟨wr.heap.size, 0, none⟩) (Nat.lt_succ_self _), World.cell?_alloc_at _ _ _ _ rfl]; rfl, by rw [h.cell (p := ⟨wr.heap.size, 1, none⟩) (Nat.lt_succ_self _), World.cell?_alloc_at _ _ _ _ rfl]; rfl⟩
      have BWU : Hid (∀ X, Below (wr.heap.size + 1) U X → Below w.heap.size w X) := fun X h => HB.out.trans ((BU.out.trans (h.mono (by omega))).mono HB.out.size)
      have RWU : Hid (∀ X, Below (wr.heap.size + 1) U X → X.heap[g]? = some (.cells (rw3 (rowI gs (ks.take k))) 3 (0, 0))) := fun X h => (h.block g (by omega)).trans ((BU.out.block g hgw).trans HROW.out)
      have TU : Hid (∀ X, Below (wr.heap.size + 1) U X → Tab X) := fun X h => T.out.down (BWU.out X h)
      have GU : Hid (∀ X, Below (wr.heap.size + 1) U X → ReadsG X (.slice sa n sc) gs) := fun X h => HR2.out.later (BWU.out X h)
      have CC : Hid (Calls Tryz.prog 44 #[.slice sa n sc, .func (.func 47) #[] #[.pointer (some ⟨wr.heap.size, 0, none⟩)]] U fun e X' => e = .returned (.bool (gs.any (fun a => eqB a.name kn))) ∧ Below U.heap.size U X') := by
        refine containsG (.slice sa n sc) gs (fun a => eqB a.name kn) 47 #[.pointer (some ⟨wr.heap.size, 0, none⟩)] eSig1 U (GU.out U (Below.refl _ _)) (by rw [HN.out]; omega) (fun X x hb => ?_)
        refine (sig1C x kn wr.heap.size X (SU.out X (hb.mono (by omega))).1 _ rfl).mono ?_
        rintro e X' ⟨rfl, hb'⟩
        exact ⟨rfl, hb.trans (hb'.mono hb.size)⟩
      have CX : Hid (∀ X b1 b2, Below (wr.heap.size + 1) U X → X.cell? ⟨b1, 0, none⟩ = some (.string kn) → X.cell? ⟨b2, 0, none⟩ = some (.string kid) → Calls Tryz.prog 48 #[.slice sa n sc, .func (.func 74) #[] #[.pointer (some ⟨b1, 0, none⟩), .pointer (some ⟨b2, 0, none⟩)]] X fun e X' => e = .returned (.int .i64 (ixF (fun a => one a ⟨kn, kid, ByteArray.empty⟩) gs 0)) ∧ Below X.heap.size X X') := fun X b1 b2 hX q1 q2 => by
        refine indexG (.slice sa n sc) gs (fun a => one a ⟨kn, kid, ByteArray.empty⟩) 74 _ eOfKey1 X (GU.out X hX) (by rw [HN.out]; omega) (fun Y x hb => ?_)
        have k1 := (hb.cell (p := ⟨b1, 0, none⟩) (World.block_lt_of_cell? _ _ q1)).trans q1
        have k2 := (hb.cell (p := ⟨b2, 0, none⟩) (World.block_lt_of_cell? _ _ q2)).trans q2
        refine (ofKey1C x kn kid b1 b2 Y k1 k2 _ rfl).mono ?_
        rintro e w' ⟨rfl, hb'⟩
        exact ⟨rfl, hb.trans (hb'.mono hb.size)⟩
      have HYthdkbjbhjfiaiaaGreatDoor : Hid (gs.any (fun a => eqB a.name kn) = false → rowI gs (ks.take k ++ [(kn, kx)]) = rowI gs (ks.take k)) := fun h => row_name gs (ks.take k) (kn, kx) h
      have HIX := ix_get (fun a => one a ⟨kn, kid, ByteArray.empty⟩) gs 0
      have HIX2 : Hid (_ ∨ _) := HIX
      clear HIX
      obtain ⟨ix, HIXX⟩ : ∃ ix, Hid (ixF (fun a => one a ⟨kn, kid, ByteArray.empty⟩) gs 0 = ix) := ⟨_, rfl⟩
      rw [HIXX.out] at CX HIX2
      obtain ⟨nb, HNB⟩ : ∃ nb, Hid (gs.any (fun a => eqB a.name kn) = nb) := ⟨_, rfl⟩
      rw [HNB.out] at CC HYthdkbjbhjfiaiaaGreatDoor
      clear HIXX HNB
      cases nb
      · have HF : Hid (rowI gs (ks.take (k + 1)) = rowI gs (ks.take k)) := by show _ = _; rw [HTK.out]; exact HYthdkbjbhjfiaiaaGreatDoor.out rfl
        clear HYthdkbjbhjfiaiaaGreatDoor HIX2 CX CO CI
        go_wp2_with fail
        rw [HU.out]
        go_wp2_with fail
        refine CC.out.mono ?_
        rintro e w2 ⟨rfl, hb2⟩
        have B2 : Hid (Below (wr.heap.size + 1) U w2) := hb2.mono (by omega)
        clear hb2 CC
        go_wp2
        go_roundw
        case rel => exact ⟨k + 1, by omega, by go_num, by rw [HF.out]; exact RWU.out _ B2.out, BWU.out _ B2.out⟩
        case measure => simp [intOf]; omega
      · clear HYthdkbjbhjfiaiaaGreatDoor
        have KF : Hid (kidF (kn, kx).1 (kn, kx).2 = kid) := HKI.out
        rcases HIX2.out with ⟨hix, hno⟩ | ⟨j, hj, hix, hyes⟩
        · have HF : Hid (rowI gs (ks.take (k + 1)) = rowI gs (ks.take k)) := by
            show _ = _
            rw [HTK.out]
            exact row_no gs (ks.take k) (kn, kx) (fun x hx => by have := hno x hx; unfold kg; rw [KF.out]; exact this)
          have g1 : decide (ix ≥ 0) = false := decide_eq_false (by omega)
          have g1' : ¬ ix ≥ 0 := by omega
          clear hno HIX2 hix
          go_wp2_with fail
          rw [HU.out]
          go_wp2_with fail
          refine CC.out.mono ?_
          rintro e w2 ⟨rfl, hb2⟩
          have B2 : Hid (Below (wr.heap.size + 1) U w2) := hb2.mono (by omega)
          clear hb2 CC
          have B20 : Hid (Below (wr.heap.size + 1) U w2.drew) := below_dr B2.out
          go_wp2_with fail
          go_region_held_law (fun X => X.cell? ⟨wr.heap.size, 0, none⟩ = some (.string kn) ∧ X.cell? ⟨wr.heap.size, 1, none⟩ = some (.string kx)) (first | exact SU.out _ B20.out | exact SU.out _ B3.out | exact SU.out _ B4.out | exact SU.out _ B5.out) ((first | (go_at_call 49; refine (CI.out _ (TU.out _ B20.out)).mono ?_; rintro _ w3 ⟨rfl, k3⟩; have B3 : Hid (Below (wr.heap.size + 1) U w3) := (B20.out.trans (k3.mono (by have := B20.out.size; omega))); clear k3) | (go_at_call 45; refine (CO.out _).mono ?_; rintro _ w4 ⟨rfl, k4⟩; have b4 : Below w3.heap.size w3 w4 := (by rw [k4]; exact ((Below.refl _ _).alloc (Nat.le_refl _) _).alloc (by simp) _); have B4 : Hid (Below (wr.heap.size + 1) U w4) := (B3.out.trans (b4.mono (by have := B3.out.size; omega))); have E0 : Hid (w4.cell? ⟨w3.heap.size, 0, none⟩ = some (.string kn)) := (by rw [k4, World.cell?_alloc_lt _ _ _ (by simp), World.cell?_alloc_at _ _ _ _ rfl]; rfl); have E1 : Hid (w4.cell? ⟨w3.heap.size + 1, 0, none⟩ = some (.string kid)) := (by rw [k4, World.cell?_alloc_at _ _ _ _ (by simp)]; rfl); clear k4 b4) | (go_at_call 48; refine (CX.out _ _ _ B4.out E0.out E1.out).mono ?_; rintro _ w5 ⟨rfl, k5⟩; have B5 : Hid (Below (wr.heap.size + 1) U w5) := (B4.out.trans (k5.mono (by have := B4.out.size; omega))); clear k5)))
          all_goals (
            go_wp2
            go_roundw
            case rel => exact ⟨k + 1, by omega, by go_num, by rw [HF.out]; exact RWU.out _ B5.out, BWU.out _ B5.out⟩
            case measure => simp [intOf]; omega)
        · have hjn : j < n := by rw [← HN.out]; exact hj
          have hix2 : ix = (j : Int) := by rw [hix]; simp
          have HYS := row_yes gs HPW.out (ks.take k) (kn, kx) j hj (by unfold kg; rw [KF.out]; exact hyes)
          obtain ⟨ov, HOV⟩ : ∃ ov, Hid (ownF (gs[j]'hj) (ks.take k) 0 = ov) := ⟨_, rfl⟩
          rw [HOV.out, ← HTK.out, HTL.out] at HYS
          have HF : Hid _ := HYS
          have HCE : Hid (∀ X, Below (wr.heap.size + 1) U X → X.cell? ⟨g, j, none⟩ = some (.int .i64 ov)) := fun X h => by
            rw [cell_of_row _ _ j _ _ _ (RWU.out X h), rw3_get]
            unfold rowI
            rw [List.getElem?_map, List.getElem?_eq_getElem hj, Option.map_some, Option.map_some, HOV.out]
          subst hix2
          have g1 : decide ((j : Int) ≥ 0) = true := decide_eq_true (by omega)
          have g1' : (j : Int) ≥ 0 := by omega
          have g2 : (j : Int) < n := by omega
          clear hyes HIX2 hix HYS HOV
          by_cases hov : 0 ≤ ov
          · have HF2 : Hid (rowI gs (ks.take (k + 1)) = rowI gs (ks.take k)) := by show _ = _; rw [HF.out, if_pos hov]
            have g3 : decide (ov < 0) = false := decide_eq_false (by omega)
            have g3' : ¬ ov < 0 := by omega
            clear hov HF
            go_wp2_with fail
            rw [HU.out]
            go_wp2_with fail
            refine CC.out.mono ?_
            rintro e w2 ⟨rfl, hb2⟩
            have B2 : Hid (Below (wr.heap.size + 1) U w2) := hb2.mono (by omega)
            clear hb2 CC
            have B20 : Hid (Below (wr.heap.size + 1) U w2.drew) := below_dr B2.out
            go_wp2_with fail
            go_region_held_law (fun X => X.cell? ⟨wr.heap.size, 0, none⟩ = some (.string kn) ∧ X.cell? ⟨wr.heap.size, 1, none⟩ = some (.string kx)) (first | exact SU.out _ B20.out | exact SU.out _ B3.out | exact SU.out _ B4.out | exact SU.out _ B5.out) ((first | (go_at_call 49; refine (CI.out _ (TU.out _ B20.out)).mono ?_; rintro _ w3 ⟨rfl, k3⟩; have B3 : Hid (Below (wr.heap.size + 1) U w3) := (B20.out.trans (k3.mono (by have := B20.out.size; omega))); clear k3) | (go_at_call 45; refine (CO.out _).mono ?_; rintro _ w4 ⟨rfl, k4⟩; have b4 : Below w3.heap.size w3 w4 := (by rw [k4]; exact ((Below.refl _ _).alloc (Nat.le_refl _) _).alloc (by simp) _); have B4 : Hid (Below (wr.heap.size + 1) U w4) := (B3.out.trans (b4.mono (by have := B3.out.size; omega))); have E0 : Hid (w4.cell? ⟨w3.heap.size, 0, none⟩ = some (.string kn)) := (by rw [k4, World.cell?_alloc_lt _ _ _ (by simp), World.cell?_alloc_at _ _ _ _ rfl]; rfl); have E1 : Hid (w4.cell? ⟨w3.heap.size + 1, 0, none⟩ = some (.string kid)) := (by rw [k4, World.cell?_alloc_at _ _ _ _ (by simp)]; rfl); clear k4 b4) | (go_at_call 48; refine (CX.out _ _ _ B4.out E0.out E1.out).mono ?_; rintro _ w5 ⟨rfl, k5⟩; have B5 : Hid (Below (wr.heap.size + 1) U w5) := (B4.out.trans (k5.mono (by have := B4.out.size; omega))); have ce := HCE.out _ B5.out; clear k5)))
            all_goals (
              go_wp2
              go_roundw
              case rel => exact ⟨k + 1, by omega, by go_num, by rw [HF2.out]; exact RWU.out _ B5.out, BWU.out _ B5.out⟩
              case measure => simp [intOf]; omega)
          · have HF2 : Hid (rowI gs (ks.take (k + 1)) = (rowI gs (ks.take k)).set j k) := by show _ = _; rw [HF.out, if_neg hov]
            have g3 : decide (ov < 0) = true := decide_eq_true (by omega)
            have g3' : ov < 0 := by omega
            clear hov HF
            go_wp2_with fail
            rw [HU.out]
            go_wp2_with fail
            refine CC.out.mono ?_
            rintro e w2 ⟨rfl, hb2⟩
            have B2 : Hid (Below (wr.heap.size + 1) U w2) := hb2.mono (by omega)
            clear hb2 CC
            have B20 : Hid (Below (wr.heap.size + 1) U w2.drew) := below_dr B2.out
            go_wp2_with fail
            go_region_held_law (fun X => X.cell? ⟨wr.heap.size, 0, none⟩ = some (.string kn) ∧ X.cell? ⟨wr.heap.size, 1, none⟩ = some (.string kx)) (first | exact SU.out _ B20.out | exact SU.out _ B3.out | exact SU.out _ B4.out | exact SU.out _ B5.out) ((first | (go_at_call 49; refine (CI.out _ (TU.out _ B20.out)).mono ?_; rintro _ w3 ⟨rfl, k3⟩; have B3 : Hid (Below (wr.heap.size + 1) U w3) := (B20.out.trans (k3.mono (by have := B20.out.size; omega))); clear k3) | (go_at_call 45; refine (CO.out _).mono ?_; rintro _ w4 ⟨rfl, k4⟩; have b4 : Below w3.heap.size w3 w4 := (by rw [k4]; exact ((Below.refl _ _).alloc (Nat.le_refl _) _).alloc (by simp) _); have B4 : Hid (Below (wr.heap.size + 1) U w4) := (B3.out.trans (b4.mono (by have := B3.out.size; omega))); have E0 : Hid (w4.cell? ⟨w3.heap.size, 0, none⟩ = some (.string kn)) := (by rw [k4, World.cell?_alloc_lt _ _ _ (by simp), World.cell?_alloc_at _ _ _ _ rfl]; rfl); have E1 : Hid (w4.cell? ⟨w3.heap.size + 1, 0, none⟩ = some (.string kid)) := (by rw [k4, World.cell?_alloc_at _ _ _ _ (by simp)]; rfl); clear k4 b4) | (go_at_call 48; refine (CX.out _ _ _ B4.out E0.out E1.out).mono ?_; rintro _ w5 ⟨rfl, k5⟩; have B5 : Hid (Below (wr.heap.size + 1) U w5) := (B4.out.trans (k5.mono (by have := B4.out.size; omega))); have ce := HCE.out _ B5.out; have fz := frozen_of_row _ _ j _ _ (RWU.out _ B5.out); clear k5)))
            all_goals (
              have HFIN : Hid ((w5.setCell ⟨g, j, none⟩ (.int .i64 k)).heap[g]? = some (.cells (rw3 (rowI gs (ks.take (k + 1)))) 3 (0, 0)) ∧ Below w.heap.size w (w5.setCell ⟨g, j, none⟩ (.int .i64 k))) := ⟨by rw [HF2.out]; exact heap_set1 (RWU.out _ B5.out), Below.setCell (p := ⟨g, j, none⟩) (BWU.out _ B5.out) hge (.int .i64 k)⟩
              go_wp2
              go_roundw
              case rel => exact ⟨k + 1, by omega, by go_num, HFIN.out⟩
              case measure => simp [intOf]; omega)
    · have hlt' : ¬ (k : Int) < m := by omega
      have HE : Hid (wr.heap[g]? = some (.cells (rw3 (rowI gs ks)) 3 (0, 0)) ∧ Below w.heap.size w wr) := by
        have := HK.out
        rw [List.take_of_length_le (by rw [HM.out]; omega)] at this
        exact this
      clear HK
      go_wp2
      go_ret
      exact ⟨g, rfl, hge, HE.out.1, HE.out.2⟩
end Go.Proofs.YthdkbjbhjfiaiaaGreatDoor.v3

namespace Go.Proofs.YthdkbjbhjfiaiaaGreatDoor.v4
open Go.RowKit Go.PlainAid
open Go.Proofs.YthdkbjbhjfiaiaaGreatDoor.mo Go.Proofs.YthdkbjbhjfiaiaaGreatDoor.nh Go.Proofs.YthdkbjbhjfiaiaaGreatDoor.tj Go.Proofs.YthdkbjbhjfiaiaaGreatDoor.n3 Go.Proofs.YthdkbjbhjfiaiaaGreatDoor.n4 Go.Proofs.YthdkbjbhjfiaiaaGreatDoor.o1 Go.Proofs.YthdkbjbhjfiaiaaGreatDoor.o3 Go.Proofs.YthdkbjbhjfiaiaaGreatDoor.o4 Go.Proofs.YthdkbjbhjfiaiaaGreatDoor.q2 Go.Proofs.YthdkbjbhjfiaiaaGreatDoor.q5 Go.Proofs.YthdkbjbhjfiaiaaGreatDoor.r1 Go.Proofs.YthdkbjbhjfiaiaaGreatDoor.s1 Go.Proofs.YthdkbjbhjfiaiaaGreatDoor.s3 Go.Proofs.YthdkbjbhjfiaiaaGreatDoor.t5 Go.Proofs.YthdkbjbhjfiaiaaGreatDoor.v2
set_option linter.unusedVariables false
set_option maxRecDepth 4000

-- what Open answers
def sec (ks : List Ky) (g : Sg) : ByteArray := (ks.getD (ownF g ks 0).toNat (ByteArray.empty, ByteArray.empty)).2
noncomputable def opF (ks : List Ky) (body : ByteArray) : List Sg → List Sg × List Sg → Option (List Sg × List Sg)
  | [], s => some s
  | g :: gs, s => if ownF g ks 0 < 0 then opF ks body gs (s.1, s.2 ++ [g]) else if g.mac = macF (sec ks g) body then opF ks body gs (s.1 ++ [g], s.2) else none
theorem op_step (ks : List Ky) (body : ByteArray) (gs : List Sg) (k : Nat) (h : k < gs.length) (s : List Sg × List Sg) : opF ks body (gs.drop k) s = if ownF (gs[k]'h) ks 0 < 0 then opF ks body (gs.drop (k + 1)) (s.1, s.2 ++ [gs[k]'h]) else if (gs[k]'h).mac = macF (sec ks (gs[k]'h)) body then opF ks body (gs.drop (k + 1)) (s.1 ++ [gs[k]'h], s.2) else none := by
  rw [List.drop_eq_getElem_cons h, opF]
abbrev Opn := (ByteArray × List Sg × List Sg) × Int
def noO (e : Int) : Opn := ((ByteArray.empty, [], []), e)
noncomputable def opB (note : ByteArray) (RL : List ByteArray) (ks : List Ky) : Opn :=
  if 65536 < note.size then noO 121 else match readB note RL with
    | none => noO 200
    | some (body, gs) => match opF ks body gs ([], []) with
      | none => noO 201
      | some (go, re) => if go.length = 0 then noO 202 else ((body, go, re), 0)
-- what is in memory behind an Open
def OpQ (B0 : Nat) (w' : World) (r : Opn) (e : Ending) : Prop := ∃ ga gc ra rc, e = .returned (.tuple #[.agg #[.string r.1.1, .slice ga r.1.2.1.length gc, .slice ra r.1.2.2.length rc], .int .i64 r.2]) ∧ ReadsG w' (.slice ga r.1.2.1.length gc) r.1.2.1 ∧ ReadsG w' (.slice ra r.1.2.2.length rc) r.1.2.2 ∧ (∀ a, ga = some a → B0 ≤ a.block) ∧ ∀ a, ra = some a → B0 ≤ a.block
theorem opq_no (B0 : Nat) (w' : World) (E : Int) : OpQ B0 w' (noO E) (.returned (.tuple #[.agg #[.string ⟨#[]⟩, .slice none 0 0, .slice none 0 0], .int .i64 E])) := ⟨none, 0, none, 0, rfl, ⟨none, 0, rfl, .inl rfl⟩, ⟨none, 0, rfl, .inl rfl⟩, (fun a h => by cases h), (fun a h => by cases h)⟩
-- the signatures that are read
theorem read_pw (note : ByteArray) (RL : List ByteArray) (hG : Gives note RL) (body : ByteArray) (gs : List Sg) (h : readB note RL = some (body, gs)) : Pw gs ∧ gs.length ≠ 0 := by
  rcases hG with ⟨hn, h10⟩ | ⟨he, rfl⟩
  · rcases rl_split RL with hno | ⟨pre, post, rfl, hp⟩
    · rw [readB_no note RL hno] at h; cases h
    · obtain ⟨e1, e2⟩ := readB_split pre post hp note hn
      rw [e2] at h
      split at h
      · cases hf : fwd pre.reverse [] with
        | none => rw [hf] at h; cases h
        | some gs' =>
          rw [hf] at h
          simp only at h
          split at h
          · rename_i hc
            obtain ⟨rfl, rfl⟩ := Prod.mk.inj (Option.some.inj h)
            obtain ⟨gs'', h1, h2, h3⟩ := fwd_of _ [] gs' hf List.Pairwise.nil
            exact ⟨h3, hc.1⟩
          · cases h
      · cases h
  · cases h
-- two rows of signatures side by side, and the block that holds them
theorem own_same {w w' : World} {B t z n : Nat} {v : Value} {xs : List Value} (o : w.ownsRow B t z v n xs) (h : ∀ j, v.ownBlock = some j → w'.heap[j]? = w.heap[j]?) : w'.ownsRow B t z v n xs := by
  refine ⟨o.1, ?_⟩
  rcases o.2 with h2 | ⟨g', cap, cur', rfl, h2, h3, h4⟩
  · exact .inl h2
  · exact .inr ⟨g', cap, cur', rfl, h2, (h g' rfl).trans h3, h4⟩
theorem own_in {w : World} {B t z n j : Nat} {v : Value} {xs : List Value} (o : w.ownsRow B t z v n xs) (h : v.ownBlock = some j) : B ≤ j ∧ j < w.heap.size := by
  rcases o.2 with ⟨rfl, _⟩ | ⟨g', cap, cur', rfl, h2, h3, h4⟩
  · cases h
  · obtain rfl := Option.some.inj h
    exact ⟨h2, (Array.getElem?_eq_some_iff.1 h3).1⟩
theorem set_else {w : World} {b off j : Nat} {v : Value} (h : j ≠ b) : (w.setCell ⟨b, off, none⟩ v).heap[j]? = w.heap[j]? := by
  have h2 := (Below.refl j w)
  exact Below.heap_setCell _ _ _ _ (by simpa using h)
structure Two (B ob : Nat) (t : ByteArray) (go re : List Sg) (gv rv : Value) (w : World) : Prop where
  blk : w.heap[ob]? = some (.cells #[.string t, gv, rv] 25 (0, 0))
  lo : ob < B
  g : Lg B gv go w
  r : Lg B rv re w
  ap : ∀ b, gv.ownBlock = some b → rv.ownBlock ≠ some b
theorem Two.later {B ob : Nat} {t : ByteArray} {go re : List Sg} {gv rv : Value} {w w' : World} (h : Two B ob t go re gv rv w) (b : Below w.heap.size w w') : Two B ob t go re gv rv w' :=
  ⟨(b.block ob (Array.getElem?_eq_some_iff.1 h.blk).1).trans h.blk, h.lo, h.g.later b, h.r.later b, h.ap⟩
theorem Two.addG {B ob : Nat} {t : ByteArray} {go re : List Sg} {gv rv v : Value} {w w' : World} {x : Sg} (h : Two B ob t go re gv rv w) (hn : Lg B v (go ++ [x]) w') (hg : w.grownBy w' gv.ownBlock) (hv : v.ownBlock = gv.ownBlock ∨ v.ownBlock = some w.heap.size) : Two B ob t (go ++ [x]) re v rv (w'.setCell ⟨ob, 1, none⟩ v) := by
  have hob := (Array.getElem?_eq_some_iff.1 h.blk).1
  have hlo := h.lo
  have e0 : w'.heap[ob]? = some (.cells #[.string t, gv, rv] 25 (0, 0)) := (hg.block ob hob (fun e => by have := (own_in h.g e.symm).1; omega)).trans h.blk
  refine ⟨heap_setCell_same _ _ 1 _ _ v e0, h.lo, ?_, ?_, ?_⟩
  · exact own_same hn (fun j hj => set_else (fun e => by subst e; have := (own_in hn hj).1; omega))
  · refine own_same h.r (fun j hj => ?_)
    have hb := own_in h.r hj
    rw [set_else (fun e => by subst e; omega)]
    exact hg.block j hb.2 (fun e => h.ap j e.symm hj)
  · intro b hb hr
    rcases hv with e | e
    · exact h.ap b (by rw [← e]; exact hb) hr
    · rw [e] at hb
      have := (own_in h.r hr).2
      have := Option.some.inj hb
      omega
theorem Two.addR {B ob : Nat} {t : ByteArray} {go re : List Sg} {gv rv v : Value} {w w' : World} {x : Sg} (h : Two B ob t go re gv rv w) (hn : Lg B v (re ++ [x]) w') (hg : w.grownBy w' rv.ownBlock) (hv : v.ownBlock = rv.ownBlock ∨ v.ownBlock = some w.heap.size) : Two B ob t go (re ++ [x]) gv v (w'.setCell ⟨ob, 2, none⟩ v) := by
  have hob := (Array.getElem?_eq_some_iff.1 h.blk).1
  have hlo := h.lo
  have e0 : w'.heap[ob]? = some (.cells #[.string t, gv, rv] 25 (0, 0)) := (hg.block ob hob (fun e => by have := (own_in h.r e.symm).1; omega)).trans h.blk
  refine ⟨heap_setCell_same _ _ 2 _ _ v e0, h.lo, ?_, ?_, ?_⟩
  · refine own_same h.g (fun j hj => ?_)
    have hb := own_in h.g hj
    rw [set_else (fun e => by subst e; omega)]
    exact hg.block j hb.2 (fun e => h.ap j hj e.symm)
  · exact own_same hn (fun j hj => set_else (fun e => by subst e; have := (own_in hn hj).1; omega))
  · intro b hb hr
    rcases hv with e | e
    · exact h.ap b hb (by rw [← e]; exact hr)
    · rw [e] at hr
      have := (own_in h.g hb).2
      have := Option.some.inj hr
      omega
-- what stays: all below B but the block of the two rows
def Fr (B ob : Nat) (w w' : World) : Prop := ∀ b, b < B → b ≠ ob → w'.heap[b]? = w.heap[b]?
theorem Fr.refl (B ob : Nat) (w : World) : Fr B ob w w := fun b _ _ => rfl
theorem Fr.later {B ob : Nat} {w w' w'' : World} (h : Fr B ob w w') (b : Below w'.heap.size w' w'') (hB : B ≤ w'.heap.size) : Fr B ob w w'' := fun k h1 h2 => (b.block k (by omega)).trans (h k h1 h2)
theorem Fr.grow {B ob off : Nat} {w w' w'' : World} {v u : Value} {n : Nat} {xs : List Value} {t z : Nat} (h : Fr B ob w w') (hB : B ≤ w'.heap.size) (ho : w'.ownsRow B t z v n xs) (hg : w'.grownBy w'' v.ownBlock) : Fr B ob w (w''.setCell ⟨ob, off, none⟩ u) := fun k h1 h2 => by
  rw [set_else h2, hg.block k (by omega) (fun e => by have := (own_in ho e.symm).1; omega)]
  exact h k h1 h2
end Go.Proofs.YthdkbjbhjfiaiaaGreatDoor.v4
