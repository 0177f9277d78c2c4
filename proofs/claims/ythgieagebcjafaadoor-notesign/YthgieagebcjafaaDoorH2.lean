import Derived.Shelf.Strings.Builder1
import Derived.Shelf.Strings.BuilderF
import Derived.Shelf.Strings.BuilderK
import Derived.Shelf.Pu.Clone
import Derived.Test.YthgieagebcjafaaDoorProg
import Derived.Test.YthgieagebcjafaaDoorH1
import Derived.Test.YthgieagebcjafaaDoorRc
import Derived.Test.YthgieagebcjafaaDoorNa
import Derived.Laws.AppendOwnNone
import Derived.Deep.DeepCutAuto
namespace Go.Proofs.YthgieagebcjafaaDoor.sb
open Go.Shelf
set_option linter.unusedVariables false
set_option maxRecDepth 4000
def ren : Go.Shelf.Ren := ⟨fun | 166 => 41 | 240 => 72 | 276 => 95 | 169 => 45 | 167 => 42 | n => n, fun | 0 => 0 | 3 => 3 | 4 => 4 | 5 => 5 | 9 => 9 | 20 => 20 | 37 => 62 | 70 => 66 | 72 => 68 | 75 => 70 | 76 => 71 | 80 => 78 | 164 => 118 | 127 => 97 | n => n, fun | n => n⟩
theorem lays166 : Go.Proofs.Lays.n166 Tryd.prog ren := {
  mixed := by kernel_rfl
  f166 := Tryd.func41.trans (congrArg some (by kernel_rfl))
  f240 := Tryd.func72.trans (congrArg some (by kernel_rfl))
  f276 := Tryd.func95.trans (congrArg some (by kernel_rfl))
  t0 := Tryd.underlying0
  a0 := Tryd.isAgg0
  z0 := Tryd.sizeOf0
  v0 := Tryd.zeroValue0
  t3 := Tryd.underlying3
  a3 := Tryd.isAgg3
  z3 := Tryd.sizeOf3
  v3 := Tryd.zeroValue3
  t4 := Tryd.underlying4
  a4 := Tryd.isAgg4
  z4 := Tryd.sizeOf4
  v4 := Tryd.zeroValue4
  t9 := Tryd.underlying9
  a9 := Tryd.isAgg9
  z9 := Tryd.sizeOf9
  v9 := Tryd.zeroValue9
  t20 := Tryd.underlying20
  a20 := Tryd.isAgg20
  z20 := Tryd.sizeOf20
  v20 := Tryd.zeroValue20
  t37 := Tryd.underlying62
  a37 := Tryd.isAgg62
  z37 := Tryd.sizeOf62
  v37 := Tryd.zeroValue62
  t70 := Tryd.underlying66
  a70 := Tryd.isAgg66
  z70 := Tryd.sizeOf66
  v70 := Tryd.zeroValue66
  t72 := Tryd.underlying68
  a72 := Tryd.isAgg68
  z72 := Tryd.sizeOf68
  v72 := Tryd.zeroValue68
  t75 := Tryd.underlying70
  a75 := Tryd.isAgg70
  z75 := Tryd.sizeOf70
  v75 := Tryd.zeroValue70
  t164 := Tryd.underlying118
  a164 := Tryd.isAgg118
  z164 := Tryd.sizeOf118
  v164 := Tryd.zeroValue118 }
theorem lays167 : Go.Proofs.Lays.n167 Tryd.prog ren := {
  mixed := by kernel_rfl
  f167 := Tryd.func42.trans (congrArg some (by kernel_rfl))
  f240 := Tryd.func72.trans (congrArg some (by kernel_rfl))
  f276 := Tryd.func95.trans (congrArg some (by kernel_rfl))
  t0 := Tryd.underlying0
  a0 := Tryd.isAgg0
  z0 := Tryd.sizeOf0
  v0 := Tryd.zeroValue0
  t4 := Tryd.underlying4
  a4 := Tryd.isAgg4
  z4 := Tryd.sizeOf4
  v4 := Tryd.zeroValue4
  t5 := Tryd.underlying5
  a5 := Tryd.isAgg5
  z5 := Tryd.sizeOf5
  v5 := Tryd.zeroValue5
  t9 := Tryd.underlying9
  a9 := Tryd.isAgg9
  z9 := Tryd.sizeOf9
  v9 := Tryd.zeroValue9
  t20 := Tryd.underlying20
  a20 := Tryd.isAgg20
  z20 := Tryd.sizeOf20
  v20 := Tryd.zeroValue20
  t37 := Tryd.underlying62
  a37 := Tryd.isAgg62
  z37 := Tryd.sizeOf62
  v37 := Tryd.zeroValue62
  t70 := Tryd.underlying66
  a70 := Tryd.isAgg66
  z70 := Tryd.sizeOf66
  v70 := Tryd.zeroValue66
  t72 := Tryd.underlying68
  a72 := Tryd.isAgg68
  z72 := Tryd.sizeOf68
  v72 := Tryd.zeroValue68
  t75 := Tryd.underlying70
  a75 := Tryd.isAgg70
  z75 := Tryd.sizeOf70
  v75 := Tryd.zeroValue70
  t164 := Tryd.underlying118
  a164 := Tryd.isAgg118
  z164 := Tryd.sizeOf118
  v164 := Tryd.zeroValue118 }
theorem lays169 : Go.Proofs.Lays.n169 Tryd.prog ren := {
  mixed := by kernel_rfl
  f169 := Tryd.func45.trans (congrArg some (by kernel_rfl))
  t0 := Tryd.underlying0
  a0 := Tryd.isAgg0
  z0 := Tryd.sizeOf0
  v0 := Tryd.zeroValue0
  t3 := Tryd.underlying3
  a3 := Tryd.isAgg3
  z3 := Tryd.sizeOf3
  v3 := Tryd.zeroValue3
  t9 := Tryd.underlying9
  a9 := Tryd.isAgg9
  z9 := Tryd.sizeOf9
  v9 := Tryd.zeroValue9
  t37 := Tryd.underlying62
  a37 := Tryd.isAgg62
  z37 := Tryd.sizeOf62
  v37 := Tryd.zeroValue62
  t70 := Tryd.underlying66
  a70 := Tryd.isAgg66
  z70 := Tryd.sizeOf66
  v70 := Tryd.zeroValue66
  t72 := Tryd.underlying68
  a72 := Tryd.isAgg68
  z72 := Tryd.sizeOf68
  v72 := Tryd.zeroValue68
  t127 := Tryd.underlying97
  a127 := Tryd.isAgg97
  z127 := Tryd.sizeOf97
  v127 := Tryd.zeroValue97 }
theorem extra : Builder.Extra Tryd.prog ren := {
  sizeBuilder := by kernel_rfl
  liesBuilder := by kernel_rfl
  t5 := Tryd.underlying5
  a5 := Tryd.isAgg5
  z5 := Tryd.sizeOf5
  v5 := Tryd.zeroValue5
  infoByte := by kernel_rfl
  cellsByte := by kernel_rfl
  sizeByte := by kernel_rfl
  neB5 := by decide }
end Go.Proofs.YthgieagebcjafaaDoor.sb

namespace Go.Proofs.YthgieagebcjafaaDoor.o7
open Go.RowKit Go.PlainAid Go.Shelf
open Go.Proofs.YthgieagebcjafaaDoor.pj Go.Proofs.YthgieagebcjafaaDoor.rf Go.Proofs.YthgieagebcjafaaDoor.mo Go.Proofs.YthgieagebcjafaaDoor.nd Go.Proofs.YthgieagebcjafaaDoor.nh Go.Proofs.YthgieagebcjafaaDoor.tb Go.Proofs.YthgieagebcjafaaDoor.tc Go.Proofs.YthgieagebcjafaaDoor.tj Go.Proofs.YthgieagebcjafaaDoor.n1 Go.Proofs.YthgieagebcjafaaDoor.n3 Go.Proofs.YthgieagebcjafaaDoor.n4 Go.Proofs.YthgieagebcjafaaDoor.o1 Go.Proofs.YthgieagebcjafaaDoor.o3 Go.Proofs.YthgieagebcjafaaDoor.o4 Go.Proofs.YthgieagebcjafaaDoor.o5 Go.Proofs.YthgieagebcjafaaDoor.o6 Go.Proofs.YthgieagebcjafaaDoor.sb Go.Proofs.YthgieagebcjafaaDoor.kp
set_option linter.unusedVariables false
set_option maxRecDepth 4000

-- a builder that holds a text
def Bb (B b : Nat) (s : ByteArray) (w : World) : Prop := Lib.IsBuilder 68 5 B b (Lib.byteCells s.data.toList) w
theorem bat_below {T e : TypeId} {B b : Nat} {p : Value} {bs : List Value} {W W' : World} (h : Lib.BuilderAt T e B b p bs W) (hb : Below W.heap.size W W') : Lib.BuilderAt T e B b p bs W' := by
  obtain ⟨hB, v, hv, hown, hne⟩ := h
  exact ⟨hB, v, (hb.block b (Array.getElem?_eq_some_iff.1 hv).1).trans hv, own_kp hown (Kp.of_below (A := fun _ => False) hb) (fun _ _ e => e), hne⟩
theorem Bb.below {B b : Nat} {s : ByteArray} {W W' : World} (h : Bb B b s W) (hb : Below W.heap.size W W') : Bb B b s W' := h.elim (fun x => .inl (bat_below x hb)) (fun x => .inr (bat_below x hb))
theorem Bb.fresh (w : World) : Bb w.heap.size w.heap.size ByteArray.empty (w.alloc (.cells #[.pointer none, .slice none 0 0] 68)) := Lib.fresh_isBuilder 68 5 w
theorem data_len (s : ByteArray) : s.data.toList.length = s.size := Array.length_toList
theorem data_two (a b : ByteArray) : (a ++ b).data.toList = a.data.toList ++ b.data.toList := by rw [ByteArray.data_append, Array.toList_append]
theorem wsC (B b : Nat) (s t : ByteArray) (w : World) (h : Bb B b s w) (hlen : s.size + t.size ≤ 140737488355328) (hB : B ≤ w.heap.size) :
    Calls Tryd.prog 41 #[.pointer (some ⟨b, 0, none⟩), .string t] w fun e w' => e = .returned (.tuple #[.int .i64 t.size, .nilIface]) ∧ Bb B b (s ++ t) w' ∧ Below B w w' := by
  refine (Any.Builder_WriteString lays166 extra B b (Lib.byteCells s.data.toList) t w h (by rw [Lib.byteCells_length, data_len]; exact hlen) hB).mono ?_
  rintro e w' ⟨rfl, h1, h2⟩
  refine ⟨rfl, ?_, h2⟩
  unfold Bb
  rw [data_two, Lib.byteCells_append]
  exact .inr h1
theorem wbC (B b : Nat) (s : ByteArray) (w : World) (h : Bb B b s w) (hlen : s.size + 1 ≤ 140737488355328) (hB : B ≤ w.heap.size) :
    Calls Tryd.prog 42 #[.pointer (some ⟨b, 0, none⟩), .int .u8 10] w fun e w' => e = .returned .nilIface ∧ Bb B b (s ++ ⟨#[10]⟩) w' ∧ Below B w w' := by
  refine (Any.Builder_WriteByte lays167 extra B b (Lib.byteCells s.data.toList) 10 w h (by rw [Lib.byteCells_length, data_len]; exact hlen) hB).mono ?_
  rintro e w' ⟨rfl, h1, h2⟩
  refine ⟨rfl, ?_, h2⟩
  unfold Bb
  rw [data_two, Lib.byteCells_append]
  exact .inr h1
theorem sC (B b : Nat) (s : ByteArray) (w : World) (h : Bb B b s w) (hB : B ≤ w.heap.size) :
    Calls Tryd.prog 45 #[.pointer (some ⟨b, 0, none⟩)] w fun e w' => e = .returned (.string s) ∧ Below B w w' := by
  refine (Any.Builder_String_any lays169 extra B b s.data.toList w h hB).mono ?_
  rintro e w' ⟨rfl, h2⟩
  exact ⟨rfl, h2⟩
-- how long the note will be
def szL : List Ky → Nat
  | [] => 0
  | k :: l => k.1.size + 54 + szL l
theorem szL_app (a b : List Ky) : szL (a ++ b) = szL a + szL b := by
  induction a with
  | nil => simp [szL]
  | cons k a ih => simp only [List.cons_append, szL, ih]; omega
theorem szL_le (l : List Ky) (h : ∀ k ∈ l, k.1.size ≤ 140737488351232) : szL l ≤ l.length * 140737488351286 := by
  induction l with
  | nil => simp [szL]
  | cons k l ih =>
    have h1 := h k (by simp)
    have h2 := ih (fun x hx => h x (by simp [hx]))
    simp only [szL, List.length_cons]
    omega
theorem flat_size (l : List Ky) (body : ByteArray) : (flatB ((l.map (sigOf · body)).map lineOf)).size = szL l := by
  induction l with
  | nil => rfl
  | cons k l ih => simp only [List.map_cons, flatB, szL, ByteArray.size_append, ih, sig_line]
set_option maxHeartbeats 1600000 in
theorem noteSizeC (v : Value) (body : ByteArray) (ks : List Ky) (w : World) (hr : ReadsY w v ks) (hz : ks.length ≤ 16) (hb : body.size ≤ 140737488351232) (hs : ∀ k ∈ ks, k.1.size ≤ 140737488351232 ∧ k.2.size ≤ 140737488351232) :
    Calls Tryd.prog 40 #[.string body, v] w fun e w' => e = .returned (.int .i64 ((body.size + 1 + szL ks : Nat) : Int)) ∧ Below w.heap.size w w' := by
  obtain ⟨a, c, rfl, _⟩ := id hr
  have HR : Hid (ReadsY w (.slice a ks.length c) ks) := hr
  have HS : Hid (∀ j, j ≤ ks.length → szL (ks.take j) ≤ 16 * 140737488351286) := by
    intro j hj
    have h1 := szL_le (ks.take j) (fun k hk => (hs k (List.mem_of_mem_take hk)).1)
    have h2 : (ks.take j).length ≤ 16 := by rw [List.length_take]; omega
    exact Nat.le_trans h1 (Nat.mul_le_mul_right _ h2)
  have HZ : Hid _ := hs
  clear hr hs
  obtain ⟨R, HRR⟩ : ∃ R, Hid (body.size + 1 + szL ks = R) := ⟨_, rfl⟩
  rw [HRR.out]
  obtain ⟨n, HN⟩ : ∃ n, Hid (ks.length = n) := ⟨_, rfl⟩
  have hzn : n ≤ 16 := by rw [← HN.out]; exact hz
  rw [HN.out] at HS ⊢
  clear hz
  go_enter Tryd.func40, Tryd.ntmps40
  go_wp2
  go_loopw [5, 13] (fun z i wr => ∃ (k m : Nat), k ≤ n ∧ i = .int .i64 k ∧ z = .int .i64 m ∧ m ≤ 3000000000000000 ∧ Hid (m = body.size + 1 + szL (ks.take k)) ∧ Hid (Below w.heap.size w wr)) (fun _ i _ => (n - intOf i).toNat)
  case atStart => exact ⟨0, body.size + 1, by omega, rfl, by go_num, by omega, rfl, Below.refl _ _⟩
  case round =>
    obtain ⟨k, m, hk, rfl, rfl, hm, HM, HB⟩ := hrel
    by_cases hlt : k < n
    · have hlt' : (k : Int) < n := by omega
      have hkl : k < ks.length := by rw [HN.out]; exact hlt
      obtain ⟨y, HY⟩ : ∃ y, Hid (ks[k]'hkl = y) := ⟨_, rfl⟩
      obtain ⟨b, off, ha, hbw, c1, c2⟩ := (HR.out.later HB.out).at k y (by rw [List.getElem?_eq_getElem hkl, HY.out])
      subst ha
      have hzy := (HZ.out y (by rw [← HY.out]; exact List.getElem_mem hkl)).1
      have HS1 : Hid (m + (y.1.size + 54) = body.size + 1 + szL (ks.take (k + 1))) := by
        show _ = _
        rw [HM.out, take_snoc ks k hkl, HY.out, szL_app]
        simp only [szL]
        omega
      have hm2 : m + (y.1.size + 54) ≤ 3000000000000000 := by
        rw [HS1.out]
        have := HS.out (k + 1) (by omega)
        omega
      have BW : Hid (Below w.heap.size w (wr.alloc (.cells #[.string y.1, .string y.2] 27))) := HB.out.alloc HB.out.size _
      obtain ⟨kn, kx⟩ := y
      simp only at c1 c2 hzy hm2 HS1 BW
      go_wp2
      go_roundw
      case rel => exact ⟨k + 1, m + (kn.size + 54), by omega, by go_num, by go_num, hm2, HS1, BW⟩
      case measure => simp [intOf]; omega
    · have hlt' : ¬ (k : Int) < n := by omega
      have HE : Hid (m = R) := by
        show _ = _
        rw [HM.out, ← HRR.out, List.take_of_length_le (by rw [HN.out]; omega)]
      go_wp2
      go_ret
      exact ⟨by rw [← HE.out]; rfl, HB.out⟩
def signE (body : ByteArray) (ks : List Ky) : Int :=
  if goesB body = false then 200 else if ks.length = 0 then 82 else if 16 < ks.length then 83 else if tgF [] ks ≠ 0 then tgF [] ks else if 65536 < body.size + 1 + szL ks then 121 else 0
def signT (body : ByteArray) (ks : List Ky) : ByteArray := if signE body ks = 0 then noteOf body (ks.map (sigOf · body)) else ByteArray.empty
def signV (body : ByteArray) (ks : List Ky) : Value := .tuple #[.string (signT body ks), .int .i64 (signE body ks)]
theorem note_size (body : ByteArray) (ks : List Ky) : (noteOf body (ks.map (sigOf · body))).size = body.size + 1 + szL ks := by
  unfold noteOf
  rw [ByteArray.size_append, ByteArray.size_append, flat_size]
  rfl
set_option maxHeartbeats 3200000 in
theorem signC (v : Value) (body : ByteArray) (ks : List Ky) (w : World) (hr : ReadsY w v ks) (hl : ks.length ≤ 140737488355328) (hb : body.size ≤ 140737488351232) (hs : ∀ k ∈ ks, k.1.size ≤ 140737488351232 ∧ k.2.size ≤ 140737488351232) (T : Hid (Tab w)) :
    Calls Tryd.prog 15 #[.string body, v] w fun e w' => e = .returned (signV body ks) ∧ Below w.heap.size w w' := by
  obtain ⟨a, c, rfl, _⟩ := id hr
  have HR : Hid (ReadsY w (.slice a ks.length c) ks) := hr
  have HS : Hid _ := hs
  clear hr hs
  obtain ⟨E, HE⟩ : ∃ E, Hid (signE body ks = E) := ⟨_, rfl⟩
  obtain ⟨X, HX⟩ : ∃ X, Hid (signT body ks = X) := ⟨_, rfl⟩
  have HX0 : Hid (E ≠ 0 → X = ByteArray.empty) := by intro h; rw [← HX.out]; unfold signT; rw [HE.out, if_neg h]
  have HX1 : Hid (E = 0 → X = noteOf body (ks.map (sigOf · body))) := by intro h; rw [← HX.out]; unfold signT; rw [HE.out, if_pos h]
  have HU := HE.out
  unfold signE at HU
  unfold signV
  rw [HE.out, HX.out]
  have C1 : Hid (Calls _ _ _ _ _) := goesC body (by omega) w
  obtain ⟨n, HN⟩ : ∃ n, Hid (ks.length = n) := ⟨_, rfl⟩
  rw [HN.out] at hl HU ⊢
  by_cases hg : goesB body = false
  · rw [if_pos hg] at HU
    have HEE : Hid (E = 200) := HU.symm
    have HXX : Hid (X = ByteArray.empty) := HX0.out (by rw [HEE.out]; decide)
    rw [hg] at C1
    clear HU hg
    go_enter Tryd.func15, Tryd.ntmps15
    go_wp2_with fail
    refine C1.out.mono ?_
    rintro e w1 ⟨rfl, hb1⟩
    have B1 : Hid (Below _ _ _) := hb1
    clear hb1
    go_wp2
    go_ret2
    exact ⟨by rw [HEE.out, HXX.out]; rfl, B1.out⟩
  · rw [if_neg hg] at HU
    have hgt : goesB body = true := by simpa using hg
    rw [hgt] at C1
    clear hg hgt
    by_cases h0 : n = 0
    · rw [if_pos h0] at HU
      have HEE : Hid (E = 82) := HU.symm
      have HXX : Hid (X = ByteArray.empty) := HX0.out (by rw [HEE.out]; decide)
      subst h0
      clear HU
      go_enter Tryd.func15, Tryd.ntmps15
      go_wp2_with fail
      refine C1.out.mono ?_
      rintro e w1 ⟨rfl, hb1⟩
      have B1 : Hid (Below _ _ _) := hb1
      clear hb1
      go_wp2
      go_ret2
      exact ⟨by rw [HEE.out, HXX.out]; rfl, B1.out⟩
    · rw [if_neg h0] at HU
      have g0 : ((n : Int) == 0) = false := beq_eq_false_iff_ne.2 (by omega)
      have g0' : ¬ (n : Int) = 0 := by omega
      by_cases h16 : 16 < n
      · rw [if_pos h16] at HU
        have HEE : Hid (E = 83) := HU.symm
        have HXX : Hid (X = ByteArray.empty) := HX0.out (by rw [HEE.out]; decide)
        have g1 : (n : Int) > 16 := by omega
        clear HU h0
        go_enter Tryd.func15, Tryd.ntmps15
        go_wp2_with fail
        refine C1.out.mono ?_
        rintro e w1 ⟨rfl, hb1⟩
        have B1 : Hid (Below _ _ _) := hb1
        clear hb1
        go_wp2
        go_ret2
        exact ⟨by rw [HEE.out, HXX.out]; rfl, B1.out⟩
      · rw [if_neg h16] at HU
        have g1 : ¬ (n : Int) > 16 := by omega
        have g2 : n ≤ 16 := by omega
        have C2 : Hid (∀ w', Below w.heap.size w w' → Calls _ _ _ _ _) := fun w' hb' => togetherC (.slice a ks.length c) ks w' (HR.out.later hb') (by rw [HN.out]; omega) HS.out (T.out.down hb')
        rw [HN.out] at C2
        clear h0 h16
        by_cases ht : tgF [] ks ≠ 0
        · rw [if_pos ht] at HU
          have HXX : Hid (X = ByteArray.empty) := HX0.out (by rw [← HU]; exact ht)
          have HEE : Hid (tgF [] ks = E) := HU
          have gE : (E != 0) = true := by rw [bne_iff_ne, ← HU]; exact ht
          have gE' : ¬ E = 0 := by rw [← HU]; exact ht
          rw [HEE.out] at C2
          clear HU ht
          go_enter Tryd.func15, Tryd.ntmps15
          go_wp2_with fail
          refine C1.out.mono ?_
          rintro e w1 ⟨rfl, hb1⟩
          have B1 : Hid (Below _ _ _) := hb1
          clear hb1
          go_wp2_with fail
          refine (C2.out _ B1.out).mono ?_
          rintro e w2 ⟨rfl, hb2⟩
          have B2 : Hid (Below w.heap.size w w2) := over B1.out hb2
          clear hb2
          go_wp2
          go_ret2
          exact ⟨by rw [HXX.out]; rfl, B2.out⟩
        · rw [if_neg ht] at HU
          have ht0 : tgF [] ks = 0 := by simpa using ht
          rw [ht0] at C2
          have C3 : Hid (∀ w', Below w.heap.size w w' → Calls _ _ _ _ _) := fun w' hb' => noteSizeC (.slice a ks.length c) body ks w' (HR.out.later hb') (by rw [HN.out]; exact g2) hb HS.out
          rw [HN.out] at C3
          obtain ⟨z, HZ⟩ : ∃ z, Hid (body.size + 1 + szL ks = z) := ⟨_, rfl⟩
          rw [HZ.out] at C3 HU
          clear ht ht0
          by_cases hbig : 65536 < z
          · rw [if_pos hbig] at HU
            have HEE : Hid (E = 121) := HU.symm
            have HXX : Hid (X = ByteArray.empty) := HX0.out (by rw [HEE.out]; decide)
            have g3 : (z : Int) > 65536 := by omega
            clear HU
            go_enter Tryd.func15, Tryd.ntmps15
            go_wp2_with fail
            refine C1.out.mono ?_
            rintro e w1 ⟨rfl, hb1⟩
            have B1 : Hid (Below _ _ _) := hb1
            clear hb1
            go_wp2_with fail
            refine (C2.out _ B1.out).mono ?_
            rintro e w2 ⟨rfl, hb2⟩
            have B2 : Hid (Below w.heap.size w w2) := over B1.out hb2
            clear hb2
            go_wp2_with fail
            refine (C3.out _ B2.out).mono ?_
            rintro e w3 ⟨rfl, hb3⟩
            have B3 : Hid (Below w.heap.size w w3) := over B2.out hb3
            clear hb3
            go_wp2
            go_ret2
            exact ⟨by rw [HEE.out, HXX.out]; rfl, B3.out⟩
          · rw [if_neg hbig] at HU
            have HEE : Hid (E = 0) := HU.symm
            have HXX : Hid (X = noteOf body (ks.map (sigOf · body))) := HX1.out HU.symm
            have g3 : ¬ (z : Int) > 65536 := by omega
            have hz2 : z ≤ 65536 := by omega
            clear HU hbig
            go_enter Tryd.func15, Tryd.ntmps15
            go_wp2_with fail
            refine C1.out.mono ?_
            rintro e w1 ⟨rfl, hb1⟩
            have B1 : Hid (Below _ _ _) := hb1
            clear hb1
            go_wp2_with fail
            refine (C2.out _ B1.out).mono ?_
            rintro e w2 ⟨rfl, hb2⟩
            have B2 : Hid (Below w.heap.size w w2) := over B1.out hb2
            clear hb2
            go_wp2_with fail
            refine (C3.out _ B2.out).mono ?_
            rintro e w3 ⟨rfl, hb3⟩
            have B3 : Hid (Below w.heap.size w w3) := over B2.out hb3
            clear hb3
            obtain ⟨W, HW⟩ : ∃ W, Hid (w3.alloc (.cells #[.pointer none, .slice none 0 0] 68) = W) := ⟨_, rfl⟩
            have BW : Hid (Below w3.heap.size w3 W) := by rw [← HW.out]; exact (Below.refl _ _).alloc (Nat.le_refl _) _
            have FB : Hid (Bb w3.heap.size w3.heap.size ByteArray.empty W) := by rw [← HW.out]; exact Bb.fresh w3
            have hbz : body.size + 1 ≤ 65536 := by have := HZ.out; omega
            go_wp2_with fail
            rw [HW.out]
            go_wp2_with fail
            refine (wsC w3.heap.size w3.heap.size ByteArray.empty body W FB.out (by show 0 + body.size ≤ _; omega) BW.out.size).mono ?_
            rintro e w4 ⟨rfl, h4, hb4⟩
            have F4 : Hid (Bb w3.heap.size w3.heap.size body w4) := by rw [ByteArray.empty_append] at h4; exact h4
            have B4 : Hid (Below w3.heap.size w3 w4) := BW.out.trans hb4
            clear h4 hb4
            go_wp2_with fail
            refine (wbC w3.heap.size w3.heap.size body w4 F4.out (by omega) B4.out.size).mono ?_
            rintro e w5 ⟨rfl, h5, hb5⟩
            have F5 : Hid (Bb w3.heap.size w3.heap.size (body ++ ⟨#[10]⟩) w5) := h5
            have B5 : Hid (Below w3.heap.size w3 w5) := B4.out.trans hb5
            clear h5 hb5
            go_wp2
            go_loopw [33] (fun i wr => ∃ (k : Nat), k ≤ n ∧ i = .int .i64 k ∧ Hid (Bb w3.heap.size w3.heap.size (noteOf body ((ks.take k).map (sigOf · body))) wr ∧ Below w3.heap.size w3 wr)) (fun i _ => (n - intOf i).toNat)
            case atStart => exact ⟨0, by omega, rfl, by unfold noteOf; simp only [List.take_zero, List.map_nil, flatB, ByteArray.append_empty]; exact F5.out, B5.out⟩
            case round =>
              clear F4 B4 F5 B5 FB BW
              obtain ⟨k, hk, rfl, HK⟩ := hrel
              have BK : Hid (Below w.heap.size w wr) := B3.out.trans (HK.out.2.mono B3.out.size)
              by_cases hlt : k < n
              · have hlt' : (k : Int) < n := by omega
                have hkl : k < ks.length := by rw [HN.out]; exact hlt
                obtain ⟨y, HY⟩ : ∃ y, Hid (ks[k]'hkl = y) := ⟨_, rfl⟩
                obtain ⟨b, off, ha, hbw, c1, c2⟩ := (HR.out.later BK.out).at k y (by rw [List.getElem?_eq_getElem hkl, HY.out])
                subst ha
                have hzy := HS.out y (by rw [← HY.out]; exact List.getElem_mem hkl)
                have HNX : Hid (noteOf body ((ks.take (k + 1)).map (sigOf · body)) = noteOf body ((ks.take k).map (sigOf · body)) ++ lineOf (sigOf y body)) := by
                  show _ = _
                  unfold noteOf
                  rw [take_snoc ks k hkl, HY.out, List.map_append, List.map_append, flat_app, ← ByteArray.append_assoc]
                  simp only [List.map_cons, List.map_nil, flatB, ByteArray.append_empty]
                have hsz : (noteOf body ((ks.take (k + 1)).map (sigOf · body))).size ≤ z := by
                  rw [note_size, ← HZ.out]
                  have e1 : ks = ks.take (k + 1) ++ ks.drop (k + 1) := (List.take_append_drop _ _).symm
                  have e2 := congrArg szL e1
                  rw [szL_app] at e2
                  omega
                rw [HNX.out, ByteArray.size_append] at hsz
                obtain ⟨W2, HW2⟩ : ∃ W2, Hid (wr.alloc (.cells #[.string y.1, .string y.2] 27) = W2) := ⟨_, rfl⟩
                have BW2 : Hid (Below wr.heap.size wr W2) := by rw [← HW2.out]; exact (Below.refl _ _).alloc (Nat.le_refl _) _
                have hWc : W2.cell? ⟨wr.heap.size, 0, none⟩ = some (.string y.1) ∧ W2.cell? ⟨wr.heap.size, 1, none⟩ = some (.string y.2) := by
                  rw [← HW2.out]; exact ⟨by rw [World.cell?_alloc_at _ _ _ _ rfl]; rfl, by rw [World.cell?_alloc_at _ _ _ _ rfl]; rfl⟩
                obtain ⟨hW0, hW1⟩ := hWc
                have D1 : Hid (Calls _ _ _ _ _) := signatureC y body hzy.1 hzy.2 hb W2 ((T.out.down BK.out).down BW2.out)
                have D2 : Hid (∀ w, Calls _ _ _ _ _) := fun w => writtenC (sigOf y body) hzy.1 (by show (kidF _ _).size + (macF _ _).size ≤ 1000; rw [kid_size, macF_size]; omega) w
                have hls : (lineOf (sigOf y body)).size ≤ 65536 := by omega
                obtain ⟨P0, HP0⟩ : ∃ P0, Hid (noteOf body ((ks.take k).map (sigOf · body)) = P0) := ⟨_, rfl⟩
                obtain ⟨P1, HP1⟩ : ∃ P1, Hid (noteOf body ((ks.take (k + 1)).map (sigOf · body)) = P1) := ⟨_, rfl⟩
                rw [HP0.out] at hsz
                rw [HP0.out, HP1.out] at HNX
                simp only [sigOf] at D2 HNX hsz hls
                obtain ⟨kn, kx⟩ := y
                simp only at c1 c2 hzy hW0 hW1 D1 D2 HNX hsz hls HW2
                obtain ⟨L, HL⟩ : ∃ L, Hid (lineOf ⟨kn, kidF kn kx, macF kx body⟩ = L) := ⟨_, rfl⟩
                rw [HL.out] at D2 HNX hsz hls
                generalize kidF kn kx = x1 at *
                generalize macF kx body = x2 at *
                go_wp2_with fail
                rw [HW2.out]
                go_wp2_with fail
                refine D1.out.mono ?_
                rintro e w6 ⟨rfl, hb6⟩
                have B6 : Hid (Below wr.heap.size wr w6) := BW2.out.trans (hb6.mono BW2.out.size)
                clear hb6
                go_wp2_with fail
                refine (D2.out _).mono ?_
                rintro e w7 ⟨rfl, hb7⟩
                have B7 : Hid (Below wr.heap.size wr w7) := over B6.out hb7
                clear hb7
                have F7 : Hid (Bb w3.heap.size w3.heap.size P0 w7) := by rw [← HP0.out]; exact HK.out.1.below B7.out
                go_wp2_with fail
                refine (wsC w3.heap.size w3.heap.size _ L w7 F7.out (by omega) (Nat.le_trans HK.out.2.size B7.out.size)).mono ?_
                rintro e w8 ⟨rfl, h8, hb8⟩
                have F8 : Hid (Bb w3.heap.size w3.heap.size (noteOf body ((ks.take (k + 1)).map (sigOf · body))) w8 ∧ Below w3.heap.size w3 w8) := ⟨by rw [HP1.out, HNX.out]; exact h8, (HK.out.2.trans (B7.out.mono HK.out.2.size)).trans hb8⟩
                clear h8 hb8
                go_wp2
                go_roundw
                case rel => exact ⟨k + 1, by omega, by go_num, F8⟩
                case measure => simp [intOf]; omega
              · have hlt' : ¬ (k : Int) < n := by omega
                have HEN : Hid (X = noteOf body ((ks.take k).map (sigOf · body))) := by show _ = _; rw [HXX.out, List.take_of_length_le (by rw [HN.out]; omega)]
                have C9 : Hid (Calls _ _ _ _ _) := sC w3.heap.size w3.heap.size _ wr HK.out.1 HK.out.2.size
                rw [← HEN.out] at C9
                go_wp2_with fail
                refine C9.out.mono ?_
                rintro e w9 ⟨rfl, hb9⟩
                have B9 : Hid (Below w.heap.size w w9) := B3.out.trans ((HK.out.2.trans hb9).mono B3.out.size)
                clear hb9
                go_wp2
                go_ret2
                exact ⟨by rw [HEE.out]; rfl, B9.out⟩
end Go.Proofs.YthgieagebcjafaaDoor.o7

namespace Go.Proofs.YthgieagebcjafaaDoor.o8
open Go.RowKit Go.PlainAid Go.Shelf
open Go.Proofs.YthgieagebcjafaaDoor.pj Go.Proofs.YthgieagebcjafaaDoor.rf Go.Proofs.YthgieagebcjafaaDoor.mo Go.Proofs.YthgieagebcjafaaDoor.nd Go.Proofs.YthgieagebcjafaaDoor.nh Go.Proofs.YthgieagebcjafaaDoor.tb Go.Proofs.YthgieagebcjafaaDoor.tc Go.Proofs.YthgieagebcjafaaDoor.tj Go.Proofs.YthgieagebcjafaaDoor.n1 Go.Proofs.YthgieagebcjafaaDoor.n3 Go.Proofs.YthgieagebcjafaaDoor.n4 Go.Proofs.YthgieagebcjafaaDoor.o1 Go.Proofs.YthgieagebcjafaaDoor.o3 Go.Proofs.YthgieagebcjafaaDoor.o4 Go.Proofs.YthgieagebcjafaaDoor.o5 Go.Proofs.YthgieagebcjafaaDoor.o6 Go.Proofs.YthgieagebcjafaaDoor.o7 Go.Proofs.YthgieagebcjafaaDoor.kp
set_option linter.unusedVariables false
set_option maxRecDepth 4000

-- bytes of one's own that make a text
def OwB (w : World) (base : Nat) (v : Value) (s : ByteArray) : Prop := ∃ g cap, v = .slice (some ⟨g, 0, none⟩) s.size cap ∧ base ≤ g ∧ g < w.heap.size ∧ (∀ j, j < s.size → w.cell? ⟨g, j, none⟩ = some (.int .u8 (bt s j))) ∧ (∀ j, s.size ≤ j → j < cap → (w.cell? ⟨g, j, none⟩).isSome = true ∧ w.frozen? ⟨g, j, none⟩ = false)
theorem OwB.later {w w' : World} {base : Nat} {v : Value} {s : ByteArray} (h : OwB w base v s) (b : Below w.heap.size w w') : OwB w' base v s := by
  obtain ⟨g, cap, rfl, hb, hg, h1, h2⟩ := h
  refine ⟨g, cap, rfl, hb, Nat.lt_of_lt_of_le hg b.size, fun j hj => ?_, fun j h3 h4 => ?_⟩
  · rw [b.cell (p := ⟨g, j, none⟩) hg]; exact h1 j hj
  · rw [b.cell (p := ⟨g, j, none⟩) hg, b.frozen (p := ⟨g, j, none⟩) hg]; exact h2 j h3 h4
theorem OwB.form {w : World} {base : Nat} {v : Value} {s : ByteArray} (h : OwB w base v s) : ∃ g cap, v = .slice (some ⟨g, 0, none⟩) s.size cap := by
  obtain ⟨g, cap, rfl, _⟩ := h
  exact ⟨g, cap, rfl⟩
theorem ofString (w : World) (s : ByteArray) (hs : s.size ≤ 140737488352256) : ∃ v w', (convert 9 62 (.string s)).run Tryd.prog w = .ok v w' ∧ OwB w' w.heap.size v s ∧ Below w.heap.size w w' := by
  obtain ⟨v, w', h1, ⟨h2, g, cap, rfl, h3, h4, h5, h6⟩, h7⟩ := Go.Proofs.YthgieagebcjafaaDoor.rc.of_string w s hs
  refine ⟨_, w', h1, ⟨g, cap, rfl, h3, h4, fun j hj => ?_, h6⟩, h7⟩
  rw [h5 j hj, Go.Proofs.YthgieagebcjafaaDoor.pd.btL_get _ _ _ hj]
theorem toString (w : World) (base : Nat) (v : Value) (s : ByteArray) (h : OwB w base v s) : (convert 62 9 v).run Tryd.prog w = .ok (.string s) w := by
  obtain ⟨g, cap, rfl, hb, hg, h1, h2⟩ := h
  have := conv_at (bs s) w g 0 s.size cap (bs_length s).symm (fun j u hj => by
    have hjl : j < s.size := by have := (List.getElem?_eq_some_iff.1 hj).1; rw [List.length_map, bs_length] at this; exact this
    rw [Addr.add_mid, Nat.zero_add, h1 j hjl, ← hj, List.getElem?_map, List.getElem?_eq_getElem (by rw [bs_length]; exact hjl), bs_get s j hjl]
    rfl)
  rw [str_bs] at this
  exact this
theorem bt_left (a b : ByteArray) (j : Nat) (h : j < a.size) : bt (a ++ b) j = bt a j := by
  rw [← get_bt (a ++ b) j (by rw [ByteArray.size_append]; omega), ← get_bt a j h, ByteArray.getElem_append_left]
theorem bt_right (a b : ByteArray) (j : Nat) (h : j < b.size) : bt (a ++ b) (a.size + j) = bt b j := by
  rw [← get_bt (a ++ b) (a.size + j) (by rw [ByteArray.size_append]; omega), ← get_bt b j h, ByteArray.getElem_append_right (by omega)]
  simp
theorem cells_get (q : ByteArray) (j : Nat) (h : j < q.size) : (Go.Proofs.YthgieagebcjafaaDoor.na.cellsS q)[j]'(by rw [Go.Proofs.YthgieagebcjafaaDoor.na.cellsS_length]; exact h) = .int .u8 (bt q j) := by
  simp [Go.Proofs.YthgieagebcjafaaDoor.na.cellsS, Go.Proofs.YthgieagebcjafaaDoor.pd.btL]
open Go.Proofs.YthgieagebcjafaaDoor.na in
theorem room_str (w : World) (ty : TypeId) (g sLen sCap : Nat) (q : ByteArray) (hroom : sLen + q.size ≤ sCap) (hc : ∀ j, j < q.size → (w.cell? ⟨g, sLen + j, none⟩).isSome = true) (hf : ∀ j, j < q.size → w.frozen? ⟨g, sLen + j, none⟩ = false) :
    (Builtin.append_ #[62, 9] ty #[.slice (some ⟨g, 0, none⟩) sLen sCap, .string q]).run Tryd.prog w =
      .ok (.slice (some ⟨g, 0, none⟩) (sLen + q.size) sCap) (w.setCells g sLen (cellsS q)) := by
  have hst := run_storeCells_cells (P := Tryd.prog) g sLen (cellsS q) 0 w (by rw [cellsS_length]; simpa using hc) (by rw [cellsS_length]; simpa using hf) (cellsS_one q)
  simp only [Nat.add_zero] at hst
  have hfs := first_str q
  simp only [Builtin.append_, Builtin.lenOf, List.getElem?_toArray, List.getElem?_cons_zero, List.getElem?_cons_succ, Sem.run_bind, Sem.run_pure, run_underlying Tryd.underlying62, run_underlying Tryd.underlying9, Result.andThen_ok, Go.Proofs.YthgieagebcjafaaDoor.pb.si8]
  simp [hroom, Addr.add_lit, hfs, hst]
theorem below_setCells {B : Nat} (b : Nat) (hB : B ≤ b) : ∀ (vs : List Value) (o : Nat) (w : World), Below B w (w.setCells b o vs)
  | [], _, _ => Below.refl _ _
  | v :: r, o, w => ((Below.refl B w).setCell (p := ⟨b, o, none⟩) hB v).trans (below_setCells b hB r (o + 1) _)
theorem size_setCells (b : Nat) : ∀ (vs : List Value) (o : Nat) (w : World), (w.setCells b o vs).heap.size = w.heap.size
  | [], _, _ => rfl
  | v :: r, o, w => by rw [World.setCells, size_setCells b r (o + 1)]; simp [World.setCell]
open Go.Proofs.YthgieagebcjafaaDoor.na in
theorem appB (w : World) (base : Nat) (ty : TypeId) (v : Value) (s q : ByteArray) (h : OwB w base v s) (h63 : s.size + q.size ≤ 140737488355328) (hbase : base ≤ w.heap.size) :
    ∃ v' w', (Builtin.append_ #[62, 9] ty #[v, .string q]).run Tryd.prog w = .ok v' w' ∧ OwB w' base v' (s ++ q) ∧ Below base w w' := by
  obtain ⟨g, cap, rfl, hb, hg, h1, h2⟩ := h
  by_cases hroom : s.size + q.size ≤ cap
  · have hr := room_str w ty g s.size cap q hroom (fun j hj => (h2 _ (by omega) (by omega)).1) (fun j hj => (h2 _ (by omega) (by omega)).2)
    refine ⟨_, _, hr, ⟨g, cap, by rw [ByteArray.size_append], hb, by rw [size_setCells]; exact hg, fun j hj => ?_, fun j ha hc => ?_⟩, below_setCells g hb _ _ _⟩
    · rw [ByteArray.size_append] at hj
      rcases Nat.lt_or_ge j s.size with hj1 | hj1
      · rw [World.cell?_setCells_out g _ _ _ _ (fun _ _ => .inl hj1), h1 j hj1, bt_left _ _ _ hj1]
      · obtain ⟨k, rfl⟩ : ∃ k, j = s.size + k := ⟨j - s.size, by omega⟩
        rw [World.cell?_setCells_in g _ _ _ (fun i hi => (h2 _ (by omega) (by rw [cellsS_length] at hi; omega)).1) k (by rw [cellsS_length]; omega), cells_get q k (by omega), bt_right _ _ _ (by omega)]
    · rw [ByteArray.size_append] at ha
      rw [World.cell?_setCells_out g _ _ _ _ (fun _ _ => .inr (by rw [cellsS_length]; exact ha)), World.frozen?_setCells]
      exact h2 j (by omega) hc
  · obtain ⟨i, hi, hz0, hz1, hz2⟩ := info_parts info5
    have hlen : ((bs s).map (Value.int .u8)).length = s.size := by rw [List.length_map, bs_length]
    have holds : ∀ j u, ((bs s).map (Value.int .u8))[j]? = some u → w.cell? ((⟨g, 0, none⟩ : Addr).add j) = some u := by
      intro j u hj
      have hjl : j < s.size := by have := (List.getElem?_eq_some_iff.1 hj).1; rw [hlen] at this; exact this
      rw [Addr.add_mid, Nat.zero_add, h1 j hjl, ← hj, List.getElem?_map, List.getElem?_eq_getElem (by rw [bs_length]; exact hjl), bs_get s j hjl]
      rfl
    have hr := append_str_grow w ty i hi hz0 hz2 ⟨g, 0, none⟩ s.size cap ((bs s).map (Value.int .u8)) hlen holds q (by omega) h63
    have hge := grownCap_ge w (s.size + q.size) cap 5
    have hh := heap_alloc_new w.drew (.cells (((bs s).map (Value.int .u8)).toArray ++ (cellsS q).toArray ++ Builtin.zeroCells (Value.int .u8 0).cells (grownCap w (s.size + q.size) cap 5 - (s.size + q.size))) 5)
    refine ⟨_, _, hr, ⟨w.heap.size, _, by rw [ByteArray.size_append], hbase, by simp, fun j hj => ?_, fun j ha hc => ?_⟩, ((Below.refl _ _).drew).alloc hbase _⟩
    · have hcell := cell_of_row _ _ j _ _ _ hh
      have ed : w.drew.heap.size = w.heap.size := rfl
      rw [ed] at hcell
      rw [hcell]
      rw [ByteArray.size_append] at hj
      rw [Array.getElem?_append_left (by simp only [Array.size_append, List.size_toArray, hlen, cellsS_length]; exact hj)]
      rcases Nat.lt_or_ge j s.size with hj1 | hj1
      · rw [Array.getElem?_append_left (by simp only [List.size_toArray, hlen]; exact hj1), List.getElem?_toArray, List.getElem?_map, List.getElem?_eq_getElem (by rw [bs_length]; exact hj1), bs_get s j hj1, bt_left _ _ _ hj1]
        rfl
      · obtain ⟨k, rfl⟩ : ∃ k, j = s.size + k := ⟨j - s.size, by omega⟩
        rw [Array.getElem?_append_right (by simp only [List.size_toArray, hlen]; omega), List.getElem?_toArray]
        simp only [List.size_toArray, hlen, Nat.add_sub_cancel_left]
        rw [List.getElem?_eq_getElem (by rw [cellsS_length]; omega), cells_get q k (by omega), bt_right _ _ _ (by omega)]
    · have hcell := cell_of_row _ _ j _ _ _ hh
      have hfz := frozen_of_row _ _ j _ _ hh
      have ed : w.drew.heap.size = w.heap.size := rfl
      rw [ed] at hcell hfz
      refine ⟨?_, hfz⟩
      rw [hcell, Array.getElem?_eq_getElem]
      · rfl
      · have hz : (Value.int .u8 0).cells.size = 1 := rfl
        simp only [Array.size_append, List.size_toArray, size_zeroCells, hz, hlen, cellsS_length]
        omega
theorem wpList_appB {ops : Array Oper} {rest : List Oper} {o : Oper} {a : Act} {w : World} {Q : Exit → Act → World → Prop} (hgd : o.guard = none) (s x : Operand)
    (ho : o.op = .call { callee := .builtin .append, args := #[s, x], argTypes := #[62, 9] }) (base : Nat) (v : Value) (t q : ByteArray) (hs : a.eval s = v) (hown : OwB w base v t)
    (hx : a.eval x = .string q) (h63 : t.size + q.size ≤ 140737488355328) (hbase : base ≤ w.heap.size)
    (h : ∀ v' w', OwB w' base v' (t ++ q) → Below base w w' → wpList Tryd.prog ops Q rest (a.put o.dst v') w') : wpList Tryd.prog ops Q (o :: rest) a w := by
  obtain ⟨v', w', hr, h2, h3⟩ := appB w base o.type v t q hown h63 hbase
  refine wpList_plain hgd fun K hK => ?_
  unfold Oper.wp execOp
  simp only [ho, resolve, invoke, builtin, Sem.run_bind, Sem.run_pure, Result.andThen_ok, List.map_toArray, List.map_cons, List.map_nil, hs, hx, hr]
  exact hK _ _ (h v' w' h2 h3)
end Go.Proofs.YthgieagebcjafaaDoor.o8

namespace Go.Proofs.YthgieagebcjafaaDoor.o9
open Go.RowKit Go.PlainAid Go.Shelf
open Go.Proofs.YthgieagebcjafaaDoor.pj Go.Proofs.YthgieagebcjafaaDoor.rf Go.Proofs.YthgieagebcjafaaDoor.mo Go.Proofs.YthgieagebcjafaaDoor.nd Go.Proofs.YthgieagebcjafaaDoor.nh Go.Proofs.YthgieagebcjafaaDoor.tb Go.Proofs.YthgieagebcjafaaDoor.tc Go.Proofs.YthgieagebcjafaaDoor.tj Go.Proofs.YthgieagebcjafaaDoor.n1 Go.Proofs.YthgieagebcjafaaDoor.n3 Go.Proofs.YthgieagebcjafaaDoor.n4 Go.Proofs.YthgieagebcjafaaDoor.o1 Go.Proofs.YthgieagebcjafaaDoor.o3 Go.Proofs.YthgieagebcjafaaDoor.o4 Go.Proofs.YthgieagebcjafaaDoor.o5 Go.Proofs.YthgieagebcjafaaDoor.o6 Go.Proofs.YthgieagebcjafaaDoor.o7 Go.Proofs.YthgieagebcjafaaDoor.o8 Go.Proofs.YthgieagebcjafaaDoor.kp
set_option linter.unusedVariables false
set_option maxRecDepth 4000

theorem any_take (l : List Sg) (p : Sg → Bool) (k : Nat) (h : k < l.length) : (l.take (k + 1)).any p = ((l.take k).any p || p (l[k]'h)) := by
  rw [take_snoc l k h, List.any_append]; simp
set_option maxHeartbeats 1600000 in
theorem amongD (v : Value) (l : List Sg) (g : Sg) (w : World) (hr : ReadsG w v l) (hz : l.length ≤ 1000000) :
    Calls Tryd.prog 48 #[v, .agg #[.string g.name, .string g.id, .string g.mac]] w fun e w' => e = .returned (.bool (amg l g)) ∧ Below w.heap.size w w' := by
  obtain ⟨a, c, rfl, hcl⟩ := hr
  have HCL : Hid _ := hcl
  clear hcl
  obtain ⟨R, HR⟩ : ∃ R, Hid (amg l g = R) := ⟨_, rfl⟩
  rw [HR.out]
  obtain ⟨gn, gi, gm⟩ := g
  simp only at HR ⊢
  obtain ⟨n, HN⟩ : ∃ n, Hid (l.length = n) := ⟨_, rfl⟩
  have hzn : n ≤ 1000000 := by rw [← HN.out]; exact hz
  rw [HN.out]
  clear hz
  obtain ⟨W, HW⟩ : ∃ W, Hid (w.alloc (.cells #[.string gn, .string gi, .string gm] 76) = W) := ⟨_, rfl⟩
  have BW : Hid (Below w.heap.size w W) := by rw [← HW.out]; exact (Below.refl _ _).alloc (Nat.le_refl _) _
  have zW : W.heap.size = w.heap.size + 1 := by rw [← HW.out]; simp
  have SX : Hid (∀ w', Below (w.heap.size + 1) W w' → w'.cell? ⟨w.heap.size, 0, none⟩ = some (.string gn) ∧ w'.cell? ⟨w.heap.size, 1, none⟩ = some (.string gi) ∧ w'.cell? ⟨w.heap.size, 2, none⟩ = some (.string gm)) := by
    rw [← HW.out]; exact fun w' h => box3 w w' _ _ _ _ h
  go_enter Tryd.func48, Tryd.ntmps48
  go_wp2_with fail
  rw [HW.out]
  go_loopw [5] (fun i wr => ∃ k : Nat, k ≤ n ∧ i = .int .i64 k ∧ Hid ((l.take k).any (fun a => one a ⟨gn, gi, gm⟩) = false) ∧ Hid (Below (w.heap.size + 1) W wr)) (fun i _ => (n - intOf i).toNat)
  case atStart => exact ⟨0, by omega, rfl, rfl, Below.refl _ _⟩
  case round =>
    obtain ⟨k, hk, rfl, HK, HB⟩ := hrel
    obtain ⟨b0, b1, b2⟩ := SX.out _ HB.out
    have BB : Hid (Below w.heap.size w wr) := BW.out.trans (HB.out.mono (by omega))
    by_cases hlt : k < n
    · have hlt' : (k : Int) < n := by omega
      have hkl : k < l.length := by rw [HN.out]; exact hlt
      obtain ⟨b, off, rfl, hbw, hc⟩ : ∃ b off, a = some ⟨b, off, none⟩ ∧ b < w.heap.size ∧ ∀ i g, l[i]? = some g → w.cell? ⟨b, off + i * 3, none⟩ = some (.string g.name) ∧ w.cell? ⟨b, off + i * 3 + 1, none⟩ = some (.string g.id) ∧ w.cell? ⟨b, off + i * 3 + 2, none⟩ = some (.string g.mac) := by
        rcases HCL.out with h | h
        · omega
        · exact h
      obtain ⟨x, HX⟩ : ∃ x, Hid (l[k]'hkl = x) := ⟨_, rfl⟩
      obtain ⟨q1, q2, q3⟩ := hc k x (by rw [List.getElem?_eq_getElem hkl, HX.out])
      have c1 := (BB.out.cell (p := ⟨b, off + k * 3, none⟩) hbw).trans q1
      have c2 := (BB.out.cell (p := ⟨b, off + k * 3 + 1, none⟩) hbw).trans q2
      have HNX : Hid ((l.take (k + 1)).any (fun a => one a ⟨gn, gi, gm⟩) = (eqB x.name gn && eqB x.id gi)) := by
        show _ = _
        rw [any_take l _ k hkl, HK.out, HX.out, Bool.false_or]; rfl
      have HYES : Hid ((eqB x.name gn && eqB x.id gi) = true → R = true) := by
        intro h
        rw [← HR.out]
        unfold amg
        rw [List.any_eq_true]
        exact ⟨x, by rw [← HX.out]; exact List.getElem_mem hkl, h⟩
      have e1 := toList_eqB x.name gn
      have e2 := toList_eqB x.id gi
      have KN : Hid (∀ n, Below (w.heap.size + 1) W (wr.drewN n)) := fun n => below_dN HB.out n
      have KM : Hid (∀ n, Below w.heap.size w (wr.drewN n)) := fun n => below_dN BB.out n
      clear hc q1 q2 q3 HX
      obtain ⟨xn, xi, xm⟩ := x
      simp only at c1 c2 HNX HYES e1 e2
      generalize eqB xn gn = y1 at *
      generalize eqB xi gi = y2 at *
      cases y1
      · go_wp2_with fail
        go_quiet (fail)
        go_wp2
        go_roundw
        case rel => exact ⟨k + 1, by omega, by go_num, HNX, KN.out _⟩
        case measure => simp [intOf]; omega
      · cases y2
        · go_wp2_with fail
          go_quiet (fail)
          go_wp2
          go_roundw
          case rel => exact ⟨k + 1, by omega, by go_num, HNX, KN.out _⟩
          case measure => simp [intOf]; omega
        · have HT : Hid (R = true) := HYES.out rfl
          go_wp2_with fail
          go_quiet (fail)
          go_wp2
          go_ret
          exact ⟨by rw [HT.out]; rfl, KM.out _⟩
    · have hlt' : ¬ (k : Int) < n := by omega
      have HT : Hid (R = false) := by
        show _ = _
        rw [← HR.out, ← HK.out, List.take_of_length_le (by rw [HN.out]; omega)]
        rfl
      go_wp2
      go_ret
      exact ⟨by rw [HT.out]; rfl, BB.out⟩
def lnL : List Sg → Nat
  | [] => 0
  | g :: l => (lineOf g).size + lnL l
theorem lnL_app (a b : List Sg) : lnL (a ++ b) = lnL a + lnL b := by
  induction a with
  | nil => simp [lnL]
  | cons k a ih => simp only [List.cons_append, lnL, ih]; omega
theorem lnL_size (l : List Sg) : (flatB (l.map lineOf)).size = lnL l := by
  induction l with
  | nil => rfl
  | cons k l ih => simp only [List.map_cons, flatB, lnL, ByteArray.size_append, ih]
theorem note_sz (body : ByteArray) (l : List Sg) : (noteOf body l).size = body.size + 1 + lnL l := by
  unfold noteOf
  rw [ByteArray.size_append, ByteArray.size_append, lnL_size]
  rfl
theorem note_snoc (body : ByteArray) (l : List Sg) (g : Sg) : noteOf body (l ++ [g]) = noteOf body l ++ lineOf g := by
  unfold noteOf
  rw [List.map_append, flat_app, ← ByteArray.append_assoc]
  simp only [List.map_cons, List.map_nil, flatB, ByteArray.append_empty]
set_option maxHeartbeats 1600000 in
theorem writtenD (body : ByteArray) (v : Value) (l : List Sg) (w : World) (hr : ReadsG w v l) (hz : l.length ≤ 1000000) (hs : (noteOf body l).size ≤ 140737488355328) (hb0 : body.size + 1 ≤ 140737488352256) (hg : ∀ g ∈ l, g.name.size ≤ 140737488351232 ∧ g.id.size + g.mac.size ≤ 1000) :
    Calls Tryd.prog 49 #[.string body, v] w fun e w' => e = .returned (.string (noteOf body l)) ∧ Below w.heap.size w w' := by
  obtain ⟨a, c, rfl, hcl⟩ := hr
  have HCL : Hid _ := hcl
  have HG : Hid _ := hg
  clear hcl hg
  obtain ⟨R, HR⟩ : ∃ R, Hid (noteOf body l = R) := ⟨_, rfl⟩
  have HSZ : Hid (∀ k, k ≤ l.length → (noteOf body (l.take k)).size ≤ 140737488355328) := by
    intro k hk
    have e := congrArg lnL (List.take_append_drop k l)
    rw [lnL_app] at e
    rw [note_sz] at hs ⊢
    omega
  rw [HR.out]
  obtain ⟨n, HN⟩ : ∃ n, Hid (l.length = n) := ⟨_, rfl⟩
  have hzn : n ≤ 1000000 := by rw [← HN.out]; exact hz
  rw [HN.out] at HSZ ⊢
  clear hz hs
  obtain ⟨q, HQ⟩ : ∃ q, Hid (body ++ (⟨#[10]⟩ : ByteArray) = q) := ⟨_, rfl⟩
  have hq : body ++ (⟨#[10]⟩ : ByteArray) = q := HQ.out
  have hqz : q.size = body.size + 1 := by rw [← hq, ByteArray.size_append]; rfl
  obtain ⟨v0, w0, hcv, ho0, hb1⟩ := ofString w q (by omega)
  have HO0 : Hid (OwB w0 w.heap.size v0 q) := ho0
  have HB0 : Hid (Below w.heap.size w w0) := hb1
  clear ho0 hb1
  have HQ0 : Hid (noteOf body (l.take 0) = q) := by show _ = _; rw [← hq]; unfold noteOf; simp only [List.take_zero, List.map_nil, flatB, ByteArray.append_empty]
  go_enter Tryd.func49, Tryd.ntmps49
  go_wp2
  go_loopw [5, 6] (fun b i wr => ∃ k : Nat, k ≤ n ∧ i = .int .i64 k ∧ OwB wr w.heap.size b (noteOf body (l.take k)) ∧ Hid (Below w.heap.size w wr)) (fun _ i _ => (n - intOf i).toNat)
  case atStart => exact ⟨0, by omega, rfl, by rw [HQ0.out]; exact HO0.out, HB0⟩
  case round =>
    clear hcv HO0 HB0
    obtain ⟨k, hk, rfl, ho, HB⟩ := hrel
    obtain ⟨gg, cap, hv⟩ := ho.form
    have HO : Hid (OwB wr w.heap.size _ (noteOf body (l.take k))) := ho
    clear ho
    by_cases hlt : k < n
    · have hlt' : (k : Int) < n := by omega
      have hkl : k < l.length := by rw [HN.out]; exact hlt
      obtain ⟨b, off, rfl, hbw, hc⟩ : ∃ b off, a = some ⟨b, off, none⟩ ∧ b < w.heap.size ∧ ∀ i g, l[i]? = some g → w.cell? ⟨b, off + i * 3, none⟩ = some (.string g.name) ∧ w.cell? ⟨b, off + i * 3 + 1, none⟩ = some (.string g.id) ∧ w.cell? ⟨b, off + i * 3 + 2, none⟩ = some (.string g.mac) := by
        rcases HCL.out with h | h
        · omega
        · exact h
      obtain ⟨x, HX⟩ : ∃ x, Hid (l[k]'hkl = x) := ⟨_, rfl⟩
      obtain ⟨q1, q2, q3⟩ := hc k x (by rw [List.getElem?_eq_getElem hkl, HX.out])
      have c1 := (HB.out.cell (p := ⟨b, off + k * 3, none⟩) hbw).trans q1
      have c2 := (HB.out.cell (p := ⟨b, off + k * 3 + 1, none⟩) hbw).trans q2
      have c3 := (HB.out.cell (p := ⟨b, off + k * 3 + 2, none⟩) hbw).trans q3
      have hxg := HG.out x (by rw [← HX.out]; exact List.getElem_mem hkl)
      have D : Hid (Calls _ _ _ _ _) := lineD x hxg.1 hxg.2 wr
      have HNX : Hid (noteOf body (l.take (k + 1)) = noteOf body (l.take k) ++ lineOf x) := by show _ = _; rw [take_snoc l k hkl, HX.out, note_snoc]
      have hsz := HSZ.out (k + 1) (by omega)
      rw [HNX.out, ByteArray.size_append] at hsz
      clear hc q1 q2 q3 HX hxg
      obtain ⟨P0, HP0⟩ : ∃ P0, Hid (noteOf body (l.take k) = P0) := ⟨_, rfl⟩
      obtain ⟨P1, HP1⟩ : ∃ P1, Hid (noteOf body (l.take (k + 1)) = P1) := ⟨_, rfl⟩
      obtain ⟨L, HL⟩ : ∃ L, Hid (lineOf x = L) := ⟨_, rfl⟩
      rw [HP0.out, HL.out] at hsz
      rw [HP0.out, HP1.out, HL.out] at HNX
      rw [HP0.out] at HO hv
      rw [HL.out] at D
      obtain ⟨xn, xi, xm⟩ := x
      simp only at c1 c2 c3 D
      subst hv
      go_wp2_with fail
      refine D.out.mono ?_
      rintro e w1 ⟨rfl, hb1⟩
      have HO1 : Hid (OwB w1 w.heap.size (.slice (some ⟨gg, 0, none⟩) P0.size cap) P0) := HO.out.later hb1
      have B1 : Hid (Below w.heap.size w w1) := HB.out.trans (hb1.mono HB.out.size)
      clear hb1
      go_wp2_with (at_builtin; refine wpList_appB rfl (.tmp 22) (.tmp 23) rfl w.heap.size _ P0 L rfl HO1.out rfl (by omega) B1.out.size ?_; intro v2 w2 ho2 hb2; have HO2 : Hid (OwB w2 w.heap.size v2 (P0 ++ L)) := ho2; have B2 : Hid (Below w.heap.size w w2) := B1.out.trans hb2; clear ho2 hb2)
      go_roundw
      case rel => exact ⟨k + 1, by omega, by go_num, by rw [HP1.out, HNX.out]; exact HO2.out, B2⟩
      case measure => simp [intOf]; omega
    · have hlt' : ¬ (k : Int) < n := by omega
      have HEN : Hid (noteOf body (l.take k) = R) := by show _ = _; rw [← HR.out, List.take_of_length_le (by rw [HN.out]; omega)]
      rw [HEN.out] at HO hv
      have hcv := toString wr w.heap.size _ R HO.out
      subst hv
      go_wp2
      go_ret
      exact ⟨rfl, HB.out⟩
end Go.Proofs.YthgieagebcjafaaDoor.o9

namespace Go.Proofs.YthgieagebcjafaaDoor.p1
open Go.RowKit Go.PlainAid Go.Shelf
open Go.Proofs.YthgieagebcjafaaDoor.pj Go.Proofs.YthgieagebcjafaaDoor.rf Go.Proofs.YthgieagebcjafaaDoor.mo Go.Proofs.YthgieagebcjafaaDoor.nd Go.Proofs.YthgieagebcjafaaDoor.nh Go.Proofs.YthgieagebcjafaaDoor.tb Go.Proofs.YthgieagebcjafaaDoor.tc Go.Proofs.YthgieagebcjafaaDoor.tj Go.Proofs.YthgieagebcjafaaDoor.n1 Go.Proofs.YthgieagebcjafaaDoor.n3 Go.Proofs.YthgieagebcjafaaDoor.n4 Go.Proofs.YthgieagebcjafaaDoor.o1 Go.Proofs.YthgieagebcjafaaDoor.o3 Go.Proofs.YthgieagebcjafaaDoor.o4 Go.Proofs.YthgieagebcjafaaDoor.o5 Go.Proofs.YthgieagebcjafaaDoor.o6 Go.Proofs.YthgieagebcjafaaDoor.o7 Go.Proofs.YthgieagebcjafaaDoor.o8 Go.Proofs.YthgieagebcjafaaDoor.o9 Go.Proofs.YthgieagebcjafaaDoor.kp
set_option linter.unusedVariables false
set_option maxRecDepth 4000

theorem nm_le (s : ByteArray) (h : nm s = true) : s.size ≤ 64 := by
  unfold nm at h
  rw [Bool.and_eq_true, Bool.and_eq_true] at h
  exact of_decide_eq_true h.1.2
theorem tg_nm (ks : List Ky) : ∀ d, tgF d ks = 0 → ∀ k ∈ ks, nm k.1 = true := by
  induction ks with
  | nil => intro d _ k hk; cases hk
  | cons y ks ih =>
    intro d h k hk
    unfold tgF at h
    by_cases hn : nm y.1 = false
    · rw [if_pos hn] at h; cases h
    · rw [if_neg hn] at h
      split at h
      · cases h
      · rcases List.mem_cons.1 hk with rfl | hk
        · simpa using hn
        · exact ih _ h k hk
theorem tg_step (d : List Sg) (ks : List Ky) (body : ByteArray) (n : Nat) (h : n < ks.length) : tgF d (ks.drop n) = if nm (ks[n]'h).1 = false then 203 else if amg d (sigOf ks[n] body) then 200 else tgF (d ++ [sigOf ks[n] body]) (ks.drop (n + 1)) := by
  rw [tg_drop d ks n h]
  rw [amg_eq d d (bare ks[n]) (sigOf ks[n] body) rfl (by simp only [bare, sigOf]) (by simp only [bare, sigOf]), tgF_eq _ (d ++ [bare ks[n]]) (d ++ [sigOf ks[n] body]) (by rw [List.map_append, List.map_append]; simp only [bare, sigOf, List.map_cons, List.map_nil])]
theorem ln_sz (ks : List Ky) (body : ByteArray) : lnL (ks.map (sigOf · body)) = szL ks := by
  rw [← lnL_size]; exact flat_size ks body
theorem sz_small (ks : List Ky) (h : ∀ k ∈ ks, nm k.1 = true) : szL ks ≤ ks.length * 118 := by
  induction ks with
  | nil => simp [szL]
  | cons k l ih =>
    have h1 := nm_le k.1 (h k (by simp))
    have h2 := ih (fun x hx => h x (by simp [hx]))
    simp only [szL, List.length_cons]
    omega
set_option maxHeartbeats 3200000 in
theorem signD (v : Value) (body : ByteArray) (ks : List Ky) (w : World) (hr : ReadsY w v ks) (hl : ks.length ≤ 140737488355328) (hb : body.size ≤ 140737488351232) (hs : ∀ k ∈ ks, k.1.size ≤ 140737488351232 ∧ k.2.size ≤ 140737488351232) (T : Hid (Tab4 w)) :
    Calls Tryd.prog 16 #[.string body, v] w fun e w' => e = .returned (signV body ks) ∧ Below w.heap.size w w' := by
  obtain ⟨a, c, rfl, _⟩ := id hr
  have HR : Hid (ReadsY w (.slice a ks.length c) ks) := hr
  have HS : Hid _ := hs
  clear hr hs
  obtain ⟨E, HE⟩ : ∃ E, Hid (signE body ks = E) := ⟨_, rfl⟩
  obtain ⟨X, HX⟩ : ∃ X, Hid (signT body ks = X) := ⟨_, rfl⟩
  have HX0 : Hid (E ≠ 0 → X = ByteArray.empty) := by intro h; rw [← HX.out]; unfold signT; rw [HE.out, if_neg h]
  have HX1 : Hid (E = 0 → X = noteOf body (ks.map (sigOf · body))) := by intro h; rw [← HX.out]; unfold signT; rw [HE.out, if_pos h]
  have HU := HE.out
  unfold signE at HU
  unfold signV
  rw [HE.out, HX.out]
  have C1 : Hid (Calls _ _ _ _ _) := goesD body (by omega) w
  obtain ⟨n, HN⟩ : ∃ n, Hid (ks.length = n) := ⟨_, rfl⟩
  rw [HN.out] at hl HU ⊢
  by_cases hg : goesB body = false
  · rw [if_pos hg] at HU
    have HEE : Hid (E = 200) := HU.symm
    have HXX : Hid (X = ByteArray.empty) := HX0.out (by rw [HEE.out]; decide)
    rw [hg] at C1
    clear HU hg
    go_enter Tryd.func16, Tryd.ntmps16
    go_wp2_with fail
    refine C1.out.mono ?_
    rintro e w1 ⟨rfl, hb1⟩
    have B1 : Hid (Below _ _ _) := hb1
    clear hb1
    go_wp2
    go_ret2
    exact ⟨by rw [HEE.out, HXX.out]; rfl, B1.out⟩
  · rw [if_neg hg] at HU
    have hgt : goesB body = true := by simpa using hg
    rw [hgt] at C1
    clear hg hgt
    by_cases h0 : n = 0
    · rw [if_pos h0] at HU
      have HEE : Hid (E = 82) := HU.symm
      have HXX : Hid (X = ByteArray.empty) := HX0.out (by rw [HEE.out]; decide)
      subst h0
      clear HU
      go_enter Tryd.func16, Tryd.ntmps16
      go_wp2_with fail
      refine C1.out.mono ?_
      rintro e w1 ⟨rfl, hb1⟩
      have B1 : Hid (Below _ _ _) := hb1
      clear hb1
      go_wp2
      go_ret2
      exact ⟨by rw [HEE.out, HXX.out]; rfl, B1.out⟩
    · rw [if_neg h0] at HU
      have g0 : ((n : Int) == 0) = false := beq_eq_false_iff_ne.2 (by omega)
      have g0' : ¬ (n : Int) = 0 := by omega
      by_cases h16 : 16 < n
      · rw [if_pos h16] at HU
        have HEE : Hid (E = 83) := HU.symm
        have HXX : Hid (X = ByteArray.empty) := HX0.out (by rw [HEE.out]; decide)
        have g1 : (n : Int) > 16 := by omega
        clear HU h0
        go_enter Tryd.func16, Tryd.ntmps16
        go_wp2_with fail
        refine C1.out.mono ?_
        rintro e w1 ⟨rfl, hb1⟩
        have B1 : Hid (Below _ _ _) := hb1
        clear hb1
        go_wp2
        go_ret2
        exact ⟨by rw [HEE.out, HXX.out]; rfl, B1.out⟩
      · rw [if_neg h16] at HU
        have g1 : ¬ (n : Int) > 16 := by omega
        have g2 : n ≤ 16 := by omega
        have HUU : Hid ((if tgF [] ks ≠ 0 then tgF [] ks else if 65536 < body.size + 1 + szL ks then 121 else 0) = E) := HU
        obtain ⟨R, HRR⟩ : ∃ R, Hid (tgF [] ks = R) := ⟨_, rfl⟩
        rw [HRR.out] at HUU
        have HREF : Hid (R ≠ 0 → E = R ∧ X = ByteArray.empty) := by
          intro h
          have h2 := HUU.out
          rw [if_pos h] at h2
          exact ⟨h2.symm, HX0.out (by rw [← h2]; exact h)⟩
        obtain ⟨i0, hi0, hi1, hi2, hi3⟩ := info_parts infoG
        have HI : Hid (Tryd.prog.info? 76 = some i0 ∧ i0.zero = some (.agg #[.string ⟨#[]⟩, .string ⟨#[]⟩, .string ⟨#[]⟩]) ∧ i0.size = 3 ∧ i0.bytes = 48) := ⟨hi0, hi1, hi2, hi3⟩
        clear hi0 hi1 hi2 hi3
        clear h0 h16 HU
        go_enter Tryd.func16, Tryd.ntmps16
        go_wp2_with fail
        refine C1.out.mono ?_
        rintro e w1 ⟨rfl, hb1⟩
        have B1 : Hid (Below w.heap.size w w1) := hb1
        clear hb1
        go_wp2
        go_loopw [7, 8] (fun sv i wr => ∃ (k : Nat) (sa : Option Addr) (sc : Nat), k ≤ n ∧ i = .int .i64 k ∧ sv = .slice sa k sc ∧ Hid (Lg w.heap.size (.slice sa k sc) ((ks.take k).map (sigOf · body)) wr ∧ Below w.heap.size w wr ∧ tgF ((ks.take k).map (sigOf · body)) (ks.drop k) = R)) (fun _ i _ => (n - intOf i).toNat)
        case atStart => exact ⟨0, none, 0, by omega, rfl, rfl, Lg.nil _ _, B1.out, HRR.out⟩
        case round =>
          obtain ⟨k, sa, sc, hk, rfl, rfl, HK⟩ := hrel
          by_cases hlt : k < n
          · have hlt' : (k : Int) < n := by omega
            have hkl : k < ks.length := by rw [HN.out]; exact hlt
            obtain ⟨y, HY⟩ : ∃ y, Hid (ks[k]'hkl = y) := ⟨_, rfl⟩
            obtain ⟨b, off, ha, hbw, c1, c2⟩ := (HR.out.later HK.out.2.1).at k y (by rw [List.getElem?_eq_getElem hkl, HY.out])
            subst ha
            have hzy := HS.out y (by rw [← HY.out]; exact List.getElem_mem hkl)
            have HT := HK.out.2.2
            rw [tg_step _ ks body k hkl, HY.out] at HT
            have HTT : Hid _ := HT
            have HLM : Hid (((ks.take k).map (sigOf · body)).length = k) := by show _ = _; rw [List.length_map, List.length_take]; omega
            have HSN : Hid ((ks.take (k + 1)).map (sigOf · body) = (ks.take k).map (sigOf · body) ++ [sigOf y body]) := by show _ = _; rw [take_snoc ks k hkl, HY.out, List.map_append]; rfl
            clear HT
            have C2 : Hid (∀ w, Calls _ _ _ _ _) := fun w => rName y.1 (by omega) w
            have BK : Hid (Below w.heap.size w wr) := HK.out.2.1
            obtain ⟨SL, HSL⟩ : ∃ SL, Hid ((ks.take k).map (sigOf · body) = SL) := ⟨_, rfl⟩
            have LK : Hid (Lg w.heap.size (.slice sa k sc) SL wr) := by rw [← HSL.out]; exact HK.out.1
            rw [HSL.out] at HTT HLM HSN
            obtain ⟨gy, HGY⟩ : ∃ gy, Hid (sigOf y body = gy) := ⟨_, rfl⟩
            have D1 : Hid (∀ w, Hid (Tab4 w) → Calls _ _ _ _ _) := fun w T => signatureD y body hzy.1 hzy.2 hb w T
            have HGC : Hid (gy.name = y.1 ∧ gy.id = kidF y.1 y.2 ∧ gy.mac = macF y.2 body) := by rw [← HGY.out]; exact ⟨rfl, rfl, rfl⟩
            rw [HGY.out] at HTT HSN
            rw [← HGC.out.2.1, ← HGC.out.2.2, ← HGC.out.1] at D1
            obtain ⟨kn, kx⟩ := y
            obtain ⟨gn, gi, gm⟩ := gy
            simp only at c1 c2 hzy C2 D1 HGC HTT
            have hgn : gn = kn := HGC.out.1
            subst hgn
            clear HGC
            by_cases hn : nm gn = true
            · rw [hn] at C2
              have HT2 : Hid ((if amg SL ⟨gn, gi, gm⟩ then 200 else tgF (SL ++ [⟨gn, gi, gm⟩]) (ks.drop (k + 1))) = R) := by
                have h9 := HTT.out
                rw [if_neg (show ¬ nm gn = false by rw [hn]; decide)] at h9
                exact h9
              clear hn HTT
              go_wp2_with fail
              refine (C2.out _).mono ?_
              rintro e w2 ⟨rfl, h2⟩
              rw [h2]
              clear h2 w2
              go_wp2_with fail
              refine (D1.out _ (T.out.down BK.out)).mono ?_
              rintro e w3 ⟨rfl, hb3⟩
              have B3 : Hid (Below wr.heap.size wr w3) := hb3
              clear hb3
              obtain ⟨W, HW⟩ : ∃ W, Hid (w3.alloc (.cells #[.string gn, .string gi, .string gm] 76) = W) := ⟨_, rfl⟩
              have BW : Hid (Below w3.heap.size w3 W) := by rw [← HW.out]; exact (Below.refl _ _).alloc (Nat.le_refl _) _
              have hlW : w3.heap.size < W.heap.size := by rw [← HW.out]; simp
              have hWc : W.cell? ⟨w3.heap.size, 0, none⟩ = some (.string gn) ∧ W.cell? ⟨w3.heap.size, 1, none⟩ = some (.string gi) ∧ W.cell? ⟨w3.heap.size, 2, none⟩ = some (.string gm) := by
                rw [← HW.out]; exact ⟨by rw [World.cell?_alloc_at _ _ _ _ rfl]; rfl, by rw [World.cell?_alloc_at _ _ _ _ rfl]; rfl, by rw [World.cell?_alloc_at _ _ _ _ rfl]; rfl⟩
              obtain ⟨d0, d1, d2⟩ := hWc
              have BWr : Hid (Below wr.heap.size wr W) := B3.out.trans (BW.out.mono B3.out.size)
              have LW : Hid (Lg w.heap.size (.slice sa k sc) SL W) := LK.out.later BWr.out
              have C3 : Hid (Calls _ _ _ _ _) := amongD (.slice sa k sc) SL ⟨gn, gi, gm⟩ W LW.out.reads (by rw [HLM.out]; omega)
              simp only at C3
              generalize amg SL ⟨gn, gi, gm⟩ = m at *
              go_wp2_with fail
              rw [HW.out]
              go_wp2_with fail
              refine C3.out.mono ?_
              rintro e w4 ⟨rfl, hb4⟩
              have e0 := (hb4.cell (p := ⟨w3.heap.size, 0, none⟩) hlW).trans d0
              have e1 := (hb4.cell (p := ⟨w3.heap.size, 1, none⟩) hlW).trans d1
              have e2 := (hb4.cell (p := ⟨w3.heap.size, 2, none⟩) hlW).trans d2
              have B4 : Hid (Below wr.heap.size wr w4) := BWr.out.trans (hb4.mono BWr.out.size)
              have L4 : Hid (Lg w.heap.size (.slice sa k sc) SL w4) := LW.out.later hb4
              have B4w : Hid (Below w.heap.size w w4) := BK.out.trans (B4.out.mono BK.out.size)
              clear hb4 C3 d0 d1 d2
              cases m
              · have HT3 : Hid (tgF ((ks.take (k + 1)).map (sigOf · body)) (ks.drop (k + 1)) = R) := by show _ = _; rw [HSN.out, ← HT2.out]; rfl
                have HOA : Hid ((w4.alloc (.cells #[.string gn, .string gi, .string gm] 76)).ownsRow w.heap.size 76 3 (.slice sa k sc) k (gcs SL)) := by
                  have := L4.out
                  unfold Lg at this
                  rw [HLM.out] at this
                  exact this.alloc _
                have B4A : Hid (Below w.heap.size w (w4.alloc (.cells #[.string gn, .string gi, .string gm] 76))) := B4w.out.alloc B4w.out.size _
                go_wp2_with (at_builtin; refine wpList_append_own _ rfl (.tmp 46) (.tmp 48) 48 rfl w.heap.size 76 i0 (.agg #[.string ⟨#[]⟩, .string ⟨#[]⟩, .string ⟨#[]⟩]) 3 48 Tryd.underlying48 HI.out.1 HI.out.2.1 HI.out.2.2.1 HI.out.2.2.2 rfl (by decide) (.slice sa k sc) k _ rfl HOA.out ⟨w4.heap.size, 0, none⟩ 1 1 [.string gn, .string gi, .string gm] rfl rfl (new_three _ _ _ _ _) (one_three _ _ _) (by unfold maxLen; omega) (by omega) B4A.out.size ?_; intro v5 w5 hown5 hgr5 hnn5; have HO5 : Hid (w5.ownsRow w.heap.size 76 3 v5 (k + 1) (gcs SL ++ [.string gn, .string gi, .string gm])) := hown5; have B5 : Hid (Below w.heap.size w w5) := B4A.out.grown hgr5 B4A.out.size (fun j hj => (HOA.out.lt _ hj).1); clear hown5 hgr5 hnn5)
                go_roundw
                case rel =>
                  obtain ⟨a5, c5, hv5⟩ : ∃ a5 c5, v5 = .slice a5 (k + 1) c5 := by
                    rcases HO5.out.2 with ⟨rfl, h0⟩ | ⟨g, cap, cur, rfl, _⟩
                    · omega
                    · exact ⟨_, cap, rfl⟩
                  refine ⟨k + 1, a5, c5, by omega, by go_num, hv5, ?_, B5.out, HT3.out⟩
                  rw [← hv5, HSN.out]
                  unfold Lg
                  rw [List.length_append, HLM.out, gcs_app]
                  exact HO5.out
                case measure => simp [intOf]; omega
              · have HT3 : Hid (R = 200) := by show _ = _; rw [← HT2.out]; rfl
                obtain ⟨hE, hX⟩ := HREF.out (by rw [HT3.out]; decide)
                have HEE : Hid (E = 200) := hE.trans HT3.out
                have HXX : Hid (X = ByteArray.empty) := hX
                clear hE hX
                go_wp2
                go_ret2
                exact ⟨by rw [HEE.out, HXX.out]; rfl, B4w.out⟩
            · have hf : nm gn = false := by simpa using hn
              rw [hf] at C2
              have HT3 : Hid (R = 203) := by show _ = _; rw [← HTT.out, if_pos hf]
              obtain ⟨hE, hX⟩ := HREF.out (by rw [HT3.out]; decide)
              have HEE : Hid (E = 203) := hE.trans HT3.out
              have HXX : Hid (X = ByteArray.empty) := hX
              clear hE hX hn hf
              go_wp2_with fail
              refine (C2.out _).mono ?_
              rintro e w2 ⟨rfl, h2⟩
              rw [h2]
              clear h2 w2
              go_wp2
              go_ret2
              exact ⟨by rw [HEE.out, HXX.out]; rfl, BK.out⟩
          · have hlt' : ¬ (k : Int) < n := by omega
            have hkn : k = n := by omega
            have HT0 : Hid (R = 0) := by
              show _ = _
              rw [← HK.out.2.2, List.drop_of_length_le (by rw [HN.out]; omega)]
              rfl
            have HSL : Hid ((ks.take k).map (sigOf · body) = ks.map (sigOf · body)) := by show _ = _; rw [List.take_of_length_le (by rw [HN.out]; omega)]
            have LK : Hid (Lg w.heap.size (.slice sa k sc) (ks.map (sigOf · body)) wr) := by rw [← HSL.out]; exact HK.out.1
            have hnm := tg_nm ks [] (HRR.out.trans HT0.out)
            have hsm := sz_small ks hnm
            rw [HN.out] at hsm
            have hnz : (noteOf body (ks.map (sigOf · body))).size = body.size + 1 + szL ks := by rw [note_sz, ln_sz]
            have C5 : Hid (Calls _ _ _ _ _) := writtenD body (.slice sa k sc) (ks.map (sigOf · body)) wr LK.out.reads (by rw [List.length_map, HN.out]; omega) (by rw [hnz]; omega) (by omega) (fun g hg => by
              obtain ⟨y, hy, rfl⟩ := List.mem_map.1 hg
              refine ⟨(HS.out y hy).1, ?_⟩
              show (kidF _ _).size + (macF _ _).size ≤ 1000
              rw [kid_size, macF_size]; omega)
            have BK : Hid (Below w.heap.size w wr) := HK.out.2.1
            have HUV : Hid ((if 65536 < body.size + 1 + szL ks then (121 : Int) else 0) = E) := by show _ = _; rw [← HUU.out, HT0.out]; rfl
            obtain ⟨NT, HNT⟩ : ∃ NT, Hid (noteOf body (ks.map (sigOf · body)) = NT) := ⟨_, rfl⟩
            have HXN : Hid (E = 0 → X = NT) := by rw [← HNT.out]; exact HX1.out
            have hz : NT.size = body.size + 1 + szL ks := by rw [← HNT.out]; exact hnz
            rw [← hz] at HUV
            have hz9 : NT.size ≤ 140737488355328 := by rw [hz]; omega
            rw [HNT.out] at C5
            clear hnm hsm hnz hkn hz HSL HUU
            by_cases hbig : 65536 < NT.size
            · have g3 : (NT.size : Int) > 65536 := by omega
              have HEE : Hid (E = 121) := by show _ = _; rw [← HUV.out, if_pos hbig]
              have HXX : Hid (X = ByteArray.empty) := HX0.out (by rw [HEE.out]; decide)
              clear hbig HUV
              go_wp2_with fail
              refine C5.out.mono ?_
              rintro e w6 ⟨rfl, hb6⟩
              have B6 : Hid (Below w.heap.size w w6) := over BK.out hb6
              clear hb6
              go_wp2
              go_ret2
              exact ⟨by rw [HEE.out, HXX.out]; rfl, B6.out⟩
            · have g3 : ¬ (NT.size : Int) > 65536 := by omega
              have HEE : Hid (E = 0) := by show _ = _; rw [← HUV.out, if_neg hbig]
              have HXX : Hid (X = NT) := HXN.out HEE.out
              clear hbig HUV
              go_wp2_with fail
              refine C5.out.mono ?_
              rintro e w6 ⟨rfl, hb6⟩
              have B6 : Hid (Below w.heap.size w w6) := over BK.out hb6
              clear hb6
              go_wp2
              go_ret2
              exact ⟨by rw [HEE.out, HXX.out]; rfl, B6.out⟩
end Go.Proofs.YthgieagebcjafaaDoor.p1

namespace Go.Proofs.YthgieagebcjafaaDoor.p2
open Go.RowKit Go.PlainAid Go.Shelf
open Go.Proofs.YthgieagebcjafaaDoor.ft Go.Proofs.YthgieagebcjafaaDoor.pj Go.Proofs.YthgieagebcjafaaDoor.rf Go.Proofs.YthgieagebcjafaaDoor.mo Go.Proofs.YthgieagebcjafaaDoor.nd Go.Proofs.YthgieagebcjafaaDoor.nh Go.Proofs.YthgieagebcjafaaDoor.tb Go.Proofs.YthgieagebcjafaaDoor.tc Go.Proofs.YthgieagebcjafaaDoor.tj Go.Proofs.YthgieagebcjafaaDoor.n1 Go.Proofs.YthgieagebcjafaaDoor.n3 Go.Proofs.YthgieagebcjafaaDoor.n4 Go.Proofs.YthgieagebcjafaaDoor.o1 Go.Proofs.YthgieagebcjafaaDoor.o3 Go.Proofs.YthgieagebcjafaaDoor.o4 Go.Proofs.YthgieagebcjafaaDoor.o5 Go.Proofs.YthgieagebcjafaaDoor.o6 Go.Proofs.YthgieagebcjafaaDoor.o7 Go.Proofs.YthgieagebcjafaaDoor.o8 Go.Proofs.YthgieagebcjafaaDoor.o9 Go.Proofs.YthgieagebcjafaaDoor.p1 Go.Proofs.YthgieagebcjafaaDoor.kp
set_option linter.unusedVariables false
set_option maxRecDepth 4000

-- rows of keys of one's own
def kc (k : Ky) : List Value := [.string k.1, .string k.2]
def kcs (l : List Ky) : List Value := l.flatMap kc
theorem kcs_app (l l' : List Ky) : kcs (l ++ l') = kcs l ++ kcs l' := by simp [kcs]
theorem kcs_len (l : List Ky) : (kcs l).length = l.length * 2 := by
  induction l with
  | nil => rfl
  | cons p l ih => simp only [kcs, List.flatMap_cons, List.length_append, List.length_cons] at ih ⊢; rw [ih]; simp [kc]; omega
theorem kcs_at (l : List Ky) (j : Nat) (p : Ky) (h : l[j]? = some p) : (kcs l)[j * 2]? = some (.string p.1) ∧ (kcs l)[j * 2 + 1]? = some (.string p.2) := by
  induction l generalizing j with
  | nil => simp at h
  | cons q l ih =>
    cases j with
    | zero =>
      simp at h
      subst h
      exact ⟨rfl, rfl⟩
    | succ j =>
      have := ih j (by simpa using h)
      have e1 : (j + 1) * 2 = j * 2 + 2 := by omega
      rw [e1]
      exact this
theorem kcs_one (l : List Ky) : ∀ u ∈ kcs l, u.oneCell' = true := by
  intro u hu
  unfold kcs at hu
  obtain ⟨k, _, hk⟩ := List.mem_flatMap.1 hu
  simp only [kc, List.mem_cons, List.not_mem_nil, or_false] at hk
  rcases hk with rfl | rfl <;> rfl
theorem kcs_cells {w : World} {b off : Nat} {l : List Ky} (h : ∀ i st, l[i]? = some st → w.cell? ⟨b, off + i * 2, none⟩ = some (.string st.1) ∧ w.cell? ⟨b, off + i * 2 + 1, none⟩ = some (.string st.2)) :
    ∀ j u, (kcs l)[j]? = some u → w.cell? ((⟨b, off, none⟩ : Addr).add j) = some u := by
  intro j u hj
  have hjl : j < l.length * 2 := by have := (List.getElem?_eq_some_iff.1 hj).1; rw [kcs_len] at this; exact this
  obtain ⟨i, hi⟩ : ∃ i, j = i * 2 ∨ j = i * 2 + 1 := ⟨j / 2, by omega⟩
  have hil : i < l.length := by omega
  obtain ⟨k1, k2⟩ := kcs_at l i l[i] (List.getElem?_eq_getElem hil)
  obtain ⟨h1, h2⟩ := h i l[i] (List.getElem?_eq_getElem hil)
  rw [Addr.add_mid]
  rcases hi with rfl | rfl
  · rw [k1] at hj; rw [h1]; exact hj
  · rw [k2] at hj; rw [← Nat.add_assoc, h2]; exact hj
abbrev Lk (B : Nat) (v : Value) (r : List Ky) (w : World) : Prop := w.ownsRow B 27 2 v r.length (kcs r)
theorem Lk.cells {B g cap n : Nat} {r : List Ky} {w : World} (o : Lk B (.slice (some ⟨g, 0, none⟩) n cap) r w) : n = r.length ∧ r.length ≤ cap ∧ g < w.heap.size ∧ B ≤ g ∧ (∀ j, w.frozen? ⟨g, j, none⟩ = false) ∧ ∀ i p, r[i]? = some p → w.cell? ⟨g, i * 2, none⟩ = some (.string p.1) ∧ w.cell? ⟨g, i * 2 + 1, none⟩ = some (.string p.2) := by
  rcases o.2 with ⟨h, _⟩ | ⟨g', cap', cur, e, h2, h3, h4, h5, h6, h7⟩
  · cases h
  · injection e with e1 e2 e3
    injection e1 with e4
    injection e4 with e5
    subst e5 e3
    refine ⟨e2, h4, (Array.getElem?_eq_some_iff.1 h3).1, h2, fun j => frozen_of_row _ _ _ _ _ h3, fun i p hi => ?_⟩
    have hl := (List.getElem?_eq_some_iff.1 hi).1
    obtain ⟨s1, s2⟩ := kcs_at r i p hi
    rw [← h7, List.getElem?_take_of_lt (by omega)] at s1 s2
    refine ⟨?_, ?_⟩
    · rw [cell_of_row _ _ _ _ _ _ h3]; simpa using s1
    · rw [cell_of_row _ _ _ _ _ _ h3]; simpa using s2
def behind : ByteArray := ⟨#[98, 101, 104, 105, 110, 100]⟩
def another : ByteArray := ⟨#[97, 110, 111, 116, 104, 101, 114]⟩
theorem new_two (W : World) (a b : Value) (t : TypeId) : ∀ (j : Nat) (u : Value), [a, b][j]? = some u → (W.alloc (.cells #[a, b] t)).cell? (Addr.add ⟨W.heap.size, 0, none⟩ j) = some u := by
  intro j y h
  have hb : (W.alloc (.cells #[a, b] t)).heap[W.heap.size]? = some (.cells #[a, b] t (0, 0)) := heap_alloc_new W _
  have e : (Addr.add ⟨W.heap.size, 0, none⟩ j) = ⟨W.heap.size, j, none⟩ := by simp [Addr.add]; omega
  rw [e, cell_of_row _ _ j _ _ _ hb]
  simpa using h
theorem one_two (a b : ByteArray) : ∀ u ∈ [Value.string a, .string b], u.oneCell' = true := by
  intro u hu; simp only [List.mem_cons, List.not_mem_nil, or_false] at hu; rcases hu with rfl | rfl <;> rfl
set_option maxHeartbeats 1600000 in
theorem keysC (v : Value) (ks : List Ky) (w : World) (hr : ReadsY w v ks) (hz : ks.length * 32 ≤ 140737488351232) :
    Calls Tryd.prog 14 #[v] w fun e w' => (∃ g cap, e = .returned (.slice (some ⟨g, 0, none⟩) (ks.length + 1) cap) ∧ Lk w.heap.size (.slice (some ⟨g, 0, none⟩) (ks.length + 1) cap) (ks ++ [(behind, ByteArray.empty)]) w') ∧ Below w.heap.size w w' := by
  obtain ⟨i0, hi0, hi1, hi2, hi3⟩ := info_parts infoY
  have HI : Hid (Tryd.prog.info? 27 = some i0 ∧ i0.zero = some (.agg #[.string ⟨#[]⟩, .string ⟨#[]⟩]) ∧ i0.size = 2 ∧ i0.bytes = 32) := ⟨hi0, hi1, hi2, hi3⟩
  clear hi0 hi1 hi2 hi3
  have HLK : Hid (kcs (ks ++ [(behind, ByteArray.empty)]) = kcs ks ++ [.string ⟨#[98, 101, 104, 105, 110, 100]⟩, .string ⟨#[]⟩]) := by show _ = _; rw [kcs_app]; rfl
  have HLL : Hid ((ks ++ [(behind, ByteArray.empty)]).length = ks.length + 1) := by show _ = _; simp
  have FIN : Hid (∀ (v' : Value) (w' : World), w'.ownsRow w.heap.size 27 2 v' (ks.length + 1) (kcs ks ++ [.string ⟨#[98, 101, 104, 105, 110, 100]⟩, .string ⟨#[]⟩]) → ∃ g cap, v' = .slice (some ⟨g, 0, none⟩) (ks.length + 1) cap ∧ Lk w.heap.size (.slice (some ⟨g, 0, none⟩) (ks.length + 1) cap) (ks ++ [(behind, ByteArray.empty)]) w') := by
    intro v' w' h
    rcases id h.2 with ⟨_, h0⟩ | ⟨g, cap, cur, rfl, _⟩
    · omega
    · refine ⟨g, cap, rfl, ?_⟩
      unfold Lk
      rw [HLK.out, HLL.out]
      exact h
  obtain ⟨a, c, rfl, hcl, hno, hcc⟩ := hr
  obtain ⟨n, HN⟩ : ∃ n, Hid (ks.length = n) := ⟨_, rfl⟩
  rw [HN.out] at hz hcl hcc FIN ⊢
  have HKL : Hid ((kcs ks).length = n * 2) := by show _ = _; rw [kcs_len, HN.out]
  cases a with
  | none =>
    have hc0 := hno rfl
    subst hc0
    have hn0 : n = 0 := by omega
    subst hn0
    have HK0 : Hid (kcs ks = []) := List.length_eq_zero_iff.1 (by rw [HKL.out])
    have HO : Hid ((w.alloc (.cells #[.string ⟨#[98, 101, 104, 105, 110, 100]⟩, .string ⟨#[]⟩] 27)).ownsRow w.heap.size 27 2 (.slice none 0 0) 0 []) := World.ownsRow_nil _ _ _ _
    have BA : Hid (Below w.heap.size w (w.alloc (.cells #[.string ⟨#[98, 101, 104, 105, 110, 100]⟩, .string ⟨#[]⟩] 27))) := (Below.refl _ _).alloc (Nat.le_refl _) _
    rw [HK0.out] at FIN
    clear hcl hno hcc HKL HK0
    go_enter Tryd.func14, Tryd.ntmps14
    go_upto_region 2 with (fail)
    go_wp2_with (at_builtin; refine wpList_append_own _ rfl (.tmp 6) (.tmp 8) 39 rfl w.heap.size 27 i0 (.agg #[.string ⟨#[]⟩, .string ⟨#[]⟩]) 2 32 Tryd.underlying39 HI.out.1 HI.out.2.1 HI.out.2.2.1 HI.out.2.2.2 rfl (by decide) (.slice none 0 0) 0 _ rfl HO.out ⟨w.heap.size, 0, none⟩ 1 1 [.string ⟨#[98, 101, 104, 105, 110, 100]⟩, .string ⟨#[]⟩] rfl rfl (new_two _ _ _ _) (one_two _ _) (by unfold maxLen; omega) (by omega) BA.out.size ?_; intro v2 w2 hown2 hgr2 hnn2; have F2 : Hid _ := FIN.out v2 w2 hown2; have B2 : Hid (Below w.heap.size w w2) := BA.out.grown hgr2 BA.out.size (fun j hj => (HO.out.lt _ hj).1); clear hown2 hgr2 hnn2)
    go_ret
    obtain ⟨g, cap, rfl, h⟩ := F2.out
    exact ⟨⟨g, cap, rfl, h⟩, B2.out⟩
  | some p =>
    have HCC : Hid (∃ b off, p = ⟨b, off, none⟩ ∨ n = 0) := by
      rcases hcc with h | ⟨b, off, e, _⟩
      · exact ⟨0, 0, .inr h⟩
      · exact ⟨b, off, .inl (Option.some.inj e)⟩
    have HNW : Hid (∀ j u, (kcs ks)[j]? = some u → w.cell? (p.add j) = some u) := by
      rcases hcc with h | ⟨b, off, e, hh⟩
      · intro j u hj
        have := (List.getElem?_eq_some_iff.1 hj).1
        rw [HKL.out] at this
        omega
      · rw [Option.some.inj e]; exact kcs_cells hh
    have HO0 : Hid (w.ownsRow w.heap.size 27 2 (.slice none 0 0) 0 []) := World.ownsRow_nil _ _ _ _
    clear hcl hno hcc HCC
    go_enter Tryd.func14, Tryd.ntmps14
    go_upto_region 2 with (at_builtin; refine wpList_append_own _ rfl _ _ 39 rfl w.heap.size 27 i0 (.agg #[.string ⟨#[]⟩, .string ⟨#[]⟩]) 2 32 Tryd.underlying39 HI.out.1 HI.out.2.1 HI.out.2.2.1 HI.out.2.2.2 rfl (by decide) (.slice none 0 0) 0 [] rfl HO0.out p n c (kcs ks) rfl HKL.out HNW.out (kcs_one _) (by unfold maxLen; omega) (by omega) (Nat.le_refl _) ?_; intro v1 w1 hown1 hgr1 hnn1; have HO1 : Hid (w1.ownsRow w.heap.size 27 2 v1 (0 + n) ([] ++ kcs ks)) := hown1; have B1 : Hid (Below w.heap.size w w1) := (Below.refl _ _).grown hgr1 (Nat.le_refl _) (fun j hj => (HO0.out.lt _ hj).1); clear hown1 hgr1 hnn1)
    obtain ⟨a1, c1, hv1⟩ : ∃ a1 c1, v1 = .slice a1 n c1 := by
      rcases HO1.out.2 with ⟨rfl, h0⟩ | ⟨g, cap, cur, rfl, _⟩
      · exact ⟨none, 0, by rw [← h0, Nat.zero_add]⟩
      · exact ⟨_, cap, by rw [Nat.zero_add]⟩
    subst hv1
    have HOA : Hid ((w1.alloc (.cells #[.string ⟨#[98, 101, 104, 105, 110, 100]⟩, .string ⟨#[]⟩] 27)).ownsRow w.heap.size 27 2 (.slice a1 n c1) n (kcs ks)) := by
      have := HO1.out
      rw [Nat.zero_add, List.nil_append] at this
      exact this.alloc _
    have BA : Hid (Below w.heap.size w (w1.alloc (.cells #[.string ⟨#[98, 101, 104, 105, 110, 100]⟩, .string ⟨#[]⟩] 27))) := B1.out.alloc B1.out.size _
    go_wp2_with (at_builtin; refine wpList_append_own _ rfl (.tmp 6) (.tmp 8) 39 rfl w.heap.size 27 i0 (.agg #[.string ⟨#[]⟩, .string ⟨#[]⟩]) 2 32 Tryd.underlying39 HI.out.1 HI.out.2.1 HI.out.2.2.1 HI.out.2.2.2 rfl (by decide) (.slice a1 n c1) n _ rfl HOA.out ⟨w1.heap.size, 0, none⟩ 1 1 [.string ⟨#[98, 101, 104, 105, 110, 100]⟩, .string ⟨#[]⟩] rfl rfl (new_two _ _ _ _) (one_two _ _) (by unfold maxLen; omega) (by omega) BA.out.size ?_; intro v2 w2 hown2 hgr2 hnn2; have F2 : Hid _ := FIN.out v2 w2 hown2; have B2 : Hid (Below w.heap.size w w2) := BA.out.grown hgr2 BA.out.size (fun j hj => (HOA.out.lt _ hj).1); clear hown2 hgr2 hnn2)
    go_ret
    obtain ⟨g, cap, rfl, h⟩ := F2.out
    exact ⟨⟨g, cap, rfl, h⟩, B2.out⟩
end Go.Proofs.YthgieagebcjafaaDoor.p2

namespace Go.Proofs.YthgieagebcjafaaDoor.p3
open Go.RowKit Go.PlainAid Go.Shelf
open Go.Proofs.YthgieagebcjafaaDoor.pl Go.Proofs.YthgieagebcjafaaDoor.ft Go.Proofs.YthgieagebcjafaaDoor.pj Go.Proofs.YthgieagebcjafaaDoor.rf Go.Proofs.YthgieagebcjafaaDoor.mo Go.Proofs.YthgieagebcjafaaDoor.nd Go.Proofs.YthgieagebcjafaaDoor.nh Go.Proofs.YthgieagebcjafaaDoor.n1 Go.Proofs.YthgieagebcjafaaDoor.n3 Go.Proofs.YthgieagebcjafaaDoor.n4 Go.Proofs.YthgieagebcjafaaDoor.o1 Go.Proofs.YthgieagebcjafaaDoor.o3 Go.Proofs.YthgieagebcjafaaDoor.o4 Go.Proofs.YthgieagebcjafaaDoor.o5 Go.Proofs.YthgieagebcjafaaDoor.o6 Go.Proofs.YthgieagebcjafaaDoor.o7 Go.Proofs.YthgieagebcjafaaDoor.o8 Go.Proofs.YthgieagebcjafaaDoor.o9 Go.Proofs.YthgieagebcjafaaDoor.p1 Go.Proofs.YthgieagebcjafaaDoor.p2 Go.Proofs.YthgieagebcjafaaDoor.kp
set_option linter.unusedVariables false
set_option maxRecDepth 4000

-- a row of keys at a place
def At (w : World) (g : Nat) (r : List Ky) : Prop := g < w.heap.size ∧ ∀ i p, r[i]? = some p → w.cell? ⟨g, i * 2, none⟩ = some (.string p.1) ∧ w.cell? ⟨g, i * 2 + 1, none⟩ = some (.string p.2)
theorem At.later {w w' : World} {g : Nat} {r : List Ky} (h : At w g r) (b : Below w.heap.size w w') : At w' g r :=
  ⟨Nat.lt_of_lt_of_le h.1 b.size, fun i p hi => ⟨(b.cell (p := ⟨g, i * 2, none⟩) h.1).trans (h.2 i p hi).1, (b.cell (p := ⟨g, i * 2 + 1, none⟩) h.1).trans (h.2 i p hi).2⟩⟩
theorem At.reads {w : World} {g cap : Nat} {r s : List Ky} (h : At w g (r ++ s)) (hc : r.length ≤ cap) : ReadsY w (.slice (some ⟨g, 0, none⟩) r.length cap) r := by
  refine ⟨_, cap, rfl, hc, (fun e => by cases e), .inr ⟨g, 0, rfl, fun i p hi => ?_⟩⟩
  have hl := (List.getElem?_eq_some_iff.1 hi).1
  rw [Nat.zero_add]
  exact h.2 i p (by rw [List.getElem?_append_left hl]; exact hi)
set_option maxHeartbeats 1600000 in
theorem keptC (g cap : Nat) (v : Value) (ks : List Ky) (w : World) (hf : At w g (ks ++ [(behind, ByteArray.empty)])) (hr : ReadsY w v ks) (hz : ks.length * 32 ≤ 140737488351232) :
    Calls Tryd.prog 17 #[.slice (some ⟨g, 0, none⟩) (ks.length + 1) cap, v] w fun e w' => e = .returned (.bool true) ∧ Below w.heap.size w w' := by
  obtain ⟨a, c, rfl, _⟩ := id hr
  have HR : Hid (ReadsY w (.slice a ks.length c) ks) := hr
  have HF : Hid (At w g (ks ++ [(behind, ByteArray.empty)])) := hf
  obtain ⟨l1, l2⟩ := hf.2 ks.length (behind, ByteArray.empty) (by rw [List.getElem?_append_right (Nat.le_refl _), Nat.sub_self]; rfl)
  have l1' : w.cell? ⟨g, ks.length * 2, none⟩ = some (.string ⟨#[98, 101, 104, 105, 110, 100]⟩) := l1
  have l2' : w.cell? ⟨g, ks.length * 2 + 1, none⟩ = some (.string ⟨#[]⟩) := l2
  clear hf hr l1 l2
  obtain ⟨n, HN⟩ : ∃ n, Hid (ks.length = n) := ⟨_, rfl⟩
  rw [HN.out] at hz l1' l2' ⊢
  have hn0 : (n : Int) < (n : Int) + 1 := by omega
  have hn1 : ((n + 1 : Nat) : Int) = (n : Int) + 1 := by omega
  go_enter Tryd.func17, Tryd.ntmps17
  go_wp2
  go_loopw [6] (fun i wr => ∃ k : Nat, k ≤ n ∧ i = .int .i64 k ∧ Hid (Below w.heap.size w wr)) (fun i _ => (n - intOf i).toNat)
  case atStart => exact ⟨0, by omega, rfl, Below.refl _ _⟩
  case round =>
    obtain ⟨k, hk, rfl, HB⟩ := hrel
    by_cases hlt : k < n
    · have hlt' : (k : Int) < n := by omega
      have hlt2 : (k : Int) < (n : Int) + 1 := by omega
      have hkl : k < ks.length := by rw [HN.out]; exact hlt
      obtain ⟨y, HY⟩ : ∃ y, Hid (ks[k]'hkl = y) := ⟨_, rfl⟩
      obtain ⟨b, off, ha, hbw, c1, c2⟩ := (HR.out.later HB.out).at k y (by rw [List.getElem?_eq_getElem hkl, HY.out])
      subst ha
      obtain ⟨d1, d2⟩ := (HF.out.later HB.out).2 k y (by rw [List.getElem?_append_left hkl, List.getElem?_eq_getElem hkl, HY.out])
      have KN : Hid (∀ n, Below w.heap.size w (wr.drewN n)) := fun n => Go.Proofs.YthgieagebcjafaaDoor.tj.below_dN HB.out n
      obtain ⟨kn, kx⟩ := y
      simp only at c1 c2 d1 d2
      clear l1' l2'
      go_wp2_with fail
      go_quiet (fail)
      go_wp2
      go_roundw
      case rel => exact ⟨k + 1, by omega, by go_num, KN.out _⟩
      case measure => simp [intOf]; omega
    · have hlt' : ¬ (k : Int) < n := by omega
      go_wp2
      go_ret
      exact ⟨rfl, HB.out⟩
theorem sign_form (body : ByteArray) (ks : List Ky) : ∃ s n, signV body ks = .tuple #[.string s, .int .i64 n] := ⟨_, _, rfl⟩
theorem at_of {B g cap n : Nat} {r : List Ky} {w : World} (o : Lk B (.slice (some ⟨g, 0, none⟩) n cap) r w) : At w g r := ⟨o.cells.2.2.1, o.cells.2.2.2.2.2⟩
theorem at_set {w : World} {g : Nat} {k : Ky} {r : List Ky} (h : At w g (k :: r)) (x : ByteArray) : At (w.setCell ⟨g, 0, none⟩ (.string x)) g ((x, k.2) :: r) := by
  refine ⟨by simpa [World.setCell] using h.1, fun i p hi => ?_⟩
  cases i with
  | zero =>
    simp at hi
    subst hi
    have h0 := h.2 0 k rfl
    exact ⟨World.cell?_setCell_same _ _ _ h0.1, (World.cell?_setCell_other _ _ _ _ (by intro e; injection e with _ e2 _; omega)).trans h0.2⟩
  | succ i =>
    have h0 := h.2 (i + 1) p (by simpa using hi)
    exact ⟨(World.cell?_setCell_other _ _ _ _ (by intro e; injection e with _ e2 _; omega)).trans h0.1, (World.cell?_setCell_other _ _ _ _ (by intro e; injection e with _ e2 _; omega)).trans h0.2⟩
set_option maxHeartbeats 3200000 in
theorem law_sign (W0 : World) (body : ByteArray) (hb : body.size ≤ 140737488351232) (v : Value) (ks : List Ky) (hr : ReadsY W0 v ks) (hz : ks.length * 32 ≤ 140737488351232) (hs : ∀ k ∈ ks, k.1.size ≤ 140737488351232 ∧ k.2.size ≤ 140737488351232) (tabs : St8 W0 2 ∧ K64 W0 4 ∧ St8 W0 0 ∧ K64 W0 1) :
    Calls Tryd.prog 6 #[.string body, v] W0 fun e w' => e = .returned (.bool true) ∧ Below W0.heap.size W0 w' := by
  have T : Hid (Tab4 W0) := Tab4.of tabs
  clear tabs
  obtain ⟨a, c, rfl, _⟩ := id hr
  have HR : Hid (ReadsY W0 (.slice a ks.length c) ks) := hr
  have HS : Hid _ := hs
  have C1 : Hid (Calls _ _ _ _ _) := keysC (.slice a ks.length c) ks W0 hr hz
  have C2 : Hid (∀ w v, ReadsY w v ks → Tab4 w → Calls _ _ _ _ _) := fun w v h1 h2 => signC v body ks w h1 (by omega) hb hs h2.t
  have C3 : Hid (∀ w v, ReadsY w v ks → Tab4 w → Calls _ _ _ _ _) := fun w v h1 h2 => signD v body ks w h1 (by omega) hb hs h2
  have C4 : Hid (∀ w g cap v, At w g (ks ++ [(behind, ByteArray.empty)]) → ReadsY w v ks → Calls _ _ _ _ _) := fun w g cap v h1 h2 => keptC g cap v ks w h1 h2 hz
  obtain ⟨X, E, hXE⟩ := sign_form body ks
  rw [hXE] at C2 C3
  clear hXE hr hs
  obtain ⟨n, HN⟩ : ∃ n, Hid (ks.length = n) := ⟨_, rfl⟩
  have hzn : n * 32 ≤ 140737488351232 := by rw [← HN.out]; exact hz
  rw [HN.out] at C1 C4 ⊢
  clear hz
  go_enter Tryd.func6, Tryd.ntmps6
  go_wp2_with fail
  refine C1.out.mono ?_
  rintro e w1 ⟨⟨g, cap, rfl, hk1⟩, hb1⟩
  have hcap : n + 1 ≤ cap := by have := hk1.cells.2.1; simp at this; rw [HN.out] at this; exact this
  have hfz : ∀ j, w1.frozen? ⟨g, j, none⟩ = false := hk1.cells.2.2.2.2.1
  have HFZ : Hid (∀ j, w1.frozen? ⟨g, j, none⟩ = false) := hfz
  have A1 : Hid (At w1 g (ks ++ [(behind, ByteArray.empty)])) := at_of hk1
  have HGB : Hid (W0.heap.size ≤ g) := hk1.cells.2.2.2.1
  have B1 : Hid (Below W0.heap.size W0 w1) := hb1
  clear hk1 hb1 hfz
  have hcap' : (n : Int) ≤ cap := by omega
  have hcap0 : ¬ cap = 0 := by omega
  have R1 : Hid (ReadsY w1 (.slice (some ⟨g, 0, none⟩) n cap) ks) := by
    have := A1.out.reads (cap := cap) (by rw [HN.out]; omega)
    rw [HN.out] at this
    exact this
  have T1 : Hid (Tab4 w1) := T.out.down B1.out
  go_wp2_with fail
  refine (C2.out _ _ R1.out T1.out).mono ?_
  rintro e w2 ⟨rfl, hb2⟩
  have B2 : Hid (Below w1.heap.size w1 w2) := hb2
  clear hb2
  have B2w : Hid (Below W0.heap.size W0 w2) := over B1.out B2.out
  have R2 : Hid (ReadsY w2 (.slice a n c) ks) := by have := HR.out.later B2w.out; rw [HN.out] at this; exact this
  go_wp2_with fail
  refine (C3.out _ _ R2.out (T1.out.down B2.out)).mono ?_
  rintro e w3 ⟨rfl, hb3⟩
  have B3 : Hid (Below w1.heap.size w1 w3) := over B2.out hb3
  have B3w : Hid (Below W0.heap.size W0 w3) := over B1.out B3.out
  clear hb3
  have A3 : Hid (At w3 g (ks ++ [(behind, ByteArray.empty)])) := A1.out.later B3.out
  have R3 : Hid (ReadsY w3 (.slice a n c) ks) := by have := HR.out.later B3w.out; rw [HN.out] at this; exact this
  cases ks with
  | nil =>
    have hn0 : n = 0 := HN.out.symm
    subst hn0
    go_wp2_with (first | (go_at_call 8; refine (numC _ _).mono ?_; rintro e wz ⟨rfl, hz⟩; rw [hz]; clear hz wz) | (go_at_call 17; refine (C4.out w3 g cap _ A3.out R3.out).mono ?_; rintro e w4 ⟨rfl, hb4⟩; have B4 : Hid (Below W0.heap.size W0 w4) := over B3w.out hb4; have A4 : Hid (At w4 g [(behind, ByteArray.empty)]) := A3.out.later hb4; have R4 : Hid (ReadsY w4 (.slice a 0 c) []) := R3.out.later hb4; clear hb4) | (go_at_call 17; refine (C4.out w4 g cap _ A4.out R4.out).mono ?_; rintro e w5 ⟨rfl, hb5⟩; have B5 : Hid (Below W0.heap.size W0 w5) := over B4.out hb5; clear hb5))
    go_ret
    exact ⟨rfl, B5.out⟩
  | cons k r =>
    have hn0 : ¬ (n : Int) = 0 := by have := HN.out; simp at this; omega
    have hnb : ((n : Int) == 0) = false := beq_eq_false_iff_ne.2 hn0
    have hnp : (0 : Int) < (n : Int) + 1 := by omega
    go_wp2_with (first | (go_at_call 8; refine (numC _ _).mono ?_; rintro e wz ⟨rfl, hz⟩; rw [hz]; clear hz wz) | (go_at_call 17; refine (C4.out w3 g cap _ A3.out R3.out).mono ?_; rintro e w4 ⟨rfl, hb4⟩; have B4 : Hid (Below w1.heap.size w1 w4) := over B3.out hb4; have A4 : Hid (At w4 g (k :: (r ++ [(behind, ByteArray.empty)]))) := A3.out.later hb4; have c0 := (A4.out.2 0 k rfl).1; have f0 : w4.frozen? ⟨g, 0, none⟩ = false := (B4.out.frozen (p := ⟨g, 0, none⟩) A1.out.1).trans (HFZ.out 0); clear hb4))
    obtain ⟨W5, HW5⟩ : ∃ W5, Hid (w4.setCell ⟨g, 0, none⟩ (.string another) = W5) := ⟨_, rfl⟩
    have hw5 : w4.setCell ⟨g, 0, none⟩ (.string ⟨#[97, 110, 111, 116, 104, 101, 114]⟩) = W5 := HW5.out
    have A5 : Hid (At W5 g (((another, k.2) :: r) ++ [(behind, ByteArray.empty)])) := by rw [← HW5.out]; exact at_set A4.out another
    have B4w : Hid (Below W0.heap.size W0 w4) := over B1.out B4.out
    have B5 : Hid (Below W0.heap.size W0 W5) := by rw [← HW5.out]; exact B4w.out.setCell HGB.out _
    have HN2 : Hid (((another, k.2) :: r).length = n) := HN.out
    have R5 : Hid (ReadsY W5 (.slice (some ⟨g, 0, none⟩) n cap) ((another, k.2) :: r)) := by
      have := A5.out.reads (cap := cap) (by rw [HN2.out]; omega)
      rw [HN2.out] at this
      exact this
    have HS2 : Hid (∀ x ∈ ((another, k.2) :: r), x.1.size ≤ 140737488351232 ∧ x.2.size ≤ 140737488351232) := by
      intro x hx
      rcases List.mem_cons.1 hx with rfl | hx
      · exact ⟨by show another.size ≤ 140737488351232; decide, (HS.out k (by simp)).2⟩
      · exact HS.out x (by simp [hx])
    have T5 : Hid (Tab4 W5) := T.out.down B5.out
    have C5 : Hid (Calls _ _ _ _ _) := signC (.slice (some ⟨g, 0, none⟩) n cap) body ((another, k.2) :: r) W5 R5.out (by rw [HN2.out]; omega) hb HS2.out T5.out.t
    have C6 : Hid (∀ w, Below W5.heap.size W5 w → Calls _ _ _ _ _) := fun w h => signD (.slice (some ⟨g, 0, none⟩) n cap) body ((another, k.2) :: r) w (R5.out.later h) (by rw [HN2.out]; omega) hb HS2.out (T5.out.down h)
    obtain ⟨X2, E2, hXE2⟩ := sign_form body ((another, k.2) :: r)
    rw [hXE2] at C5 C6
    clear hXE2 c0 f0
    rw [hw5]
    clear hw5
    go_wp2_with fail
    refine C5.out.mono ?_
    rintro e w6 ⟨rfl, hb6⟩
    have B6 : Hid (Below W5.heap.size W5 w6) := hb6
    clear hb6
    go_wp2_with fail
    refine (C6.out _ B6.out).mono ?_
    rintro e w7 ⟨rfl, hb7⟩
    have B7 : Hid (Below W0.heap.size W0 w7) := over (over B5.out B6.out) hb7
    clear hb7
    go_wp2_with (go_at_call 8; refine (numC _ _).mono ?_; rintro e wz ⟨rfl, hz⟩; rw [hz]; clear hz wz)
    go_ret
    exact ⟨rfl, B7.out⟩
end Go.Proofs.YthgieagebcjafaaDoor.p3
