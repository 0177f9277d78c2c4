import Derived.Shelf.Strings.Builder1
import Derived.Shelf.Strings.BuilderF
import Derived.Shelf.Strings.BuilderK
import Derived.Shelf.Pu.Clone
import Derived.Test.YtpbapaghcabehaaGreatDoorProg
import Derived.Test.YtpbapaghcabehaaGreatDoorH1
import Derived.Test.YtpbapaghcabehaaGreatDoorXA
import Derived.Test.YtpbapaghcabehaaGreatDoorXB
namespace Go.Proofs.YtpbapaghcabehaaGreatDoor.sb
open Go.Shelf
set_option linter.unusedVariables false
set_option maxRecDepth 4000
def ren : Go.Shelf.Ren := ⟨fun | 166 => 34 | 240 => 69 | 276 => 103 | 169 => 38 | 167 => 35 | n => n, fun | 0 => 0 | 3 => 3 | 4 => 4 | 5 => 5 | 9 => 9 | 20 => 20 | 37 => 61 | 70 => 68 | 72 => 70 | 75 => 72 | 76 => 73 | 80 => 80 | 164 => 134 | 127 => 108 | n => n, fun | n => n⟩
theorem lays166 : Go.Proofs.Lays.n166 Tryz.prog ren := {
  mixed := by kernel_rfl
  f166 := Tryz.func34.trans (congrArg some (by kernel_rfl))
  f240 := Tryz.func69.trans (congrArg some (by kernel_rfl))
  f276 := Tryz.func103.trans (congrArg some (by kernel_rfl))
  t0 := Tryz.underlying0
  a0 := Tryz.isAgg0
  z0 := Tryz.sizeOf0
  v0 := Tryz.zeroValue0
  t3 := Tryz.underlying3
  a3 := Tryz.isAgg3
  z3 := Tryz.sizeOf3
  v3 := Tryz.zeroValue3
  t4 := Tryz.underlying4
  a4 := Tryz.isAgg4
  z4 := Tryz.sizeOf4
  v4 := Tryz.zeroValue4
  t9 := Tryz.underlying9
  a9 := Tryz.isAgg9
  z9 := Tryz.sizeOf9
  v9 := Tryz.zeroValue9
  t20 := Tryz.underlying20
  a20 := Tryz.isAgg20
  z20 := Tryz.sizeOf20
  v20 := Tryz.zeroValue20
  t37 := Tryz.underlying61
  a37 := Tryz.isAgg61
  z37 := Tryz.sizeOf61
  v37 := Tryz.zeroValue61
  t70 := Tryz.underlying68
  a70 := Tryz.isAgg68
  z70 := Tryz.sizeOf68
  v70 := Tryz.zeroValue68
  t72 := Tryz.underlying70
  a72 := Tryz.isAgg70
  z72 := Tryz.sizeOf70
  v72 := Tryz.zeroValue70
  t75 := Tryz.underlying72
  a75 := Tryz.isAgg72
  z75 := Tryz.sizeOf72
  v75 := Tryz.zeroValue72
  t164 := Tryz.underlying134
  a164 := Tryz.isAgg134
  z164 := Tryz.sizeOf134
  v164 := Tryz.zeroValue134 }
theorem lays167 : Go.Proofs.Lays.n167 Tryz.prog ren := {
  mixed := by kernel_rfl
  f167 := Tryz.func35.trans (congrArg some (by kernel_rfl))
  f240 := Tryz.func69.trans (congrArg some (by kernel_rfl))
  f276 := Tryz.func103.trans (congrArg some (by kernel_rfl))
  t0 := Tryz.underlying0
  a0 := Tryz.isAgg0
  z0 := Tryz.sizeOf0
  v0 := Tryz.zeroValue0
  t4 := Tryz.underlying4
  a4 := Tryz.isAgg4
  z4 := Tryz.sizeOf4
  v4 := Tryz.zeroValue4
  t5 := Tryz.underlying5
  a5 := Tryz.isAgg5
  z5 := Tryz.sizeOf5
  v5 := Tryz.zeroValue5
  t9 := Tryz.underlying9
  a9 := Tryz.isAgg9
  z9 := Tryz.sizeOf9
  v9 := Tryz.zeroValue9
  t20 := Tryz.underlying20
  a20 := Tryz.isAgg20
  z20 := Tryz.sizeOf20
  v20 := Tryz.zeroValue20
  t37 := Tryz.underlying61
  a37 := Tryz.isAgg61
  z37 := Tryz.sizeOf61
  v37 := Tryz.zeroValue61
  t70 := Tryz.underlying68
  a70 := Tryz.isAgg68
  z70 := Tryz.sizeOf68
  v70 := Tryz.zeroValue68
  t72 := Tryz.underlying70
  a72 := Tryz.isAgg70
  z72 := Tryz.sizeOf70
  v72 := Tryz.zeroValue70
  t75 := Tryz.underlying72
  a75 := Tryz.isAgg72
  z75 := Tryz.sizeOf72
  v75 := Tryz.zeroValue72
  t164 := Tryz.underlying134
  a164 := Tryz.isAgg134
  z164 := Tryz.sizeOf134
  v164 := Tryz.zeroValue134 }
theorem lays169 : Go.Proofs.Lays.n169 Tryz.prog ren := {
  mixed := by kernel_rfl
  f169 := Tryz.func38.trans (congrArg some (by kernel_rfl))
  t0 := Tryz.underlying0
  a0 := Tryz.isAgg0
  z0 := Tryz.sizeOf0
  v0 := Tryz.zeroValue0
  t3 := Tryz.underlying3
  a3 := Tryz.isAgg3
  z3 := Tryz.sizeOf3
  v3 := Tryz.zeroValue3
  t9 := Tryz.underlying9
  a9 := Tryz.isAgg9
  z9 := Tryz.sizeOf9
  v9 := Tryz.zeroValue9
  t37 := Tryz.underlying61
  a37 := Tryz.isAgg61
  z37 := Tryz.sizeOf61
  v37 := Tryz.zeroValue61
  t70 := Tryz.underlying68
  a70 := Tryz.isAgg68
  z70 := Tryz.sizeOf68
  v70 := Tryz.zeroValue68
  t72 := Tryz.underlying70
  a72 := Tryz.isAgg70
  z72 := Tryz.sizeOf70
  v72 := Tryz.zeroValue70
  t127 := Tryz.underlying108
  a127 := Tryz.isAgg108
  z127 := Tryz.sizeOf108
  v127 := Tryz.zeroValue108 }
theorem extra : Builder.Extra Tryz.prog ren := {
  sizeBuilder := by kernel_rfl
  liesBuilder := by kernel_rfl
  t5 := Tryz.underlying5
  a5 := Tryz.isAgg5
  z5 := Tryz.sizeOf5
  v5 := Tryz.zeroValue5
  infoByte := by kernel_rfl
  cellsByte := by kernel_rfl
  sizeByte := by kernel_rfl
  neB5 := by decide }
def renC : Go.Shelf.Ren := ⟨fun | 25 => 163 | n => n, fun | 0 => 0 | 3 => 3 | 4 => 4 | 5 => 5 | 9 => 9 | 37 => 61 | 47 => 108 | n => n, fun | n => n⟩
theorem laysC : Go.Proofs.LaysPu.n25 Tryz.prog renC := {
  mixed := by kernel_rfl
  f25 := Tryz.func163.trans (congrArg some (by kernel_rfl))
  t0 := Tryz.underlying0
  a0 := Tryz.isAgg0
  z0 := Tryz.sizeOf0
  v0 := Tryz.zeroValue0
  i0 := by kernel_rfl
  t3 := Tryz.underlying3
  a3 := Tryz.isAgg3
  z3 := Tryz.sizeOf3
  v3 := Tryz.zeroValue3
  i3 := by kernel_rfl
  t4 := Tryz.underlying4
  a4 := Tryz.isAgg4
  z4 := Tryz.sizeOf4
  v4 := Tryz.zeroValue4
  i4 := by kernel_rfl
  t5 := Tryz.underlying5
  a5 := Tryz.isAgg5
  z5 := Tryz.sizeOf5
  v5 := Tryz.zeroValue5
  i5 := by kernel_rfl
  t9 := Tryz.underlying9
  a9 := Tryz.isAgg9
  z9 := Tryz.sizeOf9
  v9 := Tryz.zeroValue9
  i9 := by kernel_rfl
  t37 := Tryz.underlying61
  a37 := Tryz.isAgg61
  z37 := Tryz.sizeOf61
  v37 := Tryz.zeroValue61
  i37 := by kernel_rfl
  t47 := Tryz.underlying108
  a47 := Tryz.isAgg108
  z47 := Tryz.sizeOf108
  v47 := Tryz.zeroValue108
  i47 := by kernel_rfl }
end Go.Proofs.YtpbapaghcabehaaGreatDoor.sb

namespace Go.Proofs.YtpbapaghcabehaaGreatDoor.o7
open Go.RowKit Go.PlainAid Go.Shelf
open Go.Proofs.YtpbapaghcabehaaGreatDoor.pj Go.Proofs.YtpbapaghcabehaaGreatDoor.rf Go.Proofs.YtpbapaghcabehaaGreatDoor.mo Go.Proofs.YtpbapaghcabehaaGreatDoor.nd Go.Proofs.YtpbapaghcabehaaGreatDoor.nh Go.Proofs.YtpbapaghcabehaaGreatDoor.tb Go.Proofs.YtpbapaghcabehaaGreatDoor.tc Go.Proofs.YtpbapaghcabehaaGreatDoor.tj Go.Proofs.YtpbapaghcabehaaGreatDoor.n1 Go.Proofs.YtpbapaghcabehaaGreatDoor.n3 Go.Proofs.YtpbapaghcabehaaGreatDoor.n4 Go.Proofs.YtpbapaghcabehaaGreatDoor.o1 Go.Proofs.YtpbapaghcabehaaGreatDoor.o3 Go.Proofs.YtpbapaghcabehaaGreatDoor.o4 Go.Proofs.YtpbapaghcabehaaGreatDoor.o5 Go.Proofs.YtpbapaghcabehaaGreatDoor.o6 Go.Proofs.YtpbapaghcabehaaGreatDoor.sb Go.Proofs.YtpbapaghcabehaaGreatDoor.kp
set_option linter.unusedVariables false
set_option maxRecDepth 4000

-- a builder that holds a text
def Bb (B b : Nat) (s : ByteArray) (w : World) : Prop := Lib.IsBuilder 70 5 B b (Lib.byteCells s.data.toList) w
theorem bat_below {T e : TypeId} {B b : Nat} {p : Value} {bs : List Value} {W W' : World} (h : Lib.BuilderAt T e B b p bs W) (hb : Below W.heap.size W W') : Lib.BuilderAt T e B b p bs W' := by
  obtain ⟨hB, v, hv, hown, hne⟩ := h
  exact ⟨hB, v, (hb.block b (Array.getElem?_eq_some_iff.1 hv).1).trans hv, own_kp hown (Kp.of_below (A := fun _ => False) hb) (fun _ _ e => e), hne⟩
theorem Bb.below {B b : Nat} {s : ByteArray} {W W' : World} (h : Bb B b s W) (hb : Below W.heap.size W W') : Bb B b s W' := h.elim (fun x => .inl (bat_below x hb)) (fun x => .inr (bat_below x hb))
theorem Bb.fresh (w : World) : Bb w.heap.size w.heap.size ByteArray.empty (w.alloc (.cells #[.pointer none, .slice none 0 0] 70)) := Lib.fresh_isBuilder 70 5 w
theorem data_len (s : ByteArray) : s.data.toList.length = s.size := Array.length_toList
theorem data_two (a b : ByteArray) : (a ++ b).data.toList = a.data.toList ++ b.data.toList := by rw [ByteArray.data_append, Array.toList_append]
theorem wsC (B b : Nat) (s t : ByteArray) (w : World) (h : Bb B b s w) (hlen : s.size + t.size ≤ 140737488355328) (hB : B ≤ w.heap.size) :
    Calls Tryz.prog 34 #[.pointer (some ⟨b, 0, none⟩), .string t] w fun e w' => e = .returned (.tuple #[.int .i64 t.size, .nilIface]) ∧ Bb B b (s ++ t) w' ∧ Below B w w' := by
  refine (Any.Builder_WriteString lays166 extra B b (Lib.byteCells s.data.toList) t w h (by rw [Lib.byteCells_length, data_len]; exact hlen) hB).mono ?_
  rintro e w' ⟨rfl, h1, h2⟩
  refine ⟨rfl, ?_, h2⟩
  unfold Bb
  rw [data_two, Lib.byteCells_append]
  exact .inr h1
theorem wbC (B b : Nat) (s : ByteArray) (w : World) (h : Bb B b s w) (hlen : s.size + 1 ≤ 140737488355328) (hB : B ≤ w.heap.size) :
    Calls Tryz.prog 35 #[.pointer (some ⟨b, 0, none⟩), .int .u8 10] w fun e w' => e = .returned .nilIface ∧ Bb B b (s ++ ⟨#[10]⟩) w' ∧ Below B w w' := by
  refine (Any.Builder_WriteByte lays167 extra B b (Lib.byteCells s.data.toList) 10 w h (by rw [Lib.byteCells_length, data_len]; exact hlen) hB).mono ?_
  rintro e w' ⟨rfl, h1, h2⟩
  refine ⟨rfl, ?_, h2⟩
  unfold Bb
  rw [data_two, Lib.byteCells_append]
  exact .inr h1
theorem sC (B b : Nat) (s : ByteArray) (w : World) (h : Bb B b s w) (hB : B ≤ w.heap.size) :
    Calls Tryz.prog 38 #[.pointer (some ⟨b, 0, none⟩)] w fun e w' => e = .returned (.string s) ∧ Below B w w' := by
  refine (Any.Builder_String_any lays169 extra B b s.data.toList w h hB).mono ?_
  rintro e w' ⟨rfl, h2⟩
  exact ⟨rfl, h2⟩
-- how long the note will be
def szL : List Ky → Nat
  | [] => 0
  | k :: l => k.1.size + 54 + szL l
theorem szL_app (a b : List Ky) : szL (a ++ b) = szL a + szL b := by
  induction a with
  | nil => simp [szL]
  | cons k a ih => simp only [List.cons_append, szL, ih]; omega
theorem szL_le (l : List Ky) (h : ∀ k ∈ l, k.1.size ≤ 140737488351232) : szL l ≤ l.length * 140737488351286 := by
  induction l with
  | nil => simp [szL]
  | cons k l ih =>
    have h1 := h k (by simp)
    have h2 := ih (fun x hx => h x (by simp [hx]))
    simp only [szL, List.length_cons]
    omega
theorem flat_size (l : List Ky) (body : ByteArray) : (flatB ((l.map (sigOf · body)).map lineOf)).size = szL l := by
  induction l with
  | nil => rfl
  | cons k l ih => simp only [List.map_cons, flatB, szL, ByteArray.size_append, ih, sig_line]
set_option maxHeartbeats 1600000 in
theorem noteSizeC (v : Value) (body : ByteArray) (ks : List Ky) (w : World) (hr : ReadsY w v ks) (hz : ks.length ≤ 16) (hb : body.size ≤ 140737488351232) (hs : ∀ k ∈ ks, k.1.size ≤ 140737488351232 ∧ k.2.size ≤ 140737488351232) :
    Calls Tryz.prog 33 #[.string body, v] w fun e w' => e = .returned (.int .i64 ((body.size + 1 + szL ks : Nat) : Int)) ∧ Below w.heap.size w w' := by
  obtain ⟨a, c, rfl, _⟩ := id hr
  have HR : Hid (ReadsY w (.slice a ks.length c) ks) := hr
  have HS : Hid (∀ j, j ≤ ks.length → szL (ks.take j) ≤ 16 * 140737488351286) := by
    intro j hj
    have h1 := szL_le (ks.take j) (fun k hk => (hs k (List.mem_of_mem_take hk)).1)
    have h2 : (ks.take j).length ≤ 16 := by rw [List.length_take]; omega
    exact Nat.le_trans h1 (Nat.mul_le_mul_right _ h2)
  have HZ : Hid _ := hs
  clear hr hs
  obtain ⟨R, HRR⟩ : ∃ R, Hid (body.size + 1 + szL ks = R) := ⟨_, rfl⟩
  rw [HRR.out]
  obtain ⟨n, HN⟩ : ∃ n, Hid (ks.length = n) := ⟨_, rfl⟩
  have hzn : n ≤ 16 := by rw [← HN.out]; exact hz
  rw [HN.out] at HS ⊢
  clear hz
  go_enter Tryz.func33, Tryz.ntmps33
  go_wp2
  go_loopw [5, 13] (fun z i wr => ∃ (k m : Nat), k ≤ n ∧ i = .int .i64 k ∧ z = .int .i64 m ∧ m ≤ 3000000000000000 ∧ Hid (m = body.size + 1 + szL (ks.take k)) ∧ Hid (Below w.heap.size w wr)) (fun _ i _ => (n - intOf i).toNat)
  case atStart => exact ⟨0, body.size + 1, by omega, rfl, by go_num, by omega, rfl, Below.refl _ _⟩
  case round =>
    obtain ⟨k, m, hk, rfl, rfl, hm, HM, HB⟩ := hrel
    by_cases hlt : k < n
    · have hlt' : (k : Int) < n := by omega
      have hkl : k < ks.length := by rw [HN.out]; exact hlt
      obtain ⟨y, HY⟩ : ∃ y, Hid (ks[k]'hkl = y) := ⟨_, rfl⟩
      obtain ⟨b, off, ha, hbw, c1, c2⟩ := (HR.out.later HB.out).at k y (by rw [List.getElem?_eq_getElem hkl, HY.out])
      subst ha
      have hzy := (HZ.out y (by rw [← HY.out]; exact List.getElem_mem hkl)).1
      have HS1 : Hid (m + (y.1.size + 54) = body.size + 1 + szL (ks.take (k + 1))) := by
        show _ = _
        rw [HM.out, take_snoc ks k hkl, HY.out, szL_app]
        simp only [szL]
        omega
      have hm2 : m + (y.1.size + 54) ≤ 3000000000000000 := by
        rw [HS1.out]
        have := HS.out (k + 1) (by omega)
        omega
      have BW : Hid (Below w.heap.size w (wr.alloc (.cells #[.string y.1, .string y.2] 77))) := HB.out.alloc HB.out.size _
      obtain ⟨kn, kx⟩ := y
      simp only at c1 c2 hzy hm2 HS1 BW
      go_wp2
      go_roundw
      case rel => exact ⟨k + 1, m + (kn.size + 54), by omega, by go_num, by go_num, hm2, HS1, BW⟩
      case measure => simp [intOf]; omega
    · have hlt' : ¬ (k : Int) < n := by omega
      have HE : Hid (m = R) := by
        show _ = _
        rw [HM.out, ← HRR.out, List.take_of_length_le (by rw [HN.out]; omega)]
      go_wp2
      go_ret
      exact ⟨by rw [← HE.out]; rfl, HB.out⟩
def signE (body : ByteArray) (ks : List Ky) : Int :=
  if goesB body = false then 200 else if ks.length = 0 then 82 else if 16 < ks.length then 83 else if tgF [] ks ≠ 0 then tgF [] ks else if 65536 < body.size + 1 + szL ks then 121 else 0
def signT (body : ByteArray) (ks : List Ky) : ByteArray := if signE body ks = 0 then noteOf body (ks.map (sigOf · body)) else ByteArray.empty
def signV (body : ByteArray) (ks : List Ky) : Value := .tuple #[.string (signT body ks), .int .i64 (signE body ks)]
theorem note_size (body : ByteArray) (ks : List Ky) : (noteOf body (ks.map (sigOf · body))).size = body.size + 1 + szL ks := by
  unfold noteOf
  rw [ByteArray.size_append, ByteArray.size_append, flat_size]
  rfl
set_option maxHeartbeats 3200000 in
theorem signC (v : Value) (body : ByteArray) (ks : List Ky) (w : World) (hr : ReadsY w v ks) (hl : ks.length ≤ 140737488355328) (hb : body.size ≤ 140737488351232) (hs : ∀ k ∈ ks, k.1.size ≤ 140737488351232 ∧ k.2.size ≤ 140737488351232) (T : Hid (Tab w)) :
    Calls Tryz.prog 12 #[.string body, v] w fun e w' => e = .returned (signV body ks) ∧ Below w.heap.size w w' := by
  obtain ⟨a, c, rfl, _⟩ := id hr
  have HR : Hid (ReadsY w (.slice a ks.length c) ks) := hr
  have HS : Hid _ := hs
  clear hr hs
  obtain ⟨E, HE⟩ : ∃ E, Hid (signE body ks = E) := ⟨_, rfl⟩
  obtain ⟨X, HX⟩ : ∃ X, Hid (signT body ks = X) := ⟨_, rfl⟩
  have HX0 : Hid (E ≠ 0 → X = ByteArray.empty) := by intro h; rw [← HX.out]; unfold signT; rw [HE.out, if_neg h]
  have HX1 : Hid (E = 0 → X = noteOf body (ks.map (sigOf · body))) := by intro h; rw [← HX.out]; unfold signT; rw [HE.out, if_pos h]
  have HU := HE.out
  unfold signE at HU
  unfold signV
  rw [HE.out, HX.out]
  have C1 : Hid (Calls _ _ _ _ _) := goesC body (by omega) w
  obtain ⟨n, HN⟩ : ∃ n, Hid (ks.length = n) := ⟨_, rfl⟩
  rw [HN.out] at hl HU ⊢
  by_cases hg : goesB body = false
  · rw [if_pos hg] at HU
    have HEE : Hid (E = 200) := HU.symm
    have HXX : Hid (X = ByteArray.empty) := HX0.out (by rw [HEE.out]; decide)
    rw [hg] at C1
    clear HU hg
    go_enter Tryz.func12, Tryz.ntmps12
    go_wp2_with fail
    refine C1.out.mono ?_
    rintro e w1 ⟨rfl, hb1⟩
    have B1 : Hid (Below _ _ _) := hb1
    clear hb1
    go_wp2
    go_ret2
    exact ⟨by rw [HEE.out, HXX.out]; rfl, B1.out⟩
  · rw [if_neg hg] at HU
    have hgt : goesB body = true := by simpa using hg
    rw [hgt] at C1
    clear hg hgt
    by_cases h0 : n = 0
    · rw [if_pos h0] at HU
      have HEE : Hid (E = 82) := HU.symm
      have HXX : Hid (X = ByteArray.empty) := HX0.out (by rw [HEE.out]; decide)
      subst h0
      clear HU
      go_enter Tryz.func12, Tryz.ntmps12
      go_wp2_with fail
      refine C1.out.mono ?_
      rintro e w1 ⟨rfl, hb1⟩
      have B1 : Hid (Below _ _ _) := hb1
      clear hb1
      go_wp2
      go_ret2
      exact ⟨by rw [HEE.out, HXX.out]; rfl, B1.out⟩
    · rw [if_neg h0] at HU
      have g0 : ((n : Int) == 0) = false := beq_eq_false_iff_ne.2 (by omega)
      have g0' : ¬ (n : Int) = 0 := by omega
      by_cases h16 : 16 < n
      · rw [if_pos h16] at HU
        have HEE : Hid (E = 83) := HU.symm
        have HXX : Hid (X = ByteArray.empty) := HX0.out (by rw [HEE.out]; decide)
        have g1 : (n : Int) > 16 := by omega
        clear HU h0
        go_enter Tryz.func12, Tryz.ntmps12
        go_wp2_with fail
        refine C1.out.mono ?_
        rintro e w1 ⟨rfl, hb1⟩
        have B1 : Hid (Below _ _ _) := hb1
        clear hb1
        go_wp2
        go_ret2
        exact ⟨by rw [HEE.out, HXX.out]; rfl, B1.out⟩
      · rw [if_neg h16] at HU
        have g1 : ¬ (n : Int) > 16 := by omega
        have g2 : n ≤ 16 := by omega
        have C2 : Hid (∀ w', Below w.heap.size w w' → Calls _ _ _ _ _) := fun w' hb' => togetherC (.slice a ks.length c) ks w' (HR.out.later hb') (by rw [HN.out]; omega) HS.out (T.out.down hb')
        rw [HN.out] at C2
        clear h0 h16
        by_cases ht : tgF [] ks ≠ 0
        · rw [if_pos ht] at HU
          have HXX : Hid (X = ByteArray.empty) := HX0.out (by rw [← HU]; exact ht)
          have HEE : Hid (tgF [] ks = E) := HU
          have gE : (E != 0) = true := by rw [bne_iff_ne, ← HU]; exact ht
          have gE' : ¬ E = 0 := by rw [← HU]; exact ht
          rw [HEE.out] at C2
          clear HU ht
          go_enter Tryz.func12, Tryz.ntmps12
          go_wp2_with fail
          refine C1.out.mono ?_
          rintro e w1 ⟨rfl, hb1⟩
          have B1 : Hid (Below _ _ _) := hb1
          clear hb1
          go_wp2_with fail
          refine (C2.out _ B1.out).mono ?_
          rintro e w2 ⟨rfl, hb2⟩
          have B2 : Hid (Below w.heap.size w w2) := over B1.out hb2
          clear hb2
          go_wp2
          go_ret2
          exact ⟨by rw [HXX.out]; rfl, B2.out⟩
        · rw [if_neg ht] at HU
          have ht0 : tgF [] ks = 0 := by simpa using ht
          rw [ht0] at C2
          have C3 : Hid (∀ w', Below w.heap.size w w' → Calls _ _ _ _ _) := fun w' hb' => noteSizeC (.slice a ks.length c) body ks w' (HR.out.later hb') (by rw [HN.out]; exact g2) hb HS.out
          rw [HN.out] at C3
          obtain ⟨z, HZ⟩ : ∃ z, Hid (body.size + 1 + szL ks = z) := ⟨_, rfl⟩
          rw [HZ.out] at C3 HU
          clear ht ht0
          by_cases hbig : 65536 < z
          · rw [if_pos hbig] at HU
            have HEE : Hid (E = 121) := HU.symm
            have HXX : Hid (X = ByteArray.empty) := HX0.out (by rw [HEE.out]; decide)
            have g3 : (z : Int) > 65536 := by omega
            clear HU
            go_enter Tryz.func12, Tryz.ntmps12
            go_wp2_with fail
            refine C1.out.mono ?_
            rintro e w1 ⟨rfl, hb1⟩
            have B1 : Hid (Below _ _ _) := hb1
            clear hb1
            go_wp2_with fail
            refine (C2.out _ B1.out).mono ?_
            rintro e w2 ⟨rfl, hb2⟩
            have B2 : Hid (Below w.heap.size w w2) := over B1.out hb2
            clear hb2
            go_wp2_with fail
            refine (C3.out _ B2.out).mono ?_
            rintro e w3 ⟨rfl, hb3⟩
            have B3 : Hid (Below w.heap.size w w3) := over B2.out hb3
            clear hb3
            go_wp2
            go_ret2
            exact ⟨by rw [HEE.out, HXX.out]; rfl, B3.out⟩
          · rw [if_neg hbig] at HU
            have HEE : Hid (E = 0) := HU.symm
            have HXX : Hid (X = noteOf body (ks.map (sigOf · body))) := HX1.out HU.symm
            have g3 : ¬ (z : Int) > 65536 := by omega
            have hz2 : z ≤ 65536 := by omega
            clear HU hbig
            go_enter Tryz.func12, Tryz.ntmps12
            go_wp2_with fail
            refine C1.out.mono ?_
            rintro e w1 ⟨rfl, hb1⟩
            have B1 : Hid (Below _ _ _) := hb1
            clear hb1
            go_wp2_with fail
            refine (C2.out _ B1.out).mono ?_
            rintro e w2 ⟨rfl, hb2⟩
            have B2 : Hid (Below w.heap.size w w2) := over B1.out hb2
            clear hb2
            go_wp2_with fail
            refine (C3.out _ B2.out).mono ?_
            rintro e w3 ⟨rfl, hb3⟩
            have B3 : Hid (Below w.heap.size w w3) := over B2.out hb3
            clear hb3
            obtain ⟨W, HW⟩ : ∃ W, Hid (w3.alloc (.cells #[.pointer none, .slice none 0 0] 70) = W) := ⟨_, rfl⟩
            have BW : Hid (Below w3.heap.size w3 W) := by rw [← HW.out]; exact (Below.refl _ _).alloc (Nat.le_refl _) _
            have FB : Hid (Bb w3.heap.size w3.heap.size ByteArray.empty W) := by rw [← HW.out]; exact Bb.fresh w3
            have hbz : body.size + 1 ≤ 65536 := by have := HZ.out; omega
            go_wp2_with fail
            rw [HW.out]
            go_wp2_with fail
            refine (wsC w3.heap.size w3.heap.size ByteArray.empty body W FB.out (by show 0 + body.size ≤ _; omega) BW.out.size).mono ?_
            rintro e w4 ⟨rfl, h4, hb4⟩
            have F4 : Hid (Bb w3.heap.size w3.heap.size body w4) := by rw [ByteArray.empty_append] at h4; exact h4
            have B4 : Hid (Below w3.heap.size w3 w4) := BW.out.trans hb4
            clear h4 hb4
            go_wp2_with fail
            refine (wbC w3.heap.size w3.heap.size body w4 F4.out (by omega) B4.out.size).mono ?_
            rintro e w5 ⟨rfl, h5, hb5⟩
            have F5 : Hid (Bb w3.heap.size w3.heap.size (body ++ ⟨#[10]⟩) w5) := h5
            have B5 : Hid (Below w3.heap.size w3 w5) := B4.out.trans hb5
            clear h5 hb5
            go_wp2
            go_loopw [33] (fun i wr => ∃ (k : Nat), k ≤ n ∧ i = .int .i64 k ∧ Hid (Bb w3.heap.size w3.heap.size (noteOf body ((ks.take k).map (sigOf · body))) wr ∧ Below w3.heap.size w3 wr)) (fun i _ => (n - intOf i).toNat)
            case atStart => exact ⟨0, by omega, rfl, by unfold noteOf; simp only [List.take_zero, List.map_nil, flatB, ByteArray.append_empty]; exact F5.out, B5.out⟩
            case round =>
              clear F4 B4 F5 B5 FB BW
              obtain ⟨k, hk, rfl, HK⟩ := hrel
              have BK : Hid (Below w.heap.size w wr) := B3.out.trans (HK.out.2.mono B3.out.size)
              by_cases hlt : k < n
              · have hlt' : (k : Int) < n := by omega
                have hkl : k < ks.length := by rw [HN.out]; exact hlt
                obtain ⟨y, HY⟩ : ∃ y, Hid (ks[k]'hkl = y) := ⟨_, rfl⟩
                obtain ⟨b, off, ha, hbw, c1, c2⟩ := (HR.out.later BK.out).at k y (by rw [List.getElem?_eq_getElem hkl, HY.out])
                subst ha
                have hzy := HS.out y (by rw [← HY.out]; exact List.getElem_mem hkl)
                have HNX : Hid (noteOf body ((ks.take (k + 1)).map (sigOf · body)) = noteOf body ((ks.take k).map (sigOf · body)) ++ lineOf (sigOf y body)) := by
                  show _ = _
                  unfold noteOf
                  rw [take_snoc ks k hkl, HY.out, List.map_append, List.map_append, flat_app, ← ByteArray.append_assoc]
                  simp only [List.map_cons, List.map_nil, flatB, ByteArray.append_empty]
                have hsz : (noteOf body ((ks.take (k + 1)).map (sigOf · body))).size ≤ z := by
                  rw [note_size, ← HZ.out]
                  have e1 : ks = ks.take (k + 1) ++ ks.drop (k + 1) := (List.take_append_drop _ _).symm
                  have e2 := congrArg szL e1
                  rw [szL_app] at e2
                  omega
                rw [HNX.out, ByteArray.size_append] at hsz
                obtain ⟨W2, HW2⟩ : ∃ W2, Hid (wr.alloc (.cells #[.string y.1, .string y.2] 77) = W2) := ⟨_, rfl⟩
                have BW2 : Hid (Below wr.heap.size wr W2) := by rw [← HW2.out]; exact (Below.refl _ _).alloc (Nat.le_refl _) _
                have hWc : W2.cell? ⟨wr.heap.size, 0, none⟩ = some (.string y.1) ∧ W2.cell? ⟨wr.heap.size, 1, none⟩ = some (.string y.2) := by
                  rw [← HW2.out]; exact ⟨by rw [World.cell?_alloc_at _ _ _ _ rfl]; rfl, by rw [World.cell?_alloc_at _ _ _ _ rfl]; rfl⟩
                obtain ⟨hW0, hW1⟩ := hWc
                have D1 : Hid (Calls _ _ _ _ _) := signatureC y body hzy.1 hzy.2 hb W2 ((T.out.down BK.out).down BW2.out)
                have D2 : Hid (∀ w, Calls _ _ _ _ _) := fun w => writtenC (sigOf y body) hzy.1 (by show (kidF _ _).size + (macF _ _).size ≤ 1000; rw [kid_size, macF_size]; omega) w
                have hls : (lineOf (sigOf y body)).size ≤ 65536 := by omega
                obtain ⟨P0, HP0⟩ : ∃ P0, Hid (noteOf body ((ks.take k).map (sigOf · body)) = P0) := ⟨_, rfl⟩
                obtain ⟨P1, HP1⟩ : ∃ P1, Hid (noteOf body ((ks.take (k + 1)).map (sigOf · body)) = P1) := ⟨_, rfl⟩
                rw [HP0.out] at hsz
                rw [HP0.out, HP1.out] at HNX
                simp only [sigOf] at D2 HNX hsz hls
                obtain ⟨kn, kx⟩ := y
                simp only at c1 c2 hzy hW0 hW1 D1 D2 HNX hsz hls HW2
                obtain ⟨L, HL⟩ : ∃ L, Hid (lineOf ⟨kn, kidF kn kx, macF kx body⟩ = L) := ⟨_, rfl⟩
                rw [HL.out] at D2 HNX hsz hls
                generalize kidF kn kx = x1 at *
                generalize macF kx body = x2 at *
                go_wp2_with fail
                rw [HW2.out]
                go_wp2_with fail
                refine D1.out.mono ?_
                rintro e w6 ⟨rfl, hb6⟩
                have B6 : Hid (Below wr.heap.size wr w6) := BW2.out.trans (hb6.mono BW2.out.size)
                clear hb6
                go_wp2_with fail
                refine (D2.out _).mono ?_
                rintro e w7 ⟨rfl, hb7⟩
                have B7 : Hid (Below wr.heap.size wr w7) := over B6.out hb7
                clear hb7
                have F7 : Hid (Bb w3.heap.size w3.heap.size P0 w7) := by rw [← HP0.out]; exact HK.out.1.below B7.out
                go_wp2_with fail
                refine (wsC w3.heap.size w3.heap.size _ L w7 F7.out (by omega) (Nat.le_trans HK.out.2.size B7.out.size)).mono ?_
                rintro e w8 ⟨rfl, h8, hb8⟩
                have F8 : Hid (Bb w3.heap.size w3.heap.size (noteOf body ((ks.take (k + 1)).map (sigOf · body))) w8 ∧ Below w3.heap.size w3 w8) := ⟨by rw [HP1.out, HNX.out]; exact h8, (HK.out.2.trans (B7.out.mono HK.out.2.size)).trans hb8⟩
                clear h8 hb8
                go_wp2
                go_roundw
                case rel => exact ⟨k + 1, by omega, by go_num, F8⟩
                case measure => simp [intOf]; omega
              · have hlt' : ¬ (k : Int) < n := by omega
                have HEN : Hid (X = noteOf body ((ks.take k).map (sigOf · body))) := by show _ = _; rw [HXX.out, List.take_of_length_le (by rw [HN.out]; omega)]
                have C9 : Hid (Calls _ _ _ _ _) := sC w3.heap.size w3.heap.size _ wr HK.out.1 HK.out.2.size
                rw [← HEN.out] at C9
                go_wp2_with fail
                refine C9.out.mono ?_
                rintro e w9 ⟨rfl, hb9⟩
                have B9 : Hid (Below w.heap.size w w9) := B3.out.trans ((HK.out.2.trans hb9).mono B3.out.size)
                clear hb9
                go_wp2
                go_ret2
                exact ⟨by rw [HEE.out]; rfl, B9.out⟩
end Go.Proofs.YtpbapaghcabehaaGreatDoor.o7

namespace Go.Proofs.YtpbapaghcabehaaGreatDoor.o8
open Go.RowKit Go.PlainAid Go.Shelf
open Go.Proofs.YtpbapaghcabehaaGreatDoor.pj Go.Proofs.YtpbapaghcabehaaGreatDoor.rf Go.Proofs.YtpbapaghcabehaaGreatDoor.mo Go.Proofs.YtpbapaghcabehaaGreatDoor.nd Go.Proofs.YtpbapaghcabehaaGreatDoor.nh Go.Proofs.YtpbapaghcabehaaGreatDoor.tb Go.Proofs.YtpbapaghcabehaaGreatDoor.tc Go.Proofs.YtpbapaghcabehaaGreatDoor.tj Go.Proofs.YtpbapaghcabehaaGreatDoor.n1 Go.Proofs.YtpbapaghcabehaaGreatDoor.n3 Go.Proofs.YtpbapaghcabehaaGreatDoor.n4 Go.Proofs.YtpbapaghcabehaaGreatDoor.o1 Go.Proofs.YtpbapaghcabehaaGreatDoor.o3 Go.Proofs.YtpbapaghcabehaaGreatDoor.o4 Go.Proofs.YtpbapaghcabehaaGreatDoor.o5 Go.Proofs.YtpbapaghcabehaaGreatDoor.o6 Go.Proofs.YtpbapaghcabehaaGreatDoor.o7 Go.Proofs.YtpbapaghcabehaaGreatDoor.kp
set_option linter.unusedVariables false
set_option maxRecDepth 4000

-- bytes of one's own that make a text
def OwB (w : World) (base : Nat) (v : Value) (s : ByteArray) : Prop := ∃ g cap, v = .slice (some ⟨g, 0, none⟩) s.size cap ∧ base ≤ g ∧ g < w.heap.size ∧ (∀ j, j < s.size → w.cell? ⟨g, j, none⟩ = some (.int .u8 (bt s j))) ∧ (∀ j, s.size ≤ j → j < cap → (w.cell? ⟨g, j, none⟩).isSome = true ∧ w.frozen? ⟨g, j, none⟩ = false)
theorem OwB.later {w w' : World} {base : Nat} {v : Value} {s : ByteArray} (h : OwB w base v s) (b : Below w.heap.size w w') : OwB w' base v s := by
  obtain ⟨g, cap, rfl, hb, hg, h1, h2⟩ := h
  refine ⟨g, cap, rfl, hb, Nat.lt_of_lt_of_le hg b.size, fun j hj => ?_, fun j h3 h4 => ?_⟩
  · rw [b.cell (p := ⟨g, j, none⟩) hg]; exact h1 j hj
  · rw [b.cell (p := ⟨g, j, none⟩) hg, b.frozen (p := ⟨g, j, none⟩) hg]; exact h2 j h3 h4
theorem OwB.form {w : World} {base : Nat} {v : Value} {s : ByteArray} (h : OwB w base v s) : ∃ g cap, v = .slice (some ⟨g, 0, none⟩) s.size cap := by
  obtain ⟨g, cap, rfl, _⟩ := h
  exact ⟨g, cap, rfl⟩
theorem ofString (w : World) (s : ByteArray) (hs : s.size ≤ 140737488352256) : ∃ v w', (convert 9 61 (.string s)).run Tryz.prog w = .ok v w' ∧ OwB w' w.heap.size v s ∧ Below w.heap.size w w' := by
  obtain ⟨v, w', h1, ⟨h2, g, cap, rfl, h3, h4, h5, h6⟩, h7⟩ := Go.Proofs.YtpbapaghcabehaaGreatDoor.rc.of_string w s hs
  refine ⟨_, w', h1, ⟨g, cap, rfl, h3, h4, fun j hj => ?_, h6⟩, h7⟩
  rw [h5 j hj, Go.Proofs.YtpbapaghcabehaaGreatDoor.pd.btL_get _ _ _ hj]
theorem toString (w : World) (base : Nat) (v : Value) (s : ByteArray) (h : OwB w base v s) : (convert 61 9 v).run Tryz.prog w = .ok (.string s) w := by
  obtain ⟨g, cap, rfl, hb, hg, h1, h2⟩ := h
  have := conv_at (bs s) w g 0 s.size cap (bs_length s).symm (fun j u hj => by
    have hjl : j < s.size := by have := (List.getElem?_eq_some_iff.1 hj).1; rw [List.length_map, bs_length] at this; exact this
    rw [Addr.add_mid, Nat.zero_add, h1 j hjl, ← hj, List.getElem?_map, List.getElem?_eq_getElem (by rw [bs_length]; exact hjl), bs_get s j hjl]
    rfl)
  rw [str_bs] at this
  exact this
theorem bt_left (a b : ByteArray) (j : Nat) (h : j < a.size) : bt (a ++ b) j = bt a j := by
  rw [← get_bt (a ++ b) j (by rw [ByteArray.size_append]; omega), ← get_bt a j h, ByteArray.getElem_append_left]
theorem bt_right (a b : ByteArray) (j : Nat) (h : j < b.size) : bt (a ++ b) (a.size + j) = bt b j := by
  rw [← get_bt (a ++ b) (a.size + j) (by rw [ByteArray.size_append]; omega), ← get_bt b j h, ByteArray.getElem_append_right (by omega)]
  simp
theorem cells_get (q : ByteArray) (j : Nat) (h : j < q.size) : (Go.Proofs.YtpbapaghcabehaaGreatDoor.na.cellsS q)[j]'(by rw [Go.Proofs.YtpbapaghcabehaaGreatDoor.na.cellsS_length]; exact h) = .int .u8 (bt q j) := by
  simp [Go.Proofs.YtpbapaghcabehaaGreatDoor.na.cellsS, Go.Proofs.YtpbapaghcabehaaGreatDoor.pd.btL]
open Go.Proofs.YtpbapaghcabehaaGreatDoor.na in
theorem room_str (w : World) (ty : TypeId) (g sLen sCap : Nat) (q : ByteArray) (hroom : sLen + q.size ≤ sCap) (hc : ∀ j, j < q.size → (w.cell? ⟨g, sLen + j, none⟩).isSome = true) (hf : ∀ j, j < q.size → w.frozen? ⟨g, sLen + j, none⟩ = false) :
    (Builtin.append_ #[61, 9] ty #[.slice (some ⟨g, 0, none⟩) sLen sCap, .string q]).run Tryz.prog w =
      .ok (.slice (some ⟨g, 0, none⟩) (sLen + q.size) sCap) (w.setCells g sLen (cellsS q)) := by
  have hst := run_storeCells_cells (P := Tryz.prog) g sLen (cellsS q) 0 w (by rw [cellsS_length]; simpa using hc) (by rw [cellsS_length]; simpa using hf) (cellsS_one q)
  simp only [Nat.add_zero] at hst
  have hfs := first_str q
  simp only [Builtin.append_, Builtin.lenOf, List.getElem?_toArray, List.getElem?_cons_zero, List.getElem?_cons_succ, Sem.run_bind, Sem.run_pure, run_underlying Tryz.underlying61, run_underlying Tryz.underlying9, Result.andThen_ok, Go.Proofs.YtpbapaghcabehaaGreatDoor.pb.si8]
  simp [hroom, Addr.add_lit, hfs, hst]
theorem below_setCells {B : Nat} (b : Nat) (hB : B ≤ b) : ∀ (vs : List Value) (o : Nat) (w : World), Below B w (w.setCells b o vs)
  | [], _, _ => Below.refl _ _
  | v :: r, o, w => ((Below.refl B w).setCell (p := ⟨b, o, none⟩) hB v).trans (below_setCells b hB r (o + 1) _)
theorem size_setCells (b : Nat) : ∀ (vs : List Value) (o : Nat) (w : World), (w.setCells b o vs).heap.size = w.heap.size
  | [], _, _ => rfl
  | v :: r, o, w => by rw [World.setCells, size_setCells b r (o + 1)]; simp [World.setCell]
open Go.Proofs.YtpbapaghcabehaaGreatDoor.na in
theorem appB (w : World) (base : Nat) (ty : TypeId) (v : Value) (s q : ByteArray) (h : OwB w base v s) (h63 : s.size + q.size ≤ 140737488355328) (hbase : base ≤ w.heap.size) :
    ∃ v' w', (Builtin.append_ #[61, 9] ty #[v, .string q]).run Tryz.prog w = .ok v' w' ∧ OwB w' base v' (s ++ q) ∧ Below base w w' := by
  obtain ⟨g, cap, rfl, hb, hg, h1, h2⟩ := h
  by_cases hroom : s.size + q.size ≤ cap
  · have hr := room_str w ty g s.size cap q hroom (fun j hj => (h2 _ (by omega) (by omega)).1) (fun j hj => (h2 _ (by omega) (by omega)).2)
    refine ⟨_, _, hr, ⟨g, cap, by rw [ByteArray.size_append], hb, by rw [size_setCells]; exact hg, fun j hj => ?_, fun j ha hc => ?_⟩, below_setCells g hb _ _ _⟩
    · rw [ByteArray.size_append] at hj
      rcases Nat.lt_or_ge j s.size with hj1 | hj1
      · rw [World.cell?_setCells_out g _ _ _ _ (fun _ _ => .inl hj1), h1 j hj1, bt_left _ _ _ hj1]
      · obtain ⟨k, rfl⟩ : ∃ k, j = s.size + k := ⟨j - s.size, by omega⟩
        rw [World.cell?_setCells_in g _ _ _ (fun i hi => (h2 _ (by omega) (by rw [cellsS_length] at hi; omega)).1) k (by rw [cellsS_length]; omega), cells_get q k (by omega), bt_right _ _ _ (by omega)]
    · rw [ByteArray.size_append] at ha
      rw [World.cell?_setCells_out g _ _ _ _ (fun _ _ => .inr (by rw [cellsS_length]; exact ha)), World.frozen?_setCells]
      exact h2 j (by omega) hc
  · obtain ⟨i, hi, hz0, hz1, hz2⟩ := info_parts info5
    have hlen : ((bs s).map (Value.int .u8)).length = s.size := by rw [List.length_map, bs_length]
    have holds : ∀ j u, ((bs s).map (Value.int .u8))[j]? = some u → w.cell? ((⟨g, 0, none⟩ : Addr).add j) = some u := by
      intro j u hj
      have hjl : j < s.size := by have := (List.getElem?_eq_some_iff.1 hj).1; rw [hlen] at this; exact this
      rw [Addr.add_mid, Nat.zero_add, h1 j hjl, ← hj, List.getElem?_map, List.getElem?_eq_getElem (by rw [bs_length]; exact hjl), bs_get s j hjl]
      rfl
    have hr := append_str_grow w ty i hi hz0 hz2 ⟨g, 0, none⟩ s.size cap ((bs s).map (Value.int .u8)) hlen holds q (by omega) h63
    have hge := grownCap_ge w (s.size + q.size) cap 5
    have hh := heap_alloc_new w.drew (.cells (((bs s).map (Value.int .u8)).toArray ++ (cellsS q).toArray ++ Builtin.zeroCells (Value.int .u8 0).cells (grownCap w (s.size + q.size) cap 5 - (s.size + q.size))) 5)
    refine ⟨_, _, hr, ⟨w.heap.size, _, by rw [ByteArray.size_append], hbase, by simp, fun j hj => ?_, fun j ha hc => ?_⟩, ((Below.refl _ _).drew).alloc hbase _⟩
    · have hcell := cell_of_row _ _ j _ _ _ hh
      have ed : w.drew.heap.size = w.heap.size := rfl
      rw [ed] at hcell
      rw [hcell]
      rw [ByteArray.size_append] at hj
      rw [Array.getElem?_append_left (by simp only [Array.size_append, List.size_toArray, hlen, cellsS_length]; exact hj)]
      rcases Nat.lt_or_ge j s.size with hj1 | hj1
      · rw [Array.getElem?_append_left (by simp only [List.size_toArray, hlen]; exact hj1), List.getElem?_toArray, List.getElem?_map, List.getElem?_eq_getElem (by rw [bs_length]; exact hj1), bs_get s j hj1, bt_left _ _ _ hj1]
        rfl
      · obtain ⟨k, rfl⟩ : ∃ k, j = s.size + k := ⟨j - s.size, by omega⟩
        rw [Array.getElem?_append_right (by simp only [List.size_toArray, hlen]; omega), List.getElem?_toArray]
        simp only [List.size_toArray, hlen, Nat.add_sub_cancel_left]
        rw [List.getElem?_eq_getElem (by rw [cellsS_length]; omega), cells_get q k (by omega), bt_right _ _ _ (by omega)]
    · have hcell := cell_of_row _ _ j _ _ _ hh
      have hfz := frozen_of_row _ _ j _ _ hh
      have ed : w.drew.heap.size = w.heap.size := rfl
      rw [ed] at hcell hfz
      refine ⟨?_, hfz⟩
      rw [hcell, Array.getElem?_eq_getElem]
      · rfl
      · have hz : (Value.int .u8 0).cells.size = 1 := rfl
        simp only [Array.size_append, List.size_toArray, size_zeroCells, hz, hlen, cellsS_length]
        omega
theorem wpList_appB {ops : Array Oper} {rest : List Oper} {o : Oper} {a : Act} {w : World} {Q : Exit → Act → World → Prop} (hgd : o.guard = none) (s x : Operand)
    (ho : o.op = .call { callee := .builtin .append, args := #[s, x], argTypes := #[61, 9] }) (base : Nat) (v : Value) (t q : ByteArray) (hs : a.eval s = v) (hown : OwB w base v t)
    (hx : a.eval x = .string q) (h63 : t.size + q.size ≤ 140737488355328) (hbase : base ≤ w.heap.size)
    (h : ∀ v' w', OwB w' base v' (t ++ q) → Below base w w' → wpList Tryz.prog ops Q rest (a.put o.dst v') w') : wpList Tryz.prog ops Q (o :: rest) a w := by
  obtain ⟨v', w', hr, h2, h3⟩ := appB w base o.type v t q hown h63 hbase
  refine wpList_plain hgd fun K hK => ?_
  unfold Oper.wp execOp
  simp only [ho, resolve, invoke, builtin, Sem.run_bind, Sem.run_pure, Result.andThen_ok, List.map_toArray, List.map_cons, List.map_nil, hs, hx, hr]
  exact hK _ _ (h v' w' h2 h3)
end Go.Proofs.YtpbapaghcabehaaGreatDoor.o8

namespace Go.Proofs.YtpbapaghcabehaaGreatDoor.o9
open Go.RowKit Go.PlainAid Go.Shelf
open Go.Proofs.YtpbapaghcabehaaGreatDoor.pj Go.Proofs.YtpbapaghcabehaaGreatDoor.rf Go.Proofs.YtpbapaghcabehaaGreatDoor.mo Go.Proofs.YtpbapaghcabehaaGreatDoor.nd Go.Proofs.YtpbapaghcabehaaGreatDoor.nh Go.Proofs.YtpbapaghcabehaaGreatDoor.tb Go.Proofs.YtpbapaghcabehaaGreatDoor.tc Go.Proofs.YtpbapaghcabehaaGreatDoor.tj Go.Proofs.YtpbapaghcabehaaGreatDoor.n1 Go.Proofs.YtpbapaghcabehaaGreatDoor.n3 Go.Proofs.YtpbapaghcabehaaGreatDoor.n4 Go.Proofs.YtpbapaghcabehaaGreatDoor.o1 Go.Proofs.YtpbapaghcabehaaGreatDoor.o3 Go.Proofs.YtpbapaghcabehaaGreatDoor.o4 Go.Proofs.YtpbapaghcabehaaGreatDoor.o5 Go.Proofs.YtpbapaghcabehaaGreatDoor.o6 Go.Proofs.YtpbapaghcabehaaGreatDoor.o7 Go.Proofs.YtpbapaghcabehaaGreatDoor.o8 Go.Proofs.YtpbapaghcabehaaGreatDoor.kp
set_option linter.unusedVariables false
set_option maxRecDepth 4000

theorem any_take (l : List Sg) (p : Sg → Bool) (k : Nat) (h : k < l.length) : (l.take (k + 1)).any p = ((l.take k).any p || p (l[k]'h)) := by
  rw [take_snoc l k h, List.any_append]; simp
set_option maxHeartbeats 1600000 in
theorem amongD (v : Value) (l : List Sg) (g : Sg) (w : World) (hr : ReadsG w v l) (hz : l.length ≤ 1000000) :
    Calls Tryz.prog 84 #[v, .agg #[.string g.name, .string g.id, .string g.mac]] w fun e w' => e = .returned (.bool (amg l g)) ∧ Below w.heap.size w w' := by
  obtain ⟨a, c, rfl, hcl⟩ := hr
  have HCL : Hid _ := hcl
  clear hcl
  obtain ⟨R, HR⟩ : ∃ R, Hid (amg l g = R) := ⟨_, rfl⟩
  rw [HR.out]
  obtain ⟨gn, gi, gm⟩ := g
  simp only at HR ⊢
  obtain ⟨n, HN⟩ : ∃ n, Hid (l.length = n) := ⟨_, rfl⟩
  have hzn : n ≤ 1000000 := by rw [← HN.out]; exact hz
  rw [HN.out]
  clear hz
  obtain ⟨W, HW⟩ : ∃ W, Hid (w.alloc (.cells #[.string gn, .string gi, .string gm] 50) = W) := ⟨_, rfl⟩
  have BW : Hid (Below w.heap.size w W) := by rw [← HW.out]; exact (Below.refl _ _).alloc (Nat.le_refl _) _
  have zW : W.heap.size = w.heap.size + 1 := by rw [← HW.out]; simp
  have SX : Hid (∀ w', Below (w.heap.size + 1) W w' → w'.cell? ⟨w.heap.size, 0, none⟩ = some (.string gn) ∧ w'.cell? ⟨w.heap.size, 1, none⟩ = some (.string gi) ∧ w'.cell? ⟨w.heap.size, 2, none⟩ = some (.string gm)) := by
    rw [← HW.out]; exact fun w' h => box3 w w' _ _ _ _ h
  go_enter Tryz.func84, Tryz.ntmps84
  go_wp2_with fail
  rw [HW.out]
  go_loopw [5] (fun i wr => ∃ k : Nat, k ≤ n ∧ i = .int .i64 k ∧ Hid ((l.take k).any (fun a => one a ⟨gn, gi, gm⟩) = false) ∧ Hid (Below (w.heap.size + 1) W wr)) (fun i _ => (n - intOf i).toNat)
  case atStart => exact ⟨0, by omega, rfl, rfl, Below.refl _ _⟩
  case round =>
    obtain ⟨k, hk, rfl, HK, HB⟩ := hrel
    obtain ⟨b0, b1, b2⟩ := SX.out _ HB.out
    have BB : Hid (Below w.heap.size w wr) := BW.out.trans (HB.out.mono (by omega))
    by_cases hlt : k < n
    · have hlt' : (k : Int) < n := by omega
      have hkl : k < l.length := by rw [HN.out]; exact hlt
      obtain ⟨b, off, rfl, hbw, hc⟩ : ∃ b off, a = some ⟨b, off, none⟩ ∧ b < w.heap.size ∧ ∀ i g, l[i]? = some g → w.cell? ⟨b, off + i * 3, none⟩ = some (.string g.name) ∧ w.cell? ⟨b, off + i * 3 + 1, none⟩ = some (.string g.id) ∧ w.cell? ⟨b, off + i * 3 + 2, none⟩ = some (.string g.mac) := by
        rcases HCL.out with h | h
        · omega
        · exact h
      obtain ⟨x, HX⟩ : ∃ x, Hid (l[k]'hkl = x) := ⟨_, rfl⟩
      obtain ⟨q1, q2, q3⟩ := hc k x (by rw [List.getElem?_eq_getElem hkl, HX.out])
      have c1 := (BB.out.cell (p := ⟨b, off + k * 3, none⟩) hbw).trans q1
      have c2 := (BB.out.cell (p := ⟨b, off + k * 3 + 1, none⟩) hbw).trans q2
      have HNX : Hid ((l.take (k + 1)).any (fun a => one a ⟨gn, gi, gm⟩) = (eqB x.name gn && eqB x.id gi)) := by
        show _ = _
        rw [any_take l _ k hkl, HK.out, HX.out, Bool.false_or]; rfl
      have HYES : Hid ((eqB x.name gn && eqB x.id gi) = true → R = true) := by
        intro h
        rw [← HR.out]
        unfold amg
        rw [List.any_eq_true]
        exact ⟨x, by rw [← HX.out]; exact List.getElem_mem hkl, h⟩
      have e1 := toList_eqB x.name gn
      have e2 := toList_eqB x.id gi
      have KN : Hid (∀ n, Below (w.heap.size + 1) W (wr.drewN n)) := fun n => below_dN HB.out n
      have KM : Hid (∀ n, Below w.heap.size w (wr.drewN n)) := fun n => below_dN BB.out n
      clear hc q1 q2 q3 HX
      obtain ⟨xn, xi, xm⟩ := x
      simp only at c1 c2 HNX HYES e1 e2
      generalize eqB xn gn = y1 at *
      generalize eqB xi gi = y2 at *
      cases y1
      · go_wp2_with fail
        go_quiet (fail)
        go_wp2
        go_roundw
        case rel => exact ⟨k + 1, by omega, by go_num, HNX, KN.out _⟩
        case measure => simp [intOf]; omega
      · cases y2
        · go_wp2_with fail
          go_quiet (fail)
          go_wp2
          go_roundw
          case rel => exact ⟨k + 1, by omega, by go_num, HNX, KN.out _⟩
          case measure => simp [intOf]; omega
        · have HT : Hid (R = true) := HYES.out rfl
          go_wp2_with fail
          go_quiet (fail)
          go_wp2
          go_ret
          exact ⟨by rw [HT.out]; rfl, KM.out _⟩
    · have hlt' : ¬ (k : Int) < n := by omega
      have HT : Hid (R = false) := by
        show _ = _
        rw [← HR.out, ← HK.out, List.take_of_length_le (by rw [HN.out]; omega)]
        rfl
      go_wp2
      go_ret
      exact ⟨by rw [HT.out]; rfl, BB.out⟩
def lnL : List Sg → Nat
  | [] => 0
  | g :: l => (lineOf g).size + lnL l
theorem lnL_app (a b : List Sg) : lnL (a ++ b) = lnL a + lnL b := by
  induction a with
  | nil => simp [lnL]
  | cons k a ih => simp only [List.cons_append, lnL, ih]; omega
theorem lnL_size (l : List Sg) : (flatB (l.map lineOf)).size = lnL l := by
  induction l with
  | nil => rfl
  | cons k l ih => simp only [List.map_cons, flatB, lnL, ByteArray.size_append, ih]
theorem note_sz (body : ByteArray) (l : List Sg) : (noteOf body l).size = body.size + 1 + lnL l := by
  unfold noteOf
  rw [ByteArray.size_append, ByteArray.size_append, lnL_size]
  rfl
theorem note_snoc (body : ByteArray) (l : List Sg) (g : Sg) : noteOf body (l ++ [g]) = noteOf body l ++ lineOf g := by
  unfold noteOf
  rw [List.map_append, flat_app, ← ByteArray.append_assoc]
  simp only [List.map_cons, List.map_nil, flatB, ByteArray.append_empty]
end Go.Proofs.YtpbapaghcabehaaGreatDoor.o9

namespace Go.Proofs.YtpbapaghcabehaaGreatDoor.p1
open Go.RowKit Go.PlainAid Go.Shelf
open Go.Proofs.YtpbapaghcabehaaGreatDoor.pj Go.Proofs.YtpbapaghcabehaaGreatDoor.rf Go.Proofs.YtpbapaghcabehaaGreatDoor.mo Go.Proofs.YtpbapaghcabehaaGreatDoor.nd Go.Proofs.YtpbapaghcabehaaGreatDoor.nh Go.Proofs.YtpbapaghcabehaaGreatDoor.tb Go.Proofs.YtpbapaghcabehaaGreatDoor.tc Go.Proofs.YtpbapaghcabehaaGreatDoor.tj Go.Proofs.YtpbapaghcabehaaGreatDoor.n1 Go.Proofs.YtpbapaghcabehaaGreatDoor.n3 Go.Proofs.YtpbapaghcabehaaGreatDoor.n4 Go.Proofs.YtpbapaghcabehaaGreatDoor.o1 Go.Proofs.YtpbapaghcabehaaGreatDoor.o3 Go.Proofs.YtpbapaghcabehaaGreatDoor.o4 Go.Proofs.YtpbapaghcabehaaGreatDoor.o5 Go.Proofs.YtpbapaghcabehaaGreatDoor.o6 Go.Proofs.YtpbapaghcabehaaGreatDoor.o7 Go.Proofs.YtpbapaghcabehaaGreatDoor.o8 Go.Proofs.YtpbapaghcabehaaGreatDoor.o9 Go.Proofs.YtpbapaghcabehaaGreatDoor.kp
set_option linter.unusedVariables false
set_option maxRecDepth 4000

theorem nm_le (s : ByteArray) (h : nm s = true) : s.size ≤ 64 := by
  unfold nm at h
  rw [Bool.and_eq_true, Bool.and_eq_true] at h
  exact of_decide_eq_true h.1.2
theorem tg_nm (ks : List Ky) : ∀ d, tgF d ks = 0 → ∀ k ∈ ks, nm k.1 = true := by
  induction ks with
  | nil => intro d _ k hk; cases hk
  | cons y ks ih =>
    intro d h k hk
    unfold tgF at h
    by_cases hn : nm y.1 = false
    · rw [if_pos hn] at h; cases h
    · rw [if_neg hn] at h
      split at h
      · cases h
      · rcases List.mem_cons.1 hk with rfl | hk
        · simpa using hn
        · exact ih _ h k hk
theorem tg_step (d : List Sg) (ks : List Ky) (body : ByteArray) (n : Nat) (h : n < ks.length) : tgF d (ks.drop n) = if nm (ks[n]'h).1 = false then 203 else if amg d (sigOf ks[n] body) then 200 else tgF (d ++ [sigOf ks[n] body]) (ks.drop (n + 1)) := by
  rw [tg_drop d ks n h]
  rw [amg_eq d d (bare ks[n]) (sigOf ks[n] body) rfl (by simp only [bare, sigOf]) (by simp only [bare, sigOf]), tgF_eq _ (d ++ [bare ks[n]]) (d ++ [sigOf ks[n] body]) (by rw [List.map_append, List.map_append]; simp only [bare, sigOf, List.map_cons, List.map_nil])]
theorem ln_sz (ks : List Ky) (body : ByteArray) : lnL (ks.map (sigOf · body)) = szL ks := by
  rw [← lnL_size]; exact flat_size ks body
theorem sz_small (ks : List Ky) (h : ∀ k ∈ ks, nm k.1 = true) : szL ks ≤ ks.length * 118 := by
  induction ks with
  | nil => simp [szL]
  | cons k l ih =>
    have h1 := nm_le k.1 (h k (by simp))
    have h2 := ih (fun x hx => h x (by simp [hx]))
    simp only [szL, List.length_cons]
    omega
end Go.Proofs.YtpbapaghcabehaaGreatDoor.p1
