import Derived.Shelf.Strings.Builder1
import Derived.Shelf.Strings.BuilderF
import Derived.Shelf.Strings.BuilderK
import Derived.Shelf.Pu.Clone
import Derived.Test.YthdkbjbhjfiaiaaGreatDoorProg
import Derived.Test.YthdkbjbhjfiaiaaGreatDoorH1
import Derived.Test.YthdkbjbhjfiaiaaGreatDoorXA
import Derived.Test.YthdkbjbhjfiaiaaGreatDoorXB
namespace Go.Proofs.YthdkbjbhjfiaiaaGreatDoor.sb
open Go.Shelf
set_option linter.unusedVariables false
set_option maxRecDepth 4000
def ren : Go.Shelf.Ren := ⟨fun | 166 => 93 | 240 => 124 | 276 => 140 | 169 => 95 | 167 => 94 | n => n, fun | 0 => 0 | 3 => 3 | 4 => 4 | 5 => 5 | 9 => 9 | 20 => 20 | 37 => 77 | 70 => 128 | 72 => 130 | 75 => 120 | 76 => 121 | 80 => 117 | 164 => 169 | 127 => 156 | n => n, fun | n => n⟩
theorem lays166 : Go.Proofs.Lays.n166 Tryz.prog ren := {
  mixed := by kernel_rfl
  f166 := Tryz.func93.trans (congrArg some (by kernel_rfl))
  f240 := Tryz.func124.trans (congrArg some (by kernel_rfl))
  f276 := Tryz.func140.trans (congrArg some (by kernel_rfl))
  t0 := Tryz.underlying0
  a0 := Tryz.isAgg0
  z0 := Tryz.sizeOf0
  v0 := Tryz.zeroValue0
  t3 := Tryz.underlying3
  a3 := Tryz.isAgg3
  z3 := Tryz.sizeOf3
  v3 := Tryz.zeroValue3
  t4 := Tryz.underlying4
  a4 := Tryz.isAgg4
  z4 := Tryz.sizeOf4
  v4 := Tryz.zeroValue4
  t9 := Tryz.underlying9
  a9 := Tryz.isAgg9
  z9 := Tryz.sizeOf9
  v9 := Tryz.zeroValue9
  t20 := Tryz.underlying20
  a20 := Tryz.isAgg20
  z20 := Tryz.sizeOf20
  v20 := Tryz.zeroValue20
  t37 := Tryz.underlying77
  a37 := Tryz.isAgg77
  z37 := Tryz.sizeOf77
  v37 := Tryz.zeroValue77
  t70 := Tryz.underlying128
  a70 := Tryz.isAgg128
  z70 := Tryz.sizeOf128
  v70 := Tryz.zeroValue128
  t72 := Tryz.underlying130
  a72 := Tryz.isAgg130
  z72 := Tryz.sizeOf130
  v72 := Tryz.zeroValue130
  t75 := Tryz.underlying120
  a75 := Tryz.isAgg120
  z75 := Tryz.sizeOf120
  v75 := Tryz.zeroValue120
  t164 := Tryz.underlying169
  a164 := Tryz.isAgg169
  z164 := Tryz.sizeOf169
  v164 := Tryz.zeroValue169 }
theorem lays167 : Go.Proofs.Lays.n167 Tryz.prog ren := {
  mixed := by kernel_rfl
  f167 := Tryz.func94.trans (congrArg some (by kernel_rfl))
  f240 := Tryz.func124.trans (congrArg some (by kernel_rfl))
  f276 := Tryz.func140.trans (congrArg some (by kernel_rfl))
  t0 := Tryz.underlying0
  a0 := Tryz.isAgg0
  z0 := Tryz.sizeOf0
  v0 := Tryz.zeroValue0
  t4 := Tryz.underlying4
  a4 := Tryz.isAgg4
  z4 := Tryz.sizeOf4
  v4 := Tryz.zeroValue4
  t5 := Tryz.underlying5
  a5 := Tryz.isAgg5
  z5 := Tryz.sizeOf5
  v5 := Tryz.zeroValue5
  t9 := Tryz.underlying9
  a9 := Tryz.isAgg9
  z9 := Tryz.sizeOf9
  v9 := Tryz.zeroValue9
  t20 := Tryz.underlying20
  a20 := Tryz.isAgg20
  z20 := Tryz.sizeOf20
  v20 := Tryz.zeroValue20
  t37 := Tryz.underlying77
  a37 := Tryz.isAgg77
  z37 := Tryz.sizeOf77
  v37 := Tryz.zeroValue77
  t70 := Tryz.underlying128
  a70 := Tryz.isAgg128
  z70 := Tryz.sizeOf128
  v70 := Tryz.zeroValue128
  t72 := Tryz.underlying130
  a72 := Tryz.isAgg130
  z72 := Tryz.sizeOf130
  v72 := Tryz.zeroValue130
  t75 := Tryz.underlying120
  a75 := Tryz.isAgg120
  z75 := Tryz.sizeOf120
  v75 := Tryz.zeroValue120
  t164 := Tryz.underlying169
  a164 := Tryz.isAgg169
  z164 := Tryz.sizeOf169
  v164 := Tryz.zeroValue169 }
theorem lays169 : Go.Proofs.Lays.n169 Tryz.prog ren := {
  mixed := by kernel_rfl
  f169 := Tryz.func95.trans (congrArg some (by kernel_rfl))
  t0 := Tryz.underlying0
  a0 := Tryz.isAgg0
  z0 := Tryz.sizeOf0
  v0 := Tryz.zeroValue0
  t3 := Tryz.underlying3
  a3 := Tryz.isAgg3
  z3 := Tryz.sizeOf3
  v3 := Tryz.zeroValue3
  t9 := Tryz.underlying9
  a9 := Tryz.isAgg9
  z9 := Tryz.sizeOf9
  v9 := Tryz.zeroValue9
  t37 := Tryz.underlying77
  a37 := Tryz.isAgg77
  z37 := Tryz.sizeOf77
  v37 := Tryz.zeroValue77
  t70 := Tryz.underlying128
  a70 := Tryz.isAgg128
  z70 := Tryz.sizeOf128
  v70 := Tryz.zeroValue128
  t72 := Tryz.underlying130
  a72 := Tryz.isAgg130
  z72 := Tryz.sizeOf130
  v72 := Tryz.zeroValue130
  t127 := Tryz.underlying156
  a127 := Tryz.isAgg156
  z127 := Tryz.sizeOf156
  v127 := Tryz.zeroValue156 }
theorem extra : Builder.Extra Tryz.prog ren := {
  sizeBuilder := by kernel_rfl
  liesBuilder := by kernel_rfl
  t5 := Tryz.underlying5
  a5 := Tryz.isAgg5
  z5 := Tryz.sizeOf5
  v5 := Tryz.zeroValue5
  infoByte := by kernel_rfl
  cellsByte := by kernel_rfl
  sizeByte := by kernel_rfl
  neB5 := by decide }
def renC : Go.Shelf.Ren := ⟨fun | 25 => 151 | n => n, fun | 0 => 0 | 3 => 3 | 4 => 4 | 5 => 5 | 9 => 9 | 37 => 77 | 47 => 156 | n => n, fun | n => n⟩
theorem laysC : Go.Proofs.LaysPu.n25 Tryz.prog renC := {
  mixed := by kernel_rfl
  f25 := Tryz.func151.trans (congrArg some (by kernel_rfl))
  t0 := Tryz.underlying0
  a0 := Tryz.isAgg0
  z0 := Tryz.sizeOf0
  v0 := Tryz.zeroValue0
  i0 := by kernel_rfl
  t3 := Tryz.underlying3
  a3 := Tryz.isAgg3
  z3 := Tryz.sizeOf3
  v3 := Tryz.zeroValue3
  i3 := by kernel_rfl
  t4 := Tryz.underlying4
  a4 := Tryz.isAgg4
  z4 := Tryz.sizeOf4
  v4 := Tryz.zeroValue4
  i4 := by kernel_rfl
  t5 := Tryz.underlying5
  a5 := Tryz.isAgg5
  z5 := Tryz.sizeOf5
  v5 := Tryz.zeroValue5
  i5 := by kernel_rfl
  t9 := Tryz.underlying9
  a9 := Tryz.isAgg9
  z9 := Tryz.sizeOf9
  v9 := Tryz.zeroValue9
  i9 := by kernel_rfl
  t37 := Tryz.underlying77
  a37 := Tryz.isAgg77
  z37 := Tryz.sizeOf77
  v37 := Tryz.zeroValue77
  i37 := by kernel_rfl
  t47 := Tryz.underlying156
  a47 := Tryz.isAgg156
  z47 := Tryz.sizeOf156
  v47 := Tryz.zeroValue156
  i47 := by kernel_rfl }
end Go.Proofs.YthdkbjbhjfiaiaaGreatDoor.sb

namespace Go.Proofs.YthdkbjbhjfiaiaaGreatDoor.o7
open Go.RowKit Go.PlainAid Go.Shelf
open Go.Proofs.YthdkbjbhjfiaiaaGreatDoor.pj Go.Proofs.YthdkbjbhjfiaiaaGreatDoor.rf Go.Proofs.YthdkbjbhjfiaiaaGreatDoor.mo Go.Proofs.YthdkbjbhjfiaiaaGreatDoor.nd Go.Proofs.YthdkbjbhjfiaiaaGreatDoor.nh Go.Proofs.YthdkbjbhjfiaiaaGreatDoor.tb Go.Proofs.YthdkbjbhjfiaiaaGreatDoor.tc Go.Proofs.YthdkbjbhjfiaiaaGreatDoor.tj Go.Proofs.YthdkbjbhjfiaiaaGreatDoor.n1 Go.Proofs.YthdkbjbhjfiaiaaGreatDoor.n3 Go.Proofs.YthdkbjbhjfiaiaaGreatDoor.n4 Go.Proofs.YthdkbjbhjfiaiaaGreatDoor.o1 Go.Proofs.YthdkbjbhjfiaiaaGreatDoor.o3 Go.Proofs.YthdkbjbhjfiaiaaGreatDoor.o4 Go.Proofs.YthdkbjbhjfiaiaaGreatDoor.o5 Go.Proofs.YthdkbjbhjfiaiaaGreatDoor.o6 Go.Proofs.YthdkbjbhjfiaiaaGreatDoor.sb Go.Proofs.YthdkbjbhjfiaiaaGreatDoor.kp
set_option linter.unusedVariables false
set_option maxRecDepth 4000

-- a builder that holds a text
def Bb (B b : Nat) (s : ByteArray) (w : World) : Prop := Lib.IsBuilder 130 5 B b (Lib.byteCells s.data.toList) w
theorem bat_below {T e : TypeId} {B b : Nat} {p : Value} {bs : List Value} {W W' : World} (h : Lib.BuilderAt T e B b p bs W) (hb : Below W.heap.size W W') : Lib.BuilderAt T e B b p bs W' := by
  obtain ⟨hB, v, hv, hown, hne⟩ := h
  exact ⟨hB, v, (hb.block b (Array.getElem?_eq_some_iff.1 hv).1).trans hv, own_kp hown (Kp.of_below (A := fun _ => False) hb) (fun _ _ e => e), hne⟩
theorem Bb.below {B b : Nat} {s : ByteArray} {W W' : World} (h : Bb B b s W) (hb : Below W.heap.size W W') : Bb B b s W' := h.elim (fun x => .inl (bat_below x hb)) (fun x => .inr (bat_below x hb))
theorem Bb.fresh (w : World) : Bb w.heap.size w.heap.size ByteArray.empty (w.alloc (.cells #[.pointer none, .slice none 0 0] 130)) := Lib.fresh_isBuilder 130 5 w
theorem data_len (s : ByteArray) : s.data.toList.length = s.size := Array.length_toList
theorem data_two (a b : ByteArray) : (a ++ b).data.toList = a.data.toList ++ b.data.toList := by rw [ByteArray.data_append, Array.toList_append]
theorem wsC (B b : Nat) (s t : ByteArray) (w : World) (h : Bb B b s w) (hlen : s.size + t.size ≤ 140737488355328) (hB : B ≤ w.heap.size) :
    Calls Tryz.prog 93 #[.pointer (some ⟨b, 0, none⟩), .string t] w fun e w' => e = .returned (.tuple #[.int .i64 t.size, .nilIface]) ∧ Bb B b (s ++ t) w' ∧ Below B w w' := by
  refine (Any.Builder_WriteString lays166 extra B b (Lib.byteCells s.data.toList) t w h (by rw [Lib.byteCells_length, data_len]; exact hlen) hB).mono ?_
  rintro e w' ⟨rfl, h1, h2⟩
  refine ⟨rfl, ?_, h2⟩
  unfold Bb
  rw [data_two, Lib.byteCells_append]
  exact .inr h1
theorem wbC (B b : Nat) (s : ByteArray) (w : World) (h : Bb B b s w) (hlen : s.size + 1 ≤ 140737488355328) (hB : B ≤ w.heap.size) :
    Calls Tryz.prog 94 #[.pointer (some ⟨b, 0, none⟩), .int .u8 10] w fun e w' => e = .returned .nilIface ∧ Bb B b (s ++ ⟨#[10]⟩) w' ∧ Below B w w' := by
  refine (Any.Builder_WriteByte lays167 extra B b (Lib.byteCells s.data.toList) 10 w h (by rw [Lib.byteCells_length, data_len]; exact hlen) hB).mono ?_
  rintro e w' ⟨rfl, h1, h2⟩
  refine ⟨rfl, ?_, h2⟩
  unfold Bb
  rw [data_two, Lib.byteCells_append]
  exact .inr h1
theorem sC (B b : Nat) (s : ByteArray) (w : World) (h : Bb B b s w) (hB : B ≤ w.heap.size) :
    Calls Tryz.prog 95 #[.pointer (some ⟨b, 0, none⟩)] w fun e w' => e = .returned (.string s) ∧ Below B w w' := by
  refine (Any.Builder_String_any lays169 extra B b s.data.toList w h hB).mono ?_
  rintro e w' ⟨rfl, h2⟩
  exact ⟨rfl, h2⟩
-- how long the note will be
def szL : List Ky → Nat
  | [] => 0
  | k :: l => k.1.size + 54 + szL l
theorem szL_app (a b : List Ky) : szL (a ++ b) = szL a + szL b := by
  induction a with
  | nil => simp [szL]
  | cons k a ih => simp only [List.cons_append, szL, ih]; omega
theorem szL_le (l : List Ky) (h : ∀ k ∈ l, k.1.size ≤ 140737488351232) : szL l ≤ l.length * 140737488351286 := by
  induction l with
  | nil => simp [szL]
  | cons k l ih =>
    have h1 := h k (by simp)
    have h2 := ih (fun x hx => h x (by simp [hx]))
    simp only [szL, List.length_cons]
    omega
theorem flat_size (l : List Ky) (body : ByteArray) : (flatB ((l.map (sigOf · body)).map lineOf)).size = szL l := by
  induction l with
  | nil => rfl
  | cons k l ih => simp only [List.map_cons, flatB, szL, ByteArray.size_append, ih, sig_line]
def signE (body : ByteArray) (ks : List Ky) : Int :=
  if goesB body = false then 200 else if ks.length = 0 then 82 else if 16 < ks.length then 83 else if tgF [] ks ≠ 0 then tgF [] ks else if 65536 < body.size + 1 + szL ks then 121 else 0
def signT (body : ByteArray) (ks : List Ky) : ByteArray := if signE body ks = 0 then noteOf body (ks.map (sigOf · body)) else ByteArray.empty
def signV (body : ByteArray) (ks : List Ky) : Value := .tuple #[.string (signT body ks), .int .i64 (signE body ks)]
theorem note_size (body : ByteArray) (ks : List Ky) : (noteOf body (ks.map (sigOf · body))).size = body.size + 1 + szL ks := by
  unfold noteOf
  rw [ByteArray.size_append, ByteArray.size_append, flat_size]
  rfl
end Go.Proofs.YthdkbjbhjfiaiaaGreatDoor.o7

namespace Go.Proofs.YthdkbjbhjfiaiaaGreatDoor.o8
open Go.RowKit Go.PlainAid Go.Shelf
open Go.Proofs.YthdkbjbhjfiaiaaGreatDoor.pj Go.Proofs.YthdkbjbhjfiaiaaGreatDoor.rf Go.Proofs.YthdkbjbhjfiaiaaGreatDoor.mo Go.Proofs.YthdkbjbhjfiaiaaGreatDoor.nd Go.Proofs.YthdkbjbhjfiaiaaGreatDoor.nh Go.Proofs.YthdkbjbhjfiaiaaGreatDoor.tb Go.Proofs.YthdkbjbhjfiaiaaGreatDoor.tc Go.Proofs.YthdkbjbhjfiaiaaGreatDoor.tj Go.Proofs.YthdkbjbhjfiaiaaGreatDoor.n1 Go.Proofs.YthdkbjbhjfiaiaaGreatDoor.n3 Go.Proofs.YthdkbjbhjfiaiaaGreatDoor.n4 Go.Proofs.YthdkbjbhjfiaiaaGreatDoor.o1 Go.Proofs.YthdkbjbhjfiaiaaGreatDoor.o3 Go.Proofs.YthdkbjbhjfiaiaaGreatDoor.o4 Go.Proofs.YthdkbjbhjfiaiaaGreatDoor.o5 Go.Proofs.YthdkbjbhjfiaiaaGreatDoor.o6 Go.Proofs.YthdkbjbhjfiaiaaGreatDoor.o7 Go.Proofs.YthdkbjbhjfiaiaaGreatDoor.kp
set_option linter.unusedVariables false
set_option maxRecDepth 4000

-- bytes of one's own that make a text
def OwB (w : World) (base : Nat) (v : Value) (s : ByteArray) : Prop := ∃ g cap, v = .slice (some ⟨g, 0, none⟩) s.size cap ∧ base ≤ g ∧ g < w.heap.size ∧ (∀ j, j < s.size → w.cell? ⟨g, j, none⟩ = some (.int .u8 (bt s j))) ∧ (∀ j, s.size ≤ j → j < cap → (w.cell? ⟨g, j, none⟩).isSome = true ∧ w.frozen? ⟨g, j, none⟩ = false)
theorem OwB.later {w w' : World} {base : Nat} {v : Value} {s : ByteArray} (h : OwB w base v s) (b : Below w.heap.size w w') : OwB w' base v s := by
  obtain ⟨g, cap, rfl, hb, hg, h1, h2⟩ := h
  refine ⟨g, cap, rfl, hb, Nat.lt_of_lt_of_le hg b.size, fun j hj => ?_, fun j h3 h4 => ?_⟩
  · rw [b.cell (p := ⟨g, j, none⟩) hg]; exact h1 j hj
  · rw [b.cell (p := ⟨g, j, none⟩) hg, b.frozen (p := ⟨g, j, none⟩) hg]; exact h2 j h3 h4
theorem OwB.form {w : World} {base : Nat} {v : Value} {s : ByteArray} (h : OwB w base v s) : ∃ g cap, v = .slice (some ⟨g, 0, none⟩) s.size cap := by
  obtain ⟨g, cap, rfl, _⟩ := h
  exact ⟨g, cap, rfl⟩
theorem ofString (w : World) (s : ByteArray) (hs : s.size ≤ 140737488352256) : ∃ v w', (convert 9 77 (.string s)).run Tryz.prog w = .ok v w' ∧ OwB w' w.heap.size v s ∧ Below w.heap.size w w' := by
  obtain ⟨v, w', h1, ⟨h2, g, cap, rfl, h3, h4, h5, h6⟩, h7⟩ := Go.Proofs.YthdkbjbhjfiaiaaGreatDoor.rc.of_string w s hs
  refine ⟨_, w', h1, ⟨g, cap, rfl, h3, h4, fun j hj => ?_, h6⟩, h7⟩
  rw [h5 j hj, Go.Proofs.YthdkbjbhjfiaiaaGreatDoor.pd.btL_get _ _ _ hj]
theorem toString (w : World) (base : Nat) (v : Value) (s : ByteArray) (h : OwB w base v s) : (convert 77 9 v).run Tryz.prog w = .ok (.string s) w := by
  obtain ⟨g, cap, rfl, hb, hg, h1, h2⟩ := h
  have := conv_at (bs s) w g 0 s.size cap (bs_length s).symm (fun j u hj => by
    have hjl : j < s.size := by have := (List.getElem?_eq_some_iff.1 hj).1; rw [List.length_map, bs_length] at this; exact this
    rw [Addr.add_mid, Nat.zero_add, h1 j hjl, ← hj, List.getElem?_map, List.getElem?_eq_getElem (by rw [bs_length]; exact hjl), bs_get s j hjl]
    rfl)
  rw [str_bs] at this
  exact this
theorem bt_left (a b : ByteArray) (j : Nat) (h : j < a.size) : bt (a ++ b) j = bt a j := by
  rw [← get_bt (a ++ b) j (by rw [ByteArray.size_append]; omega), ← get_bt a j h, ByteArray.getElem_append_left]
theorem bt_right (a b : ByteArray) (j : Nat) (h : j < b.size) : bt (a ++ b) (a.size + j) = bt b j := by
  rw [← get_bt (a ++ b) (a.size + j) (by rw [ByteArray.size_append]; omega), ← get_bt b j h, ByteArray.getElem_append_right (by omega)]
  simp
theorem cells_get (q : ByteArray) (j : Nat) (h : j < q.size) : (Go.Proofs.YthdkbjbhjfiaiaaGreatDoor.na.cellsS q)[j]'(by rw [Go.Proofs.YthdkbjbhjfiaiaaGreatDoor.na.cellsS_length]; exact h) = .int .u8 (bt q j) := by
  simp [Go.Proofs.YthdkbjbhjfiaiaaGreatDoor.na.cellsS, Go.Proofs.YthdkbjbhjfiaiaaGreatDoor.pd.btL]
open Go.Proofs.YthdkbjbhjfiaiaaGreatDoor.na in
theorem room_str (w : World) (ty : TypeId) (g sLen sCap : Nat) (q : ByteArray) (hroom : sLen + q.size ≤ sCap) (hc : ∀ j, j < q.size → (w.cell? ⟨g, sLen + j, none⟩).isSome = true) (hf : ∀ j, j < q.size → w.frozen? ⟨g, sLen + j, none⟩ = false) :
    (Builtin.append_ #[77, 9] ty #[.slice (some ⟨g, 0, none⟩) sLen sCap, .string q]).run Tryz.prog w =
      .ok (.slice (some ⟨g, 0, none⟩) (sLen + q.size) sCap) (w.setCells g sLen (cellsS q)) := by
  have hst := run_storeCells_cells (P := Tryz.prog) g sLen (cellsS q) 0 w (by rw [cellsS_length]; simpa using hc) (by rw [cellsS_length]; simpa using hf) (cellsS_one q)
  simp only [Nat.add_zero] at hst
  have hfs := first_str q
  simp only [Builtin.append_, Builtin.lenOf, List.getElem?_toArray, List.getElem?_cons_zero, List.getElem?_cons_succ, Sem.run_bind, Sem.run_pure, run_underlying Tryz.underlying77, run_underlying Tryz.underlying9, Result.andThen_ok, Go.Proofs.YthdkbjbhjfiaiaaGreatDoor.pb.si8]
  simp [hroom, Addr.add_lit, hfs, hst]
theorem below_setCells {B : Nat} (b : Nat) (hB : B ≤ b) : ∀ (vs : List Value) (o : Nat) (w : World), Below B w (w.setCells b o vs)
  | [], _, _ => Below.refl _ _
  | v :: r, o, w => ((Below.refl B w).setCell (p := ⟨b, o, none⟩) hB v).trans (below_setCells b hB r (o + 1) _)
theorem size_setCells (b : Nat) : ∀ (vs : List Value) (o : Nat) (w : World), (w.setCells b o vs).heap.size = w.heap.size
  | [], _, _ => rfl
  | v :: r, o, w => by rw [World.setCells, size_setCells b r (o + 1)]; simp [World.setCell]
open Go.Proofs.YthdkbjbhjfiaiaaGreatDoor.na in
theorem appB (w : World) (base : Nat) (ty : TypeId) (v : Value) (s q : ByteArray) (h : OwB w base v s) (h63 : s.size + q.size ≤ 140737488355328) (hbase : base ≤ w.heap.size) :
    ∃ v' w', (Builtin.append_ #[77, 9] ty #[v, .string q]).run Tryz.prog w = .ok v' w' ∧ OwB w' base v' (s ++ q) ∧ Below base w w' := by
  obtain ⟨g, cap, rfl, hb, hg, h1, h2⟩ := h
  by_cases hroom : s.size + q.size ≤ cap
  · have hr := room_str w ty g s.size cap q hroom (fun j hj => (h2 _ (by omega) (by omega)).1) (fun j hj => (h2 _ (by omega) (by omega)).2)
    refine ⟨_, _, hr, ⟨g, cap, by rw [ByteArray.size_append], hb, by rw [size_setCells]; exact hg, fun j hj => ?_, fun j ha hc => ?_⟩, below_setCells g hb _ _ _⟩
    · rw [ByteArray.size_append] at hj
      rcases Nat.lt_or_ge j s.size with hj1 | hj1
      · rw [World.cell?_setCells_out g _ _ _ _ (fun _ _ => .inl hj1), h1 j hj1, bt_left _ _ _ hj1]
      · obtain ⟨k, rfl⟩ : ∃ k, j = s.size + k := ⟨j - s.size, by omega⟩
        rw [World.cell?_setCells_in g _ _ _ (fun i hi => (h2 _ (by omega) (by rw [cellsS_length] at hi; omega)).1) k (by rw [cellsS_length]; omega), cells_get q k (by omega), bt_right _ _ _ (by omega)]
    · rw [ByteArray.size_append] at ha
      rw [World.cell?_setCells_out g _ _ _ _ (fun _ _ => .inr (by rw [cellsS_length]; exact ha)), World.frozen?_setCells]
      exact h2 j (by omega) hc
  · obtain ⟨i, hi, hz0, hz1, hz2⟩ := info_parts info5
    have hlen : ((bs s).map (Value.int .u8)).length = s.size := by rw [List.length_map, bs_length]
    have holds : ∀ j u, ((bs s).map (Value.int .u8))[j]? = some u → w.cell? ((⟨g, 0, none⟩ : Addr).add j) = some u := by
      intro j u hj
      have hjl : j < s.size := by have := (List.getElem?_eq_some_iff.1 hj).1; rw [hlen] at this; exact this
      rw [Addr.add_mid, Nat.zero_add, h1 j hjl, ← hj, List.getElem?_map, List.getElem?_eq_getElem (by rw [bs_length]; exact hjl), bs_get s j hjl]
      rfl
    have hr := append_str_grow w ty i hi hz0 hz2 ⟨g, 0, none⟩ s.size cap ((bs s).map (Value.int .u8)) hlen holds q (by omega) h63
    have hge := grownCap_ge w (s.size + q.size) cap 5
    have hh := heap_alloc_new w.drew (.cells (((bs s).map (Value.int .u8)).toArray ++ (cellsS q).toArray ++ Builtin.zeroCells (Value.int .u8 0).cells (grownCap w (s.size + q.size) cap 5 - (s.size + q.size))) 5)
    refine ⟨_, _, hr, ⟨w.heap.size, _, by rw [ByteArray.size_append], hbase, by simp, fun j hj => ?_, fun j ha hc => ?_⟩, ((Below.refl _ _).drew).alloc hbase _⟩
    · have hcell := cell_of_row _ _ j _ _ _ hh
      have ed : w.drew.heap.size = w.heap.size := rfl
      rw [ed] at hcell
      rw [hcell]
      rw [ByteArray.size_append] at hj
      rw [Array.getElem?_append_left (by simp only [Array.size_append, List.size_toArray, hlen, cellsS_length]; exact hj)]
      rcases Nat.lt_or_ge j s.size with hj1 | hj1
      · rw [Array.getElem?_append_left (by simp only [List.size_toArray, hlen]; exact hj1), List.getElem?_toArray, List.getElem?_map, List.getElem?_eq_getElem (by rw [bs_length]; exact hj1), bs_get s j hj1, bt_left _ _ _ hj1]
        rfl
      · obtain ⟨k, rfl⟩ : ∃ k, j = s.size + k := ⟨j - s.size, by omega⟩
        rw [Array.getElem?_append_right (by simp only [List.size_toArray, hlen]; omega), List.getElem?_toArray]
        simp only [List.size_toArray, hlen, Nat.add_sub_cancel_left]
        rw [List.getElem?_eq_getElem (by rw [cellsS_length]; omega), cells_get q k (by omega), bt_right _ _ _ (by omega)]
    · have hcell := cell_of_row _ _ j _ _ _ hh
      have hfz := frozen_of_row _ _ j _ _ hh
      have ed : w.drew.heap.size = w.heap.size := rfl
      rw [ed] at hcell hfz
      refine ⟨?_, hfz⟩
      rw [hcell, Array.getElem?_eq_getElem]
      · rfl
      · have hz : (Value.int .u8 0).cells.size = 1 := rfl
        simp only [Array.size_append, List.size_toArray, size_zeroCells, hz, hlen, cellsS_length]
        omega
theorem wpList_appB {ops : Array Oper} {rest : List Oper} {o : Oper} {a : Act} {w : World} {Q : Exit → Act → World → Prop} (hgd : o.guard = none) (s x : Operand)
    (ho : o.op = .call { callee := .builtin .append, args := #[s, x], argTypes := #[77, 9] }) (base : Nat) (v : Value) (t q : ByteArray) (hs : a.eval s = v) (hown : OwB w base v t)
    (hx : a.eval x = .string q) (h63 : t.size + q.size ≤ 140737488355328) (hbase : base ≤ w.heap.size)
    (h : ∀ v' w', OwB w' base v' (t ++ q) → Below base w w' → wpList Tryz.prog ops Q rest (a.put o.dst v') w') : wpList Tryz.prog ops Q (o :: rest) a w := by
  obtain ⟨v', w', hr, h2, h3⟩ := appB w base o.type v t q hown h63 hbase
  refine wpList_plain hgd fun K hK => ?_
  unfold Oper.wp execOp
  simp only [ho, resolve, invoke, builtin, Sem.run_bind, Sem.run_pure, Result.andThen_ok, List.map_toArray, List.map_cons, List.map_nil, hs, hx, hr]
  exact hK _ _ (h v' w' h2 h3)
end Go.Proofs.YthdkbjbhjfiaiaaGreatDoor.o8

namespace Go.Proofs.YthdkbjbhjfiaiaaGreatDoor.o9
open Go.RowKit Go.PlainAid Go.Shelf
open Go.Proofs.YthdkbjbhjfiaiaaGreatDoor.pj Go.Proofs.YthdkbjbhjfiaiaaGreatDoor.rf Go.Proofs.YthdkbjbhjfiaiaaGreatDoor.mo Go.Proofs.YthdkbjbhjfiaiaaGreatDoor.nd Go.Proofs.YthdkbjbhjfiaiaaGreatDoor.nh Go.Proofs.YthdkbjbhjfiaiaaGreatDoor.tb Go.Proofs.YthdkbjbhjfiaiaaGreatDoor.tc Go.Proofs.YthdkbjbhjfiaiaaGreatDoor.tj Go.Proofs.YthdkbjbhjfiaiaaGreatDoor.n1 Go.Proofs.YthdkbjbhjfiaiaaGreatDoor.n3 Go.Proofs.YthdkbjbhjfiaiaaGreatDoor.n4 Go.Proofs.YthdkbjbhjfiaiaaGreatDoor.o1 Go.Proofs.YthdkbjbhjfiaiaaGreatDoor.o3 Go.Proofs.YthdkbjbhjfiaiaaGreatDoor.o4 Go.Proofs.YthdkbjbhjfiaiaaGreatDoor.o5 Go.Proofs.YthdkbjbhjfiaiaaGreatDoor.o6 Go.Proofs.YthdkbjbhjfiaiaaGreatDoor.o7 Go.Proofs.YthdkbjbhjfiaiaaGreatDoor.o8 Go.Proofs.YthdkbjbhjfiaiaaGreatDoor.kp
set_option linter.unusedVariables false
set_option maxRecDepth 4000

theorem any_take (l : List Sg) (p : Sg → Bool) (k : Nat) (h : k < l.length) : (l.take (k + 1)).any p = ((l.take k).any p || p (l[k]'h)) := by
  rw [take_snoc l k h, List.any_append]; simp
set_option maxHeartbeats 1600000 in
theorem amongD (v : Value) (l : List Sg) (g : Sg) (w : World) (hr : ReadsG w v l) (hz : l.length ≤ 1000000) :
    Calls Tryz.prog 30 #[v, .agg #[.string g.name, .string g.id, .string g.mac]] w fun e w' => e = .returned (.bool (amg l g)) ∧ Below w.heap.size w w' := by
  obtain ⟨a, c, rfl, hcl⟩ := hr
  have HCL : Hid _ := hcl
  clear hcl
  obtain ⟨R, HR⟩ : ∃ R, Hid (amg l g = R) := ⟨_, rfl⟩
  rw [HR.out]
  obtain ⟨gn, gi, gm⟩ := g
  simp only at HR ⊢
  obtain ⟨n, HN⟩ : ∃ n, Hid (l.length = n) := ⟨_, rfl⟩
  have hzn : n ≤ 1000000 := by rw [← HN.out]; exact hz
  rw [HN.out]
  clear hz
  obtain ⟨W, HW⟩ : ∃ W, Hid (w.alloc (.cells #[.string gn, .string gi, .string gm] 43) = W) := ⟨_, rfl⟩
  have BW : Hid (Below w.heap.size w W) := by rw [← HW.out]; exact (Below.refl _ _).alloc (Nat.le_refl _) _
  have zW : W.heap.size = w.heap.size + 1 := by rw [← HW.out]; simp
  have SX : Hid (∀ w', Below (w.heap.size + 1) W w' → w'.cell? ⟨w.heap.size, 0, none⟩ = some (.string gn) ∧ w'.cell? ⟨w.heap.size, 1, none⟩ = some (.string gi) ∧ w'.cell? ⟨w.heap.size, 2, none⟩ = some (.string gm)) := by
    rw [← HW.out]; exact fun w' h => box3 w w' _ _ _ _ h
  go_enter Tryz.func30, Tryz.ntmps30
  go_wp2_with fail
  rw [HW.out]
  go_loopw [5] (fun i wr => ∃ k : Nat, k ≤ n ∧ i = .int .i64 k ∧ Hid ((l.take k).any (fun a => one a ⟨gn, gi, gm⟩) = false) ∧ Hid (Below (w.heap.size + 1) W wr)) (fun i _ => (n - intOf i).toNat)
  case atStart => exact ⟨0, by omega, rfl, rfl, Below.refl _ _⟩
  case round =>
    obtain ⟨k, hk, rfl, HK, HB⟩ := hrel
    obtain ⟨b0, b1, b2⟩ := SX.out _ HB.out
    have BB : Hid (Below w.heap.size w wr) := BW.out.trans (HB.out.mono (by omega))
    by_cases hlt : k < n
    · have hlt' : (k : Int) < n := by omega
      have hkl : k < l.length := by rw [HN.out]; exact hlt
      obtain ⟨b, off, rfl, hbw, hc⟩ : ∃ b off, a = some ⟨b, off, none⟩ ∧ b < w.heap.size ∧ ∀ i g, l[i]? = some g → w.cell? ⟨b, off + i * 3, none⟩ = some (.string g.name) ∧ w.cell? ⟨b, off + i * 3 + 1, none⟩ = some (.string g.id) ∧ w.cell? ⟨b, off + i * 3 + 2, none⟩ = some (.string g.mac) := by
        rcases HCL.out with h | h
        · omega
        · exact h
      obtain ⟨x, HX⟩ : ∃ x, Hid (l[k]'hkl = x) := ⟨_, rfl⟩
      obtain ⟨q1, q2, q3⟩ := hc k x (by rw [List.getElem?_eq_getElem hkl, HX.out])
      have c1 := (BB.out.cell (p := ⟨b, off + k * 3, none⟩) hbw).trans q1
      have c2 := (BB.out.cell (p := ⟨b, off + k * 3 + 1, none⟩) hbw).trans q2
      have HNX : Hid ((l.take (k + 1)).any (fun a => one a ⟨gn, gi, gm⟩) = (eqB x.name gn && eqB x.id gi)) := by
        show _ = _
        rw [any_take l _ k hkl, HK.out, HX.out, Bool.false_or]; rfl
      have HYES : Hid ((eqB x.name gn && eqB x.id gi) = true → R = true) := by
        intro h
        rw [← HR.out]
        unfold amg
        rw [List.any_eq_true]
        exact ⟨x, by rw [← HX.out]; exact List.getElem_mem hkl, h⟩
      have e1 := toList_eqB x.name gn
      have e2 := toList_eqB x.id gi
      have KN : Hid (∀ n, Below (w.heap.size + 1) W (wr.drewN n)) := fun n => below_dN HB.out n
      have KM : Hid (∀ n, Below w.heap.size w (wr.drewN n)) := fun n => below_dN BB.out n
      clear hc q1 q2 q3 HX
      obtain ⟨xn, xi, xm⟩ := x
      simp only at c1 c2 HNX HYES e1 e2
      generalize eqB xn gn = y1 at *
      generalize eqB xi gi = y2 at *
      cases y1
      · go_wp2_with fail
        go_quiet (fail)
        go_wp2
        go_roundw
        case rel => exact ⟨k + 1, by omega, by go_num, HNX, KN.out _⟩
        case measure => simp [intOf]; omega
      · cases y2
        · go_wp2_with fail
          go_quiet (fail)
          go_wp2
          go_roundw
          case rel => exact ⟨k + 1, by omega, by go_num, HNX, KN.out _⟩
          case measure => simp [intOf]; omega
        · have HT : Hid (R = true) := HYES.out rfl
          go_wp2_with fail
          go_quiet (fail)
          go_wp2
          go_ret
          exact ⟨by rw [HT.out]; rfl, KM.out _⟩
    · have hlt' : ¬ (k : Int) < n := by omega
      have HT : Hid (R = false) := by
        show _ = _
        rw [← HR.out, ← HK.out, List.take_of_length_le (by rw [HN.out]; omega)]
        rfl
      go_wp2
      go_ret
      exact ⟨by rw [HT.out]; rfl, BB.out⟩
def lnL : List Sg → Nat
  | [] => 0
  | g :: l => (lineOf g).size + lnL l
theorem lnL_app (a b : List Sg) : lnL (a ++ b) = lnL a + lnL b := by
  induction a with
  | nil => simp [lnL]
  | cons k a ih => simp only [List.cons_append, lnL, ih]; omega
theorem lnL_size (l : List Sg) : (flatB (l.map lineOf)).size = lnL l := by
  induction l with
  | nil => rfl
  | cons k l ih => simp only [List.map_cons, flatB, lnL, ByteArray.size_append, ih]
theorem note_sz (body : ByteArray) (l : List Sg) : (noteOf body l).size = body.size + 1 + lnL l := by
  unfold noteOf
  rw [ByteArray.size_append, ByteArray.size_append, lnL_size]
  rfl
theorem note_snoc (body : ByteArray) (l : List Sg) (g : Sg) : noteOf body (l ++ [g]) = noteOf body l ++ lineOf g := by
  unfold noteOf
  rw [List.map_append, flat_app, ← ByteArray.append_assoc]
  simp only [List.map_cons, List.map_nil, flatB, ByteArray.append_empty]
end Go.Proofs.YthdkbjbhjfiaiaaGreatDoor.o9

namespace Go.Proofs.YthdkbjbhjfiaiaaGreatDoor.p1
open Go.RowKit Go.PlainAid Go.Shelf
open Go.Proofs.YthdkbjbhjfiaiaaGreatDoor.pj Go.Proofs.YthdkbjbhjfiaiaaGreatDoor.rf Go.Proofs.YthdkbjbhjfiaiaaGreatDoor.mo Go.Proofs.YthdkbjbhjfiaiaaGreatDoor.nd Go.Proofs.YthdkbjbhjfiaiaaGreatDoor.nh Go.Proofs.YthdkbjbhjfiaiaaGreatDoor.tb Go.Proofs.YthdkbjbhjfiaiaaGreatDoor.tc Go.Proofs.YthdkbjbhjfiaiaaGreatDoor.tj Go.Proofs.YthdkbjbhjfiaiaaGreatDoor.n1 Go.Proofs.YthdkbjbhjfiaiaaGreatDoor.n3 Go.Proofs.YthdkbjbhjfiaiaaGreatDoor.n4 Go.Proofs.YthdkbjbhjfiaiaaGreatDoor.o1 Go.Proofs.YthdkbjbhjfiaiaaGreatDoor.o3 Go.Proofs.YthdkbjbhjfiaiaaGreatDoor.o4 Go.Proofs.YthdkbjbhjfiaiaaGreatDoor.o5 Go.Proofs.YthdkbjbhjfiaiaaGreatDoor.o6 Go.Proofs.YthdkbjbhjfiaiaaGreatDoor.o7 Go.Proofs.YthdkbjbhjfiaiaaGreatDoor.o8 Go.Proofs.YthdkbjbhjfiaiaaGreatDoor.o9 Go.Proofs.YthdkbjbhjfiaiaaGreatDoor.kp
set_option linter.unusedVariables false
set_option maxRecDepth 4000

theorem nm_le (s : ByteArray) (h : nm s = true) : s.size ≤ 64 := by
  unfold nm at h
  rw [Bool.and_eq_true, Bool.and_eq_true] at h
  exact of_decide_eq_true h.1.2
theorem tg_nm (ks : List Ky) : ∀ d, tgF d ks = 0 → ∀ k ∈ ks, nm k.1 = true := by
  induction ks with
  | nil => intro d _ k hk; cases hk
  | cons y ks ih =>
    intro d h k hk
    unfold tgF at h
    by_cases hn : nm y.1 = false
    · rw [if_pos hn] at h; cases h
    · rw [if_neg hn] at h
      split at h
      · cases h
      · rcases List.mem_cons.1 hk with rfl | hk
        · simpa using hn
        · exact ih _ h k hk
theorem tg_step (d : List Sg) (ks : List Ky) (body : ByteArray) (n : Nat) (h : n < ks.length) : tgF d (ks.drop n) = if nm (ks[n]'h).1 = false then 203 else if amg d (sigOf ks[n] body) then 200 else tgF (d ++ [sigOf ks[n] body]) (ks.drop (n + 1)) := by
  rw [tg_drop d ks n h]
  rw [amg_eq d d (bare ks[n]) (sigOf ks[n] body) rfl (by simp only [bare, sigOf]) (by simp only [bare, sigOf]), tgF_eq _ (d ++ [bare ks[n]]) (d ++ [sigOf ks[n] body]) (by rw [List.map_append, List.map_append]; simp only [bare, sigOf, List.map_cons, List.map_nil])]
theorem ln_sz (ks : List Ky) (body : ByteArray) : lnL (ks.map (sigOf · body)) = szL ks := by
  rw [← lnL_size]; exact flat_size ks body
theorem sz_small (ks : List Ky) (h : ∀ k ∈ ks, nm k.1 = true) : szL ks ≤ ks.length * 118 := by
  induction ks with
  | nil => simp [szL]
  | cons k l ih =>
    have h1 := nm_le k.1 (h k (by simp))
    have h2 := ih (fun x hx => h x (by simp [hx]))
    simp only [szL, List.length_cons]
    omega
end Go.Proofs.YthdkbjbhjfiaiaaGreatDoor.p1
