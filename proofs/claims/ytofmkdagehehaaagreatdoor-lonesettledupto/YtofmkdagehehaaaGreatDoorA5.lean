import Derived.Test.YtofmkdagehehaaaGreatDoorA4
import Derived.Test.YtofmkdagehehaaaGreatDoorA1
import Derived.Shelf.Strings.OnBuilder
import Derived.Test.YtofmkdagehehaaaGreatDoorProg
import Derived.Room.Shelf.Join48
import Derived.Test.YtofmkdagehehaaaGreatDoorA2
import Derived.Laws.BitsAllLaws
namespace Go.Proofs.YtofmkdagehehaaaGreatDoor.kb
open Go.RowKit Go.PlainAid
open Go.Proofs.YtofmkdagehehaaaGreatDoor.pl Go.Proofs.YtofmkdagehehaaaGreatDoor.pi Go.Proofs.YtofmkdagehehaaaGreatDoor.pj Go.Proofs.YtofmkdagehehaaaGreatDoor.rf Go.Proofs.YtofmkdagehehaaaGreatDoor.ca Go.Proofs.YtofmkdagehehaaaGreatDoor.cp Go.Proofs.YtofmkdagehehaaaGreatDoor.ka
set_option linter.unusedVariables false

theorem cut_of (x s : ByteArray) (m : Int) (w : World) (hx : x.size = 32) (hsum : Calls Tryz.prog 198 #[.string s] w fun e w' => e = .returned (.string x) ∧ Below w.heap.size w w') :
    Calls Tryz.prog 165 #[.string s, .int .i64 m] w fun e w' => e = .returned (.string (x.extract 0 (wid m))) ∧ Below w.heap.size w w' := by
  have HSUM : Hid (Calls _ _ _ _ _) := hsum
  clear hsum
  by_cases h1 : m < 1
  · have d1 : decide (m < 1) = true := decide_eq_true h1
    rw [show wid m = 32 by unfold wid; rw [if_pos (.inl h1)]]
    clear h1
    go_enter Tryz.func165, Tryz.ntmps165
    go_wp2_with fail
    refine HSUM.out.mono ?_
    rintro e w1 ⟨rfl, hb1⟩
    have HB1 : Hid (Below _ _ _) := hb1
    clear hb1
    go_wp2
    go_ret
    exact ⟨rfl, HB1.out⟩
  · have d1 : decide (m < 1) = false := decide_eq_false h1
    by_cases h2 : 32 < m
    · have d2 : decide (32 < m) = true := decide_eq_true h2
      rw [show wid m = 32 by unfold wid; rw [if_pos (.inr h2)]]
      clear h1 h2
      go_enter Tryz.func165, Tryz.ntmps165
      go_wp2_with fail
      refine HSUM.out.mono ?_
      rintro e w1 ⟨rfl, hb1⟩
      have HB1 : Hid (Below _ _ _) := hb1
      clear hb1
      go_wp2
      go_ret
      exact ⟨rfl, HB1.out⟩
    · have d2 : decide (32 < m) = false := decide_eq_false h2
      obtain ⟨k, rfl⟩ := Int.eq_ofNat_of_zero_le (show 0 ≤ m by omega)
      have hky : k ≤ 32 := by omega
      have hkz : (k : Int) ≤ 32 := by omega
      rw [show wid (k : Int) = k by unfold wid; rw [if_neg (fun h => h.elim h1 h2)]; omega]
      clear h1 h2
      go_enter Tryz.func165, Tryz.ntmps165
      go_wp2_with fail
      refine HSUM.out.mono ?_
      rintro e w1 ⟨rfl, hb1⟩
      have HB1 : Hid (Below _ _ _) := hb1
      clear hb1
      go_wp2
      go_ret
      exact ⟨rfl, HB1.out⟩
theorem width (m : Int) (w : World) : Calls Tryz.prog 233 #[.int .i64 m] w fun e w' => e = .returned (.int .i64 (wid m)) ∧ w' = w := by
  by_cases h1 : m < 1
  · have d1 : decide (m < 1) = true := decide_eq_true h1
    rw [show wid m = 32 by unfold wid; rw [if_pos (.inl h1)]]
    clear h1
    go_enter Tryz.func233, Tryz.ntmps233
    go_wp2
    go_ret
    exact ⟨rfl, rfl⟩
  · have d1 : decide (m < 1) = false := decide_eq_false h1
    by_cases h2 : 32 < m
    · have d2 : decide (32 < m) = true := decide_eq_true h2
      rw [show wid m = 32 by unfold wid; rw [if_pos (.inr h2)]]
      clear h1 h2
      go_enter Tryz.func233, Tryz.ntmps233
      go_wp2
      go_ret
      exact ⟨rfl, rfl⟩
    · have d2 : decide (32 < m) = false := decide_eq_false h2
      obtain ⟨k, rfl⟩ := Int.eq_ofNat_of_zero_le (show 0 ≤ m by omega)
      rw [show wid (k : Int) = k by unfold wid; rw [if_neg (fun h => h.elim h1 h2)]; omega]
      clear h1 h2
      go_enter Tryz.func233, Tryz.ntmps233
      go_wp2
      go_ret
      exact ⟨rfl, rfl⟩
theorem rcut_of (x s : ByteArray) (m : Int) (w : World) (hx : x.size = 32) (hsum : Calls Tryz.prog 232 #[.string s] w fun e w' => e = .returned (.string x) ∧ Below w.heap.size w w') :
    Calls Tryz.prog 212 #[.string s, .int .i64 m] w fun e w' => e = .returned (.string (x.extract 0 (wid m))) ∧ Below w.heap.size w w' := by
  have HSUM : Hid (Calls _ _ _ _ _) := hsum
  have hw := wid_le m
  have W : Hid (∀ w', Calls _ _ _ _ _) := width m
  clear hsum
  generalize wid m = k at *
  have hk : (k : Int) ≤ 32 := by omega
  go_enter Tryz.func212, Tryz.ntmps212
  go_wp2_with fail
  refine HSUM.out.mono ?_
  rintro e w1 ⟨rfl, hb1⟩
  have HB1 : Hid (Below _ _ _) := hb1
  clear hb1
  go_wp2_with fail
  refine (W.out _).mono ?_
  rintro e w2 ⟨rfl, rfl⟩
  go_wp2
  go_ret
  exact ⟨rfl, HB1.out⟩
theorem rCut (s : ByteArray) (m : Int) (w : World) (hs : s.size ≤ 140737488352256) (T : Tab4 w) :
    Calls Tryz.prog 212 #[.string s, .int .i64 m] w fun e w' => e = .returned (.string ((sha s).extract 0 (wid m))) ∧ Below w.heap.size w w' :=
  rcut_of (sha s) s m w (sha_size s) (RSum s w hs T)
def cutS (s : ByteArray) (m : Int) : ByteArray := (sha s).extract 0 (wid m)
def EF (m : Int) : ByteArray := cutS ByteArray.empty m
def LF (m : Int) (d : ByteArray) : ByteArray := cutS ((⟨#[0]⟩ : ByteArray) ++ d) m
def NF (m : Int) (l r : ByteArray) : ByteArray := cutS ((⟨#[1]⟩ : ByteArray) ++ l ++ r) m
theorem cutS_size (s : ByteArray) (m : Int) : (cutS s m).size = wid m := by
  unfold cutS
  rw [ByteArray.size_extract, sha_size]
  have := wid_le m
  omega
theorem sz0 : (⟨#[0]⟩ : ByteArray).size = 1 := rfl
theorem sz1 : (⟨#[1]⟩ : ByteArray).size = 1 := rfl
theorem rEmpty (m : Int) (w : World) (T : Tab4 w) : Calls Tryz.prog 194 #[.int .i64 m] w fun e w' => e = .returned (.string (EF m)) ∧ Below w.heap.size w w' := by
  have C : Hid (Calls _ _ _ _ _) := rCut ByteArray.empty m w (by decide) T
  have HE : Hid ((sha ByteArray.empty).extract 0 (wid m) = EF m) := rfl
  rw [HE.out] at C
  clear T HE
  go_enter Tryz.func194, Tryz.ntmps194
  go_wp2_with fail
  refine C.out.mono ?_
  rintro e w1 ⟨rfl, hb⟩
  have B1 : Hid (Below w.heap.size w w1) := hb
  clear hb
  go_wp2
  go_ret
  exact ⟨rfl, B1.out⟩
theorem rLeaf (m : Int) (d : ByteArray) (hd : d.size ≤ 140737488352000) (w : World) (T : Tab4 w) : Calls Tryz.prog 195 #[.int .i64 m, .string d] w fun e w' => e = .returned (.string (LF m d)) ∧ Below w.heap.size w w' := by
  have C : Hid (Calls _ _ _ _ _) := rCut ((⟨#[0]⟩ : ByteArray) ++ d) m w (by rw [ByteArray.size_append, sz0]; omega) T
  have HE : Hid ((sha ((⟨#[0]⟩ : ByteArray) ++ d)).extract 0 (wid m) = LF m d) := rfl
  rw [HE.out] at C
  have h0 := sz0
  clear T HE
  go_enter Tryz.func195, Tryz.ntmps195
  go_wp2_with fail
  refine C.out.mono ?_
  rintro e w1 ⟨rfl, hb⟩
  have B1 : Hid (Below w.heap.size w w1) := hb
  clear hb
  go_wp2
  go_ret
  exact ⟨rfl, B1.out⟩
theorem rNode (m : Int) (l r : ByteArray) (hd : l.size + r.size ≤ 140737488351232) (w : World) (T : Tab4 w) : Calls Tryz.prog 197 #[.int .i64 m, .string l, .string r] w fun e w' => e = .returned (.string (NF m l r)) ∧ Below w.heap.size w w' := by
  have hz : ((⟨#[1]⟩ : ByteArray) ++ l).size = 1 + l.size := by rw [ByteArray.size_append, sz1]
  have C : Hid (Calls _ _ _ _ _) := rCut ((⟨#[1]⟩ : ByteArray) ++ l ++ r) m w (by rw [ByteArray.size_append, hz]; omega) T
  have HE : Hid ((sha ((⟨#[1]⟩ : ByteArray) ++ l ++ r)).extract 0 (wid m) = NF m l r) := rfl
  rw [HE.out] at C
  have h0 := sz1
  clear T HE
  go_enter Tryz.func197, Tryz.ntmps197
  go_wp2_with fail
  refine C.out.mono ?_
  rintro e w1 ⟨rfl, hb⟩
  have B1 : Hid (Below w.heap.size w w1) := hb
  clear hb
  go_wp2
  go_ret
  exact ⟨rfl, B1.out⟩
end Go.Proofs.YtofmkdagehehaaaGreatDoor.kb

namespace Go.Proofs.YtofmkdagehehaaaGreatDoor.sj
open Go.Shelf
set_option linter.unusedVariables false
def lays156_ren : Go.Shelf.Ren := ⟨fun | 156 => 166 | 165 => 199 | 166 => 57 | 169 => 60 | 240 => 103 | 241 => 216 | 276 => 146 | 277 => 239 | n => n, fun | 31 => 22 | 9 => 9 | 3 => 3 | 4 => 4 | 0 => 0 | 20 => 20 | 72 => 111 | 76 => 114 | 70 => 108 | 37 => 109 | 75 => 113 | 127 => 164 | 164 => 195 | 5 => 5 | 80 => 65 | n => n, fun | n => n⟩
theorem lays156 : Go.Proofs.Lays.n156 Tryz.prog lays156_ren := {
  mixed := by kernel_rfl
  f156 := Tryz.func166.trans (congrArg some (by kernel_rfl))
  f165 := Tryz.func199.trans (congrArg some (by kernel_rfl))
  f166 := Tryz.func57.trans (congrArg some (by kernel_rfl))
  f169 := Tryz.func60.trans (congrArg some (by kernel_rfl))
  f240 := Tryz.func103.trans (congrArg some (by kernel_rfl))
  f241 := Tryz.func216.trans (congrArg some (by kernel_rfl))
  f276 := Tryz.func146.trans (congrArg some (by kernel_rfl))
  f277 := Tryz.func239.trans (congrArg some (by kernel_rfl))
  t0 := Tryz.underlying0
  a0 := Tryz.isAgg0
  z0 := Tryz.sizeOf0
  v0 := Tryz.zeroValue0
  t3 := Tryz.underlying3
  a3 := Tryz.isAgg3
  z3 := Tryz.sizeOf3
  v3 := Tryz.zeroValue3
  t4 := Tryz.underlying4
  a4 := Tryz.isAgg4
  z4 := Tryz.sizeOf4
  v4 := Tryz.zeroValue4
  t9 := Tryz.underlying9
  a9 := Tryz.isAgg9
  z9 := Tryz.sizeOf9
  v9 := Tryz.zeroValue9
  t20 := Tryz.underlying20
  a20 := Tryz.isAgg20
  z20 := Tryz.sizeOf20
  v20 := Tryz.zeroValue20
  t31 := Tryz.underlying22
  a31 := Tryz.isAgg22
  z31 := Tryz.sizeOf22
  v31 := Tryz.zeroValue22
  t37 := Tryz.underlying109
  a37 := Tryz.isAgg109
  z37 := Tryz.sizeOf109
  v37 := Tryz.zeroValue109
  t70 := Tryz.underlying108
  a70 := Tryz.isAgg108
  z70 := Tryz.sizeOf108
  v70 := Tryz.zeroValue108
  t72 := Tryz.underlying111
  a72 := Tryz.isAgg111
  z72 := Tryz.sizeOf111
  v72 := Tryz.zeroValue111
  t75 := Tryz.underlying113
  a75 := Tryz.isAgg113
  z75 := Tryz.sizeOf113
  v75 := Tryz.zeroValue113
  t76 := Tryz.underlying114
  a76 := Tryz.isAgg114
  z76 := Tryz.sizeOf114
  v76 := Tryz.zeroValue114
  t127 := Tryz.underlying164
  a127 := Tryz.isAgg164
  z127 := Tryz.sizeOf164
  v127 := Tryz.zeroValue164
  t164 := Tryz.underlying195
  a164 := Tryz.isAgg195
  z164 := Tryz.sizeOf195
  v164 := Tryz.zeroValue195 }
theorem extra156 : Builder.Extra Tryz.prog lays156_ren := {
  sizeBuilder := by kernel_rfl
  liesBuilder := by kernel_rfl
  t5 := Tryz.underlying5
  a5 := Tryz.isAgg5
  z5 := Tryz.sizeOf5
  v5 := Tryz.zeroValue5
  infoByte := by kernel_rfl
  cellsByte := by kernel_rfl
  sizeByte := by kernel_rfl
  neB5 := by decide }
end Go.Proofs.YtofmkdagehehaaaGreatDoor.sj

namespace Go.Proofs.YtofmkdagehehaaaGreatDoor.kc
open Go.RowKit Go.PlainAid
open Go.Proofs.YtofmkdagehehaaaGreatDoor.pl Go.Proofs.YtofmkdagehehaaaGreatDoor.pi Go.Proofs.YtofmkdagehehaaaGreatDoor.pj Go.Proofs.YtofmkdagehehaaaGreatDoor.rf Go.Proofs.YtofmkdagehehaaaGreatDoor.ca Go.Proofs.YtofmkdagehehaaaGreatDoor.cp Go.Proofs.YtofmkdagehehaaaGreatDoor.ka Go.Proofs.YtofmkdagehehaaaGreatDoor.kb Go.Proofs.YtofmkdagehehaaaGreatDoor.sj
set_option linter.unusedVariables false

theorem cutT (s : ByteArray) (m : Int) (w : World) (hs : s.size ≤ 1125899906842624) (T : Tab w) :
    Calls Tryz.prog 165 #[.string s, .int .i64 m] w fun e w' => e = .returned (.string (cutS s m)) ∧ Below w.heap.size w w' :=
  cut_of (sha s) s m w (sha_size s) (Sum s w (by omega) T)
-- the parts, one behind the other
def cat (xs : List ByteArray) : ByteArray := ⟨(Lib.join (xs.map (·.data.toList)) (⟨#[]⟩ : ByteArray).data.toList).toArray⟩
theorem cat_size (xs : List ByteArray) : (Lib.join (xs.map (·.data.toList)) (⟨#[]⟩ : ByteArray).data.toList).length = (cat xs).size := by
  unfold cat
  simp [ByteArray.size]
theorem cat_two (a b : ByteArray) : cat [a, b] = a ++ b := by
  apply ByteArray.ext
  rw [ByteArray.data_append]
  simp [cat, Lib.join, List.intercalate]
theorem cat_three (a b c : ByteArray) : cat [a, b, c] = a ++ b ++ c := by
  apply ByteArray.ext
  rw [ByteArray.data_append, ByteArray.data_append]
  simp [cat, Lib.join, List.intercalate]
theorem joins (xs : List ByteArray) (n b c : Nat) (hn : xs.length = n) (w : World) (hc : ∀ (j : Nat) x, xs[j]? = some x → w.cell? ⟨b, 0 + j, none⟩ = some (.string x)) (hb : b < w.heap.size) (h3 : n ≤ 3) (hcap : n ≤ c) (hs : (cat xs).size ≤ 281474976710656) :
    Calls Tryz.prog 166 #[.slice (some ⟨b, 0, none⟩) n c, .string ⟨#[]⟩] w fun e w' => e = .returned (.string (cat xs)) ∧ Below w.heap.size w w' := by
  subst hn
  exact Any.strings_Join_48 lays156 extra156 b 0 c xs ⟨#[]⟩ w hc hb (by omega) hcap (by rw [cat_size]; omega)
theorem hash (xs : List ByteArray) (n b c : Nat) (hn : xs.length = n) (wd : Int) (w : World) (T : Tab w) (hc : ∀ (j : Nat) x, xs[j]? = some x → w.cell? ⟨b, 0 + j, none⟩ = some (.string x)) (hb : b < w.heap.size) (h3 : n ≤ 3) (hcap : n ≤ c) (hs : (cat xs).size ≤ 281474976710656) :
    Calls Tryz.prog 126 #[.int .i64 wd, .slice (some ⟨b, 0, none⟩) n c] w fun e w' => e = .returned (.string (cutS (cat xs) wd)) ∧ Below w.heap.size w w' := by
  have J : Hid (Calls _ _ _ _ _) := joins xs n b c hn w hc hb h3 hcap hs
  have C : Hid (∀ w, Tab w → Calls _ _ _ _ _) := fun w T => cutT (cat xs) wd w (by omega) T
  have HT : Hid (Tab w) := T
  obtain ⟨s, HS⟩ : ∃ s, Hid (cat xs = s) := ⟨_, rfl⟩
  rw [HS.out] at J C ⊢
  obtain ⟨r, HR⟩ : ∃ r, Hid (cutS s wd = r) := ⟨_, rfl⟩
  rw [HR.out] at C ⊢
  clear hc hs T hn hb
  go_enter Tryz.func126, Tryz.ntmps126
  go_wp2_with fail
  refine J.out.mono ?_
  rintro e w1 ⟨rfl, hb⟩
  have B1 : Hid (Below w.heap.size w w1) := hb
  have T1 : Hid (Tab w1) := HT.out.down hb
  clear hb
  go_wp2_with fail
  refine (C.out _ T1.out).mono ?_
  rintro e w2 ⟨rfl, hb⟩
  have B2 : Hid (Below w.heap.size w w2) := over B1.out hb
  clear hb
  go_wp2
  go_ret
  exact ⟨rfl, B2.out⟩
theorem hash0 (wd : Int) (w : World) (T : Tab w) :
    Calls Tryz.prog 126 #[.int .i64 wd, .slice none 0 0] w fun e w' => e = .returned (.string (EF wd)) ∧ Below w.heap.size w w' := by
  have J : Hid (Calls _ _ _ _ _) := Any.strings_Join_none lays156 extra156 none 0 ⟨#[]⟩ w
  have C : Hid (∀ w, Tab w → Calls _ _ _ _ _) := fun w T => cutT ⟨#[]⟩ wd w (by decide) T
  have HT : Hid (Tab w) := T
  have HE : Hid (cutS ⟨#[]⟩ wd = EF wd) := rfl
  rw [HE.out] at C
  obtain ⟨r, HR⟩ : ∃ r, Hid (EF wd = r) := ⟨_, rfl⟩
  rw [HR.out] at C ⊢
  clear T HE
  go_enter Tryz.func126, Tryz.ntmps126
  go_wp2_with fail
  refine J.out.mono ?_
  rintro e w1 ⟨rfl, hw⟩
  rw [hw]
  clear hw
  go_wp2_with fail
  refine (C.out _ HT.out).mono ?_
  rintro e w2 ⟨rfl, hb⟩
  have B2 : Hid (Below w.heap.size w w2) := hb
  clear hb
  go_wp2
  go_ret
  exact ⟨rfl, B2.out⟩
theorem pEmpty (wd : Int) (w : World) (T : Tab w) :
    Calls Tryz.prog 72 #[.int .i64 wd] w fun e w' => e = .returned (.string (EF wd)) ∧ Below w.heap.size w w' := by
  have C : Hid (Calls _ _ _ _ _) := hash0 wd w T
  obtain ⟨r, HR⟩ : ∃ r, Hid (EF wd = r) := ⟨_, rfl⟩
  rw [HR.out] at C ⊢
  clear T
  go_enter Tryz.func72, Tryz.ntmps72
  go_wp2_with fail
  refine C.out.mono ?_
  rintro e w1 ⟨rfl, hb⟩
  have B1 : Hid (Below w.heap.size w w1) := hb
  clear hb
  go_wp2
  go_ret
  exact ⟨rfl, B1.out⟩
theorem new_cells (w : World) (vs : Array Value) (t : TypeId) (xs : List ByteArray) (h : vs = (xs.map Value.string).toArray) : ∀ (j : Nat) x, xs[j]? = some x → (w.alloc (.cells vs t)).cell? ⟨w.heap.size, 0 + j, none⟩ = some (.string x) := by
  intro j x hx
  subst h
  rw [World.cell?_alloc_at _ _ _ _ rfl, Nat.zero_add]
  simp [hx]
theorem pLeaf (wd : Int) (d : ByteArray) (hd : d.size ≤ 140737488352000) (w : World) (T : Tab w) :
    Calls Tryz.prog 73 #[.int .i64 wd, .string d] w fun e w' => e = .returned (.string (LF wd d)) ∧ Below w.heap.size w w' := by
  have C : Hid (Calls _ _ _ _ _) := hash [⟨#[0]⟩, d] 2 w.heap.size 2 rfl wd (w.alloc (.cells #[.string ⟨#[0]⟩, .string d] 9)) (T.down ((Below.refl _ _).alloc (Nat.le_refl _) _)) (new_cells w _ _ _ rfl) (by simp) (by omega) (by omega) (by rw [cat_two, ByteArray.size_append, sz0]; omega)
  have HE : Hid (cutS (cat [⟨#[0]⟩, d]) wd = LF wd d) := by show _ = _; rw [cat_two]; rfl
  rw [HE.out] at C
  have B0 : Hid (Below w.heap.size w (w.alloc (.cells #[.string ⟨#[0]⟩, .string d] 9))) := (Below.refl _ _).alloc (Nat.le_refl _) _
  obtain ⟨r, HR⟩ : ∃ r, Hid (LF wd d = r) := ⟨_, rfl⟩
  rw [HR.out] at C ⊢
  clear T HE
  go_enter Tryz.func73, Tryz.ntmps73
  go_wp2_with fail
  refine C.out.mono ?_
  rintro e w1 ⟨rfl, hb⟩
  have B1 : Hid (Below w.heap.size w w1) := over B0.out hb
  clear hb
  go_wp2
  go_ret
  exact ⟨rfl, B1.out⟩
theorem pNode (wd : Int) (l r : ByteArray) (hd : l.size + r.size ≤ 281474976702464) (w : World) (T : Tab w) :
    Calls Tryz.prog 75 #[.int .i64 wd, .string l, .string r] w fun e w' => e = .returned (.string (NF wd l r)) ∧ Below w.heap.size w w' := by
  have C : Hid (Calls _ _ _ _ _) := hash [⟨#[1]⟩, l, r] 3 w.heap.size 3 rfl wd (w.alloc (.cells #[.string ⟨#[1]⟩, .string l, .string r] 9)) (T.down ((Below.refl _ _).alloc (Nat.le_refl _) _)) (new_cells w _ _ _ rfl) (by simp) (by omega) (by omega) (by rw [cat_three, ByteArray.size_append, ByteArray.size_append, sz1]; omega)
  have HE : Hid (cutS (cat [⟨#[1]⟩, l, r]) wd = NF wd l r) := by show _ = _; rw [cat_three]; rfl
  rw [HE.out] at C
  have B0 : Hid (Below w.heap.size w (w.alloc (.cells #[.string ⟨#[1]⟩, .string l, .string r] 9))) := (Below.refl _ _).alloc (Nat.le_refl _) _
  obtain ⟨q, HR⟩ : ∃ q, Hid (NF wd l r = q) := ⟨_, rfl⟩
  rw [HR.out] at C ⊢
  clear T HE
  go_enter Tryz.func75, Tryz.ntmps75
  go_wp2_with fail
  refine C.out.mono ?_
  rintro e w1 ⟨rfl, hb⟩
  have B1 : Hid (Below w.heap.size w w1) := over B0.out hb
  clear hb
  go_wp2
  go_ret
  exact ⟨rfl, B1.out⟩
end Go.Proofs.YtofmkdagehehaaaGreatDoor.kc

namespace Go.Proofs.YtofmkdagehehaaaGreatDoor.gb
open Go.RowKit Go.PlainAid
open Go.Proofs.YtofmkdagehehaaaGreatDoor.pl Go.Proofs.YtofmkdagehehaaaGreatDoor.pi Go.Proofs.YtofmkdagehehaaaGreatDoor.pj Go.Proofs.YtofmkdagehehaaaGreatDoor.ca Go.Proofs.YtofmkdagehehaaaGreatDoor.cb Go.Proofs.YtofmkdagehehaaaGreatDoor.cp Go.Proofs.YtofmkdagehehaaaGreatDoor.ka Go.Proofs.YtofmkdagehehaaaGreatDoor.kb Go.Proofs.YtofmkdagehehaaaGreatDoor.rf Go.Proofs.YtofmkdagehehaaaGreatDoor.ga
set_option linter.unusedVariables false

-- the root of leaves; the proofs
def RT (wd : Int) (xs : List ByteArray) : ByteArray := rootP (EF wd) (NF wd) (xs.map (LF wd))
theorem RT_nil (wd : Int) : RT wd [] = EF wd := rootP_nil _ _
theorem RT_one (wd : Int) (x : ByteArray) : RT wd [x] = LF wd x := rootP_one _ _ _
theorem RT_half (wd : Int) {xs : List ByteArray} (h : 2 ≤ xs.length) : RT wd xs = NF wd (RT wd (xs.take (half xs.length))) (RT wd (xs.drop (half xs.length))) := by
  unfold RT
  rw [rootP_half _ _ (l := xs.map (LF wd)) (by rw [List.length_map]; exact h), List.length_map, ← List.map_take, ← List.map_drop]
theorem RT_size (wd : Int) (xs : List ByteArray) : (RT wd xs).size = wid wd := by
  rcases Nat.lt_or_ge xs.length 2 with e | e
  · match xs, e with
    | [], _ => rw [RT_nil]; exact cutS_size _ _
    | [x], _ => rw [RT_one]; exact cutS_size _ _
  · rw [RT_half wd e]; exact cutS_size _ _
theorem RT_le (wd : Int) (xs : List ByteArray) : (RT wd xs).size ≤ 32 := by rw [RT_size]; exact wid_le wd
theorem RT_pos (wd : Int) (xs : List ByteArray) : 1 ≤ (RT wd xs).size := by rw [RT_size]; unfold wid; split <;> omega
def PTn (wd : Int) (i : Nat) (xs : List ByteArray) : List ByteArray := pathP (EF wd) (NF wd) i (xs.map (LF wd))
theorem PTn_one (wd : Int) (i : Nat) {xs : List ByteArray} (h : ¬ 2 ≤ xs.length) : PTn wd i xs = [] := pathP_one _ _ (by rw [List.length_map]; exact h)
theorem PTn_low (wd : Int) {i : Nat} {xs : List ByteArray} (h : 2 ≤ xs.length) (hi : i < half xs.length) : PTn wd i xs = PTn wd i (xs.take (half xs.length)) ++ [RT wd (xs.drop (half xs.length))] := by
  unfold PTn RT
  rw [pathP_low _ _ (l := xs.map (LF wd)) (by rw [List.length_map]; exact h) (by rw [List.length_map]; exact hi), List.length_map, ← List.map_take, ← List.map_drop]
theorem PTn_high (wd : Int) {i : Nat} {xs : List ByteArray} (h : 2 ≤ xs.length) (hi : ¬ i < half xs.length) : PTn wd i xs = PTn wd (i - half xs.length) (xs.drop (half xs.length)) ++ [RT wd (xs.take (half xs.length))] := by
  unfold PTn RT
  rw [pathP_high _ _ (l := xs.map (LF wd)) (by rw [List.length_map]; exact h) (by rw [List.length_map]; exact hi), List.length_map, ← List.map_take, ← List.map_drop]
theorem PTn_len (wd : Int) (i : Nat) (xs : List ByteArray) : (PTn wd i xs).length ≤ xs.length - 1 := pathP_len _ _ _ i _ (List.length_map _)
def QTn (wd : Int) (m : Nat) (xs : List ByteArray) (b : Bool) : List ByteArray := subP (EF wd) (NF wd) m (xs.map (LF wd)) b
theorem QTn_all (wd : Int) {m : Nat} {xs : List ByteArray} (b : Bool) (h : ¬ m < xs.length) : QTn wd m xs b = if b then [] else [RT wd xs] := subP_all _ _ (by rw [List.length_map]; exact h)
theorem QTn_low (wd : Int) {m : Nat} {xs : List ByteArray} (b : Bool) (h : m < xs.length) (h2 : 2 ≤ xs.length) (hm : m ≤ half xs.length) : QTn wd m xs b = QTn wd m (xs.take (half xs.length)) b ++ [RT wd (xs.drop (half xs.length))] := by
  unfold QTn RT
  rw [subP_low _ _ (l := xs.map (LF wd)) (by rw [List.length_map]; exact h) (by rw [List.length_map]; exact h2) (by rw [List.length_map]; exact hm), List.length_map, ← List.map_take, ← List.map_drop]
theorem QTn_high (wd : Int) {m : Nat} {xs : List ByteArray} (b : Bool) (h : m < xs.length) (h2 : 2 ≤ xs.length) (hm : ¬ m ≤ half xs.length) : QTn wd m xs b = QTn wd (m - half xs.length) (xs.drop (half xs.length)) false ++ [RT wd (xs.take (half xs.length))] := by
  unfold QTn RT
  rw [subP_high _ _ (l := xs.map (LF wd)) (by rw [List.length_map]; exact h) (by rw [List.length_map]; exact h2) (by rw [List.length_map]; exact hm), List.length_map, ← List.map_take, ← List.map_drop]
theorem QTn_len (wd : Int) (m : Nat) (xs : List ByteArray) (b : Bool) (h : 1 ≤ xs.length) : (QTn wd m xs b).length ≤ xs.length := subP_len _ _ _ m _ b (List.length_map _) h
theorem RT_take (wd : Int) {xs : List ByteArray} {m : Nat} (h2 : 2 ≤ xs.length) (h : half xs.length < m) (hm : m < xs.length) : RT wd (xs.take m) = NF wd (RT wd (xs.take (half xs.length))) (RT wd ((xs.drop (half xs.length)).take (m - half xs.length))) := by
  have := root_take (EF wd) (NF wd) (l := xs.map (LF wd)) (m := m) (by rw [List.length_map]; exact h2) (by rw [List.length_map]; exact h) (by rw [List.length_map]; exact hm)
  rw [List.length_map] at this
  unfold RT
  rw [List.map_take, this, List.map_take, List.map_take, List.map_drop]
-- what the four answer
def PT (wd i : Int) (xs : List ByteArray) : List ByteArray := if 0 ≤ i ∧ i < xs.length then PTn wd i.toNat xs else []
def PE (i : Int) (xs : List ByteArray) : Int := if 0 ≤ i ∧ i < xs.length then 0 else 81
def QT (wd m : Int) (xs : List ByteArray) : List ByteArray := if 1 ≤ m ∧ m ≤ xs.length then QTn wd m.toNat xs true else []
def QE (m : Int) (xs : List ByteArray) : Int := if 0 ≤ m ∧ m ≤ xs.length then 0 else 80
theorem PT_len (wd i : Int) (xs : List ByteArray) : (PT wd i xs).length ≤ xs.length := by
  unfold PT
  split
  · have := PTn_len wd i.toNat xs; omega
  · simp
theorem QT_len (wd m : Int) (xs : List ByteArray) : (QT wd m xs).length ≤ xs.length := by
  unfold QT
  split
  · exact QTn_len wd m.toNat xs true (by omega)
  · simp
def NT (wd L I : Int) (xs : List ByteArray) : ByteArray := if okA L I ∧ (I + 1) * 2 ^ L.toNat ≤ xs.length then RT wd ((xs.drop (I * 2 ^ L.toNat).toNat).take (2 ^ L.toNat)) else ByteArray.empty
def NE (L I : Int) (xs : List ByteArray) : Int := if okA L I then (if (I + 1) * 2 ^ L.toNat ≤ xs.length then 0 else 80) else 50
-- leaves that a machine can hold
structure Fits (xs : List ByteArray) : Prop where
  each : ∀ x ∈ xs, x.size ≤ 140737488352000
  many : xs.length * 16 ≤ 140737488351232
theorem Fits.take {xs : List ByteArray} (h : Fits xs) (k : Nat) : Fits (xs.take k) := ⟨fun x hx => h.each x (List.mem_of_mem_take hx), by have := h.many; rw [List.length_take]; omega⟩
theorem Fits.drop {xs : List ByteArray} (h : Fits xs) (k : Nat) : Fits (xs.drop k) := ⟨fun x hx => h.each x (List.mem_of_mem_drop hx), by have := h.many; rw [List.length_drop]; omega⟩
-- a list of texts and an error
def Listed (w w' : World) (e : Ending) (ts : List ByteArray) (c : Int) : Prop := ∃ u, e = .returned (.tuple #[u, .int .i64 c]) ∧ w'.ownsRow w.heap.size 9 1 u ts.length (ts.map Value.string)
end Go.Proofs.YtofmkdagehehaaaGreatDoor.gb

namespace Go.Proofs.YtofmkdagehehaaaGreatDoor.gr
open Go.RowKit Go.PlainAid
open Go.Proofs.YtofmkdagehehaaaGreatDoor.cp Go.Proofs.YtofmkdagehehaaaGreatDoor.ka Go.Proofs.YtofmkdagehehaaaGreatDoor.gb
set_option linter.unusedVariables false

-- what mth.Root promises (T: what it asks of the world)
def RootC (T : World → Prop) : Prop := ∀ (wd : Int) (v : Value) (xs : List ByteArray) (w : World), i64 wd → T w → ReadsT w v xs → Fits xs → Calls Tryz.prog 32 #[.int .i64 wd, v] w fun e w' => e = .returned (.string (RT wd xs)) ∧ Below w.heap.size w w'
end Go.Proofs.YtofmkdagehehaaaGreatDoor.gr

namespace Go.Proofs.YtofmkdagehehaaaGreatDoor.gn
open Go.RowKit Go.PlainAid
open Go.Proofs.YtofmkdagehehaaaGreatDoor.cp Go.Proofs.YtofmkdagehehaaaGreatDoor.ka Go.Proofs.YtofmkdagehehaaaGreatDoor.gb
set_option linter.unusedVariables false

-- what mth.Node promises (T: what it asks of the world)
def NodeC (T : World → Prop) : Prop := ∀ (wd L I : Int) (v : Value) (xs : List ByteArray) (w : World), i64 wd → i64 L → i64 I → T w → ReadsT w v xs → Fits xs → Calls Tryz.prog 41 #[.int .i64 wd, .agg #[.int .i64 L, .int .i64 I], v] w fun e w' => e = .returned (.tuple #[.string (NT wd L I xs), .int .i64 (NE L I xs)]) ∧ Below w.heap.size w w'
end Go.Proofs.YtofmkdagehehaaaGreatDoor.gn

namespace Go.Proofs.YtofmkdagehehaaaGreatDoor.ma
open Go.RowKit Go.PlainAid
open Go.Proofs.YtofmkdagehehaaaGreatDoor.ca Go.Proofs.YtofmkdagehehaaaGreatDoor.cb Go.Proofs.YtofmkdagehehaaaGreatDoor.cp Go.Proofs.YtofmkdagehehaaaGreatDoor.ka Go.Proofs.YtofmkdagehehaaaGreatDoor.ga Go.Proofs.YtofmkdagehehaaaGreatDoor.gb Go.Proofs.YtofmkdagehehaaaGreatDoor.xa Go.Proofs.YtofmkdagehehaaaGreatDoor.xb
set_option linter.unusedVariables false

theorem len_int (x : Int) (w : World) (h0 : 0 ≤ x) (h1 : x ≤ 9223372036854775807) :
    Calls Tryz.prog 149 #[.int .u64 x] w fun e w' => e = .returned (.int .i64 (Lib.bitLen x.toNat)) ∧ w' = w := by
  have C : Hid (Calls _ _ _ _ _) := len_any x w h0 (by omega)
  obtain ⟨b, HB⟩ : ∃ b, Hid (Lib.bitLen x.toNat = b) := ⟨_, rfl⟩
  rw [HB.out] at C ⊢
  go_enter Tryz.func149, Tryz.ntmps149
  go_wp2_with fail
  refine C.out.mono ?_
  rintro e w1 ⟨rfl, hw⟩
  subst hw
  go_wp2
  go_ret
  exact ⟨rfl, rfl⟩
theorem half_len {n : Nat} (h : 2 ≤ n) (hn : n ≤ 4611686018427387904) : ∃ l, Lib.bitLen (n - 1) = l + 1 ∧ half n = 2 ^ l ∧ l ≤ 62 := by
  obtain ⟨g1, g2⟩ := len_spec (n - 1) (by omega)
  obtain ⟨g3, g4⟩ := g2 (by omega)
  have g5 := len_le63 (n - 1) (by omega)
  obtain ⟨l, hl⟩ : ∃ l, Lib.bitLen (n - 1) = l + 1 := ⟨Lib.bitLen (n - 1) - 1, by omega⟩
  rw [hl] at g1 g3 g5
  rw [Nat.add_sub_cancel] at g3
  exact ⟨l, hl, half_eq (by omega) (by omega), by omega⟩
-- the program's split
theorem msplit (n : Nat) (h : 2 ≤ n) (hn : n ≤ 4611686018427387904) (w : World) :
    Calls Tryz.prog 127 #[.int .i64 n] w fun e w' => e = .returned (.int .i64 (half n : Nat)) ∧ w' = w := by
  obtain ⟨l, hl, he, h62⟩ := half_len h hn
  have hlt := (half_lt h).2.1
  have C : Hid (∀ w, Calls _ _ _ _ _) := fun w => len_int ((n : Int) - 1) w (by omega) (by omega)
  rw [show ((n : Int) - 1).toNat = n - 1 by omega, hl] at C
  obtain ⟨t, HT⟩ : ∃ t : Nat, Hid (2 ^ l = t) := ⟨_, rfl⟩
  have hT : (2 : Int) ^ l = (t : Int) := by rw [cast_pow, HT.out]
  rw [he, HT.out] at hlt ⊢
  have hw1 : ((l + 1 : Nat) : Int) = (l : Int) + 1 := by omega
  have hw2 : IntKind.u64.wrap (l : Int) = l := u64_is l (by omega)
  have hw3 : min (l : Int).toNat 64 = l := by omega
  have hw4 : min l 64 = l := by omega
  have hw5 : IntKind.i64.wrap (t : Int) = t := wrap_is t (by omega)
  rw [hw1] at C
  clear hl he
  go_enter Tryz.func127, Tryz.ntmps127
  go_wp2_with fail
  refine (C.out _).mono ?_
  rintro e w1 ⟨rfl, hw⟩
  subst hw
  go_wp2
  go_ret
  exact ⟨rfl, rfl⟩
-- a list without room behind it
theorem tightT {w : World} {a : Option Addr} {n cap : Nat} {xs : List ByteArray} (h : ReadsT w (.slice a n cap) xs) : ReadsT w (.slice a n n) xs := by
  obtain ⟨a', cap', e, hc, hh⟩ := h
  injection e with e1 e2 e3
  subst e1 e2
  exact ⟨_, _, rfl, Nat.le_refl _, hh⟩
theorem parts (b off n cap : Nat) (h : 2 ≤ n) (hn : n ≤ 4611686018427387904) (hc : n ≤ cap) (w : World) :
    Calls Tryz.prog 74 #[.slice (some ⟨b, off, none⟩) n cap] w fun e w' => e = .returned (.tuple #[.slice (some ⟨b, off, none⟩) (half n) (half n), .slice (some ⟨b, off + half n, none⟩) (n - half n) (n - half n)]) ∧ ∃ m, w' = w.drewN m := by
  have C : Hid (∀ w, Calls _ _ _ _ _) := fun w => msplit n h hn w
  have hh := half_lt h
  obtain ⟨t, HT⟩ : ∃ t : Nat, Hid (half n = t) := ⟨_, rfl⟩
  rw [HT.out] at C hh ⊢
  obtain ⟨h1, h2, h3⟩ := hh
  have g1 : (t : Int) ≤ cap := by omega
  have g2 : (t : Int) ≤ n := by omega
  have g3 : (n : Int) ≤ cap := by omega
  have ent : ((n - t : Nat) : Int) = (n : Int) - t := by omega
  go_enter Tryz.func74, Tryz.ntmps74
  go_wp2_with fail
  refine (C.out _).mono ?_
  rintro e w1 ⟨rfl, hw⟩
  subst hw
  go_wp2_with fail
  go_quiet (fail)
  go_wp2
  go_ret2
  exact ⟨rfl, _, rfl⟩
end Go.Proofs.YtofmkdagehehaaaGreatDoor.ma

namespace Go.Proofs.YtofmkdagehehaaaGreatDoor.mb
open Go.RowKit Go.PlainAid
open Go.Proofs.YtofmkdagehehaaaGreatDoor.pl Go.Proofs.YtofmkdagehehaaaGreatDoor.pi Go.Proofs.YtofmkdagehehaaaGreatDoor.pj Go.Proofs.YtofmkdagehehaaaGreatDoor.ca Go.Proofs.YtofmkdagehehaaaGreatDoor.cb Go.Proofs.YtofmkdagehehaaaGreatDoor.cp Go.Proofs.YtofmkdagehehaaaGreatDoor.ka Go.Proofs.YtofmkdagehehaaaGreatDoor.kb Go.Proofs.YtofmkdagehehaaaGreatDoor.kc Go.Proofs.YtofmkdagehehaaaGreatDoor.rf Go.Proofs.YtofmkdagehehaaaGreatDoor.ga Go.Proofs.YtofmkdagehehaaaGreatDoor.gb Go.Proofs.YtofmkdagehehaaaGreatDoor.gr Go.Proofs.YtofmkdagehehaaaGreatDoor.ma
set_option linter.unusedVariables false

set_option maxHeartbeats 3200000 in
set_option maxRecDepth 100000 in
theorem root (wd : Int) (n : Nat) : ∀ (xs : List ByteArray) (v : Value) (w : World), xs.length = n → Tab w → ReadsT w v xs → Fits xs →
    Calls Tryz.prog 32 #[.int .i64 wd, v] w fun e w' => e = .returned (.string (RT wd xs)) ∧ Below w.heap.size w w' := by
  induction n using Nat.strongRecOn with
  | ind n ih =>
    intro xs v w hn hT hR hx
    have HT : Hid (Tab w) := hT
    have HRD : Hid (ReadsT w v xs) := hR
    have HX : Hid (Fits xs) := hx
    have HN : Hid (xs.length = n) := hn
    have hnm : n ≤ 4611686018427387904 := by have := hx.many; omega
    have IH : Hid (∀ (m : Nat), m < n → ∀ (xs : List ByteArray) (v : Value) (w : World), xs.length = m → Tab w → ReadsT w v xs → Fits xs →
      Calls Tryz.prog 32 #[.int .i64 wd, v] w fun e w' => e = .returned (.string (RT wd xs)) ∧ Below w.heap.size w w') := ih
    obtain ⟨a, cap, rfl, hcap, hh⟩ := hR
    rw [HN.out] at hcap hh HRD ⊢
    have HH : Hid (n = 0 ∨ ∃ b off, a = some ⟨b, off, none⟩ ∧ ∀ i, i < n → w.cell? ⟨b, off + i, none⟩ = some (.string (xs.getD i ByteArray.empty))) := hh
    obtain ⟨R, HRR⟩ : ∃ R, Hid (RT wd xs = R) := ⟨_, rfl⟩
    rw [HRR.out]
    clear ih hn hT hx hh
    by_cases h0 : n = 0
    · have EC : Hid (∀ w, Tab w → Calls _ _ _ _ _) := fun w hw => pEmpty wd w hw
      have q0 : ((n : Int) == 0) = true := by rw [beq_iff_eq]; omega
      have HE : Hid (EF wd = R) := by
        show _ = _
        have : xs = [] := List.length_eq_zero_iff.1 (HN.out.trans h0)
        rw [← HRR.out, this, RT_nil]
      rw [HE.out] at EC
      clear h0
      go_enter Tryz.func32, Tryz.ntmps32
      go_wp2_with fail
      refine (EC.out _ HT.out).mono ?_
      rintro e w1 ⟨rfl, hb⟩
      have B1 : Hid (Below w.heap.size w w1) := hb
      clear hb
      go_wp2
      go_ret
      exact ⟨rfl, B1.out⟩
    · obtain ⟨b, off, rfl, hh⟩ : ∃ b off, a = some ⟨b, off, none⟩ ∧ ∀ i, i < n → w.cell? ⟨b, off + i, none⟩ = some (.string (xs.getD i ByteArray.empty)) := by
        rcases HH.out with h | h
        · exact absurd h h0
        · exact h
      have q0 : ((n : Int) == 0) = false := by rw [beq_eq_false_iff_ne]; omega
      by_cases h1 : n = 1
      · have q1 : ((n : Int) == 1) = true := by rw [beq_iff_eq]; omega
        have c0 := hh 0 (by omega)
        rw [Nat.add_zero] at c0
        have hn1 : (0 : Int) < n := by omega
        obtain ⟨x, hx⟩ := List.length_eq_one_iff.1 (HN.out.trans h1)
        have hxs : x.size ≤ 140737488352000 := HX.out.each x (by rw [hx]; simp)
        rw [hx] at c0
        have c1 : w.cell? ⟨b, off, none⟩ = some (.string x) := c0
        have LC : Hid (∀ w, Tab w → Calls _ _ _ _ _) := fun w hw => pLeaf wd x hxs w hw
        have HE : Hid (LF wd x = R) := by
          show _ = _
          rw [← HRR.out, hx, RT_one]
        rw [HE.out] at LC
        clear h0 h1 hh HH c0 hx hxs
        go_enter Tryz.func32, Tryz.ntmps32
        go_wp2_with fail
        refine (LC.out _ HT.out).mono ?_
        rintro e w1 ⟨rfl, hb⟩
        have B1 : Hid (Below w.heap.size w w1) := hb
        clear hb
        go_wp2
        go_ret
        exact ⟨rfl, B1.out⟩
      · have q1 : ((n : Int) == 1) = false := by rw [beq_eq_false_iff_ne]; omega
        have h2n : 2 ≤ n := by omega
        have SC : Hid (∀ w, Calls _ _ _ _ _) := fun w => parts b off n cap h2n hnm hcap w
        obtain ⟨t, HTT⟩ : ∃ t, Hid (half n = t) := ⟨_, rfl⟩
        rw [HTT.out] at SC
        have hh2 := half_lt h2n
        rw [HTT.out] at hh2
        obtain ⟨ht1, htn, _⟩ := hh2
        have htx : t ≤ xs.length := by rw [HN.out]; omega
        obtain ⟨r1, HR1⟩ : ∃ r, Hid (RT wd (xs.take t) = r) := ⟨_, rfl⟩
        obtain ⟨r2, HR2⟩ : ∃ r, Hid (RT wd (xs.drop t) = r) := ⟨_, rfl⟩
        have HE : Hid (NF wd r1 r2 = R) := by
          show _ = _
          rw [← HRR.out, RT_half wd (by rw [HN.out]; exact h2n), HN.out, HTT.out, HR1.out, HR2.out]
        have R1 : Hid (ReadsT w (.slice (some ⟨b, off, none⟩) t t) (xs.take t)) := tightT (HRD.out.front htx)
        have R2 : Hid (ReadsT w (.slice (some ⟨b, off + t, none⟩) (n - t) (n - t)) (xs.drop t)) := tightT (HRD.out.back htx)
        have L1 : Hid ((xs.take t).length = t) := by show _ = _; rw [List.length_take]; omega
        have L2 : Hid ((xs.drop t).length = n - t) := by show _ = _; rw [List.length_drop, HN.out]
        have Z1 : r1.size ≤ 32 := by rw [← HR1.out]; exact RT_le _ _
        have Z2 : r2.size ≤ 32 := by rw [← HR2.out]; exact RT_le _ _
        have C1 : Hid (∀ w', Tab w' → ReadsT w' (.slice (some ⟨b, off, none⟩) t t) (xs.take t) → Calls _ _ _ _ _) := fun w' h h' => IH.out t htn (xs.take t) _ w' L1.out h h' (HX.out.take t)
        have C2 : Hid (∀ w', Tab w' → ReadsT w' (.slice (some ⟨b, off + t, none⟩) (n - t) (n - t)) (xs.drop t) → Calls _ _ _ _ _) := fun w' h h' => IH.out (n - t) (by omega) (xs.drop t) _ w' L2.out h h' (HX.out.drop t)
        have NC : Hid (∀ w', Tab w' → Calls _ _ _ _ _) := fun w' h => pNode wd r1 r2 (by omega) w' h
        rw [HR1.out] at C1
        rw [HR2.out] at C2
        rw [HE.out] at NC
        clear Z1 Z2 h0 h1 hh HH
        go_enter Tryz.func32, Tryz.ntmps32
        go_wp2_with fail
        refine (SC.out _).mono ?_
        rintro e w0 ⟨rfl, q, hw0⟩
        have B0 : Hid (Below w.heap.size w w0) := by rw [hw0]; exact below_dN (Below.refl _ _) q
        have T0 : Hid (Tab w0) := HT.out.down B0.out
        have R10 : Hid (ReadsT w0 (.slice (some ⟨b, off, none⟩) t t) (xs.take t)) := R1.out.later B0.out
        clear hw0
        go_wp2_with fail
        refine (C1.out _ T0.out R10.out).mono ?_
        rintro e w1 ⟨rfl, hb⟩
        have B1 : Hid (Below w.heap.size w w1) := over B0.out hb
        have T1 : Hid (Tab w1) := HT.out.down B1.out
        have R21 : Hid (ReadsT w1 (.slice (some ⟨b, off + t, none⟩) (n - t) (n - t)) (xs.drop t)) := R2.out.later B1.out
        clear hb
        go_wp2_with fail
        refine (C2.out _ T1.out R21.out).mono ?_
        rintro e w2 ⟨rfl, hb⟩
        have B2 : Hid (Below w.heap.size w w2) := over B1.out hb
        have T2 : Hid (Tab w2) := T1.out.down hb
        clear hb
        go_wp2_with fail
        refine (NC.out _ T2.out).mono ?_
        rintro e w3 ⟨rfl, hb⟩
        have B3 : Hid (Below w.heap.size w w3) := over B2.out hb
        clear hb
        go_wp2
        go_ret
        exact ⟨rfl, B3.out⟩
theorem rootC : RootC Tab := fun wd v xs w _ t h f => root wd xs.length xs v w rfl t h f
end Go.Proofs.YtofmkdagehehaaaGreatDoor.mb

namespace Go.Proofs.YtofmkdagehehaaaGreatDoor.me
open Go.RowKit Go.PlainAid
open Go.Proofs.YtofmkdagehehaaaGreatDoor.pl Go.Proofs.YtofmkdagehehaaaGreatDoor.pi Go.Proofs.YtofmkdagehehaaaGreatDoor.pj Go.Proofs.YtofmkdagehehaaaGreatDoor.ca Go.Proofs.YtofmkdagehehaaaGreatDoor.cb Go.Proofs.YtofmkdagehehaaaGreatDoor.cp Go.Proofs.YtofmkdagehehaaaGreatDoor.cu Go.Proofs.YtofmkdagehehaaaGreatDoor.cq Go.Proofs.YtofmkdagehehaaaGreatDoor.va Go.Proofs.YtofmkdagehehaaaGreatDoor.ka Go.Proofs.YtofmkdagehehaaaGreatDoor.kb Go.Proofs.YtofmkdagehehaaaGreatDoor.kc Go.Proofs.YtofmkdagehehaaaGreatDoor.rf Go.Proofs.YtofmkdagehehaaaGreatDoor.ga Go.Proofs.YtofmkdagehehaaaGreatDoor.gb Go.Proofs.YtofmkdagehehaaaGreatDoor.gr Go.Proofs.YtofmkdagehehaaaGreatDoor.gn Go.Proofs.YtofmkdagehehaaaGreatDoor.ma Go.Proofs.YtofmkdagehehaaaGreatDoor.mb
set_option linter.unusedVariables false

set_option maxHeartbeats 1600000 in
theorem mnode (wd L I : Int) (v : Value) (xs : List ByteArray) (w : World) (hT : Tab w) (hR : ReadsT w v xs) (hx : Fits xs) :
    Calls Tryz.prog 41 #[.int .i64 wd, .agg #[.int .i64 L, .int .i64 I], v] w fun e w' => e = .returned (.tuple #[.string (NT wd L I xs), .int .i64 (NE L I xs)]) ∧ Below w.heap.size w w' := by
  have HRD : Hid (ReadsT w v xs) := hR
  have HT : Hid (Tab w) := hT
  have HX : Hid (Fits xs) := hx
  have SC : Hid (∀ w, Calls _ _ _ _ _) := fun w => span L I w
  have hnm : xs.length ≤ 4611686018427387904 := by have := hx.many; omega
  obtain ⟨a, cap, rfl, hcap, hh⟩ := hR
  by_cases hok : okA L I
  · obtain ⟨k, i, rfl, rfl, hk, hf⟩ := okA_form hok
    rw [spV_nat hok] at SC
    have e1 : ((i : Int) + 1) * 2 ^ (k : Int).toNat = (((i + 1) * 2 ^ k : Nat) : Int) := by rw [Int.toNat_natCast, cast_pow]; simp
    have e2 : ((i : Int) * 2 ^ (k : Int).toNat).toNat = i * 2 ^ k := by
      rw [Int.toNat_natCast, cast_pow, ← Int.natCast_mul, Int.toNat_natCast]
    have e3 : (i + 1) * 2 ^ k = i * 2 ^ k + 2 ^ k := by rw [Nat.add_mul, Nat.one_mul]
    have hp := p2 k
    by_cases hle : (i + 1) * 2 ^ k ≤ xs.length
    · have HN1 : Hid (NT wd k i xs = RT wd ((xs.drop (i * 2 ^ k)).take (2 ^ k))) := by
        show _ = _
        unfold NT
        rw [e1, e2, if_pos ⟨hok, by omega⟩, Int.toNat_natCast]
      have HN2 : Hid (NE k i xs = 0) := by
        show _ = _
        unfold NE
        rw [e1, if_pos hok, if_pos (by omega)]
      rw [HN1.out, HN2.out]
      clear e1 e2 HN1 HN2
      obtain ⟨f, HF⟩ : ∃ f, Hid (i * 2 ^ k = f) := ⟨_, rfl⟩
      obtain ⟨s, HS⟩ : ∃ f : Nat, Hid (2 ^ k = f) := ⟨_, rfl⟩
      obtain ⟨g, HG⟩ : ∃ g, Hid ((i + 1) * 2 ^ k = g) := ⟨_, rfl⟩
      rw [HF.out, HG.out] at SC
      rw [HG.out, HF.out, HS.out] at e3
      rw [HG.out] at hle hf
      rw [HS.out] at hp
      rw [HF.out, HS.out]
      obtain ⟨b, off, rfl, hh⟩ : ∃ b off, a = some ⟨b, off, none⟩ ∧ ∀ i, i < xs.length → w.cell? ⟨b, off + i, none⟩ = some (.string (xs.getD i ByteArray.empty)) := by
        rcases hh with h | h
        · omega
        · exact h
      have R1 : Hid (ReadsT w (.slice (some ⟨b, off + f, none⟩) s s) ((xs.drop f).take s)) := tightT (HRD.out.mid (by omega))
      have CR : Hid (∀ w', Tab w' → ReadsT w' (.slice (some ⟨b, off + f, none⟩) s s) ((xs.drop f).take s) → Calls _ _ _ _ _) := fun w' h h' => root wd _ ((xs.drop f).take s) _ w' rfl h h' ((HX.out.drop f).take s)
      obtain ⟨R, HR⟩ : ∃ r, Hid (RT wd ((xs.drop f).take s) = r) := ⟨_, rfl⟩
      rw [HR.out] at CR ⊢
      obtain ⟨n, HN⟩ : ∃ n, Hid (xs.length = n) := ⟨_, rfl⟩
      rw [HN.out] at hle hcap hnm HRD ⊢
      have g1 : ¬ (g : Int) > n := by omega
      have g2 : (g : Int) ≤ cap := by omega
      have g3 : (f : Int) ≤ g := by omega
      have g4 : g - f = s := by omega
      clear hh hok hT hx
      go_enter Tryz.func41, Tryz.ntmps41
      go_wp2_with fail
      refine (SC.out _).mono ?_
      rintro e w1 ⟨rfl, hb⟩
      have B1 : Hid (Below w.heap.size w w1) := over ((Below.refl _ _).alloc (Nat.le_refl _) _) hb
      have T1 : Hid (Tab w1) := HT.out.down B1.out
      have R11 : Hid (ReadsT w1 (.slice (some ⟨b, off + f, none⟩) s s) ((xs.drop f).take s)) := R1.out.later B1.out
      clear hb
      go_wp2_with fail
      refine (CR.out _ T1.out R11.out).mono ?_
      rintro e w2 ⟨rfl, hb⟩
      have B2 : Hid (Below w.heap.size w w2) := over B1.out hb
      clear hb
      go_wp2
      go_ret2
      exact ⟨rfl, B2.out⟩
    · have HN1 : Hid (NT wd k i xs = ByteArray.empty) := by
        show _ = _
        unfold NT
        rw [e1, if_neg (fun h => hle (by have := h.2; omega))]
      have HN2 : Hid (NE k i xs = 80) := by
        show _ = _
        unfold NE
        rw [e1, if_pos hok, if_neg (by omega)]
      rw [HN1.out, HN2.out]
      clear e1 e2 HN1 HN2
      obtain ⟨f, HF⟩ : ∃ f, Hid (i * 2 ^ k = f) := ⟨_, rfl⟩
      obtain ⟨g, HG⟩ : ∃ g, Hid ((i + 1) * 2 ^ k = g) := ⟨_, rfl⟩
      rw [HF.out, HG.out] at SC
      rw [HG.out] at hle hf
      obtain ⟨n, HN⟩ : ∃ n, Hid (xs.length = n) := ⟨_, rfl⟩
      rw [HN.out] at hle hcap hnm ⊢
      have g1 : (g : Int) > n := by omega
      clear hh hok hT hx e3 HRD
      go_enter Tryz.func41, Tryz.ntmps41
      go_wp2_with fail
      refine (SC.out _).mono ?_
      rintro e w1 ⟨rfl, hb⟩
      have B1 : Hid (Below w.heap.size w w1) := over ((Below.refl _ _).alloc (Nat.le_refl _) _) hb
      clear hb
      go_wp2
      go_ret2
      exact ⟨rfl, B1.out⟩
  · have HN1 : Hid (NT wd L I xs = ByteArray.empty) := by
      show _ = _
      unfold NT
      rw [if_neg (fun h => hok h.1)]
    have HN2 : Hid (NE L I xs = 50) := by
      show _ = _
      unfold NE
      rw [if_neg hok]
    rw [HN1.out, HN2.out]
    rw [show spV L I = .tuple #[.int .i64 0, .int .i64 0, .int .i64 50] by unfold spV; rw [if_neg hok]] at SC
    clear hh hok hT hx HRD HN1 HN2
    go_enter Tryz.func41, Tryz.ntmps41
    go_wp2_with fail
    refine (SC.out _).mono ?_
    rintro e w1 ⟨rfl, hb⟩
    have B1 : Hid (Below w.heap.size w w1) := over ((Below.refl _ _).alloc (Nat.le_refl _) _) hb
    clear hb
    go_wp2
    go_ret2
    exact ⟨rfl, B1.out⟩
theorem nodeC : NodeC Tab := fun wd L I v xs w _ _ _ t h f => mnode wd L I v xs w t h f
end Go.Proofs.YtofmkdagehehaaaGreatDoor.me
