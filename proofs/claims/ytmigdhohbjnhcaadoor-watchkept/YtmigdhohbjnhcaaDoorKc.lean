import Derived.Room.Shelf.Join48
import Derived.Test.YtmigdhohbjnhcaaDoorSj
import Derived.Test.YtmigdhohbjnhcaaDoorKb
namespace Go.Proofs.YtmigdhohbjnhcaaDoor.kc
open Go.RowKit Go.PlainAid
open Go.Proofs.YtmigdhohbjnhcaaDoor.pl Go.Proofs.YtmigdhohbjnhcaaDoor.pi Go.Proofs.YtmigdhohbjnhcaaDoor.pj Go.Proofs.YtmigdhohbjnhcaaDoor.rf Go.Proofs.YtmigdhohbjnhcaaDoor.ca Go.Proofs.YtmigdhohbjnhcaaDoor.cp Go.Proofs.YtmigdhohbjnhcaaDoor.ka Go.Proofs.YtmigdhohbjnhcaaDoor.kb Go.Proofs.YtmigdhohbjnhcaaDoor.sj
set_option linter.unusedVariables false

theorem cutT (s : ByteArray) (m : Int) (w : World) (hs : s.size ≤ 1125899906842624) (T : Tab w) :
    Calls Tryd.prog 36 #[.string s, .int .i64 m] w fun e w' => e = .returned (.string (cutS s m)) ∧ Below w.heap.size w w' :=
  cut_of (sha s) s m w (sha_size s) (Sum s w (by omega) T)
-- the parts, one behind the other
def cat (xs : List ByteArray) : ByteArray := ⟨(Lib.join (xs.map (·.data.toList)) (⟨#[]⟩ : ByteArray).data.toList).toArray⟩
theorem cat_size (xs : List ByteArray) : (Lib.join (xs.map (·.data.toList)) (⟨#[]⟩ : ByteArray).data.toList).length = (cat xs).size := by
  unfold cat
  simp [ByteArray.size]
theorem cat_two (a b : ByteArray) : cat [a, b] = a ++ b := by
  apply ByteArray.ext
  rw [ByteArray.data_append]
  simp [cat, Lib.join, List.intercalate]
theorem cat_three (a b c : ByteArray) : cat [a, b, c] = a ++ b ++ c := by
  apply ByteArray.ext
  rw [ByteArray.data_append, ByteArray.data_append]
  simp [cat, Lib.join, List.intercalate]
theorem joins (xs : List ByteArray) (n b c : Nat) (hn : xs.length = n) (w : World) (hc : ∀ (j : Nat) x, xs[j]? = some x → w.cell? ⟨b, 0 + j, none⟩ = some (.string x)) (hb : b < w.heap.size) (h3 : n ≤ 3) (hcap : n ≤ c) (hs : (cat xs).size ≤ 281474976710656) :
    Calls Tryd.prog 37 #[.slice (some ⟨b, 0, none⟩) n c, .string ⟨#[]⟩] w fun e w' => e = .returned (.string (cat xs)) ∧ Below w.heap.size w w' := by
  subst hn
  exact Any.strings_Join_48 lays156 extra156 b 0 c xs ⟨#[]⟩ w hc hb (by omega) hcap (by rw [cat_size]; omega)
theorem hash (xs : List ByteArray) (n b c : Nat) (hn : xs.length = n) (wd : Int) (w : World) (T : Tab w) (hc : ∀ (j : Nat) x, xs[j]? = some x → w.cell? ⟨b, 0 + j, none⟩ = some (.string x)) (hb : b < w.heap.size) (h3 : n ≤ 3) (hcap : n ≤ c) (hs : (cat xs).size ≤ 281474976710656) :
    Calls Tryd.prog 26 #[.int .i64 wd, .slice (some ⟨b, 0, none⟩) n c] w fun e w' => e = .returned (.string (cutS (cat xs) wd)) ∧ Below w.heap.size w w' := by
  have J : Hid (Calls _ _ _ _ _) := joins xs n b c hn w hc hb h3 hcap hs
  have C : Hid (∀ w, Tab w → Calls _ _ _ _ _) := fun w T => cutT (cat xs) wd w (by omega) T
  have HT : Hid (Tab w) := T
  obtain ⟨s, HS⟩ : ∃ s, Hid (cat xs = s) := ⟨_, rfl⟩
  rw [HS.out] at J C ⊢
  obtain ⟨r, HR⟩ : ∃ r, Hid (cutS s wd = r) := ⟨_, rfl⟩
  rw [HR.out] at C ⊢
  clear hc hs T hn hb
  go_enter Tryd.func26, Tryd.ntmps26
  go_wp2_with fail
  refine J.out.mono ?_
  rintro e w1 ⟨rfl, hb⟩
  have B1 : Hid (Below w.heap.size w w1) := hb
  have T1 : Hid (Tab w1) := HT.out.down hb
  clear hb
  go_wp2_with fail
  refine (C.out _ T1.out).mono ?_
  rintro e w2 ⟨rfl, hb⟩
  have B2 : Hid (Below w.heap.size w w2) := over B1.out hb
  clear hb
  go_wp2
  go_ret
  exact ⟨rfl, B2.out⟩
theorem hash0 (wd : Int) (w : World) (T : Tab w) :
    Calls Tryd.prog 26 #[.int .i64 wd, .slice none 0 0] w fun e w' => e = .returned (.string (EF wd)) ∧ Below w.heap.size w w' := by
  have J : Hid (Calls _ _ _ _ _) := Any.strings_Join_none lays156 extra156 none 0 ⟨#[]⟩ w
  have C : Hid (∀ w, Tab w → Calls _ _ _ _ _) := fun w T => cutT ⟨#[]⟩ wd w (by decide) T
  have HT : Hid (Tab w) := T
  have HE : Hid (cutS ⟨#[]⟩ wd = EF wd) := rfl
  rw [HE.out] at C
  obtain ⟨r, HR⟩ : ∃ r, Hid (EF wd = r) := ⟨_, rfl⟩
  rw [HR.out] at C ⊢
  clear T HE
  go_enter Tryd.func26, Tryd.ntmps26
  go_wp2_with fail
  refine J.out.mono ?_
  rintro e w1 ⟨rfl, hw⟩
  rw [hw]
  clear hw
  go_wp2_with fail
  refine (C.out _ HT.out).mono ?_
  rintro e w2 ⟨rfl, hb⟩
  have B2 : Hid (Below w.heap.size w w2) := hb
  clear hb
  go_wp2
  go_ret
  exact ⟨rfl, B2.out⟩
theorem pEmpty (wd : Int) (w : World) (T : Tab w) :
    Calls Tryd.prog 12 #[.int .i64 wd] w fun e w' => e = .returned (.string (EF wd)) ∧ Below w.heap.size w w' := by
  have C : Hid (Calls _ _ _ _ _) := hash0 wd w T
  obtain ⟨r, HR⟩ : ∃ r, Hid (EF wd = r) := ⟨_, rfl⟩
  rw [HR.out] at C ⊢
  clear T
  go_enter Tryd.func12, Tryd.ntmps12
  go_wp2_with fail
  refine C.out.mono ?_
  rintro e w1 ⟨rfl, hb⟩
  have B1 : Hid (Below w.heap.size w w1) := hb
  clear hb
  go_wp2
  go_ret
  exact ⟨rfl, B1.out⟩
theorem new_cells (w : World) (vs : Array Value) (t : TypeId) (xs : List ByteArray) (h : vs = (xs.map Value.string).toArray) : ∀ (j : Nat) x, xs[j]? = some x → (w.alloc (.cells vs t)).cell? ⟨w.heap.size, 0 + j, none⟩ = some (.string x) := by
  intro j x hx
  subst h
  rw [World.cell?_alloc_at _ _ _ _ rfl, Nat.zero_add]
  simp [hx]
theorem pLeaf (wd : Int) (d : ByteArray) (hd : d.size ≤ 140737488352000) (w : World) (T : Tab w) :
    Calls Tryd.prog 13 #[.int .i64 wd, .string d] w fun e w' => e = .returned (.string (LF wd d)) ∧ Below w.heap.size w w' := by
  have C : Hid (Calls _ _ _ _ _) := hash [⟨#[0]⟩, d] 2 w.heap.size 2 rfl wd (w.alloc (.cells #[.string ⟨#[0]⟩, .string d] 9)) (T.down ((Below.refl _ _).alloc (Nat.le_refl _) _)) (new_cells w _ _ _ rfl) (by simp) (by omega) (by omega) (by rw [cat_two, ByteArray.size_append, sz0]; omega)
  have HE : Hid (cutS (cat [⟨#[0]⟩, d]) wd = LF wd d) := by show _ = _; rw [cat_two]; rfl
  rw [HE.out] at C
  have B0 : Hid (Below w.heap.size w (w.alloc (.cells #[.string ⟨#[0]⟩, .string d] 9))) := (Below.refl _ _).alloc (Nat.le_refl _) _
  obtain ⟨r, HR⟩ : ∃ r, Hid (LF wd d = r) := ⟨_, rfl⟩
  rw [HR.out] at C ⊢
  clear T HE
  go_enter Tryd.func13, Tryd.ntmps13
  go_wp2_with fail
  refine C.out.mono ?_
  rintro e w1 ⟨rfl, hb⟩
  have B1 : Hid (Below w.heap.size w w1) := over B0.out hb
  clear hb
  go_wp2
  go_ret
  exact ⟨rfl, B1.out⟩
theorem pNode (wd : Int) (l r : ByteArray) (hd : l.size + r.size ≤ 281474976702464) (w : World) (T : Tab w) :
    Calls Tryd.prog 15 #[.int .i64 wd, .string l, .string r] w fun e w' => e = .returned (.string (NF wd l r)) ∧ Below w.heap.size w w' := by
  have C : Hid (Calls _ _ _ _ _) := hash [⟨#[1]⟩, l, r] 3 w.heap.size 3 rfl wd (w.alloc (.cells #[.string ⟨#[1]⟩, .string l, .string r] 9)) (T.down ((Below.refl _ _).alloc (Nat.le_refl _) _)) (new_cells w _ _ _ rfl) (by simp) (by omega) (by omega) (by rw [cat_three, ByteArray.size_append, ByteArray.size_append, sz1]; omega)
  have HE : Hid (cutS (cat [⟨#[1]⟩, l, r]) wd = NF wd l r) := by show _ = _; rw [cat_three]; rfl
  rw [HE.out] at C
  have B0 : Hid (Below w.heap.size w (w.alloc (.cells #[.string ⟨#[1]⟩, .string l, .string r] 9))) := (Below.refl _ _).alloc (Nat.le_refl _) _
  obtain ⟨q, HR⟩ : ∃ q, Hid (NF wd l r = q) := ⟨_, rfl⟩
  rw [HR.out] at C ⊢
  clear T HE
  go_enter Tryd.func15, Tryd.ntmps15
  go_wp2_with fail
  refine C.out.mono ?_
  rintro e w1 ⟨rfl, hb⟩
  have B1 : Hid (Below w.heap.size w w1) := over B0.out hb
  clear hb
  go_wp2
  go_ret
  exact ⟨rfl, B1.out⟩
end Go.Proofs.YtmigdhohbjnhcaaDoor.kc
