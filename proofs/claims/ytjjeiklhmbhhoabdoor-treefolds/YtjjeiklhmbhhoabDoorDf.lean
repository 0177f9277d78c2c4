import Derived.Test.YtjjeiklhmbhhoabDoorDe
namespace Go.Proofs.YtjjeiklhmbhhoabDoor.df
open Go.RowKit Go.PlainAid
open Go.Proofs.YtjjeiklhmbhhoabDoor.pj Go.Proofs.YtjjeiklhmbhhoabDoor.rf Go.Proofs.YtjjeiklhmbhhoabDoor.ca Go.Proofs.YtjjeiklhmbhhoabDoor.cb Go.Proofs.YtjjeiklhmbhhoabDoor.cp Go.Proofs.YtjjeiklhmbhhoabDoor.da Go.Proofs.YtjjeiklhmbhhoabDoor.db Go.Proofs.YtjjeiklhmbhhoabDoor.de
set_option linter.unusedVariables false

def LeafC : Prop := ∀ (wd : Int) (d : ByteArray), i64 wd → d.size ≤ 1048576 → ∀ w, Tab4 w → Calls Tryd.prog 13 #[.int .i64 wd, .string d] w fun e w' => e = .returned (.string (LF wd d)) ∧ Below w.heap.size w w'
theorem tree_hashes (HC : HashC Tab4 EF NF) (LC : LeafC) (wd : Int) (d l r : ByteArray) (hwd : i64 wd) (hz : d.size + l.size + r.size ≤ 1048576) (w : World) (T : Tab4 w) :
    Calls Tryd.prog 4 #[.int .i64 wd, .string d, .string l, .string r] w fun e w' => e = .returned (.bool true) ∧ Below w.heap.size w w' := by
  have HT : Hid (Tab4 w) := T
  have E1 : Hid (∀ w, Tab4 w → Calls _ _ _ _ _) := fun w h => HC.empty wd hwd w h
  have E2 : Hid (∀ w, Tab4 w → Calls _ _ _ _ _) := fun w h => rEmpty wd w h
  have L1 : Hid (∀ w, Tab4 w → Calls _ _ _ _ _) := fun w h => LC wd d hwd (by omega) w h
  have L2 : Hid (∀ w, Tab4 w → Calls _ _ _ _ _) := fun w h => rLeaf wd d (by omega) w h
  have N1 : Hid (∀ w, Tab4 w → Calls _ _ _ _ _) := fun w h => HC.node wd l r hwd (by omega) (by omega) w h
  have N2 : Hid (∀ w, Tab4 w → Calls _ _ _ _ _) := fun w h => rNode wd l r (by omega) w h
  obtain ⟨X, HX⟩ : ∃ x, Hid (EF wd = x) := ⟨_, rfl⟩
  obtain ⟨Y, HY⟩ : ∃ x, Hid (LF wd d = x) := ⟨_, rfl⟩
  obtain ⟨Z, HZ⟩ : ∃ x, Hid (NF wd l r = x) := ⟨_, rfl⟩
  rw [HX.out] at E1 E2
  rw [HY.out] at L1 L2
  rw [HZ.out] at N1 N2
  have q1 : (X.toList == X.toList) = true := beq_self_eq_true _
  have q2 : (Y.toList == Y.toList) = true := beq_self_eq_true _
  have q3 : (Z.toList == Z.toList) = true := beq_self_eq_true _
  clear HC LC hz T hwd
  go_enter Tryd.func4, Tryd.ntmps4
  go_wp2_with fail
  refine (E1.out _ HT.out).mono ?_
  rintro e w1 ⟨rfl, hb⟩
  have B1 : Hid (Below w.heap.size w w1) := hb
  have T1 : Hid (Tab4 w1) := HT.out.down B1.out
  clear hb
  go_wp2_with fail
  refine (E2.out _ T1.out).mono ?_
  rintro e w2 ⟨rfl, hb⟩
  have B2 : Hid (Below w.heap.size w w2) := over B1.out hb
  have T2 : Hid (Tab4 w2) := HT.out.down B2.out
  clear hb
  go_wp2_with fail
  refine (L1.out _ T2.out).mono ?_
  rintro e w3 ⟨rfl, hb⟩
  have B3 : Hid (Below w.heap.size w w3) := over B2.out hb
  have T3 : Hid (Tab4 w3) := HT.out.down B3.out
  clear hb
  go_wp2_with fail
  refine (L2.out _ T3.out).mono ?_
  rintro e w4 ⟨rfl, hb⟩
  have B4 : Hid (Below w.heap.size w w4) := over B3.out hb
  have T4 : Hid (Tab4 w4) := HT.out.down B4.out
  clear hb
  go_wp2_with fail
  refine (N1.out _ T4.out).mono ?_
  rintro e w5 ⟨rfl, hb⟩
  have B5 : Hid (Below w.heap.size w w5) := over B4.out hb
  have T5 : Hid (Tab4 w5) := HT.out.down B5.out
  clear hb
  go_wp2_with fail
  refine (N2.out _ T5.out).mono ?_
  rintro e w6 ⟨rfl, hb⟩
  have B6 : Hid (Below w.heap.size w w6) := over B5.out hb
  clear hb
  go_wp2
  go_ret
  exact ⟨rfl, B6.out⟩
end Go.Proofs.YtjjeiklhmbhhoabDoor.df
