import Derived.Test.YtjjeiklhmbhhoabDoorDg
import Derived.Test.YtjjeiklhmbhhoabDoorDc
import Derived.Test.YtjjeiklhmbhhoabDoorCv
import Derived.Test.YtjjeiklhmbhhoabDoorXf
import Derived.Test.YtjjeiklhmbhhoabDoorVa
import Derived.Test.YtjjeiklhmbhhoabDoorHb
namespace Go.Proofs.YtjjeiklhmbhhoabDoor.dh
open Go.RowKit Go.PlainAid
open Go.Proofs.YtjjeiklhmbhhoabDoor.pl Go.Proofs.YtjjeiklhmbhhoabDoor.ft Go.Proofs.YtjjeiklhmbhhoabDoor.pj Go.Proofs.YtjjeiklhmbhhoabDoor.rf Go.Proofs.YtjjeiklhmbhhoabDoor.ca Go.Proofs.YtjjeiklhmbhhoabDoor.cb Go.Proofs.YtjjeiklhmbhhoabDoor.cp Go.Proofs.YtjjeiklhmbhhoabDoor.cs Go.Proofs.YtjjeiklhmbhhoabDoor.ct Go.Proofs.YtjjeiklhmbhhoabDoor.cu Go.Proofs.YtjjeiklhmbhhoabDoor.da Go.Proofs.YtjjeiklhmbhhoabDoor.db Go.Proofs.YtjjeiklhmbhhoabDoor.dc Go.Proofs.YtjjeiklhmbhhoabDoor.de Go.Proofs.YtjjeiklhmbhhoabDoor.df Go.Proofs.YtjjeiklhmbhhoabDoor.dg Go.Proofs.YtjjeiklhmbhhoabDoor.cv Go.Proofs.YtjjeiklhmbhhoabDoor.xc Go.Proofs.YtjjeiklhmbhhoabDoor.xf Go.Proofs.YtjjeiklhmbhhoabDoor.va Go.Proofs.YtjjeiklhmbhhoabDoor.ha Go.Proofs.YtjjeiklhmbhhoabDoor.hb
set_option linter.unusedVariables false

theorem mem_sum {xs : List ByteArray} {x : ByteArray} (h : x ∈ xs) : x.size + xs.length ≤ (xs.map ByteArray.size).sum + xs.length := by
  have : x.size ≤ (xs.map ByteArray.size).sum := by
    induction xs with
    | nil => cases h
    | cons y ys ih =>
      rw [List.map_cons, List.sum_cons]
      rcases List.mem_cons.1 h with rfl | h
      · omega
      · have := ih h; omega
  omega
theorem pos_mem {xs : List ByteArray} {x : ByteArray} (h : x ∈ xs) : 1 ≤ xs.length := by
  cases xs with
  | nil => cases h
  | cons _ _ => simp
-- the tables of Cover and of the hashes
structure Tab3 (w : World) : Prop where
  b : TabB w
  t : Tab w
theorem Tab3.later {w w' : World} (h : Tab3 w) (hb : Below w.heap.size w w') : Tab3 w' := ⟨h.b.later hb, h.t.down hb⟩
theorem coverC3 : CoverC Tab3 where
  later := fun h hb => h.later hb
  covers := fun lo hi h0 h1 w h => coverC.covers lo hi h0 h1 w h.b
theorem folds_walk (W : World) (a : Int) (wa : (Lit.int .i64 a).wf = true) (v : Value) (xs : List ByteArray) (hr : ReadsT W v xs) (hs : ∀ x ∈ xs, x.size ≤ 140737488351232) (hl : xs.length * 16 ≤ 140737488351232) (tabs : TabB W ∧ St8 W 3 ∧ K64 W 4) :
    Calls Tryd.prog 3 #[.int .i64 a, v] W fun e w' => e = .returned (.bool true) ∧ Below W.heap.size W w' :=
  tree_folds (T := Tab3) (hashC Tab3.later (fun h => h.t)) coverC3 spanC (foldC (hashC Tab3.later (fun h => h.t))) a (i64_of wa) v xs W ⟨tabs.1, Tab.of tabs.2⟩ hr hs (by omega)
theorem fold_walk (W : World) (a : Int) (wa : (Lit.int .i64 a).wf = true) (v : Value) (xs : List ByteArray) (hr : ReadsT W v xs) (hno : ∀ k c, v = .slice none k c → c = 0) (hs : (xs.map ByteArray.size).sum + xs.length ≤ 1048576) (tabs : St8 W 3 ∧ K64 W 4 ∧ St8 W 0 ∧ K64 W 2) :
    Calls Tryd.prog 5 #[.int .i64 a, v] W fun e w' => e = .returned (.bool true) ∧ Below W.heap.size W w' :=
  tree_fold (foldC (hashC Tab4.down (fun h => h.t))) a (i64_of wa) v xs W (Tab4.of tabs) hr (fun x h => by have := mem_sum h; have := pos_mem h; omega) (by omega) hno
theorem hashes_walk (W : World) (a : Int) (wa : (Lit.int .i64 a).wf = true) (d l r : ByteArray) (hs : d.size + l.size + r.size ≤ 1048576) (tabs : St8 W 3 ∧ K64 W 4 ∧ St8 W 0 ∧ K64 W 2) :
    Calls Tryd.prog 4 #[.int .i64 a, .string d, .string l, .string r] W fun e w' => e = .returned (.bool true) ∧ Below W.heap.size W w' :=
  tree_hashes (hashC Tab4.down (fun h => h.t)) leafC a d l r (i64_of wa) hs W (Tab4.of tabs)
end Go.Proofs.YtjjeiklhmbhhoabDoor.dh
