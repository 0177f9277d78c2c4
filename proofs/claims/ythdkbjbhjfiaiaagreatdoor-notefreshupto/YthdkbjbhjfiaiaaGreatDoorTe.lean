import Derived.Test.YthdkbjbhjfiaiaaGreatDoorTd
namespace Go.Proofs.YthdkbjbhjfiaiaaGreatDoor.te
open Go.RowKit Go.PlainAid
open Go.Proofs.YthdkbjbhjfiaiaaGreatDoor.ta Go.Proofs.YthdkbjbhjfiaiaaGreatDoor.tb Go.Proofs.YthdkbjbhjfiaiaaGreatDoor.tc Go.Proofs.YthdkbjbhjfiaiaaGreatDoor.td
set_option linter.unusedVariables false
set_option maxRecDepth 4000

theorem grown_drew {w w1 : World} {r : Option Nat} (h : w.drew.grownBy w1 r) : w.grownBy w1 r := ⟨h.os, h.tape, h.output, h.size, h.block⟩
theorem new_cell (W : World) (u : Value) (t : TypeId) : (W.alloc (.cells #[u] t)).cell? ((⟨W.heap.size, 0, none⟩ : Addr).add 0) = some u := by
  rw [Addr.add_mid, Nat.zero_add, World.cell?_alloc_at _ _ _ _ rfl]; rfl
theorem new_cell_d (W : World) (u : Value) (t : TypeId) : (W.alloc (.cells #[u] t)).drew.cell? ((⟨W.heap.size, 0, none⟩ : Addr).add 0) = some u := new_cell W u t
theorem room_of {n C cap : Nat} (h : n < C ∨ n + 1 ≤ 140737488355328) (hc : C ≤ cap) : n < cap ∨ n + 1 ≤ 140737488355328 := by omega

section
variable {w0 : World} {B bo C bh bc : Nat} {cs : List (Nat × Obj)}

def UP : ByteArray := ⟨#[48, 49, 50, 51, 52, 53, 54, 55, 56, 57, 65, 66, 67, 68, 69, 70]⟩
-- out = append(out, v)
set_option maxHeartbeats 800000 in
theorem outOfSigns1 (l : List Int) (h c x : Int) (w : World) (s : Hid (St w0 B bo C bh bc cs l h c w)) (hr : l.length < C ∨ l.length + 1 ≤ 140737488355328) :
    Calls Tryz.prog 117 #[.int .u8 x, .pointer (some ⟨bo, 0, none⟩)] w fun e w' => e = .returned (.tuple #[]) ∧ St w0 B bo C bh bc cs (l ++ [x]) h c w' := by
  obtain ⟨g, cap, hbox, hC, how⟩ := s.out.out
  have HB : Hid (Boxed w bo 77 (.slice (some ⟨g, 0, none⟩) l.length cap)) := hbox
  have HO : Hid (World.ownsRow _ _ _ _ _ _ _) := how
  have HR : Hid (l.length < cap ∨ l.length + 1 ≤ 140737488355328) := room_of hr hC
  have HC : Hid (C ≤ cap) := hC
  have hcell := hbox.cell
  have hbase := s.out.base
  clear hbox how hr hC
  obtain ⟨n, HN⟩ : ∃ n, Hid (l.length = n) := ⟨_, rfl⟩
  rw [HN.out] at HB HO HR hcell
  go_enter Tryz.func117, Tryz.ntmps117
  go_wp2_with (at_builtin; refine wpList_append_c rfl (.tmp 3) (.tmp 5) rfl B g n cap _ rfl (HO.out.alloc _) (.int .u8 x) rfl ⟨w.heap.size, 0, none⟩ 1 rfl (new_cell _ _ _) HR.out (by simp; omega) ?_; intro g' cap' w1 hown' hgr hcap; have hA := s.out.appended g cap g' cap' (.cells #[.int .u8 x] 5) x (by rw [HN.out]; exact HB.out) HC.out (by rw [HN.out]; exact HO.out) (by rw [HN.out]; exact hown') hgr hcap; have hb1 := hA.1; rw [HN.out] at hb1; have hc1 := hb1.cell; have hf1 := hb1.frozen; have HA : Hid (_ ∧ _) := hA; clear hA hb1 hown' hgr hcap)
  go_end0
  refine ⟨rfl, ?_⟩
  have := HA.out.2
  rw [HN.out] at this
  exact this

-- out = append(out, alphabet[v]): drawn
set_option maxHeartbeats 800000 in
theorem inSigns1 (al : ByteArray) (ba : Nat) (l : List Int) (h c : Int) (k : Nat) (hk : k < al.size) (w : World) (s : Hid (St w0 B bo C bh bc cs l h c w)) (hm : (ba, bx 9 (.string al)) ∈ cs) (hr : l.length < C ∨ l.length + 1 ≤ 140737488355328) :
    Calls Tryz.prog 122 #[.int .u8 k, .pointer (some ⟨bo, 0, none⟩), .pointer (some ⟨ba, 0, none⟩)] w fun e w' => e = .returned (.tuple #[]) ∧ St w0 B bo C bh bc cs (l ++ [bt al k]) h c w' := by
  obtain ⟨g, cap, hbox, hC, how⟩ := s.out.out
  have HB : Hid (Boxed w bo 77 (.slice (some ⟨g, 0, none⟩) l.length cap)) := hbox
  have HO : Hid (World.ownsRow _ _ _ _ _ _ _) := how
  have HR : Hid (l.length < cap ∨ l.length + 1 ≤ 140737488355328) := room_of hr hC
  have HC : Hid (C ≤ cap) := hC
  have hcell := hbox.cell
  have hbase := s.out.base
  have hca := s.out.at hm
  have hlb := hbox.lt
  have hla : ba < w.heap.size := (Array.getElem?_eq_some_iff.1 (s.out.boxes _ hm).1).1
  have hcell' : ∀ o, (w.alloc o).cell? ⟨bo, 0, none⟩ = some (.slice (some ⟨g, 0, none⟩) l.length cap) := fun o => (World.cell?_alloc_lt _ _ _ hlb).trans hcell
  have hca' : ∀ o, (w.alloc o).cell? ⟨ba, 0, none⟩ = some (.string al) := fun o => (World.cell?_alloc_lt _ _ _ hla).trans hca
  have hgb := get_bt al
  have hk' : (k : Int) < al.size := by omega
  have hk0 : (0 : Int) ≤ k := by omega
  clear hbox how hr hC hm hlb hla
  obtain ⟨n, HN⟩ : ∃ n, Hid (l.length = n) := ⟨_, rfl⟩
  rw [HN.out] at HB HO HR hcell
  simp only [HN.out] at hcell'
  go_enter Tryz.func122, Tryz.ntmps122
  go_wp2_with fail
  go_region_law ((refine step_append_c (by rfl) (.tmp 4) (.tmp 8) (by rfl) B g n cap _ (by rfl) (World.ownsRow.drew (HO.out.alloc _)) (.int .u8 (bt al k)) rfl ⟨w.heap.size, 0, none⟩ 1 (by rfl) (new_cell_d _ _ _) HR.out (by simp; omega) ?_; intro g' cap' w1 hown' hgr hcap; have hA := s.out.appended g cap g' cap' (.cells #[.int .u8 (bt al k)] 5) (bt al k) (by rw [HN.out]; exact HB.out) HC.out (by rw [HN.out]; exact HO.out) (by rw [HN.out]; exact hown') (grown_drew hgr) hcap; have hb1 := hA.1; rw [HN.out] at hb1; have hc1 := hb1.cell; have hf1 := hb1.frozen; have HA : Hid (_ ∧ _) := hA; clear hA hb1 hown' hgr hcap))
  all_goals (
    go_wp2
    go_end0
    refine ⟨rfl, ?_⟩
    have := HA.out.2
    rw [HN.out] at this
    exact this)

end
end Go.Proofs.YthdkbjbhjfiaiaaGreatDoor.te
