import Derived.Test.YthblljfkodbbeabDoorTk
namespace Go.Proofs.YthblljfkodbbeabDoor.ue
open Go.RowKit Go.PlainAid
open Go.Proofs.YthblljfkodbbeabDoor.ta Go.Proofs.YthblljfkodbbeabDoor.tb Go.Proofs.YthblljfkodbbeabDoor.tc Go.Proofs.YthblljfkodbbeabDoor.td Go.Proofs.YthblljfkodbbeabDoor.te Go.Proofs.YthblljfkodbbeabDoor.tf Go.Proofs.YthblljfkodbbeabDoor.tg Go.Proofs.YthblljfkodbbeabDoor.th Go.Proofs.YthblljfkodbbeabDoor.ti Go.Proofs.YthblljfkodbbeabDoor.tj Go.Proofs.YthblljfkodbbeabDoor.tk
set_option linter.unusedVariables false

section
variable {w0 : World} {B bo C bh bc : Nat} {cs : List (Nat × Obj)}
set_option maxHeartbeats 800000 in
theorem unescape1 (l : List Int) (h c x : Int) (w : World) (s : Hid (St w0 B bo C bh bc cs l h c w)) (hr : l.length < C ∨ l.length + 1 ≤ 140737488355328) :
    Calls Tryd.prog 35 #[.int .u8 x, .pointer (some ⟨bo, 0, none⟩)] w fun e w' => e = .returned (.tuple #[]) ∧ St w0 B bo C bh bc cs (l ++ [x]) h c w' := by
  obtain ⟨g, cap, hbox, hC, how⟩ := s.out.out
  have HB : Hid (Boxed w bo 39 (.slice (some ⟨g, 0, none⟩) l.length cap)) := hbox
  have HO : Hid (World.ownsRow _ _ _ _ _ _ _) := how
  have HR : Hid (l.length < cap ∨ l.length + 1 ≤ 140737488355328) := room_of hr hC
  have HC : Hid (C ≤ cap) := hC
  have hcell := hbox.cell
  have hbase := s.out.base
  clear hbox how hr hC
  obtain ⟨n, HN⟩ : ∃ n, Hid (l.length = n) := ⟨_, rfl⟩
  rw [HN.out] at HB HO HR hcell
  go_enter Tryd.func35, Tryd.ntmps35
  go_wp2_with (at_builtin; refine wpList_append_c rfl (.tmp 3) (.tmp 5) rfl B g n cap _ rfl (HO.out.alloc _) (.int .u8 x) rfl ⟨w.heap.size, 0, none⟩ 1 rfl (new_cell _ _ _) HR.out (by simp; omega) ?_; intro g' cap' w1 hown' hgr hcap; have hA := s.out.appended g cap g' cap' (.cells #[.int .u8 x] 5) x (by rw [HN.out]; exact HB.out) HC.out (by rw [HN.out]; exact HO.out) (by rw [HN.out]; exact hown') hgr hcap; have hb1 := hA.1; rw [HN.out] at hb1; have hc1 := hb1.cell; have hf1 := hb1.frozen; have HA : Hid (_ ∧ _) := hA; clear hA hb1 hown' hgr hcap)
  go_end0
  refine ⟨rfl, ?_⟩
  have := HA.out.2
  rw [HN.out] at this
  exact this

-- the same, with the escapes' digits
set_option maxHeartbeats 800000 in
theorem Escape1 (l : List Int) (h c : Int) (k : Nat) (hk : k < 16) (w : World) (s : Hid (St w0 B bo C bh bc cs l h c w)) (hr : l.length < C ∨ l.length + 1 ≤ 140737488355328) :
    Calls Tryd.prog 23 #[.int .u8 k, .pointer (some ⟨bo, 0, none⟩)] w fun e w' => e = .returned (.tuple #[]) ∧ St w0 B bo C bh bc cs (l ++ [bt UP k]) h c w' := by
  obtain ⟨g, cap, hbox, hC, how⟩ := s.out.out
  have HB : Hid (Boxed w bo 39 (.slice (some ⟨g, 0, none⟩) l.length cap)) := hbox
  have HO : Hid (World.ownsRow _ _ _ _ _ _ _) := how
  have HR : Hid (l.length < cap ∨ l.length + 1 ≤ 140737488355328) := room_of hr hC
  have HC : Hid (C ≤ cap) := hC
  have hcell := hbox.cell
  have hbase := s.out.base
  have hlb := hbox.lt
  have hcell' : ∀ o, (w.alloc o).cell? ⟨bo, 0, none⟩ = some (.slice (some ⟨g, 0, none⟩) l.length cap) := fun o => (World.cell?_alloc_lt _ _ _ hlb).trans hcell
  have hgb := get_bt ⟨#[48, 49, 50, 51, 52, 53, 54, 55, 56, 57, 65, 66, 67, 68, 69, 70]⟩
  have hk' : (k : Int) < 16 := by omega
  have hk0 : (0 : Int) ≤ k := by omega
  clear hbox how hr hC hlb
  obtain ⟨n, HN⟩ : ∃ n, Hid (l.length = n) := ⟨_, rfl⟩
  rw [HN.out] at HB HO HR hcell
  simp only [HN.out] at hcell'
  go_enter Tryd.func23, Tryd.ntmps23
  go_wp2_with fail
  go_region_law ((refine step_append_c (by rfl) (.tmp 3) (.tmp 6) (by rfl) B g n cap _ (by rfl) (World.ownsRow.drew (HO.out.alloc _)) (.int .u8 (bt ⟨#[48, 49, 50, 51, 52, 53, 54, 55, 56, 57, 65, 66, 67, 68, 69, 70]⟩ k)) rfl ⟨w.heap.size, 0, none⟩ 1 (by rfl) (new_cell_d _ _ _) HR.out (by simp; omega) ?_; intro g' cap' w1 hown' hgr hcap; have hA := s.out.appended g cap g' cap' (.cells #[.int .u8 (bt ⟨#[48, 49, 50, 51, 52, 53, 54, 55, 56, 57, 65, 66, 67, 68, 69, 70]⟩ k)] 5) (bt ⟨#[48, 49, 50, 51, 52, 53, 54, 55, 56, 57, 65, 66, 67, 68, 69, 70]⟩ k) (by rw [HN.out]; exact HB.out) HC.out (by rw [HN.out]; exact HO.out) (by rw [HN.out]; exact hown') (grown_drew hgr) hcap; have hb1 := hA.1; rw [HN.out] at hb1; have hc1 := hb1.cell; have hf1 := hb1.frozen; have HA : Hid (_ ∧ _) := hA; clear hA hb1 hown' hgr hcap))
  all_goals (
    go_wp2
    go_end0
    refine ⟨rfl, ?_⟩
    have := HA.out.2
    rw [HN.out] at this
    exact this)

end
end Go.Proofs.YthblljfkodbbeabDoor.ue
