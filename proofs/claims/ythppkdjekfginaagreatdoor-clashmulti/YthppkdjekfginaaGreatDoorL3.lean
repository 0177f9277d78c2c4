import Derived.Test.YthppkdjekfginaaGreatDoorL1
import Derived.Handy
import Derived.Test.YthppkdjekfginaaGreatDoorG5
namespace Go.Proofs.YthppkdjekfginaaGreatDoor.uk
open Go.RowKit Go.PlainAid
open Go.Proofs.YthppkdjekfginaaGreatDoor.pl Go.Proofs.YthppkdjekfginaaGreatDoor.pi Go.Proofs.YthppkdjekfginaaGreatDoor.pj Go.Proofs.YthppkdjekfginaaGreatDoor.ca Go.Proofs.YthppkdjekfginaaGreatDoor.cb Go.Proofs.YthppkdjekfginaaGreatDoor.cp Go.Proofs.YthppkdjekfginaaGreatDoor.ga Go.Proofs.YthppkdjekfginaaGreatDoor.aa Go.Proofs.YthppkdjekfginaaGreatDoor.ba Go.Proofs.YthppkdjekfginaaGreatDoor.bb Go.Proofs.YthppkdjekfginaaGreatDoor.ka Go.Proofs.YthppkdjekfginaaGreatDoor.kb Go.Proofs.YthppkdjekfginaaGreatDoor.kc Go.Proofs.YthppkdjekfginaaGreatDoor.kp Go.Proofs.YthppkdjekfginaaGreatDoor.lk Go.Proofs.YthppkdjekfginaaGreatDoor.ta Go.Proofs.YthppkdjekfginaaGreatDoor.ua Go.Proofs.YthppkdjekfginaaGreatDoor.ub
set_option linter.unusedVariables false

def clV : Option (ByteArray × ByteArray) → Value
  | none => .agg #[.string ⟨#[]⟩, .string ⟨#[]⟩, .bool false]
  | some (a, b) => .agg #[.string a, .string b, .bool true]
def Sml : Pt → Prop
  | .bare _ => True
  | .leaf _ l => l.size ≤ 140737488352000
  | .node _ l r => l.sum.size ≤ 32 ∧ r.sum.size ≤ 32 ∧ Sml l ∧ Sml r
def IsK : Pt → Prop
  | .bare _ => False
  | _ => True
theorem size1 (x : UInt8) (l : ByteArray) : ((⟨#[x]⟩ : ByteArray) ++ l).size = 1 + l.size := by rw [ByteArray.size_append]; rfl
theorem text_leaf (b : Nat) (s l : ByteArray) (w : World) (hl : l.size ≤ 140737488352000) (h : w.heap[b]? = some (.cells #[.string s, .string l, .nilIface, .nilIface] 131 (0, 0))) : Calls Tryz.prog 176 #[.pointer (some ⟨b, 0, none⟩)] w fun e w' => e = .returned (.string (tx0 l)) ∧ Below w.heap.size w w' := by
  have c1 : w.cell? ⟨b, 1, none⟩ = some (.string l) := cell_of_row _ _ 1 _ _ _ h
  have c2 : w.cell? ⟨b, 2, none⟩ = some .nilIface := cell_of_row _ _ 2 _ _ _ h
  have z1 : (⟨#[0]⟩ : ByteArray).size = 1 := rfl
  clear h
  go_enter Tryz.func176, Tryz.ntmps176
  go_wp2
  go_ret
  exact ⟨rfl, Below.refl _ _⟩
theorem hash_of {B : Nat} {w : World} {v : Value} {t : Pt} (h : IsP B w v t) : v = .iface 128 (.string t.sum) ∨ ∃ b, v = .iface 125 (.pointer (some ⟨b, 0, none⟩)) ∧ w.cell? ⟨b, 0, none⟩ = some (.string t.sum) := by
  cases t with
  | bare h0 => exact .inl h
  | leaf s l =>
    obtain ⟨b, h1, rfl, h3⟩ := h
    exact .inr ⟨b, rfl, cell_of_row _ _ 0 _ _ _ h3⟩
  | node s l r =>
    obtain ⟨b, vl, vr, h1, rfl, h3, _⟩ := h
    exact .inr ⟨b, rfl, cell_of_row _ _ 0 _ _ _ h3⟩
set_option maxRecDepth 100000 in
set_option maxHeartbeats 3200000 in
theorem text_node (B b : Nat) (s : ByteArray) (vl vr : Value) (l r : Pt) (w : World) (zl : l.sum.size ≤ 32) (zr : r.sum.size ≤ 32) (h : w.heap[b]? = some (.cells #[.string s, .string ⟨#[]⟩, vl, vr] 131 (0, 0))) (hl : IsP B w vl l) (hr : IsP B w vr r) : Calls Tryz.prog 176 #[.pointer (some ⟨b, 0, none⟩)] w fun e w' => e = .returned (.string (tx1 l.sum r.sum)) ∧ Below w.heap.size w w' := by
  have c2 : w.cell? ⟨b, 2, none⟩ = some vl := cell_of_row _ _ 2 _ _ _ h
  have c3 : w.cell? ⟨b, 3, none⟩ = some vr := cell_of_row _ _ 3 _ _ _ h
  have hl := hash_of hl
  have hr := hash_of hr
  obtain ⟨sl, HSL⟩ : ∃ x, Hid (l.sum = x) := ⟨_, rfl⟩
  obtain ⟨sr, HSR⟩ : ∃ x, Hid (r.sum = x) := ⟨_, rfl⟩
  rw [HSL.out] at hl zl ⊢
  rw [HSR.out] at hr zr ⊢
  have z1 : (⟨#[1]⟩ : ByteArray).size = 1 := rfl
  have z2 : ((⟨#[1]⟩ : ByteArray) ++ sl).size = 1 + sl.size := size1 1 sl
  clear h
  rcases hl with hl | hl <;> rcases hr with hr | hr
  · subst hl
    subst hr
    have ml : ∀ w : World, (method 306 128 (.string sl) "annals/clash.hash").run Tryz.prog w = .ok (178, .string sl) w := fun _ => by kernel_rfl
    have mr : ∀ w : World, (method 306 128 (.string sr) "annals/clash.hash").run Tryz.prog w = .ok (178, .string sr) w := fun _ => by kernel_rfl
    go_enter Tryz.func176, Tryz.ntmps176
    go_wp2_with fail
    go_quiet (first | (go_at_call 178; exact Calls.quiet_of_same (bareHash _ _)) | (go_at_call 175; exact Calls.quiet_of_same (knownHash _ _ _ (by assumption))))
    go_wp2
    go_ret
    exact ⟨rfl, below_dN (Below.refl _ _) _⟩
  · subst hl
    obtain ⟨br, rfl, dr⟩ := hr
    have ml : ∀ w : World, (method 306 128 (.string sl) "annals/clash.hash").run Tryz.prog w = .ok (178, .string sl) w := fun _ => by kernel_rfl
    have mr : ∀ w : World, (method 306 125 (.pointer (some ⟨br, 0, none⟩)) "annals/clash.hash").run Tryz.prog w = .ok (175, .pointer (some ⟨br, 0, none⟩)) w := fun _ => by kernel_rfl
    go_enter Tryz.func176, Tryz.ntmps176
    go_wp2_with fail
    go_quiet (first | (go_at_call 178; exact Calls.quiet_of_same (bareHash _ _)) | (go_at_call 175; exact Calls.quiet_of_same (knownHash _ _ _ (by assumption))))
    go_wp2
    go_ret
    exact ⟨rfl, below_dN (Below.refl _ _) _⟩
  · obtain ⟨bl, rfl, dl⟩ := hl
    subst hr
    have ml : ∀ w : World, (method 306 125 (.pointer (some ⟨bl, 0, none⟩)) "annals/clash.hash").run Tryz.prog w = .ok (175, .pointer (some ⟨bl, 0, none⟩)) w := fun _ => by kernel_rfl
    have mr : ∀ w : World, (method 306 128 (.string sr) "annals/clash.hash").run Tryz.prog w = .ok (178, .string sr) w := fun _ => by kernel_rfl
    go_enter Tryz.func176, Tryz.ntmps176
    go_wp2_with fail
    go_quiet (first | (go_at_call 178; exact Calls.quiet_of_same (bareHash _ _)) | (go_at_call 175; exact Calls.quiet_of_same (knownHash _ _ _ (by assumption))))
    go_wp2
    go_ret
    exact ⟨rfl, below_dN (Below.refl _ _) _⟩
  · obtain ⟨bl, rfl, dl⟩ := hl
    obtain ⟨br, rfl, dr⟩ := hr
    have ml : ∀ w : World, (method 306 125 (.pointer (some ⟨bl, 0, none⟩)) "annals/clash.hash").run Tryz.prog w = .ok (175, .pointer (some ⟨bl, 0, none⟩)) w := fun _ => by kernel_rfl
    have mr : ∀ w : World, (method 306 125 (.pointer (some ⟨br, 0, none⟩)) "annals/clash.hash").run Tryz.prog w = .ok (175, .pointer (some ⟨br, 0, none⟩)) w := fun _ => by kernel_rfl
    go_enter Tryz.func176, Tryz.ntmps176
    go_wp2_with fail
    go_quiet (first | (go_at_call 178; exact Calls.quiet_of_same (bareHash _ _)) | (go_at_call 175; exact Calls.quiet_of_same (knownHash _ _ _ (by assumption))))
    go_wp2
    go_ret
    exact ⟨rfl, below_dN (Below.refl _ _) _⟩
theorem cells3 (w : World) (x y z : Value) (t : TypeId) : (w.alloc (.cells #[x, y, z] t)).cell? ⟨w.heap.size, 0, none⟩ = some x ∧ (w.alloc (.cells #[x, y, z] t)).cell? ⟨w.heap.size, 1, none⟩ = some y ∧ (w.alloc (.cells #[x, y, z] t)).cell? ⟨w.heap.size, 2, none⟩ = some z :=
  ⟨by rw [World.cell?_alloc_at _ _ _ _ rfl]; rfl, by rw [World.cell?_alloc_at _ _ _ _ rfl]; rfl, by rw [World.cell?_alloc_at _ _ _ _ rfl]; rfl⟩
-- what is known tells its text and its halves
theorem mText {B : Nat} {w : World} {v : Value} {t : Pt} (h : IsP B w v t) (hk : IsK t) (hz : Sml t) : ∃ u, v = .iface 125 (.pointer (some u)) ∧ (∀ w, (method 306 125 (.pointer (some u)) "annals/clash.text").run Tryz.prog w = .ok (176, .pointer (some u)) w) ∧ (∀ w, (method 306 125 (.pointer (some u)) "annals/clash.halves").run Tryz.prog w = .ok (174, .pointer (some u)) w) ∧ (∀ w' , IsP B w' v t → Calls Tryz.prog 176 #[.pointer (some u)] w' fun e w2 => e = .returned (.string t.text) ∧ Below w'.heap.size w' w2) := by
  cases t with
  | bare h0 => exact hk.elim
  | leaf s l =>
    obtain ⟨b, h1, rfl, h3⟩ := h
    refine ⟨_, rfl, fun w => by kernel_rfl, fun w => by kernel_rfl, fun w' q => ?_⟩
    obtain ⟨b', _, e, h3'⟩ := q
    injection e with _ e
    injection e with e
    injection e with e
    injection e with e
    subst e
    exact text_leaf b s l w' hz h3'
  | node s l r =>
    obtain ⟨b, vl, vr, h1, rfl, h3, _⟩ := h
    refine ⟨_, rfl, fun w => by kernel_rfl, fun w => by kernel_rfl, fun w' q => ?_⟩
    obtain ⟨b', vl', vr', _, e, h3', hl, hr⟩ := q
    injection e with _ e
    injection e with e
    injection e with e
    injection e with e
    subst e
    exact text_node B b s vl' vr' l r w' hz.1 hz.2.1 h3' hl hr
end Go.Proofs.YthppkdjekfginaaGreatDoor.uk

namespace Go.Proofs.YthppkdjekfginaaGreatDoor.ul
open Go.RowKit Go.PlainAid
open Go.Proofs.YthppkdjekfginaaGreatDoor.pl Go.Proofs.YthppkdjekfginaaGreatDoor.pi Go.Proofs.YthppkdjekfginaaGreatDoor.pj Go.Proofs.YthppkdjekfginaaGreatDoor.ca Go.Proofs.YthppkdjekfginaaGreatDoor.cb Go.Proofs.YthppkdjekfginaaGreatDoor.cp Go.Proofs.YthppkdjekfginaaGreatDoor.ga Go.Proofs.YthppkdjekfginaaGreatDoor.aa Go.Proofs.YthppkdjekfginaaGreatDoor.ba Go.Proofs.YthppkdjekfginaaGreatDoor.bb Go.Proofs.YthppkdjekfginaaGreatDoor.ka Go.Proofs.YthppkdjekfginaaGreatDoor.kb Go.Proofs.YthppkdjekfginaaGreatDoor.kc Go.Proofs.YthppkdjekfginaaGreatDoor.kp Go.Proofs.YthppkdjekfginaaGreatDoor.lk Go.Proofs.YthppkdjekfginaaGreatDoor.ta Go.Proofs.YthppkdjekfginaaGreatDoor.ua Go.Proofs.YthppkdjekfginaaGreatDoor.ub Go.Proofs.YthppkdjekfginaaGreatDoor.uk
set_option linter.unusedVariables false

theorem put3 (w : World) (p : Nat) (a b c x y z : Value) (t : TypeId) (h : w.heap[p]? = some (.cells #[a, b, c] t (0, 0))) : ∀ W, W = ((w.setCell ⟨p, 0, none⟩ x).setCell ⟨p, 1, none⟩ y).setCell ⟨p, 2, none⟩ z → (W.cell? ⟨p, 0, none⟩ = some x ∧ W.cell? ⟨p, 1, none⟩ = some y ∧ W.cell? ⟨p, 2, none⟩ = some z) ∧ ∀ B, B ≤ p → Below B w W := by
  intro W hW
  have h1 := heap_setCell_same _ _ 0 _ _ x h
  have h2 := heap_setCell_same _ _ 1 _ _ y h1
  have h3 := heap_setCell_same _ _ 2 _ _ z h2
  rw [← hW] at h3
  refine ⟨⟨cell_of_row _ _ 0 _ _ _ h3, cell_of_row _ _ 1 _ _ _ h3, cell_of_row _ _ 2 _ _ _ h3⟩, fun B hB => ?_⟩
  have k : Kp (fun q => q = p) w W := by rw [hW]; exact ((Kp.setCell (A := fun q => q = p) _ _ _ _ rfl).trans (Kp.setCell (A := fun q => q = p) _ _ _ _ rfl)).trans (Kp.setCell (A := fun q => q = p) _ _ _ _ rfl)
  have hl := (Array.getElem?_eq_some_iff.1 h).1
  exact k.below (fun q e => by omega) (by omega)
set_option maxRecDepth 100000 in
theorem first_nil (vu : Value) (w : World) : Calls Tryz.prog 53 #[.nilIface, vu] w fun e w' => e = .returned (clV none) ∧ Below w.heap.size w w' := by
  have B1 : Hid (Below w.heap.size w (w.alloc (.cells #[.string ⟨#[]⟩, .string ⟨#[]⟩, .bool false] 26))) := (Below.refl _ _).alloc (Nat.le_refl _) _
  have G : Hid (_ ∧ _ ∧ _) := cells3 w (.string ⟨#[]⟩) (.string ⟨#[]⟩) (.bool false) 26
  have ta : ∀ w : World, (Instr.typeAssert .nilIface 86 125 true).run Tryz.prog w = .ok (.tuple #[.pointer none, .bool false]) w := fun _ => by kernel_rfl
  go_enter Tryz.func53, Tryz.ntmps53
  go_wp2
  refine bodyPost_ret (by simp [results, Tryz.results53, go_sem, G.out.1, G.out.2.1, G.out.2.2]; try rfl) rfl ?_
  exact ⟨rfl, B1.out⟩
set_option maxRecDepth 100000 in
theorem first_bare (h : ByteArray) (vu : Value) (w : World) : Calls Tryz.prog 53 #[.iface 128 (.string h), vu] w fun e w' => e = .returned (clV none) ∧ Below w.heap.size w w' := by
  have B1 : Hid (Below w.heap.size w (w.alloc (.cells #[.string ⟨#[]⟩, .string ⟨#[]⟩, .bool false] 26))) := (Below.refl _ _).alloc (Nat.le_refl _) _
  have G : Hid (_ ∧ _ ∧ _) := cells3 w (.string ⟨#[]⟩) (.string ⟨#[]⟩) (.bool false) 26
  have ta : ∀ w : World, (Instr.typeAssert (.iface 128 (.string h)) 86 125 true).run Tryz.prog w = .ok (.tuple #[.pointer none, .bool false]) w := fun _ => by kernel_rfl
  go_enter Tryz.func53, Tryz.ntmps53
  go_wp2
  refine bodyPost_ret (by simp [results, Tryz.results53, go_sem, G.out.1, G.out.2.1, G.out.2.2]; try rfl) rfl ?_
  exact ⟨rfl, B1.out⟩

set_option maxRecDepth 100000 in
set_option maxHeartbeats 3200000 in
theorem first_unlike (B B' : Nat) (t u : Pt) (vt vu : Value) (w : World) (kt : IsK t) (ku : IsK u) (zt : Sml t) (zu : Sml u) (ht : IsP B w vt t) (hu : IsP B' w vu u) (hx : t.text ≠ u.text) : Calls Tryz.prog 53 #[vt, vu] w fun e w' => e = .returned (clV (some (t.text, u.text))) ∧ Below w.heap.size w w' := by
  obtain ⟨pt, rfl, m1, m2, ct⟩ := mText ht kt zt
  obtain ⟨pu, rfl, m3, m4, cu⟩ := mText hu ku zu
  have CT : Hid (∀ w', IsP B w' (.iface 125 (.pointer (some pt))) t → Calls _ _ _ _ _) := ct
  have CU : Hid (∀ w', IsP B' w' (.iface 125 (.pointer (some pu))) u → Calls _ _ _ _ _) := cu
  have ta : ∀ w : World, (Instr.typeAssert (.iface 125 (.pointer (some pt))) 86 125 true).run Tryz.prog w = .ok (.tuple #[.pointer (some pt), .bool true]) w := fun _ => by kernel_rfl
  obtain ⟨x, HX⟩ : ∃ x, Hid (t.text = x) := ⟨_, rfl⟩
  obtain ⟨y, HY⟩ : ∃ y, Hid (u.text = y) := ⟨_, rfl⟩
  rw [HX.out] at CT hx ⊢
  rw [HY.out] at CU hx ⊢
  have q : (x.toList == y.toList) = false := by rw [qc.beqL]; exact decide_eq_false hx
  obtain ⟨W, HW⟩ : ∃ W, Hid (W = w.alloc (.cells #[.string ⟨#[]⟩, .string ⟨#[]⟩, .bool false] 26)) := ⟨_, rfl⟩
  have BW : Hid (Below w.heap.size w W) := by rw [HW.out]; exact (Below.refl _ _).alloc (Nat.le_refl _) _
  have HR : Hid (W.heap[w.heap.size]? = some (.cells #[.string ⟨#[]⟩, .string ⟨#[]⟩, .bool false] 26 (0, 0))) := by show _ = _; rw [HW.out]; exact heap_alloc_new w _
  have HT : Hid (IsP B W _ t ∧ IsP B' W _ u) := ⟨ht.later BW.out, hu.later BW.out⟩
  clear ht hu ct cu hx
  go_enter Tryz.func53, Tryz.ntmps53
  go_wp2_with fail
  rw [← HW.out]
  refine (CT.out _ HT.out.1).mono ?_
  rintro e w1 ⟨rfl, hb1⟩
  have B1 : Hid (Below W.heap.size W w1) := hb1
  clear hb1
  go_wp2_with fail
  refine (CU.out _ (HT.out.2.later B1.out)).mono ?_
  rintro e w2 ⟨rfl, hb2⟩
  have B2 : Hid (Below W.heap.size W w2) := over B1.out hb2
  clear hb2
  have hr2 : w2.heap[w.heap.size]? = some (.cells #[.string ⟨#[]⟩, .string ⟨#[]⟩, .bool false] 26 (0, 0)) := (B2.out.block _ (Array.getElem?_eq_some_iff.1 HR.out).1).trans HR.out
  have c0 : w2.cell? ⟨w.heap.size, 0, none⟩ = _ := cell_of_row _ _ 0 _ _ _ hr2
  have c1 : w2.cell? ⟨w.heap.size, 1, none⟩ = _ := cell_of_row _ _ 1 _ _ _ hr2
  have c2 : w2.cell? ⟨w.heap.size, 2, none⟩ = _ := cell_of_row _ _ 2 _ _ _ hr2
  have f0 := frozen_of_row _ _ 0 _ _ hr2
  have f1 := frozen_of_row _ _ 1 _ _ hr2
  have f2 := frozen_of_row _ _ 2 _ _ hr2
  have FIN : Hid (∀ W', W' = _ → _) := put3 w2 w.heap.size _ _ _ (.string x) (.string y) (.bool true) _ hr2
  clear hr2
  go_wp2
  obtain ⟨G, hb⟩ := FIN.out _ rfl
  refine bodyPost_ret (by simp [results, Tryz.results53, go_sem, G.1, G.2.1, G.2.2]; try rfl) rfl ?_
  exact ⟨rfl, (over BW.out B2.out).trans (hb _ (Nat.le_refl _))⟩

def orE (o1 o2 : Option (ByteArray × ByteArray)) : Option (ByteArray × ByteArray) := match o1 with | some c => some c | none => o2
theorem clV_of (o : Option (ByteArray × ByteArray)) : ∃ a b f, clV o = .agg #[.string a, .string b, .bool f] := by
  cases o with
  | none => exact ⟨_, _, _, rfl⟩
  | some c => exact ⟨_, _, _, rfl⟩
set_option maxRecDepth 100000 in
set_option maxHeartbeats 3200000 in
theorem first_alike (B B' : Nat) (t u : Pt) (vt vu : Value) (w : World) (kt : IsK t) (ku : IsK u) (zt : Sml t) (zu : Sml u) (ht : IsP B w vt t) (hu : IsP B' w vu u) (hx : t.text = u.text) (l r l' r' : Value) (o1 o2 : Option (ByteArray × ByteArray))
    (h1 : ∀ p, vt = .iface 125 (.pointer (some p)) → ∀ w', Below w.heap.size w w' → Calls Tryz.prog 174 #[.pointer (some p)] w' fun e w2 => e = .returned (.tuple #[l, r]) ∧ Below w'.heap.size w' w2)
    (h2 : ∀ p, vu = .iface 125 (.pointer (some p)) → ∀ w', Below w.heap.size w w' → Calls Tryz.prog 174 #[.pointer (some p)] w' fun e w2 => e = .returned (.tuple #[l', r']) ∧ Below w'.heap.size w' w2)
    (f1 : ∀ w', Below w.heap.size w w' → Calls Tryz.prog 53 #[l, l'] w' fun e w2 => e = .returned (clV o1) ∧ Below w'.heap.size w' w2)
    (f2 : ∀ w', Below w.heap.size w w' → Calls Tryz.prog 53 #[r, r'] w' fun e w2 => e = .returned (clV o2) ∧ Below w'.heap.size w' w2) :
    Calls Tryz.prog 53 #[vt, vu] w fun e w' => e = .returned (clV (orE o1 o2)) ∧ Below w.heap.size w w' := by
  obtain ⟨pt, rfl, m1, m2, ct⟩ := mText ht kt zt
  obtain ⟨pu, rfl, m3, m4, cu⟩ := mText hu ku zu
  have CT : Hid (∀ w', IsP B w' (.iface 125 (.pointer (some pt))) t → Calls _ _ _ _ _) := ct
  have CU : Hid (∀ w', IsP B' w' (.iface 125 (.pointer (some pu))) u → Calls _ _ _ _ _) := cu
  have H1 : Hid (∀ w', Below w.heap.size w w' → Calls _ _ _ _ _) := h1 pt rfl
  have H2 : Hid (∀ w', Below w.heap.size w w' → Calls _ _ _ _ _) := h2 pu rfl
  have F1 : Hid (∀ w', Below w.heap.size w w' → Calls _ _ _ _ _) := f1
  have F2 : Hid (∀ w', Below w.heap.size w w' → Calls _ _ _ _ _) := f2
  have ta : ∀ w : World, (Instr.typeAssert (.iface 125 (.pointer (some pt))) 86 125 true).run Tryz.prog w = .ok (.tuple #[.pointer (some pt), .bool true]) w := fun _ => by kernel_rfl
  obtain ⟨x, HX⟩ : ∃ x, Hid (t.text = x) := ⟨_, rfl⟩
  rw [← hx, HX.out] at CU
  rw [HX.out] at CT
  have q : (x.toList == x.toList) = true := beq_self_eq_true _
  obtain ⟨W, HW⟩ : ∃ W, Hid (W = w.alloc (.cells #[.string ⟨#[]⟩, .string ⟨#[]⟩, .bool false] 26)) := ⟨_, rfl⟩
  have BW : Hid (Below w.heap.size w W) := by rw [HW.out]; exact (Below.refl _ _).alloc (Nat.le_refl _) _
  have HR : Hid (W.heap[w.heap.size]? = some (.cells #[.string ⟨#[]⟩, .string ⟨#[]⟩, .bool false] 26 (0, 0))) := by show _ = _; rw [HW.out]; exact heap_alloc_new w _
  have HT : Hid (IsP B W _ t ∧ IsP B' W _ u) := ⟨ht.later BW.out, hu.later BW.out⟩
  clear ht hu ct cu hx h1 h2 f1 f2
  rcases o1 with _ | ⟨c1, c2⟩
  · obtain ⟨g0, g1, g2, hgo⟩ := clV_of o2
    have HGO : Hid (clV o2 = .agg #[.string g0, .string g1, .bool g2]) := hgo
    rw [show clV none = .agg #[.string ⟨#[]⟩, .string ⟨#[]⟩, .bool false] from rfl] at F1
    rw [hgo] at F2
    rw [show orE none o2 = o2 from rfl, hgo]
    clear hgo
    go_enter Tryz.func53, Tryz.ntmps53
    go_wp2_with fail
    rw [← HW.out]
    refine (CT.out _ HT.out.1).mono ?_
    rintro e w1 ⟨rfl, hb1⟩
    have B1 : Hid (Below W.heap.size W w1) := hb1
    clear hb1
    go_wp2_with fail
    refine (CU.out _ (HT.out.2.later B1.out)).mono ?_
    rintro e w2 ⟨rfl, hb2⟩
    have B2 : Hid (Below W.heap.size W w2) := over B1.out hb2
    clear hb2
    go_wp2_with fail
    refine (H1.out _ (over BW.out B2.out)).mono ?_
    rintro e w3 ⟨rfl, hb3⟩
    have B3 : Hid (Below W.heap.size W w3) := over B2.out hb3
    clear hb3
    go_wp2_with fail
    refine (H2.out _ (over BW.out B3.out)).mono ?_
    rintro e w4 ⟨rfl, hb4⟩
    have B4 : Hid (Below W.heap.size W w4) := over B3.out hb4
    clear hb4
    go_wp2_with fail
    refine (F1.out _ (over BW.out B4.out)).mono ?_
    rintro e w5 ⟨rfl, hb5⟩
    have B5 : Hid (Below W.heap.size W w5) := over B4.out hb5
    clear hb5
    go_wp2_with fail
    refine (F2.out _ (over BW.out (below_al B5.out _))).mono ?_
    rintro e w7 ⟨rfl, hb7⟩
    have B7 : Hid (Below W.heap.size W w7) := over (below_al B5.out _) hb7
    clear hb7
    have hr2 : w7.heap[w.heap.size]? = some (.cells #[.string ⟨#[]⟩, .string ⟨#[]⟩, .bool false] 26 (0, 0)) := (B7.out.block _ (Array.getElem?_eq_some_iff.1 HR.out).1).trans HR.out
    have c0 : w7.cell? ⟨w.heap.size, 0, none⟩ = _ := cell_of_row _ _ 0 _ _ _ hr2
    have e1 : w7.cell? ⟨w.heap.size, 1, none⟩ = _ := cell_of_row _ _ 1 _ _ _ hr2
    have e2 : w7.cell? ⟨w.heap.size, 2, none⟩ = _ := cell_of_row _ _ 2 _ _ _ hr2
    have f0 := frozen_of_row _ _ 0 _ _ hr2
    have f1 := frozen_of_row _ _ 1 _ _ hr2
    have f2 := frozen_of_row _ _ 2 _ _ hr2
    have FIN : Hid (∀ W', W' = _ → _) := put3 w7 w.heap.size _ _ _ (.string g0) (.string g1) (.bool g2) _ hr2
    clear hr2
    go_wp2
    obtain ⟨G, hb⟩ := FIN.out _ rfl
    refine bodyPost_ret (by simp [results, Tryz.results53, go_sem, G.1, G.2.1, G.2.2]; try rfl) rfl ?_
    exact ⟨rfl, (over BW.out B7.out).trans (hb _ (Nat.le_refl _))⟩
  · rw [show clV (some (c1, c2)) = .agg #[.string c1, .string c2, .bool true] from rfl] at F1
    rw [show orE (some (c1, c2)) o2 = some (c1, c2) from rfl, show clV (some (c1, c2)) = .agg #[.string c1, .string c2, .bool true] from rfl]
    go_enter Tryz.func53, Tryz.ntmps53
    go_wp2_with fail
    rw [← HW.out]
    refine (CT.out _ HT.out.1).mono ?_
    rintro e w1 ⟨rfl, hb1⟩
    have B1 : Hid (Below W.heap.size W w1) := hb1
    clear hb1
    go_wp2_with fail
    refine (CU.out _ (HT.out.2.later B1.out)).mono ?_
    rintro e w2 ⟨rfl, hb2⟩
    have B2 : Hid (Below W.heap.size W w2) := over B1.out hb2
    clear hb2
    go_wp2_with fail
    refine (H1.out _ (over BW.out B2.out)).mono ?_
    rintro e w3 ⟨rfl, hb3⟩
    have B3 : Hid (Below W.heap.size W w3) := over B2.out hb3
    clear hb3
    go_wp2_with fail
    refine (H2.out _ (over BW.out B3.out)).mono ?_
    rintro e w4 ⟨rfl, hb4⟩
    have B4 : Hid (Below W.heap.size W w4) := over B3.out hb4
    clear hb4
    go_wp2_with fail
    refine (F1.out _ (over BW.out B4.out)).mono ?_
    rintro e w5 ⟨rfl, hb5⟩
    have B5 : Hid (Below W.heap.size W w5) := over B4.out hb5
    clear hb5
    obtain ⟨V, HV⟩ : ∃ V, Hid (V = w5.alloc (.cells #[.string c1, .string c2, .bool true] 26)) := ⟨_, rfl⟩
    have hv : w5.alloc (.cells #[.string c1, .string c2, .bool true] 26) = V := HV.out.symm
    have B6 : Hid (Below W.heap.size W V) := by rw [HV.out]; exact below_al B5.out _
    obtain ⟨d0, d1, d2⟩ := cells3 w5 (.string c1) (.string c2) (.bool true) 26
    rw [hv] at d0 d1 d2
    have hr2 : V.heap[w.heap.size]? = some (.cells #[.string ⟨#[]⟩, .string ⟨#[]⟩, .bool false] 26 (0, 0)) := (B6.out.block _ (Array.getElem?_eq_some_iff.1 HR.out).1).trans HR.out
    have c0 : V.cell? ⟨w.heap.size, 0, none⟩ = _ := cell_of_row _ _ 0 _ _ _ hr2
    have e1 : V.cell? ⟨w.heap.size, 1, none⟩ = _ := cell_of_row _ _ 1 _ _ _ hr2
    have e2 : V.cell? ⟨w.heap.size, 2, none⟩ = _ := cell_of_row _ _ 2 _ _ _ hr2
    have f0 := frozen_of_row _ _ 0 _ _ hr2
    have f1 := frozen_of_row _ _ 1 _ _ hr2
    have f2 := frozen_of_row _ _ 2 _ _ hr2
    have FIN : Hid (∀ W', W' = _ → _) := put3 V w.heap.size _ _ _ (.string c1) (.string c2) (.bool true) _ hr2
    clear hr2
    go_wp2_with (rw [hv])
    obtain ⟨G, hb⟩ := FIN.out _ rfl
    refine bodyPost_ret (by simp [results, Tryz.results53, go_sem, G.1, G.2.1, G.2.2]; try rfl) rfl ?_
    exact ⟨rfl, (over BW.out B6.out).trans (hb _ (Nat.le_refl _))⟩

end Go.Proofs.YthppkdjekfginaaGreatDoor.ul

namespace Go.Proofs.YthppkdjekfginaaGreatDoor.um
open Go.RowKit Go.PlainAid
open Go.Proofs.YthppkdjekfginaaGreatDoor.pl Go.Proofs.YthppkdjekfginaaGreatDoor.pi Go.Proofs.YthppkdjekfginaaGreatDoor.pj Go.Proofs.YthppkdjekfginaaGreatDoor.ca Go.Proofs.YthppkdjekfginaaGreatDoor.cb Go.Proofs.YthppkdjekfginaaGreatDoor.cp Go.Proofs.YthppkdjekfginaaGreatDoor.ga Go.Proofs.YthppkdjekfginaaGreatDoor.aa Go.Proofs.YthppkdjekfginaaGreatDoor.ba Go.Proofs.YthppkdjekfginaaGreatDoor.bb Go.Proofs.YthppkdjekfginaaGreatDoor.ka Go.Proofs.YthppkdjekfginaaGreatDoor.kb Go.Proofs.YthppkdjekfginaaGreatDoor.kc Go.Proofs.YthppkdjekfginaaGreatDoor.kp Go.Proofs.YthppkdjekfginaaGreatDoor.lk Go.Proofs.YthppkdjekfginaaGreatDoor.ta Go.Proofs.YthppkdjekfginaaGreatDoor.ua Go.Proofs.YthppkdjekfginaaGreatDoor.ub Go.Proofs.YthppkdjekfginaaGreatDoor.uk Go.Proofs.YthppkdjekfginaaGreatDoor.ul
set_option linter.unusedVariables false

theorem halves_leaf {B : Nat} {v : Value} {s l : ByteArray} {w : World} (h : IsP B w v (.leaf s l)) : ∀ p, v = .iface 125 (.pointer (some p)) → ∀ w', Below w.heap.size w w' → Calls Tryz.prog 174 #[.pointer (some p)] w' fun e w2 => e = .returned (.tuple #[.nilIface, .nilIface]) ∧ Below w'.heap.size w' w2 := by
  intro p hp w' hb
  obtain ⟨b, _, e, h3⟩ := h.later hb
  rw [hp] at e
  injection e with _ e
  injection e with e
  injection e with e
  subst e
  exact knownHalves b _ _ w' (cell_of_row _ _ 2 _ _ _ h3) (cell_of_row _ _ 3 _ _ _ h3)
theorem halves_node {B : Nat} {v : Value} {s : ByteArray} {l r : Pt} {w : World} (h : IsP B w v (.node s l r)) : ∃ vl vr, IsP B w vl l ∧ IsP B w vr r ∧ ∀ p, v = .iface 125 (.pointer (some p)) → ∀ w', Below w.heap.size w w' → Calls Tryz.prog 174 #[.pointer (some p)] w' fun e w2 => e = .returned (.tuple #[vl, vr]) ∧ Below w'.heap.size w' w2 := by
  obtain ⟨b, vl, vr, _, e, h3, hl, hr⟩ := h
  refine ⟨vl, vr, hl, hr, fun p hp w' hb => ?_⟩
  rw [hp] at e
  injection e with _ e
  injection e with e
  injection e with e
  subst e
  have h3' := (hb.block b (Array.getElem?_eq_some_iff.1 h3).1).trans h3
  exact knownHalves b _ _ w' (cell_of_row _ _ 2 _ _ _ h3') (cell_of_row _ _ 3 _ _ _ h3')
theorem firstC (B B' : Nat) : ∀ (t u : Pt) (vt vu : Value) (w : World), ta.Alike t u → Sml t → Sml u → IsP B w vt t → IsP B' w vu u → Calls Tryz.prog 53 #[vt, vu] w fun e w' => e = .returned (clV (fst1 t u)) ∧ Below w.heap.size w w' := by
  intro t
  induction t with
  | bare h =>
    intro u vt vu w _ _ _ ht hu
    obtain rfl : vt = _ := ht
    rw [show fst1 (.bare h) u = none by cases u <;> rfl]
    exact first_bare h vu w
  | leaf s l =>
    intro u vt vu w ha zt zu ht hu
    cases u with
    | bare _ => exact ha.elim
    | node _ _ _ => exact ha.elim
    | leaf s' l' =>
      by_cases hx : (Pt.leaf s l).text = (Pt.leaf s' l').text
      · rw [show fst1 (.leaf s l) (.leaf s' l') = orE none none by rw [fst1, if_pos hx]; rfl]
        exact first_alike B B' (.leaf s l) (.leaf s' l') vt vu w trivial trivial zt zu ht hu hx _ _ _ _ none none (halves_leaf ht) (halves_leaf hu) (fun w' _ => first_nil _ w') (fun w' _ => first_nil _ w')
      · rw [show fst1 (.leaf s l) (.leaf s' l') = some ((Pt.leaf s l).text, (Pt.leaf s' l').text) by rw [fst1, if_neg hx]]
        exact first_unlike B B' _ _ vt vu w trivial trivial zt zu ht hu hx
  | node s l r ihl ihr =>
    intro u vt vu w ha zt zu ht hu
    cases u with
    | bare _ => exact ha.elim
    | leaf _ _ => exact ha.elim
    | node s' l' r' =>
      by_cases hx : (Pt.node s l r).text = (Pt.node s' l' r').text
      · rw [show fst1 (.node s l r) (.node s' l' r') = orE (fst1 l l') (fst1 r r') by rw [fst1, if_pos hx]; rfl]
        obtain ⟨vl, vr, hl, hr, hh⟩ := halves_node ht
        obtain ⟨vl', vr', hl', hr', hh'⟩ := halves_node hu
        exact first_alike B B' (.node s l r) (.node s' l' r') vt vu w trivial trivial zt zu ht hu hx _ _ _ _ _ _ hh hh' (fun w' hb => ihl l' vl vl' w' ha.1 zt.2.2.1 zu.2.2.1 (hl.later hb) (hl'.later hb)) (fun w' hb => ihr r' vr vr' w' ha.2 zt.2.2.2 zu.2.2.2 (hr.later hb) (hr'.later hb))
      · rw [show fst1 (.node s l r) (.node s' l' r') = some ((Pt.node s l r).text, (Pt.node s' l' r').text) by rw [fst1, if_neg hx]]
        exact first_unlike B B' _ _ vt vu w trivial trivial zt zu ht hu hx
end Go.Proofs.YthppkdjekfginaaGreatDoor.um
