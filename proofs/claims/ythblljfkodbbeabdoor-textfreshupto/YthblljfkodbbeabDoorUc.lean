import Derived.Test.YthblljfkodbbeabDoorUb
namespace Go.Proofs.YthblljfkodbbeabDoor.uc
open Go.RowKit Go.PlainAid
open Go.Proofs.YthblljfkodbbeabDoor.ta Go.Proofs.YthblljfkodbbeabDoor.tb Go.Proofs.YthblljfkodbbeabDoor.tc Go.Proofs.YthblljfkodbbeabDoor.td Go.Proofs.YthblljfkodbbeabDoor.te Go.Proofs.YthblljfkodbbeabDoor.tf Go.Proofs.YthblljfkodbbeabDoor.tg Go.Proofs.YthblljfkodbbeabDoor.th Go.Proofs.YthblljfkodbbeabDoor.ti Go.Proofs.YthblljfkodbbeabDoor.tj Go.Proofs.YthblljfkodbbeabDoor.tk Go.Proofs.YthblljfkodbbeabDoor.ue Go.Proofs.YthblljfkodbbeabDoor.ub
set_option linter.unusedVariables false

def pr (b : Int) : Bool := decide (33 ≤ b) && decide (b ≤ 126)
theorem pl_pr (b : Int) : pl b = (pr b && !(b == 37)) := rfl
set_option maxHeartbeats 400000 in
theorem printed (b : Int) (w : World) : Calls Tryd.prog 21 #[.int .u8 b] w fun e w' => e = .returned (.bool (pr b)) ∧ w' = w := by
  by_cases h1 : 33 ≤ b
  · by_cases h2 : b ≤ 126
    · have HE : Hid (pr b = true) := by show _ = _; simp [pr, h1, h2]
      rw [HE.out]
      go_enter Tryd.func21, Tryd.ntmps21
      go_wp2
      go_ret
      exact ⟨rfl, rfl⟩
    · have HE : Hid (pr b = false) := by show _ = _; simp [pr, h2]
      rw [HE.out]
      go_enter Tryd.func21, Tryd.ntmps21
      go_wp2
      go_ret
      exact ⟨rfl, rfl⟩
  · have HE : Hid (pr b = false) := by show _ = _; simp [pr, h1]
    rw [HE.out]
    go_enter Tryd.func21, Tryd.ntmps21
    go_wp2
    go_ret
    exact ⟨rfl, rfl⟩
set_option maxHeartbeats 400000 in
theorem plain (b : Int) (w : World) : Calls Tryd.prog 25 #[.int .u8 b] w fun e w' => e = .returned (.bool (pl b)) ∧ w' = w := by
  have C : Hid (Calls _ _ _ _ _) := printed b w
  rw [pl_pr]
  generalize pr b = p at *
  cases p
  all_goals
    go_enter Tryd.func25, Tryd.ntmps25
    go_wp2_with fail
    refine C.out.mono ?_
    rintro e w1 ⟨rfl, rfl⟩
    go_wp2
    go_ret
    exact ⟨rfl, rfl⟩

theorem flush84 (b : Int) (h : 0 ≤ b ∧ b < 256) : flush 4 (0 + 8) (0 * 2 ^ 8 + b) (0 + 8) = ([b / 16, b % 16], 0, 0) := by
  have := stp84 [] b h
  simpa [stp, Prod.ext_iff] using this
theorem eEscape1 : ∀ args w, (callFunc 23 args).run Tryd.prog w = .ok (.enter 23 args) w := enters_of Tryd.func23 (by kernel_rfl) rfl
theorem eEscape2 : ∀ args w, (callFunc 24 args).run Tryd.prog w = .ok (.enter 24 args) w := enters_of Tryd.func24 (by kernel_rfl) rfl

section
variable {w0 : World} {B bo C bh bc : Nat} {cs : List (Nat × Obj)}
-- one byte escaped
set_option maxHeartbeats 1600000 in
theorem escape2 (bw bf bt' bg : Nat) (l : List Int) (b : Int) (b0 : 0 ≤ b) (b1 : b < 256) (w : World) (s : Hid (St w0 B bo C bh bc cs l 0 (0 : Nat) w)) (hr : l.length + (escB b).length ≤ 140737488355328)
    (m0 : (bw, bx 40 (rgF bh bf bc bt' bg)) ∈ cs) (m1 : (bf, bx 3 (.int .i64 (8 : Nat))) ∈ cs) (m2 : (bt', bx 3 (.int .i64 (4 : Nat))) ∈ cs) (m3 : (bg, bx 40 (.func (.func 23) #[] #[.pointer (some ⟨bo, 0, none⟩)])) ∈ cs) :
    Calls Tryd.prog 24 #[.int .u8 b, .pointer (some ⟨bo, 0, none⟩), .pointer (some ⟨bw, 0, none⟩)] w fun e w' => e = .returned (.bool true) ∧ St w0 B bo C bh bc cs (l ++ escB b) 0 (0 : Nat) w' := by
  have P : Hid (Calls _ _ _ _ _) := plain b w
  obtain ⟨g, cap, hbox, hC, how⟩ := s.out.out
  have HB : Hid (Boxed w bo 39 (.slice (some ⟨g, 0, none⟩) l.length cap)) := hbox
  have HO : Hid (World.ownsRow _ _ _ _ _ _ _) := how
  have hcell := hbox.cell
  have hbase := s.out.base
  have hrr := (escB_length b).1
  have HR : Hid (l.length < cap ∨ l.length + 1 ≤ 140737488355328) := .inr (by omega)
  have HC : Hid (C ≤ cap) := hC
  clear hbox how hC hrr
  obtain ⟨n, HN⟩ : ∃ n, Hid (l.length = n) := ⟨_, rfl⟩
  rw [HN.out] at HB HO HR hcell
  by_cases hp : pl b = true
  · have HE : Hid (escB b = [b]) := if_pos hp
    rw [hp] at P
    rw [HE.out]
    clear hp
    go_enter Tryd.func24, Tryd.ntmps24
    go_wp2_with fail
    refine P.out.mono ?_
    rintro e w1 ⟨rfl, rfl⟩
    go_wp2_with (at_builtin; refine wpList_append_c rfl (.tmp 7) (.tmp 9) rfl B g n cap _ rfl (HO.out.alloc _) (.int .u8 b) rfl ⟨w1.heap.size, 0, none⟩ 1 rfl (new_cell _ _ _) HR.out (by simp; omega) ?_; intro g' cap' w2 hown' hgr hcap; have hA := s.out.appended g cap g' cap' (.cells #[.int .u8 b] 5) b (by rw [HN.out]; exact HB.out) HC.out (by rw [HN.out]; exact HO.out) (by rw [HN.out]; exact hown') hgr hcap; have hb1 := hA.1; rw [HN.out] at hb1; have hc1 := hb1.cell; have hf1 := hb1.frozen; have HA : Hid (_ ∧ _) := hA; clear hA hb1 hown' hgr hcap)
    go_ret
    refine ⟨rfl, ?_⟩
    have := HA.out.2
    rw [HN.out] at this
    exact this
  · have hp' : pl b = false := by simpa using hp
    have HE : Hid (escB b = [37] ++ [sg AUP (b / 16), sg AUP (b % 16)]) := if_neg hp
    have hl3 : (escB b).length = 3 := by rw [HE.out]; rfl
    rw [hp'] at P
    rw [HE.out, ← List.append_assoc]
    have G : Hid (∀ w', St w0 B bo C bh bc cs (l ++ [37]) 0 (0 : Nat) w' → Calls Tryd.prog 33 #[.int .u8 b, .pointer (some ⟨bh, 0, none⟩), .pointer (some ⟨bf, 0, none⟩), .pointer (some ⟨bc, 0, none⟩), .pointer (some ⟨bt', 0, none⟩), .pointer (some ⟨bg, 0, none⟩)] w' fun e w'' => e = .returned (.tuple #[]) ∧ St w0 B bo C bh bc cs (l ++ [37] ++ [sg AUP (b / 16), sg AUP (b % 16)]) 0 (0 : Nat) w'') := fun w' s' => by
      have r := regroup1 8 4 (by omega) (by omega) (by omega) 140737488355328 bf bt' bg 23 _ eEscape1 (fun x => bt UP x.toNat) m1 m2 m3
        (fun q h c x w2 x0 x1 hq sq => by
          obtain ⟨n, rfl⟩ := Int.eq_ofNat_of_zero_le x0
          have hn : n < 2 ^ 4 := by exact_mod_cast x1
          exact Escape1 q h c n (by omega) w2 sq (.inr (by omega)))
        (l ++ [37]) 0 b 0 (by omega) (by omega) (by omega) b0 (by omega) w' s' (by rw [flush84 b ⟨b0, b1⟩, List.length_append]; simp; omega)
      rw [flush84 b ⟨b0, b1⟩, sg_of UP AUP bsUP] at r
      exact r
    have eR := eRegroup1
    clear hp hp' hl3 hr
    go_enter Tryd.func24, Tryd.ntmps24
    go_wp2_with fail
    refine P.out.mono ?_
    rintro e w1 ⟨rfl, rfl⟩
    go_wp2_with (at_builtin; refine wpList_append_c rfl (.tmp 11) (.tmp 12) rfl B g n cap _ rfl (HO.out.alloc _) (.int .u8 37) rfl ⟨w1.heap.size, 0, none⟩ 1 rfl (new_cell _ _ _) HR.out (by simp; omega) ?_; intro g' cap' w2 hown' hgr hcap; have hA := s.out.appended g cap g' cap' (.cells #[.int .u8 37] 5) 37 (by rw [HN.out]; exact HB.out) HC.out (by rw [HN.out]; exact HO.out) (by rw [HN.out]; exact hown') hgr hcap; have hb1 := hA.1; rw [HN.out] at hb1; have hc1 := hb1.cell; have hf1 := hb1.frozen; have S2 := hA.2; rw [HN.out] at S2; have hw := S2.at m0; unfold rgF at hw; have HS2 : Hid (St _ _ _ _ _ _ _ _ _ _ _) := S2; clear S2 hA hb1 hown' hgr hcap)
    refine (G.out _ HS2.out).mono ?_
    rintro e w3 ⟨rfl, h3⟩
    have HS3 : Hid (St _ _ _ _ _ _ _ _ _ _ _) := h3
    clear h3 HS2
    go_wp2
    go_ret
    exact ⟨rfl, HS3.out⟩
end

set_option maxHeartbeats 1600000 in
theorem escape (s : ByteArray) (hs : s.size ≤ 281474976710656) (hz : (escR (bs s)).length ≤ 140737488355328) (w : World) :
    Calls Tryd.prog 7 #[.string s] w fun e w' => e = .returned (.string (str (escL (bs s)))) ∧ Below w.heap.size w w' := by
  have hmf : ∀ (fn : Fn) (first cap : Array Value) (w : World), (Instr.makeFunc fn first cap).run Tryd.prog w = .ok (.func fn first cap) w := fun _ _ _ _ => rfl
  by_cases h0 : s.size = 0
  · have hb0 : bs s = [] := List.length_eq_zero_iff.1 (by rw [bs_length]; exact h0)
    have he : s = ByteArray.empty := bs_inj (by rw [hb0]; rfl)
    clear hb0
    subst he
    have HE : Hid (str (escL (bs ByteArray.empty)) = ⟨#[37]⟩) := by show _ = _; apply bs_inj; decide +kernel
    rw [HE.out]
    go_enter Tryd.func7, Tryd.ntmps7
    go_wp2
    go_ret
    exact ⟨rfl, Below.refl _ _⟩
  · have hne : (s.toList == (⟨#[]⟩ : ByteArray).toList) = false := by
      rw [toList_bs]
      exact decide_eq_false (fun h => h0 (by rw [h]; rfl))
    have hne2 : (s.toList == []) = false := by rw [toList_lit]; exact decide_eq_false (fun h => h0 (by rw [h]; rfl))
    have hne3 : s.toList.isEmpty = false := by cases hl : s.toList with
      | nil => rw [hl] at hne2; cases hne2
      | cons => rfl
    have hnn : bs s ≠ [] := fun h => h0 (by rw [← bs_length, h]; rfl)
    have HE : Hid (escL (bs s) = escR (bs s)) := if_neg hnn
    rw [HE.out]
    have hmk : ∀ w' : World, (Instr.makeSlice 39 (.int .i64 0) (.int .i64 s.size)).run Tryd.prog w' = .ok (.slice (some ⟨w'.heap.size, 0, none⟩) 0 s.size) (w'.alloc (.cells (row (List.replicate s.size 0)) 5)) := fun w' => make_wide w' s.size hs
    have HR : Hid (Calls _ _ _ _ _) := regroup 8 4 (.func (.func 23) #[] #[.pointer (some ⟨w.heap.size + 1, 0, none⟩)]) rfl 23 _ rfl (base2 w s.size)
    have S0 := St.start w (base2 w s.size) w.heap.size (w.heap.size + 1) 0 w.heap.size s.size [] (8 : Nat) (4 : Nat) (.func (.func 23) #[] #[.pointer (some ⟨w.heap.size + 1, 0, none⟩)]) (base2_below w s.size) (by rw [base2_size]; omega) (by omega)
      (fun x hx => by simp at hx) (base2_out w s.size) (by omega) (base2_own w s.size hs)
    rw [base2_size] at S0 HR
    obtain ⟨W1, HW1⟩ : ∃ W1, Hid (chain5 (base2 w s.size) (8 : Nat) (4 : Nat) (.func (.func 23) #[] #[.pointer (some ⟨w.heap.size + 1, 0, none⟩)]) = W1) := ⟨_, rfl⟩
    rw [HW1.out] at S0
    have S1 := St.more S0 (bx 40 (rgF (w.heap.size + 2 + 3) (w.heap.size + 2) (w.heap.size + 2 + 4) (w.heap.size + 2 + 1) (w.heap.size + 2 + 2))) (nou8 fb_ne _ _)
    obtain ⟨cs, hcs⟩ : ∃ cs, (W1.heap.size, bx 40 (rgF (w.heap.size + 2 + 3) (w.heap.size + 2) (w.heap.size + 2 + 4) (w.heap.size + 2 + 1) (w.heap.size + 2 + 2))) :: (w.heap.size + 2, bx 3 (.int .i64 (8 : Nat))) :: (w.heap.size + 2 + 1, bx 3 (.int .i64 (4 : Nat))) :: (w.heap.size + 2 + 2, bx 40 (.func (.func 23) #[] #[.pointer (some ⟨w.heap.size + 1, 0, none⟩)])) :: [] = cs := ⟨_, rfl⟩
    rw [hcs] at S1
    have m0 : (W1.heap.size, bx 40 (rgF (w.heap.size + 2 + 3) (w.heap.size + 2) (w.heap.size + 2 + 4) (w.heap.size + 2 + 1) (w.heap.size + 2 + 2))) ∈ cs := by rw [← hcs]; simp
    have m1 : (w.heap.size + 2, bx 3 (.int .i64 (8 : Nat))) ∈ cs := by rw [← hcs]; simp
    have m2 : (w.heap.size + 2 + 1, bx 3 (.int .i64 (4 : Nat))) ∈ cs := by rw [← hcs]; simp
    have m3 : (w.heap.size + 2 + 2, bx 40 (.func (.func 23) #[] #[.pointer (some ⟨w.heap.size + 1, 0, none⟩)])) ∈ cs := by rw [← hcs]; simp
    clear hcs S0
    have T1 : Hid (Calls Tryd.prog 19 #[.string s, .func (.func 24) #[] #[.pointer (some ⟨w.heap.size + 1, 0, none⟩), .pointer (some ⟨W1.heap.size, 0, none⟩)]] (W1.alloc (bx 40 (rgF (w.heap.size + 2 + 3) (w.heap.size + 2) (w.heap.size + 2 + 4) (w.heap.size + 2 + 1) (w.heap.size + 2 + 2)))) fun e w' =>
        (e = .returned (.bool true) ∧ St w w.heap.size (w.heap.size + 1) 0 (w.heap.size + 2 + 3) (w.heap.size + 2 + 4) cs (escR (btL s s.size)) 0 (0 : Nat) w') ∨ (e = .returned (.bool false) ∧ False)) := by
      refine through s (by omega) 24 _ eEscape2 (fun k w' => St w w.heap.size (w.heap.size + 1) 0 (w.heap.size + 2 + 3) (w.heap.size + 2 + 4) cs (escR (btL s k)) 0 (0 : Nat) w') (fun _ => False) ?_ _ S1
      intro k w' hk sk
      have b0 := bt_nonneg s k
      have b1 := bt_le s k
      have hlen : (escR (btL s k)).length + (escB (bt s k)).length ≤ 140737488355328 := by
        have e : bs s = btL s (k + 1) ++ (bs s).drop (k + 1) := by
          conv => lhs; rw [← List.take_append_drop (k + 1) (bs s)]
          congr 1
          exact btL_take s _ _ hk
        rw [e, escR_app, btL_succ, escR_snoc, List.length_append, List.length_append] at hz
        omega
      refine (escape2 W1.heap.size (w.heap.size + 2) (w.heap.size + 2 + 1) (w.heap.size + 2 + 2) (escR (btL s k)) (bt s k) b0 (by omega) w' sk hlen m0 m1 m2 m3).mono ?_
      rintro e w2 ⟨he, h2⟩
      refine .inl ⟨he, ?_⟩
      rw [btL_succ, escR_snoc]
      exact h2
    clear S1 m0 m1 m2 m3
    have HM : Hid (btL s s.size = bs s) := rfl
    rw [HM.out] at T1
    generalize escR (bs s) = L at *
    unfold rgF at T1
    go_enter Tryd.func7, Tryd.ntmps7
    go_wp2_with fail
    refine HR.out.mono ?_
    rintro e w1 ⟨rfl, hw1⟩
    obtain rfl : w1 = W1 := hw1.trans HW1.out
    clear hw1 HR HW1 hmk
    go_wp2_with fail
    refine T1.out.mono ?_
    rintro e w4 (⟨rfl, hj⟩ | ⟨_, hf⟩)
    case inr => exact hf.elim
    obtain ⟨g, cap, hbox, _, how⟩ := hj.out
    have hc4 := hbox.cell
    have hcv := own_conv w4 w.heap.size _ L L.length rfl how
    have HB : Hid (Below w.heap.size w w4) := hj.below
    clear hj hbox how T1
    go_wp2
    go_ret
    exact ⟨rfl, HB.out⟩
end Go.Proofs.YthblljfkodbbeabDoor.uc
