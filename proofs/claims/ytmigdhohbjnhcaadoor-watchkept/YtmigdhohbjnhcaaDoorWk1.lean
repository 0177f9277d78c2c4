import Derived.Test.YtmigdhohbjnhcaaDoorGs
import Derived.Test.YtmigdhohbjnhcaaDoorGc
import Derived.Test.YtmigdhohbjnhcaaDoorMb
namespace Go.Proofs.YtmigdhohbjnhcaaDoor.wk1
open Go.RowKit Go.PlainAid
open Go.Proofs.YtmigdhohbjnhcaaDoor.pj Go.Proofs.YtmigdhohbjnhcaaDoor.rf Go.Proofs.YtmigdhohbjnhcaaDoor.ca Go.Proofs.YtmigdhohbjnhcaaDoor.cb Go.Proofs.YtmigdhohbjnhcaaDoor.cp Go.Proofs.YtmigdhohbjnhcaaDoor.ka Go.Proofs.YtmigdhohbjnhcaaDoor.kb Go.Proofs.YtmigdhohbjnhcaaDoor.ga Go.Proofs.YtmigdhohbjnhcaaDoor.gb Go.Proofs.YtmigdhohbjnhcaaDoor.gs
set_option linter.unusedVariables false

-- the first place at which a text stands
def ixT (x : ByteArray) : List ByteArray → Nat → Int
  | [], _ => -1
  | g :: l, n => if x = g then n else ixT x l (n + 1)
theorem ixT_drop (x : ByteArray) (l : List ByteArray) (k : Nat) (h : k < l.length) : ixT x (l.drop k) k = if x = l[k]'h then (k : Int) else ixT x (l.drop (k + 1)) (k + 1) := by
  rw [List.drop_eq_getElem_cons h, ixT]
theorem ixT_ge (x : ByteArray) (l : List ByteArray) : ∀ n : Nat, 0 ≤ ixT x l n ↔ x ∈ l := by
  induction l with
  | nil => intro n; simp [ixT]
  | cons g l ih =>
    intro n
    unfold ixT
    by_cases h : x = g
    · rw [if_pos h]; simp [h] <;> omega
    · rw [if_neg h, ih (n + 1)]; simp [h]
set_option maxHeartbeats 1600000 in
theorem indexT (v : Value) (l : List ByteArray) (x : ByteArray) (w : World) (hr : ReadsT w v l) (hz : l.length ≤ 140737488355328) :
    Calls Tryd.prog 19 #[v, .string x] w fun e w' => e = .returned (.int .i64 (ixT x l 0)) ∧ ∃ m, w' = w.drewN m := by
  obtain ⟨a, c, rfl, _, hcl⟩ := hr
  have HCL : Hid (l.length = 0 ∨ ∃ b off, a = some ⟨b, off, none⟩ ∧ ∀ i, i < l.length → w.cell? ⟨b, off + i, none⟩ = some (.string (l.getD i ByteArray.empty))) := hcl
  clear hcl
  obtain ⟨R, HR⟩ : ∃ R, Hid (ixT x l 0 = R) := ⟨_, rfl⟩
  rw [HR.out]
  obtain ⟨n, HN⟩ : ∃ n, Hid (l.length = n) := ⟨_, rfl⟩
  have hzn : n ≤ 140737488355328 := by rw [← HN.out]; exact hz
  rw [HN.out] at HCL ⊢
  clear hz
  go_enter Tryd.func19, Tryd.ntmps19
  go_wp2
  go_loopw [5, 8] (fun _ i wr => ∃ k m : Nat, k ≤ n ∧ i = .int .i64 k ∧ Hid (ixT x (l.drop k) k = R) ∧ wr = w.drewN m) (fun _ i _ => (n - intOf i).toNat)
  case atStart => exact ⟨0, 0, by omega, rfl, HR.out, rfl⟩
  case round =>
    obtain ⟨k, m, hk, rfl, HK, rfl⟩ := hrel
    by_cases hlt : k < n
    · have hlt' : (k : Int) < n := by omega
      have hkl : k < l.length := by rw [HN.out]; exact hlt
      obtain ⟨b, off, rfl, hc⟩ : ∃ b off, a = some ⟨b, off, none⟩ ∧ ∀ i, i < n → w.cell? ⟨b, off + i, none⟩ = some (.string (l.getD i ByteArray.empty)) := by
        rcases HCL.out with h | h
        · omega
        · exact h
      obtain ⟨y, HY⟩ : ∃ x, Hid (l[k]'hkl = x) := ⟨_, rfl⟩
      have hgd : l.getD k ByteArray.empty = y := by rw [List.getD_eq_getElem?_getD, List.getElem?_eq_getElem hkl, HY.out]; rfl
      have c1 := hc k hlt
      rw [hgd] at c1
      have HS : Hid ((if x = y then (k : Int) else ixT x (l.drop (k + 1)) (k + 1)) = R) := by show _ = _; rw [← HK.out, ixT_drop x l k hkl, HY.out]
      clear hc HY hgd
      by_cases hxy : x = y
      · have HT : Hid ((k : Int) = R) := by have := HS.out; rw [if_pos hxy] at this; exact this
        have hb : (x.toList == y.toList) = true := by rw [beqL]; exact decide_eq_true hxy
        clear HS hxy
        go_wp2_with fail
        try go_quiet (fail)
        go_wp2
        go_ret
        first | exact ⟨by rw [← HT.out]; rfl, _, rfl⟩ | exact ⟨by rw [← HT.out]; rfl, m + nq, by rw [World.drewN_drewN]⟩
      · have HT : Hid (ixT x (l.drop (k + 1)) (k + 1) = R) := by have := HS.out; rw [if_neg hxy] at this; exact this
        have hb : (x.toList == y.toList) = false := by rw [beqL]; exact decide_eq_false hxy
        clear HS hxy
        go_wp2_with fail
        try go_quiet (fail)
        go_wp2
        go_roundw
        case rel => exact ⟨k + 1, _, by omega, by go_num, HT.out, rfl⟩
        case measure => simp [intOf]; omega
    · have hlt' : ¬ (k : Int) < n := by omega
      have HE : Hid (R = -1) := by
        show _ = _
        rw [← HK.out, List.drop_of_length_le (by rw [HN.out]; omega)]
        rfl
      go_wp2
      go_ret
      exact ⟨by rw [HE.out]; rfl, _, rfl⟩
-- is a text among them?
def inL (x : ByteArray) (l : List ByteArray) : Bool := decide (0 ≤ ixT x l 0)
theorem containsT (v : Value) (l : List ByteArray) (x : ByteArray) (w : World) (hr : ReadsT w v l) (hz : l.length ≤ 140737488355328) :
    Calls Tryd.prog 9 #[v, .string x] w fun e w' => e = .returned (.bool (inL x l)) ∧ ∃ m, w' = w.drewN m := by
  have C : Hid (Calls _ _ _ _ _) := indexT v l x w hr hz
  have hd : inL x l = decide (0 ≤ ixT x l 0) := rfl
  rw [hd]
  obtain ⟨R, HR⟩ : ∃ R, Hid (ixT x l 0 = R) := ⟨_, rfl⟩
  rw [HR.out] at C ⊢
  clear hd hr hz
  go_enter Tryd.func9, Tryd.ntmps9
  go_wp2_with fail
  refine C.out.mono ?_
  rintro e w1 ⟨rfl, m, hw⟩
  have HW : Hid (w1 = w.drewN m) := hw
  clear hw
  go_wp2
  go_ret
  exact ⟨rfl, m, HW.out⟩
end Go.Proofs.YtmigdhohbjnhcaaDoor.wk1
