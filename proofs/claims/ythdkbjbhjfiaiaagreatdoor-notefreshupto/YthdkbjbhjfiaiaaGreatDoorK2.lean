import Derived.Test.YthdkbjbhjfiaiaaGreatDoorTk
namespace Go.Proofs.YthdkbjbhjfiaiaaGreatDoor.ue
open Go.RowKit Go.PlainAid
open Go.Proofs.YthdkbjbhjfiaiaaGreatDoor.ta Go.Proofs.YthdkbjbhjfiaiaaGreatDoor.tb Go.Proofs.YthdkbjbhjfiaiaaGreatDoor.tc Go.Proofs.YthdkbjbhjfiaiaaGreatDoor.td Go.Proofs.YthdkbjbhjfiaiaaGreatDoor.te Go.Proofs.YthdkbjbhjfiaiaaGreatDoor.tf Go.Proofs.YthdkbjbhjfiaiaaGreatDoor.tg Go.Proofs.YthdkbjbhjfiaiaaGreatDoor.th Go.Proofs.YthdkbjbhjfiaiaaGreatDoor.ti Go.Proofs.YthdkbjbhjfiaiaaGreatDoor.tj Go.Proofs.YthdkbjbhjfiaiaaGreatDoor.tk
set_option linter.unusedVariables false
set_option maxRecDepth 4000

section
variable {w0 : World} {B bo C bh bc : Nat} {cs : List (Nat × Obj)}
end
end Go.Proofs.YthdkbjbhjfiaiaaGreatDoor.ue

namespace Go.Proofs.YthdkbjbhjfiaiaaGreatDoor.ub
open Go.RowKit Go.PlainAid
open Go.Proofs.YthdkbjbhjfiaiaaGreatDoor.ta Go.Proofs.YthdkbjbhjfiaiaaGreatDoor.tb Go.Proofs.YthdkbjbhjfiaiaaGreatDoor.tc Go.Proofs.YthdkbjbhjfiaiaaGreatDoor.td Go.Proofs.YthdkbjbhjfiaiaaGreatDoor.te Go.Proofs.YthdkbjbhjfiaiaaGreatDoor.tf Go.Proofs.YthdkbjbhjfiaiaaGreatDoor.tg Go.Proofs.YthdkbjbhjfiaiaaGreatDoor.th Go.Proofs.YthdkbjbhjfiaiaaGreatDoor.ti Go.Proofs.YthdkbjbhjfiaiaaGreatDoor.tj Go.Proofs.YthdkbjbhjfiaiaaGreatDoor.tk Go.Proofs.YthdkbjbhjfiaiaaGreatDoor.ue
set_option linter.unusedVariables false
set_option maxRecDepth 4000

-- words
def pl (b : Int) : Bool := decide (33 ≤ b) && decide (b ≤ 126) && !(b == 37)
def escB (b : Int) : List Int := if pl b = true then [b] else [37, sg AUP (b / 16), sg AUP (b % 16)]
def escR (l : List Int) : List Int := l.flatMap escB
def escL (l : List Int) : List Int := if l = [] then [37] else escR l
theorem pl37 : pl 37 = false := by decide
theorem pl_in (b : Int) (h : pl b = true) : 33 ≤ b ∧ b ≤ 126 ∧ b ≠ 37 := by
  unfold pl at h
  simp at h
  exact ⟨h.1.1, h.1.2, h.2⟩
theorem escR_snoc (l : List Int) (b : Int) : escR (l ++ [b]) = escR l ++ escB b := by simp [escR]
theorem escR_app (a b : List Int) : escR (a ++ b) = escR a ++ escR b := by simp [escR]
theorem escR_cons (b : Int) (l : List Int) : escR (b :: l) = escB b ++ escR l := by simp [escR]
theorem escB_length (b : Int) : 1 ≤ (escB b).length ∧ (escB b).length ≤ 3 := by unfold escB; split <;> simp
theorem escR_length (l : List Int) : l.length ≤ (escR l).length ∧ (escR l).length ≤ 3 * l.length := by
  induction l with
  | nil => simp [escR]
  | cons b l ih =>
    have := escB_length b
    rw [escR_cons, List.length_append, List.length_cons]
    omega
theorem escB_in (b : Int) (h : 0 ≤ b ∧ b < 256) : In 256 (escB b) := by
  intro x hx
  unfold escB at hx
  split at hx
  · rw [List.mem_singleton.1 hx]; exact h
  · simp only [List.mem_cons, List.not_mem_nil, or_false] at hx
    rcases hx with rfl | rfl | rfl
    · omega
    · exact aup.sg_in _ (by omega) (by omega)
    · exact aup.sg_in _ (by omega) (by omega)
theorem escR_in (l : List Int) (h : In 256 l) : In 256 (escR l) := by
  intro x hx
  obtain ⟨b, hb, hx⟩ := List.mem_flatMap.1 hx
  exact escB_in b (h b hb) x hx
theorem escL_in (l : List Int) (h : In 256 l) : In 256 (escL l) := by
  unfold escL
  split
  · intro x hx; rw [List.mem_singleton.1 hx]; omega
  · exact escR_in l h
-- a word's bytes: printed ones
theorem sgUP_pr : ∀ v : Nat, v < 16 → 33 ≤ sg AUP v ∧ sg AUP v ≤ 126 := by decide +kernel
theorem escB_pr (b : Int) (h : 0 ≤ b ∧ b < 256) : ∀ x ∈ escB b, 33 ≤ x ∧ x ≤ 126 := by
  intro x hx
  unfold escB at hx
  split at hx
  · rename_i hp
    rw [List.mem_singleton.1 hx]
    exact ⟨(pl_in b hp).1, (pl_in b hp).2.1⟩
  · simp only [List.mem_cons, List.not_mem_nil, or_false] at hx
    have h1 := sgUP_pr (b / 16).toNat (by omega)
    have h2 := sgUP_pr (b % 16).toNat (by omega)
    rw [Int.toNat_of_nonneg (by omega)] at h1 h2
    rcases hx with rfl | rfl | rfl
    · omega
    · exact h1
    · exact h2
theorem escR_pr (l : List Int) (h : In 256 l) : ∀ x ∈ escR l, 33 ≤ x ∧ x ≤ 126 := by
  intro x hx
  obtain ⟨b, hb, hx⟩ := List.mem_flatMap.1 hx
  exact escB_pr b (h b hb) x hx
theorem escL_pr (l : List Int) (h : In 256 l) : ∀ x ∈ escL l, 33 ≤ x ∧ x ≤ 126 := by
  unfold escL
  split
  · intro x hx; rw [List.mem_singleton.1 hx]; omega
  · exact escR_pr l h
theorem escL_ne (l : List Int) : escL l ≠ [] := by
  unfold escL
  split
  · simp
  · rename_i h
    intro e
    have := (escR_length l).1
    rw [e] at this
    exact h (List.length_eq_zero_iff.1 (by simpa using this))
theorem escL_app (a b : List Int) (ha : a ≠ []) (hb : b ≠ []) : escL (a ++ b) = escL a ++ escL b := by
  unfold escL
  rw [if_neg (by simp [ha]), if_neg ha, if_neg hb, escR_app]

-- reading, byte by byte: what is read, how many digits are awaited, the first digit
def ust (σ : List Int × Nat × Int) (b : Int) : Option (List Int × Nat × Int) :=
  if σ.2.1 = 2 then (if vl AUP b = 0 then none else some (σ.1, 1, vl AUP b - 1))
  else if σ.2.1 = 1 then (if vl AUP b = 0 then none else if pl (σ.2.2 * 16 + (vl AUP b - 1)) = true then none else some (σ.1 ++ [σ.2.2 * 16 + (vl AUP b - 1)], 0, 0))
  else if b = 37 then some (σ.1, 2, 0) else if pl b = true then some (σ.1 ++ [b], 0, 0) else none
def uf (σ : Option (List Int × Nat × Int)) (b : Int) : Option (List Int × Nat × Int) := σ.bind (ust · b)
def urunF (σ : Option (List Int × Nat × Int)) (l : List Int) : Option (List Int × Nat × Int) := l.foldl uf σ
def urun (l : List Int) : Option (List Int × Nat × Int) := urunF (some ([], 0, 0)) l
theorem urun_snoc (l : List Int) (b : Int) : urun (l ++ [b]) = (urun l).bind (ust · b) := by unfold urun urunF; rw [List.foldl_append]; rfl
theorem urunF_app (σ : Option (List Int × Nat × Int)) (a b : List Int) : urunF σ (a ++ b) = urunF (urunF σ a) b := by unfold urunF; rw [List.foldl_append]
theorem urunF_none (l : List Int) : urunF none l = none := by
  induction l with
  | nil => rfl
  | cons b l ih => exact ih
theorem urun_escB (out : List Int) (b : Int) (h : 0 ≤ b ∧ b < 256) : urunF (some (out, 0, 0)) (escB b) = some (out ++ [b], 0, 0) := by
  unfold escB
  by_cases hp : pl b = true
  · rw [if_pos hp]
    have h3 := pl_in b hp
    simp [urunF, uf, ust, hp, h3.2.2]
  · rw [if_neg hp]
    have e1 := aup.vl_sg (b / 16) (by omega) (by omega)
    have e2 := aup.vl_sg (b % 16) (by omega) (by omega)
    have z1 : ¬ (b / 16 + 1 = 0) := by omega
    have z2 : ¬ (b % 16 + 1 = 0) := by omega
    have e3 : b / 16 * 16 + b % 16 = b := by omega
    have hp' : pl b = false := by simpa using hp
    simp [urunF, uf, ust, e1, e2, z1, z2, e3, hp']
theorem urun_escR (l : List Int) (h : In 256 l) : ∀ out, urunF (some (out, 0, 0)) (escR l) = some (out ++ l, 0, 0) := by
  induction l with
  | nil => intro out; simp [escR, urunF]
  | cons b l ih =>
    intro out
    rw [escR_cons, urunF_app, urun_escB out b h.head, ih h.tail]
    simp
-- what was read up to here is what was written
def pend (σ : List Int × Nat × Int) : List Int := if σ.2.1 = 2 then [37] else if σ.2.1 = 1 then [37, sg AUP σ.2.2] else []
structure UInv (l : List Int) (σ : List Int × Nat × Int) : Prop where
  eq : l = escR σ.1 ++ pend σ
  inn : In 256 σ.1
  aw : σ.2.1 ≤ 2
  d : 0 ≤ σ.2.2 ∧ σ.2.2 < 16
  len : σ.1.length ≤ l.length
theorem ust_inv (l : List Int) (σ σ' : List Int × Nat × Int) (b : Int) (hb : 0 ≤ b ∧ b < 256) (i : UInv l σ) (h : ust σ b = some σ') : UInv (l ++ [b]) σ' := by
  obtain ⟨out, a, d⟩ := σ
  have he := i.eq; have hi := i.inn; have ha := i.aw; have hd := i.d; have hln := i.len
  simp only [] at he hi ha hd hln
  unfold ust at h
  simp only [] at h
  by_cases h2 : a = 2
  · rw [if_pos h2] at h
    by_cases hv : vl AUP b = 0
    · rw [if_pos hv] at h; cases h
    · rw [if_neg hv] at h
      obtain rfl := Option.some.inj h
      obtain ⟨s1, s2, s3⟩ := aup.sg_vl b hb hv
      refine ⟨?_, hi, by simp, ⟨s2, s3⟩, by simp; omega⟩
      simp only [pend, s1]
      rw [he]
      simp [pend, h2]
  · rw [if_neg h2] at h
    by_cases h1 : a = 1
    · rw [if_pos h1] at h
      by_cases hv : vl AUP b = 0
      · rw [if_pos hv] at h; cases h
      · rw [if_neg hv] at h
        by_cases hp : pl (d * 16 + (vl AUP b - 1)) = true
        · rw [if_pos hp] at h; cases h
        · rw [if_neg hp] at h
          obtain rfl := Option.some.inj h
          obtain ⟨s1, s2, s3⟩ := aup.sg_vl b hb hv
          refine ⟨?_, hi.app (fun x hx => by rw [List.mem_singleton.1 hx]; omega), by simp, ⟨by simp, by simp⟩, by simp; omega⟩
          rw [he]
          have q1 : (d * 16 + (vl AUP b - 1)) / 16 = d := by omega
          have q2 : (d * 16 + (vl AUP b - 1)) % 16 = vl AUP b - 1 := by omega
          simp only [pend, escR_snoc]
          rw [escB, if_neg hp, q1, q2, s1]
          simp [h1]
    · rw [if_neg h1] at h
      have h0 : a = 0 := by omega
      by_cases h37 : b = 37
      · rw [if_pos h37] at h
        obtain rfl := Option.some.inj h
        refine ⟨?_, hi, by simp, ⟨by simp, by simp⟩, by simp; omega⟩
        rw [he, h37]
        simp [pend, h0]
      · rw [if_neg h37] at h
        by_cases hp : pl b = true
        · rw [if_pos hp] at h
          obtain rfl := Option.some.inj h
          refine ⟨?_, hi.app (fun x hx => by rw [List.mem_singleton.1 hx]; exact hb), by simp, ⟨by simp, by simp⟩, by simp; omega⟩
          rw [he]
          simp only [pend, escR_snoc]
          rw [escB, if_pos hp]
          simp [h0]
        · rw [if_neg hp] at h; cases h
theorem urun_inv (s : ByteArray) (k : Nat) (σ : List Int × Nat × Int) (h : urun (btL s k) = some σ) : UInv (btL s k) σ := by
  induction k generalizing σ with
  | zero =>
    have : σ = ([], 0, 0) := by have := Option.some.inj h; rw [← this]
    subst this
    exact ⟨by simp [btL, escR, pend], fun x hx => by simp at hx, by simp, by simp, by simp⟩
  | succ k ih =>
    rw [btL_succ, urun_snoc] at h
    cases hu : urun (btL s k) with
    | none => rw [hu] at h; cases h
    | some τ =>
      rw [hu] at h
      rw [btL_succ]
      have b0 := bt_nonneg s k
      have b1 := bt_le s k
      exact ust_inv _ τ σ _ ⟨b0, by omega⟩ (ih τ hu) h
theorem urun_stop (s : ByteArray) (k : Nat) (hk : k ≤ s.size) (h : urun (btL s k) = none) : urun (bs s) = none := by
  have e : bs s = btL s k ++ (bs s).drop k := by
    conv => lhs; rw [← List.take_append_drop k (bs s)]
    congr 1
    exact btL_take s _ _ hk
  rw [e]
  unfold urun at h ⊢
  rw [urunF_app, h, urunF_none]

-- what Unescape answers
def unP (l : List Int) : Option (List Int) := if l = [37] then some [] else match urun l with
  | some (out, 0, _) => if out = [] then none else some out
  | _ => none
def unV (s : ByteArray) : Value := match unP (bs s) with
  | some x => readV x
  | none => failV 44
theorem unP_there (x : List Int) (h : In 256 x) : unP (escL x) = some x := by
  unfold unP escL
  by_cases hx : x = []
  · subst hx; rfl
  · rw [if_neg hx]
    have hu := urun_escR x h []
    rw [List.nil_append] at hu
    have h37 : escR x ≠ [37] := by
      intro e
      rw [e] at hu
      have e2 : urunF (some ([], 0, 0)) [37] = some ([], 2, 0) := by decide +kernel
      rw [e2] at hu
      have := Option.some.inj hu
      have := congrArg (fun σ => σ.2.1) this
      simp at this
    rw [if_neg h37]
    unfold urun
    rw [hu]
    simp [hx]
theorem unP_back (s : ByteArray) (x : List Int) (h : unP (bs s) = some x) : escL x = bs s ∧ In 256 x ∧ x.length ≤ s.size := by
  unfold unP at h
  by_cases h37 : bs s = [37]
  · rw [if_pos h37] at h
    obtain rfl := Option.some.inj h
    exact ⟨h37.symm, fun x hx => by simp at hx, by simp⟩
  · rw [if_neg h37] at h
    cases hu : urun (bs s) with
    | none => rw [hu] at h; cases h
    | some σ =>
      obtain ⟨out, a, d⟩ := σ
      rw [hu] at h
      have iv := urun_inv s s.size _ hu
      cases a with
      | zero =>
        simp only [] at h
        by_cases ho : out = []
        · rw [if_pos ho] at h; cases h
        · rw [if_neg ho] at h
          obtain rfl := Option.some.inj h
          refine ⟨?_, iv.inn, ?_⟩
          · have := iv.eq
            simp [pend] at this
            unfold escL
            rw [if_neg ho]
            exact this.symm
          · have := iv.len
            rw [btL_length] at this
            exact this
      | succ a => cases h
end Go.Proofs.YthdkbjbhjfiaiaaGreatDoor.ub

namespace Go.Proofs.YthdkbjbhjfiaiaaGreatDoor.uc
open Go.RowKit Go.PlainAid
open Go.Proofs.YthdkbjbhjfiaiaaGreatDoor.ta Go.Proofs.YthdkbjbhjfiaiaaGreatDoor.tb Go.Proofs.YthdkbjbhjfiaiaaGreatDoor.tc Go.Proofs.YthdkbjbhjfiaiaaGreatDoor.td Go.Proofs.YthdkbjbhjfiaiaaGreatDoor.te Go.Proofs.YthdkbjbhjfiaiaaGreatDoor.tf Go.Proofs.YthdkbjbhjfiaiaaGreatDoor.tg Go.Proofs.YthdkbjbhjfiaiaaGreatDoor.th Go.Proofs.YthdkbjbhjfiaiaaGreatDoor.ti Go.Proofs.YthdkbjbhjfiaiaaGreatDoor.tj Go.Proofs.YthdkbjbhjfiaiaaGreatDoor.tk Go.Proofs.YthdkbjbhjfiaiaaGreatDoor.ue Go.Proofs.YthdkbjbhjfiaiaaGreatDoor.ub
set_option linter.unusedVariables false
set_option maxRecDepth 4000

def pr (b : Int) : Bool := decide (33 ≤ b) && decide (b ≤ 126)
theorem pl_pr (b : Int) : pl b = (pr b && !(b == 37)) := rfl
set_option maxHeartbeats 400000 in
theorem printed (b : Int) (w : World) : Calls Tryz.prog 87 #[.int .u8 b] w fun e w' => e = .returned (.bool (pr b)) ∧ w' = w := by
  by_cases h1 : 33 ≤ b
  · by_cases h2 : b ≤ 126
    · have HE : Hid (pr b = true) := by show _ = _; simp [pr, h1, h2]
      rw [HE.out]
      go_enter Tryz.func87, Tryz.ntmps87
      go_wp2
      go_ret
      exact ⟨rfl, rfl⟩
    · have HE : Hid (pr b = false) := by show _ = _; simp [pr, h2]
      rw [HE.out]
      go_enter Tryz.func87, Tryz.ntmps87
      go_wp2
      go_ret
      exact ⟨rfl, rfl⟩
  · have HE : Hid (pr b = false) := by show _ = _; simp [pr, h1]
    rw [HE.out]
    go_enter Tryz.func87, Tryz.ntmps87
    go_wp2
    go_ret
    exact ⟨rfl, rfl⟩
theorem flush84 (b : Int) (h : 0 ≤ b ∧ b < 256) : flush 4 (0 + 8) (0 * 2 ^ 8 + b) (0 + 8) = ([b / 16, b % 16], 0, 0) := by
  have := stp84 [] b h
  simpa [stp, Prod.ext_iff] using this
section
variable {w0 : World} {B bo C bh bc : Nat} {cs : List (Nat × Obj)}
end

end Go.Proofs.YthdkbjbhjfiaiaaGreatDoor.uc
