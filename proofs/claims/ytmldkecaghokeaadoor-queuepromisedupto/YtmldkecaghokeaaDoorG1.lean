import Derived.Test.YtmldkecaghokeaaDoorTk
import Derived.Test.YtmldkecaghokeaaDoorSh
import Derived.Test.YtmldkecaghokeaaDoorTc
import Derived.Lib.IndexBytes
import Derived.Lib.SplitLaws
import Derived.Deep.WholeRow
namespace Go.Proofs.YtmldkecaghokeaaDoor.ue
open Go.RowKit Go.PlainAid
open Go.Proofs.YtmldkecaghokeaaDoor.ta Go.Proofs.YtmldkecaghokeaaDoor.tb Go.Proofs.YtmldkecaghokeaaDoor.tc Go.Proofs.YtmldkecaghokeaaDoor.td Go.Proofs.YtmldkecaghokeaaDoor.te Go.Proofs.YtmldkecaghokeaaDoor.tf Go.Proofs.YtmldkecaghokeaaDoor.tg Go.Proofs.YtmldkecaghokeaaDoor.th Go.Proofs.YtmldkecaghokeaaDoor.ti Go.Proofs.YtmldkecaghokeaaDoor.tj Go.Proofs.YtmldkecaghokeaaDoor.tk
set_option linter.unusedVariables false
set_option maxRecDepth 4000

section
variable {w0 : World} {B bo C bh bc : Nat} {cs : List (Nat × Obj)}
end
end Go.Proofs.YtmldkecaghokeaaDoor.ue

namespace Go.Proofs.YtmldkecaghokeaaDoor.ub
open Go.RowKit Go.PlainAid
open Go.Proofs.YtmldkecaghokeaaDoor.ta Go.Proofs.YtmldkecaghokeaaDoor.tb Go.Proofs.YtmldkecaghokeaaDoor.tc Go.Proofs.YtmldkecaghokeaaDoor.td Go.Proofs.YtmldkecaghokeaaDoor.te Go.Proofs.YtmldkecaghokeaaDoor.tf Go.Proofs.YtmldkecaghokeaaDoor.tg Go.Proofs.YtmldkecaghokeaaDoor.th Go.Proofs.YtmldkecaghokeaaDoor.ti Go.Proofs.YtmldkecaghokeaaDoor.tj Go.Proofs.YtmldkecaghokeaaDoor.tk Go.Proofs.YtmldkecaghokeaaDoor.ue
set_option linter.unusedVariables false
set_option maxRecDepth 4000

-- words
def pl (b : Int) : Bool := decide (33 ≤ b) && decide (b ≤ 126) && !(b == 37)
def escB (b : Int) : List Int := if pl b = true then [b] else [37, sg AUP (b / 16), sg AUP (b % 16)]
def escR (l : List Int) : List Int := l.flatMap escB
def escL (l : List Int) : List Int := if l = [] then [37] else escR l
theorem pl37 : pl 37 = false := by decide
theorem pl_in (b : Int) (h : pl b = true) : 33 ≤ b ∧ b ≤ 126 ∧ b ≠ 37 := by
  unfold pl at h
  simp at h
  exact ⟨h.1.1, h.1.2, h.2⟩
theorem escR_snoc (l : List Int) (b : Int) : escR (l ++ [b]) = escR l ++ escB b := by simp [escR]
theorem escR_app (a b : List Int) : escR (a ++ b) = escR a ++ escR b := by simp [escR]
theorem escR_cons (b : Int) (l : List Int) : escR (b :: l) = escB b ++ escR l := by simp [escR]
theorem escB_length (b : Int) : 1 ≤ (escB b).length ∧ (escB b).length ≤ 3 := by unfold escB; split <;> simp
theorem escR_length (l : List Int) : l.length ≤ (escR l).length ∧ (escR l).length ≤ 3 * l.length := by
  induction l with
  | nil => simp [escR]
  | cons b l ih =>
    have := escB_length b
    rw [escR_cons, List.length_append, List.length_cons]
    omega
theorem escB_in (b : Int) (h : 0 ≤ b ∧ b < 256) : In 256 (escB b) := by
  intro x hx
  unfold escB at hx
  split at hx
  · rw [List.mem_singleton.1 hx]; exact h
  · simp only [List.mem_cons, List.not_mem_nil, or_false] at hx
    rcases hx with rfl | rfl | rfl
    · omega
    · exact aup.sg_in _ (by omega) (by omega)
    · exact aup.sg_in _ (by omega) (by omega)
theorem escR_in (l : List Int) (h : In 256 l) : In 256 (escR l) := by
  intro x hx
  obtain ⟨b, hb, hx⟩ := List.mem_flatMap.1 hx
  exact escB_in b (h b hb) x hx
theorem escL_in (l : List Int) (h : In 256 l) : In 256 (escL l) := by
  unfold escL
  split
  · intro x hx; rw [List.mem_singleton.1 hx]; omega
  · exact escR_in l h
-- a word's bytes: printed ones
theorem sgUP_pr : ∀ v : Nat, v < 16 → 33 ≤ sg AUP v ∧ sg AUP v ≤ 126 := by decide +kernel
theorem escB_pr (b : Int) (h : 0 ≤ b ∧ b < 256) : ∀ x ∈ escB b, 33 ≤ x ∧ x ≤ 126 := by
  intro x hx
  unfold escB at hx
  split at hx
  · rename_i hp
    rw [List.mem_singleton.1 hx]
    exact ⟨(pl_in b hp).1, (pl_in b hp).2.1⟩
  · simp only [List.mem_cons, List.not_mem_nil, or_false] at hx
    have h1 := sgUP_pr (b / 16).toNat (by omega)
    have h2 := sgUP_pr (b % 16).toNat (by omega)
    rw [Int.toNat_of_nonneg (by omega)] at h1 h2
    rcases hx with rfl | rfl | rfl
    · omega
    · exact h1
    · exact h2
theorem escR_pr (l : List Int) (h : In 256 l) : ∀ x ∈ escR l, 33 ≤ x ∧ x ≤ 126 := by
  intro x hx
  obtain ⟨b, hb, hx⟩ := List.mem_flatMap.1 hx
  exact escB_pr b (h b hb) x hx
theorem escL_pr (l : List Int) (h : In 256 l) : ∀ x ∈ escL l, 33 ≤ x ∧ x ≤ 126 := by
  unfold escL
  split
  · intro x hx; rw [List.mem_singleton.1 hx]; omega
  · exact escR_pr l h
theorem escL_ne (l : List Int) : escL l ≠ [] := by
  unfold escL
  split
  · simp
  · rename_i h
    intro e
    have := (escR_length l).1
    rw [e] at this
    exact h (List.length_eq_zero_iff.1 (by simpa using this))
theorem escL_app (a b : List Int) (ha : a ≠ []) (hb : b ≠ []) : escL (a ++ b) = escL a ++ escL b := by
  unfold escL
  rw [if_neg (by simp [ha]), if_neg ha, if_neg hb, escR_app]

-- reading, byte by byte: what is read, how many digits are awaited, the first digit
def ust (σ : List Int × Nat × Int) (b : Int) : Option (List Int × Nat × Int) :=
  if σ.2.1 = 2 then (if vl AUP b = 0 then none else some (σ.1, 1, vl AUP b - 1))
  else if σ.2.1 = 1 then (if vl AUP b = 0 then none else if pl (σ.2.2 * 16 + (vl AUP b - 1)) = true then none else some (σ.1 ++ [σ.2.2 * 16 + (vl AUP b - 1)], 0, 0))
  else if b = 37 then some (σ.1, 2, 0) else if pl b = true then some (σ.1 ++ [b], 0, 0) else none
def uf (σ : Option (List Int × Nat × Int)) (b : Int) : Option (List Int × Nat × Int) := σ.bind (ust · b)
def urunF (σ : Option (List Int × Nat × Int)) (l : List Int) : Option (List Int × Nat × Int) := l.foldl uf σ
def urun (l : List Int) : Option (List Int × Nat × Int) := urunF (some ([], 0, 0)) l
theorem urun_snoc (l : List Int) (b : Int) : urun (l ++ [b]) = (urun l).bind (ust · b) := by unfold urun urunF; rw [List.foldl_append]; rfl
theorem urunF_app (σ : Option (List Int × Nat × Int)) (a b : List Int) : urunF σ (a ++ b) = urunF (urunF σ a) b := by unfold urunF; rw [List.foldl_append]
theorem urunF_none (l : List Int) : urunF none l = none := by
  induction l with
  | nil => rfl
  | cons b l ih => exact ih
theorem urun_escB (out : List Int) (b : Int) (h : 0 ≤ b ∧ b < 256) : urunF (some (out, 0, 0)) (escB b) = some (out ++ [b], 0, 0) := by
  unfold escB
  by_cases hp : pl b = true
  · rw [if_pos hp]
    have h3 := pl_in b hp
    simp [urunF, uf, ust, hp, h3.2.2]
  · rw [if_neg hp]
    have e1 := aup.vl_sg (b / 16) (by omega) (by omega)
    have e2 := aup.vl_sg (b % 16) (by omega) (by omega)
    have z1 : ¬ (b / 16 + 1 = 0) := by omega
    have z2 : ¬ (b % 16 + 1 = 0) := by omega
    have e3 : b / 16 * 16 + b % 16 = b := by omega
    have hp' : pl b = false := by simpa using hp
    simp [urunF, uf, ust, e1, e2, z1, z2, e3, hp']
theorem urun_escR (l : List Int) (h : In 256 l) : ∀ out, urunF (some (out, 0, 0)) (escR l) = some (out ++ l, 0, 0) := by
  induction l with
  | nil => intro out; simp [escR, urunF]
  | cons b l ih =>
    intro out
    rw [escR_cons, urunF_app, urun_escB out b h.head, ih h.tail]
    simp
-- what was read up to here is what was written
def pend (σ : List Int × Nat × Int) : List Int := if σ.2.1 = 2 then [37] else if σ.2.1 = 1 then [37, sg AUP σ.2.2] else []
structure UInv (l : List Int) (σ : List Int × Nat × Int) : Prop where
  eq : l = escR σ.1 ++ pend σ
  inn : In 256 σ.1
  aw : σ.2.1 ≤ 2
  d : 0 ≤ σ.2.2 ∧ σ.2.2 < 16
  len : σ.1.length ≤ l.length
theorem ust_inv (l : List Int) (σ σ' : List Int × Nat × Int) (b : Int) (hb : 0 ≤ b ∧ b < 256) (i : UInv l σ) (h : ust σ b = some σ') : UInv (l ++ [b]) σ' := by
  obtain ⟨out, a, d⟩ := σ
  have he := i.eq; have hi := i.inn; have ha := i.aw; have hd := i.d; have hln := i.len
  simp only [] at he hi ha hd hln
  unfold ust at h
  simp only [] at h
  by_cases h2 : a = 2
  · rw [if_pos h2] at h
    by_cases hv : vl AUP b = 0
    · rw [if_pos hv] at h; cases h
    · rw [if_neg hv] at h
      obtain rfl := Option.some.inj h
      obtain ⟨s1, s2, s3⟩ := aup.sg_vl b hb hv
      refine ⟨?_, hi, by simp, ⟨s2, s3⟩, by simp; omega⟩
      simp only [pend, s1]
      rw [he]
      simp [pend, h2]
  · rw [if_neg h2] at h
    by_cases h1 : a = 1
    · rw [if_pos h1] at h
      by_cases hv : vl AUP b = 0
      · rw [if_pos hv] at h; cases h
      · rw [if_neg hv] at h
        by_cases hp : pl (d * 16 + (vl AUP b - 1)) = true
        · rw [if_pos hp] at h; cases h
        · rw [if_neg hp] at h
          obtain rfl := Option.some.inj h
          obtain ⟨s1, s2, s3⟩ := aup.sg_vl b hb hv
          refine ⟨?_, hi.app (fun x hx => by rw [List.mem_singleton.1 hx]; omega), by simp, ⟨by simp, by simp⟩, by simp; omega⟩
          rw [he]
          have q1 : (d * 16 + (vl AUP b - 1)) / 16 = d := by omega
          have q2 : (d * 16 + (vl AUP b - 1)) % 16 = vl AUP b - 1 := by omega
          simp only [pend, escR_snoc]
          rw [escB, if_neg hp, q1, q2, s1]
          simp [h1]
    · rw [if_neg h1] at h
      have h0 : a = 0 := by omega
      by_cases h37 : b = 37
      · rw [if_pos h37] at h
        obtain rfl := Option.some.inj h
        refine ⟨?_, hi, by simp, ⟨by simp, by simp⟩, by simp; omega⟩
        rw [he, h37]
        simp [pend, h0]
      · rw [if_neg h37] at h
        by_cases hp : pl b = true
        · rw [if_pos hp] at h
          obtain rfl := Option.some.inj h
          refine ⟨?_, hi.app (fun x hx => by rw [List.mem_singleton.1 hx]; exact hb), by simp, ⟨by simp, by simp⟩, by simp; omega⟩
          rw [he]
          simp only [pend, escR_snoc]
          rw [escB, if_pos hp]
          simp [h0]
        · rw [if_neg hp] at h; cases h
theorem urun_inv (s : ByteArray) (k : Nat) (σ : List Int × Nat × Int) (h : urun (btL s k) = some σ) : UInv (btL s k) σ := by
  induction k generalizing σ with
  | zero =>
    have : σ = ([], 0, 0) := by have := Option.some.inj h; rw [← this]
    subst this
    exact ⟨by simp [btL, escR, pend], fun x hx => by simp at hx, by simp, by simp, by simp⟩
  | succ k ih =>
    rw [btL_succ, urun_snoc] at h
    cases hu : urun (btL s k) with
    | none => rw [hu] at h; cases h
    | some τ =>
      rw [hu] at h
      rw [btL_succ]
      have b0 := bt_nonneg s k
      have b1 := bt_le s k
      exact ust_inv _ τ σ _ ⟨b0, by omega⟩ (ih τ hu) h
theorem urun_stop (s : ByteArray) (k : Nat) (hk : k ≤ s.size) (h : urun (btL s k) = none) : urun (bs s) = none := by
  have e : bs s = btL s k ++ (bs s).drop k := by
    conv => lhs; rw [← List.take_append_drop k (bs s)]
    congr 1
    exact btL_take s _ _ hk
  rw [e]
  unfold urun at h ⊢
  rw [urunF_app, h, urunF_none]

-- what Unescape answers
def unP (l : List Int) : Option (List Int) := if l = [37] then some [] else match urun l with
  | some (out, 0, _) => if out = [] then none else some out
  | _ => none
def unV (s : ByteArray) : Value := match unP (bs s) with
  | some x => readV x
  | none => failV 44
theorem unP_there (x : List Int) (h : In 256 x) : unP (escL x) = some x := by
  unfold unP escL
  by_cases hx : x = []
  · subst hx; rfl
  · rw [if_neg hx]
    have hu := urun_escR x h []
    rw [List.nil_append] at hu
    have h37 : escR x ≠ [37] := by
      intro e
      rw [e] at hu
      have e2 : urunF (some ([], 0, 0)) [37] = some ([], 2, 0) := by decide +kernel
      rw [e2] at hu
      have := Option.some.inj hu
      have := congrArg (fun σ => σ.2.1) this
      simp at this
    rw [if_neg h37]
    unfold urun
    rw [hu]
    simp [hx]
theorem unP_back (s : ByteArray) (x : List Int) (h : unP (bs s) = some x) : escL x = bs s ∧ In 256 x ∧ x.length ≤ s.size := by
  unfold unP at h
  by_cases h37 : bs s = [37]
  · rw [if_pos h37] at h
    obtain rfl := Option.some.inj h
    exact ⟨h37.symm, fun x hx => by simp at hx, by simp⟩
  · rw [if_neg h37] at h
    cases hu : urun (bs s) with
    | none => rw [hu] at h; cases h
    | some σ =>
      obtain ⟨out, a, d⟩ := σ
      rw [hu] at h
      have iv := urun_inv s s.size _ hu
      cases a with
      | zero =>
        simp only [] at h
        by_cases ho : out = []
        · rw [if_pos ho] at h; cases h
        · rw [if_neg ho] at h
          obtain rfl := Option.some.inj h
          refine ⟨?_, iv.inn, ?_⟩
          · have := iv.eq
            simp [pend] at this
            unfold escL
            rw [if_neg ho]
            exact this.symm
          · have := iv.len
            rw [btL_length] at this
            exact this
      | succ a => cases h
end Go.Proofs.YtmldkecaghokeaaDoor.ub

namespace Go.Proofs.YtmldkecaghokeaaDoor.uc
open Go.RowKit Go.PlainAid
open Go.Proofs.YtmldkecaghokeaaDoor.ta Go.Proofs.YtmldkecaghokeaaDoor.tb Go.Proofs.YtmldkecaghokeaaDoor.tc Go.Proofs.YtmldkecaghokeaaDoor.td Go.Proofs.YtmldkecaghokeaaDoor.te Go.Proofs.YtmldkecaghokeaaDoor.tf Go.Proofs.YtmldkecaghokeaaDoor.tg Go.Proofs.YtmldkecaghokeaaDoor.th Go.Proofs.YtmldkecaghokeaaDoor.ti Go.Proofs.YtmldkecaghokeaaDoor.tj Go.Proofs.YtmldkecaghokeaaDoor.tk Go.Proofs.YtmldkecaghokeaaDoor.ue Go.Proofs.YtmldkecaghokeaaDoor.ub
set_option linter.unusedVariables false
set_option maxRecDepth 4000

def pr (b : Int) : Bool := decide (33 ≤ b) && decide (b ≤ 126)
theorem pl_pr (b : Int) : pl b = (pr b && !(b == 37)) := rfl
theorem flush84 (b : Int) (h : 0 ≤ b ∧ b < 256) : flush 4 (0 + 8) (0 * 2 ^ 8 + b) (0 + 8) = ([b / 16, b % 16], 0, 0) := by
  have := stp84 [] b h
  simpa [stp, Prod.ext_iff] using this
section
variable {w0 : World} {B bo C bh bc : Nat} {cs : List (Nat × Obj)}
end

end Go.Proofs.YtmldkecaghokeaaDoor.uc

namespace Go.Proofs.YtmldkecaghokeaaDoor.ud
open Go.RowKit Go.PlainAid
open Go.Proofs.YtmldkecaghokeaaDoor.ta Go.Proofs.YtmldkecaghokeaaDoor.tb Go.Proofs.YtmldkecaghokeaaDoor.tc Go.Proofs.YtmldkecaghokeaaDoor.td Go.Proofs.YtmldkecaghokeaaDoor.te Go.Proofs.YtmldkecaghokeaaDoor.tf Go.Proofs.YtmldkecaghokeaaDoor.tg Go.Proofs.YtmldkecaghokeaaDoor.th Go.Proofs.YtmldkecaghokeaaDoor.ti Go.Proofs.YtmldkecaghokeaaDoor.tj Go.Proofs.YtmldkecaghokeaaDoor.tk Go.Proofs.YtmldkecaghokeaaDoor.ue Go.Proofs.YtmldkecaghokeaaDoor.ub Go.Proofs.YtmldkecaghokeaaDoor.uc
set_option linter.unusedVariables false
set_option maxRecDepth 4000

theorem flush48a (v : Int) : flush 8 (0 + 4) (0 * 2 ^ 4 + v) (0 + 4) = ([], v, 4) := by simp [flush]
theorem flush48b (d v : Int) : flush 8 (4 + 4) (d * 2 ^ 4 + v) (4 + 4) = ([d * 16 + v], 0, 0) := by simp [flush]

section
variable {w0 : World} {B bo C bh bc : Nat} {cs : List (Nat × Obj)}
def hU (σ : List Int × Nat × Int) : Int := if σ.2.1 = 1 then σ.2.2 else 0
def cU (σ : List Int × Nat × Int) : Nat := if σ.2.1 = 1 then 4 else 0
def StU (w0 : World) (B bo C bh bc ba : Nat) (cs : List (Nat × Obj)) (σ : List Int × Nat × Int) (w : World) : Prop := St w0 B bo C bh bc ((ba, bx 3 (.int .i64 (σ.2.1 : Nat))) :: cs) σ.1 (hU σ) (cU σ : Nat) w
def Post (w0 : World) (B bo C bh bc ba : Nat) (cs : List (Nat × Obj)) (o : Option (List Int × Nat × Int)) (e : Ending) (w' : World) : Prop :=
  (∃ σ, o = some σ ∧ e = .returned (.bool true) ∧ StU w0 B bo C bh bc ba cs σ w') ∨ (o = none ∧ e = .returned (.bool false) ∧ Below B w0 w')

end

theorem bs_37 : bs (⟨#[37]⟩ : ByteArray) = [37] := by decide +kernel
theorem readV_nil : readV [] = .tuple #[.string ByteArray.empty, .int .i64 0] := rfl

end Go.Proofs.YtmldkecaghokeaaDoor.ud

namespace Go.Proofs.YtmldkecaghokeaaDoor.va
open Go.RowKit Go.PlainAid
open Go.Proofs.YtmldkecaghokeaaDoor.ta Go.Proofs.YtmldkecaghokeaaDoor.tb Go.Proofs.YtmldkecaghokeaaDoor.tc Go.Proofs.YtmldkecaghokeaaDoor.sh
set_option linter.unusedVariables false
set_option maxRecDepth 4000

-- the pieces between the bytes c
def parts (c : Int) : List Int → List (List Int)
  | [] => [[]]
  | b :: r => if b = c then [] :: parts c r else match parts c r with
    | p :: ps => (b :: p) :: ps
    | [] => [[b]]
theorem parts_ne (c : Int) (l : List Int) : parts c l ≠ [] := by
  cases l with
  | nil => simp [parts]
  | cons b r =>
    unfold parts
    split
    · simp
    · split <;> simp
theorem parts_none (c : Int) (l : List Int) (h : ∀ x ∈ l, x ≠ c) : parts c l = [l] := by
  induction l with
  | nil => rfl
  | cons b r ih =>
    unfold parts
    rw [if_neg (h b List.mem_cons_self), ih (fun x hx => h x (List.mem_cons_of_mem _ hx))]
theorem parts_at (c : Int) (a r : List Int) (h : ∀ x ∈ a, x ≠ c) : parts c (a ++ c :: r) = a :: parts c r := by
  induction a with
  | nil => simp [parts]
  | cons b a ih =>
    rw [List.cons_append, parts, if_neg (h b List.mem_cons_self), ih (fun x hx => h x (List.mem_cons_of_mem _ hx))]
theorem parts_length (c : Int) (l : List Int) : (parts c l).length = l.count c + 1 := by
  induction l with
  | nil => rfl
  | cons b r ih =>
    unfold parts
    by_cases h : b = c
    · rw [if_pos h, List.length_cons, ih, h, List.count_cons_self]
    · rw [if_neg h, List.count_cons_of_ne (by simpa using h)]
      split
      · rename_i p ps he
        rw [he] at ih
        simpa using ih
      · rename_i he
        exact absurd he (parts_ne c r)
theorem parts_in (c : Int) (l : List Int) (h : In 256 l) : ∀ p ∈ parts c l, In 256 p := by
  induction l with
  | nil => intro p hp; simp [parts] at hp; subst hp; intro x hx; simp at hx
  | cons b r ih =>
    have ih' := ih h.tail
    intro p hp
    unfold parts at hp
    split at hp
    · rcases List.mem_cons.1 hp with rfl | hp
      · intro x hx; simp at hx
      · exact ih' p hp
    · split at hp
      · rename_i q ps he
        rcases List.mem_cons.1 hp with rfl | hp
        · intro x hx
          rcases List.mem_cons.1 hx with rfl | hx
          · exact h.head
          · exact ih' q (by rw [he]; exact List.mem_cons_self) x hx
        · exact ih' p (by rw [he]; exact List.mem_cons_of_mem _ hp)
      · rw [List.mem_singleton.1 hp]; intro x hx; rw [List.mem_singleton.1 hx]; exact h.head

-- bytes of a text as the library's own
theorem bs_data (s : ByteArray) : bs s = s.data.toList.map fun b => (b.toNat : Int) := by
  apply List.ext_getElem
  · rw [bs_length, List.length_map, Array.length_toList]; rfl
  · intro j h1 h2
    rw [bs_length] at h1
    rw [bs_get s j h1, List.getElem_map, ← get_bt s j h1]
    rfl
theorem idx_cases (s : ByteArray) (c : UInt8) : (Lib.indexByte s.data.toList c = -1 ∧ ∀ x ∈ bs s, x ≠ (c.toNat : Int)) ∨
    (∃ o : Nat, Lib.indexByte s.data.toList c = o ∧ o < s.size ∧ bs s = (bs s).take o ++ (c.toNat : Int) :: (bs s).drop (o + 1) ∧ ∀ x ∈ (bs s).take o, x ≠ (c.toNat : Int)) := by
  rcases (by omega : Lib.indexByte s.data.toList c < 0 ∨ 0 ≤ Lib.indexByte s.data.toList c) with h | h
  · have h1 := Lib.indexByte_ge s.data.toList c
    have he : Lib.indexByte s.data.toList c = -1 := by omega
    refine .inl ⟨he, fun x hx e => ?_⟩
    rw [bs_data] at hx
    obtain ⟨b, hb, rfl⟩ := List.mem_map.1 hx
    obtain ⟨k, hk, hkb⟩ := List.getElem_of_mem hb
    have hn := Lib.indexByte_none he k
    rw [List.getElem?_eq_getElem hk, hkb] at hn
    have hbc : b = c := UInt8.toNat_inj.1 (by omega)
    exact hn (by rw [hbc])
  · obtain ⟨o, ho⟩ := Int.eq_ofNat_of_zero_le h
    obtain ⟨h1, h2⟩ := Lib.indexByte_some ho
    have hlt : o < s.data.toList.length := (List.getElem?_eq_some_iff.1 h1).1
    have hsz : s.data.toList.length = s.size := Array.length_toList
    have hb : bs s = (bs s).take o ++ (c.toNat : Int) :: (bs s).drop (o + 1) := by
      conv => lhs; rw [← List.take_append_drop o (bs s)]
      congr 1
      rw [List.drop_eq_getElem_cons (by rw [bs_length]; omega)]
      congr 1
      rw [bs_get s o (by omega), ← get_bt s o (by omega)]
      have := (List.getElem?_eq_some_iff.1 h1).2
      rw [← this]
      rfl
    refine .inr ⟨o, ho, by omega, hb, fun x hx e => ?_⟩
    rw [bs_data, ← List.map_take] at hx
    obtain ⟨b, hb', rfl⟩ := List.mem_map.1 hx
    obtain ⟨k, hk, hkb⟩ := List.getElem_of_mem hb'
    rw [List.length_take] at hk
    have hn := h2 k (by omega)
    rw [List.getElem_take] at hkb
    rw [List.getElem?_eq_getElem (by omega), hkb] at hn
    have hbc : b = c := UInt8.toNat_inj.1 (by omega)
    exact hn (by rw [hbc])
theorem indexB_one (s : ByteArray) (c : UInt8) : Lib.indexB s ⟨#[c]⟩ = Lib.indexByte s.data.toList c := Lib.index_one _ _
theorem count_one (s : ByteArray) (c : UInt8) : Lib.countB s ⟨#[c]⟩ = (bs s).count (c.toNat : Int) := by
  show Lib.count s.data.toList [c] = _
  rw [Lib.count_one, bs_data]
  show s.data.toList.count c = _
  rw [List.count_eq_countP, List.count_eq_countP, List.countP_map]
  apply List.countP_congr
  intro x _
  simp only [Function.comp, beq_iff_eq]
  constructor
  · intro h; rw [h]
  · intro h; exact UInt8.toNat_inj.1 (by omega)
theorem split_parts (c : UInt8) (n : Nat) : ∀ s : ByteArray, (bs s).count (c.toNat : Int) = n → (Lib.splitB ⟨#[c]⟩ 0 n s).map bs = parts (c.toNat : Int) (bs s) := by
  induction n with
  | zero =>
    intro s hn
    have h : ∀ x ∈ bs s, x ≠ (c.toNat : Int) := fun x hx e => by
      have := List.count_pos_iff.2 (e ▸ hx)
      omega
    rw [parts_none _ _ h]
    rfl
  | succ n ih =>
    intro s hn
    rcases idx_cases s c with ⟨hi, h⟩ | ⟨o, hi, ho, hb, h⟩
    · have : (bs s).count (c.toNat : Int) = 0 := List.count_eq_zero.2 (fun hm => h _ hm rfl)
      omega
    · have hz : (⟨#[c]⟩ : ByteArray).size = 1 := rfl
      rw [Lib.splitB_hit _ 0 n s o (by rw [indexB_one]; exact hi), List.map_cons, hz, Nat.add_zero, bs_extract s 0 o (by omega) (by omega), List.drop_zero]
      have hd : bs (s.extract (o + 1) s.size) = (bs s).drop (o + 1) := by
        rw [bs_extract s _ _ (by omega) (Nat.le_refl _), List.take_of_length_le (by rw [bs_length]; exact Nat.le_refl _)]
      have hc : (bs (s.extract (o + 1) s.size)).count (c.toNat : Int) = n := by
        rw [hd]
        have h0 : ((bs s).take o).count (c.toNat : Int) = 0 := List.count_eq_zero.2 (fun hm => h _ hm rfl)
        rw [hb, List.count_append, List.count_cons_self, h0] at hn
        omega
      rw [ih _ hc, hd]
      conv => rhs; rw [hb]
      rw [parts_at _ _ _ h]

theorem hi9 : (Tryd.prog.info? 9).map (fun i => (i.zero, i.size, i.bytes)) = some (some (.string ByteArray.empty), 1, 16) := by kernel_rfl
def pcs (c : UInt8) (s : ByteArray) : List ByteArray := (parts (c.toNat : Int) (bs s)).map str
theorem pcs_eq (c : UInt8) (s : ByteArray) : Lib.splitB ⟨#[c]⟩ 0 ((bs s).count (c.toNat : Int)) s = pcs c s := by
  unfold pcs
  rw [← split_parts c _ s rfl, List.map_map]
  conv => lhs; rw [← List.map_id (Lib.splitB ⟨#[c]⟩ 0 ((bs s).count (c.toNat : Int)) s)]
  apply List.map_congr_left
  intro x _
  simp [str_bs]
theorem pcs_length (c : UInt8) (s : ByteArray) : (pcs c s).length = (bs s).count (c.toNat : Int) + 1 := by unfold pcs; rw [List.length_map, parts_length]
end Go.Proofs.YtmldkecaghokeaaDoor.va

namespace Go.Proofs.YtmldkecaghokeaaDoor.vb
open Go.RowKit Go.PlainAid
open Go.Proofs.YtmldkecaghokeaaDoor.ta Go.Proofs.YtmldkecaghokeaaDoor.tb Go.Proofs.YtmldkecaghokeaaDoor.tc Go.Proofs.YtmldkecaghokeaaDoor.td Go.Proofs.YtmldkecaghokeaaDoor.te Go.Proofs.YtmldkecaghokeaaDoor.tf Go.Proofs.YtmldkecaghokeaaDoor.tg Go.Proofs.YtmldkecaghokeaaDoor.th Go.Proofs.YtmldkecaghokeaaDoor.ti Go.Proofs.YtmldkecaghokeaaDoor.tj Go.Proofs.YtmldkecaghokeaaDoor.tk Go.Proofs.YtmldkecaghokeaaDoor.ue Go.Proofs.YtmldkecaghokeaaDoor.ub Go.Proofs.YtmldkecaghokeaaDoor.uc Go.Proofs.YtmldkecaghokeaaDoor.ud Go.Proofs.YtmldkecaghokeaaDoor.sh Go.Proofs.YtmldkecaghokeaaDoor.va
set_option linter.unusedVariables false
set_option maxRecDepth 4000

theorem over {w w1 w2 : World} (h : Below w.heap.size w w1) (b : Below w1.heap.size w1 w2) : Below w.heap.size w w2 := h.trans (b.mono h.size)
-- a list of texts in memory
def srow (xs : List ByteArray) : Array Value := (xs.map Value.string).toArray
theorem srow_get (xs : List ByteArray) (k : Nat) : (srow xs)[k]? = (xs[k]?).map Value.string := by simp [srow]
theorem srow_set (xs : List ByteArray) (k : Nat) (x : ByteArray) : (srow xs).setIfInBounds k (.string x) = srow (xs.set k x) := by simp [srow]
theorem srow_size (xs : List ByteArray) : (srow xs).size = xs.length := by simp [srow]
def Texts (w : World) (B : Nat) (v : Value) (xs : List ByteArray) : Prop :=
  (v = .slice none 0 0 ∧ xs = []) ∨ ∃ g, v = .slice (some ⟨g, 0, none⟩) xs.length xs.length ∧ B ≤ g ∧ w.heap[g]? = some (.cells (srow xs) 9 (0, 0))
theorem Texts.later {w w' : World} {B : Nat} {v : Value} {xs : List ByteArray} (h : Texts w B v xs) (hb : Below w.heap.size w w') : Texts w' B v xs := by
  rcases h with h | ⟨g, h1, h2, h3⟩
  · exact .inl h
  · exact .inr ⟨g, h1, h2, (hb.block g (Array.getElem?_eq_some_iff.1 h3).1).trans h3⟩

def wordsR (w w' : World) (o : Option (List (List Int))) (e : Ending) : Prop :=
  match o with
  | some xs => ∃ v, e = .returned (.tuple #[v, .int .i64 0]) ∧ Texts w' w.heap.size v (xs.map str)
  | none => e = .returned (.tuple #[.slice none 0 0, .int .i64 44])
end Go.Proofs.YtmldkecaghokeaaDoor.vb

namespace Go.Proofs.YtmldkecaghokeaaDoor.vc
open Go.RowKit Go.PlainAid
open Go.Proofs.YtmldkecaghokeaaDoor.ta Go.Proofs.YtmldkecaghokeaaDoor.tb Go.Proofs.YtmldkecaghokeaaDoor.tc Go.Proofs.YtmldkecaghokeaaDoor.tj Go.Proofs.YtmldkecaghokeaaDoor.ub Go.Proofs.YtmldkecaghokeaaDoor.va Go.Proofs.YtmldkecaghokeaaDoor.vb
set_option linter.unusedVariables false
set_option maxRecDepth 4000

-- a list of texts, wherever it lies
def Reads (w : World) (v : Value) (xs : List ByteArray) : Prop :=
  ∃ a cap, v = .slice a xs.length cap ∧ (xs.length = 0 ∨ ∃ b off, a = some ⟨b, off, none⟩ ∧ ∀ i, i < xs.length → w.cell? ⟨b, off + i, none⟩ = some (.string (xs.getD i ByteArray.empty)))
theorem Reads.later {w w' : World} {v : Value} {xs : List ByteArray} (h : Reads w v xs) (hb : Below w.heap.size w w') : Reads w' v xs := by
  obtain ⟨a, cap, rfl, h0 | ⟨b, off, rfl, hc⟩⟩ := h
  · exact ⟨a, cap, rfl, .inl h0⟩
  · refine ⟨_, cap, rfl, .inr ⟨b, off, rfl, fun i hi => ?_⟩⟩
    have := hc i hi
    exact (hb.cell (p := ⟨b, off + i, none⟩) (World.block_lt_of_cell? _ _ this)).trans this
theorem Texts.reads {w : World} {B : Nat} {v : Value} {xs : List ByteArray} (h : Texts w B v xs) : Reads w v xs := by
  rcases h with ⟨rfl, rfl⟩ | ⟨g, rfl, _, hh⟩
  · exact ⟨none, 0, rfl, .inl rfl⟩
  · refine ⟨_, _, rfl, .inr ⟨g, 0, rfl, fun i hi => ?_⟩⟩
    rw [Nat.zero_add, cell_of_row _ _ _ _ _ _ hh, srow_get, List.getD_eq_getElem?_getD, List.getElem?_eq_getElem hi]
    rfl

end Go.Proofs.YtmldkecaghokeaaDoor.vc

namespace Go.Proofs.YtmldkecaghokeaaDoor.vd
open Go.RowKit Go.PlainAid
open Go.Proofs.YtmldkecaghokeaaDoor.ta Go.Proofs.YtmldkecaghokeaaDoor.tb Go.Proofs.YtmldkecaghokeaaDoor.tc Go.Proofs.YtmldkecaghokeaaDoor.tj Go.Proofs.YtmldkecaghokeaaDoor.tk Go.Proofs.YtmldkecaghokeaaDoor.ub Go.Proofs.YtmldkecaghokeaaDoor.uc Go.Proofs.YtmldkecaghokeaaDoor.va Go.Proofs.YtmldkecaghokeaaDoor.vb Go.Proofs.YtmldkecaghokeaaDoor.vc
set_option linter.unusedVariables false
set_option maxRecDepth 4000

theorem parts_sep (c : Int) (a b : List Int) : parts c (a ++ c :: b) = parts c a ++ parts c b := by
  induction a with
  | nil => simp [parts]
  | cons x a ih =>
    rw [List.cons_append, parts, parts, ih]
    by_cases h : x = c
    · rw [if_pos h, if_pos h]; rfl
    · rw [if_neg h, if_neg h]
      cases hp : parts c a with
      | nil => exact absurd hp (parts_ne c a)
      | cons p ps => rfl
theorem esc_no32 (l : List Int) (h : In 256 l) : parts 32 (escL l) = [escL l] := parts_none 32 _ (fun x hx e => by have := escL_pr l h x hx; omega)
theorem range_bs (xs : List ByteArray) : (List.range xs.length).map (fun i => bs (xs.getD i ByteArray.empty)) = xs.map bs := by
  apply List.ext_getElem
  · simp
  · intro i h1 h2
    simp at h1
    simp [h1]
theorem all_bs (xs : List ByteArray) : ∀ x ∈ xs.map bs, In 256 x := by
  intro x hx
  obtain ⟨q, _, rfl⟩ := List.mem_map.1 hx
  exact bs_in q
theorem unP_nil : unP [] = none := by decide +kernel
-- how long
def tk (xs : List ByteArray) : Nat → Nat
  | 0 => 0
  | k + 1 => tk xs k + (xs.getD k ByteArray.empty).size
theorem tk_mono (xs : List ByteArray) {j k : Nat} (h : j ≤ k) : tk xs j ≤ tk xs k := by
  induction k with
  | zero => obtain rfl : j = 0 := by omega
            exact Nat.le_refl _
  | succ k ih =>
    rcases Nat.lt_or_ge j (k + 1) with h1 | h1
    · exact Nat.le_trans (ih (by omega)) (Nat.le_add_right _ _)
    · obtain rfl : j = k + 1 := by omega
      exact Nat.le_refl _
theorem tk_at (xs : List ByteArray) (k n : Nat) (h : k < n) : (xs.getD k ByteArray.empty).size ≤ tk xs n := by
  have h1 := tk_mono xs (show k + 1 ≤ n from h)
  have e : tk xs (k + 1) = tk xs k + (xs.getD k ByteArray.empty).size := rfl
  rw [e] at h1
  omega
theorem ub_len (l : List Int) : (escL l).length ≤ 3 * l.length + 1 := by
  unfold escL
  split
  · simp
  · have := (escR_length l).2
    omega
theorem sz32 : (⟨#[32]⟩ : ByteArray).size = 1 := rfl
theorem bs_32 : bs (⟨#[32]⟩ : ByteArray) = [32] := by decide +kernel

end Go.Proofs.YtmldkecaghokeaaDoor.vd

namespace Go.Proofs.YtmldkecaghokeaaDoor.ya
open Go.RowKit Go.PlainAid
open Go.Proofs.YtmldkecaghokeaaDoor.ta Go.Proofs.YtmldkecaghokeaaDoor.tb Go.Proofs.YtmldkecaghokeaaDoor.tc Go.Proofs.YtmldkecaghokeaaDoor.tj Go.Proofs.YtmldkecaghokeaaDoor.va Go.Proofs.YtmldkecaghokeaaDoor.vb Go.Proofs.YtmldkecaghokeaaDoor.vc
set_option linter.unusedVariables false
set_option maxRecDepth 4000

def linesR (w w' : World) (o : Option (List (List Int))) (e : Ending) : Prop :=
  match o with
  | some xs => ∃ v, e = .returned (.tuple #[v, .int .i64 0]) ∧ Texts w' w.heap.size v (xs.map str)
  | none => e = .returned (.tuple #[.slice none 0 0, .int .i64 43])
theorem bs_10 : bs (⟨#[10]⟩ : ByteArray) = [10] := by decide +kernel
theorem has_lines (s : ByteArray) : (s.size ≠ 0 ∧ s.extract (s.size - 1) s.size = ⟨#[10]⟩) ↔ (bs s).drop ((bs s).length - 1) = [10] := by
  have hb := bs_extract s (s.size - 1) s.size (by omega) (Nat.le_refl _)
  rw [List.take_of_length_le (by rw [bs_length]; exact Nat.le_refl _)] at hb
  rw [bs_length, ← hb]
  constructor
  · rintro ⟨_, h⟩
    rw [h, bs_10]
  · intro h
    refine ⟨fun h0 => ?_, bs_inj (h.trans bs_10.symm)⟩
    have := congrArg List.length h
    rw [bs_length, ByteArray.size_extract] at this
    simp at this
    omega
end Go.Proofs.YtmldkecaghokeaaDoor.ya

namespace Go.Proofs.YtmldkecaghokeaaDoor.yb
open Go.RowKit Go.PlainAid
open Go.Proofs.YtmldkecaghokeaaDoor.ta Go.Proofs.YtmldkecaghokeaaDoor.tb Go.Proofs.YtmldkecaghokeaaDoor.tc Go.Proofs.YtmldkecaghokeaaDoor.td Go.Proofs.YtmldkecaghokeaaDoor.te Go.Proofs.YtmldkecaghokeaaDoor.tg Go.Proofs.YtmldkecaghokeaaDoor.tj Go.Proofs.YtmldkecaghokeaaDoor.ub Go.Proofs.YtmldkecaghokeaaDoor.uc Go.Proofs.YtmldkecaghokeaaDoor.ud Go.Proofs.YtmldkecaghokeaaDoor.va Go.Proofs.YtmldkecaghokeaaDoor.vb Go.Proofs.YtmldkecaghokeaaDoor.vc Go.Proofs.YtmldkecaghokeaaDoor.ya
set_option linter.unusedVariables false
set_option maxRecDepth 4000

theorem parts_snoc (x : List Int) : parts 10 (x ++ [10]) = parts 10 x ++ [[]] := by
  induction x with
  | nil => rfl
  | cons b r ih =>
    rw [List.cons_append]
    unfold parts
    split
    · rw [ih]; rfl
    · rw [ih]
      cases h : parts 10 r with
      | nil => exact absurd h (parts_ne 10 r)
      | cons p ps => rfl
theorem parts_snoc_ne (c : Int) (hc : c ≠ 10) (x : List Int) : ∃ ps p, parts 10 (x ++ [c]) = ps ++ [p ++ [c]] := by
  induction x with
  | nil => exact ⟨[], [], by simp [parts, hc]⟩
  | cons b r ih =>
    obtain ⟨ps, p, e⟩ := ih
    rw [List.cons_append]
    unfold parts
    split
    · exact ⟨[] :: ps, p, by rw [e]; rfl⟩
    · rw [e]
      cases ps with
      | nil => exact ⟨[], b :: p, rfl⟩
      | cons q qs => exact ⟨(b :: q) :: qs, p, rfl⟩
theorem own_reads' {w : World} {B : Nat} {v : Value} {xs : List ByteArray} (h : w.ownsRow B 9 1 v xs.length (xs.map Value.string)) : Reads w v xs ∧ v.oneCell' = true := by
  rcases h.2 with ⟨rfl, h0⟩ | ⟨g, cap, cur, rfl, _, hg, _, _, _, _⟩
  · have : xs = [] := List.length_eq_zero_iff.1 h0
    subst this
    exact ⟨⟨none, 0, rfl, .inl rfl⟩, rfl⟩
  · refine ⟨⟨_, cap, rfl, .inr ⟨g, 0, rfl, fun i hi => ?_⟩⟩, rfl⟩
    have := h.cells (g := g) rfl i (.string (xs.getD i ByteArray.empty)) (by rw [List.getElem?_map, List.getElem?_eq_getElem hi, List.getD_eq_getElem?_getD, List.getElem?_eq_getElem hi]; rfl)
    rwa [Addr.add_mid] at this
theorem drop_cons10 (s : ByteArray) (j : Nat) (h : j < s.size) : (bs s).drop j = bt s j :: (bs s).drop (j + 1) := by
  rw [List.drop_eq_getElem_cons (by rw [bs_length]; exact h), bs_get s j h]
theorem drop_mid (l : List Int) (f i : Nat) (h : f ≤ i) : l.drop f = (l.take i).drop f ++ l.drop i := by
  conv => lhs; rw [← List.take_append_drop i l]
  rw [List.drop_append]
  by_cases hl : i ≤ l.length
  · rw [List.length_take, Nat.min_eq_left hl, show f - i = 0 by omega, List.drop_zero]
  · have : l.drop i = [] := List.drop_of_length_le (by omega)
    rw [this, List.drop_nil]
theorem cut10 (s : ByteArray) (f i : Nat) (hf : f ≤ i) (hi : i < s.size) (hb : bt s i = 10) : (bs s).drop f = bs (s.extract f i) ++ 10 :: (bs s).drop (i + 1) := by
  rw [bs_extract s f i hf (by omega), ← hb, ← drop_cons10 s i hi, ← drop_mid (bs s) f i hf]
theorem no10 (s : ByteArray) (f i : Nat) (hf : f ≤ i) (hi : i ≤ s.size) (h : ∀ j, f ≤ j → j < i → bt s j ≠ 10) : ∀ x ∈ bs (s.extract f i), x ≠ 10 := by
  intro x hx
  obtain ⟨k, hk, rfl⟩ := List.getElem_of_mem hx
  have hz : (s.extract f i).size = i - f := by rw [ByteArray.size_extract]; omega
  rw [bs_length, hz] at hk
  rw [bs_get _ k (by rw [hz]; exact hk), bt_extract s f i k (by omega) hi]
  exact h (f + k) (by omega) (by omega)
def linesQ (w' : World) (o : Option (List (List Int))) (e : Ending) : Prop :=
  match o with
  | some xs => ∃ v, e = .returned (.tuple #[v, .int .i64 0]) ∧ Reads w' v (xs.map str) ∧ v.oneCell' = true
  | none => e = .returned (.tuple #[.slice none 0 0, .int .i64 43])
structure LInv (s : ByteArray) (f i : Nat) (done : List (List Int)) : Prop where
  le : f ≤ i
  no : ∀ j, f ≤ j → j < i → bt s j ≠ 10
  ps : parts 10 (bs s) = done ++ parts 10 ((bs s).drop f)
  len : done.length ≤ i
end Go.Proofs.YtmldkecaghokeaaDoor.yb
