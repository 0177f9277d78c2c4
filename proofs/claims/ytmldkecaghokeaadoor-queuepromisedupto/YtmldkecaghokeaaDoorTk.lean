import Derived.Test.YtmldkecaghokeaaDoorTj
namespace Go.Proofs.YtmldkecaghokeaaDoor.tk
open Go.RowKit Go.PlainAid
open Go.Proofs.YtmldkecaghokeaaDoor.ta Go.Proofs.YtmldkecaghokeaaDoor.tb Go.Proofs.YtmldkecaghokeaaDoor.tc Go.Proofs.YtmldkecaghokeaaDoor.td Go.Proofs.YtmldkecaghokeaaDoor.te Go.Proofs.YtmldkecaghokeaaDoor.tf Go.Proofs.YtmldkecaghokeaaDoor.tg Go.Proofs.YtmldkecaghokeaaDoor.th Go.Proofs.YtmldkecaghokeaaDoor.ti Go.Proofs.YtmldkecaghokeaaDoor.tj
set_option linter.unusedVariables false
set_option maxRecDepth 4000

def readV (l : List Int) : Value := .tuple #[.string (str l), .int .i64 0]
def failV (e : Int) : Value := .tuple #[.string ByteArray.empty, .int .i64 e]
open Classical in
noncomputable def unhexV (s : ByteArray) : Value := if s.size % 2 = 0 ∧ Ok A16 (bs s) then readV (unhexL (bs s)) else failV 41
open Classical in
noncomputable def un64V (s : ByteArray) : Value := if Acc64 (bs s) then readV (cutL (bs s)) else failV 40

-- trimming, in lists
theorem bs_trS (s : ByteArray) : bs (trS s 61) = trim1 (bs s) := by
  unfold trS trim1
  by_cases h0 : s.size = 0
  · have e : bs s = [] := List.length_eq_zero_iff.1 (by rw [bs_length]; exact h0)
    rw [if_neg (fun h => h.1 h0), e]
    rfl
  · obtain ⟨n, hn⟩ : ∃ n, s.size = n + 1 := ⟨s.size - 1, by omega⟩
    have hl : (bs s).length = n + 1 := by rw [bs_length, hn]
    have hsplit : bs s = (bs s).take n ++ [bt s n] := by
      have : bs s = btL s (n + 1) := by unfold bs; rw [hn]
      rw [this, btL_succ, List.take_left' (btL_length s n)]
    have hlast : (bs s).getLast? = some (bt s n) := by rw [hsplit]; simp
    have hx : bs (s.extract (s.size - 1) s.size) = [bt s n] := by
      rw [bs_extract _ _ _ (by omega) (by omega), hn, List.take_of_length_le (by omega), hsplit, show n + 1 - 1 = n by omega, List.drop_left' (by rw [List.length_take]; omega)]
    have hlit : bs (⟨#[61]⟩ : ByteArray) = [61] := by decide +kernel
    have hiff : (s.size ≠ 0 ∧ s.extract (s.size - 1) s.size = ⟨#[61]⟩) ↔ (bs s).getLast? = some 61 := by
      rw [hlast]
      constructor
      · rintro ⟨_, h⟩
        have := congrArg bs h
        rw [hx, hlit] at this
        rw [List.cons.inj this |>.1]
      · intro h
        refine ⟨h0, bs_inj ?_⟩
        rw [hx, hlit, Option.some.inj h]
    by_cases h : (bs s).getLast? = some 61
    · rw [if_pos (hiff.2 h), if_pos h, bs_extract _ _ _ (by omega) (by omega), hn, List.drop_zero, List.dropLast_eq_take, hl]
    · rw [if_neg (fun k => h (hiff.1 k)), if_neg h]
theorem bs_trS2 (s : ByteArray) : bs (trS (trS s 61) 61) = trim2 (bs s) := by rw [bs_trS, bs_trS]; rfl

end Go.Proofs.YtmldkecaghokeaaDoor.tk
