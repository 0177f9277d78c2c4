import Derived.Test.YtpbapaghcabehaaDoorA2
import Derived.Test.YtpbapaghcabehaaDoorB3
import Derived.Test.YtpbapaghcabehaaDoorWc
import Derived.Test.YtpbapaghcabehaaDoorTq
namespace Go.Proofs.YtpbapaghcabehaaDoor.c2
open Go.RowKit Go.PlainAid
open Go.Proofs.YtpbapaghcabehaaDoor.ta Go.Proofs.YtpbapaghcabehaaDoor.tb Go.Proofs.YtpbapaghcabehaaDoor.tc Go.Proofs.YtpbapaghcabehaaDoor.tj Go.Proofs.YtpbapaghcabehaaDoor.tk Go.Proofs.YtpbapaghcabehaaDoor.va Go.Proofs.YtpbapaghcabehaaDoor.wa Go.Proofs.YtpbapaghcabehaaDoor.wb Go.Proofs.YtpbapaghcabehaaDoor.a1 Go.Proofs.YtpbapaghcabehaaDoor.a2 Go.Proofs.YtpbapaghcabehaaDoor.b3
set_option linter.unusedVariables false
set_option maxRecDepth 4000

-- the document's reader of a request: rows till an empty one, faults passed over, the guess written again
open Classical in
noncomputable def hOfY (y : ByteArray) : ByteArray := if Acc64 (bs y) then cutS y else ByteArray.empty
open Classical in
noncomputable def nOfX (x : ByteArray) : Int := if ∃ n, I64 n ∧ decS n = x then unN x else 0
open Classical in
noncomputable def rowsD : Nat → ByteArray → Option (List ByteArray × ByteArray)
  | 0, R => some ([], R)
  | k + 1, R => if cutF R nlB = false then none else if cutA R nlB = ByteArray.empty then some ([], cutB R nlB) else
    match rowsD k (cutB R nlB) with
    | none => none
    | some q => some (hOfY (cutA R nlB) :: q.1, q.2)
open Classical in
noncomputable def glP (b : ByteArray) : Option Rq := if cutF b nlB = false ∨ (cutA b nlB).size < 4 then none else
  match rowsD 65 (cutB b nlB) with
  | none => none
  | some q => some ⟨nOfX ((cutA b nlB).extract 4 (cutA b nlB).size), q.1, q.2⟩
open Classical in
noncomputable def dcP (b : ByteArray) : Option Rq := match glP b with
  | none => none
  | some r => if rqE r.old r.proof = 0 ∧ rqT r.old r.proof r.note = b then some r else none
theorem rows_zero (R : ByteArray) : rowsD 0 R = some ([], R) := rfl
theorem rows_bad (k : Nat) (R : ByteArray) (h : cutF R nlB = false) : rowsD (k + 1) R = none := by
  unfold rowsD
  rw [if_pos h]
theorem rows_end (k : Nat) (R : ByteArray) (h : cutF R nlB = true) (h2 : cutA R nlB = ByteArray.empty) : rowsD (k + 1) R = some ([], cutB R nlB) := by
  unfold rowsD
  rw [if_neg (by rw [h]; decide), if_pos h2]
theorem rows_more (k : Nat) (R : ByteArray) (h : cutF R nlB = true) (h2 : cutA R nlB ≠ ByteArray.empty) : rowsD (k + 1) R = match rowsD k (cutB R nlB) with
    | none => none
    | some q => some (hOfY (cutA R nlB) :: q.1, q.2) := by
  rw [rowsD]
  rw [if_neg (by rw [h]; decide), if_neg h2]
theorem rows_skip (k : Nat) (R : ByteArray) (h : cutF R nlB = true) (h2 : cutA R nlB ≠ ByteArray.empty) (h3 : rowsD k (cutB R nlB) = none) : rowsD (k + 1) R = none := by
  rw [rows_more k R h h2, h3]
theorem rows_add (k : Nat) (R : ByteArray) (h : cutF R nlB = true) (h2 : cutA R nlB ≠ ByteArray.empty) (hs : List ByteArray) (nt : ByteArray) (h3 : rowsD k (cutB R nlB) = some (hs, nt)) : rowsD (k + 1) R = some (hOfY (cutA R nlB) :: hs, nt) := by
  rw [rows_more k R h h2, h3]
theorem cut_line (x y : ByteArray) (h : no10 x) : cutA (x ++ nlB ++ y) nlB = x ∧ cutB (x ++ nlB ++ y) nlB = y ∧ cutF (x ++ nlB ++ y) nlB = true := by
  refine cut_first x nlB y fun j hj => ?_
  cases ho : occ (x ++ nlB ++ y) nlB j with
  | false => rfl
  | true =>
    exfalso
    have h1 := (occ_nl (x ++ nlB ++ y) j (by simp only [ByteArray.size_append]; omega)).1 ho
    rw [ByteArray.append_assoc, bt_left _ _ _ hj] at h1
    exact h j hj h1
theorem no10_empty : no10 ByteArray.empty := fun j hj => absurd hj (by simp)
theorem h_back (x : ByteArray) : hOfY (b64S x) = x := by
  have h : Acc64 (bs (b64S x)) := by
    unfold b64S
    rw [bs_str _ (b64L_in _ (bs_in x))]
    exact (b64_there (bs x) (bs_in x)).1
  unfold hOfY
  rw [if_pos h]
  exact cut_b64 x
theorem rows_back (note : ByteArray) (pf : List ByteArray) : ∀ k, pf.length < k → (∀ h ∈ pf, 1 ≤ h.size) → rowsD k (flN (pf.map b64S) ++ (nlB ++ note)) = some (pf, note) := by
  induction pf with
  | nil =>
    intro k hk _
    obtain ⟨k', rfl⟩ : ∃ k', k = k' + 1 := ⟨k - 1, by simp at hk; omega⟩
    obtain ⟨c1, c2, c3⟩ := cut_line ByteArray.empty note no10_empty
    have e : flN (([] : List ByteArray).map b64S) ++ (nlB ++ note) = ByteArray.empty ++ nlB ++ note := by
      rw [ByteArray.append_assoc]; rfl
    rw [e, rows_end k' _ c3 c1, c2]
  | cons x l ih =>
    intro k hk hall
    obtain ⟨k', rfl⟩ : ∃ k', k = k' + 1 := ⟨k - 1, by simp at hk; omega⟩
    obtain ⟨n1, n2⟩ := b64_no10 x (hall x (by simp))
    obtain ⟨c1, c2, c3⟩ := cut_line (b64S x) (flN (l.map b64S) ++ (nlB ++ note)) n1
    have e : flN ((x :: l).map b64S) ++ (nlB ++ note) = b64S x ++ nlB ++ (flN (l.map b64S) ++ (nlB ++ note)) := by
      rw [List.map_cons, flN]
      simp only [ByteArray.append_assoc]
    rw [e]
    rw [rows_add k' _ c3 (by rw [c1]; exact n2) l note (by rw [c2]; exact ih k' (by simp at hk; omega) (fun h hh => hall h (by simp [hh]))), c1, h_back]
theorem gl_back (old : Int) (pf : List ByteArray) (note : ByteArray) (hI : I64 old) (h : rqE old pf = 0) : glP (rqX old pf note) = some ⟨old, pf, note⟩ := by
  obtain ⟨_, _, hl, hb⟩ := rqE_yes h
  have hall := any_bad hb
  have e : rqX old pf note = hdB old ++ nlB ++ (flN (pf.map b64S) ++ (nlB ++ note)) := by
    unfold rqX
    simp only [ByteArray.append_assoc]
  obtain ⟨c1, c2, c3⟩ := cut_line (hdB old) (flN (pf.map b64S) ++ (nlB ++ note)) (hd_no10 old)
  have h4 : oldB.size = 4 := rfl
  have hz : (hdB old).size = 4 + (decS old).size := by
    unfold hdB
    rw [ByteArray.size_append, h4]
  have hx : (hdB old).extract 4 (hdB old).size = decS old := by
    unfold hdB
    exact ByteArray.extract_append_eq_right rfl ByteArray.size_append
  have hn : nOfX (decS old) = old := by
    unfold nOfX
    rw [if_pos ⟨old, hI, rfl⟩, unN_dec old hI]
  rw [e]
  unfold glP
  rw [c1, c2, c3, if_neg (by rw [hz]; simp), rows_back note pf 65 (by omega) (fun x hx => (hall x hx).1), hx, hn]
theorem nof_in (x : ByteArray) : I64 (nOfX x) := by
  unfold nOfX
  split
  · exact unN_in x
  · exact ⟨by decide, by decide⟩
theorem gl_old (b : ByteArray) (r : Rq) (h : glP b = some r) : I64 r.old := by
  unfold glP at h
  split at h
  · cases h
  · split at h
    · cases h
    · obtain rfl := Option.some.inj h
      exact nof_in _
theorem dc_none (b : ByteArray) (h : glP b = none) : dcP b = none := by
  unfold dcP
  rw [h]
theorem dc_yes (b : ByteArray) (r : Rq) (h : glP b = some r) (h1 : rqE r.old r.proof = 0) (h2 : rqT r.old r.proof r.note = b) : dcP b = some r := by
  unfold dcP
  rw [h]
  exact if_pos ⟨h1, h2⟩
theorem dc_no (b : ByteArray) (r : Rq) (h : glP b = some r) (h1 : ¬ (rqE r.old r.proof = 0 ∧ rqT r.old r.proof r.note = b)) : dcP b = none := by
  unfold dcP
  rw [h]
  exact if_neg h1
theorem dc_form (b : ByteArray) (r : Rq) (h : dcP b = some r) : glP b = some r ∧ rqE r.old r.proof = 0 ∧ rqT r.old r.proof r.note = b := by
  cases e : glP b with
  | none => rw [dc_none b e] at h; cases h
  | some q =>
    by_cases hc : rqE q.old q.proof = 0 ∧ rqT q.old q.proof q.note = b
    · rw [dc_yes b q e hc.1 hc.2] at h
      obtain rfl := Option.some.inj h
      exact ⟨rfl, hc.1, hc.2⟩
    · rw [dc_no b q e hc] at h; cases h
theorem dc_as (b : ByteArray) : dcP b = asP b := by
  cases h : asP b with
  | none =>
    cases h2 : dcP b with
    | none => rfl
    | some r =>
      exfalso
      obtain ⟨g1, g2, g3⟩ := dc_form b r h2
      have hb := as_back r.old r.proof r.note (gl_old b r g1) g2
      rw [← rqT_yes g2, g3, h] at hb
      cases hb
  | some r =>
    obtain ⟨g1, g2, g3⟩ := as_form b r h
    have hb := gl_back r.old r.proof r.note (fr_old b r g1) g2
    rw [← rqT_yes g2, g3] at hb
    exact dc_yes b r hb g2 g3
-- a line of the text from a place on
def rst (b : ByteArray) (i : Nat) : ByteArray := b.extract i b.size
theorem rst_size (b : ByteArray) (i : Nat) (h : i ≤ b.size) : (rst b i).size = b.size - i := by
  unfold rst
  rw [ByteArray.size_extract]
  omega
theorem rst_zero (b : ByteArray) : rst b 0 = b := by
  unfold rst
  exact ByteArray.extract_zero_size
theorem line_yes (b : ByteArray) (i j : Nat) (h : i + j < b.size) (h10 : bt b (i + j) = 10) (hno : ∀ k, k < j → bt b (i + k) ≠ 10) : cutA (rst b i) nlB = b.extract i (i + j) ∧ cutB (rst b i) nlB = rst b (i + j + 1) ∧ cutF (rst b i) nlB = true := by
  have hz := rst_size b i (by omega)
  have hbt : ∀ k, i + k < b.size → bt (rst b i) k = bt b (i + k) := fun k hk => bt_extract b i b.size k hk (Nat.le_refl _)
  obtain ⟨x, y, e, hx⟩ := occ_to (rst b i) nlB j (by omega) ((occ_nl _ j (by omega)).2 (by rw [hbt j h]; exact h10))
  have hn : no10 x := fun k hk hb => by
    have := hbt k (by omega)
    rw [e, ByteArray.append_assoc, bt_left _ _ _ hk] at this
    exact hno k (by omega) (this.symm.trans hb)
  obtain ⟨c1, c2, c3⟩ := cut_line x y hn
  rw [← e] at c1 c2 c3
  have ex : x = b.extract i (i + j) := by
    have h1 : (rst b i).extract 0 j = x := by rw [e, ByteArray.append_assoc, ByteArray.extract_append_eq_left hx.symm]
    rw [← h1]
    unfold rst
    rw [ByteArray.extract_extract]
    congr 1
    omega
  have ey : y = rst b (i + j + 1) := by
    have h1 : (rst b i).extract (j + 1) (b.size - i) = y := by
      have hs : (x ++ nlB).size = j + 1 := by rw [ByteArray.size_append, hx]; rfl
      rw [← hz, e]
      exact ByteArray.extract_append_eq_right hs.symm ByteArray.size_append
    rw [← h1]
    unfold rst
    rw [ByteArray.extract_extract]
    congr 1
    omega
  exact ⟨c1.trans ex, c2.trans ey, c3⟩
theorem line_no (b : ByteArray) (i : Nat) (hi : i ≤ b.size) (hno : ∀ k, i + k < b.size → bt b (i + k) ≠ 10) : cutF (rst b i) nlB = false := by
  have hz := rst_size b i hi
  rcases cut_nl (rst b i) with ⟨x, y, e, h1, _⟩ | ⟨_, _, _, h⟩
  · exfalso
    have hs := congrArg ByteArray.size e
    rw [ByteArray.size_append, ByteArray.size_append, nl_size] at hs
    have h2 : bt (rst b i) x.size = bt b (i + x.size) := bt_extract b i b.size x.size (by omega) (Nat.le_refl _)
    have h3 : bt (rst b i) x.size = 10 := by
      have h4 := bt_right x (nlB ++ y) 0 (by rw [ByteArray.size_append, nl_size]; omega)
      rw [bt_left nlB y 0 (by rw [nl_size]; omega), nl_bt, ← ByteArray.append_assoc, ← e] at h4
      exact h4
    exact hno x.size (by omega) (h2.symm.trans h3)
  · exact h
end Go.Proofs.YtpbapaghcabehaaDoor.c2
