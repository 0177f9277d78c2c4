import Derived.Test.YtmldkecaghokeaaGreatDoorL2
import Derived.ChangeSlices
import Derived.Deep.MidRow
import Derived.Test.YtmldkecaghokeaaGreatDoorFu
import Derived.Test.YtmldkecaghokeaaGreatDoorTie
import Derived.Test.YtmldkecaghokeaaGreatDoorCards
import Derived.ProofKit
import Derived.LaidMore
import Derived.OpenShut
import Derived.SliceStrings
import Derived.Carry
import Derived.Stop.Joined
import Derived.SevenTiedAt
import Derived.SizedLaws
import Derived.Lib.SmallJoins
namespace Go.Proofs.YtmldkecaghokeaaGreatDoor.noteOpen
open Go.ChangeShapes Go.WideShapes Go.ChangeAt Go.WideMaps Go.WideElems Go.RowKit Go.Joins
open Go.ChangeMaps (open_string shut_string)
open Go.Proofs.YtmldkecaghokeaaGreatDoor.ft Go.Proofs.YtmldkecaghokeaaGreatDoor.fu
open Go.Proofs.YtmldkecaghokeaaGreatDoor.o1
set_option linter.unusedVariables false

theorem laidOut : laidOutB Tryz.prog = true := by kernel_rfl




theorem cells9 : Tryz.prog.cellsOf 9 = 1 := by kernel_rfl
theorem bytes9 : Tryz.prog.bytesOf 9 = 16 := by kernel_rfl
theorem cells36 : Tryz.prog.cellsOf 36 = 2 := by kernel_rfl
theorem bytes36 : Tryz.prog.bytesOf 36 = 32 := by kernel_rfl
theorem all_mem {H : Type} (t : TypeId) (l : List (DataW H)) (d : DataW H) (h : d ∈ l) (k : Nat) (hk : k ∈ DataW.weights Tryz.prog t d) : k ∈ DataW.weightsAll Tryz.prog t l := by
  induction l with
  | nil => cases h
  | cons x l ih =>
    show _ ∈ DataW.weights Tryz.prog t x ++ DataW.weightsAll Tryz.prog t l
    rcases List.mem_cons.1 h with rfl | h
    · exact List.mem_append_left _ hk
    · exact List.mem_append_right _ (ih h)
theorem picks {α : Type} {P : Nat → α → Prop} (len : Nat) (h : ∀ i, i < len → ∃ l, P i l) : ∃ bs : List α, bs.length = len ∧ ∀ i l, bs[i]? = some l → P i l := by
  induction len with
  | zero => exact ⟨[], rfl, fun i l h => by simp at h⟩
  | succ n ih =>
    obtain ⟨bs, h1, h2⟩ := ih (fun i hi => h i (by omega))
    obtain ⟨x, hx⟩ := h n (by omega)
    refine ⟨bs ++ [x], by simp [h1], fun i l hl => ?_⟩
    by_cases hi : i < n
    · rw [List.getElem?_append_left (by omega)] at hl
      exact h2 i l hl
    · rw [List.getElem?_append_right (by omega)] at hl
      have hi' : i = n := by have := (List.getElem?_eq_some_iff.1 hl).1; simp at this; omega
      subst hi'
      rw [h1, Nat.sub_self] at hl
      simp at hl
      rw [← hl]
      exact hx
theorem trod2 {H : Type} {enc : TypeId × Value → H} {P : Program} {w : World} {base : Nat} {spare : Nat → Bool} {held : Bool} {t : TypeId} {f0 f1 : Field} {fuel : Nat} {cs : List Value} {x : DataW H × List MemPlace} (ht : P.underlying t = some (.struct #[f0, f1])) (h : DataW.trod enc P w base spare held fuel t cs = some x) :
    ∃ y0 y1 n, x.1 = .agg [y0.1, y1.1] ∧ cs.length = P.cellsOf t ∧ DataW.trod enc P w base spare held n f0.type ((cs.drop f0.offset).take (P.cellsOf f0.type)) = some y0 ∧
      DataW.trod enc P w base spare held n f1.type ((cs.drop f1.offset).take (P.cellsOf f1.type)) = some y1 := by
  obtain ⟨xs, n, _, rfl, hl, hlen, hf⟩ := DataW.trod_struct ht h
  match xs, hlen with
  | [y0, y1], _ => exact ⟨y0, y1, n, by simp, hl, by simpa using hf 0 f0 rfl, by simpa using hf 1 f1 rfl⟩
theorem open_keys {H : Type} (enc : TypeId × Value → H) (W : World) (a : Option Addr) (len cap : Nat) (d : DataW H) (p : List MemPlace) (h0 : DataW.Trod enc Tryz.prog W 0 (fun _ => true) true 22 (.slice a len cap) d p) :
    ∃ ss, ReadsY W (.slice a len cap) ss ∧ ((∀ k ∈ DataW.weights Tryz.prog 22 d, k ≤ 140737488351232) → ss.length * 32 ≤ 140737488351232 ∧ ∀ k ∈ ss, k.1.size ≤ 140737488351232 ∧ k.2.size ≤ 140737488351232) := by
  obtain ⟨fuel, hf⟩ := h0
  rcases DataW.trod_slice Tryz.underlying22 hf with ⟨hcs, hx⟩ | ⟨a', len', cap', elems, rest, n, _, hcs, hx, hb, hl, hm, hlen, hel, hsp, hns⟩
  · simp [Value.cells] at hcs
    obtain ⟨rfl, rfl, rfl⟩ := hcs
    exact ⟨[], ⟨none, 0, rfl, Nat.le_refl _, fun _ => rfl, .inl rfl⟩, fun _ => ⟨by simp, fun l h => by cases h⟩⟩
  · simp [Value.cells] at hcs
    obtain ⟨rfl, rfl, rfl⟩ := hcs
    simp only [Prod.mk.injEq] at hx
    obtain ⟨rfl, _⟩ := hx
    obtain ⟨ss, hbl, hbs⟩ := picks (P := fun i (st : ByteArray × ByteArray) => ∃ y, elems[i]? = some y ∧ (W.cell? (a'.add (i * 2)) = some (.string st.1) ∧ W.cell? ((a'.add (i * 2)).add 1) = some (.string st.2)) ∧ ((∀ k ∈ DataW.weights Tryz.prog 36 y.1, k ≤ 140737488351232) → st.1.size ≤ 140737488351232 ∧ st.2.size ≤ 140737488351232)) len (fun i hi => by
      have h1 := hel i hi
      obtain ⟨y, hy⟩ : ∃ y, elems[i]? = some y := ⟨elems[i]'(by omega), List.getElem?_eq_getElem _⟩
      rw [hy, cells36, Option.bind_eq_some_iff] at h1
      obtain ⟨cs', hc1, hc2⟩ := h1
      obtain ⟨_, hlen', hc⟩ := World.cells?_some hc1
      obtain ⟨y0, y1, n', hx', _, k0, k1⟩ := trod2 Tryz.underlying36 hc2
      simp only [cells9] at k0 k1
      obtain ⟨s0, e0, r0, _⟩ := DataW.trod_string Tryz.underlying9 k0
      obtain ⟨s1, e1, r1, _⟩ := DataW.trod_string Tryz.underlying9 k1
      have g0 : cs'[0]? = some (.string s0) := by have := congrArg (·[0]?) e0; simpa using this
      have g1 : cs'[1]? = some (.string s1) := by have := congrArg (·[0]?) e1; simpa using this
      have q0 := hc 0 (by omega)
      have q1 := hc 1 (by omega)
      have ez : (a'.add (i * 2)).add 0 = a'.add (i * 2) := by simp [Addr.add]
      rw [ez] at q0
      refine ⟨(s0, s1), y, hy, ⟨q0.trans g0, q1.trans g1⟩, fun hw => ?_⟩
      rw [hx'] at hw
      simp only [DataW.weights, Tryz.underlying36] at hw
      simp only [List.map_cons, List.map_nil, DataW.weightsEach, List.append_nil] at hw
      have hA := hw s0.data.toList.length (by rw [r0]; exact List.mem_append_left _ (by simp [DataW.weights]))
      have hB := hw s1.data.toList.length (by rw [r1]; exact List.mem_append_right _ (by simp [DataW.weights]))
      have e5 : s0.data.toList.length = s0.size := Array.length_toList
      have e6 : s1.data.toList.length = s1.size := Array.length_toList
      exact ⟨by simp only; omega, by simp only; omega⟩)
    refine ⟨ss, ⟨some a', cap, by rw [hbl], by rw [hbl]; omega, fun e => (by cases e), ?_⟩, fun hw => ⟨?_, fun st hst => ?_⟩⟩
    · by_cases hl0 : len = 0
      · exact .inl (by rw [hbl]; exact hl0)
      · right
        obtain ⟨b, off, spot⟩ := a'
        have hspot : spot = none := by
          obtain ⟨y, _, ⟨hc, _⟩, _⟩ := hbs 0 (ss[0]'(by omega)) (List.getElem?_eq_getElem _)
          simpa [Addr.add] using World.cell?_spot hc
        subst hspot
        refine ⟨b, off, rfl, fun i st hil => ?_⟩
        obtain ⟨y, _, ⟨c0, c1⟩, _⟩ := hbs i st hil
        simp only [Addr.add_mid] at c0 c1
        exact ⟨c0, c1⟩
    · have h2 := hw ((elems.map (·.1)).length * 32 + (rest.map (·.1)).length * 32) (by
        simp only [DataW.weights, Tryz.underlying22, bytes36, Nat.add_mul]
        exact List.mem_cons_self)
      simp only [List.length_map] at h2
      omega
    · obtain ⟨i, hi⟩ := List.getElem?_of_mem hst
      obtain ⟨y, hy, _, hd⟩ := hbs i st hi
      refine hd (fun k hk => hw k ?_)
      simp only [DataW.weights, Tryz.underlying22]
      exact List.mem_cons_of_mem _ (List.mem_append_left _ (all_mem 36 _ y.1 (List.mem_map.2 ⟨y, List.mem_of_getElem? hy, rfl⟩) k hk))

set_option maxRecDepth 100000 in
theorem lifted (os : Os) (started : os.Started) (H : Type) (enc : TypeId × Value → H) :
    ReturnsInHanded {} Tryz.checked os 3 .any (fun w args => (Rows.noteOpenSpec.pre enc Tryz.prog Tryz.f3 [] false w args ∧ laidMetH Tryz.prog laid4 w) ∧ sizedMet enc Tryz.prog Tryz.f3 (OpenSpec.ofChange Rows.noteOpenSpec) false w args)
      (Rows.noteOpenSpec.post enc Tryz.prog Tryz.f3 false true false false) := by
  refine returnsInHanded_of_change_and (C := Tryz.checked) (X := fun w _ => laidMetH Tryz.prog laid4 w) (fun _ _ _ hh h => h.of_heap hh) own started (by kernel_rfl) Tryz.func3
    (ChangeSpec.witness_shaped (enc := enc) (C := Tryz.checked) (os := os) (X := fun w _ => laidMetH Tryz.prog laid4 w) false (World.doorLaid Tryz.prog 400 os) #[.string ByteArray.empty, .slice none 0 0] 8 rfl (World.shaped_of_RefB (by kernel_rfl) (by kernel_rfl)) (by kernel_rfl) (by kernel_rfl) (by kernel_rfl) (door_met4 os _)) ?_
  intro W base args ds gs before hval0 hW _ hsz0 hL _
  have hval : ∀ (j : Nat) t v, Tryz.f3.params[j]? = some t → args[j]? = some v → Value.okWide Tryz.prog W .any base t v := hval0
  have hW' := hW
  obtain ⟨p, q, hA0, hV, rfl, hfz, hnd⟩ := hW
  have hA : DataW.TrodAll enc Tryz.prog W 0 (fun _ => true) true Tryz.f3.params.toList args.toList ds p := hA0
  have hsz : (DataW.weightsEach Tryz.prog (Tryz.f3.params.toList ++ Rows.noteOpenSpec.plain.varTypes Tryz.prog) (ds ++ gs)).all (· ≤ reachBytes) = true := hsz0
  rw [Tryz.params3] at hA hval hsz
  obtain ⟨v0, vs0, d0, ds0, p0, q0, hargs0, rfl, rfl, h0, r0⟩ := trodAll_cons hA
  obtain ⟨v1, vs1, d1, ds1, p1, q1, rfl, rfl, rfl, h1, r1⟩ := trodAll_cons r0
  obtain ⟨rfl, rfl, rfl⟩ := trodAll_nil r1
  obtain rfl : args = #[v0, v1] := by cases args; simp_all
  obtain ⟨rfl, rfl⟩ := trodVars_none hV
  obtain ⟨a0, rfl, rfl, rfl, w0⟩ := open_string Tryz.underlying9 (hval 0 9 v0 rfl rfl) h0
  have z0 : a0.size ≤ 140737488351232 := by
    have h := sized_string hsz (j := 0) (t := 9) (bytes := a0.data.toList) rfl rfl
    have e : a0.data.toList.length = a0.size := Array.length_toList
    unfold reachBytes at h
    omega
  obtain ⟨a1, len1, cap1, rfl⟩ := okWide_slice Tryz.underlying22 (hval 1 22 v1 rfl rfl)
  obtain ⟨xs1, hr1, hd1⟩ := open_keys enc W a1 len1 cap1 d1 p1 h1
  have hsz1 : xs1.length * 32 ≤ 140737488351232 ∧ ∀ k ∈ xs1, k.1.size ≤ 140737488351232 ∧ k.2.size ≤ 140737488351232 := hd1 (fun k hk => by
    have h2 := List.all_eq_true.1 hsz _ (DataW.weights_mem_each (j := 1) (t := 22) rfl rfl k hk)
    have h3 : k ≤ reachBytes := by simpa using h2
    unfold reachBytes at h3
    omega)
  have tabs := of_laid4 hL
  clear hA0 hval0 hsz0 hsz
  simp only [List.append_nil] at hW'
  have hlt1 : ∀ x ∈ p1, x.block < W.heap.size := fun x hx => by simpa using hW'.lt x (by simp [hx])
  have hargs1k : ∀ (W' : World), Below W.heap.size W W' → DataW.Trod enc Tryz.prog W' 0 (fun b => decide (b < W.heap.size)) true 22 (.slice a1 len1 cap1) d1 p1 :=
    fun W' hn => Below.trod laidOut (by kernel_rfl) (of_decide_eq_true (by kernel_rfl)) h1 hn hlt1
  refine (Go.Proofs.YtmldkecaghokeaaGreatDoor.va2.law_open W a0 z0 (.slice a1 len1 cap1) xs1 hr1 hsz1.1 hsz1.2 tabs).mono fun e W' ⟨he, hnx⟩ => ?_
  subst he
  have hA2 : DataW.TrodAll enc Tryz.prog W' 0 (fun b => decide (b < W.heap.size)) true [9, 22] [.string a0, .slice a1 len1 cap1] [.lit (.string a0.data.toList), d1] (p1) := by simpa using (trodAll_cons_mk (shut_string Tryz.underlying9 w0) (trodAll_cons_mk (hargs1k _ hnx) trodAll_mk0))
  exact ⟨_, rfl, _, _, _, [], p1, [], hW', trodAll_cons_mk (shut_bool Tryz.underlying4 _) trodAll_mk0, hA2, rfl, hnx.frame _, fun h => by cases h⟩

theorem row_holds : Rows.NoteOpenSaid :=
  OpenClaim.holds_of_wide 3 Tryz.f3 rfl rfl rfl rfl rfl rfl rfl ⟨rfl, rfl, rfl, rfl, rfl⟩ rfl rfl rfl rfl rfl (by kernel_rfl) Tryz.func3 (by kernel_rfl)
    (of_decide_eq_true (by kernel_rfl)) (by unfold Func.isWrapper; first | (rw [if_pos (by decide +kernel)]; kernel_rfl) | (rw [if_neg (by decide +kernel)]; exact ⟨rfl, rfl⟩))
    (fun os started H enc _ => lifted os started H enc)

theorem card_holds : Rows.NoteOpenCardSaid :=
  Claim7.holds_tied_plain_at .later [] [.data, .data, .data, .data] true (true, "095b57feb7ece7645239bbb0253660060260b0bf4e226d7ae2192d71e1171b98") false
    row_holds (fun _ h => by cases h) (by kernel_rfl) (fun _ h => by cases h) noteOpen_row_tie rfl ⟨rfl, rfl⟩ (by kernel_rfl) rfl
    (fun f fn hf hfn => by
      obtain rfl : f = 3 := Option.some.inj ((show Tryz.prog.funcNamed "annals/annalslaw20.NoteOpen" = some 3 by kernel_rfl).symm.trans hf) |>.symm
      obtain rfl : fn = Tryz.f3 := (Option.some.inj (Tryz.func3.symm.trans hfn)).symm
      exact ⟨by kernel_rfl, fun j t ht => by
        rw [Tryz.params3] at ht
        have hm : t ∈ ([9, 22] : List TypeId) := by simpa using Array.mem_of_getElem? ht
        have hall : (([9, 22] : List TypeId).all fun u => !Tryz.prog.wantsStandIn u) = true := by kernel_rfl
        exact (show Tryz.prog.wantsStandIn t = false by simpa using List.all_eq_true.1 hall t hm)⟩)
    (by kernel_rfl)
end Go.Proofs.YtmldkecaghokeaaGreatDoor.noteOpen
namespace Go.Proofs.YtmldkecaghokeaaGreatDoor
theorem noteOpen_holds : Rows.NoteOpenCardSaid := noteOpen.card_holds
#print axioms noteOpen_holds
end Go.Proofs.YtmldkecaghokeaaGreatDoor
