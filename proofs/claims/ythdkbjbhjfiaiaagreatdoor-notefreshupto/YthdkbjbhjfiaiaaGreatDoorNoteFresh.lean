import Derived.Test.YthdkbjbhjfiaiaaGreatDoorGB
import Derived.Test.YthdkbjbhjfiaiaaGreatDoorM3
import Derived.Test.YthdkbjbhjfiaiaaGreatDoorTie
import Derived.Test.YthdkbjbhjfiaiaaGreatDoorCards
import Derived.ProofKit
import Derived.LaidMore
import Derived.OpenShut
import Derived.ShutString
import Derived.SliceStrings
import Derived.Carry
import Derived.Deep.DeepHandedRow
import Derived.Stop.Joined
import Derived.SevenTiedAt
import Derived.ChangeSlices
import Derived.Deep.MidRow
namespace Go.Proofs.YthdkbjbhjfiaiaaGreatDoor.noteFresh
open Go.ChangeShapes Go.WideShapes Go.ChangeAt Go.WideMaps Go.WideElems Go.RowKit
open Go.ChangeMaps (open_string shut_string)
open Go.Proofs.YthdkbjbhjfiaiaaGreatDoor.vc Go.Proofs.YthdkbjbhjfiaiaaGreatDoor.o1 Go.Proofs.YthdkbjbhjfiaiaaGreatDoor.rf Go.Proofs.YthdkbjbhjfiaiaaGreatDoor.tj Go.Proofs.YthdkbjbhjfiaiaaGreatDoor.f8
set_option linter.unusedVariables false

theorem own : ownKnob Tryz.prog.godebug = none := by kernel_rfl
theorem laidOut : laidOutB Tryz.prog = true := by kernel_rfl
theorem cells9 : Tryz.prog.cellsOf 9 = 1 := by kernel_rfl
theorem cells49 : Tryz.prog.cellsOf 49 = 2 := by kernel_rfl
theorem bulk_len {H : Type} (l : List (DataW H)) (h : ∀ x ∈ l, 1 ≤ Rows.uptoBulk x) : l.length ≤ Rows.uptoBulkAll l := by
  induction l with
  | nil => exact Nat.zero_le _
  | cons x l ih =>
    have h1 := h x (by simp)
    have h2 := ih (fun y hy => h y (by simp [hy]))
    simp only [List.length_cons, Rows.uptoBulkAll]
    omega
theorem bulk_mem {H : Type} (l : List (DataW H)) (x : DataW H) (h : x ∈ l) : Rows.uptoBulk x ≤ Rows.uptoBulkAll l := by
  induction l with
  | nil => cases h
  | cons y l ih =>
    simp only [Rows.uptoBulkAll]
    rcases List.mem_cons.1 h with rfl | h
    · omega
    · have := ih h
      omega
theorem picks {α : Type} {P : Nat → α → Prop} (len : Nat) (h : ∀ i, i < len → ∃ l, P i l) : ∃ bs : List α, bs.length = len ∧ ∀ i l, bs[i]? = some l → P i l := by
  induction len with
  | zero => exact ⟨[], rfl, fun i l h => by simp at h⟩
  | succ n ih =>
    obtain ⟨bs, h1, h2⟩ := ih (fun i hi => h i (by omega))
    obtain ⟨x, hx⟩ := h n (by omega)
    refine ⟨bs ++ [x], by simp [h1], fun i l hl => ?_⟩
    by_cases hi : i < n
    · rw [List.getElem?_append_left (by omega)] at hl
      exact h2 i l hl
    · rw [List.getElem?_append_right (by omega)] at hl
      have hi' : i = n := by have := (List.getElem?_eq_some_iff.1 hl).1; simp at this; omega
      subst hi'
      rw [h1, Nat.sub_self] at hl
      simp at hl
      rw [← hl]
      exact hx
theorem trod2 {H : Type} {enc : TypeId × Value → H} {P : Program} {w : World} {base : Nat} {spare : Nat → Bool} {held : Bool} {t : TypeId} {f0 f1 : Field} {fuel : Nat} {cs : List Value} {x : DataW H × List MemPlace} (ht : P.underlying t = some (.struct #[f0, f1])) (h : DataW.trod enc P w base spare held fuel t cs = some x) :
    ∃ y0 y1 n, x.1 = .agg [y0.1, y1.1] ∧ cs.length = P.cellsOf t ∧ DataW.trod enc P w base spare held n f0.type ((cs.drop f0.offset).take (P.cellsOf f0.type)) = some y0 ∧
      DataW.trod enc P w base spare held n f1.type ((cs.drop f1.offset).take (P.cellsOf f1.type)) = some y1 := by
  obtain ⟨xs, n, _, rfl, hl, hlen, hf⟩ := DataW.trod_struct ht h
  match xs, hlen with
  | [y0, y1], _ => exact ⟨y0, y1, n, by simp, hl, by simpa using hf 0 f0 rfl, by simpa using hf 1 f1 rfl⟩
theorem open_keys {H : Type} (enc : TypeId × Value → H) (W : World) (a : Option Addr) (len cap : Nat) (d : DataW H) (p : List MemPlace) (h0 : DataW.Trod enc Tryz.prog W 0 (fun _ => true) true 22 (.slice a len cap) d p) :
    ∃ ss, ReadsY W (.slice a len cap) ss ∧ ss.length ≤ Rows.uptoBulk d ∧ ∀ k ∈ ss, k.1.size ≤ Rows.uptoBulk d ∧ k.2.size ≤ Rows.uptoBulk d := by
  obtain ⟨fuel, hf⟩ := h0
  rcases DataW.trod_slice Tryz.underlying22 hf with ⟨hcs, hx⟩ | ⟨a', len', cap', elems, rest, n, _, hcs, hx, hb, hl, hm, hlen, hel, hsp, hns⟩
  · simp [Value.cells] at hcs
    obtain ⟨rfl, rfl, rfl⟩ := hcs
    exact ⟨[], ⟨none, 0, rfl, Nat.le_refl _, fun _ => rfl, .inl rfl⟩, by simp, fun l h => by cases h⟩
  · simp [Value.cells] at hcs
    obtain ⟨rfl, rfl, rfl⟩ := hcs
    simp only [Prod.mk.injEq] at hx
    obtain ⟨rfl, _⟩ := hx
    obtain ⟨ss, hbl, hbs⟩ := picks (P := fun i (st : ByteArray × ByteArray) => ∃ y, elems[i]? = some y ∧ (W.cell? (a'.add (i * 2)) = some (.string st.1) ∧ W.cell? ((a'.add (i * 2)).add 1) = some (.string st.2)) ∧ st.1.size ≤ Rows.uptoBulk y.1 ∧ st.2.size ≤ Rows.uptoBulk y.1 ∧ 1 ≤ Rows.uptoBulk y.1) len (fun i hi => by
      have h1 := hel i hi
      obtain ⟨y, hy⟩ : ∃ y, elems[i]? = some y := ⟨elems[i]'(by omega), List.getElem?_eq_getElem _⟩
      rw [hy, cells49, Option.bind_eq_some_iff] at h1
      obtain ⟨cs', hc1, hc2⟩ := h1
      obtain ⟨_, hlen', hc⟩ := World.cells?_some hc1
      obtain ⟨y0, y1, n', hx', _, k0, k1⟩ := trod2 Tryz.underlying49 hc2
      simp only [cells9] at k0 k1
      obtain ⟨s0, e0, r0, _⟩ := DataW.trod_string Tryz.underlying9 k0
      obtain ⟨s1, e1, r1, _⟩ := DataW.trod_string Tryz.underlying9 k1
      have g0 : cs'[0]? = some (.string s0) := by have := congrArg (·[0]?) e0; simpa using this
      have g1 : cs'[1]? = some (.string s1) := by have := congrArg (·[0]?) e1; simpa using this
      have q0 := hc 0 (by omega)
      have q1 := hc 1 (by omega)
      have ez : (a'.add (i * 2)).add 0 = a'.add (i * 2) := by simp [Addr.add]
      rw [ez] at q0
      have e5 : s0.data.toList.length = s0.size := Array.length_toList
      have e6 : s1.data.toList.length = s1.size := Array.length_toList
      refine ⟨(s0, s1), y, hy, ⟨q0.trans g0, q1.trans g1⟩, ?_⟩
      rw [hx', r0, r1]
      simp only [Rows.uptoBulk, Rows.uptoBulkAll]
      exact ⟨by omega, by omega, by omega⟩)
    have hall : ∀ x ∈ elems.map (·.1), 1 ≤ Rows.uptoBulk x := by
      intro x hx
      obtain ⟨y, hy, rfl⟩ := List.mem_map.1 hx
      obtain ⟨i, hi⟩ := List.getElem?_of_mem hy
      have hil := (List.getElem?_eq_some_iff.1 hi).1
      obtain ⟨y', hy', _, _, _, h3⟩ := hbs i (ss[i]'(by omega)) (List.getElem?_eq_getElem _)
      rw [hi] at hy'
      obtain rfl := Option.some.inj hy'
      exact h3
    refine ⟨ss, ⟨some a', cap, by rw [hbl], by rw [hbl]; omega, fun e => (by cases e), ?_⟩, ?_, fun st hst => ?_⟩
    · by_cases hl0 : len = 0
      · exact .inl (by rw [hbl]; exact hl0)
      · right
        obtain ⟨b, off, spot⟩ := a'
        have hspot : spot = none := by
          obtain ⟨y, _, ⟨hc, _⟩, _⟩ := hbs 0 (ss[0]'(by omega)) (List.getElem?_eq_getElem _)
          simpa [Addr.add] using World.cell?_spot hc
        subst hspot
        refine ⟨b, off, rfl, fun i st hil => ?_⟩
        obtain ⟨y, _, ⟨c0, c1⟩, _⟩ := hbs i st hil
        simp only [Addr.add_mid] at c0 c1
        exact ⟨c0, c1⟩
    · have h1 := bulk_len _ hall
      simp only [List.length_map] at h1
      simp only [Rows.uptoBulk]
      omega
    · obtain ⟨i, hi⟩ := List.getElem?_of_mem hst
      obtain ⟨y, hy, _, h1, h2, _⟩ := hbs i st hi
      have h3 := bulk_mem (elems.map (·.1)) y.1 (List.mem_map.2 ⟨y, List.mem_of_getElem? hy, rfl⟩)
      simp only [Rows.uptoBulk]
      exact ⟨by omega, by omega⟩

set_option maxRecDepth 100000 in
theorem contract (H : Type) (enc : TypeId × Value → H) (W : World) (base : Nat) (args : Array Value) (ds gs : List (DataW H)) (before : List MemPlace)
    (hval : ∀ (j : Nat) t v, Tryz.f3.params[j]? = some t → args[j]? = some v → Value.okWide Tryz.prog W .any base t v)
    (hW : DataW.Whole enc Tryz.prog Tryz.f3.params.toList Rows.noteFreshSpec.vars false W args.toList ds gs before) (hsm : Rows.uptoSmall H (ds ++ gs) = true) (hL : laidMetH Tryz.prog laidR W) :
    Calls Tryz.prog 3 args W fun e W' => ∃ v, e = .returned v ∧ Rows.noteFreshSpec.post enc Tryz.prog Tryz.f3 false true false false W args v W' := by
  have tabs := of_laidR hL
  have hW' := hW
  obtain ⟨p, q, hA0, hV, rfl, hfz, hnd⟩ := hW
  have hA : DataW.TrodAll enc Tryz.prog W 0 (fun _ => true) true Tryz.f3.params.toList args.toList ds p := hA0
  rw [Tryz.params3] at hA hval
  obtain ⟨v0, vs0, d0, ds0, p0, q0, hargs0, rfl, rfl, h0, r0⟩ := trodAll_cons hA
  obtain ⟨v1, vs1, d1, ds1, p1, q1, rfl, rfl, rfl, h1, r1⟩ := trodAll_cons r0
  obtain ⟨v2, vs2, d2, ds2, p2, q2, rfl, rfl, rfl, h2, r2⟩ := trodAll_cons r1
  obtain ⟨rfl, rfl, rfl⟩ := trodAll_nil r2
  obtain rfl : args = #[v0, v1, v2] := by cases args; simp_all
  obtain ⟨rfl, rfl⟩ := trodVars_none hV
  obtain ⟨a0, rfl, rfl, rfl, w0⟩ := open_string Tryz.underlying9 (hval 0 9 v0 rfl rfl) h0
  obtain ⟨a1, len1, cap1, rfl⟩ := okWide_slice Tryz.underlying22 (hval 1 22 v1 rfl rfl)
  obtain ⟨xs1, hr1, hy1, hz1⟩ := open_keys enc W a1 len1 cap1 d1 p1 h1
  obtain ⟨a2, rfl, rfl, rfl, w2⟩ := open_string Tryz.underlying9 (hval 2 9 v2 rfl rfl) h2
  have hsum : a0.size + 0 + a2.size ≤ 1048576 := by
    have h : Rows.uptoBulkAll ([.lit (.string a0.data.toList), d1, .lit (.string a2.data.toList)] ++ []) ≤ 1048576 := of_decide_eq_true hsm
    simp only [List.append_nil, Rows.uptoBulkAll, Rows.uptoBulk] at h
    have e0 : a0.data.toList.length = a0.size := Array.length_toList
    have e1 := hy1
    have e2 : a2.data.toList.length = a2.size := Array.length_toList
    omega
  have hb1 : xs1.length ≤ 1048576 ∧ ∀ k ∈ xs1, k.1.size ≤ 1048576 ∧ k.2.size ≤ 1048576 := by
    have h : Rows.uptoBulkAll ([.lit (.string a0.data.toList), d1, .lit (.string a2.data.toList)] ++ []) ≤ 1048576 := of_decide_eq_true hsm
    simp only [List.append_nil, Rows.uptoBulkAll] at h
    have hh : Rows.uptoBulk d1 ≤ 1048576 := by omega
    exact ⟨Nat.le_trans hy1 hh, fun k hk => ⟨Nat.le_trans (hz1 k hk).1 hh, Nat.le_trans (hz1 k hk).2 hh⟩⟩
  clear hA0 hsm
  simp only [List.append_nil] at hW'
  have hlt1 : ∀ x ∈ p1, x.block < W.heap.size := fun x hx => by simpa using hW'.lt x (by simp [hx])
  have hargs1k : ∀ (W' : World), Below W.heap.size W W' → DataW.Trod enc Tryz.prog W' 0 (fun b => decide (b < W.heap.size)) true 22 (.slice a1 len1 cap1) d1 p1 :=
    fun W' hn => Below.trod laidOut (by kernel_rfl) (of_decide_eq_true (by kernel_rfl)) h1 hn hlt1
  refine (Go.Proofs.YthdkbjbhjfiaiaaGreatDoor.vm.law_fresh a0 a2 (by omega) (by omega) (.slice a1 len1 cap1) xs1 W hr1 (by omega) (fun k hk => ⟨by have := (hb1.2 k hk).1; omega, by have := (hb1.2 k hk).2; omega⟩) (Tab4.of tabs.1) tabs.2).mono fun e W' ⟨he, hnx⟩ => ?_
  subst he
  have hA2 : DataW.TrodAll enc Tryz.prog W' 0 (fun b => decide (b < W.heap.size)) true [9, 22, 9] [.string a0, .slice a1 len1 cap1, .string a2] [.lit (.string a0.data.toList), d1, .lit (.string a2.data.toList)] (p1) := by simpa using (trodAll_cons_mk (shut_string Tryz.underlying9 w0) (trodAll_cons_mk (hargs1k _ hnx) (trodAll_cons_mk (shut_string Tryz.underlying9 w2) trodAll_mk0)))
  exact ⟨_, rfl, _, _, _, [], p1, [], hW', trodAll_cons_mk (shut_bool Tryz.underlying4 _) trodAll_mk0, hA2, rfl, hnx.frame _, fun h => by cases h⟩

noncomputable def laidWorld (os : Os) : World :=
  { World.doorLaid Tryz.prog 4000 os with heap := (World.doorLaid Tryz.prog 4000 os).heap.modify 8 fun
      | .cells _ t frozen => .cells (Go.Pinned.utf8FirstZ.map fun (n : Nat) => Value.int .u8 (n : Int)).toArray t frozen
      | o => o }
theorem laid_met (os : Os) : laidMet Tryz.prog Rows.noteFreshUptoRow.laid ((laidWorld os).forCall (fun _ _ => 0) ⟨#[], #[.string ByteArray.empty, .slice none 0 0, .string ByteArray.empty], []⟩).memory :=
  laidMet_of_run' 8 (by kernel_rfl) (by kernel_rfl)
theorem reads (os : Os) {H : Type} (enc : TypeId × Value → H) : ∃ places, DataW.whole enc Tryz.prog ((laidWorld os).forCall (fun _ _ => 0) ⟨#[], #[.string ByteArray.empty, .slice none 0 0, .string ByteArray.empty], []⟩).memory Tryz.f3.params.toList Rows.noteFreshSpec.vars false #[Value.string ByteArray.empty, Value.slice none 0 0, Value.string ByteArray.empty].toList 8 = some ([.lit (.string []), .nil, .lit (.string [])], [], places) :=
  ⟨[], by kernel_rfl⟩

set_option maxRecDepth 100000 in
theorem liftedUpto (os : Os) (started : os.Started) (H : Type) (enc : TypeId × Value → H) (F : Stop.Interp) :
    ReturnsInHanded {} Tryz.checked os 3 .any ((Rows.OpenSpec.upto Rows.noteFreshSpec).preRow enc Tryz.prog Tryz.f3 Rows.noteFreshUptoRow.domain false Rows.noteFreshUptoRow.laid) (((Rows.OpenSpec.upto Rows.noteFreshSpec).at F).post enc Tryz.prog Tryz.f3 false true false false) := by
  obtain ⟨places, hx⟩ := reads os enc
  refine returnsInHanded_of_row (C := Tryz.checked) (s := Rows.OpenSpec.upto Rows.noteFreshSpec) own started (by kernel_rfl) Tryz.func3
    (witness_row_at (enc := enc) (C := Tryz.checked) false (laidWorld os) #[.string ByteArray.empty, .slice none 0 0, .string ByteArray.empty] rfl (by kernel_rfl) (by kernel_rfl) (by kernel_rfl)
      (OpenSpec.preRow_of_cond 8 hx (by kernel_rfl) (fun k hk => by cases hk; kernel_rfl) (by kernel_rfl) (laid_met os))) ?_
  intro W base args ds gs before hval hW _ hcond _ hL _ _
  exact contract H enc W base args ds gs before hval hW (hcond _ rfl) hL

theorem saidUpto : Rows.NoteFreshUptoSaid :=
  OpenClaim.holds_of_cond 3 Tryz.f3 rfl rfl rfl rfl rfl rfl rfl ⟨rfl, rfl, rfl, rfl, rfl⟩ rfl rfl rfl rfl rfl (by kernel_rfl) Tryz.func3 (by kernel_rfl)
    (of_decide_eq_true (by kernel_rfl)) (by unfold Func.isWrapper; first | (rw [if_pos (by decide +kernel)]; kernel_rfl) | (rw [if_neg (by decide +kernel)]; exact ⟨rfl, rfl⟩))
    (fun os started H enc _ F => by rw [OpenClaim.pre_eq_preRow]; exact liftedUpto os started H enc F)

theorem plain (f : FuncId) (fn : Func) (hf : Tryz.pinned.checked.prog.funcNamed "annals/annalslaw20.NoteFresh" = some f) (hfn : Tryz.pinned.checked.prog.funcs[f]? = some fn) :
    true = Tryz.pinned.checked.prog.looks [] ∧ ∀ (j : Nat) t, fn.params[j]? = some t → Tryz.pinned.checked.prog.wantsStandIn t = false := by
  obtain rfl : f = 3 := Option.some.inj ((show Tryz.prog.funcNamed "annals/annalslaw20.NoteFresh" = some 3 by kernel_rfl).symm.trans hf) |>.symm
  obtain rfl : fn = Tryz.f3 := (Option.some.inj (Tryz.func3.symm.trans hfn)).symm
  refine ⟨by kernel_rfl, fun j t ht => ?_⟩
  rw [Tryz.params3] at ht
  have hm : t ∈ ([9, 22, 9] : List TypeId) := by simpa using Array.mem_of_getElem? ht
  have hall : (([9, 22, 9] : List TypeId).all fun u => !Tryz.prog.wantsStandIn u) = true := by kernel_rfl
  exact (show Tryz.prog.wantsStandIn t = false by simpa using List.all_eq_true.1 hall t hm)

theorem card_holds : Rows.NoteFreshUptoCardSaid :=
  Claim7.holds_tied_plain_at .later [] _ _ _ _ saidUpto (fun _ h => by cases h) (by kernel_rfl) (fun _ h => by cases h) noteFreshUpto_row_tie rfl ⟨rfl, rfl⟩ (by kernel_rfl) rfl plain (by kernel_rfl)
end Go.Proofs.YthdkbjbhjfiaiaaGreatDoor.noteFresh
namespace Go.Proofs.YthdkbjbhjfiaiaaGreatDoor
theorem noteFresh_holds : Rows.NoteFreshUptoCardSaid := noteFresh.card_holds
#print axioms noteFresh_holds
end Go.Proofs.YthdkbjbhjfiaiaaGreatDoor
