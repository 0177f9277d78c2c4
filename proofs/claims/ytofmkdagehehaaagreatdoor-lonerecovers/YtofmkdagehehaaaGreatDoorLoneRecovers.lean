import Derived.Test.YtofmkdagehehaaaGreatDoorC1
import Derived.Test.YtofmkdagehehaaaGreatDoorA4
import Derived.ChangeSlices
import Derived.Deep.MidRow
import Derived.Test.YtofmkdagehehaaaGreatDoorTie
import Derived.Test.YtofmkdagehehaaaGreatDoorCards
import Derived.ProofKit
import Derived.LaidMore
import Derived.OpenShut
import Derived.SliceStrings
import Derived.Carry
import Derived.Stop.Joined
import Derived.SevenTiedAt
import Derived.SizedLaws
import Derived.Lib.SmallJoins
namespace Go.Proofs.YtofmkdagehehaaaGreatDoor.loneRecovers
open Go.ChangeShapes Go.WideShapes Go.ChangeAt Go.WideMaps Go.WideElems Go.RowKit Go.Joins
open Go.ChangeMaps (open_string shut_string)
open Go.Proofs.YtofmkdagehehaaaGreatDoor.ft
open Go.Proofs.YtofmkdagehehaaaGreatDoor.ka Go.Proofs.YtofmkdagehehaaaGreatDoor.hk Go.Proofs.YtofmkdagehehaaaGreatDoor.hp
set_option linter.unusedVariables false

theorem laidOut : laidOutB Tryz.prog = true := by kernel_rfl


theorem cells9 : Tryz.prog.cellsOf 9 = 1 := by kernel_rfl
theorem bytes9 : Tryz.prog.bytesOf 9 = 16 := by kernel_rfl
theorem weight_mem {H : Type} (l : List ByteArray) (s : ByteArray) (h : s ∈ l) : s.data.toList.length ∈ DataW.weightsAll Tryz.prog 9 (strs (H := H) l) := by
  induction l with
  | nil => cases h
  | cons x l ih =>
    show _ ∈ DataW.weights Tryz.prog 9 (.lit (.string x.data.toList)) ++ DataW.weightsAll Tryz.prog 9 (strs (H := H) l)
    rcases List.mem_cons.1 h with rfl | h
    · exact List.mem_append_left _ (by simp [DataW.weights])
    · exact List.mem_append_right _ (ih h)
theorem open_list {H : Type} (enc : TypeId × Value → H) (W : World) (a : Option Addr) (len cap : Nat) (d : DataW H) (p : List MemPlace) (h0 : DataW.Trod enc Tryz.prog W 0 (fun _ => true) true 22 (.slice a len cap) d p) :
    ∃ xs, ReadsT W (.slice a len cap) xs ∧ ((∀ k ∈ DataW.weights Tryz.prog 22 d, k ≤ 140737488351232) → (∀ x ∈ xs, x.size ≤ 140737488351232) ∧ xs.length * 16 ≤ 140737488351232) ∧ (a = none → cap = 0) := by
  obtain ⟨fuel, hf⟩ := h0
  rcases open_strings Tryz.underlying22 Tryz.underlying9 cells9 hf with ⟨hcs, hx⟩ | ⟨a', len', cap', ss, hcs, _, hl, hm, hz, hx, hcell, hws⟩
  · simp [Value.cells] at hcs
    obtain ⟨rfl, rfl, rfl⟩ := hcs
    exact ⟨[], ⟨none, 0, rfl, Nat.le_refl _, .inl rfl⟩, fun _ => ⟨fun x h => (by cases h), (by simp)⟩, fun _ => rfl⟩
  · simp [Value.cells] at hcs
    obtain ⟨rfl, rfl, rfl⟩ := hcs
    simp only [Prod.mk.injEq] at hx
    obtain ⟨rfl, rfl⟩ := hx
    simp only [if_true] at hz
    have hlen : (ss.take len).length = len := by rw [List.length_take]; omega
    refine ⟨ss.take len, ⟨some a', cap, by rw [hlen], by rw [hlen]; omega, ?_⟩, fun hw => ⟨fun x hxm => ?_, ?_⟩, fun e => by cases e⟩
    · by_cases hl0 : len = 0
      · exact .inl (by rw [hlen]; exact hl0)
      · right
        obtain ⟨b, off, spot⟩ := a'
        have hspot : spot = none := by simpa [Addr.add] using World.cell?_spot (hcell 0 (by omega))
        subst hspot
        refine ⟨b, off, rfl, fun i hi => ?_⟩
        rw [hlen] at hi
        have := hcell i (by omega)
        rw [Addr.add_mid] at this
        rw [this, List.getD_eq_getElem?_getD, List.getD_eq_getElem?_getD, List.getElem?_take, if_pos hi]
    · have h1 := weight_mem (H := H) _ _ hxm
      have h2 := hw x.data.toList.length (by
        simp only [DataW.weights, Tryz.underlying22]
        exact List.mem_cons_of_mem _ (List.mem_append_left _ h1))
      have e : x.data.toList.length = x.size := Array.length_toList
      omega
    · have h2 := hw (((strs (H := H) (ss.take len)).length + (strs (H := H) (ss.drop len)).length) * 16) (by
        simp only [DataW.weights, Tryz.underlying22, bytes9]
        exact List.mem_cons_self)
      rw [hlen]
      simp only [strs, List.length_map, List.length_take, List.length_drop] at h2
      omega
theorem cells22 : Tryz.prog.cellsOf 22 = 1 := by kernel_rfl
theorem bytes22 : Tryz.prog.bytesOf 22 = 24 := by kernel_rfl
theorem all_mem {H : Type} (t : TypeId) (l : List (DataW H)) (d : DataW H) (h : d ∈ l) (k : Nat) (hk : k ∈ DataW.weights Tryz.prog t d) : k ∈ DataW.weightsAll Tryz.prog t l := by
  induction l with
  | nil => cases h
  | cons x l ih =>
    show _ ∈ DataW.weights Tryz.prog t x ++ DataW.weightsAll Tryz.prog t l
    rcases List.mem_cons.1 h with rfl | h
    · exact List.mem_append_left _ hk
    · exact List.mem_append_right _ (ih h)
theorem picks {α : Type} {P : Nat → α → Prop} (len : Nat) (h : ∀ i, i < len → ∃ l, P i l) : ∃ bs : List α, bs.length = len ∧ ∀ i l, bs[i]? = some l → P i l := by
  induction len with
  | zero => exact ⟨[], rfl, fun i l h => by simp at h⟩
  | succ n ih =>
    obtain ⟨bs, h1, h2⟩ := ih (fun i hi => h i (by omega))
    obtain ⟨x, hx⟩ := h n (by omega)
    refine ⟨bs ++ [x], by simp [h1], fun i l hl => ?_⟩
    by_cases hi : i < n
    · rw [List.getElem?_append_left (by omega)] at hl
      exact h2 i l hl
    · rw [List.getElem?_append_right (by omega)] at hl
      have hi' : i = n := by have := (List.getElem?_eq_some_iff.1 hl).1; simp at this; omega
      subst hi'
      rw [h1, Nat.sub_self] at hl
      simp at hl
      rw [← hl]
      exact hx
theorem open_lists {H : Type} (enc : TypeId × Value → H) (W : World) (a : Option Addr) (len cap : Nat) (d : DataW H) (p : List MemPlace) (h0 : DataW.Trod enc Tryz.prog W 0 (fun _ => true) true 33 (.slice a len cap) d p) :
    ∃ bs, ReadsK W (.slice a len cap) bs ∧ ((∀ k ∈ DataW.weights Tryz.prog 33 d, k ≤ 140737488351232) → bs.length * 24 ≤ 140737488351232 ∧ ∀ l ∈ bs, l.length * 16 ≤ 140737488351232) := by
  obtain ⟨fuel, hf⟩ := h0
  rcases DataW.trod_slice Tryz.underlying33 hf with ⟨hcs, hx⟩ | ⟨a', len', cap', elems, rest, n, _, hcs, hx, hb, hl, hm, hlen, hel, hsp, hns⟩
  · simp [Value.cells] at hcs
    obtain ⟨rfl, rfl, rfl⟩ := hcs
    exact ⟨[], ⟨none, 0, rfl, .inl rfl⟩, fun _ => ⟨by simp, fun l h => by cases h⟩⟩
  · simp [Value.cells] at hcs
    obtain ⟨rfl, rfl, rfl⟩ := hcs
    simp only [Prod.mk.injEq] at hx
    obtain ⟨rfl, _⟩ := hx
    obtain ⟨bs, hbl, hbs⟩ := picks (P := fun i l => ∃ y a2 l2 c2, elems[i]? = some y ∧ W.cell? (a'.add i) = some (.slice a2 l2 c2) ∧ ReadsT W (.slice a2 l2 c2) l ∧ ((∀ k ∈ DataW.weights Tryz.prog 22 y.1, k ≤ 140737488351232) → (∀ x ∈ l, x.size ≤ 140737488351232) ∧ l.length * 16 ≤ 140737488351232) ∧ (a2 = none → c2 = 0)) len (fun i hi => by
      have h1 := hel i hi
      obtain ⟨y, hy⟩ : ∃ y, elems[i]? = some y := ⟨elems[i]'(by omega), List.getElem?_eq_getElem _⟩
      rw [hy, cells22, Nat.mul_one, Option.bind_eq_some_iff] at h1
      obtain ⟨cs', hc1, hc2⟩ := h1
      obtain ⟨a2, l2, c2, rfl⟩ : ∃ a2 l2 c2, cs' = [.slice a2 l2 c2] := by
        rcases open_strings Tryz.underlying22 Tryz.underlying9 cells9 hc2 with ⟨h2, _⟩ | ⟨a2, l2, c2, ss, h2, _⟩
        · exact ⟨_, _, _, h2⟩
        · exact ⟨_, _, _, h2⟩
      obtain ⟨xs, hr, hd, hz⟩ := open_list enc W a2 l2 c2 y.1 y.2 ⟨n, by simpa [Value.cells] using hc2⟩
      exact ⟨xs, y, a2, l2, c2, hy, cell_of_cells?_one hc1, hr, hd, hz⟩)
    refine ⟨bs, ⟨some a', cap, by rw [hbl], ?_⟩, fun hw => ⟨?_, fun l hl' => ?_⟩⟩
    · by_cases hl0 : len = 0
      · exact .inl (by rw [hbl]; exact hl0)
      · right
        obtain ⟨b, off, spot⟩ := a'
        have hspot : spot = none := by
          obtain ⟨y, a2, l2, c2, _, hc, _⟩ := hbs 0 (bs[0]'(by omega)) (List.getElem?_eq_getElem _)
          simpa [Addr.add] using World.cell?_spot hc
        subst hspot
        refine ⟨b, off, rfl, fun i l hil => ?_⟩
        obtain ⟨y, a2, l2, c2, _, hc, hr, _, hz⟩ := hbs i l hil
        obtain ⟨a3, c3, e3, hle, _⟩ := id hr
        injection e3 with e4 e5 e6
        subst e4 e5 e6
        rw [Addr.add_mid] at hc
        exact ⟨a2, c2, hc, hr, fun n c e => by injection e with q1 _ q3; rw [← q3]; exact hz q1⟩
    · have h2 := hw ((elems.map (·.1)).length * 24 + (rest.map (·.1)).length * 24) (by
        simp only [DataW.weights, Tryz.underlying33, bytes22, Nat.add_mul]
        exact List.mem_cons_self)
      simp only [List.length_map] at h2
      omega
    · obtain ⟨i, hi⟩ := List.getElem?_of_mem hl'
      obtain ⟨y, a2, l2, c2, hy, _, _, hd, _⟩ := hbs i l hi
      refine (hd (fun k hk => hw k ?_)).2
      simp only [DataW.weights, Tryz.underlying33]
      exact List.mem_cons_of_mem _ (List.mem_append_left _ (all_mem 22 _ y.1 (List.mem_map.2 ⟨y, List.mem_of_getElem? hy, rfl⟩) k hk))
theorem cells33 : Tryz.prog.cellsOf 33 = 1 := by kernel_rfl
theorem cells3 : Tryz.prog.cellsOf 3 = 1 := by kernel_rfl
theorem cells45 : Tryz.prog.cellsOf 45 = 5 := by kernel_rfl
theorem bytes45 : Tryz.prog.bytesOf 45 = 64 := by kernel_rfl
theorem trod5 {H : Type} {enc : TypeId × Value → H} {P : Program} {w : World} {base : Nat} {spare : Nat → Bool} {held : Bool} {t : TypeId} {f0 f1 f2 f3 f4 : Field} {fuel : Nat} {cs : List Value} {x : DataW H × List MemPlace} (ht : P.underlying t = some (.struct #[f0, f1, f2, f3, f4])) (h : DataW.trod enc P w base spare held fuel t cs = some x) :
    ∃ y0 y1 y2 y3 y4 n, x.1 = .agg [y0.1, y1.1, y2.1, y3.1, y4.1] ∧ cs.length = P.cellsOf t ∧ DataW.trod enc P w base spare held n f0.type ((cs.drop f0.offset).take (P.cellsOf f0.type)) = some y0 ∧
      DataW.trod enc P w base spare held n f1.type ((cs.drop f1.offset).take (P.cellsOf f1.type)) = some y1 ∧ DataW.trod enc P w base spare held n f2.type ((cs.drop f2.offset).take (P.cellsOf f2.type)) = some y2 ∧
      DataW.trod enc P w base spare held n f3.type ((cs.drop f3.offset).take (P.cellsOf f3.type)) = some y3 ∧ DataW.trod enc P w base spare held n f4.type ((cs.drop f4.offset).take (P.cellsOf f4.type)) = some y4 := by
  obtain ⟨xs, n, _, rfl, hl, hlen, hf⟩ := DataW.trod_struct ht h
  match xs, hlen with
  | [y0, y1, y2, y3, y4], _ => exact ⟨y0, y1, y2, y3, y4, n, by simp, hl, by simpa using hf 0 f0 rfl, by simpa using hf 1 f1 rfl, by simpa using hf 2 f2 rfl, by simpa using hf 3 f3 rfl, by simpa using hf 4 f4 rfl⟩
theorem open_storms {H : Type} (enc : TypeId × Value → H) (W : World) (a : Option Addr) (len cap : Nat) (d : DataW H) (p : List MemPlace) (h0 : DataW.Trod enc Tryz.prog W 0 (fun _ => true) true 43 (.slice a len cap) d p) :
    ∃ ss, ReadsM W (.slice a len cap) ss ∧ ((∀ k ∈ DataW.weights Tryz.prog 43 d, k ≤ 140737488351232) → ss.length * 64 ≤ 140737488351232 ∧ ∀ st ∈ ss, st.bs.length * 24 ≤ 140737488351232 ∧ (∀ l ∈ st.bs, l.length * 16 ≤ 140737488351232) ∧ st.keep.size ≤ 140737488351232 ∧ st.after ≤ 9223372036854775807) := by
  obtain ⟨fuel, hf⟩ := h0
  rcases DataW.trod_slice Tryz.underlying43 hf with ⟨hcs, hx⟩ | ⟨a', len', cap', elems, rest, n, _, hcs, hx, hb, hl, hm, hlen, hel, hsp, hns⟩
  · simp [Value.cells] at hcs
    obtain ⟨rfl, rfl, rfl⟩ := hcs
    exact ⟨[], ⟨none, 0, rfl, .inl rfl⟩, fun _ => ⟨by simp, fun l h => by cases h⟩⟩
  · simp [Value.cells] at hcs
    obtain ⟨rfl, rfl, rfl⟩ := hcs
    simp only [Prod.mk.injEq] at hx
    obtain ⟨rfl, _⟩ := hx
    obtain ⟨ss, hbl, hbs⟩ := picks (P := fun i (st : Stm) => ∃ y bv, elems[i]? = some y ∧ (W.cell? (a'.add (i * 5)) = some bv ∧ W.cell? ((a'.add (i * 5)).add 1) = some (.int .i64 st.syncs) ∧ W.cell? ((a'.add (i * 5)).add 2) = some (.int .i64 st.at_) ∧ W.cell? ((a'.add (i * 5)).add 3) = some (.int .i64 st.after) ∧ W.cell? ((a'.add (i * 5)).add 4) = some (.string st.keep)) ∧ ReadsK W bv st.bs ∧ ((∀ k ∈ DataW.weights Tryz.prog 45 y.1, k ≤ 140737488351232) → st.bs.length * 24 ≤ 140737488351232 ∧ (∀ l ∈ st.bs, l.length * 16 ≤ 140737488351232) ∧ st.keep.size ≤ 140737488351232 ∧ st.after ≤ 9223372036854775807)) len (fun i hi => by
      have h1 := hel i hi
      obtain ⟨y, hy⟩ : ∃ y, elems[i]? = some y := ⟨elems[i]'(by omega), List.getElem?_eq_getElem _⟩
      rw [hy, cells45, Option.bind_eq_some_iff] at h1
      obtain ⟨cs', hc1, hc2⟩ := h1
      obtain ⟨_, hlen', hc⟩ := World.cells?_some hc1
      obtain ⟨y0, y1, y2, y3, y4, n', hx', _, k0, k1, k2, k3, k4⟩ := trod5 Tryz.underlying45 hc2
      simp only [cells33, cells3, cells9] at k0 k1 k2 k3 k4
      obtain ⟨sy, e1, r1, _⟩ := DataW.trod_int Tryz.underlying3 k1
      obtain ⟨av, e2, r2, _⟩ := DataW.trod_int Tryz.underlying3 k2
      obtain ⟨af, e3, r3, w3⟩ := DataW.trod_int Tryz.underlying3 k3
      obtain ⟨kp, e4, r4, _⟩ := DataW.trod_string Tryz.underlying9 k4
      obtain ⟨a2, l2, c2, e0⟩ : ∃ a2 l2 c2, (cs'.drop 0).take 1 = [.slice a2 l2 c2] := by
        rcases DataW.trod_slice Tryz.underlying33 k0 with ⟨h2, _⟩ | ⟨a2, l2, c2, _, _, _, _, h2, _⟩
        · exact ⟨_, _, _, h2⟩
        · exact ⟨_, _, _, h2⟩
      have k0' : DataW.trod enc Tryz.prog W 0 (fun _ => true) true n' 33 [.slice a2 l2 c2] = some y0 := by rw [← e0]; exact k0
      obtain ⟨bs, hr, hd⟩ := open_lists enc W a2 l2 c2 y0.1 y0.2 ⟨n', by simpa [Value.cells] using k0'⟩
      have g0 : cs'[0]? = some (.slice a2 l2 c2) := by have := congrArg (·[0]?) e0; simpa using this
      have g1 : cs'[1]? = some (.int .i64 sy) := by have := congrArg (·[0]?) e1; simpa using this
      have g2 : cs'[2]? = some (.int .i64 av) := by have := congrArg (·[0]?) e2; simpa using this
      have g3 : cs'[3]? = some (.int .i64 af) := by have := congrArg (·[0]?) e3; simpa using this
      have g4 : cs'[4]? = some (.string kp) := by have := congrArg (·[0]?) e4; simpa using this
      have q0 := hc 0 (by omega)
      have q1 := hc 1 (by omega)
      have q2 := hc 2 (by omega)
      have q3 := hc 3 (by omega)
      have q4 := hc 4 (by omega)
      have ez : (a'.add (i * 5)).add 0 = a'.add (i * 5) := by simp [Addr.add]
      rw [ez] at q0
      refine ⟨⟨bs, sy, av, af, kp⟩, y, .slice a2 l2 c2, hy, ⟨q0.trans g0, q1.trans g1, q2.trans g2, q3.trans g3, q4.trans g4⟩, hr, fun hw => ?_⟩
      rw [hx'] at hw
      simp only [DataW.weights, Tryz.underlying45] at hw
      simp only [List.map_cons, List.map_nil, DataW.weightsEach, List.append_nil] at hw
      have hA := hd (fun k hk => hw k (List.mem_append_left _ hk))
      have hB := hw kp.data.toList.length (by
        rw [r4]
        simp only [List.mem_append]
        exact .inr (.inr (.inr (.inr (by simp [DataW.weights])))))
      have e5 : kp.data.toList.length = kp.size := Array.length_toList
      exact ⟨hA.1, hA.2, by simp only; omega, (bounds_i64 w3).2⟩)
    refine ⟨ss, ⟨some a', cap, by rw [hbl], ?_⟩, fun hw => ⟨?_, fun st hst => ?_⟩⟩
    · by_cases hl0 : len = 0
      · exact .inl (by rw [hbl]; exact hl0)
      · right
        obtain ⟨b, off, spot⟩ := a'
        have hspot : spot = none := by
          obtain ⟨y, bv, _, ⟨hc, _⟩, _⟩ := hbs 0 (ss[0]'(by omega)) (List.getElem?_eq_getElem _)
          simpa [Addr.add] using World.cell?_spot hc
        subst hspot
        refine ⟨b, off, rfl, fun i st hil => ?_⟩
        obtain ⟨y, bv, _, ⟨c0, c1, c2, c3, c4⟩, hr, _⟩ := hbs i st hil
        simp only [Addr.add_mid] at c0 c1 c2 c3 c4
        exact ⟨bv, c0, hr, c1, c2, c3, c4⟩
    · have h2 := hw ((elems.map (·.1)).length * 64 + (rest.map (·.1)).length * 64) (by
        simp only [DataW.weights, Tryz.underlying43, bytes45, Nat.add_mul]
        exact List.mem_cons_self)
      simp only [List.length_map] at h2
      omega
    · obtain ⟨i, hi⟩ := List.getElem?_of_mem hst
      obtain ⟨y, bv, hy, _, _, hd⟩ := hbs i st hi
      refine hd (fun k hk => hw k ?_)
      simp only [DataW.weights, Tryz.underlying43]
      exact List.mem_cons_of_mem _ (List.mem_append_left _ (all_mem 45 _ y.1 (List.mem_map.2 ⟨y, List.mem_of_getElem? hy, rfl⟩) k hk))

set_option maxRecDepth 100000 in
theorem lifted (os : Os) (started : os.Started) (H : Type) (enc : TypeId × Value → H) :
    ReturnsInHanded {} Tryz.checked os 5 .any (fun w args => (Rows.loneRecoversSpec.pre enc Tryz.prog Tryz.f5 [] false w args ∧ laidMetH Tryz.prog laid2 w) ∧ sizedMet enc Tryz.prog Tryz.f5 (OpenSpec.ofChange Rows.loneRecoversSpec) false w args)
      (Rows.loneRecoversSpec.post enc Tryz.prog Tryz.f5 false true false false) := by
  refine returnsInHanded_of_change_and (C := Tryz.checked) (X := fun w _ => laidMetH Tryz.prog laid2 w) (fun _ _ _ hh h => h.of_heap hh) own started (by kernel_rfl) Tryz.func5
    (ChangeSpec.witness_shaped (enc := enc) (C := Tryz.checked) (os := os) (X := fun w _ => laidMetH Tryz.prog laid2 w) false (World.doorLaid Tryz.prog 400 os) #[.int .i64 0, .slice none 0 0] 8 rfl (World.shaped_of_RefB (by kernel_rfl) (by kernel_rfl)) (by kernel_rfl) (by kernel_rfl) (by kernel_rfl) (door_met2 os _)) ?_
  intro W base args ds gs before hval0 hW _ hsz0 hL _
  have hval : ∀ (j : Nat) t v, Tryz.f5.params[j]? = some t → args[j]? = some v → Value.okWide Tryz.prog W .any base t v := hval0
  have hW' := hW
  obtain ⟨p, q, hA0, hV, rfl, hfz, hnd⟩ := hW
  have hA : DataW.TrodAll enc Tryz.prog W 0 (fun _ => true) true Tryz.f5.params.toList args.toList ds p := hA0
  have hsz : (DataW.weightsEach Tryz.prog (Tryz.f5.params.toList ++ Rows.loneRecoversSpec.plain.varTypes Tryz.prog) (ds ++ gs)).all (· ≤ reachBytes) = true := hsz0
  rw [Tryz.params5] at hA hval hsz
  obtain ⟨v0, vs0, d0, ds0, p0, q0, hargs0, rfl, rfl, h0, r0⟩ := trodAll_cons hA
  obtain ⟨v1, vs1, d1, ds1, p1, q1, rfl, rfl, rfl, h1, r1⟩ := trodAll_cons r0
  obtain ⟨rfl, rfl, rfl⟩ := trodAll_nil r1
  obtain rfl : args = #[v0, v1] := by cases args; simp_all
  obtain ⟨rfl, rfl⟩ := trodVars_none hV
  obtain ⟨a0, rfl, rfl, rfl, w0⟩ := open_int Tryz.underlying3 (hval 0 3 v0 rfl rfl) h0
  obtain ⟨a1, len1, cap1, rfl⟩ := okWide_slice Tryz.underlying43 (hval 1 43 v1 rfl rfl)
  obtain ⟨xs1, hr1, hd1⟩ := open_storms enc W a1 len1 cap1 d1 p1 h1
  have hsz1 : xs1.length * 64 ≤ 140737488351232 ∧ ∀ st ∈ xs1, st.bs.length * 24 ≤ 140737488351232 ∧ (∀ l ∈ st.bs, l.length * 16 ≤ 140737488351232) ∧ st.keep.size ≤ 140737488351232 ∧ st.after ≤ 9223372036854775807 := hd1 (fun k hk => by
    have h2 := List.all_eq_true.1 hsz _ (DataW.weights_mem_each (j := 1) (t := 43) rfl rfl k hk)
    have h3 : k ≤ reachBytes := by simpa using h2
    unfold reachBytes at h3
    omega)
  have tabs := of_laid2 hL
  clear hA0 hval0 hsz0 hsz
  simp only [List.append_nil] at hW'
  have hlt1 : ∀ x ∈ p1, x.block < W.heap.size := fun x hx => by simpa using hW'.lt x (by simp [hx])
  have hargs1k : ∀ (W' : World), Below W.heap.size W W' → DataW.Trod enc Tryz.prog W' 0 (fun b => decide (b < W.heap.size)) true 43 (.slice a1 len1 cap1) d1 p1 :=
    fun W' hn => Below.trod laidOut (by kernel_rfl) (of_decide_eq_true (by kernel_rfl)) h1 hn hlt1
  refine (Go.Proofs.YtofmkdagehehaaaGreatDoor.wr.recovers_walk W a0 w0 (.slice a1 len1 cap1) xs1 hr1 hsz1.1 hsz1.2 tabs).mono fun e W' ⟨he, hnx⟩ => ?_
  subst he
  have hA2 : DataW.TrodAll enc Tryz.prog W' 0 (fun b => decide (b < W.heap.size)) true [3, 43] [.int .i64 a0, .slice a1 len1 cap1] [.lit (.int .i64 a0), d1] (p1) := by simpa using (trodAll_cons_mk (shut_int Tryz.underlying3 w0) (trodAll_cons_mk (hargs1k _ hnx) trodAll_mk0))
  exact ⟨_, rfl, _, _, _, [], p1, [], hW', trodAll_cons_mk (shut_bool Tryz.underlying4 _) trodAll_mk0, hA2, rfl, hnx.frame _, fun h => by cases h⟩

theorem row_holds : Rows.LoneRecoversSaid :=
  OpenClaim.holds_of_wide 5 Tryz.f5 rfl rfl rfl rfl rfl rfl rfl ⟨rfl, rfl, rfl, rfl, rfl⟩ rfl rfl rfl rfl rfl (by kernel_rfl) Tryz.func5 (by kernel_rfl)
    (of_decide_eq_true (by kernel_rfl)) (by unfold Func.isWrapper; first | (rw [if_pos (by decide +kernel)]; kernel_rfl) | (rw [if_neg (by decide +kernel)]; exact ⟨rfl, rfl⟩))
    (fun os started H enc _ => lifted os started H enc)

theorem card_holds : Rows.LoneRecoversCardSaid :=
  Claim7.holds_tied_plain_at .later [] [.data, .data] true (true, "b077d7a1286e417dad01f993e5fd7bb70cb8a30e59bad197bfa8f56ff49182c1") true
    row_holds (fun _ h => by cases h) (by kernel_rfl) (fun _ h => by cases h) loneRecovers_row_tie rfl ⟨rfl, rfl⟩ (by kernel_rfl) rfl
    (fun f fn hf hfn => by
      obtain rfl : f = 5 := Option.some.inj ((show Tryz.prog.funcNamed "annals/annalslaw15.LoneRecovers" = some 5 by kernel_rfl).symm.trans hf) |>.symm
      obtain rfl : fn = Tryz.f5 := (Option.some.inj (Tryz.func5.symm.trans hfn)).symm
      exact ⟨by kernel_rfl, fun j t ht => by
        rw [Tryz.params5] at ht
        have hm : t ∈ ([3, 43] : List TypeId) := by simpa using Array.mem_of_getElem? ht
        have hall : (([3, 43] : List TypeId).all fun u => !Tryz.prog.wantsStandIn u) = true := by kernel_rfl
        exact (show Tryz.prog.wantsStandIn t = false by simpa using List.all_eq_true.1 hall t hm)⟩)
    (by kernel_rfl)
end Go.Proofs.YtofmkdagehehaaaGreatDoor.loneRecovers
namespace Go.Proofs.YtofmkdagehehaaaGreatDoor
theorem loneRecovers_holds : Rows.LoneRecoversCardSaid := loneRecovers.card_holds
#print axioms loneRecovers_holds
end Go.Proofs.YtofmkdagehehaaaGreatDoor
