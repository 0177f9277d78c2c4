import Derived.Test.YtkgadgkomdjplaaKa
import Derived.Deep.AppendLies
import Derived.Laws.AppendOwnNone
import Derived.Lib.SliceRun
import Derived.BigQuiet
import Derived.RowKit3
import Derived.Handy
import Derived.Deep.DeepCutAuto
namespace Go.Proofs.Ytkgadgkomdjplaa.lg
open Go.RowKit Go.PlainAid
open Go.Proofs.Ytkgadgkomdjplaa.ca Go.Proofs.Ytkgadgkomdjplaa.cp Go.Proofs.Ytkgadgkomdjplaa.ka
set_option linter.unusedVariables false

theorem info_parts {t : TypeId} {z : Value} {n b : Nat} (h : (Try.prog.info? t).map (fun i => (i.zero, i.size, i.bytes)) = some (some z, n, b)) : ∃ i, Try.prog.info? t = some i ∧ i.zero = some z ∧ i.size = n ∧ i.bytes = b := by
  obtain ⟨i, hi, he⟩ := Option.map_eq_some_iff.1 h
  injection he with e1 e2
  injection e2 with e2 e3
  exact ⟨i, hi, e1, e2, e3⟩
theorem hiE : (Try.prog.info? 9).map (fun i => (i.zero, i.size, i.bytes)) = some (some (.string ByteArray.empty), 1, 16) := by kernel_rfl
theorem own_form {w : World} {B e s n : Nat} {v : Value} {xs : List Value} (h : w.ownsRow B e s v n xs) : ∃ a c, v = .slice a n c := by
  rcases h.2 with ⟨h, h2⟩ | ⟨g, cap, cur, h, _⟩
  · exact ⟨none, 0, by rw [h, h2]⟩
  · exact ⟨_, _, h⟩
theorem ones (hs : List ByteArray) : ∀ u ∈ hs.map (Value.string), u.oneCell' = true := by
  intro u hu
  obtain ⟨x, _, rfl⟩ := List.mem_map.1 hu
  rfl
theorem new_one (W : World) (u : Value) (t : TypeId) : ∀ (j : Nat) (x : Value), [u][j]? = some x → (W.alloc (.cells #[u] t)).cell? (Addr.add ⟨W.heap.size, 0, none⟩ j) = some x := by
  intro j x hx
  rw [show (Addr.add ⟨W.heap.size, 0, none⟩ j) = ⟨W.heap.size, j, none⟩ by cases j <;> simp [Addr.add], World.cell?_alloc_at _ _ _ _ rfl]
  simpa using hx
-- a list's twin, with a mark behind it
def Tw (w : World) (B g n cp : Nat) (xs : List ByteArray) : Prop := w.ownsRow B 9 1 (.slice (some ⟨g, 0, none⟩) (n + 1) cp) (n + 1) (xs.map (Value.string) ++ [(Value.string ⟨#[98, 101, 104, 105, 110, 100]⟩)])
theorem Tw.later {w w' : World} {B g n cp : Nat} {xs : List ByteArray} (h : Tw w B g n cp xs) (hb : Below w.heap.size w w') : Tw w' B g n cp xs := own_later h hb
theorem Tw.cell {w : World} {B g n cp : Nat} {xs : List ByteArray} (h : Tw w B g n cp xs) (hn : xs.length = n) : (∀ i, i < n → w.cell? ⟨g, i, none⟩ = some (Value.string (xs.getD i ByteArray.empty))) ∧ w.cell? ⟨g, n, none⟩ = some (Value.string ⟨#[98, 101, 104, 105, 110, 100]⟩) ∧ n + 1 ≤ cp := by
  refine ⟨fun i hi => ?_, ?_, ?_⟩
  · rw [h.cellAt i (by omega), List.getElem?_append_left (by rw [List.length_map]; omega), List.getElem?_map, List.getElem?_eq_getElem (by omega), List.getD_eq_getElem?_getD, List.getElem?_eq_getElem (by omega)]
    rfl
  · rw [h.cellAt n (by omega), List.getElem?_append_right (by rw [List.length_map]; omega), List.length_map, hn, Nat.sub_self]
    rfl
  · rcases h.2 with ⟨e, _⟩ | ⟨g', cap', cur, e, _, _, hc, _⟩
    · cases e
    · injection e with _ _ e3; omega
theorem Tw.reads {w : World} {B g n cp : Nat} {xs : List ByteArray} (h : Tw w B g n cp xs) (hn : xs.length = n) : ReadsT w (.slice (some ⟨g, 0, none⟩) n cp) xs := by
  obtain ⟨h1, h2, h3⟩ := h.cell hn
  refine ⟨_, cp, by rw [hn], by omega, .inr ⟨g, 0, rfl, fun i hi => ?_⟩⟩
  rw [Nat.zero_add]
  exact h1 i (by omega)
set_option maxRecDepth 100000 in
set_option maxHeartbeats 1600000 in
theorem twinC (u : Value) (hs : List ByteArray) (w : World) (hR : ReadsT w u hs) (hno : ∀ k c, u = .slice none k c → c = 0) (hz : hs.length * 16 ≤ 140737488351232) :
    Calls Try.prog 11 #[u] w fun e w' => (∃ g cp, e = .returned (.slice (some ⟨g, 0, none⟩) (hs.length + 1) cp) ∧ Tw w' w.heap.size g hs.length cp hs) ∧ Below w.heap.size w w' := by
  obtain ⟨i9, hi, hz0, hz1, hz2⟩ := info_parts hiE
  have HIN : Hid (_ ∧ _ ∧ _ ∧ _) := ⟨hi, hz0, hz1, hz2⟩
  obtain ⟨a, cap, rfl, hcap, hh⟩ := hR
  have HH : Hid (hs.length = 0 ∨ ∃ b off, a = some ⟨b, off, none⟩ ∧ ∀ i, i < hs.length → w.cell? ⟨b, off + i, none⟩ = some (Value.string (hs.getD i ByteArray.empty))) := hh
  obtain ⟨n, HN⟩ : ∃ n, Hid (hs.length = n) := ⟨_, rfl⟩
  have MO : Hid (∀ u ∈ [(Value.string ⟨#[98, 101, 104, 105, 110, 100]⟩)], u.oneCell' = true) := fun u hu => by simp only [List.mem_cons, List.not_mem_nil, or_false] at hu; subst hu; rfl
  have OX : Hid (w.ownsRow w.heap.size 9 1 (.slice none 0 0) 0 []) := World.ownsRow_nil _ _ _ _
  have ENDS : Hid (∀ (w5 : World) (p' : Value), w5.ownsRow w.heap.size 9 1 p' (n + 1) (hs.map (Value.string) ++ [(Value.string ⟨#[98, 101, 104, 105, 110, 100]⟩)]) → ∃ g cp, p' = .slice (some ⟨g, 0, none⟩) (n + 1) cp ∧ n + 1 ≤ cp) := fun w5 p' ho => by
    rcases ho.2 with ⟨_, h⟩ | ⟨g, cp, cur, h, _, _, hc, _⟩
    · omega
    · exact ⟨g, cp, h, by omega⟩
  clear hh hi hz0 hz1 hz2
  have SZ0 : Hid (w.heap.size ≤ w.heap.size) := Nat.le_refl _
  cases a with
  | none =>
    have h0 : hs = [] := by
      rcases HH.out with h | ⟨b, off, e, _⟩
      · exact List.length_eq_zero_iff.1 h
      · cases e
    subst h0
    obtain rfl : 0 = n := HN.out
    obtain rfl := hno _ _ rfl
    simp only [List.length_nil] at hcap ⊢
    have O2 : Hid ((w.alloc (.cells #[(Value.string ⟨#[98, 101, 104, 105, 110, 100]⟩)] 9)).ownsRow w.heap.size 9 1 (.slice none 0 0) 0 []) := World.ownsRow_nil _ _ _ _
    have B2 : Hid (Below w.heap.size w (w.alloc (.cells #[(Value.string ⟨#[98, 101, 104, 105, 110, 100]⟩)] 9))) := (Below.refl _ _).alloc (Nat.le_refl _) _
    have NW : Hid (∀ (j : Nat) (x : Value), [(Value.string ⟨#[98, 101, 104, 105, 110, 100]⟩)][j]? = some x → (w.alloc (.cells #[(Value.string ⟨#[98, 101, 104, 105, 110, 100]⟩)] 9)).cell? (Addr.add ⟨w.heap.size, 0, none⟩ j) = some x) := new_one w (Value.string ⟨#[98, 101, 104, 105, 110, 100]⟩) 9
    clear HH hcap
    go_enter Try.func11, Try.ntmps11
    go_upto_region 2 with fail
    go_wp2_with (at_builtin; refine wpList_append_own _ rfl _ _ 27 rfl w.heap.size 9 i9 (.string ByteArray.empty) 1 16 Try.underlying27 HIN.out.1 HIN.out.2.1 HIN.out.2.2.1 HIN.out.2.2.2 rfl (by decide) _ 0 _ rfl O2.out ⟨w.heap.size, 0, none⟩ 1 1 [(Value.string ⟨#[98, 101, 104, 105, 110, 100]⟩)] rfl rfl NW.out MO.out (by unfold maxLen; omega) (by omega) B2.out.size ?_; intro p' w5 ho hg hnn; obtain ⟨g, cp, rfl, hcp⟩ := ENDS.out w5 p' ho; have HO5 : Hid (w5.ownsRow w.heap.size 9 1 (.slice (some ⟨g, 0, none⟩) (0 + 1) cp) (0 + 1) ([] ++ [(Value.string ⟨#[98, 101, 104, 105, 110, 100]⟩)])) := ho; have HB5 : Hid (Below w.heap.size w w5) := Below.grown B2.out hg B2.out.size (fun jj hj => (O2.out.lt _ hj).1); have hcp1 : (0 : Int) ≤ cp := (by omega); clear ho hg hnn)
    go_ret
    exact ⟨⟨g, cp, rfl, HO5.out⟩, HB5.out⟩
  | some ad =>
    have NX : Hid (∀ (j : Nat) (u : Value), (hs.map (Value.string))[j]? = some u → w.cell? (ad.add j) = some u) := by
      intro j u hu
      rw [List.getElem?_map] at hu
      obtain ⟨x, hx, rfl⟩ := Option.map_eq_some_iff.1 hu
      have hj := (List.getElem?_eq_some_iff.1 hx).1
      rcases HH.out with h | ⟨b, off, e, hc⟩
      · omega
      · have e := Option.some.inj e
        subst e
        have c1 := hc j hj
        rw [List.getD_eq_getElem?_getD, hx] at c1
        rw [show (Addr.add ⟨b, off, none⟩ j) = ⟨b, off + j, none⟩ by cases j <;> simp [Addr.add]]
        exact c1
    rw [HN.out] at hz hcap ⊢
    clear HH
    go_enter Try.func11, Try.ntmps11
    go_upto_region 2 with (at_builtin; refine wpList_append_own _ rfl _ _ 27 rfl w.heap.size 9 i9 (.string ByteArray.empty) 1 16 Try.underlying27 HIN.out.1 HIN.out.2.1 HIN.out.2.2.1 HIN.out.2.2.2 rfl (by decide) _ 0 _ rfl OX.out ad n cap (hs.map (Value.string)) rfl (by rw [List.length_map, HN.out]; omega) NX.out (ones _) (by unfold maxLen; omega) (by omega) SZ0.out ?_; intro p0 w4 ho0 hg0 hnn0; have HO4 : Hid (w4.ownsRow w.heap.size 9 1 p0 (0 + n) ([] ++ hs.map (Value.string))) := ho0; have HB4 : Hid (Below w.heap.size w w4) := Below.grown (Below.refl _ _) hg0 SZ0.out (fun jj hj => (OX.out.lt _ hj).1); clear ho0 hg0 hnn0)
    have HO6 : w4.ownsRow w.heap.size 9 1 p0 n (hs.map (Value.string)) := by have := HO4.out; rw [Nat.zero_add, List.nil_append] at this; exact this
    obtain ⟨pa, pc, rfl⟩ := own_form HO6
    have O2 : Hid ((w4.alloc (.cells #[(Value.string ⟨#[98, 101, 104, 105, 110, 100]⟩)] 9)).ownsRow w.heap.size 9 1 (.slice pa n pc) n (hs.map (Value.string))) := HO6.alloc _
    have B2 : Hid (Below w.heap.size w (w4.alloc (.cells #[(Value.string ⟨#[98, 101, 104, 105, 110, 100]⟩)] 9))) := HB4.out.alloc HB4.out.size _
    have NW : Hid (∀ (j : Nat) (x : Value), [(Value.string ⟨#[98, 101, 104, 105, 110, 100]⟩)][j]? = some x → (w4.alloc (.cells #[(Value.string ⟨#[98, 101, 104, 105, 110, 100]⟩)] 9)).cell? (Addr.add ⟨w4.heap.size, 0, none⟩ j) = some x) := new_one w4 (Value.string ⟨#[98, 101, 104, 105, 110, 100]⟩) 9
    clear HO6
    go_wp2_with (at_builtin; refine wpList_append_own _ rfl _ _ 27 rfl w.heap.size 9 i9 (.string ByteArray.empty) 1 16 Try.underlying27 HIN.out.1 HIN.out.2.1 HIN.out.2.2.1 HIN.out.2.2.2 rfl (by decide) _ n _ rfl O2.out ⟨w4.heap.size, 0, none⟩ 1 1 [(Value.string ⟨#[98, 101, 104, 105, 110, 100]⟩)] rfl rfl NW.out MO.out (by unfold maxLen; omega) (by omega) B2.out.size ?_; intro p' w5 ho hg hnn; obtain ⟨g, cp, rfl, hcp⟩ := ENDS.out w5 p' ho; have HO5 : Hid (w5.ownsRow w.heap.size 9 1 (.slice (some ⟨g, 0, none⟩) (n + 1) cp) (n + 1) (hs.map (Value.string) ++ [(Value.string ⟨#[98, 101, 104, 105, 110, 100]⟩)])) := ho; have HB5 : Hid (Below w.heap.size w w5) := Below.grown B2.out hg B2.out.size (fun jj hj => (O2.out.lt _ hj).1); have hcp1 : (n : Int) ≤ cp := (by omega); have hcp2 : (n : Int) + 1 ≤ cp := (by omega); clear ho hg hnn)
    go_ret
    exact ⟨⟨g, cp, rfl, HO5.out⟩, HB5.out⟩
end Go.Proofs.Ytkgadgkomdjplaa.lg
