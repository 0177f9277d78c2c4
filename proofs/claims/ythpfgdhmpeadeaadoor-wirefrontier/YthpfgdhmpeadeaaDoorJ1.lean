import Derived.Test.YthpfgdhmpeadeaaDoorG4
import Derived.Test.YthpfgdhmpeadeaaDoorG7
import Derived.Test.YthpfgdhmpeadeaaDoorJ0
import Derived.Test.YthpfgdhmpeadeaaDoorG1
import Derived.Deep.AppendLies
import Derived.Laws.AppendOwnNone
import Derived.Lib.SliceRun
import Derived.BigQuiet
import Derived.RowKit3
import Derived.Handy
import Derived.Deep.DeepCutAuto
namespace Go.Proofs.YthpfgdhmpeadeaaDoor.ei
open Go.RowKit Go.PlainAid Go.Shelf
open Go.Proofs.YthpfgdhmpeadeaaDoor.ca Go.Proofs.YthpfgdhmpeadeaaDoor.cb Go.Proofs.YthpfgdhmpeadeaaDoor.cp Go.Proofs.YthpfgdhmpeadeaaDoor.ga Go.Proofs.YthpfgdhmpeadeaaDoor.kp Go.Proofs.YthpfgdhmpeadeaaDoor.na Go.Proofs.YthpfgdhmpeadeaaDoor.nb Go.Proofs.YthpfgdhmpeadeaaDoor.nc Go.Proofs.YthpfgdhmpeadeaaDoor.ea Go.Proofs.YthpfgdhmpeadeaaDoor.eb Go.Proofs.YthpfgdhmpeadeaaDoor.ec Go.Proofs.YthpfgdhmpeadeaaDoor.ed Go.Proofs.YthpfgdhmpeadeaaDoor.ee Go.Proofs.YthpfgdhmpeadeaaDoor.ef Go.Proofs.YthpfgdhmpeadeaaDoor.eg Go.Proofs.YthpfgdhmpeadeaaDoor.eh Go.Proofs.YthpfgdhmpeadeaaDoor.ka Go.Proofs.YthpfgdhmpeadeaaDoor.bn
set_option linter.unusedVariables false

theorem un_ok (b : ByteArray) : Ok b (unLeavesS b).2.1 (unLeavesS b).2.2 := by
  have hk0 : Ok b 0 0 := ⟨Nat.zero_le _, by decide, by decide⟩
  exact (leaves_ok b _ _ _ (most_ok b 1024 83 _ _ (mark_ok b 76 0 0 hk0) (by decide)).1).1
set_option maxHeartbeats 1600000 in
theorem unLeavesC (b : ByteArray) (w : World) (hb : b.size ≤ 140737488355328) :
    Calls Tryd.prog 18 #[.string b] w fun e w' => (∃ v, e = .returned (.tuple #[v, .int .i64 (unLeavesE b)]) ∧ w'.ownsRow w.heap.size 9 1 v (unLeavesL b).length ((unLeavesL b).map Value.string)) ∧ Below w.heap.size w w' := by
  have LR : Hid (∀ W, Rd 86 w.heap.size b 0 0 [.slice none 0 0] W → Calls _ _ _ _ _) := fun W h => lreadC w.heap.size b w.heap.size W h hb (Nat.le_refl _)
  have EC : Hid (∀ v W, _ → Calls _ _ _ _ _) := fun v W h => endC 86 w.heap.size b (unLeavesS b).2.1 (unLeavesS b).2.2 [v] W h hb (un_ok b)
  have HE : Hid (endS b (unLeavesS b).2.1 (unLeavesS b).2.2 = unLeavesE b) := rfl
  have HL : Hid (unLeavesL b = if unLeavesE b = 0 then (unLeavesS b).1 else []) := rfl
  rw [HL.out]
  rw [HE.out] at EC
  obtain ⟨z, HZ⟩ : ∃ z, Hid (unLeavesE b = z) := ⟨_, rfl⟩
  obtain ⟨xs, q, z0, HX⟩ : ∃ xs q z0, Hid (unLeavesS b = (xs, q, z0)) := ⟨_, _, _, rfl⟩
  rw [HZ.out] at EC ⊢
  rw [HX.out] at LR EC ⊢
  have R0 : Hid (Rd 86 w.heap.size b 0 0 [.slice none 0 0] (w.alloc (.cells #[.string b, .int .i64 0, .int .i64 0, .slice none 0 0] 86))) := heap_alloc_new w _
  have B0 : Hid (Below w.heap.size w (w.alloc (.cells #[.string b, .int .i64 0, .int .i64 0, .slice none 0 0] 86))) := (Below.refl _ _).alloc (Nat.le_refl _) _
  have KB : Hid (∀ w1 w2 : World, w.heap.size ≤ w1.heap.size → Kp (fun k => k = w.heap.size) w1 w2 → Below w.heap.size w1 w2) := fun w1 w2 hs k => k.below (fun j hj => by omega) hs
  obtain ⟨W, HW⟩ : ∃ W, W = w.alloc (.cells #[.string b, .int .i64 0, .int .i64 0, .slice none 0 0] 86) := ⟨_, rfl⟩
  rw [← HW] at R0 B0
  by_cases hz : z = 0
  · subst hz
    rw [if_pos rfl]
    go_enter Tryd.func18, Tryd.ntmps18
    go_upto_region 2 with fail
    rw [← HW]
    clear HW
    go_wp2_with (first | (go_at_call 47; refine (LR.out _ R0.out).mono ?_; rintro _ w1 ⟨rfl, ⟨v, r1, o1⟩, k1⟩; have R1 : Hid (Rd 86 w.heap.size b q z0 [v] w1) := r1; have O1 : Hid (w1.ownsRow w.heap.size 9 1 v xs.length (xs.map Value.string)) := o1; have K1 : Hid (Below w.heap.size w w1) := B0.out.trans k1; clear r1 o1 k1) | (go_at_call 40; refine (EC.out v _ R1.out).mono ?_; rintro _ w2 ⟨rfl, r2, k2⟩; have d2 := rd1 r2; have O2 : Hid (w2.ownsRow w.heap.size 9 1 v xs.length (xs.map Value.string)) := own_tag O1.out R1.out (by decide) k2; have K2 : Hid (Below w.heap.size w w2) := K1.out.trans (KB.out _ _ K1.out.size k2); clear r2 k2))
    go_ret2
    exact ⟨⟨_, rfl, O2.out⟩, K2.out⟩
  · have hz' : (z != 0) = true := by rw [bne_iff_ne]; exact hz
    rw [if_neg hz]
    clear hz
    go_enter Tryd.func18, Tryd.ntmps18
    go_upto_region 2 with fail
    rw [← HW]
    clear HW
    go_wp2_with (first | (go_at_call 47; refine (LR.out _ R0.out).mono ?_; rintro _ w1 ⟨rfl, ⟨v, r1, o1⟩, k1⟩; have R1 : Hid (Rd 86 w.heap.size b q z0 [v] w1) := r1; have K1 : Hid (Below w.heap.size w w1) := B0.out.trans k1; clear r1 o1 k1) | (go_at_call 40; refine (EC.out v _ R1.out).mono ?_; rintro _ w2 ⟨rfl, r2, k2⟩; have K2 : Hid (Below w.heap.size w w2) := K1.out.trans (KB.out _ _ K1.out.size k2); clear r2 k2))
    go_ret2
    exact ⟨⟨_, rfl, World.ownsRow_nil _ _ _ _⟩, K2.out⟩
end Go.Proofs.YthpfgdhmpeadeaaDoor.ei

namespace Go.Proofs.YthpfgdhmpeadeaaDoor.fd
open Go.RowKit Go.PlainAid
open Go.Proofs.YthpfgdhmpeadeaaDoor.ca Go.Proofs.YthpfgdhmpeadeaaDoor.cb Go.Proofs.YthpfgdhmpeadeaaDoor.cp Go.Proofs.YthpfgdhmpeadeaaDoor.ga Go.Proofs.YthpfgdhmpeadeaaDoor.kp Go.Proofs.YthpfgdhmpeadeaaDoor.na Go.Proofs.YthpfgdhmpeadeaaDoor.nb Go.Proofs.YthpfgdhmpeadeaaDoor.nc Go.Proofs.YthpfgdhmpeadeaaDoor.nf Go.Proofs.YthpfgdhmpeadeaaDoor.ng Go.Proofs.YthpfgdhmpeadeaaDoor.nh Go.Proofs.YthpfgdhmpeadeaaDoor.nj Go.Proofs.YthpfgdhmpeadeaaDoor.ea Go.Proofs.YthpfgdhmpeadeaaDoor.eb Go.Proofs.YthpfgdhmpeadeaaDoor.ec Go.Proofs.YthpfgdhmpeadeaaDoor.ed Go.Proofs.YthpfgdhmpeadeaaDoor.ee Go.Proofs.YthpfgdhmpeadeaaDoor.ef Go.Proofs.YthpfgdhmpeadeaaDoor.eg Go.Proofs.YthpfgdhmpeadeaaDoor.eh Go.Proofs.YthpfgdhmpeadeaaDoor.ei Go.Proofs.YthpfgdhmpeadeaaDoor.ka Go.Proofs.YthpfgdhmpeadeaaDoor.bn Go.Proofs.YthpfgdhmpeadeaaDoor.fa Go.Proofs.YthpfgdhmpeadeaaDoor.fb Go.Proofs.YthpfgdhmpeadeaaDoor.fc
set_option linter.unusedVariables false

-- the document's list of leaves, read
structure PI (g : Nat) (b : ByteArray) (n p : Nat) (e : Int) (B : Nat) (w : World) (v : Value) (xs : List ByteArray) (q : Nat) (z : Int) (wr : World) : Prop where
  rd : Rd 80 g b q z [] wr
  ok : Ok b q z
  bl : Below B w wr
  own : wr.ownsRow B 9 1 v xs.length (xs.map Value.string)
  len : xs.length ≤ n
  eq : leavesS b n p e = (xs ++ (leavesS b (n - xs.length) q z).1, (leavesS b (n - xs.length) q z).2)
end Go.Proofs.YthpfgdhmpeadeaaDoor.fd

namespace Go.Proofs.YthpfgdhmpeadeaaDoor.fe
open Go.RowKit Go.PlainAid
open Go.Proofs.YthpfgdhmpeadeaaDoor.ca Go.Proofs.YthpfgdhmpeadeaaDoor.cb Go.Proofs.YthpfgdhmpeadeaaDoor.cp Go.Proofs.YthpfgdhmpeadeaaDoor.ga Go.Proofs.YthpfgdhmpeadeaaDoor.kp Go.Proofs.YthpfgdhmpeadeaaDoor.na Go.Proofs.YthpfgdhmpeadeaaDoor.nb Go.Proofs.YthpfgdhmpeadeaaDoor.nc Go.Proofs.YthpfgdhmpeadeaaDoor.nh Go.Proofs.YthpfgdhmpeadeaaDoor.nj Go.Proofs.YthpfgdhmpeadeaaDoor.ea Go.Proofs.YthpfgdhmpeadeaaDoor.eb Go.Proofs.YthpfgdhmpeadeaaDoor.ec Go.Proofs.YthpfgdhmpeadeaaDoor.ed Go.Proofs.YthpfgdhmpeadeaaDoor.ee Go.Proofs.YthpfgdhmpeadeaaDoor.ef Go.Proofs.YthpfgdhmpeadeaaDoor.eg Go.Proofs.YthpfgdhmpeadeaaDoor.eh Go.Proofs.YthpfgdhmpeadeaaDoor.ei Go.Proofs.YthpfgdhmpeadeaaDoor.ka Go.Proofs.YthpfgdhmpeadeaaDoor.bn
set_option linter.unusedVariables false

theorem rNumberC (n : Int) (w : World) (h0 : 0 ≤ n) (h1 : n ≤ 9223372036854775807) : Calls Tryd.prog 37 #[.int .i64 n] w fun e w' => e = .returned (.string (putB n)) ∧ Below w.heap.size w w' := by
  have hw : Wants n (mOf n) := wants_len n h0 (by omega)
  have CP : Hid (Calls _ _ _ _ _) := rpv_any n (mOf n) w h0 (by omega) hw.1 hw.2.1 hw
  have HP : Hid (putB n = str (putL n (mOf n))) := rfl
  rw [← HP.out] at CP
  have hu : IntKind.u64.wrap n = n := u64_nonneg h0 (by omega)
  clear hw
  go_enter Tryd.func37, Tryd.ntmps37
  go_wp2_with (go_at_call 61; refine CP.out.mono ?_; rintro _ w1 ⟨rfl, k1⟩; have K1 : Hid (Below w.heap.size w w1) := k1; clear k1)
  go_ret
  exact ⟨rfl, K1.out⟩
-- bytes of the call's own
def OB (w : World) (B : Nat) (v : Value) (l : List UInt8) : Prop := w.ownsRow B 5 1 v l.length (Lib.byteCells l)
theorem OB.later {w w' : World} {B : Nat} {v : Value} {l : List UInt8} (h : OB w B v l) (k : Below w.heap.size w w') : OB w' B v l := own_kp h (A := fun _ => False) (Kp.of_below k) (fun _ e => e.elim)
theorem OB.str {B : Nat} {l : List UInt8} {q : ByteArray} {v' : Value} {w' : World} (h : w'.ownsRow B 5 1 v' (l.length + q.size) (Lib.byteCells l ++ cellsS q)) : OB w' B v' (l ++ q.data.toList) := by
  unfold OB
  rw [Lib.byteCells_append, List.length_append, size_data]
  exact h
end Go.Proofs.YthpfgdhmpeadeaaDoor.fe

namespace Go.Proofs.YthpfgdhmpeadeaaDoor.lg
open Go.RowKit Go.PlainAid
open Go.Proofs.YthpfgdhmpeadeaaDoor.ca Go.Proofs.YthpfgdhmpeadeaaDoor.cp Go.Proofs.YthpfgdhmpeadeaaDoor.ka
set_option linter.unusedVariables false

theorem info_parts {t : TypeId} {z : Value} {n b : Nat} (h : (Tryd.prog.info? t).map (fun i => (i.zero, i.size, i.bytes)) = some (some z, n, b)) : ∃ i, Tryd.prog.info? t = some i ∧ i.zero = some z ∧ i.size = n ∧ i.bytes = b := by
  obtain ⟨i, hi, he⟩ := Option.map_eq_some_iff.1 h
  injection he with e1 e2
  injection e2 with e2 e3
  exact ⟨i, hi, e1, e2, e3⟩
theorem hiE : (Tryd.prog.info? 9).map (fun i => (i.zero, i.size, i.bytes)) = some (some (.string ByteArray.empty), 1, 16) := by kernel_rfl
theorem own_form {w : World} {B e s n : Nat} {v : Value} {xs : List Value} (h : w.ownsRow B e s v n xs) : ∃ a c, v = .slice a n c := by
  rcases h.2 with ⟨h, h2⟩ | ⟨g, cap, cur, h, _⟩
  · exact ⟨none, 0, by rw [h, h2]⟩
  · exact ⟨_, _, h⟩
theorem ones (hs : List ByteArray) : ∀ u ∈ hs.map (Value.string), u.oneCell' = true := by
  intro u hu
  obtain ⟨x, _, rfl⟩ := List.mem_map.1 hu
  rfl
theorem new_one (W : World) (u : Value) (t : TypeId) : ∀ (j : Nat) (x : Value), [u][j]? = some x → (W.alloc (.cells #[u] t)).cell? (Addr.add ⟨W.heap.size, 0, none⟩ j) = some x := by
  intro j x hx
  rw [show (Addr.add ⟨W.heap.size, 0, none⟩ j) = ⟨W.heap.size, j, none⟩ by cases j <;> simp [Addr.add], World.cell?_alloc_at _ _ _ _ rfl]
  simpa using hx
-- a list's twin, with a mark behind it
def Tw (w : World) (B g n cp : Nat) (xs : List ByteArray) : Prop := w.ownsRow B 9 1 (.slice (some ⟨g, 0, none⟩) (n + 1) cp) (n + 1) (xs.map (Value.string) ++ [(Value.string ⟨#[98, 101, 104, 105, 110, 100]⟩)])
theorem Tw.later {w w' : World} {B g n cp : Nat} {xs : List ByteArray} (h : Tw w B g n cp xs) (hb : Below w.heap.size w w') : Tw w' B g n cp xs := own_later h hb
theorem Tw.cell {w : World} {B g n cp : Nat} {xs : List ByteArray} (h : Tw w B g n cp xs) (hn : xs.length = n) : (∀ i, i < n → w.cell? ⟨g, i, none⟩ = some (Value.string (xs.getD i ByteArray.empty))) ∧ w.cell? ⟨g, n, none⟩ = some (Value.string ⟨#[98, 101, 104, 105, 110, 100]⟩) ∧ n + 1 ≤ cp := by
  refine ⟨fun i hi => ?_, ?_, ?_⟩
  · rw [h.cellAt i (by omega), List.getElem?_append_left (by rw [List.length_map]; omega), List.getElem?_map, List.getElem?_eq_getElem (by omega), List.getD_eq_getElem?_getD, List.getElem?_eq_getElem (by omega)]
    rfl
  · rw [h.cellAt n (by omega), List.getElem?_append_right (by rw [List.length_map]; omega), List.length_map, hn, Nat.sub_self]
    rfl
  · rcases h.2 with ⟨e, _⟩ | ⟨g', cap', cur, e, _, _, hc, _⟩
    · cases e
    · injection e with _ _ e3; omega
theorem Tw.reads {w : World} {B g n cp : Nat} {xs : List ByteArray} (h : Tw w B g n cp xs) (hn : xs.length = n) : ReadsT w (.slice (some ⟨g, 0, none⟩) n cp) xs := by
  obtain ⟨h1, h2, h3⟩ := h.cell hn
  refine ⟨_, cp, by rw [hn], by omega, .inr ⟨g, 0, rfl, fun i hi => ?_⟩⟩
  rw [Nat.zero_add]
  exact h1 i (by omega)
set_option maxRecDepth 100000 in
set_option maxHeartbeats 1600000 in
theorem twinC (u : Value) (hs : List ByteArray) (w : World) (hR : ReadsT w u hs) (hno : ∀ k c, u = .slice none k c → c = 0) (hz : hs.length * 16 ≤ 140737488351232) :
    Calls Tryd.prog 6 #[u] w fun e w' => (∃ g cp, e = .returned (.slice (some ⟨g, 0, none⟩) (hs.length + 1) cp) ∧ Tw w' w.heap.size g hs.length cp hs) ∧ Below w.heap.size w w' := by
  obtain ⟨i9, hi, hz0, hz1, hz2⟩ := info_parts hiE
  have HIN : Hid (_ ∧ _ ∧ _ ∧ _) := ⟨hi, hz0, hz1, hz2⟩
  obtain ⟨a, cap, rfl, hcap, hh⟩ := hR
  have HH : Hid (hs.length = 0 ∨ ∃ b off, a = some ⟨b, off, none⟩ ∧ ∀ i, i < hs.length → w.cell? ⟨b, off + i, none⟩ = some (Value.string (hs.getD i ByteArray.empty))) := hh
  obtain ⟨n, HN⟩ : ∃ n, Hid (hs.length = n) := ⟨_, rfl⟩
  have MO : Hid (∀ u ∈ [(Value.string ⟨#[98, 101, 104, 105, 110, 100]⟩)], u.oneCell' = true) := fun u hu => by simp only [List.mem_cons, List.not_mem_nil, or_false] at hu; subst hu; rfl
  have OX : Hid (w.ownsRow w.heap.size 9 1 (.slice none 0 0) 0 []) := World.ownsRow_nil _ _ _ _
  have ENDS : Hid (∀ (w5 : World) (p' : Value), w5.ownsRow w.heap.size 9 1 p' (n + 1) (hs.map (Value.string) ++ [(Value.string ⟨#[98, 101, 104, 105, 110, 100]⟩)]) → ∃ g cp, p' = .slice (some ⟨g, 0, none⟩) (n + 1) cp ∧ n + 1 ≤ cp) := fun w5 p' ho => by
    rcases ho.2 with ⟨_, h⟩ | ⟨g, cp, cur, h, _, _, hc, _⟩
    · omega
    · exact ⟨g, cp, h, by omega⟩
  clear hh hi hz0 hz1 hz2
  have SZ0 : Hid (w.heap.size ≤ w.heap.size) := Nat.le_refl _
  cases a with
  | none =>
    have h0 : hs = [] := by
      rcases HH.out with h | ⟨b, off, e, _⟩
      · exact List.length_eq_zero_iff.1 h
      · cases e
    subst h0
    obtain rfl : 0 = n := HN.out
    obtain rfl := hno _ _ rfl
    simp only [List.length_nil] at hcap ⊢
    have O2 : Hid ((w.alloc (.cells #[(Value.string ⟨#[98, 101, 104, 105, 110, 100]⟩)] 9)).ownsRow w.heap.size 9 1 (.slice none 0 0) 0 []) := World.ownsRow_nil _ _ _ _
    have B2 : Hid (Below w.heap.size w (w.alloc (.cells #[(Value.string ⟨#[98, 101, 104, 105, 110, 100]⟩)] 9))) := (Below.refl _ _).alloc (Nat.le_refl _) _
    have NW : Hid (∀ (j : Nat) (x : Value), [(Value.string ⟨#[98, 101, 104, 105, 110, 100]⟩)][j]? = some x → (w.alloc (.cells #[(Value.string ⟨#[98, 101, 104, 105, 110, 100]⟩)] 9)).cell? (Addr.add ⟨w.heap.size, 0, none⟩ j) = some x) := new_one w (Value.string ⟨#[98, 101, 104, 105, 110, 100]⟩) 9
    clear HH hcap
    go_enter Tryd.func6, Tryd.ntmps6
    go_upto_region 2 with fail
    go_wp2_with (at_builtin; refine wpList_append_own _ rfl _ _ 22 rfl w.heap.size 9 i9 (.string ByteArray.empty) 1 16 Tryd.underlying22 HIN.out.1 HIN.out.2.1 HIN.out.2.2.1 HIN.out.2.2.2 rfl (by decide) _ 0 _ rfl O2.out ⟨w.heap.size, 0, none⟩ 1 1 [(Value.string ⟨#[98, 101, 104, 105, 110, 100]⟩)] rfl rfl NW.out MO.out (by unfold maxLen; omega) (by omega) B2.out.size ?_; intro p' w5 ho hg hnn; obtain ⟨g, cp, rfl, hcp⟩ := ENDS.out w5 p' ho; have HO5 : Hid (w5.ownsRow w.heap.size 9 1 (.slice (some ⟨g, 0, none⟩) (0 + 1) cp) (0 + 1) ([] ++ [(Value.string ⟨#[98, 101, 104, 105, 110, 100]⟩)])) := ho; have HB5 : Hid (Below w.heap.size w w5) := Below.grown B2.out hg B2.out.size (fun jj hj => (O2.out.lt _ hj).1); have hcp1 : (0 : Int) ≤ cp := (by omega); clear ho hg hnn)
    go_ret
    exact ⟨⟨g, cp, rfl, HO5.out⟩, HB5.out⟩
  | some ad =>
    have NX : Hid (∀ (j : Nat) (u : Value), (hs.map (Value.string))[j]? = some u → w.cell? (ad.add j) = some u) := by
      intro j u hu
      rw [List.getElem?_map] at hu
      obtain ⟨x, hx, rfl⟩ := Option.map_eq_some_iff.1 hu
      have hj := (List.getElem?_eq_some_iff.1 hx).1
      rcases HH.out with h | ⟨b, off, e, hc⟩
      · omega
      · have e := Option.some.inj e
        subst e
        have c1 := hc j hj
        rw [List.getD_eq_getElem?_getD, hx] at c1
        rw [show (Addr.add ⟨b, off, none⟩ j) = ⟨b, off + j, none⟩ by cases j <;> simp [Addr.add]]
        exact c1
    rw [HN.out] at hz hcap ⊢
    clear HH
    go_enter Tryd.func6, Tryd.ntmps6
    go_upto_region 2 with (at_builtin; refine wpList_append_own _ rfl _ _ 22 rfl w.heap.size 9 i9 (.string ByteArray.empty) 1 16 Tryd.underlying22 HIN.out.1 HIN.out.2.1 HIN.out.2.2.1 HIN.out.2.2.2 rfl (by decide) _ 0 _ rfl OX.out ad n cap (hs.map (Value.string)) rfl (by rw [List.length_map, HN.out]; omega) NX.out (ones _) (by unfold maxLen; omega) (by omega) SZ0.out ?_; intro p0 w4 ho0 hg0 hnn0; have HO4 : Hid (w4.ownsRow w.heap.size 9 1 p0 (0 + n) ([] ++ hs.map (Value.string))) := ho0; have HB4 : Hid (Below w.heap.size w w4) := Below.grown (Below.refl _ _) hg0 SZ0.out (fun jj hj => (OX.out.lt _ hj).1); clear ho0 hg0 hnn0)
    have HO6 : w4.ownsRow w.heap.size 9 1 p0 n (hs.map (Value.string)) := by have := HO4.out; rw [Nat.zero_add, List.nil_append] at this; exact this
    obtain ⟨pa, pc, rfl⟩ := own_form HO6
    have O2 : Hid ((w4.alloc (.cells #[(Value.string ⟨#[98, 101, 104, 105, 110, 100]⟩)] 9)).ownsRow w.heap.size 9 1 (.slice pa n pc) n (hs.map (Value.string))) := HO6.alloc _
    have B2 : Hid (Below w.heap.size w (w4.alloc (.cells #[(Value.string ⟨#[98, 101, 104, 105, 110, 100]⟩)] 9))) := HB4.out.alloc HB4.out.size _
    have NW : Hid (∀ (j : Nat) (x : Value), [(Value.string ⟨#[98, 101, 104, 105, 110, 100]⟩)][j]? = some x → (w4.alloc (.cells #[(Value.string ⟨#[98, 101, 104, 105, 110, 100]⟩)] 9)).cell? (Addr.add ⟨w4.heap.size, 0, none⟩ j) = some x) := new_one w4 (Value.string ⟨#[98, 101, 104, 105, 110, 100]⟩) 9
    clear HO6
    go_wp2_with (at_builtin; refine wpList_append_own _ rfl _ _ 22 rfl w.heap.size 9 i9 (.string ByteArray.empty) 1 16 Tryd.underlying22 HIN.out.1 HIN.out.2.1 HIN.out.2.2.1 HIN.out.2.2.2 rfl (by decide) _ n _ rfl O2.out ⟨w4.heap.size, 0, none⟩ 1 1 [(Value.string ⟨#[98, 101, 104, 105, 110, 100]⟩)] rfl rfl NW.out MO.out (by unfold maxLen; omega) (by omega) B2.out.size ?_; intro p' w5 ho hg hnn; obtain ⟨g, cp, rfl, hcp⟩ := ENDS.out w5 p' ho; have HO5 : Hid (w5.ownsRow w.heap.size 9 1 (.slice (some ⟨g, 0, none⟩) (n + 1) cp) (n + 1) (hs.map (Value.string) ++ [(Value.string ⟨#[98, 101, 104, 105, 110, 100]⟩)])) := ho; have HB5 : Hid (Below w.heap.size w w5) := Below.grown B2.out hg B2.out.size (fun jj hj => (O2.out.lt _ hj).1); have hcp1 : (n : Int) ≤ cp := (by omega); have hcp2 : (n : Int) + 1 ≤ cp := (by omega); clear ho hg hnn)
    go_ret
    exact ⟨⟨g, cp, rfl, HO5.out⟩, HB5.out⟩
end Go.Proofs.YthpfgdhmpeadeaaDoor.lg
