import Derived.Test.YtjkkijeamcihiaaIk
import Derived.Test.YtjkkijeamcihiaaRl
import Derived.LaidEqlPtr
namespace Go.Proofs.Ytjkkijeamcihiaa.il
open Go.RowKit Go.PlainAid Go.Maps
open Go.Proofs.Ytjkkijeamcihiaa.rd (Fx RP rp_adr adr_form)
open Go.Proofs.Ytjkkijeamcihiaa.rf (fx_turn)
open Go.Proofs.Ytjkkijeamcihiaa.rl (cells_of lenV below_grownBy)
open Go.Proofs.Ytjkkijeamcihiaa.cp Go.Proofs.Ytjkkijeamcihiaa.kp Go.Proofs.Ytjkkijeamcihiaa.ka Go.Proofs.Ytjkkijeamcihiaa.ra Go.Proofs.Ytjkkijeamcihiaa.ib Go.Proofs.Ytjkkijeamcihiaa.ic Go.Proofs.Ytjkkijeamcihiaa.id Go.Proofs.Ytjkkijeamcihiaa.ie Go.Proofs.Ytjkkijeamcihiaa.if Go.Proofs.Ytjkkijeamcihiaa.ig Go.Proofs.Ytjkkijeamcihiaa.im Go.Proofs.Ytjkkijeamcihiaa.ih Go.Proofs.Ytjkkijeamcihiaa.ii Go.Proofs.Ytjkkijeamcihiaa.ij Go.Proofs.Ytjkkijeamcihiaa.ik Go.Proofs.Ytjkkijeamcihiaa.sa
set_option linter.unusedVariables false
set_option linter.unusedSimpArgs false
theorem hiN : (Try.prog.info? 3).map (fun i => (i.zero, i.size, i.bytes)) = some (some (.int .i64 0), 1, 8) := by kernel_rfl
theorem new_num (W : World) (u : Value) (t : TypeId) : ∀ (j : Nat) (x : Value), [u][j]? = some x → (W.alloc (.cells #[u] t)).cell? (Addr.add ⟨W.heap.size, 0, none⟩ j) = some x := new_text W u t
theorem one_num (x : Int) : ∀ u ∈ [Value.int .i64 x], u.oneCell' = true := by intro u hu; simp at hu; subst hu; rfl
def rowN (l : List Int) : Array Value := (l.map (Value.int .i64)).toArray
theorem made_rowN (n : Nat) : madeCells (Value.int .i64 0).cells n = rowN (List.replicate n 0) := by
  apply Array.ext
  · simp [size_madeCells, rowN]
  · intro i h1 h2
    simp [madeCells, rowN, Value.cells, Nat.mod_one]
theorem make0 (n : Nat) (hn : n ≤ 4096) (w : World) :
    (Instr.makeSlice 46 (.int .i64 0) (.int .i64 n)).run Try.prog w = .ok (.slice (some ⟨w.heap.size, 0, none⟩) 0 n) (w.alloc (.cells (rowN (List.replicate n 0)) 3)) := by
  obtain ⟨i, hi, hz0, hz1, hz2⟩ := info_parts hiN
  have h := run_make (P := Try.prog) w 46 3 i (.int .i64 0) Try.underlying46 hi hz0 .i64 .i64 (0 : Int) (n : Int) (by omega) (by omega) (by rw [hz2]; omega) (by omega)
  rw [hz1] at h
  simp only [Int.toNat_natCast, Nat.mul_one] at h
  rw [made_rowN] at h
  exact h
theorem link_info : ∃ j, Try.prog.info? 96 = some j ∧ j.size ≠ 0 := by
  obtain ⟨j, h1, h2⟩ : ∃ j, Try.prog.info? 96 = some j ∧ j.size = 5 := by
    have h : (Try.prog.info? 96).map (fun i => i.size) = some 5 := by kernel_rfl
    cases hj : Try.prog.info? 96 with
    | none => rw [hj] at h; cases h
    | some j => rw [hj] at h; exact ⟨j, rfl, Option.some.inj h⟩
  exact ⟨j, h1, by rw [h2]; decide⟩
theorem neq_other {w : World} {a b o p x y : Nat} {u v : Value} (hne : a ≠ b) (ha : w.cell? ⟨a, x, none⟩ = some u) (hb : w.cell? ⟨b, y, none⟩ = some v) (fa : ∀ i, w.frozen? ⟨a, i, none⟩ = false) (fb : ∀ i, w.frozen? ⟨b, i, none⟩ = false) :
    (binOp .neq 94 (.pointer (some ⟨a, o, none⟩)) (.pointer (some ⟨b, p, none⟩))).run Try.prog w = .ok (.bool true) w := by
  obtain ⟨ca, ta, xa, ha⟩ := cells_of ha
  obtain ⟨cb, tb, xb, hb⟩ := cells_of hb
  obtain ⟨j, hj, hz⟩ := link_info
  have hs : (sameAddr ⟨a, o, none⟩ ⟨b, p, none⟩).run Try.prog w = .ok false w := by
    simp [sameAddr, hne, fa, fb, ha, hb, noView, viewAt, World.shape?, mayBeOne, stringish]
  have h : ∀ d : Nat, (Op.equalIn (d + 1) 94 (.pointer (some ⟨a, o, none⟩)) (.pointer (some ⟨b, p, none⟩))).run Try.prog w = .ok false w := fun d => by
    simp [Op.equalIn, run_underlying Try.underlying94, sizeOf, typeInfo, hj, hz, hs]
  simp only [binOp]
  simp [Op.equal, Op.maxDepth, h 9999]
theorem neq_same (a : Addr) (w : World) : (binOp .neq 94 (.pointer (some a)) (.pointer (some a))).run Try.prog w = .ok (.bool false) w := by
  obtain ⟨j, hj, hz⟩ := link_info
  have h : ∀ d : Nat, (Op.equalIn (d + 1) 94 (.pointer (some a)) (.pointer (some a))).run Try.prog w = .ok true w := fun d => by
    simp [Op.equalIn, run_underlying Try.underlying94, sizeOf, typeInfo, hj, hz, run_sameAddr_same]
  simp only [binOp]
  simp [Op.equal, Op.maxDepth, h 9999]
section
variable {g mb : Nat} {s : St} {es : List (E V)} {w w' : World}
set_option maxHeartbeats 1600000 in
theorem keysC (h : Ch g mb s es w) : Calls Try.prog 56 #[pt ⟨g, 0, none⟩] w fun e w' => ∃ v, e = .returned v ∧ w'.ownsRow w.heap.size 3 1 v (keys s.l).length ((keys s.l).map (Value.int .i64)) ∧ Below w.heap.size w w' := by
  obtain ⟨i9, hi, hz0, hz1, hz2⟩ := info_parts hiN
  have HIN : Hid (_ ∧ _ ∧ _ ∧ _) := ⟨hi, hz0, hz1, hz2⟩
  clear hi hz0 hz1 hz2
  have c1 := h.at1
  have HM : Hid (Mq mb es w) := h.map
  have HC : Hid (Ch g mb s es w) := h
  have hlen : (keys s.l).length = es.length := by unfold keys; rw [h.l, List.length_map, List.length_map]
  have hle : es.length ≤ 4096 := by
    have a1 := h.ok.len
    have a2 := h.ok.most
    have a3 := congrArg List.length h.l
    rw [List.length_map] at a3
    omega
  obtain ⟨ks, HK⟩ : ∃ ks, Hid (keys s.l = ks) := ⟨_, rfl⟩
  rw [HK.out] at hlen ⊢
  obtain ⟨n, HN⟩ : ∃ n, Hid (es.length = n) := ⟨_, rfl⟩
  rw [HN.out] at hlen hle
  have hmk := make0 n hle w
  obtain ⟨B, HB⟩ : ∃ B, B = w.heap.size := ⟨_, rfl⟩
  have HB0 : Hid (B = w.heap.size) := HB
  have HW0 : Hid ((w.alloc (.cells (rowN (List.replicate n 0)) 3)).ownsRow w.heap.size 3 1 (.slice (some ⟨w.heap.size, 0, none⟩) 0 n) 0 [] ∧ Below w.heap.size w (w.alloc (.cells (rowN (List.replicate n 0)) 3))) := by
    refine ⟨⟨rfl, .inr ⟨w.heap.size, n, rowN (List.replicate n 0), rfl, Nat.le_refl _, heap_alloc_new w _, Nat.zero_le _, by unfold maxLen; omega, by simp [rowN], by simp⟩⟩, (Below.refl _ _).alloc (Nat.le_refl _) _⟩
  have CK : Hid (∀ wr, Below w.heap.size w wr → ∀ t, t < n → ∃ b, adr ⟨g, 2, none⟩ (es.map (·.1)) (t + 1) = ⟨b, 0, none⟩ ∧ (binOp .neq 94 (.pointer (some ⟨b, 0, none⟩)) (.pointer (some ⟨g, 2, none⟩))).run Try.prog wr = .ok (.bool true) wr ∧ wr.cell? ⟨b, 0, none⟩ = some (.int .i64 (ks.getD t 0)) ∧ wr.cell? ⟨b, 4, none⟩ = some (.pointer (some (adr ⟨g, 2, none⟩ (es.map (·.1)) (t + 2))))) := by
    intro wr hb t ht
    have h' := h.later hb
    have ht1 : t < es.length := by rw [HN.out]; exact ht
    have ht2 : t < (es.map (·.1)).length := by rw [List.length_map]; exact ht1
    have hbg : (es.map (·.1))[t] ≠ g := fun e => h.ring.ne (by show g ∈ _; rw [← e]; exact List.getElem_mem ht2)
    have hne := neq_other (o := 0) (p := 2) hbg (by rw [List.getElem_map]; exact h'.kv0 es[t] (List.getElem_mem ht1)) h'.most (by rw [List.getElem_map]; exact h'.fv es[t] (List.getElem_mem ht1)) h'.fz
    obtain ⟨b, hb⟩ : ∃ b, (es.map (·.1))[t] = b := ⟨_, rfl⟩
    have hA : adr ⟨g, 2, none⟩ (es.map (·.1)) (t + 1) = ⟨b, 0, none⟩ := by rw [adr_in ht2, hb]
    rw [hb] at hne
    have hb2 : (es[t]).1 = b := by rw [← hb, List.getElem_map]
    refine ⟨b, hA, hne, ?_, ?_⟩
    · have e9 : ks.getD t 0 = (es[t]).2.1 := by
        rw [← HK.out]
        unfold keys
        rw [h.l, List.getD_eq_getElem?_getD, List.getElem?_map, List.getElem?_map, List.getElem?_eq_getElem ht1]
        rfl
      rw [← hb2, e9]
      exact h'.kv0 es[t] (List.getElem_mem ht1)
    · have := h'.ring.ol (t + 1) ht2
      rw [hA] at this
      exact this
  have cold : w.cell? ⟨g, 6, none⟩ = some (.pointer (some (adr ⟨g, 2, none⟩ (es.map (·.1)) 1))) := h.ring.ol 0 (Nat.zero_le _)
  have hadr : Hid (adr ⟨g, 2, none⟩ (es.map (·.1)) (n + 1) = ⟨g, 2, none⟩) := by
    have := adr_last ⟨g, 2, none⟩ (es.map (·.1))
    rw [List.length_map, HN.out] at this
    exact this
  have hgl : g < w.heap.size := World.block_lt_of_cell? _ _ h.most
  have cold2 : (w.alloc (.cells (rowN (List.replicate n 0)) 3)).cell? ⟨g, 6, none⟩ = some (.pointer (some (adr ⟨g, 2, none⟩ (es.map (·.1)) 1))) := by
    rw [World.cell?_alloc_lt _ _ _ hgl]; exact cold
  obtain ⟨W, HW⟩ : ∃ W, Hid (W = w.alloc (.cells (rowN (List.replicate n 0)) 3)) := ⟨_, rfl⟩
  rw [← HW.out] at hmk cold2 HW0
  rw [← HB] at hmk HW0 CK ⊢
  obtain ⟨A, HA⟩ : ∃ A : Nat → Addr, Hid (A = adr ⟨g, 2, none⟩ (es.map (·.1))) := ⟨_, rfl⟩
  rw [← HA.out] at cold2 CK hadr
  have HLE : Hid (∀ t, t < n → t + 1 ≤ maxLen ∧ (t + 1) * 8 ≤ 140737488355328) := fun t ht => ⟨by unfold maxLen; omega, by omega⟩
  clear h cold hgl HB HC hle
  unfold pt
  go_enter Try.func56, Try.ntmps56
  go_wp2_with (first | (at_len; refine wpList_len _ rfl _ rfl mb es rfl HM.out ?_; rw [HN.out]) | go_in)
  go_loopw [3, 4] (fun kv lv wr => ∃ t : Nat, t ≤ n ∧ lv = .pointer (some (A (t + 1))) ∧ Hid (wr.ownsRow B 3 1 kv t ((ks.take t).map (Value.int .i64)) ∧ Below B w wr)) (fun kv _ _ => n - lenV kv)
  case atStart => exact ⟨0, Nat.zero_le _, rfl, HW0.out⟩
  case round =>
    obtain ⟨t, ht, rfl, HO⟩ := hrel
    obtain ⟨sa, sk, hsv⟩ := own_formS HO.out.1
    subst hsv
    by_cases hlt : t < n
    · obtain ⟨b, e1, e2, e3, e4⟩ := CK.out wr HO.out.2 t hlt
      rw [e1]
      have HO2 : Hid ((wr.alloc (.cells #[.int .i64 (ks.getD t 0)] 3)).ownsRow B 3 1 (.slice sa t sk) t ((ks.take t).map (Value.int .i64))) := HO.out.1.alloc _
      have HB2 : Hid (Below B w (wr.alloc (.cells #[.int .i64 (ks.getD t 0)] 3)) ∧ B ≤ wr.heap.size) := ⟨HO.out.2.alloc (by have := HO.out.2.size; rw [HB0.out]; exact this) _, by have := HO.out.2.size; rw [HB0.out]; exact this⟩
      have hBs : B ≤ wr.heap.size := HB2.out.2
      obtain ⟨x, HX⟩ : ∃ x, Hid (ks.getD t 0 = x) := ⟨_, rfl⟩
      have HS : Hid (ks.take (t + 1) = ks.take t ++ [x]) := by
        have ht3 : t < ks.length := by omega
        rw [show ks.take (t + 1) = ks.take t ++ [ks[t]] from List.take_succ_eq_append_getElem ht3, ← HX.out, List.getD_eq_getElem?_getD, List.getElem?_eq_getElem ht3]
        rfl
      rw [HX.out] at e3 HO2 HB2
      have CK2 : Hid (∀ w3, Below B w w3 → w3.cell? ⟨b, 4, none⟩ = some (.pointer (some (A (t + 2))))) := by
        intro w3 hb3
        obtain ⟨b', f1, f2, f3, f4⟩ := CK.out w3 hb3 t hlt
        rw [e1] at f1
        rw [show b = b' from congrArg Addr.block f1]; exact f4
      clear e4
      go_wp2_with (first | (at_builtin; (refine wpList_append_own _ rfl _ _ 46 rfl B 3 i9 (.int .i64 0) 1 8 Try.underlying46 HIN.out.1 HIN.out.2.1 HIN.out.2.2.1 HIN.out.2.2.2 rfl (by decide) _ t _ rfl HO2.out ⟨wr.heap.size, 0, none⟩ 1 1 [.int .i64 x] rfl rfl (new_num _ _ _) (one_num _) (HLE.out t hlt).1 (HLE.out t hlt).2 (by simp; omega) ?_; intro v' w3 ho hg hnn; have HO3 : Hid (World.ownsRow _ _ _ _ _ _ _) := ho; have HG3 : Hid (Below B w w3) := below_grownBy HB2.out.1 hg (by rw [HB0.out]; exact Nat.le_refl _) (fun j hj => (HO2.out.lt _ hj).1); have hf3 := CK2.out _ HG3.out; clear ho hg hnn)) | go_in)
      go_roundw
      case rel => exact ⟨t + 1, by omega, rfl, by rw [HS.out, List.map_append]; exact HO3.out, HG3.out⟩
      case measure =>
        obtain ⟨a3, k3, e5⟩ := own_formS HO3.out
        rw [e5]
        show n - (t + 1) < n - t
        omega
    · have e0 : t = n := by omega
      have HE : Hid (t = n) := e0
      rw [show A (t + 1) = ⟨g, 2, none⟩ by rw [e0]; exact hadr.out]
      have HT : Hid (ks.take t = ks) := by rw [e0]; exact List.take_of_length_le (by omega)
      clear e0 hlt
      have hsm := neq_same (⟨g, 2, none⟩ : Addr) wr
      go_wp2
      go_ret
      refine ⟨_, rfl, ?_, HO.out.2⟩
      have := HO.out.1
      rw [HT.out] at this
      rw [hlen, ← HE.out]
      exact this
end
end Go.Proofs.Ytjkkijeamcihiaa.il
