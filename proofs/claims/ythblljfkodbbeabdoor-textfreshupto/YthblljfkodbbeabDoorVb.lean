import Derived.Test.YthblljfkodbbeabDoorVa
import Derived.Test.YthblljfkodbbeabDoorUd
import Derived.Deep.WholeRow
namespace Go.Proofs.YthblljfkodbbeabDoor.vb
open Go.RowKit Go.PlainAid
open Go.Proofs.YthblljfkodbbeabDoor.ta Go.Proofs.YthblljfkodbbeabDoor.tb Go.Proofs.YthblljfkodbbeabDoor.tc Go.Proofs.YthblljfkodbbeabDoor.td Go.Proofs.YthblljfkodbbeabDoor.te Go.Proofs.YthblljfkodbbeabDoor.tf Go.Proofs.YthblljfkodbbeabDoor.tg Go.Proofs.YthblljfkodbbeabDoor.th Go.Proofs.YthblljfkodbbeabDoor.ti Go.Proofs.YthblljfkodbbeabDoor.tj Go.Proofs.YthblljfkodbbeabDoor.tk Go.Proofs.YthblljfkodbbeabDoor.ue Go.Proofs.YthblljfkodbbeabDoor.ub Go.Proofs.YthblljfkodbbeabDoor.uc Go.Proofs.YthblljfkodbbeabDoor.ud Go.Proofs.YthblljfkodbbeabDoor.sh Go.Proofs.YthblljfkodbbeabDoor.va
set_option linter.unusedVariables false

theorem over {w w1 w2 : World} (h : Below w.heap.size w w1) (b : Below w1.heap.size w1 w2) : Below w.heap.size w w2 := h.trans (b.mono h.size)
-- a list of texts in memory
def srow (xs : List ByteArray) : Array Value := (xs.map Value.string).toArray
theorem srow_get (xs : List ByteArray) (k : Nat) : (srow xs)[k]? = (xs[k]?).map Value.string := by simp [srow]
theorem srow_set (xs : List ByteArray) (k : Nat) (x : ByteArray) : (srow xs).setIfInBounds k (.string x) = srow (xs.set k x) := by simp [srow]
theorem srow_size (xs : List ByteArray) : (srow xs).size = xs.length := by simp [srow]
def Texts (w : World) (B : Nat) (v : Value) (xs : List ByteArray) : Prop :=
  (v = .slice none 0 0 ∧ xs = []) ∨ ∃ g, v = .slice (some ⟨g, 0, none⟩) xs.length xs.length ∧ B ≤ g ∧ w.heap[g]? = some (.cells (srow xs) 9 (0, 0))
theorem Texts.later {w w' : World} {B : Nat} {v : Value} {xs : List ByteArray} (h : Texts w B v xs) (hb : Below w.heap.size w w') : Texts w' B v xs := by
  rcases h with h | ⟨g, h1, h2, h3⟩
  · exact .inl h
  · exact .inr ⟨g, h1, h2, (hb.block g (Array.getElem?_eq_some_iff.1 h3).1).trans h3⟩

-- all words read, or none
def allP : List (List Int) → Option (List (List Int))
  | [] => some []
  | p :: ps => match unP p with
    | none => none
    | some x => match allP ps with
      | none => none
      | some xs => some (x :: xs)
def wordsP (l : List Int) : Option (List (List Int)) := if l = [] then some [] else allP (parts 32 l)
theorem allP_length : ∀ (ps : List (List Int)) (xs : List (List Int)), allP ps = some xs → xs.length = ps.length
  | [], xs, h => by obtain rfl := Option.some.inj h; rfl
  | p :: ps, xs, h => by
    unfold allP at h
    cases hp : unP p with
    | none => rw [hp] at h; cases h
    | some x =>
      rw [hp] at h
      cases ha : allP ps with
      | none => rw [ha] at h; cases h
      | some ys => rw [ha] at h; obtain rfl := Option.some.inj h; simp [allP_length ps ys ha]
theorem allP_app : ∀ (ps qs : List (List Int)) (xs : List (List Int)), allP ps = some xs → allP (ps ++ qs) = (allP qs).map (xs ++ ·)
  | [], qs, xs, h => by obtain rfl := Option.some.inj h; simp
  | p :: ps, qs, xs, h => by
    unfold allP at h
    cases hp : unP p with
    | none => rw [hp] at h; cases h
    | some x =>
      rw [hp] at h
      cases ha : allP ps with
      | none => rw [ha] at h; cases h
      | some ys =>
        rw [ha] at h
        obtain rfl := Option.some.inj h
        rw [List.cons_append, allP, hp, allP_app ps qs ys ha]
        cases allP qs <;> rfl
theorem allP_snoc (ps : List (List Int)) (p : List Int) (xs : List (List Int)) (x : List Int) (h : allP ps = some xs) (hp : unP p = some x) : allP (ps ++ [p]) = some (xs ++ [x]) := by
  rw [allP_app ps [p] xs h]
  simp [allP, hp]
theorem allP_bad (ps qs : List (List Int)) (p : List Int) (xs : List (List Int)) (h : allP ps = some xs) (hp : unP p = none) : allP (ps ++ p :: qs) = none := by
  rw [allP_app ps _ xs h]
  simp [allP, hp]

def wordsR (w w' : World) (o : Option (List (List Int))) (e : Ending) : Prop :=
  match o with
  | some xs => ∃ v, e = .returned (.tuple #[v, .int .i64 0]) ∧ Texts w' w.heap.size v (xs.map str)
  | none => e = .returned (.tuple #[.slice none 0 0, .int .i64 44])
theorem strs_ne : 9 ≠ 44 := by decide

set_option maxHeartbeats 3200000 in
set_option maxRecDepth 100000 in
theorem words (s : ByteArray) (hs : s.size < 4294967281) (w : World) :
    Calls Tryd.prog 11 #[.string s] w fun e w' => wordsR w w' (wordsP (bs s)) e ∧ Below w.heap.size w w' := by
  by_cases h0 : s.size = 0
  · have hb0 : bs s = [] := List.length_eq_zero_iff.1 (by rw [bs_length]; exact h0)
    have he : s = ByteArray.empty := bs_inj (by rw [hb0]; rfl)
    have HW : Hid (wordsP (bs s) = some []) := by show _ = _; unfold wordsP; rw [if_pos hb0]
    rw [HW.out]
    clear hb0 HW
    subst he
    go_enter Tryd.func11, Tryd.ntmps11
    go_wp2
    go_ret2
    exact ⟨⟨_, rfl, .inl ⟨rfl, rfl⟩⟩, Below.refl _ _⟩
  · have hne2 : (s.toList == []) = false := by rw [toList_lit]; exact decide_eq_false (fun h => h0 (by rw [h]; rfl))
    have hne3 : s.toList.isEmpty = false := by cases hl : s.toList with
      | nil => rw [hl] at hne2; cases hne2
      | cons => rfl
    have hnn : bs s ≠ [] := fun h => h0 (by rw [← bs_length, h]; rfl)
    have HWP : Hid (wordsP (bs s) = allP (parts 32 (bs s))) := by show _ = _; unfold wordsP; rw [if_neg hnn]
    obtain ⟨R, HR⟩ : ∃ R, Hid (wordsP (bs s) = R) := ⟨_, rfl⟩
    rw [HR.out] at HWP ⊢
    have SP : Hid (Calls _ _ _ _ _) := split1 s 32 w hs
    have hpin : ∀ p ∈ parts 32 (bs s), In 256 p := parts_in 32 _ (bs_in s)
    have hplen : ∀ p ∈ parts 32 (bs s), p.length ≤ s.size := by
      intro p hp
      have key : ∀ (l : List Int), ∀ p ∈ parts 32 l, p.length ≤ l.length := by
        intro l
        induction l with
        | nil => intro p hp; simp [parts] at hp; subst hp; simp
        | cons b r ih =>
          intro p hp
          unfold parts at hp
          split at hp
          · rcases List.mem_cons.1 hp with rfl | hp
            · simp
            · have := ih p hp; simp; omega
          · split at hp
            · rename_i q qs he
              rcases List.mem_cons.1 hp with rfl | hp
              · have := ih q (by rw [he]; exact List.mem_cons_self); simp; omega
              · have := ih p (by rw [he]; exact List.mem_cons_of_mem _ hp); simp; omega
            · rw [List.mem_singleton.1 hp]; simp
      have := key (bs s) p hp
      rwa [bs_length] at this
    have hpc : pcs 32 s = (parts 32 (bs s)).map str := rfl
    have hPn : (parts 32 (bs s)).length ≤ s.size + 1 := by
      rw [parts_length]
      have := List.count_le_length (a := (32 : Int)) (l := bs s)
      rw [bs_length] at this
      omega
    rw [hpc] at SP
    have HPI : Hid (∀ p ∈ parts 32 (bs s), In 256 p ∧ p.length ≤ s.size) := fun p hp => ⟨hpin p hp, hplen p hp⟩
    clear hpin hplen hpc hnn h0
    generalize parts 32 (bs s) = P at *
    obtain ⟨n, HN⟩ : ∃ n, Hid (P.length = n) := ⟨_, rfl⟩
    have hn1 : n ≤ s.size + 1 := by rw [← HN.out]; exact hPn
    have HG : Hid ((w.alloc (.cells (srow (P.map str)) 9)).heap[w.heap.size]? = some (.cells (srow (P.map str)) 9 (0, 0))) := heap_alloc_new w _
    have HB0 : Hid (Below w.heap.size w (w.alloc (.cells (srow (P.map str)) 9))) := (Below.refl _ _).alloc (Nat.le_refl _) _
    have SP2 : Hid (Calls Tryd.prog 30 #[.string s, .string ⟨#[32]⟩] w fun e w' => e = .returned (.slice (some ⟨w.heap.size, 0, none⟩) n n) ∧ w' = w.alloc (.cells (srow (P.map str)) 9)) := by
      have := SP.out
      rw [List.length_map, HN.out] at this
      exact this
    have VO : Hid (∀ w, Calls _ _ _ _ _) := fun w => valuesOf UP (by decide) w
    rw [show UP.size = AUP.length from rfl, bsUP] at VO
    unfold UP at VO
    have UN : Hid (∀ (q : ByteArray) (w : World), q.size ≤ 281474976710656 → Calls Tryd.prog 27 #[.string q, .agg (row (valK AUP AUP.length))] w fun e w' => e = .returned (unV q) ∧ Below w.heap.size w w') := fun q w hq => unescape q hq w
    have hvl : (row (valK AUP AUP.length)).size = 256 := by rw [row_size, valK_length]
    have HI : Hid ((Tryd.prog.info? 44).map (·.size) = some (row (valK AUP AUP.length)).size) := by show _ = _; rw [hvl]; exact info256
    have H3 : Hid ((row (valK AUP AUP.length)).all (·.oneCell') = true) := by show _ = _; simp [row, Value.oneCell']
    have H4 : Hid (zV.size = (row (valK AUP AUP.length)).size) := by show _ = _; rw [hvl]; unfold zV; rw [row_size, List.length_replicate]
    clear SP hPn hvl
    generalize row (valK AUP AUP.length) = V at *
    obtain ⟨W0, HW0⟩ : ∃ W0, Hid (w.alloc (.cells (srow (P.map str)) 9) = W0) := ⟨_, rfl⟩
    rw [HW0.out] at HG HB0 SP2
    go_enter Tryd.func11, Tryd.ntmps11
    go_wp2_with fail
    refine SP2.out.mono ?_
    rintro e w1 ⟨rfl, hw1⟩
    obtain rfl : w1 = W0 := hw1
    clear SP2 HW0
    go_wp2_with fail
    refine (VO.out _).mono ?_
    rintro e w2 ⟨rfl, hb2⟩
    have HB2 : Hid (Below w.heap.size w w2) := over HB0.out hb2
    have HG2 : Hid (w2.heap[w.heap.size]? = some (.cells (srow (P.map str)) 9 (0, 0))) := (hb2.block _ (Array.getElem?_eq_some_iff.1 HG.out).1).trans HG.out
    clear hb2 VO HB0 HG
    obtain ⟨w3, HW3⟩ : ∃ w3, Hid (w2.alloc (.cells V 44) = w3) := ⟨_, rfl⟩
    have HV3 : Hid (w3.heap[w2.heap.size]? = some (.cells V 44 (0, 0))) := by rw [← HW3.out]; exact heap_alloc_new w2 _
    have hgl := (Array.getElem?_eq_some_iff.1 HG2.out).1
    have HG3 : Hid (w3.heap[w.heap.size]? = some (.cells (srow (P.map str)) 9 (0, 0))) := by rw [← HW3.out]; exact (heap_alloc_old w2 _ hgl).trans HG2.out
    have HB3 : Hid (Below w.heap.size w w3) := by rw [← HW3.out]; exact HB2.out.alloc HB2.out.size _
    have HGL : Hid (w.heap.size < w2.heap.size) := hgl
    clear HG2 HB2 hgl
    go_wp2_with (first | (refine wpList_alloc rfl 44 rfl _ _ (alloc256 _) ?_) | (refine wpList_store_row rfl 44 (.tmp 5) (.tmp 14) rfl w2.heap.size V rfl rfl 44 zV (heap_alloc_new w2 _) HI.out H4.out H3.out ?_; rw [World.setRow_alloc_new, HW3.out]))
    go_loopw [17] (fun i wr => ∃ (k : Nat) (done : List (List Int)), k ≤ n ∧ i = .int .i64 k ∧ Hid (allP (P.take k) = some done ∧ wr.heap[w.heap.size]? = some (.cells (srow (done.map str ++ (P.drop k).map str)) 9 (0, 0)) ∧ wr.heap[w2.heap.size]? = some (.cells V 44 (0, 0)) ∧ Below w.heap.size w wr)) (fun i _ => (n - intOf i).toNat)
    case atStart => exact ⟨0, [], by omega, rfl, rfl, HG3.out, HV3.out, HB3.out⟩
    case round =>
      clear HG3 HV3 HB3
      obtain ⟨k, done, hk, rfl, HL⟩ := hrel
      have hdl : done.length = k := by rw [allP_length _ _ HL.out.1, List.length_take, HN.out]; omega
      by_cases hlt : k < n
      · have hlt' : (k : Int) < n := by omega
        have hkp : k < P.length := by rw [HN.out]; exact hlt
        obtain ⟨p, HP⟩ : ∃ p, Hid (P[k]'hkp = p) := ⟨P[k]'hkp, rfl⟩
        have hpm := HPI.out p (by rw [← HP.out]; exact List.getElem_mem _)
        have hdrop : P.drop k = p :: P.drop (k + 1) := by rw [List.drop_eq_getElem_cons hkp, HP.out]
        have htake : P.take (k + 1) = P.take k ++ [p] := by rw [List.take_succ_eq_append_getElem hkp, HP.out]
        have C1 : wr.cell? ⟨w.heap.size, k, none⟩ = some (.string (str p)) := by
          rw [cell_of_row _ _ _ _ _ _ HL.out.2.1, srow_get, hdrop, List.getElem?_append_right (by rw [List.length_map, hdl]; exact Nat.le_refl _)]
          simp [hdl]
        have U1 : Hid (Calls _ _ _ _ _) := UN.out (str p) wr (by rw [str_size]; omega)
        cases hun : unP p with
        | none =>
          rw [show unV (str p) = failV 44 by unfold unV; rw [bs_str p hpm.1, hun]] at U1
          unfold failV at U1
          have HBAD : Hid (R = none) := by
            show _ = _
            rw [HWP.out]
            have e : P = P.take k ++ p :: P.drop (k + 1) := by rw [← hdrop, List.take_append_drop]
            rw [e]
            exact allP_bad _ _ _ _ HL.out.1 hun
          clear hun
          go_wp2_with (refine wpList_load_row rfl 44 (.tmp 5) rfl w2.heap.size rfl 44 V (0, 0) _ HL.out.2.2.1 Tryd.underlying44 rfl HI.out ?_)
          refine U1.out.mono ?_
          rintro e w5 ⟨rfl, hb5⟩
          have HB5 : Hid (Below w.heap.size w w5) := over HL.out.2.2.2 hb5
          clear hb5 U1
          go_wp2
          go_ret2
          refine ⟨?_, HB5.out⟩
          rw [HBAD.out]
          exact rfl
        | some x =>
          rw [show unV (str p) = readV x by unfold unV; rw [bs_str p hpm.1, hun]] at U1
          unfold readV at U1
          have HD : Hid (allP (P.take (k + 1)) = some (done ++ [x])) := by show _ = _; rw [htake]; exact allP_snoc _ _ _ _ HL.out.1 hun
          clear hun
          go_wp2_with (refine wpList_load_row rfl 44 (.tmp 5) rfl w2.heap.size rfl 44 V (0, 0) _ HL.out.2.2.1 Tryd.underlying44 rfl HI.out ?_)
          refine U1.out.mono ?_
          rintro e w5 ⟨rfl, hb5⟩
          have HB5 : Hid (Below w.heap.size w w5) := over HL.out.2.2.2 hb5
          have HG5 : Hid (w5.heap[w.heap.size]? = some (.cells (srow (done.map str ++ (P.drop k).map str)) 9 (0, 0))) := (hb5.block _ (Array.getElem?_eq_some_iff.1 HL.out.2.1).1).trans HL.out.2.1
          have HV5 : Hid (w5.heap[w2.heap.size]? = some (.cells V 44 (0, 0))) := (hb5.block _ (Array.getElem?_eq_some_iff.1 HL.out.2.2.1).1).trans HL.out.2.2.1
          have C5 : w5.cell? ⟨w.heap.size, k, none⟩ = some (.string (str p)) := by
            rw [cell_of_row _ _ _ _ _ _ HG5.out, srow_get, hdrop, List.getElem?_append_right (by rw [List.length_map, hdl]; exact Nat.le_refl _)]
            simp [hdl]
          have F5 : w5.frozen? ⟨w.heap.size, k, none⟩ = false := frozen_of_row _ _ _ _ _ HG5.out
          have HS : Hid ((done.map str ++ (P.drop k).map str).set k (str x) = (done ++ [x]).map str ++ (P.drop (k + 1)).map str) := by
            show _ = _
            rw [hdrop, List.map_cons, List.set_append_right _ _ (by rw [List.length_map, hdl]; exact Nat.le_refl _)]
            simp [hdl]
          clear hb5 U1 C1
          generalize str x = X at *
          generalize str p = Y at *
          go_wp2
          go_roundw
          case rel =>
            refine ⟨k + 1, done ++ [x], by omega, by go_num, HD.out, ?_, ?_, HB5.out.setCell (p := ⟨w.heap.size, k, none⟩) (Nat.le_refl _) _⟩
            · rw [th.heap_setCell_same _ _ _ _ _ _ HG5.out, srow_set, HS.out]
            · rw [Below.heap_setCell _ _ _ _ (by have := HGL.out; show w2.heap.size ≠ w.heap.size; omega)]; exact HV5.out
          case measure => simp [intOf]; omega
      · have hlt' : ¬ (k : Int) < n := by omega
        obtain rfl : k = n := by omega
        have HE : Hid (R = some done) := by
          show _ = _
          rw [HWP.out, ← HL.out.1, ← HN.out, List.take_of_length_le (Nat.le_refl _)]
        have hdr : P.drop k = [] := by rw [← HN.out]; exact List.drop_length
        have HT : Hid (Texts wr w.heap.size (.slice (some ⟨w.heap.size, 0, none⟩) k k) (done.map str)) := by
          refine .inr ⟨w.heap.size, ?_, Nat.le_refl _, ?_⟩
          · rw [List.length_map, hdl]
          · have := HL.out.2.1
            rw [hdr, List.map_nil, List.append_nil] at this
            exact this
        clear hdr
        go_wp2
        go_ret2
        refine ⟨?_, HL.out.2.2.2⟩
        rw [HE.out]
        exact ⟨_, rfl, HT.out⟩
end Go.Proofs.YthblljfkodbbeabDoor.vb
