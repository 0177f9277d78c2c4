import Derived.Test.YtpbapaghcabehaaDoorB4
namespace Go.Proofs.YtpbapaghcabehaaDoor.b5
open Go.RowKit Go.PlainAid Go.Shelf
open Go.Proofs.YtpbapaghcabehaaDoor.tb Go.Proofs.YtpbapaghcabehaaDoor.tc Go.Proofs.YtpbapaghcabehaaDoor.th Go.Proofs.YtpbapaghcabehaaDoor.tj Go.Proofs.YtpbapaghcabehaaDoor.tk Go.Proofs.YtpbapaghcabehaaDoor.va Go.Proofs.YtpbapaghcabehaaDoor.vb Go.Proofs.YtpbapaghcabehaaDoor.vc Go.Proofs.YtpbapaghcabehaaDoor.wa Go.Proofs.YtpbapaghcabehaaDoor.wb Go.Proofs.YtpbapaghcabehaaDoor.kp Go.Proofs.YtpbapaghcabehaaDoor.a1 Go.Proofs.YtpbapaghcabehaaDoor.a2 Go.Proofs.YtpbapaghcabehaaDoor.b1 Go.Proofs.YtpbapaghcabehaaDoor.b2 Go.Proofs.YtpbapaghcabehaaDoor.b3 Go.Proofs.YtpbapaghcabehaaDoor.b4
set_option linter.unusedVariables false

theorem box33 (w w' : World) (a b c d e f : Value) (t u : TypeId) (h : Below (w.heap.size + 2) ((w.alloc (.cells #[a, b, c] t)).alloc (.cells #[d, e, f] u)) w') : (w'.cell? ⟨w.heap.size, 0, none⟩ = some a ∧ w'.cell? ⟨w.heap.size, 1, none⟩ = some b ∧ w'.cell? ⟨w.heap.size, 2, none⟩ = some c) ∧ w'.cell? ⟨w.heap.size + 1, 0, none⟩ = some d ∧ w'.cell? ⟨w.heap.size + 1, 1, none⟩ = some e ∧ w'.cell? ⟨w.heap.size + 1, 2, none⟩ = some f := by
  have z1 : (w.alloc (.cells #[a, b, c] t)).heap.size = w.heap.size + 1 := by simp
  have hA := heap_alloc_new w (.cells #[a, b, c] t)
  have hB := heap_alloc_new (w.alloc (.cells #[a, b, c] t)) (.cells #[d, e, f] u)
  rw [z1] at hB
  have BB : Below (w.alloc (.cells #[a, b, c] t)).heap.size (w.alloc (.cells #[a, b, c] t)) ((w.alloc (.cells #[a, b, c] t)).alloc (.cells #[d, e, f] u)) := (Below.refl _ _).alloc (Nat.le_refl _) _
  have hA2 := (h.block w.heap.size (by omega)).trans ((BB.block w.heap.size (by omega)).trans hA)
  have hB2 := (h.block (w.heap.size + 1) (by omega)).trans hB
  exact ⟨⟨by rw [cell_of_row _ _ 0 _ _ _ hA2]; rfl, by rw [cell_of_row _ _ 1 _ _ _ hA2]; rfl, by rw [cell_of_row _ _ 2 _ _ _ hA2]; rfl⟩, by rw [cell_of_row _ _ 0 _ _ _ hB2]; rfl, by rw [cell_of_row _ _ 1 _ _ _ hB2]; rfl, by rw [cell_of_row _ _ 2 _ _ _ hB2]; rfl⟩
set_option maxHeartbeats 3200000 in
theorem sameReqC (o1 o2 : Int) (pa pb : List ByteArray) (n1 n2 : ByteArray) (a a' : Option Addr) (c c' : Nat) (w : World) (h1 : Reads w (.slice a pa.length c) pa) (h2 : Reads w (.slice a' pb.length c') pb) (hz : pa.length ≤ 140737488355328) (hy : pb.length ≤ 140737488355328) :
    Calls Tryd.prog 7 #[.agg #[.int .i64 o1, .slice a pa.length c, .string n1], .agg #[.int .i64 o2, .slice a' pb.length c', .string n2]] w fun e w' => e = .returned (.bool (decide (pa = pb) && decide (o1 = o2) && decide (n1 = n2))) ∧ Below w.heap.size w w' := by
  obtain ⟨W, HW⟩ : ∃ W, Hid ((w.alloc (.cells #[.int .i64 o1, .slice a pa.length c, .string n1] 24)).alloc (.cells #[.int .i64 o2, .slice a' pb.length c', .string n2] 24) = W) := ⟨_, rfl⟩
  have BW : Hid (Below w.heap.size w W) := by rw [← HW.out]; exact ((Below.refl _ _).alloc (Nat.le_refl _) _).alloc (by simp) _
  have zW : Hid (w.heap.size + 2 ≤ W.heap.size) := by show _ ≤ _; rw [← HW.out]; simp
  have SX : Hid (∀ w', Below (w.heap.size + 2) W w' → (w'.cell? ⟨w.heap.size, 0, none⟩ = some (.int .i64 o1) ∧ w'.cell? ⟨w.heap.size, 1, none⟩ = some (.slice a pa.length c) ∧ w'.cell? ⟨w.heap.size, 2, none⟩ = some (.string n1)) ∧ w'.cell? ⟨w.heap.size + 1, 0, none⟩ = some (.int .i64 o2) ∧ w'.cell? ⟨w.heap.size + 1, 1, none⟩ = some (.slice a' pb.length c') ∧ w'.cell? ⟨w.heap.size + 1, 2, none⟩ = some (.string n2)) := by
    rw [← HW.out]; exact fun w' h => box33 w w' _ _ _ _ _ _ _ _ h
  have C : Hid (Calls _ _ _ _ _) := sameTextsM _ _ pa pb W (h1.later BW.out) (h2.later BW.out) hz hy
  obtain ⟨x1, H1⟩ : ∃ x1, Hid (decide (pa = pb) = x1) := ⟨_, rfl⟩
  rw [H1.out] at C ⊢
  obtain ⟨n, HN⟩ : ∃ n, Hid (pa.length = n) := ⟨_, rfl⟩
  obtain ⟨m, HM⟩ : ∃ m, Hid (pb.length = m) := ⟨_, rfl⟩
  rw [HN.out, HM.out] at SX C HW
  rw [HN.out, HM.out]
  have q3 := toList_bs n1 n2
  obtain ⟨x3, H3⟩ : ∃ x3, Hid (decide (n1 = n2) = x3) := ⟨_, rfl⟩
  rw [H3.out] at q3 ⊢
  obtain ⟨⟨p0, p1, p2⟩, r0, r1, r2⟩ := SX.out W (Below.refl _ _)
  clear h1 h2 hz hy
  by_cases ho : o1 = o2
  · subst ho
    have g2 : (o1 == o1) = true := beq_iff_eq.2 rfl
    have HD : Hid (decide (o1 = o1) = true) := decide_eq_true rfl
    rw [HD.out]
    cases x1
    · go_enter Tryd.func7, Tryd.ntmps7
      go_wp2_with fail
      rw [HW.out]
      go_wp2_with fail
      refine C.out.mono ?_
      rintro e w1 ⟨rfl, hb⟩
      have B1 : Hid (Below w.heap.size w w1) := BW.out.trans (hb.mono BW.out.size)
      clear hb
      go_wp2
      go_ret
      exact ⟨rfl, B1.out⟩
    · go_enter Tryd.func7, Tryd.ntmps7
      go_wp2_with fail
      rw [HW.out]
      go_wp2_with fail
      refine C.out.mono ?_
      rintro e w1 ⟨rfl, hb⟩
      have B1 : Hid (Below w.heap.size w w1) := BW.out.trans (hb.mono BW.out.size)
      obtain ⟨⟨p0, p1, p2⟩, r0, r1, r2⟩ := SX.out w1 (hb.mono zW.out)
      clear hb
      go_wp2
      go_ret
      exact ⟨by cases x3 <;> rfl, B1.out⟩
  · have g2 : (o1 == o2) = false := beq_eq_false_iff_ne.2 ho
    have HD : Hid (decide (o1 = o2) = false) := decide_eq_false ho
    rw [HD.out]
    cases x1
    · go_enter Tryd.func7, Tryd.ntmps7
      go_wp2_with fail
      rw [HW.out]
      go_wp2_with fail
      refine C.out.mono ?_
      rintro e w1 ⟨rfl, hb⟩
      have B1 : Hid (Below w.heap.size w w1) := BW.out.trans (hb.mono BW.out.size)
      clear hb
      go_wp2
      go_ret
      exact ⟨rfl, B1.out⟩
    · go_enter Tryd.func7, Tryd.ntmps7
      go_wp2_with fail
      rw [HW.out]
      go_wp2_with fail
      refine C.out.mono ?_
      rintro e w1 ⟨rfl, hb⟩
      have B1 : Hid (Below w.heap.size w w1) := BW.out.trans (hb.mono BW.out.size)
      obtain ⟨⟨p0, p1, p2⟩, r0, r1, r2⟩ := SX.out w1 (hb.mono zW.out)
      clear hb
      go_wp2
      go_ret
      exact ⟨rfl, B1.out⟩
theorem as_empty : asP ByteArray.empty = none := by
  cases h : asP ByteArray.empty with
  | none => rfl
  | some r =>
    obtain ⟨_, h1, h2⟩ := as_form _ r h
    rw [rqT_yes h1] at h2
    have h3 := congrArg ByteArray.size h2
    unfold rqX hdB at h3
    simp only [ByteArray.size_append] at h3
    have h4 : oldB.size = 4 := rfl
    have h0 : ByteArray.empty.size = 0 := rfl
    omega
theorem askedAny (b : ByteArray) (hs : b.size ≤ 1100000) (w : World) (N : Hid (NumW w)) (M : Hid (MaxW w)) :
    Calls Tryd.prog 6 #[.string b] w fun e w' => (∃ o pf nt a c F, e = .returned (.tuple #[.agg #[.int .i64 o, .slice a (List.length pf) c, .string nt], .int .i64 F]) ∧ Reads w' (.slice a pf.length c) pf ∧ pf.length ≤ 1100001 ∧ ((asP b = some ⟨o, pf, nt⟩ ∧ F = 0) ∨ (asP b = none ∧ F = 13))) ∧ Below w.heap.size w w' := by
  refine (askedC b hs w N M).mono ?_
  rintro e w' ⟨h, hb⟩
  refine ⟨?_, hb⟩
  cases ha : asP b with
  | none =>
    rw [ha] at h
    exact ⟨0, [], ⟨#[]⟩, none, 0, 13, h, ⟨none, 0, rfl, .inl rfl⟩, by simp, .inr ⟨rfl, rfl⟩⟩
  | some r =>
    rw [ha] at h
    obtain ⟨a, c, he, ho⟩ := h
    obtain ⟨o, pf, nt⟩ := r
    have hl := (fr_small b _ (as_form b _ ha).1).2.2
    exact ⟨o, pf, nt, a, c, 0, he, own_reads ho rfl, by simp only at hl; omega, .inl ⟨rfl, rfl⟩⟩
end Go.Proofs.YtpbapaghcabehaaDoor.b5
