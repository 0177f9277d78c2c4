import Derived.Test.YtpbapaghcabehaaDoorB2
import Derived.Test.YtpbapaghcabehaaDoorTh
import Derived.Test.YtpbapaghcabehaaDoorSh
import Derived.Laws.EntriesVeiled
namespace Go.Proofs.YtpbapaghcabehaaDoor.b3
open Go.RowKit Go.PlainAid Go.Shelf
open Go.Proofs.YtpbapaghcabehaaDoor.tb Go.Proofs.YtpbapaghcabehaaDoor.tc Go.Proofs.YtpbapaghcabehaaDoor.th Go.Proofs.YtpbapaghcabehaaDoor.tj Go.Proofs.YtpbapaghcabehaaDoor.tk Go.Proofs.YtpbapaghcabehaaDoor.va Go.Proofs.YtpbapaghcabehaaDoor.vb Go.Proofs.YtpbapaghcabehaaDoor.vc Go.Proofs.YtpbapaghcabehaaDoor.wa Go.Proofs.YtpbapaghcabehaaDoor.wb Go.Proofs.YtpbapaghcabehaaDoor.sb Go.Proofs.YtpbapaghcabehaaDoor.sh Go.Proofs.YtpbapaghcabehaaDoor.kp Go.Proofs.YtpbapaghcabehaaDoor.a1 Go.Proofs.YtpbapaghcabehaaDoor.a2 Go.Proofs.YtpbapaghcabehaaDoor.b1 Go.Proofs.YtpbapaghcabehaaDoor.b2
set_option linter.unusedVariables false

-- the library's cuts
def MaxW (w : World) : Prop := ∃ m, w.cell? ⟨0, 0, none⟩ = some (.int .i64 m)
theorem MaxW.down {w w' : World} (h : MaxW w) (hb : Below w.heap.size w w') : MaxW w' := by
  obtain ⟨m, hm⟩ := h
  exact ⟨m, (hb.cell (p := ⟨0, 0, none⟩) (World.block_lt_of_cell? _ _ hm)).trans hm⟩
theorem cutC (s sep : ByteArray) (hs : s.size < 4294967281) (w : World) (M : MaxW w) :
    Calls Tryd.prog 27 #[.string s, .string sep] w fun e w' => e = .returned (.tuple #[.string (cutA s sep), .string (cutB s sep), .bool (cutF s sep)]) ∧ Below w.heap.size w w' := by
  obtain ⟨m, hm⟩ := M
  refine (Any.strings_Cut lays145 s sep m w hs hm).mono ?_
  rintro e w' ⟨rfl, n, rfl⟩
  exact ⟨rfl, Go.Proofs.YtpbapaghcabehaaDoor.tj.below_dN (Below.refl _ _) n⟩
theorem prefixC (s : ByteArray) (w : World) :
    Calls Tryd.prog 28 #[.string s, .string ⟨#[111, 108, 100, 32]⟩] w fun e w' => e = .returned (.tuple #[.string (dropOld s), .bool (hasOld s)]) ∧ w' = w := Any.strings_CutPrefix lays103 s oldB w
theorem cloneC (s : ByteArray) (w : World) (h : s.size ≤ 140737488355328) :
    Calls Tryd.prog 30 #[.string s] w fun e w' => e = .returned (.string s) ∧ Below w.heap.size w w' := by
  have CC : Hid (∀ w, Calls Tryd.prog 44 #[.string s] w fun e w' => e = .returned (.string s) ∧ Below w.heap.size w w') := fun w => Any.stringslite_Clone laysM316 s w (by omega)
  go_enter Tryd.func30, Tryd.ntmps30
  go_wp2_with (go_at_call 44; refine (CC.out _).mono ?_; rintro _ w1 ⟨rfl, k1⟩; have K1 : Hid (Below w.heap.size w w1) := k1; clear k1)
  go_ret
  exact ⟨rfl, K1.out⟩
theorem cut_sizes (s sub : ByteArray) : (cutA s sub).size ≤ s.size ∧ (cutB s sub).size ≤ s.size := by
  rcases cut_cases s sub with ⟨x, y, e, _, h1, h2, _⟩ | ⟨_, h1, h2, _⟩
  · have := congrArg ByteArray.size e
    simp only [ByteArray.size_append] at this
    rw [h1, h2]; omega
  · rw [h1, h2]; exact ⟨Nat.le_refl _, Nat.zero_le _⟩
theorem drop_size (s : ByteArray) : (dropOld s).size ≤ s.size := by
  unfold dropOld
  have h := Lib.trimPrefix_le s.data.toList oldB.data.toList
  show (Lib.trimPrefix s.data.toList oldB.data.toList).toArray.size ≤ s.data.size
  rw [List.size_toArray, ← Array.length_toList]
  exact h
-- the first line of a text, and the others
theorem first_line (s : ByteArray) : ∃ ls, pcB s = cutA s nlB :: ls ∧ (cutF s nlB = true → ls = pcB (cutB s nlB)) ∧ (cutF s nlB = false → ls = []) ∧ (cutF s nlB = true → (cutB s nlB).size < s.size) := by
  rcases cut_nl s with ⟨x, y, e, h1, h2, h3, h4⟩ | ⟨h1, h2, h3, h4⟩
  · refine ⟨pcB y, ?_, (fun _ => by rw [h3]), (fun h => by rw [h4] at h; cases h), fun _ => ?_⟩
    · rw [h2, e]; exact pc_nl x y h1
    · rw [h3]
      have := congrArg ByteArray.size e
      simp only [ByteArray.size_append, nl_size] at this
      omega
  · exact ⟨[], by rw [h2]; exact pc_one s h1, (fun h => by rw [h4] at h; cases h), (fun _ => rfl), fun h => by rw [h4] at h; cases h⟩
theorem own_form {w : World} {B t z n : Nat} {v : Value} {xs : List Value} (o : w.ownsRow B t z v n xs) : ∃ a c, v = .slice a n c := by
  rcases o.2 with ⟨rfl, h0⟩ | ⟨g, cap, cur, rfl, _⟩
  · exact ⟨none, 0, by rw [h0]⟩
  · exact ⟨_, cap, rfl⟩
theorem own_below {w w' : World} {B t z n : Nat} {v : Value} {xs : List Value} (o : w.ownsRow B t z v n xs) (hb : Below w.heap.size w w') : w'.ownsRow B t z v n xs := own_kp o (Kp.of_below (A := fun _ => False) hb) (fun _ _ e => e)
theorem own_set {w : World} {B t z n q k : Nat} {v u : Value} {xs : List Value} (o : w.ownsRow B t z v n xs) (hq : q < B) : (w.setCell ⟨q, k, none⟩ u).ownsRow B t z v n xs :=
  own_kp o (Kp.setCell (A := fun j => j = q) _ _ _ _ rfl) (fun j hj e => by have := (o.lt j hj.symm).1; omega)
theorem one_texts (xs : List ByteArray) : ∀ u ∈ xs.map Value.string, u.oneCell' = true := by
  intro u hu
  obtain ⟨x, _, rfl⟩ := List.mem_map.1 hu
  rfl
theorem new_one (W : World) (a : Value) (t : TypeId) : ∀ (j : Nat) (u : Value), [a][j]? = some u → (W.alloc (.cells #[a] t)).cell? (Addr.add ⟨W.heap.size, 0, none⟩ j) = some u := by
  intro j u h
  have hb := heap_alloc_new W (.cells #[a] t)
  have e : (Addr.add ⟨W.heap.size, 0, none⟩ j) = ⟨W.heap.size, j, none⟩ := by simp [Addr.add]; omega
  rw [e, cell_of_row _ _ j _ _ _ hb]
  simpa using h
theorem infoS : (Tryd.prog.info? 9).map (fun i => (i.zero, i.size, i.bytes)) = some (some (.string ⟨#[]⟩), 1, 16) := by kernel_rfl
theorem put3 (w : World) (p : Nat) (a b c x y z : Value) (t : TypeId) (h : w.heap[p]? = some (.cells #[a, b, c] t (0, 0))) : ∀ W, W = ((w.setCell ⟨p, 0, none⟩ x).setCell ⟨p, 1, none⟩ y).setCell ⟨p, 2, none⟩ z → (W.cell? ⟨p, 0, none⟩ = some x ∧ W.cell? ⟨p, 1, none⟩ = some y ∧ W.cell? ⟨p, 2, none⟩ = some z) ∧ ∀ B, B ≤ p → Below B w W := by
  intro W hW
  have h1 := heap_setCell_same _ _ 0 _ _ x h
  have h2 := heap_setCell_same _ _ 1 _ _ y h1
  have h3 := heap_setCell_same _ _ 2 _ _ z h2
  rw [← hW] at h3
  refine ⟨⟨cell_of_row _ _ 0 _ _ _ h3, cell_of_row _ _ 1 _ _ _ h3, cell_of_row _ _ 2 _ _ _ h3⟩, fun B hB => ?_⟩
  have k : Kp (fun q => q = p) w W := by rw [hW]; exact ((Kp.setCell (A := fun q => q = p) _ _ _ _ rfl).trans (Kp.setCell (A := fun q => q = p) _ _ _ _ rfl)).trans (Kp.setCell (A := fun q => q = p) _ _ _ _ rfl)
  have hl := (Array.getElem?_eq_some_iff.1 h).1
  exact k.below (fun q e => by omega) (by omega)
def zR : Obj := .cells #[.int .i64 0, .slice none 0 0, .string ⟨#[]⟩] 24
def zeroR : Value := .agg #[.int .i64 0, .slice none 0 0, .string ⟨#[]⟩]
def frR (w w' : World) (o : Option Rq) (e : Ending) : Prop := match o with
  | some r => ∃ a c, e = .returned (.tuple #[.agg #[.int .i64 r.old, .slice a r.proof.length c, .string r.note], .bool true]) ∧ w'.ownsRow w.heap.size 9 1 (.slice a r.proof.length c) r.proof.length (r.proof.map Value.string)
  | none => e = .returned (.tuple #[zeroR, .bool false])
def cutS (y : ByteArray) : ByteArray := str (cutL (bs y))
theorem cutS_size (y : ByteArray) (h : Acc64 (bs y)) : (cutS y).size ≤ y.size := by
  obtain ⟨h1, h2⟩ := b64_back (bs y) (bs_in y) h
  have h3 := congrArg List.length h1
  rw [b64L_length, bs_length] at h3
  unfold cutS
  rw [str_size]
  omega
theorem own_mono {w : World} {B B' t z n : Nat} {v : Value} {xs : List Value} (o : w.ownsRow B t z v n xs) (h : B' ≤ B) : w.ownsRow B' t z v n xs := by
  refine ⟨o.1, ?_⟩
  rcases o.2 with h2 | ⟨g, cap, cur, e, h2, h3⟩
  · exact .inl h2
  · exact .inr ⟨g, cap, cur, e, Nat.le_trans h h2, h3⟩
theorem parts_len (c : Int) : ∀ l : List Int, (parts c l).length ≤ l.length + 1
  | [] => by simp [parts]
  | b :: r => by
    have ih := parts_len c r
    unfold parts
    split
    · simp only [List.length_cons]; omega
    · cases h : parts c r with
      | nil => simp
      | cons p ps =>
        rw [h] at ih
        simp only [List.length_cons] at ih ⊢
        omega
theorem pc_len (s : ByteArray) : (pcB s).length ≤ s.size + 1 := by
  have := parts_len 10 (bs s)
  rw [bs_length] at this
  unfold pcB
  rw [List.length_map]
  exact this
def msr : Value → Value → Nat
  | .string y, .bool b => y.size + (if b then 1 else 0)
  | _, _ => 0
-- what stands while the lines are read
structure Rd3 (p q : Nat) (W : World) (old : Int) (nt : ByteArray) (xs : List ByteArray) (wr : World) : Prop where
  pq : p < q
  box : ∃ a c, wr.heap[q]? = some (.cells #[.int .i64 old, .slice a xs.length c, .string nt] 24 (0, 0)) ∧ wr.ownsRow (q + 1) 9 1 (.slice a xs.length c) xs.length (xs.map Value.string)
  low : Below (p + 1) W wr
theorem Rd3.later {p q : Nat} {W w w' : World} {old : Int} {nt : ByteArray} {xs : List ByteArray} (h : Rd3 p q W old nt xs w) (hb : Below w.heap.size w w') : Rd3 p q W old nt xs w' := by
  obtain ⟨a, c, h1, h2⟩ := h.box
  have hq := (Array.getElem?_eq_some_iff.1 h1).1
  exact ⟨h.pq, ⟨a, c, (hb.block q hq).trans h1, own_below h2 hb⟩, h.low.trans (hb.mono (Nat.le_trans (Nat.succ_le_of_lt h.pq) (Nat.le_of_lt hq)))⟩

set_option maxHeartbeats 6400000 in
theorem fromTextC (b : ByteArray) (hs : b.size ≤ 1100000) (w : World) (N : Hid (NumW w)) (M : Hid (MaxW w)) :
    Calls Tryd.prog 16 #[.string b] w fun e w' => frR w w' (frP b) e ∧ Below w.heap.size w w' := by
  obtain ⟨i0, hi, hz0, hz1, hz2⟩ := info_parts infoS
  have HIN : Hid (_ ∧ _ ∧ _ ∧ _) := ⟨hi, hz0, hz1, hz2⟩
  clear hi hz0 hz1 hz2
  obtain ⟨zA, zB⟩ := cut_sizes b dbB
  have zN := drop_size (cutA b dbB)
  obtain ⟨W, HW⟩ : ∃ W, Hid (w.alloc (.cells #[.int .i64 0, .slice none 0 0, .string ⟨#[]⟩] 24) = W) := ⟨_, rfl⟩
  have BW : Hid (Below w.heap.size w W) := by rw [← HW.out]; exact (Below.refl _ _).alloc (Nat.le_refl _) _
  have HBK : Hid (W.heap[w.heap.size]? = some (.cells #[.int .i64 0, .slice none 0 0, .string ⟨#[]⟩] 24 (0, 0))) := by rw [← HW.out]; exact heap_alloc_new w _
  have zW : Hid (w.heap.size + 1 ≤ W.heap.size) := by show _ ≤ _; rw [← HW.out]; simp
  have C1 : Hid (Calls _ _ _ _ _) := cutC b dbB (by omega) W (M.out.down BW.out)
  have MW : Hid (∀ w', Below W.heap.size W w' → MaxW w') := fun w' h => (M.out.down BW.out).down h
  have NW : Hid (∀ w', Below W.heap.size W w' → NumW w') := fun w' h => (N.out.down BW.out).down h
  have C2 : Hid (∀ w, Calls _ _ _ _ _) := fun w => prefixC (cutA b dbB) w
  obtain ⟨p, HP⟩ : ∃ p, Hid (w.heap.size = p) := ⟨_, rfl⟩
  have FIN : Hid (∀ w', Below p W w' → Below w.heap.size w w') := fun w' h => by rw [HP.out] at BW ⊢; exact BW.out.trans h
  have PW : Hid (w.heap.size + 1 = p + 1) := by show _ = _; rw [HP.out]
  rw [HP.out] at HBK zW
  have MP : Hid (∀ w', Below (p + 1) W w' → MaxW w') := fun w' h => M.out.down (FIN.out w' (h.mono (Nat.le_succ p)))
  have BK : Hid (∀ w', Below (p + 1) W w' → w'.heap[p]? = some (.cells #[.int .i64 0, .slice none 0 0, .string ⟨#[]⟩] 24 (0, 0))) := fun w' h => (h.block p (Nat.lt_succ_self _)).trans HBK.out
  by_cases hyes : cutF b dbB = true ∧ hasOld (cutA b dbB) = true
  · rw [frP_yes b hyes.1 hyes.2]
    obtain ⟨s, HS⟩ : ∃ s, Hid (dropOld (cutA b dbB) = s) := ⟨_, rfl⟩
    obtain ⟨nt, HT⟩ : ∃ nt, Hid (cutB b dbB = nt) := ⟨_, rfl⟩
    rw [hyes.1, HT.out] at C1
    rw [hyes.2, HS.out] at C2
    rw [HS.out, HT.out]
    rw [HS.out] at zN
    rw [HT.out] at zB
    obtain ⟨hd, HD⟩ : ∃ hd, Hid (cutA b dbB = hd) := ⟨_, rfl⟩
    rw [HD.out] at C1 C2 zA zN
    obtain ⟨ls, hl, hl1, hl2, hl3⟩ := first_line s
    obtain ⟨zx, zy⟩ := cut_sizes s nlB
    have C3 : Hid (∀ w, MaxW w → Calls _ _ _ _ _) := fun w => cutC s nlB (by omega) w
    obtain ⟨x, HX⟩ : ∃ x, Hid (cutA s nlB = x) := ⟨_, rfl⟩
    obtain ⟨y, HY⟩ : ∃ y, Hid (cutB s nlB = y) := ⟨_, rfl⟩
    obtain ⟨f, HF⟩ : ∃ f, Hid (cutF s nlB = f) := ⟨_, rfl⟩
    rw [HX.out, HY.out, HF.out] at C3
    rw [HX.out] at hl zx
    rw [HY.out] at zy hl1 hl3
    rw [HF.out] at hl1 hl2 hl3
    rw [hl]
    have C4 : Hid (∀ w, NumW w → Calls _ _ _ _ _) := fun w => unDec x (by omega) w
    by_cases hdec : ∃ n, I64 n ∧ decS n = x
    · obtain ⟨m, HM⟩ : ∃ m, Hid (unN x = m) := ⟨_, rfl⟩
      rw [show unDecV x = .tuple #[.int .i64 m, .int .i64 0] by unfold unDecV; rw [if_pos hdec, HM.out]] at C4
      have HYES : Hid ((∀ z ∈ ls, Acc64 (bs z)) → frN (x :: ls) nt = some ⟨m, ls.map cutS, nt⟩) := fun h => by rw [frN_yes x ls nt hdec h, HM.out]; rfl
      have HNO : Hid ((¬ ∀ z ∈ ls, Acc64 (bs z)) → frN (x :: ls) nt = none) := fun h => frN_no x ls nt (fun h2 => h h2.2)
      obtain ⟨R, HR⟩ : ∃ R, Hid (frN (x :: ls) nt = R) := ⟨_, rfl⟩
      rw [HR.out] at HYES HNO ⊢
      have C5 : Hid (∀ w, Calls _ _ _ _ _) := fun w => cloneC nt w (by omega)
      obtain ⟨n, HN⟩ : ∃ n, Hid (ls.length = n) := ⟨_, rfl⟩
      have HST : Hid ((f = true ↔ 0 < n) ∧ (0 < n → ls.drop 0 = pcB y)) := by
        refine ⟨⟨fun h => ?_, fun h => ?_⟩, fun h => ?_⟩
        · rw [← HN.out, hl1 h]
          exact List.length_pos_iff.2 (pc_ne y)
        · cases hf : f with
          | true => rfl
          | false => rw [← HN.out, hl2 hf] at h; cases h
        · cases hf : f with
          | true => rw [List.drop_zero]; exact hl1 hf
          | false => rw [← HN.out, hl2 hf] at h; cases h
      have zyy : y.size ≤ 1100000 := by omega
      have znt : nt.size ≤ 1100000 := by omega
      have HN2 : Hid (n ≤ 1100001) := by
        show _ ≤ _
        have h1 := pc_len s
        rw [hl] at h1
        rw [← HN.out]
        simp only [List.length_cons] at h1
        omega
      clear hl hl1 hl2 hl3 hyes hdec zA zB zN zx zy hs
      go_enter Tryd.func16, Tryd.ntmps16
      go_wp2_with fail
      rw [HW.out]
      go_wp2_with fail
      refine C1.out.mono ?_
      rintro e w1 ⟨rfl, hb1⟩
      have B1 : Hid (Below W.heap.size W w1) := hb1
      clear hb1
      go_wp2_with fail
      refine (C2.out _).mono ?_
      rintro e wz ⟨rfl, hz⟩
      rw [hz]
      clear hz wz
      go_wp2_with fail
      refine (C3.out _ (MW.out _ B1.out)).mono ?_
      rintro e w2 ⟨rfl, hb2⟩
      have B2 : Hid (Below W.heap.size W w2) := B1.out.trans (hb2.mono B1.out.size)
      clear hb2
      go_wp2_with fail
      refine (C4.out _ (NW.out _ B2.out)).mono ?_
      rintro e w3 ⟨rfl, hb3⟩
      have B3 : Hid (Below W.heap.size W w3) := B2.out.trans (hb3.mono B2.out.size)
      clear hb3
      go_wp2_with fail
      refine (C5.out _).mono ?_
      rintro e w4 ⟨rfl, hb4⟩
      have B4 : Hid (Below W.heap.size W w4) := B3.out.trans (hb4.mono B3.out.size)
      clear hb4
      obtain ⟨V, HV⟩ : ∃ V, Hid (w4.alloc (.cells #[.int .i64 m, .slice none 0 0, .string nt] 24) = V) := ⟨_, rfl⟩
      have RV : Hid (Rd3 p w4.heap.size W m nt [] V) := by
        rw [← HV.out]
        exact ⟨Nat.lt_of_lt_of_le (Nat.lt_of_succ_le zW.out) B4.out.size, ⟨none, 0, heap_alloc_new w4 _, World.ownsRow_nil _ _ _ _⟩, (B4.out.mono zW.out).alloc (Nat.le_trans zW.out B4.out.size) _⟩
      have BV : Hid (Below W.heap.size W V) := by rw [← HV.out]; exact B4.out.alloc B4.out.size _
      have HF0 : Hid (f = decide (0 < n)) := by
        show _ = _
        rw [Bool.eq_iff_iff, HST.out.1]
        simp
      have HQ : Hid (W.heap.size ≤ w4.heap.size) := B4.out.size
      obtain ⟨q, HQQ⟩ : ∃ q, Hid (w4.heap.size = q) := ⟨_, rfl⟩
      rw [HQQ.out] at RV HQ
      have HD0 : Hid (0 < n → ls.drop 0 = pcB y) := HST.out.2
      clear HST
      go_wp2_with fail
      rw [HP.out, HV.out, HQQ.out]
      go_loopw [9, 10] (fun h s wr => ∃ (k : Nat) (yy : ByteArray), k ≤ n ∧ h = .string yy ∧ s = .bool (decide (k < n)) ∧ Hid (k < n → ls.drop k = pcB yy) ∧ Hid (yy.size ≤ 1100000) ∧ Hid (∀ z ∈ ls.take k, Acc64 (bs z)) ∧ Hid (Rd3 p q W m nt ((ls.take k).map cutS) wr)) (fun h s _ => msr h s)
      case atStart => exact ⟨0, y, Nat.zero_le _, rfl, by rw [HF0.out], HD0.out, zyy, (fun z hz => by cases hz), RV.out⟩
      case round =>
        clear RV BV HV B1 B2 B3 B4 zyy HD0 HF0 C1 C2 C3 C4 C5
        obtain ⟨k, yy, hk, rfl, hsb, HDK, HZK, HAK, HRK⟩ := hrel
        have hlen : ((ls.take k).map cutS).length = k := by rw [List.length_map, List.length_take, HN.out]; omega
        by_cases hlt : k < n
        · rw [decide_eq_true hlt] at hsb
          subst hsb
          obtain ⟨ls', e1, e2, e3, e4⟩ := first_line yy
          have hzy := HZK.out
          have hcs := cut_sizes yy nlB
          have C3 : Hid (Calls _ _ _ _ _) := cutC yy nlB (by omega) wr (MP.out _ HRK.out.low)
          have hdk := HDK.out hlt
          rw [e1] at hdk
          have hkl : k < ls.length := by rw [HN.out]; exact hlt
          have hdr : ls.drop k = ls[k]'hkl :: ls.drop (k + 1) := List.drop_eq_getElem_cons hkl
          rw [hdr] at hdk
          injection hdk with hk1 hk2
          have C6 : Hid (∀ w, Calls _ _ _ _ _) := fun w => unb64 (cutA yy nlB) (by omega) w
          have HTK : Hid (ls.take (k + 1) = ls.take k ++ [cutA yy nlB]) := by show _ = _; rw [List.take_succ_eq_append_getElem hkl, hk1]
          have hnl : (ls.drop (k + 1)).length = n - (k + 1) := by rw [List.length_drop, HN.out]
          obtain ⟨l1, HL1⟩ : ∃ l1, Hid (cutA yy nlB = l1) := ⟨_, rfl⟩
          obtain ⟨y1, HY1⟩ : ∃ y1, Hid (cutB yy nlB = y1) := ⟨_, rfl⟩
          obtain ⟨f1, HF1⟩ : ∃ f1, Hid (cutF yy nlB = f1) := ⟨_, rfl⟩
          rw [HL1.out, HY1.out, HF1.out] at C3
          rw [HF1.out, HY1.out] at e2 e4
          rw [HF1.out] at e3
          rw [HL1.out] at C6 HTK hk1 hcs
          rw [HY1.out] at hcs
          have HFF : Hid (f1 = decide (k + 1 < n)) := by
            show _ = _
            cases f1 with
            | true =>
              have h := e2 rfl
              rw [← hk2] at h
              have h2 : 0 < (ls.drop (k + 1)).length := List.length_pos_iff.2 (by rw [h]; exact pc_ne y1)
              exact (decide_eq_true (by omega)).symm
            | false =>
              have h := e3 rfl
              rw [← hk2] at h
              rw [h] at hnl
              exact (decide_eq_false (by simp at hnl; omega)).symm
          have HD1 : Hid (k + 1 < n → ls.drop (k + 1) = pcB y1) := fun h => by
            rw [hk2]
            exact e2 (by rw [HFF.out]; exact decide_eq_true h)
          have HZ1 : Hid (y1.size ≤ 1100000) := by show _ ≤ _; omega
          have HMS : Hid (msr (.string y1) (.bool f1) < msr (.string yy) (.bool true)) := by
            show y1.size + (if f1 then 1 else 0) < yy.size + 1
            cases f1 with
            | true => have := e4 rfl; simp; omega
            | false =>
              have h2 : y1.size ≤ yy.size := hcs.2
              simp; omega
          have HR3 : Hid (Rd3 p q W m nt ((ls.take k).map cutS) wr) := HRK
          have HMEM : Hid (l1 ∈ ls) := by show _ ∈ _; rw [← hk1]; exact List.getElem_mem hkl
          have zl1 : l1.size ≤ 1100000 := by omega
          clear e1 e2 e3 e4 hdr hk1 hk2 hnl HRK HDK HZK hcs hzy hkl
          by_cases hac : Acc64 (bs l1)
          · rw [show un64V l1 = .tuple #[.string (cutS l1), .int .i64 0] by unfold un64V readV cutS; rw [if_pos hac]] at C6
            have HAC : Hid (∀ z ∈ ls.take (k + 1), Acc64 (bs z)) := fun z hz => by
              rw [HTK.out] at hz
              rcases List.mem_append.1 hz with hz | hz
              · exact HAK.out z hz
              · rw [List.mem_singleton.1 hz]; exact hac
            have HMP : Hid ((ls.take (k + 1)).map cutS = (ls.take k).map cutS ++ [cutS l1]) := by show _ = _; rw [HTK.out, List.map_append]; rfl
            have zcs := cutS_size l1 hac
            obtain ⟨g1, HG1⟩ : ∃ g1, Hid (cutS l1 = g1) := ⟨_, rfl⟩
            rw [HG1.out] at C6 HMP zcs
            obtain ⟨xs, HXS⟩ : ∃ xs, Hid ((ls.take k).map cutS = xs) := ⟨_, rfl⟩
            rw [HXS.out] at HR3 HMP hlen
            have HMP2 : Hid ((ls.take (k + 1)).map cutS = xs ++ [g1]) := HMP
            clear hac
            go_wp2_with fail
            refine C3.out.mono ?_
            rintro e wa ⟨rfl, hba⟩
            have HRA : Hid (Rd3 p q W m nt xs wa) := HR3.out.later hba
            clear hba
            go_wp2_with fail
            refine (C6.out _).mono ?_
            rintro e wb ⟨rfl, hbb⟩
            have HRB : Hid (Rd3 p q W m nt xs wb) := HRA.out.later hbb
            clear hbb HRA HR3
            obtain ⟨a, c, hb1, hb2⟩ := HRB.out.box
            rw [hlen] at hb1 hb2
            have HOW : Hid (wb.ownsRow (q + 1) 9 1 (.slice a k c) k (xs.map Value.string)) := hb2
            have HBQ : Hid (wb.heap[q]? = some (.cells #[.int .i64 m, .slice a k c, .string nt] 24 (0, 0))) := hb1
            have hql : q < wb.heap.size := (Array.getElem?_eq_some_iff.1 hb1).1
            have c1 := cell_of_row _ _ 1 _ _ _ hb1
            have BAL : Hid (Below wb.heap.size wb (wb.alloc (.cells #[.string g1] 9))) := (Below.refl _ _).alloc (Nat.le_refl _) _
            have HOA : Hid ((wb.alloc (.cells #[.string g1] 9)).ownsRow (q + 1) 9 1 (.slice a k c) k (xs.map Value.string)) := HOW.out.alloc _
            have BAQ : Hid (Below (q + 1) wb (wb.alloc (.cells #[.string g1] 9))) := BAL.out.mono hql
            have HBS : Hid (q + 1 ≤ (wb.alloc (.cells #[.string g1] 9)).heap.size) := Nat.le_trans hql BAL.out.size
            have hkn : k ≤ 1100001 := by have := HN2.out; omega
            have HPQ : Hid (p + 1 ≤ q + 1) := by have := HRB.out.pq; show _ ≤ _; omega
            clear hb1 hb2 hql
            go_wp2_with (at_builtin; refine wpList_append_own _ rfl _ _ 22 rfl (q + 1) 9 i0 (.string ⟨#[]⟩) 1 16 Tryd.underlying22 HIN.out.1 HIN.out.2.1 HIN.out.2.2.1 HIN.out.2.2.2 rfl (by decide) (.slice a k c) k _ rfl HOA.out ⟨wb.heap.size, 0, none⟩ 1 1 [.string g1] rfl rfl (new_one _ _ _) (one_texts [g1]) (by unfold maxLen; omega) (by omega) HBS.out ?_; intro v2 w2 hown2 hgr2 hnn2; have HO2 : Hid (w2.ownsRow (q + 1) 9 1 v2 (k + 1) ((xs ++ [g1]).map Value.string)) := (by rw [List.map_append]; exact hown2); have B2 : Hid (Below (q + 1) wb w2) := BAQ.out.grown hgr2 HBS.out (fun j hj => (HOA.out.lt _ hj).1); clear hown2 hgr2 hnn2; obtain ⟨va, vc, hv⟩ := own_form HO2.out; subst hv; have hq2 := (B2.out.block q (Nat.lt_succ_self _)).trans HBQ.out; have HQ2 : Hid (_ = _) := hq2; have g2 := cell_of_row _ _ 1 _ _ _ hq2; have g3 := frozen_of_row _ _ 1 _ _ hq2; clear hq2)
            go_roundw
            case rel =>
              refine ⟨k + 1, y1, by omega, rfl, by rw [HFF.out], HD1.out, HZ1.out, HAC.out, ?_⟩
              rw [HMP2.out]
              have hl2 : (xs ++ [g1]).length = k + 1 := by rw [List.length_append, hlen]; rfl
              refine ⟨HRB.out.pq, ⟨va, vc, ?_, ?_⟩, ?_⟩
              · rw [hl2]; exact heap_setCell_same _ _ 1 _ _ _ HQ2.out
              · rw [hl2]; exact own_set HO2.out (Nat.lt_succ_self q)
              · exact (HRB.out.low.trans (B2.out.mono HPQ.out)).setCell (show p + 1 ≤ q from HRB.out.pq) _
            case measure => exact HMS.out
          · rw [show un64V l1 = .tuple #[.string ByteArray.empty, .int .i64 40] by unfold un64V failV; rw [if_neg hac]] at C6
            have HRN : Hid (R = none) := HNO.out (fun h => hac (h l1 HMEM.out))
            clear hac hlen
            go_wp2_with fail
            refine C3.out.mono ?_
            rintro e wa ⟨rfl, hba⟩
            have HRA : Hid (Rd3 p q W m nt ((ls.take k).map cutS) wa) := HR3.out.later hba
            clear hba
            go_wp2_with fail
            refine (C6.out _).mono ?_
            rintro e w3 ⟨rfl, hbb⟩
            have B3L : Hid (Below (p + 1) W w3) := (HRA.out.later hbb).low
            clear hbb HRA HR3
            have hbk := BK.out w3 B3L.out
            have FZ : Hid (∀ W', W' = _ → _) := put3 w3 p _ _ _ (.int .i64 0) (.slice none 0 0) (.string ⟨#[]⟩) _ hbk
            have c0 := cell_of_row _ _ 0 _ _ _ hbk
            have c1 := cell_of_row _ _ 1 _ _ _ hbk
            have c2 := cell_of_row _ _ 2 _ _ _ hbk
            have f0 := frozen_of_row _ _ 0 _ _ hbk
            have f1 := frozen_of_row _ _ 1 _ _ hbk
            have f2 := frozen_of_row _ _ 2 _ _ hbk
            go_wp2
            obtain ⟨⟨d0, d1, d2⟩, hbl⟩ := FZ.out _ rfl
            exact bodyPost_ret (v := .tuple #[.agg #[.int .i64 0, .slice none 0 0, .string ⟨#[]⟩], .bool false]) (by simp [results, Tryd.results16, go_sem, d0, d1, d2]) rfl ⟨by rw [HRN.out]; rfl, FIN.out _ ((B3L.out.mono (Nat.le_succ p)).trans (hbl _ (Nat.le_refl _)))⟩
        · rw [decide_eq_false hlt] at hsb
          subst hsb
          obtain rfl : k = n := by omega
          have HTA : Hid (ls.take k = ls) := by show _ = _; rw [← HN.out, List.take_length]
          rw [HTA.out] at HAK HRK hlen
          have HRS : Hid (R = some ⟨m, ls.map cutS, nt⟩) := HYES.out HAK.out
          obtain ⟨a, c, hb1, hb2⟩ := HRK.out.box
          rw [hlen] at hb1 hb2
          have e0 := cell_of_row _ _ 0 _ _ _ hb1
          have e1 := cell_of_row _ _ 1 _ _ _ hb1
          have e2 := cell_of_row _ _ 2 _ _ _ hb1
          have HOW : Hid (wr.ownsRow (q + 1) 9 1 (.slice a k c) k ((ls.map cutS).map Value.string)) := hb2
          have HPQ : Hid (p < q) := HRK.out.pq
          have B3L : Hid (Below (p + 1) W wr) := HRK.out.low
          have hbk := BK.out wr B3L.out
          have FZ : Hid (∀ W', W' = _ → _) := put3 wr p _ _ _ (.int .i64 m) (.slice a k c) (.string nt) _ hbk
          have FO : Hid (∀ W', W' = ((wr.setCell ⟨p, 0, none⟩ (.int .i64 m)).setCell ⟨p, 1, none⟩ (.slice a k c)).setCell ⟨p, 2, none⟩ (.string nt) → W'.ownsRow p 9 1 (.slice a k c) k ((ls.map cutS).map Value.string)) := by
            have hp : p < q + 1 := Nat.lt_succ_of_lt HPQ.out
            rintro _ rfl
            exact own_mono (own_set (own_set (own_set HOW.out hp) hp) hp) (Nat.le_of_lt hp)
          have c0 := cell_of_row _ _ 0 _ _ _ hbk
          have c1 := cell_of_row _ _ 1 _ _ _ hbk
          have c2 := cell_of_row _ _ 2 _ _ _ hbk
          have f0 := frozen_of_row _ _ 0 _ _ hbk
          have f1 := frozen_of_row _ _ 1 _ _ hbk
          have f2 := frozen_of_row _ _ 2 _ _ hbk
          have HLE : Hid ((ls.map cutS).length = k) := hlen
          clear hb1 hb2 hlen
          go_wp2
          have hfo := FO.out _ rfl
          obtain ⟨⟨d0, d1, d2⟩, hbl⟩ := FZ.out _ rfl
          refine bodyPost_ret (v := .tuple #[.agg #[.int .i64 m, .slice a k c, .string nt], .bool true]) (by simp [results, Tryd.results16, go_sem, d0, d1, d2]) rfl ⟨?_, FIN.out _ ((B3L.out.mono (Nat.le_succ p)).trans (hbl _ (Nat.le_refl _)))⟩
          rw [HRS.out]
          exact ⟨a, c, by rw [HLE.out], by rw [HLE.out, HP.out]; exact hfo⟩
    · rw [frN_no x ls nt (fun h => hdec h.1)]
      rw [show unDecV x = .tuple #[.int .i64 0, .int .i64 42] by unfold unDecV; rw [if_neg hdec]] at C4
      clear hl hl1 hl2 hl3 hyes hdec zA zB zN zx zy hs
      go_enter Tryd.func16, Tryd.ntmps16
      go_wp2_with fail
      rw [HW.out]
      go_wp2_with fail
      refine C1.out.mono ?_
      rintro e w1 ⟨rfl, hb1⟩
      have B1 : Hid (Below W.heap.size W w1) := hb1
      clear hb1
      go_wp2_with fail
      refine (C2.out _).mono ?_
      rintro e wz ⟨rfl, hz⟩
      rw [hz]
      clear hz wz
      go_wp2_with fail
      refine (C3.out _ (MW.out _ B1.out)).mono ?_
      rintro e w2 ⟨rfl, hb2⟩
      have B2 : Hid (Below W.heap.size W w2) := B1.out.trans (hb2.mono B1.out.size)
      clear hb2
      go_wp2_with fail
      refine (C4.out _ (NW.out _ B2.out)).mono ?_
      rintro e w3 ⟨rfl, hb3⟩
      have B3 : Hid (Below W.heap.size W w3) := B2.out.trans (hb3.mono B2.out.size)
      clear hb3
      have hbk := BK.out w3 (B3.out.mono zW.out)
      have FZ : Hid (∀ W', W' = _ → _) := put3 w3 p _ _ _ (.int .i64 0) (.slice none 0 0) (.string ⟨#[]⟩) _ hbk
      have c0 := cell_of_row _ _ 0 _ _ _ hbk
      have c1 := cell_of_row _ _ 1 _ _ _ hbk
      have c2 := cell_of_row _ _ 2 _ _ _ hbk
      have f0 := frozen_of_row _ _ 0 _ _ hbk
      have f1 := frozen_of_row _ _ 1 _ _ hbk
      have f2 := frozen_of_row _ _ 2 _ _ hbk
      rw [HP.out]
      go_wp2
      obtain ⟨⟨d0, d1, d2⟩, hbl⟩ := FZ.out _ rfl
      exact bodyPost_ret (v := .tuple #[.agg #[.int .i64 0, .slice none 0 0, .string ⟨#[]⟩], .bool false]) (by simp [results, Tryd.results16, go_sem, d0, d1, d2]) rfl ⟨rfl, FIN.out _ ((B3.out.mono (Nat.le_trans (Nat.le_succ p) zW.out)).trans (hbl _ (Nat.le_refl _)))⟩
  · rw [frP_no b hyes]
    obtain ⟨nt, HT⟩ : ∃ nt, Hid (cutB b dbB = nt) := ⟨_, rfl⟩
    obtain ⟨hd, HD⟩ : ∃ hd, Hid (cutA b dbB = hd) := ⟨_, rfl⟩
    obtain ⟨fd, HFD⟩ : ∃ fd, Hid (cutF b dbB = fd) := ⟨_, rfl⟩
    rw [HD.out, HT.out, HFD.out] at C1
    rw [HD.out] at C2 hyes
    rw [HFD.out] at hyes
    obtain ⟨ho, HO⟩ : ∃ ho, Hid (hasOld hd = ho) := ⟨_, rfl⟩
    obtain ⟨dd, HDD⟩ : ∃ dd, Hid (dropOld hd = dd) := ⟨_, rfl⟩
    rw [HO.out, HDD.out] at C2
    rw [HO.out] at hyes
    have hcs : fd = false ∨ (fd = true ∧ ho = false) := by
      cases fd
      · exact .inl rfl
      · cases ho
        · exact .inr ⟨rfl, rfl⟩
        · exact absurd ⟨rfl, rfl⟩ hyes
    clear hyes zA zB zN hs
    rcases hcs with rfl | ⟨rfl, rfl⟩
    all_goals
      go_enter Tryd.func16, Tryd.ntmps16
      go_wp2_with fail
      rw [HW.out]
      go_wp2_with fail
      refine C1.out.mono ?_
      rintro e w3 ⟨rfl, hb1⟩
      have B3 : Hid (Below W.heap.size W w3) := hb1
      clear hb1
      go_wp2_with fail
      refine (C2.out _).mono ?_
      rintro e wz ⟨rfl, hz⟩
      rw [hz]
      clear hz wz
      have hbk := BK.out w3 (B3.out.mono zW.out)
      have FZ : Hid (∀ W', W' = _ → _) := put3 w3 p _ _ _ (.int .i64 0) (.slice none 0 0) (.string ⟨#[]⟩) _ hbk
      have c0 := cell_of_row _ _ 0 _ _ _ hbk
      have c1 := cell_of_row _ _ 1 _ _ _ hbk
      have c2 := cell_of_row _ _ 2 _ _ _ hbk
      have f0 := frozen_of_row _ _ 0 _ _ hbk
      have f1 := frozen_of_row _ _ 1 _ _ hbk
      have f2 := frozen_of_row _ _ 2 _ _ hbk
      rw [HP.out]
      go_wp2
      obtain ⟨⟨d0, d1, d2⟩, hbl⟩ := FZ.out _ rfl
      exact bodyPost_ret (v := .tuple #[.agg #[.int .i64 0, .slice none 0 0, .string ⟨#[]⟩], .bool false]) (by simp [results, Tryd.results16, go_sem, d0, d1, d2]) rfl ⟨rfl, FIN.out _ ((B3.out.mono (Nat.le_trans (Nat.le_succ p) zW.out)).trans (hbl _ (Nat.le_refl _)))⟩
end Go.Proofs.YtpbapaghcabehaaDoor.b3
