import Derived.Test.YtgjjimbleliklaaDoorA2
import Derived.Handy
import Derived.Maps.AppendAt
import Derived.Test.YtgjjimbleliklaaDoorA1
import Derived.Test.YtgjjimbleliklaaDoorD1
import Derived.BigQuiet
namespace Go.Proofs.YtgjjimbleliklaaDoor.rh
open Go.RowKit Go.PlainAid
open Go.Proofs.YtgjjimbleliklaaDoor.pl Go.Proofs.YtgjjimbleliklaaDoor.pi Go.Proofs.YtgjjimbleliklaaDoor.pj Go.Proofs.YtgjjimbleliklaaDoor.rf Go.Proofs.YtgjjimbleliklaaDoor.ca Go.Proofs.YtgjjimbleliklaaDoor.cb Go.Proofs.YtgjjimbleliklaaDoor.cp Go.Proofs.YtgjjimbleliklaaDoor.cs Go.Proofs.YtgjjimbleliklaaDoor.ka Go.Proofs.YtgjjimbleliklaaDoor.kb Go.Proofs.YtgjjimbleliklaaDoor.ga Go.Proofs.YtgjjimbleliklaaDoor.gb Go.Proofs.YtgjjimbleliklaaDoor.na Go.Proofs.YtgjjimbleliklaaDoor.nb Go.Proofs.YtgjjimbleliklaaDoor.nc Go.Proofs.YtgjjimbleliklaaDoor.oa Go.Proofs.YtgjjimbleliklaaDoor.ob Go.Proofs.YtgjjimbleliklaaDoor.qa Go.Proofs.YtgjjimbleliklaaDoor.qb Go.Proofs.YtgjjimbleliklaaDoor.qc
set_option linter.unusedVariables false

def MK : ByteArray := ⟨#[109, 97, 114, 107]⟩
-- the same hashes, with two marks behind them
def Twin2 (w : World) (B g n cp : Nat) (xs : List ByteArray) : Prop := w.ownsRow B 9 1 (.slice (some ⟨g, 0, none⟩) (n + 2) cp) (n + 2) (xs.map Value.string ++ [.string MK, .string MK])
theorem fx_grow {w w' : World} {b B e s n : Nat} {lo hi : Int} {u v : Value} {xs : List Value} (h : Fx w b lo hi u) (ho : w.ownsRow B e s v n xs) (hne : e ≠ 24) (hg : w.grownBy w' v.ownBlock) : Fx w' b lo hi u := by
  refine (hg.block b h.lt ?_).trans h
  intro he
  rcases ho.2 with ⟨rfl, _⟩ | ⟨g', cap', cur', rfl, _, hgg', _⟩
  · cases he
  · have e1 : b = g' := Option.some.inj he
    subst e1
    unfold Fx at h
    rw [h] at hgg'
    simp only [Option.some.injEq, Obj.cells.injEq] at hgg'
    exact absurd hgg'.2.1.symm hne
theorem fx_cell2 {w : World} {b : Nat} {lo hi : Int} {u : Value} (h : Fx w b lo hi u) (u' : Value) : Fx (w.setCell ⟨b, 2, none⟩ u') b lo hi u' := heap_setCell_same _ _ 2 _ _ u' h
theorem own_cell {w : World} {B e size n b o : Nat} {v : Value} {xs : List Value} {lo hi : Int} {u : Value} (h : w.ownsRow B e size v n xs) (hf : Fx w b lo hi u) (hne : e ≠ 24) (x : Value) : (w.setCell ⟨b, o, none⟩ x).ownsRow B e size v n xs := by
  refine ⟨h.1, ?_⟩
  rcases h.2 with hn | ⟨g, cap, cur, rfl, hg, hgg, rest⟩
  · exact .inl hn
  · refine .inr ⟨g, cap, cur, rfl, hg, ?_, rest⟩
    rw [Below.heap_setCell _ _ _ _ ?_]
    · exact hgg
    · rintro rfl
      unfold Fx at hf
      rw [hgg] at hf
      simp only [Option.some.injEq, Obj.cells.injEq] at hf
      exact hne hf.2.1
theorem two_texts (W : World) (t : TypeId) : ∀ (j : Nat) (x : Value), [Value.string MK, .string MK][j]? = some x → (W.alloc (.cells #[.string MK, .string MK] t)).cell? (Addr.add ⟨W.heap.size, 0, none⟩ j) = some x := by
  intro j x hx
  rw [show (Addr.add ⟨W.heap.size, 0, none⟩ j) = ⟨W.heap.size, j, none⟩ by cases j <;> simp [Addr.add], World.cell?_alloc_at _ _ _ _ rfl]
  simpa using hx
structure Rm (w wr : World) (lo hi : Int) (u v : Value) (k : Nat) (hs : List ByteArray) : Prop where
  b : Below w.heap.size w wr
  f1 : Fx wr w.heap.size lo hi u
  f2 : Fx wr (w.heap.size + 1) 0 0 (.slice none 0 0)
  o : wr.ownsRow w.heap.size 9 1 v k ((hs.take k).map Value.string)
set_option maxHeartbeats 3200000 in
theorem roomy (lo hi : Int) (u : Value) (hs : List ByteArray) (w : World) (hR : ReadsT w u hs) (hf : Fits hs) :
    Calls Tryd.prog 6 #[FV lo hi u] w fun e w' => (∃ g cp, e = .returned (FV lo hi (.slice (some ⟨g, 0, none⟩) hs.length cp)) ∧ Twin2 w' w.heap.size g hs.length cp hs) ∧ Below w.heap.size w w' := by
  obtain ⟨i9, hi9', hz0, hz1, hz2⟩ := info_parts hi9
  have HIN : Hid (_ ∧ _ ∧ _ ∧ _) := ⟨hi9', hz0, hz1, hz2⟩
  have HRD : Hid (ReadsT w u hs) := hR
  have hnm := hf.many
  have H0 : Hid (Rm w ((w.alloc (.cells #[.int .i64 lo, .int .i64 hi, u] 24)).alloc (.cells #[.int .i64 0, .int .i64 0, .slice none 0 0] 24)) lo hi u (.slice none 0 0) 0 hs) := by
    refine ⟨((Below.refl _ _).alloc (Nat.le_refl _) _).alloc (by simp) _, (fx_new _ _ _ _).on ((Below.refl _ _).alloc (Nat.le_refl _) _), ?_, World.ownsRow_nil _ _ _ _⟩
    have := fx_new (w.alloc (.cells #[.int .i64 lo, .int .i64 hi, u] 24)) 0 0 (.slice none 0 0)
    rw [show (w.alloc (.cells #[.int .i64 lo, .int .i64 hi, u] 24)).heap.size = w.heap.size + 1 by simp] at this
    exact this
  obtain ⟨a, cap, rfl, hcap, hh⟩ := hR
  obtain ⟨n, HN⟩ : ∃ n, Hid (hs.length = n) := ⟨_, rfl⟩
  rw [HN.out] at HRD hcap hnm H0 ⊢
  clear hi9' hz0 hz1 hz2 hh hf
  go_enter Tryd.func6, Tryd.ntmps6
  go_wp2
  go_loopw [3, 4] (fun l i wr => ∃ (v : Value) (k : Nat), k ≤ n ∧ l = v ∧ i = .int .i64 k ∧ Hid (Rm w wr lo hi (.slice a n cap) v k hs)) (fun _ i _ => (n - intOf i).toNat)
  case atStart => exact ⟨_, 0, by omega, rfl, rfl, H0.out⟩
  case round =>
    obtain ⟨v, k, hk, rfl, rfl, HR⟩ := hrel
    obtain ⟨ua, uc, rfl⟩ := own_formS HR.out.o
    obtain ⟨d1, d2, d3⟩ := HR.out.f1.fb
    by_cases hlt : k < n
    · have hlt' : (k : Int) < n := by omega
      have hkx : k < hs.length := by rw [HN.out]; exact hlt
      obtain ⟨x, HX⟩ : ∃ x, Hid (hs[k]? = some x) := ⟨_, List.getElem?_eq_getElem hkx⟩
      obtain ⟨b, off, rfl, hc⟩ : ∃ b off, a = some ⟨b, off, none⟩ ∧ wr.cell? ⟨b, off + k, none⟩ = some (.string x) := by
        obtain ⟨a', cap', e, _, h0 | ⟨b, off, e4, hh⟩⟩ := HRD.out.later HR.out.b
        · omega
        · injection e with e1 _ _
          refine ⟨b, off, by rw [e1]; exact e4, ?_⟩
          rw [hh k hkx, List.getD_eq_getElem?_getD, HX.out]
          rfl
      have OX : Hid ((wr.alloc (.cells #[.string x] 9)).ownsRow w.heap.size 9 1 (.slice ua k uc) k ((hs.take k).map Value.string)) := HR.out.o.alloc _
      have BX : Hid (Below w.heap.size w (wr.alloc (.cells #[.string x] 9))) := HR.out.b.alloc HR.out.b.size _
      have X1 : Hid (Fx (wr.alloc (.cells #[.string x] 9)) w.heap.size lo hi (.slice (some ⟨b, off, none⟩) n cap)) := HR.out.f1.on ((Below.refl _ _).alloc (Nat.le_refl _) _)
      have X2 : Hid (Fx (wr.alloc (.cells #[.string x] 9)) (w.heap.size + 1) 0 0 (.slice none 0 0)) := HR.out.f2.on ((Below.refl _ _).alloc (Nat.le_refl _) _)
      go_wp2_with (at_builtin; refine wpList_append_own _ rfl _ _ 22 rfl w.heap.size 9 i9 (.string ByteArray.empty) 1 16 Tryd.underlying22 HIN.out.1 HIN.out.2.1 HIN.out.2.2.1 HIN.out.2.2.2 rfl (by decide) _ k _ rfl OX.out ⟨wr.heap.size, 0, none⟩ 1 1 [.string x] rfl rfl (new_text _ _ _) (one_text _) (by unfold maxLen; omega) (by omega) BX.out.size ?_; intro p' w5 ho hg hnn; have HO5 : Hid (w5.ownsRow w.heap.size 9 1 p' (k + 1) ((hs.take k).map Value.string ++ [.string x])) := ho; have HB5 : Hid (Below w.heap.size w w5) := Below.grown BX.out hg BX.out.size (fun jj hj => (OX.out.lt _ hj).1); have Y1 : Hid (Fx w5 w.heap.size lo hi (.slice (some ⟨b, off, none⟩) n cap)) := fx_grow X1.out OX.out (by decide) hg; have Y2 : Hid (Fx w5 (w.heap.size + 1) 0 0 (.slice none 0 0)) := fx_grow X2.out OX.out (by decide) hg; clear ho hg hnn)
      go_roundw
      case rel =>
        refine ⟨_, k + 1, by omega, rfl, by go_num, HB5.out, Y1.out, Y2.out, ?_⟩
        have e : hs.take (k + 1) = hs.take k ++ [x] := by rw [List.take_add_one, HX.out]; rfl
        rw [e, List.map_append]
        exact HO5.out
      case measure => simp [intOf]; omega
    · have hlt' : ¬ (k : Int) < n := by omega
      obtain rfl : k = n := by omega
      have hO := HR.out.o
      rw [List.take_of_length_le (by rw [HN.out]; omega)] at hO
      have OX : Hid ((wr.alloc (.cells #[.string MK, .string MK] 9)).ownsRow w.heap.size 9 1 (.slice ua k uc) k (hs.map Value.string)) := hO.alloc _
      have BX : Hid (Below w.heap.size w (wr.alloc (.cells #[.string MK, .string MK] 9))) := HR.out.b.alloc HR.out.b.size _
      have X1 : Hid (Fx (wr.alloc (.cells #[.string MK, .string MK] 9)) w.heap.size lo hi (.slice a k cap)) := HR.out.f1.on ((Below.refl _ _).alloc (Nat.le_refl _) _)
      have X2 : Hid (Fx (wr.alloc (.cells #[.string MK, .string MK] 9)) (w.heap.size + 1) 0 0 (.slice none 0 0)) := HR.out.f2.on ((Below.refl _ _).alloc (Nat.le_refl _) _)
      have NW : Hid _ := two_texts wr 9
      have NO : Hid (∀ u ∈ [Value.string MK, .string MK], u.oneCell' = true) := fun u hu => by simp at hu; subst hu; rfl
      unfold MK at OX BX X1 X2 NW NO
      clear hO d1 d2 d3
      obtain ⟨d1, d2, d3⟩ := HR.out.f1.fb
      go_upto_region 7 with (at_builtin; refine wpList_append_own _ rfl _ _ 22 rfl w.heap.size 9 i9 (.string ByteArray.empty) 1 16 Tryd.underlying22 HIN.out.1 HIN.out.2.1 HIN.out.2.2.1 HIN.out.2.2.2 rfl (by decide) _ k _ rfl OX.out ⟨wr.heap.size, 0, none⟩ 2 2 [.string ⟨#[109, 97, 114, 107]⟩, .string ⟨#[109, 97, 114, 107]⟩] rfl rfl NW.out NO.out (by unfold maxLen; omega) (by omega) BX.out.size ?_; intro p' w5 ho hg hnn; have HO5 : Hid (w5.ownsRow w.heap.size 9 1 p' (k + 2) (hs.map Value.string ++ [.string ⟨#[109, 97, 114, 107]⟩, .string ⟨#[109, 97, 114, 107]⟩])) := ho; have HB5 : Hid (Below w.heap.size w w5) := Below.grown BX.out hg BX.out.size (fun jj hj => (OX.out.lt _ hj).1); have Y1 : Hid (Fx w5 w.heap.size lo hi (.slice a k cap)) := fx_grow X1.out OX.out (by decide) hg; have Y2 : Hid (Fx w5 (w.heap.size + 1) 0 0 (.slice none 0 0)) := fx_grow X2.out OX.out (by decide) hg; clear ho hg hnn)
      obtain ⟨g, cp, rfl⟩ : ∃ g cp, p' = .slice (some ⟨g, 0, none⟩) (k + 2) cp := by
        rcases HO5.out.2 with ⟨_, h⟩ | ⟨g, cp, cur, h, _⟩
        · omega
        · exact ⟨g, cp, h⟩
      have hcp : k + 2 ≤ cp := by
        rcases HO5.out.2 with ⟨e, _⟩ | ⟨g', cap', cur, e, _, _, hc, _⟩
        · cases e
        · injection e with _ _ e3; omega
      have hcp1 : (k : Int) ≤ cp := by omega
      have hcp2 : (k : Int) + 2 ≤ cp := by omega
      have Z1 : Hid (Fx (w5.setCell ⟨w.heap.size, 2, none⟩ (.slice (some ⟨g, 0, none⟩) k cp)) w.heap.size lo hi (.slice (some ⟨g, 0, none⟩) k cp)) := fx_cell2 Y1.out _
      have Z2 : Hid (Fx (w5.setCell ⟨w.heap.size, 2, none⟩ (.slice (some ⟨g, 0, none⟩) k cp)) (w.heap.size + 1) 0 0 (.slice none 0 0)) := (Below.heap_setCell _ _ _ _ (by simp)).trans Y2.out
      have Z3 : Hid (World.ownsRow (w5.setCell ⟨w.heap.size, 2, none⟩ (.slice (some ⟨g, 0, none⟩) k cp)) _ _ _ _ _ _) := own_cell HO5.out Y1.out (by decide) _
      have Z4 : Hid (Below w.heap.size w (w5.setCell ⟨w.heap.size, 2, none⟩ (.slice (some ⟨g, 0, none⟩) k cp))) := HB5.out.setCell (p := ⟨w.heap.size, 2, none⟩) (Nat.le_refl _) _
      obtain ⟨q1, q2, q3⟩ := Y1.out.fb
      have q4 := frozen_of_row w5 w.heap.size 2 _ _ Y1.out
      clear d1 d2 d3
      go_upto_region 8 with fail
      generalize w5.setCell _ _ = w6 at Z1 Z2 Z3 Z4 ⊢
      obtain ⟨d1, d2, d3⟩ := Z1.out.fb
      obtain ⟨e1, e2, e3⟩ := Z2.out.fb
      have f0 := frozen_of_row w6 (w.heap.size + 1) 0 _ _ Z2.out
      have f1 := frozen_of_row w6 (w.heap.size + 1) 1 _ _ Z2.out
      have f2 := frozen_of_row w6 (w.heap.size + 1) 2 _ _ Z2.out
      have O1 := fx_set Z2.out lo hi (.slice (some ⟨g, 0, none⟩) k cp)
      have O2 : Hid (World.ownsRow _ _ _ _ _ _ _) := own_set3 Z3.out Z2.out (by decide) (.int .i64 lo) (.int .i64 hi) (.slice (some ⟨g, 0, none⟩) k cp)
      have O3 : Hid (Below w.heap.size w (set3 w6 (w.heap.size + 1) (.int .i64 lo) (.int .i64 hi) (.slice (some ⟨g, 0, none⟩) k cp))) := below_set3 Z4.out (by omega) _ _ _
      obtain ⟨g1, g2, g3⟩ := O1.fb
      clear O1 q1 q2 q3 q4
      go_wp2
      unfold set3 at g1 g2 g3 O2 O3
      generalize World.setCell _ _ _ = wy at g1 g2 g3 O2 O3 ⊢
      (try simp only [Exit.inBlock, Exit.then])
      refine bodyPost_ret (by simp [results, Tryd.results6, go_sem, g1, g2, g3]; try rfl) rfl ?_
      exact ⟨⟨g, cp, rfl, O2.out⟩, O3.out⟩
theorem twin_reads {w : World} {B g n cp : Nat} {xs : List ByteArray} (h : Twin2 w B g n cp xs) (hn : xs.length = n) : ReadsT w (.slice (some ⟨g, 0, none⟩) n cp) xs := by
  have hc : n + 2 ≤ cp := by
    rcases h.2 with ⟨e, _⟩ | ⟨g', cap', cur, e, _, _, hc, _⟩
    · cases e
    · injection e with _ _ e3; omega
  refine ⟨_, cp, by rw [hn], by omega, .inr ⟨g, 0, rfl, fun i hi => ?_⟩⟩
  rw [Nat.zero_add, World.ownsRow.cellAt h i (by omega), List.getElem?_append_left (by rw [List.length_map]; exact hi), List.getElem?_map, List.getElem?_eq_getElem hi, List.getD_eq_getElem?_getD, List.getElem?_eq_getElem hi]
  rfl
theorem twin_mark {w : World} {B g n cp : Nat} {xs : List ByteArray} (h : Twin2 w B g n cp xs) (hn : xs.length = n) : w.cell? ⟨g, n, none⟩ = some (.string MK) ∧ w.cell? ⟨g, n + 1, none⟩ = some (.string MK) := by
  refine ⟨?_, ?_⟩
  · rw [World.ownsRow.cellAt h n (by omega), List.getElem?_append_right (by rw [List.length_map]; omega), List.length_map, hn, Nat.sub_self]; rfl
  · rw [World.ownsRow.cellAt h (n + 1) (by omega), List.getElem?_append_right (by rw [List.length_map]; omega), List.length_map, hn, show n + 1 - n = 1 by omega]; rfl
theorem twin_cap {w : World} {B g n cp : Nat} {xs : List ByteArray} (h : Twin2 w B g n cp xs) : n + 2 ≤ cp := by
  rcases h.2 with ⟨e, _⟩ | ⟨g', cap', cur, e, _, _, hc, _⟩
  · cases e
  · injection e with _ _ e3; omega
theorem Twin2.later {w w' : World} {B g n cp : Nat} {xs : List ByteArray} (h : Twin2 w B g n cp xs) (hb : Below w.heap.size w w') : Twin2 w' B g n cp xs := own_later h hb
-- a hash written over
theorem twin_set {w : World} {B g n cp : Nat} {xs : List ByteArray} (h : Twin2 w B g n cp xs) (hn : xs.length = n) (k : Nat) (hk : k < n) (x : ByteArray) : Twin2 (w.setCell ⟨g, k, none⟩ (.string x)) B g n cp (xs.set k x) ∧ w.grownBy (w.setCell ⟨g, k, none⟩ (.string x)) (some g) := by
  obtain ⟨h1, h2⟩ := World.ownsRow.stored h k (.string x)
  refine ⟨?_, h2⟩
  unfold Twin2
  rw [List.set_append_left _ _ (by rw [List.length_map]; omega)] at h1
  rw [List.map_set]
  exact h1
-- is the twin as it was made?
set_option maxHeartbeats 1600000 in
theorem untouched_yes (lo hi : Int) (B g cp : Nat) (u : Value) (hs : List ByteArray) (w : World) (hT : Twin2 w B g hs.length cp hs) (hR : ReadsT w u hs) (hf : Fits hs) :
    Calls Tryd.prog 13 #[FV lo hi (.slice (some ⟨g, 0, none⟩) hs.length cp), FV lo hi u] w fun e w' => e = .returned (.bool true) ∧ Below w.heap.size w w' := by
  have BA : Below w.heap.size w ((w.alloc (.cells #[.int .i64 lo, .int .i64 hi, (.slice (some ⟨g, 0, none⟩) hs.length cp)] 24)).alloc (.cells #[.int .i64 lo, .int .i64 hi, u] 24)) := ((Below.refl _ _).alloc (Nat.le_refl _) _).alloc (by simp) _
  have F1 := (fx_new w lo hi (.slice (some ⟨g, 0, none⟩) hs.length cp)).on ((Below.refl _ _).alloc (Nat.le_refl _) (.cells #[.int .i64 lo, .int .i64 hi, u] 24))
  have F2 := fx_new (w.alloc (.cells #[.int .i64 lo, .int .i64 hi, (.slice (some ⟨g, 0, none⟩) hs.length cp)] 24)) lo hi u
  rw [show (w.alloc (.cells #[.int .i64 lo, .int .i64 hi, (.slice (some ⟨g, 0, none⟩) hs.length cp)] 24)).heap.size = w.heap.size + 1 by simp] at F2
  have hnm := hf.many
  have C : Hid (Calls _ _ _ _ _) := same_yes lo hi (.slice (some ⟨g, 0, none⟩) hs.length cp) u hs _ ((twin_reads hT rfl).later BA) (hR.later BA) (by omega)
  have HT2 : Hid (Twin2 _ B g hs.length cp hs) := hT.later BA
  have HF1 : Hid (Fx _ _ _ _ _) := F1
  have HF2 : Hid (Fx _ _ _ _ _) := F2
  have B0 : Hid (Below _ _ _) := BA
  have hcp := twin_cap hT
  obtain ⟨n, HN⟩ : ∃ n, Hid (hs.length = n) := ⟨_, rfl⟩
  obtain ⟨a, cap, rfl, _, _⟩ := hR
  rw [HN.out] at C HF1 HF2 B0 HT2 hcp hnm ⊢
  have hcp1 : (n : Int) + 2 ≤ cp := by omega
  obtain ⟨c1, c2, c3⟩ := HF1.out.fb
  obtain ⟨d1, d2, d3⟩ := HF2.out.fb
  have hq : ((n : Int) == (n : Int)) = true := beq_self_eq_true _
  have qm : ((⟨#[109, 97, 114, 107]⟩ : ByteArray).toList == (⟨#[109, 97, 114, 107]⟩ : ByteArray).toList) = true := beq_self_eq_true _
  clear BA F1 F2 hT hf
  go_enter Tryd.func13, Tryd.ntmps13
  go_wp2_with fail
  refine C.out.mono ?_
  rintro e w1 ⟨rfl, hb⟩
  have B1 : Hid (Below w.heap.size w w1) := over B0.out hb
  obtain ⟨m1, m2⟩ := twin_mark (HT2.out.later hb) HN.out
  obtain ⟨e1, e2, e3⟩ := (HF1.out.on hb).fb
  obtain ⟨g1, g2, g3⟩ := (HF2.out.on hb).fb
  unfold MK at m1 m2
  clear hb c1 c2 c3 d1 d2 d3
  go_wp2
  go_ret
  exact ⟨rfl, B1.out⟩
end Go.Proofs.YtgjjimbleliklaaDoor.rh

namespace Go.Proofs.YtgjjimbleliklaaDoor.ri
open Go.RowKit Go.PlainAid
open Go.Proofs.YtgjjimbleliklaaDoor.pl Go.Proofs.YtgjjimbleliklaaDoor.pi Go.Proofs.YtgjjimbleliklaaDoor.pj Go.Proofs.YtgjjimbleliklaaDoor.rf Go.Proofs.YtgjjimbleliklaaDoor.ca Go.Proofs.YtgjjimbleliklaaDoor.cb Go.Proofs.YtgjjimbleliklaaDoor.cp Go.Proofs.YtgjjimbleliklaaDoor.cs Go.Proofs.YtgjjimbleliklaaDoor.ka Go.Proofs.YtgjjimbleliklaaDoor.kb Go.Proofs.YtgjjimbleliklaaDoor.ga Go.Proofs.YtgjjimbleliklaaDoor.gb Go.Proofs.YtgjjimbleliklaaDoor.na Go.Proofs.YtgjjimbleliklaaDoor.nb Go.Proofs.YtgjjimbleliklaaDoor.nc Go.Proofs.YtgjjimbleliklaaDoor.oa Go.Proofs.YtgjjimbleliklaaDoor.ob Go.Proofs.YtgjjimbleliklaaDoor.qa Go.Proofs.YtgjjimbleliklaaDoor.qb Go.Proofs.YtgjjimbleliklaaDoor.qc Go.Proofs.YtgjjimbleliklaaDoor.rh
set_option linter.unusedVariables false

theorem twin_base {w : World} {B g n cp : Nat} {xs : List ByteArray} (h : Twin2 w B g n cp xs) : B ≤ g ∧ g < w.heap.size := World.ownsRow.lt h g rfl
theorem below_row {w0 w w' : World} {g : Nat} (h : Below w0.heap.size w0 w) (hg : w.grownBy w' (some g)) (hB : w0.heap.size ≤ g) : Below w0.heap.size w0 w' := Below.grown h hg h.size (fun j hj => by obtain rfl := Option.some.inj hj; exact hB)
theorem fx_row {w w' : World} {B g n cp b : Nat} {xs : List ByteArray} {lo hi : Int} {u : Value} (h : Fx w b lo hi u) (ht : Twin2 w B g n cp xs) (hg : w.grownBy w' (some g)) : Fx w' b lo hi u := fx_grow (v := .slice (some ⟨g, 0, none⟩) (n + 2) cp) h ht (by decide) hg
theorem grown_drew {w w' : World} {r : Option Nat} (h : w.grownBy w' r) : w.grownBy w'.drew r := ⟨h.os, h.tape, h.output, h.size, h.block⟩
structure Bq (w0 w wr : World) (B g n cp : Nat) (lo hi lo' hi' : Int) (u : Value) (k : Nat) (hs zs : List ByteArray) : Prop where
  t : Twin2 wr B g n cp zs
  l : zs.length = n
  e : zs.take k = hs.take k
  f1 : Fx wr w.heap.size lo hi (.slice (some ⟨g, 0, none⟩) n cp)
  f2 : Fx wr (w.heap.size + 1) lo' hi' u
  b : Below w0.heap.size w0 wr
  gr : w.grownBy wr (some g)
theorem Bq.drew {w0 w wr : World} {B g n cp : Nat} {lo hi lo' hi' : Int} {u : Value} {k : Nat} {hs zs : List ByteArray} (h : Bq w0 w wr B g n cp lo hi lo' hi' u k hs zs) : Bq w0 w wr.drew B g n cp lo hi lo' hi' u k hs zs :=
  ⟨World.ownsRow.drew h.t, h.l, h.e, h.f1, h.f2, below_dN h.b 1, grown_drew h.gr⟩
theorem Bq.next {w0 w wr : World} {B g n cp : Nat} {lo hi lo' hi' : Int} {u : Value} {k : Nat} {hs zs : List ByteArray} {x : ByteArray} (h : Bq w0 w wr B g n cp lo hi lo' hi' u k hs zs) (hB : w0.heap.size ≤ B) (hk : k < n) (hx : hs[k]? = some x) : Bq w0 w (wr.setCell ⟨g, k, none⟩ (.string x)) B g n cp lo hi lo' hi' u (k + 1) hs (zs.set k x) := by
  obtain ⟨h1, h2⟩ := twin_set h.t h.l k hk x
  refine ⟨h1, by rw [List.length_set]; exact h.l, ?_, fx_row h.f1 h.t h2, fx_row h.f2 h.t h2, below_row h.b h2 (Nat.le_trans hB (twin_base h.t).1), h.gr.trans h2⟩
  rw [List.take_add_one, List.take_add_one, hx, List.take_set_of_le (Nat.le_refl _), h.e, List.getElem?_set_self (by rw [h.l]; exact hk)]
theorem Bq.done {w0 w wr : World} {B g n cp : Nat} {lo hi lo' hi' : Int} {u : Value} {hs zs : List ByteArray} (h : Bq w0 w wr B g n cp lo hi lo' hi' u n hs zs) (hn : hs.length = n) : Twin2 wr B g n cp hs := by
  have e := h.e
  rw [List.take_of_length_le (by rw [h.l]; omega), List.take_of_length_le (by omega)] at e
  rw [← e]
  exact h.t
set_option maxHeartbeats 1600000 in
theorem back (lo hi lo' hi' : Int) (B g n cp : Nat) (u : Value) (hs zs : List ByteArray) (w0 w : World) (hR : ReadsT w0 u hs) (hB : w0.heap.size ≤ B) (h0 : Below w0.heap.size w0 w) (hT : Twin2 w B g n cp zs) (hz : zs.length = n) (hn : hs.length = n) (hf : n * 16 ≤ 140737488351232) :
    Calls Tryd.prog 9 #[FV lo hi (.slice (some ⟨g, 0, none⟩) n cp), FV lo' hi' u] w fun e w' => e = .returned (.tuple #[]) ∧ Twin2 w' B g n cp hs ∧ w.grownBy w' (some g) := by
  have H0 : Hid (Bq w0 w ((w.alloc (.cells #[.int .i64 lo, .int .i64 hi, (.slice (some ⟨g, 0, none⟩) n cp)] 24)).alloc (.cells #[.int .i64 lo', .int .i64 hi', u] 24)) B g n cp lo hi lo' hi' u 0 hs zs) := by
    have BA : Below w.heap.size w ((w.alloc (.cells #[.int .i64 lo, .int .i64 hi, (.slice (some ⟨g, 0, none⟩) n cp)] 24)).alloc (.cells #[.int .i64 lo', .int .i64 hi', u] 24)) := ((Below.refl _ _).alloc (Nat.le_refl _) _).alloc (by simp) _
    refine ⟨hT.later BA, hz, rfl, (fx_new _ _ _ _).on ((Below.refl _ _).alloc (Nat.le_refl _) _), ?_, over h0 BA, (World.grownBy_alloc _ _ _).trans (World.grownBy_alloc _ _ _)⟩
    have := fx_new (w.alloc (.cells #[.int .i64 lo, .int .i64 hi, (.slice (some ⟨g, 0, none⟩) n cp)] 24)) lo' hi' u
    rw [show (w.alloc (.cells #[.int .i64 lo, .int .i64 hi, (.slice (some ⟨g, 0, none⟩) n cp)] 24)).heap.size = w.heap.size + 1 by simp] at this
    exact this
  have HRD : Hid (ReadsT w0 u hs) := hR
  have HB : Hid (w0.heap.size ≤ B) := hB
  have HN : Hid (hs.length = n) := hn
  have hcp := twin_cap hT
  obtain ⟨a, cap, rfl, hcap, hh⟩ := hR
  rw [HN.out] at HRD H0 hcap ⊢
  clear hh hT h0 hB hz hn
  go_enter Tryd.func9, Tryd.ntmps9
  go_wp2
  go_loopw [4] (fun i wr => ∃ (k : Nat) (zs : List ByteArray), k ≤ n ∧ i = .int .i64 k ∧ Hid (Bq w0 w wr B g n cp lo hi lo' hi' (.slice a n cap) k hs zs)) (fun i _ => (n - intOf i).toNat)
  case atStart => exact ⟨0, zs, by omega, rfl, H0.out⟩
  case round =>
    obtain ⟨k, ys, hk, rfl, HQ⟩ := hrel
    clear H0
    obtain ⟨d1, d2, d3⟩ := HQ.out.f1.fb
    obtain ⟨e1, e2, e3⟩ := HQ.out.f2.fb
    by_cases hlt : k < n
    · have hlt' : (k : Int) < n := by omega
      have hkx : k < hs.length := by rw [HN.out]; exact hlt
      obtain ⟨x, HX⟩ : ∃ x, Hid (hs[k]? = some x) := ⟨_, List.getElem?_eq_getElem hkx⟩
      obtain ⟨b, off, rfl, hc⟩ : ∃ b off, a = some ⟨b, off, none⟩ ∧ wr.cell? ⟨b, off + k, none⟩ = some (.string x) := by
        obtain ⟨a', cap', e, _, h0 | ⟨b, off, e4, hh⟩⟩ := HRD.out.later HQ.out.b
        · omega
        · injection e with e1 _ _
          refine ⟨b, off, by rw [e1]; exact e4, ?_⟩
          rw [hh k hkx, List.getD_eq_getElem?_getD, HX.out]
          rfl
      obtain ⟨y, hy⟩ : ∃ y, wr.cell? ⟨g, k, none⟩ = some (.string y) := by
        have hl := HQ.out.l
        have := World.ownsRow.cellAt HQ.out.t k (by omega)
        rw [List.getElem?_append_left (by rw [List.length_map]; omega), List.getElem?_map, List.getElem?_eq_getElem (by omega)] at this
        exact ⟨_, this⟩
      have hfz : wr.frozen? ⟨g, k, none⟩ = false := World.ownsRow.frozenAt HQ.out.t k
      have QN : Hid (Bq w0 w (wr.drew.setCell ⟨g, k, none⟩ (.string x)) B g n cp lo hi lo' hi' (.slice (some ⟨b, off, none⟩) n cap) (k + 1) hs (ys.set k x)) := HQ.out.drew.next HB.out hlt HX.out
      have S1 : wr.drew.cell? ⟨w.heap.size, 2, none⟩ = some (.slice (some ⟨g, 0, none⟩) n cp) ∧ wr.drew.cell? ⟨w.heap.size + 1, 2, none⟩ = some (.slice (some ⟨b, off, none⟩) n cap) ∧ wr.drew.cell? ⟨b, off + k, none⟩ = some (.string x) := ⟨d3, e3, hc⟩
      have S2 : (wr.drew.setCell ⟨g, k, none⟩ (.string x)).cell? ⟨w.heap.size, 2, none⟩ = some (.slice (some ⟨g, 0, none⟩) n cp) ∧ (wr.drew.setCell ⟨g, k, none⟩ (.string x)).cell? ⟨w.heap.size + 1, 2, none⟩ = some (.slice (some ⟨b, off, none⟩) n cap) ∧ (wr.drew.setCell ⟨g, k, none⟩ (.string x)).cell? ⟨b, off + k, none⟩ = some (.string x) := by
        refine ⟨QN.out.f1.fb.z, QN.out.f2.fb.z, ?_⟩
        obtain ⟨a', cap', e, _, h0 | ⟨b', off', e4, hh⟩⟩ := HRD.out.later QN.out.b
        · omega
        · injection e with e1 _ _
          rw [← e1] at e4
          injection e4 with e4
          injection e4 with e5 e6
          rw [← e5, ← e6] at hh
          rw [hh k hkx, List.getD_eq_getElem?_getD, HX.out]
          rfl
      clear d1 d2 e1 e2
      go_wp2_with fail
      go_region_held3 (fun w' => w'.cell? ⟨w.heap.size, 2, none⟩ = some (.slice (some ⟨g, 0, none⟩) n cp) ∧ w'.cell? ⟨w.heap.size + 1, 2, none⟩ = some (.slice (some ⟨b, off, none⟩) n cap) ∧ w'.cell? ⟨b, off + k, none⟩ = some (.string x)) (first | exact S1 | exact S2) (fail)
      go_wp2
      go_roundw
      case rel => exact ⟨k + 1, _, by omega, by go_num, QN.out⟩
      case measure => simp [intOf]; omega
    · have hlt' : ¬ (k : Int) < n := by omega
      obtain rfl : k = n := by omega
      go_wp2
      go_returns
      exact ⟨rfl, HQ.out.done HN.out, HQ.out.gr⟩
end Go.Proofs.YtgjjimbleliklaaDoor.ri

namespace Go.Proofs.YtgjjimbleliklaaDoor.rk
open Go.RowKit Go.PlainAid
open Go.Proofs.YtgjjimbleliklaaDoor.pl Go.Proofs.YtgjjimbleliklaaDoor.pf Go.Proofs.YtgjjimbleliklaaDoor.pi Go.Proofs.YtgjjimbleliklaaDoor.pj Go.Proofs.YtgjjimbleliklaaDoor.rf Go.Proofs.YtgjjimbleliklaaDoor.ca Go.Proofs.YtgjjimbleliklaaDoor.cb Go.Proofs.YtgjjimbleliklaaDoor.cp Go.Proofs.YtgjjimbleliklaaDoor.cs Go.Proofs.YtgjjimbleliklaaDoor.kb Go.Proofs.YtgjjimbleliklaaDoor.ga Go.Proofs.YtgjjimbleliklaaDoor.gb Go.Proofs.YtgjjimbleliklaaDoor.na Go.Proofs.YtgjjimbleliklaaDoor.nb Go.Proofs.YtgjjimbleliklaaDoor.nc Go.Proofs.YtgjjimbleliklaaDoor.oa Go.Proofs.YtgjjimbleliklaaDoor.ob Go.Proofs.YtgjjimbleliklaaDoor.qa Go.Proofs.YtgjjimbleliklaaDoor.qb Go.Proofs.YtgjjimbleliklaaDoor.qc Go.Proofs.YtgjjimbleliklaaDoor.rh Go.Proofs.YtgjjimbleliklaaDoor.ri
set_option linter.unusedVariables false

theorem make_any (n : Nat) (hn : n ≤ 140737488355328) (w : World) :
    (Instr.makeSlice 52 (.int .i64 n) (.int .i64 n)).run Tryd.prog w = .ok (.slice (some ⟨w.heap.size, 0, none⟩) n n) (w.alloc (.cells (row (List.replicate n 0)) 5)) := by
  obtain ⟨i, hi, hz0, hz1, hz2⟩ := info_parts info5
  have h := run_make (P := Tryd.prog) w 52 5 i (.int .u8 0) Tryd.underlying52 hi hz0 .i64 .i64 (n : Int) (n : Int) (by omega) (by omega) (by rw [hz2]; omega) (by omega)
  rw [hz1] at h
  simp only [Int.toNat_natCast, Nat.mul_one] at h
  rw [made_row] at h
  exact h
def fillb (c : Int) (j m : Nat) : List Int := List.replicate j c ++ List.replicate (m - j) 0
theorem fillb_len (c : Int) {j m : Nat} (h : j ≤ m) : (fillb c j m).length = m := by unfold fillb; simp; omega
theorem fillb_zero (c : Int) (m : Nat) : fillb c 0 m = List.replicate m 0 := by unfold fillb; simp
theorem fillb_set (c : Int) {j m : Nat} (h : j < m) : (fillb c j m).set j c = fillb c (j + 1) m := by
  unfold fillb
  rw [List.set_append_right _ _ (by simp), List.length_replicate, Nat.sub_self, show m - j = (m - (j + 1)) + 1 by omega, List.replicate_succ, List.set_cons_zero, List.replicate_succ' (n := j), List.append_assoc]
  rfl
structure Oq (w wr : World) (B g n cp : Nat) (lo hi : Int) (ys : List ByteArray) : Prop where
  t : Twin2 wr B g n cp ys
  l : ys.length = n
  z : ∀ y ∈ ys, y.size ≤ 140737488352000
  f : Fx wr w.heap.size lo hi (.slice (some ⟨g, 0, none⟩) n cp)
  gr : w.grownBy wr (some g)
theorem Oq.alloc {w wr : World} {B g n cp : Nat} {lo hi : Int} {ys : List ByteArray} (h : Oq w wr B g n cp lo hi ys) (o : Obj) : Oq w (wr.alloc o) B g n cp lo hi ys :=
  ⟨h.t.later ((Below.refl _ _).alloc (Nat.le_refl _) _), h.l, h.z, h.f.on ((Below.refl _ _).alloc (Nat.le_refl _) _), h.gr.trans (World.grownBy_alloc _ _ _)⟩
theorem Oq.set {w wr : World} {B g n cp : Nat} {lo hi : Int} {ys : List ByteArray} (h : Oq w wr B g n cp lo hi ys) {k : Nat} (hk : k < n) {x : ByteArray} (hx : x.size ≤ 140737488352000) : Oq w (wr.setCell ⟨g, k, none⟩ (.string x)) B g n cp lo hi (ys.set k x) := by
  obtain ⟨h1, h2⟩ := twin_set h.t h.l k hk x
  refine ⟨h1, by rw [List.length_set]; exact h.l, fun y hy => ?_, fx_row h.f h.t h2, h.gr.trans h2⟩
  rcases List.mem_or_eq_of_mem_set hy with h3 | rfl
  · exact h.z y h3
  · exact hx
set_option maxHeartbeats 3200000 in
theorem other (lo hi : Int) (B g n cp : Nat) (zs : List ByteArray) (w : World) (hT : Twin2 w B g n cp zs) (hz : zs.length = n) (hf : ∀ y ∈ zs, y.size ≤ 140737488352000) (hn : n * 16 ≤ 140737488351232) :
    Calls Tryd.prog 7 #[FV lo hi (.slice (some ⟨g, 0, none⟩) n cp)] w fun e w' => e = .returned (.tuple #[]) ∧ (∃ ys, ys.length = n ∧ (∀ y ∈ ys, y.size ≤ 140737488352000) ∧ Twin2 w' B g n cp ys) ∧ w.grownBy w' (some g) := by
  have H0 : Hid (Oq w (w.alloc (.cells #[.int .i64 lo, .int .i64 hi, (.slice (some ⟨g, 0, none⟩) n cp)] 24)) B g n cp lo hi zs) :=
    ⟨hT.later ((Below.refl _ _).alloc (Nat.le_refl _) _), hz, hf, fx_new _ _ _ _, World.grownBy_alloc _ _ _⟩
  have hcp := twin_cap hT
  clear hT hz hf
  go_enter Tryd.func7, Tryd.ntmps7
  go_wp2
  go_loopw [2] (fun i wr => ∃ (k : Nat) (ys : List ByteArray), k ≤ n ∧ i = .int .i64 k ∧ Hid (Oq w wr B g n cp lo hi ys)) (fun i _ => (n - intOf i).toNat)
  case atStart => exact ⟨0, zs, by omega, rfl, H0.out⟩
  case round =>
    obtain ⟨k, ys, hk, rfl, HQ⟩ := hrel
    clear H0
    obtain ⟨d1, d2, d3⟩ := HQ.out.f.fb
    by_cases hlt : k < n
    · have hlt' : (k : Int) < n := by omega
      have hky : k < ys.length := by rw [HQ.out.l]; exact hlt
      obtain ⟨y, HY⟩ : ∃ y, Hid (ys[k]? = some y) := ⟨_, List.getElem?_eq_getElem hky⟩
      have hy : wr.cell? ⟨g, k, none⟩ = some (.string y) := by
        have := World.ownsRow.cellAt HQ.out.t k (by omega)
        rw [List.getElem?_append_left (by rw [List.length_map]; omega), List.getElem?_map, HY.out] at this
        exact this
      have hys : y.size ≤ 140737488352000 := HQ.out.z y (List.mem_of_getElem? HY.out)
      obtain ⟨m, HM⟩ : ∃ m, Hid (y.size = m) := ⟨_, rfl⟩
      rw [HM.out] at hys
      obtain ⟨c, HC⟩ : ∃ c, Hid (IntKind.u8.wrap (122 - (k : Int)) = c) := ⟨_, rfl⟩
      have hmk := make_any m (by omega) wr
      have hys1 : y.size = m := HM.out
      have hc8 := HC.out
      rw [← fillb_zero c m] at hmk
      go_wp2
      go_loopw [4] (fun j wx => ∃ t : Nat, t ≤ m ∧ j = .int .i64 t ∧ wx = wr.alloc (.cells (row (fillb c t m)) 5)) (fun j _ => (m - intOf j).toNat)
      case atStart => exact ⟨0, by omega, rfl, rfl⟩
      case round =>
        obtain ⟨t, ht, rfl, rfl⟩ := hrel
        by_cases hl2 : t < m
        · have hl2' : (t : Int) < m := by omega
          have hrs := row_set (fillb c t m) t c
          rw [fillb_set c hl2] at hrs
          have hsz : (row (fillb c t m)).size = m := by rw [row_size, fillb_len c (by omega)]
          go_wp2
          go_roundw
          case rel => exact ⟨t + 1, by omega, by go_num, rfl⟩
          case measure => simp [intOf]; omega
        · have hl2' : ¬ (t : Int) < m := by omega
          obtain rfl : t = m := by omega
          have hcv := conv_row (fillb c t t) wr t (fillb_len c (Nat.le_refl _)).symm
          obtain ⟨S, HS⟩ : ∃ S, Hid (str (fillb c t t) = S) := ⟨_, rfl⟩
          have hSz : S.size ≤ 140737488352000 := by rw [← HS.out, str_size, fillb_len c (Nat.le_refl _)]; omega
          rw [HS.out] at hcv
          have HA : Hid (Oq w (wr.alloc (.cells (row (fillb c t t)) 5)) B g n cp lo hi ys) := HQ.out.alloc _
          have QN : Hid (Oq w ((wr.alloc (.cells (row (fillb c t t)) 5)).setCell ⟨g, k, none⟩ (.string S)) B g n cp lo hi (ys.set k S)) := HA.out.set hlt hSz
          obtain ⟨e1, e2, e3⟩ := HA.out.f.fb
          have hy2 : (wr.alloc (.cells (row (fillb c t t)) 5)).cell? ⟨g, k, none⟩ = some (.string y) := (Below.cell ((Below.refl _ _).alloc (Nat.le_refl _) _) (World.block_lt_of_cell? _ _ hy)).trans hy
          have hfz : (wr.alloc (.cells (row (fillb c t t)) 5)).frozen? ⟨g, k, none⟩ = false := World.ownsRow.frozenAt HA.out.t k
          clear hmk d1 d2 d3 hy
          generalize wr.alloc _ = wz at hcv HA QN e1 e2 e3 hy2 hfz ⊢
          go_wp2
          go_roundw
          case rel => exact ⟨k + 1, _, by omega, by go_num, QN.out⟩
          case measure => simp [intOf]; omega
    · have hlt' : ¬ (k : Int) < n := by omega
      go_wp2
      go_returns
      exact ⟨rfl, ⟨ys, HQ.out.l, HQ.out.z, HQ.out.t⟩, HQ.out.gr⟩
end Go.Proofs.YtgjjimbleliklaaDoor.rk

namespace Go.Proofs.YtgjjimbleliklaaDoor.rj
open Go.RowKit Go.PlainAid
open Go.Proofs.YtgjjimbleliklaaDoor.pl Go.Proofs.YtgjjimbleliklaaDoor.pi Go.Proofs.YtgjjimbleliklaaDoor.pj Go.Proofs.YtgjjimbleliklaaDoor.rf Go.Proofs.YtgjjimbleliklaaDoor.ca Go.Proofs.YtgjjimbleliklaaDoor.cb Go.Proofs.YtgjjimbleliklaaDoor.cp Go.Proofs.YtgjjimbleliklaaDoor.cs Go.Proofs.YtgjjimbleliklaaDoor.ka Go.Proofs.YtgjjimbleliklaaDoor.kb Go.Proofs.YtgjjimbleliklaaDoor.ga Go.Proofs.YtgjjimbleliklaaDoor.gb Go.Proofs.YtgjjimbleliklaaDoor.na Go.Proofs.YtgjjimbleliklaaDoor.nb Go.Proofs.YtgjjimbleliklaaDoor.nc Go.Proofs.YtgjjimbleliklaaDoor.oa Go.Proofs.YtgjjimbleliklaaDoor.ob Go.Proofs.YtgjjimbleliklaaDoor.qa Go.Proofs.YtgjjimbleliklaaDoor.qb Go.Proofs.YtgjjimbleliklaaDoor.qc Go.Proofs.YtgjjimbleliklaaDoor.rg Go.Proofs.YtgjjimbleliklaaDoor.rh Go.Proofs.YtgjjimbleliklaaDoor.ri Go.Proofs.YtgjjimbleliklaaDoor.rk
set_option linter.unusedVariables false

-- a frontier and its twin, while the law asks
structure Ck (w W : World) (B g n cp bf bi : Nat) (lo hi : Int) (u : Value) (ys : List ByteArray) : Prop where
  b : Below w.heap.size w W
  f : Fx W bf lo hi u
  i : Fx W bi lo hi (.slice (some ⟨g, 0, none⟩) n cp)
  t : Twin2 W B g n cp ys
  l : ys.length = n
  z : ∀ y ∈ ys, y.size ≤ 140737488352000
  hB : w.heap.size ≤ B
theorem Ck.on {w W W' : World} {B g n cp bf bi : Nat} {lo hi : Int} {u : Value} {ys : List ByteArray} (h : Ck w W B g n cp bf bi lo hi u ys) (hb : Below W.heap.size W W') : Ck w W' B g n cp bf bi lo hi u ys :=
  ⟨over h.b hb, h.f.on hb, h.i.on hb, h.t.later hb, h.l, h.z, h.hB⟩
theorem Ck.row {w W W' : World} {B g n cp bf bi : Nat} {lo hi : Int} {u : Value} {ys ys' : List ByteArray} (h : Ck w W B g n cp bf bi lo hi u ys) (hg : W.grownBy W' (some g)) (ht : Twin2 W' B g n cp ys') (hl : ys'.length = n) (hz : ∀ y ∈ ys', y.size ≤ 140737488352000) : Ck w W' B g n cp bf bi lo hi u ys' :=
  ⟨below_row h.b hg (Nat.le_trans h.hB (twin_base h.t).1), fx_row h.f h.t hg, fx_row h.i h.t hg, ht, hl, hz, h.hB⟩
theorem Ck.reads {w W : World} {B g n cp bf bi : Nat} {lo hi : Int} {u : Value} {ys : List ByteArray} (h : Ck w W B g n cp bf bi lo hi u ys) : ReadsT W (.slice (some ⟨g, 0, none⟩) n cp) ys := twin_reads h.t h.l
end Go.Proofs.YtgjjimbleliklaaDoor.rj

namespace Go.Proofs.YtgjjimbleliklaaDoor.rm
open Go.RowKit Go.PlainAid
open Go.Proofs.YtgjjimbleliklaaDoor.pl Go.Proofs.YtgjjimbleliklaaDoor.pi Go.Proofs.YtgjjimbleliklaaDoor.pj Go.Proofs.YtgjjimbleliklaaDoor.rf Go.Proofs.YtgjjimbleliklaaDoor.ca Go.Proofs.YtgjjimbleliklaaDoor.cb Go.Proofs.YtgjjimbleliklaaDoor.cp Go.Proofs.YtgjjimbleliklaaDoor.cs Go.Proofs.YtgjjimbleliklaaDoor.kb Go.Proofs.YtgjjimbleliklaaDoor.ka Go.Proofs.YtgjjimbleliklaaDoor.ga Go.Proofs.YtgjjimbleliklaaDoor.gb Go.Proofs.YtgjjimbleliklaaDoor.na Go.Proofs.YtgjjimbleliklaaDoor.nb Go.Proofs.YtgjjimbleliklaaDoor.nc Go.Proofs.YtgjjimbleliklaaDoor.oa Go.Proofs.YtgjjimbleliklaaDoor.ob Go.Proofs.YtgjjimbleliklaaDoor.qa Go.Proofs.YtgjjimbleliklaaDoor.qb Go.Proofs.YtgjjimbleliklaaDoor.qc Go.Proofs.YtgjjimbleliklaaDoor.qd Go.Proofs.YtgjjimbleliklaaDoor.rg Go.Proofs.YtgjjimbleliklaaDoor.rh Go.Proofs.YtgjjimbleliklaaDoor.rl
set_option linter.unusedVariables false

structure Fq (w wr : World) (lo hi : Int) (v : Value) (k : Nat) (ns : List Md) : Prop where
  b : Below w.heap.size w wr
  r : Fx wr w.heap.size 0 0 (.slice none 0 0)
  f : Fx wr (w.heap.size + 1) lo hi v
  o : wr.ownsRow w.heap.size 9 1 v k (((ns.take k).map Prod.snd).map Value.string)
theorem text_new (W : World) (x : ByteArray) : ∀ (j : Nat) (u : Value), [Value.string x][j]? = some u → (W.alloc (.cells #[.string x] 9)).drew.cell? (Addr.add ⟨W.heap.size, 0, none⟩ j) = some u := fun j u hu => new_text W _ 9 j u hu
theorem Fq.next {w wr w7 : World} {lo hi : Int} {v v7 : Value} {k : Nat} {ns : List Md} {x : Md} {o : Obj} (h : Fq w wr lo hi v k ns) (hx : ns[k]? = some x) (hg : (wr.alloc o).drew.grownBy w7 v.ownBlock) (ho : w7.ownsRow w.heap.size 9 1 v7 (k + 1) (((ns.take k).map Prod.snd).map Value.string ++ [.string x.2])) :
    Fx w7 (w.heap.size + 1) lo hi v ∧ Fq w (w7.setCell ⟨w.heap.size + 1, 2, none⟩ v7) lo hi v7 (k + 1) ns := by
  have OX : (wr.alloc o).drew.ownsRow w.heap.size 9 1 v k _ := World.ownsRow.drew (h.o.alloc o)
  have BX : Below w.heap.size w (wr.alloc o).drew := below_dN (h.b.alloc h.b.size o) 1
  have X1 : Fx (wr.alloc o).drew w.heap.size 0 0 (.slice none 0 0) := h.r.on (below_dN ((Below.refl _ _).alloc (Nat.le_refl _) o) 1)
  have X2 : Fx (wr.alloc o).drew (w.heap.size + 1) lo hi v := h.f.on (below_dN ((Below.refl _ _).alloc (Nat.le_refl _) o) 1)
  have Y1 := fx_grow X1 OX (by decide) hg
  have Y2 := fx_grow X2 OX (by decide) hg
  have BY : Below w.heap.size w w7 := Below.grown BX hg BX.size (fun jj hj => (OX.lt _ hj).1)
  refine ⟨Y2, BY.setCell (p := ⟨w.heap.size + 1, 2, none⟩) (by show _ ≤ w.heap.size + 1; omega) _, (Below.heap_setCell _ _ _ _ (by simp)).trans Y1, fx_cell2 Y2 _, own_cell ?_ Y2 (by decide) _⟩
  rw [List.take_add_one, hx, List.map_append, List.map_append]
  exact ho
set_option maxHeartbeats 3200000 in
set_option maxRecDepth 100000 in
theorem rfrontier (lo hi : Int) (m : Value) (ns : List Md) (w : World) (hR : ReadsM w m ns) (hn : ns.length ≤ 244) :
    Calls Tryd.prog 27 #[.int .i64 lo, .int .i64 hi, m] w fun e w' => (∃ v, e = .returned (FV lo hi v) ∧ Texts w' w.heap.size v (ns.map Prod.snd)) ∧ Below w.heap.size w w' := by
  obtain ⟨i9, hi9', hz0, hz1, hz2⟩ := info_parts hi9
  have HIN : Hid (_ ∧ _ ∧ _ ∧ _) := ⟨hi9', hz0, hz1, hz2⟩
  have HRD : Hid (ReadsM w m ns) := hR
  have H0 : Hid (Fq w ((w.alloc (.cells #[.int .i64 0, .int .i64 0, .slice none 0 0] 24)).alloc (.cells #[.int .i64 lo, .int .i64 hi, .slice none 0 0] 24)) lo hi (.slice none 0 0) 0 ns) := by
    refine ⟨((Below.refl _ _).alloc (Nat.le_refl _) _).alloc (by simp) _, (fx_new _ _ _ _).on ((Below.refl _ _).alloc (Nat.le_refl _) _), ?_, World.ownsRow_nil _ _ _ _⟩
    have := fx_new (w.alloc (.cells #[.int .i64 0, .int .i64 0, .slice none 0 0] 24)) lo hi (.slice none 0 0)
    rw [show (w.alloc (.cells #[.int .i64 0, .int .i64 0, .slice none 0 0] 24)).heap.size = w.heap.size + 1 by simp] at this
    exact this
  obtain ⟨a, cap, rfl, hh⟩ := hR
  obtain ⟨n, HN⟩ : ∃ n, Hid (ns.length = n) := ⟨_, rfl⟩
  rw [HN.out] at HRD hn ⊢
  clear hi9' hz0 hz1 hz2 hh
  go_enter Tryd.func27, Tryd.ntmps27
  go_wp2
  go_loopw [8] (fun i wr => ∃ (v : Value) (k : Nat), k ≤ n ∧ i = .int .i64 k ∧ Hid (Fq w wr lo hi v k ns)) (fun i _ => (n - intOf i).toNat)
  case atStart => exact ⟨_, 0, by omega, rfl, H0.out⟩
  case round =>
    obtain ⟨v, k, hk, rfl, HQ⟩ := hrel
    clear H0
    obtain ⟨ua, uc, rfl⟩ := own_formS HQ.out.o
    by_cases hlt : k < n
    · have hlt' : (k : Int) < n := by omega
      have hkx : k < ns.length := by rw [HN.out]; exact hlt
      obtain ⟨x, HX⟩ : ∃ x, Hid (ns[k]? = some x) := ⟨_, List.getElem?_eq_getElem hkx⟩
      obtain ⟨b, rfl, c1, c2, c3⟩ := row_atM (HRD.out.later HQ.out.b) HX.out
      obtain ⟨y, HYX⟩ : ∃ y, Hid (x.2 = y) := ⟨_, rfl⟩
      rw [HYX.out] at c3
      have d3 := HQ.out.f.fb.z
      have OX : Hid ((wr.alloc (.cells #[.string y] 9)).drew.ownsRow w.heap.size 9 1 (.slice ua k uc) k (((ns.take k).map Prod.snd).map Value.string)) := World.ownsRow.drew (HQ.out.o.alloc _)
      have BX : Hid (Below w.heap.size w (wr.alloc (.cells #[.string y] 9)).drew) := below_dN (HQ.out.b.alloc HQ.out.b.size _) 1
      have NX : Hid _ := text_new wr y
      have dd : (wr.alloc (.cells #[.string y] 9)).cell? ⟨w.heap.size + 1, 2, none⟩ = some (.slice ua k uc) := (Below.cell ((Below.refl _ _).alloc (Nat.le_refl _) _) (World.block_lt_of_cell? _ _ d3)).trans d3
      have dc : (wr.alloc (.cells #[.string y] 9)).cell? ⟨b, k * 3 + 2, none⟩ = some (.string y) := (Below.cell ((Below.refl _ _).alloc (Nat.le_refl _) _) (World.block_lt_of_cell? _ _ c3)).trans c3
      clear c1 c2
      go_wp2_with fail
      go_region_law ((refine step_append_lies _ (by rfl) _ _ 22 (by rfl) w.heap.size 9 i9 (.string ByteArray.empty) 1 16 Tryd.underlying22 HIN.out.1 HIN.out.2.1 HIN.out.2.2.1 HIN.out.2.2.2 rfl (by decide) _ k _ (by rfl) OX.out ⟨wr.heap.size, 0, none⟩ 1 1 [.string y] (by rfl) rfl NX.out (one_text _) (by omega) (by unfold maxLen; omega) (by omega) BX.out.size _ rfl ?_; intro g7 cap7 w7 hown7 hgrow7 hlies7 hglt7; rw [← HYX.out] at hown7; have HNX : Hid (_ ∧ _) := HQ.out.next HX.out hgrow7 hown7; obtain ⟨p1, p2, p3⟩ := HNX.out.1.fb; have p4 := frozen_of_row w7 (w.heap.size + 1) 2 _ _ HNX.out.1; clear hown7 hgrow7 hlies7 hglt7))
      all_goals
        go_wp2
        go_roundw
        case rel => exact ⟨_, k + 1, by omega, by go_num, HNX.out.2⟩
        case measure => simp [intOf]; omega
    · have hlt' : ¬ (k : Int) < n := by omega
      obtain rfl : k = n := by omega
      have hO := HQ.out.o
      rw [List.take_of_length_le (by rw [HN.out]; omega)] at hO
      obtain ⟨d1, d2, d3⟩ := HQ.out.f.fb
      obtain ⟨e1, e2, e3⟩ := HQ.out.r.fb
      have f0 := frozen_of_row wr w.heap.size 0 _ _ HQ.out.r
      have f1 := frozen_of_row wr w.heap.size 1 _ _ HQ.out.r
      have f2 := frozen_of_row wr w.heap.size 2 _ _ HQ.out.r
      have O1 := fx_set HQ.out.r lo hi (.slice ua k uc)
      have O2 : Hid (World.ownsRow _ _ _ _ _ _ _) := own_set3 hO HQ.out.r (by decide) (.int .i64 lo) (.int .i64 hi) (.slice ua k uc)
      have O3 : Hid (Below w.heap.size w (set3 wr w.heap.size (.int .i64 lo) (.int .i64 hi) (.slice ua k uc))) := below_set3 HQ.out.b (Nat.le_refl _) _ _ _
      obtain ⟨g1, g2, g3⟩ := O1.fb
      clear O1 hO
      go_wp2
      unfold set3 at g1 g2 g3 O2 O3
      generalize World.setCell _ _ _ = wy at g1 g2 g3 O2 O3 ⊢
      (try simp only [Exit.inBlock, Exit.then])
      refine bodyPost_ret (by simp [results, Tryd.results27, go_sem, g1, g2, g3]; try rfl) rfl ?_
      refine ⟨⟨_, rfl, ?_⟩, O3.out⟩
      unfold Texts
      rw [List.length_map, HN.out]
      exact O2.out
end Go.Proofs.YtgjjimbleliklaaDoor.rm

namespace Go.Proofs.YtgjjimbleliklaaDoor.rq
open Go.RowKit Go.PlainAid
open Go.Proofs.YtgjjimbleliklaaDoor.pl Go.Proofs.YtgjjimbleliklaaDoor.pi Go.Proofs.YtgjjimbleliklaaDoor.pj Go.Proofs.YtgjjimbleliklaaDoor.rf Go.Proofs.YtgjjimbleliklaaDoor.ca Go.Proofs.YtgjjimbleliklaaDoor.cb Go.Proofs.YtgjjimbleliklaaDoor.cp Go.Proofs.YtgjjimbleliklaaDoor.cs Go.Proofs.YtgjjimbleliklaaDoor.kb Go.Proofs.YtgjjimbleliklaaDoor.ka Go.Proofs.YtgjjimbleliklaaDoor.ga Go.Proofs.YtgjjimbleliklaaDoor.gb Go.Proofs.YtgjjimbleliklaaDoor.na Go.Proofs.YtgjjimbleliklaaDoor.nb Go.Proofs.YtgjjimbleliklaaDoor.nc Go.Proofs.YtgjjimbleliklaaDoor.oa Go.Proofs.YtgjjimbleliklaaDoor.ob Go.Proofs.YtgjjimbleliklaaDoor.qa Go.Proofs.YtgjjimbleliklaaDoor.qb Go.Proofs.YtgjjimbleliklaaDoor.qc Go.Proofs.YtgjjimbleliklaaDoor.qd Go.Proofs.YtgjjimbleliklaaDoor.rg Go.Proofs.YtgjjimbleliklaaDoor.rl Go.Proofs.YtgjjimbleliklaaDoor.rm Go.Proofs.YtgjjimbleliklaaDoor.rn Go.Proofs.YtgjjimbleliklaaDoor.ro
set_option linter.unusedVariables false

-- one node more
theorem runD_snoc {α : Type} (N : α → α → α) (xs : List (Nd α)) (x : Nd α) : ∀ rs, runR N rs (xs ++ [x]) = ((joinR N (runR N rs xs).1 x).1, (runR N rs xs).2 ++ (joinR N (runR N rs xs).1 x).2) := by
  induction xs with
  | nil => intro rs; simp [runR]
  | cons y xs ih =>
    intro rs
    show ((runR N (joinR N rs y).1 (xs ++ [x])).1, (joinR N rs y).2 ++ (runR N (joinR N rs y).1 (xs ++ [x])).2) = _
    rw [ih]
    simp [runR, List.append_assoc]
theorem small_join {wd : Int} (rs : List Md) : ∀ x, (∀ n ∈ x :: rs, Small n) → ∀ n ∈ (joinR (NF wd) rs x).1, Small n := by
  induction rs with
  | nil => intro x h n hn; simp [joinR] at hn; subst hn; exact h _ (by simp)
  | cons a rs ih =>
    intro x h n hn
    by_cases hh : halves a.1 x.1
    · rw [joinR_yes _ rs hh] at hn
      refine ih (upN (NF wd) a x) (fun m hm => ?_) n hn
      rcases List.mem_cons.1 hm with rfl | hm
      · have ha := h a (by simp)
        refine ⟨?_, ?_, ?_⟩
        · show a.1.1 + 1 ≤ 126; have := hh.2.2.2; omega
        · show a.1.2 / 2 ≤ _; have := ha.2.1; omega
        · show (NF wd a.2 x.2).size ≤ 32; rw [show (NF wd a.2 x.2).size = wid wd from cutS_size _ _]; have := wid_in wd; omega
      · exact h m (by simp [hm])
    · rw [joinR_no _ rs hh] at hn
      exact h n hn
theorem small_run {wd : Int} (xs : List Md) : ∀ rs, (∀ n ∈ rs, Small n) → (∀ n ∈ xs, Small n) → ∀ n ∈ (runR (NF wd) rs xs).1, Small n := by
  induction xs with
  | nil => intro rs h _; exact h
  | cons x xs ih =>
    intro rs h hx
    exact ih _ (small_join rs x (fun n hn => by rcases List.mem_cons.1 hn with rfl | hn; exact hx _ (by simp); exact h n hn)) (fun n hn => hx n (by simp [hn]))
-- the run, the list behind it, and the boxes beside
structure Dm (w wr : World) (p : Nat) (vn vw vq : Value) (ns wh qs : List Md) (K : World → Prop) : Prop where
  b : Below w.heap.size w wr
  r : Rx wr p vn vw
  n : Mades wr w.heap.size vn ns
  m : Mades wr w.heap.size vw wh
  q : Mades wr w.heap.size vq qs
  ap : vn.ownBlock = none ∨ vn.ownBlock ≠ vw.ownBlock
  aq : ∀ g, vq.ownBlock = some g → some g ≠ vn.ownBlock ∧ some g ≠ vw.ownBlock
  hp : w.heap.size ≤ p
  k : K wr
theorem Dm.next {w wr w' : World} {p : Nat} {vn vw vq vn' vw' : Value} {ns wh qs ns' wh' : List Md} {K : World → Prop} (h : Dm w wr p vn vw vq ns wh qs K) (hs : Sn wr w' w.heap.size p vn.ownBlock vw.ownBlock vn' vw' ns' wh') (hK : (∀ k, k < wr.heap.size → k ≠ p → some k ≠ vn.ownBlock → some k ≠ vw.ownBlock → w'.heap[k]? = wr.heap[k]?) → K w') : Dm w w' p vn' vw' vq ns' wh' qs K := by
  have hB := hs.k.below (B := w.heap.size) h.b.size h.hp (fun g e => (World.ownsRow.lt h.n g e).1) (fun g e => (World.ownsRow.lt h.m g e).1)
  have hq : ∀ g, vq.ownBlock = some g → g < wr.heap.size := fun g e => (World.ownsRow.lt h.q g e).2
  refine ⟨h.b.trans hB, hs.r, hs.n, hs.m, ?_, hs.ap, fun g e => ?_, h.hp, hK (fun k h1 h2 h3 h4 => hs.k.block k h1 h2 h3 h4)⟩
  · refine ⟨h.q.1, ?_⟩
    rcases h.q.2 with hn | ⟨g, cap, cur, rfl, hb, hg, rest⟩
    · exact .inl hn
    · refine .inr ⟨g, cap, cur, rfl, hb, ?_, rest⟩
      rw [hs.k.block g (hq g rfl) (fun e => rx_far h.r h.q (by decide) rfl e.symm) (h.aq g rfl).1 (h.aq g rfl).2]
      exact hg
  · have h1 := hq g e
    have h2 := h.aq g e
    refine ⟨fun e2 => ?_, fun e2 => ?_⟩
    · rcases hs.fn with h3 | h3
      · exact h2.1 (by rw [← h3]; exact e2)
      · have := h3 g e2.symm; omega
    · rcases hs.fm with h3 | h3
      · exact h2.2 (by rw [← h3]; exact e2)
      · have := h3 g e2.symm; omega
-- what the document's joining promises (Rp)
def BehindC : Prop := ∀ (wd : Int) (B p : Nat) (x : Md) (vn vw : Value) (ns wh : List Md) (w : World), Tab4 w → Rx w p vn vw → Mades w B vn ns → Mades w B vw wh → (vn.ownBlock = none ∨ vn.ownBlock ≠ vw.ownBlock) → B ≤ w.heap.size → (∀ n ∈ x :: ns, Small n) → ns.length ≤ 1000 → wh.length ≤ 20000 → (∀ w', Kq w w' p vn.ownBlock vw.ownBlock → Tab4 w') →
    Calls Tryd.prog 26 #[.pointer (some ⟨p, 0, none⟩), .int .i64 wd, .agg #[.int .i64 (x.1.1 : Nat), .int .i64 (x.1.2 : Nat), .string x.2]] w fun e w' => e = .returned (.tuple #[]) ∧ ∃ vn' vw', Sn w w' B p vn.ownBlock vw.ownBlock vn' vw' (joinR (NF wd) ns.reverse x).1.reverse (wh ++ (joinR (NF wd) ns.reverse x).2)
theorem fx_farM {w : World} {b B : Nat} {lo hi : Int} {u v : Value} {L : List Md} (h : Fx w b lo hi u) (ho : Mades w B v L) : some b ≠ v.ownBlock := by
  rcases ho.2 with ⟨rfl, _⟩ | ⟨g, cap, cur, rfl, _, hg, _⟩
  · simp [Value.ownBlock]
  · intro e
    obtain rfl : b = g := by simpa [Value.ownBlock] using e
    unfold Fx at h
    rw [hg] at h
    simp at h
theorem small_open {wd lo hi : Int} {hs : List ByteArray} (g : GoodF wd lo hi hs) : ∀ n ∈ opened lo hi hs, Small n := by
  intro n hn
  have h1 := opened_fst g
  have hw := wide_open g n hn
  obtain ⟨a, b, rfl, rfl, h2, h3, _⟩ := good_form g
  rw [covI_nat h2 h3] at h1
  have hm : n.1 ∈ cov a b := by rw [← h1]; exact List.mem_map_of_mem hn
  have key : ∀ x ∈ cov a b, x.1 ≤ 62 ∧ x.2 ≤ b := by
    refine cov_fold (p := a) (hi := b) (fun p h => h = b → ∀ x ∈ cov p h, x.1 ≤ 62 ∧ x.2 ≤ b) ?_ ?_ rfl
    · intro p h _ x hx
      rw [cov_end h] at hx
      cases hx
    · intro p k hlt hl ih he x hx
      rw [cov_at hlt hl] at hx
      rcases List.mem_cons.1 hx with rfl | hx
      · refine ⟨hl.1, ?_⟩
        show p / 2 ^ k ≤ b
        have := Nat.div_le_self p (2 ^ k)
        omega
      · exact ih he x hx
  have hk := key n.1 hm
  exact ⟨by omega, by omega, by rw [hw]; have := wid_in wd; omega⟩
theorem zedA {w4 wl : World} (hb : Below (w4.alloc (.cells #[.int .i64 0, .int .i64 0, .slice none 0 0] 24)).drew.heap.size (w4.alloc (.cells #[.int .i64 0, .int .i64 0, .slice none 0 0] 24)).drew wl) : Fx wl w4.heap.size 0 0 (.slice none 0 0) := (hb.block _ (fx_new w4 0 0 (.slice none 0 0)).lt).trans (fx_new w4 0 0 (.slice none 0 0))
end Go.Proofs.YtgjjimbleliklaaDoor.rq

namespace Go.Proofs.YtgjjimbleliklaaDoor.rs
open Go.RowKit Go.PlainAid
open Go.Proofs.YtgjjimbleliklaaDoor.pl Go.Proofs.YtgjjimbleliklaaDoor.cp Go.Proofs.YtgjjimbleliklaaDoor.ka Go.Proofs.YtgjjimbleliklaaDoor.na Go.Proofs.YtgjjimbleliklaaDoor.nb Go.Proofs.YtgjjimbleliklaaDoor.oa Go.Proofs.YtgjjimbleliklaaDoor.ob
set_option linter.unusedVariables false

-- lists of nodes alike
set_option maxHeartbeats 1600000 in
theorem sameM_yes (u v : Value) (L : List Md) (w : World) (h1 : ReadsM w u L) (h2 : ReadsM w v L) (hz : L.length ≤ 1000000) :
    Calls Tryd.prog 12 #[u, v] w fun e w' => e = .returned (.bool true) ∧ Below w.heap.size w w' := by
  have H1 : Hid (ReadsM w u L) := h1
  have H2 : Hid (ReadsM w v L) := h2
  obtain ⟨a, cap, rfl, _⟩ := h1
  obtain ⟨a', cap', rfl, _⟩ := h2
  obtain ⟨n, HN⟩ : ∃ n, Hid (L.length = n) := ⟨_, rfl⟩
  rw [HN.out] at H1 H2 hz ⊢
  have qn : ((n : Int) == (n : Int)) = true := beq_self_eq_true _
  go_enter Tryd.func12, Tryd.ntmps12
  go_wp2
  go_loopw [5] (fun i wr => ∃ k : Nat, k ≤ n ∧ i = .int .i64 k ∧ Hid (∃ m, wr = w.drewN m)) (fun i _ => (n - intOf i).toNat)
  case atStart => exact ⟨0, by omega, rfl, 0, rfl⟩
  case round =>
    obtain ⟨k, hk, rfl, HB⟩ := hrel
    by_cases hlt : k < n
    · have hlt' : (k : Int) < n := by omega
      have hkx : k < L.length := by rw [HN.out]; exact hlt
      obtain ⟨x, HX⟩ : ∃ x, Hid (L[k]? = some x) := ⟨_, List.getElem?_eq_getElem hkx⟩
      obtain ⟨b, rfl, c1, c2, c3⟩ := row_atM H1.out HX.out
      obtain ⟨b', rfl, d1, d2, d3⟩ := row_atM H2.out HX.out
      obtain ⟨m, hm⟩ := HB.out
      subst hm
      obtain ⟨⟨xL, xI⟩, xh⟩ := x
      simp only at c1 c2 c3 d1 d2 d3
      have q1 : ((xL : Int) == (xL : Int)) = true := beq_self_eq_true _
      have q2 : ((xI : Int) == (xI : Int)) = true := beq_self_eq_true _
      have q3 : (xh.toList == xh.toList) = true := beq_self_eq_true _
      clear HB
      go_wp2_with fail
      go_quiet (fail)
      go_wp2
      go_roundw
      case rel => exact ⟨k + 1, by omega, by go_num, _, rfl⟩
      case measure => simp [intOf]; omega
    · have hlt' : ¬ (k : Int) < n := by omega
      have B9 : Hid (Below w.heap.size w wr) := by obtain ⟨m, rfl⟩ := HB.out; exact below_dN (Below.refl _ _) m
      go_wp2
      go_ret
      exact ⟨rfl, B9.out⟩
end Go.Proofs.YtgjjimbleliklaaDoor.rs
