import Derived.Test.YtnnpidjpklfogaaDoorQa
import Derived.Test.YtnnpidjpklfogaaDoorKc
namespace Go.Proofs.YtnnpidjpklfogaaDoor.qb
open Go.RowKit Go.PlainAid
open Go.Proofs.YtnnpidjpklfogaaDoor.pl Go.Proofs.YtnnpidjpklfogaaDoor.pi Go.Proofs.YtnnpidjpklfogaaDoor.pj Go.Proofs.YtnnpidjpklfogaaDoor.rf Go.Proofs.YtnnpidjpklfogaaDoor.ca Go.Proofs.YtnnpidjpklfogaaDoor.cb Go.Proofs.YtnnpidjpklfogaaDoor.cp Go.Proofs.YtnnpidjpklfogaaDoor.cs Go.Proofs.YtnnpidjpklfogaaDoor.ka Go.Proofs.YtnnpidjpklfogaaDoor.kb Go.Proofs.YtnnpidjpklfogaaDoor.kc Go.Proofs.YtnnpidjpklfogaaDoor.ga Go.Proofs.YtnnpidjpklfogaaDoor.gb Go.Proofs.YtnnpidjpklfogaaDoor.na Go.Proofs.YtnnpidjpklfogaaDoor.nb Go.Proofs.YtnnpidjpklfogaaDoor.nc Go.Proofs.YtnnpidjpklfogaaDoor.oa Go.Proofs.YtnnpidjpklfogaaDoor.ob Go.Proofs.YtnnpidjpklfogaaDoor.qa
set_option linter.unusedVariables false

-- what program and law ask of the world, and what they leave as it was
structure Gd (T : World → Prop) (w w' : World) : Prop where
  later : ∀ {w w' : World}, T w → Below w.heap.size w w' → T w'
  t : T w'
  b : Below w.heap.size w w'
theorem Gd.on {T : World → Prop} {w w' w'' : World} (h : Gd T w w') (hb : Below w'.heap.size w' w'') : Gd T w w'' := ⟨h.later, h.later h.t hb, over h.b hb⟩
-- the leaves' hashes
set_option maxHeartbeats 1600000 in
theorem leaves {T : World → Prop} (later : ∀ {w w' : World}, T w → Below w.heap.size w w' → T w') (tab : ∀ {w : World}, T w → Tab w) (wd : Int) (v : Value) (xs : List ByteArray) (w : World) (hT : T w) (hR : ReadsT w v xs) (hf : Fits xs) :
    Calls Tryd.prog 9 #[.int .i64 wd, v] w fun e w' => (∃ u, e = .returned u ∧ Texts w' w.heap.size u (LX wd xs)) ∧ Below w.heap.size w w' := by
  obtain ⟨i9, hi, hz0, hz1, hz2⟩ := info_parts hi9
  have HIN : Hid (_ ∧ _ ∧ _ ∧ _) := ⟨hi, hz0, hz1, hz2⟩
  have HRD : Hid (ReadsT w v xs) := hR
  have LT : Hid (∀ {w w' : World}, T w → Below w.heap.size w w' → T w') := later
  have LC : Hid (∀ x ∈ xs, ∀ w, T w → Calls Tryd.prog 22 #[.int .i64 wd, .string x] w fun e w' => e = .returned (.string (LF wd x)) ∧ Below w.heap.size w w') := fun x hx w hw => pLeaf wd x (hf.each x hx) w (tab hw)
  have HT : Hid (T w) := hT
  have hnm := hf.many
  obtain ⟨a, cap, rfl, hcap, hh⟩ := hR
  obtain ⟨n, HN⟩ : ∃ n, Hid (xs.length = n) := ⟨_, rfl⟩
  rw [HN.out] at HRD hcap hnm ⊢
  clear hi hz0 hz1 hz2 hh hf hT later tab
  go_enter Tryd.func9, Tryd.ntmps9
  go_wp2
  go_loopw [5, 6] (fun out i wr => ∃ (u : Value) (k : Nat), k ≤ n ∧ out = u ∧ i = .int .i64 k ∧ Hid (wr.ownsRow w.heap.size 9 1 u k (((LX wd xs).take k).map Value.string)) ∧ Hid (Below w.heap.size w wr)) (fun _ i _ => (n - intOf i).toNat)
  case atStart => exact ⟨_, 0, by omega, rfl, rfl, World.ownsRow_nil _ _ _ _, Below.refl _ _⟩
  case round =>
    obtain ⟨u, k, hk, rfl, rfl, HO, HB⟩ := hrel
    obtain ⟨ua, uc, rfl⟩ := own_formS HO.out
    by_cases hlt : k < n
    · have hlt' : (k : Int) < n := by omega
      have hkx : k < xs.length := by rw [HN.out]; exact hlt
      obtain ⟨b, off, rfl, hc⟩ : ∃ b off, a = some ⟨b, off, none⟩ ∧ wr.cell? ⟨b, off + k, none⟩ = some (.string xs[k]) := by
        obtain ⟨a', cap', e, _, h0 | ⟨b, off, e4, hh⟩⟩ := HRD.out.later HB.out
        · omega
        · injection e with e1 _ _
          exact ⟨b, off, by rw [e1]; exact e4, by rw [hh k hkx, getD_at _ _ hkx]⟩
      have C : Hid (Calls _ _ _ _ _) := LC.out xs[k] (List.getElem_mem hkx) wr (LT.out HT.out HB.out)
      obtain ⟨x, HX⟩ : ∃ x : ByteArray, Hid (xs[k] = x) := ⟨xs[k], (rfl : xs[k] = xs[k])⟩
      obtain ⟨r, HR⟩ : ∃ r, Hid (LF wd x = r) := ⟨_, rfl⟩
      rw [HX.out] at hc C
      rw [HR.out] at C
      go_wp2_with fail
      refine C.out.mono ?_
      rintro e w1 ⟨rfl, hb⟩
      have B1 : Hid (Below w.heap.size w w1) := over HB.out hb
      have OX : Hid ((w1.alloc (.cells #[.string r] 9)).ownsRow w.heap.size 9 1 (.slice ua k uc) k (((LX wd xs).take k).map Value.string)) := (own_later HO.out hb).alloc _
      have BX : Hid (Below w.heap.size w (w1.alloc (.cells #[.string r] 9))) := B1.out.alloc B1.out.size _
      clear hb
      go_wp2_with (at_builtin; refine wpList_append_own _ rfl _ _ 22 rfl w.heap.size 9 i9 (.string ByteArray.empty) 1 16 Tryd.underlying22 HIN.out.1 HIN.out.2.1 HIN.out.2.2.1 HIN.out.2.2.2 rfl (by decide) _ k _ rfl OX.out ⟨w1.heap.size, 0, none⟩ 1 1 [.string r] rfl rfl (new_text _ _ _) (one_text _) (by unfold maxLen; omega) (by omega) BX.out.size ?_; intro p' w5 ho hg hnn; have HO5 : Hid (w5.ownsRow w.heap.size 9 1 p' (k + 1) (((LX wd xs).take k).map Value.string ++ [.string r])) := ho; have HB5 : Hid (Below w.heap.size w w5) := Below.grown BX.out hg BX.out.size (fun jj hj => (OX.out.lt _ hj).1); clear ho hg hnn)
      go_roundw
      case rel =>
        refine ⟨_, k + 1, by omega, rfl, by go_num, ?_, HB5.out⟩
        have e : (LX wd xs).take (k + 1) = (LX wd xs).take k ++ [r] := by
          rw [List.take_add_one, ← HR.out, ← HX.out]
          unfold LX
          rw [List.getElem?_map, List.getElem?_eq_getElem hkx]
          rfl
        show World.ownsRow _ _ _ _ _ _ _
        rw [e, List.map_append]
        exact HO5.out
      case measure => simp [intOf]; omega
    · have hlt' : ¬ (k : Int) < n := by omega
      obtain rfl : k = n := by omega
      go_wp2
      go_ret
      refine ⟨⟨_, rfl, ?_⟩, HB.out⟩
      have := HO.out
      rw [List.take_of_length_le (by rw [LX_len, HN.out]; omega)] at this
      unfold Texts
      rw [LX_len, HN.out]
      exact this
-- the place
theorem place (q : Int) (hq : i64 q) (n : Nat) (hn : n ≤ 4611686018427387904) (w : World) :
    Calls Tryd.prog 14 #[.int .i64 q, .int .i64 n] w fun e w' => (∃ p : Nat, e = .returned (.int .i64 p) ∧ p + n ≤ 4611686018427387904) ∧ w' = w := by
  obtain ⟨h0, h1⟩ := hq
  by_cases a1 : q < 0
  · go_enter Tryd.func14, Tryd.ntmps14
    go_wp2
    go_ret
    exact ⟨⟨0, rfl, by omega⟩, rfl⟩
  · by_cases a2 : q > 4611686018427387904 - (n : Int)
    · go_enter Tryd.func14, Tryd.ntmps14
      go_wp2
      go_ret
      exact ⟨⟨0, rfl, by omega⟩, rfl⟩
    · obtain ⟨p, rfl⟩ : ∃ p : Nat, q = p := ⟨q.toNat, by omega⟩
      have HP : Hid (p + n ≤ 4611686018427387904) := by show _ ≤ _; omega
      go_enter Tryd.func14, Tryd.ntmps14
      go_wp2
      go_ret
      exact ⟨⟨p, rfl, HP.out⟩, rfl⟩
end Go.Proofs.YtnnpidjpklfogaaDoor.qb
