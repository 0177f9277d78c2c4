import Derived.Test.YtpbapaghcabehaaDoorWa
import Derived.Test.YtpbapaghcabehaaDoorSi
import Derived.Laws.Strings2
import Derived.Lib.AtoiErrMem
import Derived.Lib.AppendIntMem
namespace Go.Proofs.YtpbapaghcabehaaDoor.wb
open Go.RowKit Go.PlainAid Go.Shelf
open Go.Proofs.YtpbapaghcabehaaDoor.ta Go.Proofs.YtpbapaghcabehaaDoor.tb Go.Proofs.YtpbapaghcabehaaDoor.tc Go.Proofs.YtpbapaghcabehaaDoor.tj Go.Proofs.YtpbapaghcabehaaDoor.wa Go.Proofs.YtpbapaghcabehaaDoor.si
set_option linter.unusedVariables false

theorem over {w w1 w2 : World} (h : Below w.heap.size w w1) (b : Below w1.heap.size w1 w2) : Below w.heap.size w w2 := h.trans (b.mono h.size)
theorem below_grow (w : World) (k : Nat) (os : Array Obj) : Below w.heap.size w (Sort.grow (w.drewN k) os) :=
  ⟨rfl, rfl, rfl, by show w.heap.size ≤ (w.heap ++ os).size; rw [Array.size_append]; omega, fun i hi => by show (w.heap ++ os)[i]? = w.heap[i]?; rw [Array.getElem?_append_left hi]⟩
theorem var_below {P : Program} {w w' : World} {name : String} {cs : Array Value} (h : w.var? P name = some cs) (hb : Below w.heap.size w w') : w'.var? P name = some cs := by
  unfold World.var? at *
  cases hg : P.globalNamed name with
  | none => simp [hg] at h
  | some g =>
    simp only [hg, Option.bind_some] at h ⊢
    have hlt : g < w.heap.size := by
      rcases Nat.lt_or_ge g w.heap.size with hl | hl
      · exact hl
      · rw [Array.getElem?_eq_none hl] at h; simp at h
    rw [hb.block g hlt]
    exact h
-- the library's table and its two errors
structure NumW (w : World) : Prop where
  tab : Lib.TabIs Tryd.prog w "internal/strconv.uint64pow10" .u64 Lib.pow10Tab
  syn : ∃ tp p, w.var? Tryd.prog "strconv.ErrSyntax" = some #[.iface tp p]
  ran : ∃ tp p, w.var? Tryd.prog "strconv.ErrRange" = some #[.iface tp p]
theorem NumW.down {w w' : World} (h : NumW w) (hb : Below w.heap.size w w') : NumW w' := by
  obtain ⟨a, b, c⟩ := h.syn
  obtain ⟨a', b', c'⟩ := h.ran
  exact ⟨Lib.TabBelow.here ((Lib.tabBelow_of_tabIs h.tab).on hb), ⟨a, b, var_below c hb⟩, ⟨a', b', var_below c' hb⟩⟩

-- the program's numbers
theorem dec (n : Int) (h : I64 n) (w : World) (hw : NumW w) : Calls Tryd.prog 13 #[.int .i64 n] w fun e w' => e = .returned (.string (decS n)) ∧ Below w.heap.size w w' := by
  have H : Hid (Calls Tryd.prog 25 #[.int .i64 n] w fun e w' => e = .returned (.string (decS n)) ∧ Below w.heap.size w w') := by
    have := Any.strconv_Itoa laysM171 n h.1 h.2 w hw.tab
    refine this.mono ?_
    rintro e w' ⟨rfl, k, os, rfl⟩
    exact ⟨by rw [itoa_dec], below_grow w k os⟩
  go_enter Tryd.func13, Tryd.ntmps13
  go_wp2_with fail
  refine H.out.mono ?_
  rintro e w1 ⟨rfl, hb⟩
  have B : Hid (Below w.heap.size w w1) := hb
  clear hb
  go_wp2
  go_ret
  exact ⟨rfl, B.out⟩
theorem atoi (s : ByteArray) (hs : s.size ≤ 281474976710656) (w : World) (hw : NumW w) : Calls Tryd.prog 43 #[.string s] w fun e w' => ((∃ n, I64 n ∧ Lib.atoiAll s.data.toList = .ok n ∧ e = .returned (.tuple #[.int .i64 n, .nilIface])) ∨ (∃ n T p, I64 n ∧ (∀ m, Lib.atoiAll s.data.toList ≠ .ok m) ∧ e = .returned (.tuple #[.int .i64 n, .iface T (.pointer (some p))]))) ∧ Below w.heap.size w w' := by
  cases h : Lib.atoiAll s.data.toList with
  | ok v =>
    refine (Any.strconv_Atoi_ok laysC172 s (by omega) v h w).mono ?_
    rintro e w' ⟨rfl, hw'⟩
    refine ⟨.inl ⟨v, Lib.atoiAll_bounds h, rfl, rfl⟩, ?_⟩
    rcases hw' with rfl | ⟨t, rfl⟩
    · exact Below.refl _ _
    · exact Lib.bytesWorld_below _ _ _
  | «syntax» =>
    obtain ⟨tp, p, hv⟩ := hw.syn
    refine (Any.strconv_Atoi_syntax_var laysC172 s hs h tp p w hv).mono ?_
    rintro e w' ⟨N, rfl, _, _, hb⟩
    exact ⟨.inr ⟨0, _, _, ⟨by omega, by omega⟩, (fun m hm => by cases hm), rfl⟩, hb⟩
  | range =>
    obtain ⟨tp, p, hv⟩ := hw.ran
    refine (Any.strconv_Atoi_range_var laysC172 s hs h tp p w hv).mono ?_
    rintro e w' ⟨N, rfl, _, _, hb⟩
    exact ⟨.inr ⟨_, _, _, Lib.atoiSat_bounds _, (fun m hm => by cases hm), rfl⟩, hb⟩

open Classical in
noncomputable def unDecV (s : ByteArray) : Value := if ∃ n, I64 n ∧ decS n = s then .tuple #[.int .i64 (unN s), .int .i64 0] else .tuple #[.int .i64 0, .int .i64 42]

set_option maxHeartbeats 800000 in
theorem unDec (s : ByteArray) (hs : s.size ≤ 281474976710656) (w : World) (hw : NumW w) : Calls Tryd.prog 29 #[.string s] w fun e w' => e = .returned (unDecV s) ∧ Below w.heap.size w w' := by
  have A : Hid (Calls _ _ _ _ _) := atoi s hs w hw
  have HW : Hid (NumW w) := hw
  obtain ⟨R, HR⟩ : ∃ R, Hid (unDecV s = R) := ⟨_, rfl⟩
  rw [HR.out]
  clear hw
  go_enter Tryd.func29, Tryd.ntmps29
  go_wp2_with fail
  refine A.out.mono ?_
  rintro e w1 ⟨h | h, hb⟩
  · obtain ⟨n, hn, ha, rfl⟩ := h
    have B : Hid (Below w.heap.size w w1) := hb
    have HN : Hid (I64 n) := hn
    have HA : Hid (Lib.atoiAll s.data.toList = .ok n) := ha
    have D : Hid (Calls _ _ _ _ _) := dec n hn w1 (HW.out.down hb)
    clear hb hn ha A
    by_cases hd : decS n = s
    · have HE : Hid (R = .tuple #[.int .i64 n, .int .i64 0]) := by
        show _ = _
        rw [← HR.out]
        unfold unDecV
        rw [if_pos ⟨n, HN.out, hd⟩, ← hd, unN_dec n HN.out]
      have hq : ((decS n).toList == s.toList) = true := by rw [toList_bs]; exact decide_eq_true hd
      generalize decS n = X at *
      clear hd
      go_wp2_with fail
      refine D.out.mono ?_
      rintro e w2 ⟨rfl, hb⟩
      have B2 : Hid (Below w.heap.size w w2) := over B.out hb
      clear hb
      go_wp2
      go_ret2
      exact ⟨by rw [HE.out]; rfl, B2.out⟩
    · have HE : Hid (R = .tuple #[.int .i64 0, .int .i64 42]) := by
        show _ = _
        rw [← HR.out]
        unfold unDecV
        rw [if_neg]
        rintro ⟨m, hm, rfl⟩
        have := HA.out
        rw [data_dec, atoi_itoa m hm] at this
        injection this with this
        exact hd (by rw [this])
      have hq : ((decS n).toList == s.toList) = false := by rw [toList_bs]; exact decide_eq_false hd
      generalize decS n = X at *
      clear hd
      go_wp2_with fail
      refine D.out.mono ?_
      rintro e w2 ⟨rfl, hb⟩
      have B2 : Hid (Below w.heap.size w w2) := over B.out hb
      clear hb
      go_wp2
      go_ret2
      exact ⟨by rw [HE.out]; rfl, B2.out⟩
  · obtain ⟨n, T, p, hn, ha, rfl⟩ := h
    have B : Hid (Below w.heap.size w w1) := hb
    have HE : Hid (R = .tuple #[.int .i64 0, .int .i64 42]) := by
      show _ = _
      rw [← HR.out]
      unfold unDecV
      rw [if_neg]
      rintro ⟨m, hm, rfl⟩
      exact ha m (by rw [data_dec, atoi_itoa m hm])
    clear hb hn ha A
    go_wp2
    go_ret2
    exact ⟨by rw [HE.out]; rfl, B.out⟩
end Go.Proofs.YtpbapaghcabehaaDoor.wb
