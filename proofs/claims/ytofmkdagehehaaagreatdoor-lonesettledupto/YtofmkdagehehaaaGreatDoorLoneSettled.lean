import Derived.Test.YtofmkdagehehaaaGreatDoorC4
import Derived.Test.YtofmkdagehehaaaGreatDoorA4
import Derived.Test.YtofmkdagehehaaaGreatDoorTie
import Derived.Test.YtofmkdagehehaaaGreatDoorCards
import Derived.ProofKit
import Derived.LaidMore
import Derived.OpenShut
import Derived.ShutString
import Derived.SliceStrings
import Derived.Carry
import Derived.Deep.DeepHandedRow
import Derived.Stop.Joined
import Derived.SevenTiedAt
import Derived.ChangeSlices
import Derived.Deep.MidRow
import Derived.Lib.SmallJoins
namespace Go.Proofs.YtofmkdagehehaaaGreatDoor.loneSettled
open Go.ChangeShapes Go.WideShapes Go.ChangeAt Go.WideMaps Go.WideElems Go.RowKit Go.Joins
open Go.ChangeMaps (open_string shut_string)
open Go.Proofs.YtofmkdagehehaaaGreatDoor.ft
open Go.Proofs.YtofmkdagehehaaaGreatDoor.ka Go.Proofs.YtofmkdagehehaaaGreatDoor.ic
set_option linter.unusedVariables false

theorem laidOut : laidOutB Tryz.prog = true := by kernel_rfl
theorem cells9 : Tryz.prog.cellsOf 9 = 1 := by kernel_rfl
theorem cells3 : Tryz.prog.cellsOf 3 = 1 := by kernel_rfl
theorem cells22 : Tryz.prog.cellsOf 22 = 1 := by kernel_rfl
theorem cells38 : Tryz.prog.cellsOf 38 = 2 := by kernel_rfl
theorem cells59 : Tryz.prog.cellsOf 59 = 7 := by kernel_rfl
theorem bulk_mem {H : Type} (l : List (DataW H)) (d : DataW H) (h : d ∈ l) : Rows.uptoBulk d ≤ Rows.uptoBulkAll l := by
  induction l with
  | nil => cases h
  | cons x l ih =>
    simp only [Rows.uptoBulkAll]
    rcases List.mem_cons.1 h with rfl | h
    · omega
    · have := ih h; omega
theorem bulk_len {H : Type} (l : List (DataW H)) (h : ∀ d ∈ l, 1 ≤ Rows.uptoBulk d) : l.length ≤ Rows.uptoBulkAll l := by
  induction l with
  | nil => exact Nat.zero_le _
  | cons x l ih =>
    have h1 := h x (by simp)
    have h2 := ih (fun d hd => h d (by simp [hd]))
    simp only [Rows.uptoBulkAll, List.length_cons]
    omega
theorem picks {α : Type} {P : Nat → α → Prop} (len : Nat) (h : ∀ i, i < len → ∃ l, P i l) : ∃ bs : List α, bs.length = len ∧ ∀ i l, bs[i]? = some l → P i l := by
  induction len with
  | zero => exact ⟨[], rfl, fun i l h => by simp at h⟩
  | succ n ih =>
    obtain ⟨bs, h1, h2⟩ := ih (fun i hi => h i (by omega))
    obtain ⟨x, hx⟩ := h n (by omega)
    refine ⟨bs ++ [x], by simp [h1], fun i l hl => ?_⟩
    by_cases hi : i < n
    · rw [List.getElem?_append_left (by omega)] at hl
      exact h2 i l hl
    · rw [List.getElem?_append_right (by omega)] at hl
      have hi' : i = n := by have := (List.getElem?_eq_some_iff.1 hl).1; simp at this; omega
      subst hi'
      rw [h1, Nat.sub_self] at hl
      simp at hl
      rw [← hl]
      exact hx
section
variable {H : Type} {enc : TypeId × Value → H} {P : Program} {w : World} {base : Nat} {spare : Nat → Bool} {held : Bool} {t : TypeId} {fuel : Nat} {cs : List Value} {x : DataW H × List MemPlace}
theorem trod2 {f0 f1 : Field} (ht : P.underlying t = some (.struct #[f0, f1])) (h : DataW.trod enc P w base spare held fuel t cs = some x) :
    ∃ y0 y1 n, DataW.trod enc P w base spare held n f0.type ((cs.drop f0.offset).take (P.cellsOf f0.type)) = some y0 ∧ DataW.trod enc P w base spare held n f1.type ((cs.drop f1.offset).take (P.cellsOf f1.type)) = some y1 := by
  obtain ⟨xs, n, _, rfl, hl, hlen, hf⟩ := DataW.trod_struct ht h
  match xs, hlen with
  | [y0, y1], _ => exact ⟨y0, y1, n, by simpa using hf 0 f0 rfl, by simpa using hf 1 f1 rfl⟩
theorem trod6 {f0 f1 f2 f3 f4 f5 : Field} (ht : P.underlying t = some (.struct #[f0, f1, f2, f3, f4, f5])) (h : DataW.trod enc P w base spare held fuel t cs = some x) :
    ∃ y0 y1 y2 y3 y4 y5 n, x.1 = .agg [y0.1, y1.1, y2.1, y3.1, y4.1, y5.1] ∧ DataW.trod enc P w base spare held n f0.type ((cs.drop f0.offset).take (P.cellsOf f0.type)) = some y0 ∧
      DataW.trod enc P w base spare held n f1.type ((cs.drop f1.offset).take (P.cellsOf f1.type)) = some y1 ∧ DataW.trod enc P w base spare held n f2.type ((cs.drop f2.offset).take (P.cellsOf f2.type)) = some y2 ∧
      DataW.trod enc P w base spare held n f3.type ((cs.drop f3.offset).take (P.cellsOf f3.type)) = some y3 ∧ DataW.trod enc P w base spare held n f4.type ((cs.drop f4.offset).take (P.cellsOf f4.type)) = some y4 ∧
      DataW.trod enc P w base spare held n f5.type ((cs.drop f5.offset).take (P.cellsOf f5.type)) = some y5 := by
  obtain ⟨xs, n, _, rfl, hl, hlen, hf⟩ := DataW.trod_struct ht h
  match xs, hlen with
  | [y0, y1, y2, y3, y4, y5], _ => exact ⟨y0, y1, y2, y3, y4, y5, n, by simp, by simpa using hf 0 f0 rfl, by simpa using hf 1 f1 rfl, by simpa using hf 2 f2 rfl, by simpa using hf 3 f3 rfl, by simpa using hf 4 f4 rfl, by simpa using hf 5 f5 rfl⟩
end
theorem open_recs {H : Type} (enc : TypeId × Value → H) (W : World) (a : Option Addr) (len cap : Nat) (d : DataW H) (p : List MemPlace) (h0 : DataW.Trod enc Tryz.prog W 0 (fun _ => true) true 52 (.slice a len cap) d p) :
    ∃ l, ReadsQ W (.slice a len cap) l ∧ l.length ≤ Rows.uptoBulk d ∧ ∀ o ∈ l, o.x.size ≤ Rows.uptoBulk d ∧ o.sp ≤ 9223372036854775807 ∧ o.I ≤ 9223372036854775807 := by
  obtain ⟨fuel, hf⟩ := h0
  rcases DataW.trod_slice Tryz.underlying52 hf with ⟨hcs, hx⟩ | ⟨a', len', cap', elems, rest, n, _, hcs, hx, hb, hl, hm, hlen, hel, hsp, hns⟩
  · simp [Value.cells] at hcs
    obtain ⟨rfl, rfl, rfl⟩ := hcs
    exact ⟨[], ⟨none, 0, rfl, .inl rfl⟩, Nat.zero_le _, fun o h => by cases h⟩
  · simp [Value.cells] at hcs
    obtain ⟨rfl, rfl, rfl⟩ := hcs
    simp only [Prod.mk.injEq] at hx
    obtain ⟨rfl, _⟩ := hx
    obtain ⟨l, hbl, hbs⟩ := picks (P := fun i (o : Opq) => ∃ y, elems[i]? = some y ∧ (W.cell? (a'.add (i * 7)) = some (.int .i64 o.kind) ∧ W.cell? ((a'.add (i * 7)).add 1) = some (.slice o.la o.ln o.lc) ∧ W.cell? ((a'.add (i * 7)).add 2) = some (.int .i64 o.n) ∧ W.cell? ((a'.add (i * 7)).add 3) = some (.int .i64 o.L) ∧ W.cell? ((a'.add (i * 7)).add 4) = some (.int .i64 o.I) ∧ W.cell? ((a'.add (i * 7)).add 5) = some (.int .i64 o.sp) ∧ W.cell? ((a'.add (i * 7)).add 6) = some (.string o.x)) ∧ o.x.size + 1 ≤ Rows.uptoBulk y.1 ∧ o.sp ≤ 9223372036854775807 ∧ o.I ≤ 9223372036854775807) len (fun i hi => by
      have h1 := hel i hi
      obtain ⟨y, hy⟩ : ∃ y, elems[i]? = some y := ⟨elems[i]'(by omega), List.getElem?_eq_getElem _⟩
      rw [hy, cells59, Option.bind_eq_some_iff] at h1
      obtain ⟨cs', hc1, hc2⟩ := h1
      obtain ⟨_, hlen', hc⟩ := World.cells?_some hc1
      obtain ⟨y0, y1, y2, y3, y4, y5, n', hx', k0, k1, k2, k3, k4, k5⟩ := trod6 Tryz.underlying59 hc2
      simp only [cells22, cells3, cells9, cells38] at k0 k1 k2 k3 k4 k5
      obtain ⟨z0, z1, n2, m0, m1⟩ := trod2 Tryz.underlying38 k3
      simp only [cells3] at m0 m1
      obtain ⟨kd, e0, _, _⟩ := DataW.trod_int Tryz.underlying3 k0
      obtain ⟨nn, e2, _, _⟩ := DataW.trod_int Tryz.underlying3 k2
      obtain ⟨LL, e3, _, _⟩ := DataW.trod_int Tryz.underlying3 m0
      obtain ⟨II, e4, _, wI⟩ := DataW.trod_int Tryz.underlying3 m1
      obtain ⟨sp, e5, _, wS⟩ := DataW.trod_int Tryz.underlying3 k4
      obtain ⟨tx, e6, r6, _⟩ := DataW.trod_string Tryz.underlying9 k5
      obtain ⟨a2, l2, c2, e1⟩ : ∃ a2 l2 c2, (cs'.drop 1).take 1 = [.slice a2 l2 c2] := by
        rcases DataW.trod_slice Tryz.underlying22 k1 with ⟨h2, _⟩ | ⟨a2, l2, c2, _, _, _, _, h2, _⟩
        · exact ⟨_, _, _, h2⟩
        · exact ⟨_, _, _, h2⟩
      have g0 : cs'[0]? = some (.int .i64 kd) := by have := congrArg (·[0]?) e0; simpa using this
      have g1 : cs'[1]? = some (.slice a2 l2 c2) := by have := congrArg (·[0]?) e1; simpa using this
      have g2 : cs'[2]? = some (.int .i64 nn) := by have := congrArg (·[0]?) e2; simpa using this
      have g3 : cs'[3]? = some (.int .i64 LL) := by have := congrArg (·[0]?) e3; simpa using this
      have g4 : cs'[4]? = some (.int .i64 II) := by have := congrArg (·[0]?) e4; simpa using this
      have g5 : cs'[5]? = some (.int .i64 sp) := by have := congrArg (·[0]?) e5; simpa using this
      have g6 : cs'[6]? = some (.string tx) := by have := congrArg (·[0]?) e6; simpa using this
      have q0 := hc 0 (by omega)
      have q1 := hc 1 (by omega)
      have q2 := hc 2 (by omega)
      have q3 := hc 3 (by omega)
      have q4 := hc 4 (by omega)
      have q5 := hc 5 (by omega)
      have q6 := hc 6 (by omega)
      have ez : (a'.add (i * 7)).add 0 = a'.add (i * 7) := by simp [Addr.add]
      rw [ez] at q0
      refine ⟨⟨kd, a2, l2, c2, nn, LL, II, sp, tx⟩, y, hy, ⟨q0.trans g0, q1.trans g1, q2.trans g2, q3.trans g3, q4.trans g4, q5.trans g5, q6.trans g6⟩, ?_, (bounds_i64 wS).2, (bounds_i64 wI).2⟩
      rw [hx', r6]
      simp only [Rows.uptoBulk, Rows.uptoBulkAll]
      have e7 : tx.data.toList.length = tx.size := Array.length_toList
      omega)
    have hall : elems.length ≤ Rows.uptoBulkAll (elems.map (·.1)) := by
      have := bulk_len (elems.map (·.1)) (fun d hd => by
        obtain ⟨y, hy, rfl⟩ := List.mem_map.1 hd
        obtain ⟨i, hi⟩ := List.getElem?_of_mem hy
        have hil : i < l.length := by have := (List.getElem?_eq_some_iff.1 hi).1; omega
        obtain ⟨y', hy', _, h3, _⟩ := hbs i (l[i]'hil) (List.getElem?_eq_getElem hil)
        rw [hi] at hy'
        rw [Option.some.inj hy']
        omega)
      rw [List.length_map] at this
      exact this
    refine ⟨l, ⟨some a', cap, by rw [hbl], ?_⟩, ?_, fun o ho => ?_⟩
    · by_cases hl0 : len = 0
      · exact .inl (by rw [hbl]; exact hl0)
      · right
        obtain ⟨b, off, spot⟩ := a'
        have hspot : spot = none := by
          obtain ⟨y, _, ⟨hc, _⟩, _⟩ := hbs 0 (l[0]'(by omega)) (List.getElem?_eq_getElem _)
          simpa [Addr.add] using World.cell?_spot hc
        subst hspot
        refine ⟨b, off, rfl, fun i o hil => ?_⟩
        obtain ⟨y, _, ⟨c0, c1, c2, c3, c4, c5, c6⟩, _⟩ := hbs i o hil
        simp only [Addr.add_mid] at c0 c1 c2 c3 c4 c5 c6
        exact ⟨c0, c1, c2, c3, c4, c5, c6⟩
    · simp only [Rows.uptoBulk]
      omega
    · obtain ⟨i, hi⟩ := List.getElem?_of_mem ho
      obtain ⟨y, hy, _, h3, h4, h5⟩ := hbs i o hi
      have := bulk_mem (elems.map (·.1)) y.1 (List.mem_map.2 ⟨y, List.mem_of_getElem? hy, rfl⟩)
      simp only [Rows.uptoBulk]
      exact ⟨by omega, h4, h5⟩

set_option maxRecDepth 100000 in
theorem contract (H : Type) (enc : TypeId × Value → H) (W : World) (base : Nat) (args : Array Value) (ds gs : List (DataW H)) (before : List MemPlace)
    (hval : ∀ (j : Nat) t v, Tryz.f6.params[j]? = some t → args[j]? = some v → Value.okWide Tryz.prog W .any base t v)
    (hW : DataW.Whole enc Tryz.prog Tryz.f6.params.toList Rows.loneSettledSpec.vars false W args.toList ds gs before) (hsm : Rows.uptoSmall H (ds ++ gs) = true) (hL : laidMetH Tryz.prog laid2 W) :
    Calls Tryz.prog 6 args W fun e W' => ∃ v, e = .returned v ∧ Rows.loneSettledSpec.post enc Tryz.prog Tryz.f6 false true false false W args v W' := by
  have tabs := of_laid2 hL
  have hW' := hW
  obtain ⟨p, q, hA0, hV, rfl, hfz, hnd⟩ := hW
  have hA : DataW.TrodAll enc Tryz.prog W 0 (fun _ => true) true Tryz.f6.params.toList args.toList ds p := hA0
  rw [Tryz.params6] at hA hval
  obtain ⟨v0, vs0, d0, ds0, p0, q0, hargs0, rfl, rfl, h0, r0⟩ := trodAll_cons hA
  obtain ⟨v1, vs1, d1, ds1, p1, q1, rfl, rfl, rfl, h1, r1⟩ := trodAll_cons r0
  obtain ⟨v2, vs2, d2, ds2, p2, q2, rfl, rfl, rfl, h2, r2⟩ := trodAll_cons r1
  obtain ⟨rfl, rfl, rfl⟩ := trodAll_nil r2
  obtain rfl : args = #[v0, v1, v2] := by cases args; simp_all
  obtain ⟨rfl, rfl⟩ := trodVars_none hV
  obtain ⟨a0, rfl, rfl, rfl, w0⟩ := open_int Tryz.underlying3 (hval 0 3 v0 rfl rfl) h0
  obtain ⟨a1, len1, cap1, rfl⟩ := okWide_slice Tryz.underlying52 (hval 1 52 v1 rfl rfl)
  obtain ⟨xs1, hr1, hz1, hb1⟩ := open_recs enc W a1 len1 cap1 d1 p1 h1
  obtain ⟨a2, rfl, rfl, rfl, w2⟩ := open_string Tryz.underlying9 (hval 2 9 v2 rfl rfl) h2
  have hsum : Rows.uptoBulk d1 + a2.size ≤ 1048576 := by
    have h : Rows.uptoBulkAll ([.lit (.int .i64 a0), d1, .lit (.string a2.data.toList)] ++ []) ≤ 1048576 := of_decide_eq_true hsm
    simp only [List.append_nil, Rows.uptoBulkAll, Rows.uptoBulk] at h
    have e2 : a2.data.toList.length = a2.size := Array.length_toList
    omega
  clear hA0 hsm
  simp only [List.append_nil] at hW'
  have hlt1 : ∀ x ∈ p1, x.block < W.heap.size := fun x hx => by simpa using hW'.lt x (by simp [hx])
  have hargs1k : ∀ (W' : World), Below W.heap.size W W' → DataW.Trod enc Tryz.prog W' 0 (fun b => decide (b < W.heap.size)) true 52 (.slice a1 len1 cap1) d1 p1 :=
    fun W' hn => Below.trod laidOut (by kernel_rfl) (of_decide_eq_true (by kernel_rfl)) h1 hn hlt1
  refine (Go.Proofs.YtofmkdagehehaaaGreatDoor.ws.settled_walk W a0 w0 (.slice a1 len1 cap1) xs1 hr1 (by omega) (fun o ho => by obtain ⟨h1, h2, h3⟩ := hb1 o ho; exact ⟨by omega, h2, h3⟩) a2 (by omega) tabs).mono fun e W' ⟨he, hnx⟩ => ?_
  subst he
  have hA2 : DataW.TrodAll enc Tryz.prog W' 0 (fun b => decide (b < W.heap.size)) true [3, 52, 9] [.int .i64 a0, .slice a1 len1 cap1, .string a2] [.lit (.int .i64 a0), d1, .lit (.string a2.data.toList)] (p1) := by simpa using (trodAll_cons_mk (shut_int Tryz.underlying3 w0) (trodAll_cons_mk (hargs1k _ hnx) (trodAll_cons_mk (shut_string Tryz.underlying9 w2) trodAll_mk0)))
  exact ⟨_, rfl, _, _, _, [], p1, [], hW', trodAll_cons_mk (shut_bool Tryz.underlying4 _) trodAll_mk0, hA2, rfl, hnx.frame _, fun h => by cases h⟩

theorem laid_met (os : Os) : laidMet Tryz.prog Rows.loneSettledUptoRow.laid ((World.doorLaid Tryz.prog 400 os).forCall (fun _ _ => 0) ⟨#[], #[.int .i64 0, .slice none 0 0, .string ByteArray.empty], []⟩).memory :=
  laidMet_of_run' 8 (by kernel_rfl) (by kernel_rfl)
theorem reads (os : Os) {H : Type} (enc : TypeId × Value → H) : ∃ places, DataW.whole enc Tryz.prog ((World.doorLaid Tryz.prog 400 os).forCall (fun _ _ => 0) ⟨#[], #[.int .i64 0, .slice none 0 0, .string ByteArray.empty], []⟩).memory Tryz.f6.params.toList Rows.loneSettledSpec.vars false #[Value.int .i64 0, Value.slice none 0 0, Value.string ByteArray.empty].toList 8 = some ([.lit (.int .i64 0), .nil, .lit (.string [])], [], places) :=
  ⟨[], by kernel_rfl⟩

set_option maxRecDepth 100000 in
theorem liftedUpto (os : Os) (started : os.Started) (H : Type) (enc : TypeId × Value → H) (F : Stop.Interp) :
    ReturnsInHanded {} Tryz.checked os 6 .any ((Rows.OpenSpec.upto Rows.loneSettledSpec).preRow enc Tryz.prog Tryz.f6 Rows.loneSettledUptoRow.domain false Rows.loneSettledUptoRow.laid) (((Rows.OpenSpec.upto Rows.loneSettledSpec).at F).post enc Tryz.prog Tryz.f6 false true false false) := by
  obtain ⟨places, hx⟩ := reads os enc
  refine returnsInHanded_of_row (C := Tryz.checked) (s := Rows.OpenSpec.upto Rows.loneSettledSpec) own started (by kernel_rfl) Tryz.func6
    (witness_row_at (enc := enc) (C := Tryz.checked) false (World.doorLaid Tryz.prog 400 os) #[.int .i64 0, .slice none 0 0, .string ByteArray.empty] rfl (by kernel_rfl) (by kernel_rfl) (by kernel_rfl)
      (OpenSpec.preRow_of_cond 8 hx (by kernel_rfl) (fun k hk => by cases hk; kernel_rfl) (by kernel_rfl) (laid_met os))) ?_
  intro W base args ds gs before hval hW _ hcond _ hL _ _
  exact contract H enc W base args ds gs before hval hW (hcond _ rfl) hL

theorem saidUpto : Rows.LoneSettledUptoSaid :=
  OpenClaim.holds_of_cond 6 Tryz.f6 rfl rfl rfl rfl rfl rfl rfl ⟨rfl, rfl, rfl, rfl, rfl⟩ rfl rfl rfl rfl rfl (by kernel_rfl) Tryz.func6 (by kernel_rfl)
    (of_decide_eq_true (by kernel_rfl)) (by unfold Func.isWrapper; first | (rw [if_pos (by decide +kernel)]; kernel_rfl) | (rw [if_neg (by decide +kernel)]; exact ⟨rfl, rfl⟩))
    (fun os started H enc _ F => by rw [OpenClaim.pre_eq_preRow]; exact liftedUpto os started H enc F)

theorem plain (f : FuncId) (fn : Func) (hf : Tryz.pinned.checked.prog.funcNamed "annals/annalslaw15.LoneSettled" = some f) (hfn : Tryz.pinned.checked.prog.funcs[f]? = some fn) :
    true = Tryz.pinned.checked.prog.looks [] ∧ ∀ (j : Nat) t, fn.params[j]? = some t → Tryz.pinned.checked.prog.wantsStandIn t = false := by
  obtain rfl : f = 6 := Option.some.inj ((show Tryz.prog.funcNamed "annals/annalslaw15.LoneSettled" = some 6 by kernel_rfl).symm.trans hf) |>.symm
  obtain rfl : fn = Tryz.f6 := (Option.some.inj (Tryz.func6.symm.trans hfn)).symm
  refine ⟨by kernel_rfl, fun j t ht => ?_⟩
  rw [Tryz.params6] at ht
  have hm : t ∈ ([3, 52, 9] : List TypeId) := by simpa using Array.mem_of_getElem? ht
  have hall : (([3, 52, 9] : List TypeId).all fun u => !Tryz.prog.wantsStandIn u) = true := by kernel_rfl
  exact (show Tryz.prog.wantsStandIn t = false by simpa using List.all_eq_true.1 hall t hm)

theorem card_holds : Rows.LoneSettledUptoCardSaid :=
  Claim7.holds_tied_plain_at .later [] _ _ _ _ saidUpto (fun _ h => by cases h) (by kernel_rfl) (fun _ h => by cases h) loneSettledUpto_row_tie rfl ⟨rfl, rfl⟩ (by kernel_rfl) rfl plain (by kernel_rfl)
end Go.Proofs.YtofmkdagehehaaaGreatDoor.loneSettled
namespace Go.Proofs.YtofmkdagehehaaaGreatDoor
theorem loneSettled_holds : Rows.LoneSettledUptoCardSaid := loneSettled.card_holds
#print axioms loneSettled_holds
end Go.Proofs.YtofmkdagehehaaaGreatDoor
