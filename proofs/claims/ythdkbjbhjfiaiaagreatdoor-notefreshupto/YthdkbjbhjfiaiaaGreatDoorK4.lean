import Derived.Test.YthdkbjbhjfiaiaaGreatDoorH1
import Derived.Test.YthdkbjbhjfiaiaaGreatDoorSh
import Derived.Test.YthdkbjbhjfiaiaaGreatDoorTk
import Derived.RegionTactic
import Derived.Deep.DeepCutAuto
import Derived.PlainAid
import Derived.Lib.LastIndexByte
namespace Go.Proofs.YthdkbjbhjfiaiaaGreatDoor.q1
open Go.RowKit Go.PlainAid Go.Shelf
open Go.Proofs.YthdkbjbhjfiaiaaGreatDoor.tb Go.Proofs.YthdkbjbhjfiaiaaGreatDoor.tc Go.Proofs.YthdkbjbhjfiaiaaGreatDoor.tj Go.Proofs.YthdkbjbhjfiaiaaGreatDoor.tk Go.Proofs.YthdkbjbhjfiaiaaGreatDoor.n3 Go.Proofs.YthdkbjbhjfiaiaaGreatDoor.o1 Go.Proofs.YthdkbjbhjfiaiaaGreatDoor.o4 Go.Proofs.YthdkbjbhjfiaiaaGreatDoor.o5 Go.Proofs.YthdkbjbhjfiaiaaGreatDoor.o6 Go.Proofs.YthdkbjbhjfiaiaaGreatDoor.sh Go.Proofs.YthdkbjbhjfiaiaaGreatDoor.kp
set_option linter.unusedVariables false
set_option maxRecDepth 4000

-- the first blank
def ixF32 (s : ByteArray) : Nat → Nat → Option Nat
  | _, 0 => none
  | k, f + 1 => if bt s k = 32 then some k else ixF32 s (k + 1) f
def ix32 (s : ByteArray) : Option Nat := ixF32 s 0 s.size
theorem ix_some (s : ByteArray) (i : Nat) : ∀ f k, k ≤ i → i < k + f → bt s i = 32 → (∀ j, k ≤ j → j < i → bt s j ≠ 32) → ixF32 s k f = some i
  | 0, k, h1, h2, _, _ => by omega
  | f + 1, k, h1, h2, h3, h4 => by
    unfold ixF32
    by_cases e : k = i
    · subst e; rw [if_pos h3]
    · rw [if_neg (h4 k (Nat.le_refl _) (by omega)), ix_some s i f (k + 1) (by omega) (by omega) h3 (fun j a b => h4 j (by omega) b)]
theorem ix_none (s : ByteArray) : ∀ f k, (∀ j, k ≤ j → j < k + f → bt s j ≠ 32) → ixF32 s k f = none
  | 0, k, _ => rfl
  | f + 1, k, h => by
    unfold ixF32
    rw [if_neg (h k (Nat.le_refl _) (by omega)), ix_none s f (k + 1) (fun j a b => h j (by omega) (by omega))]
theorem ix_at (s : ByteArray) (i : Nat) (h : i < s.size) (h3 : bt s i = 32) (h4 : ∀ j, j < i → bt s j ≠ 32) : ix32 s = some i := ix_some s i s.size 0 (by omega) (by omega) h3 (fun j _ b => h4 j b)
theorem ix_no (s : ByteArray) (h : ∀ j, j < s.size → bt s j ≠ 32) : ix32 s = none := ix_none s s.size 0 (fun j _ b => h j (by omega))
theorem ix_inv (s : ByteArray) : ∀ f k i, ixF32 s k f = some i → k ≤ i ∧ i < k + f ∧ bt s i = 32 ∧ ∀ j, k ≤ j → j < i → bt s j ≠ 32
  | 0, k, i, h => by cases h
  | f + 1, k, i, h => by
    unfold ixF32 at h
    by_cases e : bt s k = 32
    · rw [if_pos e] at h
      obtain rfl := Option.some.inj h
      exact ⟨Nat.le_refl _, by omega, e, fun j a b => by omega⟩
    · rw [if_neg e] at h
      obtain ⟨h1, h2, h3, h4⟩ := ix_inv s f (k + 1) i h
      refine ⟨by omega, by omega, h3, fun j a b => ?_⟩
      by_cases ej : j = k
      · subst ej; exact e
      · exact h4 j (by omega) b
theorem lib_ix (s : ByteArray) : (Lib.indexByte s.data.toList 32 = -1 ∧ ix32 s = none) ∨ ∃ o : Nat, Lib.indexByte s.data.toList 32 = o ∧ o < s.size ∧ ix32 s = some o := by
  have hsz : s.data.toList.length = s.size := Array.length_toList
  have hb : ∀ j (hj : j < s.size), bt s j = 32 ↔ s.data.toList[j]? = some 32 := by
    intro j hj
    rw [← get_bt s j hj, List.getElem?_eq_getElem (by rw [hsz]; exact hj)]
    have e : (s.data.toList[j]'(by rw [hsz]; exact hj)) = s[j]'hj := rfl
    rw [e]
    constructor
    · intro h
      exact congrArg some (UInt8.toNat_inj.1 (by show _ = 32; omega))
    · intro h
      rw [Option.some.inj h]; rfl
  rcases (by have := Lib.indexByte_ge s.data.toList 32; omega : Lib.indexByte s.data.toList 32 = -1 ∨ 0 ≤ Lib.indexByte s.data.toList 32) with h | h
  · exact .inl ⟨h, ix_no s (fun j hj e => Lib.indexByte_none h j ((hb j hj).1 e))⟩
  · obtain ⟨o, ho⟩ := Int.eq_ofNat_of_zero_le h
    obtain ⟨h1, h2⟩ := Lib.indexByte_some ho
    have hlt : o < s.size := by have := (List.getElem?_eq_some_iff.1 h1).1; omega
    exact .inr ⟨o, ho, hlt, ix_at s o hlt ((hb o hlt).2 h1) (fun j hj e => h2 j hj ((hb j (by omega)).1 e))⟩
-- strings.Cut at a blank
def cutB (s : ByteArray) : ByteArray × ByteArray × Bool := match ix32 s with
  | none => (s, ByteArray.empty, false)
  | some i => (s.extract 0 i, s.extract (i + 1) s.size, true)
set_option maxHeartbeats 800000 in
theorem lCutC (s : ByteArray) (hs : s.size ≤ 281474976710656) (w : World) :
    Calls Tryz.prog 102 #[.string s, .string ⟨#[32]⟩] w fun e w' => e = .returned (.tuple #[.string (cutB s).1, .string (cutB s).2.1, .bool (cutB s).2.2]) ∧ Below w.heap.size w w' := by
  have C : Hid (Calls _ _ _ _ _) := Any.stringslite_Index_one lays219 s 32 w
  rcases lib_ix s with ⟨h1, h2⟩ | ⟨o, h1, h2, h3⟩
  · have e : cutB s = (s, ByteArray.empty, false) := by unfold cutB; rw [h2]
    rw [h1] at C
    rw [e]
    clear e h1 h2
    go_enter Tryz.func102, Tryz.ntmps102
    go_wp2_with fail
    refine C.out.mono ?_
    rintro e w1 ⟨rfl, rfl⟩
    go_wp2
    go_ret3
    exact ⟨rfl, Below.refl _ _⟩
  · have e : cutB s = (s.extract 0 o, s.extract (o + 1) s.size, true) := by unfold cutB; rw [h3]
    rw [h1] at C
    rw [e]
    clear e h1 h3
    have g1 : (0 : Int) ≤ (o : Int) := by omega
    have g2 : (o : Int) ≤ (s.size : Int) := by omega
    have g3 : (o : Int) + 1 ≤ (s.size : Int) := by omega
    have g4 : ((o : Int) + 1).toNat = o + 1 := by omega
    have g5 : (0 : Int) ≤ (o : Int) + 1 := by omega
    go_enter Tryz.func102, Tryz.ntmps102
    go_wp2_with fail
    refine C.out.mono ?_
    rintro e w1 ⟨rfl, rfl⟩
    go_wp2_with fail
    go_region
    all_goals (
      go_wp2
      go_ret3
      exact ⟨rfl, below_dr (Below.refl _ _)⟩)
set_option maxHeartbeats 800000 in
theorem cutC (s : ByteArray) (hs : s.size ≤ 281474976710656) (w : World) :
    Calls Tryz.prog 73 #[.string s, .string ⟨#[32]⟩] w fun e w' => e = .returned (.tuple #[.string (cutB s).1, .string (cutB s).2.1, .bool (cutB s).2.2]) ∧ Below w.heap.size w w' := by
  have C : Hid (Calls _ _ _ _ _) := lCutC s hs w
  generalize (cutB s).1 = a at *
  generalize (cutB s).2.1 = b at *
  generalize (cutB s).2.2 = c at *
  go_enter Tryz.func73, Tryz.ntmps73
  go_wp2_with fail
  refine C.out.mono ?_
  rintro e w1 ⟨rfl, hb⟩
  have HB : Hid (Below w.heap.size w w1) := hb
  clear hb
  go_wp2
  go_ret3
  exact ⟨rfl, HB.out⟩
-- strings.CutPrefix of the dash
def DS : ByteArray := ⟨#[226, 128, 148, 32]⟩
def opn (t : ByteArray) : Bool := decide (t.extract 0 4 = DS)
def rst (t : ByteArray) : ByteArray := if opn t = true then t.extract 4 t.size else t
set_option maxHeartbeats 800000 in
theorem lHasD (t : ByteArray) (hs : t.size ≤ 281474976710656) (w : World) :
    Calls Tryz.prog 126 #[.string t, .string ⟨#[226, 128, 148, 32]⟩] w fun e w' => e = .returned (.bool (opn t)) ∧ w' = w := by
  have h3 : (⟨#[226, 128, 148, 32]⟩ : ByteArray).size = 4 := rfl
  by_cases h : 4 ≤ t.size
  · have hge : ((t.size : Int) ≥ 4) := by omega
    have hge2 : ((4 : Int) ≤ (t.size : Int)) := by omega
    have HB : Hid (((t.extract 0 4).toList == [226, 128, 148, 32]) = opn t) := by show _ = _; rw [toList_lit]; rfl
    generalize opn t = b at *
    go_enter Tryz.func126, Tryz.ntmps126
    go_wp2
    go_ret
    exact ⟨congrArg (fun b => Ending.returned (.bool b)) HB.out, rfl⟩
  · have hge : ¬ ((t.size : Int) ≥ 4) := by omega
    have hge2 : ¬ ((4 : Int) ≤ (t.size : Int)) := by omega
    have HB : Hid (opn t = false) := by
      show _ = _
      refine decide_eq_false (fun e => ?_)
      have := congrArg ByteArray.size e
      rw [ByteArray.size_extract] at this
      have h4 : DS.size = 4 := rfl
      omega
    rw [HB.out]
    go_enter Tryz.func126, Tryz.ntmps126
    go_wp2
    go_ret
    exact ⟨rfl, rfl⟩
theorem opn_size (t : ByteArray) (h : opn t = true) : 4 ≤ t.size := by
  have e := of_decide_eq_true h
  have := congrArg ByteArray.size e
  rw [ByteArray.size_extract] at this
  have h4 : DS.size = 4 := rfl
  omega
set_option maxHeartbeats 800000 in
theorem lCutPC (t : ByteArray) (hs : t.size ≤ 281474976710656) (w : World) :
    Calls Tryz.prog 101 #[.string t, .string ⟨#[226, 128, 148, 32]⟩] w fun e w' => e = .returned (.tuple #[.string (rst t), .bool (opn t)]) ∧ w' = w := by
  have C : Hid (Calls _ _ _ _ _) := lHasD t hs w
  have hz := opn_size t
  cases ho : opn t
  · have er : rst t = t := by unfold rst; rw [ho]; rfl
    rw [ho] at C
    rw [er]
    clear er hz ho
    go_enter Tryz.func101, Tryz.ntmps101
    go_wp2_with fail
    refine C.out.mono ?_
    rintro e w1 ⟨rfl, rfl⟩
    go_wp2
    go_ret2
    exact ⟨rfl, rfl⟩
  · have er : rst t = t.extract 4 t.size := by unfold rst; rw [ho]; rfl
    have h4 := hz ho
    have h4' : (4 : Int) ≤ (t.size : Int) := by omega
    rw [ho] at C
    rw [er]
    clear er hz ho
    go_enter Tryz.func101, Tryz.ntmps101
    go_wp2_with fail
    refine C.out.mono ?_
    rintro e w1 ⟨rfl, rfl⟩
    go_wp2
    go_ret2
    exact ⟨rfl, rfl⟩
set_option maxHeartbeats 800000 in
theorem cutPC (t : ByteArray) (hs : t.size ≤ 281474976710656) (w : World) :
    Calls Tryz.prog 72 #[.string t, .string ⟨#[226, 128, 148, 32]⟩] w fun e w' => e = .returned (.tuple #[.string (rst t), .bool (opn t)]) ∧ w' = w := by
  have C : Hid (Calls _ _ _ _ _) := lCutPC t hs w
  generalize rst t = a at *
  generalize opn t = b at *
  go_enter Tryz.func72, Tryz.ntmps72
  go_wp2_with fail
  refine C.out.mono ?_
  rintro e w1 ⟨rfl, rfl⟩
  go_wp2
  go_ret2
  exact ⟨rfl, rfl⟩
-- what a line says
open Classical in
noncomputable def sgOf (name code : ByteArray) : Option Sg := if nm name = true ∧ Acc64 (bs code) ∧ (cutL (bs code)).length = 36 then some ⟨name, (str (cutL (bs code))).extract 0 4, (str (cutL (bs code))).extract 4 36⟩ else none
noncomputable def sigP (l : ByteArray) : Option Sg := if opn l = true then (match ix32 (rst l) with | none => none | some i => sgOf ((rst l).extract 0 i) ((rst l).extract (i + 1) (rst l).size)) else none
def sigV : Option Sg → Value
  | none => .tuple #[.agg #[.string ⟨#[]⟩, .string ⟨#[]⟩, .string ⟨#[]⟩], .bool false]
  | some g => .tuple #[.agg #[.string g.name, .string g.id, .string g.mac], .bool true]
theorem sigP_cut (l : ByteArray) : sigP l = if opn l = true ∧ (cutB (rst l)).2.2 = true then sgOf (cutB (rst l)).1 (cutB (rst l)).2.1 else none := by
  unfold sigP cutB
  cases h : ix32 (rst l) with
  | none => by_cases ho : opn l = true <;> simp [ho]
  | some i => by_cases ho : opn l = true <;> simp [ho]
theorem rst_size (l : ByteArray) : (rst l).size ≤ l.size := by
  unfold rst
  split
  · rw [ByteArray.size_extract]; omega
  · exact Nat.le_refl _
theorem cutB_size (s : ByteArray) : (cutB s).1.size ≤ s.size ∧ (cutB s).2.1.size ≤ s.size := by
  unfold cutB
  split
  · exact ⟨Nat.le_refl _, Nat.zero_le _⟩
  · constructor
    · show (s.extract 0 _).size ≤ _
      rw [ByteArray.size_extract]; omega
    · show (s.extract _ s.size).size ≤ _
      rw [ByteArray.size_extract]; omega
theorem zero_sig (W : World) : (Instr.build 43 #[]).run Tryz.prog W = .ok (.agg #[.string ⟨#[]⟩, .string ⟨#[]⟩, .string ⟨#[]⟩]) W := by kernel_rfl
set_option maxHeartbeats 1600000 in
theorem readSigC (l : ByteArray) (hs : l.size ≤ 1000000) (w : World) :
    Calls Tryz.prog 43 #[.string l] w fun e w' => e = .returned (sigV (sigP l)) ∧ Below w.heap.size w w' := by
  have z1 := rst_size l
  have z2 := cutB_size (rst l)
  have C1 : Hid (∀ w, Calls _ _ _ _ _) := fun w => cutPC l (by omega) w
  have C2 : Hid (∀ w, Calls _ _ _ _ _) := fun w => cutC (rst l) (by omega) w
  have C3 : Hid (∀ w, Calls _ _ _ _ _) := fun w => name (cutB (rst l)).1 (by omega) w
  have C4 : Hid (∀ w, Calls _ _ _ _ _) := fun w => unb64 (cutB (rst l)).2.1 (by omega) w
  have HP : Hid (sigP l = if opn l = true ∧ (cutB (rst l)).2.2 = true then sgOf (cutB (rst l)).1 (cutB (rst l)).2.1 else none) := sigP_cut l
  generalize sigP l = X at *
  generalize opn l = o at *
  generalize rst l = r at *
  generalize (cutB r).2.2 = p at *
  generalize (cutB r).1 = nn at *
  generalize (cutB r).2.1 = cc at *
  have BA : Hid (Below w.heap.size w (w.alloc (.cells #[.string ⟨#[]⟩, .string ⟨#[]⟩, .string ⟨#[]⟩] 43))) := (Below.refl _ _).alloc (Nat.le_refl _) _
  obtain ⟨W, HW⟩ : ∃ W, Hid (w.alloc (.cells #[.string ⟨#[]⟩, .string ⟨#[]⟩, .string ⟨#[]⟩] 43) = W) := ⟨_, rfl⟩
  have zW : W.heap.size = w.heap.size + 1 := by rw [← HW.out]; simp
  have HBK : Hid (W.heap[w.heap.size]? = some (.cells #[.string ⟨#[]⟩, .string ⟨#[]⟩, .string ⟨#[]⟩] 43 (0, 0))) := by rw [← HW.out]; exact heap_alloc_new w _
  rw [HW.out] at BA
  by_cases hop : o = true ∧ p = true ∧ nm nn = true
  · obtain ⟨rfl, rfl, hn⟩ := hop
    rw [hn] at C3
    have HQ : Hid (X = sgOf nn cc) := by show _ = _; rw [HP.out, if_pos ⟨rfl, rfl⟩]
    by_cases ha : Acc64 (bs cc)
    · have hv : un64V cc = .tuple #[.string (str (cutL (bs cc))), .int .i64 0] := by unfold un64V; rw [if_pos ha]; rfl
      rw [hv] at C4
      have hzb : (str (cutL (bs cc))).size = (cutL (bs cc)).length := str_size _
      by_cases h36 : (cutL (bs cc)).length = 36
      · have HX : Hid (X = some ⟨nn, (str (cutL (bs cc))).extract 0 4, (str (cutL (bs cc))).extract 4 36⟩) := by show _ = _; rw [HQ.out]; unfold sgOf; rw [if_pos ⟨hn, ha, h36⟩]
        have hzz : (str (cutL (bs cc))).size = 36 := by rw [hzb, h36]
        generalize str (cutL (bs cc)) = B at *
        rw [HX.out]
        have HBZ : Hid (B.extract 4 B.size = B.extract 4 36) := by show _ = _; rw [hzz]
        have g1 : (4 : Int) ≤ (B.size : Int) := by omega
        have g2 : ((B.size : Int) == 36) = true := beq_iff_eq.2 (by omega)
        have g3 : (B.size : Int) = 36 := by omega
        clear hv hzb h36 hzz ha hn HQ HP HX
        go_enter Tryz.func43, Tryz.ntmps43
        go_wp2_with fail
        rw [HW.out]
        go_wp2_with (first | (go_at_call 72; refine (C1.out _).mono ?_; rintro e wz ⟨rfl, hz⟩; rw [hz]; clear hz wz) | (go_at_call 73; refine (C2.out _).mono ?_; rintro e wa ⟨rfl, ha⟩; have HA : Hid (Below W.heap.size W wa) := ha; clear ha) | (go_at_call 56; refine (C3.out _).mono ?_; rintro e wz ⟨rfl, hz⟩; rw [hz]; clear hz wz))
        refine (C4.out _).mono ?_
        rintro e w1 ⟨rfl, hb1⟩
        have B1 : Hid (Below W.heap.size W w1) := HA.out.trans (hb1.mono HA.out.size)
        clear hb1
        have hbk : w1.drew.heap[w.heap.size]? = some (.cells #[.string ⟨#[]⟩, .string ⟨#[]⟩, .string ⟨#[]⟩] 43 (0, 0)) := ((below_dr B1.out).block w.heap.size (by omega)).trans HBK.out
        have FIN : Hid (∀ W', W' = _ → _) := put3 w1.drew w.heap.size _ _ _ (.string nn) (.string (B.extract 0 4)) (.string (B.extract 4 B.size)) _ hbk
        have c0 := cell_of_row _ _ 0 _ _ _ hbk
        have c1 := cell_of_row _ _ 1 _ _ _ hbk
        have c2 := cell_of_row _ _ 2 _ _ _ hbk
        have f0 := frozen_of_row _ _ 0 _ _ hbk
        have f1 := frozen_of_row _ _ 1 _ _ hbk
        have f2 := frozen_of_row _ _ 2 _ _ hbk
        have k0 : w1.cell? ⟨w.heap.size, 0, none⟩ = some (.string ⟨#[]⟩) := c0
        have k1 : w1.cell? ⟨w.heap.size, 1, none⟩ = some (.string ⟨#[]⟩) := c1
        have k2 : w1.cell? ⟨w.heap.size, 2, none⟩ = some (.string ⟨#[]⟩) := c2
        have m0 : w1.frozen? ⟨w.heap.size, 0, none⟩ = false := f0
        have m1 : w1.frozen? ⟨w.heap.size, 1, none⟩ = false := f1
        have m2 : w1.frozen? ⟨w.heap.size, 2, none⟩ = false := f2
        clear c0 c1 c2 f0 f1 f2
        have hb0 : w1.heap[w.heap.size]? = some (.cells #[.string ⟨#[]⟩, .string ⟨#[]⟩, .string ⟨#[]⟩] 43 (0, 0)) := hbk
        have r1 := heap_setCell_same _ _ 0 _ _ (.string nn) hb0
        have r2 := heap_setCell_same _ _ 1 _ _ (.string (B.extract 0 4)) r1
        have r3 := heap_setCell_same _ _ 2 _ _ (.string (B.extract 4 B.size)) r2
        have E0 : Hid ((w1.setCell ⟨w.heap.size, 0, none⟩ (.string nn)).cell? ⟨w.heap.size, 0, none⟩ = some (.string nn)) := cell_of_row _ _ 0 _ _ _ r1
        have E1 : Hid (((w1.setCell ⟨w.heap.size, 0, none⟩ (.string nn)).setCell ⟨w.heap.size, 1, none⟩ (.string (B.extract 0 4))).cell? ⟨w.heap.size, 1, none⟩ = some (.string (B.extract 0 4))) := cell_of_row _ _ 1 _ _ _ r2
        have E2 : Hid ((((w1.setCell ⟨w.heap.size, 0, none⟩ (.string nn)).setCell ⟨w.heap.size, 1, none⟩ (.string (B.extract 0 4))).setCell ⟨w.heap.size, 2, none⟩ (.string (B.extract 4 B.size))).cell? ⟨w.heap.size, 2, none⟩ = some (.string (B.extract 4 B.size))) := cell_of_row _ _ 2 _ _ _ r3
        clear hb0 r1 r2 r3
        go_wp2_with fail
        go_region
        all_goals (
          go_wp2
          obtain ⟨⟨d0, d1, d2⟩, hbl⟩ := FIN.out _ rfl
          exact bodyPost_ret (v := .tuple #[.agg #[.string nn, .string (B.extract 0 4), .string (B.extract 4 B.size)], .bool true]) (by simp [results, Tryz.results43, go_sem, E0.out, E1.out, E2.out]) rfl ⟨by rw [HBZ.out]; rfl, BA.out.trans (((below_dr B1.out).mono (by omega)).trans (hbl _ (Nat.le_refl _)))⟩)
      · have HX : Hid (X = none) := by show _ = _; rw [HQ.out]; unfold sgOf; rw [if_neg (fun h => h36 h.2.2)]
        rw [HX.out]
        have hzz : ¬ ((str (cutL (bs cc))).size : Int) = 36 := by rw [hzb]; omega
        have hzm : (str (cutL (bs cc))).size ≤ 100000000 ∨ True := .inr trivial
        generalize str (cutL (bs cc)) = B at *
        have g2 : ((B.size : Int) == 36) = false := beq_eq_false_iff_ne.2 hzz
        clear hv hzb h36 ha hn HQ HP HX hzm
        go_enter Tryz.func43, Tryz.ntmps43
        go_wp2_with fail
        rw [HW.out]
        go_wp2_with (first | (go_at_call 72; refine (C1.out _).mono ?_; rintro e wz ⟨rfl, hz⟩; rw [hz]; clear hz wz) | (go_at_call 73; refine (C2.out _).mono ?_; rintro e wa ⟨rfl, ha⟩; have HA : Hid (Below W.heap.size W wa) := ha; clear ha) | (go_at_call 56; refine (C3.out _).mono ?_; rintro e wz ⟨rfl, hz⟩; rw [hz]; clear hz wz))
        refine (C4.out _).mono ?_
        rintro e w1 ⟨rfl, hb1⟩
        have B1 : Hid (Below W.heap.size W w1) := HA.out.trans (hb1.mono HA.out.size)
        clear hb1
        have hbk : w1.heap[w.heap.size]? = some (.cells #[.string ⟨#[]⟩, .string ⟨#[]⟩, .string ⟨#[]⟩] 43 (0, 0)) := (B1.out.block w.heap.size (by omega)).trans HBK.out
        have FIN : Hid (∀ W', W' = _ → _) := put3 w1 w.heap.size _ _ _ (.string ⟨#[]⟩) (.string ⟨#[]⟩) (.string ⟨#[]⟩) _ hbk
        have c0 := cell_of_row _ _ 0 _ _ _ hbk
        have c1 := cell_of_row _ _ 1 _ _ _ hbk
        have c2 := cell_of_row _ _ 2 _ _ _ hbk
        have f0 := frozen_of_row _ _ 0 _ _ hbk
        have f1 := frozen_of_row _ _ 1 _ _ hbk
        have f2 := frozen_of_row _ _ 2 _ _ hbk
        go_wp2
        obtain ⟨⟨d0, d1, d2⟩, hbl⟩ := FIN.out _ rfl
        exact bodyPost_ret (v := .tuple #[.agg #[.string ⟨#[]⟩, .string ⟨#[]⟩, .string ⟨#[]⟩], .bool false]) (by simp [results, Tryz.results43, go_sem, d0, d1, d2]) rfl ⟨rfl, BA.out.trans ((B1.out.mono (by omega)).trans (hbl _ (Nat.le_refl _)))⟩
    · have HX : Hid (X = none) := by show _ = _; rw [HQ.out]; unfold sgOf; rw [if_neg (fun h => ha h.2.1)]
      rw [HX.out]
      have hv : un64V cc = .tuple #[.string ByteArray.empty, .int .i64 40] := by unfold un64V; rw [if_neg ha]; rfl
      rw [hv] at C4
      clear hv ha hn HQ HP HX
      go_enter Tryz.func43, Tryz.ntmps43
      go_wp2_with fail
      rw [HW.out]
      go_wp2_with (first | (go_at_call 72; refine (C1.out _).mono ?_; rintro e wz ⟨rfl, hz⟩; rw [hz]; clear hz wz) | (go_at_call 73; refine (C2.out _).mono ?_; rintro e wa ⟨rfl, ha⟩; have HA : Hid (Below W.heap.size W wa) := ha; clear ha) | (go_at_call 56; refine (C3.out _).mono ?_; rintro e wz ⟨rfl, hz⟩; rw [hz]; clear hz wz))
      refine (C4.out _).mono ?_
      rintro e w1 ⟨rfl, hb1⟩
      have B1 : Hid (Below W.heap.size W w1) := HA.out.trans (hb1.mono HA.out.size)
      clear hb1
      have hbk : w1.heap[w.heap.size]? = some (.cells #[.string ⟨#[]⟩, .string ⟨#[]⟩, .string ⟨#[]⟩] 43 (0, 0)) := (B1.out.block w.heap.size (by omega)).trans HBK.out
      have FIN : Hid (∀ W', W' = _ → _) := put3 w1 w.heap.size _ _ _ (.string ⟨#[]⟩) (.string ⟨#[]⟩) (.string ⟨#[]⟩) _ hbk
      have c0 := cell_of_row _ _ 0 _ _ _ hbk
      have c1 := cell_of_row _ _ 1 _ _ _ hbk
      have c2 := cell_of_row _ _ 2 _ _ _ hbk
      have f0 := frozen_of_row _ _ 0 _ _ hbk
      have f1 := frozen_of_row _ _ 1 _ _ hbk
      have f2 := frozen_of_row _ _ 2 _ _ hbk
      go_wp2
      obtain ⟨⟨d0, d1, d2⟩, hbl⟩ := FIN.out _ rfl
      exact bodyPost_ret (v := .tuple #[.agg #[.string ⟨#[]⟩, .string ⟨#[]⟩, .string ⟨#[]⟩], .bool false]) (by simp [results, Tryz.results43, go_sem, d0, d1, d2]) rfl ⟨rfl, BA.out.trans ((B1.out.mono (by omega)).trans (hbl _ (Nat.le_refl _)))⟩
  · have HX : Hid (X = none) := by
      show _ = _
      rw [HP.out]
      by_cases h2 : o = true ∧ p = true
      · rw [if_pos h2]
        unfold sgOf
        rw [if_neg (fun h => hop ⟨h2.1, h2.2, h.1⟩)]
      · rw [if_neg h2]
    rw [HX.out]
    have hop2 : o = false ∨ (o = true ∧ p = false) ∨ (o = true ∧ p = true ∧ nm nn = false) := by
      cases o
      · exact .inl rfl
      · cases p
        · exact .inr (.inl ⟨rfl, rfl⟩)
        · refine .inr (.inr ⟨rfl, rfl, ?_⟩)
          cases hh : nm nn
          · rfl
          · exact absurd ⟨rfl, rfl, hh⟩ hop
    clear hop HX HP C4
    rcases hop2 with rfl | ⟨rfl, rfl⟩ | ⟨rfl, rfl, hn⟩
    · go_enter Tryz.func43, Tryz.ntmps43
      go_wp2_with fail
      rw [HW.out]
      go_upto_region 3 with (first | (go_at_call 72; refine (C1.out _).mono ?_; rintro e wz ⟨rfl, hz⟩; rw [hz]; clear hz wz) | (go_at_call 73; refine (C2.out _).mono ?_; rintro e wa ⟨rfl, ha⟩; have HA : Hid (Below W.heap.size W wa) := ha; clear ha) | (go_at_call 56; refine (C3.out _).mono ?_; rintro e wz ⟨rfl, hz⟩; rw [hz]; clear hz wz))
      have hbk : wa.heap[w.heap.size]? = some (.cells #[.string ⟨#[]⟩, .string ⟨#[]⟩, .string ⟨#[]⟩] 43 (0, 0)) := (HA.out.block w.heap.size (by omega)).trans HBK.out
      have FIN : Hid (∀ W', W' = _ → _) := put3 wa w.heap.size _ _ _ (.string ⟨#[]⟩) (.string ⟨#[]⟩) (.string ⟨#[]⟩) _ hbk
      have c0 := cell_of_row _ _ 0 _ _ _ hbk
      have c1 := cell_of_row _ _ 1 _ _ _ hbk
      have c2 := cell_of_row _ _ 2 _ _ _ hbk
      have f0 := frozen_of_row _ _ 0 _ _ hbk
      have f1 := frozen_of_row _ _ 1 _ _ hbk
      have f2 := frozen_of_row _ _ 2 _ _ hbk
      go_wp2_with (first | (go_at_call 72; refine (C1.out _).mono ?_; rintro e wz ⟨rfl, hz⟩; rw [hz]; clear hz wz) | (go_at_call 73; refine (C2.out _).mono ?_; rintro e wa ⟨rfl, ha⟩; have HA : Hid (Below W.heap.size W wa) := ha; clear ha) | (go_at_call 56; refine (C3.out _).mono ?_; rintro e wz ⟨rfl, hz⟩; rw [hz]; clear hz wz))
      obtain ⟨⟨d0, d1, d2⟩, hbl⟩ := FIN.out _ rfl
      exact bodyPost_ret (v := .tuple #[.agg #[.string ⟨#[]⟩, .string ⟨#[]⟩, .string ⟨#[]⟩], .bool false]) (by simp [results, Tryz.results43, go_sem, d0, d1, d2]) rfl ⟨rfl, BA.out.trans ((HA.out.mono (by omega)).trans (hbl _ (Nat.le_refl _)))⟩
    · go_enter Tryz.func43, Tryz.ntmps43
      go_wp2_with fail
      rw [HW.out]
      go_upto_region 3 with (first | (go_at_call 72; refine (C1.out _).mono ?_; rintro e wz ⟨rfl, hz⟩; rw [hz]; clear hz wz) | (go_at_call 73; refine (C2.out _).mono ?_; rintro e wa ⟨rfl, ha⟩; have HA : Hid (Below W.heap.size W wa) := ha; clear ha) | (go_at_call 56; refine (C3.out _).mono ?_; rintro e wz ⟨rfl, hz⟩; rw [hz]; clear hz wz))
      have hbk : wa.heap[w.heap.size]? = some (.cells #[.string ⟨#[]⟩, .string ⟨#[]⟩, .string ⟨#[]⟩] 43 (0, 0)) := (HA.out.block w.heap.size (by omega)).trans HBK.out
      have FIN : Hid (∀ W', W' = _ → _) := put3 wa w.heap.size _ _ _ (.string ⟨#[]⟩) (.string ⟨#[]⟩) (.string ⟨#[]⟩) _ hbk
      have c0 := cell_of_row _ _ 0 _ _ _ hbk
      have c1 := cell_of_row _ _ 1 _ _ _ hbk
      have c2 := cell_of_row _ _ 2 _ _ _ hbk
      have f0 := frozen_of_row _ _ 0 _ _ hbk
      have f1 := frozen_of_row _ _ 1 _ _ hbk
      have f2 := frozen_of_row _ _ 2 _ _ hbk
      go_wp2_with (first | (go_at_call 72; refine (C1.out _).mono ?_; rintro e wz ⟨rfl, hz⟩; rw [hz]; clear hz wz) | (go_at_call 73; refine (C2.out _).mono ?_; rintro e wa ⟨rfl, ha⟩; have HA : Hid (Below W.heap.size W wa) := ha; clear ha) | (go_at_call 56; refine (C3.out _).mono ?_; rintro e wz ⟨rfl, hz⟩; rw [hz]; clear hz wz))
      obtain ⟨⟨d0, d1, d2⟩, hbl⟩ := FIN.out _ rfl
      exact bodyPost_ret (v := .tuple #[.agg #[.string ⟨#[]⟩, .string ⟨#[]⟩, .string ⟨#[]⟩], .bool false]) (by simp [results, Tryz.results43, go_sem, d0, d1, d2]) rfl ⟨rfl, BA.out.trans ((HA.out.mono (by omega)).trans (hbl _ (Nat.le_refl _)))⟩
    · rw [hn] at C3
      clear hn
      go_enter Tryz.func43, Tryz.ntmps43
      go_wp2_with fail
      rw [HW.out]
      go_upto_region 3 with (first | (go_at_call 72; refine (C1.out _).mono ?_; rintro e wz ⟨rfl, hz⟩; rw [hz]; clear hz wz) | (go_at_call 73; refine (C2.out _).mono ?_; rintro e wa ⟨rfl, ha⟩; have HA : Hid (Below W.heap.size W wa) := ha; clear ha) | (go_at_call 56; refine (C3.out _).mono ?_; rintro e wz ⟨rfl, hz⟩; rw [hz]; clear hz wz))
      have hbk : wa.heap[w.heap.size]? = some (.cells #[.string ⟨#[]⟩, .string ⟨#[]⟩, .string ⟨#[]⟩] 43 (0, 0)) := (HA.out.block w.heap.size (by omega)).trans HBK.out
      have FIN : Hid (∀ W', W' = _ → _) := put3 wa w.heap.size _ _ _ (.string ⟨#[]⟩) (.string ⟨#[]⟩) (.string ⟨#[]⟩) _ hbk
      have c0 := cell_of_row _ _ 0 _ _ _ hbk
      have c1 := cell_of_row _ _ 1 _ _ _ hbk
      have c2 := cell_of_row _ _ 2 _ _ _ hbk
      have f0 := frozen_of_row _ _ 0 _ _ hbk
      have f1 := frozen_of_row _ _ 1 _ _ hbk
      have f2 := frozen_of_row _ _ 2 _ _ hbk
      go_wp2_with (first | (go_at_call 72; refine (C1.out _).mono ?_; rintro e wz ⟨rfl, hz⟩; rw [hz]; clear hz wz) | (go_at_call 73; refine (C2.out _).mono ?_; rintro e wa ⟨rfl, ha⟩; have HA : Hid (Below W.heap.size W wa) := ha; clear ha) | (go_at_call 56; refine (C3.out _).mono ?_; rintro e wz ⟨rfl, hz⟩; rw [hz]; clear hz wz))
      obtain ⟨⟨d0, d1, d2⟩, hbl⟩ := FIN.out _ rfl
      exact bodyPost_ret (v := .tuple #[.agg #[.string ⟨#[]⟩, .string ⟨#[]⟩, .string ⟨#[]⟩], .bool false]) (by simp [results, Tryz.results43, go_sem, d0, d1, d2]) rfl ⟨rfl, BA.out.trans ((HA.out.mono (by omega)).trans (hbl _ (Nat.le_refl _)))⟩
end Go.Proofs.YthdkbjbhjfiaiaaGreatDoor.q1

namespace Go.Proofs.YthdkbjbhjfiaiaaGreatDoor.q2
open Go.RowKit Go.PlainAid
open Go.Proofs.YthdkbjbhjfiaiaaGreatDoor.tb Go.Proofs.YthdkbjbhjfiaiaaGreatDoor.tc Go.Proofs.YthdkbjbhjfiaiaaGreatDoor.tj Go.Proofs.YthdkbjbhjfiaiaaGreatDoor.o3
set_option linter.unusedVariables false
set_option maxRecDepth 4000

-- lines
def nlB : ByteArray := ⟨#[10]⟩
def flN : List ByteArray → ByteArray
  | [] => ByteArray.empty
  | l :: ls => l ++ nlB ++ flN ls
theorem flN_app (a b : List ByteArray) : flN (a ++ b) = flN a ++ flN b := by
  induction a with
  | nil => simp [flN]
  | cons x a ih => simp only [List.cons_append, flN, ih, ByteArray.append_assoc]
theorem flN_snoc (a : List ByteArray) (l : ByteArray) : flN (a ++ [l]) = flN a ++ l ++ nlB := by
  rw [flN_app, flN, flN, ByteArray.append_empty, ByteArray.append_assoc]
def no10 (l : ByteArray) : Prop := ∀ j, j < l.size → bt l j ≠ 10
-- the lines from the last to the first, each with its place
def elR : List ByteArray → List (Nat × ByteArray)
  | [] => []
  | l :: rl => ((flN rl.reverse).size, l) :: elR rl
theorem elR_length (rl : List ByteArray) : (elR rl).length = rl.length := by
  induction rl with
  | nil => rfl
  | cons l rl ih => simp [elR, ih]
theorem bt_left (a b : ByteArray) (j : Nat) (h : j < a.size) : bt (a ++ b) j = bt a j := by
  rw [← get_bt (a ++ b) j (by rw [ByteArray.size_append]; omega), ← get_bt a j h, ByteArray.getElem_append_left]
theorem bt_right (a b : ByteArray) (j : Nat) (h : j < b.size) : bt (a ++ b) (a.size + j) = bt b j := by
  rw [← get_bt (a ++ b) (a.size + j) (by rw [ByteArray.size_append]; omega), ← get_bt b j h, ByteArray.getElem_append_right (by omega)]
  simp
theorem nl_bt : bt nlB 0 = 10 := by decide +kernel
theorem nl_size : nlB.size = 1 := rfl
theorem ends_nl (a : ByteArray) : ends (a ++ nlB) = true := by
  rw [ends_iff]
  refine ⟨a.size, by rw [ByteArray.size_append]; rfl, ?_⟩
  have := bt_right a nlB 0 (by rw [nl_size]; omega)
  rw [Nat.add_zero] at this
  rw [this, nl_bt]
theorem ends_empty : ends ByteArray.empty = false := by decide +kernel
-- a text that ends with a newline is lines
theorem lines_ex (n : Nat) : ∀ s : ByteArray, s.size = n → ∃ (ls : List ByteArray) (t : ByteArray), s = flN ls ++ t ∧ (∀ l ∈ ls, no10 l) ∧ no10 t := by
  induction n with
  | zero =>
    intro s h
    exact ⟨[], s, by simp [flN], (fun l h => by cases h), fun j hj => by omega⟩
  | succ n ih =>
    intro s h
    obtain ⟨ls, t, h1, h2, h3⟩ := ih (s.extract 0 n) (by rw [ByteArray.size_extract]; omega)
    obtain ⟨x, hx⟩ : ∃ x : UInt8, s.extract n (n + 1) = ⟨#[x]⟩ := ⟨s[n]'(by omega), by
      apply ByteArray.ext
      rw [ByteArray.data_extract]
      apply Array.ext'
      have hlt : n < s.data.toList.length := by have : s.data.toList.length = s.size := Array.length_toList; omega
      rw [Array.toList_extract, List.extract_eq_take_drop, List.drop_eq_getElem_cons hlt, show n + 1 - n = 1 by omega]
      rfl⟩
    have hs : s = s.extract 0 n ++ ⟨#[x]⟩ := by
      rw [← hx]
      have := ByteArray.extract_eq_extract_append_extract (a := s) (i := 0) (k := n + 1) n (by omega) (by omega)
      rw [← this, ← h, ByteArray.extract_zero_size]
    by_cases h10 : x = 10
    · subst h10
      refine ⟨ls ++ [t], ByteArray.empty, ?_, ?_, fun j hj => by cases hj⟩
      · rw [hs, h1, flN_snoc, ByteArray.append_empty]; rfl
      · intro l hl
        rcases List.mem_append.1 hl with h | h
        · exact h2 l h
        · rw [List.mem_singleton.1 h]; exact h3
    · refine ⟨ls, t ++ ⟨#[x]⟩, ?_, h2, ?_⟩
      · rw [← ByteArray.append_assoc, ← h1]; exact hs
      · intro j hj
        rw [ByteArray.size_append] at hj
        have e1 : (⟨#[x]⟩ : ByteArray).size = 1 := rfl
        rcases Nat.lt_or_ge j t.size with g | g
        · rw [bt_left _ _ _ g]; exact h3 j g
        · obtain rfl : j = t.size + 0 := by omega
          rw [bt_right _ _ _ (by rw [e1]; omega)]
          intro e
          rw [← get_bt (⟨#[x]⟩ : ByteArray) 0 (by rw [e1]; omega)] at e
          have e2 : (((⟨#[x]⟩ : ByteArray)[0]'(by rw [e1]; omega)).toNat : Int) = 10 := e
          have e3 : x.toNat = 10 := by
            have : (⟨#[x]⟩ : ByteArray)[0]'(by rw [e1]; omega) = x := rfl
            rw [this] at e2
            omega
          exact h10 (UInt8.toNat_inj.1 (by rw [e3]; rfl))
theorem no_end (a t : ByteArray) (ht : no10 t) (h0 : t.size ≠ 0) : ends (a ++ t) = false := by
  cases he : ends (a ++ t)
  · rfl
  · obtain ⟨n, h1, h2⟩ := (ends_iff _).1 he
    rw [ByteArray.size_append] at h1
    obtain ⟨k, rfl⟩ : ∃ k, n = a.size + k := ⟨n - a.size, by omega⟩
    rw [bt_right _ _ _ (by omega)] at h2
    exact absurd h2 (ht k (by omega))
-- what linesFromEnd gives
def Gives (s : ByteArray) (RL : List ByteArray) : Prop := (s = flN RL.reverse ∧ ∀ l ∈ RL, no10 l) ∨ (ends s = false ∧ RL = [])
theorem gives_ex (s : ByteArray) : ∃ RL, Gives s RL ∧ (ends s = true → s = flN RL.reverse ∧ ∀ l ∈ RL, no10 l) := by
  obtain ⟨ls, t, h1, h2, h3⟩ := lines_ex s.size s rfl
  cases he : ends s
  · exact ⟨[], .inr ⟨he, rfl⟩, fun h => by cases h⟩
  · have ht : t.size = 0 := by
      cases hz : t.size with
      | zero => rfl
      | succ k =>
        have := no_end (flN ls) t h3 (by omega)
        rw [← h1, he] at this
        cases this
    have e : t = ByteArray.empty := ByteArray.size_eq_zero_iff.1 ht
    have h4 : s = flN ls.reverse.reverse ∧ ∀ l ∈ ls.reverse, no10 l := ⟨by rw [List.reverse_reverse, h1, e, ByteArray.append_empty], fun l hl => h2 l (List.mem_reverse.1 hl)⟩
    exact ⟨ls.reverse, .inl h4, fun _ => h4⟩
-- the last newline ahead of a line
theorem last_at (a l : ByteArray) (hl : no10 l) (ha : a.size = 0 ∨ ends a = true) : Lib.lastIndexByte (a ++ l) 10 = (a.size : Int) - 1 := by
  have hbt : ∀ j, j < (a ++ l).size → (((a ++ l).data[j]!).toNat : Int) = bt (a ++ l) j := by
    intro j hj
    rw [← get_bt (a ++ l) j hj]
    have hj2 : j < (a ++ l).data.size := hj
    rw [getElem!_pos (a ++ l).data j hj2]
    rfl
  unfold Lib.lastIndexByte
  have hsz : (a ++ l).size = a.size + l.size := ByteArray.size_append
  rcases Lib.lastIdx_spec (a ++ l) 10 (a ++ l).size with ⟨h1, h2⟩ | ⟨i, h1, h2, h3, h4⟩
  · rw [h1]
    rcases ha with ha | ha
    · rw [ha]; rfl
    · obtain ⟨n, h5, h6⟩ := (ends_iff _).1 ha
      have := h2 n (by omega)
      rw [hbt n (by omega), bt_left _ _ _ (by omega), h6] at this
      exact absurd rfl this
  · rw [h2]
    rw [hbt i h1] at h3
    rcases Nat.lt_or_ge i a.size with g | g
    · rcases ha with ha | ha
      · omega
      · obtain ⟨n, h5, h6⟩ := (ends_iff _).1 ha
        rcases Nat.lt_or_ge i n with g2 | g2
        · have := h4 n g2 (by omega)
          rw [hbt n (by omega), bt_left _ _ _ (by omega), h6] at this
          exact absurd rfl this
        · omega
    · obtain ⟨k, rfl⟩ : ∃ k, i = a.size + k := ⟨i - a.size, by omega⟩
      rw [bt_right _ _ _ (by omega)] at h3
      exact absurd h3 (hl k (by omega))
theorem flN_ends (ls : List ByteArray) : (flN ls).size = 0 ∨ ends (flN ls) = true := by
  rcases List.eq_nil_or_concat ls with rfl | ⟨a, l, rfl⟩
  · exact .inl rfl
  · right
    rw [List.concat_eq_append, flN_snoc]
    exact ends_nl _
end Go.Proofs.YthdkbjbhjfiaiaaGreatDoor.q2
