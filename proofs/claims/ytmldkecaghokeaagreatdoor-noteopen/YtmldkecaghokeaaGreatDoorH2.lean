import Derived.Shelf.Strings.Builder1
import Derived.Shelf.Strings.BuilderF
import Derived.Shelf.Strings.BuilderK
import Derived.Shelf.Pu.Clone
import Derived.Test.YtmldkecaghokeaaGreatDoorProg
import Derived.Test.YtmldkecaghokeaaGreatDoorH1
import Derived.Test.YtmldkecaghokeaaGreatDoorRc
import Derived.Test.YtmldkecaghokeaaGreatDoorNa
namespace Go.Proofs.YtmldkecaghokeaaGreatDoor.sb
open Go.Shelf
set_option linter.unusedVariables false
set_option maxRecDepth 4000
end Go.Proofs.YtmldkecaghokeaaGreatDoor.sb

namespace Go.Proofs.YtmldkecaghokeaaGreatDoor.o7
open Go.RowKit Go.PlainAid Go.Shelf
open Go.Proofs.YtmldkecaghokeaaGreatDoor.pj Go.Proofs.YtmldkecaghokeaaGreatDoor.rf Go.Proofs.YtmldkecaghokeaaGreatDoor.mo Go.Proofs.YtmldkecaghokeaaGreatDoor.nd Go.Proofs.YtmldkecaghokeaaGreatDoor.nh Go.Proofs.YtmldkecaghokeaaGreatDoor.tb Go.Proofs.YtmldkecaghokeaaGreatDoor.tc Go.Proofs.YtmldkecaghokeaaGreatDoor.tj Go.Proofs.YtmldkecaghokeaaGreatDoor.n1 Go.Proofs.YtmldkecaghokeaaGreatDoor.n3 Go.Proofs.YtmldkecaghokeaaGreatDoor.n4 Go.Proofs.YtmldkecaghokeaaGreatDoor.o1 Go.Proofs.YtmldkecaghokeaaGreatDoor.o3 Go.Proofs.YtmldkecaghokeaaGreatDoor.o4 Go.Proofs.YtmldkecaghokeaaGreatDoor.o5 Go.Proofs.YtmldkecaghokeaaGreatDoor.o6 Go.Proofs.YtmldkecaghokeaaGreatDoor.sb Go.Proofs.YtmldkecaghokeaaGreatDoor.kp
set_option linter.unusedVariables false
set_option maxRecDepth 4000

theorem bat_below {T e : TypeId} {B b : Nat} {p : Value} {bs : List Value} {W W' : World} (h : Lib.BuilderAt T e B b p bs W) (hb : Below W.heap.size W W') : Lib.BuilderAt T e B b p bs W' := by
  obtain ⟨hB, v, hv, hown, hne⟩ := h
  exact ⟨hB, v, (hb.block b (Array.getElem?_eq_some_iff.1 hv).1).trans hv, own_kp hown (Kp.of_below (A := fun _ => False) hb) (fun _ _ e => e), hne⟩
theorem data_len (s : ByteArray) : s.data.toList.length = s.size := Array.length_toList
theorem data_two (a b : ByteArray) : (a ++ b).data.toList = a.data.toList ++ b.data.toList := by rw [ByteArray.data_append, Array.toList_append]
-- how long the note will be
def szL : List Ky → Nat
  | [] => 0
  | k :: l => k.1.size + 54 + szL l
theorem szL_app (a b : List Ky) : szL (a ++ b) = szL a + szL b := by
  induction a with
  | nil => simp [szL]
  | cons k a ih => simp only [List.cons_append, szL, ih]; omega
theorem szL_le (l : List Ky) (h : ∀ k ∈ l, k.1.size ≤ 140737488351232) : szL l ≤ l.length * 140737488351286 := by
  induction l with
  | nil => simp [szL]
  | cons k l ih =>
    have h1 := h k (by simp)
    have h2 := ih (fun x hx => h x (by simp [hx]))
    simp only [szL, List.length_cons]
    omega
theorem flat_size (l : List Ky) (body : ByteArray) : (flatB ((l.map (sigOf · body)).map lineOf)).size = szL l := by
  induction l with
  | nil => rfl
  | cons k l ih => simp only [List.map_cons, flatB, szL, ByteArray.size_append, ih, sig_line]
def signE (body : ByteArray) (ks : List Ky) : Int :=
  if goesB body = false then 200 else if ks.length = 0 then 82 else if 16 < ks.length then 83 else if tgF [] ks ≠ 0 then tgF [] ks else if 65536 < body.size + 1 + szL ks then 121 else 0
def signT (body : ByteArray) (ks : List Ky) : ByteArray := if signE body ks = 0 then noteOf body (ks.map (sigOf · body)) else ByteArray.empty
def signV (body : ByteArray) (ks : List Ky) : Value := .tuple #[.string (signT body ks), .int .i64 (signE body ks)]
theorem note_size (body : ByteArray) (ks : List Ky) : (noteOf body (ks.map (sigOf · body))).size = body.size + 1 + szL ks := by
  unfold noteOf
  rw [ByteArray.size_append, ByteArray.size_append, flat_size]
  rfl
end Go.Proofs.YtmldkecaghokeaaGreatDoor.o7

namespace Go.Proofs.YtmldkecaghokeaaGreatDoor.o8
open Go.RowKit Go.PlainAid Go.Shelf
open Go.Proofs.YtmldkecaghokeaaGreatDoor.pj Go.Proofs.YtmldkecaghokeaaGreatDoor.rf Go.Proofs.YtmldkecaghokeaaGreatDoor.mo Go.Proofs.YtmldkecaghokeaaGreatDoor.nd Go.Proofs.YtmldkecaghokeaaGreatDoor.nh Go.Proofs.YtmldkecaghokeaaGreatDoor.tb Go.Proofs.YtmldkecaghokeaaGreatDoor.tc Go.Proofs.YtmldkecaghokeaaGreatDoor.tj Go.Proofs.YtmldkecaghokeaaGreatDoor.n1 Go.Proofs.YtmldkecaghokeaaGreatDoor.n3 Go.Proofs.YtmldkecaghokeaaGreatDoor.n4 Go.Proofs.YtmldkecaghokeaaGreatDoor.o1 Go.Proofs.YtmldkecaghokeaaGreatDoor.o3 Go.Proofs.YtmldkecaghokeaaGreatDoor.o4 Go.Proofs.YtmldkecaghokeaaGreatDoor.o5 Go.Proofs.YtmldkecaghokeaaGreatDoor.o6 Go.Proofs.YtmldkecaghokeaaGreatDoor.o7 Go.Proofs.YtmldkecaghokeaaGreatDoor.kp
set_option linter.unusedVariables false
set_option maxRecDepth 4000

-- bytes of one's own that make a text
def OwB (w : World) (base : Nat) (v : Value) (s : ByteArray) : Prop := ∃ g cap, v = .slice (some ⟨g, 0, none⟩) s.size cap ∧ base ≤ g ∧ g < w.heap.size ∧ (∀ j, j < s.size → w.cell? ⟨g, j, none⟩ = some (.int .u8 (bt s j))) ∧ (∀ j, s.size ≤ j → j < cap → (w.cell? ⟨g, j, none⟩).isSome = true ∧ w.frozen? ⟨g, j, none⟩ = false)
theorem OwB.later {w w' : World} {base : Nat} {v : Value} {s : ByteArray} (h : OwB w base v s) (b : Below w.heap.size w w') : OwB w' base v s := by
  obtain ⟨g, cap, rfl, hb, hg, h1, h2⟩ := h
  refine ⟨g, cap, rfl, hb, Nat.lt_of_lt_of_le hg b.size, fun j hj => ?_, fun j h3 h4 => ?_⟩
  · rw [b.cell (p := ⟨g, j, none⟩) hg]; exact h1 j hj
  · rw [b.cell (p := ⟨g, j, none⟩) hg, b.frozen (p := ⟨g, j, none⟩) hg]; exact h2 j h3 h4
theorem OwB.form {w : World} {base : Nat} {v : Value} {s : ByteArray} (h : OwB w base v s) : ∃ g cap, v = .slice (some ⟨g, 0, none⟩) s.size cap := by
  obtain ⟨g, cap, rfl, _⟩ := h
  exact ⟨g, cap, rfl⟩
theorem ofString (w : World) (s : ByteArray) (hs : s.size ≤ 140737488352256) : ∃ v w', (convert 9 75 (.string s)).run Tryz.prog w = .ok v w' ∧ OwB w' w.heap.size v s ∧ Below w.heap.size w w' := by
  obtain ⟨v, w', h1, ⟨h2, g, cap, rfl, h3, h4, h5, h6⟩, h7⟩ := Go.Proofs.YtmldkecaghokeaaGreatDoor.rc.of_string w s hs
  refine ⟨_, w', h1, ⟨g, cap, rfl, h3, h4, fun j hj => ?_, h6⟩, h7⟩
  rw [h5 j hj, Go.Proofs.YtmldkecaghokeaaGreatDoor.pd.btL_get _ _ _ hj]
theorem toString (w : World) (base : Nat) (v : Value) (s : ByteArray) (h : OwB w base v s) : (convert 75 9 v).run Tryz.prog w = .ok (.string s) w := by
  obtain ⟨g, cap, rfl, hb, hg, h1, h2⟩ := h
  have := conv_at (bs s) w g 0 s.size cap (bs_length s).symm (fun j u hj => by
    have hjl : j < s.size := by have := (List.getElem?_eq_some_iff.1 hj).1; rw [List.length_map, bs_length] at this; exact this
    rw [Addr.add_mid, Nat.zero_add, h1 j hjl, ← hj, List.getElem?_map, List.getElem?_eq_getElem (by rw [bs_length]; exact hjl), bs_get s j hjl]
    rfl)
  rw [str_bs] at this
  exact this
theorem bt_left (a b : ByteArray) (j : Nat) (h : j < a.size) : bt (a ++ b) j = bt a j := by
  rw [← get_bt (a ++ b) j (by rw [ByteArray.size_append]; omega), ← get_bt a j h, ByteArray.getElem_append_left]
theorem bt_right (a b : ByteArray) (j : Nat) (h : j < b.size) : bt (a ++ b) (a.size + j) = bt b j := by
  rw [← get_bt (a ++ b) (a.size + j) (by rw [ByteArray.size_append]; omega), ← get_bt b j h, ByteArray.getElem_append_right (by omega)]
  simp
theorem cells_get (q : ByteArray) (j : Nat) (h : j < q.size) : (Go.Proofs.YtmldkecaghokeaaGreatDoor.na.cellsS q)[j]'(by rw [Go.Proofs.YtmldkecaghokeaaGreatDoor.na.cellsS_length]; exact h) = .int .u8 (bt q j) := by
  simp [Go.Proofs.YtmldkecaghokeaaGreatDoor.na.cellsS, Go.Proofs.YtmldkecaghokeaaGreatDoor.pd.btL]
open Go.Proofs.YtmldkecaghokeaaGreatDoor.na in
theorem room_str (w : World) (ty : TypeId) (g sLen sCap : Nat) (q : ByteArray) (hroom : sLen + q.size ≤ sCap) (hc : ∀ j, j < q.size → (w.cell? ⟨g, sLen + j, none⟩).isSome = true) (hf : ∀ j, j < q.size → w.frozen? ⟨g, sLen + j, none⟩ = false) :
    (Builtin.append_ #[75, 9] ty #[.slice (some ⟨g, 0, none⟩) sLen sCap, .string q]).run Tryz.prog w =
      .ok (.slice (some ⟨g, 0, none⟩) (sLen + q.size) sCap) (w.setCells g sLen (cellsS q)) := by
  have hst := run_storeCells_cells (P := Tryz.prog) g sLen (cellsS q) 0 w (by rw [cellsS_length]; simpa using hc) (by rw [cellsS_length]; simpa using hf) (cellsS_one q)
  simp only [Nat.add_zero] at hst
  have hfs := first_str q
  simp only [Builtin.append_, Builtin.lenOf, List.getElem?_toArray, List.getElem?_cons_zero, List.getElem?_cons_succ, Sem.run_bind, Sem.run_pure, run_underlying Tryz.underlying75, run_underlying Tryz.underlying9, Result.andThen_ok, Go.Proofs.YtmldkecaghokeaaGreatDoor.pb.si8]
  simp [hroom, Addr.add_lit, hfs, hst]
theorem below_setCells {B : Nat} (b : Nat) (hB : B ≤ b) : ∀ (vs : List Value) (o : Nat) (w : World), Below B w (w.setCells b o vs)
  | [], _, _ => Below.refl _ _
  | v :: r, o, w => ((Below.refl B w).setCell (p := ⟨b, o, none⟩) hB v).trans (below_setCells b hB r (o + 1) _)
theorem size_setCells (b : Nat) : ∀ (vs : List Value) (o : Nat) (w : World), (w.setCells b o vs).heap.size = w.heap.size
  | [], _, _ => rfl
  | v :: r, o, w => by rw [World.setCells, size_setCells b r (o + 1)]; simp [World.setCell]
open Go.Proofs.YtmldkecaghokeaaGreatDoor.na in
theorem appB (w : World) (base : Nat) (ty : TypeId) (v : Value) (s q : ByteArray) (h : OwB w base v s) (h63 : s.size + q.size ≤ 140737488355328) (hbase : base ≤ w.heap.size) :
    ∃ v' w', (Builtin.append_ #[75, 9] ty #[v, .string q]).run Tryz.prog w = .ok v' w' ∧ OwB w' base v' (s ++ q) ∧ Below base w w' := by
  obtain ⟨g, cap, rfl, hb, hg, h1, h2⟩ := h
  by_cases hroom : s.size + q.size ≤ cap
  · have hr := room_str w ty g s.size cap q hroom (fun j hj => (h2 _ (by omega) (by omega)).1) (fun j hj => (h2 _ (by omega) (by omega)).2)
    refine ⟨_, _, hr, ⟨g, cap, by rw [ByteArray.size_append], hb, by rw [size_setCells]; exact hg, fun j hj => ?_, fun j ha hc => ?_⟩, below_setCells g hb _ _ _⟩
    · rw [ByteArray.size_append] at hj
      rcases Nat.lt_or_ge j s.size with hj1 | hj1
      · rw [World.cell?_setCells_out g _ _ _ _ (fun _ _ => .inl hj1), h1 j hj1, bt_left _ _ _ hj1]
      · obtain ⟨k, rfl⟩ : ∃ k, j = s.size + k := ⟨j - s.size, by omega⟩
        rw [World.cell?_setCells_in g _ _ _ (fun i hi => (h2 _ (by omega) (by rw [cellsS_length] at hi; omega)).1) k (by rw [cellsS_length]; omega), cells_get q k (by omega), bt_right _ _ _ (by omega)]
    · rw [ByteArray.size_append] at ha
      rw [World.cell?_setCells_out g _ _ _ _ (fun _ _ => .inr (by rw [cellsS_length]; exact ha)), World.frozen?_setCells]
      exact h2 j (by omega) hc
  · obtain ⟨i, hi, hz0, hz1, hz2⟩ := info_parts info5
    have hlen : ((bs s).map (Value.int .u8)).length = s.size := by rw [List.length_map, bs_length]
    have holds : ∀ j u, ((bs s).map (Value.int .u8))[j]? = some u → w.cell? ((⟨g, 0, none⟩ : Addr).add j) = some u := by
      intro j u hj
      have hjl : j < s.size := by have := (List.getElem?_eq_some_iff.1 hj).1; rw [hlen] at this; exact this
      rw [Addr.add_mid, Nat.zero_add, h1 j hjl, ← hj, List.getElem?_map, List.getElem?_eq_getElem (by rw [bs_length]; exact hjl), bs_get s j hjl]
      rfl
    have hr := append_str_grow w ty i hi hz0 hz2 ⟨g, 0, none⟩ s.size cap ((bs s).map (Value.int .u8)) hlen holds q (by omega) h63
    have hge := grownCap_ge w (s.size + q.size) cap 5
    have hh := heap_alloc_new w.drew (.cells (((bs s).map (Value.int .u8)).toArray ++ (cellsS q).toArray ++ Builtin.zeroCells (Value.int .u8 0).cells (grownCap w (s.size + q.size) cap 5 - (s.size + q.size))) 5)
    refine ⟨_, _, hr, ⟨w.heap.size, _, by rw [ByteArray.size_append], hbase, by simp, fun j hj => ?_, fun j ha hc => ?_⟩, ((Below.refl _ _).drew).alloc hbase _⟩
    · have hcell := cell_of_row _ _ j _ _ _ hh
      have ed : w.drew.heap.size = w.heap.size := rfl
      rw [ed] at hcell
      rw [hcell]
      rw [ByteArray.size_append] at hj
      rw [Array.getElem?_append_left (by simp only [Array.size_append, List.size_toArray, hlen, cellsS_length]; exact hj)]
      rcases Nat.lt_or_ge j s.size with hj1 | hj1
      · rw [Array.getElem?_append_left (by simp only [List.size_toArray, hlen]; exact hj1), List.getElem?_toArray, List.getElem?_map, List.getElem?_eq_getElem (by rw [bs_length]; exact hj1), bs_get s j hj1, bt_left _ _ _ hj1]
        rfl
      · obtain ⟨k, rfl⟩ : ∃ k, j = s.size + k := ⟨j - s.size, by omega⟩
        rw [Array.getElem?_append_right (by simp only [List.size_toArray, hlen]; omega), List.getElem?_toArray]
        simp only [List.size_toArray, hlen, Nat.add_sub_cancel_left]
        rw [List.getElem?_eq_getElem (by rw [cellsS_length]; omega), cells_get q k (by omega), bt_right _ _ _ (by omega)]
    · have hcell := cell_of_row _ _ j _ _ _ hh
      have hfz := frozen_of_row _ _ j _ _ hh
      have ed : w.drew.heap.size = w.heap.size := rfl
      rw [ed] at hcell hfz
      refine ⟨?_, hfz⟩
      rw [hcell, Array.getElem?_eq_getElem]
      · rfl
      · have hz : (Value.int .u8 0).cells.size = 1 := rfl
        simp only [Array.size_append, List.size_toArray, size_zeroCells, hz, hlen, cellsS_length]
        omega
theorem wpList_appB {ops : Array Oper} {rest : List Oper} {o : Oper} {a : Act} {w : World} {Q : Exit → Act → World → Prop} (hgd : o.guard = none) (s x : Operand)
    (ho : o.op = .call { callee := .builtin .append, args := #[s, x], argTypes := #[75, 9] }) (base : Nat) (v : Value) (t q : ByteArray) (hs : a.eval s = v) (hown : OwB w base v t)
    (hx : a.eval x = .string q) (h63 : t.size + q.size ≤ 140737488355328) (hbase : base ≤ w.heap.size)
    (h : ∀ v' w', OwB w' base v' (t ++ q) → Below base w w' → wpList Tryz.prog ops Q rest (a.put o.dst v') w') : wpList Tryz.prog ops Q (o :: rest) a w := by
  obtain ⟨v', w', hr, h2, h3⟩ := appB w base o.type v t q hown h63 hbase
  refine wpList_plain hgd fun K hK => ?_
  unfold Oper.wp execOp
  simp only [ho, resolve, invoke, builtin, Sem.run_bind, Sem.run_pure, Result.andThen_ok, List.map_toArray, List.map_cons, List.map_nil, hs, hx, hr]
  exact hK _ _ (h v' w' h2 h3)
end Go.Proofs.YtmldkecaghokeaaGreatDoor.o8

namespace Go.Proofs.YtmldkecaghokeaaGreatDoor.o9
open Go.RowKit Go.PlainAid Go.Shelf
open Go.Proofs.YtmldkecaghokeaaGreatDoor.pj Go.Proofs.YtmldkecaghokeaaGreatDoor.rf Go.Proofs.YtmldkecaghokeaaGreatDoor.mo Go.Proofs.YtmldkecaghokeaaGreatDoor.nd Go.Proofs.YtmldkecaghokeaaGreatDoor.nh Go.Proofs.YtmldkecaghokeaaGreatDoor.tb Go.Proofs.YtmldkecaghokeaaGreatDoor.tc Go.Proofs.YtmldkecaghokeaaGreatDoor.tj Go.Proofs.YtmldkecaghokeaaGreatDoor.n1 Go.Proofs.YtmldkecaghokeaaGreatDoor.n3 Go.Proofs.YtmldkecaghokeaaGreatDoor.n4 Go.Proofs.YtmldkecaghokeaaGreatDoor.o1 Go.Proofs.YtmldkecaghokeaaGreatDoor.o3 Go.Proofs.YtmldkecaghokeaaGreatDoor.o4 Go.Proofs.YtmldkecaghokeaaGreatDoor.o5 Go.Proofs.YtmldkecaghokeaaGreatDoor.o6 Go.Proofs.YtmldkecaghokeaaGreatDoor.o7 Go.Proofs.YtmldkecaghokeaaGreatDoor.o8 Go.Proofs.YtmldkecaghokeaaGreatDoor.kp
set_option linter.unusedVariables false
set_option maxRecDepth 4000

theorem any_take (l : List Sg) (p : Sg → Bool) (k : Nat) (h : k < l.length) : (l.take (k + 1)).any p = ((l.take k).any p || p (l[k]'h)) := by
  rw [take_snoc l k h, List.any_append]; simp
set_option maxHeartbeats 1600000 in
theorem amongD (v : Value) (l : List Sg) (g : Sg) (w : World) (hr : ReadsG w v l) (hz : l.length ≤ 1000000) :
    Calls Tryz.prog 28 #[v, .agg #[.string g.name, .string g.id, .string g.mac]] w fun e w' => e = .returned (.bool (amg l g)) ∧ Below w.heap.size w w' := by
  obtain ⟨a, c, rfl, hcl⟩ := hr
  have HCL : Hid _ := hcl
  clear hcl
  obtain ⟨R, HR⟩ : ∃ R, Hid (amg l g = R) := ⟨_, rfl⟩
  rw [HR.out]
  obtain ⟨gn, gi, gm⟩ := g
  simp only at HR ⊢
  obtain ⟨n, HN⟩ : ∃ n, Hid (l.length = n) := ⟨_, rfl⟩
  have hzn : n ≤ 1000000 := by rw [← HN.out]; exact hz
  rw [HN.out]
  clear hz
  obtain ⟨W, HW⟩ : ∃ W, Hid (w.alloc (.cells #[.string gn, .string gi, .string gm] 48) = W) := ⟨_, rfl⟩
  have BW : Hid (Below w.heap.size w W) := by rw [← HW.out]; exact (Below.refl _ _).alloc (Nat.le_refl _) _
  have zW : W.heap.size = w.heap.size + 1 := by rw [← HW.out]; simp
  have SX : Hid (∀ w', Below (w.heap.size + 1) W w' → w'.cell? ⟨w.heap.size, 0, none⟩ = some (.string gn) ∧ w'.cell? ⟨w.heap.size, 1, none⟩ = some (.string gi) ∧ w'.cell? ⟨w.heap.size, 2, none⟩ = some (.string gm)) := by
    rw [← HW.out]; exact fun w' h => box3 w w' _ _ _ _ h
  go_enter Tryz.func28, Tryz.ntmps28
  go_wp2_with fail
  rw [HW.out]
  go_loopw [5] (fun i wr => ∃ k : Nat, k ≤ n ∧ i = .int .i64 k ∧ Hid ((l.take k).any (fun a => one a ⟨gn, gi, gm⟩) = false) ∧ Hid (Below (w.heap.size + 1) W wr)) (fun i _ => (n - intOf i).toNat)
  case atStart => exact ⟨0, by omega, rfl, rfl, Below.refl _ _⟩
  case round =>
    obtain ⟨k, hk, rfl, HK, HB⟩ := hrel
    obtain ⟨b0, b1, b2⟩ := SX.out _ HB.out
    have BB : Hid (Below w.heap.size w wr) := BW.out.trans (HB.out.mono (by omega))
    by_cases hlt : k < n
    · have hlt' : (k : Int) < n := by omega
      have hkl : k < l.length := by rw [HN.out]; exact hlt
      obtain ⟨b, off, rfl, hbw, hc⟩ : ∃ b off, a = some ⟨b, off, none⟩ ∧ b < w.heap.size ∧ ∀ i g, l[i]? = some g → w.cell? ⟨b, off + i * 3, none⟩ = some (.string g.name) ∧ w.cell? ⟨b, off + i * 3 + 1, none⟩ = some (.string g.id) ∧ w.cell? ⟨b, off + i * 3 + 2, none⟩ = some (.string g.mac) := by
        rcases HCL.out with h | h
        · omega
        · exact h
      obtain ⟨x, HX⟩ : ∃ x, Hid (l[k]'hkl = x) := ⟨_, rfl⟩
      obtain ⟨q1, q2, q3⟩ := hc k x (by rw [List.getElem?_eq_getElem hkl, HX.out])
      have c1 := (BB.out.cell (p := ⟨b, off + k * 3, none⟩) hbw).trans q1
      have c2 := (BB.out.cell (p := ⟨b, off + k * 3 + 1, none⟩) hbw).trans q2
      have HNX : Hid ((l.take (k + 1)).any (fun a => one a ⟨gn, gi, gm⟩) = (eqB x.name gn && eqB x.id gi)) := by
        show _ = _
        rw [any_take l _ k hkl, HK.out, HX.out, Bool.false_or]; rfl
      have HYES : Hid ((eqB x.name gn && eqB x.id gi) = true → R = true) := by
        intro h
        rw [← HR.out]
        unfold amg
        rw [List.any_eq_true]
        exact ⟨x, by rw [← HX.out]; exact List.getElem_mem hkl, h⟩
      have e1 := toList_eqB x.name gn
      have e2 := toList_eqB x.id gi
      have KN : Hid (∀ n, Below (w.heap.size + 1) W (wr.drewN n)) := fun n => below_dN HB.out n
      have KM : Hid (∀ n, Below w.heap.size w (wr.drewN n)) := fun n => below_dN BB.out n
      clear hc q1 q2 q3 HX
      obtain ⟨xn, xi, xm⟩ := x
      simp only at c1 c2 HNX HYES e1 e2
      generalize eqB xn gn = y1 at *
      generalize eqB xi gi = y2 at *
      cases y1
      · go_wp2_with fail
        go_quiet (fail)
        go_wp2
        go_roundw
        case rel => exact ⟨k + 1, by omega, by go_num, HNX, KN.out _⟩
        case measure => simp [intOf]; omega
      · cases y2
        · go_wp2_with fail
          go_quiet (fail)
          go_wp2
          go_roundw
          case rel => exact ⟨k + 1, by omega, by go_num, HNX, KN.out _⟩
          case measure => simp [intOf]; omega
        · have HT : Hid (R = true) := HYES.out rfl
          go_wp2_with fail
          go_quiet (fail)
          go_wp2
          go_ret
          exact ⟨by rw [HT.out]; rfl, KM.out _⟩
    · have hlt' : ¬ (k : Int) < n := by omega
      have HT : Hid (R = false) := by
        show _ = _
        rw [← HR.out, ← HK.out, List.take_of_length_le (by rw [HN.out]; omega)]
        rfl
      go_wp2
      go_ret
      exact ⟨by rw [HT.out]; rfl, BB.out⟩
def lnL : List Sg → Nat
  | [] => 0
  | g :: l => (lineOf g).size + lnL l
theorem lnL_app (a b : List Sg) : lnL (a ++ b) = lnL a + lnL b := by
  induction a with
  | nil => simp [lnL]
  | cons k a ih => simp only [List.cons_append, lnL, ih]; omega
theorem lnL_size (l : List Sg) : (flatB (l.map lineOf)).size = lnL l := by
  induction l with
  | nil => rfl
  | cons k l ih => simp only [List.map_cons, flatB, lnL, ByteArray.size_append, ih]
theorem note_sz (body : ByteArray) (l : List Sg) : (noteOf body l).size = body.size + 1 + lnL l := by
  unfold noteOf
  rw [ByteArray.size_append, ByteArray.size_append, lnL_size]
  rfl
theorem note_snoc (body : ByteArray) (l : List Sg) (g : Sg) : noteOf body (l ++ [g]) = noteOf body l ++ lineOf g := by
  unfold noteOf
  rw [List.map_append, flat_app, ← ByteArray.append_assoc]
  simp only [List.map_cons, List.map_nil, flatB, ByteArray.append_empty]
set_option maxHeartbeats 1600000 in
theorem writtenD (body : ByteArray) (v : Value) (l : List Sg) (w : World) (hr : ReadsG w v l) (hz : l.length ≤ 1000000) (hs : (noteOf body l).size ≤ 140737488355328) (hb0 : body.size + 1 ≤ 140737488352256) (hg : ∀ g ∈ l, g.name.size ≤ 140737488351232 ∧ g.id.size + g.mac.size ≤ 1000) :
    Calls Tryz.prog 29 #[.string body, v] w fun e w' => e = .returned (.string (noteOf body l)) ∧ Below w.heap.size w w' := by
  obtain ⟨a, c, rfl, hcl⟩ := hr
  have HCL : Hid _ := hcl
  have HG : Hid _ := hg
  clear hcl hg
  obtain ⟨R, HR⟩ : ∃ R, Hid (noteOf body l = R) := ⟨_, rfl⟩
  have HSZ : Hid (∀ k, k ≤ l.length → (noteOf body (l.take k)).size ≤ 140737488355328) := by
    intro k hk
    have e := congrArg lnL (List.take_append_drop k l)
    rw [lnL_app] at e
    rw [note_sz] at hs ⊢
    omega
  rw [HR.out]
  obtain ⟨n, HN⟩ : ∃ n, Hid (l.length = n) := ⟨_, rfl⟩
  have hzn : n ≤ 1000000 := by rw [← HN.out]; exact hz
  rw [HN.out] at HSZ ⊢
  clear hz hs
  obtain ⟨q, HQ⟩ : ∃ q, Hid (body ++ (⟨#[10]⟩ : ByteArray) = q) := ⟨_, rfl⟩
  have hq : body ++ (⟨#[10]⟩ : ByteArray) = q := HQ.out
  have hqz : q.size = body.size + 1 := by rw [← hq, ByteArray.size_append]; rfl
  obtain ⟨v0, w0, hcv, ho0, hb1⟩ := ofString w q (by omega)
  have HO0 : Hid (OwB w0 w.heap.size v0 q) := ho0
  have HB0 : Hid (Below w.heap.size w w0) := hb1
  clear ho0 hb1
  have HQ0 : Hid (noteOf body (l.take 0) = q) := by show _ = _; rw [← hq]; unfold noteOf; simp only [List.take_zero, List.map_nil, flatB, ByteArray.append_empty]
  go_enter Tryz.func29, Tryz.ntmps29
  go_wp2
  go_loopw [5, 6] (fun b i wr => ∃ k : Nat, k ≤ n ∧ i = .int .i64 k ∧ OwB wr w.heap.size b (noteOf body (l.take k)) ∧ Hid (Below w.heap.size w wr)) (fun _ i _ => (n - intOf i).toNat)
  case atStart => exact ⟨0, by omega, rfl, by rw [HQ0.out]; exact HO0.out, HB0⟩
  case round =>
    clear hcv HO0 HB0
    obtain ⟨k, hk, rfl, ho, HB⟩ := hrel
    obtain ⟨gg, cap, hv⟩ := ho.form
    have HO : Hid (OwB wr w.heap.size _ (noteOf body (l.take k))) := ho
    clear ho
    by_cases hlt : k < n
    · have hlt' : (k : Int) < n := by omega
      have hkl : k < l.length := by rw [HN.out]; exact hlt
      obtain ⟨b, off, rfl, hbw, hc⟩ : ∃ b off, a = some ⟨b, off, none⟩ ∧ b < w.heap.size ∧ ∀ i g, l[i]? = some g → w.cell? ⟨b, off + i * 3, none⟩ = some (.string g.name) ∧ w.cell? ⟨b, off + i * 3 + 1, none⟩ = some (.string g.id) ∧ w.cell? ⟨b, off + i * 3 + 2, none⟩ = some (.string g.mac) := by
        rcases HCL.out with h | h
        · omega
        · exact h
      obtain ⟨x, HX⟩ : ∃ x, Hid (l[k]'hkl = x) := ⟨_, rfl⟩
      obtain ⟨q1, q2, q3⟩ := hc k x (by rw [List.getElem?_eq_getElem hkl, HX.out])
      have c1 := (HB.out.cell (p := ⟨b, off + k * 3, none⟩) hbw).trans q1
      have c2 := (HB.out.cell (p := ⟨b, off + k * 3 + 1, none⟩) hbw).trans q2
      have c3 := (HB.out.cell (p := ⟨b, off + k * 3 + 2, none⟩) hbw).trans q3
      have hxg := HG.out x (by rw [← HX.out]; exact List.getElem_mem hkl)
      have D : Hid (Calls _ _ _ _ _) := lineD x hxg.1 hxg.2 wr
      have HNX : Hid (noteOf body (l.take (k + 1)) = noteOf body (l.take k) ++ lineOf x) := by show _ = _; rw [take_snoc l k hkl, HX.out, note_snoc]
      have hsz := HSZ.out (k + 1) (by omega)
      rw [HNX.out, ByteArray.size_append] at hsz
      clear hc q1 q2 q3 HX hxg
      obtain ⟨P0, HP0⟩ : ∃ P0, Hid (noteOf body (l.take k) = P0) := ⟨_, rfl⟩
      obtain ⟨P1, HP1⟩ : ∃ P1, Hid (noteOf body (l.take (k + 1)) = P1) := ⟨_, rfl⟩
      obtain ⟨L, HL⟩ : ∃ L, Hid (lineOf x = L) := ⟨_, rfl⟩
      rw [HP0.out, HL.out] at hsz
      rw [HP0.out, HP1.out, HL.out] at HNX
      rw [HP0.out] at HO hv
      rw [HL.out] at D
      obtain ⟨xn, xi, xm⟩ := x
      simp only at c1 c2 c3 D
      subst hv
      go_wp2_with fail
      refine D.out.mono ?_
      rintro e w1 ⟨rfl, hb1⟩
      have HO1 : Hid (OwB w1 w.heap.size (.slice (some ⟨gg, 0, none⟩) P0.size cap) P0) := HO.out.later hb1
      have B1 : Hid (Below w.heap.size w w1) := HB.out.trans (hb1.mono HB.out.size)
      clear hb1
      go_wp2_with (at_builtin; refine wpList_appB rfl (.tmp 22) (.tmp 23) rfl w.heap.size _ P0 L rfl HO1.out rfl (by omega) B1.out.size ?_; intro v2 w2 ho2 hb2; have HO2 : Hid (OwB w2 w.heap.size v2 (P0 ++ L)) := ho2; have B2 : Hid (Below w.heap.size w w2) := B1.out.trans hb2; clear ho2 hb2)
      go_roundw
      case rel => exact ⟨k + 1, by omega, by go_num, by rw [HP1.out, HNX.out]; exact HO2.out, B2⟩
      case measure => simp [intOf]; omega
    · have hlt' : ¬ (k : Int) < n := by omega
      have HEN : Hid (noteOf body (l.take k) = R) := by show _ = _; rw [← HR.out, List.take_of_length_le (by rw [HN.out]; omega)]
      rw [HEN.out] at HO hv
      have hcv := toString wr w.heap.size _ R HO.out
      subst hv
      go_wp2
      go_ret
      exact ⟨rfl, HB.out⟩
end Go.Proofs.YtmldkecaghokeaaGreatDoor.o9

namespace Go.Proofs.YtmldkecaghokeaaGreatDoor.p1
open Go.RowKit Go.PlainAid Go.Shelf
open Go.Proofs.YtmldkecaghokeaaGreatDoor.pj Go.Proofs.YtmldkecaghokeaaGreatDoor.rf Go.Proofs.YtmldkecaghokeaaGreatDoor.mo Go.Proofs.YtmldkecaghokeaaGreatDoor.nd Go.Proofs.YtmldkecaghokeaaGreatDoor.nh Go.Proofs.YtmldkecaghokeaaGreatDoor.tb Go.Proofs.YtmldkecaghokeaaGreatDoor.tc Go.Proofs.YtmldkecaghokeaaGreatDoor.tj Go.Proofs.YtmldkecaghokeaaGreatDoor.n1 Go.Proofs.YtmldkecaghokeaaGreatDoor.n3 Go.Proofs.YtmldkecaghokeaaGreatDoor.n4 Go.Proofs.YtmldkecaghokeaaGreatDoor.o1 Go.Proofs.YtmldkecaghokeaaGreatDoor.o3 Go.Proofs.YtmldkecaghokeaaGreatDoor.o4 Go.Proofs.YtmldkecaghokeaaGreatDoor.o5 Go.Proofs.YtmldkecaghokeaaGreatDoor.o6 Go.Proofs.YtmldkecaghokeaaGreatDoor.o7 Go.Proofs.YtmldkecaghokeaaGreatDoor.o8 Go.Proofs.YtmldkecaghokeaaGreatDoor.o9 Go.Proofs.YtmldkecaghokeaaGreatDoor.kp
set_option linter.unusedVariables false
set_option maxRecDepth 4000

theorem nm_le (s : ByteArray) (h : nm s = true) : s.size ≤ 64 := by
  unfold nm at h
  rw [Bool.and_eq_true, Bool.and_eq_true] at h
  exact of_decide_eq_true h.1.2
theorem tg_nm (ks : List Ky) : ∀ d, tgF d ks = 0 → ∀ k ∈ ks, nm k.1 = true := by
  induction ks with
  | nil => intro d _ k hk; cases hk
  | cons y ks ih =>
    intro d h k hk
    unfold tgF at h
    by_cases hn : nm y.1 = false
    · rw [if_pos hn] at h; cases h
    · rw [if_neg hn] at h
      split at h
      · cases h
      · rcases List.mem_cons.1 hk with rfl | hk
        · simpa using hn
        · exact ih _ h k hk
theorem tg_step (d : List Sg) (ks : List Ky) (body : ByteArray) (n : Nat) (h : n < ks.length) : tgF d (ks.drop n) = if nm (ks[n]'h).1 = false then 203 else if amg d (sigOf ks[n] body) then 200 else tgF (d ++ [sigOf ks[n] body]) (ks.drop (n + 1)) := by
  rw [tg_drop d ks n h]
  rw [amg_eq d d (bare ks[n]) (sigOf ks[n] body) rfl (by simp only [bare, sigOf]) (by simp only [bare, sigOf]), tgF_eq _ (d ++ [bare ks[n]]) (d ++ [sigOf ks[n] body]) (by rw [List.map_append, List.map_append]; simp only [bare, sigOf, List.map_cons, List.map_nil])]
theorem ln_sz (ks : List Ky) (body : ByteArray) : lnL (ks.map (sigOf · body)) = szL ks := by
  rw [← lnL_size]; exact flat_size ks body
theorem sz_small (ks : List Ky) (h : ∀ k ∈ ks, nm k.1 = true) : szL ks ≤ ks.length * 118 := by
  induction ks with
  | nil => simp [szL]
  | cons k l ih =>
    have h1 := nm_le k.1 (h k (by simp))
    have h2 := ih (fun x hx => h x (by simp [hx]))
    simp only [szL, List.length_cons]
    omega
end Go.Proofs.YtmldkecaghokeaaGreatDoor.p1
