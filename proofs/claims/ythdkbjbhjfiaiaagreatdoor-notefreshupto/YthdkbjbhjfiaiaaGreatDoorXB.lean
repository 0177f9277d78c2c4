import Derived.Test.YthdkbjbhjfiaiaaGreatDoorXA
import Derived.Laws.AppendOwn
import Derived.Laws.BitsAllLaws
namespace Go.Proofs.YthdkbjbhjfiaiaaGreatDoor.mo
open Go.RowKit Go.PlainAid
open Go.Proofs.YthdkbjbhjfiaiaaGreatDoor.pl Go.Proofs.YthdkbjbhjfiaiaaGreatDoor.pc Go.Proofs.YthdkbjbhjfiaiaaGreatDoor.pf Go.Proofs.YthdkbjbhjfiaiaaGreatDoor.pg Go.Proofs.YthdkbjbhjfiaiaaGreatDoor.ph Go.Proofs.YthdkbjbhjfiaiaaGreatDoor.pi Go.Proofs.YthdkbjbhjfiaiaaGreatDoor.ft Go.Proofs.YthdkbjbhjfiaiaaGreatDoor.pj
set_option linter.unusedVariables false
set_option maxRecDepth 4000

def lenV : Value → Nat | .slice _ n _ => n | _ => 0
-- the key as a block, each byte xored
def keyS (key : ByteArray) : ByteArray := if 64 < key.size then sha key else key
theorem keyS_size (key : ByteArray) : (keyS key).size ≤ 64 := by
  unfold keyS
  split
  · rw [sha_size]; omega
  · omega
def kbt (k : ByteArray) (j : Nat) : Int := if j < k.size then bt k j else 0
def keyL (k : ByteArray) (x : Int) (n : Nat) : List Int := (List.range n).map fun j => bits .xor .u8 (kbt k j) x
theorem keyL_length (k : ByteArray) (x : Int) (n : Nat) : (keyL k x n).length = n := by simp [keyL]
theorem keyL_succ (k : ByteArray) (x : Int) (n : Nat) : keyL k x (n + 1) = keyL k x n ++ [bits .xor .u8 (kbt k n) x] := by
  unfold keyL; rw [List.range_succ, List.map_append]; rfl
def keyedF (key : ByteArray) (x : Int) : ByteArray := str (keyL (keyS key) x 64)
theorem keyedF_size (key : ByteArray) (x : Int) : (keyedF key x).size = 64 := by rw [keyedF, str_size, keyL_length]
-- the code
def macF (key msg : ByteArray) : ByteArray := sha (keyedF key 92 ++ sha (keyedF key 54 ++ msg))
theorem macF_size (key msg : ByteArray) : (macF key msg).size = 32 := sha_size _
-- the chain
def lastF (key label : ByteArray) : Nat → ByteArray
  | 0 => ⟨#[]⟩
  | i + 1 => macF key (lastF key label i ++ label ++ str [((i + 1 : Nat) : Int)])
def outF (key label : ByteArray) : Nat → ByteArray
  | 0 => ⟨#[]⟩
  | i + 1 => outF key label i ++ lastF key label (i + 1)
theorem lastF_size (key label : ByteArray) (i : Nat) : (lastF key label i).size ≤ 32 := by
  cases i with
  | zero => show 0 ≤ 32; omega
  | succ i => rw [lastF, macF_size]; omega
theorem lastF_size' (key label : ByteArray) (i : Nat) : (lastF key label (i + 1)).size = 32 := by rw [lastF, macF_size]
theorem outF_size (key label : ByteArray) (i : Nat) : (outF key label i).size = 32 * i := by
  induction i with
  | zero => rfl
  | succ i ih => rw [outF, ByteArray.size_append, ih, lastF_size']; omega

theorem one_new (W : World) (u : Value) (t : TypeId) : (W.alloc (.cells #[u] t)).cell? ⟨W.heap.size, 0, none⟩ = some u := by
  rw [World.cell?_alloc_at _ _ _ _ rfl]; rfl
theorem one_new' (W : World) (a : Value) (t : TypeId) : ∀ j u, [a][j]? = some u → (W.alloc (.cells #[a] t)).cell? ((⟨W.heap.size, 0, none⟩ : Addr).add j) = some u := by
  intro j u hj
  rw [Addr.add_mid, Nat.zero_add, World.cell?_alloc_at _ _ _ _ rfl]
  simpa using hj

def derF (key label : ByteArray) (N : Nat) : ByteArray := (outF key label ((N + 31) / 32)).extract 0 N
theorem derF_size (key label : ByteArray) (N : Nat) : (derF key label N).size = N := by
  rw [derF, ByteArray.size_extract, outF_size]; omega
theorem derF_bt (key label : ByteArray) (N j : Nat) (h : j < N) : bt (derF key label N) j = bt (outF key label ((N + 31) / 32)) j := by
  rw [derF, bt_extract _ _ _ _ (by omega) (by rw [outF_size]; omega), Nat.zero_add]
end Go.Proofs.YthdkbjbhjfiaiaaGreatDoor.mo

namespace Go.Proofs.YthdkbjbhjfiaiaaGreatDoor.mp
open Go.RowKit Go.PlainAid
open Go.Proofs.YthdkbjbhjfiaiaaGreatDoor.pl Go.Proofs.YthdkbjbhjfiaiaaGreatDoor.pc Go.Proofs.YthdkbjbhjfiaiaaGreatDoor.pf Go.Proofs.YthdkbjbhjfiaiaaGreatDoor.pg Go.Proofs.YthdkbjbhjfiaiaaGreatDoor.ph Go.Proofs.YthdkbjbhjfiaiaaGreatDoor.pi Go.Proofs.YthdkbjbhjfiaiaaGreatDoor.ft Go.Proofs.YthdkbjbhjfiaiaaGreatDoor.pj Go.Proofs.YthdkbjbhjfiaiaaGreatDoor.re Go.Proofs.YthdkbjbhjfiaiaaGreatDoor.rf Go.Proofs.YthdkbjbhjfiaiaaGreatDoor.mo
set_option linter.unusedVariables false
set_option maxRecDepth 4000

-- the loop of the reference's keyed, by the key that it has by then
set_option maxHeartbeats 800000 in
theorem rkeyed (key : ByteArray) (x : Int) (w : World) (hk : key.size ≤ 140737488352256) (T : Hid (Tab4 w)) :
    Calls Tryz.prog 33 #[.string key, .int .u8 x] w fun e w' => e = .returned (.string (keyedF key x)) ∧ Below w.heap.size w w' := by
  obtain ⟨i5, hi, hz0, hz1, hz2⟩ := info_parts info5
  have HIN : Hid (_ ∧ _ ∧ _ ∧ _) := ⟨hi, hz0, hz1, hz2⟩
  clear hi hz0 hz1 hz2
  have HS := keyS_size key
  by_cases h64 : 64 < key.size
  · have h64' : (key.size : Int) > 64 := by omega
    have HKS : Hid (keyS key = sha key) := by show _ = _; unfold keyS; rw [if_pos h64]
    go_enter Tryz.func33, Tryz.ntmps33
    go_wp2_with fail
    refine (RSum key _ hk T.out).mono ?_
    rintro e w1 ⟨rfl, hb1⟩
    rw [← HKS.out]
    have HB1 : Hid (Below w.heap.size w w1) := hb1
    clear hb1
    have HF : Hid (str (keyL (keyS key) x 64) = keyedF key x) := rfl
    generalize keyS key = k at *
    go_wp2_with fail
    go_loopw [5, 6] (fun out i wr => ∃ n : Nat, n ≤ 64 ∧ i = .int .i64 n ∧ wr.ownsRow w.heap.size 5 1 out n ((keyL k x n).map (Value.int .u8)) ∧ Below w.heap.size w wr) (fun _ i _ => (64 - intOf i).toNat)
    case atStart => exact ⟨0, by omega, rfl, World.ownsRow_nil _ _ _ _, HB1.out⟩
    case round =>
      obtain ⟨n, hn, rfl, hown, hbel⟩ := hrel
      have HOWN : Hid (World.ownsRow _ _ _ _ _ _ _) := hown
      have HBEL : Hid (Below _ _ _) := hbel
      clear hown hbel HB1
      by_cases hlt : n < 64
      · have hlt' : (n : Int) < 64 := by omega
        have hbt := get_bt k
        have b0 := bt_nonneg k n
        have b1 := bt_le k n
        by_cases hin : n < k.size
        · have hin' : (n : Int) < k.size := by omega
          have HX : Hid (kbt k n = bt k n) := by show _ = _; unfold kbt; rw [if_pos hin]
          go_wp2_with (at_builtin; refine wpList_append_own _ rfl _ _ 77 rfl w.heap.size 5 i5 (.int .u8 0) 1 1 Tryz.underlying77 HIN.out.1 HIN.out.2.1 HIN.out.2.2.1 HIN.out.2.2.2 rfl (by decide) _ _ _ rfl (HOWN.out.alloc _) ⟨wr.heap.size, 0, none⟩ 1 1 [.int .u8 (bits .xor .u8 (bt k n) x)] rfl rfl (one_new' _ _ _) (fun u hu => by simp at hu; subst hu; rfl) (by unfold maxLen; omega) (by omega) (by have := HBEL.out.size; simp; omega) ?_; intro v' w3 hown' hgrow3 hnil3; have HOWN3 : Hid (World.ownsRow _ _ _ _ _ _ _) := hown'; have HBEL3 : Hid (Below w.heap.size w w3) := Below.grown (HBEL.out.alloc HBEL.out.size _) hgrow3 (by have := HBEL.out.size; simp; omega) (fun j hj => (HOWN.out.lt _ hj).1); clear hown' hgrow3 hnil3)
          go_roundw
          case rel =>
            refine ⟨n + 1, by omega, by go_num, ?_, HBEL3.out⟩
            rw [keyL_succ, HX.out, List.map_append]
            exact HOWN3.out
          case measure => simp [intOf]; omega
        · have hin' : ¬ (n : Int) < k.size := by omega
          have HX : Hid (kbt k n = 0) := by show _ = _; unfold kbt; rw [if_neg hin]
          go_wp2_with (at_builtin; refine wpList_append_own _ rfl _ _ 77 rfl w.heap.size 5 i5 (.int .u8 0) 1 1 Tryz.underlying77 HIN.out.1 HIN.out.2.1 HIN.out.2.2.1 HIN.out.2.2.2 rfl (by decide) _ _ _ rfl (HOWN.out.alloc _) ⟨wr.heap.size, 0, none⟩ 1 1 [.int .u8 (bits .xor .u8 0 x)] rfl rfl (one_new' _ _ _) (fun u hu => by simp at hu; subst hu; rfl) (by unfold maxLen; omega) (by omega) (by have := HBEL.out.size; simp; omega) ?_; intro v' w3 hown' hgrow3 hnil3; have HOWN3 : Hid (World.ownsRow _ _ _ _ _ _ _) := hown'; have HBEL3 : Hid (Below w.heap.size w w3) := Below.grown (HBEL.out.alloc HBEL.out.size _) hgrow3 (by have := HBEL.out.size; simp; omega) (fun j hj => (HOWN.out.lt _ hj).1); clear hown' hgrow3 hnil3)
          go_roundw
          case rel =>
            refine ⟨n + 1, by omega, by go_num, ?_, HBEL3.out⟩
            rw [keyL_succ, HX.out, List.map_append]
            exact HOWN3.out
          case measure => simp [intOf]; omega
      · have hlt' : ¬ (n : Int) < 64 := by omega
        obtain rfl : n = 64 := by omega
        have hcv := own_conv wr w.heap.size _ (keyL k x 64) 64 (by rw [keyL_length]) (by omega) HOWN.out
        rw [HF.out] at hcv
        go_wp2
        go_ret
        exact ⟨rfl, HBEL.out⟩
  · have h64' : ¬ (key.size : Int) > 64 := by omega
    have HKS : Hid (keyS key = key) := by show _ = _; unfold keyS; rw [if_neg h64]
    have HF : Hid (str (keyL key x 64) = keyedF key x) := by show _ = _; unfold keyedF; rw [HKS.out]
    have HB1 : Hid (Below w.heap.size w w) := Below.refl _ _
    go_enter Tryz.func33, Tryz.ntmps33
    go_wp2_with fail
    go_loopw [5, 6] (fun out i wr => ∃ n : Nat, n ≤ 64 ∧ i = .int .i64 n ∧ wr.ownsRow w.heap.size 5 1 out n ((keyL key x n).map (Value.int .u8)) ∧ Below w.heap.size w wr) (fun _ i _ => (64 - intOf i).toNat)
    case atStart => exact ⟨0, by omega, rfl, World.ownsRow_nil _ _ _ _, HB1.out⟩
    case round =>
      obtain ⟨n, hn, rfl, hown, hbel⟩ := hrel
      have HOWN : Hid (World.ownsRow _ _ _ _ _ _ _) := hown
      have HBEL : Hid (Below _ _ _) := hbel
      clear hown hbel HB1
      by_cases hlt : n < 64
      · have hlt' : (n : Int) < 64 := by omega
        have hbt := get_bt key
        have b0 := bt_nonneg key n
        have b1 := bt_le key n
        by_cases hin : n < key.size
        · have hin' : (n : Int) < key.size := by omega
          have HX : Hid (kbt key n = bt key n) := by show _ = _; unfold kbt; rw [if_pos hin]
          go_wp2_with (at_builtin; refine wpList_append_own _ rfl _ _ 77 rfl w.heap.size 5 i5 (.int .u8 0) 1 1 Tryz.underlying77 HIN.out.1 HIN.out.2.1 HIN.out.2.2.1 HIN.out.2.2.2 rfl (by decide) _ _ _ rfl (HOWN.out.alloc _) ⟨wr.heap.size, 0, none⟩ 1 1 [.int .u8 (bits .xor .u8 (bt key n) x)] rfl rfl (one_new' _ _ _) (fun u hu => by simp at hu; subst hu; rfl) (by unfold maxLen; omega) (by omega) (by have := HBEL.out.size; simp; omega) ?_; intro v' w3 hown' hgrow3 hnil3; have HOWN3 : Hid (World.ownsRow _ _ _ _ _ _ _) := hown'; have HBEL3 : Hid (Below w.heap.size w w3) := Below.grown (HBEL.out.alloc HBEL.out.size _) hgrow3 (by have := HBEL.out.size; simp; omega) (fun j hj => (HOWN.out.lt _ hj).1); clear hown' hgrow3 hnil3)
          go_roundw
          case rel =>
            refine ⟨n + 1, by omega, by go_num, ?_, HBEL3.out⟩
            rw [keyL_succ, HX.out, List.map_append]
            exact HOWN3.out
          case measure => simp [intOf]; omega
        · have hin' : ¬ (n : Int) < key.size := by omega
          have HX : Hid (kbt key n = 0) := by show _ = _; unfold kbt; rw [if_neg hin]
          go_wp2_with (at_builtin; refine wpList_append_own _ rfl _ _ 77 rfl w.heap.size 5 i5 (.int .u8 0) 1 1 Tryz.underlying77 HIN.out.1 HIN.out.2.1 HIN.out.2.2.1 HIN.out.2.2.2 rfl (by decide) _ _ _ rfl (HOWN.out.alloc _) ⟨wr.heap.size, 0, none⟩ 1 1 [.int .u8 (bits .xor .u8 0 x)] rfl rfl (one_new' _ _ _) (fun u hu => by simp at hu; subst hu; rfl) (by unfold maxLen; omega) (by omega) (by have := HBEL.out.size; simp; omega) ?_; intro v' w3 hown' hgrow3 hnil3; have HOWN3 : Hid (World.ownsRow _ _ _ _ _ _ _) := hown'; have HBEL3 : Hid (Below w.heap.size w w3) := Below.grown (HBEL.out.alloc HBEL.out.size _) hgrow3 (by have := HBEL.out.size; simp; omega) (fun j hj => (HOWN.out.lt _ hj).1); clear hown' hgrow3 hnil3)
          go_roundw
          case rel =>
            refine ⟨n + 1, by omega, by go_num, ?_, HBEL3.out⟩
            rw [keyL_succ, HX.out, List.map_append]
            exact HOWN3.out
          case measure => simp [intOf]; omega
      · have hlt' : ¬ (n : Int) < 64 := by omega
        obtain rfl : n = 64 := by omega
        have hcv := own_conv wr w.heap.size _ (keyL key x 64) 64 (by rw [keyL_length]) (by omega) HOWN.out
        rw [HF.out] at hcv
        go_wp2
        go_ret
        exact ⟨rfl, HBEL.out⟩
end Go.Proofs.YthdkbjbhjfiaiaaGreatDoor.mp

namespace Go.Proofs.YthdkbjbhjfiaiaaGreatDoor.mq
open Go.RowKit Go.PlainAid
open Go.Proofs.YthdkbjbhjfiaiaaGreatDoor.pl Go.Proofs.YthdkbjbhjfiaiaaGreatDoor.pc Go.Proofs.YthdkbjbhjfiaiaaGreatDoor.pf Go.Proofs.YthdkbjbhjfiaiaaGreatDoor.pg Go.Proofs.YthdkbjbhjfiaiaaGreatDoor.ph Go.Proofs.YthdkbjbhjfiaiaaGreatDoor.pi Go.Proofs.YthdkbjbhjfiaiaaGreatDoor.ft Go.Proofs.YthdkbjbhjfiaiaaGreatDoor.pj Go.Proofs.YthdkbjbhjfiaiaaGreatDoor.re Go.Proofs.YthdkbjbhjfiaiaaGreatDoor.rf Go.Proofs.YthdkbjbhjfiaiaaGreatDoor.mo Go.Proofs.YthdkbjbhjfiaiaaGreatDoor.mp
set_option linter.unusedVariables false
set_option maxRecDepth 4000

set_option maxHeartbeats 800000 in
theorem rmac (key msg : ByteArray) (w : World) (hk : key.size ≤ 140737488352256) (hm : msg.size ≤ 140737488352000) (T : Hid (Tab4 w)) :
    Calls Tryz.prog 14 #[.string key, .string msg] w fun e w' => e = .returned (.string (macF key msg)) ∧ Below w.heap.size w w' := by
  have R1 : Hid (Calls _ _ _ _ _) := rkeyed key 54 w hk T
  have R2 : Hid (∀ w', Tab4 w' → Calls _ _ _ _ _) := fun w' t => rkeyed key 92 w' hk t
  have HM : Hid (macF key msg = sha (keyedF key 92 ++ sha (keyedF key 54 ++ msg))) := rfl
  rw [HM.out]
  clear HM
  have z1 := keyedF_size key 54
  have z2 := keyedF_size key 92
  generalize keyedF key 54 = k1 at *
  generalize keyedF key 92 = k2 at *
  obtain ⟨a, HA⟩ : ∃ a, k1 ++ msg = a := ⟨_, rfl⟩
  have za : a.size = 64 + msg.size := by rw [← HA, ByteArray.size_append, z1]
  rw [HA]
  have R3 : Hid (∀ w', Tab4 w' → Calls _ _ _ _ _) := fun w' t => RSum a w' (by omega) t
  have zs := sha_size a
  generalize sha a = sa at *
  obtain ⟨b, HB⟩ : ∃ b, k2 ++ sa = b := ⟨_, rfl⟩
  have zb : b.size = 96 := by rw [← HB, ByteArray.size_append, z2, zs]
  rw [HB]
  go_enter Tryz.func14, Tryz.ntmps14
  go_wp2_with fail
  refine R1.out.mono ?_
  rintro e w1 ⟨rfl, hb1⟩
  have B1 : Hid (Below w.heap.size w w1) := hb1
  clear hb1
  go_wp2_with fail
  refine (R3.out _ (T.out.down B1.out)).mono ?_
  rintro e w2 ⟨rfl, hb2⟩
  have B2 : Hid (Below w.heap.size w w2) := B1.out.trans (hb2.mono B1.out.size)
  clear hb2
  go_wp2_with fail
  refine (R2.out _ (T.out.down B2.out)).mono ?_
  rintro e w3 ⟨rfl, hb3⟩
  have B3 : Hid (Below w.heap.size w w3) := B2.out.trans (hb3.mono B2.out.size)
  clear hb3
  go_wp2_with fail
  refine (RSum b _ (by omega) (T.out.down B3.out)).mono ?_
  rintro e w4 ⟨rfl, hb4⟩
  have B4 : Hid (Below w.heap.size w w4) := B3.out.trans (hb4.mono B3.out.size)
  clear hb4
  go_wp2
  go_ret
  exact ⟨rfl, B4.out⟩


end Go.Proofs.YthdkbjbhjfiaiaaGreatDoor.mq

namespace Go.Proofs.YthdkbjbhjfiaiaaGreatDoor.na
open Go.RowKit Go.PlainAid
open Go.Proofs.YthdkbjbhjfiaiaaGreatDoor.pl Go.Proofs.YthdkbjbhjfiaiaaGreatDoor.pb Go.Proofs.YthdkbjbhjfiaiaaGreatDoor.pc Go.Proofs.YthdkbjbhjfiaiaaGreatDoor.pd Go.Proofs.YthdkbjbhjfiaiaaGreatDoor.pf Go.Proofs.YthdkbjbhjfiaiaaGreatDoor.pg Go.Proofs.YthdkbjbhjfiaiaaGreatDoor.ph Go.Proofs.YthdkbjbhjfiaiaaGreatDoor.pi Go.Proofs.YthdkbjbhjfiaiaaGreatDoor.ft Go.Proofs.YthdkbjbhjfiaiaaGreatDoor.pj Go.Proofs.YthdkbjbhjfiaiaaGreatDoor.mo
set_option linter.unusedVariables false
set_option maxRecDepth 4000

-- the bytes of a text, as cells
def cellsS (q : ByteArray) : List Value := (btL q q.size).map (Value.int .u8)
theorem cellsS_length (q : ByteArray) : (cellsS q).length = q.size := by rw [cellsS, List.length_map, btL_length]
theorem cellsS_first (q : ByteArray) : ((q.extract 0 q.size).data.map fun b => Value.int .u8 b.toNat) = (cellsS q).toArray := by
  apply Array.ext'
  rw [first_cells q q.size (Nat.le_refl _)]
  rfl
theorem cellsS_one (q : ByteArray) : ∀ u ∈ cellsS q, u.oneCell' = true := by
  intro u hu
  obtain ⟨x, _, rfl⟩ := List.mem_map.1 hu
  rfl

theorem first_str (q : ByteArray) (W : World) : (Builtin.firstCells 1 q.size (.string q)).run Tryz.prog W = .ok (cellsS q).toArray W := by
  simp only [Builtin.firstCells, cellsS_first q, Sem.run_pure]

theorem append_str_room (w : World) (ty : TypeId) (g sLen sCap : Nat) (cur : Array Value) (hg : w.heap[g]? = some (.cells cur 5 (0, 0))) (q : ByteArray) (hroom : sLen + q.size ≤ sCap) (hfit : sLen + q.size ≤ cur.size) :
    (Builtin.append_ #[77, 9] ty #[.slice (some ⟨g, 0, none⟩) sLen sCap, .string q]).run Tryz.prog w =
      .ok (.slice (some ⟨g, 0, none⟩) (sLen + q.size) sCap) (w.setRow g (cur.toList.take sLen ++ cellsS q ++ cur.toList.drop (sLen + q.size)).toArray) := by
  have hst := run_storeCells_at Tryz.prog g sLen 5 (cellsS q) 0 cur w hg (by rw [cellsS_length]; simpa using hfit) (cellsS_one q)
  simp only [Nat.add_zero, cellsS_length] at hst
  have hf := first_str q
  simp only [Builtin.append_, Builtin.lenOf, List.getElem?_toArray, List.getElem?_cons_zero, List.getElem?_cons_succ, Sem.run_bind, Sem.run_pure, run_underlying Tryz.underlying77, run_underlying Tryz.underlying9, Result.andThen_ok, si8]
  simp [hroom, Addr.add_lit, hf, hst]

theorem append_str_grow (w : World) (ty : TypeId) (i : TypeInfo) (hi : Tryz.prog.info? 5 = some i) (hz : i.zero = some (.int .u8 0)) (hb : i.bytes = 1) (b : Addr) (sLen sCap : Nat) (olds : List Value) (hlo : olds.length = sLen) (holds : ∀ j u, olds[j]? = some u → w.cell? (b.add j) = some u) (q : ByteArray)
    (hg : sCap < sLen + q.size) (h63 : sLen + q.size ≤ 140737488355328) :
    (Builtin.append_ #[77, 9] ty #[.slice (some b) sLen sCap, .string q]).run Tryz.prog w =
      .ok (.slice (some ⟨w.heap.size, 0, none⟩) (sLen + q.size) (grownCap w (sLen + q.size) sCap 5))
        (w.drew.alloc (.cells (olds.toArray ++ (cellsS q).toArray ++ Builtin.zeroCells (Value.int .u8 0).cells (grownCap w (sLen + q.size) sCap 5 - (sLen + q.size))) 5)) := by
  have hn : ¬ (sLen + q.size ≤ sCap) := by omega
  have h63' : ¬ (9223372036854775807 < ((sLen : Int) + (q.size : Int))) := by omega
  have h48' : ¬ (281474976710656 < Builtin.nextslicecap (sLen + q.size) sCap) := by
    have := growslice_fits (need := sLen + q.size) (old := sCap) (bytes := 1) (by omega) (by omega)
    omega
  have hfo := run_firstCells_some (P := Tryz.prog) w.drew 1 sLen b sLen sCap olds (by rw [hlo, Nat.mul_one]) (by simpa using holds)
  have hf := first_str q
  simp only [Builtin.append_, Builtin.lenOf, List.getElem?_toArray, List.getElem?_cons_zero, List.getElem?_cons_succ, Sem.run_bind, Sem.run_pure, run_underlying Tryz.underlying77, run_underlying Tryz.underlying9, Result.andThen_ok, si8]
  simp [typeInfo, zeroValue, hi, hz, hb, hn, h63', h48', Question.forced, hf, hfo, newRow, grownCap]
  congr 2
  apply Array.ext'
  simp [List.append_assoc]

-- append(out, text...) where out is a row of the call's own
theorem run_append_str (w : World) (base : Nat) (ty : TypeId) (v : Value) (n : Nat) (xs : List Value) (hown : w.ownsRow base 5 1 v n xs) (q : ByteArray) (h63 : n + q.size ≤ 140737488355328) (hbase : base ≤ w.heap.size) :
    ∃ v' w', (Builtin.append_ #[77, 9] ty #[v, .string q]).run Tryz.prog w = .ok v' w' ∧ w'.ownsRow base 5 1 v' (n + q.size) (xs ++ cellsS q) ∧ w.grownBy w' v.ownBlock := by
  obtain ⟨i, hi, hz0, hz1, hz2⟩ := info_parts info5
  have hlx : xs.length = n := by rw [hown.1, Nat.mul_one]
  have hlen : (xs ++ cellsS q).length = (n + q.size) * 1 := by rw [List.length_append, cellsS_length, hlx, Nat.mul_one]
  have hm : n + q.size ≤ maxLen := by unfold maxLen; omega
  have grown : ∀ (old : Nat), old < n + q.size → ∀ (row : Option Nat),
      (w.drew.alloc (.cells (xs.toArray ++ (cellsS q).toArray ++ Builtin.zeroCells (Value.int .u8 0).cells (grownCap w (n + q.size) old 5 - (n + q.size))) 5)).ownsRow base 5 1
        (.slice (some ⟨w.heap.size, 0, none⟩) (n + q.size) (grownCap w (n + q.size) old 5)) (n + q.size) (xs ++ cellsS q) ∧
      w.grownBy (w.drew.alloc (.cells (xs.toArray ++ (cellsS q).toArray ++ Builtin.zeroCells (Value.int .u8 0).cells (grownCap w (n + q.size) old 5 - (n + q.size))) 5)) row := by
    intro old ho row
    have hge := grownCap_ge w (n + q.size) old 5
    have hcm : grownCap w (n + q.size) old 5 ≤ maxLen := grownCap_le_maxLen w (n + q.size) old 5 hm
    refine ⟨⟨hlen, .inr ⟨w.heap.size, _, _, rfl, hbase, heap_alloc_new w.drew _, hge, hcm, ?_, ?_⟩⟩, ⟨rfl, rfl, rfl, by simp, fun k hk _ => heap_alloc_old w.drew _ hk⟩⟩
    · have hz : (Value.int .u8 0).cells.size = 1 := rfl
      simp only [Array.size_append, List.size_toArray, size_zeroCells, hz, hlx, cellsS_length]
      omega
    · simp only [Array.toList_append, List.append_assoc]
      rw [← List.append_assoc, ← hlen]
      exact List.take_left
  rcases hown.2 with ⟨rfl, rfl⟩ | ⟨g, cap, cur, rfl, hbg, hg, hnc, hcm, hcs, htake⟩
  · have hx : xs = [] := List.eq_nil_of_length_eq_zero (by simpa using hown.1)
    subst hx
    by_cases hq : q.size = 0
    · have hn : cellsS q = [] := List.eq_nil_of_length_eq_zero (by rw [cellsS_length]; exact hq)
      refine ⟨.slice none 0 0, w, ?_, ?_, ⟨rfl, rfl, rfl, Nat.le_refl _, fun _ _ _ => rfl⟩⟩
      · have hf := first_str q
        rw [hq, hn] at hf
        simp only [Builtin.append_, Builtin.lenOf, List.getElem?_toArray, List.getElem?_cons_zero, List.getElem?_cons_succ, Sem.run_bind, Sem.run_pure, run_underlying Tryz.underlying77, run_underlying Tryz.underlying9, Result.andThen_ok, si8]
        simp [hq, hf]
      · rw [hq, hn]; exact World.ownsRow_nil w base 5 1
    · have hr := run_append_nil_string (P := Tryz.prog) w 77 9 ty 5 i (.int .u8 0) Tryz.underlying77 Tryz.underlying9 hi hz0 q (by omega) (by omega) (by rw [hz2]; omega)
      have hgr := grown 0 (by omega) (Value.ownBlock (.slice none 0 0))
      simp only [Nat.zero_add, List.nil_append, Array.empty_append] at hgr ⊢
      have e : (q.data.map fun b => Value.int .u8 (b.toNat : Int)) = (cellsS q).toArray := by
        rw [← cellsS_first q]
        congr 2
        exact (ByteArray.extract_zero_size (b := q)).symm ▸ rfl
      rw [e] at hr
      exact ⟨_, _, hr, hgr.1, hgr.2⟩
  · by_cases hroom : n + q.size ≤ cap
    · have hr := append_str_room w ty g n cap cur hg q hroom (by omega)
      refine ⟨_, _, hr, ⟨hlen, .inr ⟨g, cap, _, rfl, hbg, setRow_heap w g cur _ 5 _ hg, hroom, hcm, ?_, ?_⟩⟩, ⟨rfl, rfl, rfl, by simp, fun k _ hk => setRow_other w g k _ (fun e => hk (by simp [Value.ownBlock, e]))⟩⟩
      · simp only [List.size_toArray, List.length_append, List.length_take, List.length_drop, Array.length_toList, cellsS_length]
        omega
      · rw [show n = n * 1 by omega, htake, show (n * 1 + q.size) * 1 = (n + q.size) * 1 by omega, ← hlen]
        exact List.take_left
    · have holds : ∀ j u, xs[j]? = some u → w.cell? ((⟨g, 0, none⟩ : Addr).add j) = some u := hown.cells (g := g) rfl
      have hr := append_str_grow w ty i hi hz0 hz2 ⟨g, 0, none⟩ n cap xs hlx holds q (by omega) h63
      have hgr := grown cap (by omega) (Value.ownBlock (.slice (some ⟨g, 0, none⟩) n cap))
      exact ⟨_, _, hr, hgr.1, hgr.2⟩

theorem wpList_append_str {ops : Array Oper} {rest : List Oper} {o : Oper} {a : Act} {w : World} {Q : Exit → Act → World → Prop} (hgd : o.guard = none) (s x : Operand)
    (ho : o.op = .call { callee := .builtin .append, args := #[s, x], argTypes := #[77, 9] }) (base : Nat) (v : Value) (n : Nat) (xs : List Value) (hs : a.eval s = v) (hown : w.ownsRow base 5 1 v n xs)
    (q : ByteArray) (hx : a.eval x = .string q) (h63 : n + q.size ≤ 140737488355328) (hbase : base ≤ w.heap.size)
    (h : ∀ v' w', w'.ownsRow base 5 1 v' (n + q.size) (xs ++ cellsS q) → w.grownBy w' v.ownBlock → wpList Tryz.prog ops Q rest (a.put o.dst v') w') : wpList Tryz.prog ops Q (o :: rest) a w := by
  obtain ⟨v', w', hr, h2, h3⟩ := run_append_str w base o.type v n xs hown q h63 hbase
  refine wpList_plain hgd fun K hK => ?_
  unfold Oper.wp execOp
  simp only [ho, resolve, invoke, builtin, Sem.run_bind, Sem.run_pure, Result.andThen_ok, List.map_toArray, List.map_cons, List.map_nil, hs, hx, hr]
  exact hK _ _ (h v' w' h2 h3)
end Go.Proofs.YthdkbjbhjfiaiaaGreatDoor.na

namespace Go.Proofs.YthdkbjbhjfiaiaaGreatDoor.nb
open Go.RowKit Go.PlainAid
open Go.Proofs.YthdkbjbhjfiaiaaGreatDoor.pl Go.Proofs.YthdkbjbhjfiaiaaGreatDoor.pb Go.Proofs.YthdkbjbhjfiaiaaGreatDoor.pc Go.Proofs.YthdkbjbhjfiaiaaGreatDoor.pd Go.Proofs.YthdkbjbhjfiaiaaGreatDoor.pe Go.Proofs.YthdkbjbhjfiaiaaGreatDoor.pf Go.Proofs.YthdkbjbhjfiaiaaGreatDoor.pg Go.Proofs.YthdkbjbhjfiaiaaGreatDoor.ph Go.Proofs.YthdkbjbhjfiaiaaGreatDoor.pi Go.Proofs.YthdkbjbhjfiaiaaGreatDoor.ft Go.Proofs.YthdkbjbhjfiaiaaGreatDoor.pj Go.Proofs.YthdkbjbhjfiaiaaGreatDoor.mo Go.Proofs.YthdkbjbhjfiaiaaGreatDoor.na
set_option linter.unusedVariables false
set_option maxRecDepth 4000

-- the key as a block
def fillL (k : ByteArray) : List Int := (List.range 64).map (kbt k)
theorem fillL_length (k : ByteArray) : (fillL k).length = 64 := by simp [fillL]
theorem fillL_get (k : ByteArray) (j : Nat) (h : j < 64) : (fillL k)[j]? = some (kbt k j) := by simp [fillL, h]
def zL64 : List Int := List.replicate 64 0
def zB : Array Value := row zL64
theorem filled_row (k : ByteArray) (n : Nat) (hn : n = k.size) (h : k.size ≤ 64) : ((row zL64).toList.take 0 ++ (btL k n).map (Value.int .u8) ++ (row zL64).toList.drop (0 + n)).toArray = row (fillL k) := by
  subst hn
  apply Array.ext_getElem?
  intro j
  rw [row_get]
  by_cases hj : j < 64
  · rw [fillL_get k j hj]
    rw [List.getElem?_toArray, List.take_zero, List.nil_append, Nat.zero_add]
    by_cases hk : j < k.size
    · rw [List.getElem?_append_left (by rw [List.length_map, btL_length]; exact hk)]
      simp [kbt, btL, hk]
    · rw [List.getElem?_append_right (by rw [List.length_map, btL_length]; omega), List.length_map, btL_length, List.getElem?_drop, Array.getElem?_toList, row_get, zL64, List.getElem?_replicate, if_pos (by omega)]
      simp [kbt, hk]
  · rw [List.getElem?_eq_none (by rw [fillL_length]; omega)]
    simp [zL64, row, btL_length]
    omega

theorem alloc64b (W : World) : (Instr.alloc 90 true (.tuple #[])).run Tryz.prog W = .ok (.pointer (some ⟨W.heap.size, 0, none⟩)) (W.alloc (.cells (row zL64) 90)) := by kernel_rfl

theorem sliceAt_all (b : Nat) (W : World) :
    (Instr.sliceAt 90 (.pointer (some ⟨b, 0, none⟩)) none none none).run Tryz.prog W = .ok (.slice (some ⟨b, 0, none⟩) 64 64) W := by
  rw [run_sliceAt_array_all W 90 _ un64, el64, al64]
  first | rfl | simp [slicedAt, si8]

theorem World.lt_of_heap {w : World} {b : Nat} {o : Obj} (h : w.heap[b]? = some o) : b < w.heap.size := (Array.getElem?_eq_some_iff.1 h).1

set_option maxHeartbeats 800000 in
theorem filled (key : ByteArray) (w : World) (hk : key.size ≤ 140737488352256) (T : Hid (Tab w)) :
    Calls Tryz.prog 50 #[.string key] w fun e w' => e = .returned (.agg (row (fillL (keyS key)))) ∧ Below w.heap.size w w' := by
  have HS := keyS_size key
  have HB0 : Hid (Below w.heap.size w (w.alloc (.cells (row zL64) 90))) := (Below.refl _ _).alloc (Nat.le_refl _) _
  have HR0 : Hid ((w.alloc (.cells (row zL64) 90)).heap[w.heap.size]? = some (.cells (row zL64) 90 (0, 0))) := heap_alloc_new w _
  have ws0 : (w.alloc (.cells (row zL64) 90)).heap.size = w.heap.size + 1 := by simp
  by_cases h64 : 64 < key.size
  · have h64' : (key.size : Int) > 64 := by omega
    have HKS : Hid (keyS key = sha key) := by show _ = _; unfold keyS; rw [if_pos h64]
    go_enter Tryz.func50, Tryz.ntmps50
    go_wp2_with (refine wpList_alloc rfl 90 rfl _ _ (alloc64b _) ?_)
    refine (Sum key _ (by omega) (T.out.down HB0.out)).mono ?_
    rintro e w1 ⟨rfl, hb1⟩
    rw [← HKS.out]
    have B1 : Hid (Below w.heap.size w w1) := HB0.out.trans (hb1.mono HB0.out.size)
    have HR1 : Hid (w1.heap[w.heap.size]? = some (.cells (row zL64) 90 (0, 0))) := (hb1.block _ (by rw [ws0]; omega)).trans HR0.out
    clear hb1 HR0 HB0 ws0 HKS
    obtain ⟨k, HK⟩ : ∃ k, Hid (keyS key = k) := ⟨_, rfl⟩
    rw [HK.out]
    rw [HK.out] at HS
    have hsl := fun W => sliceAt_all w1.heap.size W
    have hcp := run_copy_str (w1.alloc (.cells (row zL64) 90)) 3 w1.heap.size 0 64 64 k.size k _ _ (show k.size = Nat.min k.size 64 from (Nat.min_eq_left HS).symm) (heap_alloc_new w1 _) (by rw [row_size]; simp [zL64]; omega)
    rw [filled_row k k.size rfl HS, World.setRow_alloc_new] at hcp
    have HX : Hid ((w1.alloc (.cells (row (fillL k)) 90)).heap[w1.heap.size]? = some (.cells (row (fillL k)) 90 (0, 0))) := heap_alloc_new w1 _
    have HY : Hid ((w1.alloc (.cells (row (fillL k)) 90)).heap[w.heap.size]? = some (.cells (row zL64) 90 (0, 0))) := by
      show _ = _; rw [heap_alloc_old _ _ (World.lt_of_heap HR1.out)]; exact HR1.out
    have HB2 : Hid (Below w.heap.size w (w1.alloc (.cells (row (fillL k)) 90))) := B1.out.alloc B1.out.size _
    have hlen : (row (fillL k)).size = 64 := by rw [row_size, fillL_length]
    have HI : Hid ((Tryz.prog.info? 90).map (·.size) = some (row (fillL k)).size) := by show _ = _; rw [hlen]; exact size64b
    have H3 : Hid ((row (fillL k)).all (·.oneCell') = true) := by show _ = _; simp [row, Value.oneCell']
    have H4 : Hid ((row zL64).size = (row (fillL k)).size) := by show _ = _; rw [hlen, row_size]; simp [zL64]
    clear hlen HS
    obtain ⟨WL, HW⟩ : ∃ WL, Hid (row (fillL k) = WL) := ⟨_, rfl⟩
    rw [HW.out] at hcp HX HY HB2 HI H3 H4
    have ws : (w1.alloc (.cells WL 90)).heap.size = w1.heap.size + 1 := by simp
    generalize hw2 : w1.alloc (.cells WL 90) = w2 at *
    go_wp2_with (first | (refine wpList_alloc rfl 90 rfl _ _ (alloc64b _) ?_) | (refine wpList_load_row rfl 90 (.tmp 3) rfl w1.heap.size rfl 90 WL (0, 0) _ HX.out Tryz.underlying90 rfl HI.out ?_) | (refine wpList_store_row rfl 90 (.tmp 2) (.tmp 12) rfl w.heap.size WL rfl rfl 90 (row zL64) HY.out HI.out H4.out H3.out ?_))
    exact bodyPost_ret (v := .agg WL) (results_cell_row Tryz.results50 _ _ w.heap.size 90 _ (0, 0) _ rfl (setRow_heap _ _ _ _ _ _ HY.out) Tryz.underlying90 rfl HI.out) rfl ⟨by rw [HK.out, HW.out], below_setRow HB2.out (Nat.le_refl _) _⟩
  · have h64' : ¬ (key.size : Int) > 64 := by omega
    have HKS : Hid (keyS key = key) := by show _ = _; unfold keyS; rw [if_neg h64]
    rw [HKS.out] at HS
    rw [HKS.out]
    clear HKS
    have B1 := HB0
    have HR1 := HR0
    obtain ⟨w1, hw1⟩ : ∃ w1, w.alloc (.cells (row zL64) 90) = w1 := ⟨_, rfl⟩
    rw [hw1] at B1 HR1
    have hal : (Instr.alloc 90 true (.tuple #[])).run Tryz.prog w = .ok (.pointer (some ⟨w.heap.size, 0, none⟩)) w1 := by rw [← hw1]; exact alloc64b w
    clear hw1 HB0 HR0 ws0
    obtain ⟨k, rfl⟩ : ∃ k, k = key := ⟨_, rfl⟩
    go_enter Tryz.func50, Tryz.ntmps50
    have hsl := fun W => sliceAt_all w1.heap.size W
    have hcp := run_copy_str (w1.alloc (.cells (row zL64) 90)) 3 w1.heap.size 0 64 64 k.size k _ _ (show k.size = Nat.min k.size 64 from (Nat.min_eq_left HS).symm) (heap_alloc_new w1 _) (by rw [row_size]; simp [zL64]; omega)
    rw [filled_row k k.size rfl HS, World.setRow_alloc_new] at hcp
    have HX : Hid ((w1.alloc (.cells (row (fillL k)) 90)).heap[w1.heap.size]? = some (.cells (row (fillL k)) 90 (0, 0))) := heap_alloc_new w1 _
    have HY : Hid ((w1.alloc (.cells (row (fillL k)) 90)).heap[w.heap.size]? = some (.cells (row zL64) 90 (0, 0))) := by
      show _ = _; rw [heap_alloc_old _ _ (World.lt_of_heap HR1.out)]; exact HR1.out
    have HB2 : Hid (Below w.heap.size w (w1.alloc (.cells (row (fillL k)) 90))) := B1.out.alloc B1.out.size _
    have hlen : (row (fillL k)).size = 64 := by rw [row_size, fillL_length]
    have HI : Hid ((Tryz.prog.info? 90).map (·.size) = some (row (fillL k)).size) := by show _ = _; rw [hlen]; exact size64b
    have H3 : Hid ((row (fillL k)).all (·.oneCell') = true) := by show _ = _; simp [row, Value.oneCell']
    have H4 : Hid ((row zL64).size = (row (fillL k)).size) := by show _ = _; rw [hlen, row_size]; simp [zL64]
    clear hlen HS
    obtain ⟨WL, HW⟩ : ∃ WL, Hid (row (fillL k) = WL) := ⟨_, rfl⟩
    rw [HW.out] at hcp HX HY HB2 HI H3 H4
    have ws : (w1.alloc (.cells WL 90)).heap.size = w1.heap.size + 1 := by simp
    generalize hw2 : w1.alloc (.cells WL 90) = w2 at *
    go_wp2_with (first | (refine wpList_alloc rfl 90 rfl _ _ hal ?_) | (refine wpList_alloc rfl 90 rfl _ _ (alloc64b _) ?_) | (refine wpList_load_row rfl 90 (.tmp 3) rfl w1.heap.size rfl 90 WL (0, 0) _ HX.out Tryz.underlying90 rfl HI.out ?_) | (refine wpList_store_row rfl 90 (.tmp 2) (.tmp 12) rfl w.heap.size WL rfl rfl 90 (row zL64) HY.out HI.out H4.out H3.out ?_))
    exact bodyPost_ret (v := .agg WL) (results_cell_row Tryz.results50 _ _ w.heap.size 90 _ (0, 0) _ rfl (setRow_heap _ _ _ _ _ _ HY.out) Tryz.underlying90 rfl HI.out) rfl ⟨by rw [HW.out], below_setRow HB2.out (Nat.le_refl _) _⟩
end Go.Proofs.YthdkbjbhjfiaiaaGreatDoor.nb

namespace Go.Proofs.YthdkbjbhjfiaiaaGreatDoor.nc
open Go.RowKit Go.PlainAid
open Go.Proofs.YthdkbjbhjfiaiaaGreatDoor.pl Go.Proofs.YthdkbjbhjfiaiaaGreatDoor.pb Go.Proofs.YthdkbjbhjfiaiaaGreatDoor.pc Go.Proofs.YthdkbjbhjfiaiaaGreatDoor.pd Go.Proofs.YthdkbjbhjfiaiaaGreatDoor.pe Go.Proofs.YthdkbjbhjfiaiaaGreatDoor.pf Go.Proofs.YthdkbjbhjfiaiaaGreatDoor.pg Go.Proofs.YthdkbjbhjfiaiaaGreatDoor.ph Go.Proofs.YthdkbjbhjfiaiaaGreatDoor.pi Go.Proofs.YthdkbjbhjfiaiaaGreatDoor.ft Go.Proofs.YthdkbjbhjfiaiaaGreatDoor.pj Go.Proofs.YthdkbjbhjfiaiaaGreatDoor.mo Go.Proofs.YthdkbjbhjfiaiaaGreatDoor.na Go.Proofs.YthdkbjbhjfiaiaaGreatDoor.nb
set_option linter.unusedVariables false
set_option maxRecDepth 4000

theorem make_wide (w : World) (c : Nat) (hc : c ≤ 140737488355328) :
    (Instr.makeSlice 77 (.int .i64 0) (.int .i64 c)).run Tryz.prog w = .ok (.slice (some ⟨w.heap.size, 0, none⟩) 0 c) (w.alloc (.cells (row (List.replicate c 0)) 5)) := by
  obtain ⟨i, hi, hz0, hz1, hz2⟩ := info_parts info5
  have h := run_make (P := Tryz.prog) w 77 5 i (.int .u8 0) Tryz.underlying77 hi hz0 .i64 .i64 0 (c : Int) (by omega) (by omega) (by rw [hz2]; omega) (by omega)
  rw [hz1] at h
  simp only [Int.toNat_natCast, Nat.mul_one, Int.toNat_zero] at h
  rw [made_row] at h
  exact h

theorem index64 (cs : Array Value) (n : Nat) (v : Value) (h : n < 64) (hc : cs[n]? = some v) (W : World) : (Instr.index 90 (.agg cs) (.int .i64 n)).run Tryz.prog W = .ok v W := by
  have h1 : (0 : Int) ≤ (n : Int) := by omega
  have h2 : (n : Int) < 64 := by omega
  simp only [Instr.index, asIntOf, part, Sem.run_bind, Sem.run_pure, run_underlying Tryz.underlying90, Result.andThen_ok]
  simp [h2, hc]

theorem str_two (a b : List Int) : str (a ++ b) = str a ++ str b := by
  apply ByteArray.ext
  rw [ByteArray.data_append, str_data, str_data, str_data, List.map_append]
  simp
theorem str_btL (q : ByteArray) : str (btL q q.size) = q := by
  apply ByteArray.ext
  rw [str_data]
  apply Array.ext_getElem?
  intro j
  by_cases h : j < q.size
  · have h' : j < q.data.size := h
    have e := get_bt q j h
    rw [List.getElem?_toArray, Array.getElem?_eq_getElem h']
    simp only [btL, List.map_map, List.getElem?_map, List.getElem?_range h, Option.map_some, Function.comp]
    rw [← e]
    simp
    rfl
  · have h' : ¬ j < q.data.size := h
    rw [Array.getElem?_eq_none (by simp [btL]; omega), Array.getElem?_eq_none (by omega)]

set_option maxHeartbeats 800000 in
theorem behind (k : ByteArray) (x : Int) (q : ByteArray) (b : Nat) (w : World) (hq : q.size ≤ 140737488352000) (HC : Hid (w.heap[b]? = some (.cells (row (fillL k)) 90 (0, 0)))) :
    Calls Tryz.prog 51 #[.int .u8 x, .string q, .pointer (some ⟨b, 0, none⟩)] w fun e w' => e = .returned (.string (str (keyL k x 64) ++ q)) ∧ Below w.heap.size w w' := by
  obtain ⟨i5, hi, hz0, hz1, hz2⟩ := info_parts info5
  have HIN : Hid (_ ∧ _ ∧ _ ∧ _) := ⟨hi, hz0, hz1, hz2⟩
  clear hi hz0 hz1 hz2
  have hlen : (row (fillL k)).size = 64 := by rw [row_size, fillL_length]
  have HI : Hid ((Tryz.prog.info? 90).map (·.size) = some (row (fillL k)).size) := by show _ = _; rw [hlen]; exact size64b
  have HG : Hid (∀ j, j < 64 → (row (fillL k))[j]? = some (.int .u8 (kbt k j))) := fun j hj => by rw [row_get, fillL_get k j hj]; rfl
  have hmk : (Instr.makeSlice 77 (.int .i64 0) (.int .i64 (64 + (q.size : Int)))).run Tryz.prog w = .ok (.slice (some ⟨w.heap.size, 0, none⟩) 0 (64 + q.size)) (w.alloc (.cells (row (List.replicate (64 + q.size) 0)) 5)) := make_wide w (64 + q.size) (by omega)
  have HO0 : Hid ((w.alloc (.cells (row (List.replicate (64 + q.size) 0)) 5)).ownsRow w.heap.size 5 1 (.slice (some ⟨w.heap.size, 0, none⟩) 0 (64 + q.size)) 0 []) := World.ownsRow_made w _ (64 + q.size) (Nat.le_refl _) (by unfold maxLen; omega) (by rw [row_size]; simp)
  have HB0 : Hid (Below w.heap.size w (w.alloc (.cells (row (List.replicate (64 + q.size) 0)) 5))) := (Below.refl _ _).alloc (Nat.le_refl _) _
  have HC1 : Hid ((w.alloc (.cells (row (List.replicate (64 + q.size) 0)) 5)).heap[b]? = some (.cells (row (fillL k)) 90 (0, 0))) := by
    show _ = _; rw [heap_alloc_old _ _ (World.lt_of_heap HC.out)]; exact HC.out
  generalize w.alloc (.cells (row (List.replicate (64 + q.size) 0)) 5) = w1 at *
  clear hlen
  generalize row (fillL k) = WL at *
  go_enter Tryz.func51, Tryz.ntmps51
  go_wp2_with (refine wpList_load_row rfl 90 (.tmp 2) rfl b rfl 90 WL (0, 0) _ HC1.out Tryz.underlying90 rfl HI.out ?_)
  go_loopw [6, 14] (fun out i wr => ∃ n : Nat, n ≤ 64 ∧ i = .int .i64 n ∧ wr.ownsRow w.heap.size 5 1 out n ((keyL k x n).map (Value.int .u8)) ∧ Below w.heap.size w wr) (fun _ i _ => (64 - intOf i).toNat)
  case atStart => exact ⟨0, by omega, rfl, HO0.out, HB0.out⟩
  case round =>
    clear hmk HO0 HB0
    obtain ⟨n, hn, rfl, hown, hbel⟩ := hrel
    have HOWN : Hid (World.ownsRow _ _ _ _ _ _ _) := hown
    have HBEL : Hid (Below _ _ _) := hbel
    clear hown hbel
    by_cases hlt : n < 64
    · have hlt' : (n : Int) < 64 := by omega
      have hg := fun W => index64 WL n _ hlt (HG.out n hlt) W
      have hsz : WL.size = 64 := by have h := HI.out; rw [size64b] at h; exact (Option.some.inj h).symm
      go_wp2_with (at_builtin; refine wpList_append_own _ rfl _ _ 77 rfl w.heap.size 5 i5 (.int .u8 0) 1 1 Tryz.underlying77 HIN.out.1 HIN.out.2.1 HIN.out.2.2.1 HIN.out.2.2.2 rfl (by decide) _ _ _ rfl (HOWN.out.alloc _) ⟨wr.heap.size, 0, none⟩ 1 1 [.int .u8 (bits .xor .u8 (kbt k n) x)] rfl rfl (one_new' _ _ _) (fun u hu => by simp at hu; subst hu; rfl) (by unfold maxLen; omega) (by omega) (by have := HBEL.out.size; simp; omega) ?_; intro v' w3 hown' hgrow3 hnil3; have HOWN3 : Hid (World.ownsRow _ _ _ _ _ _ _) := hown'; have HBEL3 : Hid (Below w.heap.size w w3) := Below.grown (HBEL.out.alloc HBEL.out.size _) hgrow3 (by have := HBEL.out.size; simp; omega) (fun j hj => (HOWN.out.lt _ hj).1); clear hown' hgrow3 hnil3)
      go_roundw
      case rel =>
        refine ⟨n + 1, by omega, by go_num, ?_, HBEL3.out⟩
        rw [keyL_succ, List.map_append]
        exact HOWN3.out
      case measure => simp [intOf]; omega
    · have hlt' : ¬ (n : Int) < 64 := by omega
      obtain rfl : n = 64 := by omega
      go_wp2_with (at_builtin; refine wpList_append_str rfl (.tmp 24) (.tmp 25) rfl w.heap.size _ 64 _ rfl HOWN.out q rfl (by omega) (by have := HBEL.out.size; omega) ?_; intro v2 w2 hown2 hgr2; have HB2 : Hid (Below w.heap.size w w2) := Below.grown HBEL.out hgr2 (by have := HBEL.out.size; omega) (fun j hj => (HOWN.out.lt _ hj).1); have hcv := own_conv w2 w.heap.size v2 (keyL k x 64 ++ btL q q.size) (64 + q.size) (by rw [List.length_append, keyL_length, btL_length]) (by omega) (by rw [List.map_append]; exact hown2); rw [str_two, str_btL] at hcv; clear hown2 hgr2)
      go_ret
      exact ⟨rfl, HB2.out⟩
end Go.Proofs.YthdkbjbhjfiaiaaGreatDoor.nc

namespace Go.Proofs.YthdkbjbhjfiaiaaGreatDoor.nd
open Go.RowKit Go.PlainAid
open Go.Proofs.YthdkbjbhjfiaiaaGreatDoor.pl Go.Proofs.YthdkbjbhjfiaiaaGreatDoor.pb Go.Proofs.YthdkbjbhjfiaiaaGreatDoor.pc Go.Proofs.YthdkbjbhjfiaiaaGreatDoor.pd Go.Proofs.YthdkbjbhjfiaiaaGreatDoor.pe Go.Proofs.YthdkbjbhjfiaiaaGreatDoor.pf Go.Proofs.YthdkbjbhjfiaiaaGreatDoor.pg Go.Proofs.YthdkbjbhjfiaiaaGreatDoor.ph Go.Proofs.YthdkbjbhjfiaiaaGreatDoor.pi Go.Proofs.YthdkbjbhjfiaiaaGreatDoor.ft Go.Proofs.YthdkbjbhjfiaiaaGreatDoor.pj Go.Proofs.YthdkbjbhjfiaiaaGreatDoor.mo Go.Proofs.YthdkbjbhjfiaiaaGreatDoor.na Go.Proofs.YthdkbjbhjfiaiaaGreatDoor.nb Go.Proofs.YthdkbjbhjfiaiaaGreatDoor.nc
set_option linter.unusedVariables false
set_option maxRecDepth 4000

theorem over {w w1 w2 : World} (h : Below w.heap.size w w1) (b : Below w1.heap.size w1 w2) : Below w.heap.size w w2 := h.trans (b.mono h.size)

set_option maxHeartbeats 800000 in
theorem macSum (key msg : ByteArray) (w : World) (hk : key.size ≤ 140737488352256) (hm : msg.size ≤ 140737488352000) (T : Hid (Tab w)) :
    Calls Tryz.prog 22 #[.string key, .string msg] w fun e w' => e = .returned (.string (macF key msg)) ∧ Below w.heap.size w w' := by
  have R1 : Hid (Calls _ _ _ _ _) := filled key w hk T
  have HM : Hid (macF key msg = sha (str (keyL (keyS key) 92 64) ++ sha (str (keyL (keyS key) 54 64) ++ msg))) := rfl
  have hlen : (row (fillL (keyS key))).size = 64 := by rw [row_size, fillL_length]
  have HI : Hid ((Tryz.prog.info? 90).map (·.size) = some (row (fillL (keyS key))).size) := by show _ = _; rw [hlen]; exact size64b
  have H3 : Hid ((row (fillL (keyS key))).all (·.oneCell') = true) := by show _ = _; simp [row, Value.oneCell']
  have H4 : Hid ((row zL64).size = (row (fillL (keyS key))).size) := by show _ = _; rw [hlen, row_size]; simp [zL64]
  clear hlen
  obtain ⟨k, HK⟩ : ∃ k, Hid (keyS key = k) := ⟨_, rfl⟩
  rw [HK.out] at R1 HM HI H3 H4
  clear HK
  have z1 : (str (keyL k 54 64)).size = 64 := by rw [str_size, keyL_length]
  have z2 : (str (keyL k 92 64)).size = 64 := by rw [str_size, keyL_length]
  obtain ⟨a, HA⟩ : ∃ a, Hid (str (keyL k 54 64) ++ msg = a) := ⟨_, rfl⟩
  have za : a.size = 64 + msg.size := by rw [← HA.out, ByteArray.size_append, z1]
  obtain ⟨sa, HSA⟩ : ∃ sa, Hid (sha a = sa) := ⟨_, rfl⟩
  have zs : sa.size = 32 := by rw [← HSA.out, sha_size]
  obtain ⟨b, HB⟩ : ∃ b, Hid (str (keyL k 92 64) ++ sa = b) := ⟨_, rfl⟩
  have zb : b.size = 96 := by rw [← HB.out, ByteArray.size_append, z2, zs]
  rw [HA.out, HSA.out, HB.out] at HM
  clear z1 z2
  have hmf : ∀ (fn : Fn) (first cap : Array Value) (w : World), (Instr.makeFunc fn first cap).run Tryz.prog w = .ok (.func fn first cap) w := fun _ _ _ _ => rfl
  go_enter Tryz.func22, Tryz.ntmps22
  go_wp2_with fail
  refine R1.out.mono ?_
  rintro e w1 ⟨rfl, hb1⟩
  obtain ⟨w2, HW2⟩ : ∃ w2, Hid (w1.alloc (.cells (row (fillL k)) 90) = w2) := ⟨_, rfl⟩
  have HC : Hid (w2.heap[w1.heap.size]? = some (.cells (row (fillL k)) 90 (0, 0))) := by rw [← HW2.out]; exact heap_alloc_new w1 _
  have HLT : Hid (w1.heap.size < w2.heap.size) := World.lt_of_heap HC.out
  have B2 : Hid (Below w.heap.size w w2) := by rw [← HW2.out]; exact hb1.alloc hb1.size _
  clear hb1 R1
  have C1 : Hid (∀ w', w'.heap[w1.heap.size]? = some (.cells (row (fillL k)) 90 (0, 0)) → Calls Tryz.prog 51 #[.int .u8 54, .string msg, .pointer (some ⟨w1.heap.size, 0, none⟩)] w' fun e w'' => e = .returned (.string a) ∧ Below w'.heap.size w' w'') := fun w' h => by
    have := behind k 54 msg w1.heap.size w' hm h
    rw [HA.out] at this
    exact this
  have C2 : Hid (∀ w', w'.heap[w1.heap.size]? = some (.cells (row (fillL k)) 90 (0, 0)) → Calls Tryz.prog 51 #[.int .u8 92, .string sa, .pointer (some ⟨w1.heap.size, 0, none⟩)] w' fun e w'' => e = .returned (.string b) ∧ Below w'.heap.size w' w'') := fun w' h => by
    have := behind k 92 sa w1.heap.size w' (by omega) h
    rw [HB.out] at this
    exact this
  clear HA HB
  generalize row (fillL k) = WL at *
  go_wp2_with (first | (refine wpList_alloc rfl 90 rfl _ _ (alloc64b _) ?_) | (refine wpList_store_row rfl 90 (.tmp 5) (.tmp 8) rfl w1.heap.size WL rfl rfl 90 (row zL64) (heap_alloc_new w1 _) HI.out H4.out H3.out ?_; rw [World.setRow_alloc_new, HW2.out]))
  refine (C1.out _ HC.out).mono ?_
  rintro e w3 ⟨rfl, hb3⟩
  have B23 : Hid (Below w2.heap.size w2 w3) := hb3
  clear hb3
  go_wp2_with fail
  refine (Sum a _ (by omega) (T.out.down (over B2.out B23.out))).mono ?_
  rintro e w4 ⟨rfl, hb4⟩
  have B24 : Hid (Below w2.heap.size w2 w4) := over B23.out hb4
  clear hb4
  rw [HSA.out]
  go_wp2_with fail
  refine (C2.out _ ((B24.out.block _ HLT.out).trans HC.out)).mono ?_
  rintro e w5 ⟨rfl, hb5⟩
  have B25 : Hid (Below w2.heap.size w2 w5) := over B24.out hb5
  clear hb5
  go_wp2_with fail
  refine (Sum b _ (by omega) (T.out.down (over B2.out B25.out))).mono ?_
  rintro e w6 ⟨rfl, hb6⟩
  have B26 : Hid (Below w.heap.size w w6) := over B2.out (over B25.out hb6)
  clear hb6
  go_wp2
  go_ret
  exact ⟨by rw [HM.out]; rfl, B26.out⟩
end Go.Proofs.YthdkbjbhjfiaiaaGreatDoor.nd

namespace Go.Proofs.YthdkbjbhjfiaiaaGreatDoor.ne
open Go.RowKit Go.PlainAid
open Go.Proofs.YthdkbjbhjfiaiaaGreatDoor.pl Go.Proofs.YthdkbjbhjfiaiaaGreatDoor.pb Go.Proofs.YthdkbjbhjfiaiaaGreatDoor.pc Go.Proofs.YthdkbjbhjfiaiaaGreatDoor.pd Go.Proofs.YthdkbjbhjfiaiaaGreatDoor.pe Go.Proofs.YthdkbjbhjfiaiaaGreatDoor.pf Go.Proofs.YthdkbjbhjfiaiaaGreatDoor.pg Go.Proofs.YthdkbjbhjfiaiaaGreatDoor.ph Go.Proofs.YthdkbjbhjfiaiaaGreatDoor.pi Go.Proofs.YthdkbjbhjfiaiaaGreatDoor.ft Go.Proofs.YthdkbjbhjfiaiaaGreatDoor.pj Go.Proofs.YthdkbjbhjfiaiaaGreatDoor.mo Go.Proofs.YthdkbjbhjfiaiaaGreatDoor.na Go.Proofs.YthdkbjbhjfiaiaaGreatDoor.nb Go.Proofs.YthdkbjbhjfiaiaaGreatDoor.nc Go.Proofs.YthdkbjbhjfiaiaaGreatDoor.nd
set_option linter.unusedVariables false
set_option maxRecDepth 4000

theorem btL_two (a b : ByteArray) : btL (a ++ b) (a.size + b.size) = btL a a.size ++ btL b b.size := by
  apply List.ext_getElem
  · simp [btL]
  · intro j h1 h2
    have hj : j < a.size + b.size := by simpa [btL] using h1
    rcases Nat.lt_or_ge j a.size with h | h
    · rw [List.getElem_append_left (by simpa [btL] using h)]
      simp only [btL, List.getElem_map, List.getElem_range]
      exact bt_append_left _ _ _ h
    · rw [List.getElem_append_right (by simpa [btL] using h)]
      simp only [btL, List.getElem_map, List.getElem_range, List.length_map, List.length_range]
      have e : j = a.size + (j - a.size) := by omega
      rw [e, bt_append_right, Nat.add_sub_cancel_left]

theorem own_slice {w : World} {base : Nat} {v : Value} {n : Nat} {xs : List Value} (h : w.ownsRow base 5 1 v n xs) : ∃ b cap, v = .slice b n cap ∧ n ≤ cap := by
  rcases h.2 with ⟨rfl, rfl⟩ | ⟨g, cap, cur, rfl, _, _, hnc, _⟩
  · exact ⟨none, 0, rfl, Nat.le_refl _⟩
  · exact ⟨_, _, rfl, hnc⟩

theorem own_below {w w' : World} {base : Nat} {v : Value} {n : Nat} {xs : List Value} (h : w.ownsRow base 5 1 v n xs) (b : Below w.heap.size w w') : w'.ownsRow base 5 1 v n xs := by
  refine h.kept (row := none) ⟨b.os, b.tape, b.output, b.size, fun k hk _ => b.block k hk⟩ ?_
  cases v.ownBlock with
  | none => exact .inl rfl
  | some k => exact .inr (by simp)

-- string(out[:N])
theorem elB : Tryz.prog.elem 77 = 5 := by kernel_rfl
theorem unB : Tryz.prog.underlying 77 = some (.slice (Tryz.prog.elem 77)) := by rw [elB]; exact Tryz.underlying77
theorem slice_h (W : World) (b : Option Addr) (n cap N : Nat) (h : N ≤ cap) : (Instr.sliceAt 77 (.slice b n cap) none (some (.int .i64 N)) none).run Tryz.prog W = .ok (.slice (if cap = 0 then b else b.map (·.add 0)) N cap) W := by
  rw [run_sliceAt_slice _ _ _ _ _ _ unB, run_slice_h W 77 b n cap unB .i64 (N : Int) (by omega) (by omega), elB, si8]
  simp only [Result.andThen_ok, sliced, Int.toNat_natCast, Nat.zero_mul, Nat.sub_zero]
theorem cut_conv (W : World) (base : Nat) (b : Option Addr) (n cap N : Nat) (o d : ByteArray) (ho : W.ownsRow base 5 1 (.slice b n cap) n ((btL o n).map (Value.int .u8))) (hN : N ≤ n) (hd : d.size = N) (hb : ∀ j, j < N → bt d j = bt o j) :
    ∃ v, (Instr.sliceAt 77 (.slice b n cap) none (some (.int .i64 N)) none).run Tryz.prog W = .ok v W ∧ (convert 77 9 v).run Tryz.prog W = .ok (.string d) W := by
  have hs : str (btL d N) = d := by rw [← hd]; exact str_btL d
  rcases ho.2 with ⟨e1, e2⟩ | ⟨g, cap', cur, e1, _, hh, hnc, _, h2, h3⟩
  · injection e1 with e3 e4 e5
    subst e3 e5
    obtain rfl : N = 0 := by omega
    refine ⟨_, slice_h W none n 0 0 (Nat.le_refl _), ?_⟩
    rw [← hs]
    rw [run_convert_bytes_string _ 77 9 5 _ _ _ Tryz.underlying77 Tryz.underlying5 Tryz.underlying9]
    rfl
  · injection e1 with e3 e4 e5
    subst e3 e5
    refine ⟨_, slice_h W _ n cap N (by omega), ?_⟩
    have e : (if cap = 0 then some (⟨g, 0, none⟩ : Addr) else (some (⟨g, 0, none⟩ : Addr)).map (·.add 0)) = some ⟨g, 0, none⟩ := by
      split
      · rfl
      · simp [Addr.add]
    rw [e, ← hs]
    refine conv_at (btL d N) W g 0 N cap (by rw [btL_length]) (fun j u hj => ?_)
    have hjN : j < N := by simpa [btL] using (List.getElem?_eq_some_iff.1 hj).1
    refine ho.cells (g := g) rfl j u ?_
    rw [← hj]
    simp [btL, hjN, show j < n by omega, hb j hjN]

end Go.Proofs.YthdkbjbhjfiaiaaGreatDoor.ne

namespace Go.Proofs.YthdkbjbhjfiaiaaGreatDoor.ng
open Go.RowKit Go.PlainAid
open Go.Proofs.YthdkbjbhjfiaiaaGreatDoor.pl Go.Proofs.YthdkbjbhjfiaiaaGreatDoor.pc Go.Proofs.YthdkbjbhjfiaiaaGreatDoor.pf Go.Proofs.YthdkbjbhjfiaiaaGreatDoor.pg Go.Proofs.YthdkbjbhjfiaiaaGreatDoor.ph Go.Proofs.YthdkbjbhjfiaiaaGreatDoor.pi Go.Proofs.YthdkbjbhjfiaiaaGreatDoor.ft Go.Proofs.YthdkbjbhjfiaiaaGreatDoor.pj Go.Proofs.YthdkbjbhjfiaiaaGreatDoor.re Go.Proofs.YthdkbjbhjfiaiaaGreatDoor.rf Go.Proofs.YthdkbjbhjfiaiaaGreatDoor.mo Go.Proofs.YthdkbjbhjfiaiaaGreatDoor.mp Go.Proofs.YthdkbjbhjfiaiaaGreatDoor.mq Go.Proofs.YthdkbjbhjfiaiaaGreatDoor.nd Go.Proofs.YthdkbjbhjfiaiaaGreatDoor.ne
set_option linter.unusedVariables false
set_option maxRecDepth 4000

-- are two texts the same, byte by byte
theorem or_zero (a b : Nat) : a ||| b = 0 ↔ a = 0 ∧ b = 0 := by
  constructor
  · intro h
    have h1 := Nat.left_le_or (n := a) (m := b)
    have h2 := Nat.right_le_or (n := a) (m := b)
    omega
  · rintro ⟨rfl, rfl⟩; rfl
theorem xor_zero (a b : Nat) : a ^^^ b = 0 ↔ a = b := by
  constructor
  · intro h
    have e : (a ^^^ b) ^^^ b = a := by rw [Nat.xor_assoc, Nat.xor_self, Nat.xor_zero]
    rw [h, Nat.zero_xor] at e
    exact e.symm
  · rintro rfl; exact Nat.xor_self a
def nt (q : ByteArray) (k : Nat) : Nat := (bt q k).toNat
theorem nt_bt (q : ByteArray) (k : Nat) : bt q k = (nt q k : Int) := by
  have := bt_nonneg q k
  unfold nt; omega
theorem nt_lt (q : ByteArray) (k : Nat) : nt q k < 256 := by
  have := bt_le q k
  unfold nt; omega

set_option maxHeartbeats 800000 in
theorem same_no (a b : ByteArray) (w : World) (ha : a.size ≤ 140737488355328) (hb : b.size ≤ 140737488355328) (h : a.size ≠ b.size) :
    Calls Tryz.prog 21 #[.string a, .string b] w fun e w' => e = .returned (.bool false) ∧ Below w.heap.size w w' := by
  have h' : ((a.size : Int) != (b.size : Int)) = true := by rw [bne_iff_ne]; omega
  go_enter Tryz.func21, Tryz.ntmps21
  go_wp2
  go_ret
  exact ⟨rfl, Below.refl _ _⟩

set_option maxHeartbeats 800000 in
theorem same_len (a b : ByteArray) (w : World) (ha : a.size ≤ 140737488355328) (h : a.size = b.size) (r : Bool) (hr : Hid (r = true ↔ ∀ j, j < a.size → nt a j = nt b j)) :
    Calls Tryz.prog 21 #[.string a, .string b] w fun e w' => e = .returned (.bool r) ∧ Below w.heap.size w w' := by
  have h' : ((a.size : Int) != (b.size : Int)) = false := by rw [h]; simp
  have h2 : (b.size : Int) = a.size := by omega
  have HH : Hid _ := h
  clear h
  go_enter Tryz.func21, Tryz.ntmps21
  go_wp2_with fail
  go_loopw [5, 14] (fun u i wr => ∃ k U : Nat, k ≤ a.size ∧ i = .int .i64 k ∧ u = .int .u8 U ∧ U < 256 ∧ Hid (U = 0 ↔ ∀ j, j < k → nt a j = nt b j) ∧ Hid (Below w.heap.size w wr)) (fun _ i _ => (a.size - intOf i).toNat)
  case atStart => exact ⟨0, 0, by omega, rfl, rfl, by omega, ⟨fun _ j hj => absurd hj (by omega), fun _ => rfl⟩, Below.refl _ _⟩
  case round =>
    obtain ⟨k, U, hk, rfl, rfl, hU, HU, HB⟩ := hrel
    by_cases hlt : k < a.size
    · have hlt' : (k : Int) < a.size := by omega
      have hlb : (k : Int) < b.size := by omega
      have hbt := get_bt a
      have hbt2 := get_bt b
      have na := nt_lt a k
      have nb := nt_lt b k
      have hx := Nat.xor_lt_two_pow (n := 8) na nb
      have hy : U ||| (nt a k ^^^ nt b k) < 256 := Nat.or_lt_two_pow (n := 8) hU hx
      have HX : Hid (bits .or .u8 (U : Int) (bits .xor .u8 (bt a k) (bt b k)) = ((U ||| (nt a k ^^^ nt b k) : Nat) : Int)) := by
        show _ = _
        rw [nt_bt a k, nt_bt b k, u8_xor_nat _ _ na nb, u8_or_nat _ _ hU hx]
      have HV : Hid (U ||| (nt a k ^^^ nt b k) = 0 ↔ ∀ j, j < k + 1 → nt a j = nt b j) := by
        show _ ↔ _
        rw [or_zero, xor_zero, HU.out]
        constructor
        · rintro ⟨h1, h2⟩ j hj
          rcases Nat.lt_or_ge j k with h | h
          · exact h1 j h
          · obtain rfl : j = k := by omega
            exact h2
        · intro h
          exact ⟨fun j hj => h j (by omega), h k (by omega)⟩
      clear na nb hx
      generalize U ||| (nt a k ^^^ nt b k) = V at *
      go_wp2_with fail
      go_quiet (fail)
      go_wp2
      go_roundw
      case rel => exact ⟨k + 1, V, by omega, by go_num, by rw [HX.out], hy, HV, below_drewN HB.out _⟩
      case measure => simp [intOf]; omega
    · have hlt' : ¬ (k : Int) < a.size := by omega
      obtain rfl : k = a.size := by omega
      have hr0 : ((U : Int) == 0) = r := by
        rw [Bool.eq_iff_iff, beq_iff_eq, hr.out, ← HU.out]
        omega
      go_wp2
      go_ret
      exact ⟨rfl, HB.out⟩

theorem ext_nt (a b : ByteArray) (h : a.size = b.size) (hj : ∀ j, j < a.size → nt a j = nt b j) : a = b := by
  apply ext_bt
  · exact h
  · intro j hlt
    rw [nt_bt, nt_bt, hj j hlt]

theorem same (a b : ByteArray) (w : World) (ha : a.size ≤ 140737488355328) (hb : b.size ≤ 140737488355328) :
    Calls Tryz.prog 21 #[.string a, .string b] w fun e w' => e = .returned (.bool (decide (a = b))) ∧ Below w.heap.size w w' := by
  by_cases h : a.size = b.size
  · refine same_len a b w ha h (decide (a = b)) ?_
    show _ ↔ _
    rw [decide_eq_true_eq]
    exact ⟨fun e j _ => by rw [e], fun e => ext_nt a b h e⟩
  · have e : decide (a = b) = false := by rw [decide_eq_false_iff_not]; intro e; exact h (by rw [e])
    rw [e]
    exact same_no a b w ha hb h
end Go.Proofs.YthdkbjbhjfiaiaaGreatDoor.ng

namespace Go.Proofs.YthdkbjbhjfiaiaaGreatDoor.nh
open Go.RowKit Go.PlainAid
open Go.Proofs.YthdkbjbhjfiaiaaGreatDoor.pl Go.Proofs.YthdkbjbhjfiaiaaGreatDoor.pc Go.Proofs.YthdkbjbhjfiaiaaGreatDoor.pf Go.Proofs.YthdkbjbhjfiaiaaGreatDoor.pg Go.Proofs.YthdkbjbhjfiaiaaGreatDoor.ph Go.Proofs.YthdkbjbhjfiaiaaGreatDoor.pi Go.Proofs.YthdkbjbhjfiaiaaGreatDoor.ft Go.Proofs.YthdkbjbhjfiaiaaGreatDoor.pj Go.Proofs.YthdkbjbhjfiaiaaGreatDoor.re Go.Proofs.YthdkbjbhjfiaiaaGreatDoor.rf Go.Proofs.YthdkbjbhjfiaiaaGreatDoor.mo Go.Proofs.YthdkbjbhjfiaiaaGreatDoor.mp Go.Proofs.YthdkbjbhjfiaiaaGreatDoor.mq Go.Proofs.YthdkbjbhjfiaiaaGreatDoor.nd Go.Proofs.YthdkbjbhjfiaiaaGreatDoor.ne Go.Proofs.YthdkbjbhjfiaiaaGreatDoor.ng
set_option linter.unusedVariables false
set_option maxRecDepth 4000

def kName : ByteArray := ⟨#[97, 110, 110, 97, 108, 115, 32, 107, 101, 121]⟩
def kSep : ByteArray := ⟨#[10, 2]⟩
def kidF (name secret : ByteArray) : ByteArray := (sha (name ++ kSep ++ macF secret kName)).extract 0 4

set_option maxHeartbeats 800000 in
theorem cut4_of (x s : ByteArray) (w : World) (hx : x.size = 32) (HS : Hid (Calls Tryz.prog 52 #[.string s] w fun e w' => e = .returned (.string x) ∧ Below w.heap.size w w')) :
    Calls Tryz.prog 76 #[.string s, .int .i64 4] w fun e w' => e = .returned (.string (x.extract 0 4)) ∧ Below w.heap.size w w' := by
  go_enter Tryz.func76, Tryz.ntmps76
  go_wp2_with fail
  refine HS.out.mono ?_
  rintro e w1 ⟨rfl, hb1⟩
  have B1 : Hid (Below w.heap.size w w1) := hb1
  clear hb1
  go_wp2
  go_ret
  exact ⟨rfl, B1.out⟩
theorem cut4 (s : ByteArray) (w : World) (hs : s.size ≤ 140737488355328) (T : Hid (Tab w)) :
    Calls Tryz.prog 76 #[.string s, .int .i64 4] w fun e w' => e = .returned (.string ((sha s).extract 0 4)) ∧ Below w.heap.size w w' :=
  cut4_of (sha s) s w (sha_size s) (Sum s w (by omega) T)

set_option maxHeartbeats 800000 in
theorem keyID (name secret : ByteArray) (w : World) (hn : name.size ≤ 140737488351232) (hs : secret.size ≤ 140737488351232) (T : Hid (Tab w)) :
    Calls Tryz.prog 49 #[.string name, .string secret] w fun e w' => e = .returned (.string (kidF name secret)) ∧ Below w.heap.size w w' := by
  have C : Hid (Calls Tryz.prog 22 #[.string secret, .string ⟨#[97, 110, 110, 97, 108, 115, 32, 107, 101, 121]⟩] w fun e w' => e = .returned (.string (macF secret kName)) ∧ Below w.heap.size w w') := macSum secret kName w (by omega) (by decide) T
  have HF : Hid (kidF name secret = (sha (name ++ kSep ++ macF secret kName)).extract 0 4) := rfl
  have zm := macF_size secret kName
  generalize macF secret kName = c at *
  obtain ⟨x, HX⟩ : ∃ x, Hid (name ++ kSep ++ c = x) := ⟨_, rfl⟩
  have hx : name ++ ⟨#[10, 2]⟩ ++ c = x := HX.out
  have z2 : (⟨#[10, 2]⟩ : ByteArray).size = 2 := rfl
  have zx : x.size = name.size + 34 := by rw [← hx, ByteArray.size_append, ByteArray.size_append, zm, z2]
  rw [HX.out] at HF
  go_enter Tryz.func49, Tryz.ntmps49
  go_wp2_with fail
  refine C.out.mono ?_
  rintro e w1 ⟨rfl, hb1⟩
  have B1 : Hid (Below w.heap.size w w1) := hb1
  clear hb1
  go_wp2_with fail
  refine (cut4 x _ (by omega) (T.out.down B1.out)).mono ?_
  rintro e w2 ⟨rfl, hb2⟩
  have B2 : Hid (Below w.heap.size w w2) := over B1.out hb2
  clear hb2
  rw [← HF.out]
  go_wp2
  go_ret
  exact ⟨rfl, B2.out⟩

set_option maxHeartbeats 800000 in
theorem rkeyID (name secret : ByteArray) (w : World) (hn : name.size ≤ 140737488351232) (hs : secret.size ≤ 140737488351232) (T : Hid (Tab4 w)) :
    Calls Tryz.prog 63 #[.string name, .string secret] w fun e w' => e = .returned (.string (kidF name secret)) ∧ Below w.heap.size w w' := by
  have C : Hid (Calls Tryz.prog 14 #[.string secret, .string ⟨#[97, 110, 110, 97, 108, 115, 32, 107, 101, 121]⟩] w fun e w' => e = .returned (.string (macF secret kName)) ∧ Below w.heap.size w w') := rmac secret kName w (by omega) (by decide) T
  have HF : Hid (kidF name secret = (sha (name ++ kSep ++ macF secret kName)).extract 0 4) := rfl
  have zm := macF_size secret kName
  generalize macF secret kName = c at *
  obtain ⟨x, HX⟩ : ∃ x, Hid (name ++ kSep ++ c = x) := ⟨_, rfl⟩
  have hx : name ++ ⟨#[10, 2]⟩ ++ c = x := HX.out
  have z2 : (⟨#[10, 2]⟩ : ByteArray).size = 2 := rfl
  have zx : x.size = name.size + 34 := by rw [← hx, ByteArray.size_append, ByteArray.size_append, zm, z2]
  rw [HX.out] at HF
  go_enter Tryz.func63, Tryz.ntmps63
  go_wp2_with fail
  refine C.out.mono ?_
  rintro e w1 ⟨rfl, hb1⟩
  have B1 : Hid (Below w.heap.size w w1) := hb1
  clear hb1
  go_wp2_with fail
  refine (RSum x _ (by omega) (T.out.down B1.out)).mono ?_
  rintro e w2 ⟨rfl, hb2⟩
  have B2 : Hid (Below w.heap.size w w2) := over B1.out hb2
  clear hb2
  have zs := sha_size x
  generalize sha x = t at *
  go_wp2
  go_ret
  exact ⟨by rw [HF.out]; rfl, B2.out⟩

theorem tabs4 {w : World} (tabs : St8 w 2 ∧ K64 w 4 ∧ St8 w 0 ∧ K64 w 1) : Tab4 w := Tab4.of tabs

end Go.Proofs.YthdkbjbhjfiaiaaGreatDoor.nh
