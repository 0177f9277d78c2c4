import Derived.Test.YtpcllegjnbeppaaGreatT1
import Derived.Deep.RegionWith
import Derived.Deep.DeepCutAuto
import Derived.Deep.QuietTactic
import Derived.BigQuiet
import Derived.RegionTactic
import Derived.Laws.BytesString
namespace Go.Proofs.YtpcllegjnbeppaaGreat.tda
open Go.RowKit Go.PlainAid
open Go.Proofs.YtpcllegjnbeppaaGreat.na Go.Proofs.YtpcllegjnbeppaaGreat.nb Go.Proofs.YtpcllegjnbeppaaGreat.tpa Go.Proofs.YtpcllegjnbeppaaGreat.tpb Go.Proofs.YtpcllegjnbeppaaGreat.tpd Go.Proofs.YtpcllegjnbeppaaGreat.tpe Go.Proofs.YtpcllegjnbeppaaGreat.tpf Go.Proofs.YtpcllegjnbeppaaGreat.tra Go.Proofs.YtpcllegjnbeppaaGreat.trb Go.Proofs.YtpcllegjnbeppaaGreat.trq Go.Proofs.YtpcllegjnbeppaaGreat.tqa
open Go.Proofs.YtpcllegjnbeppaaGreat.tqb (over letterB kindT spaceT)
set_option linter.unusedVariables false
set_option linter.unusedSimpArgs false
theorem add_text (a b : ByteArray) (h : a.size + b.size ≤ 9223372036854775807) : Op.stringOp .add a b = pure (.string (a ++ b)) := by
  unfold Op.stringOp
  rw [if_neg]
  have e : IntKind.i64.max = 9223372036854775807 := by decide
  rw [e]
  omega
theorem below_dr {B : Nat} {w w' : World} (h : Below B w w') : Below B w w'.drew := h.drew
theorem conv_at (W : World) (b : Nat) (c : Int) (hc : W.cell? ⟨b, 0, none⟩ = some (.int .u8 c)) :
    (convert 84 9 (.slice (some ⟨b, 0, none⟩) 1 1)).run Tryz.prog W = .ok (.string (str [c])) W := by
  rw [run_convert_bytes_string _ 84 9 5 _ _ _ Tryz.underlying84 Tryz.underlying5 Tryz.underlying9]
  refine run_bytesToString _ _ _ _ [c] ?_
  have h := run_loadCells_list (P := Tryz.prog) (w := W) ⟨b, 0, none⟩ ([c].map (Value.int .u8)) ?_
  · simpa using h
  · intro j v hj
    cases j with
    | zero => simp at hj; subst hj; simpa [Addr.add] using hc
    | succ j => simp at hj
theorem cell_one (w w2 : World) (c : Int) (k : Below (w.alloc (.cells #[.int .u8 c] 5)).heap.size (w.alloc (.cells #[.int .u8 c] 5)) w2) : w2.cell? ⟨w.heap.size, 0, none⟩ = some (.int .u8 c) := by
  have h : (w.alloc (.cells #[.int .u8 c] 5)).cell? ⟨w.heap.size, 0, none⟩ = some (.int .u8 c) := by
    rw [World.cell?_alloc_at _ _ _ _ rfl]; rfl
  exact (k.cell (World.block_lt_of_cell? _ _ h)).trans h
theorem cell_kept (w2 w3 : World) (b : Nat) (c : Int) (k : Below w2.heap.size w2 w3) (h : w2.cell? ⟨b, 0, none⟩ = some (.int .u8 c)) : w3.cell? ⟨b, 0, none⟩ = some (.int .u8 c) :=
  (k.cell (World.block_lt_of_cell? _ _ h)).trans h
theorem below2 {B : Nat} {w w1 w2 : World} (h : Below B w w1) (b : Below w1.heap.size w1 w2) (hB : B ≤ w.heap.size) : Below B w w2 := h.trans (b.mono (Nat.le_trans hB h.size))
theorem rput (v : Int) (n : Nat) (w : World) (h0 : 0 ≤ v) (h1 : v ≤ 18446744073709551615) (hn : 1 ≤ n) (hn8 : n ≤ 8) (hf : v / 256 ^ n = 0) :
    Calls Tryz.prog 113 #[.int .u64 v, .int .i64 n] w fun e w' => e = .returned (.tuple #[.string (str (lowB v n)), .int .i64 0]) ∧ Below w.heap.size w w' :=
  rput_any v n w h0 h1 hn hn8 _ _ (.inl ⟨hf, rfl, rfl⟩)
theorem bigC (v : Int) (n : Nat) (w : World) (h0 : 0 ≤ v) (h1 : v ≤ 9223372036854775807) (hn : 1 ≤ n) (hn8 : n ≤ 8) (hf : v / 256 ^ n = 0) :
    Calls Tryz.prog 73 #[.int .i64 v, .int .i64 n] w fun e w' => e = .returned (.string (str (lowB v n))) ∧ Below w.heap.size w w' := by
  have hw : IntKind.u64.wrap v = v := u64_nonneg h0 (by omega)
  have C : Hid (∀ w, Calls _ _ _ _ _) := fun w => rput v n w h0 (by omega) hn hn8 hf
  clear hf
  go_enter Tryz.func73, Tryz.ntmps73
  go_wp2_with fail
  refine (C.out _).mono ?_
  rintro e w1 ⟨rfl, hb⟩
  go_wp2
  go_ret
  exact ⟨rfl, hb⟩
theorem big8R (v : Int) (w : World) (h0 : 0 ≤ v) (h1 : v ≤ 9223372036854775807) : Calls Tryz.prog 73 #[.int .i64 v, .int .i64 8] w fun e w' => e = .returned (.string (str (lowB v 8))) ∧ Below w.heap.size w w' := bigC v 8 w h0 h1 (by omega) (by omega) (Go.Proofs.YtpcllegjnbeppaaGreat.tqa.fit8 v h0 (by omega))
theorem big4R (v : Int) (w : World) (h0 : 0 ≤ v) (h1 : v < 4294967296) : Calls Tryz.prog 73 #[.int .i64 v, .int .i64 4] w fun e w' => e = .returned (.string (str (lowB v 4))) ∧ Below w.heap.size w w' := bigC v 4 w h0 (by omega) (by omega) (by omega) (Go.Proofs.YtpcllegjnbeppaaGreat.tqa.fit4 v h0 (by omega))
theorem sumR (s : ByteArray) (w : World) (hs : s.size ≤ 281474976710656) : Calls Tryz.prog 83 #[.string s] w fun e w' => e = .returned (.string (str (lowB ((crcF s : Nat) : Int) 4))) ∧ Below w.heap.size w w' := by
  have C1 : Hid (∀ w, Calls Tryz.prog 116 #[.string s] w fun e w' => e = .returned (.int .u32 ((crcF s : Nat) : Int)) ∧ w' = w) := fun w => rcrc s w hs
  have hlt := crcF_lt s
  have C2 : Hid (∀ w, Calls _ _ _ _ _) := fun w => big4R ((crcF s : Nat) : Int) w (by omega) (by omega)
  generalize crcF s = x at *
  go_enter Tryz.func83, Tryz.ntmps83
  go_wp2_with fail
  refine (C1.out _).mono ?_
  rintro _ _ ⟨rfl, hw⟩; rw [hw]; clear hw
  go_wp2_with fail
  refine (C2.out _).mono ?_
  rintro _ w1 ⟨rfl, hb⟩
  go_wp2
  go_ret
  exact ⟨rfl, hb⟩
set_option maxRecDepth 100000 in
set_option maxHeartbeats 3200000 in
theorem keyR (s k n : Int) (w : World) (h0 : 0 ≤ s) (h1 : s ≤ 9223372036854775807) (k0 : 1 ≤ k) (k1 : k ≤ 255) (n0 : 0 ≤ n) (n1 : n ≤ 9223372036854775807) :
    Calls Tryz.prog 40 #[.int .i64 s, .int .i64 k, .int .i64 n] w fun e w' => e = .returned (.tuple #[.string (keyT s k n), .int .i64 0]) ∧ Below w.heap.size w w' := by
  have C1 : Hid (∀ w, Calls _ _ _ _ _) := fun w => big8R s w h0 h1
  have C2 : Hid (∀ w, Calls _ _ _ _ _) := fun w => big8R n w n0 n1
  have HE : Hid (keyT s k n = ⟨#[66]⟩ ++ str (lowB s 8) ++ str [k] ++ str (lowB n 8)) := by show _ = _; rw [letterB]; exact keyT_parts s k n
  have hz1 : (str (lowB s 8)).size = 8 := by rw [str_size, lowB_length]
  have hz2 : (str (lowB n 8)).size = 8 := by rw [str_size, lowB_length]
  have hz3 : (str [k]).size = 1 := str_size [k]
  have hz0 : (⟨#[66]⟩ : ByteArray).size = 1 := rfl
  have hcv := conv_one
  have hcv1 : (convert 84 9 (.slice (some ⟨w.heap.size, 0, none⟩) 1 1)).run Tryz.prog ((w.alloc (.cells #[.int .u8 k] 5)).drew) = .ok (.string (str [k])) ((w.alloc (.cells #[.int .u8 k] 5)).drew) := conv_one w.drew k
  rw [HE.out]
  have a1 := add_text (⟨#[66]⟩ : ByteArray) (str (lowB s 8)) (by omega)
  have z1 : ((⟨#[66]⟩ : ByteArray) ++ str (lowB s 8)).size = 9 := by rw [app_size]; omega
  have a2 := add_text ((⟨#[66]⟩ : ByteArray) ++ str (lowB s 8)) (str [k]) (by omega)
  have z2 : ((⟨#[66]⟩ : ByteArray) ++ str (lowB s 8) ++ str [k]).size = 10 := by rw [app_size]; omega
  have a3 := add_text ((⟨#[66]⟩ : ByteArray) ++ str (lowB s 8) ++ str [k]) (str (lowB n 8)) (by omega)
  have hu : IntKind.u8.wrap k = k := by rw [IntKind.wrap_u8]; omega
  have KA : Hid (∀ w2, Below w.drew.heap.size w.drew w2 → Below w.heap.size w w2) := fun w2 h => below2 (below_dr (Below.refl _ _)) h (Nat.le_refl _)
  have KB : Hid (∀ w2, Below ((w.alloc (.cells #[.int .u8 k] 5)).drew).heap.size ((w.alloc (.cells #[.int .u8 k] 5)).drew) w2 → Below w.heap.size w w2) := fun w2 h => below2 (below_dr ((Below.refl _ _).alloc (Nat.le_refl _) _)) h (Nat.le_refl _)
  clear HE
  go_enter Tryz.func40, Tryz.ntmps40
  go_upto_region 3 with fail
  go_region_with (go_at_call 73; first
      | ((with_reducible refine (C1.out _).mono ?_); rintro _ w2 ⟨rfl, k2⟩; first
          | (have B2 : Hid (Below w.heap.size w w2) := KA.out _ k2; have hcv2 := conv_one w2 k; clear k2)
          | (have B2 : Hid (Below w.heap.size w w2) := KB.out _ k2; have c2 : Hid (w2.cell? ⟨w.heap.size, 0, none⟩ = some (.int .u8 k)) := cell_one w.drew w2 k k2; have hcv2 := conv_at w2 _ k c2.out; clear k2))
      | ((with_reducible refine (C2.out _).mono ?_); rintro _ w3 ⟨rfl, k3⟩; first
          | (have B3 : Hid (Below w.heap.size w w3) := below2 B2.out k3 (Nat.le_refl _); first
              | (have c3 : Hid (w3.cell? ⟨w.heap.size, 0, none⟩ = some (.int .u8 k)) := cell_kept _ w3 _ k k3 c2.out; have hcv3 := conv_at w3 _ k c3.out; clear k3)
              | (have hcv3 := conv_one w3 k; clear k3))
          | (have B3 : Hid (Below w.heap.size w w3) := below2 (B2.out.alloc B2.out.size _) k3 (Nat.le_refl _); have hcv3 := conv_at w3 _ k (cell_one w2 w3 k k3); clear k3)))
  all_goals (
    go_wp2
    go_ret2
    exact ⟨rfl, by first | exact B3.out | exact B3.out.alloc B3.out.size _⟩)
theorem keyNoR (s k n : Int) (w : World) (h : ¬ (0 ≤ s ∧ 1 ≤ k ∧ k ≤ 255 ∧ 0 ≤ n)) :
    Calls Tryz.prog 40 #[.int .i64 s, .int .i64 k, .int .i64 n] w fun e w' => e = .returned (.tuple #[.string ByteArray.empty, .int .i64 10]) ∧ w' = w := by
  have : s < 0 ∨ (¬ s < 0 ∧ k < 1) ∨ (¬ s < 0 ∧ ¬ k < 1 ∧ 255 < k) ∨ (¬ s < 0 ∧ ¬ k < 1 ∧ ¬ 255 < k ∧ n < 0) := by omega
  clear h
  rcases this with h1 | ⟨h1, h2⟩ | ⟨h1, h2, h3⟩ | ⟨h1, h2, h3, h4⟩
  all_goals
    go_enter Tryz.func40, Tryz.ntmps40
    go_wp2
    go_ret2
    exact ⟨rfl, rfl⟩
end Go.Proofs.YtpcllegjnbeppaaGreat.tda
