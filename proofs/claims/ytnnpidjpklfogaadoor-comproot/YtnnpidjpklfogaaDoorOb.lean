import Derived.Test.YtnnpidjpklfogaaDoorOa
import Derived.Test.YtnnpidjpklfogaaDoorNc
namespace Go.Proofs.YtnnpidjpklfogaaDoor.ob
open Go.RowKit Go.PlainAid
open Go.Proofs.YtnnpidjpklfogaaDoor.pl Go.Proofs.YtnnpidjpklfogaaDoor.pi Go.Proofs.YtnnpidjpklfogaaDoor.pj Go.Proofs.YtnnpidjpklfogaaDoor.rf Go.Proofs.YtnnpidjpklfogaaDoor.ca Go.Proofs.YtnnpidjpklfogaaDoor.cb Go.Proofs.YtnnpidjpklfogaaDoor.cp Go.Proofs.YtnnpidjpklfogaaDoor.cs Go.Proofs.YtnnpidjpklfogaaDoor.ka Go.Proofs.YtnnpidjpklfogaaDoor.kb Go.Proofs.YtnnpidjpklfogaaDoor.ga Go.Proofs.YtnnpidjpklfogaaDoor.gb Go.Proofs.YtnnpidjpklfogaaDoor.na Go.Proofs.YtnnpidjpklfogaaDoor.nb Go.Proofs.YtnnpidjpklfogaaDoor.nc Go.Proofs.YtnnpidjpklfogaaDoor.oa
set_option linter.unusedVariables false

-- a frontier; answers
abbrev FV (lo hi : Int) (u : Value) : Value := .agg #[.int .i64 lo, .int .i64 hi, u]
def pick {α : Type} (c : Int) (x y : α) : α := if c = 0 then x else y
def Texts (w : World) (B : Nat) (u : Value) (hs : List ByteArray) : Prop := w.ownsRow B 9 1 u hs.length (hs.map Value.string)
def Mades (w : World) (B : Nat) (u : Value) (ms : List Md) : Prop := w.ownsRow B 54 3 u ms.length (mls ms)
def Told (w w' : World) (e : Ending) (lo hi : Int) (hs : List ByteArray) (ms : List Md) (c : Int) : Prop := ∃ u m, e = .returned (.tuple #[FV lo hi u, m, .int .i64 c]) ∧ Texts w' w.heap.size u hs ∧ Mades w' w.heap.size m ms
theorem Texts.later {w w' : World} {B : Nat} {u : Value} {hs : List ByteArray} (h : Texts w B u hs) (hb : Below w.heap.size w w') : Texts w' B u hs := own_later h hb
theorem Mades.later {w w' : World} {B : Nat} {u : Value} {ms : List Md} (h : Mades w B u ms) (hb : Below w.heap.size w w') : Mades w' B u ms := own_later h hb
theorem Texts.down {w : World} {B B' : Nat} {u : Value} {hs : List ByteArray} (h : Texts w B' u hs) (hB : B ≤ B') : Texts w B u hs := own_down h hB
theorem Mades.down {w : World} {B B' : Nat} {u : Value} {ms : List Md} (h : Mades w B' u ms) (hB : B ≤ B') : Mades w B u ms := own_down h hB
theorem Texts.reads {w : World} {B : Nat} {u : Value} {hs : List ByteArray} (h : Texts w B u hs) : ReadsT w u hs := own_readsT h
theorem Mades.reads {w : World} {B : Nat} {u : Value} {ms : List Md} (h : Mades w B u ms) : ReadsM w u ms := own_readsM h
-- what the program's calls promise (T: what they ask of the world)
def StartC (T : World → Prop) : Prop := ∀ (q : Int) (w : World), i64 q → T w → Calls Tryd.prog 18 #[.int .i64 q] w fun e w' => (∃ u, e = .returned (.tuple #[FV (if 0 ≤ q ∧ q ≤ 4611686018427387904 then q else 0) (if 0 ≤ q ∧ q ≤ 4611686018427387904 then q else 0) u, .int .i64 (if 0 ≤ q ∧ q ≤ 4611686018427387904 then 0 else 10)]) ∧ Texts w' w.heap.size u []) ∧ Below w.heap.size w w'
def CheckC (T : World → Prop) : Prop := ∀ (wd lo hi : Int) (u : Value) (hs : List ByteArray) (w : World), i64 wd → i64 lo → i64 hi → T w → ReadsT w u hs → Fits hs → Calls Tryd.prog 17 #[.int .i64 wd, FV lo hi u] w fun e w' => e = .returned (.int .i64 (chkE wd lo hi hs)) ∧ Below w.heap.size w w'
def PushC (T : World → Prop) : Prop := ∀ (wd lo hi : Int) (u : Value) (hs : List ByteArray) (h : ByteArray) (w : World), i64 wd → i64 lo → i64 hi → T w → ReadsT w u hs → Fits hs → h.size ≤ 140737488352000 → Calls Tryd.prog 21 #[.int .i64 wd, FV lo hi u, .string h] w fun e w' => Told w w' e (pick (pushE wd lo hi hs h) lo 0) (pick (pushE wd lo hi hs h) (hi + 1) 0) (pick (pushE wd lo hi hs h) (labs (pushR wd lo hi hs h).1) []) (pick (pushE wd lo hi hs h) (pushR wd lo hi hs h).2 []) (pushE wd lo hi hs h) ∧ Below w.heap.size w w'
def MergeC (T : World → Prop) : Prop := ∀ (wd lo hi : Int) (u : Value) (hs : List ByteArray) (lo' hi' : Int) (u' : Value) (hs' : List ByteArray) (w : World), i64 wd → i64 lo → i64 hi → i64 lo' → i64 hi' → T w → ReadsT w u hs → Fits hs → ReadsT w u' hs' → Fits hs' → Calls Tryd.prog 11 #[.int .i64 wd, FV lo hi u, FV lo' hi' u'] w fun e w' => Told w w' e (pick (mergeE wd lo hi hs lo' hi' hs') lo 0) (pick (mergeE wd lo hi hs lo' hi' hs') hi' 0) (pick (mergeE wd lo hi hs lo' hi' hs') (labs (mergeR wd lo hi hs lo' hi' hs').1) []) (pick (mergeE wd lo hi hs lo' hi' hs') (mergeR wd lo hi hs lo' hi' hs').2 []) (mergeE wd lo hi hs lo' hi' hs') ∧ Below w.heap.size w w'
def RootC7 (T : World → Prop) : Prop := ∀ (wd lo hi : Int) (u : Value) (hs : List ByteArray) (w : World), i64 wd → i64 lo → i64 hi → T w → ReadsT w u hs → Fits hs → Calls Tryd.prog 19 #[.int .i64 wd, FV lo hi u] w fun e w' => e = .returned (.tuple #[.string (pick (rootE wd lo hi hs) (foldP (EF wd) (NF wd) hs) ByteArray.empty), .int .i64 (rootE wd lo hi hs)]) ∧ Below w.heap.size w w'
-- what is small fits
theorem fits_small {wd : Int} {hs : List ByteArray} (h1 : hs.length ≤ 122) (h2 : ∀ h ∈ hs, h.size = wid wd) : Fits hs := ⟨fun x hx => by rw [h2 x hx]; have := wid_in wd; omega, by omega⟩
theorem fits_good {wd lo hi : Int} {hs : List ByteArray} (h : GoodF wd lo hi hs) : Fits hs := by
  obtain ⟨a, b, _, _, _, _, h3⟩ := good_form h
  exact fits_small h3 h.2.2
-- over the true hashes
theorem push_at {wd : Int} {f : Nat → ByteArray} (hf : ∀ i, (f i).size = wid wd) {lo hi : Nat} (h1 : lo ≤ hi) (h2 : hi < 4611686018427387904) : pushE wd lo hi (covH wd f lo hi) (f hi) = 0 := by
  unfold pushE
  rw [if_pos (chk_ok.2 (covH_good hf h1 (Nat.le_of_lt h2))), if_pos (hf hi), if_neg (by omega)]
theorem merge_at {wd : Int} {f : Nat → ByteArray} (hf : ∀ i, (f i).size = wid wd) {lo p hi : Nat} (h1 : lo ≤ p) (h2 : p ≤ hi) (h3 : hi ≤ 4611686018427387904) : mergeE wd lo p (covH wd f lo p) p hi (covH wd f p hi) = 0 := by
  unfold mergeE
  rw [if_pos (chk_ok.2 (covH_good hf h1 (by omega))), if_pos (chk_ok.2 (covH_good hf h2 h3)), if_pos rfl]
def Push1 (T : World → Prop) : Prop := ∀ (wd : Int) (f : Nat → ByteArray), (∀ i, (f i).size = wid wd) → ∀ (lo hi : Nat) (u : Value) (w : World), i64 wd → lo ≤ hi → hi < 4611686018427387904 → T w → ReadsT w u (covH wd f lo hi) → Calls Tryd.prog 21 #[.int .i64 wd, FV lo hi u, .string (f hi)] w fun e w' => (∃ u m, e = .returned (.tuple #[FV lo ((hi : Int) + 1) u, m, .int .i64 0]) ∧ Texts w' w.heap.size u (covH wd f lo (hi + 1)) ∧ Mades w' w.heap.size m (pushR wd lo hi (covH wd f lo hi) (f hi)).2) ∧ Below w.heap.size w w'
theorem push1 {T : World → Prop} (C : PushC T) : Push1 T := by
  intro wd f hf lo hi u w hwd h1 h2 hT hR
  have hp := wid_in wd
  have := C wd lo hi u (covH wd f lo hi) (f hi) w hwd (i64_nat (by omega)) (i64_nat (by omega)) hT hR (fits_good (covH_good hf h1 (Nat.le_of_lt h2))) (by rw [hf]; omega)
  rw [push_at hf h1 h2] at this
  unfold pick at this
  simp only [if_true] at this
  rw [(push_true hf h1 h2).1] at this
  exact this
def Merge1 (T : World → Prop) : Prop := ∀ (wd : Int) (f : Nat → ByteArray), (∀ i, (f i).size = wid wd) → ∀ (lo p hi : Nat) (u u' : Value) (w : World), i64 wd → lo ≤ p → p ≤ hi → hi ≤ 4611686018427387904 → T w → ReadsT w u (covH wd f lo p) → ReadsT w u' (covH wd f p hi) → Calls Tryd.prog 11 #[.int .i64 wd, FV lo p u, FV p hi u'] w fun e w' => (∃ u m, e = .returned (.tuple #[FV lo hi u, m, .int .i64 0]) ∧ Texts w' w.heap.size u (covH wd f lo hi) ∧ Mades w' w.heap.size m (mergeR wd lo p (covH wd f lo p) p hi (covH wd f p hi)).2) ∧ Below w.heap.size w w'
theorem merge1 {T : World → Prop} (C : MergeC T) : Merge1 T := by
  intro wd f hf lo p hi u u' w hwd h1 h2 h3 hT hR hR'
  have := C wd lo p u (covH wd f lo p) p hi u' (covH wd f p hi) w hwd (i64_nat (by omega)) (i64_nat (by omega)) (i64_nat (by omega)) (i64_nat (by omega)) hT hR (fits_good (covH_good hf h1 (by omega))) hR' (fits_good (covH_good hf h2 h3))
  rw [merge_at hf h1 h2 h3] at this
  unfold pick at this
  simp only [if_true] at this
  rw [(merge_true hf h1 h2 h3).1] at this
  exact this
end Go.Proofs.YtnnpidjpklfogaaDoor.ob
