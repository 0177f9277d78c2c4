import Derived.Test.YtmmbkfagchaocaaDoorA8
import Derived.Laws.AppendOwnNone
import Derived.Test.YtmmbkfagchaocaaDoorA3
import Derived.Laws.EntriesVeiled
import Derived.Test.YtmmbkfagchaocaaDoorB1
import Derived.Deep.AppendLies
import Derived.Lib.SliceRun
import Derived.BigQuiet
import Derived.Deep.DeepCutAuto
import Derived.Laws.BitsAllLaws
namespace Go.Proofs.YtmmbkfagchaocaaDoor.sg
open Go.RowKit Go.PlainAid Go.Shelf
open Go.Proofs.YtmmbkfagchaocaaDoor.pl Go.Proofs.YtmmbkfagchaocaaDoor.pi Go.Proofs.YtmmbkfagchaocaaDoor.rf Go.Proofs.YtmmbkfagchaocaaDoor.pj Go.Proofs.YtmmbkfagchaocaaDoor.ca Go.Proofs.YtmmbkfagchaocaaDoor.cb Go.Proofs.YtmmbkfagchaocaaDoor.cp Go.Proofs.YtmmbkfagchaocaaDoor.cs Go.Proofs.YtmmbkfagchaocaaDoor.xc Go.Proofs.YtmmbkfagchaocaaDoor.ka Go.Proofs.YtmmbkfagchaocaaDoor.kb Go.Proofs.YtmmbkfagchaocaaDoor.ga Go.Proofs.YtmmbkfagchaocaaDoor.aa Go.Proofs.YtmmbkfagchaocaaDoor.ab Go.Proofs.YtmmbkfagchaocaaDoor.tb Go.Proofs.YtmmbkfagchaocaaDoor.ac Go.Proofs.YtmmbkfagchaocaaDoor.bc Go.Proofs.YtmmbkfagchaocaaDoor.sa Go.Proofs.YtmmbkfagchaocaaDoor.sb Go.Proofs.YtmmbkfagchaocaaDoor.sc Go.Proofs.YtmmbkfagchaocaaDoor.sd Go.Proofs.YtmmbkfagchaocaaDoor.se Go.Proofs.YtmmbkfagchaocaaDoor.sf
set_option linter.unusedVariables false

-- the source that a twin is
def tw (wd sz : Int) (ls : List ByteArray) (made : Bool) (fails code : Int) : Src := ⟨wd, if made then sz else ls.length, ls, made, fails, code⟩
structure Sized (ls : List ByteArray) : Prop where
  x : ∀ x ∈ ls, x.size ≤ 1048576
  k : ls.length ≤ 1048576
-- a source's block among others
theorem sj_new {s : Src} {sb : Nat} {lv : Value} {w : World} (hT : T7 w) (ho : So w sb s lv (.slice none 0 0)) (hsb : 6 ≤ sb) {B : Nat} (hB : sb < B) (hR : w.ownsRow B 9 1 lv s.ls.length (s.ls.map Value.string)) (hz : Sized s.ls) (hn : s.made = false → s.sz = s.ls.length) : Sj s sb lv w.heap.size (.slice none 0 0) (fun b => b = sb) [] w := by
  refine ⟨⟨hT, ho, own_readsT hR, hz.x, hn, ?_, hz.k⟩, World.ownsRow_nil _ _ _ _, fun b => ⟨fun h => .inl h, fun h => h.elim id (fun x => by cases x)⟩, ⟨hsb, ho.lt⟩, ?_, ⟨hT.t.t.big, Nat.le_refl _⟩⟩
  · intro a n c he
    rcases hR.2 with ⟨e, _⟩ | ⟨gg, cap, cur, e, _, _, _, hm, _⟩
    · rw [e] at he; injection he with _ _ e3; omega
    · rw [e] at he; injection he with _ _ e3; unfold maxLen at hm; omega
  · intro b off n c he
    have hg : lv.ownBlock = some b := by
      rcases hR.2 with ⟨e, _⟩ | ⟨gg, cap, cur, e, _⟩
      · rw [e] at he; cases he
      · rw [e] at he ⊢
        injection he with e1 e2 e3
        injection e1 with e1
        injection e1 with e1 e4
        subst e1
        rfl
    obtain ⟨h1, h2⟩ := owns_lt hR hg
    exact ⟨h1, fun e => by omega⟩
def Twinned (w : World) (s : Src) (e : Ending) (w' : World) : Prop := (∃ sb lv', e = .returned (.pointer (some ⟨sb, 0, none⟩)) ∧ w.heap.size ≤ sb ∧ (∀ b off n c, lv' = .slice (some ⟨b, off, none⟩) n c → w.heap.size ≤ b) ∧ Sj s sb lv' w'.heap.size (.slice none 0 0) (fun b => b = sb) [] w') ∧ Below w.heap.size w w'
end Go.Proofs.YtmmbkfagchaocaaDoor.sg

namespace Go.Proofs.YtmmbkfagchaocaaDoor.sh
open Go.RowKit Go.PlainAid Go.Shelf
open Go.Proofs.YtmmbkfagchaocaaDoor.pl Go.Proofs.YtmmbkfagchaocaaDoor.pi Go.Proofs.YtmmbkfagchaocaaDoor.rf Go.Proofs.YtmmbkfagchaocaaDoor.pj Go.Proofs.YtmmbkfagchaocaaDoor.ca Go.Proofs.YtmmbkfagchaocaaDoor.cb Go.Proofs.YtmmbkfagchaocaaDoor.cp Go.Proofs.YtmmbkfagchaocaaDoor.cs Go.Proofs.YtmmbkfagchaocaaDoor.xc Go.Proofs.YtmmbkfagchaocaaDoor.ka Go.Proofs.YtmmbkfagchaocaaDoor.kb Go.Proofs.YtmmbkfagchaocaaDoor.ga Go.Proofs.YtmmbkfagchaocaaDoor.aa Go.Proofs.YtmmbkfagchaocaaDoor.ab Go.Proofs.YtmmbkfagchaocaaDoor.tb Go.Proofs.YtmmbkfagchaocaaDoor.ac Go.Proofs.YtmmbkfagchaocaaDoor.bc Go.Proofs.YtmmbkfagchaocaaDoor.bd Go.Proofs.YtmmbkfagchaocaaDoor.bh Go.Proofs.YtmmbkfagchaocaaDoor.sa Go.Proofs.YtmmbkfagchaocaaDoor.sb Go.Proofs.YtmmbkfagchaocaaDoor.sc Go.Proofs.YtmmbkfagchaocaaDoor.sd Go.Proofs.YtmmbkfagchaocaaDoor.se Go.Proofs.YtmmbkfagchaocaaDoor.sf Go.Proofs.YtmmbkfagchaocaaDoor.sg
set_option linter.unusedVariables false

theorem box_and_box (w : World) (x y z u : Value) (t t' : TypeId) : ((w.alloc (.cells #[x, y, z] t)).alloc (.cells #[u] t')).drew.cell? ⟨w.heap.size, 0, none⟩ = some x ∧ ((w.alloc (.cells #[x, y, z] t)).alloc (.cells #[u] t')).drew.cell? ⟨w.heap.size, 1, none⟩ = some y ∧ ((w.alloc (.cells #[x, y, z] t)).alloc (.cells #[u] t')).drew.cell? ⟨w.heap.size, 2, none⟩ = some z ∧ ((w.alloc (.cells #[x, y, z] t)).alloc (.cells #[u] t')).drew.cell? ⟨w.heap.size + 1, 0, none⟩ = some u := by
  have h3 := three_box w x y z t
  have s1 : (w.alloc (.cells #[x, y, z] t)).heap.size = w.heap.size + 1 := by simp
  have B : Below (w.alloc (.cells #[x, y, z] t)).heap.size (w.alloc (.cells #[x, y, z] t)) ((w.alloc (.cells #[x, y, z] t)).alloc (.cells #[u] t')).drew := below_dN ((Below.refl _ _).alloc (Nat.le_refl _) _) 1
  refine ⟨(B.cell (World.block_lt_of_cell? _ _ h3.1)).trans h3.1, (B.cell (World.block_lt_of_cell? _ _ h3.2.1)).trans h3.2.1, (B.cell (World.block_lt_of_cell? _ _ h3.2.2)).trans h3.2.2, ?_⟩
  show ((w.alloc (.cells #[x, y, z] t)).alloc (.cells #[u] t')).cell? _ = _
  rw [← s1, World.cell?_alloc_at _ _ _ _ rfl]; rfl
def Readers (s : Src) (sb : Nat) (lv : Value) (base : Nat) (w : World) (F : Nat → Prop) (l : List (Nat × Nat)) (e : Ending) (w' : World) : Prop := (∃ tb, e = .returned (.agg #[.int .i64 s.wd, .int .i64 s.sz, .func (.func 56) #[.pointer (some ⟨tb, 0, none⟩)] #[]]) ∧ TJ s sb lv base tb F l w') ∧ Below w.heap.size w w'
theorem readerS (s : Src) (sb : Nat) (lv : Value) (base : Nat) (F : Nat → Prop) (l : List (Nat × Nat)) (w : World) (hcd : i64 s.code) (hS : SJ s sb lv base F l w) :
    Calls Tryd.prog 36 #[.pointer (some ⟨sb, 0, none⟩)] w (Readers s sb lv base w F l) := by
  obtain ⟨k0, k1⟩ := SJ.cells hS
  have HJ : Hid (SJ s sb lv base F l w) := hS
  have HC : Hid (i64 s.code) := hcd
  unfold Readers
  obtain ⟨wd, HWD⟩ : ∃ x, Hid (s.wd = x) := ⟨_, rfl⟩
  obtain ⟨sz, HSZ⟩ : ∃ x, Hid (s.sz = x) := ⟨_, rfl⟩
  rw [HWD.out] at k0 ⊢
  rw [HSZ.out] at k1 ⊢
  obtain ⟨R0, HR0⟩ : ∃ R0, Hid (.cells #[.int .i64 0, .int .i64 0, .nilFunc] 48 = (R0 : Obj)) := ⟨_, rfl⟩
  have B0 : Hid (∀ o : Obj, Below w.heap.size w ((w.alloc o).alloc (.cells #[.pointer (some ⟨sb, 0, none⟩)] 107))) := fun o => ((Below.refl _ _).alloc (Nat.le_refl _) _).alloc (by simp) _
  have j0 := ((B0.out (.cells #[.int .i64 0, .int .i64 0, .nilFunc] 48)).cell (World.block_lt_of_cell? _ _ k0)).trans k0
  have j1 := ((B0.out (.cells #[.int .i64 0, .int .i64 0, .nilFunc] 48)).cell (World.block_lt_of_cell? _ _ k1)).trans k1
  have G : Hid (_ ∧ _ ∧ _ ∧ _) := box_and_box w (.int .i64 wd) (.int .i64 sz) (.func (.func 56) #[.pointer (some ⟨w.heap.size + 1, 0, none⟩)] #[]) (.pointer (some ⟨sb, 0, none⟩)) 48 107
  have B1 : Hid (Below w.heap.size w ((w.alloc (.cells #[.int .i64 wd, .int .i64 sz, .func (.func 56) #[.pointer (some ⟨w.heap.size + 1, 0, none⟩)] #[]] 48)).alloc (.cells #[.pointer (some ⟨sb, 0, none⟩)] 107)).drew) := below_dN (B0.out _) 1
  clear hS hcd
  go_enter Tryd.func36, Tryd.ntmps36
  go_wp2
  go_region
  all_goals (
    go_wp2
    (try simp only [Exit.inBlock, Exit.then])
    refine bodyPost_ret (by simp [results, Tryd.results36, go_sem, G.out.1, G.out.2.1, G.out.2.2.1]; try rfl) rfl ?_
    exact ⟨⟨w.heap.size + 1, rfl, (srcR s sb lv base HC.out).later HJ.out B1.out, G.out.2.2.2, fun hF => by have := (srcR s sb lv base HC.out).within HJ.out _ hF; omega⟩, B1.out⟩)
-- two sources that were asked for the same
theorem eqA (a b x y : Int) (w : World) : (binOp .neq 36 (.agg #[.int .i64 a, .int .i64 b]) (.agg #[.int .i64 x, .int .i64 y])).run Tryd.prog w = .ok (.bool (!(a == x && b == y))) w := by
  by_cases h1 : a = x <;> by_cases h2 : b = y <;> simp [go_sem, h1, h2]
end Go.Proofs.YtmmbkfagchaocaaDoor.sh

namespace Go.Proofs.YtmmbkfagchaocaaDoor.sm
open Go.RowKit Go.PlainAid Go.Shelf
open Go.Proofs.YtmmbkfagchaocaaDoor.pl Go.Proofs.YtmmbkfagchaocaaDoor.pi Go.Proofs.YtmmbkfagchaocaaDoor.rf Go.Proofs.YtmmbkfagchaocaaDoor.pj Go.Proofs.YtmmbkfagchaocaaDoor.ca Go.Proofs.YtmmbkfagchaocaaDoor.cb Go.Proofs.YtmmbkfagchaocaaDoor.cp Go.Proofs.YtmmbkfagchaocaaDoor.cs Go.Proofs.YtmmbkfagchaocaaDoor.xc Go.Proofs.YtmmbkfagchaocaaDoor.ka Go.Proofs.YtmmbkfagchaocaaDoor.kb Go.Proofs.YtmmbkfagchaocaaDoor.ga Go.Proofs.YtmmbkfagchaocaaDoor.aa Go.Proofs.YtmmbkfagchaocaaDoor.ab Go.Proofs.YtmmbkfagchaocaaDoor.ad Go.Proofs.YtmmbkfagchaocaaDoor.ae Go.Proofs.YtmmbkfagchaocaaDoor.tb Go.Proofs.YtmmbkfagchaocaaDoor.ac Go.Proofs.YtmmbkfagchaocaaDoor.bc Go.Proofs.YtmmbkfagchaocaaDoor.bd Go.Proofs.YtmmbkfagchaocaaDoor.bh Go.Proofs.YtmmbkfagchaocaaDoor.sa Go.Proofs.YtmmbkfagchaocaaDoor.sb Go.Proofs.YtmmbkfagchaocaaDoor.sc Go.Proofs.YtmmbkfagchaocaaDoor.sd Go.Proofs.YtmmbkfagchaocaaDoor.se
set_option linter.unusedVariables false

-- a source that makes each address's hash
def mds (wd : Int) (n : Nat) : Src := ⟨wd, n, [], true, 0, 0⟩
def mdh (wd : Int) (a : Nat × Nat) : ByteArray := cutS (madeB a.1 a.2) wd
theorem made_ask (wd : Int) (n : Nat) (hn : n ≤ 4611686018427387904) (p : Nat × Nat) (hp : p.2 ≤ n) : ∀ a ∈ cov p.1 p.2, ∀ k, askS (mds wd n) (k + 1) a = (mdh wd a, 0) ∧ okw wd (mdh wd a) = true := by
  intro a ha k
  obtain ⟨g1, g2, g3⟩ := cov_in p.1 p.2 a ha
  have hok : okA a.1 a.2 := (okA_nat a.1 a.2).2 ⟨g3, by omega⟩
  have hl : lookP (mds wd n) a.1 a.2 = (mdh wd a, 0) := by
    unfold lookP
    rw [if_pos hok, if_pos, if_pos (show (mds wd n).made = true from rfl)]
    · rfl
    · show ((a.2 : Int) + 1) * 2 ^ (a.1 : Int).toNat ≤ (n : Int)
      rw [Int.toNat_natCast]
      have : (a.2 + 1) * 2 ^ a.1 ≤ n := by omega
      exact_mod_cast this
  refine ⟨?_, ?_⟩
  · unfold askS nodeP
    rw [hl, if_pos (.inr (by show ((k + 1 : Nat) : Int) ≠ 0; omega))]
  · unfold okw mdh
    rw [decide_eq_true]
    exact cutS_size _ _
theorem made_told (wd : Int) (n : Nat) (hn : n ≤ 4611686018427387904) (lk : Nat → Nat → Nat) :
    (told (okw wd) (fow wd) (askS (mds wd n)) [] (WL lk 0 n)).2.1 = 0 ∧ (told (okw wd) (fow wd) (askS (mds wd n)) [] (WL lk 0 n)).1.length = (WL lk 0 n).length ∧ (told (okw wd) (fow wd) (askS (mds wd n)) [] (WL lk 0 n)).2.2.length ≤ 62 * (WL lk 0 n).length :=
  asked62 _ _ _ (mdh wd) lk n hn (fun p hp a ha k => made_ask wd n hn p (by have := WL_pt lk n 0 n rfl (Nat.zero_le _) (pt_top hn) p hp; omega) a ha k)
end Go.Proofs.YtmmbkfagchaocaaDoor.sm

namespace Go.Proofs.YtmmbkfagchaocaaDoor.sn
open Go.RowKit Go.PlainAid Go.Shelf
open Go.Proofs.YtmmbkfagchaocaaDoor.pl Go.Proofs.YtmmbkfagchaocaaDoor.pi Go.Proofs.YtmmbkfagchaocaaDoor.rf Go.Proofs.YtmmbkfagchaocaaDoor.pj Go.Proofs.YtmmbkfagchaocaaDoor.ca Go.Proofs.YtmmbkfagchaocaaDoor.cb Go.Proofs.YtmmbkfagchaocaaDoor.cp Go.Proofs.YtmmbkfagchaocaaDoor.cs Go.Proofs.YtmmbkfagchaocaaDoor.xc Go.Proofs.YtmmbkfagchaocaaDoor.ka Go.Proofs.YtmmbkfagchaocaaDoor.kb Go.Proofs.YtmmbkfagchaocaaDoor.ga Go.Proofs.YtmmbkfagchaocaaDoor.aa Go.Proofs.YtmmbkfagchaocaaDoor.ab Go.Proofs.YtmmbkfagchaocaaDoor.ad Go.Proofs.YtmmbkfagchaocaaDoor.ae Go.Proofs.YtmmbkfagchaocaaDoor.tb Go.Proofs.YtmmbkfagchaocaaDoor.ac Go.Proofs.YtmmbkfagchaocaaDoor.bc Go.Proofs.YtmmbkfagchaocaaDoor.bd Go.Proofs.YtmmbkfagchaocaaDoor.bh Go.Proofs.YtmmbkfagchaocaaDoor.sa Go.Proofs.YtmmbkfagchaocaaDoor.sb Go.Proofs.YtmmbkfagchaocaaDoor.sc Go.Proofs.YtmmbkfagchaocaaDoor.sd Go.Proofs.YtmmbkfagchaocaaDoor.se Go.Proofs.YtmmbkfagchaocaaDoor.sh Go.Proofs.YtmmbkfagchaocaaDoor.sg Go.Proofs.YtmmbkfagchaocaaDoor.sm
set_option linter.unusedVariables false

def Madeup (wd : Int) (n : Nat) (w : World) (e : Ending) (w' : World) : Prop :=
  (∃ sb tb base, e = .returned (.tuple #[.agg #[.int .i64 wd, .int .i64 n, .func (.func 56) #[.pointer (some ⟨tb, 0, none⟩)] #[]], .pointer (some ⟨sb, 0, none⟩)]) ∧ TJ (mds wd n) sb (.slice none 0 0) base tb (fun b => b = sb) [] w' ∧ w.heap.size ≤ sb) ∧ Below w.heap.size w w'
theorem sj_made (wd : Int) (n : Nat) (w : World) (o : Obj) (hT : T7 w) : SJ (mds wd n) (w.heap.size + 1) (.slice none 0 0) ((w.alloc o).alloc (.cells #[.int .i64 wd, .int .i64 n, .slice none 0 0, .bool true, .int .i64 0, .int .i64 0, .slice none 0 0] 80)).heap.size (fun b => b = w.heap.size + 1) [] ((w.alloc o).alloc (.cells #[.int .i64 wd, .int .i64 n, .slice none 0 0, .bool true, .int .i64 0, .int .i64 0, .slice none 0 0] 80)) := by
  have s1 : (w.alloc o).heap.size = w.heap.size + 1 := by simp
  have hb : Below w.heap.size w ((w.alloc o).alloc (.cells #[.int .i64 wd, .int .i64 n, .slice none 0 0, .bool true, .int .i64 0, .int .i64 0, .slice none 0 0] 80)) := ((Below.refl _ _).alloc (Nat.le_refl _) _).alloc (by simp) _
  have hq := hT.t.t.big
  have ho : So ((w.alloc o).alloc (.cells #[.int .i64 wd, .int .i64 n, .slice none 0 0, .bool true, .int .i64 0, .int .i64 0, .slice none 0 0] 80)) (w.heap.size + 1) (mds wd n) (.slice none 0 0) (.slice none 0 0) := by
    unfold So
    rw [← s1]
    exact heap_alloc_new _ _
  exact ⟨_, sj_new (hT.down hb) ho (by omega) (B := w.heap.size + 2) (by omega) (World.ownsRow_nil _ _ _ _) ⟨(fun x hx => by cases hx), by show (0 : Nat) ≤ 1048576; decide⟩ (fun h => by cases h)⟩
set_option maxHeartbeats 1600000 in
theorem madeC (wd : Int) (n : Nat) (w : World) (hT : T7 w) : Calls Tryd.prog 15 #[.int .i64 wd, .int .i64 n] w (Madeup wd n w) := by
  have SJ0 : Hid (SJ _ _ _ _ _ _ _) := sj_made wd n w (.cells #[.int .i64 0, .int .i64 0, .nilFunc] 48) hT
  obtain ⟨W0, HW0⟩ : ∃ W0, Hid ((w.alloc (.cells #[.int .i64 0, .int .i64 0, .nilFunc] 48)).alloc (.cells #[.int .i64 wd, .int .i64 n, .slice none 0 0, .bool true, .int .i64 0, .int .i64 0, .slice none 0 0] 80) = W0) := ⟨_, rfl⟩
  have B0 : Hid (Below w.heap.size w W0) := by show Below _ _ _; rw [← HW0.out]; exact ((Below.refl _ _).alloc (Nat.le_refl _) _).alloc (by simp) _
  have HZ : Hid (W0.heap[w.heap.size]? = some (.cells #[.int .i64 0, .int .i64 0, .nilFunc] 48 (0, 0))) := by
    show _ = _
    rw [← HW0.out]
    have := heap_alloc_new w (.cells #[.int .i64 0, .int .i64 0, .nilFunc] 48)
    have b1 : Below (w.alloc (.cells #[.int .i64 0, .int .i64 0, .nilFunc] 48)).heap.size (w.alloc (.cells #[.int .i64 0, .int .i64 0, .nilFunc] 48)) ((w.alloc (.cells #[.int .i64 0, .int .i64 0, .nilFunc] 48)).alloc (.cells #[.int .i64 wd, .int .i64 n, .slice none 0 0, .bool true, .int .i64 0, .int .i64 0, .slice none 0 0] 80)) := (Below.refl _ _).alloc (Nat.le_refl _) _
    exact (b1.block _ (Array.getElem?_eq_some_iff.1 this).1).trans this
  rw [HW0.out] at SJ0
  have RC : Hid (Calls _ _ _ _ _) := readerS (mds wd n) (w.heap.size + 1) (.slice none 0 0) W0.heap.size (fun b => b = w.heap.size + 1) [] W0 (by show i64 0; unfold i64; omega) SJ0.out
  have HQ : Hid (_ ≤ w.heap.size) := hT.t.t.big
  clear hT
  go_enter Tryd.func15, Tryd.ntmps15
  go_upto_region 2 with fail
  rw [HW0.out]
  go_wp2_with fail
  refine RC.out.mono ?_
  rintro e w1 ⟨⟨tb, rfl, htj⟩, hb1⟩
  rw [show (mds wd n).wd = wd from rfl, show (mds wd n).sz = (n : Int) from rfl]
  have HTJ : Hid (TJ (mds wd n) (w.heap.size + 1) (.slice none 0 0) W0.heap.size tb (fun b => b = w.heap.size + 1) [] w1 ∧ Below W0.heap.size W0 w1) := ⟨htj, hb1⟩
  have HZ1 : Hid (w1.heap[w.heap.size]? = some (.cells #[.int .i64 0, .int .i64 0, .nilFunc] 48 (0, 0))) := (hb1.block _ (Array.getElem?_eq_some_iff.1 HZ.out).1).trans HZ.out
  have hlt : w.heap.size < W0.heap.size := (Array.getElem?_eq_some_iff.1 HZ.out).1
  have d0 : w1.cell? ⟨w.heap.size, 0, none⟩ = some (.int .i64 0) := by rw [cell_of_row _ _ _ _ _ _ HZ1.out]; rfl
  have d1 : w1.cell? ⟨w.heap.size, 1, none⟩ = some (.int .i64 0) := by rw [cell_of_row _ _ _ _ _ _ HZ1.out]; rfl
  have d2 : w1.cell? ⟨w.heap.size, 2, none⟩ = some .nilFunc := by rw [cell_of_row _ _ _ _ _ _ HZ1.out]; rfl
  have f0 := frozen_of_row w1 w.heap.size 0 _ _ HZ1.out
  have f1 := frozen_of_row w1 w.heap.size 1 _ _ HZ1.out
  have f2 := frozen_of_row w1 w.heap.size 2 _ _ HZ1.out
  obtain ⟨W3, HW3⟩ : ∃ W3, Hid (((w1.setCell ⟨w.heap.size, 0, none⟩ (.int .i64 wd)).setCell ⟨w.heap.size, 1, none⟩ (.int .i64 n)).setCell ⟨w.heap.size, 2, none⟩ (.func (.func 56) #[.pointer (some ⟨tb, 0, none⟩)] #[]) = W3) := ⟨_, rfl⟩
  have H3 := heap_setCell_same _ _ 2 _ _ (.func (.func 56) #[.pointer (some ⟨tb, 0, none⟩)] #[]) (heap_setCell_same _ _ 1 _ _ (.int .i64 n) (heap_setCell_same _ _ 0 _ _ (.int .i64 wd) HZ1.out))
  rw [HW3.out] at H3
  have G3 : Hid (W3.cell? ⟨w.heap.size, 0, none⟩ = some (.int .i64 wd) ∧ W3.cell? ⟨w.heap.size, 1, none⟩ = some (.int .i64 n) ∧ W3.cell? ⟨w.heap.size, 2, none⟩ = some (.func (.func 56) #[.pointer (some ⟨tb, 0, none⟩)] #[])) :=
    ⟨by rw [cell_of_row _ _ _ _ _ _ H3]; rfl, by rw [cell_of_row _ _ _ _ _ _ H3]; rfl, by rw [cell_of_row _ _ _ _ _ _ H3]; rfl⟩
  have KK : Hid (Kp (fun b => b = w.heap.size) w1 W3) := by
    show Kp _ _ _
    rw [← HW3.out]
    exact ((Kp.setCell (A := fun b => b = w.heap.size) _ _ _ _ rfl).trans (Kp.setCell (A := fun b => b = w.heap.size) _ _ _ _ rfl)).trans (Kp.setCell (A := fun b => b = w.heap.size) _ _ _ _ rfl)
  have B3 : Hid (Below w.heap.size w W3) := (over B0.out hb1).trans (KK.out.below (fun k hk => by omega) (over B0.out hb1).size)
  have J3 : Hid (TJ (mds wd n) (w.heap.size + 1) (.slice none 0 0) W0.heap.size tb (fun b => b = w.heap.size + 1) [] W3) := by
    refine (telR (mds wd n) (w.heap.size + 1) (.slice none 0 0) W0.heap.size tb (by show i64 0; unfold i64; omega)).keep HTJ.out.1 KK.out (fun b hb => ?_)
    have hb' : b = w.heap.size := hb
    subst hb'
    refine ⟨fun h => ?_, fun h => ?_⟩
    · have h' : w.heap.size = w.heap.size + 1 := h
      omega
    · rcases h with (h | ⟨off, k, c, h⟩) | h
      · have := HQ.out; omega
      · cases h
      · have := HTJ.out.1.c
        rw [← h, d0] at this
        cases this
  clear H3 HZ1 HZ KK hlt htj hb1 HTJ RC SJ0
  go_wp2
  rw [HW3.out]
  obtain ⟨g1, g2, g3⟩ := G3.out
  (try simp only [Exit.inBlock, Exit.then])
  refine bodyPost_ret (by simp [results, Tryd.results15, go_sem, g1, g2, g3]; try rfl) rfl ?_
  exact ⟨⟨_, _, _, rfl, J3.out, by omega⟩, B3.out⟩
end Go.Proofs.YtmmbkfagchaocaaDoor.sn

namespace Go.Proofs.YtmmbkfagchaocaaDoor.bp
open Go.RowKit Go.PlainAid
open Go.Proofs.YtmmbkfagchaocaaDoor.ca Go.Proofs.YtmmbkfagchaocaaDoor.cp
set_option linter.unusedVariables false

-- a number below n, out of any
def pk (k : Int) (n : Nat) : Nat := (k % n).toNat
theorem pk_lt (k : Int) {n : Nat} (h : 1 ≤ n) : pk k n < n := by
  unfold pk
  have h1 := Int.emod_nonneg k (show (n : Int) ≠ 0 by omega)
  have h2 := Int.emod_lt_of_pos k (show (0 : Int) < n by omega)
  omega
theorem pick (k : Int) (n : Nat) (h : 1 ≤ n) (hn : n ≤ 4611686018427387905) (hk : i64 k) (w : World) : Calls Tryd.prog 14 #[.int .i64 k, .int .i64 n] w fun e w' => e = .returned (.int .i64 (pk k n : Nat)) ∧ w' = w := by
  have h1 := Int.emod_nonneg k (show (n : Int) ≠ 0 by omega)
  have h2 := Int.emod_lt_of_pos k (show (0 : Int) < n by omega)
  have q0 : ((n : Int) == 0) = false := by rw [beq_eq_false_iff_ne]; omega
  have hn0 : (n : Int) ≠ 0 := by omega
  obtain ⟨t, HT⟩ : ∃ t, Hid (k.tmod n = t) := ⟨_, rfl⟩
  have ht := HT.out
  have HP : Hid (((pk k n : Nat) : Int) = if t < 0 then t + n else t) := by
    show _ = _
    unfold pk
    rw [← HT.out, Int.toNat_of_nonneg h1]
    by_cases hk0 : 0 ≤ k
    · rw [Int.tmod_eq_emod_of_nonneg hk0, if_neg (by omega)]
    · rw [Int.tmod_eq_emod]
      by_cases hd : 0 ≤ k ∨ (n : Int) ∣ k
      · rw [if_pos hd]
        rw [if_neg (by omega)]
        omega
      · rw [if_neg hd]
        have : k % n ≠ 0 := fun e => hd (.inr (Int.dvd_of_emod_eq_zero e))
        have hna : ((n : Int).natAbs : Int) = n := by omega
        rw [if_pos (by omega)]
        omega
  have htb : -(n : Int) < t ∧ t < n := by
    rw [← HT.out]
    have e1 := Int.tmod_lt_of_pos k (show (0 : Int) < n by omega)
    have e2 := Int.lt_tmod_of_pos k (show (0 : Int) < n by omega)
    omega
  have hw1 : IntKind.i64.wrap t = t := by rw [IntKind.wrap_i64]; omega
  clear h1 h2
  by_cases h0 : t < 0
  · have HE : Hid (((pk k n : Nat) : Int) = t + n) := by have := HP.out; rw [if_pos h0] at this; exact this
    rw [HE.out]
    have hw2 : IntKind.i64.wrap (t + n) = t + n := by rw [IntKind.wrap_i64]; omega
    go_enter Tryd.func14, Tryd.ntmps14
    go_wp2
    go_ret
    exact ⟨rfl, rfl⟩
  · have HE : Hid (((pk k n : Nat) : Int) = t) := by have := HP.out; rw [if_neg h0] at this; exact this
    rw [HE.out]
    go_enter Tryd.func14, Tryd.ntmps14
    go_wp2
    go_ret
    exact ⟨rfl, rfl⟩
end Go.Proofs.YtmmbkfagchaocaaDoor.bp

namespace Go.Proofs.YtmmbkfagchaocaaDoor.mi
open Go.RowKit Go.PlainAid
open Go.Proofs.YtmmbkfagchaocaaDoor.pl Go.Proofs.YtmmbkfagchaocaaDoor.pi Go.Proofs.YtmmbkfagchaocaaDoor.rf Go.Proofs.YtmmbkfagchaocaaDoor.pj Go.Proofs.YtmmbkfagchaocaaDoor.ca Go.Proofs.YtmmbkfagchaocaaDoor.cb Go.Proofs.YtmmbkfagchaocaaDoor.cp Go.Proofs.YtmmbkfagchaocaaDoor.cs Go.Proofs.YtmmbkfagchaocaaDoor.ka Go.Proofs.YtmmbkfagchaocaaDoor.kb Go.Proofs.YtmmbkfagchaocaaDoor.ga Go.Proofs.YtmmbkfagchaocaaDoor.aa Go.Proofs.YtmmbkfagchaocaaDoor.ab
set_option linter.unusedVariables false

-- a list of numbers in memory
def ReadsI (w : World) (v : Value) (xs : List Int) : Prop :=
  ∃ a cap, v = .slice a xs.length cap ∧ xs.length ≤ cap ∧ (xs.length = 0 ∨ ∃ b off, a = some ⟨b, off, none⟩ ∧ ∀ i, i < xs.length → w.cell? ⟨b, off + i, none⟩ = some (.int .i64 (xs.getD i 0)))
theorem ReadsI.keep {w w' : World} {v : Value} {xs : List Int} (h : ReadsI w v xs) (hb : ∀ p u, w.cell? p = some u → w'.cell? p = some u) : ReadsI w' v xs := by
  obtain ⟨a, cap, rfl, hc, h0 | ⟨b, off, rfl, hh⟩⟩ := h
  · exact ⟨a, cap, rfl, hc, .inl h0⟩
  · exact ⟨_, cap, rfl, hc, .inr ⟨b, off, rfl, fun i hi => hb _ _ (hh i hi)⟩⟩
theorem ReadsI.later {w w' : World} {v : Value} {xs : List Int} (h : ReadsI w v xs) (hb : Below w.heap.size w w') : ReadsI w' v xs :=
  h.keep fun p u hu => (hb.cell (World.block_lt_of_cell? _ _ hu)).trans hu
-- what is said of the places
def bad (xs : List Int) (n : Int) (k : Nat) : Int :=
  if xs.getD k 0 < 0 then 81 else if n ≤ xs.getD k 0 then 81 else if 0 < k ∧ xs.getD k 0 ≤ xs.getD (k - 1) 0 then 84 else 0
def scan (f : Nat → Int) : Nat → Nat → Int
  | 0, _ => 0
  | m + 1, k => if f k = 0 then scan f m (k + 1) else f k
def places (xs : List Int) (n : Int) : Int := if xs.length = 0 then 82 else if 1024 < xs.length then 83 else scan (bad xs n) xs.length 0
theorem scan_ok (f : Nat → Int) (m : Nat) : ∀ k, scan f m k = 0 → ∀ j, k ≤ j → j < k + m → f j = 0 := by
  induction m with
  | zero => intro k h j h1 h2; omega
  | succ m ih =>
    intro k h j h1 h2
    unfold scan at h
    split at h
    · rename_i h0
      rcases Nat.eq_or_lt_of_le h1 with e | e
      · rw [← e]; exact h0
      · exact ih (k + 1) h j (by omega) (by omega)
    · contradiction
theorem places_ok {xs : List Int} {n : Int} (h : places xs n = 0) : 1 ≤ xs.length ∧ xs.length ≤ 1024 ∧ (∀ j, j < xs.length → 0 ≤ xs.getD j 0 ∧ xs.getD j 0 < n) ∧ (∀ j, j + 1 < xs.length → xs.getD j 0 < xs.getD (j + 1) 0) := by
  unfold places at h
  split at h
  · omega
  · split at h
    · omega
    · have hs := scan_ok (bad xs n) xs.length 0 h
      refine ⟨by omega, by omega, fun j hj => ?_, fun j hj => ?_⟩
      · have := hs j (Nat.zero_le _) (by omega)
        unfold bad at this
        split at this
        · omega
        · split at this
          · omega
          · omega
      · have := hs (j + 1) (Nat.zero_le _) (by omega)
        unfold bad at this
        split at this
        · omega
        · split at this
          · omega
          · split at this
            · omega
            · rename_i g
              rw [Nat.add_sub_cancel] at g
              omega
theorem rise_lt {xs : List Int} (h : ∀ j, j + 1 < xs.length → xs.getD j 0 < xs.getD (j + 1) 0) (i d : Nat) (hd : i + d + 1 < xs.length) : xs.getD i 0 < xs.getD (i + d + 1) 0 := by
  induction d with
  | zero => exact h i hd
  | succ d ih =>
    have h1 := ih (by omega)
    have h2 := h (i + d + 1) hd
    exact Int.lt_trans h1 h2
end Go.Proofs.YtmmbkfagchaocaaDoor.mi

namespace Go.Proofs.YtmmbkfagchaocaaDoor.mo
open Go.RowKit Go.PlainAid
open Go.Proofs.YtmmbkfagchaocaaDoor.pl Go.Proofs.YtmmbkfagchaocaaDoor.pi Go.Proofs.YtmmbkfagchaocaaDoor.pj Go.Proofs.YtmmbkfagchaocaaDoor.rf Go.Proofs.YtmmbkfagchaocaaDoor.ca Go.Proofs.YtmmbkfagchaocaaDoor.cb Go.Proofs.YtmmbkfagchaocaaDoor.cp Go.Proofs.YtmmbkfagchaocaaDoor.ka Go.Proofs.YtmmbkfagchaocaaDoor.kb Go.Proofs.YtmmbkfagchaocaaDoor.cs Go.Proofs.YtmmbkfagchaocaaDoor.mi
set_option linter.unusedVariables false

theorem hi9i : (Tryd.prog.info? 3).map (fun i => (i.zero, i.size, i.bytes)) = some (some (.int .i64 0), 1, 8) := by kernel_rfl
theorem one_ints (hs : List Int) : ∀ u ∈ hs.map (Value.int .i64), u.oneCell' = true := by
  intro u hu
  obtain ⟨x, _, rfl⟩ := List.mem_map.1 hu
  rfl
set_option maxRecDepth 100000 in
set_option maxHeartbeats 800000 in
theorem clone (u : Value) (hs : List Int) (w : World) (hR : ReadsI w u hs) (hn : hs.length ≤ 1048576) :
    Calls Tryd.prog 46 #[u] w fun e w' => (∃ a l c, e = .returned (.slice a l c) ∧ w'.ownsRow w.heap.size 3 1 (.slice a l c) hs.length (hs.map (Value.int .i64))) ∧ Below w.heap.size w w' := by
  obtain ⟨i9, hi, hz0, hz1, hz2⟩ := info_parts hi9i
  have HIN : Hid (_ ∧ _ ∧ _ ∧ _) := ⟨hi, hz0, hz1, hz2⟩
  obtain ⟨a, cap, rfl, hcap, hh⟩ := hR
  have HH : Hid (hs.length = 0 ∨ ∃ b off, a = some ⟨b, off, none⟩ ∧ ∀ i, i < hs.length → w.cell? ⟨b, off + i, none⟩ = some (.int .i64 (hs.getD i 0))) := hh
  obtain ⟨n, HN⟩ : ∃ n, Hid (hs.length = n) := ⟨_, rfl⟩
  clear hh hi hz0 hz1 hz2
  cases a with
  | none =>
    have h0 : hs = [] := by
      rcases HH.out with h | ⟨b, off, e, _⟩
      · exact List.length_eq_zero_iff.1 h
      · cases e
    subst h0
    simp only [List.length_nil] at hcap ⊢
    have q := fun w => Lib.run_eql_slice_nil (P := Tryd.prog) w 41 3 none 0 cap 0 0 Tryd.underlying41
    clear HH HN hn hcap
    go_enter Tryd.func46, Tryd.ntmps46
    go_wp2
    go_ret
    exact ⟨⟨_, _, _, rfl, World.ownsRow_nil _ _ _ _⟩, Below.refl _ _⟩
  | some ad =>
    have q := fun w n => Lib.run_eql_slice_nil (P := Tryd.prog) w 41 3 (some ad) n cap 0 0 Tryd.underlying41
    have NX : Hid (∀ (W : World), Below w.heap.size w W → ∀ (j : Nat) (u : Value), (hs.map (Value.int .i64))[j]? = some u → W.cell? (ad.add j) = some u) := by
      intro W hW j u hu
      rw [List.getElem?_map] at hu
      obtain ⟨x, hx, rfl⟩ := Option.map_eq_some_iff.1 hu
      have hj := (List.getElem?_eq_some_iff.1 hx).1
      rcases HH.out with h | ⟨b, off, e, hc⟩
      · omega
      · have e := Option.some.inj e
        subst e
        have c1 := hc j hj
        rw [List.getD_eq_getElem?_getD, hx] at c1
        rw [show (Addr.add ⟨b, off, none⟩ j) = ⟨b, off + j, none⟩ by cases j <;> simp [Addr.add]]
        exact (hW.cell (World.block_lt_of_cell? _ _ c1)).trans c1
    have B1 : Hid (Below w.heap.size w (w.alloc (.cells #[] 3))) := (Below.refl _ _).alloc (Nat.le_refl _) _
    have OX : Hid ((w.alloc (.cells #[] 3)).ownsRow w.heap.size 3 1 (.slice (some ⟨w.heap.size, 0, none⟩) 0 0) 0 []) := World.ownsRow_made w #[] 0 (Nat.le_refl _) (by unfold maxLen; omega) (by simp)
    have SZ : Hid (w.heap.size ≤ (w.alloc (.cells #[] 3)).heap.size) := B1.out.size
    rw [HN.out] at hn ⊢
    clear hcap HH
    go_enter Tryd.func46, Tryd.ntmps46
    go_wp2_with (at_builtin; refine wpList_append_own _ rfl _ _ 41 rfl w.heap.size 3 i9 (.int .i64 0) 1 8 Tryd.underlying41 HIN.out.1 HIN.out.2.1 HIN.out.2.2.1 HIN.out.2.2.2 rfl (by decide) _ 0 _ rfl OX.out ad n cap (hs.map (Value.int .i64)) rfl (by rw [List.length_map, HN.out]; omega) (NX.out _ B1.out) (one_ints _) (by unfold maxLen; omega) (by omega) SZ.out ?_; intro p' w5 ho hg hnn; have HO5 : Hid (w5.ownsRow w.heap.size 3 1 p' (0 + n) ([] ++ hs.map (Value.int .i64))) := ho; have HB5 : Hid (Below w.heap.size w w5) := Below.grown B1.out hg SZ.out (fun jj hj => (OX.out.lt _ hj).1); clear ho hg hnn)
    go_ret
    have HO6 : w5.ownsRow w.heap.size 3 1 p' n (hs.map (Value.int .i64)) := by have := HO5.out; rw [Nat.zero_add, List.nil_append] at this; exact this
    obtain ⟨pa, pc, rfl⟩ := own_formS HO6
    exact ⟨⟨_, _, _, rfl, HO6⟩, HB5.out⟩
end Go.Proofs.YtmmbkfagchaocaaDoor.mo

namespace Go.Proofs.YtmmbkfagchaocaaDoor.sr
open Go.RowKit Go.PlainAid
open Go.Proofs.YtmmbkfagchaocaaDoor.pl Go.Proofs.YtmmbkfagchaocaaDoor.pi Go.Proofs.YtmmbkfagchaocaaDoor.pj Go.Proofs.YtmmbkfagchaocaaDoor.rf Go.Proofs.YtmmbkfagchaocaaDoor.ca Go.Proofs.YtmmbkfagchaocaaDoor.cb Go.Proofs.YtmmbkfagchaocaaDoor.cp Go.Proofs.YtmmbkfagchaocaaDoor.cs Go.Proofs.YtmmbkfagchaocaaDoor.xa Go.Proofs.YtmmbkfagchaocaaDoor.xb Go.Proofs.YtmmbkfagchaocaaDoor.xc Go.Proofs.YtmmbkfagchaocaaDoor.ka Go.Proofs.YtmmbkfagchaocaaDoor.kb Go.Proofs.YtmmbkfagchaocaaDoor.bp Go.Proofs.YtmmbkfagchaocaaDoor.mi Go.Proofs.YtmmbkfagchaocaaDoor.mo
set_option linter.unusedVariables false

def cl2 (n : Nat) : Nat := Lib.bitLen (n - 1)
theorem cl2_spec {n : Nat} (h : 1 ≤ n) (hn : n ≤ 4611686018427387904) : cl2 n ≤ 62 ∧ n ≤ 2 ^ cl2 n ∧ (n = 1 ∨ (1 ≤ cl2 n ∧ 2 ^ (cl2 n - 1) < n)) := by
  unfold cl2
  obtain ⟨h1, h2⟩ := len_spec (n - 1) (by omega)
  refine ⟨?_, by omega, ?_⟩
  · rcases Nat.eq_or_lt_of_le h with e | e
    · rw [← e, Nat.sub_self, bitLen_zero]; omega
    · obtain ⟨g1, g2⟩ := h2 (by omega)
      refine Nat.le_of_not_lt fun g => ?_
      have : 2 ^ 62 ≤ 2 ^ (Lib.bitLen (n - 1) - 1) := Nat.pow_le_pow_right (by decide) (by omega)
      have e62 : (2 : Nat) ^ 62 = 4611686018427387904 := by decide
      omega
  · rcases Nat.eq_or_lt_of_le h with e | e
    · exact .inl e.symm
    · obtain ⟨g1, g2⟩ := h2 (by omega)
      exact .inr ⟨g2, by omega⟩
theorem sizeC (k : Int) (hk : i64 k) (w : World) : Calls Tryd.prog 13 #[.int .i64 k] w fun e w' => e = .returned (.int .i64 (1 + pk k 4611686018427387904 : Nat)) ∧ w' = w := by
  have PC : Hid (∀ w, Calls _ _ _ _ _) := fun w => pick k 4611686018427387904 (by decide) (by decide) hk w
  have hl := pk_lt k (n := 4611686018427387904) (by decide)
  obtain ⟨r, HR⟩ : ∃ r, Hid (pk k 4611686018427387904 = r) := ⟨_, rfl⟩
  rw [HR.out] at hl PC ⊢
  go_enter Tryd.func13, Tryd.ntmps13
  go_wp2_with fail
  refine (PC.out _).mono ?_
  rintro e w1 ⟨rfl, rfl⟩
  go_wp2
  go_ret
  exact ⟨by first | rfl | (congr 2), rfl⟩
-- rising places out of any numbers
def Up (zs : List Int) (n : Nat) : Prop := (∀ j, j < zs.length → 0 ≤ zs.getD j 0 ∧ zs.getD j 0 < n) ∧ (∀ j, j + 1 < zs.length → zs.getD j 0 < zs.getD (j + 1) 0)
theorem get_app (zs : List Int) (p : Int) (j : Nat) : (zs ++ [p]).getD j 0 = if j < zs.length then zs.getD j 0 else if j = zs.length then p else 0 := by
  rw [List.getD_eq_getElem?_getD]
  split
  · rename_i h; rw [List.getElem?_append_left h, List.getD_eq_getElem?_getD]
  · rename_i h
    rw [List.getElem?_append_right (by omega)]
    split
    · rename_i e; rw [e, Nat.sub_self]; rfl
    · rw [List.getElem?_eq_none (by simp; omega)]; rfl
theorem Up.add {zs : List Int} {n : Nat} (h : Up zs n) {p : Int} (h0 : 0 ≤ p) (h1 : p < n) (h2 : zs.length = 0 ∨ zs.getD (zs.length - 1) 0 < p) : Up (zs ++ [p]) n := by
  refine ⟨fun j hj => ?_, fun j hj => ?_⟩
  · rw [get_app]
    rw [List.length_append, List.length_singleton] at hj
    split
    · exact h.1 j (by assumption)
    · rw [if_pos (by omega)]; exact ⟨h0, h1⟩
  · rw [List.length_append, List.length_singleton] at hj
    rw [get_app, get_app, if_pos (by omega)]
    split
    · exact h.2 j (by assumption)
    · rw [if_pos (by omega)]
      rcases h2 with e | e
      · omega
      · rw [show j = zs.length - 1 by omega]; exact e
theorem scan_zero (f : Nat → Int) (m : Nat) : ∀ k, (∀ j, k ≤ j → j < k + m → f j = 0) → scan f m k = 0 := by
  induction m with
  | zero => intro k _; rfl
  | succ m ih =>
    intro k h
    unfold scan
    rw [if_pos (h k (Nat.le_refl _) (by omega))]
    exact ih (k + 1) (fun j h1 h2 => h j (by omega) (by omega))
theorem Up.places {zs : List Int} {n : Nat} (h : Up zs n) (h1 : 1 ≤ zs.length) (h2 : zs.length ≤ 1024) : places zs n = 0 := by
  unfold mi.places
  rw [if_neg (by omega), if_neg (by omega)]
  refine scan_zero _ _ _ (fun j _ hj => ?_)
  have g := h.1 j (by omega)
  unfold bad
  rw [if_neg (by omega), if_neg (by omega), if_neg]
  rintro ⟨g1, g2⟩
  have := h.2 (j - 1) (by omega)
  rw [show j - 1 + 1 = j by omega] at this
  omega
end Go.Proofs.YtmmbkfagchaocaaDoor.sr

namespace Go.Proofs.YtmmbkfagchaocaaDoor.mj
open Go.RowKit Go.PlainAid
open Go.Proofs.YtmmbkfagchaocaaDoor.pl Go.Proofs.YtmmbkfagchaocaaDoor.pi Go.Proofs.YtmmbkfagchaocaaDoor.rf Go.Proofs.YtmmbkfagchaocaaDoor.pj Go.Proofs.YtmmbkfagchaocaaDoor.ca Go.Proofs.YtmmbkfagchaocaaDoor.cb Go.Proofs.YtmmbkfagchaocaaDoor.cp Go.Proofs.YtmmbkfagchaocaaDoor.cs Go.Proofs.YtmmbkfagchaocaaDoor.ka Go.Proofs.YtmmbkfagchaocaaDoor.kb Go.Proofs.YtmmbkfagchaocaaDoor.ga Go.Proofs.YtmmbkfagchaocaaDoor.aa Go.Proofs.YtmmbkfagchaocaaDoor.ab Go.Proofs.YtmmbkfagchaocaaDoor.mi
set_option linter.unusedVariables false

set_option maxHeartbeats 1600000 in
theorem checkP (v : Value) (xs : List Int) (n : Int) (w : World) (hR : ReadsI w v xs) (hz : xs.length ≤ 140737488355328) :
    Calls Tryd.prog 45 #[v, .int .i64 n] w fun e w' => e = .returned (.int .i64 (places xs n)) ∧ w' = w := by
  obtain ⟨a, cap, rfl, _, h1⟩ := hR
  have HC : Hid (xs.length = 0 ∨ ∃ b off, a = some ⟨b, off, none⟩ ∧ ∀ i, i < xs.length → w.cell? ⟨b, off + i, none⟩ = some (.int .i64 (xs.getD i 0))) := h1
  obtain ⟨l, HN⟩ : ∃ n, Hid (xs.length = n) := ⟨_, rfl⟩
  obtain ⟨r, HR⟩ : ∃ r, Hid (places xs n = r) := ⟨_, rfl⟩
  rw [HR.out]
  rw [HN.out] at HC hz ⊢
  clear h1
  by_cases h0 : l = 0
  · have HE : Hid (r = 82) := by
      show _ = _
      rw [← HR.out]; unfold places; rw [HN.out, if_pos h0]
    subst h0
    go_enter Tryd.func45, Tryd.ntmps45
    go_wp2
    go_ret
    exact ⟨by first | (rw [HE.out]; done) | (rw [HE.out]; rfl), rfl⟩
  · have hb : ((l : Int) == 0) = false := by rw [beq_eq_false_iff_ne]; omega
    by_cases h2 : 1024 < l
    · have HE : Hid (r = 83) := by
        show _ = _
        rw [← HR.out]; unfold places; rw [HN.out, if_neg h0, if_pos h2]
      have hb2 : decide ((1024 : Int) < l) = true := decide_eq_true (by omega)
      clear h0 h2
      go_enter Tryd.func45, Tryd.ntmps45
      go_wp2
      go_ret
      exact ⟨by first | (rw [HE.out]; done) | (rw [HE.out]; rfl), rfl⟩
    · have HS0 : Hid (scan (bad xs n) l 0 = r) := by
        show _ = _
        rw [← HR.out]; unfold places; rw [HN.out, if_neg h0, if_neg h2]
      have hb2 : decide ((1024 : Int) < l) = false := decide_eq_false (by omega)
      have HL : Hid (l ≠ 0 ∧ l ≤ 1024) := ⟨h0, by omega⟩
      clear h0 h2
      go_enter Tryd.func45, Tryd.ntmps45
      go_wp2
      go_loopw [15] (fun i wr => ∃ k : Nat, k ≤ l ∧ i = .int .i64 k ∧ Hid (scan (bad xs n) (l - k) k = r) ∧ w = wr) (fun i _ => (l - intOf i).toNat)
      case atStart => exact ⟨0, by omega, rfl, HS0, rfl⟩
      case round =>
        obtain ⟨k, hk, rfl, HS, rfl⟩ := hrel
        have HB := HL.out
        by_cases hlt : k < l
        · have hlt' : (k : Int) < l := by omega
          obtain ⟨b, off, rfl, hc⟩ : ∃ b off, a = some ⟨b, off, none⟩ ∧ ∀ i, i < l → w.cell? ⟨b, off + i, none⟩ = some (.int .i64 (xs.getD i 0)) := by
            rcases HC.out with h | h
            · omega
            · exact h
          obtain ⟨X, HX⟩ : ∃ X, Hid (xs.getD k 0 = X) := ⟨_, rfl⟩
          have c1 := hc k hlt
          rw [HX.out] at c1
          have HST : Hid (scan (bad xs n) (l - k) k = if bad xs n k = 0 then scan (bad xs n) (l - (k + 1)) (k + 1) else bad xs n k) := by
            show _ = _
            rw [show l - k = (l - (k + 1)) + 1 by omega]; rfl
          by_cases x1 : X < 0
          · have d1 : decide (X < 0) = true := decide_eq_true x1
            have HE : Hid (r = 81) := by
              show _ = _
              rw [← HS.out, HST.out, show bad xs n k = 81 by unfold bad; rw [HX.out, if_pos x1]]; rfl
            clear x1 hc hb hb2 HB
            go_wp2
            go_ret
            exact ⟨by first | (rw [HE.out]; done) | (rw [HE.out]; rfl), rfl⟩
          · have d1 : decide (X < 0) = false := decide_eq_false x1
            by_cases x2 : n ≤ X
            · have d2 : decide (n ≤ X) = true := decide_eq_true x2
              have HE : Hid (r = 81) := by
                show _ = _
                rw [← HS.out, HST.out, show bad xs n k = 81 by unfold bad; rw [HX.out, if_neg x1, if_pos x2]]; rfl
              clear x1 x2 hc hb hb2 HB
              go_wp2
              go_ret
              exact ⟨by first | (rw [HE.out]; done) | (rw [HE.out]; rfl), rfl⟩
            · have d2 : decide (n ≤ X) = false := decide_eq_false x2
              cases k with
              | zero =>
                have HS1 : Hid (scan (bad xs n) (l - (0 + 1)) (0 + 1) = r) := by
                  show _ = _
                  rw [← HS.out, HST.out, if_pos (show bad xs n 0 = 0 by unfold bad; rw [HX.out, if_neg x1, if_neg x2, if_neg (by omega)])]
                have d3 : decide ((0 : Int) < ((0 : Nat) : Int)) = false := rfl
                rw [Nat.add_zero] at c1
                clear x1 x2 hc hb hb2 HB HX
                go_wp2
                go_roundw
                case rel => exact ⟨0 + 1, by omega, by go_num, HS1.out, by first | rfl | trivial⟩
                case measure => simp [intOf]; omega
              | succ k =>
                obtain ⟨Y, HY⟩ : ∃ X, Hid (xs.getD k 0 = X) := ⟨_, rfl⟩
                have c2 := hc k (by omega)
                rw [HY.out] at c2
                have e1 : (((k + 1 : Nat) : Int) - 1) = k := by omega
                have d3 : decide ((0 : Int) < ((k + 1 : Nat) : Int)) = true := decide_eq_true (by omega)
                by_cases x4 : X ≤ Y
                · have d4 : decide (X ≤ Y) = true := decide_eq_true x4
                  have HE : Hid (r = 84) := by
                    show _ = _
                    rw [← HS.out, HST.out, show bad xs n (k + 1) = 84 by unfold bad; rw [HX.out, Nat.add_sub_cancel, HY.out, if_neg x1, if_neg x2, if_pos ⟨by omega, x4⟩]]; rfl
                  clear x1 x2 x4 hc hb hb2 HB
                  go_wp2
                  go_ret
                  exact ⟨by first | (rw [HE.out]; done) | (rw [HE.out]; rfl), rfl⟩
                · have d4 : decide (X ≤ Y) = false := decide_eq_false x4
                  have HS1 : Hid (scan (bad xs n) (l - (k + 1 + 1)) (k + 1 + 1) = r) := by
                    show _ = _
                    rw [← HS.out, HST.out, if_pos (show bad xs n (k + 1) = 0 by unfold bad; rw [HX.out, Nat.add_sub_cancel, HY.out, if_neg x1, if_neg x2, if_neg (fun h => x4 h.2)])]
                  clear x1 x2 x4 hc hb hb2 HB
                  go_wp2
                  go_roundw
                  case rel => exact ⟨k + 1 + 1, by omega, by go_num, HS1.out, by first | rfl | trivial⟩
                  case measure => simp [intOf]; omega
        · have hlt' : ¬ (k : Int) < l := by omega
          have HE : Hid (r = 0) := by
            show _ = _
            rw [← HS.out, show l - k = 0 by omega]; rfl
          clear hlt hb hb2 HB
          go_wp2
          go_ret
          exact ⟨by first | (rw [HE.out]; done) | (rw [HE.out]; rfl), rfl⟩
end Go.Proofs.YtmmbkfagchaocaaDoor.mj

namespace Go.Proofs.YtmmbkfagchaocaaDoor.mn
open Go.RowKit Go.PlainAid
open Go.Proofs.YtmmbkfagchaocaaDoor.pl Go.Proofs.YtmmbkfagchaocaaDoor.pi Go.Proofs.YtmmbkfagchaocaaDoor.rf Go.Proofs.YtmmbkfagchaocaaDoor.pj Go.Proofs.YtmmbkfagchaocaaDoor.ca Go.Proofs.YtmmbkfagchaocaaDoor.cb Go.Proofs.YtmmbkfagchaocaaDoor.cp Go.Proofs.YtmmbkfagchaocaaDoor.cs Go.Proofs.YtmmbkfagchaocaaDoor.ka Go.Proofs.YtmmbkfagchaocaaDoor.kb Go.Proofs.YtmmbkfagchaocaaDoor.ga Go.Proofs.YtmmbkfagchaocaaDoor.aa Go.Proofs.YtmmbkfagchaocaaDoor.ab Go.Proofs.YtmmbkfagchaocaaDoor.mi
set_option linter.unusedVariables false

theorem nan1 (x : Int) (w : World) : Calls Tryd.prog 73 #[.int .i64 x] w fun e w' => e = .returned (.bool false) ∧ w' = w := by
  have h : (x == x) = true := beq_self_eq_true _
  go_enter Tryd.func73, Tryd.ntmps73
  go_wp2
  go_ret
  exact ⟨by first | rfl | simp, rfl⟩
theorem nan2 (x : Int) (w : World) : Calls Tryd.prog 62 #[.int .i64 x] w fun e w' => e = .returned (.bool false) ∧ w' = w := by
  have h : (x == x) = true := beq_self_eq_true _
  go_enter Tryd.func62, Tryd.ntmps62
  go_wp2
  go_ret
  exact ⟨by first | rfl | simp, rfl⟩
theorem less (x y : Int) (w : World) : Calls Tryd.prog 61 #[.int .i64 x, .int .i64 y] w fun e w' => e = .returned (.bool (decide (x < y))) ∧ w' = w := by
  have N1 : Hid (∀ w, Calls _ _ _ _ _) := fun w => nan1 x w
  go_enter Tryd.func61, Tryd.ntmps61
  go_wp2_with fail
  refine (N1.out _).mono ?_
  rintro e w1 ⟨rfl, rfl⟩
  go_wp2
  go_ret
  exact ⟨by first | rfl | simp, rfl⟩
def Lo (xs : List Int) (t : Int) (l i : Nat) : Prop := (∀ j, j < i → xs.getD j 0 < t) ∧ (∀ j, i ≤ j → j < l → t ≤ xs.getD j 0)
def Found (xs : List Int) (t : Int) (l : Nat) (w : World) (e : Ending) (w' : World) : Prop := (∃ (i : Nat) (f : Bool), e = .returned (.tuple #[.int .i64 i, .bool f]) ∧ i ≤ l ∧ Lo xs t l i) ∧ w' = w
set_option maxHeartbeats 1600000 in
theorem bsearch (v : Value) (xs : List Int) (t : Int) (w : World) (hR : ReadsI w v xs) (hz : xs.length ≤ 1024) (hs : ∀ j, j + 1 < xs.length → xs.getD j 0 < xs.getD (j + 1) 0) :
    Calls Tryd.prog 48 #[v, .int .i64 t] w (Found xs t xs.length w) := by
  have LE : Hid (∀ x w, Calls _ _ _ _ _) := fun x w => less x t w
  have NA : Hid (∀ x w, Calls _ _ _ _ _) := fun x w => nan2 x w
  have RI : Hid (∀ i j, i ≤ j → j < xs.length → xs.getD i 0 ≤ xs.getD j 0) := fun i j h1 h2 => by
    rcases Nat.eq_or_lt_of_le h1 with e | e
    · rw [e]; exact Int.le_refl _
    · have := rise_lt hs i (j - i - 1) (by omega)
      rw [show i + (j - i - 1) + 1 = j by omega] at this
      exact Int.le_of_lt this
  obtain ⟨a, cap, rfl, _, h1⟩ := hR
  have HC : Hid (xs.length = 0 ∨ ∃ b off, a = some ⟨b, off, none⟩ ∧ ∀ i, i < xs.length → w.cell? ⟨b, off + i, none⟩ = some (.int .i64 (xs.getD i 0))) := h1
  obtain ⟨l, HN⟩ : ∃ n, Hid (xs.length = n) := ⟨_, rfl⟩
  rw [HN.out] at HC hz RI ⊢
  clear h1 hs
  go_enter Tryd.func48, Tryd.ntmps48
  go_wp2
  go_loopw [7, 8] (fun x y wr => ∃ i j : Nat, i ≤ j ∧ j ≤ l ∧ x = .int .i64 i ∧ y = .int .i64 j ∧ Hid ((∀ p, p < i → xs.getD p 0 < t) ∧ (∀ p, j ≤ p → p < l → t ≤ xs.getD p 0)) ∧ w = wr) (fun x y _ => (intOf y - intOf x).toNat)
  case atStart => exact ⟨0, l, by omega, by omega, rfl, rfl, ⟨fun p h => by omega, fun p h1 h2 => by omega⟩, rfl⟩
  case round =>
    obtain ⟨i, j, hij, hjl, rfl, rfl, HS, rfl⟩ := hrel
    by_cases hlt : i < j
    · have hlt' : (i : Int) < j := by omega
      obtain ⟨b, off, rfl, hc⟩ : ∃ b off, a = some ⟨b, off, none⟩ ∧ ∀ i, i < l → w.cell? ⟨b, off + i, none⟩ = some (.int .i64 (xs.getD i 0)) := by
        rcases HC.out with h | h
        · omega
        · exact h
      have hm : i ≤ (i + j) / 2 ∧ (i + j) / 2 < j := by omega
      obtain ⟨X, HX⟩ : ∃ X, Hid (xs.getD ((i + j) / 2) 0 = X) := ⟨_, rfl⟩
      have c1 := hc ((i + j) / 2) (by omega)
      rw [HX.out] at c1
      have LX : Hid (∀ w, Calls _ _ _ _ _) := fun w => LE.out X w
      by_cases hx : X < t
      · have HS1 : Hid ((∀ p, p < (i + j) / 2 + 1 → xs.getD p 0 < t) ∧ (∀ p, j ≤ p → p < l → t ≤ xs.getD p 0)) := ⟨fun p hp => Int.lt_of_le_of_lt (RI.out p ((i + j) / 2) (by omega) (by omega)) (by rw [HX.out]; exact hx), HS.out.2⟩
        rw [decide_eq_true hx] at LX
        clear hc
        go_wp2_with fail
        refine (LX.out _).mono ?_
        rintro e w1 ⟨rfl, rfl⟩
        go_wp2
        go_roundw
        case rel => exact ⟨(i + j) / 2 + 1, j, by omega, by omega, by first | go_num | (congr 1), rfl, HS1, by first | rfl | trivial⟩
        case measure => simp [intOf]; omega
      · have HS1 : Hid ((∀ p, p < i → xs.getD p 0 < t) ∧ (∀ p, (i + j) / 2 ≤ p → p < l → t ≤ xs.getD p 0)) := ⟨HS.out.1, fun p h1 h2 => Int.le_trans (by have := HX.out; omega) (RI.out ((i + j) / 2) p h1 h2)⟩
        rw [decide_eq_false hx] at LX
        clear hc
        go_wp2_with fail
        refine (LX.out _).mono ?_
        rintro e w1 ⟨rfl, rfl⟩
        go_wp2
        go_roundw
        case rel => exact ⟨i, (i + j) / 2, by omega, by omega, rfl, by first | go_num | (congr 1), HS1, by first | rfl | trivial⟩
        case measure => simp [intOf]; omega
    · have hlt' : ¬ (i : Int) < j := by omega
      have HL : Hid (i ≤ l ∧ Lo xs t l i) := ⟨by omega, HS.out.1, fun p h1 h2 => HS.out.2 p (by omega) h2⟩
      by_cases hil : i < l
      · have d1 : decide ((i : Int) < l) = true := decide_eq_true (by omega)
        obtain ⟨b, off, rfl, hc⟩ : ∃ b off, a = some ⟨b, off, none⟩ ∧ ∀ i, i < l → w.cell? ⟨b, off + i, none⟩ = some (.int .i64 (xs.getD i 0)) := by
          rcases HC.out with h | h
          · omega
          · exact h
        obtain ⟨X, HX⟩ : ∃ X, Hid (xs.getD i 0 = X) := ⟨_, rfl⟩
        have c1 := hc i hil
        rw [HX.out] at c1
        have NX : Hid (∀ w, Calls _ _ _ _ _) := fun w => NA.out X w
        clear hc
        by_cases hx : X = t
        · have d2 : (X == t) = true := by rw [beq_iff_eq]; exact hx
          clear hx
          go_wp2
          go_ret2
          exact ⟨⟨i, _, rfl, HL.out.1, HL.out.2⟩, rfl⟩
        · have d2 : (X == t) = false := by rw [beq_eq_false_iff_ne]; exact hx
          clear hx
          go_wp2_with fail
          refine (NX.out _).mono ?_
          rintro e w1 ⟨rfl, rfl⟩
          go_wp2
          go_ret2
          exact ⟨⟨i, _, rfl, HL.out.1, HL.out.2⟩, rfl⟩
      · have d1 : decide ((i : Int) < l) = false := decide_eq_false (by omega)
        go_wp2
        go_ret2
        exact ⟨⟨i, _, rfl, HL.out.1, HL.out.2⟩, rfl⟩
end Go.Proofs.YtmmbkfagchaocaaDoor.mn

namespace Go.Proofs.YtmmbkfagchaocaaDoor.mp
open Go.RowKit Go.PlainAid
open Go.Proofs.YtmmbkfagchaocaaDoor.bi Go.Proofs.YtmmbkfagchaocaaDoor.pl Go.Proofs.YtmmbkfagchaocaaDoor.pi Go.Proofs.YtmmbkfagchaocaaDoor.rf Go.Proofs.YtmmbkfagchaocaaDoor.pj Go.Proofs.YtmmbkfagchaocaaDoor.ca Go.Proofs.YtmmbkfagchaocaaDoor.cb Go.Proofs.YtmmbkfagchaocaaDoor.cp Go.Proofs.YtmmbkfagchaocaaDoor.cs Go.Proofs.YtmmbkfagchaocaaDoor.ct Go.Proofs.YtmmbkfagchaocaaDoor.ka Go.Proofs.YtmmbkfagchaocaaDoor.kb Go.Proofs.YtmmbkfagchaocaaDoor.ga Go.Proofs.YtmmbkfagchaocaaDoor.aa Go.Proofs.YtmmbkfagchaocaaDoor.ab Go.Proofs.YtmmbkfagchaocaaDoor.tb Go.Proofs.YtmmbkfagchaocaaDoor.ac Go.Proofs.YtmmbkfagchaocaaDoor.ba Go.Proofs.YtmmbkfagchaocaaDoor.bb Go.Proofs.YtmmbkfagchaocaaDoor.bc Go.Proofs.YtmmbkfagchaocaaDoor.bd Go.Proofs.YtmmbkfagchaocaaDoor.be Go.Proofs.YtmmbkfagchaocaaDoor.bg Go.Proofs.YtmmbkfagchaocaaDoor.bh Go.Proofs.YtmmbkfagchaocaaDoor.mi Go.Proofs.YtmmbkfagchaocaaDoor.mj Go.Proofs.YtmmbkfagchaocaaDoor.mn Go.Proofs.YtmmbkfagchaocaaDoor.mo
set_option linter.unusedVariables false

-- places as numbers from 0 on
def natL (xs : List Int) : List Nat := xs.map Int.toNat
def Rise (xs : List Int) : Prop := 1 ≤ xs.length ∧ xs.length ≤ 1024 ∧ (∀ j, j < xs.length → 0 ≤ xs.getD j 0) ∧ (∀ j, j + 1 < xs.length → xs.getD j 0 < xs.getD (j + 1) 0)
theorem mem_nat {xs : List Int} {p : Nat} (h : ∀ j, j < xs.length → 0 ≤ xs.getD j 0) : p ∈ natL xs ↔ ∃ j, j < xs.length ∧ xs.getD j 0 = p := by
  unfold natL
  rw [List.mem_map]
  constructor
  · rintro ⟨x, hx, rfl⟩
    obtain ⟨j, hj, rfl⟩ := List.mem_iff_getElem.1 hx
    have e : xs.getD j 0 = xs[j] := by rw [List.getD_eq_getElem?_getD, List.getElem?_eq_getElem hj]; rfl
    have := h j hj
    exact ⟨j, hj, by rw [e] at this ⊢; omega⟩
  · rintro ⟨j, hj, e⟩
    have e2 : xs.getD j 0 = xs[j] := by rw [List.getD_eq_getElem?_getD, List.getElem?_eq_getElem hj]; rfl
    exact ⟨xs[j], List.getElem_mem hj, by rw [← e2, e]; rfl⟩
theorem lk_none {xs : List Int} (hg : Rise xs) {a b i : Nat} (hL : Lo xs a xs.length i) (h : i = xs.length ∨ (b : Int) ≤ xs.getD i 0) (hi : i ≤ xs.length) : lkM (natL xs) a b = 1 := by
  unfold lkM
  rw [if_neg]
  rintro ⟨p, hp, h1, h2⟩
  obtain ⟨j, hj, e⟩ := (mem_nat hg.2.2.1).1 hp
  rcases Nat.lt_or_ge j i with g | g
  · have := hL.1 j g
    omega
  · rcases h with h | h
    · omega
    · rcases Nat.eq_or_lt_of_le g with q | q
      · subst q; omega
      · have := rise_lt hg.2.2.2 i (j - i - 1) (by omega)
        rw [show i + (j - i - 1) + 1 = j by omega] at this
        omega
theorem lk_some {xs : List Int} (hg : Rise xs) {a b i : Nat} (hL : Lo xs a xs.length i) (hi : i < xs.length) (h : ¬ (b : Int) ≤ xs.getD i 0) : lkM (natL xs) a b = if b - a = 1 then 0 else 2 := by
  unfold lkM
  rw [if_pos]
  have h0 := hg.2.2.1 i hi
  have h1 := hL.2 i (Nat.le_refl _) hi
  exact ⟨(xs.getD i 0).toNat, (mem_nat hg.2.2.1).2 ⟨i, hi, by omega⟩, by omega, by omega⟩
-- what Multi does at a part: the places lie in block c of the call's own
def MP (c : Nat) (xs : List Int) (w : World) : Prop := ∃ v, w.cell? ⟨c, 0, none⟩ = some v ∧ ReadsI w v xs
set_option maxHeartbeats 1600000 in
theorem lookM (c : Nat) (xs : List Int) (a b : Nat) (w : World) (hg : Rise xs) (hab : a < b) (hb : b ≤ 4611686018427387904) (hP : MP c xs w) :
    Calls Tryd.prog 47 #[.agg #[.int .i64 a, .int .i64 b], .pointer (some ⟨c, 0, none⟩)] w fun e w' => e = .returned (.int .i64 (lkM (natL xs) a b : Nat)) ∧ Below w.heap.size w w' := by
  obtain ⟨v, hv, hr⟩ := hP
  have BA : Hid (Below w.heap.size w (w.alloc (.cells #[.int .i64 a, .int .i64 b] 85))) := (Below.refl w.heap.size w).alloc (Nat.le_refl _) _
  have c1 : (w.alloc (.cells #[.int .i64 a, .int .i64 b] 85)).cell? ⟨c, 0, none⟩ = some v := (BA.out.cell (World.block_lt_of_cell? _ _ hv)).trans hv
  have BS : Hid (Calls _ _ _ _ _) := bsearch v xs a (w.alloc (.cells #[.int .i64 a, .int .i64 b] 85)) (hr.later BA.out) hg.2.1 hg.2.2.2
  have LF : Hid (∀ w, Calls _ _ _ _ _) := fun w => isLeaf a b (by omega) hb w
  have RD : Hid (ReadsI (w.alloc (.cells #[.int .i64 a, .int .i64 b] 85)) v xs) := hr.later BA.out
  have HG : Hid (Rise xs) := hg
  obtain ⟨r, HR⟩ : ∃ r, Hid (lkM (natL xs) a b = r) := ⟨_, rfl⟩
  rw [HR.out]
  obtain ⟨va, cap, rfl, hcap, hh⟩ := RD.out
  have HC : Hid (xs.length = 0 ∨ ∃ g off, va = some ⟨g, off, none⟩ ∧ ∀ i, i < xs.length → (w.alloc (.cells #[.int .i64 a, .int .i64 b] 85)).cell? ⟨g, off + i, none⟩ = some (.int .i64 (xs.getD i 0))) := hh
  have KN : Hid (∀ i : Nat, i ≤ xs.length → Lo xs a xs.length i → (i = xs.length ∨ (b : Int) ≤ xs.getD i 0) → 1 = r) := fun i h1 h2 h3 => by rw [← HR.out, lk_none hg h2 h3 h1]
  have KS : Hid (∀ i : Nat, i < xs.length → Lo xs a xs.length i → (¬ (b : Int) ≤ xs.getD i 0) → (if b - a = 1 then 0 else 2) = r) := fun i h1 h2 h3 => by rw [← HR.out, lk_some hg h2 h1 h3]
  obtain ⟨l, HN⟩ : ∃ n, Hid (xs.length = n) := ⟨_, rfl⟩
  have hl : l ≤ 1024 := by rw [← HN.out]; exact hg.2.1
  rw [HN.out] at c1 BS HC KN KS
  clear hv hr hg RD hcap hh HG
  go_enter Tryd.func47, Tryd.ntmps47
  go_wp2_with fail
  refine BS.out.mono ?_
  rintro e w1 ⟨⟨i, f, rfl, hi, hL⟩, rfl⟩
  have HL : Hid (Lo xs a l i) := hL
  clear hL BS
  by_cases h1 : i = l
  · obtain rfl : 1 = r := KN.out i hi HL.out (.inl h1)
    subst h1
    have d1 : ((i : Int) == i) = true := beq_self_eq_true _
    go_wp2_with fail
    go_quiet (fail)
    go_wp2
    go_ret
    exact ⟨rfl, (below_dN BA.out _)⟩
  · have d1 : ((i : Int) == l) = false := by rw [beq_eq_false_iff_ne]; omega
    have hil : i < l := by omega
    obtain ⟨g, off, rfl, hc⟩ : ∃ g off, va = some ⟨g, off, none⟩ ∧ ∀ i, i < l → (w.alloc (.cells #[.int .i64 a, .int .i64 b] 85)).cell? ⟨g, off + i, none⟩ = some (.int .i64 (xs.getD i 0)) := by
      rcases HC.out with h | h
      · omega
      · exact h
    have c2 := hc i hil
    have KN1 : Hid (_ → _) := fun h => KN.out i hi HL.out (.inr h)
    have KS1 : Hid (_ → _) := fun h => KS.out i hil HL.out h
    obtain ⟨X, HX⟩ : ∃ X, Hid (xs.getD i 0 = X) := ⟨_, rfl⟩
    rw [HX.out] at c2 KN1 KS1
    clear hc HC KN KS h1
    by_cases h2 : (b : Int) ≤ X
    · obtain rfl : 1 = r := KN1.out h2
      have d2 : decide ((b : Int) ≤ X) = true := decide_eq_true h2
      clear h2
      go_wp2_with fail
      go_quiet (fail)
      go_wp2
      go_ret
      exact ⟨rfl, (below_dN BA.out _)⟩
    · have d2 : decide ((b : Int) ≤ X) = false := decide_eq_false h2
      by_cases h3 : b - a = 1
      · obtain rfl : 0 = r := by have := KS1.out (by omega); rw [if_pos h3] at this; exact this
        rw [decide_eq_true h3] at LF
        clear h2 h3
        go_wp2_with fail
        go_quiet (fail)
        go_wp2_with fail
        refine (LF.out _).mono ?_
        rintro e w2 ⟨rfl, hb2⟩
        have B2 : Hid (Below w.heap.size w w2) := over (below_dN BA.out _) hb2
        clear hb2
        go_wp2
        go_ret
        exact ⟨rfl, B2.out⟩
      · obtain rfl : 2 = r := by have := KS1.out (by omega); rw [if_neg h3] at this; exact this
        rw [decide_eq_false h3] at LF
        clear h2 h3
        go_wp2_with fail
        go_quiet (fail)
        go_wp2_with fail
        refine (LF.out _).mono ?_
        rintro e w2 ⟨rfl, hb2⟩
        have B2 : Hid (Below w.heap.size w w2) := over (below_dN BA.out _) hb2
        clear hb2
        go_wp2
        go_ret
        exact ⟨rfl, B2.out⟩
end Go.Proofs.YtmmbkfagchaocaaDoor.mp

namespace Go.Proofs.YtmmbkfagchaocaaDoor.mq
open Go.RowKit Go.PlainAid
open Go.Proofs.YtmmbkfagchaocaaDoor.bi Go.Proofs.YtmmbkfagchaocaaDoor.pl Go.Proofs.YtmmbkfagchaocaaDoor.pi Go.Proofs.YtmmbkfagchaocaaDoor.rf Go.Proofs.YtmmbkfagchaocaaDoor.pj Go.Proofs.YtmmbkfagchaocaaDoor.ca Go.Proofs.YtmmbkfagchaocaaDoor.cb Go.Proofs.YtmmbkfagchaocaaDoor.cp Go.Proofs.YtmmbkfagchaocaaDoor.cs Go.Proofs.YtmmbkfagchaocaaDoor.ct Go.Proofs.YtmmbkfagchaocaaDoor.ka Go.Proofs.YtmmbkfagchaocaaDoor.kb Go.Proofs.YtmmbkfagchaocaaDoor.ga Go.Proofs.YtmmbkfagchaocaaDoor.aa Go.Proofs.YtmmbkfagchaocaaDoor.ab Go.Proofs.YtmmbkfagchaocaaDoor.tb Go.Proofs.YtmmbkfagchaocaaDoor.ac Go.Proofs.YtmmbkfagchaocaaDoor.ba Go.Proofs.YtmmbkfagchaocaaDoor.bb Go.Proofs.YtmmbkfagchaocaaDoor.bc Go.Proofs.YtmmbkfagchaocaaDoor.bd Go.Proofs.YtmmbkfagchaocaaDoor.be Go.Proofs.YtmmbkfagchaocaaDoor.bg Go.Proofs.YtmmbkfagchaocaaDoor.bh Go.Proofs.YtmmbkfagchaocaaDoor.mi Go.Proofs.YtmmbkfagchaocaaDoor.mj Go.Proofs.YtmmbkfagchaocaaDoor.mn Go.Proofs.YtmmbkfagchaocaaDoor.mo Go.Proofs.YtmmbkfagchaocaaDoor.mp
set_option linter.unusedVariables false

theorem own_readsI {w : World} {B n : Nat} {v : Value} {xs : List Int} (h : w.ownsRow B 3 1 v n (xs.map (Value.int .i64))) : ReadsI w v xs := by
  have hn : xs.length = n := by have := h.1; simpa using this
  subst hn
  rcases h.2 with ⟨rfl, h0⟩ | ⟨g, cap, cur, rfl, _, hg, hc, _⟩
  · exact ⟨none, 0, by rw [h0], by omega, .inl h0⟩
  · refine ⟨_, cap, rfl, hc, .inr ⟨g, 0, rfl, fun i hi => ?_⟩⟩
    rw [Nat.zero_add, h.cellAt i (by omega), List.getElem?_map, List.getElem?_eq_getElem hi, List.getD_eq_getElem?_getD, List.getElem?_eq_getElem hi]
    rfl
theorem LkM (c : Nat) (xs : List Int) (hg : Rise xs) : Lk 47 #[.pointer (some ⟨c, 0, none⟩)] (lkM (natL xs)) (MP c xs) where
  enter := fun args w => by simp [go_sem]
  call := fun a b w hab hb hP => lookM c xs a b w hg hab hb hP
  wide := fun a b hab h => by
    unfold lkM at h
    split at h
    · split at h <;> omega
    · omega
  four := fun a b => by
    unfold lkM
    split
    · split <;> omega
    · omega
theorem good_of {xs : List Int} {n : Int} (h : places xs n = 0) : Rise xs := by
  obtain ⟨h1, h2, h3, h4⟩ := places_ok h
  exact ⟨h1, h2, fun j hj => (h3 j hj).1, h4⟩
theorem pos_of {xs : List Int} {n : Int} (h : places xs n = 0) : 1 ≤ n := by
  obtain ⟨h1, h2, h3, h4⟩ := places_ok h
  have := h3 0 (by omega)
  omega
theorem multi_short {xs : List Int} {n : Int} (h : places xs n = 0) {m : Nat} (hm : (m : Int) = n) (hb : m ≤ 4611686018427387904) : (WL (lkM (natL xs)) 0 m).length ≤ 63488 := by
  obtain ⟨h1, h2, h3, h4⟩ := places_ok h
  have hn : inM (natL xs) 0 m ≠ [] := by
    intro e
    refine (inM_nil _ _ _).1 e ?_
    have h0 := h3 0 (by omega)
    exact ⟨(xs.getD 0 0).toNat, (mem_nat (fun j hj => (h3 j hj).1)).2 ⟨0, by omega, by omega⟩, by omega, by omega⟩
  have := multi_len (natL xs) 62 0 m (by rw [p62]; omega) (by have := pos_of h; omega) hn
  have h5 : (inM (natL xs) 0 m).length ≤ 1024 := by
    unfold inM
    refine Nat.le_trans (List.length_filter_le _ _) ?_
    unfold natL
    rw [List.length_map]
    exact h2
  omega
section
variable {g : Nat} {fb lb : Array Value} {ask : Nat → Nat × Nat → ByteArray × Int} {J : (Nat → Prop) → List (Nat × Nat) → World → Prop} {N : Nat} {D : Nat → Prop}
def mulA (wd : Int) (ask : Nat → Nat × Nat → ByteArray × Int) (sz : Int) (xs : List Int) (n : Int) (l : List (Nat × Nat)) : List ByteArray × Int × List (Nat × Nat) :=
  if chk sz n = 0 then (if places xs n = 0 then told (okw wd) (fow wd) ask l (WL (lkM (natL xs)) 0 n.toNat) else ([], places xs n, l)) else ([], chk sz n, l)
set_option maxHeartbeats 1600000 in
theorem multiC (R : Rd g fb lb ask J N D) (wd sz n : Int) (v : Value) (xs : List Int) (hwd : i64 wd) (F : Nat → Prop) (l : List (Nat × Nat)) (w : World) (hN : l.length + 122 * 63488 ≤ N) (hJ : J F l w) (hV : ReadsI w v xs) (hz : xs.length ≤ 140737488355328) :
    Calls Tryd.prog 19 #[.agg #[.int .i64 wd, .int .i64 sz, .func (.func g) fb lb], v, .int .i64 n] w (Proved J F w (mulA wd ask sz xs n l)) := by
  have CC : Hid (∀ w, Calls _ _ _ _ _) := fun w => check wd sz n g fb lb w
  have CP : Hid (∀ w', Below w.heap.size w w' → Calls _ _ _ _ _) := fun w' hb => checkP v xs n w' (hV.later hb) hz
  have RR : Hid (Rd g fb lb ask J N D) := R
  have HJ : Hid (J F l w) := hJ
  have BX : Hid (Below w.heap.size w (w.alloc (.cells #[.int .i64 wd, .int .i64 sz, .func (.func g) fb lb] 48)) ∧ _) := ⟨(Below.refl _ _).alloc (Nat.le_refl _) _, three_box w (.int .i64 wd) (.int .i64 sz) (.func (.func g) fb lb) 48⟩
  obtain ⟨A, HA⟩ : ∃ A, Hid (mulA wd ask sz xs n l = A) := ⟨_, rfl⟩
  rw [HA.out]
  by_cases h0 : chk sz n = 0
  · obtain ⟨k1, k2, k3, k4⟩ := chk_ok h0
    rw [h0] at CC
    by_cases h1 : places xs n = 0
    · rw [h1] at CP
      have CL : Hid (∀ w', Below w.heap.size w w' → Calls _ _ _ _ _) := fun w' hb => clone v xs w' (hV.later hb) (by have := (places_ok h1).2.1; omega)
      obtain ⟨m, rfl⟩ := Int.eq_ofNat_of_zero_le k3
      have hm := pos_of h1
      have hlen := multi_short h1 (m := m) rfl (by omega)
      have hgood := good_of h1
      have GC : Hid (∀ (w1 : World) (c : Nat) (u : Value), Below w.heap.size w w1 → w.heap.size ≤ c → w1.cell? ⟨c, 0, none⟩ = some u → w1.ownsRow w.heap.size 3 1 u xs.length (xs.map (Value.int .i64)) → Calls Tryd.prog 38 #[.agg #[.int .i64 wd, .int .i64 sz, .func (.func g) fb lb], .int .i64 m, .func (.func 47) #[] #[.pointer (some ⟨c, 0, none⟩)]] w1 (Proved J F w1 A)) := by
        intro w1 c u hb1 hc0 hc ho
        have h1' : J F l w1 := RR.out.later HJ.out hb1
        have e1 : told (okw wd) (fow wd) ask l (WL (lkM (natL xs)) 0 m) = A := by
          have := HA.out
          unfold mulA at this
          rw [if_pos h0, if_pos h1, Int.toNat_natCast] at this
          exact this
        have := gatherC R (LkM c xs hgood) wd sz hwd m (by omega) (by omega) F l w1 (fun F' wr hg => ⟨u, hg.cell hc (fun hF => by have := RR.out.within HJ.out _ hF; omega), own_readsI (hg.owns ho (fun b hb hF => by have := RR.out.within HJ.out _ hF; have := owns_lt ho hb; omega)).1⟩) (by omega) (by omega) h1'
        rw [e1] at this
        exact this
      clear h0 h1 hJ hN hlen hgood hV hz
      go_enter Tryd.func19, Tryd.ntmps19
      go_wp2_with fail
      refine (CC.out _).mono ?_
      rintro e w1 ⟨rfl, hb1⟩
      have B1 : Hid (Below w.heap.size w w1) := over BX.out.1 hb1
      have c0 := (hb1.cell (World.block_lt_of_cell? _ _ BX.out.2.1)).trans BX.out.2.1
      have c1 := (hb1.cell (World.block_lt_of_cell? _ _ BX.out.2.2.1)).trans BX.out.2.2.1
      have c2 := (hb1.cell (World.block_lt_of_cell? _ _ BX.out.2.2.2)).trans BX.out.2.2.2
      clear hb1 BX
      go_wp2_with fail
      refine (CP.out _ B1.out).mono ?_
      rintro e w1' ⟨rfl, rfl⟩
      go_wp2_with fail
      refine (CL.out _ B1.out).mono ?_
      rintro e w2 ⟨⟨ua, ul, uc, rfl, ho⟩, hb2⟩
      have b3 : Below w2.heap.size w2 (w2.alloc (.cells #[.slice ua ul uc] 41)) := (Below.refl _ _).alloc (Nat.le_refl _) _
      have c0 := ((over hb2 b3).cell (World.block_lt_of_cell? _ _ c0)).trans c0
      have c1 := ((over hb2 b3).cell (World.block_lt_of_cell? _ _ c1)).trans c1
      have c2 := ((over hb2 b3).cell (World.block_lt_of_cell? _ _ c2)).trans c2
      have B3 : Hid (Below w.heap.size w (w2.alloc (.cells #[.slice ua ul uc] 41))) := over B1.out (over hb2 b3)
      have GC1 : Hid (Calls _ _ _ _ _) := GC.out (w2.alloc (.cells #[.slice ua ul uc] 41)) w2.heap.size (.slice ua ul uc) B3.out (Nat.le_trans B1.out.size hb2.size) (by rw [World.cell?_alloc_at _ _ _ _ rfl]; rfl) (owns_keep (own_down ho B1.out.size) (fun g hg => b3.block g (owns_lt ho hg).1))
      clear ho hb2 b3
      go_wp2_with fail
      refine GC1.out.mono ?_
      rintro e w4 ⟨u, F2, rfl, ho2, hj2, hg2, hbe⟩
      have H2 : Hid (w4.ownsRow w.heap.size 9 1 u (ans A).length ((ans A).map Value.string) ∧ J F2 A.2.2 w4 ∧ Goes F w F2 w4 ∧ Beside F2 u) := ⟨own_down ho2 B3.out.size, hj2, (Goes.of_below B3.out).trans hg2, hbe⟩
      clear ho2 hj2 hg2 hbe c0 c1 c2
      go_wp2
      go_ret2
      exact ⟨u, F2, rfl, H2.out.1, H2.out.2.1, H2.out.2.2.1, H2.out.2.2.2⟩
    · have HE : Hid (A = ([], places xs n, l)) := by
        show _ = _
        rw [← HA.out]
        unfold mulA
        rw [if_pos h0, if_neg h1]
      obtain ⟨c, HCc⟩ : ∃ c, Hid (places xs n = c) := ⟨_, rfl⟩
      rw [HCc.out] at CP HE h1
      have q0 : (c == 0) = false := by rw [beq_eq_false_iff_ne]; exact h1
      clear h0 h1 hJ hN hV hz
      go_enter Tryd.func19, Tryd.ntmps19
      go_wp2_with fail
      refine (CC.out _).mono ?_
      rintro e w1 ⟨rfl, hb1⟩
      have B1 : Hid (Below w.heap.size w w1) := over BX.out.1 hb1
      clear hb1 BX
      go_wp2_with fail
      refine (CP.out _ B1.out).mono ?_
      rintro e w1' ⟨rfl, rfl⟩
      go_wp2
      go_ret2
      exact refused HE.out (RR.out.later HJ.out B1.out) B1.out
  · have HE : Hid (A = ([], chk sz n, l)) := by
      show _ = _
      rw [← HA.out]
      unfold mulA
      rw [if_neg h0]
    obtain ⟨c, HCc⟩ : ∃ c, Hid (chk sz n = c) := ⟨_, rfl⟩
    rw [HCc.out] at CC HE h0
    have q0 : (c == 0) = false := by rw [beq_eq_false_iff_ne]; exact h0
    clear h0 hJ hN hV hz
    go_enter Tryd.func19, Tryd.ntmps19
    go_wp2_with fail
    refine (CC.out _).mono ?_
    rintro e w1 ⟨rfl, hb1⟩
    have B1 : Hid (Below w.heap.size w w1) := over BX.out.1 hb1
    clear hb1
    go_wp2
    go_ret2
    exact refused HE.out (RR.out.later HJ.out B1.out) B1.out
end
end Go.Proofs.YtmmbkfagchaocaaDoor.mq

namespace Go.Proofs.YtmmbkfagchaocaaDoor.ss
open Go.RowKit Go.PlainAid
open Go.Proofs.YtmmbkfagchaocaaDoor.pl Go.Proofs.YtmmbkfagchaocaaDoor.pi Go.Proofs.YtmmbkfagchaocaaDoor.pj Go.Proofs.YtmmbkfagchaocaaDoor.rf Go.Proofs.YtmmbkfagchaocaaDoor.ca Go.Proofs.YtmmbkfagchaocaaDoor.cb Go.Proofs.YtmmbkfagchaocaaDoor.cp Go.Proofs.YtmmbkfagchaocaaDoor.cs Go.Proofs.YtmmbkfagchaocaaDoor.ka Go.Proofs.YtmmbkfagchaocaaDoor.kb Go.Proofs.YtmmbkfagchaocaaDoor.ac Go.Proofs.YtmmbkfagchaocaaDoor.bc Go.Proofs.YtmmbkfagchaocaaDoor.bp Go.Proofs.YtmmbkfagchaocaaDoor.mi Go.Proofs.YtmmbkfagchaocaaDoor.mo Go.Proofs.YtmmbkfagchaocaaDoor.mq Go.Proofs.YtmmbkfagchaocaaDoor.sr
set_option linter.unusedVariables false

def Rose (n : Nat) (w : World) (e : Ending) (w' : World) : Prop := (∃ zs u, e = .returned u ∧ w'.ownsRow w.heap.size 3 1 u zs.length (zs.map (Value.int .i64)) ∧ places zs n = 0) ∧ Below w.heap.size w w'
theorem new_int (W : World) (u : Value) (t : TypeId) : ∀ (j : Nat) (x : Value), [u][j]? = some x → (W.alloc (.cells #[u] t)).cell? (Addr.add ⟨W.heap.size, 0, none⟩ j) = some x := by
  intro j x hx
  rw [show (Addr.add ⟨W.heap.size, 0, none⟩ j) = ⟨W.heap.size, j, none⟩ by cases j <;> simp [Addr.add], World.cell?_alloc_at _ _ _ _ rfl]
  simpa using hx
theorem one_int (x : Int) : ∀ u ∈ [Value.int .i64 x], u.oneCell' = true := by
  intro u hu
  simp only [List.mem_cons, List.not_mem_nil, or_false] at hu
  subst hu; rfl
end Go.Proofs.YtmmbkfagchaocaaDoor.ss

namespace Go.Proofs.YtmmbkfagchaocaaDoor.su
open Go.RowKit Go.PlainAid
open Go.Proofs.YtmmbkfagchaocaaDoor.cp Go.Proofs.YtmmbkfagchaocaaDoor.cs Go.Proofs.YtmmbkfagchaocaaDoor.ca Go.Proofs.YtmmbkfagchaocaaDoor.cb Go.Proofs.YtmmbkfagchaocaaDoor.ga Go.Proofs.YtmmbkfagchaocaaDoor.aa Go.Proofs.YtmmbkfagchaocaaDoor.ab Go.Proofs.YtmmbkfagchaocaaDoor.ad Go.Proofs.YtmmbkfagchaocaaDoor.ae Go.Proofs.YtmmbkfagchaocaaDoor.bc Go.Proofs.YtmmbkfagchaocaaDoor.bd Go.Proofs.YtmmbkfagchaocaaDoor.bh Go.Proofs.YtmmbkfagchaocaaDoor.bi Go.Proofs.YtmmbkfagchaocaaDoor.bj Go.Proofs.YtmmbkfagchaocaaDoor.bt Go.Proofs.YtmmbkfagchaocaaDoor.mi Go.Proofs.YtmmbkfagchaocaaDoor.mp Go.Proofs.YtmmbkfagchaocaaDoor.mq Go.Proofs.YtmmbkfagchaocaaDoor.sa Go.Proofs.YtmmbkfagchaocaaDoor.sd Go.Proofs.YtmmbkfagchaocaaDoor.sm Go.Proofs.YtmmbkfagchaocaaDoor.sr
set_option linter.unusedVariables false

-- what a made source is asked and answers: no refusal, so many hashes, 62 nodes at most for each
def Few (A : List ByteArray × Int × List (Nat × Nat)) (b : Nat) : Prop := A.2.1 = 0 ∧ (ans A).length ≤ b ∧ A.2.2.length ≤ 62 * (ans A).length
theorem few_of (wd : Int) (n : Nat) (hn : n ≤ 4611686018427387904) (lk : Nat → Nat → Nat) {b : Nat} (h : (WL lk 0 n).length ≤ b) :
    Few (told (okw wd) (fow wd) (askS (mds wd n)) [] (WL lk 0 n)) b ∧ (ans (told (okw wd) (fow wd) (askS (mds wd n)) [] (WL lk 0 n))).length = (WL lk 0 n).length := by
  obtain ⟨h1, h2, h3⟩ := made_told wd n hn lk
  have e : (ans (told (okw wd) (fow wd) (askS (mds wd n)) [] (WL lk 0 n))).length = (WL lk 0 n).length := by unfold ans; rw [if_pos h1, h2]
  exact ⟨⟨h1, by rw [e]; exact h, by rw [e]; exact h3⟩, e⟩
theorem chk_same {n : Nat} (hn : n ≤ 4611686018427387904) : chk n n = 0 := by
  unfold chk
  rw [if_neg (by omega), if_neg (by omega)]
theorem few_incl (wd : Int) (n i : Nat) (h : 1 ≤ n) (hn : n ≤ 4611686018427387904) (hi : i < n) :
    Few (incA wd (askS (mds wd n)) n i n []) (cl2 n) ∧ (1 < n → (ans (incA wd (askS (mds wd n)) n i n [])).length ≠ 0) := by
  have hc := cl2_spec h hn
  have hl := incl_len i (cl2 n) 0 n (by omega) (Nat.zero_le _) hi
  have e : incA wd (askS (mds wd n)) n i n [] = told (okw wd) (fow wd) (askS (mds wd n)) [] (WL (lkI i) 0 n) := by
    unfold incA
    rw [if_pos (chk_same hn), if_neg (by omega), Int.toNat_natCast, Int.toNat_natCast]
  rw [e]
  obtain ⟨f1, f2⟩ := few_of wd n hn (lkI i) hl
  refine ⟨f1, fun h1 => ?_⟩
  rw [f2]
  have h2 : 2 ≤ n - 0 := by omega
  have hh := half_lt h2
  by_cases g : i < 0 + half (n - 0)
  · rw [WL_left (by unfold lkI; rw [if_pos ⟨Nat.zero_le _, hi⟩, if_neg (by omega), if_pos g]) h2, WL_take (a := 0 + half (n - 0)) (b := n) (by unfold lkI; rw [if_neg (by omega)])]
    simp
  · rw [WL_right (by unfold lkI; rw [if_pos ⟨Nat.zero_le _, hi⟩, if_neg (by omega), if_neg g]; exact Nat.le_refl _) h2, WL_take (a := 0) (b := 0 + half (n - 0)) (by unfold lkI; rw [if_neg (by omega)])]
    simp
theorem few_cons (wd : Int) (n m : Nat) (h : 1 ≤ n) (hn : n ≤ 4611686018427387904) (hm : m ≤ n) : Few (conA wd (askS (mds wd n)) n m n []) (cl2 n + 1) := by
  have hc := cl2_spec h hn
  unfold conA
  rw [if_pos (chk_same hn), if_neg (by omega)]
  by_cases h0 : m = 0
  · rw [if_pos (by omega)]
    exact ⟨rfl, by unfold ans; simp, by simp⟩
  · rw [if_neg (by omega), Int.toNat_natCast, Int.toNat_natCast]
    exact (few_of wd n hn (lkC m) (cons_len m (cl2 n) 0 n (by omega) (by omega) hm)).1
theorem few_range (wd : Int) (n lo hi : Nat) (h : 1 ≤ n) (hn : n ≤ 4611686018427387904) (h1 : lo < hi) (h2 : hi ≤ n) : Few (rngA wd (askS (mds wd n)) n lo hi n []) (2 * cl2 n) := by
  have hc := cl2_spec h hn
  unfold rngA
  rw [if_pos (chk_same hn), if_neg (by omega), Int.toNat_natCast, Int.toNat_natCast, Int.toNat_natCast]
  exact (few_of wd n hn (lkR lo hi) (out_len lo hi (cl2 n) 0 n (by omega) h1 (by omega) (by omega))).1
theorem few_multi (wd : Int) (n : Nat) (zs : List Int) (h : 1 ≤ n) (hn : n ≤ 4611686018427387904) (hz : places zs n = 0) : Few (mulA wd (askS (mds wd n)) n zs n []) (zs.length * cl2 n) := by
  have hc := cl2_spec h hn
  obtain ⟨z1, z2, z3, z4⟩ := places_ok hz
  unfold mulA
  rw [if_pos (chk_same hn), if_pos hz, Int.toNat_natCast]
  refine (few_of wd n hn (lkM (natL zs)) ?_).1
  have hne : inM (natL zs) 0 n ≠ [] := by
    intro e
    refine (inM_nil _ _ _).1 e ?_
    have h0 := z3 0 (by omega)
    exact ⟨(zs.getD 0 0).toNat, (mem_nat (fun j hj => (z3 j hj).1)).2 ⟨0, by omega, by omega⟩, by omega, by omega⟩
  have hl := multi_len (natL zs) (cl2 n) 0 n (by omega) (by omega) hne
  have h5 : (inM (natL zs) 0 n).length ≤ zs.length := by
    unfold inM
    refine Nat.le_trans (List.length_filter_le _ _) ?_
    unfold natL
    rw [List.length_map]
    exact Nat.le_refl _
  exact Nat.le_trans hl (Nat.mul_le_mul_right _ h5)
end Go.Proofs.YtmmbkfagchaocaaDoor.su

namespace Go.Proofs.YtmmbkfagchaocaaDoor.ls
open Go.RowKit Go.PlainAid
open Go.Proofs.YtmmbkfagchaocaaDoor.pl Go.Proofs.YtmmbkfagchaocaaDoor.pi Go.Proofs.YtmmbkfagchaocaaDoor.pj Go.Proofs.YtmmbkfagchaocaaDoor.rf Go.Proofs.YtmmbkfagchaocaaDoor.cp Go.Proofs.YtmmbkfagchaocaaDoor.cs Go.Proofs.YtmmbkfagchaocaaDoor.ca Go.Proofs.YtmmbkfagchaocaaDoor.cb Go.Proofs.YtmmbkfagchaocaaDoor.ka Go.Proofs.YtmmbkfagchaocaaDoor.kb Go.Proofs.YtmmbkfagchaocaaDoor.ga Go.Proofs.YtmmbkfagchaocaaDoor.aa Go.Proofs.YtmmbkfagchaocaaDoor.ab Go.Proofs.YtmmbkfagchaocaaDoor.ad Go.Proofs.YtmmbkfagchaocaaDoor.ae Go.Proofs.YtmmbkfagchaocaaDoor.ac Go.Proofs.YtmmbkfagchaocaaDoor.tb Go.Proofs.YtmmbkfagchaocaaDoor.bc Go.Proofs.YtmmbkfagchaocaaDoor.bd Go.Proofs.YtmmbkfagchaocaaDoor.bh Go.Proofs.YtmmbkfagchaocaaDoor.bi Go.Proofs.YtmmbkfagchaocaaDoor.bj Go.Proofs.YtmmbkfagchaocaaDoor.bn Go.Proofs.YtmmbkfagchaocaaDoor.bp Go.Proofs.YtmmbkfagchaocaaDoor.bt Go.Proofs.YtmmbkfagchaocaaDoor.mi Go.Proofs.YtmmbkfagchaocaaDoor.mp Go.Proofs.YtmmbkfagchaocaaDoor.mq Go.Proofs.YtmmbkfagchaocaaDoor.sa Go.Proofs.YtmmbkfagchaocaaDoor.sc Go.Proofs.YtmmbkfagchaocaaDoor.sd Go.Proofs.YtmmbkfagchaocaaDoor.se Go.Proofs.YtmmbkfagchaocaaDoor.sm Go.Proofs.YtmmbkfagchaocaaDoor.sn Go.Proofs.YtmmbkfagchaocaaDoor.sr Go.Proofs.YtmmbkfagchaocaaDoor.ss Go.Proofs.YtmmbkfagchaocaaDoor.su
set_option linter.unusedVariables false

theorem six (w : World) (x0 x1 x2 x3 x4 x5 : Value) (t : TypeId) : (w.alloc (.cells #[x0, x1, x2, x3, x4, x5] t)).cell? ⟨w.heap.size, 0, none⟩ = some x0 ∧ (w.alloc (.cells #[x0, x1, x2, x3, x4, x5] t)).cell? ⟨w.heap.size, 1, none⟩ = some x1 ∧ (w.alloc (.cells #[x0, x1, x2, x3, x4, x5] t)).cell? ⟨w.heap.size, 2, none⟩ = some x2 ∧ (w.alloc (.cells #[x0, x1, x2, x3, x4, x5] t)).cell? ⟨w.heap.size, 3, none⟩ = some x3 ∧ (w.alloc (.cells #[x0, x1, x2, x3, x4, x5] t)).cell? ⟨w.heap.size, 4, none⟩ = some x4 ∧ (w.alloc (.cells #[x0, x1, x2, x3, x4, x5] t)).cell? ⟨w.heap.size, 5, none⟩ = some x5 := by
  refine ⟨?_, ?_, ?_, ?_, ?_, ?_⟩ <;> (rw [World.cell?_alloc_at _ _ _ _ rfl]; rfl)
-- an answer of the program over a made source
def Got (wd : Int) (n : Nat) (sb : Nat) (A : List ByteArray × Int × List (Nat × Nat)) (u : Value) (w0 w : World) : Prop :=
  ∃ base tb F, TJ (mds wd n) sb (.slice none 0 0) base tb F A.2.2 w ∧ w.ownsRow w0.heap.size 9 1 u (ans A).length ((ans A).map Value.string) ∧ Below w0.heap.size w0 w
theorem Got.asked {wd : Int} {n sb : Nat} {A : List ByteArray × Int × List (Nat × Nat)} {u : Value} {w0 w : World} (h : Got wd n sb A u w0 w) : ∃ a c, w.cell? ⟨sb, 6, none⟩ = some (.slice a A.2.2.length c) := by
  obtain ⟨base, tb, F, ht, _, _⟩ := h
  obtain ⟨av, hs⟩ := ht.j
  obtain ⟨a, c, e⟩ := own_formS hs.own
  exact ⟨a, c, by rw [← e]; exact hs.q.o.cells.2.2.2.2.2.2⟩
theorem Got.form {wd : Int} {n sb : Nat} {A : List ByteArray × Int × List (Nat × Nat)} {u : Value} {w0 w : World} (h : Got wd n sb A u w0 w) : ∃ a c, u = .slice a (ans A).length c := by
  obtain ⟨base, tb, F, _, ho, _⟩ := h
  exact own_formS ho
-- between the law's four questions: the shape's box, the reader's box
structure Md (wd : Int) (n : Nat) (x1 x2 x3 x4 : Int) (v : Value) (bx rb tb : Nat) (w0 w : World) : Prop where
  t : T7 w
  b : Below w0.heap.size w0 w
  c1 : w.cell? ⟨bx, 1, none⟩ = some (.int .i64 x1)
  c2 : w.cell? ⟨bx, 2, none⟩ = some (.int .i64 x2)
  c3 : w.cell? ⟨bx, 3, none⟩ = some (.int .i64 x3)
  c4 : w.cell? ⟨bx, 4, none⟩ = some (.int .i64 x4)
  c5 : w.cell? ⟨bx, 5, none⟩ = some v
  r : w.heap[rb]? = some (.cells #[.int .i64 wd, .int .i64 n, .func (.func 56) #[.pointer (some ⟨tb, 0, none⟩)] #[]] 48 (0, 0))
  k : w0.heap.size ≤ rb ∧ bx ≠ rb
theorem Md.goes {wd : Int} {n : Nat} {x1 x2 x3 x4 : Int} {v : Value} {bx rb tb : Nat} {w0 w w' : World} {F F' : Nat → Prop} (h : Md wd n x1 x2 x3 x4 v bx rb tb w0 w) (hg : Goes F w F' w') (h1 : ¬ F bx) (h2 : ¬ F rb) (h3 : ∀ b, F b → w0.heap.size ≤ b) (h4 : ∀ b, F b → 6 ≤ b) : Md wd n x1 x2 x3 x4 v bx rb tb w0 w' :=
  ⟨T7.keep h.t hg.1 h4, h.b.trans (hg.1.below h3 h.b.size), hg.cell h.c1 h1, hg.cell h.c2 h1, hg.cell h.c3 h1, hg.cell h.c4 h1, hg.cell h.c5 h1, (hg.1.block rb (Array.getElem?_eq_some_iff.1 h.r).1 h2).trans h.r, h.k⟩
end Go.Proofs.YtmmbkfagchaocaaDoor.ls
